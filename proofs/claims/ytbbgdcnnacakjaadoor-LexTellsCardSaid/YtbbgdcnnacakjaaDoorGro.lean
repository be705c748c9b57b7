/-
  A slice of the call's own that may begin anywhere in its block, and grows ('Gro'): what is left of a row behind 's = s[k:]', appended to again. Plain theorems: nothing of the program stands here.
-/
import Derived.Test.YtbbgdcnnacakjaaDoorOwnMore
import Derived.ArgAppend
import Derived.Deep.Upon
namespace Go.Proofs.YtbbgdcnnacakjaaDoor
open Go.RowKit

/-- The slice reads as xs; all cells up to its capacity are there and may be written. -/
structure Gro (w : World) (A : Option Addr) (n c : Nat) (xs : List Value) : Prop where
  len : xs.length = n
  cap : n ≤ c
  max : c ≤ maxLen
  lt : ∀ k ∈ blks A, k < w.heap.size
  at_ : 0 < c → ∃ g o, A = some ⟨g, o, none⟩ ∧ (∀ j u, xs[j]? = some u → w.cell? ⟨g, o + j, none⟩ = some u) ∧ ∀ j, j < c → (w.cell? ⟨g, o + j, none⟩).isSome = true ∧ w.frozen? ⟨g, o + j, none⟩ = false
section
variable {w w' : World} {A : Option Addr} {n c : Nat} {xs : List Value} {rs : List Nat}
theorem Gro.nil (w : World) : Gro w none 0 0 [] := ⟨rfl, Nat.le_refl _, Nat.zero_le _, (fun _ hk => nomatch hk), fun h => absurd h (Nat.lt_irrefl 0)⟩
theorem Gro.sl (h : Gro w A n c xs) : Sl w A n xs := by
  refine ⟨h.len, fun hn => ?_⟩
  obtain ⟨g, o, e, hc, _⟩ := h.at_ (by have := h.cap; omega)
  exact ⟨_, e, fun j u hu => by rw [add_none]; exact hc j u hu⟩
theorem Gro.only (h : Gro w A n c xs) (o : Only rs w w') (hd : ∀ k ∈ blks A, k ∉ rs) : Gro w' A n c xs := by
  refine ⟨h.len, h.cap, h.max, fun k hk => Nat.lt_of_lt_of_le (h.lt k hk) o.size, fun hc => ?_⟩
  obtain ⟨g, off, rfl, h1, h2⟩ := h.at_ hc
  have hg : g < w.heap.size := h.lt g (by simp)
  have hn : g ∉ rs := hd g (by simp)
  exact ⟨g, off, rfl, fun j u hu => (o.cell (p := ⟨g, off + j, none⟩) hg hn).trans (h1 j u hu), fun j hj => by rw [o.cell (p := ⟨g, off + j, none⟩) hg hn, o.frozen (p := ⟨g, off + j, none⟩) hg hn]; exact h2 j hj⟩
theorem Gro.keep (h : Gro w A n c xs) (o : Only [] w w') : Gro w' A n c xs := h.only o (fun _ _ hm => by cases hm)
theorem Gro.drew (h : Gro w A n c xs) : Gro w.drew A n c xs := h.keep (Only.refl _ _).drew
theorem Gro.alloc (h : Gro w A n c xs) (o : Obj) : Gro (w.alloc o) A n c xs := h.keep ((Only.refl _ _).alloc o)
theorem Gro.of_own {t : TypeId} (h : Own w t A n c xs) : Gro w A n c xs := by
  have hl := h.len
  have hc := h.cap
  rcases h.2 with ⟨hv, h0⟩ | ⟨g, cap, cur, hv, _, hg, h1, h2, h3, h4⟩
  · simp only [Value.slice.injEq] at hv
    obtain ⟨rfl, _, rfl⟩ := hv
    subst h0
    obtain rfl : xs = [] := List.eq_nil_of_length_eq_zero hl
    exact Gro.nil w
  · simp only [Value.slice.injEq] at hv
    obtain ⟨rfl, _, rfl⟩ := hv
    have hlt := lt_of_block hg
    refine ⟨hl, hc, h2, fun k hk => by simp at hk; subst hk; exact hlt, fun _ => ⟨g, 0, rfl, fun j u hu => ?_, fun j hj => ?_⟩⟩
    · rw [Nat.zero_add, cell_of_row w g j cur t (0, 0) hg]
      rw [← h4, List.getElem?_take] at hu
      split at hu
      · simpa using hu
      · cases hu
    · rw [Nat.zero_add, cell_of_row w g j cur t (0, 0) hg, frozen_of_row w g j cur t hg, Array.getElem?_eq_getElem (by omega)]
      exact ⟨rfl, rfl⟩
theorem blks_cut (A : Option Addr) (c k : Nat) : blks (if c = k then A else A.map (·.add k)) = blks A := by
  split
  · rfl
  · cases A with
    | none => rfl
    | some a => simp [add_block]
/-- What is left behind the first k. -/
theorem Gro.cut (h : Gro w A n c xs) {k : Nat} (hk : k ≤ n) : Gro w (if c = k then A else A.map (·.add k)) (n - k) (c - k) (xs.drop k) := by
  have hc := h.cap
  refine ⟨by rw [List.length_drop, h.len], by omega, by have := h.max; omega, fun x hx => h.lt x (by rwa [blks_cut] at hx), fun hp => ?_⟩
  rw [if_neg (by omega)]
  obtain ⟨g, o, rfl, h1, h2⟩ := h.at_ (by omega)
  refine ⟨g, o + k, by simp [add_none], fun j u hu => ?_, fun j hj => ?_⟩
  · rw [List.getElem?_drop] at hu
    rw [Nat.add_assoc]
    exact h1 _ u hu
  · rw [Nat.add_assoc]
    exact h2 _ (by omega)
end

theorem setCells_only (w : World) (g o : Nat) (vs : List Value) : Only [g] w (w.setCells g o vs) := by
  have tape : ∀ (vs : List Value) (o : Nat) (w : World), (w.setCells g o vs).tape = w.tape := by
    intro vs
    induction vs with
    | nil => intro o w; rfl
    | cons v vs ih => intro o w; exact (ih _ _).trans rfl
  have size : ∀ (vs : List Value) (o : Nat) (w : World), (w.setCells g o vs).heap.size = w.heap.size := by
    intro vs
    induction vs with
    | nil => intro o w; rfl
    | cons v vs ih => intro o w; exact (ih _ _).trans (by simp [World.setCell])
  exact ⟨World.os_setCells w g o vs, tape vs o w, World.output_setCells w g o vs, by rw [size]; exact Nat.le_refl _, fun i hi hn => World.heap_setCells_other w g o vs hi (fun e => hn (by simp [e]))⟩

section
variable {P : Program} {w : World}
/-- The law. -/
theorem run_append_gro (t ty e : TypeId) (i : TypeInfo) (z : Value) (bytes : Nat) (ht : P.underlying t = some (.slice e)) (hi : P.info? e = some i) (hz : i.zero = some z)
    (hsize : i.size = 1) (hby : i.bytes = bytes) (hzs : z.cells.size = 1) (A : Option Addr) (n c : Nat) (xs : List Value) (hown : Gro w A n c xs)
    (A2 : Option Addr) (m c2 : Nat) (news : List Value) (hr : Sl w A2 m news) (h1 : ∀ u ∈ news, u.oneCell' = true) (h63 : n + m ≤ maxLen) (hbytes : (n + m) * bytes ≤ 140737488355328) :
    ∃ A' c' w', (Builtin.append_ #[t, t] ty #[.slice A n c, .slice A2 m c2]).run P w = .ok (.slice A' (n + m) c') w' ∧ Gro w' A' (n + m) c' (xs ++ news) ∧ Only (blks A) w w' ∧
      (∀ k ∈ blks A', k ∈ blks A ∨ w.heap.size ≤ k) := by
  have hxl := hown.len
  have hnl := hr.len
  rcases Nat.eq_zero_or_pos m with hm | hm
  · subst hm
    obtain rfl : news = [] := List.eq_nil_of_length_eq_zero hnl
    have hs : Src P i.size t (.slice A2 0 c2) 0 [] w := by
      cases A2 with
      | none => exact Src.ofNil w ht c2
      | some ad => exact Src.ofSlice w ht ad 0 c2 [] (by simp) (fun j u hu => by simp at hu) (fun u hu => by cases hu)
    exact ⟨A, c, w, run_append_nothing w t t ty e i ht hi A n c hown.cap _ hs, by simpa using hown, Only.refl _ _, fun k hk => .inl hk⟩
  · obtain ⟨ad, rfl, hcells⟩ := hr.2 hm
    have small : n + m ≤ 9223372036854775807 := by unfold maxLen at h63; omega
    by_cases hroom : n + m ≤ c
    · obtain ⟨g, o, rfl, hc1, hc2⟩ := hown.at_ (by omega)
      have hrun := run_append_room_cells (P := P) w t ty e i ht hi g o n c ad m c2 news (by rw [hsize]; omega) hcells h1 hroom (fun j hj => by rw [hsize, Nat.mul_one, Nat.add_assoc]; exact (hc2 _ (by omega)).1) (fun j hj => by rw [hsize, Nat.mul_one, Nat.add_assoc]; exact (hc2 _ (by omega)).2)
      rw [hsize, Nat.mul_one] at hrun
      have hO := setCells_only w g (o + n) news
      have hsome : ∀ j, j < news.length → (w.cell? ⟨g, o + n + j, none⟩).isSome = true := fun j hj => by rw [Nat.add_assoc]; exact (hc2 _ (by omega)).1
      refine ⟨_, c, _, hrun, ⟨by rw [List.length_append]; omega, hroom, hown.max, fun k hk => Nat.lt_of_lt_of_le (hown.lt k hk) hO.size, fun _ => ⟨g, o, rfl, fun j u hu => ?_, fun j hj => ⟨?_, ?_⟩⟩⟩, by simpa using hO, fun k hk => .inl hk⟩
      · by_cases hj : j < n
        · rw [World.cell?_setCells_out g _ _ _ _ (fun _ _ => .inl (by show o + j < o + n; omega))]
          rw [List.getElem?_append_left (by omega)] at hu
          exact hc1 j u hu
        · rw [List.getElem?_append_right (by omega)] at hu
          have hlt : j - xs.length < news.length := (List.getElem?_eq_some_iff.1 hu).1
          have := World.cell?_setCells_in g news (o + n) w hsome (j - xs.length) hlt
          rw [show o + n + (j - xs.length) = o + j by omega] at this
          rw [this, ← hu, List.getElem?_eq_getElem hlt]
      · by_cases hj' : j < n
        · rw [World.cell?_setCells_out g _ _ _ _ (fun _ _ => .inl (by show o + j < o + n; omega))]
          exact (hc2 j hj).1
        · by_cases hj2 : j - n < news.length
          · have := World.cell?_setCells_in g news (o + n) w hsome (j - n) hj2
            rw [show o + n + (j - n) = o + j by omega] at this
            rw [this]
            rfl
          · rw [World.cell?_setCells_out g _ _ _ _ (fun _ _ => .inr (by show o + n + news.length ≤ o + j; omega))]
            exact (hc2 j hj).1
      · rw [World.frozen?_setCells]
        exact (hc2 j hj).2
    · have key : ∃ v' w', (Builtin.append_ #[t, t] ty #[.slice A n c, .slice (some ad) m c2]).run P w = .ok v' w' ∧ w'.ownsRow w.heap.size e 1 v' (n + m) (xs ++ news) ∧ w.grownBy w' none := by
        cases A with
        | some b =>
          refine run_append_arg_grows (P := P) w t ty e i z 1 bytes ht hi hz hsize hby hzs (by omega) b n c xs (by omega) (fun j u hu => ?_) ad m c2 news (by omega) hcells (by omega) h63 hbytes
          obtain ⟨b', hb, hcb⟩ := (hown.sl).2 (by have := (List.getElem?_eq_some_iff.1 hu).1; omega)
          injection hb with hb
          subst hb
          exact hcb j u hu
        | none =>
          have hc0 : c = 0 := by
            rcases Nat.eq_zero_or_pos c with h0 | h0
            · exact h0
            · obtain ⟨g, o, he, _⟩ := hown.at_ h0
              cases he
          subst hc0
          have hn0 : n = 0 := by have := hown.cap; omega
          subst hn0
          obtain rfl : xs = [] := List.eq_nil_of_length_eq_zero hxl
          obtain ⟨v', w', hrun, h2, h3, _⟩ := run_append_own (P := P) w w.heap.size t ty e i z 1 bytes ht hi hz hsize hby hzs (by omega) (.slice none 0 0) 0 [] (World.ownsRow_nil w _ e 1) ad m c2 news (by omega) hcells h1 h63 hbytes (Nat.le_refl _)
          exact ⟨v', w', hrun, h2, h3⟩
      obtain ⟨v', w', hrun, h2, h3⟩ := key
      have hform : ∃ g c', v' = .slice (some ⟨g, 0, none⟩) (n + m) c' ∧ w.heap.size ≤ g := by
        rcases h2.2 with ⟨rfl, h0⟩ | ⟨g, cap, cur, rfl, hb, _⟩
        · omega
        · exact ⟨_, _, rfl, hb⟩
      obtain ⟨g, c', rfl, hb⟩ := hform
      have hO : Only [] w w' := by simpa using Only.of_grown h3
      refine ⟨_, c', w', hrun, Gro.of_own (own_base h2 (fun k _ => Nat.zero_le _)), hO.mono (fun _ hx => by cases hx), fun k hk => .inr ?_⟩
      simp at hk
      omega

theorem wp_append_gro {o : Oper} {a : Act} {K : Act → World → Prop} {Q : Exit → Act → World → Prop} (s x : Operand) (t : TypeId)
    (ho : o.op = .call { callee := .builtin .append, args := #[s, x], argTypes := #[t, t] }) (e : TypeId) (i : TypeInfo) (z : Value) (bytes : Nat) (ht : P.underlying t = some (.slice e)) (hi : P.info? e = some i)
    (hz : i.zero = some z) (hsize : i.size = 1) (hby : i.bytes = bytes) (hzs : z.cells.size = 1) (A : Option Addr) (n c : Nat) (xs : List Value) (hs : a.eval s = .slice A n c) (hown : Gro w A n c xs)
    (A2 : Option Addr) (m c2 : Nat) (news : List Value) (hx : a.eval x = .slice A2 m c2) (hr : Sl w A2 m news) (h1 : ∀ u ∈ news, u.oneCell' = true) (h63 : n + m ≤ maxLen) (hbytes : (n + m) * bytes ≤ 140737488355328)
    (h : ∀ A' c' w', Gro w' A' (n + m) c' (xs ++ news) → Only (blks A) w w' → (∀ k ∈ blks A', k ∈ blks A ∨ w.heap.size ≤ k) → K (a.put o.dst (.slice A' (n + m) c')) w') : o.wp P a w K Q := by
  obtain ⟨A', c', w', hrun, h2, h3, h4⟩ := run_append_gro (P := P) t o.type e i z bytes ht hi hz hsize hby hzs A n c xs hown A2 m c2 news hr h1 h63 hbytes
  unfold Oper.wp execOp
  simp only [ho, resolve, invoke, builtin, Sem.run_bind, Sem.run_pure, Result.andThen_ok, List.map_toArray, List.map_cons, List.map_nil, hs, hx, hrun]
  exact h A' c' w' h2 h3 h4
theorem wpList_append_gro {ops : Array Oper} {rest : List Oper} {o : Oper} {a : Act} {Q : Exit → Act → World → Prop} (hgd : o.guard = none) (s x : Operand) (t : TypeId)
    (ho : o.op = .call { callee := .builtin .append, args := #[s, x], argTypes := #[t, t] }) (e : TypeId) (i : TypeInfo) (z : Value) (bytes : Nat) (ht : P.underlying t = some (.slice e)) (hi : P.info? e = some i)
    (hz : i.zero = some z) (hsize : i.size = 1) (hby : i.bytes = bytes) (hzs : z.cells.size = 1) (A : Option Addr) (n c : Nat) (xs : List Value) (hs : a.eval s = .slice A n c) (hown : Gro w A n c xs)
    (A2 : Option Addr) (m c2 : Nat) (news : List Value) (hx : a.eval x = .slice A2 m c2) (hr : Sl w A2 m news) (h1 : ∀ u ∈ news, u.oneCell' = true) (h63 : n + m ≤ maxLen) (hbytes : (n + m) * bytes ≤ 140737488355328)
    (h : ∀ A' c' w', Gro w' A' (n + m) c' (xs ++ news) → Only (blks A) w w' → (∀ k ∈ blks A', k ∈ blks A ∨ w.heap.size ≤ k) → wpList P ops Q rest (a.put o.dst (.slice A' (n + m) c')) w') : wpList P ops Q (o :: rest) a w :=
  wpList_plain hgd fun _ hK => wp_append_gro s x t ho e i z bytes ht hi hz hsize hby hzs A n c xs hs hown A2 m c2 news hx hr h1 h63 hbytes fun A' c' w' h2 h3 h4 => hK _ _ (h A' c' w' h2 h3 h4)
end
end Go.Proofs.YtbbgdcnnacakjaaDoor
