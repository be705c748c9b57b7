/-
  append onto a row of the call's own ('Own'), the source nil, empty or not ('Sl'): laws for the walk, in the words of XWords. Nothing of the program stands here.
-/
import Derived.Test.YtbbgdcnnacakjaaDoorWords
import Derived.Maps.AppendAt
import Derived.Deep.RegionLaw
import Derived.RegionTactic
import Derived.OwnWalk
namespace Go.Proofs.YtbbgdcnnacakjaaDoor
open Go.RowKit

/-- The block that a slice's address lies in, as a list. -/
def blks : Option Addr → List Nat
  | none => []
  | some a => [a.block]
@[simp] theorem blks_none : blks none = [] := rfl
@[simp] theorem blks_some (a : Addr) : blks (some a) = [a.block] := rfl

/-- The slice owns its row: from its block's head on. -/
def Own (w : World) (t : TypeId) (A : Option Addr) (n c : Nat) (xs : List Value) : Prop := w.ownsRow 0 t 1 (.slice A n c) n xs
section
variable {w w' : World} {t : TypeId} {A : Option Addr} {n c : Nat} {xs : List Value}
theorem Own.nil (w : World) (t : TypeId) : Own w t none 0 0 [] := ⟨rfl, .inl ⟨rfl, rfl⟩⟩
theorem Own.len (h : Own w t A n c xs) : xs.length = n := by have := h.1; omega
theorem Own.sl (h : Own w t A n c xs) : Sl w A n xs := Sl.of_own h
theorem Own.drew (h : Own w t A n c xs) : Own w.drew t A n c xs := h
theorem Own.drewN (h : Own w t A n c xs) (k : Nat) : Own (w.drewN k) t A n c xs := h
theorem Own.only {rs : List Nat} (h : Own w t A n c xs) (o : Only rs w w') (hd : ∀ k ∈ blks A, k ∉ rs) : Own w' t A n c xs :=
  own_only h o (fun k hk => hd k (by
    cases A with
    | none => cases hk
    | some a => simp [Value.ownBlock] at hk; simp [hk]))
theorem Own.keep (h : Own w t A n c xs) (o : Only [] w w') : Own w' t A n c xs := h.only o (fun _ _ hm => by cases hm)
theorem Own.alloc (h : Own w t A n c xs) (o : Obj) : Own (w.alloc o) t A n c xs := h.keep ((Only.refl _ _).alloc o)
theorem Own.bk (h : Own w t A n c xs) {k : Nat} (hk : k ∈ blks A) : ∃ cur, Bk w k t cur := by
  refine own_bk h ?_
  cases A with
  | none => cases hk
  | some a => simp at hk; simp [Value.ownBlock, hk]
theorem Own.lt (h : Own w t A n c xs) {k : Nat} (hk : k ∈ blks A) : k < w.heap.size := by
  obtain ⟨cur, hc⟩ := h.bk hk
  exact hc.lt
theorem Own.ne {g : Nat} {t' : TypeId} {cs : Array Value} (h : Own w t A n c xs) (hg : Bk w g t' cs) (hne : t ≠ t') : g ∉ blks A := by
  intro hm
  obtain ⟨cur, hc⟩ := h.bk hm
  exact hc.ne hg hne rfl
theorem Own.setFar (h : Own w t A n c xs) {p : Addr} (hp : p.block ∉ blks A) (u : Value) : Own (w.setCell p u) t A n c xs :=
  h.only (rs := [p.block]) ((Only.refl _ _).setCell (.inl (by simp)) u) (fun k hk hm => by simp at hm; subst hm; exact hp hk)
theorem Own.cap (h : Own w t A n c xs) : n ≤ c := by
  rcases h.2 with ⟨hv, h0⟩ | ⟨g, cap, cur, hv, _, _, hc, _⟩
  · simp only [Value.slice.injEq] at hv; omega
  · simp only [Value.slice.injEq] at hv; omega
theorem Own.addr (h : Own w t A n c xs) {ad : Addr} (hA : A = some ad) : ∃ g, ad = ⟨g, 0, none⟩ := by
  subst hA
  rcases h.2 with ⟨hv, h0⟩ | ⟨g, cap, cur, hv, _⟩
  · cases hv
  · exact ⟨g, by simp only [Value.slice.injEq, Option.some.injEq] at hv; exact hv.1⟩
end

section
variable {P : Program} {w : World}
theorem run_append_none' (base : Nat) (t ty e : TypeId) (i : TypeInfo) (size : Nat) (ht : P.underlying t = some (.slice e)) (hi : P.info? e = some i)
    (v : Value) (n : Nat) (xs : List Value) (hown : w.ownsRow base e size v n xs) (c : Nat) : (Builtin.append_ #[t, t] ty #[v, .slice none 0 c]).run P w = .ok v w := by
  rcases hown.2 with ⟨rfl, rfl⟩ | ⟨g, cap, cur, rfl, _, _, hnc, _⟩
  · simp [Builtin.append_, run_underlying ht, sizeOf, typeInfo, hi, Builtin.lenOf, Builtin.firstCells]
  · simp [Builtin.append_, run_underlying ht, sizeOf, typeInfo, hi, Builtin.lenOf, Builtin.firstCells, hnc, storeCells]

/-- The law. -/
theorem run_append_sl (t ty e : TypeId) (i : TypeInfo) (z : Value) (bytes : Nat) (ht : P.underlying t = some (.slice e)) (hi : P.info? e = some i) (hz : i.zero = some z)
    (hsize : i.size = 1) (hby : i.bytes = bytes) (hzs : z.cells.size = 1) (A : Option Addr) (n c : Nat) (xs : List Value) (hown : Own w e A n c xs)
    (A2 : Option Addr) (m c2 : Nat) (news : List Value) (hr : Sl w A2 m news) (h1 : ∀ u ∈ news, u.oneCell' = true) (h63 : n + m ≤ maxLen) (hbytes : (n + m) * bytes ≤ 140737488355328) :
    ∃ A' c' w', (Builtin.append_ #[t, t] ty #[.slice A n c, .slice A2 m c2]).run P w = .ok (.slice A' (n + m) c') w' ∧ Own w' e A' (n + m) c' (xs ++ news) ∧ Only (blks A) w w' ∧
      (∀ k ∈ blks A', k ∈ blks A ∨ w.heap.size ≤ k) := by
  have nothing : m = 0 → news = [] := fun h => List.eq_nil_of_length_eq_zero (by have := hr.len; omega)
  cases A2 with
  | none =>
    have hm : m = 0 := by
      rcases Nat.eq_zero_or_pos m with h0 | h0
      · exact h0
      · obtain ⟨ad, h, _⟩ := hr.2 h0
        cases h
    subst hm
    rw [nothing rfl]
    exact ⟨A, c, w, run_append_none' 0 t ty e i 1 ht hi _ n xs hown c2, by simpa using hown, Only.refl _ _, fun k hk => .inl hk⟩
  | some ad =>
    have hcells : ∀ j u, news[j]? = some u → w.cell? (ad.add j) = some u := by
      intro j u hu
      rcases Nat.eq_zero_or_pos m with h0 | h0
      · rw [nothing h0] at hu
        simp at hu
      · obtain ⟨ad', h, hc⟩ := hr.2 h0
        injection h with h
        subst h
        exact hc j u hu
    obtain ⟨v', w', hrun, h2, h3, h4, h5⟩ := run_append_own_at (P := P) w 0 t ty e i z 1 bytes ht hi hz hsize hby hzs (by omega) _ n xs hown ad m c2 news (by have := hr.len; omega) hcells h1 h63 hbytes (Nat.zero_le _)
    have hform : ∃ A' c', v' = .slice A' (n + m) c' := by
      rcases h2.2 with ⟨rfl, h0⟩ | ⟨g, cap, cur, rfl, _⟩
      · exact ⟨none, 0, by rw [h0]⟩
      · exact ⟨_, _, rfl⟩
    obtain ⟨A', c', rfl⟩ := hform
    refine ⟨A', c', w', hrun, h2, ?_, ?_⟩
    · have := Only.of_grown h3
      cases A with
      | none => simpa [Value.ownBlock] using this
      | some a => simpa [Value.ownBlock] using this
    · intro k hk
      cases A' with
      | none => cases hk
      | some a' =>
        simp only [blks_some, List.mem_singleton] at hk
        subst hk
        rcases h5 with h5 | h5
        · left
          cases A with
          | none => simp [Value.ownBlock] at h5
          | some a => simp [Value.ownBlock] at h5; simp [h5]
        · right
          simp [Value.ownBlock] at h5
          omega

theorem wp_append_sl {o : Oper} {a : Act} {K : Act → World → Prop} {Q : Exit → Act → World → Prop} (s x : Operand) (t : TypeId)
    (ho : o.op = .call { callee := .builtin .append, args := #[s, x], argTypes := #[t, t] }) (e : TypeId) (i : TypeInfo) (z : Value) (bytes : Nat) (ht : P.underlying t = some (.slice e)) (hi : P.info? e = some i)
    (hz : i.zero = some z) (hsize : i.size = 1) (hby : i.bytes = bytes) (hzs : z.cells.size = 1) (A : Option Addr) (n c : Nat) (xs : List Value) (hs : a.eval s = .slice A n c) (hown : Own w e A n c xs)
    (A2 : Option Addr) (m c2 : Nat) (news : List Value) (hx : a.eval x = .slice A2 m c2) (hr : Sl w A2 m news) (h1 : ∀ u ∈ news, u.oneCell' = true) (h63 : n + m ≤ maxLen) (hbytes : (n + m) * bytes ≤ 140737488355328)
    (h : ∀ A' c' w', Own w' e A' (n + m) c' (xs ++ news) → Only (blks A) w w' → (∀ k ∈ blks A', k ∈ blks A ∨ w.heap.size ≤ k) → K (a.put o.dst (.slice A' (n + m) c')) w') : o.wp P a w K Q := by
  obtain ⟨A', c', w', hrun, h2, h3, h4⟩ := run_append_sl (P := P) t o.type e i z bytes ht hi hz hsize hby hzs A n c xs hown A2 m c2 news hr h1 h63 hbytes
  unfold Oper.wp execOp
  simp only [ho, resolve, invoke, builtin, Sem.run_bind, Sem.run_pure, Result.andThen_ok, List.map_toArray, List.map_cons, List.map_nil, hs, hx, hrun]
  exact h A' c' w' h2 h3 h4

theorem wpList_append_sl {ops : Array Oper} {rest : List Oper} {o : Oper} {a : Act} {Q : Exit → Act → World → Prop} (hgd : o.guard = none) (s x : Operand) (t : TypeId)
    (ho : o.op = .call { callee := .builtin .append, args := #[s, x], argTypes := #[t, t] }) (e : TypeId) (i : TypeInfo) (z : Value) (bytes : Nat) (ht : P.underlying t = some (.slice e)) (hi : P.info? e = some i)
    (hz : i.zero = some z) (hsize : i.size = 1) (hby : i.bytes = bytes) (hzs : z.cells.size = 1) (A : Option Addr) (n c : Nat) (xs : List Value) (hs : a.eval s = .slice A n c) (hown : Own w e A n c xs)
    (A2 : Option Addr) (m c2 : Nat) (news : List Value) (hx : a.eval x = .slice A2 m c2) (hr : Sl w A2 m news) (h1 : ∀ u ∈ news, u.oneCell' = true) (h63 : n + m ≤ maxLen) (hbytes : (n + m) * bytes ≤ 140737488355328)
    (h : ∀ A' c' w', Own w' e A' (n + m) c' (xs ++ news) → Only (blks A) w w' → (∀ k ∈ blks A', k ∈ blks A ∨ w.heap.size ≤ k) → wpList P ops Q rest (a.put o.dst (.slice A' (n + m) c')) w') : wpList P ops Q (o :: rest) a w :=
  wpList_plain hgd fun _ hK => wp_append_sl s x t ho e i z bytes ht hi hz hsize hby hzs A n c xs hs hown A2 m c2 news hx hr h1 h63 hbytes fun A' c' w' h2 h3 h4 => hK _ _ (h A' c' w' h2 h3 h4)

theorem step_append_sl {ops : Array Oper} {o : Oper} {a : Act} {K : Act → World → Prop} {Q : Exit → Act → World → Prop} {E : Prop} (hgd : o.guard = none) (s x : Operand) (t : TypeId)
    (ho : o.op = .call { callee := .builtin .append, args := #[s, x], argTypes := #[t, t] }) (e : TypeId) (i : TypeInfo) (z : Value) (bytes : Nat) (ht : P.underlying t = some (.slice e)) (hi : P.info? e = some i)
    (hz : i.zero = some z) (hsize : i.size = 1) (hby : i.bytes = bytes) (hzs : z.cells.size = 1) (A : Option Addr) (n c : Nat) (xs : List Value) (hs : a.eval s = .slice A n c) (hown : Own w e A n c xs)
    (A2 : Option Addr) (m c2 : Nat) (news : List Value) (hx : a.eval x = .slice A2 m c2) (hr : Sl w A2 m news) (h1 : ∀ u ∈ news, u.oneCell' = true) (h63 : n + m ≤ maxLen) (hbytes : (n + m) * bytes ≤ 140737488355328)
    (h : ∀ A' c' w', Own w' e A' (n + m) c' (xs ++ news) → Only (blks A) w w' → (∀ k ∈ blks A', k ∈ blks A ∨ w.heap.size ≤ k) → K (a.put o.dst (.slice A' (n + m) c')) w') :
    if Region.wanted o (yielded ops a.tmps) = true then Oper.wp P o a w K Q else E := by
  have hw : Region.wanted o (yielded ops a.tmps) = true := by simp [Region.wanted, hgd]
  rw [if_pos hw]
  exact wp_append_sl s x t ho e i z bytes ht hi hz hsize hby hzs A n c xs hs hown A2 m c2 news hx hr h1 h63 hbytes h

/-- make of an empty row with room. -/
theorem run_make_sl (t e : TypeId) (i : TypeInfo) (z : Value) (h1 : P.underlying t = some (.slice e)) (h2 : P.info? e = some i) (h3 : i.zero = some z) (h4 : i.size = 1)
    (kl kc : IntKind) (n : Nat) (b2 : i.bytes * n ≤ 281474976710656) (b3 : n ≤ maxLen) :
    ∃ w', (Instr.makeSlice t (.int kl 0) (.int kc (n : Int))).run P w = .ok (.slice (some ⟨w.heap.size, 0, none⟩) 0 n) w' ∧ Own w' e (some ⟨w.heap.size, 0, none⟩) 0 n [] ∧ Only [] w w' := by
  obtain ⟨w', hrun, r1, r2⟩ := run_make_own (P := P) w 0 t e i z 1 h1 h2 h3 h4 kl kc n b2 b3 (Nat.zero_le _)
  exact ⟨w', hrun, r1, by simpa using Only.of_grown r2⟩
end
end Go.Proofs.YtbbgdcnnacakjaaDoor
