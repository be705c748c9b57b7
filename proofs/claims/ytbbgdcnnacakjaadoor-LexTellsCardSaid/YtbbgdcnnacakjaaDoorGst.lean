/-
  Slices of structs of k one-cell fields, whatever the type: what a slice reads as (Gr), a slice of one's own (Gw), append, cuts. The cells stand one behind the other.
-/
import Derived.Test.YtbbgdcnnacakjaaDoorAppend
import Derived.Test.YtbbgdcnnacakjaaDoorRelOps
namespace Go.Proofs.YtbbgdcnnacakjaaDoor
open Go.RowKit

theorem add_fld (ad : Addr) (i k : Nat) : (⟨(ad.add i).block, (ad.add i).off + (k + 1), none⟩ : Addr) = ad.add (i + (k + 1)) := by
  rw [← add_add]
  rfl
def One1 (xs : List Value) : Prop := ∀ u ∈ xs, u.oneCell' = true
theorem One1.append {a b : List Value} (h : One1 a) (k : One1 b) : One1 (a ++ b) := fun u hu => (List.mem_append.1 hu).elim (h u) (k u)
theorem One1.take {a : List Value} (h : One1 a) (k : Nat) : One1 (a.take k) := fun u hu => h u (List.mem_of_mem_take hu)
theorem One1.drop {a : List Value} (h : One1 a) (k : Nat) : One1 (a.drop k) := fun u hu => h u (List.mem_of_mem_drop hu)
/-- The slice reads as these cells. -/
def Gr (k : Nat) (w : World) (A : Option Addr) (n : Nat) (xs : List Value) : Prop := xs.length = n * k ∧ (0 < n → ∃ ad, A = some ad ∧ ∀ j u, xs[j]? = some u → w.cell? (ad.add j) = some u)
section
variable {w w' : World} {A : Option Addr} {k n c : Nat} {xs : List Value} {rs : List Nat} {T : TypeId}
theorem Gr.nil (k : Nat) (w : World) (A : Option Addr) : Gr k w A 0 [] := ⟨by simp, fun h => absurd h (by omega)⟩
theorem Gr.at_ (h : Gr k w A n xs) (hn : 0 < n) : ∃ ad, A = some ad ∧ ∀ j u, xs[j]? = some u → w.cell? (ad.add j) = some u := h.2 hn
theorem Gr.only (h : Gr k w A n xs) (o : Only rs w w') (hd : ∀ x ∈ blks A, x ∉ rs) : Gr k w' A n xs :=
  ⟨h.1, fun hn => by
    obtain ⟨ad, rfl, hc⟩ := h.2 hn
    exact ⟨ad, rfl, fun j u hu => o.cellSome (hc j u hu) (by rw [add_block]; exact hd _ (by simp))⟩⟩
theorem Gr.keep (h : Gr k w A n xs) (o : Only [] w w') : Gr k w' A n xs := h.only o (fun _ _ hm => nomatch hm)
theorem Gr.lt (h : Gr k w A n xs) (hn : 0 < xs.length) {x : Nat} (hx : x ∈ blks A) : x < w.heap.size := by
  obtain ⟨ad, rfl, hc⟩ := h.2 (by
    rcases Nat.eq_zero_or_pos n with h0 | h0
    · have := h.1; rw [h0] at this; omega
    · exact h0)
  simp only [blks_some, List.mem_singleton] at hx
  subst hx
  have := block_lt_of_cell (hc 0 (xs[0]'hn) (List.getElem?_eq_getElem _))
  rwa [add_block] at this
theorem Gr.pre (h : Gr k w A n xs) {j : Nat} (hj : j ≤ n) : Gr k w A j (xs.take (j * k)) := by
  refine ⟨by rw [List.length_take, h.1]; exact Nat.min_eq_left (Nat.mul_le_mul_right _ hj), fun hn => ?_⟩
  obtain ⟨ad, e, hc⟩ := h.2 (by omega)
  refine ⟨ad, e, fun i u hu => hc i u ?_⟩
  rw [List.getElem?_take] at hu
  split at hu
  · exact hu
  · cases hu
theorem Gr.cut (h : Gr k w A n xs) {j : Nat} (hj : j ≤ n) (hc : n ≤ c) : Gr k w (if c = j then A else A.map (·.add (j * k))) (n - j) (xs.drop (j * k)) := by
  refine ⟨by rw [List.length_drop, h.1, Nat.sub_mul], fun hn => ?_⟩
  obtain ⟨ad, rfl, hcell⟩ := h.2 (by omega)
  rw [if_neg (by omega)]
  refine ⟨ad.add (j * k), rfl, fun i u hu => ?_⟩
  rw [add_add]
  exact hcell _ u (by rw [← hu, List.getElem?_drop])
theorem Gr.of_bk {g : Nat} {t : TypeId} {cs : List Value} (h : Bk w g t cs.toArray) (hl : cs.length = k) : Gr k w (some ⟨g, 0, none⟩) 1 cs := by
  refine ⟨by omega, fun _ => ⟨_, rfl, fun j u hu => ?_⟩⟩
  rw [add_none, Nat.zero_add, h.cell]
  simpa using hu

/-- A slice of one's own. -/
def Gw (k : Nat) (w : World) (T : TypeId) (A : Option Addr) (n c : Nat) (xs : List Value) : Prop := w.ownsRow 0 T k (.slice A n c) n xs
theorem Gw.nil (k : Nat) (w : World) (T : TypeId) : Gw k w T none 0 0 [] := ⟨by simp, .inl ⟨rfl, rfl⟩⟩
theorem Gw.empty (k : Nat) (w : World) (T : TypeId) : Gw k (w.alloc (.cells #[] T)) T (some ⟨w.heap.size, 0, none⟩) 0 0 [] :=
  ⟨by simp, .inr ⟨w.heap.size, 0, #[], rfl, Nat.zero_le _, heap_alloc_new w _, Nat.le_refl _, Nat.zero_le _, by simp, by simp⟩⟩
theorem Gw.only (h : Gw k w T A n c xs) (o : Only rs w w') (hd : ∀ x ∈ blks A, x ∉ rs) : Gw k w' T A n c xs :=
  own_only h o (fun k hk => hd k (by
    cases A with
    | none => cases hk
    | some a => simp [Value.ownBlock] at hk; simp [hk]))
theorem Gw.keep (h : Gw k w T A n c xs) (o : Only [] w w') : Gw k w' T A n c xs := h.only o (fun _ _ hm => nomatch hm)
theorem Gw.len (h : Gw k w T A n c xs) : xs.length = n * k := h.1
theorem Gw.bk (h : Gw k w T A n c xs) {x : Nat} (hk : x ∈ blks A) : ∃ cur, Bk w x T cur := by
  refine own_bk h ?_
  cases A with
  | none => cases hk
  | some a => simp at hk; simp [Value.ownBlock, hk]
theorem Gw.lt (h : Gw k w T A n c xs) {x : Nat} (hk : x ∈ blks A) : x < w.heap.size := by
  obtain ⟨cur, hc⟩ := h.bk hk
  exact hc.lt
theorem Gw.cap (h : Gw k w T A n c xs) : n ≤ c := by
  rcases h.2 with ⟨hv, h0⟩ | ⟨g, cap, cur, hv, _, _, hc, _⟩
  · simp only [Value.slice.injEq] at hv; omega
  · simp only [Value.slice.injEq] at hv; omega
theorem Gw.none_cap (h : Gw k w T A n c xs) (e : A = none) : c = 0 := by
  subst e
  rcases h.2 with ⟨hv, h0⟩ | ⟨g, cap, cur, hv, _⟩
  · simp only [Value.slice.injEq] at hv; omega
  · simp only [Value.slice.injEq] at hv; cases hv.1
theorem Gw.form (h : Gw k w T A n c xs) (hn : 0 < n) : ∃ g, A = some ⟨g, 0, none⟩ := by
  obtain ⟨g, cap, hv, _, _⟩ := World.ownsRow.form h hn
  exact ⟨g, by injection hv⟩
theorem Gw.reads (h : Gw k w T A n c xs) : Gr k w A n xs := by
  refine ⟨h.1, fun hn => ?_⟩
  obtain ⟨bb, cap, hv, _, _⟩ := World.ownsRow.form h hn
  have hA : A = some ⟨bb, 0, none⟩ := by injection hv
  subst hA
  exact ⟨_, rfl, fun j u hu => World.ownsRow.cells h (g := bb) rfl j u hu⟩
theorem Gw.free {g : Nat} (h : Gw k w T (some ⟨g, 0, none⟩) n c xs) (j : Nat) : w.frozen? ⟨g, j, none⟩ = false := World.ownsRow.frozenAt h _
theorem Gw.set {g : Nat} (h : Gw k w T (some ⟨g, 0, none⟩) n c xs) (j : Nat) (u : Value) : Gw k (w.setCell ⟨g, j, none⟩ u) T (some ⟨g, 0, none⟩) n c (xs.set j u) := (World.ownsRow.stored h j u).1
end
section
variable {P : Program} {w : World}
theorem run_append_gw (k : Nat) (st ty T : TypeId) (i : TypeInfo) (z : Value) (bytes : Nat) (ht : P.underlying st = some (.slice T)) (hi : P.info? T = some i) (hz : i.zero = some z) (hsize : i.size = k) (hby : i.bytes = bytes) (hzs : z.cells.size = k) (hk : 0 < k)
    (A : Option Addr) (n c : Nat) (l : List Value) (h : Gw k w T A n c l) (B : Option Addr) (m d : Nat) (t : List Value) (ht2 : Gr k w B m t) (h1 : One1 t) (h63 : n + m ≤ maxLen) (hbytes : (n + m) * bytes ≤ 140737488355328) :
    ∃ A' c' w', (Builtin.append_ #[st, st] ty #[.slice A n c, .slice B m d]).run P w = .ok (.slice A' (n + m) c') w' ∧ Gw k w' T A' (n + m) c' (l ++ t) ∧ Only (blks A) w w' ∧ ∀ x ∈ blks A', x ∈ blks A ∨ w.heap.size ≤ x := by
  have nothing : m = 0 → t = [] := fun h => List.eq_nil_of_length_eq_zero (by have := ht2.1; rw [h] at this; omega)
  cases B with
  | none =>
    have hm : m = 0 := by
      rcases Nat.eq_zero_or_pos m with h0 | h0
      · exact h0
      · obtain ⟨ad, h, _⟩ := ht2.2 h0
        cases h
    subst hm
    rw [nothing rfl]
    exact ⟨A, c, w, run_append_none' 0 st ty T i k ht hi _ n _ h d, by simpa using h, Only.refl _ _, fun k hk => .inl hk⟩
  | some ad =>
    have hcells : ∀ j u, t[j]? = some u → w.cell? (ad.add j) = some u := by
      intro j u hu
      rcases Nat.eq_zero_or_pos m with h0 | h0
      · rw [nothing h0] at hu
        simp at hu
      · obtain ⟨ad', h, hc⟩ := ht2.2 h0
        injection h with h
        subst h
        exact hc j u hu
    obtain ⟨v', w', hrun, r1, r2, _, r4⟩ := run_append_own_at (P := P) w 0 st ty T i z k bytes ht hi hz hsize hby hzs hk _ n l h ad m d t (by rw [ht2.1]) hcells h1 h63 hbytes (Nat.zero_le _)
    have hform : ∃ A' c', v' = .slice A' (n + m) c' := by
      rcases r1.2 with ⟨rfl, h0⟩ | ⟨g, cap, cur, rfl, _⟩
      · exact ⟨none, 0, by rw [h0]⟩
      · exact ⟨_, _, rfl⟩
    obtain ⟨A', c', rfl⟩ := hform
    refine ⟨A', c', w', hrun, r1, ?_, fun k hk => ?_⟩
    · have := Only.of_grown r2
      cases A with
      | none => simpa [Value.ownBlock] using this
      | some a => simpa [Value.ownBlock] using this
    · cases A' with
      | none => cases hk
      | some a' =>
        simp only [blks_some, List.mem_singleton] at hk
        subst hk
        rcases r4 with r4 | r4
        · left
          cases A with
          | none => simp [Value.ownBlock] at r4
          | some a => simp [Value.ownBlock] at r4; simp [r4]
        · right
          simp [Value.ownBlock] at r4
          omega
/-- append behind an empty row without room: nothing that was there is written. -/
theorem run_append_gw0 (k : Nat) (st ty T : TypeId) (i : TypeInfo) (z : Value) (bytes : Nat) (ht : P.underlying st = some (.slice T)) (hi : P.info? T = some i) (hz : i.zero = some z) (hsize : i.size = k) (hby : i.bytes = bytes) (hzs : z.cells.size = k) (hk : 0 < k)
    (g : Nat) (h : Gw k w T (some ⟨g, 0, none⟩) 0 0 []) (B : Option Addr) (m d : Nat) (t : List Value) (ht2 : Gr k w B m t) (h1 : One1 t) (h63 : m ≤ maxLen) (hbytes : m * bytes ≤ 140737488355328) :
    ∃ A' c' w', (Builtin.append_ #[st, st] ty #[.slice (some ⟨g, 0, none⟩) 0 0, .slice B m d]).run P w = .ok (.slice A' m c') w' ∧ Gw k w' T A' m c' t ∧ Only [] w w' ∧ ∀ x ∈ blks A', x = g ∨ w.heap.size ≤ x := by
  by_cases hm : m = 0
  · subst hm
    obtain rfl : t = [] := List.eq_nil_of_length_eq_zero (by rw [ht2.1]; simp)
    refine ⟨some ⟨g, 0, none⟩, 0, w, ?_, h, Only.refl _ _, fun k hk => .inl (by simpa using hk)⟩
    cases B <;> simp [Builtin.append_, run_underlying ht, sizeOf, typeInfo, hi, Builtin.lenOf, Builtin.firstCells, loadCells, loadCellsFrom, storeCells]
  · obtain ⟨ad, rfl, hcell⟩ := ht2.2 (by omega)
    obtain ⟨v', w', hrun, h2, h3, h4, h5⟩ := run_append_own_at (P := P) w 0 st ty T i z k bytes ht hi hz hsize hby hzs hk _ 0 [] h ad m d t ht2.1 (fun j u hu => hcell j u hu) h1 (by omega) (by simpa using hbytes) (Nat.zero_le _)
    have hg := run_append_grow (P := P) w st ty T i z ht hi hz ⟨g, 0, none⟩ 0 0 [] (by simp) (by intro j v hj; simp at hj) ad m d t (by rw [ht2.1, hsize]) (fun j u hu => hcell j u hu) (by omega) (by unfold maxLen at h63; omega) (by rw [hby]; exact growslice_fits (by omega) (by simpa using hbytes))
    rw [hrun] at hg
    simp only [Nat.zero_add, List.nil_append] at hg h2
    injection hg with hv hw
    subst hv hw
    refine ⟨_, _, _, hrun, h2, ?_, fun k hk => .inr ?_⟩
    · exact (Only.refl [] w).drew.alloc _
    · simp at hk; omega
theorem gives_append_gw0 {R : World → World → Prop} {φ : Value → World → Prop} {o : Oper} {a : Act} (s x : Operand) (k : Nat) (st : TypeId)
    (ho : o.op = .call { callee := .builtin .append, args := #[s, x], argTypes := #[st, st] }) (T : TypeId) (i : TypeInfo) (z : Value) (bytes : Nat) (ht : P.underlying st = some (.slice T)) (hi : P.info? T = some i) (hz : i.zero = some z) (hsize : i.size = k) (hby : i.bytes = bytes) (hzs : z.cells.size = k) (hk0 : 0 < k)
    (g : Nat) (hs : a.eval s = .slice (some ⟨g, 0, none⟩) 0 0) (h : Gw k w T (some ⟨g, 0, none⟩) 0 0 []) (B : Option Addr) (m d : Nat) (t : List Value) (hx : a.eval x = .slice B m d) (ht2 : Gr k w B m t) (h1 : One1 t) (h63 : m ≤ maxLen) (hbytes : m * bytes ≤ 140737488355328)
    (hK : ∀ A' c' w', Gw k w' T A' m c' t → Only [] w w' → (∀ x ∈ blks A', x = g ∨ w.heap.size ≤ x) → φ (.slice A' m c') w' ∧ R w w') : GivesR P R w φ ((execOp a.eval o).run P w) := by
  obtain ⟨A', c', w', hrun, k1, k2, k3⟩ := run_append_gw0 k st o.type T i z bytes ht hi hz hsize hby hzs hk0 g h B m d t ht2 h1 h63 hbytes
  have e : (execOp a.eval o).run P w = .ok (.value (.slice A' m c')) w' := by
    unfold execOp
    simp only [ho, resolve, invoke, builtin, Sem.run_bind, Sem.run_pure, Result.andThen_ok, List.map_toArray, List.map_cons, List.map_nil, hs, hx, hrun]
  rw [e]
  exact hK A' c' w' k1 k2 k3
theorem wpList_append_gw {ops : Array Oper} {rest : List Oper} {o : Oper} {a : Act} {Q : Exit → Act → World → Prop} (hgd : o.guard = none) (s x : Operand) (k : Nat) (st : TypeId)
    (ho : o.op = .call { callee := .builtin .append, args := #[s, x], argTypes := #[st, st] }) (T : TypeId) (i : TypeInfo) (z : Value) (bytes : Nat) (ht : P.underlying st = some (.slice T)) (hi : P.info? T = some i) (hz : i.zero = some z) (hsize : i.size = k) (hby : i.bytes = bytes) (hzs : z.cells.size = k) (hk0 : 0 < k)
    (A : Option Addr) (n c : Nat) (l : List Value) (hs : a.eval s = .slice A n c) (h : Gw k w T A n c l) (B : Option Addr) (m d : Nat) (t : List Value) (hx : a.eval x = .slice B m d) (ht2 : Gr k w B m t) (h1 : One1 t) (h63 : n + m ≤ maxLen) (hbytes : (n + m) * bytes ≤ 140737488355328)
    (q : Nat) (hq : n + m = q) (hK : ∀ A' c' w', Gw k w' T A' q c' (l ++ t) → Only (blks A) w w' → (∀ x ∈ blks A', x ∈ blks A ∨ w.heap.size ≤ x) → wpList P ops Q rest (a.put o.dst (.slice A' q c')) w') : wpList P ops Q (o :: rest) a w := by
  subst hq
  refine wpList_plain hgd fun K hK2 => ?_
  obtain ⟨A', c', w', hrun, k1, k2, k3⟩ := run_append_gw k st o.type T i z bytes ht hi hz hsize hby hzs hk0 A n c l h B m d t ht2 h1 h63 hbytes
  unfold Oper.wp execOp
  simp only [ho, resolve, invoke, builtin, Sem.run_bind, Sem.run_pure, Result.andThen_ok, List.map_toArray, List.map_cons, List.map_nil, hs, hx, hrun]
  exact hK2 _ _ (hK A' c' w' k1 k2 k3)
theorem gives_append_gw {R : World → World → Prop} {φ : Value → World → Prop} {o : Oper} {a : Act} (s x : Operand) (k : Nat) (st : TypeId)
    (ho : o.op = .call { callee := .builtin .append, args := #[s, x], argTypes := #[st, st] }) (T : TypeId) (i : TypeInfo) (z : Value) (bytes : Nat) (ht : P.underlying st = some (.slice T)) (hi : P.info? T = some i) (hz : i.zero = some z) (hsize : i.size = k) (hby : i.bytes = bytes) (hzs : z.cells.size = k) (hk0 : 0 < k)
    (A : Option Addr) (n c : Nat) (l : List Value) (hs : a.eval s = .slice A n c) (h : Gw k w T A n c l) (B : Option Addr) (m d : Nat) (t : List Value) (hx : a.eval x = .slice B m d) (ht2 : Gr k w B m t) (h1 : One1 t) (h63 : n + m ≤ maxLen) (hbytes : (n + m) * bytes ≤ 140737488355328)
    (q : Nat) (hq : n + m = q) (hK : ∀ A' c' w', Gw k w' T A' q c' (l ++ t) → Only (blks A) w w' → (∀ x ∈ blks A', x ∈ blks A ∨ w.heap.size ≤ x) → φ (.slice A' q c') w' ∧ R w w') : GivesR P R w φ ((execOp a.eval o).run P w) := by
  subst hq
  obtain ⟨A', c', w', hrun, k1, k2, k3⟩ := run_append_gw k st o.type T i z bytes ht hi hz hsize hby hzs hk0 A n c l h B m d t ht2 h1 h63 hbytes
  have e : (execOp a.eval o).run P w = .ok (.value (.slice A' (n + m) c')) w' := by
    unfold execOp
    simp only [ho, resolve, invoke, builtin, Sem.run_bind, Sem.run_pure, Result.andThen_ok, List.map_toArray, List.map_cons, List.map_nil, hs, hx, hrun]
  rw [e]
  exact hK A' c' w' k1 k2 k3
end

/-! ### Cells that a list lays, k for each of its elements -/
section
variable {α : Type} {f : α → List Value} {k : Nat} {l : List α}
def gx (f : α → List Value) (l : List α) : List Value := l.flatMap f
theorem gx_nil : gx f [] = [] := rfl
theorem gx_cons (a : α) (l : List α) : gx f (a :: l) = f a ++ gx f l := by simp [gx]
theorem gx_append (a b : List α) : gx f (a ++ b) = gx f a ++ gx f b := by simp [gx]
theorem gx_one (a : α) : gx f [a] = f a := by simp [gx]
theorem gx_len (hf : ∀ a, (f a).length = k) : ∀ l : List α, (gx f l).length = l.length * k
  | [] => by simp [gx]
  | a :: r => by rw [gx_cons, List.length_append, hf, gx_len hf r, List.length_cons, Nat.succ_mul, Nat.add_comm]
theorem gx_take (hf : ∀ a, (f a).length = k) (l : List α) (j : Nat) : gx f (l.take j) = (gx f l).take (j * k) := by
  rcases Nat.lt_or_ge l.length j with h | h
  · have h2 : (gx f l).length ≤ j * k := by rw [gx_len hf]; exact Nat.mul_le_mul_right _ (Nat.le_of_lt h)
    rw [List.take_of_length_le (Nat.le_of_lt h), List.take_of_length_le h2]
  · have e : gx f l = gx f (l.take j) ++ gx f (l.drop j) := by rw [← gx_append, List.take_append_drop]
    have hl : (gx f (l.take j)).length = j * k := by rw [gx_len hf, List.length_take, Nat.min_eq_left h]
    rw [e, ← hl, List.take_left]
theorem gx_drop (hf : ∀ a, (f a).length = k) (l : List α) (j : Nat) : gx f (l.drop j) = (gx f l).drop (j * k) := by
  rcases Nat.lt_or_ge l.length j with h | h
  · have h2 : (gx f l).length ≤ j * k := by rw [gx_len hf]; exact Nat.mul_le_mul_right _ (Nat.le_of_lt h)
    rw [List.drop_of_length_le (Nat.le_of_lt h), List.drop_of_length_le h2]; rfl
  · have e : gx f l = gx f (l.take j) ++ gx f (l.drop j) := by rw [← gx_append, List.take_append_drop]
    have hl : (gx f (l.take j)).length = j * k := by rw [gx_len hf, List.length_take, Nat.min_eq_left h]
    rw [e, ← hl, List.drop_left]
theorem gx_get (hf : ∀ a, (f a).length = k) {i j : Nat} (hi : i < l.length) (hj : j < k) : (gx f l)[i * k + j]? = (f l[i])[j]? := by
  have e : gx f l = gx f (l.take i) ++ (f l[i] ++ gx f (l.drop (i + 1))) := by
    rw [← gx_cons, ← List.drop_eq_getElem_cons hi, ← gx_append, List.take_append_drop]
  have hl : (gx f (l.take i)).length = i * k := by rw [gx_len hf, List.length_take, Nat.min_eq_left (by omega)]
  rw [e, List.getElem?_append_right (by omega), hl, Nat.add_sub_cancel_left, List.getElem?_append_left (by rw [hf]; exact hj)]
theorem gx_set (hf : ∀ a, (f a).length = k) {i j : Nat} (hi : i < l.length) (hj : j < k) (u : Value) (a : α) (ha : f a = (f l[i]).set j u) : gx f (l.set i a) = (gx f l).set (i * k + j) u := by
  have e : gx f l = gx f (l.take i) ++ (f l[i] ++ gx f (l.drop (i + 1))) := by
    rw [← gx_cons, ← List.drop_eq_getElem_cons hi, ← gx_append, List.take_append_drop]
  have hl : (gx f (l.take i)).length = i * k := by rw [gx_len hf, List.length_take, Nat.min_eq_left (by omega)]
  rw [List.set_eq_take_append_cons_drop, if_pos hi, gx_append, gx_cons, ha, e, List.set_append_right _ _ (by omega), hl, Nat.add_sub_cancel_left, List.set_append_left _ _ (by rw [hf]; exact hj)]
theorem gx_one1 (h : ∀ a, One1 (f a)) (l : List α) : One1 (gx f l) := fun u hu => by
  unfold gx at hu
  obtain ⟨a, _, hu⟩ := List.mem_flatMap.1 hu
  exact h a u hu
end
end Go.Proofs.YtbbgdcnnacakjaaDoor
