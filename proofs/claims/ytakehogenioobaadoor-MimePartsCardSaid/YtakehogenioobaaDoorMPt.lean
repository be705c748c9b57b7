/-
  A slice of parts (two numbers each) of the call's own; append of one part.
-/
import Derived.Test.YtakehogenioobaaDoorHWords
import Derived.Test.YtakehogenioobaaDoorMPart
import Derived.Test.YtakehogenioobaaDoorRelOps
namespace Go.Proofs.YtakehogenioobaaDoor
open Go.RowKit Go.Instr

def pvs (fs : List (Nat × Nat)) : List Value := fs.flatMap fun f => [.int .i64 (f.1 : Int), .int .i64 (f.2 : Int)]
theorem pvs_len (fs : List (Nat × Nat)) : (pvs fs).length = fs.length * 2 := by
  induction fs with
  | nil => rfl
  | cons f r ih =>
    unfold pvs at ih ⊢
    rw [List.flatMap_cons, List.length_append, ih]
    simp
    omega
theorem pvs_append (a b : List (Nat × Nat)) : pvs (a ++ b) = pvs a ++ pvs b := by simp [pvs]
theorem pvs_get {fs : List (Nat × Nat)} {k : Nat} (h : k < fs.length) : (pvs fs)[k * 2]? = some (.int .i64 (fs[k].1 : Int)) ∧ (pvs fs)[k * 2 + 1]? = some (.int .i64 (fs[k].2 : Int)) := by
  have e : pvs fs = pvs (fs.take k) ++ pvs (fs.drop k) := by rw [← pvs_append, List.take_append_drop]
  have hl : (pvs (fs.take k)).length = k * 2 := by rw [pvs_len, List.length_take]; congr 1; omega
  rw [e, List.drop_eq_getElem_cons h]
  refine ⟨?_, ?_⟩
  · rw [List.getElem?_append_right (by omega), hl, Nat.sub_self]; rfl
  · rw [List.getElem?_append_right (by omega), hl, show k * 2 + 1 - k * 2 = 1 by omega]; rfl
/-- The slice reads as these fields. -/
def Pt (w : World) (A : Option Addr) (n c : Nat) (fs : List (Nat × Nat)) : Prop := fs.length = n ∧ w.ownsRow 0 29 2 (.slice A n c) n (pvs fs)
section
variable {w w' : World} {A : Option Addr} {n c : Nat} {fs : List (Nat × Nat)} {rs : List Nat}
theorem Pt.nil (w : World) : Pt w none 0 0 [] := ⟨rfl, rfl, .inl ⟨rfl, rfl⟩⟩
theorem Pt.len (h : Pt w A n c fs) : fs.length = n := h.1
theorem Pt.only (h : Pt w A n c fs) (o : Only rs w w') (hd : ∀ x ∈ blks A, x ∉ rs) : Pt w' A n c fs :=
  ⟨h.1, own_only h.2 o (fun k hk => hd k (by
    cases A with
    | none => cases hk
    | some a => simp [Value.ownBlock] at hk; simp [hk]))⟩
theorem Pt.keep (h : Pt w A n c fs) (o : Only [] w w') : Pt w' A n c fs := h.only o (fun _ _ hm => nomatch hm)
theorem Pt.bk (h : Pt w A n c fs) {k : Nat} (hk : k ∈ blks A) : ∃ cur, Bk w k 29 cur := by
  refine own_bk h.2 ?_
  cases A with
  | none => cases hk
  | some a => simp at hk; simp [Value.ownBlock, hk]
theorem Pt.lt (h : Pt w A n c fs) {k : Nat} (hk : k ∈ blks A) : k < w.heap.size := by
  obtain ⟨cur, hc⟩ := h.bk hk
  exact hc.lt
theorem Pt.apart (h : Pt w A n c fs) {t : TypeId} {A2 : Option Addr} {n2 c2 : Nat} {xs : List Value} (h2 : Own w t A2 n2 c2 xs) (hne : t ≠ 29) : ∀ x ∈ blks A2, x ∉ blks A := fun x hx hm => by
  obtain ⟨c1, h3⟩ := h.bk hm
  obtain ⟨c2, h4⟩ := h2.bk hx
  exact h4.ne h3 hne rfl
theorem Pt.at_ (h : Pt w A n c fs) {k : Nat} (hk : k < n) (hk' : k < fs.length) : ∃ g, A = some ⟨g, 0, none⟩ ∧ w.cell? ⟨g, k * 2, none⟩ = some (.int .i64 (fs[k].1 : Int)) ∧ w.cell? ⟨g, k * 2 + 1, none⟩ = some (.int .i64 (fs[k].2 : Int)) := by
  obtain ⟨h1, h2⟩ := h
  obtain ⟨bb, cap, hv, _, _⟩ := h2.form (by omega)
  have hA : A = some ⟨bb, 0, none⟩ := by injection hv
  subst hA
  obtain ⟨e1, e2⟩ := pvs_get hk'
  refine ⟨bb, rfl, ?_, ?_⟩
  · have := h2.cells (g := bb) rfl (k * 2) _ e1
    rwa [add_none, Nat.zero_add] at this
  · have := h2.cells (g := bb) rfl (k * 2 + 1) _ e2
    rwa [add_none, Nat.zero_add] at this
end

theorem infoPt : (Tryd.prog.info? 29).map (fun i => (i.zero, i.size, i.bytes)) = some (some (.agg #[.int .i64 0, .int .i64 0]), 2, 16) := by kernel_rfl
/-- One field is appended. -/
theorem run_append_pt {w : World} (ty : TypeId) (A : Option Addr) (n c : Nat) (fs : List (Nat × Nat)) (h : Pt w A n c fs) (a b : Nat) (g2 : Nat) (t2 : TypeId) (hb : Bk w g2 t2 #[.int .i64 (a : Int), .int .i64 (b : Int)]) (hn : n ≤ 1000000) :
    ∃ A' c' w', (Builtin.append_ #[26, 26] ty #[.slice A n c, .slice (some ⟨g2, 0, none⟩) 1 1]).run Tryd.prog w = .ok (.slice A' (n + 1) c') w' ∧ Pt w' A' (n + 1) c' (fs ++ [(a, b)]) ∧ Only (blks A) w w' ∧ ∀ k ∈ blks A', k ∈ blks A ∨ w.heap.size ≤ k := by
  obtain ⟨i0, hi, hz0, hz1, hz2⟩ := info_parts infoPt
  obtain ⟨h1, h2⟩ := h
  obtain ⟨v', w', hrun, r1, r2, _, r4⟩ := run_append_own_at (P := Tryd.prog) w 0 26 ty 29 i0 (.agg #[.int .i64 0, .int .i64 0]) 2 16 Tryd.underlying26 hi hz0 hz1 hz2 rfl (by omega) _ n (pvs fs) h2 ⟨g2, 0, none⟩ 1 1 [.int .i64 (a : Int), .int .i64 (b : Int)] rfl (fun j u hu => by
    rw [add_none, Nat.zero_add, hb.cell]
    simpa using hu) (fun u hu => by simp at hu; rcases hu with rfl | rfl <;> rfl) (by unfold maxLen; omega) (by omega) (Nat.zero_le _)
  have hform : ∃ A' c', v' = .slice A' (n + 1) c' := by
    rcases r1.2 with ⟨_, h0⟩ | ⟨g, cap, cur, rfl, _⟩
    · omega
    · exact ⟨_, _, rfl⟩
  obtain ⟨A', c', rfl⟩ := hform
  refine ⟨A', c', w', hrun, ⟨by simp [h1], by rw [pvs_append]; exact r1⟩, ?_, fun k hk => ?_⟩
  · have := Only.of_grown r2
    cases A with
    | none => simpa [Value.ownBlock] using this
    | some a => simpa [Value.ownBlock] using this
  · cases A' with
    | none => cases hk
    | some a' =>
      simp only [blks_some, List.mem_singleton] at hk
      subst hk
      rcases r4 with r4 | r4
      · left
        cases A with
        | none => simp [Value.ownBlock] at r4
        | some a => simp [Value.ownBlock] at r4; simp [r4]
      · right
        simp [Value.ownBlock] at r4
        omega
theorem gives_append_pt {T : World → World → Prop} {φ : Value → World → Prop} {o : Oper} {a : Act} {w : World} (s x : Operand)
    (ho : o.op = .call { callee := .builtin .append, args := #[s, x], argTypes := #[26, 26] }) (A : Option Addr) (n c : Nat) (fs : List (Nat × Nat)) (hs : a.eval s = .slice A n c) (h : Pt w A n c fs)
    (l1 l2 : Nat) (g2 : Nat) (t2 : TypeId) (hx : a.eval x = .slice (some ⟨g2, 0, none⟩) 1 1) (hb : Bk w g2 t2 #[.int .i64 (l1 : Int), .int .i64 (l2 : Int)]) (hn : n ≤ 1000000)
    (hK : ∀ A' c' w', Pt w' A' (n + 1) c' (fs ++ [(l1, l2)]) → Only (blks A) w w' → (∀ k ∈ blks A', k ∈ blks A ∨ w.heap.size ≤ k) → φ (.slice A' (n + 1) c') w' ∧ T w w') : GivesR Tryd.prog T w φ ((execOp a.eval o).run Tryd.prog w) := by
  obtain ⟨A', c', w', hrun, k1, k2, k3⟩ := run_append_pt o.type A n c fs h l1 l2 g2 t2 hb hn
  have e : (execOp a.eval o).run Tryd.prog w = .ok (.value (.slice A' (n + 1) c')) w' := by
    unfold execOp
    simp only [ho, resolve, invoke, builtin, Sem.run_bind, Sem.run_pure, Result.andThen_ok, List.map_toArray, List.map_cons, List.map_nil, hs, hx, hrun]
  rw [e]
  exact hK A' c' w' k1 k2 k3
theorem wpList_append_pt {ops : Array Oper} {rest : List Oper} {o : Oper} {a : Act} {w : World} {Q : Exit → Act → World → Prop} (hgd : o.guard = none) (s x : Operand)
    (ho : o.op = .call { callee := .builtin .append, args := #[s, x], argTypes := #[26, 26] }) (A : Option Addr) (n c : Nat) (fs : List (Nat × Nat)) (hs : a.eval s = .slice A n c) (h : Pt w A n c fs)
    (l1 l2 : Nat) (g2 : Nat) (t2 : TypeId) (hx : a.eval x = .slice (some ⟨g2, 0, none⟩) 1 1) (hb : Bk w g2 t2 #[.int .i64 (l1 : Int), .int .i64 (l2 : Int)]) (hn : n ≤ 1000000)
    (hK : ∀ A' c' w', Pt w' A' (n + 1) c' (fs ++ [(l1, l2)]) → Only (blks A) w w' → (∀ k ∈ blks A', k ∈ blks A ∨ w.heap.size ≤ k) → wpList Tryd.prog ops Q rest (a.put o.dst (.slice A' (n + 1) c')) w') : wpList Tryd.prog ops Q (o :: rest) a w := by
  obtain ⟨A', c', w', hrun, k1, k2, k3⟩ := run_append_pt o.type A n c fs h l1 l2 g2 t2 hb hn
  refine wpList_plain hgd fun K hK2 => ?_
  have := hK A' c' w' k1 k2 k3
  unfold Oper.wp execOp
  simp only [ho, resolve, invoke, builtin, Sem.run_bind, Sem.run_pure, Result.andThen_ok, List.map_toArray, List.map_cons, List.map_nil, hs, hx, hrun]
  exact hK2 _ _ this
end Go.Proofs.YtakehogenioobaaDoor
