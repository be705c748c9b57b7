/-
  A slice of fields (two texts each) of the call's own; append of one field; a field's value stored anew.
-/
import Derived.Test.YtakehogenioobaaDoorHWords
import Derived.Test.YtakehogenioobaaDoorRelOps
namespace Go.Proofs.YtakehogenioobaaDoor
open Go.RowKit Go.Instr

def fvs (fs : List (List UInt8 × List UInt8)) : List Value := fs.flatMap fun f => [.string (St f.1), .string (St f.2)]
theorem fvs_len (fs : List (List UInt8 × List UInt8)) : (fvs fs).length = fs.length * 2 := by
  induction fs with
  | nil => rfl
  | cons f r ih =>
    unfold fvs at ih ⊢
    rw [List.flatMap_cons, List.length_append, ih]
    simp
    omega
theorem fvs_append (a b : List (List UInt8 × List UInt8)) : fvs (a ++ b) = fvs a ++ fvs b := by simp [fvs]
theorem fvs_get {fs : List (List UInt8 × List UInt8)} {k : Nat} (h : k < fs.length) : (fvs fs)[k * 2]? = some (.string (St fs[k].1)) ∧ (fvs fs)[k * 2 + 1]? = some (.string (St fs[k].2)) := by
  have e : fvs fs = fvs (fs.take k) ++ fvs (fs.drop k) := by rw [← fvs_append, List.take_append_drop]
  have hl : (fvs (fs.take k)).length = k * 2 := by rw [fvs_len, List.length_take]; congr 1; omega
  rw [e, List.drop_eq_getElem_cons h]
  refine ⟨?_, ?_⟩
  · rw [List.getElem?_append_right (by omega), hl, Nat.sub_self]; rfl
  · rw [List.getElem?_append_right (by omega), hl, show k * 2 + 1 - k * 2 = 1 by omega]; rfl
/-- The slice reads as these fields. -/
def Fd (w : World) (A : Option Addr) (n c : Nat) (fs : List (List UInt8 × List UInt8)) : Prop := fs.length = n ∧ w.ownsRow 0 58 2 (.slice A n c) n (fvs fs)
section
variable {w w' : World} {A : Option Addr} {n c : Nat} {fs : List (List UInt8 × List UInt8)} {rs : List Nat}
theorem Fd.nil (w : World) : Fd w none 0 0 [] := ⟨rfl, rfl, .inl ⟨rfl, rfl⟩⟩
theorem Fd.len (h : Fd w A n c fs) : fs.length = n := h.1
theorem Fd.only (h : Fd w A n c fs) (o : Only rs w w') (hd : ∀ x ∈ blks A, x ∉ rs) : Fd w' A n c fs :=
  ⟨h.1, own_only h.2 o (fun k hk => hd k (by
    cases A with
    | none => cases hk
    | some a => simp [Value.ownBlock] at hk; simp [hk]))⟩
theorem Fd.keep (h : Fd w A n c fs) (o : Only [] w w') : Fd w' A n c fs := h.only o (fun _ _ hm => nomatch hm)
theorem Fd.bk (h : Fd w A n c fs) {k : Nat} (hk : k ∈ blks A) : ∃ cur, Bk w k 58 cur := by
  refine own_bk h.2 ?_
  cases A with
  | none => cases hk
  | some a => simp at hk; simp [Value.ownBlock, hk]
theorem Fd.lt (h : Fd w A n c fs) {k : Nat} (hk : k ∈ blks A) : k < w.heap.size := by
  obtain ⟨cur, hc⟩ := h.bk hk
  exact hc.lt
theorem Fd.apart (h : Fd w A n c fs) {t : TypeId} {A2 : Option Addr} {n2 c2 : Nat} {xs : List Value} (h2 : Own w t A2 n2 c2 xs) (hne : t ≠ 58) : ∀ x ∈ blks A2, x ∉ blks A := fun x hx hm => by
  obtain ⟨c1, h3⟩ := h.bk hm
  obtain ⟨c2, h4⟩ := h2.bk hx
  exact h4.ne h3 hne rfl
theorem Fd.at_ (h : Fd w A n c fs) {k : Nat} (hk : k < n) (hk' : k < fs.length) : ∃ g, A = some ⟨g, 0, none⟩ ∧ w.cell? ⟨g, k * 2, none⟩ = some (.string (St fs[k].1)) ∧ w.cell? ⟨g, k * 2 + 1, none⟩ = some (.string (St fs[k].2)) := by
  obtain ⟨h1, h2⟩ := h
  obtain ⟨bb, cap, hv, _, _⟩ := h2.form (by omega)
  have hA : A = some ⟨bb, 0, none⟩ := by injection hv
  subst hA
  obtain ⟨e1, e2⟩ := fvs_get hk'
  refine ⟨bb, rfl, ?_, ?_⟩
  · have := h2.cells (g := bb) rfl (k * 2) _ e1
    rwa [add_none, Nat.zero_add] at this
  · have := h2.cells (g := bb) rfl (k * 2 + 1) _ e2
    rwa [add_none, Nat.zero_add] at this
/-- The last field's value stored anew. -/
theorem Fd.set {g m : Nat} {fs : List (List UInt8 × List UInt8)} {a b b' : List UInt8} (h : Fd w (some ⟨g, 0, none⟩) (m + 1) c (fs ++ [(a, b)])) : Fd (w.setCell ⟨g, m * 2 + 1, none⟩ (.string (St b'))) (some ⟨g, 0, none⟩) (m + 1) c (fs ++ [(a, b')]) ∧ w.frozen? ⟨g, m * 2 + 1, none⟩ = false := by
  obtain ⟨h1, h2⟩ := h
  have hm : fs.length = m := by simpa using h1
  refine ⟨⟨by simp [hm], ?_, ?_⟩, ?_⟩
  · rw [fvs_len]; simp [hm]
  · rcases h2.2 with ⟨hv, h0⟩ | ⟨g', cap, cur, hv, hb, hg, k1, k2, k3, k4⟩
    · omega
    · simp only [Value.slice.injEq, Option.some.injEq, Addr.mk.injEq, and_true] at hv
      obtain ⟨rfl, _, rfl⟩ := hv
      refine .inr ⟨g, c, cur.setIfInBounds (m * 2 + 1) (.string (St b')), rfl, hb, ?_, k1, k2, by simpa using k3, ?_⟩
      · have := (show Bk w g 58 cur from hg).set (m * 2 + 1) (.string (St b'))
        exact this
      · rw [Array.toList_setIfInBounds, List.take_set, k4, fvs_append, fvs_append, List.set_append_right _ _ (by rw [fvs_len]; omega), fvs_len, hm, show m * 2 + 1 - m * 2 = 1 by omega]
        rfl
  · rcases h2.2 with ⟨hv, h0⟩ | ⟨g', cap, cur, hv, hb, hg, _⟩
    · omega
    · simp only [Value.slice.injEq, Option.some.injEq, Addr.mk.injEq, and_true] at hv
      obtain ⟨rfl, _, rfl⟩ := hv
      exact frozen_of_row w g _ cur _ hg
end

theorem infoFd : (Tryd.prog.info? 58).map (fun i => (i.zero, i.size, i.bytes)) = some (some (.agg #[.string ⟨#[]⟩, .string ⟨#[]⟩]), 2, 32) := by kernel_rfl
/-- One field is appended. -/
theorem run_append_fd {w : World} (ty : TypeId) (A : Option Addr) (n c : Nat) (fs : List (List UInt8 × List UInt8)) (h : Fd w A n c fs) (a b : List UInt8) (g2 : Nat) (t2 : TypeId) (hb : Bk w g2 t2 #[.string (St a), .string (St b)]) (hn : n ≤ 1000000) :
    ∃ A' c' w', (Builtin.append_ #[55, 55] ty #[.slice A n c, .slice (some ⟨g2, 0, none⟩) 1 1]).run Tryd.prog w = .ok (.slice A' (n + 1) c') w' ∧ Fd w' A' (n + 1) c' (fs ++ [(a, b)]) ∧ Only (blks A) w w' ∧ ∀ k ∈ blks A', k ∈ blks A ∨ w.heap.size ≤ k := by
  obtain ⟨i0, hi, hz0, hz1, hz2⟩ := info_parts infoFd
  obtain ⟨h1, h2⟩ := h
  obtain ⟨v', w', hrun, r1, r2, _, r4⟩ := run_append_own_at (P := Tryd.prog) w 0 55 ty 58 i0 (.agg #[.string ⟨#[]⟩, .string ⟨#[]⟩]) 2 32 Tryd.underlying55 hi hz0 hz1 hz2 rfl (by omega) _ n (fvs fs) h2 ⟨g2, 0, none⟩ 1 1 [.string (St a), .string (St b)] rfl (fun j u hu => by
    rw [add_none, Nat.zero_add, hb.cell]
    simpa using hu) (fun u hu => by simp at hu; rcases hu with rfl | rfl <;> rfl) (by unfold maxLen; omega) (by omega) (Nat.zero_le _)
  have hform : ∃ A' c', v' = .slice A' (n + 1) c' := by
    rcases r1.2 with ⟨_, h0⟩ | ⟨g, cap, cur, rfl, _⟩
    · omega
    · exact ⟨_, _, rfl⟩
  obtain ⟨A', c', rfl⟩ := hform
  refine ⟨A', c', w', hrun, ⟨by simp [h1], by rw [fvs_append]; exact r1⟩, ?_, fun k hk => ?_⟩
  · have := Only.of_grown r2
    cases A with
    | none => simpa [Value.ownBlock] using this
    | some a => simpa [Value.ownBlock] using this
  · cases A' with
    | none => cases hk
    | some a' =>
      simp only [blks_some, List.mem_singleton] at hk
      subst hk
      rcases r4 with r4 | r4
      · left
        cases A with
        | none => simp [Value.ownBlock] at r4
        | some a => simp [Value.ownBlock] at r4; simp [r4]
      · right
        simp [Value.ownBlock] at r4
        omega
theorem gives_append_fd {T : World → World → Prop} {φ : Value → World → Prop} {o : Oper} {a : Act} {w : World} (s x : Operand)
    (ho : o.op = .call { callee := .builtin .append, args := #[s, x], argTypes := #[55, 55] }) (A : Option Addr) (n c : Nat) (fs : List (List UInt8 × List UInt8)) (hs : a.eval s = .slice A n c) (h : Fd w A n c fs)
    (l1 l2 : List UInt8) (g2 : Nat) (t2 : TypeId) (hx : a.eval x = .slice (some ⟨g2, 0, none⟩) 1 1) (hb : Bk w g2 t2 #[.string (St l1), .string (St l2)]) (hn : n ≤ 1000000)
    (hK : ∀ A' c' w', Fd w' A' (n + 1) c' (fs ++ [(l1, l2)]) → Only (blks A) w w' → (∀ k ∈ blks A', k ∈ blks A ∨ w.heap.size ≤ k) → φ (.slice A' (n + 1) c') w' ∧ T w w') : GivesR Tryd.prog T w φ ((execOp a.eval o).run Tryd.prog w) := by
  obtain ⟨A', c', w', hrun, k1, k2, k3⟩ := run_append_fd o.type A n c fs h l1 l2 g2 t2 hb hn
  have e : (execOp a.eval o).run Tryd.prog w = .ok (.value (.slice A' (n + 1) c')) w' := by
    unfold execOp
    simp only [ho, resolve, invoke, builtin, Sem.run_bind, Sem.run_pure, Result.andThen_ok, List.map_toArray, List.map_cons, List.map_nil, hs, hx, hrun]
  rw [e]
  exact hK A' c' w' k1 k2 k3
end Go.Proofs.YtakehogenioobaaDoor
