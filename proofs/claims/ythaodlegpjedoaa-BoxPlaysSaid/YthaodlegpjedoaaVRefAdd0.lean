/-
  box: append of one message, whatever its own block is; append behind an empty slice without room.
-/
import Derived.Test.YthaodlegpjedoaaVAdd
import Derived.Test.YthaodlegpjedoaaRel
import Derived.Test.YthaodlegpjedoaaRelOps
namespace Go.Proofs.Ythaodlegpjedoaa
open Go.RowKit Go.Instr

theorem gives_skip {P : Program} {T : World → World → Prop} {φ : Value → World → Prop} {w w' : World} {r : Result Next} (hr : r = .ok .skip w') (h : φ undef w') (ht : T w w') : GivesR P T w φ r := by
  rw [hr]; exact ⟨h, ht⟩
set_option maxRecDepth 100000 in
theorem run_append_one {S : Nat → Prop} {w : World} (ty : TypeId) (A : Option Addr) (n c : Nat) (l : List Mg) (h : Mo S w A n c l) (g2 : Nat) (t2 : TypeId) (q : Mg) (Ab : Option Addr) (cb : Nat) (hb : Bk w g2 t2 #[.int .i64 q.uid, .int .i64 q.flags, .int .i64 q.date, .slice Ab q.body.length cb])
    (hs : Sl w Ab q.body.length (bvs q.body)) (hSb : 0 < q.body.length → ∀ ad, Ab = some ad → S ad.block ∧ ad.block ∉ blks A) (hS : ∀ x, w.heap.size ≤ x → S x) (hn : n + 1 ≤ 1000000000000) :
    ∃ A' c' w', (Builtin.append_ #[24, 24] ty #[.slice A n c, .slice (some ⟨g2, 0, none⟩) 1 1]).run Try.prog w = .ok (.slice A' (n + 1) c') w' ∧ Mo S w' A' (n + 1) c' (l ++ [q]) ∧ Only (blks A) w w' ∧ ∀ k ∈ blks A', k ∈ blks A ∨ w.heap.size ≤ k := by
  obtain ⟨i0, hi, hz0, hz1, hz2⟩ := info_parts infoMg
  obtain ⟨h1, h0, xs, h3, h4⟩ := h
  have hxl : xs.length = n * 4 := h3.1
  obtain ⟨v', w', hrun, r1, r2, _, r4⟩ := run_append_own_at (P := Try.prog) w 0 24 ty 62 i0 (.agg #[.int .i64 0, .int .i64 0, .int .i64 0, .slice none 0 0]) 4 48 Try.underlying24 hi hz0 hz1 hz2 rfl (by omega) _ n xs h3 ⟨g2, 0, none⟩ 1 1 [.int .i64 q.uid, .int .i64 q.flags, .int .i64 q.date, .slice Ab q.body.length cb] rfl (fun j u hu => by
    rw [add_none, Nat.zero_add, hb.cell]
    simpa using hu) (fun u hu => by simp at hu; rcases hu with rfl | rfl | rfl | rfl <;> rfl) (by unfold maxLen; omega) (by omega) (Nat.zero_le _)
  have hform : ∃ A' c', v' = .slice A' (n + 1) c' := by
    rcases r1.2 with ⟨rfl, h0⟩ | ⟨g, cap, cur, rfl, _⟩
    · exact ⟨none, 0, by rw [h0]⟩
    · exact ⟨_, _, rfl⟩
  obtain ⟨A', c', rfl⟩ := hform
  have hO : Only (blks A) w w' := by
    have := Only.of_grown r2
    cases A with
    | none => simpa [Value.ownBlock] using this
    | some a => simpa [Value.ownBlock] using this
  have hA' : ∀ k ∈ blks A', k ∈ blks A ∨ w.heap.size ≤ k := fun k hk => by
    cases A' with
    | none => cases hk
    | some a' =>
      simp only [blks_some, List.mem_singleton] at hk
      subst hk
      rcases r4 with r4 | r4
      · left
        cases A with
        | none => simp [Value.ownBlock] at r4
        | some a => simp [Value.ownBlock] at r4; simp [r4]
      · right
        simp [Value.ownBlock] at r4
        omega
  have far : ∀ x, (S x ∧ x ∉ blks A) ∧ x < w.heap.size → S x ∧ x ∉ blks A' := fun x hx => ⟨hx.1.1, fun hm => by
    rcases hA' x hm with h5 | h5
    · exact hx.1.2 h5
    · have := hx.2; omega⟩
  have k4 : MX (fun x => S x ∧ x ∉ blks A) w [.int .i64 q.uid, .int .i64 q.flags, .int .i64 q.date, .slice Ab q.body.length cb] [q] := fun k z hz => by
    match k, hz with
    | 0, hz =>
      simp at hz
      subst hz
      exact ⟨Ab, cb, rfl, rfl, rfl, rfl, hs, hSb⟩
  refine ⟨A', c', w', hrun, ⟨by rw [List.length_append, List.length_singleton]; omega, fun x hx => ?_, _, r1, ?_⟩, hO, hA'⟩
  · rcases hA' x hx with h5 | h5
    · exact h0 x h5
    · exact hS x h5
  · exact ((h4.lt.only hO (fun x hx => hx.1.2)).mono far).append ((k4.lt.only hO (fun x hx => hx.1.2)).mono far) (by omega)
theorem gives_append_one {T : World → World → Prop} {φ : Value → World → Prop} {o : Oper} {a : Act} {w : World} (s x : Operand)
    (ho : o.op = .call { callee := .builtin .append, args := #[s, x], argTypes := #[24, 24] }) {S : Nat → Prop} (A : Option Addr) (n c : Nat) (l : List Mg) (hs : a.eval s = .slice A n c) (h : Mo S w A n c l)
    (g2 : Nat) (t2 : TypeId) (q : Mg) (Ab : Option Addr) (cb : Nat) (hx : a.eval x = .slice (some ⟨g2, 0, none⟩) 1 1) (hb : Bk w g2 t2 #[.int .i64 q.uid, .int .i64 q.flags, .int .i64 q.date, .slice Ab q.body.length cb])
    (hs2 : Sl w Ab q.body.length (bvs q.body)) (hSb : 0 < q.body.length → ∀ ad, Ab = some ad → S ad.block ∧ ad.block ∉ blks A) (hS : ∀ x, w.heap.size ≤ x → S x) (hn : n + 1 ≤ 1000000000000)
    (hK : ∀ A' c' w', Mo S w' A' (n + 1) c' (l ++ [q]) → Only (blks A) w w' → (∀ k ∈ blks A', k ∈ blks A ∨ w.heap.size ≤ k) → φ (.slice A' (n + 1) c') w' ∧ T w w') : GivesR Try.prog T w φ ((execOp a.eval o).run Try.prog w) := by
  obtain ⟨A', c', w', hrun, k1, k2, k3⟩ := run_append_one o.type A n c l h g2 t2 q Ab cb hb hs2 hSb hS hn
  have e : (execOp a.eval o).run Try.prog w = .ok (.value (.slice A' (n + 1) c')) w' := by
    unfold execOp
    simp only [ho, resolve, invoke, builtin, Sem.run_bind, Sem.run_pure, Result.andThen_ok, List.map_toArray, List.map_cons, List.map_nil, hs, hx, hrun]
  rw [e]
  exact hK A' c' w' k1 k2 k3
theorem own_empty (w : World) (t : TypeId) : Own (w.alloc (.cells #[] t)) t (some ⟨w.heap.size, 0, none⟩) 0 0 [] :=
  ⟨rfl, .inr ⟨w.heap.size, 0, #[], rfl, Nat.zero_le _, heap_alloc_new w _, Nat.le_refl _, Nat.zero_le _, rfl, rfl⟩⟩
section
variable {P : Program} {w : World}
/-- append behind an empty row without room: nothing that was there is written. -/
theorem run_append_zero (t ty e : TypeId) (i : TypeInfo) (z : Value) (bytes : Nat) (ht : P.underlying t = some (.slice e)) (hi : P.info? e = some i) (hz : i.zero = some z)
    (hsize : i.size = 1) (hby : i.bytes = bytes) (hzs : z.cells.size = 1) (g : Nat) (hown : Own w e (some ⟨g, 0, none⟩) 0 0 [])
    (A2 : Option Addr) (m c2 : Nat) (news : List Value) (hr : Sl w A2 m news) (h1 : ∀ u ∈ news, u.oneCell' = true) (h63 : m ≤ maxLen) (hbytes : m * bytes ≤ 140737488355328) :
    ∃ A' c' w', (Builtin.append_ #[t, t] ty #[.slice (some ⟨g, 0, none⟩) 0 0, .slice A2 m c2]).run P w = .ok (.slice A' m c') w' ∧ Own w' e A' m c' news ∧ Only [] w w' ∧ (∀ k ∈ blks A', k = g ∨ w.heap.size ≤ k) := by
  by_cases hm : m = 0
  · subst hm
    obtain rfl : news = [] := List.eq_nil_of_length_eq_zero hr.len
    refine ⟨some ⟨g, 0, none⟩, 0, w, ?_, hown, Only.refl _ _, fun k hk => .inl (by simpa using hk)⟩
    cases A2 <;> simp [Builtin.append_, run_underlying ht, sizeOf, typeInfo, hi, Builtin.lenOf, Builtin.firstCells, loadCells, loadCellsFrom, storeCells]
  · obtain ⟨ad, rfl, hcell⟩ := hr.2 (by omega)
    obtain ⟨v', w', hrun, h2, h3, h4, h5⟩ := run_append_own_at (P := P) w 0 t ty e i z 1 bytes ht hi hz hsize hby hzs (by omega) _ 0 [] hown ad m c2 news (by have := hr.len; omega) (fun j u hu => hcell j u hu) h1 (by omega) (by simpa using hbytes) (Nat.zero_le _)
    have hg := run_append_grow (P := P) w t ty e i z ht hi hz ⟨g, 0, none⟩ 0 0 [] (by simp) (by intro j v hj; simp at hj) ad m c2 news (by rw [hr.len, hsize, Nat.mul_one]) (fun j u hu => hcell j u hu) (by omega) (by unfold maxLen at h63; omega) (by rw [hby]; exact growslice_fits (by omega) (by simpa using hbytes))
    rw [hrun] at hg
    simp only [Nat.zero_add, List.nil_append] at hg h2
    injection hg with hv hw
    subst hv hw
    refine ⟨_, _, _, hrun, h2, ?_, fun k hk => .inr ?_⟩
    · exact (Only.refl [] w).drew.alloc _
    · simp at hk; omega
theorem gives_append_zero {T : World → World → Prop} {φ : Value → World → Prop} {o : Oper} {a : Act} (s x : Operand) (t : TypeId)
    (ho : o.op = .call { callee := .builtin .append, args := #[s, x], argTypes := #[t, t] }) (e : TypeId) (i : TypeInfo) (z : Value) (bytes : Nat) (ht : P.underlying t = some (.slice e)) (hi : P.info? e = some i)
    (hz : i.zero = some z) (hsize : i.size = 1) (hby : i.bytes = bytes) (hzs : z.cells.size = 1) (g : Nat) (hs : a.eval s = .slice (some ⟨g, 0, none⟩) 0 0) (hown : Own w e (some ⟨g, 0, none⟩) 0 0 [])
    (A2 : Option Addr) (m c2 : Nat) (news : List Value) (hx : a.eval x = .slice A2 m c2) (hr : Sl w A2 m news) (h1 : ∀ u ∈ news, u.oneCell' = true) (h63 : m ≤ maxLen) (hbytes : m * bytes ≤ 140737488355328)
    (h : ∀ A' c' w', Own w' e A' m c' news → Only [] w w' → (∀ k ∈ blks A', k = g ∨ w.heap.size ≤ k) → φ (.slice A' m c') w' ∧ T w w') : GivesR P T w φ ((execOp a.eval o).run P w) := by
  obtain ⟨A', c', w', hrun, h2, h3, h4⟩ := run_append_zero (P := P) t o.type e i z bytes ht hi hz hsize hby hzs g hown A2 m c2 news hr h1 h63 hbytes
  have e : (execOp a.eval o).run P w = .ok (.value (.slice A' m c')) w' := by
    unfold execOp
    simp only [ho, resolve, invoke, builtin, Sem.run_bind, Sem.run_pure, Result.andThen_ok, List.map_toArray, List.map_cons, List.map_nil, hs, hx, hrun]
  rw [e]
  exact h A' c' w' h2 h3 h4
end
set_option maxRecDepth 100000 in
theorem run_append_zero_ms {S : Nat → Prop} {w : World} (ty : TypeId) (g : Nat) (h : Mo S w (some ⟨g, 0, none⟩) 0 0 []) (A2 : Option Addr) (m c2 : Nat) (r : List Mg) (h2 : Ms (fun x => S x ∧ x ∉ blks (some ⟨g, 0, none⟩)) w A2 m r) (hS : ∀ x, w.heap.size ≤ x → S x) (hn : m ≤ 1000000000000) :
    ∃ A' c' w', (Builtin.append_ #[24, 24] ty #[.slice (some ⟨g, 0, none⟩) 0 0, .slice A2 m c2]).run Try.prog w = .ok (.slice A' m c') w' ∧ Mo S w' A' m c' r ∧ Only [] w w' ∧ ∀ k ∈ blks A', k = g ∨ w.heap.size ≤ k := by
  obtain ⟨i0, hi, hz0, hz1, hz2⟩ := info_parts infoMg
  obtain ⟨A', c', w', hrun, k1, k2, k3⟩ := run_append_ms ty (some ⟨g, 0, none⟩) 0 0 [] h A2 m c2 r h2 hS (by omega)
  simp only [Nat.zero_add, List.nil_append] at hrun k1
  refine ⟨A', c', w', hrun, k1, ?_, fun k hk => by simpa using k3 k hk⟩
  have ht := Try.underlying24
  by_cases hm : m = 0
  · subst hm
    have e : (Builtin.append_ #[24, 24] ty #[.slice (some ⟨g, 0, none⟩) 0 0, .slice A2 0 c2]).run Try.prog w = .ok (.slice (some ⟨g, 0, none⟩) 0 0) w := by
      cases A2 <;> simp [Builtin.append_, run_underlying ht, sizeOf, typeInfo, hi, Builtin.lenOf, Builtin.firstCells, loadCells, loadCellsFrom, storeCells]
    rw [hrun] at e
    injection e with _ e
    rw [e]
    exact Only.refl _ _
  · obtain ⟨j1, ys, j2, j3, j4⟩ := h2
    obtain ⟨ad, rfl, _, hcell⟩ := j3 (by omega)
    have hg := run_append_grow (P := Try.prog) w 24 ty 62 i0 _ ht hi hz0 ⟨g, 0, none⟩ 0 0 [] (by simp) (by intro j v hj; simp at hj) ad m c2 ys (by rw [j2, hz1]) hcell (by omega) (by omega) (by rw [hz2]; exact growslice_fits (by omega) (by omega))
    rw [hrun] at hg
    injection hg with _ hw
    rw [hw]
    exact (Only.refl [] w).drew.alloc _
theorem gives_append_zero_ms {T : World → World → Prop} {φ : Value → World → Prop} {o : Oper} {a : Act} {w : World} (s x : Operand)
    (ho : o.op = .call { callee := .builtin .append, args := #[s, x], argTypes := #[24, 24] }) {S : Nat → Prop} (g : Nat) (hs : a.eval s = .slice (some ⟨g, 0, none⟩) 0 0) (h : Mo S w (some ⟨g, 0, none⟩) 0 0 [])
    (A2 : Option Addr) (m c2 : Nat) (r : List Mg) (hx : a.eval x = .slice A2 m c2) (h2 : Ms (fun x => S x ∧ x ∉ blks (some ⟨g, 0, none⟩)) w A2 m r) (hS : ∀ x, w.heap.size ≤ x → S x) (hn : m ≤ 1000000000000)
    (hK : ∀ A' c' w', Mo S w' A' m c' r → Only [] w w' → (∀ k ∈ blks A', k = g ∨ w.heap.size ≤ k) → φ (.slice A' m c') w' ∧ T w w') : GivesR Try.prog T w φ ((execOp a.eval o).run Try.prog w) := by
  obtain ⟨A', c', w', hrun, k1, k2, k3⟩ := run_append_zero_ms o.type g h A2 m c2 r h2 hS hn
  have e : (execOp a.eval o).run Try.prog w = .ok (.value (.slice A' m c')) w' := by
    unfold execOp
    simp only [ho, resolve, invoke, builtin, Sem.run_bind, Sem.run_pure, Result.andThen_ok, List.map_toArray, List.map_cons, List.map_nil, hs, hx, hrun]
  rw [e]
  exact hK A' c' w' k1 k2 k3
end Go.Proofs.Ythaodlegpjedoaa
