/-
  Slices of ranges: what a slice reads as (two cells each), a slice of one's own, append.
-/
import Derived.Test.YtkdaemjdiafccaaDoorRelOps
import Derived.Test.YtkdaemjdiafccaaDoorRowsOf
import Derived.Test.YtkdaemjdiafccaaDoorNMath2
namespace Go.Proofs.YtkdaemjdiafccaaDoor
open Go.RowKit Go.Instr

/-- The second cell of an element of two. -/
def nxt (a : Addr) : Addr := ⟨a.block, a.off + 1, none⟩
def rvs (l : List Rg) : List Value := l.flatMap fun r => [.int .i64 r.1, .int .i64 r.2]
theorem rvs_len (l : List Rg) : (rvs l).length = l.length * 2 := by
  induction l with
  | nil => rfl
  | cons f r ih =>
    unfold rvs at ih ⊢
    rw [List.flatMap_cons, List.length_append, ih]
    simp
    omega
theorem rvs_append (a b : List Rg) : rvs (a ++ b) = rvs a ++ rvs b := by simp [rvs]
theorem rvs_get {l : List Rg} {k : Nat} (h : k < l.length) : (rvs l)[k * 2]? = some (.int .i64 l[k].1) ∧ (rvs l)[k * 2 + 1]? = some (.int .i64 l[k].2) := by
  have e : rvs l = rvs (l.take k) ++ rvs (l.drop k) := by rw [← rvs_append, List.take_append_drop]
  have hl : (rvs (l.take k)).length = k * 2 := by rw [rvs_len, List.length_take]; congr 1; omega
  rw [e, List.drop_eq_getElem_cons h]
  refine ⟨?_, ?_⟩
  · rw [List.getElem?_append_right (by omega), hl, Nat.sub_self]; rfl
  · rw [List.getElem?_append_right (by omega), hl, show k * 2 + 1 - k * 2 = 1 by omega]; rfl
/-- The slice reads as these ranges. -/
def Rs (w : World) (A : Option Addr) (n : Nat) (l : List Rg) : Prop :=
  l.length = n ∧ (0 < n → ∃ ad, A = some ad ∧ ∀ (k : Nat) (r : Rg), l[k]? = some r → w.cell? (ad.add (k * 2)) = some (.int .i64 r.1) ∧ w.cell? (nxt (ad.add (k * 2))) = some (.int .i64 r.2))
section
variable {w w' : World} {A : Option Addr} {n c : Nat} {l : List Rg} {rs : List Nat}
theorem Rs.nil (w : World) (A : Option Addr) : Rs w A 0 [] := ⟨rfl, fun h => absurd h (by omega)⟩
theorem Rs.len (h : Rs w A n l) : l.length = n := h.1
theorem Rs.at_ (h : Rs w A n l) {k : Nat} (hk : k < n) (hk' : k < l.length) : ∃ ad, A = some ad ∧ w.cell? (ad.add (k * 2)) = some (.int .i64 l[k].1) ∧ w.cell? (nxt (ad.add (k * 2))) = some (.int .i64 l[k].2) := by
  obtain ⟨ad, e, hc⟩ := h.2 (by omega)
  exact ⟨ad, e, hc k _ (List.getElem?_eq_getElem hk')⟩
theorem Rs.only (h : Rs w A n l) (o : Only rs w w') (hd : ∀ x ∈ blks A, x ∉ rs) : Rs w' A n l :=
  ⟨h.1, fun hn => by
    obtain ⟨ad, rfl, hc⟩ := h.2 hn
    refine ⟨ad, rfl, fun k r hr => ⟨o.cellSome (hc k r hr).1 ?_, o.cellSome (hc k r hr).2 ?_⟩⟩
    · rw [add_block]; exact hd _ (by simp)
    · show (ad.add (k * 2)).block ∉ rs; rw [add_block]; exact hd _ (by simp)⟩
theorem Rs.keep (h : Rs w A n l) (o : Only [] w w') : Rs w' A n l := h.only o (fun _ _ hm => nomatch hm)
/-- One element, as a slice. -/
theorem Rs.one {ad : Addr} (h : Rs w (some ad) n l) {k : Nat} (hk : k < n) : Rs w (some (ad.add (k * 2))) 1 ((l.drop k).take 1) := by
  have hl := h.1
  refine ⟨by rw [List.length_take, List.length_drop]; omega, fun _ => ⟨_, rfl, fun j r hr => ?_⟩⟩
  obtain ⟨ad', e, hc⟩ := h.2 (by omega)
  injection e with e
  subst e
  match j, hr with
  | 0, hr =>
    rw [List.getElem?_take, if_pos (by omega), List.getElem?_drop, Nat.add_zero] at hr
    rw [Nat.zero_mul, add_zero]
    exact hc k r hr
  | j + 1, hr =>
    rw [List.getElem?_take, if_neg (by omega)] at hr
    cases hr
/-- Two cells in a block of their own. -/
theorem Rs.of_bk {g : Nat} {t : TypeId} {a b : Int} (h : Bk w g t #[.int .i64 a, .int .i64 b]) : Rs w (some ⟨g, 0, none⟩) 1 [(a, b)] :=
  ⟨rfl, fun _ => ⟨_, rfl, fun k r hr => by
    match k, hr with
    | 0, hr =>
      injection hr with hr
      subst hr
      refine ⟨?_, ?_⟩
      · have := h.cell 0; simpa [add_none] using this
      · have := h.cell 1; simpa [nxt, add_none] using this⟩⟩

/-- A slice of ranges of the call's own. -/
def Ro (w : World) (A : Option Addr) (n c : Nat) (l : List Rg) : Prop := l.length = n ∧ w.ownsRow 0 35 2 (.slice A n c) n (rvs l)
theorem Ro.nil (w : World) : Ro w none 0 0 [] := ⟨rfl, rfl, .inl ⟨rfl, rfl⟩⟩
theorem Ro.len (h : Ro w A n c l) : l.length = n := h.1
theorem Ro.only (h : Ro w A n c l) (o : Only rs w w') (hd : ∀ x ∈ blks A, x ∉ rs) : Ro w' A n c l :=
  ⟨h.1, own_only h.2 o (fun k hk => hd k (by
    cases A with
    | none => cases hk
    | some a => simp [Value.ownBlock] at hk; simp [hk]))⟩
theorem Ro.keep (h : Ro w A n c l) (o : Only [] w w') : Ro w' A n c l := h.only o (fun _ _ hm => nomatch hm)
theorem Ro.bk (h : Ro w A n c l) {k : Nat} (hk : k ∈ blks A) : ∃ cur, Bk w k 35 cur := by
  refine own_bk h.2 ?_
  cases A with
  | none => cases hk
  | some a => simp at hk; simp [Value.ownBlock, hk]
theorem Ro.lt (h : Ro w A n c l) {k : Nat} (hk : k ∈ blks A) : k < w.heap.size := by
  obtain ⟨cur, hc⟩ := h.bk hk
  exact hc.lt
theorem Ro.reads (h : Ro w A n c l) : Rs w A n l := by
  obtain ⟨h1, h2⟩ := h
  refine ⟨h1, fun hn => ?_⟩
  obtain ⟨bb, cap, hv, _, _⟩ := h2.form (by omega)
  have hA : A = some ⟨bb, 0, none⟩ := by injection hv
  subst hA
  refine ⟨_, rfl, fun k r hr => ?_⟩
  obtain ⟨hk, e⟩ := List.getElem?_eq_some_iff.1 hr
  obtain ⟨e1, e2⟩ := rvs_get hk
  rw [e] at e1 e2
  refine ⟨h2.cells (g := bb) rfl (k * 2) _ e1, ?_⟩
  have := h2.cells (g := bb) rfl (k * 2 + 1) _ e2
  rw [add_none] at this ⊢
  exact this
end

theorem infoRg : (Tryd.prog.info? 35).map (fun i => (i.zero, i.size, i.bytes)) = some (some (.agg #[.int .i64 0, .int .i64 0]), 2, 16) := by kernel_rfl
/-- One range is appended. -/
theorem run_append_rg {w : World} (ty : TypeId) (A : Option Addr) (n c : Nat) (l : List Rg) (h : Ro w A n c l) (a b : Int) (g2 : Nat) (t2 : TypeId) (hb : Bk w g2 t2 #[.int .i64 a, .int .i64 b]) (hn : n ≤ 1000000) :
    ∃ A' c' w', (Builtin.append_ #[22, 22] ty #[.slice A n c, .slice (some ⟨g2, 0, none⟩) 1 1]).run Tryd.prog w = .ok (.slice A' (n + 1) c') w' ∧ Ro w' A' (n + 1) c' (l ++ [(a, b)]) ∧ Only (blks A) w w' ∧ ∀ k ∈ blks A', k ∈ blks A ∨ w.heap.size ≤ k := by
  obtain ⟨i0, hi, hz0, hz1, hz2⟩ := info_parts infoRg
  obtain ⟨h1, h2⟩ := h
  obtain ⟨v', w', hrun, r1, r2, _, r4⟩ := run_append_own_at (P := Tryd.prog) w 0 22 ty 35 i0 (.agg #[.int .i64 0, .int .i64 0]) 2 16 Tryd.underlying22 hi hz0 hz1 hz2 rfl (by omega) _ n (rvs l) h2 ⟨g2, 0, none⟩ 1 1 [.int .i64 a, .int .i64 b] rfl (fun j u hu => by
    rw [add_none, Nat.zero_add, hb.cell]
    simpa using hu) (fun u hu => by simp at hu; rcases hu with rfl | rfl <;> rfl) (by unfold maxLen; omega) (by omega) (Nat.zero_le _)
  have hform : ∃ A' c', v' = .slice A' (n + 1) c' := by
    rcases r1.2 with ⟨_, h0⟩ | ⟨g, cap, cur, rfl, _⟩
    · omega
    · exact ⟨_, _, rfl⟩
  obtain ⟨A', c', rfl⟩ := hform
  refine ⟨A', c', w', hrun, ⟨by simp [h1], by rw [rvs_append]; exact r1⟩, ?_, fun k hk => ?_⟩
  · have := Only.of_grown r2
    cases A with
    | none => simpa [Value.ownBlock] using this
    | some a => simpa [Value.ownBlock] using this
  · cases A' with
    | none => cases hk
    | some a' =>
      simp only [blks_some, List.mem_singleton] at hk
      subst hk
      rcases r4 with r4 | r4
      · left
        cases A with
        | none => simp [Value.ownBlock] at r4
        | some a => simp [Value.ownBlock] at r4; simp [r4]
      · right
        simp [Value.ownBlock] at r4
        omega
theorem wpList_append_rg {ops : Array Oper} {rest : List Oper} {o : Oper} {a : Act} {w : World} {Q : Exit → Act → World → Prop} (hgd : o.guard = none) (s x : Operand)
    (ho : o.op = .call { callee := .builtin .append, args := #[s, x], argTypes := #[22, 22] }) (A : Option Addr) (n c : Nat) (l : List Rg) (hs : a.eval s = .slice A n c) (h : Ro w A n c l)
    (r1 r2 : Int) (g2 : Nat) (t2 : TypeId) (hx : a.eval x = .slice (some ⟨g2, 0, none⟩) 1 1) (hb : Bk w g2 t2 #[.int .i64 r1, .int .i64 r2]) (hn : n ≤ 1000000)
    (hK : ∀ A' c' w', Ro w' A' (n + 1) c' (l ++ [(r1, r2)]) → Only (blks A) w w' → (∀ k ∈ blks A', k ∈ blks A ∨ w.heap.size ≤ k) → wpList Tryd.prog ops Q rest (a.put o.dst (.slice A' (n + 1) c')) w') : wpList Tryd.prog ops Q (o :: rest) a w := by
  refine wpList_plain hgd fun K hK2 => ?_
  obtain ⟨A', c', w', hrun, k1, k2, k3⟩ := run_append_rg o.type A n c l h r1 r2 g2 t2 hb hn
  unfold Oper.wp execOp
  simp only [ho, resolve, invoke, builtin, Sem.run_bind, Sem.run_pure, Result.andThen_ok, List.map_toArray, List.map_cons, List.map_nil, hs, hx, hrun]
  exact hK2 _ _ (hK A' c' w' k1 k2 k3)
end Go.Proofs.YtkdaemjdiafccaaDoor
