/-
  span: what the listed variables hold: the powers of ten.
-/
import Derived.Test.YtkdaemjdiafccaaDoorNRg
import Derived.Test.YtkdaemjdiafccaaDoorRows
import Derived.Test.YtkdaemjdiafccaaDoorShelf
import Derived.Lib.LaidTab
import Derived.Lib.AppendIntMem
namespace Go.Proofs.YtkdaemjdiafccaaDoor
open Go.RowKit

def Laid (w : World) : Prop := Lib.TabIs Tryd.prog w "internal/strconv.uint64pow10" .u64 Lib.pow10Tab
theorem gPow : Tryd.prog.globalNamed "internal/strconv.uint64pow10" = some 1 := by kernel_rfl
theorem gPowT : (Tryd.prog.globals[1]?).map (·.type) = some 76 := by kernel_rfl
theorem cellsU64 : Tryd.prog.cellsOf 69 = 1 := by kernel_rfl
theorem cellsPow : Tryd.prog.cellsOf 76 = 20 := by kernel_rfl
theorem powTab {H : Type} : (Rows.laid_internal_strconv_uint64pow10 : DataW H) = Lib.tabData .u64 Lib.pow10Tab := by rfl
theorem Laid.only {w w' : World} (h : Laid w) (o : Only [] w w') : Laid w' := by
  unfold Laid Lib.TabIs World.var? at h ⊢
  rw [gPow] at h ⊢
  simp only [Option.bind_some] at h ⊢
  have hlt : 1 < w.heap.size := by
    rcases Nat.lt_or_ge 1 w.heap.size with h1 | h1
    · exact h1
    · rw [Array.getElem?_eq_none h1] at h; cases h
  rw [o.block _ hlt (fun hm => nomatch hm)]
  exact h
theorem noHandles : (Rows.spanNoneRow.laid.all fun x => x.2.handleName?.isNone) = true := by kernel_rfl
theorem laidMet_of_H {laid : List (String × DataW Unit)} {w : World} (h : (laid.all fun x => x.2.handleName?.isNone) = true) (hm : laidMetH Tryd.prog laid w) : laidMet Tryd.prog laid w := by
  have e : (laid.filter fun x => x.2.handleName?.isSome) = [] := by
    rw [List.filter_eq_nil_iff]
    intro x hx hs
    have h2 := List.all_eq_true.1 h x hx
    simp only [Option.isNone_iff_eq_none] at h2
    rw [h2] at hs
    cases hs
  unfold laidMetH at hm
  rw [e] at hm
  exact hm
theorem laid_of {W : World} (h : laidMetH Tryd.prog Rows.spanNoneRow.laid W) : Laid W := by
  replace h := laidMet_of_H noHandles h
  obtain ⟨ps, h, _⟩ := h
  obtain ⟨_, _, _, _, _, _, _, _, _, _, h, _⟩ := h
  obtain ⟨_, _, _, _, _, _, _, _, _, _, h, _⟩ := h
  obtain ⟨g1, t1, cs1, fuel1, p1, q1, a1, b1, c1, d1, h, _⟩ := h
  obtain rfl := Option.some.inj (gPow.symm.trans a1)
  obtain rfl := Option.some.inj (gPowT.symm.trans b1)
  rw [powTab] at d1
  have hcs := Lib.cells_of_tab Tryd.underlying76 Tryd.underlying69 cellsU64 cellsPow d1
  unfold Laid Lib.TabIs
  rw [c1, ← hcs]

theorem grow_only {w w' : World} (h : ∃ k os, w' = Sort.grow (w.drewN k) os) : Only [] w w' := by
  obtain ⟨k, os, rfl⟩ := h
  exact Only.of_below (Lib.below_grow _ _ (Nat.le_refl _) _ _)
/-- A number's digits. -/
theorem Itoa_any {w : World} (hL : Laid w) (n : Int) (h0 : -9223372036854775808 ≤ n) (h1 : n ≤ 9223372036854775807) : Calls Tryd.prog 42 #[.int .i64 n] w fun e w' => e = .returned (.string (St (Lib.itoa n))) ∧ Only [] w w' :=
  (Tryd.strconv_Itoa n h0 h1 w hL).mono fun _ _ ⟨he, hw⟩ => ⟨he, grow_only hw⟩
end Go.Proofs.YtkdaemjdiafccaaDoor
