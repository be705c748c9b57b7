/-
  The arguments opened: ints too.
-/
import Derived.Test.YtiekhgignmbaeaaOpenP
import Derived.Test.YtiekhgignmbaeaaIntz
import Derived.Lib.SmallJoins
namespace Go.Proofs.Ytiekhgignmbaeaa
open Go.Joins Go.ChangeShapes Go.WideShapes Go.ChangeAt Go.RowKit Go.Deep

theorem bytesInt : Try.prog.bytesOf 3 = 8 := by kernel_rfl
section
variable {H : Type} {enc : TypeId × Value → H} {W : World}
set_option maxRecDepth 100000 in
theorem open_nums {r : Reach} {b : Nat} {v : Value} {d : DataW H} {p : List MemPlace} (hv : Value.okWide Try.prog W r b 44 v) (h : DataW.Trod enc Try.prog W 0 (fun _ => true) true 44 v d p) :
    ∃ A n c vs, v = .slice A n c ∧ Sl W A n (ivs vs) ∧ FitsZ vs ∧ n ≤ c ∧ Weighs d c := by
  obtain ⟨A, n, c, rfl⟩ := okWide_slice Try.underlying44 hv
  obtain ⟨fuel, hf⟩ := h
  rcases open_ints Try.underlying44 Try.underlying3 cellsInt hf with ⟨hcs, _⟩ | ⟨a, len, cap, zs, hcs, _, hl, hm, hz, hx, hcell, hw⟩
  · simp [Value.cells] at hcs
    obtain ⟨rfl, rfl, rfl⟩ := hcs
    exact ⟨none, 0, 0, [], rfl, Sl.none_, fun _ h => (by cases h), Nat.zero_le _, fun R _ => Nat.zero_le _⟩
  · simp [Value.cells] at hcs
    obtain ⟨rfl, rfl, rfl⟩ := hcs
    simp only [if_true] at hz
    refine ⟨some a, n, c, zs.take n, rfl, ⟨by rw [ivs_length, List.length_take]; omega, fun _ => ⟨a, rfl, fun j u hu => ?_⟩⟩, fun z hz => int_bounds (hw z (List.mem_of_mem_take hz)), hl, fun R hR => ?_⟩
    rotate_left
    · injection hx with hx _
      have := hR _ _ hx
      simp only [lits, List.length_map, List.length_take, List.length_drop] at this
      omega
    have hj : j < n := by
      have := (List.getElem?_eq_some_iff.1 hu).1
      rw [ivs_length, List.length_take] at this
      omega
    have hz' : j < zs.length := by omega
    rw [hcell j (by omega)]
    rw [ivs_get _ _ (by rw [List.length_take]; omega)] at hu
    rw [← hu]
    simp [List.getD, hz']
end
end Go.Proofs.Ytiekhgignmbaeaa
