/-
  The document's names of flags; the flag of a word.
-/
import Derived.Test.YtamekbpmbmggoaaDoorAFold
import Derived.Test.YtamekbpmbmggoaaDoorALow
namespace Go.Proofs.YtamekbpmbmggoaaDoor
open Go.RowKit Go.Instr

theorem name_any (k : Nat) (hk : k < 5) (w : World) : Calls Tryd.prog 16 #[.int .i64 (k : Int)] w fun e w' => e = .returned (.string (St (nm k))) ∧ Only [] w w' := by
  rcases (by omega : k = 0 ∨ k = 1 ∨ k = 2 ∨ k = 3 ∨ k = 4) with rfl | rfl | rfl | rfl | rfl
  all_goals
    clear hk
    go_enter Tryd.func16, Tryd.ntmps16
    go_wp2
    go_ret
    exact ⟨rfl, (Only.refl _ _).alloc _⟩
end Go.Proofs.YtamekbpmbmggoaaDoor
