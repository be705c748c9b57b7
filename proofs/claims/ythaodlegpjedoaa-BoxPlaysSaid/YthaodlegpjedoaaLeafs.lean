/-
  The walks of the least functions: octet.within, law's same.
-/
import Derived.Test.YthaodlegpjedoaaRows
import Derived.Test.YthaodlegpjedoaaWords
import Derived.Test.YthaodlegpjedoaaNum
import Derived.WalkKit
import Derived.Deep.QuietTactic
import Derived.BigQuiet
namespace Go.Proofs.Ythaodlegpjedoaa
open Go.RowKit

set_option maxRecDepth 100000 in
theorem within_any (v : Int) (w : World) (h0 : -9223372036854775808 ≤ v) (h1 : v ≤ 9223372036854775807) :
    Calls Try.prog 74 #[.int .i64 v] w fun e w' => e = .returned (.int .i64 (clamp v : Nat)) ∧ w = w' := by
  by_cases ha : v < 0
  · have hc : Hid (clamp v = 0) := clamp_neg ha
    go_enter Try.func74, Try.ntmps74
    go_wp2
    go_ret
    exact ⟨by rw [hc.out]; rfl, rfl⟩
  · by_cases hb : 4611686018427387904 < v
    · have hc : Hid (clamp v = 4611686018427387904) := clamp_big hb
      go_enter Try.func74, Try.ntmps74
      go_wp2
      go_ret
      exact ⟨by rw [hc.out]; rfl, rfl⟩
    · have hc : Hid ((clamp v : Int) = v) := by
        show (clamp v : Int) = v
        rw [clamp_mid (by omega) (by omega)]; omega
      go_enter Try.func74, Try.ntmps74
      go_wp2
      go_ret
      exact ⟨by rw [hc.out]; rfl, rfl⟩

end Go.Proofs.Ythaodlegpjedoaa
