/-
  The walk of the law BaseTells.
-/
import Derived.Test.YtjfahkbhhpcnnaaBKnown
import Derived.WalkKit
import Derived.Handy
import Derived.Deep.DeepMust
import Derived.WalkLawsBesides
import Derived.ScopeJumps
import Derived.WalkMore
import Derived.IntWalk
namespace Go.Proofs.Ytjfahkbhhpcnnaa
open Go.RowKit

open Go.Instr

theorem basetells_any (A : Option Addr) (n c : Nat) (b : List UInt8) (s : ByteArray) (w : World) (hb : Sl w A n (bvs b)) (hc : n ≤ c) (hmx : n ≤ maxLen) (hsx : s.size ≤ maxLen) :
    Calls Try.prog 3 #[.slice A n c, .string s] w fun e w' => e = .returned (.bool true) ∧ Only [] w w' := by
  unfold maxLen at hmx hsx
  by_cases h1 : 2000 < n
  · have h1' : (2000 : Int) < (n : Int) := by omega
    go_enter Try.func3, Try.ntmps3
    go_wp2
    go_ret
    exact ⟨rfl, Only.refl _ _⟩
  · have h1' : (n : Int) ≤ 2000 := by omega
    by_cases h2 : 2000 < s.size
    · have h2' : (2000 : Int) < (s.size : Int) := by omega
      go_enter Try.func3, Try.ntmps3
      go_wp2
      go_ret
      exact ⟨rfl, Only.refl _ _⟩
    · have h2' : (s.size : Int) ≤ 2000 := by omega
      cases hd : dec64 s.data.toList with
      | none =>
        have HD := Lib.hid hd
        clear hd
        go_enter Try.func3, Try.ntmps3
        go_wp2_with (first
          | (go_at_call 9; refine (Decode_no s _ (by omega) HD).mono ?_; rintro e w1 ⟨rfl, HO1⟩)
          | (go_at_call 10; refine (refDecode_no s _ (by omega) HD).mono ?_; rintro e w2 ⟨rfl, HO2⟩; have HO12 := HO1.then HO2)
          | (go_at_call 11; refine (Encode_t A n c b _ (hb.keep HO12) hc (by omega)).mono ?_; rintro e w3 ⟨t, rfl, HT, HO3⟩; have HO13 := HO12.then HO3)
          | (go_at_call 12; refine (refEncode_t A n c b t _ HT (hb.keep HO13) (by omega)).mono ?_; rintro e w4 ⟨rfl, HO4⟩; have HO14 := HO13.then HO4; have hcv := str_of (w := w4) (A := none) (l := []) Sl.none_ 0)
          | (go_at_call 13; refine (known_any _).mono ?_; rintro e w5 ⟨rfl, HO5⟩))
        go_ret
        exact ⟨rfl, HO14.then HO5⟩
      | some d =>
        have HD := Lib.hid hd
        clear hd
        go_enter Try.func3, Try.ntmps3
        go_wp2_with (first
          | (go_at_call 9; refine (Decode_yes s d _ (by omega) HD).mono ?_; rintro e w1 ⟨A1, n1, c1, rfl, HV1, HB1, HO1⟩)
          | (go_at_call 10; refine (refDecode_yes s d _ (by omega) HD).mono ?_; rintro e w2 ⟨A2, n2, c2, rfl, HV2, HO2⟩; have HO12 := HO1.then HO2)
          | (go_at_call 11; refine (Encode_t A n c b _ (hb.keep HO12) hc (by omega)).mono ?_; rintro e w3 ⟨t, rfl, HT, HO3⟩; have HO13 := HO12.then HO3)
          | (go_at_call 12; refine (refEncode_t A n c b t _ HT (hb.keep HO13) (by omega)).mono ?_; rintro e w4 ⟨rfl, HO4⟩; have HO14 := HO13.then HO4; have hcv := str_of ((HV1.keep HO2).keep (HO3.then HO4)).sl c1; have hcv2 := str_of (HV2.keep (HO3.then HO4)) c2)
          | (go_at_call 13; refine (known_any _).mono ?_; rintro e w5 ⟨rfl, HO5⟩))
        go_ret
        exact ⟨rfl, HO14.then HO5⟩
end Go.Proofs.Ytjfahkbhhpcnnaa
