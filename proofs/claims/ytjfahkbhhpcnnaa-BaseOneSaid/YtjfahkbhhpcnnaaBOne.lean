/-
  The walk of the law BaseOne.
-/
import Derived.Test.YtjfahkbhhpcnnaaBKnown
import Derived.WalkKit
import Derived.Handy
import Derived.Deep.DeepMust
import Derived.WalkLawsBesides
import Derived.ScopeJumps
import Derived.WalkMore
import Derived.IntWalk
namespace Go.Proofs.Ytjfahkbhhpcnnaa
open Go.RowKit

open Go.Instr

theorem baseone_any (s : ByteArray) (w : World) (hsx : s.size ≤ maxLen) :
    Calls Try.prog 5 #[.string s] w fun e w' => e = .returned (.bool true) ∧ Only [] w w' := by
  unfold maxLen at hsx
  by_cases h2 : 2000 < s.size
  · have h2' : (2000 : Int) < (s.size : Int) := by omega
    go_enter Try.func5, Try.ntmps5
    go_wp2
    go_ret
    exact ⟨rfl, Only.refl _ _⟩
  · have h2' : (s.size : Int) ≤ 2000 := by omega
    cases hd : dec64 s.data.toList with
    | none =>
      have HD := Lib.hid hd
      clear hd
      go_enter Try.func5, Try.ntmps5
      go_wp2_with (first
        | (go_at_call 9; refine (Decode_no s _ (by omega) HD).mono ?_; rintro e w1 ⟨rfl, HO1⟩)
        | (go_at_call 10; refine (refDecode_no s _ (by omega) HD).mono ?_; rintro e w2 ⟨rfl, HO2⟩; have HO12 := HO1.then HO2)
        | (go_at_call 13; refine (known_any _).mono ?_; rintro e w5 ⟨rfl, HO5⟩))
      go_ret
      exact ⟨rfl, HO12.then HO5⟩
    | some d =>
      have HD := Lib.hid hd
      have HE : Hid (St (enc64 d) = s) := by show _ = _; rw [enc_dec hd]
      have hdl : d.length ≤ 1048576 := by
        have h := congrArg List.length (enc_dec hd)
        rw [enc_length, ← Lib.size_eq] at h
        omega
      clear hd
      go_enter Try.func5, Try.ntmps5
      go_wp2_with (first
        | (go_at_call 9; refine (Decode_yes s d _ (by omega) HD).mono ?_; rintro e w1 ⟨A1, n1, c1, rfl, HV1, HB1, HO1⟩; have hn1 : n1 ≤ 1048576 := (by have h := HV1.len; rw [bvs_length] at h; omega))
        | (go_at_call 11; refine (Encode_any A1 n1 c1 d _ HV1.sl HV1.cap hn1).mono ?_; rw [HE.out]; rintro e w3 ⟨rfl, HO3⟩)
        | (go_at_call 13; refine (known_any _).mono ?_; rintro e w5 ⟨rfl, HO5⟩))
      go_ret
      exact ⟨rfl, (HO1.then HO3).then HO5⟩
end Go.Proofs.Ytjfahkbhhpcnnaa
