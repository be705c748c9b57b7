/-
  The walk of the law BaseBack.
-/
import Derived.Test.YtjfahkbhhpcnnaaBKnown
import Derived.WalkKit
import Derived.Handy
import Derived.Deep.DeepMust
import Derived.WalkLawsBesides
import Derived.ScopeJumps
import Derived.WalkMore
import Derived.IntWalk
namespace Go.Proofs.Ytjfahkbhhpcnnaa
open Go.RowKit

open Go.Instr

theorem baseback_any (A : Option Addr) (n c : Nat) (b : List UInt8) (w : World) (hb : Sl w A n (bvs b)) (hc : n ≤ c) (hmx : n ≤ maxLen) :
    Calls Try.prog 4 #[.slice A n c] w fun e w' => e = .returned (.bool true) ∧ Only [] w w' := by
  unfold maxLen at hmx
  by_cases h1 : 2000 < n
  · have h1' : (2000 : Int) < (n : Int) := by omega
    go_enter Try.func4, Try.ntmps4
    go_wp2
    go_ret
    exact ⟨rfl, Only.refl _ _⟩
  · have h1' : (n : Int) ≤ 2000 := by omega
    have hcv0 := str_of hb c
    have HBL : Hid (b.length = n) := by have := hb.len; rw [bvs_length] at this; exact this
    obtain ⟨u, hu⟩ : ∃ u, u = St b := ⟨_, rfl⟩
    rw [← hu] at hcv0
    have HU := Lib.hid hu
    clear hu
    go_enter Try.func4, Try.ntmps4
    go_wp2_with (first
      | (go_at_call 11; refine (Encode_t A n c b _ hb hc (by omega)).mono ?_; rintro e w1 ⟨t, rfl, HT, HO1⟩; have HD : Hid (dec64 t.data.toList = some b) := (by show _ = _; rw [HT.out, St_list]; exact dec_enc b); have hts : t.size ≤ 1048576 := (by rw [HT.out, St_size, enc_length, HBL.out]; omega); have hlen : ((t.size : Int) == ((n : Int) + 2) / 3 * 4) = true := (by rw [beq_iff_eq, HT.out, St_size, enc_length, HBL.out]; omega); clear hcv0)
      | (go_at_call 9; refine (Decode_yes t b _ hts HD).mono ?_; rintro e w2 ⟨A1, n1, c1, rfl, HV1, HB1, HO2⟩; have HO12 := HO1.then HO2; have hcv := str_of HV1.sl c1; have hcv2 := str_of (hb.keep HO12) c; rw [← HU.out] at hcv hcv2)
      | (go_at_call 13; refine (known_any _).mono ?_; rintro e w5 ⟨rfl, HO5⟩))
    go_ret
    exact ⟨rfl, HO12.then HO5⟩
end Go.Proofs.Ytjfahkbhhpcnnaa
