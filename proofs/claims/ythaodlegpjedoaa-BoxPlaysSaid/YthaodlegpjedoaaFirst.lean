/-
  octet.firstNumber.
-/
import Derived.Test.YthaodlegpjedoaaLeafs
import Derived.Test.YthaodlegpjedoaaBits
import Derived.Test.YthaodlegpjedoaaDec
import Derived.Handy
import Derived.Deep.DeepMust
namespace Go.Proofs.Ythaodlegpjedoaa
open Go.RowKit

set_option maxHeartbeats 1600000 in
set_option maxRecDepth 100000 in
theorem firstNumber_any (A : Option Addr) (n c : Nat) (l : List UInt8) (w : World) (hs : Sl w A n (bvs l)) (hn : n ≤ 1099511627776) :
    Calls Try.prog 86 #[.slice A n c] w fun e w' => e = .returned (.tuple #[.int .i64 (decV l : Nat), .int .i64 (decN l : Nat)]) ∧ w = w' := by
  have hl : l.length = n := by simpa using hs.len
  have hn' : n ≤ 1099511627776 := hn
  go_enter Try.func86, Try.ntmps86
  go_wp2
  go_loop [4, 9] (fun v i => ∃ (k acc : Nat), k ≤ n ∧ k ≤ 9 ∧ i = .int .i64 k ∧ v = .int .i64 acc ∧ acc < 128 ^ k ∧ Hid (dec l = decF k acc (l.drop k))) (fun _ i => n - (intOf i).toNat)
  case atStart => exact ⟨0, 0, Nat.zero_le _, Nat.zero_le _, rfl, rfl, by omega, rfl⟩
  case round =>
    obtain ⟨k, acc, hk, hk9, rfl, rfl, hacc, HD⟩ := hrel
    by_cases hlt : k < n
    · have hkl : k < l.length := by omega
      obtain ⟨ad, u, rfl, hu, hcell⟩ := hs.at_ hlt
      rw [bvs_get _ _ hkl] at hu
      obtain rfl : bv _ = u := by injection hu
      unfold bv at hcell
      have hdrop : l.drop k = l[k] :: l.drop (k + 1) := List.drop_eq_getElem_cons hkl
      have hb := byte_lt l[k]
      rw [hdrop] at HD
      have HD' := HD.out
      clear HD hdrop hu
      generalize l[k] = b at *
      unfold decF at HD'
      generalize b.toNat = x at *
      have hk8 : k ≠ 9 → k ≤ 8 := by omega
      by_cases h9 : k = 9
      · rw [if_pos h9] at HD'
        have HV : Hid (decV l = 0 ∧ decN l = 0) := by
          show _ ∧ _
          simp [decV, decN, HD']
        have hx9 : ((k : Int) == 9) = true := by rw [beq_iff_eq]; omega
        clear HD' h9 hk8
        go_wp2
        go_ret2
        exact ⟨by rw [HV.out.1, HV.out.2]; rfl, rfl⟩
      · rw [if_neg h9] at HD'
        have hk8' := hk8 h9
        clear hk8
        by_cases hx : x < 128
        · have ea : bits .and .u8 (x : Int) 127 = (x : Int) := by rw [u8_low7 x hb]; omega
          have eo := u8_top_small x hx
          have e2 := or_digits acc x k hk8' hacc hx
          rw [if_pos hx] at HD'
          have hpos : 0 < 128 ^ k := Nat.pow_pos (by omega)
          have hle : acc + x * 128 ^ k < 128 ^ (k + 1) := by
            rw [Nat.pow_succ]
            have : x * 128 ^ k ≤ 127 * 128 ^ k := Nat.mul_le_mul_right _ (by omega)
            omega
          have hle9 : (128 : Nat) ^ (k + 1) ≤ 128 ^ 9 := Nat.pow_le_pow_right (by omega) (by omega)
          generalize hy : acc + x * 128 ^ k = y at *
          have hy63 : y < 9223372036854775808 := by omega
          clear hle hle9 hpos hacc hy
          by_cases hbad : (x = 0 ∧ 0 < k) ∨ 4611686018427387904 < y
          · rw [if_pos hbad] at HD'
            have HV : Hid (decV l = 0 ∧ decN l = 0) := by
              show _ ∧ _
              simp [decV, decN, HD']
            clear HD'
            by_cases hx0 : x = 0
            · have hxx : ((x : Int) == 0) = true := by rw [beq_iff_eq]; omega
              clear hx0
              by_cases hk0 : 0 < k
              · clear hbad
                go_wp2
                go_ret2
                exact ⟨by rw [HV.out.1, HV.out.2]; rfl, rfl⟩
              · have hy2 : 4611686018427387904 < y := by omega
                clear hbad
                go_wp2
                go_ret2
                exact ⟨by rw [HV.out.1, HV.out.2]; rfl, rfl⟩
            · have hxx : ((x : Int) == 0) = false := by rw [beq_eq_false_iff_ne]; omega
              have hy2 : 4611686018427387904 < y := by omega
              clear hbad hx0
              go_wp2
              go_ret2
              exact ⟨by rw [HV.out.1, HV.out.2]; rfl, rfl⟩
          · rw [if_neg hbad] at HD'
            have HV : Hid (decV l = y ∧ decN l = k + 1) := by
              show _ ∧ _
              simp [decV, decN, HD']
            have hy2 : y ≤ 4611686018427387904 := by omega
            clear HD'
            by_cases hx0 : x = 0
            · have hxx : ((x : Int) == 0) = true := by rw [beq_iff_eq]; omega
              have hk0 : k ≤ 0 := by omega
              clear hx0 hbad
              go_wp2
              go_ret2
              exact ⟨by rw [HV.out.1, HV.out.2]; rfl, rfl⟩
            · have hxx : ((x : Int) == 0) = false := by rw [beq_eq_false_iff_ne]; omega
              clear hbad hx0
              go_wp2
              go_ret2
              exact ⟨by rw [HV.out.1, HV.out.2]; rfl, rfl⟩
        · have ea := u8_low7 x hb
          have eo := u8_top_big x hx hb
          have e2 := or_digits acc (x % 128) k hk8' hacc (by omega)
          rw [if_neg hx] at HD'
          have HN := Lib.hid HD'
          have hle : acc + x % 128 * 128 ^ k < 128 ^ (k + 1) := by
            rw [Nat.pow_succ]
            have : x % 128 * 128 ^ k ≤ 127 * 128 ^ k := Nat.mul_le_mul_right _ (by omega)
            omega
          generalize acc + x % 128 * 128 ^ k = y at *
          have e2' : bits .or .i64 (acc : Int) (wrap64 ((x : Int) % 128 * 2 ^ (7 * k))) = (y : Int) := by simpa using e2
          clear HD' e2
          go_wp2
          go_round
          case rel => exact ⟨k + 1, y, by omega, by omega, by go_num, rfl, hle, HN.out⟩
          case measure => simp [intOf]; omega
    · have HV : Hid (decV l = 0 ∧ decN l = 0) := by
        have h := HD.out
        rw [List.drop_of_length_le (by omega)] at h
        show _ ∧ _
        unfold decF at h
        simp [decV, decN, h]
      go_wp2
      go_ret2
      exact ⟨by rw [HV.out.1, HV.out.2]; rfl, rfl⟩
end Go.Proofs.Ythaodlegpjedoaa
