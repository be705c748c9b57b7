/-
  The reference's Sum, bit by bit.
-/
import Derived.Test.YtmommkggjiillaaDoorSum
namespace Go.Proofs.YtmommkggjiillaaDoor
open Go.RowKit

def bitsK : Nat → Nat → Nat
  | 0, x => x
  | k + 1, x => bit1 (bitsK k x)
theorem bitsK_eight (x : Nat) : bitsK 8 x = bits8 x := rfl
theorem low1 (a : Nat) (ha : a < 4294967296) : bits .and .u32 (a : Int) 1 = (a : Int) % 2 := by
  have e := u32_and_nat a 1 ha (by omega)
  rw [Nat.and_two_pow_sub_one_eq_mod a 1] at e
  simpa using e

set_option maxHeartbeats 800000 in
theorem refSum_any (A : Option Addr) (n c : Nat) (l : List UInt8) (w : World) (hs : Sl w A n (bvs l)) (hn : n ≤ 1000000000000) :
    Calls Tryd.prog 58 #[.slice A n c] w fun e w' => e = .returned (.int .u32 (sumOf l : Nat)) ∧ w = w' := by
  have hl : l.length = n := by simpa using hs.len
  have hn' : n ≤ 1000000000000 := hn
  go_enter Tryd.func58, Tryd.ntmps58
  go_wp2
  go_loop [3, 4] (fun s i => ∃ (j : Nat) (y : Nat), j ≤ n ∧ i = .int .i64 j ∧ s = .int .u32 y ∧ y < 4294967296 ∧ Hid (y = crc 4294967295 (l.take j))) (fun _ i => n - (intOf i).toNat)
  case atStart => exact ⟨0, 4294967295, Nat.zero_le _, rfl, rfl, by omega, rfl⟩
  case round =>
    obtain ⟨j, y, hj, rfl, rfl, hy, HY⟩ := hrel
    by_cases hlt : j < n
    · have hjl : j < l.length := by omega
      obtain ⟨ad, u, rfl, hu, hcell⟩ := hs.at_ hlt
      rw [bvs_get _ _ hjl] at hu
      obtain rfl : bv _ = u := by injection hu
      unfold bv at hcell
      have hb := byte_lt (l[j]'hjl)
      obtain ⟨b, hbe⟩ : ∃ b, b = (l[j]'hjl).toNat := ⟨_, rfl⟩
      rw [← hbe] at hcell hb
      obtain ⟨y0, hy0⟩ : ∃ y0, y0 = y ^^^ b := ⟨_, rfl⟩
      have l0 : y0 < 4294967296 := by rw [hy0]; exact xor_lt hy (by omega)
      have e0 := xor32 y b hy (by omega)
      rw [← hy0] at e0
      have HN : Hid (bits8 y0 = crc 4294967295 (l.take (j + 1))) := by
        show _ = _
        rw [List.take_succ_eq_append_getElem hjl, crc_snoc, ← HY.out, ← hbe, ← hy0]
      have HL := Lib.hid (bits8_lt l0)
      clear hu hbe hy0
      go_wp2
      go_loop [3, 5] (fun s i => ∃ (k : Nat) (x : Nat), k ≤ 8 ∧ i = .int .i64 k ∧ s = .int .u32 x ∧ x < 4294967296 ∧ Hid (x = bitsK k y0)) (fun _ i => 8 - (intOf i).toNat)
      case atStart => exact ⟨0, y0, Nat.zero_le _, rfl, rfl, l0, rfl⟩
      case round =>
        obtain ⟨k, x, hk, rfl, rfl, hx, HX⟩ := hrel
        by_cases hlt2 : k < 8
        · have a1 := low1 x hx
          by_cases hodd : x % 2 = 1
          · have ht : ((x : Int) % 2 == 1) = true := by rw [beq_iff_eq]; omega
            have e1 := xor32 (x / 2) 3988292384 (by omega) (by omega)
            obtain ⟨z, hz⟩ : ∃ z, z = x / 2 ^^^ 3988292384 := ⟨_, rfl⟩
            rw [← hz] at e1
            have e1' : bits .xor .u32 ((x : Int) / 2) 3988292384 = (z : Int) := by simpa using e1
            have hzl : z < 4294967296 := by rw [hz]; exact xor_lt (by omega) (by omega)
            have HZ : Hid (z = bitsK (k + 1) y0) := by
              show z = bit1 (bitsK k y0)
              rw [← HX.out, bit1, if_pos hodd, hz]
              rfl
            clear e1 hz hodd
            go_wp2
            go_round
            case rel => exact ⟨k + 1, z, by omega, by go_num, rfl, hzl, HZ⟩
            case measure => simp [intOf]; omega
          · have ht : ((x : Int) % 2 == 1) = false := by rw [beq_eq_false_iff_ne]; omega
            have HZ : Hid (x / 2 = bitsK (k + 1) y0) := by
              show x / 2 = bit1 (bitsK k y0)
              rw [← HX.out, bit1, if_neg hodd]
            clear hodd
            go_wp2
            go_round
            case rel => exact ⟨k + 1, x / 2, by omega, by go_num, by go_num, by omega, HZ⟩
            case measure => simp [intOf]; omega
        · obtain rfl : k = 8 := by omega
          go_wp2
          go_round
          case rel => exact ⟨j + 1, x, by omega, by go_num, rfl, hx, by show x = _; rw [HX.out, bitsK_eight, HN.out]⟩
          case measure => simp [intOf]; omega
    · have HF : Hid (4294967295 - y = sumOf l) := by
        show _ = _
        unfold sumOf
        rw [HY.out, List.take_of_length_le (by omega)]
      have e := not32 y hy
      rw [HF.out] at e
      clear HY
      go_wp2
      go_ret
      exact ⟨rfl, rfl⟩
end Go.Proofs.YtmommkggjiillaaDoor
