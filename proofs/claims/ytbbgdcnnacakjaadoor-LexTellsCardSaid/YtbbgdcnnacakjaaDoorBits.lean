/-
  Bits of an int that is not negative. Plain lemmas.
-/
import Derived.Test.YtbbgdcnnacakjaaDoorAppend
import Derived.WalkKit
import Derived.Laws.BitsAllLaws
namespace Go.Proofs.YtbbgdcnnacakjaaDoor
open Go.RowKit

theorem i64_and_nat (a b : Nat) (ha : a < 9223372036854775808) (hb : b < 9223372036854775808) : bits .and .i64 (a : Int) (b : Int) = ((a &&& b : Nat) : Int) := by
  have hx : a &&& b < 2 ^ 63 := Nat.and_lt_two_pow _ (by omega)
  show IntKind.i64.wrap ((BitVec.ofInt 64 (a : Int) &&& BitVec.ofInt 64 (b : Int)).toNat : Int) = _
  rw [BitVec.toNat_and, ofInt_u64 a (by omega), ofInt_u64 b (by omega)]
  exact IntWalk.i64_in _ (by omega)
theorem i64_or_nat (a b : Nat) (ha : a < 9223372036854775808) (hb : b < 9223372036854775808) : bits .or .i64 (a : Int) (b : Int) = ((a ||| b : Nat) : Int) := by
  have hx : a ||| b < 2 ^ 63 := Nat.or_lt_two_pow (by omega) (by omega)
  show IntKind.i64.wrap ((BitVec.ofInt 64 (a : Int) ||| BitVec.ofInt 64 (b : Int)).toNat : Int) = _
  rw [BitVec.toNat_or, ofInt_u64 a (by omega), ofInt_u64 b (by omega)]
  exact IntWalk.i64_in _ (by omega)
theorem low7 (u : Nat) (h : u < 9223372036854775808) : bits .and .i64 (u : Int) 127 = (u : Int) % 128 := by
  have e := i64_and_nat u 127 h (by omega)
  rw [Nat.and_two_pow_sub_one_eq_mod u 7] at e
  simpa using e
theorem or128 (u : Nat) : bits .or .i64 ((u : Int) % 128) 128 = (u : Int) % 128 + 128 := by
  have e := i64_or_nat (u % 128) 128 (by omega) (by omega)
  have j : u % 128 ||| 128 = u % 128 + 128 := by
    rw [Nat.or_comm, nat_join 7 128 (u % 128) (by omega) (by omega)]; omega
  rw [j] at e
  simpa using e

theorem ofNat_byte {x : Nat} (h : x < 256) : ((UInt8.ofNat x).toNat : Int) = (x : Int) := by
  rw [UInt8.toNat_ofNat']
  omega
/-- One byte in a block of its own: what 'append(p, b)' lays first. -/
theorem sl_one (w : World) (t : TypeId) (E : Int) (b : UInt8) (h : E = (b.toNat : Int)) : Sl (w.alloc (.cells #[.int .u8 E] t)) (some ⟨w.heap.size, 0, none⟩) 1 (bvs [b]) := by
  subst h
  exact Sl.of_bk (Bk.new w t #[bv b])
theorem low30 (n : Int) : bits .and .i64 n 1073741823 = n % 1073741824 := by
  have h30 : (BitVec.ofInt 64 1073741823).toNat = 2 ^ 30 - 1 := by decide
  have key : (BitVec.ofInt 64 n &&& BitVec.ofInt 64 1073741823).toNat = (n % ((2 ^ 64 : Nat) : Int)).toNat % 2 ^ 30 := by
    rw [BitVec.toNat_and, BitVec.toNat_ofInt, h30, Nat.and_two_pow_sub_one_eq_mod]
  show IntKind.i64.wrap ((BitVec.ofInt 64 n &&& BitVec.ofInt 64 1073741823).toNat : Nat) = n % 1073741824
  rw [key, IntKind.wrap_i64]
  omega
/-- Seven digits more, behind those that are there. -/
theorem or_digits (acc y k : Nat) (hk : k ≤ 8) (ha : acc < 128 ^ k) (hy : y < 128) : bits .or .i64 (acc : Int) (wrap64 ((y : Int) * 2 ^ (7 * k))) = ((acc + y * 128 ^ k : Nat) : Int) := by
  have hp : (128 : Nat) ^ k = 2 ^ (7 * k) := by rw [Nat.pow_mul]
  have hle : (2 : Nat) ^ (7 * k) ≤ 2 ^ 56 := Nat.pow_le_pow_right (by omega) (by omega)
  have hm : y * 2 ^ (7 * k) ≤ 127 * 2 ^ 56 := Nat.mul_le_mul (by omega) hle
  have hc : ((y : Int) * 2 ^ (7 * k)) = ((y * 2 ^ (7 * k) : Nat) : Int) := by rw [Int.natCast_mul, Int.natCast_pow]; rfl
  rw [hp] at ha ⊢
  rw [hc, IntWalk.wrap64_in _ (by omega), i64_or_nat acc _ (by omega) (by omega), Nat.or_comm, nat_join (7 * k) _ acc (Nat.mul_mod_left _ _) ha, Nat.add_comm]
theorem u8_low7 (x : Nat) (h : x < 256) : bits .and .u8 (x : Int) 127 = (x : Int) % 128 := by
  have e := u8_and_nat x 127 h (by omega)
  rw [Nat.and_two_pow_sub_one_eq_mod x 7] at e
  simpa using e
theorem u8_top_small (x : Nat) (h : x < 128) : bits .and .u8 (x : Int) 128 = 0 := by
  have e := u8_and_nat x 128 (by omega) (by omega)
  have j : x &&& 128 = 0 := by
    have := nat_bit 7 x
    rw [show (2 : Nat) ^ 7 = 128 from rfl] at this
    rw [this]; omega
  rw [j] at e
  simpa using e
theorem u8_top_big (x : Nat) (h : ¬ x < 128) (h' : x < 256) : bits .and .u8 (x : Int) 128 = 128 := by
  have e := u8_and_nat x 128 (by omega) (by omega)
  have j : x &&& 128 = 128 := by
    have := nat_bit 7 x
    rw [show (2 : Nat) ^ 7 = 128 from rfl] at this
    rw [this]; omega
  rw [j] at e
  simpa using e
end Go.Proofs.YtbbgdcnnacakjaaDoor
