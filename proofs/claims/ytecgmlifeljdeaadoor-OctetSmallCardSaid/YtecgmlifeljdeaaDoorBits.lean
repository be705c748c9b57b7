/-
  Bits of an int that is not negative. Plain lemmas.
-/
import Derived.Test.YtecgmlifeljdeaaDoorAppend
import Derived.WalkKit
import Derived.Laws.BitsAllLaws
namespace Go.Proofs.YtecgmlifeljdeaaDoor
open Go.RowKit

theorem i64_and_nat (a b : Nat) (ha : a < 9223372036854775808) (hb : b < 9223372036854775808) : bits .and .i64 (a : Int) (b : Int) = ((a &&& b : Nat) : Int) := by
  have hx : a &&& b < 2 ^ 63 := Nat.and_lt_two_pow _ (by omega)
  show IntKind.i64.wrap ((BitVec.ofInt 64 (a : Int) &&& BitVec.ofInt 64 (b : Int)).toNat : Int) = _
  rw [BitVec.toNat_and, ofInt_u64 a (by omega), ofInt_u64 b (by omega)]
  exact IntWalk.i64_in _ (by omega)
theorem i64_or_nat (a b : Nat) (ha : a < 9223372036854775808) (hb : b < 9223372036854775808) : bits .or .i64 (a : Int) (b : Int) = ((a ||| b : Nat) : Int) := by
  have hx : a ||| b < 2 ^ 63 := Nat.or_lt_two_pow (by omega) (by omega)
  show IntKind.i64.wrap ((BitVec.ofInt 64 (a : Int) ||| BitVec.ofInt 64 (b : Int)).toNat : Int) = _
  rw [BitVec.toNat_or, ofInt_u64 a (by omega), ofInt_u64 b (by omega)]
  exact IntWalk.i64_in _ (by omega)
theorem low7 (u : Nat) (h : u < 9223372036854775808) : bits .and .i64 (u : Int) 127 = (u : Int) % 128 := by
  have e := i64_and_nat u 127 h (by omega)
  rw [Nat.and_two_pow_sub_one_eq_mod u 7] at e
  simpa using e
theorem or128 (u : Nat) : bits .or .i64 ((u : Int) % 128) 128 = (u : Int) % 128 + 128 := by
  have e := i64_or_nat (u % 128) 128 (by omega) (by omega)
  have j : u % 128 ||| 128 = u % 128 + 128 := by
    rw [Nat.or_comm, nat_join 7 128 (u % 128) (by omega) (by omega)]; omega
  rw [j] at e
  simpa using e

theorem ofNat_byte {x : Nat} (h : x < 256) : ((UInt8.ofNat x).toNat : Int) = (x : Int) := by
  rw [UInt8.toNat_ofNat']
  omega
/-- One byte in a block of its own: what 'append(p, b)' lays first. -/
theorem sl_one (w : World) (t : TypeId) (E : Int) (b : UInt8) (h : E = (b.toNat : Int)) : Sl (w.alloc (.cells #[.int .u8 E] t)) (some ⟨w.heap.size, 0, none⟩) 1 (bvs [b]) := by
  subst h
  exact Sl.of_bk (Bk.new w t #[bv b])
end Go.Proofs.YtecgmlifeljdeaaDoor
