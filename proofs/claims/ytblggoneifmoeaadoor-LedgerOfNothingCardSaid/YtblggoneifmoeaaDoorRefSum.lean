/-
  The reference's Sum, bit by bit.
-/
import Derived.Test.YtblggoneifmoeaaDoorSum
namespace Go.Proofs.YtblggoneifmoeaaDoor
open Go.RowKit

def bitsK : Nat → Nat → Nat
  | 0, x => x
  | k + 1, x => bit1 (bitsK k x)
theorem bitsK_eight (x : Nat) : bitsK 8 x = bits8 x := rfl
theorem low1 (a : Nat) (ha : a < 4294967296) : bits .and .u32 (a : Int) 1 = (a : Int) % 2 := by
  have e := u32_and_nat a 1 ha (by omega)
  rw [Nat.and_two_pow_sub_one_eq_mod a 1] at e
  simpa using e

end Go.Proofs.YtblggoneifmoeaaDoor
