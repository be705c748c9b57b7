/-
  Encode where its answer has a name; the low bits of an int.
-/
import Derived.Test.YtjfahkbhhpcnnaaBKnown
import Derived.WalkKit
import Derived.Handy
import Derived.Deep.DeepMust
import Derived.WalkLawsBesides
import Derived.ScopeJumps
import Derived.WalkMore
import Derived.IntWalk
namespace Go.Proofs.Ytjfahkbhhpcnnaa
open Go.RowKit

open Go.Instr

theorem Encode_as (A : Option Addr) (n c : Nat) (b : List UInt8) (t : ByteArray) (w : World) (ht : Hid (t = St (enc64 b))) (hb : Sl w A n (bvs b)) (hc : n ≤ c) (hn : n ≤ 1048576) :
    Calls Try.prog 11 #[.slice A n c] w fun e w' => e = .returned (.string t) ∧ Only [] w w' := by
  rw [ht.out]
  exact Encode_any A n c b w hb hc hn
theorem low16 (n : Int) : bits .and .i64 n 65535 = n % 65536 := by
  have h16 : (BitVec.ofInt 64 65535).toNat = 2 ^ 16 - 1 := by decide
  have key : (BitVec.ofInt 64 n &&& BitVec.ofInt 64 65535).toNat = (n % ((2 ^ 64 : Nat) : Int)).toNat % 2 ^ 16 := by
    rw [BitVec.toNat_and, BitVec.toNat_ofInt, h16, Nat.and_two_pow_sub_one_eq_mod]
  show IntKind.i64.wrap ((BitVec.ofInt 64 n &&& BitVec.ofInt 64 65535).toNat : Nat) = n % 65536
  rw [key, IntKind.wrap_i64]
  omega
end Go.Proofs.Ytjfahkbhhpcnnaa
