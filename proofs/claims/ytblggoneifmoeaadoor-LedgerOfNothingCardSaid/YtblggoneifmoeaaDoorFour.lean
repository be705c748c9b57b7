/-
  frame.wordOf, frame.valueOf; the reference's Four, FromFour.
-/
import Derived.Test.YtblggoneifmoeaaDoorFMath
import Derived.Test.YtblggoneifmoeaaDoorForms
import Derived.Test.YtblggoneifmoeaaDoorQuiet
import Derived.BigQuiet
namespace Go.Proofs.YtblggoneifmoeaaDoor
open Go.RowKit

/-- The call returns a number in four bytes, in new memory. -/
def Word (w : World) (v : Nat) (e : Ending) (w' : World) : Prop :=
  ∃ A c, e = .returned (.slice A 4 c) ∧ Own w' 5 A 4 c (bvs (four v)) ∧ Only [] w w' ∧ ∀ k ∈ blks A, w.heap.size ≤ k

set_option maxHeartbeats 400000 in
theorem wordOf_any (v : Nat) (w : World) (hv : v < 4294967296) : Calls Tryd.prog 59 #[.int .u32 v] w (Word w v) := by
  go_enter Tryd.func59, Tryd.ntmps59
  go_wp2
  go_ret
  refine ⟨_, 4, rfl, ?_, (Only.refl _ _).alloc _, fun k hk => ?_⟩
  · have e : bvs (four v) = [.int .u8 ((v : Int) % 256), .int .u8 ((v : Int) / 256 % 256), .int .u8 ((v : Int) / 65536 % 256), .int .u8 ((v : Int) / 16777216)] := by
      simp only [four, bvs, List.map_cons, List.map_nil, bv]
      rw [ofNat_toNat (by omega), ofNat_toNat (by omega), ofNat_toNat (by omega), ofNat_toNat (by omega)]
      simp
      omega
    rw [e]
    exact World.ownsRow_lit w #[.int .u8 ((v : Int) % 256), .int .u8 ((v : Int) / 256 % 256), .int .u8 ((v : Int) / 65536 % 256), .int .u8 ((v : Int) / 16777216)] 4 (Nat.zero_le _) (by decide) rfl
  · simp at hk; omega

theorem or32_add (k a b : Nat) (ha : a < 4294967296) (hb : b < 4294967296) (hk : b % 2 ^ k = 0) (hl : a < 2 ^ k) : bits .or .u32 (a : Int) (b : Int) = ((a + b : Nat) : Int) := by
  rw [u32_or_nat a b ha hb, Nat.or_comm, nat_join k b a hk hl, Nat.add_comm]
theorem four_or (x0 x1 x2 x3 : Nat) (b0 : x0 < 256) (b1 : x1 < 256) (b2 : x2 < 256) (b3 : x3 < 256) :
    bits .or .u32 (bits .or .u32 (bits .or .u32 (x0 : Int) ((x1 : Int) * 256)) ((x2 : Int) * 65536)) ((x3 : Int) * 16777216) = ((x0 + 256 * x1 + 65536 * x2 + 16777216 * x3 : Nat) : Int) := by
  have e1 := or32_add 8 x0 (x1 * 256) (by omega) (by omega) (by omega) (by omega)
  have e2 := or32_add 16 (x0 + x1 * 256) (x2 * 65536) (by omega) (by omega) (by omega) (by omega)
  have e3 := or32_add 24 (x0 + x1 * 256 + x2 * 65536) (x3 * 16777216) (by omega) (by omega) (by omega) (by omega)
  simp only [Int.natCast_mul, Int.natCast_add] at e1 e2 e3
  simp only [Int.natCast_mul, Int.natCast_add]
  rw [show ((256 : Nat) : Int) = 256 from rfl] at e1 e2 e3
  rw [show ((65536 : Nat) : Int) = 65536 from rfl] at e2 e3
  rw [show ((16777216 : Nat) : Int) = 16777216 from rfl] at e3
  rw [e1, e2, e3]
  omega

set_option maxHeartbeats 400000 in
theorem valueOf_any (A : Option Addr) (n c : Nat) (l : List UInt8) (w : World) (hs : Sl w A n (bvs l)) (hn : 4 ≤ n) :
    Calls Tryd.prog 78 #[.slice A n c] w (Quiet w (.int .u32 (from4 l : Nat))) := by
  have hl : l.length = n := by simpa using hs.len
  match l, hl with
  | [], hl => simp at hl; omega
  | [_], hl => simp at hl; omega
  | [_, _], hl => simp at hl; omega
  | [_, _, _], hl => simp at hl; omega
  | a0 :: a1 :: a2 :: a3 :: l', hl =>
    obtain ⟨ad, e, hc⟩ := hs.2 (by omega)
    subst e
    have c0 := hc 0 (bv a0) rfl
    have c1 : w.cell? ⟨ad.block, ad.off + 1, none⟩ = some (bv a1) := hc 1 (bv a1) rfl
    have c2 : w.cell? ⟨ad.block, ad.off + 2, none⟩ = some (bv a2) := hc 2 (bv a2) rfl
    have c3 : w.cell? ⟨ad.block, ad.off + 3, none⟩ = some (bv a3) := hc 3 (bv a3) rfl
    have b0 := byte_lt a0
    have b1 := byte_lt a1
    have b2 := byte_lt a2
    have b3 := byte_lt a3
    rw [add_zero] at c0
    unfold bv at c0 c1 c2 c3
    have j0 : 0 < n := by omega
    have j1 : 1 < n := by omega
    have j2 : 2 < n := by omega
    have j3 : 3 < n := by omega
    have i0 : (0 : Int) < (n : Int) := by omega
    have i1 : (1 : Int) < (n : Int) := by omega
    have i2 : (2 : Int) < (n : Int) := by omega
    have i3 : (3 : Int) < (n : Int) := by omega
    obtain ⟨x0, hx0⟩ : ∃ x, x = a0.toNat := ⟨_, rfl⟩
    obtain ⟨x1, hx1⟩ : ∃ x, x = a1.toNat := ⟨_, rfl⟩
    obtain ⟨x2, hx2⟩ : ∃ x, x = a2.toNat := ⟨_, rfl⟩
    obtain ⟨x3, hx3⟩ : ∃ x, x = a3.toNat := ⟨_, rfl⟩
    have HF : Hid (from4 (a0 :: a1 :: a2 :: a3 :: l') = x0 + 256 * x1 + 65536 * x2 + 16777216 * x3) := by
      show _ = _
      rw [hx0, hx1, hx2, hx3]
      rfl
    rw [← hx0] at c0 b0
    rw [← hx1] at c1 b1
    rw [← hx2] at c2 b2
    rw [← hx3] at c3 b3
    rw [HF.out]
    clear hc hs hl hx0 hx1 hx2 hx3 HF
    go_enter Tryd.func78, Tryd.ntmps78
    go_wp2
    go_quiet (fail)
    go_wp2
    go_ret
    rw [four_or x0 x1 x2 x3 b0 b1 b2 b3]
    exact ⟨rfl, nq, rfl⟩
end Go.Proofs.YtblggoneifmoeaaDoor
