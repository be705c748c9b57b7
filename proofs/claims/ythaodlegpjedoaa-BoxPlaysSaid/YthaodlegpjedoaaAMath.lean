/-
  mark: small letters, the five words, words as flags, flags as a text. Plain mathematics: nothing of the program stands here.
-/
import Derived.Test.YthaodlegpjedoaaStr
import Derived.Test.YthaodlegpjedoaaBits
import Derived.Lib.Join
import Derived.Lib.Fold
namespace Go.Proofs.Ythaodlegpjedoaa
open Go.RowKit

/-! ### small letters -/
def low (x : UInt8) : UInt8 := if 65 ≤ x ∧ x ≤ 90 then x + 32 else x
def lows (l : List UInt8) : List UInt8 := l.map low
def sameT (a b : List UInt8) : Bool := lows a == lows b
theorem lows_length (l : List UInt8) : (lows l).length = l.length := by simp [lows]
theorem sameT_len {a b : List UInt8} (h : sameT a b = true) : a.length = b.length := by
  have := congrArg List.length (beq_iff_eq.1 h)
  simpa [lows] using this
theorem low_nat (x : UInt8) : (low x).toNat = if 65 ≤ x.toNat ∧ x.toNat ≤ 90 then x.toNat + 32 else x.toNat := by
  unfold low
  by_cases h : 65 ≤ x.toNat ∧ x.toNat ≤ 90
  · rw [if_pos h, if_pos ⟨UInt8.le_iff_toNat_le.2 h.1, UInt8.le_iff_toNat_le.2 h.2⟩, UInt8.toNat_add]
    show (x.toNat + 32) % 256 = _
    omega
  · rw [if_neg h, if_neg (fun h2 : 65 ≤ x ∧ x ≤ 90 => h ⟨UInt8.le_iff_toNat_le.1 h2.1, UInt8.le_iff_toNat_le.1 h2.2⟩)]
theorem low_eq (x y : UInt8) : low x = low y ↔ (x.toNat = y.toNat ∨ (65 ≤ x.toNat ∧ x.toNat ≤ 90 ∧ y.toNat = x.toNat + 32) ∨ (65 ≤ y.toNat ∧ y.toNat ≤ 90 ∧ x.toNat = y.toNat + 32)) := by
  rw [← UInt8.toNat_inj, low_nat, low_nat]
  split <;> split <;> omega
theorem sameT_cons (x y : UInt8) (a b : List UInt8) : sameT (x :: a) (y :: b) = (decide (low x = low y) && sameT a b) := by
  unfold sameT lows
  by_cases h : low x = low y <;> simp [h]
theorem sameT_big {a b : List UInt8} (h : sameT a b = true) (hb : ∀ y ∈ b, y.toNat < 128) : ∀ x ∈ a, x.toNat < 128 := by
  intro x hx
  have he := beq_iff_eq.1 h
  obtain ⟨i, hi, rfl⟩ := List.getElem_of_mem hx
  have hl := sameT_len h
  have e : low a[i] = low (b[i]'(by omega)) := by
    have := congrArg (·[i]?) he
    simp only [lows, List.getElem?_map] at this
    rw [List.getElem?_eq_getElem hi, List.getElem?_eq_getElem (by omega : i < b.length)] at this
    simpa using this
  have := (low_eq _ _).1 e
  have := hb _ (List.getElem_mem (by omega : i < b.length))
  omega

/-! ### the five words -/
def nm : Nat → List UInt8
  | 0 => [92, 83, 101, 101, 110]
  | 1 => [92, 65, 110, 115, 119, 101, 114, 101, 100]
  | 2 => [92, 70, 108, 97, 103, 103, 101, 100]
  | 3 => [92, 68, 101, 108, 101, 116, 101, 100]
  | _ => [92, 68, 114, 97, 102, 116]
/-- No letter beyond A to Z folds to one of a word's but the long s: the bytes of the words. -/
def Plain (l : List UInt8) : Prop := ∀ y ∈ l, y.toNat < 128 ∧ y.toNat ≠ 75 ∧ y.toNat ≠ 107
theorem nm_plain (k : Nat) : Plain (nm k) := by
  unfold nm
  split <;> (unfold Plain; decide)
theorem nm_len (k : Nat) : 5 ≤ (nm k).length ∧ (nm k).length ≤ 9 := by
  unfold nm
  split <;> decide
/-- The word's flag; 0 if it is none. -/
def flagL (l : List UInt8) : Nat := if sameT l (nm 0) then 1 else if sameT l (nm 1) then 2 else if sameT l (nm 2) then 4 else if sameT l (nm 3) then 8 else if sameT l (nm 4) then 16 else 0
theorem flagL_lt (l : List UInt8) : flagL l < 32 := by
  unfold flagL
  repeat' split
  all_goals omega
/-- The words' flags, behind those that there are. -/
def parseL : List (List UInt8) → Nat → Option Nat
  | [], f => some f
  | l :: r, f => if flagL l = 0 then none else parseL r (f ||| flagL l)
theorem parseL_lt : ∀ (ls : List (List UInt8)) (f g : Nat), f < 32 → parseL ls f = some g → g < 32
  | [], f, g, hf, h => by injection h with h; omega
  | l :: r, f, g, hf, h => by
    unfold parseL at h
    split at h
    · cases h
    · exact parseL_lt r _ g (Nat.or_lt_two_pow (n := 5) hf (flagL_lt l)) h
def parseF (ls : List (List UInt8)) : Nat := (parseL ls 0).getD 0
def parseE (ls : List (List UInt8)) : Nat := if (parseL ls 0).isSome then 0 else 3
theorem sameT_of (l : List UInt8) (j k : Nat) (hj : j < 5) (hk : k < 5) (h1 : sameT l (nm j) = true) (h2 : sameT l (nm k) = true) : j = k := by
  have e : lows (nm j) = lows (nm k) := (beq_iff_eq.1 h1).symm.trans (beq_iff_eq.1 h2)
  have key : ∀ j < 5, ∀ k < 5, lows (nm j) = lows (nm k) → j = k := by decide
  exact key j hj k hk e
theorem flagL_yes {l : List UInt8} {k : Nat} (hk : k < 5) (h : sameT l (nm k) = true) : flagL l = 2 ^ k := by
  have no : ∀ j, j < 5 → j ≠ k → sameT l (nm j) = false := fun j hj hne => by
    cases h1 : sameT l (nm j) with
    | false => rfl
    | true => exact absurd (sameT_of l j k hj hk h1 h) hne
  unfold flagL
  rcases (by omega : k = 0 ∨ k = 1 ∨ k = 2 ∨ k = 3 ∨ k = 4) with rfl | rfl | rfl | rfl | rfl
  · simp [h]
  · simp [h, no 0 (by omega) (by omega)]
  · simp [h, no 0 (by omega) (by omega), no 1 (by omega) (by omega)]
  · simp [h, no 0 (by omega) (by omega), no 1 (by omega) (by omega), no 2 (by omega) (by omega)]
  · simp [h, no 0 (by omega) (by omega), no 1 (by omega) (by omega), no 2 (by omega) (by omega), no 3 (by omega) (by omega)]
theorem flagL_no {l : List UInt8} (h : ∀ k < 5, sameT l (nm k) = false) : flagL l = 0 := by
  simp [flagL, h 0 (by omega), h 1 (by omega), h 2 (by omega), h 3 (by omega), h 4 (by omega)]

/-! ### bits -/
theorem i64_bit (n : Int) (k : Nat) (hk : k < 5) : bits .and .i64 n ((2 ^ k : Nat) : Int) = n / (2 ^ k : Nat) % 2 * (2 ^ k : Nat) := by
  have hb : (BitVec.ofInt 64 ((2 ^ k : Nat) : Int)).toNat = 2 ^ k := by
    rcases (by omega : k = 0 ∨ k = 1 ∨ k = 2 ∨ k = 3 ∨ k = 4) with rfl | rfl | rfl | rfl | rfl <;> decide
  have key : (BitVec.ofInt 64 n &&& BitVec.ofInt 64 ((2 ^ k : Nat) : Int)).toNat = (n % ((2 ^ 64 : Nat) : Int)).toNat / 2 ^ k % 2 * 2 ^ k := by
    rw [BitVec.toNat_and, BitVec.toNat_ofInt, hb, nat_bit]
  show IntKind.i64.wrap ((BitVec.ofInt 64 n &&& BitVec.ofInt 64 ((2 ^ k : Nat) : Int)).toNat : Nat) = _
  rw [key, IntKind.wrap_i64]
  rcases (by omega : k = 0 ∨ k = 1 ∨ k = 2 ∨ k = 3 ∨ k = 4) with rfl | rfl | rfl | rfl | rfl <;> simp <;> omega
/-- Has the number this bit? -/
def bitK (n : Int) (k : Nat) : Bool := n / (2 ^ k : Nat) % 2 == 1
theorem i64_bit_zero (n : Int) (k : Nat) (hk : k < 5) : (bits .and .i64 n ((2 ^ k : Nat) : Int) == 0) = !bitK n k := by
  rw [i64_bit n k hk]
  have h2 : n / (2 ^ k : Nat) % 2 = 0 ∨ n / (2 ^ k : Nat) % 2 = 1 := by omega
  have hp : ((2 ^ k : Nat) : Int) ≠ 0 := by
    have := Nat.pow_pos (n := k) (show 0 < 2 by omega)
    omega
  unfold bitK
  rcases h2 with h | h
  · rw [h]; simp
  · rw [h]; simpa using hp
theorem i64_mask1 (n : Int) : bits .and .i64 n 1 = n % 2 := by
  have := i64_bit n 0 (by omega)
  simpa using this
theorem i64_mask31 (n : Int) : bits .and .i64 n 31 = n % 32 := by
  have h30 : (BitVec.ofInt 64 31).toNat = 2 ^ 5 - 1 := by decide
  have key : (BitVec.ofInt 64 n &&& BitVec.ofInt 64 31).toNat = (n % ((2 ^ 64 : Nat) : Int)).toNat % 2 ^ 5 := by
    rw [BitVec.toNat_and, BitVec.toNat_ofInt, h30, Nat.and_two_pow_sub_one_eq_mod]
  show IntKind.i64.wrap ((BitVec.ofInt 64 n &&& BitVec.ofInt 64 31).toNat : Nat) = n % 32
  rw [key, IntKind.wrap_i64]
  omega
def W64 (x : BitVec 64) : Int := IntKind.i64.wrap (x.toNat : Int)
theorem ofInt_W64 (x : BitVec 64) : BitVec.ofInt 64 (W64 x) = x := by
  apply BitVec.eq_of_toNat_eq
  unfold W64
  rw [IntKind.wrap_i64, BitVec.toNat_ofInt]
  have := x.isLt
  omega
theorem bits_and (a b : Int) : bits .and .i64 a b = W64 (BitVec.ofInt 64 a &&& BitVec.ofInt 64 b) := rfl
theorem bits_or (a b : Int) : bits .or .i64 a b = W64 (BitVec.ofInt 64 a ||| BitVec.ofInt 64 b) := rfl
theorem bits_andNot (a b : Int) : bits .andNot .i64 a b = W64 (BitVec.ofInt 64 a &&& ~~~BitVec.ofInt 64 b) := rfl
theorem mask_or (a b : Int) : bits .and .i64 (bits .or .i64 a b) 31 = bits .or .i64 (bits .and .i64 a 31) (bits .and .i64 b 31) := by
  simp only [bits_and, bits_or, ofInt_W64]
  congr 1
  ext i
  simp
  cases (BitVec.ofInt 64 a)[i] <;> cases (BitVec.ofInt 64 b)[i] <;> simp
theorem mask_andNot (a b : Int) : bits .and .i64 (bits .andNot .i64 a b) 31 = bits .andNot .i64 (bits .and .i64 a 31) (bits .and .i64 b 31) := by
  simp only [bits_and, bits_andNot, ofInt_W64]
  congr 1
  ext i
  simp
  cases (BitVec.ofInt 64 a)[i] <;> cases (BitVec.ofInt 64 b)[i] <;> cases (31#64)[i] <;> simp

/-! ### flags as a text -/
def wordsL (f : Int) : List (List UInt8) := ((List.range 5).filter (bitK f)).map nm
def printL (f : Int) : List UInt8 := 40 :: (Lib.join (wordsL f) [32] ++ [41])
/-- The words of the flags below k. -/
def wordsK (f : Int) (k : Nat) : List (List UInt8) := ((List.range k).filter (bitK f)).map nm
theorem wordsK_zero (f : Int) : wordsK f 0 = [] := rfl
theorem wordsK_yes (f : Int) (k : Nat) (h : bitK f k = true) : wordsK f (k + 1) = wordsK f k ++ [nm k] := by
  simp [wordsK, List.range_succ, h]
theorem wordsK_no (f : Int) (k : Nat) (h : bitK f k = false) : wordsK f (k + 1) = wordsK f k := by
  simp [wordsK, List.range_succ, h]
theorem wordsK_five (f : Int) : wordsK f 5 = wordsL f := rfl
theorem wordsK_len (f : Int) (k : Nat) : (wordsK f k).length ≤ k := by
  unfold wordsK
  rw [List.length_map]
  exact Nat.le_trans (List.length_filter_le _ _) (by simp)
end Go.Proofs.Ythaodlegpjedoaa
