/-
  bytes.CutSuffix at one byte.
-/
import Derived.Test.YtbbgdcnnacakjaaDoorYNum
import Derived.Test.YtbbgdcnnacakjaaDoorShelf
namespace Go.Proofs.YtbbgdcnnacakjaaDoor
open Go.RowKit Go.Instr

theorem suf_one (l : List UInt8) (y : UInt8) : Lib.hasSuffix l [y] = (l.getLast? == some y) := by
  unfold Lib.hasSuffix
  cases h : l.reverse with
  | nil =>
    obtain rfl : l = [] := by simpa using h
    simp [List.isSuffixOf]
  | cons z r =>
    have hl : l = r.reverse ++ [z] := by rw [← List.reverse_reverse l, h]; simp
    subst hl
    simp [List.isSuffixOf, List.isPrefixOf]
    exact Bool.beq_comm
theorem trimSuf_hit {l : List UInt8} {y : UInt8} (h : l.getLast? = some y) : Lib.trimSuffix l [y] = l.dropLast := by
  unfold Lib.trimSuffix
  rw [suf_one, h]
  simp [List.dropLast_eq_take]
theorem trimSuf_miss {l : List UInt8} {y : UInt8} (h : l.getLast? ≠ some y) : Lib.trimSuffix l [y] = l := by
  unfold Lib.trimSuffix
  rw [suf_one, if_neg (by simpa using h)]
section
variable {w : World} {A : Option Addr} {n c : Nat} {l : List UInt8}
theorem ycutSuf_any (hs : Bt w A n c l) (b2 o2 d : Nat) (x : UInt8) (h2 : w.cell? ⟨b2, o2, none⟩ = some (bv x)) :
    Calls Tryd.prog 27 #[.slice A n c, .slice (some ⟨b2, o2, none⟩) 1 d] w fun e w' => e = .returned (.tuple #[.slice A (Lib.trimSuffix l [x]).length c, .bool (Lib.hasSuffix l [x])]) ∧ w = w' := by
  have hl := hs.len
  have hcap := hs.cap; have hmax := hs.max
  subst hl
  refine (Tryd.bytes_CutSuffix_all A (some ⟨b2, o2, none⟩) l.length c 1 d (nums l) (nums [x]) w (nums_len l) rfl hcap (by omega) (sl_in hs.sl) (one_in h2)).mono fun e w' he => ⟨he.1.trans (congrArg Ending.returned ?_), he.2.symm⟩
  have e1 : Lib.trimSuffixV A l.length c (nums l) (nums [x]) = .slice A (Lib.trimSuffix l [x]).length c := by
    rcases Nat.eq_zero_or_pos l.length with h0 | h0
    · obtain rfl : l = [] := List.eq_nil_of_length_eq_zero h0
      unfold Lib.trimSuffixV
      split
      · unfold Lib.bytesTrimSuffix
        simp [nums, Lib.bytesOf, Lib.hasSuffix, Lib.trimSuffix]
      · simp [Lib.trimSuffix, Lib.hasSuffix]
    · obtain ⟨b, o, rfl, _⟩ := (sl_in hs.sl) h0
      unfold Lib.trimSuffixV Lib.bytesTrimSuffix
      simp only [nums, List.map_cons, List.map_nil]
      rw [show (l.map fun b => (b.toNat : Int)) = nums l from rfl, nums_bytes, show Lib.bytesOf [(x.toNat : Int)] = [x] by simpa [nums] using nums_bytes [x]]
      unfold Lib.trimSuffix
      by_cases hh : Lib.hasSuffix l [x] = true
      · simp [hh, Lib.sliceTo]
      · simp [hh]
  rw [e1, nums_bytes, show Lib.bytesOf (nums [x]) = [x] from nums_bytes [x]]
theorem suf_hit' {x : UInt8} (hs : Bt w A n c l) (h : l.getLast? = some x) (b2 o2 d : Nat) (h2 : w.cell? ⟨b2, o2, none⟩ = some (bv x)) :
    Calls Tryd.prog 27 #[.slice A n c, .slice (some ⟨b2, o2, none⟩) 1 d] w fun e w' => e = .returned (.tuple #[.slice A (n - 1) c, .bool true]) ∧ w = w' :=
  (ycutSuf_any hs b2 o2 d x h2).mono fun e w' he => ⟨by rw [he.1, trimSuf_hit h, List.length_dropLast, hs.len, suf_one, h]; simp, he.2⟩
theorem suf_miss' {x : UInt8} (hs : Bt w A n c l) (h : l.getLast? ≠ some x) (b2 o2 d : Nat) (h2 : w.cell? ⟨b2, o2, none⟩ = some (bv x)) :
    Calls Tryd.prog 27 #[.slice A n c, .slice (some ⟨b2, o2, none⟩) 1 d] w fun e w' => e = .returned (.tuple #[.slice A n c, .bool false]) ∧ w = w' :=
  (ycutSuf_any hs b2 o2 d x h2).mono fun e w' he => ⟨by rw [he.1, trimSuf_miss h, hs.len, suf_one, beq_eq_false_iff_ne.2 h], he.2⟩
end
end Go.Proofs.YtbbgdcnnacakjaaDoor
