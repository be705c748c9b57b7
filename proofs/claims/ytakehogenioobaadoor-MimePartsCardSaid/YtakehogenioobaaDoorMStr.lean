/-
  What mime calls of the library over texts: strings.Cut at one byte, Trim of blanks, HasPrefix, HasSuffix; bytes.CutSuffix.
-/
import Derived.Test.YtakehogenioobaaDoorHLeaf
import Derived.Test.YtakehogenioobaaDoorMMath
import Derived.OwnWalk
namespace Go.Proofs.YtakehogenioobaaDoor
open Go.RowKit Go.Instr

theorem St_ext {s : ByteArray} {l : List UInt8} (h : s.data.toList = l) : s = St l := by rw [← h, St_data]
theorem run_pre_str {P : Program} (t : TypeId) (hu : P.underlying t = some .string) (l : List UInt8) (k : Nat) (K : Int) (hK : K = (k : Int)) (hk : k ≤ l.length) (W : World) :
    (Instr.slice t (.string (St l)) none (some (.int .i64 K)) none).run P W = .ok (.string (St (l.take k))) W := by
  subst hK
  rw [run_slice_string_to_if W t (St l) .i64 _ hu, if_pos ⟨by omega, by rw [St_size]; omega⟩, St_ext (s := (St l).extract _ _) (l := l.take k) (by rw [Lib.extract_data, St_list]; simp)]
theorem run_suf_str {P : Program} (t : TypeId) (hu : P.underlying t = some .string) (l : List UInt8) (k : Nat) (K : Int) (hK : K = (k : Int)) (hk : k ≤ l.length) (W : World) :
    (Instr.slice t (.string (St l)) (some (.int .i64 K)) none none).run P W = .ok (.string (St (l.drop k))) W := by
  subst hK
  rw [run_slice_string_from_if W t (St l) .i64 _ hu, if_pos ⟨by omega, by rw [St_size]; omega⟩, St_ext (s := (St l).extract _ _) (l := l.drop k) (by rw [Lib.extract_data, St_list, St_size, List.take_of_length_le (by rw [List.length_drop]; omega), Int.toNat_natCast])]
theorem run_mid_str {P : Program} (t : TypeId) (hu : P.underlying t = some .string) (l : List UInt8) (i j : Nat) (I J : Int) (hI : I = (i : Int)) (hJ : J = (j : Int)) (hij : i ≤ j) (hj : j ≤ l.length) (W : World) :
    (Instr.slice t (.string (St l)) (some (.int .i64 I)) (some (.int .i64 J)) none).run P W = .ok (.string (St ((l.take j).drop i))) W := by
  rw [run_cut_str t hu (St l) i j I J hI hJ hij (by rw [St_size]; exact hj) W, St_ext (s := (St l).extract _ _) (l := (l.take j).drop i) (by rw [Lib.extract_data, St_list, List.drop_take])]

theorem sIndex_any (l : List UInt8) (x : UInt8) (w : World) : Calls Tryd.prog 78 #[.string (St l), .string ⟨#[x]⟩] w fun e w' => e = .returned (.int .i64 (if fi x l < l.length then (fi x l : Int) else -1)) ∧ w = w' :=
  (Tryd.strings_Index_one (St l) x w).mono fun e w' he => ⟨by rw [he.1, St_list, index_fi], he.2.symm⟩
theorem slIndex_any (l : List UInt8) (x : UInt8) (w : World) : Calls Tryd.prog 50 #[.string (St l), .string ⟨#[x]⟩] w fun e w' => e = .returned (.int .i64 (if fi x l < l.length then (fi x l : Int) else -1)) ∧ w = w' :=
  (Tryd.stringslite_Index_one (St l) x w).mono fun e w' he => ⟨by rw [he.1, St_list, index_fi], he.2.symm⟩
set_option maxHeartbeats 1000000 in
theorem slCut_any (l : List UInt8) (hb : l.length ≤ 1099511627776) (x : UInt8) (w : World) : Calls Tryd.prog 31 #[.string (St l), .string ⟨#[x]⟩] w fun e w' =>
    e = .returned (.tuple #[.string (St (l.take (fi x l))), .string (St (l.drop (fi x l + 1))), .bool (decide (fi x l < l.length))]) ∧ Only [] w w' := by
  have hI := slIndex_any l x w
  have hle := fi_le x l
  have hp := fun (K : Int) (hK : K = (fi x l : Int)) => run_pre_str (P := Tryd.prog) 9 Tryd.underlying9 l (fi x l) K hK hle
  have hs := fun (K : Int) (hK : K = ((fi x l + 1 : Nat) : Int)) (h : fi x l + 1 ≤ l.length) => run_suf_str (P := Tryd.prog) 9 Tryd.underlying9 l (fi x l + 1) K hK h
  obtain ⟨m, hm⟩ : ∃ m, fi x l = m := ⟨_, rfl⟩
  rw [hm] at hI hle hp hs
  rw [hm]
  by_cases h : m < l.length
  · rw [decide_eq_true h]
    rw [if_pos h] at hI
    have P1 := hp (m : Int) rfl
    have P2 := hs ((m : Int) + 1) (by omega) (by omega)
    obtain ⟨t1, ht1⟩ : ∃ t1, St (l.take m) = t1 := ⟨_, rfl⟩
    obtain ⟨t2, ht2⟩ : ∃ t2, St (l.drop (m + 1)) = t2 := ⟨_, rfl⟩
    obtain ⟨t, ht⟩ : ∃ t, St l = t := ⟨_, rfl⟩
    rw [ht1, ht] at P1
    rw [ht2, ht] at P2
    rw [ht] at hI ⊢
    rw [ht1, ht2]
    have hm0 : (m : Int) ≤ 1099511627776 := by omega
    have hm1 : (0 : Int) ≤ (m : Int) := by omega
    obtain ⟨c, hc⟩ : ∃ c, ByteArray.mk #[x] = c := ⟨_, rfl⟩
    have hcs : c.size = 1 := by rw [← hc]; rfl
    rw [hc] at hI ⊢
    clear hp hs hm ht1 ht2 ht hc h hle
    go_enter Tryd.func31, Tryd.ntmps31
    go_wp2_with (go_at_call 50; (with_reducible refine hI.mono ?_); rintro e w1 ⟨rfl, rfl⟩)
    go_region
    go_wp2
    go_ret3
    exact ⟨rfl, (Only.refl _ _).drew⟩
  · rw [decide_eq_false h]
    rw [if_neg h] at hI
    have e1 : l.take m = l := List.take_of_length_le (by omega)
    have e2 : l.drop (m + 1) = [] := List.drop_of_length_le (by omega)
    rw [e1, e2]
    obtain ⟨t, ht⟩ : ∃ t, St l = t := ⟨_, rfl⟩
    rw [ht] at hI ⊢
    obtain ⟨c, hc⟩ : ∃ c, ByteArray.mk #[x] = c := ⟨_, rfl⟩
    rw [hc] at hI ⊢
    clear hp hs hm ht hc h hle e1 e2
    go_enter Tryd.func31, Tryd.ntmps31
    go_wp2_with (go_at_call 50; (with_reducible refine hI.mono ?_); rintro e w1 ⟨rfl, rfl⟩)
    go_ret3
    exact ⟨rfl, Only.refl _ _⟩
theorem sCut_any (l : List UInt8) (hb : l.length ≤ 1099511627776) (x : UInt8) (w : World) : Calls Tryd.prog 22 #[.string (St l), .string ⟨#[x]⟩] w fun e w' =>
    e = .returned (.tuple #[.string (St (l.take (fi x l))), .string (St (l.drop (fi x l + 1))), .bool (decide (fi x l < l.length))]) ∧ Only [] w w' := by
  have hI := slCut_any l hb x w
  obtain ⟨t1, ht1⟩ : ∃ t1, St (l.take (fi x l)) = t1 := ⟨_, rfl⟩
  obtain ⟨t2, ht2⟩ : ∃ t2, St (l.drop (fi x l + 1)) = t2 := ⟨_, rfl⟩
  obtain ⟨t, ht⟩ : ∃ t, St l = t := ⟨_, rfl⟩
  obtain ⟨c, hc⟩ : ∃ c, ByteArray.mk #[x] = c := ⟨_, rfl⟩
  obtain ⟨bo, hbo⟩ : ∃ bo, decide (fi x l < l.length) = bo := ⟨_, rfl⟩
  rw [ht1, ht2, ht, hc, hbo] at hI
  rw [ht1, ht2, ht, hc, hbo]
  clear ht1 ht2 ht hc hbo
  go_enter Tryd.func22, Tryd.ntmps22
  go_wp2_with (go_at_call 31; (with_reducible refine hI.mono ?_); rintro e w1 ⟨rfl, hO1⟩)
  go_ret3
  exact ⟨rfl, hO1⟩
/-- strings.Trim of blanks. -/
theorem sTrim_any (l : List UInt8) (hb : l.length ≤ 1099511627776) (w : World) : Calls Tryd.prog 24 #[.string (St l), .string ⟨#[32, 9]⟩] w fun e w' => e = .returned (.string (St (trimB l))) ∧ Only [] w w' :=
  (Tryd.strings_Trim_laid (by kernel_rfl) (St l) ⟨#[32, 9]⟩ w (by rw [St_size]; omega) (by decide) (ascii_of_all (by decide))).mono fun e w' ⟨he, hB⟩ => ⟨by rw [he, St_list]; rfl, Only.of_below hB⟩
theorem sPre_any (l : List UInt8) (x : UInt8) (w : World) : Calls Tryd.prog 56 #[.string (St l), .string ⟨#[x]⟩] w fun e w' => e = .returned (.bool (Lib.hasPrefix l [x])) ∧ w = w' :=
  (Tryd.strings_HasPrefix (St l) ⟨#[x]⟩ w).mono fun e w' he => ⟨by rw [he.1, St_list], he.2.symm⟩
theorem sSuf_any (l : List UInt8) (hb : l.length ≤ 1099511627776) (x : UInt8) (w : World) : Calls Tryd.prog 57 #[.string (St l), .string ⟨#[x]⟩] w fun e w' => e = .returned (.bool (Lib.hasSuffix l [x])) ∧ w = w' :=
  (Tryd.strings_HasSuffix (St l) ⟨#[x]⟩ w (by rw [St_size]; omega)).mono fun e w' he => ⟨by rw [he.1, St_list], he.2.symm⟩
section
variable {w : World} {A : Option Addr} {n c : Nat} {l : List UInt8}
theorem cutSuf_any (hs : Bt w A n c l) (b2 o2 d : Nat) (x : UInt8) (h2 : w.cell? ⟨b2, o2, none⟩ = some (bv x)) :
    Calls Tryd.prog 43 #[.slice A n c, .slice (some ⟨b2, o2, none⟩) 1 d] w fun e w' => e = .returned (.tuple #[.slice A (Lib.trimSuffix l [x]).length c, .bool (Lib.hasSuffix l [x])]) ∧ w = w' := by
  have hl := hs.len
  have hcap := hs.cap; have hmax := hs.max
  subst hl
  refine (Tryd.bytes_CutSuffix_all A (some ⟨b2, o2, none⟩) l.length c 1 d (nums l) (nums [x]) w (nums_len l) rfl hcap (by omega) (sl_in hs.sl) (one_in h2)).mono fun e w' he => ⟨he.1.trans (congrArg Ending.returned ?_), he.2.symm⟩
  have e1 : Lib.trimSuffixV A l.length c (nums l) (nums [x]) = .slice A (Lib.trimSuffix l [x]).length c := by
    rcases Nat.eq_zero_or_pos l.length with h0 | h0
    · obtain rfl : l = [] := List.eq_nil_of_length_eq_zero h0
      unfold Lib.trimSuffixV
      split
      · unfold Lib.bytesTrimSuffix
        simp [nums, Lib.bytesOf, Lib.hasSuffix, Lib.trimSuffix]
      · simp [Lib.trimSuffix, Lib.hasSuffix]
    · obtain ⟨b, o, rfl, _⟩ := (sl_in hs.sl) h0
      unfold Lib.trimSuffixV Lib.bytesTrimSuffix
      simp only [nums, List.map_cons, List.map_nil]
      rw [show (l.map fun b => (b.toNat : Int)) = nums l from rfl, nums_bytes, show Lib.bytesOf [(x.toNat : Int)] = [x] by simpa [nums] using nums_bytes [x]]
      unfold Lib.trimSuffix
      by_cases hh : Lib.hasSuffix l [x] = true
      · simp [hh, Lib.sliceTo]
      · simp [hh]
  rw [e1, nums_bytes, show Lib.bytesOf (nums [x]) = [x] from nums_bytes [x]]
end
end Go.Proofs.YtakehogenioobaaDoor
