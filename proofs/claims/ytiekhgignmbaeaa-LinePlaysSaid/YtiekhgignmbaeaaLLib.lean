/-
  What line calls of the library: bytes.Cut at an end, bytes.TrimSuffix of one 0D, bytes.Clone; as our words say it.
-/
import Derived.Test.YtiekhgignmbaeaaLWords
import Derived.Test.YtiekhgignmbaeaaShelf
namespace Go.Proofs.Ytiekhgignmbaeaa
open Go.RowKit

def nums (l : List UInt8) : List Int := l.map fun b => (b.toNat : Int)
theorem nums_len (l : List UInt8) : (nums l).length = l.length := by simp [nums]
theorem nums_bytes (l : List UInt8) : Lib.bytesOf (nums l) = l := by
  unfold nums Lib.bytesOf
  rw [List.map_map]
  conv => rhs; rw [← List.map_id l]
  refine List.map_congr_left fun b _ => ?_
  simp
theorem nums_get (l : List UInt8) (i : Nat) (h : i < l.length) : (nums l).getD i 0 = ((l[i].toNat : Nat) : Int) := by
  unfold nums
  rw [List.getD_eq_getElem?_getD, List.getElem?_map, List.getElem?_eq_getElem h]
  rfl
theorem nums_vals (l : List UInt8) : (nums l).map (Value.int .u8) = bvs l := by simp [nums, bvs, bv]
theorem cells_of {w : World} {ad : Addr} {l : List UInt8} (h : Sl w (some ad) l.length (bvs l)) : ∀ i, i < l.length → w.cell? (ad.add i) = some (.int .u8 ((nums l).getD i 0)) := by
  intro i hi
  obtain ⟨ad', e, hc⟩ := h.2 (by omega)
  injection e with e
  subst e
  rw [nums_get l i hi]
  exact hc i _ (bvs_get l i hi)

/-- bytes.Cut at the first end. -/
theorem cut_any {w : World} {A : Option Addr} {n c : Nat} {l : List UInt8} (h : Gro w A n c (bvs l)) (hbig : n ≤ 4096) (b2 o2 d : Nat) (h2 : w.cell? ⟨b2, o2, none⟩ = some (.int .u8 10)) :
    Calls Try.prog 23 #[.slice A n c, .slice (some ⟨b2, o2, none⟩) 1 d] w fun e w' => ∃ v, e = .returned (.tuple #[.slice A (nl l) c, v, .bool (decide (nl l < l.length))]) ∧ Only [] w w' := by
  have hl : l.length = n := by simpa using h.len
  subst hl
  have hcap := h.cap; have hmax := h.max; have hnl := nl_le l
  obtain ⟨I, hI⟩ : ∃ I, I = Lib.indexByte l 10 := ⟨_, rfl⟩
  have hI2 : I = if nl l < l.length then (nl l : Int) else -1 := by rw [hI, index_nl]
  have hidx : Calls Try.prog 27 #[.slice A l.length c, .slice (some ⟨b2, o2, none⟩) 1 d] w fun e w' => e = .returned (.int .i64 I) ∧ ∃ q, w' = w.drewN q := by
    cases A with
    | none =>
      have hc0 : c = 0 := by
        rcases Nat.eq_zero_or_pos c with h0 | h0
        · exact h0
        · obtain ⟨g, o, he, _⟩ := h.at_ h0
          cases he
      subst hc0
      have hl0 : l = [] := List.eq_nil_of_length_eq_zero (by omega)
      subst hl0
      refine (Try.bytes_Index_one_nil b2 o2 d 10 w h2).mono fun e w' he => ⟨?_, 0, he.2⟩
      rw [he.1, hI]
      rfl
    | some ad =>
      refine (Try.bytes_Index_one_at ad l.length c b2 o2 d (nums l) 10 w (nums_len l) (cells_of h.sl) h2).mono fun e w' he => ⟨?_, 0, he.2⟩
      rw [he.1, hI, nums_bytes]
      rfl
  refine (Try.bytes_Cut_of A (some ⟨b2, o2, none⟩) l.length c 1 d I w hcap (by rw [hI2]; split <;> omega) (fun h0 => by rw [hI2] at h0 ⊢; split at h0 <;> rename_i h1; (rw [if_pos h1]; omega); omega) (by omega) hidx).mono fun e w' he => ?_
  obtain ⟨he, q, rfl⟩ := he
  refine ⟨if nl l < l.length then Lib.fromV A l.length c (nl l + 1) else .slice none 0 0, he.trans (congrArg Ending.returned ?_), (Only.refl _ _).drewN q⟩
  · unfold Lib.cutV
    by_cases h1 : nl l < l.length
    · have hI3 : I = (nl l : Int) := by rw [hI2, if_pos h1]
      rw [hI3, if_pos (by omega), if_pos h1, decide_eq_true h1]
      rfl
    · have hI3 : I = -1 := by rw [hI2, if_neg h1]
      rw [hI3, if_neg (by omega), if_neg h1, decide_eq_false h1]
      have : nl l = l.length := by omega
      rw [this]

/-- bytes.TrimSuffix of one 0D. -/
theorem trim_any {w : World} {A : Option Addr} {n c : Nat} {l : List UInt8} (hs : Sl w A n (bvs l)) (hA : 0 < n → ∃ b o, A = some ⟨b, o, none⟩) (hc : n ≤ c) (hm : c ≤ maxLen) (b2 o2 d : Nat) (h2 : w.cell? ⟨b2, o2, none⟩ = some (.int .u8 13)) :
    Calls Try.prog 24 #[.slice A n c, .slice (some ⟨b2, o2, none⟩) 1 d] w fun e w' => e = .returned (.slice A (tr l).length c) ∧ w = w' := by
  have hl : l.length = n := by simpa using hs.len
  subst hl
  unfold maxLen at hm
  refine (Try.bytes_TrimSuffix_all A (some ⟨b2, o2, none⟩) l.length c 1 d (nums l) [13] w (nums_len l) rfl hc (by omega) (fun hn => ?_) (fun _ => ⟨b2, o2, rfl, fun i hi => ?_⟩)).mono fun e w' he => ⟨he.1.trans (congrArg Ending.returned ?_), he.2.symm⟩
  · obtain ⟨b, o, rfl⟩ := hA hn
    exact ⟨b, o, rfl, fun i hi => by have := cells_of hs i hi; rwa [add_none] at this⟩
  · obtain rfl : i = 0 := by omega
    simpa using h2
  · rcases Nat.eq_zero_or_pos l.length with h0 | h0
    · obtain rfl : l = [] := List.eq_nil_of_length_eq_zero h0
      unfold Lib.trimSuffixV
      split
      · unfold Lib.bytesTrimSuffix
        simp [nums, Lib.bytesOf, Lib.hasSuffix, tr, Lib.trimSuffix]
      · simp [tr, Lib.trimSuffix, Lib.hasSuffix]
    · obtain ⟨b, o, rfl⟩ := hA h0
      unfold Lib.trimSuffixV Lib.bytesTrimSuffix
      rw [nums_bytes, show Lib.bytesOf [13] = [13] from rfl]
      unfold tr Lib.trimSuffix
      by_cases hh : Lib.hasSuffix l [13] = true
      · simp [hh, Lib.sliceTo]
      · simp [hh]

/-- bytes.Clone. -/
theorem clone_any {w : World} {A : Option Addr} {n : Nat} (c : Nat) {l : List UInt8} (hs : Sl w A n (bvs l)) (hn : n ≤ 140737488355328) :
    Calls Try.prog 26 #[.slice A n c] w fun e w' => ∃ A' c', e = .returned (.slice A' n c') ∧ Own w' 5 A' n c' (bvs l) ∧ Only [] w w' ∧ ∀ k ∈ blks A', w.heap.size ≤ k := by
  have hl : l.length = n := by simpa using hs.len
  subst hl
  cases A with
  | none =>
    have h0 : l = [] := by
      rcases Nat.eq_zero_or_pos l.length with h0 | h0
      · exact List.eq_nil_of_length_eq_zero h0
      · obtain ⟨_, e, _⟩ := hs.2 h0
        cases e
    subst h0
    refine (Try.bytes_Clone_nil 0 c w).mono fun e w' he => ?_
    obtain ⟨rfl, rfl⟩ := he
    exact ⟨none, 0, rfl, Own.nil _ _, Only.refl _ _, fun k hk => nomatch hk⟩
  | some ad =>
    refine (Try.bytes_Clone_at ad l.length c (nums l) w (nums_len l) hn (cells_of hs)).mono fun e w' he => ?_
    obtain ⟨v, rfl, h1, _, h3⟩ := he
    rw [nums_vals] at h1
    have hform : ∃ A' c', v = .slice A' l.length c' ∧ ∀ k ∈ blks A', w.heap.size ≤ k := by
      rcases h1.2 with ⟨rfl, h0⟩ | ⟨g, cap, cur, rfl, hb, _⟩
      · exact ⟨none, 0, by rw [h0], fun _ hk => nomatch hk⟩
      · exact ⟨_, _, rfl, fun k hk => by simp at hk; omega⟩
    obtain ⟨A', c', rfl, hb⟩ := hform
    exact ⟨A', c', rfl, own_base h1 (fun _ _ => Nat.zero_le _), Only.of_below h3, hb⟩
end Go.Proofs.Ytiekhgignmbaeaa
