/-
  Plain mathematics of rows that are cut short.
-/
import Derived.Test.YtecgmlifeljdeaaDoorRowsLaw
namespace Go.Proofs.YtecgmlifeljdeaaDoor

theorem decF_cut : ∀ (n v i acc c : Nat), v ≤ n → c < (enc v).length → decF i acc ((enc v).take c) = none := by
  intro n
  induction n with
  | zero =>
    intro v i acc c hv hc
    obtain rfl : v = 0 := by omega
    rw [enc_small (by omega)] at hc ⊢
    simp only [List.length_singleton] at hc
    obtain rfl : c = 0 := by omega
    rfl
  | succ n ih =>
    intro v i acc c hv hc
    by_cases hs : v < 128
    · rw [enc_small hs] at hc ⊢
      simp only [List.length_singleton] at hc
      obtain rfl : c = 0 := by omega
      rfl
    · rw [enc_more hs] at hc ⊢
      cases c with
      | zero => rfl
      | succ c =>
        simp only [List.length_cons] at hc
        have ht : (UInt8.ofNat (v % 128 + 128)).toNat = v % 128 + 128 := by rw [UInt8.toNat_ofNat']; omega
        rw [List.take_succ_cons]
        unfold decF
        split
        · rfl
        · rw [ht, if_neg (by omega)]
          exact ih _ _ _ _ (by omega) (by omega)
theorem take_bad (l : List UInt8) (h : dec l = none) : takeV false l = 0 ∧ takeBad false l = true ∧ takeRest false l = [] := by
  have hn : decN l = 0 := by simp [decN, h]
  have hb : takeBad false l = true := by simp [takeBad, hn]
  exact ⟨by simp [takeV, decV, h], hb, by simp [takeRest, hb]⟩
theorem row_bad : rowTook true [] = [] ∧ rowBad true [] = true ∧ rowRest true [] = [] := by
  have h : takeBad true [] = true := rfl
  have hr : takeRest true [] = [] := rfl
  refine ⟨?_, ?_, ?_⟩
  · simp [rowTook, rawRow, h, hr]
  · simp [rowBad, rawBad, h]
  · simp [rowRest, rawRest, h, hr]
/-- A row that is cut short errs, and nothing comes. -/
theorem row_cut (r : List UInt8) (c : Nat) (h : r.length ≤ 1000000000) (hc : c < (rowEnc r).length) : rowTook false ((rowEnc r).take c) = [] ∧ rowBad false ((rowEnc r).take c) = true ∧ rowRest false ((rowEnc r).take c) = [] := by
  unfold rowEnc at hc ⊢
  rw [List.length_append] at hc
  by_cases hs : c < (enc r.length).length
  · rw [List.take_append_of_le_length (by omega)]
    have hd : dec ((enc r.length).take c) = none := decF_cut r.length r.length 0 0 c (Nat.le_refl _) hs
    obtain ⟨t1, t2, t3⟩ := take_bad _ hd
    refine ⟨?_, ?_, ?_⟩
    · simp [rowTook, rawRow, t1, t2, t3]
    · simp [rowBad, rawBad, t2]
    · simp [rowRest, rawRest, t1, t2, t3]
  · have he : (enc r.length ++ r).take c = enc r.length ++ r.take (c - (enc r.length).length) := by
      rw [List.take_append, List.take_of_length_le (by omega)]
    rw [he]
    obtain ⟨t1, t2, t3⟩ := take_enc r.length (r.take (c - (enc r.length).length)) (by omega)
    have hb : rawBad false (r.take (c - (enc r.length).length)) (r.length : Int) = true := by
      unfold rawBad
      rw [List.length_take]
      simp
      omega
    obtain ⟨g1, g2⟩ := raw_of_bad hb
    refine ⟨?_, ?_, ?_⟩
    · unfold rowTook; rw [t1, t2, t3, g1]
    · unfold rowBad; rw [t1, t2, t3, hb]
    · unfold rowRest; rw [t1, t2, t3, g2]

/-- Where the first k rows end. -/
def endAt (ls : List (List UInt8)) (k : Nat) : Nat := (rowsEnc (ls.take k)).length
theorem endAt_zero (ls : List (List UInt8)) : endAt ls 0 = 0 := rfl
theorem endAt_succ (ls : List (List UInt8)) (k : Nat) (h : k < ls.length) : endAt ls (k + 1) = endAt ls k + (rowEnc ls[k]).length := by
  unfold endAt
  rw [rowsEnc_succ ls k h, List.length_append]
theorem rows_from (ls : List (List UInt8)) (k : Nat) : (rowsEnc ls).drop (endAt ls k) = rowsEnc (ls.drop k) := by
  have h : rowsEnc ls = rowsEnc (ls.take k) ++ rowsEnc (ls.drop k) := by
    unfold rowsEnc
    rw [← List.flatten_append, ← List.map_append, List.take_append_drop]
  unfold endAt
  rw [h, List.drop_left]
/-- What is left at row k of rows that are cut at c. -/
def leftAt (ls : List (List UInt8)) (c k : Nat) : List UInt8 := ((rowsEnc ls).take c).drop (endAt ls k)
theorem leftAt_whole (ls : List (List UInt8)) (c k : Nat) (h : k < ls.length) (hc : endAt ls (k + 1) ≤ c) : leftAt ls c k = rowEnc ls[k] ++ leftAt ls c (k + 1) := by
  have he := endAt_succ ls k h
  unfold leftAt
  rw [List.drop_take, List.drop_take, rows_from, rows_from, rowsEnc_drop ls k h, List.take_append, List.take_of_length_le (by omega)]
  congr 2
  omega
theorem leftAt_cut (ls : List (List UInt8)) (c k : Nat) (h : k < ls.length) (h0 : endAt ls k ≤ c) (hc : c < endAt ls (k + 1)) : leftAt ls c k = (rowEnc ls[k]).take (c - endAt ls k) := by
  have he := endAt_succ ls k h
  unfold leftAt
  rw [List.drop_take, rows_from, rowsEnc_drop ls k h, List.take_append_of_le_length (by omega)]
/-- The ends of the first k rows, as ints. -/
def ends (ls : List (List UInt8)) (k : Nat) : List Int := (List.range k).map fun j => (endAt ls (j + 1) : Int)
theorem ends_length (ls : List (List UInt8)) (k : Nat) : (ends ls k).length = k := by simp [ends]
theorem ends_succ (ls : List (List UInt8)) (k : Nat) : ends ls (k + 1) = ends ls k ++ [(endAt ls (k + 1) : Int)] := by simp [ends, List.range_succ]
theorem ends_get (ls : List (List UInt8)) (k j : Nat) (h : j < k) : (ivs (ends ls k))[j]? = some (.int .i64 (endAt ls (j + 1) : Int)) := by
  simp [ivs, ends, h]
end Go.Proofs.YtecgmlifeljdeaaDoor
