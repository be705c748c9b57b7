/-
  Atoms with blanks between: the plain part of LexAtoms.
-/
import Derived.Test.YtbbgdcnnacakjaaDoorYBadM
namespace Go.Proofs.YtbbgdcnnacakjaaDoor

theorem lineL_trim {x y : List UInt8} (h : trimL x = trimL y) (T : List Tkn) : lineL T x = lineL T y := by
  cases hk : trimL y with
  | nil => rw [lineL_nil (h.trans hk), lineL_nil hk]
  | cons c r =>
    by_cases hT : T.length = 64
    · rw [lineL_long (h.trans hk) hT, lineL_long hk hT]
    · cases ht : tokL (c :: r) with
      | none => rw [lineL_bad (h.trans hk) hT ht, lineL_bad hk hT ht]
      | some p =>
        obtain ⟨t, q⟩ := p
        rw [lineL_tok (h.trans hk) hT ht, lineL_tok hk hT ht]
theorem lineL_blank (k : Nat) (T : List Tkn) (l : List UInt8) : lineL T (List.replicate k 32 ++ l) = lineL T l := by
  refine lineL_trim ?_ T
  induction k with
  | zero => rfl
  | succ k ih =>
    rw [List.replicate_succ, List.cons_append]
    unfold trimL at ih ⊢
    rw [List.dropWhile_cons, if_pos (by rfl)]
    exact ih
/-- Bytes from 20 to 7e. -/
def plainL (l : List UInt8) : Bool := !(l.any foreignB)
def atomW (l : List UInt8) : List UInt8 := 97 :: 91 :: (l ++ [93, 122])
theorem fi_app {l : List UInt8} (h : ∀ x ∈ l, x ≠ 93) (r : List UInt8) : fi 93 (l ++ 93 :: r) = l.length := by
  induction l with
  | nil => rw [List.nil_append, fi_cons, if_pos rfl]; rfl
  | cons c l ih =>
    rw [List.cons_append, fi_cons, if_neg (h c (by simp)), ih (fun x hx => h x (by simp [hx])), List.length_cons]
theorem tok_atomW {l : List UInt8} (h : ∀ x ∈ l, x ≠ 93) (hp : plainL l = true) (r : List UInt8) : tokL (atomW l ++ 32 :: r) = some ((1, atomW l), 32 :: r) := by
  have e0 : atomW l ++ 32 :: r = 97 :: 91 :: (l ++ 93 :: 122 :: 32 :: r) := by simp [atomW]
  have hfi : fi 93 (91 :: (l ++ 93 :: 122 :: 32 :: r)) = l.length + 1 := by rw [fi_cons, if_neg (by decide), fi_app h]
  have ha : atomN false (97 :: 91 :: (l ++ 93 :: 122 :: 32 :: r)) = some (l.length + 4) := by
    rw [atom_one (by decide) (by decide), atom_open, hfi, if_pos (by simp)]
    have e1 : (91 :: (l ++ 93 :: 122 :: 32 :: r)).drop (l.length + 1 + 1) = 122 :: 32 :: r := by
      rw [List.drop_succ_cons, List.drop_append, List.drop_of_length_le (by omega)]
      simp
    rw [e1, atom_one (by decide) (by decide), atom_ends (by decide)]
    simp
    omega
  have hlen : (atomW l).length = l.length + 4 := by simp [atomW]
  have e2 : (97 :: 91 :: (l ++ 93 :: 122 :: 32 :: r)).take (l.length + 4) = atomW l := by
    rw [← e0, ← hlen, List.take_left]
  have e3 : (97 :: 91 :: (l ++ 93 :: 122 :: 32 :: r)).drop (l.length + 4) = 32 :: r := by
    rw [← e0, ← hlen, List.drop_left]
  rw [e0, tok_atom _ (by decide) (by decide) (by decide), ha]
  simp only [Option.map_some]
  rw [e2, e3]
  unfold tokF
  simp only
  have hf : (atomW l).any foreignB = false := by
    unfold plainL at hp
    simp only [atomW, List.any_cons, List.any_append, List.any_nil]
    have : l.any foreignB = false := by simpa using hp
    rw [this]
    rfl
  rw [hf]
  simp
/-- So many atoms, so many blanks behind each. -/
def repW (m : Nat) (w : List UInt8) (k : Nat) : List UInt8 := match m with
  | 0 => []
  | m + 1 => repW m w k ++ w ++ List.replicate k 32
theorem repW_succ' (m : Nat) (w : List UInt8) (k : Nat) : repW (m + 1) w k = w ++ List.replicate k 32 ++ repW m w k := by
  induction m with
  | zero => simp [repW]
  | succ m ih =>
    show repW (m + 1) w k ++ w ++ List.replicate k 32 = w ++ List.replicate k 32 ++ (repW m w k ++ w ++ List.replicate k 32)
    rw [ih]
    simp [List.append_assoc]
theorem repW_len (m : Nat) (w : List UInt8) (k : Nat) : (repW m w k).length = m * (w.length + k) := by
  induction m with
  | zero => simp [repW]
  | succ m ih =>
    rw [repW, List.length_append, List.length_append, ih, List.length_replicate, Nat.succ_mul]
    omega
theorem line_atoms {l : List UInt8} (h : ∀ x ∈ l, x ≠ 93) (hp : plainL l = true) (k : Nat) : ∀ (m : Nat) (T : List Tkn), T.length ≤ 64 → lineL T (repW m (atomW l) (k + 1)) = if 64 < T.length + m then .error 5 else .ok (T ++ List.replicate m (1, atomW l))
  | 0, T, hT => by
    rw [if_neg (by omega)]
    show lineL T [] = _
    rw [lineL_nil rfl]
    simp
  | m + 1, T, hT => by
    rw [repW_succ', List.replicate_succ, List.append_assoc, List.cons_append]
    have htr : trimL (atomW l ++ 32 :: (List.replicate k 32 ++ repW m (atomW l) (k + 1))) = 97 :: (91 :: (l ++ [93, 122]) ++ 32 :: (List.replicate k 32 ++ repW m (atomW l) (k + 1))) := by
      unfold atomW
      rw [List.cons_append]
      exact trim_one (by decide)
    by_cases h64 : T.length = 64
    · rw [lineL_long htr h64, if_pos (by omega)]
    · have htk := tok_atomW h hp (List.replicate k 32 ++ repW m (atomW l) (k + 1))
      have e : atomW l ++ 32 :: (List.replicate k 32 ++ repW m (atomW l) (k + 1)) = 97 :: (91 :: (l ++ [93, 122]) ++ 32 :: (List.replicate k 32 ++ repW m (atomW l) (k + 1))) := by
        unfold atomW
        rw [List.cons_append]
      rw [e] at htk
      rw [lineL_tok htr h64 htk]
      have e2 : (32 : UInt8) :: (List.replicate k 32 ++ repW m (atomW l) (k + 1)) = List.replicate (k + 1) 32 ++ repW m (atomW l) (k + 1) := by
        rw [List.replicate_succ, List.cons_append]
      rw [e2, lineL_blank, line_atoms h hp k m _ (by rw [List.length_append]; simp; omega)]
      rw [List.length_append]
      simp only [List.length_cons, List.length_nil, Nat.zero_add]
      by_cases h5 : 64 < T.length + (m + 1)
      · rw [if_pos (by omega), if_pos h5]
      · rw [if_neg (by omega), if_neg h5, List.append_assoc]
        rfl
end Go.Proofs.YtbbgdcnnacakjaaDoor
