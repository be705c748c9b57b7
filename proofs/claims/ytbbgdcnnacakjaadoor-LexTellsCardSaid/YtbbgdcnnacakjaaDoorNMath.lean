/-
  span's mathematics: numbers, ranges, sets of ranges as bytes, and back. Nothing of the program stands here.
-/
import Derived.Test.YtbbgdcnnacakjaaDoorStr
import Derived.Lib.ItoaNum
namespace Go.Proofs.YtbbgdcnnacakjaaDoor

/-! ### Numbers -/
def isDig (c : UInt8) : Bool := decide (48 ≤ c.toNat) && decide (c.toNat ≤ 57)
/-- One digit more. -/
def stp (n : Nat) (c : UInt8) : Nat := 10 * n + (c.toNat - 48)
/-- Digits behind a number. -/
def dv (n : Nat) (l : List UInt8) : Nat := l.foldl stp n
theorem dv_nil (n : Nat) : dv n [] = n := rfl
theorem dv_cons (n : Nat) (c : UInt8) (r : List UInt8) : dv n (c :: r) = dv (stp n c) r := by
  unfold dv
  rw [List.foldl_cons]
theorem dv_snoc (l : List UInt8) (n : Nat) (c : UInt8) : dv n (l ++ [c]) = stp (dv n l) c := by
  unfold dv
  rw [List.foldl_append, List.foldl_cons, List.foldl_nil]
/-- A number, or the star; 0: it is none. -/
def numL (s : List UInt8) : Nat :=
  if s = [42] then 1073741824 else if s.length < 1 then 0 else if 7 < s.length then 0 else if s.head? = some 48 then 0 else if s.all isDig = true then dv 0 s else 0
/-- The digits that bytes begin with, at most seven. -/
def grd (s : List UInt8) : List UInt8 := (s.take 7).takeWhile isDig
/-- The number that bytes begin with, and what stands behind it. -/
def numS (s : List UInt8) : Option (Nat × List UInt8) :=
  if s.head? = some 42 then some (1073741824, s.drop 1) else if grd s = [] then none else if s.head? = some 48 then none else some (dv 0 (grd s), s.drop (grd s).length)

theorem dv_le (r : List UInt8) : ∀ n : Nat, n ≤ dv n r := by
  induction r with
  | nil => intro n; exact Nat.le_refl _
  | cons c r ih =>
    intro n
    have h := ih (stp n c)
    have h2 : n ≤ stp n c := by unfold stp; omega
    rw [dv_cons]
    exact Nat.le_trans h2 h
theorem dv_lt (r : List UInt8) : ∀ (n : Nat), r.all isDig = true → dv n r < (n + 1) * 10 ^ r.length := by
  induction r with
  | nil =>
    intro n _
    rw [List.length_nil, Nat.pow_zero, Nat.mul_one]
    exact Nat.lt_succ_self n
  | cons c r ih =>
    intro n h
    simp only [List.all_cons, Bool.and_eq_true] at h
    have h0 : stp n c + 1 ≤ (n + 1) * 10 := by
      have := h.1
      simp only [isDig, Bool.and_eq_true, decide_eq_true_eq] at this
      unfold stp
      omega
    have h1 := ih (stp n c) h.2
    rw [List.length_cons, Nat.pow_succ, dv_cons, Nat.mul_comm _ 10, ← Nat.mul_assoc]
    exact Nat.lt_of_lt_of_le h1 (Nat.mul_le_mul_right _ h0)
theorem numL_digits {s : List UInt8} (h1 : 1 ≤ s.length) (h7 : s.length ≤ 7) (h0 : s.head? ≠ some 48) (hd : s.all isDig = true) : numL s = dv 0 s ∧ 1 ≤ dv 0 s := by
  cases s with
  | nil => simp at h1
  | cons c r =>
    have hc : 49 ≤ c.toNat ∧ c.toNat ≤ 57 := by
      have h2 : isDig c = true := by simp at hd; exact hd.1
      simp only [isDig, Bool.and_eq_true, decide_eq_true_eq] at h2
      have h3 : c.toNat ≠ 48 := fun h => h0 (by simp; exact UInt8.toNat_inj.1 (by rw [h]; rfl))
      omega
    refine ⟨?_, ?_⟩
    · unfold numL
      rw [if_neg (by
        intro h
        injection h with h _
        rw [h] at hc
        simp at hc), if_neg (by omega), if_neg (by omega), if_neg h0, if_pos hd]
    · have h2 : 1 ≤ stp 0 c := by unfold stp; omega
      rw [dv_cons]
      exact Nat.le_trans h2 (dv_le r (stp 0 c))
theorem numL_star : numL [42] = 1073741824 := by simp [numL]
theorem numL_pos {s : List UInt8} (h : numL s ≠ 0) : s = [42] ∨ (1 ≤ s.length ∧ s.length ≤ 7 ∧ s.head? ≠ some 48 ∧ s.all isDig = true) := by
  unfold numL at h
  split at h
  · left; assumption
  · split at h
    · exact absurd rfl h
    · split at h
      · exact absurd rfl h
      · split at h
        · exact absurd rfl h
        · split at h
          · right; refine ⟨by omega, by omega, by assumption, by assumption⟩
          · exact absurd rfl h
theorem numL_le (s : List UInt8) : numL s ≤ 1073741824 := by
  by_cases h : numL s = 0
  · omega
  · rcases numL_pos h with rfl | ⟨h1, h2, h3, h4⟩
    · rw [numL_star]; omega
    · rw [(numL_digits h1 h2 h3 h4).1]
      have h5 := dv_lt s 0 h4
      have h6 : 10 ^ s.length ≤ 10 ^ 7 := Nat.pow_le_pow_right (by omega) h2
      omega

/-! ### Where a byte of a kind comes -/
theorem take_tw {α : Type} (p : α → Bool) : ∀ s : List α, s.take (s.takeWhile p).length = s.takeWhile p
  | [] => rfl
  | c :: r => by
    rw [List.takeWhile_cons]
    split
    · rw [List.length_cons, List.take_succ_cons, take_tw p r]
    · rfl
theorem drop_tw {α : Type} (p : α → Bool) : ∀ s : List α, s.drop (s.takeWhile p).length = s.dropWhile p
  | [] => rfl
  | c :: r => by
    rw [List.takeWhile_cons, List.dropWhile_cons]
    split
    · rw [List.length_cons, List.drop_succ_cons, drop_tw p r]
    · rfl
theorem dw_head {α : Type} (p : α → Bool) : ∀ (s : List α) {c : α} {r : List α}, s.dropWhile p = c :: r → p c = false
  | [], _, _, h => by cases h
  | x :: s, c, r, h => by
    rw [List.dropWhile_cons] at h
    split at h
    · exact dw_head p s h
    · rename_i hp
      injection h with h1 _
      subst h1
      simpa using hp
theorem tw_all {α : Type} (p : α → Bool) (s : List α) : (s.takeWhile p).all p = true := List.all_takeWhile
theorem grd_dig (s : List UInt8) : (grd s).all isDig = true := tw_all _ _
theorem grd_len (s : List UInt8) : (grd s).length ≤ 7 := by
  unfold grd
  have h1 := (List.takeWhile_sublist (l := s.take 7) isDig).length_le
  rw [List.length_take] at h1
  omega
/-- What stops the digits. -/
theorem grd_stop (d q : List UInt8) (hd : d.all isDig = true) (h7 : d.length ≤ 7) (hq : ∀ c, q.head? = some c → isDig c = false) : grd (d ++ q) = d := by
  unfold grd
  rw [List.take_append, List.take_of_length_le h7, List.takeWhile_append_of_pos (fun x hx => List.all_eq_true.1 hd x hx)]
  cases q with
  | nil => simp
  | cons c r =>
    cases 7 - d.length with
    | zero => simp
    | succ n => rw [List.take_succ_cons, List.takeWhile_cons, hq c rfl]; simp

/-- Bytes that end a number, and are none of it. -/
def Sep (P : UInt8 → Bool) : Prop := ∀ c, P c = true → isDig c = false ∧ c ≠ 42
section
variable {P : UInt8 → Bool} (hP : Sep P)
include hP
theorem num_ok {s : List UInt8} (h : numL (s.takeWhile fun c => !P c) ≠ 0) : numS s = some (numL (s.takeWhile fun c => !P c), s.dropWhile fun c => !P c) := by
  have e : s = (s.takeWhile fun c => !P c) ++ s.dropWhile fun c => !P c := (List.takeWhile_append_dropWhile).symm
  have hq : ∀ c, (s.dropWhile fun c => !P c).head? = some c → P c = true := fun c hc => by
    cases hs : s.dropWhile fun c => !P c with
    | nil => rw [hs] at hc; cases hc
    | cons x r =>
      rw [hs] at hc
      injection hc with hc
      subst hc
      have := dw_head _ s hs
      simpa using this
  generalize (s.takeWhile fun c => !P c) = p at e h
  generalize (s.dropWhile fun c => !P c) = q at e hq
  subst e
  rcases numL_pos h with rfl | ⟨h1, h7, h0, hd⟩
  · simp [numS, numL_star]
  · obtain ⟨k1, k2⟩ := numL_digits h1 h7 h0 hd
    have hg := grd_stop p q hd h7 (fun c hc => (hP c (hq c hc)).1)
    have hne : p ≠ [] := fun h => by rw [h] at h1; simp at h1
    have hh : (p ++ q).head? = p.head? := by
      cases p with
      | nil => exact absurd rfl hne
      | cons c r => rfl
    have h42 : p.head? ≠ some 42 := fun h => by
      cases p with
      | nil => exact absurd rfl hne
      | cons c r =>
        simp at h
        subst h
        simp [isDig] at hd
    unfold numS
    rw [hh, if_neg h42, hg, if_neg hne, if_neg h0, k1, List.drop_left]
theorem num_bad {s : List UInt8} (h : numL (s.takeWhile fun c => !P c) = 0) : numS s = none ∨ ∃ n c r, numS s = some (n, c :: r) ∧ P c = false := by
  unfold numS
  split
  · rename_i h42
    right
    cases s with
    | nil => cases h42
    | cons x r =>
      simp at h42
      subst h42
      refine ⟨1073741824, ?_⟩
      have hp42 : P 42 = false := by
        cases hp : P 42 with
        | false => rfl
        | true => exact absurd rfl (hP _ hp).2
      cases r with
      | nil => rw [List.takeWhile_cons, hp42] at h; simp [numL_star] at h
      | cons c r =>
        refine ⟨c, r, rfl, ?_⟩
        cases hp : P c with
        | false => rfl
        | true => rw [List.takeWhile_cons, hp42, List.takeWhile_cons, hp] at h; simp [numL_star] at h
  · rename_i h42
    split
    · exact .inl rfl
    · rename_i hne
      split
      · exact .inl rfl
      · rename_i h48
        right
        have hdl : (grd s).length ≤ s.length := by
          unfold grd
          have h1 := (List.takeWhile_sublist (l := s.take 7) isDig).length_le
          rw [List.length_take] at h1
          omega
        have hpre : grd s = s.take (grd s).length := by
          have := take_tw isDig (s.take 7)
          unfold grd
          rw [← this, List.take_take, List.length_take]
          congr 1
          have h1 := (List.takeWhile_sublist (l := s.take 7) isDig).length_le
          rw [List.length_take] at h1
          omega
        have hdig := grd_dig s
        have h7 := grd_len s
        refine ⟨dv 0 (grd s), ?_⟩
        obtain ⟨d, hd⟩ : ∃ d, grd s = d := ⟨_, rfl⟩
        rw [hd] at hne hdl hpre hdig h7 ⊢
        have e : s = d ++ s.drop d.length := by
          conv => lhs; rw [← List.take_append_drop d.length s, ← hpre]
        obtain ⟨q, hq⟩ : ∃ q, s.drop d.length = q := ⟨_, rfl⟩
        rw [hq] at e ⊢
        subst e
        have hnp : ∀ x ∈ d, (!P x) = true := fun x hx => by
          cases hp : P x with
          | false => rfl
          | true =>
            have h1 := (hP x hp).1
            have h2 := List.all_eq_true.1 hdig x hx
            rw [h1] at h2
            cases h2
        have h48' : d.head? ≠ some 48 := by
          cases d with
          | nil => exact absurd rfl hne
          | cons c r => exact h48
        have h1 : 1 ≤ d.length := by
          cases d with
          | nil => exact absurd rfl hne
          | cons c r => simp
        have hval := numL_digits h1 h7 h48' hdig
        rw [List.takeWhile_append_of_pos hnp] at h
        cases q with
        | nil =>
          rw [List.takeWhile_nil, List.append_nil] at h
          omega
        | cons c r =>
          refine ⟨c, r, rfl, ?_⟩
          cases hp : P c with
          | false => rfl
          | true =>
            rw [List.takeWhile_cons, hp] at h
            simp at h
            omega
end

/-! ### Ranges, sets -/
abbrev Rg := Int × Int
def colB (c : UInt8) : Bool := c == 44 || c == 58
def comB (c : UInt8) : Bool := c == 44
theorem sep_col : Sep colB := fun c h => by
  simp only [colB, Bool.or_eq_true, beq_iff_eq] at h
  rcases h with rfl | rfl <;> exact ⟨by decide, by decide⟩
theorem sep_com : Sep comB := fun c h => by
  simp only [comB, beq_iff_eq] at h
  subst h
  exact ⟨by decide, by decide⟩
/-- How many bytes stand ahead of the first x. -/
def ix (x : UInt8) (s : List UInt8) : Nat := (s.takeWhile fun c => !(c == x)).length
theorem ix_le (x : UInt8) (s : List UInt8) : ix x s ≤ s.length := (List.takeWhile_sublist _).length_le
theorem ix_take (x : UInt8) (s : List UInt8) : s.take (ix x s) = s.takeWhile fun c => !(c == x) := take_tw _ _
theorem ix_cons (x y : UInt8) (s : List UInt8) : ix x (y :: s) = if y = x then 0 else ix x s + 1 := by
  unfold ix
  rw [List.takeWhile_cons]
  by_cases h : y = x
  · simp [h]
  · simp [h]
theorem ix_hit {x : UInt8} {l : List UInt8} {k : Nat} (h : k < l.length) (hx : l[k] = x) : ix x (l.drop k) = 0 := by
  rw [List.drop_eq_getElem_cons h, ix_cons, if_pos hx]
theorem ix_miss {x : UInt8} {l : List UInt8} {k : Nat} (h : k < l.length) (hx : l[k] ≠ x) : ix x (l.drop k) = ix x (l.drop (k + 1)) + 1 := by
  rw [List.drop_eq_getElem_cons h, ix_cons, if_neg hx]
/-- A range that the bytes t are. -/
def rOf (t : List UInt8) : Option Rg :=
  let a := if ix 58 t < t.length then numL (t.take (ix 58 t)) else numL t
  let b := if ix 58 t < t.length then numL (t.drop (ix 58 t + 1)) else numL t
  if a = 0 ∨ b = 0 then none else some ((a : Int), (b : Int))
/-- The first range as the bytes tell it, and what stands behind it. -/
def oneP (s : List UInt8) : Option (Rg × List UInt8) :=
  match numS s with
  | none => none
  | some (a, s1) => if s1.head? = some 58 then
      match numS (s1.drop 1) with
      | none => none
      | some (b, s2) => some (((a : Int), (b : Int)), s2)
    else some (((a : Int), (a : Int)), s1)
theorem numS_none {P : UInt8 → Bool} (hP : Sep P) {s : List UInt8} (h : numS s = none) : numL (s.takeWhile fun c => !P c) = 0 := by
  by_cases h0 : numL (s.takeWhile fun c => !P c) = 0
  · exact h0
  · rw [num_ok hP h0] at h; cases h
theorem numS_stop {P : UInt8 → Bool} (hP : Sep P) {s q : List UInt8} {n : Nat} (h : numS s = some (n, q)) (hq : ∀ c, q.head? = some c → P c = true) : numL (s.takeWhile fun c => !P c) = n ∧ n ≠ 0 ∧ (s.dropWhile fun c => !P c) = q := by
  by_cases h0 : numL (s.takeWhile fun c => !P c) = 0
  · rcases num_bad hP h0 with h1 | ⟨m, c, r, h1, h2⟩
    · rw [h1] at h; cases h
    · rw [h1] at h
      injection h with h
      injection h with _ h
      rw [← h] at hq
      rw [hq c rfl] at h2
      cases h2
  · have := num_ok hP h0
    rw [h] at this
    injection this with this
    injection this with h1 h2
    exact ⟨h1.symm, h1 ▸ h0, h2.symm⟩
theorem numS_go {P : UInt8 → Bool} (hP : Sep P) {s r : List UInt8} {n : Nat} {c : UInt8} (h : numS s = some (n, c :: r)) (hc : P c = false) : numL (s.takeWhile fun c => !P c) = 0 := by
  by_cases h0 : numL (s.takeWhile fun c => !P c) = 0
  · exact h0
  · have := num_ok hP h0
    rw [h] at this
    injection this with this
    injection this with h1 h2
    have := dw_head _ s h2.symm
    rw [hc] at this
    cases this
/-- The piece ahead of the first comma, by its colon. -/
theorem tw_two (s : List UInt8) : (s.takeWhile fun c => !comB c).takeWhile (fun c => !(c == 58)) = s.takeWhile fun c => !colB c := by
  induction s with
  | nil => rfl
  | cons c r ih =>
    by_cases h1 : c = 44
    · subst h1
      simp [comB, colB]
    · by_cases h2 : c = 58
      · subst h2
        simp [comB, colB]
      · simp only [comB] at ih ⊢
        simp [colB, h1, h2]
        simpa [colB] using ih
theorem piece_eq (s : List UInt8) : s.take (ix 44 s) = s.takeWhile fun c => !comB c := ix_take 44 s
theorem rest_eq (s : List UInt8) : s.drop (ix 44 s) = s.dropWhile fun c => !comB c := drop_tw _ s
end Go.Proofs.YtbbgdcnnacakjaaDoor
