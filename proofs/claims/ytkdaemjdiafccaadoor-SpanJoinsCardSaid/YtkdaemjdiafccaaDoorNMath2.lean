/-
  span's mathematics, on: what one range's bytes are; the pieces between commas; a set as a text, and back. Nothing of the program stands here.
-/
import Derived.Test.YtkdaemjdiafccaaDoorNMath
import Derived.Lib.Join
namespace Go.Proofs.YtkdaemjdiafccaaDoor

/-! ### One range -/
theorem head_cons {α : Type} {l : List α} {x : α} (h : l.head? = some x) : ∃ r, l = x :: r := by
  cases l with
  | nil => cases h
  | cons y r => injection h with h; subst h; exact ⟨r, rfl⟩
theorem col_not {c : UInt8} (h : (!colB c) = true) : (!comB c) = true := by
  simp only [colB, comB, Bool.not_eq_true', Bool.or_eq_false_iff] at h ⊢
  exact h.1
/-- Behind the first number a colon. -/
theorem colon_case {s z : List UInt8} (h : (s.dropWhile fun c => !colB c) = 58 :: z) :
    (s.take (ix 44 s)) = (s.takeWhile fun c => !colB c) ++ 58 :: (z.takeWhile fun c => !comB c) ∧ ix 58 (s.take (ix 44 s)) = (s.takeWhile fun c => !colB c).length ∧ s.drop (ix 44 s) = z.dropWhile fun c => !comB c := by
  have e : s = (s.takeWhile fun c => !colB c) ++ 58 :: z := by rw [← h]; exact (List.takeWhile_append_dropWhile).symm
  have hp := tw_all (fun c => !colB c) s
  have h2 := tw_two s
  rw [piece_eq, rest_eq]
  refine ⟨?_, ?_, ?_⟩
  · generalize (s.takeWhile fun c => !colB c) = p at e hp
    subst e
    rw [List.takeWhile_append_of_pos (fun x hx => col_not (List.all_eq_true.1 hp x hx)), List.takeWhile_cons, if_pos (by decide)]
  · unfold ix
    rw [h2]
  · generalize (s.takeWhile fun c => !colB c) = p at e hp
    subst e
    rw [List.dropWhile_append_of_pos (fun x hx => col_not (List.all_eq_true.1 hp x hx)), List.dropWhile_cons, if_pos (by decide)]
theorem plain_case {s : List UInt8} (h : (s.dropWhile fun c => !colB c).head? ≠ some 58) :
    (s.take (ix 44 s)) = (s.takeWhile fun c => !colB c) ∧ ix 58 (s.take (ix 44 s)) = (s.take (ix 44 s)).length ∧ s.drop (ix 44 s) = s.dropWhile fun c => !colB c := by
  have e : s = (s.takeWhile fun c => !colB c) ++ (s.dropWhile fun c => !colB c) := (List.takeWhile_append_dropWhile).symm
  have hp := tw_all (fun c => !colB c) s
  have hq : ∀ c, (s.dropWhile fun c => !colB c).head? = some c → c = 44 := fun c hc => by
    obtain ⟨r, hr⟩ := head_cons hc
    have h1 := dw_head _ s hr
    simp only [Bool.not_eq_false', colB, Bool.or_eq_true, beq_iff_eq] at h1
    rcases h1 with h1 | h1
    · exact h1
    · rw [hc, h1] at h; exact absurd rfl h
  have h2 := tw_two s
  have h1 : (s.takeWhile fun c => !comB c) = (s.takeWhile fun c => !colB c) ∧ (s.dropWhile fun c => !comB c) = (s.dropWhile fun c => !colB c) := by
    generalize (s.takeWhile fun c => !colB c) = p at e hp
    generalize (s.dropWhile fun c => !colB c) = q at e hq
    subst e
    rw [List.takeWhile_append_of_pos (fun x hx => col_not (List.all_eq_true.1 hp x hx)), List.dropWhile_append_of_pos (fun x hx => col_not (List.all_eq_true.1 hp x hx))]
    cases q with
    | nil => exact ⟨by simp, rfl⟩
    | cons c r =>
      obtain rfl := hq c rfl
      rw [List.takeWhile_cons, if_neg (by decide), List.dropWhile_cons, if_neg (by decide)]
      exact ⟨by simp, rfl⟩
  rw [piece_eq, rest_eq]
  refine ⟨h1.1, ?_, h1.2⟩
  unfold ix
  rw [h2, h1.1]
theorem rOf_colon {t a b : List UInt8} (h : t = a ++ 58 :: b) (hx : ix 58 t = a.length) : rOf t = if numL a = 0 ∨ numL b = 0 then none else some ((numL a : Int), (numL b : Int)) := by
  have h1 : ix 58 t < t.length := by rw [hx, h]; simp
  have h2 : t.take (ix 58 t) = a := by rw [hx, h, List.take_left]
  have h3 : t.drop (ix 58 t + 1) = b := by rw [hx, h, List.drop_append]; simp
  unfold rOf
  simp only [if_pos h1, h2, h3]
theorem rOf_plain {t : List UInt8} (hx : ix 58 t = t.length) : rOf t = if numL t = 0 then none else some ((numL t : Int), (numL t : Int)) := by
  have h1 : ¬ ix 58 t < t.length := by omega
  unfold rOf
  simp only [if_neg h1, or_self]
/-- The first number is none: no range. -/
theorem rOf_first {s : List UInt8} (h : numL (s.takeWhile fun c => !colB c) = 0) : rOf (s.take (ix 44 s)) = none := by
  by_cases hc : (s.dropWhile fun c => !colB c).head? = some 58
  · obtain ⟨z, hz⟩ := head_cons hc
    obtain ⟨h1, h2, _⟩ := colon_case hz
    rw [rOf_colon h1 h2, if_pos (.inl h)]
  · obtain ⟨h1, h2, _⟩ := plain_case hc
    rw [rOf_plain h2, h1, if_pos h]
theorem rOf_second {s z : List UInt8} (hz : (s.dropWhile fun c => !colB c) = 58 :: z) (h : numL (z.takeWhile fun c => !comB c) = 0) : rOf (s.take (ix 44 s)) = none := by
  obtain ⟨h1, h2, _⟩ := colon_case hz
  rw [rOf_colon h1 h2, if_pos (.inr h)]
theorem head_58 {c : UInt8} : colB c = false → c ≠ 58 ∧ c ≠ 44 := fun h => by
  simp only [colB, Bool.or_eq_false_iff, beq_eq_false_iff_ne] at h
  exact ⟨h.2, h.1⟩
/-- What the range's bytes tell, and how the walk sees them. -/
theorem one_cases (s : List UInt8) :
    (oneP s = none ∧ rOf (s.take (ix 44 s)) = none) ∨ ∃ r q, oneP s = some (r, q) ∧
      ((q = [] ∧ rOf (s.take (ix 44 s)) = some r ∧ ix 44 s = s.length) ∨ (∃ z, q = 44 :: z ∧ rOf (s.take (ix 44 s)) = some r ∧ ix 44 s < s.length ∧ s.drop (ix 44 s + 1) = z) ∨ (∃ c z, q = c :: z ∧ c ≠ 44 ∧ rOf (s.take (ix 44 s)) = none)) := by
  have fin : ∀ (q : List UInt8), s.drop (ix 44 s) = q → (q = [] → ix 44 s = s.length) ∧ ∀ z, q = 44 :: z → ix 44 s < s.length ∧ s.drop (ix 44 s + 1) = z := by
    intro q hq
    have hle := ix_le 44 s
    have hl := congrArg List.length hq
    rw [List.length_drop] at hl
    refine ⟨fun h => ?_, fun z h => ?_⟩
    · rw [h] at hl; simp at hl; omega
    · rw [h, List.length_cons] at hl
      refine ⟨by omega, ?_⟩
      rw [← List.drop_drop, hq, h]
      rfl
  unfold oneP
  cases h1 : numS s with
  | none => exact .inl ⟨rfl, rOf_first (numS_none sep_col h1)⟩
  | some p =>
    obtain ⟨a, s1⟩ := p
    simp only
    by_cases hc : s1.head? = some 58
    · obtain ⟨z, rfl⟩ := head_cons hc
      obtain ⟨k1, k2, k3⟩ := numS_stop sep_col h1 (fun c hc => by injection hc with hc; subst hc; rfl)
      obtain ⟨c1, c2, c3⟩ := colon_case k3
      rw [if_pos hc]
      simp only [List.drop_succ_cons, List.drop_zero]
      cases h2 : numS z with
      | none => exact .inl ⟨rfl, rOf_second k3 (numS_none sep_com h2)⟩
      | some p2 =>
        obtain ⟨b, s2⟩ := p2
        simp only
        refine .inr ⟨_, _, rfl, ?_⟩
        by_cases hq : ∀ c, s2.head? = some c → comB c = true
        · obtain ⟨m1, m2, m3⟩ := numS_stop sep_com h2 hq
          have hr : rOf (s.take (ix 44 s)) = some ((a : Int), (b : Int)) := by
            rw [rOf_colon c1 c2, k1, m1, if_neg (by omega)]
          obtain ⟨f1, f2⟩ := fin s2 (by rw [c3, m3])
          cases s2 with
          | nil => exact .inl ⟨rfl, hr, f1 rfl⟩
          | cons c r =>
            have := hq c rfl
            simp only [comB, beq_iff_eq] at this
            subst this
            exact .inr (.inl ⟨r, rfl, hr, f2 r rfl⟩)
        · cases s2 with
          | nil => exact absurd (fun c hc => by cases hc) hq
          | cons c r =>
            have hcf : comB c = false := by
              cases h : comB c with
              | false => rfl
              | true => exact absurd (fun x hx => by injection hx with hx; subst hx; exact h) hq
            exact .inr (.inr ⟨c, r, rfl, by simpa [comB] using hcf, rOf_second k3 (numS_go sep_com h2 hcf)⟩)
    · rw [if_neg hc]
      refine .inr ⟨_, _, rfl, ?_⟩
      by_cases hq : ∀ c, s1.head? = some c → colB c = true
      · obtain ⟨m1, m2, m3⟩ := numS_stop sep_col h1 hq
        obtain ⟨c1, c2, c3⟩ := plain_case (s := s) (by rw [m3]; exact hc)
        have hr : rOf (s.take (ix 44 s)) = some ((a : Int), (a : Int)) := by
          rw [rOf_plain c2, c1, m1, if_neg m2]
        obtain ⟨f1, f2⟩ := fin s1 (by rw [c3, m3])
        cases s1 with
        | nil => exact .inl ⟨rfl, hr, f1 rfl⟩
        | cons c r =>
          have := hq c rfl
          simp only [colB, Bool.or_eq_true, beq_iff_eq] at this
          rcases this with rfl | rfl
          · exact .inr (.inl ⟨r, rfl, hr, f2 r rfl⟩)
          · exact absurd rfl hc
      · cases s1 with
        | nil => exact absurd (fun c hc => by cases hc) hq
        | cons c r =>
          have hcf : colB c = false := by
            cases h : colB c with
            | false => rfl
            | true => exact absurd (fun x hx => by injection hx with hx; subst hx; exact h) hq
          exact .inr (.inr ⟨c, r, rfl, (head_58 hcf).2, rOf_first (numS_go sep_col h1 hcf)⟩)

/-! ### Pieces between commas -/
def cm : List UInt8 → List (List UInt8)
  | [] => [[]]
  | c :: r => if c = 44 then [] :: cm r else match cm r with
    | [] => [[c]]
    | p :: q => (c :: p) :: q
theorem cm_ne : ∀ s, ∃ p q, cm s = p :: q
  | [] => ⟨_, _, rfl⟩
  | c :: r => by
    rw [cm]
    split
    · exact ⟨_, _, rfl⟩
    · split
      · exact ⟨_, _, rfl⟩
      · exact ⟨_, _, rfl⟩
theorem cm_len (s : List UInt8) : 1 ≤ (cm s).length := by
  obtain ⟨p, q, h⟩ := cm_ne s
  rw [h]; simp
theorem cm_step : ∀ s : List UInt8, cm s = if ix 44 s < s.length then s.take (ix 44 s) :: cm (s.drop (ix 44 s + 1)) else [s]
  | [] => by simp [cm, ix]
  | c :: r => by
    rw [ix_cons]
    by_cases h : c = 44
    · subst h
      simp [cm]
    · rw [cm, if_neg h, if_neg h, cm_step r]
      by_cases hi : ix 44 r < r.length
      · rw [if_pos hi, if_pos (by simp; omega)]
        simp
      · rw [if_neg hi, if_neg (by simp; omega)]
theorem cm_app : ∀ (a b : List UInt8), cm (a ++ 44 :: b) = cm a ++ cm b
  | [], b => by simp [cm]
  | c :: r, b => by
    rw [List.cons_append, cm, cm, cm_app r b]
    split
    · rfl
    · obtain ⟨p, q, h⟩ := cm_ne r
      rw [h]
      rfl
theorem cm_plain {s : List UInt8} (h : ∀ c ∈ s, c ≠ 44) : cm s = [s] := by
  rw [cm_step, if_neg]
  have : ix 44 s = s.length := by
    unfold ix
    rw [show (s.takeWhile fun c => !(c == 44)) = s from by
      have := List.takeWhile_append_of_pos (p := fun c => !(c == 44)) (l₁ := s) (l₂ := []) (fun x hx => by simp [h x hx])
      simpa using this]
  omega
def rgs : List (List UInt8) → Option (List Rg)
  | [] => some []
  | t :: r => match rOf t, rgs r with
    | some a, some l => some (a :: l)
    | _, _ => none
theorem rgs_bad {t : List UInt8} (h : rOf t = none) (r : List (List UInt8)) : rgs (t :: r) = none := by simp [rgs, h]
theorem rgs_app : ∀ (a b : List (List UInt8)), rgs (a ++ b) = match rgs a, rgs b with | some x, some y => some (x ++ y) | _, _ => none
  | [], b => by
    simp only [List.nil_append, rgs]
    cases rgs b <;> rfl
  | t :: r, b => by
    simp only [List.cons_append, rgs, rgs_app r b]
    cases rOf t <;> cases rgs r <;> cases rgs b <;> rfl
theorem rgs_len : ∀ (a : List (List UInt8)) (l : List Rg), rgs a = some l → l.length = a.length
  | [], l, h => by injection h with h; subst h; rfl
  | t :: r, l, h => by
    simp only [rgs] at h
    cases h1 : rOf t with
    | none => rw [h1] at h; cases h
    | some a =>
      cases h2 : rgs r with
      | none => rw [h1, h2] at h; cases h
      | some m =>
        rw [h1, h2] at h
        injection h with h
        subst h
        simp [rgs_len r m h2]
/-- A set of at most m ranges that the bytes are. -/
def prs (m : Nat) (s : List UInt8) : Option (List Rg) := if (cm s).length ≤ m then rgs (cm s) else none
theorem prs_zero (s : List UInt8) : prs 0 s = none := by
  unfold prs
  rw [if_neg (by have := cm_len s; omega)]
theorem cm_first (s : List UInt8) : ∃ q, cm s = s.take (ix 44 s) :: q := by
  rw [cm_step]
  have := ix_le 44 s
  split
  · exact ⟨_, rfl⟩
  · rw [List.take_of_length_le (by omega)]; exact ⟨_, rfl⟩
theorem prs_bad {s : List UInt8} (h : rOf (s.take (ix 44 s)) = none) (m : Nat) : prs m s = none := by
  unfold prs
  obtain ⟨q, hq⟩ := cm_first s
  rw [hq, rgs_bad h]
  simp
theorem prs_end {s : List UInt8} {r : Rg} (h : rOf (s.take (ix 44 s)) = some r) (he : ix 44 s = s.length) (m : Nat) : prs (m + 1) s = some [r] := by
  rw [List.take_of_length_le (by omega)] at h
  unfold prs
  rw [show cm s = [s] by rw [cm_step, if_neg (by omega)]]
  simp [rgs, h]
theorem prs_more {s z : List UInt8} {r : Rg} (h : rOf (s.take (ix 44 s)) = some r) (he : ix 44 s < s.length) (hz : s.drop (ix 44 s + 1) = z) (m : Nat) : prs (m + 1) s = (prs m z).map (r :: ·) := by
  unfold prs
  rw [cm_step, if_pos he, hz]
  simp only [List.length_cons, Nat.add_le_add_iff_right, rgs, h]
  split
  · cases rgs (cm z) <;> rfl
  · rfl
theorem prs_len {m : Nat} {s : List UInt8} {l : List Rg} (h : prs m s = some l) : 1 ≤ l.length ∧ l.length ≤ m ∧ l.length = (cm s).length := by
  unfold prs at h
  split at h
  · have := rgs_len _ _ h
    have := cm_len s
    omega
  · cases h

/-! ### As a text -/
def okN (n : Int) : Bool := (decide (1 ≤ n) && decide (n ≤ 9999999)) || n == 1073741824
def okR (r : Rg) : Bool := okN r.1 && okN r.2
def okS (l : List Rg) : Bool := decide (1 ≤ l.length) && decide (l.length ≤ 16) && l.all okR
def numT (n : Int) : List UInt8 := if n = 1073741824 then [42] else Lib.itoa n
def rngT (r : Rg) : List UInt8 := if r.1 = r.2 then numT r.1 else numT r.1 ++ 58 :: numT r.2
def prL (l : List Rg) : List UInt8 := if okS l = true then Lib.join (l.map rngT) [44] else []
theorem dig_of {k : Nat} (h : k < 10) : (UInt8.ofNat (48 + k)).toNat = 48 + k := by
  rw [UInt8.toNat_ofNat']; omega
theorem dec_digits : ∀ (u : Nat), (Lib.decDigits u).all isDig = true ∧ dv 0 (Lib.decDigits u) = u ∧ (1 ≤ u → (Lib.decDigits u).head? ≠ some 48) ∧ 1 ≤ (Lib.decDigits u).length := by
  intro u
  induction u using Nat.strongRecOn with
  | _ u ih =>
    by_cases h : u < 10
    · rw [Lib.decDigits, dif_pos h]
      have hd := dig_of h
      refine ⟨?_, ?_, fun h1 h2 => ?_, by simp⟩
      · simp only [List.all_cons, List.all_nil, Bool.and_true, isDig, hd, Bool.and_eq_true, decide_eq_true_eq]
        omega
      · rw [dv_cons, dv_nil]
        unfold stp
        omega
      · injection h2 with h2
        rw [h2] at hd
        have : (48 : UInt8).toNat = 48 := rfl
        omega
    · obtain ⟨i1, i2, i3, i4⟩ := ih (u / 10) (by omega)
      rw [Lib.decDigits, dif_neg h]
      have hd := dig_of (show u % 10 < 10 by omega)
      refine ⟨?_, ?_, fun _ => ?_, by simp⟩
      · rw [List.all_append, i1]
        simp only [List.all_cons, List.all_nil, Bool.and_true, Bool.true_and, isDig, hd, Bool.and_eq_true, decide_eq_true_eq]
        omega
      · rw [dv_snoc, i2]
        unfold stp
        omega
      · have h3 := i3 (by omega)
        cases hh : Lib.decDigits (u / 10) with
        | nil => rw [hh] at i4; simp at i4
        | cons c r => rw [hh] at h3; simpa using h3
theorem dec_len {u : Nat} (h1 : 1 ≤ u) (h2 : u ≤ 9999999) : (Lib.decDigits u).length ≤ 7 := by
  rw [Lib.decDigits_length]
  rcases (by omega : u < 10 ∨ 10 ≤ u ∧ u < 100 ∨ 100 ≤ u ∧ u < 1000 ∨ 1000 ≤ u ∧ u < 10000 ∨ 10000 ≤ u ∧ u < 100000 ∨ 100000 ≤ u ∧ u < 1000000 ∨ 1000000 ≤ u ∧ u < 10000000) with h | h | h | h | h | h | h
  · rw [Lib.nDigits_small h]; omega
  · rw [Lib.nDigits_unique 1 u (by omega) (by omega)]; omega
  · rw [Lib.nDigits_unique 2 u (by omega) (by omega)]; omega
  · rw [Lib.nDigits_unique 3 u (by omega) (by omega)]; omega
  · rw [Lib.nDigits_unique 4 u (by omega) (by omega)]; omega
  · rw [Lib.nDigits_unique 5 u (by omega) (by omega)]; omega
  · rw [Lib.nDigits_unique 6 u (by omega) (by omega)]; omega
theorem numT_back {n : Int} (h : okN n = true) : (numL (numT n) : Int) = n ∧ n ≠ 0 ∧ (∀ c ∈ numT n, c ≠ 58 ∧ c ≠ 44) ∧ (numT n).length ≤ 7 := by
  unfold numT
  by_cases h1 : n = 1073741824
  · subst h1
    rw [if_pos rfl, numL_star]
    exact ⟨rfl, by omega, by simp, by simp⟩
  · simp only [okN, Bool.or_eq_true, Bool.and_eq_true, decide_eq_true_eq, beq_iff_eq] at h
    obtain ⟨u, rfl⟩ : ∃ u : Nat, n = u := ⟨n.toNat, by omega⟩
    rw [if_neg h1]
    have hi : Lib.itoa (u : Int) = Lib.decDigits u := by
      unfold Lib.itoa
      rw [if_neg (by omega)]
      rfl
    rw [hi]
    obtain ⟨d1, d2, d3, d4⟩ := dec_digits u
    have d5 := dec_len (u := u) (by omega) (by omega)
    refine ⟨?_, by omega, fun c hc => ?_, d5⟩
    · rw [(numL_digits d4 d5 (d3 (by omega)) d1).1, d2]
    · have h2 := List.all_eq_true.1 d1 c hc
      refine ⟨fun e => ?_, fun e => ?_⟩ <;> subst e <;> revert h2 <;> decide
theorem ix_app {x : UInt8} : ∀ {p : List UInt8} (r : List UInt8), (∀ y ∈ p, y ≠ x) → ix x (p ++ x :: r) = p.length
  | [], r, _ => by rw [List.nil_append, ix_cons, if_pos rfl]; rfl
  | y :: p, r, h => by
    rw [List.cons_append, ix_cons, if_neg (h y (by simp)), ix_app r (fun z hz => h z (by simp [hz]))]
    rfl
theorem ix_none {x : UInt8} : ∀ {p : List UInt8}, (∀ y ∈ p, y ≠ x) → ix x p = p.length
  | [], _ => rfl
  | y :: p, h => by
    rw [ix_cons, if_neg (h y (by simp)), ix_none (fun z hz => h z (by simp [hz]))]
    rfl
theorem rngT_back {r : Rg} (h : okR r = true) : rOf (rngT r) = some r ∧ (∀ c ∈ rngT r, c ≠ 44) ∧ (rngT r).length ≤ 15 := by
  obtain ⟨a, b⟩ := r
  simp only [okR, Bool.and_eq_true] at h
  obtain ⟨a1, a2, a3, a4⟩ := numT_back h.1
  obtain ⟨b1, b2, b3, b4⟩ := numT_back h.2
  unfold rngT
  simp only
  by_cases he : a = b
  · subst he
    rw [if_pos rfl]
    refine ⟨?_, fun c hc => (a3 c hc).2, by omega⟩
    rw [rOf_plain (ix_none fun y hy => (a3 y hy).1), if_neg (by omega), a1]
  · rw [if_neg he]
    refine ⟨?_, fun c hc => ?_, by rw [List.length_append, List.length_cons]; omega⟩
    · rw [rOf_colon rfl (ix_app _ fun y hy => (a3 y hy).1), if_neg (by omega), a1, b1]
    · rcases List.mem_append.1 hc with h1 | h1
      · exact (a3 c h1).2
      · rcases List.mem_cons.1 h1 with rfl | h1
        · decide
        · exact (b3 c h1).2
theorem join_two (x y : List UInt8) (r : List (List UInt8)) : Lib.join (x :: y :: r) [44] = x ++ 44 :: Lib.join (y :: r) [44] := by
  rw [Lib.join_cons, Lib.join_cons]
  simp [Lib.joinTail]
theorem cm_join : ∀ (ts : List (List UInt8)), ts ≠ [] → (∀ t ∈ ts, ∀ c ∈ t, c ≠ 44) → cm (Lib.join ts [44]) = ts
  | [], h, _ => absurd rfl h
  | [x], _, h => by rw [Lib.join_one]; exact cm_plain (h x (by simp))
  | x :: y :: r, _, h => by
    rw [join_two, cm_app, cm_plain (h x (by simp)), cm_join (y :: r) (by simp) (fun t ht => h t (by simp [ht]))]
    rfl
theorem rgs_map : ∀ (l : List Rg), l.all okR = true → rgs (l.map rngT) = some l
  | [], _ => rfl
  | r :: l, h => by
    simp only [List.all_cons, Bool.and_eq_true] at h
    simp only [List.map_cons, rgs, (rngT_back h.1).1, rgs_map l h.2]
/-- What is printed is read as it was. -/
theorem prL_back {l : List Rg} (h : okS l = true) : prs 16 (prL l) = some l := by
  unfold prL
  rw [if_pos h]
  simp only [okS, Bool.and_eq_true, decide_eq_true_eq] at h
  have hc := cm_join (l.map rngT) (by
    intro e
    have := congrArg List.length e
    simp at this
    rw [this] at h
    simp at h) (fun t ht => by
    obtain ⟨r, hr, rfl⟩ := List.mem_map.1 ht
    exact (rngT_back (List.all_eq_true.1 h.2 r hr)).2.1)
  unfold prs
  rw [hc, if_pos (by simp; omega)]
  exact rgs_map l h.2
theorem prL_le (l : List Rg) : (prL l).length ≤ 256 := by
  unfold prL
  split
  · rename_i h
    simp only [okS, Bool.and_eq_true, decide_eq_true_eq] at h
    have key : ∀ (ts : List (List UInt8)), (∀ t ∈ ts, t.length ≤ 15) → (Lib.join ts [44]).length ≤ 16 * ts.length := by
      intro ts
      induction ts with
      | nil => intro _; simp [Lib.join_nil]
      | cons x r ih =>
        intro ht
        cases r with
        | nil =>
          rw [Lib.join_one]
          have := ht x (by simp)
          simp
          omega
        | cons y r =>
          rw [join_two, List.length_append, List.length_cons]
          have h1 := ht x (by simp)
          have h2 := ih (fun t h => ht t (by simp [h]))
          simp only [List.length_cons] at h2 ⊢
          omega
    have h1 := key (l.map rngT) (fun t ht => by
      obtain ⟨r, hr, rfl⟩ := List.mem_map.1 ht
      exact (rngT_back (List.all_eq_true.1 h.2 r hr)).2.2)
    rw [List.length_map] at h1
    omega
  · simp
end Go.Proofs.YtkdaemjdiafccaaDoor
