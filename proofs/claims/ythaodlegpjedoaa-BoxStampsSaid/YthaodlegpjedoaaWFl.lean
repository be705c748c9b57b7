/-
  Whole numbers as floats of 64 bits: below 2^53 they are exact. Plain mathematics over Ieee's words; nothing of the program stands here.
-/
import Derived.WalkLawsBesides
namespace Go.Proofs.Ythaodlegpjedoaa
open Go Ieee

/-- A scale below every place that comes. -/
theorem KB_is : ∃ k : Nat, 2148 ≤ k := ⟨2148, Nat.le_refl _⟩
noncomputable def KB : Nat := Classical.choose KB_is
theorem KB_ge : 2148 ≤ KB := Classical.choose_spec KB_is

theorem log2_eq {n k : Nat} (h1 : 2 ^ k ≤ n) (h2 : n < 2 ^ (k + 1)) : n.log2 = k := by
  have h0 : n ≠ 0 := by have := Nat.two_pow_pos k; omega
  have a := (Nat.le_log2 h0).2 h1
  have b := (Nat.log2_lt h0).2 h2
  omega
theorem log2_le {n : Nat} (h : n ≠ 0) : 2 ^ n.log2 ≤ n := (Nat.le_log2 h).1 (Nat.le_refl _)
theorem lt_log2 {n : Nat} (h : n ≠ 0) : n < 2 ^ (n.log2 + 1) := (Nat.log2_lt h).1 (Nat.lt_succ_self _)
theorem log2_mul_pow {n : Nat} (h : n ≠ 0) (k : Nat) : (n * 2 ^ k).log2 = n.log2 + k := by
  refine log2_eq ?_ ?_
  · rw [Nat.pow_add]; exact Nat.mul_le_mul_right _ (log2_le h)
  · have : n.log2 + k + 1 = (n.log2 + 1) + k := by omega
    rw [this, Nat.pow_add (n := k)]
    exact Nat.mul_lt_mul_of_pos_right (lt_log2 h) (Nat.two_pow_pos k)

theorem double_frac : double.fractionBits = 52 := rfl
theorem double_least : double.leastPlace = -1074 := by decide
theorem double_binade : double.binade = 4503599627370496 := by decide
theorem double_inf : double.infRung = 9218868437227405312 := by decide
theorem double_sign : double.signWeight = 9223372036854775808 := by decide

/-- The cut of a number that ends in so many noughts. -/
theorem cut_exact (neg : Bool) (q d : Nat) (hq : q ≠ 0) : Toward.even.cut neg (q * 2 ^ d) d = q := by
  have hl : (q * 2 ^ d).log2 = q.log2 + d := log2_mul_pow hq d
  have hmin : min d ((q * 2 ^ d).log2 + 2) = d := by rw [hl]; omega
  have hp := Nat.two_pow_pos d
  simp [Toward.cut, hmin, Nat.one_shiftLeft, Nat.mul_div_cancel _ hp, Nat.mul_mod_left]

/-- The significand of a whole number. -/
def sig (N : Nat) : Nat := N * 2 ^ 52 / 2 ^ N.log2
theorem sig_mul {N : Nat} (h0 : N ≠ 0) (h : N ≤ 2 ^ 53) : sig N * 2 ^ N.log2 = N * 2 ^ 52 := by
  unfold sig
  refine Nat.div_mul_cancel ?_
  have h1 := log2_le h0
  by_cases hl : N.log2 ≤ 52
  · have : (2 : Nat) ^ 52 = 2 ^ (52 - N.log2) * 2 ^ N.log2 := by rw [← Nat.pow_add]; congr 1; omega
    rw [this, ← Nat.mul_assoc]
    exact Nat.dvd_mul_left _ _
  · have h2 : N.log2 < 54 := (Nat.log2_lt h0).2 (by omega)
    have h3 : N.log2 = 53 := by omega
    rw [h3] at h1 ⊢
    have h4 : N = 2 ^ 53 := by omega
    rw [h4]
    exact Nat.dvd_mul_right _ _
theorem sig_bd {N : Nat} (h0 : N ≠ 0) (h : N ≤ 2 ^ 53) : 4503599627370496 ≤ sig N ∧ sig N < 9007199254740992 := by
  have h1 := sig_mul h0 h
  have h2 := log2_le h0
  have h3 := lt_log2 h0
  have hp := Nat.two_pow_pos N.log2
  rw [Nat.pow_succ] at h3
  generalize 2 ^ N.log2 = p at h1 h2 h3 hp
  generalize sig N = q at h1
  constructor
  · rcases Nat.lt_or_ge q 4503599627370496 with hq | hq
    · exfalso
      have h5 : q * p ≤ 4503599627370495 * p := Nat.mul_le_mul_right p (by omega)
      have h6 : (2 : Nat) ^ 52 = 4503599627370496 := by decide
      rw [h6] at h1
      omega
    · exact hq
  · rcases Nat.lt_or_ge q 9007199254740992 with hq | hq
    · exact hq
    · exfalso
      have h5 : 9007199254740992 * p ≤ q * p := Nat.mul_le_mul_right p hq
      have h6 : (2 : Nat) ^ 52 = 4503599627370496 := by decide
      rw [h6] at h1
      omega
theorem log2_53 {N : Nat} (h0 : N ≠ 0) (h : N ≤ 2 ^ 53) : N.log2 ≤ 53 := by
  have : N.log2 < 54 := (Nat.log2_lt h0).2 (by omega)
  omega

/-- What 'nearest' gives of a whole number N, however it is spelt. -/
theorem nearest_whole (s : Bool) (m N : Nat) (e : Int) (h0 : N ≠ 0) (hN2 : N ≤ 2 ^ 53) (he : -(KB : Int) ≤ e) (h : m * 2 ^ (e + KB).toNat = N * 2 ^ KB) :
    double.nearest s m e = double.word s ((N.log2 + 1022) * 4503599627370496 + sig N) := by
  have hq := sig_mul h0 hN2
  have hb := sig_bd h0 hN2
  have hL := log2_53 h0 hN2
  have hm : m ≠ 0 := by
    rintro rfl
    have := Nat.mul_pos (Nat.pos_of_ne_zero h0) (Nat.two_pow_pos KB)
    omega
  have hlog : m.log2 + (e + KB).toNat = N.log2 + KB := by rw [← log2_mul_pow hm, ← log2_mul_pow h0, h]
  have hlast : max (e + (m.log2 : Int) - (double.fractionBits : Nat)) double.leastPlace = (N.log2 : Int) - 52 := by
    rw [double_frac, double_least]
    omega
  -- m and the significand
  have hkey : Toward.even.cut s (m <<< (e - ((N.log2 : Int) - 52)).toNat) (((N.log2 : Int) - 52) - e).toNat = sig N := by
    rw [Nat.shiftLeft_eq]
    rcases Int.le_total ((N.log2 : Int) - 52) e with hle | hle
    · have hd : (((N.log2 : Int) - 52) - e).toNat = 0 := by omega
      have hm2 : m * 2 ^ (e - ((N.log2 : Int) - 52)).toNat = sig N := by
        have e1 : (e + KB).toNat + 52 = (e - ((N.log2 : Int) - 52)).toNat + (N.log2 + KB) := by omega
        have e2 : m * 2 ^ ((e + KB).toNat + 52) = sig N * 2 ^ (N.log2 + KB) := by
          rw [Nat.pow_add, ← Nat.mul_assoc, h, Nat.pow_add, ← Nat.mul_assoc, hq, Nat.mul_assoc, Nat.mul_assoc, Nat.mul_comm (2 ^ KB)]
        rw [e1, Nat.pow_add, ← Nat.mul_assoc] at e2
        exact Nat.eq_of_mul_eq_mul_right (Nat.two_pow_pos _) e2
      rw [hd, hm2]
      have := cut_exact s (sig N) 0 (by omega)
      simpa using this
    · have hd : (e - ((N.log2 : Int) - 52)).toNat = 0 := by omega
      have hm2 : m = sig N * 2 ^ (((N.log2 : Int) - 52) - e).toNat := by
        have e1 : (((N.log2 : Int) - 52) - e).toNat + ((e + KB).toNat + 52) = N.log2 + KB := by omega
        have e2 : m * 2 ^ ((e + KB).toNat + 52) = sig N * 2 ^ (N.log2 + KB) := by
          rw [Nat.pow_add, ← Nat.mul_assoc, h, Nat.pow_add, ← Nat.mul_assoc, hq, Nat.mul_assoc, Nat.mul_assoc, Nat.mul_comm (2 ^ KB)]
        rw [← e1, Nat.pow_add (m := (((N.log2 : Int) - 52) - e).toNat), ← Nat.mul_assoc] at e2
        exact Nat.eq_of_mul_eq_mul_right (Nat.two_pow_pos _) e2
      rw [hd, Nat.pow_zero, Nat.mul_one]
      rw [hm2]
      exact cut_exact s (sig N) _ (by omega)
  unfold Format.nearest
  rw [if_neg hm]
  dsimp only
  rw [hlast, hkey, double_least, double_binade, double_inf]
  have h3 : (((N.log2 : Int) - 52) - (-1074)).toNat = N.log2 + 1022 := by omega
  rw [h3, Nat.min_eq_left (by omega)]

theorem read_word (s : Bool) (L k : Nat) (hL : L ≤ 53) (h1 : 4503599627370496 ≤ k) (h2 : k < 9007199254740992) :
    double.read (double.word s ((L + 1022) * 4503599627370496 + k)) = .number s k ((L : Int) - 52) := by
  unfold Format.read Format.word
  rw [double_sign, double_binade, double_inf, double_least]
  have e1 : ((L + 1022) * 4503599627370496 + k) % 4503599627370496 = k - 4503599627370496 := by omega
  have e2 : ((L + 1022) * 4503599627370496 + k) / 4503599627370496 = L + 1023 := by omega
  cases s
  · simp only [Bool.false_eq_true, if_false]
    have e3 : ((L + 1022) * 4503599627370496 + k) % 9223372036854775808 = (L + 1022) * 4503599627370496 + k := by omega
    have e4 : ((L + 1022) * 4503599627370496 + k) / 9223372036854775808 = 0 := by omega
    rw [e3, e4, if_neg (by omega), if_pos (by omega), e1, e2]
    simp only [Datum.number.injEq]
    exact ⟨by decide, by omega, by omega⟩
  · simp only [if_true]
    have e3 : (9223372036854775808 + ((L + 1022) * 4503599627370496 + k)) % 9223372036854775808 = (L + 1022) * 4503599627370496 + k := by rw [Nat.add_mod_left]; omega
    have e4 : (9223372036854775808 + ((L + 1022) * 4503599627370496 + k)) / 9223372036854775808 = 1 := by rw [Nat.add_div_left _ (by decide)]; omega
    rw [e3, e4, if_neg (by omega), if_pos (by omega), e1, e2]
    simp only [Datum.number.injEq]
    exact ⟨by decide, by omega, by omega⟩
theorem read_zero (s : Bool) : double.read (double.word s 0) = .number s 0 (-1074) := by
  unfold Format.read Format.word
  rw [double_sign, double_binade, double_inf, double_least]
  cases s <;> simp

/-! ### Words that are whole numbers -/
def sg (s : Bool) (x : Nat) : Int := if s then -(x : Int) else (x : Int)
theorem signed_eq (s : Bool) (m up : Nat) : signed s m up = sg s (m * 2 ^ up) := by unfold signed sg; rw [Nat.shiftLeft_eq]
theorem sg_natAbs (s : Bool) (x : Nat) : (sg s x).natAbs = x := by unfold sg; split <;> omega
theorem sg_mul (s t : Bool) (x y : Nat) : sg s x * sg t y = sg (s ^^ t) (x * y) := by
  cases s <;> cases t <;> simp [sg, Int.mul_neg, Int.neg_mul]
theorem sg_scale (s : Bool) (x y : Nat) : sg s x * (y : Int) = sg s (x * y) := by
  have := sg_mul s false x y
  simpa [sg] using this

/-- The number n, times 2^KB. -/
noncomputable def up (n : Int) : Int := n * ((2 ^ KB : Nat) : Int)
theorem up_inj {a b : Int} (h : up a = up b) : a = b := Int.eq_of_mul_eq_mul_right (by have := Nat.two_pow_pos KB; omega) h

/-- The word reads as the whole number n. -/
def Is (b : Nat) (n : Int) : Prop := ∃ s m, ∃ e : Int, double.read b = .number s m e ∧ -1074 ≤ e ∧ sg s (m * 2 ^ (e + KB).toNat) = up n

/-- The word of a whole number; of 0 the one without a sign. -/
abbrev FI (n : Int) : Nat := floatOfInt .f64 n
theorem FI_def (n : Int) : FI n = double.nearest (decide (n < 0)) n.natAbs 0 := rfl

theorem write_int {s : Bool} {m : Nat} {e : Int} {n : Int} (he : -(KB : Int) ≤ e) (h : sg s (m * 2 ^ (e + KB).toNat) = up n) (hn : n.natAbs ≤ 2 ^ 53) :
    Is (double.write (.number s m e)) n ∧ ((n = 0 → s = false) → double.write (.number s m e) = FI n) := by
  have hp := Nat.two_pow_pos KB
  have hpe := Nat.two_pow_pos (e + KB).toNat
  have hab : m * 2 ^ (e + KB).toNat = n.natAbs * 2 ^ KB := by
    have := congrArg Int.natAbs h
    rw [sg_natAbs] at this
    rw [this]
    unfold up
    rw [Int.natAbs_mul]
    rfl
  show Is (double.nearest s m e) n ∧ ((n = 0 → s = false) → double.nearest s m e = FI n)
  by_cases h0 : n = 0
  · subst h0
    have hm : m = 0 := by
      rcases Nat.eq_zero_or_pos m with h1 | h1
      · exact h1
      · have := Nat.mul_pos h1 hpe
        simp at hab
        omega
    subst hm
    have e1 : double.nearest s 0 e = double.word s 0 := by unfold Format.nearest; rw [if_pos rfl]
    rw [e1]
    refine ⟨⟨s, 0, -1074, read_zero s, Int.le_refl _, by cases s <;> simp [sg, up]⟩, fun hs => ?_⟩
    rw [hs rfl]
    rfl
  · have h0' : n.natAbs ≠ 0 := by omega
    have hs : s = decide (n < 0) := by
      have hpos : 0 < m * 2 ^ (e + KB).toNat := by rw [hab]; exact Nat.mul_pos (by omega) hp
      unfold sg up at h
      rcases Int.lt_or_gt_of_ne h0 with hlt | hgt
      · have h2 : n * ((2 ^ KB : Nat) : Int) < 0 := Int.mul_neg_of_neg_of_pos hlt (by omega)
        cases s
        · simp only [Bool.false_eq_true, if_false] at h; omega
        · simp [hlt]
      · have h2 : 0 < n * ((2 ^ KB : Nat) : Int) := Int.mul_pos hgt (by omega)
        cases s
        · simp; omega
        · simp only [if_true] at h; omega
    have e1 := nearest_whole s m n.natAbs e h0' hn he hab
    have e2 : FI n = double.word (decide (n < 0)) ((n.natAbs.log2 + 1022) * 4503599627370496 + sig n.natAbs) := by
      rw [FI_def]
      exact nearest_whole _ n.natAbs n.natAbs 0 h0' hn (by omega) (by simp)
    have hb := sig_bd h0' hn
    have hL := log2_53 h0' hn
    have hq := sig_mul h0' hn
    refine ⟨?_, fun _ => by rw [e1, e2, hs]⟩
    rw [e1]
    refine ⟨s, sig n.natAbs, _, read_word s _ _ hL hb.1 hb.2, by omega, ?_⟩
    have e3 : sig n.natAbs * 2 ^ ((n.natAbs.log2 : Int) - 52 + KB).toNat = n.natAbs * 2 ^ KB := by
      have hK := KB_ge
      have e4 : ((n.natAbs.log2 : Int) - 52 + KB).toNat + 52 = n.natAbs.log2 + KB := by omega
      refine Nat.eq_of_mul_eq_mul_right (Nat.two_pow_pos 52) ?_
      rw [Nat.mul_assoc, ← Nat.pow_add, e4, Nat.pow_add, ← Nat.mul_assoc, hq, Nat.mul_assoc, Nat.mul_assoc, Nat.mul_comm (2 ^ 52)]
    rw [e3, ← hab]
    exact h

theorem is_FI {n : Int} (hn : n.natAbs ≤ 2 ^ 53) : Is (FI n) n := by
  have := (write_int (s := decide (n < 0)) (m := n.natAbs) (e := 0) (n := n) (by omega) (by
    unfold sg up
    have e1 : ((0 : Int) + KB).toNat = KB := by omega
    rw [e1]
    by_cases h : n < 0
    · simp only [h, decide_true, if_true]
      have : (n.natAbs : Int) = -n := by omega
      rw [Int.natCast_mul, this, Int.neg_mul, Int.neg_neg]
    · simp only [h, decide_false, Bool.false_eq_true, if_false]
      have : (n.natAbs : Int) = n := by omega
      rw [Int.natCast_mul, this]) hn).1
  exact this
/-- The sign of a word of its own of a whole number. -/
theorem FI_sign {n : Int} (hn : n.natAbs ≤ 2 ^ 53) : ∃ m, ∃ e : Int, double.read (FI n) = .number (decide (n < 0)) m e ∧ -1074 ≤ e ∧ sg (decide (n < 0)) (m * 2 ^ (e + KB).toNat) = up n := by
  obtain ⟨s, m, e, hr, he, hv⟩ := is_FI hn
  by_cases h0 : n = 0
  · subst h0
    have : FI 0 = double.word false 0 := rfl
    rw [this, read_zero] at hr
    injection hr with h1 h2 h3
    subst h1 h2 h3
    exact ⟨0, -1074, by rw [this, read_zero]; simp, by omega, by simpa using hv⟩
  · have h0' : n.natAbs ≠ 0 := by omega
    have e2 : FI n = double.word (decide (n < 0)) ((n.natAbs.log2 + 1022) * 4503599627370496 + sig n.natAbs) := by
      rw [FI_def]
      exact nearest_whole _ n.natAbs n.natAbs 0 h0' hn (by omega) (by simp)
    have hb := sig_bd h0' hn
    have hr2 := read_word (decide (n < 0)) n.natAbs.log2 (sig n.natAbs) (log2_53 h0' hn) hb.1 hb.2
    rw [← e2] at hr2
    rw [hr2] at hr
    injection hr with h1 h2 h3
    subst h1 h2 h3
    exact ⟨_, _, hr2, he, hv⟩

/-! ### The operations -/
theorem mul_gen {a b : Nat} {s t : Bool} {m n : Nat} {i j : Int} {x y : Int} (ha : double.read a = .number s m i) (hb : double.read b = .number t n j) (hi : -1074 ≤ i) (hj : -1074 ≤ j)
    (hx : sg s (m * 2 ^ (i + KB).toNat) = up x) (hy : sg t (n * 2 ^ (j + KB).toNat) = up y) (h : (x * y).natAbs ≤ 2 ^ 53) :
    ∃ r, double.mul a b = some r ∧ Is r (x * y) ∧ ((x * y = 0 → (s ^^ t) = false) → r = FI (x * y)) := by
  have hK := KB_ge
  have hw := write_int (s := s ^^ t) (m := m * n) (e := i + j) (n := x * y) (by omega) (by
    have e1 : (i + KB).toNat + (j + KB).toNat = (i + j + KB).toNat + KB := by omega
    have e2 : (m * 2 ^ (i + KB).toNat) * (n * 2 ^ (j + KB).toNat) = (m * n * 2 ^ (i + j + KB).toNat) * 2 ^ KB := by
      calc (m * 2 ^ (i + KB).toNat) * (n * 2 ^ (j + KB).toNat) = m * n * (2 ^ (i + KB).toNat * 2 ^ (j + KB).toNat) := by ac_rfl
        _ = m * n * 2 ^ ((i + j + KB).toNat + KB) := by rw [← Nat.pow_add, e1]
        _ = _ := by rw [Nat.pow_add]; ac_rfl
    have e3 : sg (s ^^ t) (m * n * 2 ^ (i + j + KB).toNat) * ((2 ^ KB : Nat) : Int) = up (x * y) * ((2 ^ KB : Nat) : Int) := by
      rw [sg_scale, ← e2, ← sg_mul, hx, hy]
      unfold up
      ac_rfl
    exact Int.eq_of_mul_eq_mul_right (by have := Nat.two_pow_pos KB; omega) e3) h
  refine ⟨double.write (.number (s ^^ t) (m * n) (i + j)), ?_, hw.1, hw.2⟩
  simp [Format.mul, ha, hb, Datum.product]

theorem mul_is {a b : Nat} {x y : Int} (ha : Is a x) (hb : Is b y) (h : (x * y).natAbs ≤ 2 ^ 53) : ∃ r, double.mul a b = some r ∧ Is r (x * y) := by
  obtain ⟨s, m, i, h1, h2, h3⟩ := ha
  obtain ⟨t, n, j, k1, k2, k3⟩ := hb
  obtain ⟨r, hr, hi, _⟩ := mul_gen h1 k1 h2 k2 h3 k3 h
  exact ⟨r, hr, hi⟩
theorem mul_FI {x y : Int} (hx : x.natAbs ≤ 2 ^ 53) (hy : y.natAbs ≤ 2 ^ 53) (h : (x * y).natAbs ≤ 2 ^ 53) (hs : x * y = 0 → (decide (x < 0) ^^ decide (y < 0)) = false) : double.mul (FI x) (FI y) = some (FI (x * y)) := by
  obtain ⟨m, i, h1, h2, h3⟩ := FI_sign hx
  obtain ⟨n, j, k1, k2, k3⟩ := FI_sign hy
  obtain ⟨r, hr, _, hf⟩ := mul_gen h1 k1 h2 k2 h3 k3 h
  rw [hr, hf hs]

theorem sum_gen {a : Nat} {d : Datum} {s t : Bool} {m n : Nat} {i j : Int} {x y : Int} (ha : double.read a = .number s m i) (hd : d = .number t n j) (hi : -1074 ≤ i) (hj : -1074 ≤ j)
    (hx : sg s (m * 2 ^ (i + KB).toNat) = up x) (hy : sg t (n * 2 ^ (j + KB).toNat) = up y) (h : (x + y).natAbs ≤ 2 ^ 53) :
    ∃ r, ((double.read a).sum d).map double.write = some r ∧ Is r (x + y) ∧ ((x + y = 0 → (s && t) = false) → r = FI (x + y)) := by
  have hK := KB_ge
  have part : ∀ (s : Bool) (m : Nat) (i base : Int), base ≤ i → -1074 ≤ base → signed s m (i - base).toNat * ((2 ^ (base + KB).toNat : Nat) : Int) = sg s (m * 2 ^ (i + KB).toNat) := fun s m i base h1 h2 => by
    rw [signed_eq, sg_scale, Nat.mul_assoc, ← Nat.pow_add]
    congr 3
    omega
  have p1 := part s m i (min i j) (by omega) (by omega)
  have p2 := part t n j (min i j) (by omega) (by omega)
  have hbp : (0 : Int) < ((2 ^ (min i j + KB).toNat : Nat) : Int) := by have := Nat.two_pow_pos (min i j + KB).toNat; omega
  rw [hx] at p1
  rw [hy] at p2
  generalize hT : signed s m (i - min i j).toNat + signed t n (j - min i j).toNat = T
  have hTv : T * ((2 ^ (min i j + KB).toNat : Nat) : Int) = up (x + y) := by rw [← hT, Int.add_mul, p1, p2]; unfold up; rw [Int.add_mul]
  have hz : T = 0 ↔ x + y = 0 := by
    constructor
    · intro h0
      rw [h0, Int.zero_mul] at hTv
      exact (up_inj (a := x + y) (b := 0) (by rw [← hTv]; simp [up]))
    · intro h0
      rw [h0] at hTv
      rcases Int.mul_eq_zero.1 (show T * _ = 0 by rw [hTv]; simp [up]) with h1 | h1
      · exact h1
      · omega
  have hw := write_int (s := if T = 0 then s && t else decide (T < 0)) (m := T.natAbs) (e := min i j) (n := x + y) (by omega) (by
    rw [← hTv, ← sg_scale]
    congr 1
    unfold sg
    by_cases h0 : T = 0
    · subst h0; cases s <;> cases t <;> simp
    · rw [if_neg h0]
      by_cases hn : T < 0
      · simp only [hn, decide_true, if_true]; omega
      · simp only [hn, decide_false, Bool.false_eq_true, if_false]; omega) h
  refine ⟨_, by rw [ha, hd]; simp only [Datum.sum, hT, Option.map_some], hw.1, fun hs => hw.2 fun h0 => ?_⟩
  rw [if_pos (hz.2 h0)]
  exact hs h0
theorem add_is {a b : Nat} {x y : Int} (ha : Is a x) (hb : Is b y) (h : (x + y).natAbs ≤ 2 ^ 53) : ∃ r, double.add a b = some r ∧ Is r (x + y) := by
  obtain ⟨s, m, i, h1, h2, h3⟩ := ha
  obtain ⟨t, n, j, k1, k2, k3⟩ := hb
  obtain ⟨r, hr, hi, _⟩ := sum_gen h1 k1 h2 k2 h3 k3 h
  exact ⟨r, hr, hi⟩
/-- A sum whose first part has no sign at 0 has none. -/
theorem add_FI {b : Nat} {x y : Int} (hx : x.natAbs ≤ 2 ^ 53) (hb : Is b y) (h : (x + y).natAbs ≤ 2 ^ 53) : double.add (FI x) b = some (FI (x + y)) := by
  obtain ⟨m, i, h1, h2, h3⟩ := FI_sign hx
  obtain ⟨t, n, j, k1, k2, k3⟩ := hb
  obtain ⟨r, hr, _, hf⟩ := sum_gen h1 k1 h2 k2 h3 k3 h
  have hs : x + y = 0 → (decide (x < 0) && t) = false := fun h0 => by
    by_cases hn : x < 0
    · have hy : 0 < y := by omega
      have : t = false := by
        cases t with
        | false => rfl
        | true =>
          exfalso
          have hp : 0 < up y := Int.mul_pos hy (by have := Nat.two_pow_pos KB; omega)
          rw [← k3] at hp
          simp only [sg, if_true] at hp
          omega
      simp [this]
    · simp [hn]
  rw [hf hs] at hr
  exact hr
theorem add_FI' {a : Nat} {x y : Int} (ha : Is a x) (hy : y.natAbs ≤ 2 ^ 53) (h : (x + y).natAbs ≤ 2 ^ 53) : double.add a (FI y) = some (FI (x + y)) := by
  obtain ⟨s, m, i, h1, h2, h3⟩ := ha
  obtain ⟨n, j, k1, k2, k3⟩ := FI_sign hy
  obtain ⟨r, hr, _, hf⟩ := sum_gen h1 k1 h2 k2 h3 k3 h
  have hs : x + y = 0 → (s && decide (y < 0)) = false := fun h0 => by
    by_cases hn : y < 0
    · have hx : 0 < x := by omega
      have : s = false := by
        cases s with
        | false => rfl
        | true =>
          exfalso
          have hp : 0 < up x := Int.mul_pos hx (by have := Nat.two_pow_pos KB; omega)
          rw [← h3] at hp
          simp only [sg, if_true] at hp
          omega
      simp [this]
    · simp [hn]
  rw [hf hs] at hr
  exact hr
theorem sub_is {a b : Nat} {x y : Int} (ha : Is a x) (hb : Is b y) (h : (x - y).natAbs ≤ 2 ^ 53) : ∃ r, double.sub a b = some r ∧ Is r (x - y) := by
  obtain ⟨s, m, i, h1, h2, h3⟩ := ha
  obtain ⟨t, n, j, k1, k2, k3⟩ := hb
  have k3' : sg (!t) (n * 2 ^ (j + KB).toNat) = up (-y) := by
    have : sg (!t) (n * 2 ^ (j + KB).toNat) = -(sg t (n * 2 ^ (j + KB).toNat)) := by cases t <;> simp [sg]
    rw [this, k3]
    simp [up, Int.neg_mul]
  obtain ⟨r, hr, hi, _⟩ := sum_gen (d := (double.read b).opposite) h1 (by rw [k1]; rfl) h2 k2 h3 k3' (by omega)
  exact ⟨r, hr, hi⟩

/-- Two words of one number are equal. -/
theorem order_is {a b : Nat} {x : Int} (ha : Is a x) (hb : Is b x) : double.order a b = some .eq := by
  obtain ⟨s, m, i, h1, h2, h3⟩ := ha
  obtain ⟨t, n, j, k1, k2, k3⟩ := hb
  have hK := KB_ge
  have part : ∀ (s : Bool) (m : Nat) (i base : Int), base ≤ i → -1074 ≤ base → signed s m (i - base).toNat * ((2 ^ (base + KB).toNat : Nat) : Int) = sg s (m * 2 ^ (i + KB).toNat) := fun s m i base h1 h2 => by
    rw [signed_eq, sg_scale, Nat.mul_assoc, ← Nat.pow_add]
    congr 3
    omega
  have p1 := part s m i (min i j) (by omega) (by omega)
  have p2 := part t n j (min i j) (by omega) (by omega)
  have hbp : (0 : Int) < ((2 ^ (min i j + KB).toNat : Nat) : Int) := by have := Nat.two_pow_pos (min i j + KB).toNat; omega
  have : signed s m (i - min i j).toNat = signed t n (j - min i j).toNat := Int.eq_of_mul_eq_mul_right (Int.ne_of_gt hbp) (by rw [p1, p2, h3, k3])
  simp only [Format.order, h1, k1, Datum.order, this]
  simp [compare, compareOfLessAndEq]
theorem order_FI {x : Int} (hx : x.natAbs ≤ 2 ^ 53) : double.order (FI x) (FI x) = some .eq := order_is (is_FI hx) (is_FI hx)
end Go.Proofs.Ythaodlegpjedoaa
