/-
  Plain mathematics of the check sum: one bit's step, a nibble's, a byte's; rows; that one byte that is another one gives another sum. Nothing of the program stands here.
-/
namespace Go.Proofs.YtblggoneifmoeaaDoor

def poly : Nat := 3988292384
/-- One bit. -/
def bit1 (x : Nat) : Nat := if x % 2 = 1 then x / 2 ^^^ poly else x / 2
def bits4 (x : Nat) : Nat := bit1 (bit1 (bit1 (bit1 x)))
def bits8 (x : Nat) : Nat := bits4 (bits4 x)

theorem half_xor (a b : Nat) : (a ^^^ b) / 2 = a / 2 ^^^ b / 2 := by
  have := Nat.shiftRight_xor_distrib (a := a) (b := b) (i := 1)
  simpa [Nat.shiftRight_succ] using this
theorem odd_xor (a b : Nat) : (a ^^^ b) % 2 = (a % 2 + b % 2) % 2 := by
  have h := Nat.testBit_xor a b 0
  simp only [Nat.testBit_zero] at h
  have hm : (a ^^^ b) % 2 < 2 := Nat.mod_lt _ (by omega)
  generalize (a ^^^ b) % 2 = m at h hm ⊢
  obtain rfl | rfl : m = 0 ∨ m = 1 := by omega
  all_goals rcases Nat.mod_two_eq_zero_or_one a with ha | ha <;> rcases Nat.mod_two_eq_zero_or_one b with hb | hb <;> rw [ha, hb] at h <;> rw [ha, hb] <;> revert h <;> decide
theorem bit1_xor (a b : Nat) : bit1 (a ^^^ b) = bit1 a ^^^ bit1 b := by
  unfold bit1
  rw [odd_xor, half_xor]
  rcases Nat.mod_two_eq_zero_or_one a with ha | ha <;> rcases Nat.mod_two_eq_zero_or_one b with hb | hb <;> simp only [ha, hb]
  · simp
  · simp [Nat.xor_assoc]
  · simp only [if_true, Nat.zero_ne_one, if_false]
    rw [Nat.xor_assoc, Nat.xor_assoc, Nat.xor_comm (b / 2)]
  · simp only [Nat.reduceAdd, Nat.mod_self, Nat.zero_ne_one, if_false, if_true]
    rw [Nat.xor_assoc, ← Nat.xor_assoc poly, Nat.xor_comm poly (b / 2), Nat.xor_assoc (b / 2), Nat.xor_self, Nat.xor_zero]
theorem bits4_xor (a b : Nat) : bits4 (a ^^^ b) = bits4 a ^^^ bits4 b := by
  unfold bits4
  simp only [bit1_xor]
theorem bits8_xor (a b : Nat) : bits8 (a ^^^ b) = bits8 a ^^^ bits8 b := by
  unfold bits8
  simp only [bits4_xor]
theorem bit1_even (h : Nat) : bit1 (2 * h) = h := by
  unfold bit1
  rw [if_neg (by omega)]
  omega
theorem bits4_high (h : Nat) : bits4 (16 * h) = h := by
  unfold bits4
  rw [show 16 * h = 2 * (2 * (2 * (2 * h))) from by omega, bit1_even, bit1_even, bit1_even, bit1_even]
theorem split16 (x : Nat) : x = 16 * (x / 16) ^^^ x % 16 := by
  have h := Nat.two_pow_add_eq_or_of_lt (i := 4) (b := x % 16) (by omega) (x / 16)
  have hx : 16 * (x / 16) + x % 16 = x := by omega
  have hd : (16 * (x / 16)) &&& (x % 16) = 0 := by
    apply Nat.eq_of_testBit_eq
    intro j
    rw [Nat.testBit_and, Nat.zero_testBit]
    by_cases hj : j < 4
    · have : Nat.testBit (16 * (x / 16)) j = false := by
        rw [show 16 * (x / 16) = 2 ^ 4 * (x / 16) from rfl, Nat.testBit_two_pow_mul]
        simp [show ¬ j ≥ 4 by omega]
      simp [this]
    · have : Nat.testBit (x % 16) j = false := by
        rw [show x % 16 = x % 2 ^ 4 from rfl, Nat.testBit_mod_two_pow]
        simp [hj]
      simp [this]
  have he : (16 * (x / 16)) ||| (x % 16) = x := by
    rw [← hx]
    have : (16 * (x / 16) + x % 16) / 16 = x / 16 := by omega
    have h2 : (16 * (x / 16) + x % 16) % 16 = x % 16 := by omega
    rw [this, h2]
    exact h.symm
  apply Nat.eq_of_testBit_eq
  intro j
  have ho := congrArg (fun n => Nat.testBit n j) he
  have ha := congrArg (fun n => Nat.testBit n j) hd
  simp only [Nat.testBit_or, Nat.testBit_and, Nat.zero_testBit] at ho ha
  rw [Nat.testBit_xor]
  revert ho ha
  cases Nat.testBit (16 * (x / 16)) j <;> cases Nat.testBit (x % 16) j <;> cases Nat.testBit x j <;> simp
/-- A nibble by a table of sixteen. -/
theorem nib_eq (x : Nat) : x / 16 ^^^ bits4 (x % 16) = bits4 x := by
  have h := bits4_xor (16 * (x / 16)) (x % 16)
  rw [← split16, bits4_high] at h
  exact h.symm

theorem xor_lt {a b : Nat} (ha : a < 4294967296) (hb : b < 4294967296) : a ^^^ b < 4294967296 := Nat.xor_lt_two_pow (n := 32) ha hb
theorem bit1_lt {x : Nat} (h : x < 4294967296) : bit1 x < 4294967296 := by
  unfold bit1
  split
  · exact xor_lt (by omega) (by decide)
  · omega
theorem bits4_lt {x : Nat} (h : x < 4294967296) : bits4 x < 4294967296 := bit1_lt (bit1_lt (bit1_lt (bit1_lt h)))
theorem bits8_lt {x : Nat} (h : x < 4294967296) : bits8 x < 4294967296 := bits4_lt (bits4_lt h)

/-- The check sum goes on over bytes. -/
def crc (s : Nat) (l : List UInt8) : Nat := l.foldl (fun s b => bits8 (s ^^^ b.toNat)) s
theorem crc_nil (s : Nat) : crc s [] = s := rfl
theorem crc_snoc (s : Nat) (l : List UInt8) (b : UInt8) : crc s (l ++ [b]) = bits8 (crc s l ^^^ b.toNat) := by simp [crc]
theorem crc_append (s : Nat) (l m : List UInt8) : crc s (l ++ m) = crc (crc s l) m := by simp [crc]
theorem crc_lt {s : Nat} (h : s < 4294967296) : ∀ l : List UInt8, crc s l < 4294967296 := by
  intro l
  induction l generalizing s with
  | nil => exact h
  | cons b l ih =>
    have hb := b.toNat_lt
    exact ih (bits8_lt (xor_lt h (by omega)))
def sumOf (l : List UInt8) : Nat := 4294967295 - crc 4294967295 l

/-! ### One byte that is another one -/
theorem xor_cancel {a b c : Nat} (h : a ^^^ c = b ^^^ c) : a = b := by
  have := congrArg (· ^^^ c) h
  simpa [Nat.xor_assoc] using this
theorem bit1_zero {x : Nat} (hx : x < 4294967296) (h : bit1 x = 0) : x = 0 := by
  unfold bit1 at h
  split at h
  · exfalso
    have e : x / 2 = poly := by
      have := congrArg (· ^^^ poly) h
      simpa [Nat.xor_assoc] using this
    unfold poly at e
    omega
  · omega
theorem bits8_zero {x : Nat} (hx : x < 4294967296) (h : bits8 x = 0) : x = 0 := by
  have h1 := bit1_zero (bit1_lt (bit1_lt (bit1_lt (bits4_lt hx)))) h
  have h2 := bit1_zero (bit1_lt (bit1_lt (bits4_lt hx))) h1
  have h3 := bit1_zero (bit1_lt (bits4_lt hx)) h2
  have h4 := bit1_zero (bits4_lt hx) h3
  have h5 := bit1_zero (bit1_lt (bit1_lt (bit1_lt hx))) h4
  have h6 := bit1_zero (bit1_lt (bit1_lt hx)) h5
  have h7 := bit1_zero (bit1_lt hx) h6
  exact bit1_zero hx h7
theorem xor_zero_eq {a b : Nat} (h : a ^^^ b = 0) : a = b := by
  have := congrArg (· ^^^ b) h
  simpa [Nat.xor_assoc] using this
theorem bits8_inj {a b : Nat} (ha : a < 4294967296) (hb : b < 4294967296) (h : bits8 a = bits8 b) : a = b := by
  have h0 : bits8 (a ^^^ b) = 0 := by rw [bits8_xor, h, Nat.xor_self]
  exact xor_zero_eq (bits8_zero (xor_lt ha hb) h0)
theorem crc_inj {a b : Nat} (ha : a < 4294967296) (hb : b < 4294967296) : ∀ l : List UInt8, crc a l = crc b l → a = b := by
  intro l
  induction l generalizing a b with
  | nil => exact fun h => h
  | cons x l ih =>
    intro h
    have hx := x.toNat_lt
    have := ih (bits8_lt (xor_lt ha (b := x.toNat) (by omega))) (bits8_lt (xor_lt hb (b := x.toNat) (by omega))) h
    exact xor_cancel (bits8_inj (xor_lt ha (by omega)) (xor_lt hb (by omega)) this)
/-- Two rows that differ in one byte have unlike sums. -/
theorem sum_ne (p q : List UInt8) (a b : UInt8) (h : a ≠ b) : sumOf (p ++ a :: q) ≠ sumOf (p ++ b :: q) := by
  intro e
  have l1 := crc_lt (s := 4294967295) (by omega) (p ++ a :: q)
  have l2 := crc_lt (s := 4294967295) (by omega) (p ++ b :: q)
  unfold sumOf at e
  have e2 : crc 4294967295 (p ++ a :: q) = crc 4294967295 (p ++ b :: q) := by omega
  rw [crc_append, crc_append] at e2
  have hp := crc_lt (s := 4294967295) (by omega) p
  have ha := a.toNat_lt
  have hb := b.toNat_lt
  have := crc_inj (bits8_lt (xor_lt hp (b := a.toNat) (by omega))) (bits8_lt (xor_lt hp (b := b.toNat) (by omega))) q e2
  have := bits8_inj (xor_lt hp (by omega)) (xor_lt hp (by omega)) this
  rw [Nat.xor_comm, Nat.xor_comm _ b.toNat] at this
  exact h (UInt8.toNat_inj.1 (xor_cancel this))
end Go.Proofs.YtblggoneifmoeaaDoor
