/-
  Complex numbers whose parts are whole: sums, products, signs, comparisons. Plain mathematics; nothing of the program stands here.
-/
import Derived.Test.YthaodlegpjedoaaWFl
namespace Go.Proofs.Ythaodlegpjedoaa
open Go Ieee

/-- Small enough to be exact. -/
def W53 (x : Int) : Prop := x.natAbs ≤ 2 ^ 53
theorem w53 {x : Int} (h0 : -9007199254740992 ≤ x) (h1 : x ≤ 9007199254740992) : W53 x := by unfold W53; omega
theorem W53.bd {x : Int} (h : W53 x) : -9007199254740992 ≤ x ∧ x ≤ 9007199254740992 := by unfold W53 at h; omega

theorem w53_zero : W53 0 := by unfold W53; decide
theorem FI_zero : FI 0 = 0 := rfl
theorem FI_one : FI 1 = 4607182418800017408 := by decide
theorem FI_minus : FI (-1) = 13830554455654793216 := by decide

theorem cadd_FI {c d : Nat} {x y z u : Int} (hc : Is c z) (hd : Is d u) (hx : W53 x) (hy : W53 y) (h1 : W53 (x + z)) (h2 : W53 (y + u)) :
    cSumBits .add .f64 (FI x) (FI y) c d = some (FI (x + z), FI (y + u)) := by
  have e1 : floatBits .add .f64 (FI x) c = some (FI (x + z)) := add_FI hx hc h1
  have e2 : floatBits .add .f64 (FI y) d = some (FI (y + u)) := add_FI hy hd h2
  unfold cSumBits
  rw [e1, e2]
  rfl
theorem cadd_zero {a b : Nat} {x y : Int} (ha : Is a x) (hb : Is b y) (hx : W53 x) (hy : W53 y) : cSumBits .add .f64 a b 0 0 = some (FI x, FI y) := by
  have e1 : floatBits .add .f64 a 0 = some (FI x) := by
    have := add_FI' (y := 0) ha (by decide) (by rw [Int.add_zero]; exact hx)
    rw [Int.add_zero] at this
    exact this
  have e2 : floatBits .add .f64 b 0 = some (FI y) := by
    have := add_FI' (y := 0) hb (by decide) (by rw [Int.add_zero]; exact hy)
    rw [Int.add_zero] at this
    exact this
  unfold cSumBits
  rw [e1, e2]
  rfl
theorem cmul_is {a b c d : Nat} {x y z u : Int} (ha : Is a x) (hb : Is b y) (hc : Is c z) (hd : Is d u) (h1 : W53 (x * z)) (h2 : W53 (y * u)) (h3 : W53 (x * z - y * u))
    (h4 : W53 (x * u)) (h5 : W53 (y * z)) (h6 : W53 (x * u + y * z)) : ∃ re im, cMulBits a b c d = some (re, im) ∧ Is re (x * z - y * u) ∧ Is im (x * u + y * z) := by
  obtain ⟨r1, e1, i1⟩ := mul_is ha hc h1
  obtain ⟨r2, e2, i2⟩ := mul_is hb hd h2
  obtain ⟨r3, e3, i3⟩ := sub_is i1 i2 h3
  obtain ⟨r4, e4, i4⟩ := mul_is ha hd h4
  obtain ⟨r5, e5, i5⟩ := mul_is hb hc h5
  obtain ⟨r6, e6, i6⟩ := add_is i4 i5 h6
  refine ⟨r3, r6, ?_, i3, i6⟩
  have f1 : floatBits .mul .f64 a c = some r1 := e1
  have f2 : floatBits .mul .f64 b d = some r2 := e2
  have f3 : floatBits .sub .f64 r1 r2 = some r3 := e3
  have f4 : floatBits .mul .f64 a d = some r4 := e4
  have f5 : floatBits .mul .f64 b c = some r5 := e5
  have f6 : floatBits .add .f64 r4 r5 = some r6 := e6
  unfold cMulBits
  rw [f1, f2, f4, f5]
  simp only [Option.bind_some, f3, f6]

/-- A number and its square's like: no sign at 0. -/
theorem sq_FI {x : Int} (hx : W53 x) (h : W53 (x * x)) : floatBits .mul .f64 (FI x) (FI x) = some (FI (x * x)) := mul_FI hx hx h (fun _ => by simp)
theorem fmul_FI {x y : Int} (hx : W53 x) (hy : W53 y) (h : W53 (x * y)) (h0 : 0 ≤ x) (h1 : 0 ≤ y) : floatBits .mul .f64 (FI x) (FI y) = some (FI (x * y)) :=
  mul_FI hx hy h (fun _ => by rw [decide_eq_false (by omega), decide_eq_false (by omega)]; rfl)
theorem fadd_FI {x y : Int} (hx : W53 x) (hy : W53 y) (h : W53 (x + y)) : floatBits .add .f64 (FI x) (FI y) = some (FI (x + y)) := add_FI hx (is_FI hy) h

/-- The other sign. -/
theorem xor_top {r : Nat} (h : r < 9223372036854775808) : r ^^^ 2 ^ 63 = 2 ^ 63 + r ∧ (2 ^ 63 + r) ^^^ 2 ^ 63 = r := by
  have h' : r < 2 ^ 63 := h
  have e : 2 ^ 63 + r = r ^^^ 2 ^ 63 := by
    have h1 := Nat.two_pow_add_eq_or_of_lt h' 1
    rw [Nat.mul_one] at h1
    rw [h1]
    apply Nat.eq_of_testBit_eq
    intro i
    rw [Nat.testBit_or, Nat.testBit_xor, Nat.testBit_two_pow]
    by_cases hi : 63 = i
    · subst hi
      rw [Nat.testBit_lt_two_pow h']
      rfl
    · simp [hi]
  refine ⟨e.symm, ?_⟩
  rw [e, Nat.xor_assoc, Nat.xor_self, Nat.xor_zero]
theorem neg_word (s : Bool) {r : Nat} (h : r < 9223372036854775808) : Op.negFloat .f64 (double.word s r) = double.word (!s) r := by
  have hs : double.signWeight = 2 ^ 63 := by decide
  have hx : Op.negFloat .f64 (double.word s r) = double.word s r ^^^ 2 ^ 63 := rfl
  rw [hx]
  unfold Format.word
  rw [hs]
  cases s
  · simpa using (xor_top h).1
  · simpa using (xor_top h).2
theorem neg_is {y : Int} (hy : W53 y) : Is (Op.negFloat .f64 (FI y)) (-y) := by
  by_cases h0 : y = 0
  · subst h0
    have : FI 0 = double.word false 0 := rfl
    rw [this, neg_word _ (by omega)]
    exact ⟨_, 0, -1074, read_zero _, Int.le_refl _, by simp [sg, up]⟩
  · have h0' : y.natAbs ≠ 0 := by omega
    have hb := sig_bd h0' hy
    have hL := log2_53 h0' hy
    have e2 : FI y = double.word (decide (y < 0)) ((y.natAbs.log2 + 1022) * 4503599627370496 + sig y.natAbs) := by
      rw [FI_def]
      exact nearest_whole _ y.natAbs y.natAbs 0 h0' hy (by omega) (by simp)
    obtain ⟨m, e, hr, he, hv⟩ := FI_sign hy
    rw [e2, read_word _ _ _ hL hb.1 hb.2] at hr
    injection hr with q1 q2 q3
    subst q2 q3
    rw [e2, neg_word _ (by omega)]
    refine ⟨_, _, _, read_word _ _ _ hL hb.1 hb.2, he, ?_⟩
    have : sg (!decide (y < 0)) (sig y.natAbs * 2 ^ ((y.natAbs.log2 : Int) - 52 + KB).toNat) = -(sg (decide (y < 0)) (sig y.natAbs * 2 ^ ((y.natAbs.log2 : Int) - 52 + KB).toNat)) := by
      cases decide (y < 0) <;> simp [sg]
    rw [this, hv]
    simp [up, Int.neg_mul]

/-- Comparisons as the walk spells them. -/
theorem eq_FI {x : Int} (hx : W53 x) : (FloatKind.f64.format.order (FI x) (FI x) == some Ordering.eq) = true := by
  have := order_FI hx
  show (double.order (FI x) (FI x) == some .eq) = true
  rw [this]
  rfl

/-! ### Powers and their sums -/
def pwr (p q : Int) : Nat → Int × Int
  | 0 => (1, 0)
  | k + 1 => ((pwr p q k).1 * p - (pwr p q k).2 * q, (pwr p q k).1 * q + (pwr p q k).2 * p)
def pol (p q : Int) (l : List Int) : Nat → Int × Int
  | 0 => (0, 0)
  | k + 1 => ((pol p q l k).1 + l.getD k 0 * (pwr p q k).1, (pol p q l k).2 + l.getD k 0 * (pwr p q k).2)

/-- How great the sums of powers may be. -/
structure Bnd (p q : Int) (l : List Int) (M : Nat) (C : Nat → Nat) : Prop where
  at_ : p.natAbs + q.natAbs ≤ M
  one : 1 ≤ M
  sum : ∀ k, k < l.length → C k + M ^ k ≤ C (k + 1)
  top : C l.length * 1048576 ≤ 9007199254740992
  pow : M ^ l.length ≤ 9007199254740992
  small : ∀ x ∈ l, -1048576 < x ∧ x < 1048576
theorem mul_bd {a b : Int} {A B : Nat} (ha : a.natAbs ≤ A) (hb : b.natAbs ≤ B) : (a * b).natAbs ≤ A * B := by rw [Int.natAbs_mul]; exact Nat.mul_le_mul ha hb
theorem pwr_bd {p q : Int} {M : Nat} (h : p.natAbs + q.natAbs ≤ M) : ∀ k, (pwr p q k).1.natAbs ≤ M ^ k ∧ (pwr p q k).2.natAbs ≤ M ^ k
  | 0 => by simp [pwr]
  | k + 1 => by
    obtain ⟨h1, h2⟩ := pwr_bd h k
    have a := mul_bd h1 (Nat.le_refl p.natAbs)
    have b := mul_bd h2 (Nat.le_refl q.natAbs)
    have c := mul_bd h1 (Nat.le_refl q.natAbs)
    have d := mul_bd h2 (Nat.le_refl p.natAbs)
    have e : M ^ k * p.natAbs + M ^ k * q.natAbs ≤ M ^ (k + 1) := by
      rw [← Nat.mul_add, Nat.pow_succ]
      exact Nat.mul_le_mul_left _ h
    simp only [pwr]
    omega
theorem pow_mono {M : Nat} (h : 1 ≤ M) {k n : Nat} (hk : k ≤ n) : M ^ k ≤ M ^ n := Nat.pow_le_pow_right h hk
theorem Bnd.power {p q : Int} {l : List Int} {M : Nat} {C : Nat → Nat} (h : Bnd p q l M C) {k : Nat} (hk : k ≤ l.length) : W53 (pwr p q k).1 ∧ W53 (pwr p q k).2 := by
  have h1 := pwr_bd h.at_ k
  have h2 := pow_mono h.one hk
  have h3 := h.pow
  unfold W53
  omega
theorem Bnd.mono {p q : Int} {l : List Int} {M : Nat} {C : Nat → Nat} (h : Bnd p q l M C) : ∀ (d k : Nat), k + d = l.length → C k ≤ C l.length
  | 0, k, e => by rw [Nat.add_zero] at e; rw [e]; exact Nat.le_refl _
  | d + 1, k, e => Nat.le_trans (Nat.le_trans (Nat.le_add_right _ _) (h.sum k (by omega))) (h.mono d (k + 1) (by omega))
theorem Bnd.getD {p q : Int} {l : List Int} {M : Nat} {C : Nat → Nat} (h : Bnd p q l M C) (k : Nat) : (l.getD k 0).natAbs ≤ 1048576 := by
  by_cases hk : k < l.length
  · have := h.small l[k] (List.getElem_mem hk)
    rw [show l.getD k 0 = l[k] by simp [List.getD, hk]]
    omega
  · rw [List.getD_eq_getElem?_getD, List.getElem?_eq_none (by omega)]
    simp
theorem pol_bd {p q : Int} {l : List Int} {M : Nat} {C : Nat → Nat} (h : Bnd p q l M C) : ∀ k, k ≤ l.length → (pol p q l k).1.natAbs ≤ C k * 1048576 ∧ (pol p q l k).2.natAbs ≤ C k * 1048576
  | 0, _ => by simp [pol]
  | k + 1, hk => by
    obtain ⟨h1, h2⟩ := pol_bd h k (by omega)
    have hp := pwr_bd h.at_ k
    have a := mul_bd (h.getD k) hp.1
    have b := mul_bd (h.getD k) hp.2
    have hc := Nat.mul_le_mul_right 1048576 (h.sum k (by omega))
    rw [Nat.add_mul] at hc
    rw [Nat.mul_comm 1048576] at a b
    simp only [pol]
    omega
theorem Bnd.sums {p q : Int} {l : List Int} {M : Nat} {C : Nat → Nat} (h : Bnd p q l M C) {k : Nat} (hk : k ≤ l.length) : W53 (pol p q l k).1 ∧ W53 (pol p q l k).2 := by
  have h1 := pol_bd h k hk
  have h2 := h.mono (l.length - k) k (by omega)
  have h3 := h.top
  have h4 := Nat.mul_le_mul_right 1048576 h2
  unfold W53
  omega
theorem Bnd.part {p q : Int} {l : List Int} {M : Nat} {C : Nat → Nat} (h : Bnd p q l M C) {k : Nat} (hk : k < l.length) : W53 (l.getD k 0 * (pwr p q k).1) ∧ W53 (l.getD k 0 * (pwr p q k).2) := by
  have hp := pwr_bd h.at_ k
  have a := mul_bd (h.getD k) hp.1
  have b := mul_bd (h.getD k) hp.2
  have h2 := h.mono (l.length - (k + 1)) (k + 1) (by omega)
  have h3 := h.top
  have h4 := Nat.mul_le_mul_right 1048576 (Nat.le_trans (h.sum k hk) h2)
  rw [Nat.add_mul] at h4
  rw [Nat.mul_comm 1048576] at a b
  unfold W53
  omega
theorem Bnd.next {p q : Int} {l : List Int} {M : Nat} {C : Nat → Nat} (h : Bnd p q l M C) {k : Nat} (hk : k < l.length) :
    W53 ((pwr p q k).1 * p) ∧ W53 ((pwr p q k).2 * q) ∧ W53 ((pwr p q k).1 * q) ∧ W53 ((pwr p q k).2 * p) ∧ W53 p ∧ W53 q := by
  obtain ⟨h1, h2⟩ := pwr_bd h.at_ k
  have hM := h.at_
  have a := mul_bd h1 (show p.natAbs ≤ M by omega)
  have b := mul_bd h2 (show q.natAbs ≤ M by omega)
  have c := mul_bd h1 (show q.natAbs ≤ M by omega)
  have d := mul_bd h2 (show p.natAbs ≤ M by omega)
  have e := pow_mono h.one (show k + 1 ≤ l.length by omega)
  have e1 := pow_mono h.one (show 1 ≤ l.length by omega)
  have e2 := h.pow
  rw [Nat.pow_one] at e1
  rw [Nat.pow_succ] at e
  unfold W53
  omega
end Go.Proofs.Ythaodlegpjedoaa
