/-
  Plain mathematics of the laws of wave: turns by places, shifts.
-/
import Derived.Test.YthaodlegpjedoaaWRef
namespace Go.Proofs.Ythaodlegpjedoaa
open Go.RowKit

theorem pwr_i : ∀ k, pwr 0 1 k = (if k % 4 = 0 then 1 else if k % 4 = 2 then -1 else 0, if k % 4 = 1 then 1 else if k % 4 = 3 then -1 else 0)
  | 0 => rfl
  | k + 1 => by
    simp only [pwr, pwr_i k]
    rcases (show k % 4 = 0 ∨ k % 4 = 1 ∨ k % 4 = 2 ∨ k % 4 = 3 by omega) with h | h | h | h
    · have : (k + 1) % 4 = 1 := by omega
      simp [h, this]
    · have : (k + 1) % 4 = 2 := by omega
      simp [h, this]
    · have : (k + 1) % 4 = 3 := by omega
      simp [h, this]
    · have : (k + 1) % 4 = 0 := by omega
      simp [h, this]
theorem pol_i (l : List Int) : ∀ k, pol 0 1 l k = (fr l 0 k - fr l 2 k, fr l 1 k - fr l 3 k)
  | 0 => rfl
  | k + 1 => by
    simp only [pol, fr, pol_i l k, pwr_i k]
    rcases (show k % 4 = 0 ∨ k % 4 = 1 ∨ k % 4 = 2 ∨ k % 4 = 3 by omega) with h | h | h | h <;> simp [h] <;> omega
theorem pwr_mi : ∀ k, pwr 0 (-1) k = (if k % 4 = 0 then 1 else if k % 4 = 2 then -1 else 0, if k % 4 = 3 then 1 else if k % 4 = 1 then -1 else 0)
  | 0 => rfl
  | k + 1 => by
    simp only [pwr, pwr_mi k]
    rcases (show k % 4 = 0 ∨ k % 4 = 1 ∨ k % 4 = 2 ∨ k % 4 = 3 by omega) with h | h | h | h
    · have : (k + 1) % 4 = 1 := by omega
      simp [h, this]
    · have : (k + 1) % 4 = 2 := by omega
      simp [h, this]
    · have : (k + 1) % 4 = 3 := by omega
      simp [h, this]
    · have : (k + 1) % 4 = 0 := by omega
      simp [h, this]
theorem pol_mi (l : List Int) : ∀ k, pol 0 (-1) l k = (fr l 0 k - fr l 2 k, -(fr l 1 k - fr l 3 k))
  | 0 => rfl
  | k + 1 => by
    simp only [pol, fr, pol_mi l k, pwr_mi k]
    rcases (show k % 4 = 0 ∨ k % 4 = 1 ∨ k % 4 = 2 ∨ k % 4 = 3 by omega) with h | h | h | h <;> simp [h] <;> omega
theorem pwr_1 : ∀ k, pwr 1 0 k = (1, 0)
  | 0 => rfl
  | k + 1 => by simp [pwr, pwr_1 k]
theorem pol_1 (l : List Int) : ∀ k, pol 1 0 l k = (fr l 0 k + fr l 1 k + fr l 2 k + fr l 3 k, 0)
  | 0 => rfl
  | k + 1 => by
    simp only [pol, fr, pol_1 l k, pwr_1 k]
    rcases (show k % 4 = 0 ∨ k % 4 = 1 ∨ k % 4 = 2 ∨ k % 4 = 3 by omega) with h | h | h | h <;> simp [h] <;> omega
theorem pwr_m1 : ∀ k, pwr (-1) 0 k = (if k % 2 = 0 then 1 else -1, 0)
  | 0 => rfl
  | k + 1 => by
    simp only [pwr, pwr_m1 k]
    rcases (show k % 2 = 0 ∨ k % 2 = 1 by omega) with h | h
    · have : (k + 1) % 2 = 1 := by omega
      simp [h, this]
    · have : (k + 1) % 2 = 0 := by omega
      simp [h, this]
theorem pol_m1 (l : List Int) : ∀ k, pol (-1) 0 l k = (fr l 0 k - fr l 1 k + fr l 2 k - fr l 3 k, 0)
  | 0 => rfl
  | k + 1 => by
    simp only [pol, fr, pol_m1 l k, pwr_m1 k]
    rcases (show k % 4 = 0 ∨ k % 4 = 1 ∨ k % 4 = 2 ∨ k % 4 = 3 by omega) with h | h | h | h
    · have : k % 2 = 0 := by omega
      simp [h, this]; omega
    · have : k % 2 = 1 := by omega
      simp [h, this]; omega
    · have : k % 2 = 0 := by omega
      simp [h, this]; omega
    · have : k % 2 = 1 := by omega
      simp [h, this]; omega
/-- One place further. -/
theorem fr_cons (x : Int) (l : List Int) (r : Nat) (hr : r < 4) : ∀ k, fr (x :: l) ((r + 1) % 4) (k + 1) = (if (r + 1) % 4 = 0 then x else 0) + fr l r k
  | 0 => by
    rcases (show r = 0 ∨ r = 1 ∨ r = 2 ∨ r = 3 by omega) with rfl | rfl | rfl | rfl <;> simp [fr]
  | k + 1 => by
    have h := fr_cons x l r hr k
    rw [fr, h]
    rcases (show r = 0 ∨ r = 1 ∨ r = 2 ∨ r = 3 by omega) with rfl | rfl | rfl | rfl <;>
      rcases (show k % 4 = 0 ∨ k % 4 = 1 ∨ k % 4 = 2 ∨ k % 4 = 3 by omega) with h2 | h2 | h2 | h2 <;> simp [fr, h2, show (k + 1) % 4 = (k % 4 + 1) % 4 by omega, Int.add_assoc]
/-- A number of the greatest size behind four sums. -/
theorem fr_w53 {l : List Int} (h : ∀ x ∈ l, -1048576 < x ∧ x < 1048576) (r k : Nat) (hk : k ≤ 8000) : -8400000000 ≤ fr l r k ∧ fr l r k ≤ 8400000000 := by
  have := fr_bd h r k
  omega
/-- Poly at a number of size 1, its answer named. -/
theorem Poly_at (c d : Nat) (p q : Int) (A : Option Addr) (n cp : Nat) (l : List Int) (w : World) (x y : Int) (nx ny : Nat) (hc : Is c p) (hd : Is d q) (h1 : p.natAbs + q.natAbs = 1) (hl : l.length = n) (hn : n ≤ 8000)
    (hs : ∀ x ∈ l, -1048576 < x ∧ x < 1048576) (hp : pol p q l n = (x, y)) (hx : FI x = nx) (hy : FI y = ny) (hr : Sl w A n (ivs l)) :
    Calls Try.prog 85 #[.complex .f64 c d, .slice A n cp] w fun e w' => e = .returned (.complex .f64 nx ny) ∧ w = w' := by
  have h := Poly_any c d p q A n cp l 1 (fun k => k) w hc hd hr (bnd_one h1 (by omega) hs) (by omega)
  rw [hp] at h
  subst hx hy
  exact h
theorem Turn_at (A : Option Addr) (n cp : Nat) (l : List Int) (w : World) (x y : Int) (hl : l.length = n) (hn : n ≤ 8000)
    (hs : ∀ x ∈ l, -1048576 < x ∧ x < 1048576) (hp : pol 0 1 l n = (x, y)) (hr : Sl w A n (ivs l)) :
    Calls Try.prog 64 #[.slice A n cp] w fun e w' => e = .returned (.complex .f64 (FI x) (FI y)) ∧ w = w' := by
  have h := Turn_any A n cp l (fun k => k) w hr (bnd_one (by decide) (by omega) hs) (by omega)
  rw [hp] at h
  exact h
theorem is_one : Is 4607182418800017408 1 := by rw [← FI_one]; exact is_FI (by decide)
theorem is_minus : Is 13830554455654793216 (-1) := by rw [← FI_minus]; exact is_FI (by decide)
theorem is_zero : Is 0 0 := is_FI (n := 0) (by decide)
theorem eq_zero : (FloatKind.f64.format.order 0 0 == some Ordering.eq) = true := by decide
theorem fr_shift (m : List Int) (n : Nat) : fr (0 :: m) 0 (n + 1) = fr m 3 n ∧ fr (0 :: m) 1 (n + 1) = fr m 0 n ∧ fr (0 :: m) 2 (n + 1) = fr m 1 n ∧ fr (0 :: m) 3 (n + 1) = fr m 2 n := by
  have h3 := fr_cons 0 m 3 (by omega) n
  have h0 := fr_cons 0 m 0 (by omega) n
  have h1 := fr_cons 0 m 1 (by omega) n
  have h2 := fr_cons 0 m 2 (by omega) n
  simp at h0 h1 h2 h3
  exact ⟨h3, h0, h1, h2⟩
theorem small_cons {m : List Int} (h : ∀ x ∈ m, -1048576 < x ∧ x < 1048576) : ∀ x ∈ 0 :: m, -1048576 < x ∧ x < 1048576 := by
  intro x hx
  rcases List.mem_cons.1 hx with rfl | hx
  · omega
  · exact h x hx
theorem mul_small {a b : Int} (ha : -1048576 < a ∧ a < 1048576) (hb : -1048576 < b ∧ b < 1048576) : -1099511627776 ≤ a * b ∧ a * b ≤ 1099511627776 := by
  have := mul_bd (a := a) (b := b) (A := 1048576) (B := 1048576) (by omega) (by omega)
  omega
theorem tmod_4096 (y : Int) : -4096 < y.tmod 4096 ∧ y.tmod 4096 < 4096 := by
  rcases Int.le_total 0 y with h | h
  · rw [Int.tmod_eq_emod_of_nonneg h]
    omega
  · have e : y = -(-y) := by omega
    rw [e, Int.neg_tmod, Int.tmod_eq_emod_of_nonneg (by omega)]
    omega
theorem mul_tiny {a b : Int} (ha : -4096 < a ∧ a < 4096) (hb : -4096 < b ∧ b < 4096) : -16777216 ≤ a * b ∧ a * b ≤ 16777216 := by
  have := mul_bd (a := a) (b := b) (A := 4096) (B := 4096) (by omega) (by omega)
  omega
theorem mul_mid {a b : Int} (ha : -33554432 ≤ a ∧ a ≤ 33554432) (hb : -33554432 ≤ b ∧ b ≤ 33554432) : -1125899906842624 ≤ a * b ∧ a * b ≤ 1125899906842624 := by
  have := mul_bd (a := a) (b := b) (A := 33554432) (B := 33554432) (by omega) (by omega)
  omega
theorem sq_pos' (a : Int) : 0 ≤ a * a := by
  rcases Int.le_total 0 a with h | h
  · exact Int.mul_nonneg h h
  · have := Int.mul_nonneg (show 0 ≤ -a by omega) (show 0 ≤ -a by omega)
    rw [Int.neg_mul_neg] at this
    exact this
theorem two_squares (a b c d : Int) : (a * c - b * d) * (a * c - b * d) + (a * d + b * c) * (a * d + b * c) = (a * a + b * b) * (c * c + d * d) := by
  grind
theorem tmod_4 (y : Int) : -4 < y.tmod 4 ∧ y.tmod 4 < 4 := by
  rcases Int.le_total 0 y with h | h
  · rw [Int.tmod_eq_emod_of_nonneg h]
    omega
  · have e : y = -(-y) := by omega
    rw [e, Int.neg_tmod, Int.tmod_eq_emod_of_nonneg (by omega)]
    omega
/-- Powers of a small number. -/
theorem bnd_six {p q : Int} {l : List Int} (hp : -4 < p ∧ p < 4) (hq : -4 < q ∧ q < 4) (hl : l.length ≤ 12) (hs : ∀ x ∈ l, -1048576 < x ∧ x < 1048576) : Bnd p q l 6 (fun k => 6 ^ k) := by
  have hpow : 6 ^ l.length ≤ 2176782336 := Nat.le_trans (Nat.pow_le_pow_right (by omega) hl) (by decide)
  refine ⟨by omega, by omega, fun k _ => ?_, ?_, by omega, hs⟩
  · show 6 ^ k + 6 ^ k ≤ 6 ^ (k + 1)
    rw [Nat.pow_succ]
    omega
  · show 6 ^ l.length * 1048576 ≤ _
    omega
/-- Two blocks are known whole. -/
def Stays2 (w : World) (g : Nat) (t : TypeId) (cs : Array Value) (g' : Nat) (t' : TypeId) (cs' : Array Value) (W : World) : Prop := Only [] w W ∧ Bk W g t cs ∧ Bk W g' t' cs'
theorem Stays2.only {w W W' : World} {g : Nat} {t : TypeId} {cs : Array Value} {g' : Nat} {t' : TypeId} {cs' : Array Value} (h : Stays2 w g t cs g' t' cs' W) (o : Only [] W W') : Stays2 w g t cs g' t' cs' W' := ⟨h.1.then o, h.2.1.only o (by simp), h.2.2.only o (by simp)⟩
theorem Stays2.start {w : World} {g : Nat} {t : TypeId} {cs : Array Value} {g' : Nat} {t' : TypeId} {cs' : Array Value} (h : Bk w g t cs) (h' : Bk w g' t' cs') : Stays2 w g t cs g' t' cs' w.drew := ⟨(Only.refl [] w).drew, h, h'⟩
end Go.Proofs.Ythaodlegpjedoaa
