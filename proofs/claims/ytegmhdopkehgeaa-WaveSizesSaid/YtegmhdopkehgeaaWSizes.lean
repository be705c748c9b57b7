/-
  The walk of the law WaveSizes.
-/
import Derived.Test.YtegmhdopkehgeaaWLaw
import Derived.Test.YtegmhdopkehgeaaDet
import Derived.Test.YtegmhdopkehgeaaWEq
namespace Go.Proofs.Ytegmhdopkehgeaa
open Go.RowKit

set_option maxRecDepth 100000 in
set_option maxHeartbeats 4000000 in
theorem wavesizes_any (x y z u : Int) (w : World) (_hx : -9223372036854775808 ≤ x ∧ x ≤ 9223372036854775807) (_hy : -9223372036854775808 ≤ y ∧ y ≤ 9223372036854775807) (_hz : -9223372036854775808 ≤ z ∧ z ≤ 9223372036854775807) (_hu : -9223372036854775808 ≤ u ∧ u ≤ 9223372036854775807) :
    Calls Try.prog 6 #[.agg #[.int .i64 x, .int .i64 y], .agg #[.int .i64 z, .int .i64 u]] w fun e w' => e = .returned (.bool true) ∧ Only [] w w' := by
  have bx := tmod_4096 x
  have bY := tmod_4096 y
  have bz := tmod_4096 z
  have bu := tmod_4096 u
  obtain ⟨a, ha⟩ : ∃ a, x.tmod 4096 = a := ⟨_, rfl⟩
  obtain ⟨b, hb⟩ : ∃ b, y.tmod 4096 = b := ⟨_, rfl⟩
  obtain ⟨c, hc⟩ : ∃ c, z.tmod 4096 = c := ⟨_, rfl⟩
  obtain ⟨d, hd⟩ : ∃ d, u.tmod 4096 = d := ⟨_, rfl⟩
  rw [ha] at bx
  rw [hb] at bY
  rw [hc] at bz
  rw [hd] at bu
  have m1 := mul_tiny bx bz
  have m2 := mul_tiny bY bu
  have m3 := mul_tiny bx bu
  have m4 := mul_tiny bY bz
  have m5 := mul_tiny bx bx
  have m6 := mul_tiny bY bY
  have m7 := mul_tiny bz bz
  have m8 := mul_tiny bu bu
  have wa := w53 (x := a) (by omega) (by omega)
  have wb := w53 (x := b) (by omega) (by omega)
  have wc := w53 (x := c) (by omega) (by omega)
  have wd := w53 (x := d) (by omega) (by omega)
  have w1 := w53 (x := a * c) (by omega) (by omega)
  have w2 := w53 (x := b * d) (by omega) (by omega)
  have w3 := w53 (x := a * d) (by omega) (by omega)
  have w4 := w53 (x := b * c) (by omega) (by omega)
  have w5 := w53 (x := a * a) (by omega) (by omega)
  have w6 := w53 (x := b * b) (by omega) (by omega)
  have w5' := w53 (x := c * c) (by omega) (by omega)
  have w6' := w53 (x := d * d) (by omega) (by omega)
  obtain ⟨p, hp⟩ : ∃ p, a * c - b * d = p := ⟨_, rfl⟩
  obtain ⟨q, hq⟩ : ∃ q, a * d + b * c = q := ⟨_, rfl⟩
  obtain ⟨s, hs⟩ : ∃ s, a * a + b * b = s := ⟨_, rfl⟩
  obtain ⟨t, ht⟩ : ∃ t, c * c + d * d = t := ⟨_, rfl⟩
  have bp : -33554432 ≤ p ∧ p ≤ 33554432 := by omega
  have bq : -33554432 ≤ q ∧ q ≤ 33554432 := by omega
  have bs : 0 ≤ s ∧ s ≤ 33554432 := by have h1 := sq_pos' a; have h2 := sq_pos' b; omega
  have bt : 0 ≤ t ∧ t ≤ 33554432 := by have h1 := sq_pos' c; have h2 := sq_pos' d; omega
  have mp := mul_mid bp bp
  have mq := mul_mid bq bq
  have ms := mul_mid (a := s) (b := t) (by omega) (by omega)
  have wp := w53 (x := p) (by omega) (by omega)
  have wq := w53 (x := q) (by omega) (by omega)
  have ws := w53 (x := s) (by omega) (by omega)
  have wt := w53 (x := t) (by omega) (by omega)
  have wpp := w53 (x := p * p) (by omega) (by omega)
  have wqq := w53 (x := q * q) (by omega) (by omega)
  have wpq := w53 (x := p * p + q * q) (by omega) (by omega)
  have wst := w53 (x := s * t) (by omega) (by omega)
  have hid1 : p * p + q * q = s * t := by subst hp hq hs ht; exact two_squares a b c d
  have hid2 : c * a - d * b = p := by subst hp; rw [Int.mul_comm c a, Int.mul_comm d b]
  have hid3 : c * b + d * a = q := by subst hq; rw [Int.mul_comm c b, Int.mul_comm d a]; omega
  have hid4 : a * a - b * -b = s := by subst hs; rw [Int.mul_neg]; omega
  have hid5 : a * -b + b * a = 0 := by rw [Int.mul_neg, Int.mul_comm b a]; omega
  have HX : Hid (∀ W, Calls Try.prog 15 #[.agg #[.int .i64 (x.tmod 4096), .int .i64 (y.tmod 4096)]] W fun e w' => e = .returned (.complex .f64 (FI a) (FI b)) ∧ Only [] W w') := by intro W; rw [ha, hb]; exact gauss_any a b W
  have HY : Hid (∀ W, Calls Try.prog 15 #[.agg #[.int .i64 (z.tmod 4096), .int .i64 (u.tmod 4096)]] W fun e w' => e = .returned (.complex .f64 (FI c) (FI d)) ∧ Only [] W w') := by intro W; rw [hc, hd]; exact gauss_any c d W
  have HM1 : Hid (∀ W, Calls Try.prog 14 #[.complex .f64 (FI a) (FI b), .complex .f64 (FI c) (FI d)] W fun e w' => e = .returned (.complex .f64 (FI p) (FI q)) ∧ W = w') := by
    intro W
    have h := Mul_any a b c d W wa wb wc wd w1 w2 (by rw [hp]; exact wp) w3 w4 (by rw [hq]; exact wq)
    rw [hp, hq] at h
    exact h
  have HM2 : Hid (∀ W, Calls Try.prog 14 #[.complex .f64 (FI c) (FI d), .complex .f64 (FI a) (FI b)] W fun e w' => e = .returned (.complex .f64 (FI p) (FI q)) ∧ W = w') := by
    intro W
    have h := Mul_any c d a b W wc wd wa wb (by rw [Int.mul_comm]; exact w1) (by rw [Int.mul_comm]; exact w2) (by rw [hid2]; exact wp) (by rw [Int.mul_comm]; exact w4) (by rw [Int.mul_comm]; exact w3) (by rw [hid3]; exact wq)
    rw [hid2, hid3] at h
    exact h
  have HM3 : Hid (∀ W, Calls Try.prog 14 #[.complex .f64 (FI a) (FI b), .complex .f64 (FI a) (FI (-b))] W fun e w' => e = .returned (.complex .f64 (FI s) 0) ∧ W = w') := by
    intro W
    have wnb : W53 (-b) := w53 (by omega) (by omega)
    have wab := mul_tiny bx bY
    have h := Mul_any a b a (-b) W wa wb wa wnb w5 (by rw [Int.mul_neg]; exact w53 (by omega) (by omega)) (by rw [hid4]; exact ws) (by rw [Int.mul_neg]; exact w53 (by omega) (by omega)) (by rw [Int.mul_comm]; exact w53 (by omega) (by omega)) (by rw [hid5]; exact w53_zero)
    rw [hid4, hid5, FI_zero] at h
    exact h
  have HB := Lib.hid (fun W => Back_any a b W wa wb)
  have HS1 : Hid (∀ W, Calls Try.prog 18 #[.complex .f64 (FI a) (FI b)] W fun e w' => e = .returned (.float .f64 (FI s)) ∧ W = w') := by
    intro W
    have h := Size_any a b W wa wb w5 w6 (by rw [hs]; exact ws)
    rw [hs] at h
    exact h
  have HS2 : Hid (∀ W, Calls Try.prog 18 #[.complex .f64 (FI c) (FI d)] W fun e w' => e = .returned (.float .f64 (FI t)) ∧ W = w') := by
    intro W
    have h := Size_any c d W wc wd w5' w6' (by rw [ht]; exact wt)
    rw [ht] at h
    exact h
  have HS3 : Hid (∀ W, Calls Try.prog 18 #[.complex .f64 (FI p) (FI q)] W fun e w' => e = .returned (.float .f64 (FI (s * t))) ∧ W = w') := by
    intro W
    have h := Size_any p q W wp wq wpp wqq wpq
    rw [hid1] at h
    exact h
  have o1 := fun ty W => run_float_arith (P := Try.prog) W .mul ty .f64 _ _ _ (fmul_FI ws wt wst bs.1 bt.1)
  have q1 := eq_FI wst
  have q2 := eq_FI wp
  have q3 := eq_FI wq
  have q4 := eq_FI ws
  have q5 := eq_zero
  clear bx bY bz bu ha hb hc hd m1 m2 m3 m4 m5 m6 m7 m8 wa wb wc wd w1 w2 w3 w4 w5 w6 w5' w6' hp hq hs ht bp bq bs bt mp mq ms wp wq ws wt wpp wqq wpq wst hid1 hid2 hid3 hid4 hid5
  go_enter Try.func6, Try.ntmps6
  go_wp2_with fail
  refine (HX.out _).mono ?_
  rintro e w1 ⟨rfl, HO1⟩
  have c0 := ((Bk.new (w.alloc (.cells #[.int .i64 x, .int .i64 y] 33)) 33 #[.int .i64 z, .int .i64 u]).only HO1 (by simp))
  rw [World.size_alloc] at c0
  have d0 := c0.cell 0
  have d1 := c0.cell 1
  have HO : Only [] w w1 := (((Only.refl [] w).alloc _).alloc _).then HO1
  clear c0 HO1
  go_wp2_with fail
  refine (HY.out _).mono ?_
  rintro e w2 ⟨rfl, HO2⟩
  have HO' := HO.then HO2
  clear HO HO2 d0 d1
  go_wp2_with (first
    | (go_at_call 14; ((with_reducible refine (HM1.out w2).mono ?_)); rintro e w7 ⟨rfl, rfl⟩)
    | (go_at_call 14; ((with_reducible refine (HM2.out w2).mono ?_)); rintro e w7 ⟨rfl, rfl⟩)
    | (go_at_call 14; ((with_reducible refine (HM3.out w2).mono ?_)); rintro e w7 ⟨rfl, rfl⟩)
    | (go_at_call 17; ((with_reducible refine (HB.out w2).mono ?_)); rintro e w7 ⟨rfl, rfl⟩)
    | (go_at_call 18; ((with_reducible refine (HS1.out w2).mono ?_)); rintro e w7 ⟨rfl, rfl⟩)
    | (go_at_call 18; ((with_reducible refine (HS2.out w2).mono ?_)); rintro e w7 ⟨rfl, rfl⟩)
    | (go_at_call 18; ((with_reducible refine (HS3.out w2).mono ?_)); rintro e w7 ⟨rfl, rfl⟩)
    | (go_at_call 13; ((with_reducible refine (known_any w2).mono ?_)); rintro e w7 ⟨rfl, HO7⟩))
  go_ret
  exact ⟨rfl, HO'.then HO7⟩
end Go.Proofs.Ytegmhdopkehgeaa
