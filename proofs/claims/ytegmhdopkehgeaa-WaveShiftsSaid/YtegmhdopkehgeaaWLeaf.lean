/-
  The walks of wave's functions that look at no list: signless, Back, Mul, Size; the law's gauss; the reference's Mul.
-/
import Derived.Test.YtegmhdopkehgeaaWOps
import Derived.Test.YtegmhdopkehgeaaChecked
import Derived.Test.YtegmhdopkehgeaaWords
import Derived.Handy
import Derived.IntWalk
import Derived.Deep.DeepMust
namespace Go.Proofs.Ytegmhdopkehgeaa
open Go.RowKit

theorem signless_any (a b : Nat) (x y : Int) (w : World) (ha : Is a x) (hb : Is b y) (hx : W53 x) (hy : W53 y) :
    Calls Try.prog 21 #[.complex .f64 a b] w fun e w' => e = .returned (.complex .f64 (FI x) (FI y)) ∧ w = w' := by
  have hop := fun t w => run_complex_sum (P := Try.prog) w .add (Or.inl rfl) t .f64 a b 0 0 _ _ (cadd_zero ha hb hx hy)
  go_enter Try.func21, Try.ntmps21
  go_wp2_with (simp only [hop])
  all_goals (go_ret; exact ⟨rfl, rfl⟩)

theorem Mul_any (x y z u : Int) (w : World) (hx : W53 x) (hy : W53 y) (hz : W53 z) (hu : W53 u) (h1 : W53 (x * z)) (h2 : W53 (y * u)) (h3 : W53 (x * z - y * u)) (h4 : W53 (x * u)) (h5 : W53 (y * z)) (h6 : W53 (x * u + y * z)) :
    Calls Try.prog 14 #[.complex .f64 (FI x) (FI y), .complex .f64 (FI z) (FI u)] w fun e w' => e = .returned (.complex .f64 (FI (x * z - y * u)) (FI (x * u + y * z))) ∧ w = w' := by
  obtain ⟨re, im, he, hr, hi⟩ := cmul_is (is_FI hx) (is_FI hy) (is_FI hz) (is_FI hu) h1 h2 h3 h4 h5 h6
  have hop := fun t w => run_complex_mul (P := Try.prog) w t _ _ _ _ re im he
  clear h1 h2 h4 h5
  go_enter Try.func14, Try.ntmps14
  go_wp2_with ((go_at_call 21; refine (signless_any re im _ _ _ hr hi h3 h6).mono ?_; rintro e w' ⟨rfl, rfl⟩))
  all_goals (go_ret; exact ⟨rfl, rfl⟩)

theorem Back_any (x y : Int) (w : World) (hx : W53 x) (hy : W53 y) :
    Calls Try.prog 17 #[.complex .f64 (FI x) (FI y)] w fun e w' => e = .returned (.complex .f64 (FI x) (FI (-y))) ∧ w = w' := by
  have hn := neg_is hy
  have hy' : W53 (-y) := by unfold W53 at *; omega
  have hop : Op.unary .neg (.float .f64 (FI y)) = pure (.float .f64 (Op.negFloat .f64 (FI y))) := rfl
  go_enter Try.func17, Try.ntmps17
  go_wp2_with ((go_at_call 21; refine (signless_any _ _ x (-y) _ (is_FI hx) hn hx hy').mono ?_; rintro e w' ⟨rfl, rfl⟩))
  all_goals (go_ret; exact ⟨rfl, rfl⟩)

theorem Size_any (x y : Int) (w : World) (hx : W53 x) (hy : W53 y) (h1 : W53 (x * x)) (h2 : W53 (y * y)) (h3 : W53 (x * x + y * y)) :
    Calls Try.prog 18 #[.complex .f64 (FI x) (FI y)] w fun e w' => e = .returned (.float .f64 (FI (x * x + y * y))) ∧ w = w' := by
  have o1 := fun t w => run_float_arith (P := Try.prog) w .mul t .f64 _ _ _ (sq_FI hx h1)
  have o2 := fun t w => run_float_arith (P := Try.prog) w .mul t .f64 _ _ _ (sq_FI hy h2)
  have o3 := fun t w => run_float_arith (P := Try.prog) w .add t .f64 _ _ _ (fadd_FI h1 h2 h3)
  go_enter Try.func18, Try.ntmps18
  go_wp2_with (simp only [o1, o2, o3])
  all_goals (go_ret; exact ⟨rfl, rfl⟩)

theorem gauss_any (x y : Int) (w : World) :
    Calls Try.prog 15 #[.agg #[.int .i64 x, .int .i64 y]] w fun e w' => e = .returned (.complex .f64 (FI x) (FI y)) ∧ Only [] w w' := by
  go_enter Try.func15, Try.ntmps15
  go_wp2
  all_goals (go_ret; exact ⟨rfl, (Only.refl [] _).alloc _⟩)

theorem refMul_any (x y z u : Int) (w : World) (h1 : W53 (x * z)) (h2 : W53 (y * u)) (h4 : W53 (x * u)) (h5 : W53 (y * z)) :
    Calls Try.prog 16 #[.agg #[.int .i64 x, .int .i64 y], .agg #[.int .i64 z, .int .i64 u]] w fun e w' => e = .returned (.agg #[.int .i64 (x * z - y * u), .int .i64 (x * u + y * z)]) ∧ Only [] w w' := by
  have b1 := h1.bd
  have b2 := h2.bd
  have b4 := h4.bd
  have b5 := h5.bd
  clear h1 h2 h4 h5
  go_enter Try.func16, Try.ntmps16
  go_wp2
  exact bodyPost_ret (v := .agg #[.int .i64 (x * z - y * u), .int .i64 (x * u + y * z)]) (by simp [results, Try.results16, go_sem]) rfl ⟨rfl, (((Only.refl [] _).alloc _).alloc _).alloc _⟩
end Go.Proofs.Ytegmhdopkehgeaa
