/-
  The walk of the law WaveMuls.
-/
import Derived.Test.YtegmhdopkehgeaaWLaw
import Derived.Test.YtegmhdopkehgeaaDet
import Derived.Test.YtegmhdopkehgeaaWEq
namespace Go.Proofs.Ytegmhdopkehgeaa
open Go.RowKit

set_option maxRecDepth 100000 in
set_option maxHeartbeats 4000000 in
theorem wavemuls_any (x y z u : Int) (w : World) (_hx : -9223372036854775808 ≤ x ∧ x ≤ 9223372036854775807) (_hy : -9223372036854775808 ≤ y ∧ y ≤ 9223372036854775807) (_hz : -9223372036854775808 ≤ z ∧ z ≤ 9223372036854775807) (_hu : -9223372036854775808 ≤ u ∧ u ≤ 9223372036854775807) :
    Calls Try.prog 4 #[.agg #[.int .i64 x, .int .i64 y], .agg #[.int .i64 z, .int .i64 u]] w fun e w' => e = .returned (.bool true) ∧ Only [] w w' := by
  have bx := tmod_bd x
  have bY := tmod_bd y
  have bz := tmod_bd z
  have bu := tmod_bd u
  go_enter Try.func4, Try.ntmps4
  go_wp2_with fail
  generalize x.tmod 1048576 = a at *
  generalize y.tmod 1048576 = b at *
  generalize z.tmod 1048576 = c at *
  generalize u.tmod 1048576 = d at *
  have m1 := mul_small bx bz
  have m2 := mul_small bY bu
  have m3 := mul_small bx bu
  have m4 := mul_small bY bz
  have m5 := mul_small bx bx
  have m6 := mul_small bY bY
  have wa := w53 (x := a) (by omega) (by omega)
  have wb := w53 (x := b) (by omega) (by omega)
  have wc := w53 (x := c) (by omega) (by omega)
  have wd := w53 (x := d) (by omega) (by omega)
  have w1 := w53 (x := a * c) (by omega) (by omega)
  have w2 := w53 (x := b * d) (by omega) (by omega)
  have w3 := w53 (x := a * d) (by omega) (by omega)
  have w4 := w53 (x := b * c) (by omega) (by omega)
  have w5 := w53 (x := a * a) (by omega) (by omega)
  have w6 := w53 (x := b * b) (by omega) (by omega)
  have w7 := w53 (x := a * c - b * d) (by omega) (by omega)
  have w8 := w53 (x := a * d + b * c) (by omega) (by omega)
  have w9 := w53 (x := a * a + b * b) (by omega) (by omega)
  have w10 := w53 (x := -b) (by omega) (by omega)
  have o1 := Lib.hid (eq_FI w7)
  have o2 := Lib.hid (eq_FI w8)
  have o3 := Lib.hid (eq_FI wa)
  have o4 := Lib.hid (eq_FI w10)
  have o5 := Lib.hid (eq_FI w9)
  have HMUL := Lib.hid (fun W => Mul_any a b c d W wa wb wc wd w1 w2 w7 w3 w4 w8)
  have HRM := Lib.hid (fun W => refMul_any a b c d W w1 w2 w3 w4)
  have HBK := Lib.hid (fun W => Back_any a b W wa wb)
  have HSZ := Lib.hid (fun W => Size_any a b W wa wb w5 w6 w9)
  have t1 : IntKind.i64.wrap (a * a) = a * a := IntWalk.i64_in _ (by omega)
  have t2 : IntKind.i64.wrap (b * b) = b * b := IntWalk.i64_in _ (by omega)
  have t3 : IntKind.i64.wrap (a * a + b * b) = a * a + b * b := IntWalk.i64_in _ (by omega)
  have t4 : IntKind.i64.wrap (-b) = -b := IntWalk.i64_in _ (by omega)
  have t5 : IntKind.i64.wrap (0 - b) = -b := by rw [Int.zero_sub]; exact t4
  clear bx bY bz bu m1 m2 m3 m4 m5 m6 wa wb wc wd w1 w2 w3 w4 w5 w6 w7 w8 w9 w10 _hx _hy _hz _hu
  have HG1 := (Bk.new w 33 #[.int .i64 a, .int .i64 b]).alloc (.cells #[.int .i64 c, .int .i64 d] 33)
  have HG2 := Bk.new (w.alloc (.cells #[.int .i64 a, .int .i64 b] 33)) 33 #[.int .i64 c, .int .i64 d]
  rw [World.size_alloc] at HG2
  have HO := ((Only.refl [] w).alloc (.cells #[.int .i64 a, .int .i64 b] 33)).alloc (.cells #[.int .i64 c, .int .i64 d] 33)
  generalize (w.alloc (.cells #[.int .i64 a, .int .i64 b] 33)).alloc (.cells #[.int .i64 c, .int .i64 d] 33) = wr at *
  refine wp_region_det (Stays2 wr w.heap.size 33 #[.int .i64 a, .int .i64 b] (w.heap.size + 1) 33 #[.int .i64 c, .int .i64 d]) (by kernel_rfl) (by kernel_rfl) (Stays2.start HG1 HG2) ?_
  refine det_value ?v0 (by rfl) ?hy0 ?rest0
  case hy0 => intro wS hS; have c0 := hS.2.1.cell 0; have c1 := hS.2.1.cell 1; have c2 := hS.2.2.cell 0; have c3 := hS.2.2.cell 1; have q1 := o1.out; have q2 := o2.out; have q3 := o3.out; have q4 := o4.out; have q5 := o5.out; first | (go_simp; done) | (go_simp; with_reducible rfl)
  try simp only [Act.put, List.setIfInBounds_toArray, List.set_cons_zero, List.set_cons_succ]
  refine det_call (.complex .f64 (FI a) (FI b)) 15 #[.agg #[.int .i64 a, .int .i64 b]] (by rfl) ?run1 ?call1 ?rest1
  case run1 => intro wS; go_simp
  case call1 => intro wS hS; have c0 := hS.2.1.cell 0; have c1 := hS.2.1.cell 1; have c2 := hS.2.2.cell 0; have c3 := hS.2.2.cell 1; have q1 := o1.out; have q2 := o2.out; have q3 := o3.out; have q4 := o4.out; have q5 := o5.out; exact det_only (fun _ h => hS.only h) (gauss_any a b wS)
  try simp only [Act.put, List.setIfInBounds_toArray, List.set_cons_zero, List.set_cons_succ]
  refine det_value ?v2 (by rfl) ?hy2 ?rest2
  case hy2 => intro wS hS; have c0 := hS.2.1.cell 0; have c1 := hS.2.1.cell 1; have c2 := hS.2.2.cell 0; have c3 := hS.2.2.cell 1; have q1 := o1.out; have q2 := o2.out; have q3 := o3.out; have q4 := o4.out; have q5 := o5.out; first | (go_simp; done) | (go_simp; with_reducible rfl)
  try simp only [Act.put, List.setIfInBounds_toArray, List.set_cons_zero, List.set_cons_succ]
  refine det_call (.complex .f64 (FI c) (FI d)) 15 #[.agg #[.int .i64 c, .int .i64 d]] (by rfl) ?run3 ?call3 ?rest3
  case run3 => intro wS; go_simp
  case call3 => intro wS hS; have c0 := hS.2.1.cell 0; have c1 := hS.2.1.cell 1; have c2 := hS.2.2.cell 0; have c3 := hS.2.2.cell 1; have q1 := o1.out; have q2 := o2.out; have q3 := o3.out; have q4 := o4.out; have q5 := o5.out; exact det_only (fun _ h => hS.only h) (gauss_any c d wS)
  try simp only [Act.put, List.setIfInBounds_toArray, List.set_cons_zero, List.set_cons_succ]
  refine det_call (.complex .f64 (FI (a * c - b * d)) (FI (a * d + b * c))) 14 #[.complex .f64 (FI a) (FI b), .complex .f64 (FI c) (FI d)] (by rfl) ?run4 ?call4 ?rest4
  case run4 => intro wS; go_simp
  case call4 => intro wS hS; have c0 := hS.2.1.cell 0; have c1 := hS.2.1.cell 1; have c2 := hS.2.2.cell 0; have c3 := hS.2.2.cell 1; have q1 := o1.out; have q2 := o2.out; have q3 := o3.out; have q4 := o4.out; have q5 := o5.out; exact det_same hS (HMUL.out wS)
  try simp only [Act.put, List.setIfInBounds_toArray, List.set_cons_zero, List.set_cons_succ]
  refine det_value ?v5 (by rfl) ?hy5 ?rest5
  case hy5 => intro wS hS; have c0 := hS.2.1.cell 0; have c1 := hS.2.1.cell 1; have c2 := hS.2.2.cell 0; have c3 := hS.2.2.cell 1; have q1 := o1.out; have q2 := o2.out; have q3 := o3.out; have q4 := o4.out; have q5 := o5.out; first | (go_simp; done) | (go_simp; with_reducible rfl)
  try simp only [Act.put, List.setIfInBounds_toArray, List.set_cons_zero, List.set_cons_succ]
  refine det_value ?v6 (by rfl) ?hy6 ?rest6
  case hy6 => intro wS hS; have c0 := hS.2.1.cell 0; have c1 := hS.2.1.cell 1; have c2 := hS.2.2.cell 0; have c3 := hS.2.2.cell 1; have q1 := o1.out; have q2 := o2.out; have q3 := o3.out; have q4 := o4.out; have q5 := o5.out; first | (go_simp; done) | (go_simp; with_reducible rfl)
  try simp only [Act.put, List.setIfInBounds_toArray, List.set_cons_zero, List.set_cons_succ]
  refine det_call (.agg #[.int .i64 (a * c - b * d), .int .i64 (a * d + b * c)]) 16 #[.agg #[.int .i64 a, .int .i64 b], .agg #[.int .i64 c, .int .i64 d]] (by rfl) ?run7 ?call7 ?rest7
  case run7 => intro wS; go_simp
  case call7 => intro wS hS; have c0 := hS.2.1.cell 0; have c1 := hS.2.1.cell 1; have c2 := hS.2.2.cell 0; have c3 := hS.2.2.cell 1; have q1 := o1.out; have q2 := o2.out; have q3 := o3.out; have q4 := o4.out; have q5 := o5.out; exact det_only (fun _ h => hS.only h) (HRM.out wS)
  try simp only [Act.put, List.setIfInBounds_toArray, List.set_cons_zero, List.set_cons_succ]
  refine det_call (.complex .f64 (FI (a * c - b * d)) (FI (a * d + b * c))) 15 #[.agg #[.int .i64 (a * c - b * d), .int .i64 (a * d + b * c)]] (by rfl) ?run8 ?call8 ?rest8
  case run8 => intro wS; go_simp
  case call8 => intro wS hS; have c0 := hS.2.1.cell 0; have c1 := hS.2.1.cell 1; have c2 := hS.2.2.cell 0; have c3 := hS.2.2.cell 1; have q1 := o1.out; have q2 := o2.out; have q3 := o3.out; have q4 := o4.out; have q5 := o5.out; exact det_only (fun _ h => hS.only h) (gauss_any _ _ wS)
  try simp only [Act.put, List.setIfInBounds_toArray, List.set_cons_zero, List.set_cons_succ]
  refine det_value ?v9 (by rfl) ?hy9 ?rest9
  case hy9 => intro wS hS; have c0 := hS.2.1.cell 0; have c1 := hS.2.1.cell 1; have c2 := hS.2.2.cell 0; have c3 := hS.2.2.cell 1; have q1 := o1.out; have q2 := o2.out; have q3 := o3.out; have q4 := o4.out; have q5 := o5.out; first | (go_simp; done) | (go_simp; with_reducible rfl)
  try simp only [Act.put, List.setIfInBounds_toArray, List.set_cons_zero, List.set_cons_succ]
  refine det_value ?v10 (by rfl) ?hy10 ?rest10
  case hy10 => intro wS hS; have c0 := hS.2.1.cell 0; have c1 := hS.2.1.cell 1; have c2 := hS.2.2.cell 0; have c3 := hS.2.2.cell 1; have q1 := o1.out; have q2 := o2.out; have q3 := o3.out; have q4 := o4.out; have q5 := o5.out; first | (go_simp; done) | (go_simp; with_reducible rfl)
  try simp only [Act.put, List.setIfInBounds_toArray, List.set_cons_zero, List.set_cons_succ]
  refine det_value ?v11 (by rfl) ?hy11 ?rest11
  case hy11 => intro wS hS; have c0 := hS.2.1.cell 0; have c1 := hS.2.1.cell 1; have c2 := hS.2.2.cell 0; have c3 := hS.2.2.cell 1; have q1 := o1.out; have q2 := o2.out; have q3 := o3.out; have q4 := o4.out; have q5 := o5.out; first | (go_simp; done) | (go_simp; with_reducible rfl)
  try simp only [Act.put, List.setIfInBounds_toArray, List.set_cons_zero, List.set_cons_succ]
  refine det_call (.complex .f64 (FI a) (FI b)) 15 #[.agg #[.int .i64 a, .int .i64 b]] (by rfl) ?run12 ?call12 ?rest12
  case run12 => intro wS; go_simp
  case call12 => intro wS hS; have c0 := hS.2.1.cell 0; have c1 := hS.2.1.cell 1; have c2 := hS.2.2.cell 0; have c3 := hS.2.2.cell 1; have q1 := o1.out; have q2 := o2.out; have q3 := o3.out; have q4 := o4.out; have q5 := o5.out; exact det_only (fun _ h => hS.only h) (gauss_any a b wS)
  try simp only [Act.put, List.setIfInBounds_toArray, List.set_cons_zero, List.set_cons_succ]
  refine det_call (.complex .f64 (FI a) (FI (-b))) 17 #[.complex .f64 (FI a) (FI b)] (by rfl) ?run13 ?call13 ?rest13
  case run13 => intro wS; go_simp
  case call13 => intro wS hS; have c0 := hS.2.1.cell 0; have c1 := hS.2.1.cell 1; have c2 := hS.2.2.cell 0; have c3 := hS.2.2.cell 1; have q1 := o1.out; have q2 := o2.out; have q3 := o3.out; have q4 := o4.out; have q5 := o5.out; exact det_same hS (HBK.out wS)
  try simp only [Act.put, List.setIfInBounds_toArray, List.set_cons_zero, List.set_cons_succ]
  refine det_value ?v14 (by rfl) ?hy14 ?rest14
  case hy14 => intro wS hS; have c0 := hS.2.1.cell 0; have c1 := hS.2.1.cell 1; have c2 := hS.2.2.cell 0; have c3 := hS.2.2.cell 1; have q1 := o1.out; have q2 := o2.out; have q3 := o3.out; have q4 := o4.out; have q5 := o5.out; first | (go_simp; done) | (go_simp; with_reducible rfl)
  try simp only [Act.put, List.setIfInBounds_toArray, List.set_cons_zero, List.set_cons_succ]
  refine det_value ?v15 (by rfl) ?hy15 ?rest15
  case hy15 => intro wS hS; have c0 := hS.2.1.cell 0; have c1 := hS.2.1.cell 1; have c2 := hS.2.2.cell 0; have c3 := hS.2.2.cell 1; have q1 := o1.out; have q2 := o2.out; have q3 := o3.out; have q4 := o4.out; have q5 := o5.out; first | (go_simp; done) | (go_simp; with_reducible rfl)
  try simp only [Act.put, List.setIfInBounds_toArray, List.set_cons_zero, List.set_cons_succ]
  refine det_value ?v16 (by rfl) ?hy16 ?rest16
  case hy16 => intro wS hS; have c0 := hS.2.1.cell 0; have c1 := hS.2.1.cell 1; have c2 := hS.2.2.cell 0; have c3 := hS.2.2.cell 1; have q1 := o1.out; have q2 := o2.out; have q3 := o3.out; have q4 := o4.out; have q5 := o5.out; first | (go_simp; done) | (go_simp; with_reducible rfl)
  try simp only [Act.put, List.setIfInBounds_toArray, List.set_cons_zero, List.set_cons_succ]
  refine det_value ?v17 (by rfl) ?hy17 ?rest17
  case hy17 => intro wS hS; have c0 := hS.2.1.cell 0; have c1 := hS.2.1.cell 1; have c2 := hS.2.2.cell 0; have c3 := hS.2.2.cell 1; have q1 := o1.out; have q2 := o2.out; have q3 := o3.out; have q4 := o4.out; have q5 := o5.out; first | (go_simp; done) | (go_simp; with_reducible rfl)
  try simp only [Act.put, List.setIfInBounds_toArray, List.set_cons_zero, List.set_cons_succ]
  refine det_value ?v18 (by rfl) ?hy18 ?rest18
  case hy18 => intro wS hS; have c0 := hS.2.1.cell 0; have c1 := hS.2.1.cell 1; have c2 := hS.2.2.cell 0; have c3 := hS.2.2.cell 1; have q1 := o1.out; have q2 := o2.out; have q3 := o3.out; have q4 := o4.out; have q5 := o5.out; first | (go_simp; done) | (go_simp; with_reducible rfl)
  try simp only [Act.put, List.setIfInBounds_toArray, List.set_cons_zero, List.set_cons_succ]
  refine det_value ?v19 (by rfl) ?hy19 ?rest19
  case hy19 => intro wS hS; have c0 := hS.2.1.cell 0; have c1 := hS.2.1.cell 1; have c2 := hS.2.2.cell 0; have c3 := hS.2.2.cell 1; have q1 := o1.out; have q2 := o2.out; have q3 := o3.out; have q4 := o4.out; have q5 := o5.out; first | (go_simp; done) | (go_simp; with_reducible rfl)
  try simp only [Act.put, List.setIfInBounds_toArray, List.set_cons_zero, List.set_cons_succ]
  refine det_value ?v20 (by rfl) ?hy20 ?rest20
  case hy20 => intro wS hS; have c0 := hS.2.1.cell 0; have c1 := hS.2.1.cell 1; have c2 := hS.2.2.cell 0; have c3 := hS.2.2.cell 1; have q1 := o1.out; have q2 := o2.out; have q3 := o3.out; have q4 := o4.out; have q5 := o5.out; first | (go_simp; done) | (go_simp; with_reducible rfl)
  try simp only [Act.put, List.setIfInBounds_toArray, List.set_cons_zero, List.set_cons_succ]
  refine det_value ?v21 (by rfl) ?hy21 ?rest21
  case hy21 => intro wS hS; have c0 := hS.2.1.cell 0; have c1 := hS.2.1.cell 1; have c2 := hS.2.2.cell 0; have c3 := hS.2.2.cell 1; have q1 := o1.out; have q2 := o2.out; have q3 := o3.out; have q4 := o4.out; have q5 := o5.out; first | (go_simp; done) | (go_simp; with_reducible rfl)
  try simp only [Act.put, List.setIfInBounds_toArray, List.set_cons_zero, List.set_cons_succ]
  refine det_value ?v22 (by rfl) ?hy22 ?rest22
  case hy22 => intro wS hS; have c0 := hS.2.1.cell 0; have c1 := hS.2.1.cell 1; have c2 := hS.2.2.cell 0; have c3 := hS.2.2.cell 1; have q1 := o1.out; have q2 := o2.out; have q3 := o3.out; have q4 := o4.out; have q5 := o5.out; first | (go_simp; done) | (go_simp; with_reducible rfl)
  try simp only [Act.put, List.setIfInBounds_toArray, List.set_cons_zero, List.set_cons_succ]
  refine det_value ?v23 (by rfl) ?hy23 ?rest23
  case hy23 => intro wS hS; have c0 := hS.2.1.cell 0; have c1 := hS.2.1.cell 1; have c2 := hS.2.2.cell 0; have c3 := hS.2.2.cell 1; have q1 := o1.out; have q2 := o2.out; have q3 := o3.out; have q4 := o4.out; have q5 := o5.out; first | (go_simp; done) | (go_simp; with_reducible rfl)
  try simp only [Act.put, List.setIfInBounds_toArray, List.set_cons_zero, List.set_cons_succ]
  refine det_value ?v24 (by rfl) ?hy24 ?rest24
  case hy24 => intro wS hS; have c0 := hS.2.1.cell 0; have c1 := hS.2.1.cell 1; have c2 := hS.2.2.cell 0; have c3 := hS.2.2.cell 1; have q1 := o1.out; have q2 := o2.out; have q3 := o3.out; have q4 := o4.out; have q5 := o5.out; first | (go_simp; done) | (go_simp; with_reducible rfl)
  try simp only [Act.put, List.setIfInBounds_toArray, List.set_cons_zero, List.set_cons_succ]
  refine det_value ?v25 (by rfl) ?hy25 ?rest25
  case hy25 => intro wS hS; have c0 := hS.2.1.cell 0; have c1 := hS.2.1.cell 1; have c2 := hS.2.2.cell 0; have c3 := hS.2.2.cell 1; have q1 := o1.out; have q2 := o2.out; have q3 := o3.out; have q4 := o4.out; have q5 := o5.out; first | (go_simp; done) | (go_simp; with_reducible rfl)
  try simp only [Act.put, List.setIfInBounds_toArray, List.set_cons_zero, List.set_cons_succ]
  refine det_call (.complex .f64 (FI a) (FI b)) 15 #[.agg #[.int .i64 a, .int .i64 b]] (by rfl) ?run26 ?call26 ?rest26
  case run26 => intro wS; go_simp
  case call26 => intro wS hS; have c0 := hS.2.1.cell 0; have c1 := hS.2.1.cell 1; have c2 := hS.2.2.cell 0; have c3 := hS.2.2.cell 1; have q1 := o1.out; have q2 := o2.out; have q3 := o3.out; have q4 := o4.out; have q5 := o5.out; exact det_only (fun _ h => hS.only h) (gauss_any a b wS)
  try simp only [Act.put, List.setIfInBounds_toArray, List.set_cons_zero, List.set_cons_succ]
  refine det_call (.float .f64 (FI (a * a + b * b))) 18 #[.complex .f64 (FI a) (FI b)] (by rfl) ?run27 ?call27 ?rest27
  case run27 => intro wS; go_simp
  case call27 => intro wS hS; have c0 := hS.2.1.cell 0; have c1 := hS.2.1.cell 1; have c2 := hS.2.2.cell 0; have c3 := hS.2.2.cell 1; have q1 := o1.out; have q2 := o2.out; have q3 := o3.out; have q4 := o4.out; have q5 := o5.out; exact det_same hS (HSZ.out wS)
  try simp only [Act.put, List.setIfInBounds_toArray, List.set_cons_zero, List.set_cons_succ]
  refine det_value ?v28 (by rfl) ?hy28 ?rest28
  case hy28 => intro wS hS; have c0 := hS.2.1.cell 0; have c1 := hS.2.1.cell 1; have c2 := hS.2.2.cell 0; have c3 := hS.2.2.cell 1; have q1 := o1.out; have q2 := o2.out; have q3 := o3.out; have q4 := o4.out; have q5 := o5.out; first | (go_simp; done) | (go_simp; with_reducible rfl)
  try simp only [Act.put, List.setIfInBounds_toArray, List.set_cons_zero, List.set_cons_succ]
  refine det_value ?v29 (by rfl) ?hy29 ?rest29
  case hy29 => intro wS hS; have c0 := hS.2.1.cell 0; have c1 := hS.2.1.cell 1; have c2 := hS.2.2.cell 0; have c3 := hS.2.2.cell 1; have q1 := o1.out; have q2 := o2.out; have q3 := o3.out; have q4 := o4.out; have q5 := o5.out; first | (go_simp; done) | (go_simp; with_reducible rfl)
  try simp only [Act.put, List.setIfInBounds_toArray, List.set_cons_zero, List.set_cons_succ]
  refine det_value ?v30 (by rfl) ?hy30 ?rest30
  case hy30 => intro wS hS; have c0 := hS.2.1.cell 0; have c1 := hS.2.1.cell 1; have c2 := hS.2.2.cell 0; have c3 := hS.2.2.cell 1; have q1 := o1.out; have q2 := o2.out; have q3 := o3.out; have q4 := o4.out; have q5 := o5.out; first | (go_simp; done) | (go_simp; with_reducible rfl)
  try simp only [Act.put, List.setIfInBounds_toArray, List.set_cons_zero, List.set_cons_succ]
  refine det_value ?v31 (by rfl) ?hy31 ?rest31
  case hy31 => intro wS hS; have c0 := hS.2.1.cell 0; have c1 := hS.2.1.cell 1; have c2 := hS.2.2.cell 0; have c3 := hS.2.2.cell 1; have q1 := o1.out; have q2 := o2.out; have q3 := o3.out; have q4 := o4.out; have q5 := o5.out; first | (go_simp; done) | (go_simp; with_reducible rfl)
  try simp only [Act.put, List.setIfInBounds_toArray, List.set_cons_zero, List.set_cons_succ]
  refine det_value ?v32 (by rfl) ?hy32 ?rest32
  case hy32 => intro wS hS; have c0 := hS.2.1.cell 0; have c1 := hS.2.1.cell 1; have c2 := hS.2.2.cell 0; have c3 := hS.2.2.cell 1; have q1 := o1.out; have q2 := o2.out; have q3 := o3.out; have q4 := o4.out; have q5 := o5.out; first | (go_simp; done) | (go_simp; with_reducible rfl)
  try simp only [Act.put, List.setIfInBounds_toArray, List.set_cons_zero, List.set_cons_succ]
  refine det_value ?v33 (by rfl) ?hy33 ?rest33
  case hy33 => intro wS hS; have c0 := hS.2.1.cell 0; have c1 := hS.2.1.cell 1; have c2 := hS.2.2.cell 0; have c3 := hS.2.2.cell 1; have q1 := o1.out; have q2 := o2.out; have q3 := o3.out; have q4 := o4.out; have q5 := o5.out; first | (go_simp; done) | (go_simp; with_reducible rfl)
  try simp only [Act.put, List.setIfInBounds_toArray, List.set_cons_zero, List.set_cons_succ]
  refine det_value ?v34 (by rfl) ?hy34 ?rest34
  case hy34 => intro wS hS; have c0 := hS.2.1.cell 0; have c1 := hS.2.1.cell 1; have c2 := hS.2.2.cell 0; have c3 := hS.2.2.cell 1; have q1 := o1.out; have q2 := o2.out; have q3 := o3.out; have q4 := o4.out; have q5 := o5.out; first | (go_simp; done) | (go_simp; with_reducible rfl)
  try simp only [Act.put, List.setIfInBounds_toArray, List.set_cons_zero, List.set_cons_succ]
  refine det_value ?v35 (by rfl) ?hy35 ?rest35
  case hy35 => intro wS hS; have c0 := hS.2.1.cell 0; have c1 := hS.2.1.cell 1; have c2 := hS.2.2.cell 0; have c3 := hS.2.2.cell 1; have q1 := o1.out; have q2 := o2.out; have q3 := o3.out; have q4 := o4.out; have q5 := o5.out; first | (go_simp; done) | (go_simp; with_reducible rfl)
  try simp only [Act.put, List.setIfInBounds_toArray, List.set_cons_zero, List.set_cons_succ]
  refine det_value ?v36 (by rfl) ?hy36 ?rest36
  case hy36 => intro wS hS; have c0 := hS.2.1.cell 0; have c1 := hS.2.1.cell 1; have c2 := hS.2.2.cell 0; have c3 := hS.2.2.cell 1; have q1 := o1.out; have q2 := o2.out; have q3 := o3.out; have q4 := o4.out; have q5 := o5.out; first | (go_simp; done) | (go_simp; with_reducible rfl)
  try simp only [Act.put, List.setIfInBounds_toArray, List.set_cons_zero, List.set_cons_succ]
  refine det_value ?v37 (by rfl) ?hy37 ?rest37
  case hy37 => intro wS hS; have c0 := hS.2.1.cell 0; have c1 := hS.2.1.cell 1; have c2 := hS.2.2.cell 0; have c3 := hS.2.2.cell 1; have q1 := o1.out; have q2 := o2.out; have q3 := o3.out; have q4 := o4.out; have q5 := o5.out; first | (go_simp; done) | (go_simp; with_reducible rfl)
  try simp only [Act.put, List.setIfInBounds_toArray, List.set_cons_zero, List.set_cons_succ]
  refine det_value ?v38 (by rfl) ?hy38 ?rest38
  case hy38 => intro wS hS; have c0 := hS.2.1.cell 0; have c1 := hS.2.1.cell 1; have c2 := hS.2.2.cell 0; have c3 := hS.2.2.cell 1; have q1 := o1.out; have q2 := o2.out; have q3 := o3.out; have q4 := o4.out; have q5 := o5.out; first | (go_simp; done) | (go_simp; with_reducible rfl)
  try simp only [Act.put, List.setIfInBounds_toArray, List.set_cons_zero, List.set_cons_succ]
  refine det_value ?v39 (by rfl) ?hy39 ?rest39
  case hy39 => intro wS hS; have c0 := hS.2.1.cell 0; have c1 := hS.2.1.cell 1; have c2 := hS.2.2.cell 0; have c3 := hS.2.2.cell 1; have q1 := o1.out; have q2 := o2.out; have q3 := o3.out; have q4 := o4.out; have q5 := o5.out; first | (go_simp; done) | (go_simp; with_reducible rfl)
  try simp only [Act.put, List.setIfInBounds_toArray, List.set_cons_zero, List.set_cons_succ]
  refine det_value ?v40 (by rfl) ?hy40 ?rest40
  case hy40 => intro wS hS; have c0 := hS.2.1.cell 0; have c1 := hS.2.1.cell 1; have c2 := hS.2.2.cell 0; have c3 := hS.2.2.cell 1; have q1 := o1.out; have q2 := o2.out; have q3 := o3.out; have q4 := o4.out; have q5 := o5.out; first | (go_simp; done) | (go_simp; with_reducible rfl)
  try simp only [Act.put, List.setIfInBounds_toArray, List.set_cons_zero, List.set_cons_succ]
  refine det_value ?v41 (by rfl) ?hy41 ?rest41
  case hy41 => intro wS hS; have c0 := hS.2.1.cell 0; have c1 := hS.2.1.cell 1; have c2 := hS.2.2.cell 0; have c3 := hS.2.2.cell 1; have q1 := o1.out; have q2 := o2.out; have q3 := o3.out; have q4 := o4.out; have q5 := o5.out; first | (go_simp; done) | (go_simp; with_reducible rfl)
  try simp only [Act.put, List.setIfInBounds_toArray, List.set_cons_zero, List.set_cons_succ]
  refine det_value ?v42 (by rfl) ?hy42 ?rest42
  case hy42 => intro wS hS; have c0 := hS.2.1.cell 0; have c1 := hS.2.1.cell 1; have c2 := hS.2.2.cell 0; have c3 := hS.2.2.cell 1; have q1 := o1.out; have q2 := o2.out; have q3 := o3.out; have q4 := o4.out; have q5 := o5.out; first | (go_simp; done) | (go_simp; with_reducible rfl)
  try simp only [Act.put, List.setIfInBounds_toArray, List.set_cons_zero, List.set_cons_succ]
  refine det_call (.bool true) 13 #[] (by rfl) ?run43 ?call43 ?rest43
  case run43 => intro wS; go_simp
  case call43 => intro wS hS; have c0 := hS.2.1.cell 0; have c1 := hS.2.1.cell 1; have c2 := hS.2.2.cell 0; have c3 := hS.2.2.cell 1; have q1 := o1.out; have q2 := o2.out; have q3 := o3.out; have q4 := o4.out; have q5 := o5.out; exact det_only (fun _ h => hS.only h) (known_any wS)
  try simp only [Act.put, List.setIfInBounds_toArray, List.set_cons_zero, List.set_cons_succ]
  refine det_value ?v44 (by rfl) ?hy44 ?rest44
  case hy44 => intro wS hS; have c0 := hS.2.1.cell 0; have c1 := hS.2.1.cell 1; have c2 := hS.2.2.cell 0; have c3 := hS.2.2.cell 1; have q1 := o1.out; have q2 := o2.out; have q3 := o3.out; have q4 := o4.out; have q5 := o5.out; first | (go_simp; done) | (go_simp; with_reducible rfl)
  try simp only [Act.put, List.setIfInBounds_toArray, List.set_cons_zero, List.set_cons_succ]
  refine det_value ?v45 (by rfl) ?hy45 ?rest45
  case hy45 => intro wS hS; have c0 := hS.2.1.cell 0; have c1 := hS.2.1.cell 1; have c2 := hS.2.2.cell 0; have c3 := hS.2.2.cell 1; have q1 := o1.out; have q2 := o2.out; have q3 := o3.out; have q4 := o4.out; have q5 := o5.out; first | (go_simp; done) | (go_simp; with_reducible rfl)
  try simp only [Act.put, List.setIfInBounds_toArray, List.set_cons_zero, List.set_cons_succ]
  intro w7 hS
  go_wp2
  go_ret
  exact ⟨rfl, HO.then hS.1⟩
end Go.Proofs.Ytegmhdopkehgeaa
