/-
  The walk of the law WaveSums.
-/
import Derived.Test.YtegmhdopkehgeaaWLaw
import Derived.Test.YtegmhdopkehgeaaDet
import Derived.Test.YtegmhdopkehgeaaWEq
namespace Go.Proofs.Ytegmhdopkehgeaa
open Go.RowKit

set_option maxRecDepth 100000 in
set_option maxHeartbeats 4000000 in
theorem wavesums_any (A : Option Addr) (n cp : Nat) (l : List Int) (w : World) (hr : Sl w A n (ivs l)) (hn : n ≤ 1000000000000000) (hf : ∀ x ∈ l, -9223372036854775808 ≤ x ∧ x ≤ 9223372036854775807) :
    Calls Try.prog 8 #[.slice A n cp] w fun e w' => e = .returned (.bool true) ∧ Only [] w w' := by
  have HL : Hid (l.length = n) := by have := hr.len; rw [ivs_length] at this; exact this
  have hfit := Lib.hid hf
  clear hf
  by_cases hbig : 100 < n
  · go_enter Try.func8, Try.ntmps8
    go_wp2
    go_ret
    exact ⟨rfl, Only.refl [] _⟩
  · have hsm := heldL_small l
    have HHL : Hid ((heldL l).length = n) := by show _ = _; rw [heldL_length, HL.out]
    have HSM := Lib.hid hsm
    have HP1 := Lib.hid (pol_1 (heldL l) n)
    have HPM := Lib.hid (pol_m1 (heldL l) n)
    have HPI := Lib.hid (pol_i (heldL l) n)
    have HPJ := Lib.hid (pol_mi (heldL l) n)
    clear hsm
    go_enter Try.func8, Try.ntmps8
    go_wp2_with (go_at_call 9; go_must (refine (held_any A n cp l w hr (by omega) hfit.out).mono ?_); rintro e w1 ⟨Am, cm, rfl, HV, HO1, _⟩)
    generalize heldL l = m at *
    clear hfit hr HL
    go_wp2_with (go_at_call 10; go_must (refine (refFourths_ex Am n cm m w1 HV.sl (by omega) HSM.out).mono ?_); rintro e w2 ⟨a, b, c, d, rfl, HF, HO2⟩)
    have b0 := fr_w53 HSM.out 0 n (by omega)
    have b1 := fr_w53 HSM.out 1 n (by omega)
    have b2 := fr_w53 HSM.out 2 n (by omega)
    have b3 := fr_w53 HSM.out 3 n (by omega)
    have h1 := HP1.out
    have hm := HPM.out
    have hi := HPI.out
    have hj := HPJ.out
    rw [← HF.out.1, ← HF.out.2.1, ← HF.out.2.2.1, ← HF.out.2.2.2] at h1 hm hi hj
    rw [← HF.out.1] at b0
    rw [← HF.out.2.1] at b1
    rw [← HF.out.2.2.1] at b2
    rw [← HF.out.2.2.2] at b3
    obtain ⟨x, hx⟩ : ∃ x, a - c = x := ⟨_, rfl⟩
    obtain ⟨y, hy⟩ : ∃ y, b - d = y := ⟨_, rfl⟩
    rw [hx, hy] at hi hj
    have o1 := Lib.hid (eq_FI (w53 (x := a + b + c + d) (by omega) (by omega)))
    have o2 := Lib.hid (eq_FI (w53 (x := a - b + c - d) (by omega) (by omega)))
    have o3 := Lib.hid (eq_FI (w53 (x := x) (by omega) (by omega)))
    obtain ⟨z, hz⟩ : ∃ z, -y = z := ⟨_, rfl⟩
    rw [hz] at hj
    have o4 := Lib.hid (eq_FI (w53 (x := z) (by omega) (by omega)))
    have wx := w53 (x := x) (by omega) (by omega)
    have wy := w53 (x := y) (by omega) (by omega)
    have t1 : IntKind.i64.wrap (a + b) = a + b := IntWalk.i64_in _ (by omega)
    have t2 : IntKind.i64.wrap (a + b + c) = a + b + c := IntWalk.i64_in _ (by omega)
    have t3 : IntKind.i64.wrap (a + b + c + d) = a + b + c + d := IntWalk.i64_in _ (by omega)
    have t4 : IntKind.i64.wrap (a - b) = a - b := IntWalk.i64_in _ (by omega)
    have t5 : IntKind.i64.wrap (a - b + c) = a - b + c := IntWalk.i64_in _ (by omega)
    have t6 : IntKind.i64.wrap (a - b + c - d) = a - b + c - d := IntWalk.i64_in _ (by omega)
    have HT1 := Lib.hid (fun W => Poly_at 4607182418800017408 0 1 0 Am n cm m W _ _ _ 0 is_one is_zero (by decide) HHL.out (by omega) HSM.out h1 rfl FI_zero)
    have HTM := Lib.hid (fun W => Poly_at 13830554455654793216 0 (-1) 0 Am n cm m W _ _ _ 0 is_minus is_zero (by decide) HHL.out (by omega) HSM.out hm rfl FI_zero)
    have HTJ := Lib.hid (fun W => Poly_at 0 13830554455654793216 0 (-1) Am n cm m W x z _ _ is_zero is_minus (by decide) HHL.out (by omega) HSM.out hj rfl rfl)
    have HTI := Lib.hid (fun W => Turn_at Am n cm m W x y HHL.out (by omega) HSM.out hi)
    have HBK : Hid (∀ W, Calls Try.prog 17 #[.complex .f64 (FI x) (FI y)] W fun e w' => e = .returned (.complex .f64 (FI x) (FI z)) ∧ W = w') := by
      intro W
      rw [← hz]
      exact Back_any x y W wx wy
    have HX := Lib.hid hx
    have HY := Lib.hid hy
    have HZ := Lib.hid hz
    clear HP1 HPM HPI HPJ b0 b1 b2 b3 h1 hm hi hj hx hy hz wx wy
    have HG := Bk.new w2 24 #[.int .i64 a, .int .i64 b, .int .i64 c, .int .i64 d]
    have HO3 : Only [] w (w2.alloc (.cells #[.int .i64 a, .int .i64 b, .int .i64 c, .int .i64 d] 24)) := (HO1.then HO2).alloc _
    have HV3 := (HV.keep HO2).alloc (.cells #[.int .i64 a, .int .i64 b, .int .i64 c, .int .i64 d] 24)
    generalize w2.heap.size = g at *
    generalize w2.alloc (.cells #[.int .i64 a, .int .i64 b, .int .i64 c, .int .i64 d] 24) = w3 at *
    refine wp_region_det (Stays w3 g 24 #[.int .i64 a, .int .i64 b, .int .i64 c, .int .i64 d]) (by kernel_rfl) (by kernel_rfl) (Stays.start HG) ?_
    refine det_value ?v0 (by rfl) ?hy0 ?rest0
    case hy0 => intro wS hS; have c0 := hS.2.cell 0; have c1 := hS.2.cell 1; have c2 := hS.2.cell 2; have c3 := hS.2.cell 3; have q1 := o1.out; have q2 := o2.out; have q3 := o3.out; have q4 := o4.out; have q5 := eq_zero; first | (go_simp; done) | (go_simp; with_reducible rfl)
    try simp only [Act.put, List.setIfInBounds_toArray, List.set_cons_zero, List.set_cons_succ]
    refine det_call (.complex .f64 (FI (a + b + c + d)) 0) 19 #[.complex .f64 4607182418800017408 0, .slice Am n cm] (by rfl) ?run1 ?call1 ?rest1
    case run1 => intro wS; go_simp
    case call1 => intro wS hS; have c0 := hS.2.cell 0; have c1 := hS.2.cell 1; have c2 := hS.2.cell 2; have c3 := hS.2.cell 3; have q1 := o1.out; have q2 := o2.out; have q3 := o3.out; have q4 := o4.out; have q5 := eq_zero; exact det_same hS (HT1.out wS (HV3.sl.keep hS.1))
    try simp only [Act.put, List.setIfInBounds_toArray, List.set_cons_zero, List.set_cons_succ]
    refine det_value ?v2 (by rfl) ?hy2 ?rest2
    case hy2 => intro wS hS; have c0 := hS.2.cell 0; have c1 := hS.2.cell 1; have c2 := hS.2.cell 2; have c3 := hS.2.cell 3; have q1 := o1.out; have q2 := o2.out; have q3 := o3.out; have q4 := o4.out; have q5 := eq_zero; first | (go_simp; done) | (go_simp; with_reducible rfl)
    try simp only [Act.put, List.setIfInBounds_toArray, List.set_cons_zero, List.set_cons_succ]
    refine det_value ?v3 (by rfl) ?hy3 ?rest3
    case hy3 => intro wS hS; have c0 := hS.2.cell 0; have c1 := hS.2.cell 1; have c2 := hS.2.cell 2; have c3 := hS.2.cell 3; have q1 := o1.out; have q2 := o2.out; have q3 := o3.out; have q4 := o4.out; have q5 := eq_zero; first | (go_simp; done) | (go_simp; with_reducible rfl)
    try simp only [Act.put, List.setIfInBounds_toArray, List.set_cons_zero, List.set_cons_succ]
    refine det_value ?v4 (by rfl) ?hy4 ?rest4
    case hy4 => intro wS hS; have c0 := hS.2.cell 0; have c1 := hS.2.cell 1; have c2 := hS.2.cell 2; have c3 := hS.2.cell 3; have q1 := o1.out; have q2 := o2.out; have q3 := o3.out; have q4 := o4.out; have q5 := eq_zero; first | (go_simp; done) | (go_simp; with_reducible rfl)
    try simp only [Act.put, List.setIfInBounds_toArray, List.set_cons_zero, List.set_cons_succ]
    refine det_value ?v5 (by rfl) ?hy5 ?rest5
    case hy5 => intro wS hS; have c0 := hS.2.cell 0; have c1 := hS.2.cell 1; have c2 := hS.2.cell 2; have c3 := hS.2.cell 3; have q1 := o1.out; have q2 := o2.out; have q3 := o3.out; have q4 := o4.out; have q5 := eq_zero; first | (go_simp; done) | (go_simp; with_reducible rfl)
    try simp only [Act.put, List.setIfInBounds_toArray, List.set_cons_zero, List.set_cons_succ]
    refine det_value ?v6 (by rfl) ?hy6 ?rest6
    case hy6 => intro wS hS; have c0 := hS.2.cell 0; have c1 := hS.2.cell 1; have c2 := hS.2.cell 2; have c3 := hS.2.cell 3; have q1 := o1.out; have q2 := o2.out; have q3 := o3.out; have q4 := o4.out; have q5 := eq_zero; first | (go_simp; done) | (go_simp; with_reducible rfl)
    try simp only [Act.put, List.setIfInBounds_toArray, List.set_cons_zero, List.set_cons_succ]
    refine det_value ?v7 (by rfl) ?hy7 ?rest7
    case hy7 => intro wS hS; have c0 := hS.2.cell 0; have c1 := hS.2.cell 1; have c2 := hS.2.cell 2; have c3 := hS.2.cell 3; have q1 := o1.out; have q2 := o2.out; have q3 := o3.out; have q4 := o4.out; have q5 := eq_zero; first | (go_simp; done) | (go_simp; with_reducible rfl)
    try simp only [Act.put, List.setIfInBounds_toArray, List.set_cons_zero, List.set_cons_succ]
    refine det_value ?v8 (by rfl) ?hy8 ?rest8
    case hy8 => intro wS hS; have c0 := hS.2.cell 0; have c1 := hS.2.cell 1; have c2 := hS.2.cell 2; have c3 := hS.2.cell 3; have q1 := o1.out; have q2 := o2.out; have q3 := o3.out; have q4 := o4.out; have q5 := eq_zero; first | (go_simp; done) | (go_simp; with_reducible rfl)
    try simp only [Act.put, List.setIfInBounds_toArray, List.set_cons_zero, List.set_cons_succ]
    refine det_value ?v9 (by rfl) ?hy9 ?rest9
    case hy9 => intro wS hS; have c0 := hS.2.cell 0; have c1 := hS.2.cell 1; have c2 := hS.2.cell 2; have c3 := hS.2.cell 3; have q1 := o1.out; have q2 := o2.out; have q3 := o3.out; have q4 := o4.out; have q5 := eq_zero; first | (go_simp; done) | (go_simp; with_reducible rfl)
    try simp only [Act.put, List.setIfInBounds_toArray, List.set_cons_zero, List.set_cons_succ]
    refine det_value ?v10 (by rfl) ?hy10 ?rest10
    case hy10 => intro wS hS; have c0 := hS.2.cell 0; have c1 := hS.2.cell 1; have c2 := hS.2.cell 2; have c3 := hS.2.cell 3; have q1 := o1.out; have q2 := o2.out; have q3 := o3.out; have q4 := o4.out; have q5 := eq_zero; first | (go_simp; done) | (go_simp; with_reducible rfl)
    try simp only [Act.put, List.setIfInBounds_toArray, List.set_cons_zero, List.set_cons_succ]
    refine det_value ?v11 (by rfl) ?hy11 ?rest11
    case hy11 => intro wS hS; have c0 := hS.2.cell 0; have c1 := hS.2.cell 1; have c2 := hS.2.cell 2; have c3 := hS.2.cell 3; have q1 := o1.out; have q2 := o2.out; have q3 := o3.out; have q4 := o4.out; have q5 := eq_zero; first | (go_simp; done) | (go_simp; with_reducible rfl)
    try simp only [Act.put, List.setIfInBounds_toArray, List.set_cons_zero, List.set_cons_succ]
    refine det_value ?v12 (by rfl) ?hy12 ?rest12
    case hy12 => intro wS hS; have c0 := hS.2.cell 0; have c1 := hS.2.cell 1; have c2 := hS.2.cell 2; have c3 := hS.2.cell 3; have q1 := o1.out; have q2 := o2.out; have q3 := o3.out; have q4 := o4.out; have q5 := eq_zero; first | (go_simp; done) | (go_simp; with_reducible rfl)
    try simp only [Act.put, List.setIfInBounds_toArray, List.set_cons_zero, List.set_cons_succ]
    refine det_value ?v13 (by rfl) ?hy13 ?rest13
    case hy13 => intro wS hS; have c0 := hS.2.cell 0; have c1 := hS.2.cell 1; have c2 := hS.2.cell 2; have c3 := hS.2.cell 3; have q1 := o1.out; have q2 := o2.out; have q3 := o3.out; have q4 := o4.out; have q5 := eq_zero; first | (go_simp; done) | (go_simp; with_reducible rfl)
    try simp only [Act.put, List.setIfInBounds_toArray, List.set_cons_zero, List.set_cons_succ]
    refine det_value ?v14 (by rfl) ?hy14 ?rest14
    case hy14 => intro wS hS; have c0 := hS.2.cell 0; have c1 := hS.2.cell 1; have c2 := hS.2.cell 2; have c3 := hS.2.cell 3; have q1 := o1.out; have q2 := o2.out; have q3 := o3.out; have q4 := o4.out; have q5 := eq_zero; first | (go_simp; done) | (go_simp; with_reducible rfl)
    try simp only [Act.put, List.setIfInBounds_toArray, List.set_cons_zero, List.set_cons_succ]
    refine det_value ?v15 (by rfl) ?hy15 ?rest15
    case hy15 => intro wS hS; have c0 := hS.2.cell 0; have c1 := hS.2.cell 1; have c2 := hS.2.cell 2; have c3 := hS.2.cell 3; have q1 := o1.out; have q2 := o2.out; have q3 := o3.out; have q4 := o4.out; have q5 := eq_zero; first | (go_simp; done) | (go_simp; with_reducible rfl)
    try simp only [Act.put, List.setIfInBounds_toArray, List.set_cons_zero, List.set_cons_succ]
    refine det_value ?v16 (by rfl) ?hy16 ?rest16
    case hy16 => intro wS hS; have c0 := hS.2.cell 0; have c1 := hS.2.cell 1; have c2 := hS.2.cell 2; have c3 := hS.2.cell 3; have q1 := o1.out; have q2 := o2.out; have q3 := o3.out; have q4 := o4.out; have q5 := eq_zero; first | (go_simp; done) | (go_simp; with_reducible rfl)
    try simp only [Act.put, List.setIfInBounds_toArray, List.set_cons_zero, List.set_cons_succ]
    refine det_value ?v17 (by rfl) ?hy17 ?rest17
    case hy17 => intro wS hS; have c0 := hS.2.cell 0; have c1 := hS.2.cell 1; have c2 := hS.2.cell 2; have c3 := hS.2.cell 3; have q1 := o1.out; have q2 := o2.out; have q3 := o3.out; have q4 := o4.out; have q5 := eq_zero; first | (go_simp; done) | (go_simp; with_reducible rfl)
    try simp only [Act.put, List.setIfInBounds_toArray, List.set_cons_zero, List.set_cons_succ]
    refine det_call (.complex .f64 (FI (a - b + c - d)) 0) 19 #[.complex .f64 13830554455654793216 0, .slice Am n cm] (by rfl) ?run18 ?call18 ?rest18
    case run18 => intro wS; go_simp
    case call18 => intro wS hS; have c0 := hS.2.cell 0; have c1 := hS.2.cell 1; have c2 := hS.2.cell 2; have c3 := hS.2.cell 3; have q1 := o1.out; have q2 := o2.out; have q3 := o3.out; have q4 := o4.out; have q5 := eq_zero; exact det_same hS (HTM.out wS (HV3.sl.keep hS.1))
    try simp only [Act.put, List.setIfInBounds_toArray, List.set_cons_zero, List.set_cons_succ]
    refine det_value ?v19 (by rfl) ?hy19 ?rest19
    case hy19 => intro wS hS; have c0 := hS.2.cell 0; have c1 := hS.2.cell 1; have c2 := hS.2.cell 2; have c3 := hS.2.cell 3; have q1 := o1.out; have q2 := o2.out; have q3 := o3.out; have q4 := o4.out; have q5 := eq_zero; first | (go_simp; done) | (go_simp; with_reducible rfl)
    try simp only [Act.put, List.setIfInBounds_toArray, List.set_cons_zero, List.set_cons_succ]
    refine det_value ?v20 (by rfl) ?hy20 ?rest20
    case hy20 => intro wS hS; have c0 := hS.2.cell 0; have c1 := hS.2.cell 1; have c2 := hS.2.cell 2; have c3 := hS.2.cell 3; have q1 := o1.out; have q2 := o2.out; have q3 := o3.out; have q4 := o4.out; have q5 := eq_zero; first | (go_simp; done) | (go_simp; with_reducible rfl)
    try simp only [Act.put, List.setIfInBounds_toArray, List.set_cons_zero, List.set_cons_succ]
    refine det_value ?v21 (by rfl) ?hy21 ?rest21
    case hy21 => intro wS hS; have c0 := hS.2.cell 0; have c1 := hS.2.cell 1; have c2 := hS.2.cell 2; have c3 := hS.2.cell 3; have q1 := o1.out; have q2 := o2.out; have q3 := o3.out; have q4 := o4.out; have q5 := eq_zero; first | (go_simp; done) | (go_simp; with_reducible rfl)
    try simp only [Act.put, List.setIfInBounds_toArray, List.set_cons_zero, List.set_cons_succ]
    refine det_value ?v22 (by rfl) ?hy22 ?rest22
    case hy22 => intro wS hS; have c0 := hS.2.cell 0; have c1 := hS.2.cell 1; have c2 := hS.2.cell 2; have c3 := hS.2.cell 3; have q1 := o1.out; have q2 := o2.out; have q3 := o3.out; have q4 := o4.out; have q5 := eq_zero; first | (go_simp; done) | (go_simp; with_reducible rfl)
    try simp only [Act.put, List.setIfInBounds_toArray, List.set_cons_zero, List.set_cons_succ]
    refine det_value ?v23 (by rfl) ?hy23 ?rest23
    case hy23 => intro wS hS; have c0 := hS.2.cell 0; have c1 := hS.2.cell 1; have c2 := hS.2.cell 2; have c3 := hS.2.cell 3; have q1 := o1.out; have q2 := o2.out; have q3 := o3.out; have q4 := o4.out; have q5 := eq_zero; first | (go_simp; done) | (go_simp; with_reducible rfl)
    try simp only [Act.put, List.setIfInBounds_toArray, List.set_cons_zero, List.set_cons_succ]
    refine det_value ?v24 (by rfl) ?hy24 ?rest24
    case hy24 => intro wS hS; have c0 := hS.2.cell 0; have c1 := hS.2.cell 1; have c2 := hS.2.cell 2; have c3 := hS.2.cell 3; have q1 := o1.out; have q2 := o2.out; have q3 := o3.out; have q4 := o4.out; have q5 := eq_zero; first | (go_simp; done) | (go_simp; with_reducible rfl)
    try simp only [Act.put, List.setIfInBounds_toArray, List.set_cons_zero, List.set_cons_succ]
    refine det_value ?v25 (by rfl) ?hy25 ?rest25
    case hy25 => intro wS hS; have c0 := hS.2.cell 0; have c1 := hS.2.cell 1; have c2 := hS.2.cell 2; have c3 := hS.2.cell 3; have q1 := o1.out; have q2 := o2.out; have q3 := o3.out; have q4 := o4.out; have q5 := eq_zero; first | (go_simp; done) | (go_simp; with_reducible rfl)
    try simp only [Act.put, List.setIfInBounds_toArray, List.set_cons_zero, List.set_cons_succ]
    refine det_value ?v26 (by rfl) ?hy26 ?rest26
    case hy26 => intro wS hS; have c0 := hS.2.cell 0; have c1 := hS.2.cell 1; have c2 := hS.2.cell 2; have c3 := hS.2.cell 3; have q1 := o1.out; have q2 := o2.out; have q3 := o3.out; have q4 := o4.out; have q5 := eq_zero; first | (go_simp; done) | (go_simp; with_reducible rfl)
    try simp only [Act.put, List.setIfInBounds_toArray, List.set_cons_zero, List.set_cons_succ]
    refine det_value ?v27 (by rfl) ?hy27 ?rest27
    case hy27 => intro wS hS; have c0 := hS.2.cell 0; have c1 := hS.2.cell 1; have c2 := hS.2.cell 2; have c3 := hS.2.cell 3; have q1 := o1.out; have q2 := o2.out; have q3 := o3.out; have q4 := o4.out; have q5 := eq_zero; first | (go_simp; done) | (go_simp; with_reducible rfl)
    try simp only [Act.put, List.setIfInBounds_toArray, List.set_cons_zero, List.set_cons_succ]
    refine det_value ?v28 (by rfl) ?hy28 ?rest28
    case hy28 => intro wS hS; have c0 := hS.2.cell 0; have c1 := hS.2.cell 1; have c2 := hS.2.cell 2; have c3 := hS.2.cell 3; have q1 := o1.out; have q2 := o2.out; have q3 := o3.out; have q4 := o4.out; have q5 := eq_zero; first | (go_simp; done) | (go_simp; with_reducible rfl)
    try simp only [Act.put, List.setIfInBounds_toArray, List.set_cons_zero, List.set_cons_succ]
    refine det_value ?v29 (by rfl) ?hy29 ?rest29
    case hy29 => intro wS hS; have c0 := hS.2.cell 0; have c1 := hS.2.cell 1; have c2 := hS.2.cell 2; have c3 := hS.2.cell 3; have q1 := o1.out; have q2 := o2.out; have q3 := o3.out; have q4 := o4.out; have q5 := eq_zero; first | (go_simp; done) | (go_simp; with_reducible rfl)
    try simp only [Act.put, List.setIfInBounds_toArray, List.set_cons_zero, List.set_cons_succ]
    refine det_value ?v30 (by rfl) ?hy30 ?rest30
    case hy30 => intro wS hS; have c0 := hS.2.cell 0; have c1 := hS.2.cell 1; have c2 := hS.2.cell 2; have c3 := hS.2.cell 3; have q1 := o1.out; have q2 := o2.out; have q3 := o3.out; have q4 := o4.out; have q5 := eq_zero; first | (go_simp; done) | (go_simp; with_reducible rfl)
    try simp only [Act.put, List.setIfInBounds_toArray, List.set_cons_zero, List.set_cons_succ]
    refine det_value ?v31 (by rfl) ?hy31 ?rest31
    case hy31 => intro wS hS; have c0 := hS.2.cell 0; have c1 := hS.2.cell 1; have c2 := hS.2.cell 2; have c3 := hS.2.cell 3; have q1 := o1.out; have q2 := o2.out; have q3 := o3.out; have q4 := o4.out; have q5 := eq_zero; first | (go_simp; done) | (go_simp; with_reducible rfl)
    try simp only [Act.put, List.setIfInBounds_toArray, List.set_cons_zero, List.set_cons_succ]
    refine det_value ?v32 (by rfl) ?hy32 ?rest32
    case hy32 => intro wS hS; have c0 := hS.2.cell 0; have c1 := hS.2.cell 1; have c2 := hS.2.cell 2; have c3 := hS.2.cell 3; have q1 := o1.out; have q2 := o2.out; have q3 := o3.out; have q4 := o4.out; have q5 := eq_zero; first | (go_simp; done) | (go_simp; with_reducible rfl)
    try simp only [Act.put, List.setIfInBounds_toArray, List.set_cons_zero, List.set_cons_succ]
    refine det_value ?v33 (by rfl) ?hy33 ?rest33
    case hy33 => intro wS hS; have c0 := hS.2.cell 0; have c1 := hS.2.cell 1; have c2 := hS.2.cell 2; have c3 := hS.2.cell 3; have q1 := o1.out; have q2 := o2.out; have q3 := o3.out; have q4 := o4.out; have q5 := eq_zero; first | (go_simp; done) | (go_simp; with_reducible rfl)
    try simp only [Act.put, List.setIfInBounds_toArray, List.set_cons_zero, List.set_cons_succ]
    refine det_value ?v34 (by rfl) ?hy34 ?rest34
    case hy34 => intro wS hS; have c0 := hS.2.cell 0; have c1 := hS.2.cell 1; have c2 := hS.2.cell 2; have c3 := hS.2.cell 3; have q1 := o1.out; have q2 := o2.out; have q3 := o3.out; have q4 := o4.out; have q5 := eq_zero; first | (go_simp; done) | (go_simp; with_reducible rfl)
    try simp only [Act.put, List.setIfInBounds_toArray, List.set_cons_zero, List.set_cons_succ]
    refine det_value ?v35 (by rfl) ?hy35 ?rest35
    case hy35 => intro wS hS; have c0 := hS.2.cell 0; have c1 := hS.2.cell 1; have c2 := hS.2.cell 2; have c3 := hS.2.cell 3; have q1 := o1.out; have q2 := o2.out; have q3 := o3.out; have q4 := o4.out; have q5 := eq_zero; first | (go_simp; done) | (go_simp; with_reducible rfl)
    try simp only [Act.put, List.setIfInBounds_toArray, List.set_cons_zero, List.set_cons_succ]
    refine det_call (.complex .f64 (FI x) (FI z)) 19 #[.complex .f64 0 13830554455654793216, .slice Am n cm] (by rfl) ?run36 ?call36 ?rest36
    case run36 => intro wS; go_simp
    case call36 => intro wS hS; have c0 := hS.2.cell 0; have c1 := hS.2.cell 1; have c2 := hS.2.cell 2; have c3 := hS.2.cell 3; have q1 := o1.out; have q2 := o2.out; have q3 := o3.out; have q4 := o4.out; have q5 := eq_zero; exact det_same hS (HTJ.out wS (HV3.sl.keep hS.1))
    try simp only [Act.put, List.setIfInBounds_toArray, List.set_cons_zero, List.set_cons_succ]
    refine det_value ?v37 (by rfl) ?hy37 ?rest37
    case hy37 => intro wS hS; have c0 := hS.2.cell 0; have c1 := hS.2.cell 1; have c2 := hS.2.cell 2; have c3 := hS.2.cell 3; have q1 := o1.out; have q2 := o2.out; have q3 := o3.out; have q4 := o4.out; have q5 := eq_zero; first | (go_simp; done) | (go_simp; with_reducible rfl)
    try simp only [Act.put, List.setIfInBounds_toArray, List.set_cons_zero, List.set_cons_succ]
    refine det_call (.complex .f64 (FI x) (FI y)) 11 #[.slice Am n cm] (by rfl) ?run38 ?call38 ?rest38
    case run38 => intro wS; go_simp
    case call38 => intro wS hS; have c0 := hS.2.cell 0; have c1 := hS.2.cell 1; have c2 := hS.2.cell 2; have c3 := hS.2.cell 3; have q1 := o1.out; have q2 := o2.out; have q3 := o3.out; have q4 := o4.out; have q5 := eq_zero; exact det_same hS (HTI.out wS (HV3.sl.keep hS.1))
    try simp only [Act.put, List.setIfInBounds_toArray, List.set_cons_zero, List.set_cons_succ]
    refine det_call (.complex .f64 (FI x) (FI z)) 17 #[.complex .f64 (FI x) (FI y)] (by rfl) ?run39 ?call39 ?rest39
    case run39 => intro wS; go_simp
    case call39 => intro wS hS; have c0 := hS.2.cell 0; have c1 := hS.2.cell 1; have c2 := hS.2.cell 2; have c3 := hS.2.cell 3; have q1 := o1.out; have q2 := o2.out; have q3 := o3.out; have q4 := o4.out; have q5 := eq_zero; exact det_same hS (HBK.out wS)
    try simp only [Act.put, List.setIfInBounds_toArray, List.set_cons_zero, List.set_cons_succ]
    refine det_value ?v40 (by rfl) ?hy40 ?rest40
    case hy40 => intro wS hS; have c0 := hS.2.cell 0; have c1 := hS.2.cell 1; have c2 := hS.2.cell 2; have c3 := hS.2.cell 3; have q1 := o1.out; have q2 := o2.out; have q3 := o3.out; have q4 := o4.out; have q5 := eq_zero; first | (go_simp; done) | (go_simp; with_reducible rfl)
    try simp only [Act.put, List.setIfInBounds_toArray, List.set_cons_zero, List.set_cons_succ]
    refine det_value ?v41 (by rfl) ?hy41 ?rest41
    case hy41 => intro wS hS; have c0 := hS.2.cell 0; have c1 := hS.2.cell 1; have c2 := hS.2.cell 2; have c3 := hS.2.cell 3; have q1 := o1.out; have q2 := o2.out; have q3 := o3.out; have q4 := o4.out; have q5 := eq_zero; first | (go_simp; done) | (go_simp; with_reducible rfl)
    try simp only [Act.put, List.setIfInBounds_toArray, List.set_cons_zero, List.set_cons_succ]
    refine det_value ?v42 (by rfl) ?hy42 ?rest42
    case hy42 => intro wS hS; have c0 := hS.2.cell 0; have c1 := hS.2.cell 1; have c2 := hS.2.cell 2; have c3 := hS.2.cell 3; have q1 := o1.out; have q2 := o2.out; have q3 := o3.out; have q4 := o4.out; have q5 := eq_zero; first | (go_simp; done) | (go_simp; with_reducible rfl)
    try simp only [Act.put, List.setIfInBounds_toArray, List.set_cons_zero, List.set_cons_succ]
    refine det_call (.bool true) 13 #[] (by rfl) ?run43 ?call43 ?rest43
    case run43 => intro wS; go_simp
    case call43 => intro wS hS; have c0 := hS.2.cell 0; have c1 := hS.2.cell 1; have c2 := hS.2.cell 2; have c3 := hS.2.cell 3; have q1 := o1.out; have q2 := o2.out; have q3 := o3.out; have q4 := o4.out; have q5 := eq_zero; exact det_only (fun _ h => hS.only h) (known_any wS)
    try simp only [Act.put, List.setIfInBounds_toArray, List.set_cons_zero, List.set_cons_succ]
    refine det_value ?v44 (by rfl) ?hy44 ?rest44
    case hy44 => intro wS hS; have c0 := hS.2.cell 0; have c1 := hS.2.cell 1; have c2 := hS.2.cell 2; have c3 := hS.2.cell 3; have q1 := o1.out; have q2 := o2.out; have q3 := o3.out; have q4 := o4.out; have q5 := eq_zero; first | (go_simp; done) | (go_simp; with_reducible rfl)
    try simp only [Act.put, List.setIfInBounds_toArray, List.set_cons_zero, List.set_cons_succ]
    refine det_value ?v45 (by rfl) ?hy45 ?rest45
    case hy45 => intro wS hS; have c0 := hS.2.cell 0; have c1 := hS.2.cell 1; have c2 := hS.2.cell 2; have c3 := hS.2.cell 3; have q1 := o1.out; have q2 := o2.out; have q3 := o3.out; have q4 := o4.out; have q5 := eq_zero; first | (go_simp; done) | (go_simp; with_reducible rfl)
    try simp only [Act.put, List.setIfInBounds_toArray, List.set_cons_zero, List.set_cons_succ]
    intro w4 hS
    go_wp2
    go_ret
    exact ⟨rfl, HO3.then hS.1⟩
end Go.Proofs.Ytegmhdopkehgeaa
