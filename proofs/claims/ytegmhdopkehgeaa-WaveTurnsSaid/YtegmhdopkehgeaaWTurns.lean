/-
  The walk of the law WaveTurns.
-/
import Derived.Test.YtegmhdopkehgeaaWLaw
import Derived.Test.YtegmhdopkehgeaaDet
import Derived.Test.YtegmhdopkehgeaaWEq
namespace Go.Proofs.Ytegmhdopkehgeaa
open Go.RowKit

set_option maxRecDepth 100000 in
set_option maxHeartbeats 4000000 in
theorem waveturns_any (A : Option Addr) (n cp : Nat) (l : List Int) (w : World) (hr : Sl w A n (ivs l)) (hn : n ≤ 1000000000000000) (hf : ∀ x ∈ l, -9223372036854775808 ≤ x ∧ x ≤ 9223372036854775807) :
    Calls Try.prog 3 #[.slice A n cp] w fun e w' => e = .returned (.bool true) ∧ Only [] w w' := by
  have HL : Hid (l.length = n) := by have := hr.len; rw [ivs_length] at this; exact this
  have hfit := Lib.hid hf
  clear hf
  by_cases hbig : 200 < n
  · go_enter Try.func3, Try.ntmps3
    go_wp2
    go_ret
    exact ⟨rfl, Only.refl [] _⟩
  · have hsm := heldL_small l
    have HHL : Hid ((heldL l).length = n) := by show _ = _; rw [heldL_length, HL.out]
    have hB := bnd_one (p := 0) (q := 1) (by decide) (show (heldL l).length ≤ 8000 by rw [HHL.out]; omega) hsm
    have HP := Lib.hid (pol_i (heldL l) n)
    have HSM := Lib.hid hsm
    have HB := Lib.hid hB
    clear hsm hB
    go_enter Try.func3, Try.ntmps3
    go_wp2_with (go_at_call 9; go_must (refine (held_any A n cp l w hr (by omega) hfit.out).mono ?_); rintro e w1 ⟨Am, cm, rfl, HV, HO1, _⟩)
    generalize heldL l = m at *
    clear hfit hr HL
    go_wp2_with (go_at_call 10; go_must (refine (refFourths_ex Am n cm m w1 HV.sl (by omega) HSM.out).mono ?_); rintro e w2 ⟨a, b, c, d, rfl, HF, HO2⟩)
    have b0 := fr_w53 HSM.out 0 n (by omega)
    have b1 := fr_w53 HSM.out 1 n (by omega)
    have b2 := fr_w53 HSM.out 2 n (by omega)
    have b3 := fr_w53 HSM.out 3 n (by omega)
    have HPP := Lib.hid HP.out
    rw [← HF.out.1, ← HF.out.2.1, ← HF.out.2.2.1, ← HF.out.2.2.2] at HPP
    rw [← HF.out.1] at b0
    rw [← HF.out.2.1] at b1
    rw [← HF.out.2.2.1] at b2
    rw [← HF.out.2.2.2] at b3
    have o1 := Lib.hid (eq_FI (w53 (x := a - c) (by omega) (by omega)))
    have o2 := Lib.hid (eq_FI (w53 (x := b - d) (by omega) (by omega)))
    clear HP
    have t1 : IntKind.i64.wrap (a - c) = a - c := IntWalk.i64_in _ (by omega)
    have t2 : IntKind.i64.wrap (b - d) = b - d := IntWalk.i64_in _ (by omega)
    have HT : ∀ W, Sl W Am n (ivs m) → Calls Try.prog 11 #[.slice Am n cm] W fun e w' => e = .returned (.complex .f64 (FI (a - c)) (FI (b - d))) ∧ W = w' := fun W h => by
      have := Turn_any Am n cm m _ W h HB.out (by omega)
      rw [HPP.out] at this
      exact this
    have HTT := Lib.hid HT
    have HEQ := Lib.hid (eq_four a b c d)
    clear HT b0 b1 b2 b3
    have HG := Bk.new w2 24 #[.int .i64 a, .int .i64 b, .int .i64 c, .int .i64 d]
    have HO3 : Only [] w (w2.alloc (.cells #[.int .i64 a, .int .i64 b, .int .i64 c, .int .i64 d] 24)) := (HO1.then HO2).alloc _
    have HV3 := (HV.keep HO2).alloc (.cells #[.int .i64 a, .int .i64 b, .int .i64 c, .int .i64 d] 24)
    generalize w2.heap.size = g at *
    generalize w2.alloc (.cells #[.int .i64 a, .int .i64 b, .int .i64 c, .int .i64 d] 24) = w3 at *
    refine wp_region_det (Stays w3 g 24 #[.int .i64 a, .int .i64 b, .int .i64 c, .int .i64 d]) (by kernel_rfl) (by kernel_rfl) (Stays.start HG) ?_
    refine det_value ?v0 (by rfl) ?hy0 ?rest0
    case hy0 => intro wS hS; have c0 := hS.2.cell 0; have c1 := hS.2.cell 1; have c2 := hS.2.cell 2; have c3 := hS.2.cell 3; have q1 := o1.out; have q2 := o2.out; have q3 := HEQ.out; first | (go_simp; done) | (go_simp; with_reducible rfl)
    try simp only [Act.put, List.setIfInBounds_toArray, List.set_cons_zero, List.set_cons_succ]
    refine det_call (.complex .f64 (FI (a - c)) (FI (b - d))) 11 #[.slice Am n cm] (by rfl) ?run1 ?call1 ?rest1
    case run1 => intro wS; go_simp
    case call1 => intro wS hS; have c0 := hS.2.cell 0; have c1 := hS.2.cell 1; have c2 := hS.2.cell 2; have c3 := hS.2.cell 3; have q1 := o1.out; have q2 := o2.out; have q3 := HEQ.out; exact det_same hS (HTT.out wS (HV3.sl.keep hS.1))
    try simp only [Act.put, List.setIfInBounds_toArray, List.set_cons_zero, List.set_cons_succ]
    refine det_value ?v2 (by rfl) ?hy2 ?rest2
    case hy2 => intro wS hS; have c0 := hS.2.cell 0; have c1 := hS.2.cell 1; have c2 := hS.2.cell 2; have c3 := hS.2.cell 3; have q1 := o1.out; have q2 := o2.out; have q3 := HEQ.out; first | (go_simp; done) | (go_simp; with_reducible rfl)
    try simp only [Act.put, List.setIfInBounds_toArray, List.set_cons_zero, List.set_cons_succ]
    refine det_value ?v3 (by rfl) ?hy3 ?rest3
    case hy3 => intro wS hS; have c0 := hS.2.cell 0; have c1 := hS.2.cell 1; have c2 := hS.2.cell 2; have c3 := hS.2.cell 3; have q1 := o1.out; have q2 := o2.out; have q3 := HEQ.out; first | (go_simp; done) | (go_simp; with_reducible rfl)
    try simp only [Act.put, List.setIfInBounds_toArray, List.set_cons_zero, List.set_cons_succ]
    refine det_value ?v4 (by rfl) ?hy4 ?rest4
    case hy4 => intro wS hS; have c0 := hS.2.cell 0; have c1 := hS.2.cell 1; have c2 := hS.2.cell 2; have c3 := hS.2.cell 3; have q1 := o1.out; have q2 := o2.out; have q3 := HEQ.out; first | (go_simp; done) | (go_simp; with_reducible rfl)
    try simp only [Act.put, List.setIfInBounds_toArray, List.set_cons_zero, List.set_cons_succ]
    refine det_value ?v5 (by rfl) ?hy5 ?rest5
    case hy5 => intro wS hS; have c0 := hS.2.cell 0; have c1 := hS.2.cell 1; have c2 := hS.2.cell 2; have c3 := hS.2.cell 3; have q1 := o1.out; have q2 := o2.out; have q3 := HEQ.out; first | (go_simp; done) | (go_simp; with_reducible rfl)
    try simp only [Act.put, List.setIfInBounds_toArray, List.set_cons_zero, List.set_cons_succ]
    refine det_value ?v6 (by rfl) ?hy6 ?rest6
    case hy6 => intro wS hS; have c0 := hS.2.cell 0; have c1 := hS.2.cell 1; have c2 := hS.2.cell 2; have c3 := hS.2.cell 3; have q1 := o1.out; have q2 := o2.out; have q3 := HEQ.out; first | (go_simp; done) | (go_simp; with_reducible rfl)
    try simp only [Act.put, List.setIfInBounds_toArray, List.set_cons_zero, List.set_cons_succ]
    refine det_value ?v7 (by rfl) ?hy7 ?rest7
    case hy7 => intro wS hS; have c0 := hS.2.cell 0; have c1 := hS.2.cell 1; have c2 := hS.2.cell 2; have c3 := hS.2.cell 3; have q1 := o1.out; have q2 := o2.out; have q3 := HEQ.out; first | (go_simp; done) | (go_simp; with_reducible rfl)
    try simp only [Act.put, List.setIfInBounds_toArray, List.set_cons_zero, List.set_cons_succ]
    refine det_value ?v8 (by rfl) ?hy8 ?rest8
    case hy8 => intro wS hS; have c0 := hS.2.cell 0; have c1 := hS.2.cell 1; have c2 := hS.2.cell 2; have c3 := hS.2.cell 3; have q1 := o1.out; have q2 := o2.out; have q3 := HEQ.out; first | (go_simp; done) | (go_simp; with_reducible rfl)
    try simp only [Act.put, List.setIfInBounds_toArray, List.set_cons_zero, List.set_cons_succ]
    refine det_value ?v9 (by rfl) ?hy9 ?rest9
    case hy9 => intro wS hS; have c0 := hS.2.cell 0; have c1 := hS.2.cell 1; have c2 := hS.2.cell 2; have c3 := hS.2.cell 3; have q1 := o1.out; have q2 := o2.out; have q3 := HEQ.out; first | (go_simp; done) | (go_simp; with_reducible rfl)
    try simp only [Act.put, List.setIfInBounds_toArray, List.set_cons_zero, List.set_cons_succ]
    refine det_value ?v10 (by rfl) ?hy10 ?rest10
    case hy10 => intro wS hS; have c0 := hS.2.cell 0; have c1 := hS.2.cell 1; have c2 := hS.2.cell 2; have c3 := hS.2.cell 3; have q1 := o1.out; have q2 := o2.out; have q3 := HEQ.out; first | (go_simp; done) | (go_simp; with_reducible rfl)
    try simp only [Act.put, List.setIfInBounds_toArray, List.set_cons_zero, List.set_cons_succ]
    refine det_value ?v11 (by rfl) ?hy11 ?rest11
    case hy11 => intro wS hS; have c0 := hS.2.cell 0; have c1 := hS.2.cell 1; have c2 := hS.2.cell 2; have c3 := hS.2.cell 3; have q1 := o1.out; have q2 := o2.out; have q3 := HEQ.out; first | (go_simp; done) | (go_simp; with_reducible rfl)
    try simp only [Act.put, List.setIfInBounds_toArray, List.set_cons_zero, List.set_cons_succ]
    refine det_value ?v12 (by rfl) ?hy12 ?rest12
    case hy12 => intro wS hS; have c0 := hS.2.cell 0; have c1 := hS.2.cell 1; have c2 := hS.2.cell 2; have c3 := hS.2.cell 3; have q1 := o1.out; have q2 := o2.out; have q3 := HEQ.out; first | (go_simp; done) | (go_simp; with_reducible rfl)
    try simp only [Act.put, List.setIfInBounds_toArray, List.set_cons_zero, List.set_cons_succ]
    refine det_value ?v13 (by rfl) ?hy13 ?rest13
    case hy13 => intro wS hS; have c0 := hS.2.cell 0; have c1 := hS.2.cell 1; have c2 := hS.2.cell 2; have c3 := hS.2.cell 3; have q1 := o1.out; have q2 := o2.out; have q3 := HEQ.out; first | (go_simp; done) | (go_simp; with_reducible rfl)
    try simp only [Act.put, List.setIfInBounds_toArray, List.set_cons_zero, List.set_cons_succ]
    refine det_value ?v14 (by rfl) ?hy14 ?rest14
    case hy14 => intro wS hS; have c0 := hS.2.cell 0; have c1 := hS.2.cell 1; have c2 := hS.2.cell 2; have c3 := hS.2.cell 3; have q1 := o1.out; have q2 := o2.out; have q3 := HEQ.out; first | (go_simp; done) | (go_simp; with_reducible rfl)
    try simp only [Act.put, List.setIfInBounds_toArray, List.set_cons_zero, List.set_cons_succ]
    refine det_value ?v15 (by rfl) ?hy15 ?rest15
    case hy15 => intro wS hS; have c0 := hS.2.cell 0; have c1 := hS.2.cell 1; have c2 := hS.2.cell 2; have c3 := hS.2.cell 3; have q1 := o1.out; have q2 := o2.out; have q3 := HEQ.out; first | (go_simp; done) | (go_simp; with_reducible rfl)
    try simp only [Act.put, List.setIfInBounds_toArray, List.set_cons_zero, List.set_cons_succ]
    refine det_value ?v16 (by rfl) ?hy16 ?rest16
    case hy16 => intro wS hS; have c0 := hS.2.cell 0; have c1 := hS.2.cell 1; have c2 := hS.2.cell 2; have c3 := hS.2.cell 3; have q1 := o1.out; have q2 := o2.out; have q3 := HEQ.out; first | (go_simp; done) | (go_simp; with_reducible rfl)
    try simp only [Act.put, List.setIfInBounds_toArray, List.set_cons_zero, List.set_cons_succ]
    refine det_value ?v17 (by rfl) ?hy17 ?rest17
    case hy17 => intro wS hS; have c0 := hS.2.cell 0; have c1 := hS.2.cell 1; have c2 := hS.2.cell 2; have c3 := hS.2.cell 3; have q1 := o1.out; have q2 := o2.out; have q3 := HEQ.out; first | (go_simp; done) | (go_simp; with_reducible rfl)
    try simp only [Act.put, List.setIfInBounds_toArray, List.set_cons_zero, List.set_cons_succ]
    refine det_call (.agg #[.int .i64 a, .int .i64 b, .int .i64 c, .int .i64 d]) 12 #[.slice Am n cm] (by rfl) ?run18 ?call18 ?rest18
    case run18 => intro wS; go_simp
    case call18 => intro wS hS; have c0 := hS.2.cell 0; have c1 := hS.2.cell 1; have c2 := hS.2.cell 2; have c3 := hS.2.cell 3; have q1 := o1.out; have q2 := o2.out; have q3 := HEQ.out; exact det_only (fun _ h => hS.only h) (Fourths_ex Am n cm m wS a b c d (HV3.sl.keep hS.1) (by omega) HSM.out HF.out)
    try simp only [Act.put, List.setIfInBounds_toArray, List.set_cons_zero, List.set_cons_succ]
    refine det_value ?v19 (by rfl) ?hy19 ?rest19
    case hy19 => intro wS hS; have c0 := hS.2.cell 0; have c1 := hS.2.cell 1; have c2 := hS.2.cell 2; have c3 := hS.2.cell 3; have q1 := o1.out; have q2 := o2.out; have q3 := HEQ.out; first | (go_simp; done) | (go_simp; with_reducible rfl)
    try simp only [Act.put, List.setIfInBounds_toArray, List.set_cons_zero, List.set_cons_succ]
    refine det_value ?v20 (by rfl) ?hy20 ?rest20
    case hy20 => intro wS hS; have c0 := hS.2.cell 0; have c1 := hS.2.cell 1; have c2 := hS.2.cell 2; have c3 := hS.2.cell 3; have q1 := o1.out; have q2 := o2.out; have q3 := HEQ.out; first | (go_simp; done) | (go_simp; with_reducible rfl)
    try simp only [Act.put, List.setIfInBounds_toArray, List.set_cons_zero, List.set_cons_succ]
    refine det_value ?v21 (by rfl) ?hy21 ?rest21
    case hy21 => intro wS hS; have c0 := hS.2.cell 0; have c1 := hS.2.cell 1; have c2 := hS.2.cell 2; have c3 := hS.2.cell 3; have q1 := o1.out; have q2 := o2.out; have q3 := HEQ.out; first | (go_simp; done) | (go_simp; with_reducible rfl)
    try simp only [Act.put, List.setIfInBounds_toArray, List.set_cons_zero, List.set_cons_succ]
    refine det_value ?v22 (by rfl) ?hy22 ?rest22
    case hy22 => intro wS hS; have c0 := hS.2.cell 0; have c1 := hS.2.cell 1; have c2 := hS.2.cell 2; have c3 := hS.2.cell 3; have q1 := o1.out; have q2 := o2.out; have q3 := HEQ.out; first | (go_simp; done) | (go_simp; with_reducible rfl)
    try simp only [Act.put, List.setIfInBounds_toArray, List.set_cons_zero, List.set_cons_succ]
    refine det_call (.bool true) 13 #[] (by rfl) ?run23 ?call23 ?rest23
    case run23 => intro wS; go_simp
    case call23 => intro wS hS; have c0 := hS.2.cell 0; have c1 := hS.2.cell 1; have c2 := hS.2.cell 2; have c3 := hS.2.cell 3; have q1 := o1.out; have q2 := o2.out; have q3 := HEQ.out; exact det_only (fun _ h => hS.only h) (known_any wS)
    try simp only [Act.put, List.setIfInBounds_toArray, List.set_cons_zero, List.set_cons_succ]
    refine det_value ?v24 (by rfl) ?hy24 ?rest24
    case hy24 => intro wS hS; have c0 := hS.2.cell 0; have c1 := hS.2.cell 1; have c2 := hS.2.cell 2; have c3 := hS.2.cell 3; have q1 := o1.out; have q2 := o2.out; have q3 := HEQ.out; first | (go_simp; done) | (go_simp; with_reducible rfl)
    try simp only [Act.put, List.setIfInBounds_toArray, List.set_cons_zero, List.set_cons_succ]
    refine det_value ?v25 (by rfl) ?hy25 ?rest25
    case hy25 => intro wS hS; have c0 := hS.2.cell 0; have c1 := hS.2.cell 1; have c2 := hS.2.cell 2; have c3 := hS.2.cell 3; have q1 := o1.out; have q2 := o2.out; have q3 := HEQ.out; first | (go_simp; done) | (go_simp; with_reducible rfl)
    try simp only [Act.put, List.setIfInBounds_toArray, List.set_cons_zero, List.set_cons_succ]
    intro w4 hS
    go_wp2
    go_ret
    exact ⟨rfl, HO3.then hS.1⟩
end Go.Proofs.Ytegmhdopkehgeaa
