/-
  The walk of the law WavePolys.
-/
import Derived.Test.YtegmhdopkehgeaaWLaw
import Derived.Test.YtegmhdopkehgeaaDet
import Derived.Test.YtegmhdopkehgeaaWEq
namespace Go.Proofs.Ytegmhdopkehgeaa
open Go.RowKit

set_option maxRecDepth 100000 in
set_option maxHeartbeats 4000000 in
theorem wavepolys_any (x y : Int) (A : Option Addr) (n cp : Nat) (l : List Int) (w : World) (_hx : -9223372036854775808 ≤ x ∧ x ≤ 9223372036854775807) (_hy : -9223372036854775808 ≤ y ∧ y ≤ 9223372036854775807) (hr : Sl w A n (ivs l)) (hn : n ≤ 1000000000000000) (hf : ∀ x ∈ l, -9223372036854775808 ≤ x ∧ x ≤ 9223372036854775807) :
    Calls Try.prog 5 #[.agg #[.int .i64 x, .int .i64 y], .slice A n cp] w fun e w' => e = .returned (.bool true) ∧ Only [] w w' := by
  have HL : Hid (l.length = n) := by have := hr.len; rw [ivs_length] at this; exact this
  have hfit := Lib.hid hf
  clear hf
  by_cases hbig : 12 < n
  · go_enter Try.func5, Try.ntmps5
    go_wp2
    go_ret
    exact ⟨rfl, (Only.refl [] _).alloc _⟩
  · have hsm := heldL_small l
    have HHL : Hid ((heldL l).length = n) := by show _ = _; rw [heldL_length, HL.out]
    have HHD := Lib.hid (fun W (h : Sl W A n (ivs l)) => held_any A n cp l W h (by omega) hfit.out)
    have bx := tmod_4 x
    have bY := tmod_4 y
    go_enter Try.func5, Try.ntmps5
    go_wp2_with fail
    generalize heldL l = m at *
    generalize x.tmod 4 = a at *
    generalize y.tmod 4 = b at *
    have hB := bnd_six bx bY (by rw [HHL.out]; omega) hsm
    have HB := Lib.hid hB
    have HB1 := Lib.hid (bnd_one (p := 0) (q := 1) (by decide) (show m.length ≤ 8000 by rw [HHL.out]; omega) hsm)
    have hS := hB.sums (k := n) (by rw [HHL.out]; omega)
    have hS1 := HB1.out.sums (k := n) (by rw [HHL.out]; omega)
    have wa := Lib.hid (is_FI (n := a) (by omega))
    have wb := Lib.hid (is_FI (n := b) (by omega))
    obtain ⟨p, hp⟩ : ∃ p, (pol a b m n).1 = p := ⟨_, rfl⟩
    obtain ⟨q, hq⟩ : ∃ q, (pol a b m n).2 = q := ⟨_, rfl⟩
    obtain ⟨s, hs⟩ : ∃ s, (pol 0 1 m n).1 = s := ⟨_, rfl⟩
    obtain ⟨t, ht⟩ : ∃ t, (pol 0 1 m n).2 = t := ⟨_, rfl⟩
    rw [hp, hq] at hS
    rw [hs, ht] at hS1
    have o1 := Lib.hid (eq_FI hS.1)
    have o2 := Lib.hid (eq_FI hS.2)
    have o3 := Lib.hid (eq_FI hS1.1)
    have o4 := Lib.hid (eq_FI hS1.2)
    refine (HHD.out _ (hr.alloc _)).mono ?_
    rintro e w1 ⟨Am, cm, rfl, HV, HO1, _⟩
    have HP : Hid (∀ W, Sl W Am n (ivs m) → Calls Try.prog 19 #[.complex .f64 (FI a) (FI b), .slice Am n cm] W fun e w' => e = .returned (.complex .f64 (FI p) (FI q)) ∧ W = w') := by
      intro W h
      have := Poly_any (FI a) (FI b) a b Am n cm m 6 _ W wa.out wb.out h HB.out (by omega)
      rw [hp, hq] at this
      exact this
    have HR : Hid (∀ W, Sl W Am n (ivs m) → Calls Try.prog 20 #[.agg #[.int .i64 a, .int .i64 b], .slice Am n cm] W fun e w' => e = .returned (.agg #[.int .i64 p, .int .i64 q]) ∧ Only [] W w') := by
      intro W h
      have := refPoly_any a b Am n cm m 6 _ W h HB.out (by omega)
      rw [hp, hq] at this
      exact this
    have HI : Hid (∀ W, Sl W Am n (ivs m) → Calls Try.prog 19 #[.complex .f64 0 4607182418800017408, .slice Am n cm] W fun e w' => e = .returned (.complex .f64 (FI s) (FI t)) ∧ W = w') := by
      intro W h
      have := Poly_any 0 4607182418800017408 0 1 Am n cm m 1 _ W is_zero is_one h HB1.out (by omega)
      rw [hs, ht] at this
      exact this
    have HT : Hid (∀ W, Sl W Am n (ivs m) → Calls Try.prog 11 #[.slice Am n cm] W fun e w' => e = .returned (.complex .f64 (FI s) (FI t)) ∧ W = w') := by
      intro W h
      have := Turn_any Am n cm m _ W h HB1.out (by omega)
      rw [hs, ht] at this
      exact this
    have HG := (Bk.new w 33 #[.int .i64 a, .int .i64 b]).only HO1 (by simp)
    have HO := ((Only.refl [] w).alloc (.cells #[.int .i64 a, .int .i64 b] 33)).then HO1
    clear hsm HHD bx bY hB HB HB1 hS hS1 wa wb hp hq hs ht HO1 hr HL hfit HHL
    go_wp2_with fail
    refine wp_region_det (Stays w1 w.heap.size 33 #[.int .i64 a, .int .i64 b]) (by kernel_rfl) (by kernel_rfl) (Stays.start HG) ?_
    refine det_value ?v0 (by rfl) ?hy0 ?rest0
    case hy0 => intro wS hS; have c0 := hS.2.cell 0; have c1 := hS.2.cell 1; have q1 := o1.out; have q2 := o2.out; have q3 := o3.out; have q4 := o4.out; first | (go_simp; done) | (go_simp; with_reducible rfl)
    try simp only [Act.put, List.setIfInBounds_toArray, List.set_cons_zero, List.set_cons_succ]
    refine det_call (.complex .f64 (FI a) (FI b)) 15 #[.agg #[.int .i64 a, .int .i64 b]] (by rfl) ?run1 ?call1 ?rest1
    case run1 => intro wS; go_simp
    case call1 => intro wS hS; have c0 := hS.2.cell 0; have c1 := hS.2.cell 1; have q1 := o1.out; have q2 := o2.out; have q3 := o3.out; have q4 := o4.out; exact det_only (fun _ h => hS.only h) (gauss_any a b wS)
    try simp only [Act.put, List.setIfInBounds_toArray, List.set_cons_zero, List.set_cons_succ]
    refine det_value ?v2 (by rfl) ?hy2 ?rest2
    case hy2 => intro wS hS; have c0 := hS.2.cell 0; have c1 := hS.2.cell 1; have q1 := o1.out; have q2 := o2.out; have q3 := o3.out; have q4 := o4.out; first | (go_simp; done) | (go_simp; with_reducible rfl)
    try simp only [Act.put, List.setIfInBounds_toArray, List.set_cons_zero, List.set_cons_succ]
    refine det_call (.complex .f64 (FI p) (FI q)) 19 #[.complex .f64 (FI a) (FI b), .slice Am n cm] (by rfl) ?run3 ?call3 ?rest3
    case run3 => intro wS; go_simp
    case call3 => intro wS hS; have c0 := hS.2.cell 0; have c1 := hS.2.cell 1; have q1 := o1.out; have q2 := o2.out; have q3 := o3.out; have q4 := o4.out; exact det_same hS (HP.out wS (HV.sl.keep hS.1))
    try simp only [Act.put, List.setIfInBounds_toArray, List.set_cons_zero, List.set_cons_succ]
    refine det_value ?v4 (by rfl) ?hy4 ?rest4
    case hy4 => intro wS hS; have c0 := hS.2.cell 0; have c1 := hS.2.cell 1; have q1 := o1.out; have q2 := o2.out; have q3 := o3.out; have q4 := o4.out; first | (go_simp; done) | (go_simp; with_reducible rfl)
    try simp only [Act.put, List.setIfInBounds_toArray, List.set_cons_zero, List.set_cons_succ]
    refine det_value ?v5 (by rfl) ?hy5 ?rest5
    case hy5 => intro wS hS; have c0 := hS.2.cell 0; have c1 := hS.2.cell 1; have q1 := o1.out; have q2 := o2.out; have q3 := o3.out; have q4 := o4.out; first | (go_simp; done) | (go_simp; with_reducible rfl)
    try simp only [Act.put, List.setIfInBounds_toArray, List.set_cons_zero, List.set_cons_succ]
    refine det_call (.agg #[.int .i64 p, .int .i64 q]) 20 #[.agg #[.int .i64 a, .int .i64 b], .slice Am n cm] (by rfl) ?run6 ?call6 ?rest6
    case run6 => intro wS; go_simp
    case call6 => intro wS hS; have c0 := hS.2.cell 0; have c1 := hS.2.cell 1; have q1 := o1.out; have q2 := o2.out; have q3 := o3.out; have q4 := o4.out; exact det_only (fun _ h => hS.only h) (HR.out wS (HV.sl.keep hS.1))
    try simp only [Act.put, List.setIfInBounds_toArray, List.set_cons_zero, List.set_cons_succ]
    refine det_call (.complex .f64 (FI p) (FI q)) 15 #[.agg #[.int .i64 p, .int .i64 q]] (by rfl) ?run7 ?call7 ?rest7
    case run7 => intro wS; go_simp
    case call7 => intro wS hS; have c0 := hS.2.cell 0; have c1 := hS.2.cell 1; have q1 := o1.out; have q2 := o2.out; have q3 := o3.out; have q4 := o4.out; exact det_only (fun _ h => hS.only h) (gauss_any p q wS)
    try simp only [Act.put, List.setIfInBounds_toArray, List.set_cons_zero, List.set_cons_succ]
    refine det_value ?v8 (by rfl) ?hy8 ?rest8
    case hy8 => intro wS hS; have c0 := hS.2.cell 0; have c1 := hS.2.cell 1; have q1 := o1.out; have q2 := o2.out; have q3 := o3.out; have q4 := o4.out; first | (go_simp; done) | (go_simp; with_reducible rfl)
    try simp only [Act.put, List.setIfInBounds_toArray, List.set_cons_zero, List.set_cons_succ]
    refine det_value ?v9 (by rfl) ?hy9 ?rest9
    case hy9 => intro wS hS; have c0 := hS.2.cell 0; have c1 := hS.2.cell 1; have q1 := o1.out; have q2 := o2.out; have q3 := o3.out; have q4 := o4.out; first | (go_simp; done) | (go_simp; with_reducible rfl)
    try simp only [Act.put, List.setIfInBounds_toArray, List.set_cons_zero, List.set_cons_succ]
    refine det_value ?v10 (by rfl) ?hy10 ?rest10
    case hy10 => intro wS hS; have c0 := hS.2.cell 0; have c1 := hS.2.cell 1; have q1 := o1.out; have q2 := o2.out; have q3 := o3.out; have q4 := o4.out; first | (go_simp; done) | (go_simp; with_reducible rfl)
    try simp only [Act.put, List.setIfInBounds_toArray, List.set_cons_zero, List.set_cons_succ]
    refine det_call (.complex .f64 (FI s) (FI t)) 19 #[.complex .f64 0 4607182418800017408, .slice Am n cm] (by rfl) ?run11 ?call11 ?rest11
    case run11 => intro wS; go_simp
    case call11 => intro wS hS; have c0 := hS.2.cell 0; have c1 := hS.2.cell 1; have q1 := o1.out; have q2 := o2.out; have q3 := o3.out; have q4 := o4.out; exact det_same hS (HI.out wS (HV.sl.keep hS.1))
    try simp only [Act.put, List.setIfInBounds_toArray, List.set_cons_zero, List.set_cons_succ]
    refine det_value ?v12 (by rfl) ?hy12 ?rest12
    case hy12 => intro wS hS; have c0 := hS.2.cell 0; have c1 := hS.2.cell 1; have q1 := o1.out; have q2 := o2.out; have q3 := o3.out; have q4 := o4.out; first | (go_simp; done) | (go_simp; with_reducible rfl)
    try simp only [Act.put, List.setIfInBounds_toArray, List.set_cons_zero, List.set_cons_succ]
    refine det_call (.complex .f64 (FI s) (FI t)) 11 #[.slice Am n cm] (by rfl) ?run13 ?call13 ?rest13
    case run13 => intro wS; go_simp
    case call13 => intro wS hS; have c0 := hS.2.cell 0; have c1 := hS.2.cell 1; have q1 := o1.out; have q2 := o2.out; have q3 := o3.out; have q4 := o4.out; exact det_same hS (HT.out wS (HV.sl.keep hS.1))
    try simp only [Act.put, List.setIfInBounds_toArray, List.set_cons_zero, List.set_cons_succ]
    refine det_value ?v14 (by rfl) ?hy14 ?rest14
    case hy14 => intro wS hS; have c0 := hS.2.cell 0; have c1 := hS.2.cell 1; have q1 := o1.out; have q2 := o2.out; have q3 := o3.out; have q4 := o4.out; first | (go_simp; done) | (go_simp; with_reducible rfl)
    try simp only [Act.put, List.setIfInBounds_toArray, List.set_cons_zero, List.set_cons_succ]
    refine det_value ?v15 (by rfl) ?hy15 ?rest15
    case hy15 => intro wS hS; have c0 := hS.2.cell 0; have c1 := hS.2.cell 1; have q1 := o1.out; have q2 := o2.out; have q3 := o3.out; have q4 := o4.out; first | (go_simp; done) | (go_simp; with_reducible rfl)
    try simp only [Act.put, List.setIfInBounds_toArray, List.set_cons_zero, List.set_cons_succ]
    refine det_value ?v16 (by rfl) ?hy16 ?rest16
    case hy16 => intro wS hS; have c0 := hS.2.cell 0; have c1 := hS.2.cell 1; have q1 := o1.out; have q2 := o2.out; have q3 := o3.out; have q4 := o4.out; first | (go_simp; done) | (go_simp; with_reducible rfl)
    try simp only [Act.put, List.setIfInBounds_toArray, List.set_cons_zero, List.set_cons_succ]
    refine det_call (.bool true) 13 #[] (by rfl) ?run17 ?call17 ?rest17
    case run17 => intro wS; go_simp
    case call17 => intro wS hS; have c0 := hS.2.cell 0; have c1 := hS.2.cell 1; have q1 := o1.out; have q2 := o2.out; have q3 := o3.out; have q4 := o4.out; exact det_only (fun _ h => hS.only h) (known_any wS)
    try simp only [Act.put, List.setIfInBounds_toArray, List.set_cons_zero, List.set_cons_succ]
    refine det_value ?v18 (by rfl) ?hy18 ?rest18
    case hy18 => intro wS hS; have c0 := hS.2.cell 0; have c1 := hS.2.cell 1; have q1 := o1.out; have q2 := o2.out; have q3 := o3.out; have q4 := o4.out; first | (go_simp; done) | (go_simp; with_reducible rfl)
    try simp only [Act.put, List.setIfInBounds_toArray, List.set_cons_zero, List.set_cons_succ]
    refine det_value ?v19 (by rfl) ?hy19 ?rest19
    case hy19 => intro wS hS; have c0 := hS.2.cell 0; have c1 := hS.2.cell 1; have q1 := o1.out; have q2 := o2.out; have q3 := o3.out; have q4 := o4.out; first | (go_simp; done) | (go_simp; with_reducible rfl)
    try simp only [Act.put, List.setIfInBounds_toArray, List.set_cons_zero, List.set_cons_succ]
    intro w7 hS
    go_wp2
    go_ret
    exact ⟨rfl, HO.then hS.1⟩
end Go.Proofs.Ytegmhdopkehgeaa
