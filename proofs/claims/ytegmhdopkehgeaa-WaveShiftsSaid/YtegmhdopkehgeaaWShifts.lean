/-
  The walk of the law WaveShifts.
-/
import Derived.Test.YtegmhdopkehgeaaWLaw
import Derived.Test.YtegmhdopkehgeaaDet
import Derived.Test.YtegmhdopkehgeaaWEq
namespace Go.Proofs.Ytegmhdopkehgeaa
open Go.RowKit

set_option maxRecDepth 100000 in
set_option maxHeartbeats 4000000 in
theorem waveshifts_any (A : Option Addr) (n cp : Nat) (l : List Int) (w : World) (hr : Sl w A n (ivs l)) (hn : n ≤ 1000000000000000) (hf : ∀ x ∈ l, -9223372036854775808 ≤ x ∧ x ≤ 9223372036854775807) :
    Calls Try.prog 7 #[.slice A n cp] w fun e w' => e = .returned (.bool true) ∧ Only [] w w' := by
  have HL : Hid (l.length = n) := by have := hr.len; rw [ivs_length] at this; exact this
  have hfit := Lib.hid hf
  clear hf
  by_cases hbig : 100 < n
  · go_enter Try.func7, Try.ntmps7
    go_wp2
    go_ret
    exact ⟨rfl, Only.refl [] _⟩
  · have hsm := heldL_small l
    have HHL : Hid ((heldL l).length = n) := by show _ = _; rw [heldL_length, HL.out]
    obtain ⟨i0, hi, hz0, hz1, hz2⟩ := info_parts infoInt'
    have HSM := Lib.hid hsm
    have HHD := Lib.hid (held_any A n cp l w hr (by omega) hfit.out)
    generalize heldL l = m at *
    have hsh := fr_shift m n
    have hi1 := pol_i m n
    have hi2 := pol_i (0 :: m) (n + 1)
    have hi4 := pol_i (0 :: 0 :: 0 :: 0 :: m) (n + 4)
    have s2 := fr_shift (0 :: m) (n + 1)
    have s3 := fr_shift (0 :: 0 :: m) (n + 2)
    have s4 := fr_shift (0 :: 0 :: 0 :: m) (n + 3)
    rw [s4.1, s4.2.1, s4.2.2.1, s4.2.2.2, s3.1, s3.2.1, s3.2.2.1, s3.2.2.2, s2.1, s2.2.1, s2.2.2.1, s2.2.2.2, hsh.1, hsh.2.1, hsh.2.2.1, hsh.2.2.2] at hi4
    rw [hsh.1, hsh.2.1, hsh.2.2.1, hsh.2.2.2] at hi2
    have b0 := fr_w53 HSM.out 0 n (by omega)
    have b1 := fr_w53 HSM.out 1 n (by omega)
    have b2 := fr_w53 HSM.out 2 n (by omega)
    have b3 := fr_w53 HSM.out 3 n (by omega)
    obtain ⟨a, ha⟩ : ∃ a, fr m 0 n = a := ⟨_, rfl⟩
    obtain ⟨b, hb⟩ : ∃ b, fr m 1 n = b := ⟨_, rfl⟩
    obtain ⟨c, hc⟩ : ∃ c, fr m 2 n = c := ⟨_, rfl⟩
    obtain ⟨d, hd⟩ : ∃ d, fr m 3 n = d := ⟨_, rfl⟩
    have HF1 : Hid (a = fr m 0 n ∧ b = fr m 1 n ∧ c = fr m 2 n ∧ d = fr m 3 n) := ⟨ha.symm, hb.symm, hc.symm, hd.symm⟩
    have HF2 : Hid (d = fr (0 :: m) 0 (1 + n) ∧ a = fr (0 :: m) 1 (1 + n) ∧ b = fr (0 :: m) 2 (1 + n) ∧ c = fr (0 :: m) 3 (1 + n)) := by
      rw [Nat.add_comm 1 n]
      exact ⟨(hsh.1.trans hd).symm, (hsh.2.1.trans ha).symm, (hsh.2.2.1.trans hb).symm, (hsh.2.2.2.trans hc).symm⟩
    rw [ha, hb, hc, hd] at hi1 hi2 hi4
    rw [ha] at b0
    rw [hb] at b1
    rw [hc] at b2
    rw [hd] at b3
    obtain ⟨x, hx⟩ : ∃ x, a - c = x := ⟨_, rfl⟩
    obtain ⟨y, hy⟩ : ∃ y, b - d = y := ⟨_, rfl⟩
    obtain ⟨z, hz⟩ : ∃ z, d - b = z := ⟨_, rfl⟩
    rw [hx, hy] at hi1 hi4
    rw [hz, hx] at hi2
    rw [Nat.add_comm n 1] at hi2
    rw [Nat.add_comm n 4] at hi4
    have o1 := Lib.hid (eq_FI (w53 (x := x) (by omega) (by omega)))
    have o2 := Lib.hid (eq_FI (w53 (x := y) (by omega) (by omega)))
    have o3 := Lib.hid (eq_FI (w53 (x := z) (by omega) (by omega)))
    have wx := w53 (x := x) (by omega) (by omega)
    have wy := w53 (x := y) (by omega) (by omega)
    have HM : Hid (∀ W, Calls Try.prog 14 #[.complex .f64 0 4607182418800017408, .complex .f64 (FI x) (FI y)] W fun e w' => e = .returned (.complex .f64 (FI z) (FI x)) ∧ W = w') := by
      intro W
      have h := Mul_any 0 1 x y W (by unfold W53; decide) (by unfold W53; decide) wx wy (by rw [Int.zero_mul]; exact w53_zero) (by rw [Int.one_mul]; exact wy) (by rw [Int.zero_mul, Int.one_mul]; exact w53 (by omega) (by omega)) (by rw [Int.zero_mul]; exact w53_zero) (by rw [Int.one_mul]; exact wx) (by rw [Int.zero_mul, Int.one_mul, Int.zero_add]; exact wx)
      rw [FI_zero, FI_one, Int.zero_mul, Int.one_mul, Int.zero_mul, Int.one_mul, Int.zero_add, show (0 : Int) - y = z by omega] at h
      exact h
    have HS1 := Lib.hid (small_cons HSM.out)
    have HS4 := Lib.hid (small_cons (small_cons (small_cons (small_cons HSM.out))))
    have HI1 := Lib.hid hi1
    have HI2 := Lib.hid hi2
    have HI4 := Lib.hid hi4
    have HEQ := Lib.hid (eq_four d a b c)
    have HL1 : Hid ((0 :: m).length = 1 + n) := by show _ = _; rw [List.length_cons, HHL.out]; omega
    have HL4 : Hid ((0 :: 0 :: 0 :: 0 :: m).length = 4 + n) := by show _ = _; simp only [List.length_cons, HHL.out]; omega
    clear hsm hsh hi1 hi2 hi4 s2 s3 s4 b0 b1 b2 b3 ha hb hc hd hx hy hz wx wy hr hfit HL
    go_enter Try.func7, Try.ntmps7
    go_wp2_with (first
      | (go_at_call 9; refine HHD.out.mono ?_; rintro e w1 ⟨Am, cm, rfl, HV, HO1, _⟩)
      | (at_builtin; (refine wpList_append_sl rfl (.tmp 13) (.tmp 14) 22 rfl 3 i0 (.int .i64 0) 8 Try.underlying22 hi hz0 hz1 hz2 rfl (some ⟨w1.heap.size, 0, none⟩) 1 1 [.int .i64 0] rfl (World.ownsRow_lit w1 #[.int .i64 0] 1 (Nat.zero_le _) (by decide) rfl) Am n cm (ivs m) rfl (HV.sl.alloc _) (ivs_one _) (by unfold maxLen; omega) (by omega) ?_); intro A2 c2 w2 HV2 HO2 HB2; have HO2' : Only [] w1 w2 := ((Only.refl [] w1).alloc _).trans HO2 (fun x hx => by simp at hx; exact .inr (by omega)); have HV2' : Own w2 3 A2 (1 + n) c2 (ivs (0 :: m)) := HV2; have HVb := HV.keep HO2'; clear HV2 HO2 HB2)
      | (at_builtin; (refine wpList_append_sl rfl (.tmp 16) (.tmp 17) 22 rfl 3 i0 (.int .i64 0) 8 Try.underlying22 hi hz0 hz1 hz2 rfl (some ⟨w2.heap.size, 0, none⟩) 4 4 [.int .i64 0, .int .i64 0, .int .i64 0, .int .i64 0] rfl (World.ownsRow_lit w2 #[.int .i64 0, .int .i64 0, .int .i64 0, .int .i64 0] 4 (Nat.zero_le _) (by decide) rfl) Am n cm (ivs m) rfl (HVb.sl.alloc _) (ivs_one _) (by unfold maxLen; omega) (by omega) ?_); intro A3 c3 w3 HV3 HO3 HB3; have HO3' : Only [] w2 w3 := ((Only.refl [] w2).alloc _).trans HO3 (fun x hx => by simp at hx; exact .inr (by omega)); have HV3' : Own w3 3 A3 (4 + n) c3 (ivs (0 :: 0 :: 0 :: 0 :: m)) := HV3; have HVc := HVb.keep HO3'; have HV2c := HV2'.keep HO3'; clear HV3 HO3 HB3)
      | (go_at_call 12; ((with_reducible refine (Fourths_ex Am n cm m w3 a b c d HVc.sl (by omega) HSM.out HF1.out).mono ?_)); rintro e w4 ⟨rfl, HO4⟩; have HV2d := (HV2c.keep HO4).alloc (.cells #[.int .i64 a, .int .i64 b, .int .i64 c, .int .i64 d] 24))
      | (go_at_call 12; ((with_reducible refine (Fourths_ex A2 (1 + n) c2 (0 :: m) _ d a b c HV2d.sl (by omega) HS1.out HF2.out).mono ?_)); rintro e w5 ⟨rfl, HO5⟩))
    have HO6 : Only [] w (w5.alloc (.cells #[.int .i64 d, .int .i64 a, .int .i64 b, .int .i64 c] 24)) := ((((((HO1.then HO2').then HO3').then HO4).alloc _).then HO5)).alloc _
    have HG4 := ((Bk.new w4 24 #[.int .i64 a, .int .i64 b, .int .i64 c, .int .i64 d]).only HO5 (by simp)).alloc (.cells #[.int .i64 d, .int .i64 a, .int .i64 b, .int .i64 c] 24)
    have HG5 := Bk.new w5 24 #[.int .i64 d, .int .i64 a, .int .i64 b, .int .i64 c]
    have HX2 := (HV2d.keep HO5).alloc (.cells #[.int .i64 d, .int .i64 a, .int .i64 b, .int .i64 c] 24)
    have HX1 := (((HVc.keep HO4).alloc (.cells #[.int .i64 a, .int .i64 b, .int .i64 c, .int .i64 d] 24)).keep HO5).alloc (.cells #[.int .i64 d, .int .i64 a, .int .i64 b, .int .i64 c] 24)
    have HX4 := (((HV3'.keep HO4).alloc (.cells #[.int .i64 a, .int .i64 b, .int .i64 c, .int .i64 d] 24)).keep HO5).alloc (.cells #[.int .i64 d, .int .i64 a, .int .i64 b, .int .i64 c] 24)
    clear HV HO1 HO2' HV2' HVb HO3' HV3' HVc HV2c HO4 HV2d HO5
    generalize w4.heap.size = g4 at *
    generalize w5.heap.size = g5 at *
    generalize w5.alloc (.cells #[.int .i64 d, .int .i64 a, .int .i64 b, .int .i64 c] 24) = w6 at *
    have c0 := HG4.cell 0
    have c1 := HG4.cell 1
    have c2' := HG4.cell 2
    have c3' := HG4.cell 3
    have e0 := HG5.cell 0
    have e1 := HG5.cell 1
    have e2 := HG5.cell 2
    have e3 := HG5.cell 3
    have q1 := o1.out
    have q2 := o2.out
    have q3 := o3.out
    have q4 := HEQ.out
    have HT2 := Lib.hid (Turn_at A2 (1 + n) c2 (0 :: m) w6 z x HL1.out (by omega) HS1.out HI2.out HX2.sl)
    have HT1 := Lib.hid (Turn_at Am n cm m w6 x y HHL.out (by omega) HSM.out HI1.out HX1.sl)
    have HT4 := Lib.hid (Turn_at A3 (4 + n) c3 (0 :: 0 :: 0 :: 0 :: m) w6 x y HL4.out (by omega) HS4.out HI4.out HX4.sl)
    clear HG4 HG5 HX1 HX2 HX4
    refine HT2.out.mono ?_
    rintro e w7 ⟨rfl, rfl⟩
    go_wp2_with (first
      | (go_at_call 11; ((with_reducible refine HT1.out.mono ?_)); rintro e w7 ⟨rfl, rfl⟩)
      | (go_at_call 11; ((with_reducible refine HT4.out.mono ?_)); rintro e w7 ⟨rfl, rfl⟩)
      | (go_at_call 14; ((with_reducible refine (HM.out w6).mono ?_)); rintro e w7 ⟨rfl, rfl⟩)
      | (go_at_call 13; ((with_reducible refine (known_any w6).mono ?_)); rintro e w7 ⟨rfl, HO7⟩))
    go_ret
    exact ⟨rfl, HO6.then HO7⟩
end Go.Proofs.Ytegmhdopkehgeaa
