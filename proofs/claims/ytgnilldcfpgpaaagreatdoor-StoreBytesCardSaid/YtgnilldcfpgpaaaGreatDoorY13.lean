/-
  Texts of the seat, laid one behind the other: SMay VSame VRefEnc VEnc.
-/
import Derived.Test.YtgnilldcfpgpaaaGreatDoorY7
import Derived.Test.YtgnilldcfpgpaaaGreatDoorY6
import Derived.Test.YtgnilldcfpgpaaaGreatDoorY10
import Derived.Test.YtgnilldcfpgpaaaGreatDoorY3
import Derived.Test.YtgnilldcfpgpaaaGreatDoorY11
import Derived.Lib.ConvBytes
import Derived.Test.YtgnilldcfpgpaaaGreatDoorY2
namespace Go.Proofs.YtgnilldcfpgpaaaGreatDoor
open Go.RowKit Go.Instr
set_option maxRecDepth 100000 in
set_option maxHeartbeats 16000000 in
theorem may_any {w : World} (c : Ch) {A B : Option Addr} {ca cb : Nat} (hU : Sl w A c.uids.length (ivs c.uids)) (hn : c.uids.length ≤ 140737488355328) (hT : TabN w) (hpos : 0 < w.heap.size) :
    Calls Tryz.prog 58 #[chv c A ca B cb] w fun e w' => e = .returned (.bool (isC c)) ∧ Only [] w w' := by
  obtain ⟨kd, us, ps, bx, to, ui, md, fl, dt, bo⟩ := c
  have hfd := isC_fields (c := ⟨kd, us, ps, bx, to, ui, md, fl, dt, bo⟩)
  unfold chv
  simp only at hU hn hfd ⊢
  obtain ⟨q, hq⟩ : ∃ q, isC ⟨kd, us, ps, bx, to, ui, md, fl, dt, bo⟩ = q := ⟨_, rfl⟩
  rw [hq] at hfd ⊢
  have hk1 : kd < 1 ∨ 8 < kd → q = false := fun h => by
    rw [← hq]
    unfold isC
    by_cases h1 : 1 ≤ kd
    · simp [show ¬ kd ≤ 8 by omega]
    · simp [h1]
  have cU := fun (W : World) => Name_any us W
  have cB := fun (W : World) => Name_any bx W
  have cT := fun (W : World) => Name_any to W
  have cP := fun (W : World) => mayPass_any ps W
  have c1 := fun (W : World) => upTo_any md 2 W
  have c2 := fun (W : World) => upTo_any fl 31 W
  have c3 := fun (W : World) => upTo_any dt 1073741824 W
  have cui := fun (W : World) (o : Only [] w W) => mayUIDs_any (c := ca) (hU.keep o) hn
  have hpe := st_empty ps
  have hbe := st_empty bx
  have hte := st_empty to
  obtain ⟨b1, h1⟩ : ∃ b, nameL us = b := ⟨_, rfl⟩
  obtain ⟨bb, h2⟩ : ∃ b, nameL bx = b := ⟨_, rfl⟩
  obtain ⟨bt, h3⟩ : ∃ b, nameL to = b := ⟨_, rfl⟩
  obtain ⟨bp, h4⟩ : ∃ b, passOk ps = b := ⟨_, rfl⟩
  obtain ⟨bu, h5⟩ : ∃ b, uidsOk ui = b := ⟨_, rfl⟩
  obtain ⟨bm, h6⟩ : ∃ b, inR md 0 2 = b := ⟨_, rfl⟩
  obtain ⟨bf, h7⟩ : ∃ b, inR fl 0 31 = b := ⟨_, rfl⟩
  obtain ⟨bd, h8⟩ : ∃ b, inR dt 0 1073741824 = b := ⟨_, rfl⟩
  obtain ⟨pe, h9⟩ : ∃ b, decide (ps = []) = b := ⟨_, rfl⟩
  obtain ⟨be, h10⟩ : ∃ b, decide (bx = []) = b := ⟨_, rfl⟩
  obtain ⟨te, h11⟩ : ∃ b, decide (to = []) = b := ⟨_, rfl⟩
  obtain ⟨u0, h12⟩ : ∃ b, ((ui.length : Int) == 0) = b := ⟨_, rfl⟩
  obtain ⟨yl, h13⟩ : ∃ b, decide ((bo.length : Int) ≤ 1200) = b := ⟨_, rfl⟩
  obtain ⟨m0, h14⟩ : ∃ b, (md == 0) = b := ⟨_, rfl⟩
  obtain ⟨f0, h15⟩ : ∃ b, (fl == 0) = b := ⟨_, rfl⟩
  obtain ⟨d0, h16⟩ : ∃ b, (dt == 0) = b := ⟨_, rfl⟩
  obtain ⟨y0, h17⟩ : ∃ b, ((bo.length : Int) == 0) = b := ⟨_, rfl⟩
  obtain ⟨zf, hzf⟩ : ∃ z : Nat → Bool, (fun k => match k with | 0 => pe | 1 => be | 2 => te | 3 => u0 | 4 => m0 | 5 => f0 | 6 => d0 | _ => y0) = z := ⟨_, rfl⟩
  obtain ⟨mf, hmf⟩ : ∃ m : Nat → Bool, (fun k => match k with | 0 => bp | 1 => bb | 2 => bt | 3 => bu | 4 => bm | 5 => bf | 6 => bd | _ => yl) = m := ⟨_, rfl⟩
  have hgz : ∀ k, k < 8 → zeroF ⟨kd, us, ps, bx, to, ui, md, fl, dt, bo⟩ k = zf k := fun k hk => by
    rw [← hzf]
    have e1 : decide (ui = []) = ((ui.length : Int) == 0) := by cases ui <;> simp; omega
    have e3 : decide (bo = []) = ((bo.length : Int) == 0) := by cases bo <;> simp; omega
    have e4 : ∀ z : Int, decide (z = 0) = (z == 0) := fun z => by by_cases h : z = 0 <;> simp [h]
    rcases (by omega : k = 0 ∨ k = 1 ∨ k = 2 ∨ k = 3 ∨ k = 4 ∨ k = 5 ∨ k = 6 ∨ k = 7) with rfl | rfl | rfl | rfl | rfl | rfl | rfl | rfl
    · exact h9
    · exact h10
    · exact h11
    · exact e1.trans h12
    · exact (e4 md).trans h14
    · exact (e4 fl).trans h15
    · exact (e4 dt).trans h16
    · exact e3.trans h17
  have hgm : ∀ k, k < 8 → mayF ⟨kd, us, ps, bx, to, ui, md, fl, dt, bo⟩ k = mf k := fun k hk => by
    rw [← hmf]
    have e2 : decide (bo.length ≤ 1200) = decide ((bo.length : Int) ≤ 1200) := by by_cases h : bo.length ≤ 1200 <;> simp [h] <;> omega
    rcases (by omega : k = 0 ∨ k = 1 ∨ k = 2 ∨ k = 3 ∨ k = 4 ∨ k = 5 ∨ k = 6 ∨ k = 7) with rfl | rfl | rfl | rfl | rfl | rfl | rfl | rfl
    · exact h4
    · exact h2
    · exact h3
    · exact h5
    · exact h6
    · exact h7
    · exact h8
    · exact e2.trans h13
  have HFD : Hid (1 ≤ kd → kd ≤ 8 → q = (b1 && ((if namedB kd.toNat 0 then mf 0 else zf 0) && (if namedB kd.toNat 1 then mf 1 else zf 1) && (if namedB kd.toNat 2 then mf 2 else zf 2) && (if namedB kd.toNat 3 then mf 3 else zf 3) && (if namedB kd.toNat 4 then mf 4 else zf 4) && (if namedB kd.toNat 5 then mf 5 else zf 5) && (if namedB kd.toNat 6 then mf 6 else zf 6) && (if namedB kd.toNat 7 then mf 7 else zf 7)))) := fun a b => by
    rw [hfd a b, h1]
    unfold goodF
    rw [hgz 0 (by omega), hgz 1 (by omega), hgz 2 (by omega), hgz 3 (by omega), hgz 4 (by omega), hgz 5 (by omega), hgz 6 (by omega), hgz 7 (by omega), hgm 0 (by omega), hgm 1 (by omega), hgm 2 (by omega), hgm 3 (by omega), hgm 4 (by omega), hgm 5 (by omega), hgm 6 (by omega), hgm 7 (by omega)]
  have hvf : fieldsV zf mf = .agg #[.int .i64 1, .bool pe, .bool bp, .int .i64 2, .bool be, .bool bb, .int .i64 4, .bool te, .bool bt, .int .i64 8, .bool u0, .bool bu, .int .i64 16, .bool m0, .bool bm, .int .i64 32, .bool f0, .bool bf, .int .i64 64, .bool d0, .bool bd, .int .i64 128, .bool y0, .bool yl] := by rw [← hzf, ← hmf]; rfl
  rw [h9] at hpe
  rw [h10] at hbe
  rw [h11] at hte
  rw [h1] at cU
  rw [h2] at cB
  rw [h3] at cT
  rw [h4] at cP
  rw [h5] at cui
  rw [h6] at c1
  rw [h7] at c2
  rw [h8] at c3
  have hO1 : Only [] w (w.alloc (.cells #[.int .i64 kd, .string (St us), .string (St ps), .string (St bx), .string (St to), .slice A ui.length ca, .int .i64 md, .int .i64 fl, .int .i64 dt, .slice B bo.length cb] 29)) := (Only.refl _ _).alloc _
  generalize St us = tu at *
  generalize St ps = tp at *
  generalize St bx = tb at *
  generalize St to = tt at *
  generalize ui.length = nu at *
  generalize bo.length = nb at *
  have HO := Lib.hid hO1
  have HUI := Lib.hid cui
  have HNU := Lib.hid cU
  have HNB := Lib.hid cB
  have HNT := Lib.hid cT
  have HPA := Lib.hid cP
  have HI1 := Lib.hid c1
  have HI2 := Lib.hid c2
  have HI3 := Lib.hid c3
  have HPE := Lib.hid hpe
  have HBE := Lib.hid hbe
  have HTE := Lib.hid hte
  have HU0 := Lib.hid h12
  have HM0 := Lib.hid h14
  have HF0 := Lib.hid h15
  have HD0 := Lib.hid h16
  have HY0 := Lib.hid h17
  have HYL := Lib.hid h13
  have HK1 := Lib.hid hk1
  have HVF := Lib.hid hvf
  have HTT := Lib.hid hT
  have HPOS := Lib.hid hpos
  have hB := Bk.new w 29 #[.int .i64 kd, .string tu, .string tp, .string tb, .string tt, .slice A nu ca, .int .i64 md, .int .i64 fl, .int .i64 dt, .slice B nb cb]
  have HBK := Lib.hid hB
  obtain ⟨m00, m1, m2, m3, m4, m5, m6, m7, m8, m9⟩ := bk_ten hB
  clear cU cB cT cP c1 c2 c3 cui hB hU hO1 h1 h2 h3 h4 h5 h6 h7 h8 h9 h10 h11 h12 h13 h14 h15 h16 h17 hq hfd hk1 hpe hbe hte hzf hmf hgz hgm hvf hT hpos hn
  go_enter Tryz.func58, Tryz.ntmps58
  by_cases hk1 : kd < 1
  · have HQ := Lib.hid (HK1.out (.inl hk1))
    go_wp2
    go_ret
    exact ⟨by rw [HQ.out]; rfl, HO.out⟩
  by_cases hk8 : 8 < kd
  · have HQ := Lib.hid (HK1.out (.inr hk8))
    go_wp2
    go_ret
    exact ⟨by rw [HQ.out]; rfl, HO.out⟩
  have HKD : Hid (q = _) := HFD.out (by omega) (by omega)
  cases b1
  · have HQ : Hid (q = false) := by show _ = _; rw [HKD.out]; rfl
    go_wp2_with (go_at_call 130; go_must (refine (HNU.out _).mono ?_); rintro e w2 ⟨rfl, O2⟩)
    go_ret
    exact ⟨by rw [HQ.out]; rfl, HO.out.then O2⟩
  go_wp2_with (first
    | (go_at_call 130; go_must (refine (HNU.out _).mono ?_); rintro e w2 ⟨rfl, O2⟩)
    | fail)
  have B2 := HBK.out.only O2 (by simp)
  have HW1 := Lib.hid (HO.out.then O2)
  have hz2 := B2.lt
  clear m00 m1 m2 m3 m4 m5 m6 m7 m8 m9 O2
  refine wp_region_det (Stays w2 w.heap.size 29 #[.int .i64 kd, .string tu, .string tp, .string tb, .string tt, .slice A nu ca, .int .i64 md, .int .i64 fl, .int .i64 dt, .slice B nb cb]) (by kernel_rfl) (by kernel_rfl) (Stays.start B2) ?_
  refine det_value ?v0 (by rfl) ?hy0 ?rest0
  case hy0 => intro wS hS; obtain ⟨m00, m1, m2, m3, m4, m5, m6, m7, m8, m9⟩ := bk_ten hS.2; have q1 := HPE.out; have q2 := HBE.out; have q3 := HTE.out; have q4 := HU0.out; have q5 := HM0.out; have q6 := HF0.out; have q7 := HD0.out; have q8 := HY0.out; have q9 := HYL.out; first | (go_simp; done) | (go_simp; with_reducible rfl)
  try simp only [Act.put, List.setIfInBounds_toArray, List.set_cons_zero, List.set_cons_succ]
  refine det_value ?v1 (by rfl) ?hy1 ?rest1
  case hy1 => intro wS hS; obtain ⟨m00, m1, m2, m3, m4, m5, m6, m7, m8, m9⟩ := bk_ten hS.2; have q1 := HPE.out; have q2 := HBE.out; have q3 := HTE.out; have q4 := HU0.out; have q5 := HM0.out; have q6 := HF0.out; have q7 := HD0.out; have q8 := HY0.out; have q9 := HYL.out; first | (go_simp; done) | (go_simp; with_reducible rfl)
  try simp only [Act.put, List.setIfInBounds_toArray, List.set_cons_zero, List.set_cons_succ]
  refine det_value ?v2 (by rfl) ?hy2 ?rest2
  case hy2 => intro wS hS; obtain ⟨m00, m1, m2, m3, m4, m5, m6, m7, m8, m9⟩ := bk_ten hS.2; have q1 := HPE.out; have q2 := HBE.out; have q3 := HTE.out; have q4 := HU0.out; have q5 := HM0.out; have q6 := HF0.out; have q7 := HD0.out; have q8 := HY0.out; have q9 := HYL.out; first | (go_simp; done) | (go_simp; with_reducible rfl)
  try simp only [Act.put, List.setIfInBounds_toArray, List.set_cons_zero, List.set_cons_succ]
  refine det_value ?v3 (by rfl) ?hy3 ?rest3
  case hy3 => intro wS hS; obtain ⟨m00, m1, m2, m3, m4, m5, m6, m7, m8, m9⟩ := bk_ten hS.2; have q1 := HPE.out; have q2 := HBE.out; have q3 := HTE.out; have q4 := HU0.out; have q5 := HM0.out; have q6 := HF0.out; have q7 := HD0.out; have q8 := HY0.out; have q9 := HYL.out; first | (go_simp; done) | (go_simp; with_reducible rfl)
  try simp only [Act.put, List.setIfInBounds_toArray, List.set_cons_zero, List.set_cons_succ]
  refine det_value ?v4 (by rfl) ?hy4 ?rest4
  case hy4 => intro wS hS; obtain ⟨m00, m1, m2, m3, m4, m5, m6, m7, m8, m9⟩ := bk_ten hS.2; have q1 := HPE.out; have q2 := HBE.out; have q3 := HTE.out; have q4 := HU0.out; have q5 := HM0.out; have q6 := HF0.out; have q7 := HD0.out; have q8 := HY0.out; have q9 := HYL.out; first | (go_simp; done) | (go_simp; with_reducible rfl)
  try simp only [Act.put, List.setIfInBounds_toArray, List.set_cons_zero, List.set_cons_succ]
  refine det_call (.bool bp) 131 #[.string tp] (by rfl) ?run5 ?call5 ?rest5
  case run5 => intro wS; go_simp
  case call5 => intro wS hS; obtain ⟨m00, m1, m2, m3, m4, m5, m6, m7, m8, m9⟩ := bk_ten hS.2; have q1 := HPE.out; have q2 := HBE.out; have q3 := HTE.out; have q4 := HU0.out; have q5 := HM0.out; have q6 := HF0.out; have q7 := HD0.out; have q8 := HY0.out; have q9 := HYL.out; exact det_only (fun _ h => hS.only h) (HPA.out wS)
  try simp only [Act.put, List.setIfInBounds_toArray, List.set_cons_zero, List.set_cons_succ]
  refine det_value ?v6 (by rfl) ?hy6 ?rest6
  case hy6 => intro wS hS; obtain ⟨m00, m1, m2, m3, m4, m5, m6, m7, m8, m9⟩ := bk_ten hS.2; have q1 := HPE.out; have q2 := HBE.out; have q3 := HTE.out; have q4 := HU0.out; have q5 := HM0.out; have q6 := HF0.out; have q7 := HD0.out; have q8 := HY0.out; have q9 := HYL.out; first | (go_simp; done) | (go_simp; with_reducible rfl)
  try simp only [Act.put, List.setIfInBounds_toArray, List.set_cons_zero, List.set_cons_succ]
  refine det_value ?v7 (by rfl) ?hy7 ?rest7
  case hy7 => intro wS hS; obtain ⟨m00, m1, m2, m3, m4, m5, m6, m7, m8, m9⟩ := bk_ten hS.2; have q1 := HPE.out; have q2 := HBE.out; have q3 := HTE.out; have q4 := HU0.out; have q5 := HM0.out; have q6 := HF0.out; have q7 := HD0.out; have q8 := HY0.out; have q9 := HYL.out; first | (go_simp; done) | (go_simp; with_reducible rfl)
  try simp only [Act.put, List.setIfInBounds_toArray, List.set_cons_zero, List.set_cons_succ]
  refine det_value ?v8 (by rfl) ?hy8 ?rest8
  case hy8 => intro wS hS; obtain ⟨m00, m1, m2, m3, m4, m5, m6, m7, m8, m9⟩ := bk_ten hS.2; have q1 := HPE.out; have q2 := HBE.out; have q3 := HTE.out; have q4 := HU0.out; have q5 := HM0.out; have q6 := HF0.out; have q7 := HD0.out; have q8 := HY0.out; have q9 := HYL.out; first | (go_simp; done) | (go_simp; with_reducible rfl)
  try simp only [Act.put, List.setIfInBounds_toArray, List.set_cons_zero, List.set_cons_succ]
  refine det_value ?v9 (by rfl) ?hy9 ?rest9
  case hy9 => intro wS hS; obtain ⟨m00, m1, m2, m3, m4, m5, m6, m7, m8, m9⟩ := bk_ten hS.2; have q1 := HPE.out; have q2 := HBE.out; have q3 := HTE.out; have q4 := HU0.out; have q5 := HM0.out; have q6 := HF0.out; have q7 := HD0.out; have q8 := HY0.out; have q9 := HYL.out; first | (go_simp; done) | (go_simp; with_reducible rfl)
  try simp only [Act.put, List.setIfInBounds_toArray, List.set_cons_zero, List.set_cons_succ]
  refine det_value ?v10 (by rfl) ?hy10 ?rest10
  case hy10 => intro wS hS; obtain ⟨m00, m1, m2, m3, m4, m5, m6, m7, m8, m9⟩ := bk_ten hS.2; have q1 := HPE.out; have q2 := HBE.out; have q3 := HTE.out; have q4 := HU0.out; have q5 := HM0.out; have q6 := HF0.out; have q7 := HD0.out; have q8 := HY0.out; have q9 := HYL.out; first | (go_simp; done) | (go_simp; with_reducible rfl)
  try simp only [Act.put, List.setIfInBounds_toArray, List.set_cons_zero, List.set_cons_succ]
  refine det_value ?v11 (by rfl) ?hy11 ?rest11
  case hy11 => intro wS hS; obtain ⟨m00, m1, m2, m3, m4, m5, m6, m7, m8, m9⟩ := bk_ten hS.2; have q1 := HPE.out; have q2 := HBE.out; have q3 := HTE.out; have q4 := HU0.out; have q5 := HM0.out; have q6 := HF0.out; have q7 := HD0.out; have q8 := HY0.out; have q9 := HYL.out; first | (go_simp; done) | (go_simp; with_reducible rfl)
  try simp only [Act.put, List.setIfInBounds_toArray, List.set_cons_zero, List.set_cons_succ]
  refine det_call (.bool bb) 130 #[.string tb] (by rfl) ?run12 ?call12 ?rest12
  case run12 => intro wS; go_simp
  case call12 => intro wS hS; obtain ⟨m00, m1, m2, m3, m4, m5, m6, m7, m8, m9⟩ := bk_ten hS.2; have q1 := HPE.out; have q2 := HBE.out; have q3 := HTE.out; have q4 := HU0.out; have q5 := HM0.out; have q6 := HF0.out; have q7 := HD0.out; have q8 := HY0.out; have q9 := HYL.out; exact det_only (fun _ h => hS.only h) (HNB.out wS)
  try simp only [Act.put, List.setIfInBounds_toArray, List.set_cons_zero, List.set_cons_succ]
  refine det_value ?v13 (by rfl) ?hy13 ?rest13
  case hy13 => intro wS hS; obtain ⟨m00, m1, m2, m3, m4, m5, m6, m7, m8, m9⟩ := bk_ten hS.2; have q1 := HPE.out; have q2 := HBE.out; have q3 := HTE.out; have q4 := HU0.out; have q5 := HM0.out; have q6 := HF0.out; have q7 := HD0.out; have q8 := HY0.out; have q9 := HYL.out; first | (go_simp; done) | (go_simp; with_reducible rfl)
  try simp only [Act.put, List.setIfInBounds_toArray, List.set_cons_zero, List.set_cons_succ]
  refine det_value ?v14 (by rfl) ?hy14 ?rest14
  case hy14 => intro wS hS; obtain ⟨m00, m1, m2, m3, m4, m5, m6, m7, m8, m9⟩ := bk_ten hS.2; have q1 := HPE.out; have q2 := HBE.out; have q3 := HTE.out; have q4 := HU0.out; have q5 := HM0.out; have q6 := HF0.out; have q7 := HD0.out; have q8 := HY0.out; have q9 := HYL.out; first | (go_simp; done) | (go_simp; with_reducible rfl)
  try simp only [Act.put, List.setIfInBounds_toArray, List.set_cons_zero, List.set_cons_succ]
  refine det_value ?v15 (by rfl) ?hy15 ?rest15
  case hy15 => intro wS hS; obtain ⟨m00, m1, m2, m3, m4, m5, m6, m7, m8, m9⟩ := bk_ten hS.2; have q1 := HPE.out; have q2 := HBE.out; have q3 := HTE.out; have q4 := HU0.out; have q5 := HM0.out; have q6 := HF0.out; have q7 := HD0.out; have q8 := HY0.out; have q9 := HYL.out; first | (go_simp; done) | (go_simp; with_reducible rfl)
  try simp only [Act.put, List.setIfInBounds_toArray, List.set_cons_zero, List.set_cons_succ]
  refine det_value ?v16 (by rfl) ?hy16 ?rest16
  case hy16 => intro wS hS; obtain ⟨m00, m1, m2, m3, m4, m5, m6, m7, m8, m9⟩ := bk_ten hS.2; have q1 := HPE.out; have q2 := HBE.out; have q3 := HTE.out; have q4 := HU0.out; have q5 := HM0.out; have q6 := HF0.out; have q7 := HD0.out; have q8 := HY0.out; have q9 := HYL.out; first | (go_simp; done) | (go_simp; with_reducible rfl)
  try simp only [Act.put, List.setIfInBounds_toArray, List.set_cons_zero, List.set_cons_succ]
  refine det_value ?v17 (by rfl) ?hy17 ?rest17
  case hy17 => intro wS hS; obtain ⟨m00, m1, m2, m3, m4, m5, m6, m7, m8, m9⟩ := bk_ten hS.2; have q1 := HPE.out; have q2 := HBE.out; have q3 := HTE.out; have q4 := HU0.out; have q5 := HM0.out; have q6 := HF0.out; have q7 := HD0.out; have q8 := HY0.out; have q9 := HYL.out; first | (go_simp; done) | (go_simp; with_reducible rfl)
  try simp only [Act.put, List.setIfInBounds_toArray, List.set_cons_zero, List.set_cons_succ]
  refine det_value ?v18 (by rfl) ?hy18 ?rest18
  case hy18 => intro wS hS; obtain ⟨m00, m1, m2, m3, m4, m5, m6, m7, m8, m9⟩ := bk_ten hS.2; have q1 := HPE.out; have q2 := HBE.out; have q3 := HTE.out; have q4 := HU0.out; have q5 := HM0.out; have q6 := HF0.out; have q7 := HD0.out; have q8 := HY0.out; have q9 := HYL.out; first | (go_simp; done) | (go_simp; with_reducible rfl)
  try simp only [Act.put, List.setIfInBounds_toArray, List.set_cons_zero, List.set_cons_succ]
  refine det_call (.bool bt) 130 #[.string tt] (by rfl) ?run19 ?call19 ?rest19
  case run19 => intro wS; go_simp
  case call19 => intro wS hS; obtain ⟨m00, m1, m2, m3, m4, m5, m6, m7, m8, m9⟩ := bk_ten hS.2; have q1 := HPE.out; have q2 := HBE.out; have q3 := HTE.out; have q4 := HU0.out; have q5 := HM0.out; have q6 := HF0.out; have q7 := HD0.out; have q8 := HY0.out; have q9 := HYL.out; exact det_only (fun _ h => hS.only h) (HNT.out wS)
  try simp only [Act.put, List.setIfInBounds_toArray, List.set_cons_zero, List.set_cons_succ]
  refine det_value ?v20 (by rfl) ?hy20 ?rest20
  case hy20 => intro wS hS; obtain ⟨m00, m1, m2, m3, m4, m5, m6, m7, m8, m9⟩ := bk_ten hS.2; have q1 := HPE.out; have q2 := HBE.out; have q3 := HTE.out; have q4 := HU0.out; have q5 := HM0.out; have q6 := HF0.out; have q7 := HD0.out; have q8 := HY0.out; have q9 := HYL.out; first | (go_simp; done) | (go_simp; with_reducible rfl)
  try simp only [Act.put, List.setIfInBounds_toArray, List.set_cons_zero, List.set_cons_succ]
  refine det_value ?v21 (by rfl) ?hy21 ?rest21
  case hy21 => intro wS hS; obtain ⟨m00, m1, m2, m3, m4, m5, m6, m7, m8, m9⟩ := bk_ten hS.2; have q1 := HPE.out; have q2 := HBE.out; have q3 := HTE.out; have q4 := HU0.out; have q5 := HM0.out; have q6 := HF0.out; have q7 := HD0.out; have q8 := HY0.out; have q9 := HYL.out; first | (go_simp; done) | (go_simp; with_reducible rfl)
  try simp only [Act.put, List.setIfInBounds_toArray, List.set_cons_zero, List.set_cons_succ]
  refine det_value ?v22 (by rfl) ?hy22 ?rest22
  case hy22 => intro wS hS; obtain ⟨m00, m1, m2, m3, m4, m5, m6, m7, m8, m9⟩ := bk_ten hS.2; have q1 := HPE.out; have q2 := HBE.out; have q3 := HTE.out; have q4 := HU0.out; have q5 := HM0.out; have q6 := HF0.out; have q7 := HD0.out; have q8 := HY0.out; have q9 := HYL.out; first | (go_simp; done) | (go_simp; with_reducible rfl)
  try simp only [Act.put, List.setIfInBounds_toArray, List.set_cons_zero, List.set_cons_succ]
  refine det_value ?v23 (by rfl) ?hy23 ?rest23
  case hy23 => intro wS hS; obtain ⟨m00, m1, m2, m3, m4, m5, m6, m7, m8, m9⟩ := bk_ten hS.2; have q1 := HPE.out; have q2 := HBE.out; have q3 := HTE.out; have q4 := HU0.out; have q5 := HM0.out; have q6 := HF0.out; have q7 := HD0.out; have q8 := HY0.out; have q9 := HYL.out; first | (go_simp; done) | (go_simp; with_reducible rfl)
  try simp only [Act.put, List.setIfInBounds_toArray, List.set_cons_zero, List.set_cons_succ]
  refine det_value ?v24 (by rfl) ?hy24 ?rest24
  case hy24 => intro wS hS; obtain ⟨m00, m1, m2, m3, m4, m5, m6, m7, m8, m9⟩ := bk_ten hS.2; have q1 := HPE.out; have q2 := HBE.out; have q3 := HTE.out; have q4 := HU0.out; have q5 := HM0.out; have q6 := HF0.out; have q7 := HD0.out; have q8 := HY0.out; have q9 := HYL.out; first | (go_simp; done) | (go_simp; with_reducible rfl)
  try simp only [Act.put, List.setIfInBounds_toArray, List.set_cons_zero, List.set_cons_succ]
  refine det_value ?v25 (by rfl) ?hy25 ?rest25
  case hy25 => intro wS hS; obtain ⟨m00, m1, m2, m3, m4, m5, m6, m7, m8, m9⟩ := bk_ten hS.2; have q1 := HPE.out; have q2 := HBE.out; have q3 := HTE.out; have q4 := HU0.out; have q5 := HM0.out; have q6 := HF0.out; have q7 := HD0.out; have q8 := HY0.out; have q9 := HYL.out; first | (go_simp; done) | (go_simp; with_reducible rfl)
  try simp only [Act.put, List.setIfInBounds_toArray, List.set_cons_zero, List.set_cons_succ]
  refine det_value ?v26 (by rfl) ?hy26 ?rest26
  case hy26 => intro wS hS; obtain ⟨m00, m1, m2, m3, m4, m5, m6, m7, m8, m9⟩ := bk_ten hS.2; have q1 := HPE.out; have q2 := HBE.out; have q3 := HTE.out; have q4 := HU0.out; have q5 := HM0.out; have q6 := HF0.out; have q7 := HD0.out; have q8 := HY0.out; have q9 := HYL.out; first | (go_simp; done) | (go_simp; with_reducible rfl)
  try simp only [Act.put, List.setIfInBounds_toArray, List.set_cons_zero, List.set_cons_succ]
  refine det_call (.bool bu) 132 #[.slice A nu ca] (by rfl) ?run27 ?call27 ?rest27
  case run27 => intro wS; go_simp
  case call27 => intro wS hS; obtain ⟨m00, m1, m2, m3, m4, m5, m6, m7, m8, m9⟩ := bk_ten hS.2; have q1 := HPE.out; have q2 := HBE.out; have q3 := HTE.out; have q4 := HU0.out; have q5 := HM0.out; have q6 := HF0.out; have q7 := HD0.out; have q8 := HY0.out; have q9 := HYL.out; exact det_same hS (HUI.out wS (HW1.out.then hS.1))
  try simp only [Act.put, List.setIfInBounds_toArray, List.set_cons_zero, List.set_cons_succ]
  refine det_value ?v28 (by rfl) ?hy28 ?rest28
  case hy28 => intro wS hS; obtain ⟨m00, m1, m2, m3, m4, m5, m6, m7, m8, m9⟩ := bk_ten hS.2; have q1 := HPE.out; have q2 := HBE.out; have q3 := HTE.out; have q4 := HU0.out; have q5 := HM0.out; have q6 := HF0.out; have q7 := HD0.out; have q8 := HY0.out; have q9 := HYL.out; first | (go_simp; done) | (go_simp; with_reducible rfl)
  try simp only [Act.put, List.setIfInBounds_toArray, List.set_cons_zero, List.set_cons_succ]
  refine det_value ?v29 (by rfl) ?hy29 ?rest29
  case hy29 => intro wS hS; obtain ⟨m00, m1, m2, m3, m4, m5, m6, m7, m8, m9⟩ := bk_ten hS.2; have q1 := HPE.out; have q2 := HBE.out; have q3 := HTE.out; have q4 := HU0.out; have q5 := HM0.out; have q6 := HF0.out; have q7 := HD0.out; have q8 := HY0.out; have q9 := HYL.out; first | (go_simp; done) | (go_simp; with_reducible rfl)
  try simp only [Act.put, List.setIfInBounds_toArray, List.set_cons_zero, List.set_cons_succ]
  refine det_value ?v30 (by rfl) ?hy30 ?rest30
  case hy30 => intro wS hS; obtain ⟨m00, m1, m2, m3, m4, m5, m6, m7, m8, m9⟩ := bk_ten hS.2; have q1 := HPE.out; have q2 := HBE.out; have q3 := HTE.out; have q4 := HU0.out; have q5 := HM0.out; have q6 := HF0.out; have q7 := HD0.out; have q8 := HY0.out; have q9 := HYL.out; first | (go_simp; done) | (go_simp; with_reducible rfl)
  try simp only [Act.put, List.setIfInBounds_toArray, List.set_cons_zero, List.set_cons_succ]
  refine det_value ?v31 (by rfl) ?hy31 ?rest31
  case hy31 => intro wS hS; obtain ⟨m00, m1, m2, m3, m4, m5, m6, m7, m8, m9⟩ := bk_ten hS.2; have q1 := HPE.out; have q2 := HBE.out; have q3 := HTE.out; have q4 := HU0.out; have q5 := HM0.out; have q6 := HF0.out; have q7 := HD0.out; have q8 := HY0.out; have q9 := HYL.out; first | (go_simp; done) | (go_simp; with_reducible rfl)
  try simp only [Act.put, List.setIfInBounds_toArray, List.set_cons_zero, List.set_cons_succ]
  refine det_value ?v32 (by rfl) ?hy32 ?rest32
  case hy32 => intro wS hS; obtain ⟨m00, m1, m2, m3, m4, m5, m6, m7, m8, m9⟩ := bk_ten hS.2; have q1 := HPE.out; have q2 := HBE.out; have q3 := HTE.out; have q4 := HU0.out; have q5 := HM0.out; have q6 := HF0.out; have q7 := HD0.out; have q8 := HY0.out; have q9 := HYL.out; first | (go_simp; done) | (go_simp; with_reducible rfl)
  try simp only [Act.put, List.setIfInBounds_toArray, List.set_cons_zero, List.set_cons_succ]
  refine det_value ?v33 (by rfl) ?hy33 ?rest33
  case hy33 => intro wS hS; obtain ⟨m00, m1, m2, m3, m4, m5, m6, m7, m8, m9⟩ := bk_ten hS.2; have q1 := HPE.out; have q2 := HBE.out; have q3 := HTE.out; have q4 := HU0.out; have q5 := HM0.out; have q6 := HF0.out; have q7 := HD0.out; have q8 := HY0.out; have q9 := HYL.out; first | (go_simp; done) | (go_simp; with_reducible rfl)
  try simp only [Act.put, List.setIfInBounds_toArray, List.set_cons_zero, List.set_cons_succ]
  refine det_call (.bool bm) 133 #[.int .i64 md, .int .i64 2] (by rfl) ?run34 ?call34 ?rest34
  case run34 => intro wS; go_simp
  case call34 => intro wS hS; obtain ⟨m00, m1, m2, m3, m4, m5, m6, m7, m8, m9⟩ := bk_ten hS.2; have q1 := HPE.out; have q2 := HBE.out; have q3 := HTE.out; have q4 := HU0.out; have q5 := HM0.out; have q6 := HF0.out; have q7 := HD0.out; have q8 := HY0.out; have q9 := HYL.out; exact det_same hS (HI1.out wS)
  try simp only [Act.put, List.setIfInBounds_toArray, List.set_cons_zero, List.set_cons_succ]
  refine det_value ?v35 (by rfl) ?hy35 ?rest35
  case hy35 => intro wS hS; obtain ⟨m00, m1, m2, m3, m4, m5, m6, m7, m8, m9⟩ := bk_ten hS.2; have q1 := HPE.out; have q2 := HBE.out; have q3 := HTE.out; have q4 := HU0.out; have q5 := HM0.out; have q6 := HF0.out; have q7 := HD0.out; have q8 := HY0.out; have q9 := HYL.out; first | (go_simp; done) | (go_simp; with_reducible rfl)
  try simp only [Act.put, List.setIfInBounds_toArray, List.set_cons_zero, List.set_cons_succ]
  refine det_value ?v36 (by rfl) ?hy36 ?rest36
  case hy36 => intro wS hS; obtain ⟨m00, m1, m2, m3, m4, m5, m6, m7, m8, m9⟩ := bk_ten hS.2; have q1 := HPE.out; have q2 := HBE.out; have q3 := HTE.out; have q4 := HU0.out; have q5 := HM0.out; have q6 := HF0.out; have q7 := HD0.out; have q8 := HY0.out; have q9 := HYL.out; first | (go_simp; done) | (go_simp; with_reducible rfl)
  try simp only [Act.put, List.setIfInBounds_toArray, List.set_cons_zero, List.set_cons_succ]
  refine det_value ?v37 (by rfl) ?hy37 ?rest37
  case hy37 => intro wS hS; obtain ⟨m00, m1, m2, m3, m4, m5, m6, m7, m8, m9⟩ := bk_ten hS.2; have q1 := HPE.out; have q2 := HBE.out; have q3 := HTE.out; have q4 := HU0.out; have q5 := HM0.out; have q6 := HF0.out; have q7 := HD0.out; have q8 := HY0.out; have q9 := HYL.out; first | (go_simp; done) | (go_simp; with_reducible rfl)
  try simp only [Act.put, List.setIfInBounds_toArray, List.set_cons_zero, List.set_cons_succ]
  refine det_value ?v38 (by rfl) ?hy38 ?rest38
  case hy38 => intro wS hS; obtain ⟨m00, m1, m2, m3, m4, m5, m6, m7, m8, m9⟩ := bk_ten hS.2; have q1 := HPE.out; have q2 := HBE.out; have q3 := HTE.out; have q4 := HU0.out; have q5 := HM0.out; have q6 := HF0.out; have q7 := HD0.out; have q8 := HY0.out; have q9 := HYL.out; first | (go_simp; done) | (go_simp; with_reducible rfl)
  try simp only [Act.put, List.setIfInBounds_toArray, List.set_cons_zero, List.set_cons_succ]
  refine det_value ?v39 (by rfl) ?hy39 ?rest39
  case hy39 => intro wS hS; obtain ⟨m00, m1, m2, m3, m4, m5, m6, m7, m8, m9⟩ := bk_ten hS.2; have q1 := HPE.out; have q2 := HBE.out; have q3 := HTE.out; have q4 := HU0.out; have q5 := HM0.out; have q6 := HF0.out; have q7 := HD0.out; have q8 := HY0.out; have q9 := HYL.out; first | (go_simp; done) | (go_simp; with_reducible rfl)
  try simp only [Act.put, List.setIfInBounds_toArray, List.set_cons_zero, List.set_cons_succ]
  refine det_value ?v40 (by rfl) ?hy40 ?rest40
  case hy40 => intro wS hS; obtain ⟨m00, m1, m2, m3, m4, m5, m6, m7, m8, m9⟩ := bk_ten hS.2; have q1 := HPE.out; have q2 := HBE.out; have q3 := HTE.out; have q4 := HU0.out; have q5 := HM0.out; have q6 := HF0.out; have q7 := HD0.out; have q8 := HY0.out; have q9 := HYL.out; first | (go_simp; done) | (go_simp; with_reducible rfl)
  try simp only [Act.put, List.setIfInBounds_toArray, List.set_cons_zero, List.set_cons_succ]
  refine det_call (.bool bf) 133 #[.int .i64 fl, .int .i64 31] (by rfl) ?run41 ?call41 ?rest41
  case run41 => intro wS; go_simp
  case call41 => intro wS hS; obtain ⟨m00, m1, m2, m3, m4, m5, m6, m7, m8, m9⟩ := bk_ten hS.2; have q1 := HPE.out; have q2 := HBE.out; have q3 := HTE.out; have q4 := HU0.out; have q5 := HM0.out; have q6 := HF0.out; have q7 := HD0.out; have q8 := HY0.out; have q9 := HYL.out; exact det_same hS (HI2.out wS)
  try simp only [Act.put, List.setIfInBounds_toArray, List.set_cons_zero, List.set_cons_succ]
  refine det_value ?v42 (by rfl) ?hy42 ?rest42
  case hy42 => intro wS hS; obtain ⟨m00, m1, m2, m3, m4, m5, m6, m7, m8, m9⟩ := bk_ten hS.2; have q1 := HPE.out; have q2 := HBE.out; have q3 := HTE.out; have q4 := HU0.out; have q5 := HM0.out; have q6 := HF0.out; have q7 := HD0.out; have q8 := HY0.out; have q9 := HYL.out; first | (go_simp; done) | (go_simp; with_reducible rfl)
  try simp only [Act.put, List.setIfInBounds_toArray, List.set_cons_zero, List.set_cons_succ]
  refine det_value ?v43 (by rfl) ?hy43 ?rest43
  case hy43 => intro wS hS; obtain ⟨m00, m1, m2, m3, m4, m5, m6, m7, m8, m9⟩ := bk_ten hS.2; have q1 := HPE.out; have q2 := HBE.out; have q3 := HTE.out; have q4 := HU0.out; have q5 := HM0.out; have q6 := HF0.out; have q7 := HD0.out; have q8 := HY0.out; have q9 := HYL.out; first | (go_simp; done) | (go_simp; with_reducible rfl)
  try simp only [Act.put, List.setIfInBounds_toArray, List.set_cons_zero, List.set_cons_succ]
  refine det_value ?v44 (by rfl) ?hy44 ?rest44
  case hy44 => intro wS hS; obtain ⟨m00, m1, m2, m3, m4, m5, m6, m7, m8, m9⟩ := bk_ten hS.2; have q1 := HPE.out; have q2 := HBE.out; have q3 := HTE.out; have q4 := HU0.out; have q5 := HM0.out; have q6 := HF0.out; have q7 := HD0.out; have q8 := HY0.out; have q9 := HYL.out; first | (go_simp; done) | (go_simp; with_reducible rfl)
  try simp only [Act.put, List.setIfInBounds_toArray, List.set_cons_zero, List.set_cons_succ]
  refine det_value ?v45 (by rfl) ?hy45 ?rest45
  case hy45 => intro wS hS; obtain ⟨m00, m1, m2, m3, m4, m5, m6, m7, m8, m9⟩ := bk_ten hS.2; have q1 := HPE.out; have q2 := HBE.out; have q3 := HTE.out; have q4 := HU0.out; have q5 := HM0.out; have q6 := HF0.out; have q7 := HD0.out; have q8 := HY0.out; have q9 := HYL.out; first | (go_simp; done) | (go_simp; with_reducible rfl)
  try simp only [Act.put, List.setIfInBounds_toArray, List.set_cons_zero, List.set_cons_succ]
  refine det_value ?v46 (by rfl) ?hy46 ?rest46
  case hy46 => intro wS hS; obtain ⟨m00, m1, m2, m3, m4, m5, m6, m7, m8, m9⟩ := bk_ten hS.2; have q1 := HPE.out; have q2 := HBE.out; have q3 := HTE.out; have q4 := HU0.out; have q5 := HM0.out; have q6 := HF0.out; have q7 := HD0.out; have q8 := HY0.out; have q9 := HYL.out; first | (go_simp; done) | (go_simp; with_reducible rfl)
  try simp only [Act.put, List.setIfInBounds_toArray, List.set_cons_zero, List.set_cons_succ]
  refine det_value ?v47 (by rfl) ?hy47 ?rest47
  case hy47 => intro wS hS; obtain ⟨m00, m1, m2, m3, m4, m5, m6, m7, m8, m9⟩ := bk_ten hS.2; have q1 := HPE.out; have q2 := HBE.out; have q3 := HTE.out; have q4 := HU0.out; have q5 := HM0.out; have q6 := HF0.out; have q7 := HD0.out; have q8 := HY0.out; have q9 := HYL.out; first | (go_simp; done) | (go_simp; with_reducible rfl)
  try simp only [Act.put, List.setIfInBounds_toArray, List.set_cons_zero, List.set_cons_succ]
  refine det_call (.bool bd) 133 #[.int .i64 dt, .int .i64 1073741824] (by rfl) ?run48 ?call48 ?rest48
  case run48 => intro wS; go_simp
  case call48 => intro wS hS; obtain ⟨m00, m1, m2, m3, m4, m5, m6, m7, m8, m9⟩ := bk_ten hS.2; have q1 := HPE.out; have q2 := HBE.out; have q3 := HTE.out; have q4 := HU0.out; have q5 := HM0.out; have q6 := HF0.out; have q7 := HD0.out; have q8 := HY0.out; have q9 := HYL.out; exact det_same hS (HI3.out wS)
  try simp only [Act.put, List.setIfInBounds_toArray, List.set_cons_zero, List.set_cons_succ]
  refine det_value ?v49 (by rfl) ?hy49 ?rest49
  case hy49 => intro wS hS; obtain ⟨m00, m1, m2, m3, m4, m5, m6, m7, m8, m9⟩ := bk_ten hS.2; have q1 := HPE.out; have q2 := HBE.out; have q3 := HTE.out; have q4 := HU0.out; have q5 := HM0.out; have q6 := HF0.out; have q7 := HD0.out; have q8 := HY0.out; have q9 := HYL.out; first | (go_simp; done) | (go_simp; with_reducible rfl)
  try simp only [Act.put, List.setIfInBounds_toArray, List.set_cons_zero, List.set_cons_succ]
  refine det_value ?v50 (by rfl) ?hy50 ?rest50
  case hy50 => intro wS hS; obtain ⟨m00, m1, m2, m3, m4, m5, m6, m7, m8, m9⟩ := bk_ten hS.2; have q1 := HPE.out; have q2 := HBE.out; have q3 := HTE.out; have q4 := HU0.out; have q5 := HM0.out; have q6 := HF0.out; have q7 := HD0.out; have q8 := HY0.out; have q9 := HYL.out; first | (go_simp; done) | (go_simp; with_reducible rfl)
  try simp only [Act.put, List.setIfInBounds_toArray, List.set_cons_zero, List.set_cons_succ]
  refine det_value ?v51 (by rfl) ?hy51 ?rest51
  case hy51 => intro wS hS; obtain ⟨m00, m1, m2, m3, m4, m5, m6, m7, m8, m9⟩ := bk_ten hS.2; have q1 := HPE.out; have q2 := HBE.out; have q3 := HTE.out; have q4 := HU0.out; have q5 := HM0.out; have q6 := HF0.out; have q7 := HD0.out; have q8 := HY0.out; have q9 := HYL.out; first | (go_simp; done) | (go_simp; with_reducible rfl)
  try simp only [Act.put, List.setIfInBounds_toArray, List.set_cons_zero, List.set_cons_succ]
  refine det_value ?v52 (by rfl) ?hy52 ?rest52
  case hy52 => intro wS hS; obtain ⟨m00, m1, m2, m3, m4, m5, m6, m7, m8, m9⟩ := bk_ten hS.2; have q1 := HPE.out; have q2 := HBE.out; have q3 := HTE.out; have q4 := HU0.out; have q5 := HM0.out; have q6 := HF0.out; have q7 := HD0.out; have q8 := HY0.out; have q9 := HYL.out; first | (go_simp; done) | (go_simp; with_reducible rfl)
  try simp only [Act.put, List.setIfInBounds_toArray, List.set_cons_zero, List.set_cons_succ]
  refine det_value ?v53 (by rfl) ?hy53 ?rest53
  case hy53 => intro wS hS; obtain ⟨m00, m1, m2, m3, m4, m5, m6, m7, m8, m9⟩ := bk_ten hS.2; have q1 := HPE.out; have q2 := HBE.out; have q3 := HTE.out; have q4 := HU0.out; have q5 := HM0.out; have q6 := HF0.out; have q7 := HD0.out; have q8 := HY0.out; have q9 := HYL.out; first | (go_simp; done) | (go_simp; with_reducible rfl)
  try simp only [Act.put, List.setIfInBounds_toArray, List.set_cons_zero, List.set_cons_succ]
  refine det_value ?v54 (by rfl) ?hy54 ?rest54
  case hy54 => intro wS hS; obtain ⟨m00, m1, m2, m3, m4, m5, m6, m7, m8, m9⟩ := bk_ten hS.2; have q1 := HPE.out; have q2 := HBE.out; have q3 := HTE.out; have q4 := HU0.out; have q5 := HM0.out; have q6 := HF0.out; have q7 := HD0.out; have q8 := HY0.out; have q9 := HYL.out; first | (go_simp; done) | (go_simp; with_reducible rfl)
  try simp only [Act.put, List.setIfInBounds_toArray, List.set_cons_zero, List.set_cons_succ]
  refine det_value ?v55 (by rfl) ?hy55 ?rest55
  case hy55 => intro wS hS; obtain ⟨m00, m1, m2, m3, m4, m5, m6, m7, m8, m9⟩ := bk_ten hS.2; have q1 := HPE.out; have q2 := HBE.out; have q3 := HTE.out; have q4 := HU0.out; have q5 := HM0.out; have q6 := HF0.out; have q7 := HD0.out; have q8 := HY0.out; have q9 := HYL.out; first | (go_simp; done) | (go_simp; with_reducible rfl)
  try simp only [Act.put, List.setIfInBounds_toArray, List.set_cons_zero, List.set_cons_succ]
  refine det_value ?v56 (by rfl) ?hy56 ?rest56
  case hy56 => intro wS hS; obtain ⟨m00, m1, m2, m3, m4, m5, m6, m7, m8, m9⟩ := bk_ten hS.2; have q1 := HPE.out; have q2 := HBE.out; have q3 := HTE.out; have q4 := HU0.out; have q5 := HM0.out; have q6 := HF0.out; have q7 := HD0.out; have q8 := HY0.out; have q9 := HYL.out; first | (go_simp; done) | (go_simp; with_reducible rfl)
  try simp only [Act.put, List.setIfInBounds_toArray, List.set_cons_zero, List.set_cons_succ]
  refine det_value ?v57 (by rfl) ?hy57 ?rest57
  case hy57 => intro wS hS; obtain ⟨m00, m1, m2, m3, m4, m5, m6, m7, m8, m9⟩ := bk_ten hS.2; have q1 := HPE.out; have q2 := HBE.out; have q3 := HTE.out; have q4 := HU0.out; have q5 := HM0.out; have q6 := HF0.out; have q7 := HD0.out; have q8 := HY0.out; have q9 := HYL.out; first | (go_simp; done) | (go_simp; with_reducible rfl)
  try simp only [Act.put, List.setIfInBounds_toArray, List.set_cons_zero, List.set_cons_succ]
  refine det_value ?v58 (by rfl) ?hy58 ?rest58
  case hy58 => intro wS hS; obtain ⟨m00, m1, m2, m3, m4, m5, m6, m7, m8, m9⟩ := bk_ten hS.2; have q1 := HPE.out; have q2 := HBE.out; have q3 := HTE.out; have q4 := HU0.out; have q5 := HM0.out; have q6 := HF0.out; have q7 := HD0.out; have q8 := HY0.out; have q9 := HYL.out; first | (go_simp; done) | (go_simp; with_reducible rfl)
  try simp only [Act.put, List.setIfInBounds_toArray, List.set_cons_zero, List.set_cons_succ]
  refine det_value ?v59 (by rfl) ?hy59 ?rest59
  case hy59 => intro wS hS; obtain ⟨m00, m1, m2, m3, m4, m5, m6, m7, m8, m9⟩ := bk_ten hS.2; have q1 := HPE.out; have q2 := HBE.out; have q3 := HTE.out; have q4 := HU0.out; have q5 := HM0.out; have q6 := HF0.out; have q7 := HD0.out; have q8 := HY0.out; have q9 := HYL.out; first | (go_simp; done) | (go_simp; with_reducible rfl)
  try simp only [Act.put, List.setIfInBounds_toArray, List.set_cons_zero, List.set_cons_succ]
  refine det_value ?v60 (by rfl) ?hy60 ?rest60
  case hy60 => intro wS hS; obtain ⟨m00, m1, m2, m3, m4, m5, m6, m7, m8, m9⟩ := bk_ten hS.2; have q1 := HPE.out; have q2 := HBE.out; have q3 := HTE.out; have q4 := HU0.out; have q5 := HM0.out; have q6 := HF0.out; have q7 := HD0.out; have q8 := HY0.out; have q9 := HYL.out; first | (go_simp; done) | (go_simp; with_reducible rfl)
  try simp only [Act.put, List.setIfInBounds_toArray, List.set_cons_zero, List.set_cons_succ]
  intro w3 hS
  rw [← HVF.out]
  have HS := Lib.hid hS
  clear hS B2
  go_wp2_with fail
  go_loopw [80] (fun iv wr => ∃ k : Nat, iv = .int .i64 (k : Int) ∧ k ≤ 8 ∧ Hid (∀ j, j < k → (if namedB kd.toNat j then mf j else zf j) = true) ∧ Hid (Only [] w wr) ∧ Hid (Bk wr w.heap.size 29 #[.int .i64 kd, .string tu, .string tp, .string tb, .string tt, .slice A nu ca, .int .i64 md, .int .i64 fl, .int .i64 dt, .slice B nb cb])) (fun iv _ => 8 - (intOf iv).toNat)
  case atStart => exact ⟨0, rfl, by omega, fun j hj => absurd hj (by omega), HW1.out.then HS.out.1, HS.out.2⟩
  case round =>
    obtain ⟨k, rfl, hk, HA, HOR, HBR⟩ := hrel
    by_cases hlt : k < 8
    · have hlt' : (k : Int) < 8 := by omega
      have hix := fields_at zf mf k hlt
      obtain ⟨kn, hkn⟩ : ∃ kn : Nat, kd = (kn : Int) := ⟨kd.toNat, by omega⟩
      have hna := named_and kn k (by omega) (by omega) hlt
      have hct := (HTT.out.keep HOR.out) kn (by omega)
      have e1 : kd.toNat = kn := by omega
      obtain ⟨z, hz⟩ : ∃ z, zf k = z := ⟨_, rfl⟩
      obtain ⟨m, hm⟩ : ∃ z, mf k = z := ⟨_, rfl⟩
      obtain ⟨nm, hnm⟩ : ∃ z, namedB kn k = z := ⟨_, rfl⟩
      obtain ⟨p2, hp2⟩ : ∃ p : Int, ((2 ^ k : Nat) : Int) = p := ⟨_, rfl⟩
      obtain ⟨vn, hvn⟩ : ∃ p : Int, ((nmd kn : Nat) : Int) = p := ⟨_, rfl⟩
      rw [hz, hm, hp2] at hix
      rw [hvn, hp2, hnm] at hna
      rw [hvn] at hct
      have hbad : (if nm then m else z) = false → Hid (q = false) := fun e => by
        show _ = _
        have h9 : (if namedB kd.toNat k then mf k else zf k) = false := by rw [e1, hnm, hm, hz]; exact e
        rw [HKD.out, Bool.eq_false_iff]
        intro hh
        simp only [Bool.true_and, Bool.and_eq_true] at hh
        obtain ⟨⟨⟨⟨⟨⟨⟨g0, g1⟩, g2⟩, g3⟩, g4⟩, g5⟩, g6⟩, g7⟩ := hh
        rcases (by omega : k = 0 ∨ k = 1 ∨ k = 2 ∨ k = 3 ∨ k = 4 ∨ k = 5 ∨ k = 6 ∨ k = 7) with rfl | rfl | rfl | rfl | rfl | rfl | rfl | rfl
        · rw [h9] at g0; cases g0
        · rw [h9] at g1; cases g1
        · rw [h9] at g2; cases g2
        · rw [h9] at g3; cases g3
        · rw [h9] at g4; cases g4
        · rw [h9] at g5; cases g5
        · rw [h9] at g6; cases g6
        · rw [h9] at g7; cases g7
      have hgood : (if nm then m else z) = true → Hid (∀ j, j < k + 1 → (if namedB kd.toNat j then mf j else zf j) = true) := fun e j hj => by
        rcases (by omega : j < k ∨ j = k) with h | rfl
        · exact HA.out j h
        · rw [e1, hnm, hm, hz]; exact e
      have hk1 : k + 1 ≤ 8 := by omega
      have HMM : Hid (8 - (intOf (.int .i64 ((k : Int) + 1))).toNat < 8 - (intOf (.int .i64 (k : Int))).toNat) := by
        show _ < _
        simp [intOf]
        omega
      obtain ⟨m00, m1, m2, m3, m4, m5, m6, m7, m8, m9⟩ := bk_ten HBR.out
      have hlr := HBR.out.lt
      have hgl : 0 < wr.heap.size := Nat.lt_of_lt_of_le HPOS.out HOR.out.size
      have hkn0 : (0 : Int) ≤ kd := by omega
      have hkn9 : kd < 9 := by omega
      have hkt : kd.toNat = kn := e1
      have HBN := Lib.hid (HBR.out.alloc (.cells #[.int .i64 p2, .bool z, .bool m] 193))
      have HON := Lib.hid (HOR.out.alloc (.cells #[.int .i64 p2, .bool z, .bool m] 193))
      clear hz hm hnm hp2 hvn HA e1 hk
      cases nm
      · cases z
        · have HQ := hbad rfl
          clear hbad hgood
          go_wp2_with fail
          go_region
          go_wp2
          go_ret
          exact ⟨by rw [HQ.out]; rfl, HON.out.drew⟩
        · have HG := hgood rfl
          clear hbad hgood
          go_wp2_with fail
          go_region
          go_wp2
          go_roundw
          case rel => exact ⟨k + 1, by go_num, hk1, HG, HON.out.drew, HBN.out.drew⟩
          case measure => exact HMM.out
      · cases m
        · have HQ := hbad rfl
          clear hbad hgood
          go_wp2_with fail
          go_region
          go_wp2
          go_ret
          exact ⟨by rw [HQ.out]; rfl, HON.out.drew⟩
        · have HG := hgood rfl
          clear hbad hgood
          go_wp2_with fail
          go_region
          go_wp2
          go_roundw
          case rel => exact ⟨k + 1, by go_num, hk1, HG, HON.out.drew, HBN.out.drew⟩
          case measure => exact HMM.out
    · obtain rfl : k = 8 := by omega
      have HQ : Hid (q = true) := by
        show _ = _
        have h := HA.out
        rw [HKD.out, h 0 (by omega), h 1 (by omega), h 2 (by omega), h 3 (by omega), h 4 (by omega), h 5 (by omega), h 6 (by omega), h 7 (by omega)]
        rfl
      go_wp2
      go_ret
      exact ⟨by rw [HQ.out]; rfl, HOR.out⟩
end Go.Proofs.YtgnilldcfpgpaaaGreatDoor
namespace Go.Proofs.YtgnilldcfpgpaaaGreatDoor
open Go.RowKit Go.Instr
theorem str_at {w : World} {A : Option Addr} {n : Nat} {l : List UInt8} (h : Sl w A n (bvs l)) (c : Nat) : (convert 27 9 (.slice A n c)).run Tryz.prog w = .ok (.string (St l)) w :=
  run_str_sl (P := Tryz.prog) 27 9 5 A n c l Tryz.underlying27 Tryz.underlying5 Tryz.underlying9 h
end Go.Proofs.YtgnilldcfpgpaaaGreatDoor
namespace Go.Proofs.YtgnilldcfpgpaaaGreatDoor
open Go.RowKit Go.Instr
theorem row_len (s : List UInt8) (h : s.length ≤ 100000) : (rowEnc s).length ≤ 9 + s.length := by
  unfold rowEnc
  rw [List.length_append]
  have := enc_len9 (v := s.length) (by omega)
  omega
end Go.Proofs.YtgnilldcfpgpaaaGreatDoor
namespace Go.Proofs.YtgnilldcfpgpaaaGreatDoor
open Go.RowKit Go.Instr
theorem rows_oneP {S : Nat → Prop} {w : World} {g : Nat} {t : TypeId} {A : Option Addr} {c : Nat} {l : List UInt8} (h : Bk w g t #[.slice A l.length c]) (hs : Sl w A l.length (bvs l)) (hg : S g) (hA : 0 < l.length → ∀ ad, A = some ad → S ad.block) : RwS S w (some ⟨g, 0, none⟩) 1 [l] :=
  ⟨rfl, _, Sl.of_bk h, fun _ ad e => by injection e with e; subst e; exact hg, fun i l' hi => by
    match i, hi with
    | 0, hi => simp at hi; subst hi; exact ⟨A, c, by simp, hs, hA⟩⟩
theorem conv_sl2 (s : List UInt8) (w : World) : ∃ w' c, (convert 9 27 (.string (St s))).run Tryz.prog w = .ok (.slice (some ⟨w.heap.size, 0, none⟩) s.length c) w' ∧ Sl w' (some ⟨w.heap.size, 0, none⟩) s.length (bvs s) ∧ Only [] w w' ∧ w.heap.size < w'.heap.size := by
  have hr := Lib.run_convert_string_bytes (P := Tryz.prog) w 9 27 5 (St s) Tryz.underlying9 Tryz.underlying27 Tryz.underlying5
  rw [St_size] at hr
  refine ⟨_, _, hr, ⟨by simp, fun _ => ⟨_, rfl, fun j u hu => ?_⟩⟩, ⟨rfl, rfl, rfl, by rw [Lib.bytesWorld_size]; omega, fun k hk _ => Lib.bytesWorld_at_old w _ (St s) k hk⟩, by rw [Lib.bytesWorld_size]; omega⟩
  have hj : j < s.length := by have := (List.getElem?_eq_some_iff.1 hu).1; simpa using this
  rw [bvs_get s j hj] at hu
  rw [add_none, Nat.zero_add, Lib.bytesWorld_cell w 5 (St s) j (by rw [St_size]; exact hj), St_list, List.getD_eq_getElem?_getD, List.getElem?_eq_getElem hj, ← hu]
  rfl
def WJ (S : Nat → Prop) (W : World) (g : Nat) (P : List UInt8) : Prop := ∃ A c, Wr W g A c P ∧ ∀ y ∈ g :: blks A, S y
def WJA (S : Nat → Prop) (W : World) (g : Nat) (P : List UInt8) (e : Ending) (W' : World) : Prop := e = .returned (.tuple #[]) ∧ WJ S W' g P ∧ ∃ rs, Only rs W W' ∧ ∀ y ∈ rs, S y ∧ y < W.heap.size
theorem WJ.keep {S : Nat → Prop} {W W' : World} {g : Nat} {P : List UInt8} (h : WJ S W g P) (o : Only [] W W') : WJ S W' g P := by
  obtain ⟨A, c, h1, h2⟩ := h
  exact ⟨A, c, h1.keep o, h2⟩
theorem WJ.mono {S S' : Nat → Prop} {W : World} {g : Nat} {P : List UInt8} (h : WJ S W g P) (hS : ∀ y, y < W.heap.size → S y → S' y) : WJ S' W g P := by
  obtain ⟨A, c, h1, h2⟩ := h
  refine ⟨A, c, h1, fun y hy => hS y ?_ (h2 y hy)⟩
  rcases List.mem_cons.1 hy with rfl | h
  · exact h1.1.lt
  · exact h1.2.lt h
theorem WJA.of {S : Nat → Prop} {W : World} {g : Nat} {A : Option Addr} {c : Nat} {P P0 : List UInt8} (h1 : Wr W g A c P0) (h2 : ∀ y ∈ g :: blks A, S y) (hS : ∀ y, W.heap.size ≤ y → S y) {e : Ending} {W' : World} (h : Laid W g A P e W') : WJA S W g P e W' := by
  obtain ⟨he, A', c', w1, o1, f1⟩ := h
  refine ⟨he, ⟨A', c', w1, fun y hy => ?_⟩, _, o1, fun y hy => ⟨h2 y hy, ?_⟩⟩
  · rcases List.mem_cons.1 hy with rfl | h
    · exact h2 _ List.mem_cons_self
    · rcases f1 y h with h | h
      · exact h2 y (List.mem_cons_of_mem _ h)
      · exact hS y h
  · rcases List.mem_cons.1 hy with rfl | h
    · exact h1.1.lt
    · exact h1.2.lt h
theorem WJ.nums {S : Nat → Prop} {W : World} {g : Nat} {P : List UInt8} (h : WJ S W g P) (hS : ∀ y, W.heap.size ≤ y → S y) (a b d : Int) (hf : Fits [a, b, d]) (hP : P.length ≤ 1000000) :
    Calls Tryz.prog 59 #[.pointer (some ⟨g, 0, none⟩), .slice (some ⟨W.heap.size, 0, none⟩) 3 3] (W.alloc (.cells #[.int .i64 a, .int .i64 b, .int .i64 d] 3)) fun e w' => ∃ w1, Only [] W w1 ∧ WJA S w1 g (P ++ encs [a, b, d]) e w' := by
  obtain ⟨A, c, h1, h2⟩ := h
  have ho : Only [] W (W.alloc (.cells #[.int .i64 a, .int .i64 b, .int .i64 d] 3)) := (Only.refl [] W).alloc _
  refine (wnums_any g A c P (some ⟨W.heap.size, 0, none⟩) 3 3 [a, b, d] _ (h1.keep ho) (Sl.of_bk (Bk.new W _ _)) hf (fun _ ad e hh => ?_) (by omega) (by omega)).mono fun e w' hl => ⟨_, ho, WJA.of (h1.keep ho) h2 (fun y hy => hS y (Nat.le_trans ho.size hy)) hl⟩
  injection e with e
  subst e
  rcases List.mem_cons.1 hh with h | h
  · have := h1.1.lt
    simp only at h
    omega
  · have := h1.2.lt h
    simp only at this
    omega
theorem WJ.bytes {S : Nat → Prop} {W : World} {g : Nat} {P : List UInt8} (h : WJ S W g P) (hS : ∀ y, W.heap.size ≤ y → S y) (Ab : Option Addr) (z cb : Nat) (y : List UInt8) (hs : Sl W Ab z (bvs y)) (hb : 0 < z → ∀ ad, Ab = some ad → ¬ S ad.block) (hP : P.length ≤ 1000000) (hz : z ≤ 100000) :
    Calls Tryz.prog 60 #[.pointer (some ⟨g, 0, none⟩), .slice (some ⟨W.heap.size, 0, none⟩) 1 1] (W.alloc (.cells #[.slice Ab z cb] 27)) fun e w' => ∃ w1, Only [] W w1 ∧ WJA S w1 g (P ++ rowEnc y) e w' := by
  obtain ⟨A, c, h1, h2⟩ := h
  have hy : y.length = z := by simpa using hs.len
  subst hy
  have ho : Only [] W (W.alloc (.cells #[.slice Ab y.length cb] 27)) := (Only.refl [] W).alloc _
  have hr := wbytes_any g A c P (some ⟨W.heap.size, 0, none⟩) 1 1 [y] _ (fun k => k ∉ g :: blks A) (h1.keep ho) (rows_oneP (c := cb) (Bk.new W 27 _) (hs.keep ho) (fun hh => ?_) (fun hp ad e hh => hb hp ad e (h2 _ hh))) (fun k hk => hk) (by omega) ?_
  · have e : rowsEnc [y] = rowEnc y := by simp [rowsEnc]
    rw [e] at hr
    exact hr.mono fun e w' hl => ⟨_, ho, WJA.of (h1.keep ho) h2 (fun y hy => hS y (Nat.le_trans ho.size hy)) hl⟩
  · rcases List.mem_cons.1 hh with h | h
    · have := h1.1.lt
      omega
    · have := h1.2.lt h
      omega
  · have e : rowsEnc [y] = rowEnc y := by simp [rowsEnc]
    have := row_len y hz
    unfold rowsLen
    rw [e]
    omega
theorem WJ.out {S : Nat → Prop} {W : World} {g : Nat} {P : List UInt8} (h : WJ S W g P) (hP : P.length ≤ 1000000) :
    Calls Tryz.prog 61 #[.pointer (some ⟨g, 0, none⟩)] W (Fresh W P) := by
  obtain ⟨A, c, h1, h2⟩ := h
  exact out_any g A c P W h1 (by omega)
theorem WJA.only {S : Nat → Prop} {w W W1 W' : World} {g : Nat} {P : List UInt8} {e : Ending} (h : WJA S W1 g P e W') (o1 : Only [] W W1) (o : Only [] w W) (hS : ∀ y, S y → w.heap.size ≤ y) : Only [] w W' := by
  obtain ⟨_, _, rs, o2, h2⟩ := h
  exact (o.then o1).trans o2 (fun y hy => .inr (hS y (h2 y hy).1))
theorem WJA.bk {S : Nat → Prop} {W W1 W' : World} {g p : Nat} {P : List UInt8} {e : Ending} {t : TypeId} {cs : Array Value} (h : WJA S W1 g P e W') (o1 : Only [] W W1) (hb : Bk W p t cs) (hp : ¬ S p) : Bk W' p t cs := by
  obtain ⟨_, _, rs, o2, h2⟩ := h
  exact (hb.only o1 (by simp)).only o2 (fun hh => hp (h2 _ hh).1)
end Go.Proofs.YtgnilldcfpgpaaaGreatDoor
