/-
  Texts of the seat, laid one behind the other: CRefEnc CRet SUser SBox.
-/
import Derived.Test.YtgnilldcfpgpaaaGreatDoorY5
import Derived.Test.YtgnilldcfpgpaaaGreatDoorY11
import Derived.Lib.ConvBytes
import Derived.Laws.ResultCell
import Derived.Test.YtgnilldcfpgpaaaGreatDoorY10
import Derived.Test.YtgnilldcfpgpaaaGreatDoorY6
namespace Go.Proofs.YtgnilldcfpgpaaaGreatDoor
open Go.RowKit Go.Instr
theorem conv_sl3 (s : List UInt8) (w : World) : ∃ w' c, (convert 9 27 (.string (St s))).run Tryz.prog w = .ok (.slice (some ⟨w.heap.size, 0, none⟩) s.length c) w' ∧ Sl w' (some ⟨w.heap.size, 0, none⟩) s.length (bvs s) ∧ Only [] w w' := by
  have hr := Lib.run_convert_string_bytes (P := Tryz.prog) w 9 27 5 (St s) Tryz.underlying9 Tryz.underlying27 Tryz.underlying5
  rw [St_size] at hr
  refine ⟨_, _, hr, ⟨by simp, fun _ => ⟨_, rfl, fun j u hu => ?_⟩⟩, ⟨rfl, rfl, rfl, by rw [Lib.bytesWorld_size]; omega, fun k hk _ => Lib.bytesWorld_at_old w _ (St s) k hk⟩⟩
  have hj : j < s.length := by have := (List.getElem?_eq_some_iff.1 hu).1; simpa using this
  rw [bvs_get s j hj] at hu
  rw [add_none, Nat.zero_add, Lib.bytesWorld_cell w 5 (St s) j (by rw [St_size]; exact hj), St_list, List.getD_eq_getElem?_getD, List.getElem?_eq_getElem hj, ← hu]
  rfl
theorem text_any (s : List UInt8) (w : World) (hn : s.length ≤ 1000000000) : Calls Tryz.prog 63 #[.string (St s)] w (Fresh w (rowEnc s)) := by
  obtain ⟨w1, c1, hcv, hs, o1⟩ := conv_sl3 s w
  have HB := Lib.hid (refBytes_any (some ⟨w.heap.size, 0, none⟩) s.length c1 s w1 hs hn)
  have HO := Lib.hid o1
  obtain ⟨P, hP⟩ : ∃ P, rowEnc s = P := ⟨_, rfl⟩
  rw [hP] at HB ⊢
  generalize St s = t at *
  generalize s.length = n at *
  clear hs o1 hP
  go_enter Tryz.func63, Tryz.ntmps63
  go_wp2_with (go_at_call 65; go_must (refine HB.out.mono ?_); rintro e w2 ⟨A2, c2, rfl, V2, O2, F2⟩)
  go_ret
  exact ⟨A2, c2, rfl, V2, HO.out.then O2, fun k hk => Nat.le_trans HO.out.size (F2 k hk)⟩
def EncCR (w : World) (c : Ch) (e : Ending) (w' : World) : Prop :=
  (isC c = true ∧ ∃ A' c', e = .returned (.tuple #[.slice A' (encC c).length c', .int .i64 0]) ∧ Own w' 5 A' (encC c).length c' (bvs (encC c)) ∧ Only [] w w' ∧ ∀ k ∈ blks A', w.heap.size ≤ k) ∨
  (isC c = false ∧ e = .returned (.tuple #[.slice none 0 0, .int .i64 1]) ∧ Only [] w w')
set_option maxRecDepth 100000 in
set_option maxHeartbeats 16000000 in
theorem refEncC_any {w : World} (c : Ch) {A B : Option Addr} {ca cb : Nat} (hU : Sl w A c.uids.length (ivs c.uids)) (hB : Sl w B c.body.length (bvs c.body)) (hn : c.uids.length ≤ 140737488355328) (hl : c.user.length ≤ 140737488355328 ∧ c.pass.length ≤ 140737488355328 ∧ c.box.length ≤ 140737488355328 ∧ c.to.length ≤ 140737488355328) :
    Calls Tryz.prog 27 #[chv c A ca B cb] w (EncCR w c) := by
  have cI := fun (W : World) (o : Only [] w W) => isC_any c (ca := ca) (B := B) (cb := cb) (hU.keep o) hn hl
  obtain ⟨b, hb⟩ : ∃ b, isC c = b := ⟨_, rfl⟩
  rw [hb] at cI
  obtain ⟨kd, us, ps, bx, to, ui, md, fl, dt, bo⟩ := c
  unfold chv at cI ⊢
  simp only at hU hB hn hl cI ⊢
  have hsm := fun (e : b = true) => isC_small (c := ⟨kd, us, ps, bx, to, ui, md, fl, dt, bo⟩) (by rw [hb]; exact e)
  simp only at hsm
  have HSM := Lib.hid hsm
  have HBB := Lib.hid hb
  obtain ⟨nu, hnu⟩ : ∃ n, ui.length = n := ⟨_, rfl⟩
  obtain ⟨nb, hnb⟩ : ∃ n, bo.length = n := ⟨_, rfl⟩
  have cTU := fun (e : us.length ≤ 12) (W : World) => text_any us W (by omega)
  have cTP := fun (e : ps.length ≤ 12) (W : World) => text_any ps W (by omega)
  have cTB := fun (e : bx.length ≤ 12) (W : World) => text_any bx W (by omega)
  have cTT := fun (e : to.length ≤ 12) (W : World) => text_any to W (by omega)
  rw [hnu] at hU cI ⊢
  rw [hnb] at hB cI ⊢
  generalize hTu : St us = tu at *
  generalize hTp : St ps = tp at *
  generalize hTb : St bx = tb at *
  generalize hTt : St to = tt at *
  have hO1 : Only [] w (w.alloc (.cells #[.int .i64 kd, .string tu, .string tp, .string tb, .string tt, .slice A nu ca, .int .i64 md, .int .i64 fl, .int .i64 dt, .slice B nb cb] 29)) := (Only.refl _ _).alloc _
  have HB0 := Lib.hid (Bk.new w 29 #[.int .i64 kd, .string tu, .string tp, .string tb, .string tt, .slice A nu ca, .int .i64 md, .int .i64 fl, .int .i64 dt, .slice B nb cb])
  have HI := Lib.hid (cI _ hO1)
  have HO1 := Lib.hid hO1
  have HUS := Lib.hid hU
  have HBS := Lib.hid hB
  have HTU := Lib.hid cTU
  have HTP := Lib.hid cTP
  have HTB := Lib.hid cTB
  have HTT := Lib.hid cTT
  have HNU := Lib.hid hnu
  have HNB := Lib.hid hnb
  obtain ⟨i0, hi, hz0, hz1, hz2⟩ := info_parts infoByte
  obtain ⟨m0, m1, m2, m3, m4, m5, m6, m7, m8, m9⟩ := bk_ten HB0.out
  clear cI hb hsm cTU cTP cTB cTT hU hB hO1 hnu hnb hl hn hTu hTp hTb hTt
  go_enter Tryz.func27, Tryz.ntmps27
  cases b
  · go_wp2_with (go_at_call 30; go_must (refine HI.out.mono ?_); rintro e w2 ⟨rfl, O2⟩)
    go_ret2
    exact .inr ⟨HBB.out, rfl, HO1.out.then O2⟩
  obtain ⟨s1, s2, s3, s4, s5, ⟨s6, s7⟩, s8, s9, s10, s11⟩ := HSM.out rfl
  obtain ⟨k0, hk0⟩ : ∃ r, enc (clamp kd) = r := ⟨_, rfl⟩
  obtain ⟨ru, hru⟩ : ∃ r, rowEnc us = r := ⟨_, rfl⟩
  obtain ⟨rp, hrp⟩ : ∃ r, rowEnc ps = r := ⟨_, rfl⟩
  have l0 : k0.length ≤ 9 := by rw [← hk0]; exact enc_len9 (clamp_le kd)
  have rl : ∀ (s : List UInt8), s.length ≤ 1200 → (rowEnc s).length ≤ 9 + s.length := fun s h => by
    unfold rowEnc
    rw [List.length_append]
    have := enc_len9 (v := s.length) (by omega)
    omega
  have l1 : ru.length ≤ 21 := by rw [← hru]; have := rl us (by omega); omega
  have l2 : rp.length ≤ 21 := by rw [← hrp]; have := rl ps (by omega); omega
  have HNK := Lib.hid (fun (W : World) => by
    have hh := refNum_any kd W (by omega) (by omega)
    rw [hk0] at hh
    exact hh)
  replace HTU := Lib.hid (fun (W : World) => by
    have hh := HTU.out s2 W
    rw [hru] at hh
    exact hh)
  replace HTP := Lib.hid (fun (W : World) => by
    have hh := HTP.out s3 W
    rw [hrp] at hh
    exact hh)
  obtain ⟨P3, hP3⟩ : ∃ r, k0 ++ ru ++ rp = r := ⟨_, rfl⟩
  have HBN : Hid ((k0 ++ ru ++ rp).length ≤ 100) := by show _ ≤ _; simp only [List.length_append]; omega
  have HEQ1 : Hid (enc (clamp kd) ++ rowEnc us ++ rowEnc ps = P3) := by show _ = _; rw [hk0, hru, hrp, hP3]
  have HA4 : Hid (∀ y ∈ blks none, y < w.heap.size) := fun y hy => by cases hy
  clear rl
  go_wp2_with (go_at_call 30; go_must (refine HI.out.mono ?_); rintro e w2 ⟨rfl, O2⟩; replace m0 := O2.cellSome m0 (by simp); replace m1 := O2.cellSome m1 (by simp); replace m2 := O2.cellSome m2 (by simp); replace m3 := O2.cellSome m3 (by simp); replace m4 := O2.cellSome m4 (by simp); replace m5 := O2.cellSome m5 (by simp); replace m6 := O2.cellSome m6 (by simp); replace m7 := O2.cellSome m7 (by simp); replace m8 := O2.cellSome m8 (by simp); replace m9 := O2.cellSome m9 (by simp))
  replace HA4 : Hid (∀ y ∈ blks none, y < w2.heap.size) := fun y hy => by cases hy
  apply region_inv (RowsI w2 none 0 0 [] 9998 (fun i => if i = 2 then some k0 else if i = 5 then some ru else if i = 6 then some (k0 ++ ru) else if i = 9 then some rp else if i = 10 then some (k0 ++ ru ++ rp) else if i = 11 then some (k0 ++ ru ++ rp) else none) (fun i => if i = 2 then 6 else if i = 5 then 6 else if i = 6 then 10 else if i = 9 then 10 else if i = 10 then 11 else 9999) 9990 9991 #[]) (by kernel_rfl) (by kernel_rfl) (fun vs => RowsI.start (Own.nil _ _) vs)
  intro vs
  apply inv_val
  case hw => rfl
  case hI => intro L wS hI; exact hI.pure rfl (fun i _ _ => by (repeat' split) <;> decide) (by decide)
  case hy => intro L wS hI; skip; first | (go_simp; done) | (go_simp; with_reducible rfl)
  case' hk => skip
  try simp only [Act.put, List.setIfInBounds_toArray, List.set_cons_zero, List.set_cons_succ]
  apply inv_val
  case hw => rfl
  case hI => intro L wS hI; exact hI.pure rfl (fun i _ _ => by (repeat' split) <;> decide) (by decide)
  case hy => intro L wS hI; have q0 := hI.1.cellSome m0 (by simp); first | (go_simp; done) | (go_simp; with_reducible rfl)
  case' hk => skip
  try simp only [Act.put, List.setIfInBounds_toArray, List.set_cons_zero, List.set_cons_succ]
  apply inv_op
  case hw => rfl
  case hy =>
    intro L wS hI hL hw
    refine gives_call (f := 62) (args := #[.int .i64 kd]) ?_ ?_
    · first | (go_simp; done) | (go_simp; with_reducible rfl)
    · exact (HNK.out wS).mono fun e w' he => by
        obtain ⟨A', c', e1, e2, e3, e4⟩ := he
        exact ⟨_, e1, hI.call hL rfl (fun i _ _ => by (repeat' split) <;> decide) (by decide) (fun e => by cases e) e3 e2 e4, trivial⟩
  case' hk => skip
  try simp only [Act.put, List.setIfInBounds_toArray, List.set_cons_zero, List.set_cons_succ]
  apply inv_val
  case hw => rfl
  case hI => intro L wS hI; exact hI.pure rfl (fun i _ _ => by (repeat' split) <;> decide) (by decide)
  case hy => intro L wS hI; skip; first | (go_simp; done) | (go_simp; with_reducible rfl)
  case' hk => skip
  try simp only [Act.put, List.setIfInBounds_toArray, List.set_cons_zero, List.set_cons_succ]
  apply inv_val
  case hw => rfl
  case hI => intro L wS hI; exact hI.pure rfl (fun i _ _ => by (repeat' split) <;> decide) (by decide)
  case hy => intro L wS hI; have q0 := hI.1.cellSome m1 (by simp); first | (go_simp; done) | (go_simp; with_reducible rfl)
  case' hk => skip
  try simp only [Act.put, List.setIfInBounds_toArray, List.set_cons_zero, List.set_cons_succ]
  apply inv_op
  case hw => rfl
  case hy =>
    intro L wS hI hL hw
    refine gives_call (f := 63) (args := #[.string tu]) ?_ ?_
    · first | (go_simp; done) | (go_simp; with_reducible rfl)
    · exact (HTU.out wS).mono fun e w' he => by
        obtain ⟨A', c', e1, e2, e3, e4⟩ := he
        exact ⟨_, e1, hI.call hL rfl (fun i _ _ => by (repeat' split) <;> decide) (by decide) (fun e => by cases e) e3 e2 e4, trivial⟩
  case' hk => skip
  try simp only [Act.put, List.setIfInBounds_toArray, List.set_cons_zero, List.set_cons_succ]
  apply inv_op
  case hw => rfl
  case hy =>
    intro L wS hI hL hw
    obtain ⟨Ai, ci, Aj, cj, v1, v2, o1, o2, hst⟩ := hI.join (i := 2) (j := 5) hL rfl rfl (by decide) rfl rfl rfl (by decide) (by decide) HA4.out (fun m _ _ hu => by (repeat' split at hu) <;> omega) (hw 2 (by kernel_rfl)) (hw 5 (by kernel_rfl))
    rw [v1, v2]
    exact gives_append_sl (.tmp 10) (.tmp 13) 27 rfl 5 i0 (.int .u8 0) 1 Tryz.underlying27 hi hz0 hz1 hz2 rfl Ai _ ci _ rfl o1 Aj _ cj _ rfl o2.sl (bvs_one _) (by have hb := HBN.out; simp only [List.length_append] at hb ⊢; unfold maxLen; omega) (by have hb := HBN.out; simp only [List.length_append] at hb ⊢; omega) fun A' c' w' h1 h2 h3 => ⟨by
      have hh := hst w' A' c' (by rw [List.length_append, bvs_append]; exact h1) h2 h3
      rw [List.length_append] at hh
      exact hh, trivial⟩
  case' hk => skip
  try simp only [Act.put, List.setIfInBounds_toArray, List.set_cons_zero, List.set_cons_succ]
  apply inv_val
  case hw => rfl
  case hI => intro L wS hI; exact hI.pure rfl (fun i _ _ => by (repeat' split) <;> decide) (by decide)
  case hy => intro L wS hI; skip; first | (go_simp; done) | (go_simp; with_reducible rfl)
  case' hk => skip
  try simp only [Act.put, List.setIfInBounds_toArray, List.set_cons_zero, List.set_cons_succ]
  apply inv_val
  case hw => rfl
  case hI => intro L wS hI; exact hI.pure rfl (fun i _ _ => by (repeat' split) <;> decide) (by decide)
  case hy => intro L wS hI; have q0 := hI.1.cellSome m2 (by simp); first | (go_simp; done) | (go_simp; with_reducible rfl)
  case' hk => skip
  try simp only [Act.put, List.setIfInBounds_toArray, List.set_cons_zero, List.set_cons_succ]
  apply inv_op
  case hw => rfl
  case hy =>
    intro L wS hI hL hw
    refine gives_call (f := 63) (args := #[.string tp]) ?_ ?_
    · first | (go_simp; done) | (go_simp; with_reducible rfl)
    · exact (HTP.out wS).mono fun e w' he => by
        obtain ⟨A', c', e1, e2, e3, e4⟩ := he
        exact ⟨_, e1, hI.call hL rfl (fun i _ _ => by (repeat' split) <;> decide) (by decide) (fun e => by cases e) e3 e2 e4, trivial⟩
  case' hk => skip
  try simp only [Act.put, List.setIfInBounds_toArray, List.set_cons_zero, List.set_cons_succ]
  apply inv_op
  case hw => rfl
  case hy =>
    intro L wS hI hL hw
    obtain ⟨Ai, ci, Aj, cj, v1, v2, o1, o2, hst⟩ := hI.join (i := 6) (j := 9) hL rfl rfl (by decide) rfl rfl rfl (by decide) (by decide) HA4.out (fun m _ _ hu => by (repeat' split at hu) <;> omega) (hw 6 (by kernel_rfl)) (hw 9 (by kernel_rfl))
    rw [v1, v2]
    exact gives_append_sl (.tmp 14) (.tmp 17) 27 rfl 5 i0 (.int .u8 0) 1 Tryz.underlying27 hi hz0 hz1 hz2 rfl Ai _ ci _ rfl o1 Aj _ cj _ rfl o2.sl (bvs_one _) (by have hb := HBN.out; simp only [List.length_append] at hb ⊢; unfold maxLen; omega) (by have hb := HBN.out; simp only [List.length_append] at hb ⊢; omega) fun A' c' w' h1 h2 h3 => ⟨by
      have hh := hst w' A' c' (by rw [List.length_append, bvs_append]; exact h1) h2 h3
      rw [List.length_append] at hh
      exact hh, trivial⟩
  case' hk => skip
  try simp only [Act.put, List.setIfInBounds_toArray, List.set_cons_zero, List.set_cons_succ]
  apply inv_op
  case hw => rfl
  case hy =>
    intro L wS hI hL hw
    obtain ⟨Ai, ci, v1, hh⟩ := hI.hand (i := 10) hL rfl rfl rfl (by decide) (by decide) HA4.out (fun m _ _ hu => by (repeat' split at hu) <;> omega) (hw 10 (by kernel_rfl))
    refine gives_value (u := .slice Ai _ ci) (w' := wS) ?_ hh trivial
    rw [v1]
    first | (go_simp; done) | (go_simp; with_reducible rfl)
  case' hk => skip
  try simp only [Act.put, List.setIfInBounds_toArray, List.set_cons_zero, List.set_cons_succ]
  refine inv_end ?_
  intro L w3 hall hI
  obtain ⟨A4, c4, v4, V4, F4⟩ := hI.row (i := 11) rfl (hall 11 (by decide)) rfl
  have O3 : Only [] w2 w3 := hI.1
  rw [v4]
  rw [hP3] at V4 ⊢
  obtain ⟨n4, hn4⟩ : ∃ n, P3.length = n := ⟨_, rfl⟩
  rw [hn4] at V4 ⊢
  have HN4 := Lib.hid hn4
  have lP : n4 ≤ 100 := by rw [← hn4, ← hP3]; exact HBN.out
  have hw3 : w.heap.size < w2.heap.size := block_lt_of_cell m9
  clear v4 hall hI HBN HNK HTU HTP hP3 hn4 l0 l1 l2 m0 m1 m2
  replace m3 := O3.cellSome m3 (by simp)
  replace m4 := O3.cellSome m4 (by simp)
  replace m5 := O3.cellSome m5 (by simp)
  replace m6 := O3.cellSome m6 (by simp)
  replace m7 := O3.cellSome m7 (by simp)
  replace m8 := O3.cellSome m8 (by simp)
  replace m9 := O3.cellSome m9 (by simp)
  replace F4 : ∀ y ∈ blks A4, w.heap.size < y := fun y hy => by
    rcases F4 y hy with h | h
    · cases h
    · omega
  have OW := Lib.hid ((HO1.out.then O2).then O3)
  have HNE : Hid (w.heap.size ∉ blks A4) := fun hh => Nat.lt_irrefl _ (F4 _ hh)
  replace HA4 : Hid (∀ y ∈ blks A4, y < w3.heap.size) := fun y hy => V4.lt hy
  obtain ⟨rb, hrb⟩ : ∃ r, rowEnc bx = r := ⟨_, rfl⟩
  obtain ⟨rt, hrt⟩ : ∃ r, rowEnc to = r := ⟨_, rfl⟩
  obtain ⟨kn, hkn⟩ : ∃ r, enc (clamp (nu : Int)) = r := ⟨_, rfl⟩
  have rl : ∀ (s : List UInt8), s.length ≤ 1200 → (rowEnc s).length ≤ 9 + s.length := fun s h => by
    unfold rowEnc
    rw [List.length_append]
    have := enc_len9 (v := s.length) (by omega)
    omega
  have l1 : rb.length ≤ 21 := by rw [← hrb]; have := rl bx (by omega); omega
  have l2 : rt.length ≤ 21 := by rw [← hrt]; have := rl to (by omega); omega
  have l3 : kn.length ≤ 9 := by rw [← hkn]; exact enc_len9 (clamp_le (nu : Int))
  have hnu24 : nu ≤ 24 := by rw [← HNU.out]; exact s6
  have HNN := Lib.hid (fun (W : World) => by
    have hh := refNum_any (nu : Int) W (by omega) (by omega)
    rw [hkn] at hh
    exact hh)
  replace HTB := Lib.hid (fun (W : World) => by
    have hh := HTB.out s4 W
    rw [hrb] at hh
    exact hh)
  replace HTT := Lib.hid (fun (W : World) => by
    have hh := HTT.out s5 W
    rw [hrt] at hh
    exact hh)
  have HBN : Hid ((P3 ++ rb ++ rt ++ kn).length ≤ 200) := by show _ ≤ _; simp only [List.length_append]; rw [HN4.out]; omega
  have HEQ2 : Hid (enc (clamp kd) ++ rowEnc us ++ rowEnc ps ++ rowEnc bx ++ rowEnc to ++ enc (clamp (nu : Int)) = P3 ++ rb ++ rt ++ kn) := by show _ = _; rw [HEQ1.out, hrb, hrt, hkn]
  have hw33 : w.heap.size < w3.heap.size := Nat.lt_of_lt_of_le hw3 O3.size
  clear HEQ1 O2 O3
  go_wp2_with fail
  apply region_inv (RowsI w3 A4 n4 c4 P3 4 (fun i => if i = 3 then some rb else if i = 4 then some (P3 ++ rb) else if i = 7 then some rt else if i = 8 then some (P3 ++ rb ++ rt) else if i = 12 then some kn else if i = 13 then some (P3 ++ rb ++ rt ++ kn) else if i = 14 then some (P3 ++ rb ++ rt ++ kn) else none) (fun i => if i = 3 then 4 else if i = 4 then 8 else if i = 7 then 8 else if i = 8 then 13 else if i = 12 then 13 else if i = 13 then 14 else 9999) 9990 9991 #[]) (by kernel_rfl) (by kernel_rfl) (fun vs => RowsI.start V4 vs)
  intro vs
  apply inv_val
  case hw => rfl
  case hI => intro L wS hI; exact hI.pure rfl (fun i _ _ => by (repeat' split) <;> decide) (by decide)
  case hy => intro L wS hI; skip; first | (go_simp; done) | (go_simp; with_reducible rfl)
  case' hk => skip
  try simp only [Act.put, List.setIfInBounds_toArray, List.set_cons_zero, List.set_cons_succ]
  apply inv_val
  case hw => rfl
  case hI => intro L wS hI; exact hI.pure rfl (fun i _ _ => by (repeat' split) <;> decide) (by decide)
  case hy => intro L wS hI; skip; first | (go_simp; done) | (go_simp; with_reducible rfl)
  case' hk => skip
  try simp only [Act.put, List.setIfInBounds_toArray, List.set_cons_zero, List.set_cons_succ]
  apply inv_val
  case hw => rfl
  case hI => intro L wS hI; exact hI.pure rfl (fun i _ _ => by (repeat' split) <;> decide) (by decide)
  case hy => intro L wS hI; have q0 := hI.1.cellSome m3 HNE.out; first | (go_simp; done) | (go_simp; with_reducible rfl)
  case' hk => skip
  try simp only [Act.put, List.setIfInBounds_toArray, List.set_cons_zero, List.set_cons_succ]
  apply inv_op
  case hw => rfl
  case hy =>
    intro L wS hI hL hw
    refine gives_call (f := 63) (args := #[.string tb]) ?_ ?_
    · first | (go_simp; done) | (go_simp; with_reducible rfl)
    · exact (HTB.out wS).mono fun e w' he => by
        obtain ⟨A', c', e1, e2, e3, e4⟩ := he
        exact ⟨_, e1, hI.call hL rfl (fun i _ _ => by (repeat' split) <;> decide) (by decide) (fun e => by cases e) e3 e2 e4, trivial⟩
  case' hk => skip
  try simp only [Act.put, List.setIfInBounds_toArray, List.set_cons_zero, List.set_cons_succ]
  apply inv_op
  case hw => rfl
  case hy =>
    intro L wS hI hL hw
    obtain ⟨Aj, cj, v2, o1, o2, hst⟩ := hI.joinX (j := 3) hL rfl rfl rfl (by decide) (by decide) HA4.out (fun m _ _ hu => by (repeat' split at hu) <;> omega) (hw 3 (by kernel_rfl))
    rw [v2]
    exact gives_append_sl (.tmp 19) (.tmp 22) 27 rfl 5 i0 (.int .u8 0) 1 Tryz.underlying27 hi hz0 hz1 hz2 rfl A4 n4 c4 _ rfl o1 Aj _ cj _ rfl o2.sl (bvs_one _) (by have hb := HBN.out; have hb4 := HN4.out; simp only [List.length_append] at hb ⊢; unfold maxLen; omega) (by have hb := HBN.out; have hb4 := HN4.out; simp only [List.length_append] at hb ⊢; omega) fun A' c' w' h1 h2 h3 => ⟨by
      have hh := hst w' A' c' (by rw [List.length_append, bvs_append, HN4.out]; exact h1) h2 h3
      rw [List.length_append, HN4.out] at hh
      exact hh, trivial⟩
  case' hk => skip
  try simp only [Act.put, List.setIfInBounds_toArray, List.set_cons_zero, List.set_cons_succ]
  apply inv_val
  case hw => rfl
  case hI => intro L wS hI; exact hI.pure rfl (fun i _ _ => by (repeat' split) <;> decide) (by decide)
  case hy => intro L wS hI; skip; first | (go_simp; done) | (go_simp; with_reducible rfl)
  case' hk => skip
  try simp only [Act.put, List.setIfInBounds_toArray, List.set_cons_zero, List.set_cons_succ]
  apply inv_val
  case hw => rfl
  case hI => intro L wS hI; exact hI.pure rfl (fun i _ _ => by (repeat' split) <;> decide) (by decide)
  case hy => intro L wS hI; have q0 := hI.1.cellSome m4 HNE.out; first | (go_simp; done) | (go_simp; with_reducible rfl)
  case' hk => skip
  try simp only [Act.put, List.setIfInBounds_toArray, List.set_cons_zero, List.set_cons_succ]
  apply inv_op
  case hw => rfl
  case hy =>
    intro L wS hI hL hw
    refine gives_call (f := 63) (args := #[.string tt]) ?_ ?_
    · first | (go_simp; done) | (go_simp; with_reducible rfl)
    · exact (HTT.out wS).mono fun e w' he => by
        obtain ⟨A', c', e1, e2, e3, e4⟩ := he
        exact ⟨_, e1, hI.call hL rfl (fun i _ _ => by (repeat' split) <;> decide) (by decide) (fun e => by cases e) e3 e2 e4, trivial⟩
  case' hk => skip
  try simp only [Act.put, List.setIfInBounds_toArray, List.set_cons_zero, List.set_cons_succ]
  apply inv_op
  case hw => rfl
  case hy =>
    intro L wS hI hL hw
    obtain ⟨Ai, ci, Aj, cj, v1, v2, o1, o2, hst⟩ := hI.join (i := 4) (j := 7) hL rfl rfl (by decide) rfl rfl rfl (by decide) (by decide) HA4.out (fun m _ _ hu => by (repeat' split at hu) <;> omega) (hw 4 (by kernel_rfl)) (hw 7 (by kernel_rfl))
    rw [v1, v2]
    exact gives_append_sl (.tmp 23) (.tmp 26) 27 rfl 5 i0 (.int .u8 0) 1 Tryz.underlying27 hi hz0 hz1 hz2 rfl Ai _ ci _ rfl o1 Aj _ cj _ rfl o2.sl (bvs_one _) (by have hb := HBN.out; simp only [List.length_append] at hb ⊢; unfold maxLen; omega) (by have hb := HBN.out; simp only [List.length_append] at hb ⊢; omega) fun A' c' w' h1 h2 h3 => ⟨by
      have hh := hst w' A' c' (by rw [List.length_append, bvs_append]; exact h1) h2 h3
      rw [List.length_append] at hh
      exact hh, trivial⟩
  case' hk => skip
  try simp only [Act.put, List.setIfInBounds_toArray, List.set_cons_zero, List.set_cons_succ]
  apply inv_val
  case hw => rfl
  case hI => intro L wS hI; exact hI.pure rfl (fun i _ _ => by (repeat' split) <;> decide) (by decide)
  case hy => intro L wS hI; skip; first | (go_simp; done) | (go_simp; with_reducible rfl)
  case' hk => skip
  try simp only [Act.put, List.setIfInBounds_toArray, List.set_cons_zero, List.set_cons_succ]
  apply inv_val
  case hw => rfl
  case hI => intro L wS hI; exact hI.pure rfl (fun i _ _ => by (repeat' split) <;> decide) (by decide)
  case hy => intro L wS hI; have q0 := hI.1.cellSome m5 HNE.out; first | (go_simp; done) | (go_simp; with_reducible rfl)
  case' hk => skip
  try simp only [Act.put, List.setIfInBounds_toArray, List.set_cons_zero, List.set_cons_succ]
  apply inv_val
  case hw => rfl
  case hI => intro L wS hI; exact hI.pure rfl (fun i _ _ => by (repeat' split) <;> decide) (by decide)
  case hy => intro L wS hI; skip; first | (go_simp; done) | (go_simp; with_reducible rfl)
  case' hk => skip
  try simp only [Act.put, List.setIfInBounds_toArray, List.set_cons_zero, List.set_cons_succ]
  apply inv_op
  case hw => rfl
  case hy =>
    intro L wS hI hL hw
    refine gives_call (f := 62) (args := #[.int .i64 (nu : Int)]) ?_ ?_
    · first | (go_simp; done) | (go_simp; with_reducible rfl)
    · exact (HNN.out wS).mono fun e w' he => by
        obtain ⟨A', c', e1, e2, e3, e4⟩ := he
        exact ⟨_, e1, hI.call hL rfl (fun i _ _ => by (repeat' split) <;> decide) (by decide) (fun e => by cases e) e3 e2 e4, trivial⟩
  case' hk => skip
  try simp only [Act.put, List.setIfInBounds_toArray, List.set_cons_zero, List.set_cons_succ]
  apply inv_op
  case hw => rfl
  case hy =>
    intro L wS hI hL hw
    obtain ⟨Ai, ci, Aj, cj, v1, v2, o1, o2, hst⟩ := hI.join (i := 8) (j := 12) hL rfl rfl (by decide) rfl rfl rfl (by decide) (by decide) HA4.out (fun m _ _ hu => by (repeat' split at hu) <;> omega) (hw 8 (by kernel_rfl)) (hw 12 (by kernel_rfl))
    rw [v1, v2]
    exact gives_append_sl (.tmp 27) (.tmp 31) 27 rfl 5 i0 (.int .u8 0) 1 Tryz.underlying27 hi hz0 hz1 hz2 rfl Ai _ ci _ rfl o1 Aj _ cj _ rfl o2.sl (bvs_one _) (by have hb := HBN.out; simp only [List.length_append] at hb ⊢; unfold maxLen; omega) (by have hb := HBN.out; simp only [List.length_append] at hb ⊢; omega) fun A' c' w' h1 h2 h3 => ⟨by
      have hh := hst w' A' c' (by rw [List.length_append, bvs_append]; exact h1) h2 h3
      rw [List.length_append] at hh
      exact hh, trivial⟩
  case' hk => skip
  try simp only [Act.put, List.setIfInBounds_toArray, List.set_cons_zero, List.set_cons_succ]
  apply inv_op
  case hw => rfl
  case hy =>
    intro L wS hI hL hw
    obtain ⟨Ai, ci, v1, hh⟩ := hI.hand (i := 13) hL rfl rfl rfl (by decide) (by decide) HA4.out (fun m _ _ hu => by (repeat' split at hu) <;> omega) (hw 13 (by kernel_rfl))
    refine gives_value (u := .slice Ai _ ci) (w' := wS) ?_ hh trivial
    rw [v1]
    first | (go_simp; done) | (go_simp; with_reducible rfl)
  case' hk => skip
  try simp only [Act.put, List.setIfInBounds_toArray, List.set_cons_zero, List.set_cons_succ]
  refine inv_end ?_
  intro L w5 hall hI
  obtain ⟨A5, c5, v5, V5, F5⟩ := hI.row (i := 14) rfl (hall 14 (by decide)) rfl
  have O3 := hI.1
  rw [v5]
  obtain ⟨P5, hP5⟩ : ∃ r, P3 ++ rb ++ rt ++ kn = r := ⟨_, rfl⟩
  rw [hP5] at V5 HEQ2 HBN ⊢
  obtain ⟨n5, hn5⟩ : ∃ n, P5.length = n := ⟨_, rfl⟩
  rw [hn5] at V5 HBN ⊢
  have lP5 : n5 ≤ 200 := HBN.out
  have hz3 := OW.out.size
  have hz5 := O3.size
  replace m5 := O3.cellSome m5 HNE.out
  replace m6 := O3.cellSome m6 HNE.out
  replace m7 := O3.cellSome m7 HNE.out
  replace m8 := O3.cellSome m8 HNE.out
  replace m9 := O3.cellSome m9 HNE.out
  replace F5 : ∀ y ∈ blks A5, w.heap.size < y := fun y hy => by
    rcases F5 y hy with h | h
    · exact F4 y h
    · omega
  have OW5 := Lib.hid (OW.out.trans O3 (fun y hy => .inr (Nat.le_of_lt (F4 y hy))))
  have HNF : Hid (w.heap.size ∉ blks A5) := fun hh => Nat.lt_irrefl _ (F5 _ hh)
  have HA5 : Hid (∀ y ∈ blks A5, y < w5.heap.size) := fun y hy => V5.lt hy
  have HN5 := Lib.hid hn5
  have HF5 := Lib.hid F5
  obtain ⟨kU, hkU⟩ : ∃ r, encs ui = r := ⟨_, rfl⟩
  obtain ⟨kM, hkM⟩ : ∃ r, encs [md, fl, dt] = r := ⟨_, rfl⟩
  have l4 : kU.length ≤ 216 := by rw [← hkU]; have := encsLen_le ui; unfold encsLen at this; omega
  have l5 : kM.length ≤ 27 := by rw [← hkM]; have := encsLen_le [md, fl, dt]; unfold encsLen at this; simpa using this
  have HNS := Lib.hid (fun (W : World) (o : Only (blks A5) w5 W) => by
    have hh := refNums_any A nu ca ui W ((HUS.out.keep OW5.out).only' o (fun hp ad e hh => by have h1 := HUS.out.lt hp ad e; have h2 := HF5.out _ hh; omega)) (fun q hq => by have := s7 q hq; omega) (by omega)
    rw [hkU] at hh
    exact hh)
  have HNM := Lib.hid (fun (W : World) (k2 : Nat) (hs : Sl W (some ⟨k2, 0, none⟩) 3 (ivs [md, fl, dt])) => by
    have hh := refNums_any (some ⟨k2, 0, none⟩) 3 3 [md, fl, dt] W hs (fun q hq => by simp at hq; rcases hq with rfl | rfl | rfl <;> omega) (by omega)
    rw [hkM] at hh
    exact hh)
  replace HBN : Hid ((P5 ++ kU ++ kM).length ≤ 600) := by show _ ≤ _; simp only [List.length_append]; rw [HN5.out]; omega
  have HEQ3 : Hid (enc (clamp kd) ++ rowEnc us ++ rowEnc ps ++ rowEnc bx ++ rowEnc to ++ enc (clamp (nu : Int)) ++ encs ui ++ encs [md, fl, dt] = P5 ++ kU ++ kM) := by show _ = _; rw [HEQ2.out, hkU, hkM]
  clear v5 hall hI hP5 hn5 HEQ2 O3 F4 F5 V4 HNE HA4 HNN HTB HTT hrb hrt hkn l1 l2 l3 rl
  go_wp2_with fail
  apply region_inv (RowsI w5 A5 n5 c5 P5 4 (fun i => if i = 3 then some kU else if i = 4 then some (P5 ++ kU) else if i = 12 then some kM else if i = 13 then some (P5 ++ kU ++ kM) else if i = 14 then some (P5 ++ kU ++ kM) else none) (fun i => if i = 3 then 4 else if i = 4 then 13 else if i = 12 then 13 else if i = 13 then 14 else 9999) 11 12 #[.int .i64 md, .int .i64 fl, .int .i64 dt]) (by kernel_rfl) (by kernel_rfl) (fun vs => RowsI.start V5 vs)
  intro vs
  apply inv_val
  case hw => rfl
  case hI => intro L wS hI; exact hI.pure rfl (fun i _ _ => by (repeat' split) <;> decide) (by decide)
  case hy => intro L wS hI; skip; first | (go_simp; done) | (go_simp; with_reducible rfl)
  case' hk => skip
  try simp only [Act.put, List.setIfInBounds_toArray, List.set_cons_zero, List.set_cons_succ]
  apply inv_val
  case hw => rfl
  case hI => intro L wS hI; exact hI.pure rfl (fun i _ _ => by (repeat' split) <;> decide) (by decide)
  case hy => intro L wS hI; skip; first | (go_simp; done) | (go_simp; with_reducible rfl)
  case' hk => skip
  try simp only [Act.put, List.setIfInBounds_toArray, List.set_cons_zero, List.set_cons_succ]
  apply inv_val
  case hw => rfl
  case hI => intro L wS hI; exact hI.pure rfl (fun i _ _ => by (repeat' split) <;> decide) (by decide)
  case hy => intro L wS hI; have q0 := hI.1.cellSome m5 HNF.out; first | (go_simp; done) | (go_simp; with_reducible rfl)
  case' hk => skip
  try simp only [Act.put, List.setIfInBounds_toArray, List.set_cons_zero, List.set_cons_succ]
  apply inv_op
  case hw => rfl
  case hy =>
    intro L wS hI hL hw
    refine gives_call (f := 64) (args := #[.slice A nu ca]) ?_ ?_
    · first | (go_simp; done) | (go_simp; with_reducible rfl)
    · exact (HNS.out wS hI.1).mono fun e w' he => by
        obtain ⟨A', c', e1, e2, e3, e4⟩ := he
        exact ⟨_, e1, hI.call hL rfl (fun i _ _ => by (repeat' split) <;> decide) (by decide) (fun e => by cases e) e3 e2 e4, trivial⟩
  case' hk => skip
  try simp only [Act.put, List.setIfInBounds_toArray, List.set_cons_zero, List.set_cons_succ]
  apply inv_op
  case hw => rfl
  case hy =>
    intro L wS hI hL hw
    obtain ⟨Aj, cj, v2, o1, o2, hst⟩ := hI.joinX (j := 3) hL rfl rfl rfl (by decide) (by decide) HA5.out (fun m _ _ hu => by (repeat' split at hu) <;> omega) (hw 3 (by kernel_rfl))
    rw [v2]
    exact gives_append_sl (.tmp 33) (.tmp 36) 27 rfl 5 i0 (.int .u8 0) 1 Tryz.underlying27 hi hz0 hz1 hz2 rfl A5 n5 c5 _ rfl o1 Aj _ cj _ rfl o2.sl (bvs_one _) (by have hb := HBN.out; have hb4 := HN5.out; simp only [List.length_append] at hb ⊢; unfold maxLen; omega) (by have hb := HBN.out; have hb4 := HN5.out; simp only [List.length_append] at hb ⊢; omega) fun A' c' w' h1 h2 h3 => ⟨by
      have hh := hst w' A' c' (by rw [List.length_append, bvs_append, HN5.out]; exact h1) h2 h3
      rw [List.length_append, HN5.out] at hh
      exact hh, trivial⟩
  case' hk => skip
  try simp only [Act.put, List.setIfInBounds_toArray, List.set_cons_zero, List.set_cons_succ]
  apply inv_val
  case hw => rfl
  case hI => intro L wS hI; exact hI.pure rfl (fun i _ _ => by (repeat' split) <;> decide) (by decide)
  case hy => intro L wS hI; skip; first | (go_simp; done) | (go_simp; with_reducible rfl)
  case' hk => skip
  try simp only [Act.put, List.setIfInBounds_toArray, List.set_cons_zero, List.set_cons_succ]
  apply inv_val
  case hw => rfl
  case hI => intro L wS hI; exact hI.pure rfl (fun i _ _ => by (repeat' split) <;> decide) (by decide)
  case hy => intro L wS hI; have q0 := hI.1.cellSome m6 HNF.out; first | (go_simp; done) | (go_simp; with_reducible rfl)
  case' hk => skip
  try simp only [Act.put, List.setIfInBounds_toArray, List.set_cons_zero, List.set_cons_succ]
  apply inv_val
  case hw => rfl
  case hI => intro L wS hI; exact hI.pure rfl (fun i _ _ => by (repeat' split) <;> decide) (by decide)
  case hy => intro L wS hI; skip; first | (go_simp; done) | (go_simp; with_reducible rfl)
  case' hk => skip
  try simp only [Act.put, List.setIfInBounds_toArray, List.set_cons_zero, List.set_cons_succ]
  apply inv_val
  case hw => rfl
  case hI => intro L wS hI; exact hI.pure rfl (fun i _ _ => by (repeat' split) <;> decide) (by decide)
  case hy => intro L wS hI; have q0 := hI.1.cellSome m7 HNF.out; first | (go_simp; done) | (go_simp; with_reducible rfl)
  case' hk => skip
  try simp only [Act.put, List.setIfInBounds_toArray, List.set_cons_zero, List.set_cons_succ]
  apply inv_val
  case hw => rfl
  case hI => intro L wS hI; exact hI.pure rfl (fun i _ _ => by (repeat' split) <;> decide) (by decide)
  case hy => intro L wS hI; skip; first | (go_simp; done) | (go_simp; with_reducible rfl)
  case' hk => skip
  try simp only [Act.put, List.setIfInBounds_toArray, List.set_cons_zero, List.set_cons_succ]
  apply inv_val
  case hw => rfl
  case hI => intro L wS hI; exact hI.pure rfl (fun i _ _ => by (repeat' split) <;> decide) (by decide)
  case hy => intro L wS hI; have q0 := hI.1.cellSome m8 HNF.out; first | (go_simp; done) | (go_simp; with_reducible rfl)
  case' hk => skip
  try simp only [Act.put, List.setIfInBounds_toArray, List.set_cons_zero, List.set_cons_succ]
  apply inv_op
  case hw => rfl
  case hy =>
    intro L wS hI hL hw
    refine gives_value (u := .slice (some ⟨wS.heap.size, 0, none⟩) 3 3) (w' := wS.alloc (.cells #[.int .i64 md, .int .i64 fl, .int .i64 dt] 3)) ?_ (hI.laid rfl (fun i _ _ => by (repeat' split) <;> decide) (by decide)) trivial
    first | (go_simp; done) | (go_simp; with_reducible rfl)
  case' hk => skip
  try simp only [Act.put, List.setIfInBounds_toArray, List.set_cons_zero, List.set_cons_succ]
  apply inv_op
  case hw => rfl
  case hy =>
    intro L wS hI hL hw
    obtain ⟨k2, v11, B11⟩ := hI.2.2.2.2.2.2.1 (hw 11 (by kernel_rfl)) hL
    refine gives_call (f := 64) (args := #[.slice (some ⟨k2, 0, none⟩) 3 3]) ?_ ?_
    · rw [v11]
      first | (go_simp; done) | (go_simp; with_reducible rfl)
    · exact (HNM.out wS k2 (Sl.of_bk B11)).mono fun e w' he => by
        obtain ⟨A', c', e1, e2, e3, e4⟩ := he
        exact ⟨_, e1, hI.call hL rfl (fun i _ _ => by (repeat' split) <;> decide) (by decide) (fun _ => hw 11 (by kernel_rfl)) e3 e2 e4, trivial⟩
  case' hk => skip
  try simp only [Act.put, List.setIfInBounds_toArray, List.set_cons_zero, List.set_cons_succ]
  apply inv_op
  case hw => rfl
  case hy =>
    intro L wS hI hL hw
    obtain ⟨Ai, ci, Aj, cj, v1, v2, o1, o2, hst⟩ := hI.join (i := 4) (j := 12) hL rfl rfl (by decide) rfl rfl rfl (by decide) (by decide) HA5.out (fun m _ _ hu => by (repeat' split at hu) <;> omega) (hw 4 (by kernel_rfl)) (hw 12 (by kernel_rfl))
    rw [v1, v2]
    exact gives_append_sl (.tmp 37) (.tmp 45) 27 rfl 5 i0 (.int .u8 0) 1 Tryz.underlying27 hi hz0 hz1 hz2 rfl Ai _ ci _ rfl o1 Aj _ cj _ rfl o2.sl (bvs_one _) (by have hb := HBN.out; simp only [List.length_append] at hb ⊢; unfold maxLen; omega) (by have hb := HBN.out; simp only [List.length_append] at hb ⊢; omega) fun A' c' w' h1 h2 h3 => ⟨by
      have hh := hst w' A' c' (by rw [List.length_append, bvs_append]; exact h1) h2 h3
      rw [List.length_append] at hh
      exact hh, trivial⟩
  case' hk => skip
  try simp only [Act.put, List.setIfInBounds_toArray, List.set_cons_zero, List.set_cons_succ]
  apply inv_op
  case hw => rfl
  case hy =>
    intro L wS hI hL hw
    obtain ⟨Ai, ci, v1, hh⟩ := hI.hand (i := 13) hL rfl rfl rfl (by decide) (by decide) HA5.out (fun m _ _ hu => by (repeat' split at hu) <;> omega) (hw 13 (by kernel_rfl))
    refine gives_value (u := .slice Ai _ ci) (w' := wS) ?_ hh trivial
    rw [v1]
    first | (go_simp; done) | (go_simp; with_reducible rfl)
  case' hk => skip
  try simp only [Act.put, List.setIfInBounds_toArray, List.set_cons_zero, List.set_cons_succ]
  refine inv_end ?_
  intro L w7 hall hI
  obtain ⟨A7, c7, v7, V7, F7⟩ := hI.row (i := 14) rfl (hall 14 (by decide)) rfl
  have O5 := hI.1
  rw [v7]
  obtain ⟨P7, hP7⟩ : ∃ r, P5 ++ kU ++ kM = r := ⟨_, rfl⟩
  rw [hP7] at V7 HEQ3 HBN ⊢
  obtain ⟨n7, hn7⟩ : ∃ n, P7.length = n := ⟨_, rfl⟩
  rw [hn7] at V7 HBN ⊢
  have lP7 : n7 ≤ 600 := HBN.out
  replace m9 := O5.cellSome m9 HNF.out
  replace F7 : ∀ y ∈ blks A7, w.heap.size < y := fun y hy => by
    rcases F7 y hy with h | h
    · exact HF5.out y h
    · have := OW5.out.size
      omega
  have OW7 := Lib.hid (OW5.out.trans O5 (fun y hy => .inr (Nat.le_of_lt (HF5.out y hy))))
  obtain ⟨kB, hkB⟩ : ∃ r, rowEnc bo = r := ⟨_, rfl⟩
  obtain ⟨mB, hmB⟩ : ∃ r, kB.length = r := ⟨_, rfl⟩
  have l6 : mB ≤ 1300 := by
    rw [← hmB, ← hkB]
    unfold rowEnc
    rw [List.length_append]
    have := enc_len9 (v := bo.length) (by omega)
    omega
  have HBY := Lib.hid (by
    have hh := refBytes_any B nb cb bo w7 (HBS.out.keep OW7.out) (by rw [← HNB.out]; omega)
    unfold Fresh at hh
    rw [hkB, hmB] at hh
    exact hh)
  have HENC : Hid (encC ⟨kd, us, ps, bx, to, ui, md, fl, dt, bo⟩ = P7 ++ kB) := by
    show _ = _
    unfold encC
    simp only
    rw [HNU.out, HEQ3.out, hkB]
  have HLEN : Hid ((P7 ++ kB).length = n7 + mB) := by show _ = _; rw [List.length_append, hn7, hmB]
  have HV7 := Lib.hid V7
  have HF7 := Lib.hid F7
  clear v7 hall hI hP7 hn7 hkB hmB HEQ3 O5 V5 HNF HA5 HN5 HNS HNM hkU hkM l4 l5 V7 F7
  go_wp2_with (first
    | (go_at_call 65; go_must (refine HBY.out.mono ?_); rintro e w8 ⟨A8, c8, rfl, V8, O8, F8⟩)
    | (refine wpList_append_sl rfl _ _ 27 rfl 5 i0 (.int .u8 0) 1 Tryz.underlying27 hi hz0 hz1 hz2 rfl A7 n7 c7 (bvs P7) rfl (HV7.out.keep O8) A8 mB c8 (bvs kB) rfl V8.sl (bvs_one kB) (by unfold maxLen; omega) (by omega) ?_; intro A9 c9 w9 V9 O9 F9))
  go_ret2
  refine .inl ⟨HBB.out, A9, c9, ?_, ?_, (OW7.out.then O8).trans O9 (fun y hy => .inr (Nat.le_of_lt (HF7.out y hy))), fun y hy => ?_⟩
  · rw [HENC.out, HLEN.out]
    rfl
  · rw [HENC.out, HLEN.out, bvs_append]
    exact V9
  · rcases F9 y hy with h | h
    · exact Nat.le_of_lt (HF7.out y h)
    · have := OW7.out.size
      have := O8.size
      omega
end Go.Proofs.YtgnilldcfpgpaaaGreatDoor
namespace Go.Proofs.YtgnilldcfpgpaaaGreatDoor
open Go.RowKit Go.Instr
theorem infoCh : (Tryz.prog.info? 29).map (·.size) = some 10 := by kernel_rfl
theorem ch_ret {fn : Func} {R : Ending → World → Prop} {tmps : Array Value} {w : World} {s u : Nat} (hres : fn.results = #[.cell s 29, .tmp u]) (p : Nat) {a0 a1 a2 a3 a4 a5 a6 a7 a8 a9 : Value} (x : Value) (h2 : tmps.getD s undef = .pointer (some ⟨p, 0, none⟩)) (h3 : tmps.getD u undef = x)
    (hb : Bk w p 29 #[a0, a1, a2, a3, a4, a5, a6, a7, a8, a9]) (hR : R (.returned (.tuple #[.agg #[a0, a1, a2, a3, a4, a5, a6, a7, a8, a9], x])) w) : bodyPost Tryz.prog fn R .ret { tmps := tmps, defers := [] } w := by
  refine bodyPost_ret (v := .tuple #[.agg #[a0, a1, a2, a3, a4, a5, a6, a7, a8, a9], x]) ?_ rfl hR
  rw [results_cell_tmp hres]
  rw [h2, h3]
  simp only [asAddr, Sem.run_pure, Result.andThen_ok]
  rw [run_loadVar_row (P := Tryz.prog) w p 29 29 #[a0, a1, a2, a3, a4, a5, a6, a7, a8, a9] (0, 0) _ hb Tryz.underlying29 rfl infoCh]
  rfl
def store10 (w : World) (g : Nat) (b0 b1 b2 b3 b4 b5 b6 b7 b8 b9 : Value) : World :=
  (((((((((w.setCell ⟨g, 0, none⟩ b0).setCell ⟨g, 1, none⟩ b1).setCell ⟨g, 2, none⟩ b2).setCell ⟨g, 3, none⟩ b3).setCell ⟨g, 4, none⟩ b4).setCell ⟨g, 5, none⟩ b5).setCell ⟨g, 6, none⟩ b6).setCell ⟨g, 7, none⟩ b7).setCell ⟨g, 8, none⟩ b8).setCell ⟨g, 9, none⟩ b9
theorem bk_store10 {w : World} {g : Nat} {t : TypeId} {a0 a1 a2 a3 a4 a5 a6 a7 a8 a9 : Value} (h : Bk w g t #[a0, a1, a2, a3, a4, a5, a6, a7, a8, a9]) (b0 b1 b2 b3 b4 b5 b6 b7 b8 b9 : Value) :
    Bk (store10 w g b0 b1 b2 b3 b4 b5 b6 b7 b8 b9) g t #[b0, b1, b2, b3, b4, b5, b6, b7, b8, b9] := by
  simpa [store10] using (((((((((h.set 0 b0).set 1 b1).set 2 b2).set 3 b3).set 4 b4).set 5 b5).set 6 b6).set 7 b7).set 8 b8).set 9 b9
theorem only_store10 {rs : List Nat} {w w' : World} {g : Nat} (o : Only rs w w') (hg : g ∈ rs ∨ w.heap.size ≤ g) (b0 b1 b2 b3 b4 b5 b6 b7 b8 b9 : Value) : Only rs w (store10 w' g b0 b1 b2 b3 b4 b5 b6 b7 b8 b9) :=
  ((((((((((o.setCell (p := ⟨g, 0, none⟩) hg b0).setCell (p := ⟨g, 1, none⟩) hg b1).setCell (p := ⟨g, 2, none⟩) hg b2).setCell (p := ⟨g, 3, none⟩) hg b3).setCell (p := ⟨g, 4, none⟩) hg b4).setCell (p := ⟨g, 5, none⟩) hg b5).setCell (p := ⟨g, 6, none⟩) hg b6).setCell (p := ⟨g, 7, none⟩) hg b7).setCell (p := ⟨g, 8, none⟩) hg b8).setCell (p := ⟨g, 9, none⟩) hg b9)
def zeroCh : Ch := ⟨0, [], [], [], [], [], 0, 0, 0, []⟩
end Go.Proofs.YtgnilldcfpgpaaaGreatDoor
namespace Go.Proofs.YtgnilldcfpgpaaaGreatDoor
open Go.RowKit Go.Maps
def UsR (K : Nat → Prop) (w : World) (pass : List UInt8) (bs' : List Bx) (v : Value) (w' : World) : Prop := ∃ mb' lbs, v = usv pass mb' ∧ BsIs K w' mb' lbs ∧ lbs.map (·.b) = bs' ∧ Only [] w w'
set_option maxRecDepth 100000 in
theorem having_any {K : Nat → Prop} {w : World} {mb : Option Nat} {bs : List Lb} (pass : List UInt8) (h : BsIs K w mb bs) (hK : ∀ x, w.heap.size ≤ x → K x) (hl : bs.length ≤ 1000) (b : Bx) {A : Option Addr} {c : Nat} (hb : Ms K w A b.l.length b.l) (hn : b.name.length ≤ 1000) :
    Calls Tryz.prog 154 #[usv pass mb, bxv b A c] w fun e w' => ∃ v, e = .returned v ∧ UsR K w pass (putL bkey b (bs.map (·.b))) v w' := by
  have hsz : (St b.name).size ≤ maxLen := by rw [St_size]; unfold maxLen; omega
  have o3 : Only [] w (((w.alloc (.cells #[.string (St pass), .map mb] 154)).alloc (.cells #[.string (St b.name), .int .i64 b.val, .int .i64 b.next, .slice A b.l.length c] 71)).alloc (.cells #[.string ⟨#[]⟩, .map none] 154)) := ((((Only.refl [] w).alloc _).alloc _).alloc _)
  have HW := Lib.hid (withB_any (h.1.keep o3) (St b.name) hsz (St b.name) b.val b.next A b.l.length c (by rw [List.length_map]; omega))
  have HP := Lib.hid (fun (w' : World) (m' : Nat) (hm : KvAt shpB w' m' (putL Prod.fst (kvB ⟨b, A, c⟩) (bs.map kvB))) (o : Only [] w w') (hn : w.heap.size ≤ m') => BsIs.put h hK (x := ⟨b, A, c⟩) hb hm o hn)
  have HPB : Hid (putL bkey b (bs.map (·.b)) = (putL Lb.key ⟨b, A, c⟩ bs).map (·.b)) := put_b ⟨b, A, c⟩ bs
  have HB0 := Lib.hid (((Bk.new w 154 #[.string (St pass), .map mb]).alloc (.cells #[.string (St b.name), .int .i64 b.val, .int .i64 b.next, .slice A b.l.length c] 71)).alloc (.cells #[.string ⟨#[]⟩, .map none] 154))
  have hB1 := (Bk.new (w.alloc (.cells #[.string (St pass), .map mb] 154)) 71 #[.string (St b.name), .int .i64 b.val, .int .i64 b.next, .slice A b.l.length c]).alloc (.cells #[.string ⟨#[]⟩, .map none] 154)
  have hB2 := Bk.new ((w.alloc (.cells #[.string (St pass), .map mb] 154)).alloc (.cells #[.string (St b.name), .int .i64 b.val, .int .i64 b.next, .slice A b.l.length c] 71)) 154 #[.string ⟨#[]⟩, .map none]
  rw [World.size_alloc] at hB1
  rw [World.size_alloc, World.size_alloc] at hB2
  have HB2 := Lib.hid hB2
  have HO3 := Lib.hid o3
  obtain ⟨c0, c1⟩ := bk_two HB0.out
  obtain ⟨d0, d1, d2, d3⟩ := bk_four hB1
  unfold usv bxv
  obtain ⟨t, ht⟩ : ∃ t, St pass = t := ⟨_, rfl⟩
  rw [ht] at HW HB0 HB2 HO3 c0 c1 d0 d1 d2 d3 ⊢
  have HT := Lib.hid ht
  clear o3 hB1 hB2 ht h hK hb
  go_enter Tryz.func154, Tryz.ntmps154
  go_wp2_with (go_at_call 198; go_must (refine HW.out.mono ?_); rintro e w2 ⟨m', rfl, K2, O2, M2⟩; have B0 := HB0.out.only O2 (by simp); have B2 := HB2.out.only O2 (by simp); have e0 := B0.cell 0; have e1 := B0.cell 1; have f1 := B0.free 1; have l0 := B0.lt; have g0 := B2.cell 0; have g1 := B2.cell 1; have h0 := B2.free 0; have h1 := B2.free 1; have l2 := B2.lt)
  have OW : Only [w.heap.size, w.heap.size + 1 + 1] w2 (((w2.setCell ⟨w.heap.size, 1, none⟩ (.map (some m'))).setCell ⟨w.heap.size + 1 + 1, 0, none⟩ (.string t)).setCell ⟨w.heap.size + 1 + 1, 1, none⟩ (.map (some m'))) := only_store2 ((Only.refl _ w2).setCell (p := ⟨w.heap.size, 1, none⟩) (.inl (by simp)) _) (.inl (by simp)) _ _
  have OA := (HO3.out.then O2).trans OW (fun x hx => .inr (by simp at hx; omega))
  have hm3 : w.heap.size + 1 + 1 + 1 ≤ m' := by simpa using M2
  have HN := HP.out _ m' (K2.only OW (by simp; omega)) OA (by omega)
  exact us_ret (s := 4) (by kernel_rfl) (w.heap.size + 1 + 1) _ _ rfl (bk_store2 (B2.far (p := ⟨w.heap.size, 1, none⟩) (by show _ ≠ w.heap.size; omega) _) _ _) ⟨_, rfl, some m', _, by unfold usv; rw [HT.out], HN, HPB.out.symm, OA⟩
end Go.Proofs.YtgnilldcfpgpaaaGreatDoor
namespace Go.Proofs.YtgnilldcfpgpaaaGreatDoor
theorem rises_mono {a b : Int} (h : a ≤ b) : ∀ (l : List Mg) (last : Int), rises a last l = true → rises b last l = true
  | [], _, _ => rfl
  | m :: r, last, hr => by
    simp only [rises, Bool.and_eq_true] at hr ⊢
    obtain ⟨h1, h2⟩ := hr
    refine ⟨?_, rises_mono h r _ h2⟩
    rw [mgOk_iff] at h1 ⊢
    omega
theorem lastU_lt {next : Int} {l : List Mg} (h : rises next 0 l = true) (hl : l ≠ []) : lastU l l.length < next := by
  obtain ⟨k, hk⟩ : ∃ k, l.length = k + 1 := ⟨l.length - 1, by have := List.length_pos_iff.2 hl; omega⟩
  rw [hk]
  simp only [lastU]
  rw [List.getElem?_eq_getElem (show k < l.length by omega)]
  exact (rises_drop next l 0 k (by omega) h).2.2.1
theorem addE_zero {b : Bx} {f d : Int} {n : Nat} (h : addE b f d n = 0) : markOk f d = true ∧ n ≤ 1200 ∧ b.l.length < 24 ∧ b.next < 1048576 := by
  unfold addE at h
  split at h
  · cases h
  · rename_i h1
    split at h
    · cases h
    · split at h
      · cases h
      · split at h
        · cases h
        · exact ⟨by simpa using h1, by omega, by omega, by omega⟩
theorem isB_add {b : Bx} (h : isB b = true) (f d : Int) (p : List UInt8) : isB (addB b f d p) = true := by
  unfold addB
  split
  · rename_i he
    obtain ⟨h1, h2, h3, h4⟩ := addE_zero he
    rw [isB_iff] at h ⊢
    obtain ⟨g1, g2, g3, g4, g5⟩ := h
    refine ⟨g1, g2, ⟨by show 1 ≤ b.next + 1; omega, by show b.next + 1 ≤ 1048576; omega⟩, by show (b.l ++ [_]).length ≤ 24; rw [List.length_append]; simp; omega, ?_⟩
    show rises (b.next + 1) 0 (b.l ++ [⟨b.next, f, d, p⟩]) = true
    rw [rises_snoc, Bool.and_eq_true]
    refine ⟨rises_mono (by omega) _ _ g5, ?_⟩
    rw [mgOk_iff]
    rw [markOk_iff] at h1
    refine ⟨?_, by show b.next < b.next + 1; omega, h1, h2⟩
    show _ < b.next
    split
    · omega
    · rename_i hl
      exact lastU_lt g5 hl
  · exact h
theorem isB_zero {b : Bx} (h : isB b = true) : b.l.length ≤ 1000000 ∧ (∀ m ∈ b.l, m.body.length ≤ 1000000) ∧ 0 ≤ b.next ∧ b.name.length ≤ 12 ∧ b.l.length ≤ 24 ∧ (∀ m ∈ b.l, m.body.length ≤ 1200) := by
  rw [isB_iff] at h
  obtain ⟨g1, g2, g3, g4, g5⟩ := h
  unfold nameL at g1
  simp only [Bool.and_eq_true, decide_eq_true_eq] at g1
  exact ⟨by omega, fun m hm => by have := (rises_at g5 hm).2.2.2; omega, by omega, g1.1.2, g4, fun m hm => (rises_at g5 hm).2.2.2⟩
theorem copyL_skip {ids : List Int} {m : Mg} (h : hasU ids m.uid = false) (to : Bx) (r : List Mg) : copyL ids to (m :: r) = copyL ids to r := by
  rw [copyL, if_neg (by rw [h]; simp)]
theorem copyL_hit {ids : List Int} {m : Mg} (h : hasU ids m.uid = true) {to : Bx} (he : addE to m.flags m.date m.body.length = 0) (r : List Mg) : copyL ids to (m :: r) = ((copyL ids (addB to m.flags m.date m.body) r).1, (copyL ids (addB to m.flags m.date m.body) r).2.1, (copyL ids (addB to m.flags m.date m.body) r).2.2 + 1) := by
  rw [copyL, if_pos h, if_pos he]
theorem copyL_err {ids : List Int} {m : Mg} (h : hasU ids m.uid = true) {to : Bx} (he : addE to m.flags m.date m.body.length ≠ 0) (r : List Mg) : copyL ids to (m :: r) = (addE to m.flags m.date m.body.length, to, 0) := by
  rw [copyL, if_pos h, if_neg he]
theorem copyL_app (ids : List Int) : ∀ (p q : List Mg) (to : Bx), (copyL ids to p).1 = 0 → copyL ids to (p ++ q) = ((copyL ids (copyL ids to p).2.1 q).1, (copyL ids (copyL ids to p).2.1 q).2.1, (copyL ids (copyL ids to p).2.1 q).2.2 + (copyL ids to p).2.2)
  | [], q, to, _ => by simp [copyL]
  | m :: r, q, to, h => by
    rw [List.cons_append]
    cases h1 : hasU ids m.uid with
    | true =>
      by_cases h2 : addE to m.flags m.date m.body.length = 0
      · rw [copyL_hit h1 h2] at h ⊢
        rw [copyL_hit h1 h2]
        simp only
        rw [copyL_app ids r q _ h]
        simp [Nat.add_assoc]
      · rw [copyL_err h1 h2] at h
        exact absurd h h2
    | false =>
      rw [copyL_skip h1] at h ⊢
      rw [copyL_skip h1]
      exact copyL_app ids r q to h
theorem copyL_one (ids : List Int) (to : Bx) (m : Mg) : copyL ids to [m] = if hasU ids m.uid then (if addE to m.flags m.date m.body.length = 0 then (0, addB to m.flags m.date m.body, 1) else (addE to m.flags m.date m.body.length, to, 0)) else (0, to, 0) := by
  unfold copyL
  split <;> (try split) <;> rfl
theorem copyL_bad (ids : List Int) : ∀ (p q : List Mg) (to : Bx), (copyL ids to p).1 ≠ 0 → (copyL ids to (p ++ q)).1 = (copyL ids to p).1
  | [], q, to, h => absurd rfl h
  | m :: r, q, to, h => by
    rw [List.cons_append]
    cases h1 : hasU ids m.uid with
    | true =>
      by_cases h2 : addE to m.flags m.date m.body.length = 0
      · rw [copyL_hit h1 h2] at h ⊢
        rw [copyL_hit h1 h2]
        exact copyL_bad ids r q _ h
      · rw [copyL_err h1 h2, copyL_err h1 h2]
    | false =>
      rw [copyL_skip h1] at h ⊢
      rw [copyL_skip h1]
      exact copyL_bad ids r q to h
theorem isB_copyL (ids : List Int) : ∀ (l : List Mg) {to : Bx}, isB to = true → isB (copyL ids to l).2.1 = true
  | [], _, h => h
  | m :: r, to, h => by
    unfold copyL
    split
    · split
      · exact isB_copyL ids r (isB_add h _ _ _)
      · exact h
    · exact isB_copyL ids r h
theorem name_copyL (ids : List Int) : ∀ (l : List Mg) (to : Bx), (copyL ids to l).2.1.name = to.name
  | [], _ => rfl
  | m :: r, to => by
    unfold copyL
    split
    · split
      · show (copyL ids _ r).2.1.name = _
        rw [name_copyL ids r]
        unfold addB
        split <;> rfl
      · rfl
    · exact name_copyL ids r to
theorem copyN_le (ids : List Int) : ∀ (l : List Mg) (to : Bx), (copyL ids to l).2.2 ≤ l.length
  | [], _ => Nat.le_refl _
  | m :: r, to => by
    unfold copyL
    split
    · split
      · have := copyN_le ids r (addB to m.flags m.date m.body)
        show _ + 1 ≤ r.length + 1
        omega
      · exact Nat.zero_le _
    · have := copyN_le ids r to
      rw [List.length_cons]
      omega
theorem name_addB (b : Bx) (f d : Int) (p : List UInt8) : (addB b f d p).name = b.name := by unfold addB; split <;> rfl
end Go.Proofs.YtgnilldcfpgpaaaGreatDoor
