/-
  Texts of the seat, laid one behind the other: SEnc SUser2 SState.
-/
import Derived.Test.YtgnilldcfpgpaaaGreatDoorY13
import Derived.Test.YtgnilldcfpgpaaaGreatDoorY12
import Derived.Test.YtgnilldcfpgpaaaGreatDoorY3
import Derived.Test.YtgnilldcfpgpaaaGreatDoorY9
namespace Go.Proofs.YtgnilldcfpgpaaaGreatDoor
open Go.RowKit Go.Instr
theorem WJ.numsV {S : Nat → Prop} {W : World} {g : Nat} {P : List UInt8} (h : WJ S W g P) (hS : ∀ y, W.heap.size ≤ y → S y) (V : Option Addr) (n cv : Nat) (vs : List Int) (hv : Sl W V n (ivs vs)) (hd : 0 < n → ∀ ad, V = some ad → ¬ S ad.block) (hf : Fits vs) (hn : n ≤ 1000000) (hP : P.length ≤ 1000000) :
    Calls Tryz.prog 59 #[.pointer (some ⟨g, 0, none⟩), .slice V n cv] W fun e w' => WJA S W g (P ++ encs vs) e w' := by
  obtain ⟨A, c, h1, h2⟩ := h
  exact (wnums_any g A c P V n cv vs W h1 hv hf (fun hp ad e hh => hd hp ad e (h2 _ hh)) (by omega) (by omega)).mono fun e w' hl => WJA.of h1 h2 hS hl
theorem WJ.num1 {S : Nat → Prop} {W : World} {g : Nat} {P : List UInt8} (h : WJ S W g P) (hS : ∀ y, W.heap.size ≤ y → S y) (a : Int) (hf : Fits [a]) (hP : P.length ≤ 1000000) :
    Calls Tryz.prog 59 #[.pointer (some ⟨g, 0, none⟩), .slice (some ⟨W.heap.size, 0, none⟩) 1 1] (W.alloc (.cells #[.int .i64 a] 3)) fun e w' => ∃ w1, Only [] W w1 ∧ WJA S w1 g (P ++ encs [a]) e w' := by
  obtain ⟨A, c, h1, h2⟩ := h
  have ho : Only [] W (W.alloc (.cells #[.int .i64 a] 3)) := (Only.refl [] W).alloc _
  refine (wnums_any g A c P (some ⟨W.heap.size, 0, none⟩) 1 1 [a] _ (h1.keep ho) (Sl.of_bk (Bk.new W _ _)) hf (fun _ ad e hh => ?_) (by omega) (by omega)).mono fun e w' hl => ⟨_, ho, WJA.of (h1.keep ho) h2 (fun y hy => hS y (Nat.le_trans ho.size hy)) hl⟩
  injection e with e
  subst e
  rcases List.mem_cons.1 hh with h | h
  · have := h1.1.lt
    simp only at h
    omega
  · have := h1.2.lt h
    simp only at this
    omega
theorem rows_four {S : Nat → Prop} {w : World} {g : Nat} {t : TypeId} {b1 b2 b3 b4 n1 n2 n3 n4 c1 c2 c3 c4 : Nat} {l1 l2 l3 l4 : List UInt8} (h : Bk w g t #[.slice (some ⟨b1, 0, none⟩) n1 c1, .slice (some ⟨b2, 0, none⟩) n2 c2, .slice (some ⟨b3, 0, none⟩) n3 c3, .slice (some ⟨b4, 0, none⟩) n4 c4])
    (e1 : l1.length = n1) (e2 : l2.length = n2) (e3 : l3.length = n3) (e4 : l4.length = n4) (s1 : Sl w (some ⟨b1, 0, none⟩) n1 (bvs l1)) (s2 : Sl w (some ⟨b2, 0, none⟩) n2 (bvs l2)) (s3 : Sl w (some ⟨b3, 0, none⟩) n3 (bvs l3)) (s4 : Sl w (some ⟨b4, 0, none⟩) n4 (bvs l4))
    (hg : S g) (k1 : S b1) (k2 : S b2) (k3 : S b3) (k4 : S b4) : RwS S w (some ⟨g, 0, none⟩) 4 [l1, l2, l3, l4] := by
  subst e1 e2 e3 e4
  refine ⟨rfl, _, Sl.of_bk h, fun _ ad e => by injection e with e; subst e; exact hg, fun i l' hi => ?_⟩
  match i, hi with
  | 0, hi => simp at hi; subst hi; exact ⟨_, c1, by simp, s1, fun _ ad e => by injection e with e; subst e; exact k1⟩
  | 1, hi => simp at hi; subst hi; exact ⟨_, c2, by simp, s2, fun _ ad e => by injection e with e; subst e; exact k2⟩
  | 2, hi => simp at hi; subst hi; exact ⟨_, c3, by simp, s3, fun _ ad e => by injection e with e; subst e; exact k3⟩
  | 3, hi => simp at hi; subst hi; exact ⟨_, c4, by simp, s4, fun _ ad e => by injection e with e; subst e; exact k4⟩
theorem WJ.rows4 {S : Nat → Prop} {W : World} {g : Nat} {P : List UInt8} (h : WJ S W g P) (hS : ∀ y, W.heap.size ≤ y → S y) {b1 b2 b3 b4 n1 n2 n3 n4 : Nat} (c1 c2 c3 c4 : Nat) {l1 l2 l3 l4 : List UInt8}
    (e1 : l1.length = n1) (e2 : l2.length = n2) (e3 : l3.length = n3) (e4 : l4.length = n4) (s1 : Sl W (some ⟨b1, 0, none⟩) n1 (bvs l1)) (s2 : Sl W (some ⟨b2, 0, none⟩) n2 (bvs l2)) (s3 : Sl W (some ⟨b3, 0, none⟩) n3 (bvs l3)) (s4 : Sl W (some ⟨b4, 0, none⟩) n4 (bvs l4))
    (k1 : ¬ S b1) (k2 : ¬ S b2) (k3 : ¬ S b3) (k4 : ¬ S b4) (hP : P.length ≤ 1000000) (z1 : n1 ≤ 10000) (z2 : n2 ≤ 10000) (z3 : n3 ≤ 10000) (z4 : n4 ≤ 10000) :
    Calls Tryz.prog 60 #[.pointer (some ⟨g, 0, none⟩), .slice (some ⟨W.heap.size, 0, none⟩) 4 4] (W.alloc (.cells #[.slice (some ⟨b1, 0, none⟩) n1 c1, .slice (some ⟨b2, 0, none⟩) n2 c2, .slice (some ⟨b3, 0, none⟩) n3 c3, .slice (some ⟨b4, 0, none⟩) n4 c4] 27)) fun e w' => ∃ w1, Only [] W w1 ∧ WJA S w1 g (P ++ rowsEnc [l1, l2, l3, l4]) e w' := by
  obtain ⟨A, c, h1, h2⟩ := h
  have ho : Only [] W (W.alloc (.cells #[.slice (some ⟨b1, 0, none⟩) n1 c1, .slice (some ⟨b2, 0, none⟩) n2 c2, .slice (some ⟨b3, 0, none⟩) n3 c3, .slice (some ⟨b4, 0, none⟩) n4 c4] 27)) := (Only.refl [] W).alloc _
  refine (wbytes_any g A c P (some ⟨W.heap.size, 0, none⟩) 4 4 [l1, l2, l3, l4] _ (fun k => k ∉ g :: blks A) (h1.keep ho) (rows_four (Bk.new W 27 _) e1 e2 e3 e4 (s1.keep ho) (s2.keep ho) (s3.keep ho) (s4.keep ho) (fun hh => ?_) (fun hh => k1 (h2 _ hh)) (fun hh => k2 (h2 _ hh)) (fun hh => k3 (h2 _ hh)) (fun hh => k4 (h2 _ hh))) (fun k hk => hk) (by omega) ?_).mono fun e w' hl => ⟨_, ho, WJA.of (h1.keep ho) h2 (fun y hy => hS y (Nat.le_trans ho.size hy)) hl⟩
  · rcases List.mem_cons.1 hh with h | h
    · have := h1.1.lt
      omega
    · have := h1.2.lt h
      omega
  · unfold rowsLen rowsEnc
    simp only [List.map_cons, List.map_nil, List.flatten_cons, List.flatten_nil, List.length_append, List.length_nil]
    have r1 := row_len l1 (by omega)
    have r2 := row_len l2 (by omega)
    have r3 := row_len l3 (by omega)
    have r4 := row_len l4 (by omega)
    omega
theorem conv_lt (s : List UInt8) (w : World) : ∃ w' c, (convert 9 27 (.string (St s))).run Tryz.prog w = .ok (.slice (some ⟨w.heap.size, 0, none⟩) s.length c) w' ∧ Sl w' (some ⟨w.heap.size, 0, none⟩) s.length (bvs s) ∧ Only [] w w' ∧ w.heap.size < w'.heap.size := conv_sl2 s w
set_option maxRecDepth 100000 in
set_option maxHeartbeats 1600000 in
theorem EncodeC_any {w : World} (c : Ch) {A B : Option Addr} {ca cb : Nat} (hU : Sl w A c.uids.length (ivs c.uids)) (hB : Sl w B c.body.length (bvs c.body)) (hn : c.uids.length ≤ 140737488355328) (hT : TabN w) (hpos : 0 < w.heap.size) :
    Calls Tryz.prog 26 #[chv c A ca B cb] w (EncCR w c) := by
  have cM := fun (W : World) (o : Only [] w W) => may_any c (ca := ca) (cb := cb) (B := B) (hU.keep o) hn (hT.keep o) (Nat.lt_of_lt_of_le hpos o.size)
  have hUl := hU.lt
  have hBl := hB.lt
  have hsm := isC_small (c := c)
  have hencL : encC c = [] ++ encs [c.kind] ++ rowsEnc [c.user, c.pass, c.box, c.to] ++ encs [(c.uids.length : Int)] ++ encs c.uids ++ encs [c.mode, c.flags, c.date] ++ rowEnc c.body := by
    unfold encC
    simp [encs, rowsEnc, List.append_assoc]
  obtain ⟨q, hq⟩ : ∃ q, isC c = q := ⟨_, rfl⟩
  have HEY : Hid (q = true → ∀ (w' : World) (A' : Option Addr) (c' : Nat), Own w' 5 A' (encC c).length c' (bvs (encC c)) → Only [] w w' → (∀ k ∈ blks A', w.heap.size ≤ k) → EncCR w c (.returned (.tuple #[.slice A' (encC c).length c', .int .i64 0])) w') := fun e w' A' c' h1 h2 h3 => .inl ⟨hq.trans e, A', c', rfl, h1, h2, h3⟩
  have HEN0 : Hid (q = false → ∀ w', Only [] w w' → EncCR w c (.returned (.tuple #[.slice none 0 0, .int .i64 1])) w') := fun e w' h => .inr ⟨hq.trans e, rfl, h⟩
  rw [hq] at cM hsm
  obtain ⟨kd, us, ps, bx, to, ui, md, fl, dt, bo⟩ := c
  unfold chv at cM ⊢
  simp only at hU hB hn hencL hUl hBl hsm cM ⊢
  generalize encC ⟨kd, us, ps, bx, to, ui, md, fl, dt, bo⟩ = E at *
  have cv1 := conv_lt us
  have cv2 := conv_lt ps
  have cv3 := conv_lt bx
  have cv4 := conv_lt to
  obtain ⟨n1, e1⟩ : ∃ n, us.length = n := ⟨_, rfl⟩
  obtain ⟨n2, e2⟩ : ∃ n, ps.length = n := ⟨_, rfl⟩
  obtain ⟨n3, e3⟩ : ∃ n, bx.length = n := ⟨_, rfl⟩
  obtain ⟨n4, e4⟩ : ∃ n, to.length = n := ⟨_, rfl⟩
  rw [e1] at cv1
  rw [e2] at cv2
  rw [e3] at cv3
  rw [e4] at cv4
  rw [e1, e2, e3, e4] at hsm
  generalize St us = tu at *
  generalize St ps = tp at *
  generalize St bx = tb at *
  generalize St to = tt at *
  obtain ⟨nu, hnu⟩ : ∃ n, ui.length = n := ⟨_, rfl⟩
  obtain ⟨nb, hnb⟩ : ∃ n, bo.length = n := ⟨_, rfl⟩
  rw [hnu] at cM hU hn hUl hsm hencL ⊢
  rw [hnb] at cM hB hBl hsm ⊢
  have HNB := Lib.hid hnb
  have HE1 := Lib.hid e1
  have HE2 := Lib.hid e2
  have HE3 := Lib.hid e3
  have HE4 := Lib.hid e4
  have hO1 : Only [] w (w.alloc (.cells #[.int .i64 kd, .string tu, .string tp, .string tb, .string tt, .slice A nu ca, .int .i64 md, .int .i64 fl, .int .i64 dt, .slice B nb cb] 29)) := (Only.refl _ _).alloc _
  have HM := Lib.hid (cM _ hO1)
  have HO := Lib.hid hO1
  have HBK := Lib.hid (Bk.new w 29 #[.int .i64 kd, .string tu, .string tp, .string tb, .string tt, .slice A nu ca, .int .i64 md, .int .i64 fl, .int .i64 dt, .slice B nb cb])
  have HC1 := Lib.hid cv1
  have HC2 := Lib.hid cv2
  have HC3 := Lib.hid cv3
  have HC4 := Lib.hid cv4
  have HSU := Lib.hid hU
  have HSB := Lib.hid hB
  have HUL := Lib.hid hUl
  have HBL := Lib.hid hBl
  have HSM := Lib.hid hsm
  have HEN := Lib.hid hencL
  have HQ := Lib.hid hq
  obtain ⟨m00, m1, m2, m3, m4, m5, m6, m7, m8, m9⟩ := bk_ten HBK.out
  clear cM cv1 cv2 cv3 cv4 hU hB hUl hBl hsm hencL hO1 hn hT hpos hq hnu hnb e1 e2 e3 e4
  go_enter Tryz.func26, Tryz.ntmps26
  cases q
  · go_wp2_with (go_at_call 58; go_must (refine HM.out.mono ?_); rintro e w2 ⟨rfl, O2⟩)
    go_ret2
    exact HEN0.out (by trivial) _ (HO.out.then O2)
  obtain ⟨⟨sk1, sk2⟩, sn1, sn2, sn3, sn4, ⟨snu, sui⟩, ⟨sm1, sm2⟩, ⟨sf1, sf2⟩, ⟨sd1, sd2⟩, snb⟩ := HSM.out rfl
  have HFU : Hid (Fits ui) := fun v hv => by have := sui v hv; omega
  have HF1 : Hid (Fits [kd]) := by intro v hv; simp at hv; subst hv; omega
  have HF2 : Hid (Fits [(nu : Int)]) := by intro v hv; simp at hv; subst hv; omega
  have HF3 : Hid (Fits [md, fl, dt]) := by intro v hv; simp at hv; rcases hv with rfl | rfl | rfl <;> omega
  obtain ⟨P1, hP1⟩ : ∃ P, [] ++ encs [kd] = P := ⟨_, rfl⟩
  obtain ⟨P2, hP2⟩ : ∃ P, P1 ++ rowsEnc [us, ps, bx, to] = P := ⟨_, rfl⟩
  obtain ⟨P3, hP3⟩ : ∃ P, P2 ++ encs [(nu : Int)] = P := ⟨_, rfl⟩
  obtain ⟨P4, hP4⟩ : ∃ P, P3 ++ encs ui = P := ⟨_, rfl⟩
  obtain ⟨P5, hP5⟩ : ∃ P, P4 ++ encs [md, fl, dt] = P := ⟨_, rfl⟩
  have hE : P5 ++ rowEnc bo = E := by rw [HEN.out, hP1, hP2, hP3, hP4, hP5]
  have l1 : P1.length ≤ 9 := by
    rw [← hP1]; have := encsLen_le [kd]; unfold encsLen at this; simpa using this
  have l2 : P2.length ≤ 200 := by
    rw [← hP2, List.length_append]
    unfold rowsEnc
    simp only [List.map_cons, List.map_nil, List.flatten_cons, List.flatten_nil, List.length_append, List.length_nil]
    have r1 := row_len us (by rw [HE1.out]; omega)
    have r2 := row_len ps (by rw [HE2.out]; omega)
    have r3 := row_len bx (by rw [HE3.out]; omega)
    have r4 := row_len to (by rw [HE4.out]; omega)
    rw [HE1.out] at r1
    rw [HE2.out] at r2
    rw [HE3.out] at r3
    rw [HE4.out] at r4
    omega
  have l3 : P3.length ≤ 300 := by
    rw [← hP3, List.length_append]; have := encsLen_le [(nu : Int)]; unfold encsLen at this; simp only [List.length_cons, List.length_nil] at this; omega
  have l4 : P4.length ≤ 600 := by
    have hui : ui.length = nu := by have := HSU.out.len; simpa [ivs] using this
    rw [← hP4, List.length_append]; have := encsLen_le ui; unfold encsLen at this; rw [hui] at this; omega
  have l5 : P5.length ≤ 700 := by
    rw [← hP5, List.length_append]; have := encsLen_le [md, fl, dt]; unfold encsLen at this; simp only [List.length_cons, List.length_nil] at this; omega
  have l6 : E.length ≤ 3000 := by
    rw [← hE, List.length_append]; have := row_len bo (by rw [HNB.out]; omega); rw [HNB.out] at this; omega
  have HW1 := Lib.hid (fun (w2 : World) (hlt : w.heap.size < w2.heap.size) => by
    have hw : WJ (fun y => w.heap.size < y) (w2.alloc (.cells #[.slice none 0 0] 134)) w2.heap.size [] := ⟨none, 0, Wr.new w2, fun y hy => by simp at hy; subst hy; exact hlt⟩
    have hb := hw.num1 (fun y hy => by simp at hy; omega) kd HF1.out (by simp)
    rw [hP1, World.size_alloc] at hb
    exact hb)
  have HW2 := Lib.hid (fun (W Wa Wb Wc Wd : World) (g c1 c2 c3 c4 : Nat) (hw : WJ (fun y => w.heap.size < y) W g P1) (oa : Only [] W Wa) (ob : Only [] Wa Wb) (oc : Only [] Wb Wc) (od : Only [] Wc Wd) (za : W.heap.size < Wa.heap.size) (zb : Wa.heap.size < Wb.heap.size) (zc : Wb.heap.size < Wc.heap.size) (zd : Wc.heap.size < Wd.heap.size) (hlt : w.heap.size < W.heap.size)
      (s1 : Sl Wa (some ⟨W.heap.size, 0, none⟩) n1 (bvs us)) (s2 : Sl Wb (some ⟨Wa.heap.size, 0, none⟩) n2 (bvs ps)) (s3 : Sl Wc (some ⟨Wb.heap.size, 0, none⟩) n3 (bvs bx)) (s4 : Sl Wd (some ⟨Wc.heap.size, 0, none⟩) n4 (bvs to)) => by
    have hw' := (hw.mono (S' := fun y => w.heap.size < y ∧ y ≠ W.heap.size ∧ y ≠ Wa.heap.size ∧ y ≠ Wb.heap.size ∧ y ≠ Wc.heap.size) (fun y hl hy => ⟨hy, by omega, by omega, by omega, by omega⟩)).keep (((oa.then ob).then oc).then od)
    have hb := hw'.rows4 (fun y hy => ⟨by omega, by omega, by omega, by omega, by omega⟩) c1 c2 c3 c4 HE1.out HE2.out HE3.out HE4.out (((s1.keep ob).keep oc).keep od) ((s2.keep oc).keep od) (s3.keep od) s4 (fun hh => hh.2.1 rfl) (fun hh => hh.2.2.1 rfl) (fun hh => hh.2.2.2.1 rfl) (fun hh => hh.2.2.2.2 rfl) (by omega) (by omega) (by omega) (by omega) (by omega)
    rw [hP2] at hb
    exact hb)
  have HW3 := Lib.hid (fun (W : World) (g : Nat) (hw : WJ (fun y => w.heap.size < y) W g P2) (hlt : w.heap.size < W.heap.size) => by
    have := hw.num1 (fun y hy => by omega) (nu : Int) HF2.out (by omega)
    rw [hP3] at this
    exact this)
  have HW4 := Lib.hid (fun (W : World) (g : Nat) (hw : WJ (fun y => w.heap.size < y) W g P3) (o : Only [] w W) (hlt : w.heap.size < W.heap.size) => by
    have := hw.numsV (fun y hy => by omega) A nu ca ui (HSU.out.keep o) (fun hp ad e hh => by have := HUL.out hp ad e; omega) HFU.out (by omega) (by omega)
    rw [hP4] at this
    exact this)
  have HW5 := Lib.hid (fun (W : World) (g : Nat) (hw : WJ (fun y => w.heap.size < y) W g P4) (hlt : w.heap.size < W.heap.size) => by
    have := hw.nums (fun y hy => by omega) md fl dt HF3.out (by omega)
    rw [hP5] at this
    exact this)
  have HW6 := Lib.hid (fun (W : World) (g : Nat) (hw : WJ (fun y => w.heap.size < y) W g P5) (o : Only [] w W) (hlt : w.heap.size < W.heap.size) => by
    have := hw.bytes (fun y hy => by omega) B nb cb bo (HSB.out.keep o) (fun hp ad e hh => by have := HBL.out hp ad e; omega) (by omega) (by omega)
    rw [hE] at this
    exact this)
  have HW7 := Lib.hid (fun (W : World) (g : Nat) (hw : WJ (fun y => w.heap.size < y) W g E) => hw.out (by omega))
  clear hP1 hP2 hP3 hP4 hP5 hE l1 l2 l3 l4 l5 l6 sk1 sk2 sn1 sn2 sn3 sn4 snu sui sm1 sm2 sf1 sf2 sd1 sd2 snb
  go_wp2_with (first
    | (go_at_call 61; refine (HW7.out w10 _ j10).mono ?_; rintro e w11 ⟨A11, c11, rfl, V11, O11, F11⟩)
    | (go_at_call 60; refine (HW6.out w9 _ j9 O9 B9.lt).mono ?_; clear HW6; rintro e w10 ⟨w10a, o10, J10⟩; obtain rfl := J10.1; have O10 := J10.only o10 O9 (fun y hy => Nat.le_of_lt hy); have j10 := J10.2.1)
    | (go_at_call 59; refine (HW5.out w8 _ j8 B8.lt).mono ?_; clear HW5; rintro e w9 ⟨w9a, o9, J9⟩; obtain rfl := J9.1; have O9 := J9.only o9 O8 (fun y hy => Nat.le_of_lt hy); have B9 := J9.bk o9 B8 (fun hh => Nat.lt_irrefl _ hh); have j9 := J9.2.1; clear m00 m1 m2 m3 m4 m5 m6 m7 m8 m9; obtain ⟨m00, m1, m2, m3, m4, m5, m6, m7, m8, m9⟩ := bk_ten B9)
    | (go_at_call 59; refine (HW4.out w7 _ j7 O7 B7.lt).mono ?_; clear HW4; rintro e w8 J8; have o8 := Only.refl [] w7; obtain rfl := J8.1; have O8 := J8.only o8 O7 (fun y hy => Nat.le_of_lt hy); have B8 := J8.bk o8 B7 (fun hh => Nat.lt_irrefl _ hh); have j8 := J8.2.1; clear m00 m1 m2 m3 m4 m5 m6 m7 m8 m9; obtain ⟨m00, m1, m2, m3, m4, m5, m6, m7, m8, m9⟩ := bk_ten B8)
    | (go_at_call 59; refine (HW3.out w6 _ j6 B6.lt).mono ?_; clear HW3; rintro e w7 ⟨w7a, o7, J7⟩; obtain rfl := J7.1; have O7 := J7.only o7 O6 (fun y hy => Nat.le_of_lt hy); have B7 := J7.bk o7 B6 (fun hh => Nat.lt_irrefl _ hh); have j7 := J7.2.1; clear m00 m1 m2 m3 m4 m5 m6 m7 m8 m9; obtain ⟨m00, m1, m2, m3, m4, m5, m6, m7, m8, m9⟩ := bk_ten B7)
    | (go_at_call 60; refine (HW2.out w5 w5a w5b w5c w5d w2.heap.size c5a c5b c5c c5d j5 oa ob oc od za zb zc zd B5.lt sa sb sc sd).mono ?_; clear HW2; rintro e w6 ⟨w6a, o6, J6⟩; obtain rfl := J6.1; have O6 := J6.only o6 ((((O5.then oa).then ob).then oc).then od) (fun y hy => Nat.le_of_lt hy.1); have B6 := J6.bk o6 ((((B5.only oa (by simp)).only ob (by simp)).only oc (by simp)).only od (by simp)) (fun hh => Nat.lt_irrefl _ hh.1); have j6 := (WJ.mono (S' := fun y => w.heap.size < y) J6.2.1 (fun y _ hy => hy.1)); clear m00 m1 m2 m3 m4 m5 m6 m7 m8 m9; obtain ⟨m00, m1, m2, m3, m4, m5, m6, m7, m8, m9⟩ := bk_ten B6)
    | (go_at_call 59; refine (HW1.out w2 hlt2).mono ?_; clear HW1; rintro e w5 ⟨w5x, o5, J5⟩; obtain rfl := J5.1; have O5 := J5.only o5 (O2.alloc _) (fun y hy => Nat.le_of_lt hy); have B5 := J5.bk o5 (B2.alloc _) (fun hh => Nat.lt_irrefl _ hh); have j5 := J5.2.1; clear m00 m1 m2 m3 m4 m5 m6 m7 m8 m9; obtain ⟨m00, m1, m2, m3, m4, m5, m6, m7, m8, m9⟩ := bk_ten B5; obtain ⟨w5a, c5a, q5a, sa, oa, za⟩ := HC1.out w5; obtain ⟨w5b, c5b, q5b, sb, ob, zb⟩ := HC2.out w5a; obtain ⟨w5c, c5c, q5c, sc, oc, zc⟩ := HC3.out w5b; obtain ⟨w5d, c5d, q5d, sd, od, zd⟩ := HC4.out w5c; have p2 := oa.cellSome m2 (by simp); have p3 := ob.cellSome (oa.cellSome m3 (by simp)) (by simp); have p4 := oc.cellSome (ob.cellSome (oa.cellSome m4 (by simp)) (by simp)) (by simp))
    | (go_at_call 58; go_must (refine HM.out.mono ?_); rintro e w2 ⟨rfl, o2⟩; have O2 := HO.out.then o2; have B2 := HBK.out.only o2 (by simp); have hlt2 := B2.lt; clear m00 m1 m2 m3 m4 m5 m6 m7 m8 m9; obtain ⟨m00, m1, m2, m3, m4, m5, m6, m7, m8, m9⟩ := bk_ten B2))
  go_ret2
  exact HEY.out (by trivial) _ _ _ V11 (O10.then O11) (fun k hk => Nat.le_trans O10.size (F11 k hk))
end Go.Proofs.YtgnilldcfpgpaaaGreatDoor
namespace Go.Proofs.YtgnilldcfpgpaaaGreatDoor
open Go.RowKit Go.Maps
structure UIn (K : Nat → Prop) (w : World) (m : Nat) (bs : List Lb) (b : Bx) (A : Option Addr) : Prop where
  bx : BsIs K w (some m) bs
  kk : ∀ x, w.heap.size ≤ x → K x
  few : bs.length ≤ 100
  ms : Ms K w A b.l.length b.l
  good : isB b = true
def UR (K : Nat → Prop) (w : World) (pass : List UInt8) (E : Int) (bs' : List Bx) (n : Int) (e : Ending) (w' : World) : Prop :=
  (E ≠ 0 ∧ e = .returned (.tuple #[.agg #[.string ⟨#[]⟩, .map none], .int .i64 0, .int .i64 E]) ∧ Only [] w w') ∨ (E = 0 ∧ ∃ v, e = .returned (.tuple #[v, .int .i64 n, .int .i64 0]) ∧ UsR K w pass bs' v w')
theorem four_blocks (w : World) (U B C R : Array Value) (tU tB tC tR : TypeId) :
    Bk ((((w.alloc (.cells U tU)).alloc (.cells B tB)).alloc (.cells C tC)).alloc (.cells R tR)) w.heap.size tU U ∧ Bk ((((w.alloc (.cells U tU)).alloc (.cells B tB)).alloc (.cells C tC)).alloc (.cells R tR)) (w.heap.size + 1) tB B ∧
    Bk ((((w.alloc (.cells U tU)).alloc (.cells B tB)).alloc (.cells C tC)).alloc (.cells R tR)) (w.heap.size + 1 + 1) tC C ∧ Bk ((((w.alloc (.cells U tU)).alloc (.cells B tB)).alloc (.cells C tC)).alloc (.cells R tR)) (w.heap.size + 1 + 1 + 1) tR R ∧
    Only [] w ((((w.alloc (.cells U tU)).alloc (.cells B tB)).alloc (.cells C tC)).alloc (.cells R tR)) := by
  have h1 := Bk.new (w.alloc (.cells U tU)) tB B
  have h2 := Bk.new ((w.alloc (.cells U tU)).alloc (.cells B tB)) tC C
  have h3 := Bk.new (((w.alloc (.cells U tU)).alloc (.cells B tB)).alloc (.cells C tC)) tR R
  rw [World.size_alloc] at h1
  rw [World.size_alloc, World.size_alloc] at h2
  rw [World.size_alloc, World.size_alloc, World.size_alloc] at h3
  exact ⟨(((Bk.new w tU U).alloc _).alloc _).alloc _, (h1.alloc _).alloc _, h2.alloc _, h3, ((((Only.refl [] w).alloc _).alloc _).alloc _).alloc _⟩
def Kx (K : Nat → Prop) (w : World) (n : Nat) (x : Nat) : Prop := K x ∧ (x < w.heap.size ∨ w.heap.size + n ≤ x)
theorem BsIs.kx {K : Nat → Prop} {w W : World} {mb : Option Nat} {bs : List Lb} (h : BsIs K w mb bs) (n : Nat) (o : Only [] w W) : BsIs (Kx K w n) W mb bs := (h.mono (fun _ hl hx => ⟨hx, .inl hl⟩)).keep o
theorem Ms.kx {K : Nat → Prop} {w W : World} {A : Option Addr} {n : Nat} {l : List Mg} (h : Ms K w A n l) (j : Nat) (o : Only [] w W) : Ms (Kx K w j) W A n l := (h.lt.mono (fun _ hx => ⟨hx.1, .inl hx.2⟩)).keep o
theorem BsIs.unkx {K : Nat → Prop} {w W W' : World} {mb : Option Nat} {bs : List Lb} {n : Nat} {rs : List Nat} (h : BsIs (Kx K w n) W mb bs) (o : Only rs W W') (hr : ∀ x ∈ rs, w.heap.size ≤ x ∧ x < w.heap.size + n) : BsIs K W' mb bs :=
  (h.only o (fun x hx hm => by have := hr x hm; have := hx.2; omega)).mono (fun _ _ hx => hx.1)
theorem tx_inbox2 (s : List UInt8) : (s == ([105, 110, 98, 111, 120] : List UInt8)) = decide (s = inboxL) := by
  unfold inboxL
  by_cases h : s = [105, 110, 98, 111, 120] <;> simp [h]
set_option maxRecDepth 100000 in
set_option maxHeartbeats 2000000 in
theorem uremove_any {K : Nat → Prop} {w : World} {m : Nat} {bs : List Lb} (pass : List UInt8) (b : Bx) {A : Option Addr} {c : Nat} (hi : UIn K w m bs b A) (ch : Ch) {Au Ab : Option Addr} {cu cb : Nat} :
    Calls Tryz.prog 87 #[usv pass (some m), bxv b A c, chv ch Au cu Ab cb] w (UR K w pass (if b.name = inboxL then 11 else 0) (delL bkey (bs.map (·.b)) (tx b.name)) (0)) := by
  obtain ⟨Er, hEr⟩ : ∃ x : Int, (if b.name = inboxL then 11 else 0) = x := ⟨_, rfl⟩
  obtain ⟨Br, hBr⟩ : ∃ x, (delL bkey (bs.map (·.b)) (tx b.name)) = x := ⟨_, rfl⟩
  obtain ⟨Nr, hNr⟩ : ∃ x : Int, (0) = x := ⟨_, rfl⟩
  rw [hEr, hBr, hNr]
  have HER := Lib.hid hEr
  have HBR := Lib.hid hBr
  have HNR := Lib.hid hNr
  clear hEr hBr hNr
  obtain ⟨h, hK, hl, hb, hg⟩ := hi
  obtain ⟨z1, z2, z3, z4, z5, z6⟩ := isB_zero hg
  have HZ := Lib.hid (And.intro z1 (And.intro z2 (And.intro z3 (And.intro z4 hl))))
  clear z1 z2 z3 z4 z5 z6 hl hg
  have hf := four_blocks w #[.string (St pass), .map (some m)] #[.string (St b.name), .int .i64 b.val, .int .i64 b.next, .slice A b.l.length c] #[.int .i64 ch.kind, .string (St ch.user), .string (St ch.pass), .string (St ch.box), .string (St ch.to), .slice Au ch.uids.length cu, .int .i64 ch.mode, .int .i64 ch.flags, .int .i64 ch.date, .slice Ab ch.body.length cb] #[.string ⟨#[]⟩, .map none] 154 71 29 154
  obtain ⟨tp, htp⟩ : ∃ t, St pass = t := ⟨_, rfl⟩
  have HTP : Hid (∀ mb, usv pass mb = .agg #[.string tp, .map mb]) := fun mb => by unfold usv; rw [htp]
  have HM := Lib.hid (And.intro h hb)
  have HK := Lib.hid hK
  unfold usv bxv chv
  rw [htp] at hf ⊢
  have hin := tx_inbox2 b.name
  obtain ⟨ib, hib⟩ : ∃ q, decide (b.name = inboxL) = q := ⟨_, rfl⟩
  rw [hib] at hin
  have HIB := Lib.hid hib
  clear h hb hK htp
  go_enter Tryz.func87, Tryz.ntmps87
  go_upto_region 1 with fail
  revert hf
  generalize ((((w.alloc (.cells #[.string (tp), .map (some m)] 154)).alloc (.cells #[.string (St b.name), .int .i64 b.val, .int .i64 b.next, .slice A b.l.length c] 71)).alloc (.cells #[.int .i64 ch.kind, .string (St ch.user), .string (St ch.pass), .string (St ch.box), .string (St ch.to), .slice Au ch.uids.length cu, .int .i64 ch.mode, .int .i64 ch.flags, .int .i64 ch.date, .slice Ab ch.body.length cb] 29)).alloc (.cells #[.string ⟨#[]⟩, .map none] 154)) = W
  rintro ⟨hU, hB, hC, hR, hO⟩
  obtain ⟨c0, c1⟩ := bk_two hU
  obtain ⟨d0, d1, d2, d3⟩ := bk_four hB
  obtain ⟨k0, k1, k2, k3, k4, k5, k6, k7, k8, k9⟩ := bk_ten hC
  obtain ⟨r0, r1⟩ := bk_two hR
  have f1 := hU.free 1
  have ul := hU.lt
  have bl := hB.lt
  have rf0 := hR.free 0
  have rf1 := hR.free 1
  have rl := hR.lt
  have HU := Lib.hid hU
  have HB := Lib.hid hB
  have HC := Lib.hid hC
  have HR := Lib.hid hR
  have HO := Lib.hid hO
  clear hU hB hC hR hO
  have HW := Lib.hid (withoutB_any (HM.out.1.1.keep HO.out) (St b.name) (by have := HZ.out.2.2.2.1; rw [St_size]; unfold maxLen; omega))
  have HD := Lib.hid (fun (w' : World) (m' : Nat) (hm : KvAt shpB w' m' (delL Prod.fst (bs.map kvB) (St b.name))) (o : Only [] w w') (hn : w.heap.size ≤ m') => BsIs.del HM.out.1 HK.out hm o hn)
  have HDB : Hid (delL bkey (bs.map (·.b)) (tx b.name) = (delL Lb.key bs (St b.name)).map (·.b)) := del_b bs (St b.name)
  clear hib
  cases ib
  · have HNE : Hid (¬ b.name = inboxL) := by
      show ¬ b.name = inboxL
      exact of_decide_eq_false HIB.out
    obtain rfl : 0 = Er := by rw [← HER.out, if_neg HNE.out]
    obtain rfl : 0 = Nr := HNR.out
    go_wp2_with (go_at_call 153; go_must (refine HW.out.mono ?_); rintro e w2 ⟨m', rfl, K2, O2, M2⟩; have B0 := HU.out.only O2 (by simp); have B3 := HR.out.only O2 (by simp); have e0 := B0.cell 0; have e1 := B0.cell 1; have g1 := B0.free 1; have l0 := B0.lt; have g30 := B3.cell 0; have g31 := B3.cell 1; have h30 := B3.free 0; have h31 := B3.free 1; have l3 := B3.lt)
    have OW : Only [w.heap.size, w.heap.size + 1 + 1 + 1] w2 (((w2.setCell ⟨w.heap.size, 1, none⟩ (.map (some m'))).setCell ⟨w.heap.size + 1 + 1 + 1, 0, none⟩ (.string tp)).setCell ⟨w.heap.size + 1 + 1 + 1, 1, none⟩ (.map (some m'))) := only_store2 ((Only.refl _ w2).setCell (p := ⟨w.heap.size, 1, none⟩) (.inl (by simp)) _) (.inl (by simp)) _ _
    have OA := (HO.out.then O2).trans OW (fun x hx => .inr (by simp at hx; omega))
    have HN := HD.out _ m' (K2.only OW (by simp; omega)) OA (by omega)
    exact us_ret3 (s := 6) (u := 7) (v := 8) (by kernel_rfl) (w.heap.size + 1 + 1 + 1) _ _ _ _ rfl rfl rfl (bk_store2 (B3.far (p := ⟨w.heap.size, 1, none⟩) (by show _ ≠ w.heap.size; omega) _) _ _) (.inr ⟨rfl, _, rfl, some m', _, (HTP.out _).symm, HN, HDB.out.symm.trans HBR.out, OA⟩)
  · have HNE : Hid (b.name = inboxL) := by
      show b.name = inboxL
      exact of_decide_eq_true HIB.out
    obtain rfl : 11 = Er := by rw [← HER.out, if_pos HNE.out]
    go_wp2
    exact us_ret3 (s := 6) (u := 7) (v := 8) (by kernel_rfl) (w.heap.size + 1 + 1 + 1) _ _ _ _ rfl rfl rfl (bk_store2 HR.out _ _) (.inl ⟨by decide, rfl, only_store2 HO.out (.inr (by omega)) _ _⟩)
set_option maxRecDepth 100000 in
set_option maxHeartbeats 2000000 in
theorem add_any {K : Nat → Prop} {w : World} {m : Nat} {bs : List Lb} (pass : List UInt8) (b : Bx) {A : Option Addr} {c : Nat} (hi : UIn K w m bs b A) (ch : Ch) {Au Ab : Option Addr} {cu cb : Nat} (hBd : Sl w Ab ch.body.length (bvs ch.body)) :
    Calls Tryz.prog 89 #[usv pass (some m), bxv b A c, chv ch Au cu Ab cb] w (UR K w pass (addE b ch.flags ch.date ch.body.length) (putL bkey (addB b ch.flags ch.date ch.body) (bs.map (·.b))) (b.next)) := by
  obtain ⟨Er, hEr⟩ : ∃ x : Int, (addE b ch.flags ch.date ch.body.length) = x := ⟨_, rfl⟩
  obtain ⟨Br, hBr⟩ : ∃ x, (putL bkey (addB b ch.flags ch.date ch.body) (bs.map (·.b))) = x := ⟨_, rfl⟩
  obtain ⟨Nr, hNr⟩ : ∃ x : Int, (b.next) = x := ⟨_, rfl⟩
  rw [hEr, hBr, hNr]
  have HER := Lib.hid hEr
  have HBR := Lib.hid hBr
  have HNR := Lib.hid hNr
  clear hEr hBr hNr
  obtain ⟨h, hK, hl, hb, hg⟩ := hi
  obtain ⟨z1, z2, z3, z4, z5, z6⟩ := isB_zero hg
  have HZ := Lib.hid (And.intro z1 (And.intro z2 (And.intro z3 (And.intro z4 hl))))
  clear z1 z2 z3 z4 z5 z6 hl hg
  have hf := four_blocks w #[.string (St pass), .map (some m)] #[.string (St b.name), .int .i64 b.val, .int .i64 b.next, .slice A b.l.length c] #[.int .i64 ch.kind, .string (St ch.user), .string (St ch.pass), .string (St ch.box), .string (St ch.to), .slice Au ch.uids.length cu, .int .i64 ch.mode, .int .i64 ch.flags, .int .i64 ch.date, .slice Ab ch.body.length cb] #[.string ⟨#[]⟩, .map none] 154 71 29 154
  obtain ⟨tp, htp⟩ : ∃ t, St pass = t := ⟨_, rfl⟩
  have HTP : Hid (∀ mb, usv pass mb = .agg #[.string tp, .map mb]) := fun mb => by unfold usv; rw [htp]
  have HM := Lib.hid (And.intro h hb)
  have HK := Lib.hid hK
  unfold usv bxv chv
  rw [htp] at hf ⊢
  have HBD := Lib.hid hBd
  clear hBd
  clear h hb hK htp
  go_enter Tryz.func89, Tryz.ntmps89
  go_upto_region 1 with fail
  revert hf
  generalize ((((w.alloc (.cells #[.string (tp), .map (some m)] 154)).alloc (.cells #[.string (St b.name), .int .i64 b.val, .int .i64 b.next, .slice A b.l.length c] 71)).alloc (.cells #[.int .i64 ch.kind, .string (St ch.user), .string (St ch.pass), .string (St ch.box), .string (St ch.to), .slice Au ch.uids.length cu, .int .i64 ch.mode, .int .i64 ch.flags, .int .i64 ch.date, .slice Ab ch.body.length cb] 29)).alloc (.cells #[.string ⟨#[]⟩, .map none] 154)) = W
  rintro ⟨hU, hB, hC, hR, hO⟩
  obtain ⟨c0, c1⟩ := bk_two hU
  obtain ⟨d0, d1, d2, d3⟩ := bk_four hB
  obtain ⟨k0, k1, k2, k3, k4, k5, k6, k7, k8, k9⟩ := bk_ten hC
  obtain ⟨r0, r1⟩ := bk_two hR
  have f1 := hU.free 1
  have ul := hU.lt
  have bl := hB.lt
  have rf0 := hR.free 0
  have rf1 := hR.free 1
  have rl := hR.lt
  have HU := Lib.hid hU
  have HB := Lib.hid hB
  have HC := Lib.hid hC
  have HR := Lib.hid hR
  have HO := Lib.hid hO
  clear hU hB hC hR hO
  have HKX : Hid (∀ x, W.heap.size ≤ x → Kx K w 4 x) := fun x hx => ⟨HK.out x (by omega), .inr (by omega)⟩
  have HBK : Hid (BsIs (Kx K w 4) W (some m) bs) := HM.out.1.kx 4 HO.out
  have HMS : Hid (Ms (Kx K w 4) W A b.l.length b.l) := HM.out.2.kx 4 HO.out
  obtain ⟨b2, hb2⟩ : ∃ x, addB b ch.flags ch.date ch.body = x := ⟨_, rfl⟩
  have HN2 : Hid (b2.name = b.name) := by show _ = _; rw [← hb2]; exact name_addB b _ _ _
  obtain ⟨uu, huu⟩ : ∃ x, addU b ch.flags ch.date ch.body.length = x := ⟨_, rfl⟩
  have HUU : Hid (Er = 0 → uu = Nr) := fun e => by rw [← huu, ← HNR.out]; unfold addU; rw [if_pos (HER.out.trans e)]
  have HA := Lib.hid (Add_any (c := c) b HMS.out HZ.out.1 HZ.out.2.1 HZ.out.2.2.1 (fun x hx => HKX.out x hx) ch.flags ch.date Ab ch.body.length cb ch.body (HBD.out.keep HO.out))
  rw [hb2, huu, HER.out] at HA
  rw [hb2] at HBR
  unfold Added bxv at HA
  clear hb2 huu
  have HHV := Lib.hid (fun (V : World) (A2 : Option Addr) (c2 : Nat) (o : Only [w.heap.size + 1] W V) (hm : Ms (Kx K w 4) V A2 b2.l.length b2.l) => by
    have hh := having_any (c := c2) pass (HBK.out.only o (fun x hx hm => by simp at hm; have := hx.2; omega)) (fun x hx => HKX.out x (Nat.le_trans o.size hx)) (by have := HZ.out.2.2.2.2; omega) b2 hm (by rw [HN2.out]; have := HZ.out.2.2.2.1; omega)
    simp only [HTP.out] at hh
    unfold bxv at hh
    exact hh)
  by_cases he : Er = 0
  · subst he
    obtain rfl : uu = Nr := HUU.out rfl
    go_wp2_with (first
      | (go_at_call 154; refine (HHV.out _ A2 c2 O24 M4).mono ?_; rintro e w5 ⟨v5, rfl, mb2, lb2, hv5, HB5, hm5, O5⟩; rw [HTP.out] at hv5; subst hv5; have B53 := (B3.only OS4 (by rw [List.mem_singleton]; omega)).only O5 (by simp); have O05 := (((HO.out.then O2).trans OS4 (fun x hx => .inr (by simp at hx; omega))).then O5); clear r0 r1 rf0 rf1 rl; obtain ⟨r0, r1⟩ := bk_two B53; have rf0 := B53.free 0; have rf1 := B53.free 1; have rl := B53.lt)
      | (go_at_call 155; go_must (refine HA.out.mono ?_); rintro e w2 ⟨A2, c2, rfl, M2, O2⟩; have OS4 := only_store (g := w.heap.size + 1) (Only.refl [w.heap.size + 1] w2) (.inl (by simp)) (.string (St b2.name)) (.int .i64 b2.val) (.int .i64 b2.next) (.slice A2 b2.l.length c2); have O24 := (O2.mono (ss := [w.heap.size + 1]) (fun _ hx => nomatch hx)).trans OS4 (fun x hx => .inl hx); have M4 := M2.only OS4 (fun x hx hm => by simp at hm; have := hx.2; omega); have B0 := HU.out.only O2 (by simp); have B1 := HB.out.only O2 (by simp); have B3 := HR.out.only O2 (by simp); clear c0 c1 d0 d1 d2 d3 r0 r1 f1 ul bl rf0 rf1 rl; obtain ⟨c0, c1⟩ := bk_two B0; obtain ⟨d0, d1, d2, d3⟩ := bk_four B1; have df0 := B1.free 0; have df1 := B1.free 1; have df2 := B1.free 2; have df3 := B1.free 3; have bl := B1.lt; obtain ⟨r0, r1⟩ := bk_two B3; have rf0 := B3.free 0; have rf1 := B3.free 1; have rl := B3.lt))
    have OR := only_store2 (g := w.heap.size + 1 + 1 + 1) (Only.refl [w.heap.size + 1 + 1 + 1] w5) (.inl (by simp)) (.string tp) (.map mb2)
    exact us_ret3 (s := 6) (u := 7) (v := 8) (by kernel_rfl) (w.heap.size + 1 + 1 + 1) _ _ _ _ rfl rfl rfl (bk_store2 B53 _ _) (.inr ⟨rfl, _, rfl, mb2, lb2, (HTP.out _).symm, HB5.unkx OR (fun x hx => by simp at hx; omega), hm5.trans HBR.out, only_store2 O05 (.inr (by omega)) _ _⟩)
  · have hne : (Er != 0) = true := by simpa using he
    have HNE : Hid (Er ≠ 0) := he
    clear he
    go_wp2_with (first
      | (go_at_call 155; go_must (refine HA.out.mono ?_); rintro e w2 ⟨A2, c2, rfl, M2, O2⟩; have OS4 := only_store (g := w.heap.size + 1) (Only.refl [w.heap.size + 1] w2) (.inl (by simp)) (.string (St b2.name)) (.int .i64 b2.val) (.int .i64 b2.next) (.slice A2 b2.l.length c2); have O24 := (O2.mono (ss := [w.heap.size + 1]) (fun _ hx => nomatch hx)).trans OS4 (fun x hx => .inl hx); have M4 := M2.only OS4 (fun x hx hm => by simp at hm; have := hx.2; omega); have B0 := HU.out.only O2 (by simp); have B1 := HB.out.only O2 (by simp); have B3 := HR.out.only O2 (by simp); clear c0 c1 d0 d1 d2 d3 r0 r1 f1 ul bl rf0 rf1 rl; obtain ⟨c0, c1⟩ := bk_two B0; obtain ⟨d0, d1, d2, d3⟩ := bk_four B1; have df0 := B1.free 0; have df1 := B1.free 1; have df2 := B1.free 2; have df3 := B1.free 3; have bl := B1.lt; obtain ⟨r0, r1⟩ := bk_two B3; have rf0 := B3.free 0; have rf1 := B3.free 1; have rl := B3.lt))
    exact us_ret3 (s := 6) (u := 7) (v := 8) (by kernel_rfl) (w.heap.size + 1 + 1 + 1) _ _ _ _ rfl rfl rfl (bk_store2 (B3.only OS4 (by rw [List.mem_singleton]; omega)) _ _) (.inl ⟨HNE.out, rfl, only_store2 ((HO.out.then O2).trans OS4 (fun x hx => .inr (by simp at hx; omega))) (.inr (by omega)) _ _⟩)
end Go.Proofs.YtgnilldcfpgpaaaGreatDoor
namespace Go.Proofs.YtgnilldcfpgpaaaGreatDoor
open Go.RowKit Go.Maps
def stv (next : Int) (mu : Option Nat) : Value := .agg #[.int .i64 next, .map mu]
set_option maxRecDepth 100000 in
theorem srefusal_any (next : Int) (mu : Option Nat) (has : Bool) (others : Nat) (w : World) : Calls Tryz.prog 150 #[stv next mu, .bool has, .int .i64 (others : Int), .int .i64 4] w fun e w' => e = .returned (.int .i64 (refE has others next)) ∧ Only [] w w' := by
  obtain ⟨q, hq⟩ : ∃ q, refE has others next = q := ⟨_, rfl⟩
  rw [hq]
  unfold stv
  have hB := Bk.new w 91 #[.int .i64 next, .map mu]
  obtain ⟨c0, c1⟩ := bk_two hB
  have HO : Hid (Only [] w (w.alloc (.cells #[.int .i64 next, .map mu] 91))) := (Only.refl [] w).alloc _
  have HB := Lib.hid hB
  cases has
  · by_cases h1 : 4 ≤ others
    · have HQ : Hid (q = 6) := by show _ = _; rw [← hq]; unfold refE; simp [h1]
      have i1 : (4 : Int) ≤ (others : Int) := by omega
      clear hq h1 hB
      go_enter Tryz.func150, Tryz.ntmps150
      go_wp2
      go_ret
      exact ⟨by rw [HQ.out]; rfl, HO.out⟩
    · have i1 : ¬ (4 : Int) ≤ (others : Int) := by omega
      by_cases h2 : (1048576 : Int) ≤ next
      · have HQ : Hid (q = 10) := by show _ = _; rw [← hq]; unfold refE; simp [h1, h2]
        clear hq h1 hB
        go_enter Tryz.func150, Tryz.ntmps150
        go_wp2
        go_ret
        exact ⟨by rw [HQ.out]; rfl, HO.out⟩
      · have HQ : Hid (q = 0) := by show _ = _; rw [← hq]; unfold refE; simp [h1, h2]
        clear hq h1 hB
        go_enter Tryz.func150, Tryz.ntmps150
        go_wp2
        go_ret
        exact ⟨by rw [HQ.out]; rfl, HO.out⟩
  · have HQ : Hid (q = 8) := by show _ = _; rw [← hq]; unfold refE; simp
    clear hq hB
    go_enter Tryz.func150, Tryz.ntmps150
    go_wp2
    go_ret
    exact ⟨by rw [HQ.out]; rfl, HO.out⟩
theorem three_blocks (w : World) (U B R : Array Value) (tU tB tR : TypeId) :
    Bk (((w.alloc (.cells U tU)).alloc (.cells B tB)).alloc (.cells R tR)) w.heap.size tU U ∧ Bk (((w.alloc (.cells U tU)).alloc (.cells B tB)).alloc (.cells R tR)) (w.heap.size + 1) tB B ∧
    Bk (((w.alloc (.cells U tU)).alloc (.cells B tB)).alloc (.cells R tR)) (w.heap.size + 1 + 1) tR R ∧ Only [] w (((w.alloc (.cells U tU)).alloc (.cells B tB)).alloc (.cells R tR)) := by
  have h1 := Bk.new (w.alloc (.cells U tU)) tB B
  have h2 := Bk.new ((w.alloc (.cells U tU)).alloc (.cells B tB)) tR R
  rw [World.size_alloc] at h1
  rw [World.size_alloc, World.size_alloc] at h2
  exact ⟨((Bk.new w tU U).alloc _).alloc _, h1.alloc _, h2, (((Only.refl [] w).alloc _).alloc _).alloc _⟩
theorem UsIs.kx {K : Nat → Prop} {w W : World} {mb : Option Nat} {us : List Lu} (h : UsIs K w mb us) (n : Nat) (o : Only [] w W) : UsIs (Kx K w n) W mb us := (h.mono (fun _ hl hx => ⟨hx, .inl hl⟩)).keep o
theorem UsIs.putW {K : Nat → Prop} {w w' : World} {mu : Option Nat} {us : List Lu} {rs : List Nat} (h : UsIs K w mu us) (hK : ∀ x, w.heap.size ≤ x → K x) {u : Lu} (hu : BsIs K w u.mb u.bs) {m' : Nat} (hm : KvAt shpU w' m' (putL Prod.fst (kvU u) (us.map kvU))) (o : Only rs w w') (hd : ∀ x, K x → x ∉ rs) (hn : w.heap.size ≤ m') : UsIs K w' (some m') (putL Lu.key u us) := by
  rw [put_kvU] at hm
  refine ⟨hm, fun m e => by injection e with e; subst e; exact hK _ hn, fun y hy => ?_⟩
  rcases mem_putL.1 hy with rfl | ⟨hy, _⟩
  · exact hu.only o hd
  · exact (h.2.2 y hy).only o hd
def NewR (K : Nat → Prop) (w : World) (next : Int) (us : List Us) (u : Us) (bx : List UInt8) (e : Ending) (w' : World) : Prop :=
  ∃ mu' us', e = .returned (stv (next + 1) (some mu')) ∧ UsIs K w' (some mu') us' ∧ us'.map Lu.us = putL ukey (u.having (newB bx next)) us ∧ Only [] w w'
set_option maxRecDepth 100000 in
set_option maxHeartbeats 4000000 in
theorem withNew_any {K : Nat → Prop} {w : World} {mu mb : Option Nat} {us : List Lu} {bs : List Lb} (next : Int) (name pass bx : List UInt8) (h : UsIs K w mu us) (hb : BsIs K w mb bs) (hK : ∀ x, w.heap.size ≤ x → K x) (hu : us.length ≤ 1000) (hl : bs.length ≤ 1000) (hn : name.length ≤ 1000) (hbx : bx.length ≤ 1000) (h0 : 0 ≤ next ∧ next ≤ 1048576) :
    Calls Tryz.prog 151 #[stv next mu, .string (St name), usv pass mb, .string (St bx)] w (NewR K w next (us.map Lu.us) ⟨name, pass, bs.map (·.b)⟩ bx) := by
  have hf := three_blocks w #[.int .i64 next, .map mu] #[.string (St pass), .map mb] #[.int .i64 0, .map none] 91 154 91
  obtain ⟨tp, htp⟩ : ∃ t, St pass = t := ⟨_, rfl⟩
  obtain ⟨tn, htn⟩ : ∃ t, St name = t := ⟨_, rfl⟩
  obtain ⟨tb, htb⟩ : ∃ t, St bx = t := ⟨_, rfl⟩
  have HTP : Hid (∀ mb, usv pass mb = .agg #[.string tp, .map mb]) := fun mb => by unfold usv; rw [htp]
  have HM := Lib.hid (And.intro h hb)
  have HK := Lib.hid hK
  have HL := Lib.hid (And.intro hu hl)
  have HTN := Lib.hid htn
  have HTB := Lib.hid htb
  have HNB := Lib.hid (And.intro hn hbx)
  have HWR : Hid (IntKind.i64.wrap (next + 1) = next + 1) := IntWalk.i64_in _ (by omega)
  unfold usv stv
  rw [htp] at hf ⊢
  rw [htn, htb]
  have hnw := fun (W : World) => New_any bx next W
  unfold bxv newB at hnw
  simp only [htb, List.length_nil] at hnw
  have HNW := Lib.hid hnw
  clear h hb hK htp htn htb hu hl hn hbx hnw h0
  go_enter Tryz.func151, Tryz.ntmps151
  go_upto_region 1 with fail
  revert hf
  generalize (((w.alloc (.cells #[.int .i64 next, .map mu] 91)).alloc (.cells #[.string tp, .map mb] 154)).alloc (.cells #[.int .i64 0, .map none] 91)) = W
  rintro ⟨hS, hU, hR, hO⟩
  obtain ⟨s0, s1⟩ := bk_two hS
  obtain ⟨u0, u1⟩ := bk_two hU
  have uf0 := hU.free 0
  have uf1 := hU.free 1
  have ul := hU.lt
  have rl := hR.lt
  have HS := Lib.hid hS
  have HU := Lib.hid hU
  have HR := Lib.hid hR
  have HO := Lib.hid hO
  have HKX : Hid (∀ x, W.heap.size ≤ x → Kx K w 3 x) := fun x hx => ⟨HK.out x (by omega), .inr (by omega)⟩
  have HHV := Lib.hid (fun (V : World) (o : Only [] W V) => by
    have hh := having_any (c := 0) pass ((HM.out.2.kx 3 HO.out).keep o) (fun x hx => HKX.out x (Nat.le_trans o.size hx)) HL.out.2 (newB bx next) (Ms.nil (Kx K w 3) V none) (by show bx.length ≤ _; exact HNB.out.2)
    simp only [HTP.out] at hh
    unfold bxv newB at hh
    simp only [HTB.out, List.length_nil] at hh
    exact hh)
  clear hS hU hR hO
  apply region_writes (rs := [w.heap.size + 1]) (Ws := [6]) (by kernel_rfl) (by kernel_rfl)
  apply rel_val (hrf := Tk_refl)
  case hw => rfl
  case hy => intro wS hN hF; have hO := ((Only.refl [] W).drew).then (hN.pre (by kernel_rfl)); have q0 := hO.cellSome u0 (by simp); have q1 := hO.cellSome u1 (by simp); first | (go_simp; done) | (go_simp; with_reducible rfl)
  case' hk => skip
  try simp only [Act.put, List.setIfInBounds_toArray, List.set_cons_zero, List.set_cons_succ]
  apply rel_val (hrf := Tk_refl)
  case hw => rfl
  case hy => intro wS hN hF; skip; first | (go_simp; done) | (go_simp; with_reducible rfl)
  case' hk => skip
  try simp only [Act.put, List.setIfInBounds_toArray, List.set_cons_zero, List.set_cons_succ]
  apply rel_val (hrf := Tk_refl)
  case hw => rfl
  case hy => intro wS hN hF; skip; first | (go_simp; done) | (go_simp; with_reducible rfl)
  case' hk => skip
  try simp only [Act.put, List.setIfInBounds_toArray, List.set_cons_zero, List.set_cons_succ]
  apply rel_val (hrf := Tk_refl)
  case hw => rfl
  case hy => intro wS hN hF; have hO := ((Only.refl [] W).drew).then (hN.pre (by kernel_rfl)); have q0 := hO.cellSome s0 (by simp); first | (go_simp; done) | (go_simp; with_reducible rfl)
  case' hk => skip
  try simp only [Act.put, List.setIfInBounds_toArray, List.set_cons_zero, List.set_cons_succ]
  apply rel_call (v := .agg #[.string tb, .int .i64 next, .int .i64 1, .slice none 0 0]) (f := 195) (args := #[.string tb, .int .i64 next])
  case hw => rfl
  case hy => intro wS hN hF; go_simp
  case hc => intro wS hN hF; exact call_only (HNW.out wS)
  case' hk => skip
  try simp only [Act.put, List.setIfInBounds_toArray, List.set_cons_zero, List.set_cons_succ]
  apply rel_fact_call (φ := fun v V => ∃ mb2 lb2, v = .agg #[.string tp, .map mb2] ∧ BsIs (Kx K w 3) V mb2 lb2 ∧ lb2.map (·.b) = putL bkey (newB bx next) (bs.map (·.b))) (x := 6) (hs := lasts0 (by kernel_rfl) (fun x W1 W2 h ho => by obtain ⟨a, b, h1, h2, h3⟩ := h; exact ⟨a, b, h1, h2.keep ho, h3⟩))
  case hw => rfl
  case hc =>
    intro wS hN hF
    have hO := ((Only.refl [] W).drew).then (hN.pre (by kernel_rfl))
    refine ⟨154, #[.agg #[.string tp, .map mb], .agg #[.string tb, .int .i64 next, .int .i64 1, .slice none 0 0]], by go_simp, (HHV.out wS hO).mono ?_⟩
    rintro e w3 ⟨v3, rfl, mb2, lb2, rfl, H3, h3, O3⟩
    exact ⟨_, rfl, ⟨mb2, lb2, HTP.out _, H3, h3⟩, Tk_only O3⟩
  case' hk => intro v5
  try simp only [Act.put, List.setIfInBounds_toArray, List.set_cons_zero, List.set_cons_succ]
  apply rel_fact (φ := fun _ V => ∃ mb2 lb2, Bk V (w.heap.size + 1) 154 #[.string tp, .map mb2] ∧ BsIs (Kx K w 3) V mb2 lb2 ∧ lb2.map (·.b) = putL bkey (newB bx next) (bs.map (·.b))) (x := 9999) (hs := lasts0 (by kernel_rfl) (fun x W1 W2 h ho => by obtain ⟨a, b, h1, h2, h3⟩ := h; exact ⟨a, b, h1.only ho (by simp), h2.keep ho, h3⟩))
  case hw => rfl
  case hy =>
    intro wS hN hF
    have hO := ((Only.refl [] W).drew).then (hN.pre (by kernel_rfl))
    obtain ⟨mb2, lb2, rfl, H3, h3⟩ := hF.at_ 0 rfl (by kernel_rfl) (by kernel_rfl)
    have BU := HU.out.only hO (by simp)
    obtain ⟨q0, q1⟩ := bk_two BU
    have g0 := BU.free 0
    have g1 := BU.free 1
    have gl := BU.lt
    have OS := only_store2 (g := w.heap.size + 1) (Only.refl [w.heap.size + 1] wS) (.inl (by simp)) (.string tp) (.map mb2)
    refine gives_skip (w' := (wS.setCell ⟨w.heap.size + 1, 0, none⟩ (.string tp)).setCell ⟨w.heap.size + 1, 1, none⟩ (.map mb2)) ?_ ⟨mb2, lb2, bk_store2 BU _ _, H3.only OS (fun x hx hm => by simp at hm; have := hx.2; omega), h3⟩ (Tk_writes (by kernel_rfl) OS (fun x hx => .inl hx))
    go_simp
  case' hk => intro v6
  try simp only [Act.put]
  refine rel_end ?_
  intro wS0 hO1 hF
  obtain ⟨mb2, lb2, BU2, HB2, hm2⟩ := facts_at hF 0 rfl
  clear hF
  have hO2 := (show OnlyB (World.drew W).heap.size [w.heap.size + 1] W.drew wS0 from hO1).only
  have O2 : Only [w.heap.size + 1] W wS0 := ((Only.refl [w.heap.size + 1] W).drew).trans hO2 (fun x hx => .inl hx)
  have HS2 := Lib.hid (HS.out.only O2 (by simp))
  have HR2 := Lib.hid (HR.out.only O2 (by simp))
  have HO2 : Hid (Only [w.heap.size + 1] W wS0) := O2
  have HUS : Hid (UsIs (Kx K w 3) wS0 mu us) := (HM.out.1.kx 3 HO.out).only O2 (fun x hx hm => by simp at hm; have := hx.2; omega)
  have HBU := Lib.hid BU2
  have HM2 := Lib.hid (And.intro HB2 hm2)
  have HWT := Lib.hid (fun (V : World) (o : Only [] wS0 V) => withU_any (HUS.out.1.keep o) tn (by rw [← HTN.out, St_size]; have := HNB.out.1; unfold maxLen; omega) tp mb2 (by rw [List.length_map]; have := HL.out.1; omega))
  have hsz2 := O2.size
  clear hO1 hO2 O2 BU2 HB2 hm2 s0 s1 u0 u1 uf0 uf1 ul HHV HNW
  go_wp2_with fail
  apply region_writes (rs := [w.heap.size + 1 + 1]) (Ws := [9]) (by kernel_rfl) (by kernel_rfl)
  apply rel_val (hrf := Tk_refl)
  case hw => rfl
  case hy => intro wS hN hF; skip; first | (go_simp; done) | (go_simp; with_reducible rfl)
  case' hk => skip
  try simp only [Act.put, List.setIfInBounds_toArray, List.set_cons_zero, List.set_cons_succ]
  apply rel_val (hrf := Tk_refl)
  case hw => rfl
  case hy => intro wS hN hF; have hO := ((Only.refl [] wS0).drew).then (hN.pre (by kernel_rfl)); have q0 := hO.cellSome (HS2.out.cell 0) (by simp); first | (go_simp; done) | (go_simp; with_reducible rfl)
  case' hk => skip
  try simp only [Act.put, List.setIfInBounds_toArray, List.set_cons_zero, List.set_cons_succ]
  apply rel_val (v := .int .i64 (next + 1)) (hrf := Tk_refl)
  case hw => rfl
  case hy =>
    intro wS hN hF
    have hw := HWR.out
    go_simp
  case' hk => skip
  try simp only [Act.put, List.setIfInBounds_toArray, List.set_cons_zero, List.set_cons_succ]
  apply rel_val (hrf := Tk_refl)
  case hw => rfl
  case hy => intro wS hN hF; skip; first | (go_simp; done) | (go_simp; with_reducible rfl)
  case' hk => skip
  try simp only [Act.put, List.setIfInBounds_toArray, List.set_cons_zero, List.set_cons_succ]
  apply rel_val (hrf := Tk_refl)
  case hw => rfl
  case hy => intro wS hN hF; have hO := ((Only.refl [] wS0).drew).then (hN.pre (by kernel_rfl)); have q0 := hO.cellSome (HS2.out.cell 1) (by simp); first | (go_simp; done) | (go_simp; with_reducible rfl)
  case' hk => skip
  try simp only [Act.put, List.setIfInBounds_toArray, List.set_cons_zero, List.set_cons_succ]
  apply rel_val (hrf := Tk_refl)
  case hw => rfl
  case hy => intro wS hN hF; skip; first | (go_simp; done) | (go_simp; with_reducible rfl)
  case' hk => skip
  try simp only [Act.put, List.setIfInBounds_toArray, List.set_cons_zero, List.set_cons_succ]
  apply rel_val (v := .agg #[.string tp, .map mb2]) (hrf := Tk_refl)
  case hw => rfl
  case hy =>
    intro wS hN hF
    have hO := ((Only.refl [] wS0).drew).then (hN.pre (by kernel_rfl))
    have q0 := hO.cellSome (HBU.out.cell 0) (by simp)
    have q1 := hO.cellSome (HBU.out.cell 1) (by simp)
    go_simp
  case' hk => skip
  try simp only [Act.put, List.setIfInBounds_toArray, List.set_cons_zero, List.set_cons_succ]
  apply rel_fact_call (φ := fun v V => ∃ m', v = .map (some m') ∧ KvAt shpU V m' (putL Prod.fst (tn, .agg #[.string tp, .map mb2]) (us.map kvU)) ∧ wS0.heap.size ≤ m') (x := 9) (hs := lasts0 (by kernel_rfl) (fun x W1 W2 h ho => by obtain ⟨a, h1, h2, h3⟩ := h; exact ⟨a, h1, h2.only ho (by simp), h3⟩))
  case hw => rfl
  case hc =>
    intro wS hN hF
    have hO := ((Only.refl [] wS0).drew).then (hN.pre (by kernel_rfl))
    refine ⟨152, #[.map mu, .string tn, .agg #[.string tp, .map mb2]], by go_simp, (HWT.out wS hO).mono ?_⟩
    rintro e w3 ⟨m', rfl, K3, O3, M3⟩
    exact ⟨_, rfl, ⟨m', rfl, K3, Nat.le_trans hO.size M3⟩, Tk_only O3⟩
  case' hk => intro v7
  try simp only [Act.put, List.setIfInBounds_toArray, List.set_cons_zero, List.set_cons_succ]
  apply rel_fact (φ := fun v V => ∃ m', v = .agg #[.int .i64 (next + 1), .map (some m')] ∧ KvAt shpU V m' (putL Prod.fst (tn, .agg #[.string tp, .map mb2]) (us.map kvU)) ∧ wS0.heap.size ≤ m') (x := 9) (hs := lasts0 (by kernel_rfl) (fun x W1 W2 h ho => by obtain ⟨a, h1, h2, h3⟩ := h; exact ⟨a, h1, h2.only ho (by simp), h3⟩))
  case hw => rfl
  case hy =>
    intro wS hN hF
    obtain ⟨m', rfl, K3, M3⟩ := hF.at_ 0 rfl (by kernel_rfl) (by kernel_rfl)
    refine gives_value (u := .agg #[.int .i64 (next + 1), .map (some m')]) (w' := wS) ?_ ⟨m', rfl, K3, M3⟩ (Tk_only (Only.refl [] _))
    go_simp
  case' hk => intro v8
  try simp only [Act.put, List.setIfInBounds_toArray, List.set_cons_zero, List.set_cons_succ]
  apply rel_fact (φ := fun _ V => ∃ m', Bk V (w.heap.size + 1 + 1) 91 #[.int .i64 (next + 1), .map (some m')] ∧ KvAt shpU V m' (putL Prod.fst (tn, .agg #[.string tp, .map mb2]) (us.map kvU)) ∧ wS0.heap.size ≤ m') (x := 9999) (hs := lasts0 (by kernel_rfl) (fun x W1 W2 h ho => by obtain ⟨a, h1, h2, h3⟩ := h; exact ⟨a, h1.only ho (by simp), h2.only ho (by simp), h3⟩))
  case hw => rfl
  case hy =>
    intro wS hN hF
    have hO := ((Only.refl [] wS0).drew).then (hN.pre (by kernel_rfl))
    obtain ⟨m', rfl, K3, M3⟩ := hF.at_ 0 rfl (by kernel_rfl) (by kernel_rfl)
    have BR := HR2.out.only hO (by simp)
    obtain ⟨q0, q1⟩ := bk_two BR
    have g0 := BR.free 0
    have g1 := BR.free 1
    have gl := BR.lt
    have OS := only_store2 (g := w.heap.size + 1 + 1) (Only.refl [w.heap.size + 1 + 1] wS) (.inl (by simp)) (.int .i64 (next + 1)) (.map (some m'))
    refine gives_skip (w' := (wS.setCell ⟨w.heap.size + 1 + 1, 0, none⟩ (.int .i64 (next + 1))).setCell ⟨w.heap.size + 1 + 1, 1, none⟩ (.map (some m'))) ?_ ⟨m', bk_store2 BR _ _, K3.only OS (by simp; omega), M3⟩ (Tk_writes (by kernel_rfl) OS (fun x hx => .inl hx))
    go_simp
  case' hk => intro v9
  try simp only [Act.put]
  refine rel_end ?_
  intro wT hO3 hF
  obtain ⟨m', BR3, K3, M3⟩ := facts_at hF 0 rfl
  clear hF
  have hO4 := (show OnlyB (World.drew wS0).heap.size [w.heap.size + 1 + 1] wS0.drew wT from hO3).only
  have O4 : Only [w.heap.size + 1 + 1] wS0 wT := ((Only.refl [w.heap.size + 1 + 1] wS0).drew).trans hO4 (fun x hx => .inl hx)
  have OW : Only [] w wT := ((HO.out.trans HO2.out (fun x hx => .inr (by simp at hx; omega))).trans O4 (fun x hx => .inr (by simp at hx; omega)))
  have hK3 : KvAt shpU wT m' (putL Prod.fst (kvU ⟨name, pass, mb2, lb2⟩) (us.map kvU)) := by
    have e : kvU ⟨name, pass, mb2, lb2⟩ = (tn, .agg #[.string tp, .map mb2]) := by
      unfold kvU
      rw [HTP.out, HTN.out]
    rw [e]
    exact K3
  have HF := (HUS.out.putW (rs := [w.heap.size + 1 + 1]) (fun x hx => HKX.out x (by have := HO2.out.size; omega)) (u := ⟨name, pass, mb2, lb2⟩) HM2.out.1 hK3 O4 (fun x hx hm => by simp at hm; have := hx.2; omega) M3).mono (K' := K) (fun x _ hx => hx.1)
  go_wp2_with fail
  exact st_ret (s := 8) (by kernel_rfl) (w.heap.size + 1 + 1) _ _ rfl BR3 ⟨m', _, rfl, HF, by rw [← put_u]; unfold Lu.us Us.having; simp only [HM2.out.2], OW⟩
end Go.Proofs.YtgnilldcfpgpaaaGreatDoor
