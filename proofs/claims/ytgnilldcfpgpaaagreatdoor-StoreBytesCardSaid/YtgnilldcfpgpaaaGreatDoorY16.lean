/-
  Texts of the seat, laid one behind the other: SUser5 SAfter JRow FMath Forms Four.
-/
import Derived.Test.YtgnilldcfpgpaaaGreatDoorY14
import Derived.Test.YtgnilldcfpgpaaaGreatDoorY12
import Derived.Test.YtgnilldcfpgpaaaGreatDoorY15
import Derived.Test.YtgnilldcfpgpaaaGreatDoorY2
import Derived.Test.YtgnilldcfpgpaaaGreatDoorY7
import Derived.Test.YtgnilldcfpgpaaaGreatDoorY1
import Derived.Test.YtgnilldcfpgpaaaGreatDoorRows
import Derived.Test.YtgnilldcfpgpaaaGreatDoorY4
import Derived.WalkKit
import Derived.Deep.QuietTactic
import Derived.BigQuiet
namespace Go.Proofs.YtgnilldcfpgpaaaGreatDoor
open Go.RowKit Go.Maps
theorem copyL_succ {ids : List Int} {l : List Mg} {k : Nat} (h : k < l.length) (to : Bx) (h0 : (copyL ids to (l.take k)).1 = 0) :
    (hasU ids l[k].uid = false → copyL ids to (l.take (k + 1)) = copyL ids to (l.take k)) ∧
    (hasU ids l[k].uid = true → addE (copyL ids to (l.take k)).2.1 l[k].flags l[k].date l[k].body.length = 0 → copyL ids to (l.take (k + 1)) = (0, addB (copyL ids to (l.take k)).2.1 l[k].flags l[k].date l[k].body, (copyL ids to (l.take k)).2.2 + 1)) ∧
    (hasU ids l[k].uid = true → addE (copyL ids to (l.take k)).2.1 l[k].flags l[k].date l[k].body.length ≠ 0 → (copyL ids to l).1 = addE (copyL ids to (l.take k)).2.1 l[k].flags l[k].date l[k].body.length) := by
  have e := copyL_app ids (l.take k) [l[k]] to h0
  rw [← List.take_succ_eq_append_getElem h, copyL_one] at e
  refine ⟨fun hu => ?_, fun hu he => ?_, fun hu he => ?_⟩
  · rw [e, hu]
    simp only [Bool.false_eq_true, if_false, Nat.zero_add]
    rw [← h0]
  · rw [e, if_pos hu, if_pos he]
    simp only [Nat.add_comm]
  · rw [if_pos hu, if_neg he] at e
    have h1 : (copyL ids to (l.take (k + 1))).1 = addE (copyL ids to (l.take k)).2.1 l[k].flags l[k].date l[k].body.length := by rw [e]
    have h2 := copyL_bad ids (l.take (k + 1)) (l.drop (k + 1)) to (by rw [h1]; exact he)
    rw [List.take_append_drop] at h2
    rw [h2, h1]
def TRK (KT : Nat → Prop) (W9 : World) (p9 : Nat) (ids : List Int) (to : Bx) (l : List Mg) (k : Nat) (wr : World) : Prop :=
  ∃ A2 c2, (copyL ids to (l.take k)).1 = 0 ∧ Bk wr p9 71 (bxc (copyL ids to (l.take k)).2.1 A2 c2) ∧ Ms KT wr A2 (copyL ids to (l.take k)).2.1.l.length (copyL ids to (l.take k)).2.1.l ∧ Only [p9] W9 wr
set_option maxRecDepth 100000 in
set_option maxHeartbeats 2000000 in
theorem transcribe_any {K : Nat → Prop} {w : World} {m : Nat} {bs : List Lb} (pass : List UInt8) (b : Bx) {A : Option Addr} {c : Nat} (hi : UIn K w m bs b A) (ch : Ch) {Au Ab : Option Addr} {cu cb : Nat} (hUd : Sl w Au ch.uids.length (ivs ch.uids)) (hUn : ch.uids.length ≤ 140737488355328) (hto : ch.to.length ≤ 12) (hgd : ∀ x ∈ bs, isB x.b = true) (hz5 : b.l.length ≤ 24) :
    Calls Tryz.prog 92 #[usv pass (some m), bxv b A c, chv ch Au cu Ab cb] w (UR K w pass ((match findL bkey (bs.map (fun y : Lb => y.b)) (tx ch.to) with | none => 7 | some to => (copyL ch.uids to b.l).1)) ((match findL bkey (bs.map (fun y : Lb => y.b)) (tx ch.to) with | none => [] | some to => putL bkey (copyL ch.uids to b.l).2.1 (bs.map (fun y : Lb => y.b)))) ((match findL bkey (bs.map (fun y : Lb => y.b)) (tx ch.to) with | none => 0 | some to => ((copyL ch.uids to b.l).2.2 : Int)))) := by
  obtain ⟨Er, hEr⟩ : ∃ x : Int, ((match findL bkey (bs.map (fun y : Lb => y.b)) (tx ch.to) with | none => 7 | some to => (copyL ch.uids to b.l).1)) = x := ⟨_, rfl⟩
  obtain ⟨Br, hBr⟩ : ∃ x, ((match findL bkey (bs.map (fun y : Lb => y.b)) (tx ch.to) with | none => [] | some to => putL bkey (copyL ch.uids to b.l).2.1 (bs.map (fun y : Lb => y.b)))) = x := ⟨_, rfl⟩
  obtain ⟨Nr, hNr⟩ : ∃ x : Int, ((match findL bkey (bs.map (fun y : Lb => y.b)) (tx ch.to) with | none => 0 | some to => ((copyL ch.uids to b.l).2.2 : Int))) = x := ⟨_, rfl⟩
  rw [hEr, hBr, hNr]
  have HER := Lib.hid hEr
  have HBR := Lib.hid hBr
  have HNR := Lib.hid hNr
  clear hEr hBr hNr
  obtain ⟨h, hK, hl, hb, hg⟩ := hi
  obtain ⟨z1, z2, z3, z4, z5, z6⟩ := isB_zero hg
  have HZ := Lib.hid (And.intro z1 (And.intro z2 (And.intro z3 (And.intro z4 hl))))
  clear z1 z2 z3 z4 z5 z6 hl hg
  have hf := four_blocks w #[.string (St pass), .map (some m)] #[.string (St b.name), .int .i64 b.val, .int .i64 b.next, .slice A b.l.length c] #[.int .i64 ch.kind, .string (St ch.user), .string (St ch.pass), .string (St ch.box), .string (St ch.to), .slice Au ch.uids.length cu, .int .i64 ch.mode, .int .i64 ch.flags, .int .i64 ch.date, .slice Ab ch.body.length cb] #[.string ⟨#[]⟩, .map none] 154 71 29 154
  obtain ⟨tp, htp⟩ : ∃ t, St pass = t := ⟨_, rfl⟩
  have HTP : Hid (∀ mb, usv pass mb = .agg #[.string tp, .map mb]) := fun mb => by unfold usv; rw [htp]
  have HM := Lib.hid (And.intro h hb)
  have HK := Lib.hid hK
  unfold usv bxv chv
  rw [htp] at hf ⊢
  have HUD := Lib.hid (And.intro hUd hUn)
  have HTO := Lib.hid hto
  have HGD := Lib.hid hgd
  have HZ5 := Lib.hid hz5
  clear hUd hUn hto hgd hz5
  clear h hb hK htp
  go_enter Tryz.func92, Tryz.ntmps92
  go_upto_region 1 with fail
  revert hf
  generalize ((((w.alloc (.cells #[.string (tp), .map (some m)] 154)).alloc (.cells #[.string (St b.name), .int .i64 b.val, .int .i64 b.next, .slice A b.l.length c] 71)).alloc (.cells #[.int .i64 ch.kind, .string (St ch.user), .string (St ch.pass), .string (St ch.box), .string (St ch.to), .slice Au ch.uids.length cu, .int .i64 ch.mode, .int .i64 ch.flags, .int .i64 ch.date, .slice Ab ch.body.length cb] 29)).alloc (.cells #[.string ⟨#[]⟩, .map none] 154)) = W
  rintro ⟨hU, hB, hC, hR, hO⟩
  obtain ⟨c0, c1⟩ := bk_two hU
  obtain ⟨d0, d1, d2, d3⟩ := bk_four hB
  obtain ⟨k0, k1, k2, k3, k4, k5, k6, k7, k8, k9⟩ := bk_ten hC
  obtain ⟨r0, r1⟩ := bk_two hR
  have f1 := hU.free 1
  have ul := hU.lt
  have bl := hB.lt
  have rf0 := hR.free 0
  have rf1 := hR.free 1
  have rl := hR.lt
  have HU := Lib.hid hU
  have HB := Lib.hid hB
  have HC := Lib.hid hC
  have HR := Lib.hid hR
  have HO := Lib.hid hO
  clear hU hB hC hR hO
  have hfb := find_b bs (St ch.to)
  have hsz : (St ch.to).size ≤ maxLen := by rw [St_size]; have := HTO.out; unfold maxLen; omega
  cases hf : findL Lb.key bs (St ch.to) with
  | none =>
    have hlk := HM.out.1.keep HO.out |>.look_no true hsz hf
    obtain rfl : 7 = Er := by
      rw [← HER.out, show tx ch.to = St ch.to from rfl, hfb, hf]
      rfl
    clear hfb hf
    go_wp2
    exact us_ret3 (s := 6) (u := 7) (v := 8) (by kernel_rfl) (w.heap.size + 1 + 1 + 1) _ _ _ _ rfl rfl rfl ((bk_store2 HR.out _ _).alloc _) (.inl ⟨by decide, rfl, (only_store2 HO.out (.inr (by omega)) _ _).alloc _⟩)
  | some x =>
    have hxm := (findL_some hf).1
    have hlk := HM.out.1.keep HO.out |>.look true hsz hf
    unfold bxv at hlk
    have HGX : Hid (isB x.b = true) := HGD.out x hxm
    have HFE : Hid ((copyL ch.uids x.b b.l).1 = Er ∧ putL bkey (copyL ch.uids x.b b.l).2.1 (bs.map (·.b)) = Br ∧ ((copyL ch.uids x.b b.l).2.2 : Int) = Nr) := by
      show _ ∧ _ ∧ _
      have e1 := HER.out
      have e2 := HBR.out
      have e3 := HNR.out
      rw [show tx ch.to = St ch.to from rfl, hfb, hf] at e1 e2 e3
      exact ⟨e1, e2, e3⟩
    have HKT : Hid (∀ y, W.heap.size < y → K y ∧ (y < w.heap.size ∨ W.heap.size < y)) := fun y hy => ⟨HK.out y (by omega), .inr hy⟩
    have HXM : Hid (Ms (fun y => K y ∧ (y < w.heap.size ∨ W.heap.size < y)) W x.A x.b.l.length x.b.l) := ((HM.out.1.2.2 x hxm).lt.mono (fun y hy => ⟨hy.1, .inl hy.2⟩)).keep HO.out
    have HMS : Hid (Ms (fun y => K y ∧ (y < w.heap.size ∨ W.heap.size < y)) W A b.l.length b.l) := (HM.out.2.lt.mono (fun y hy => ⟨hy.1, .inl hy.2⟩)).keep HO.out
    have HBS : Hid (BsIs (fun y => K y ∧ (y < w.heap.size ∨ W.heap.size < y)) W (some m) bs) := (HM.out.1.mono (fun y hl hy => ⟨hy, .inl hl⟩)).keep HO.out
    obtain ⟨KT, hKT⟩ : ∃ q : Nat → Prop, (fun y => K y ∧ (y < w.heap.size ∨ W.heap.size < y)) = q := ⟨_, rfl⟩
    have HK1 : Hid (∀ y, W.heap.size < y → KT y) := by rw [← hKT]; exact HKT.out
    have HK2 : Hid (∀ y, KT y → K y ∧ (y < w.heap.size ∨ W.heap.size < y)) := by rw [← hKT]; exact fun _ hy => hy
    rw [hKT] at HXM HMS HBS
    have HN : Hid (b.l.length ≤ 24) := HZ5.out
    obtain ⟨p9, hp9⟩ : ∃ p, W.heap.size = p := ⟨_, rfl⟩
    have o9 : Only [] W (W.alloc (.cells #[.string (St x.b.name), .int .i64 x.b.val, .int .i64 x.b.next, .slice x.A x.b.l.length x.c] 71)) := (Only.refl [] W).alloc _
    have b9 := Bk.new W 71 #[.string (St x.b.name), .int .i64 x.b.val, .int .i64 x.b.next, .slice x.A x.b.l.length x.c]
    clear hfb hf hxm HKT hKT HER HBR HNR
    obtain ⟨n, hn⟩ : ∃ n, b.l.length = n := ⟨_, rfl⟩
    rw [hn] at d3 HMS HN
    have HLN := Lib.hid hn
    clear hn
    have HP9 : Hid (w.heap.size + 1 + 1 + 1 < p9 ∧ W.heap.size = p9) := ⟨by omega, hp9⟩
    rw [hp9] at b9
    have HO9 := Lib.hid o9
    go_upto_region 5 with fail
    clear c0 c1 d0 d1 d2 k0 k1 k2 k3 k5 k6 k7 k8 k9 r0 r1 f1 ul bl rf0 rf1 rl hlk
    generalize W.alloc (.cells #[.string (St x.b.name), .int .i64 x.b.val, .int .i64 x.b.next, .slice x.A x.b.l.length x.c] 71) = W9 at b9 HO9 o9 ⊢
    have HXA : ∀ (t : TypeId) (g : Nat) (cs : Array Value) (V : World), Bk W g t cs → g ≠ p9 → Only [p9] W9 V → Bk V g t cs := fun t g cs V hb hne o => (hb.only HO9.out (by simp)).only o (by simpa using hne)
    have d3' := (HXA _ _ _ W9 HB.out (by have := HP9.out.1; omega) (Only.refl _ _)).cell 3
    have d3'' : W9.cell? ⟨w.heap.size + 1, 3, none⟩ = some (.slice A n c) := by rw [← HLN.out]; exact d3'
    have HXB := Lib.hid HXA
    have HUS : Hid (∀ V, Only [p9] W9 V → Sl V Au ch.uids.length (ivs ch.uids)) := fun V o => ((HUD.out.1.keep HO.out).keep HO9.out).only' o (fun hp ad e hh => by have := HUD.out.1.lt hp ad e; simp at hh; have := HP9.out.1; omega)
    have HKP : Hid (∀ y, KT y → y ∉ [p9]) := fun y hy hh => by have := (HK2.out y hy).2; simp at hh; have := HP9.out; omega
    have HKN : Hid (∀ y, p9 < y → KT y) := fun y hy => HK1.out y (by have := HP9.out.2; omega)
    have HOW : Hid (Only [] w W9) := HO.out.then HO9.out
    have H0 : Hid (TRK KT W9 p9 ch.uids x.b b.l 0 W9) := ⟨x.A, x.c, rfl, b9, HXM.out.keep HO9.out, Only.refl _ _⟩
    have HP0 := Lib.hid b9.lt
    clear d3 d3' b9 o9 hp9 HXA k4
    go_wp2_with fail
    go_loopw [11, 29] (fun nv iv wr => ∃ k : Nat, iv = .int .i64 (k : Int) ∧ nv = .int .i64 ((copyL ch.uids x.b (b.l.take k)).2.2 : Int) ∧ k ≤ n ∧ Hid (TRK KT W9 p9 ch.uids x.b b.l k wr)) (fun _ iv _ => n - (intOf iv).toNat)
    case atStart => exact ⟨0, rfl, rfl, Nat.zero_le _, H0.out⟩
    case round =>
      obtain ⟨k, rfl, rfl, hk, HKR⟩ := hrel
      obtain ⟨A2, c2, e0, B2, M2, O2⟩ := HKR.out
      by_cases hlt : k < n
      · have hlt' : (k : Int) < (n : Int) := by omega
        have hkl : k < b.l.length := by rw [HLN.out]; exact hlt
        have hsuc := copyL_succ hkl x.b e0
        have hN : (copyL ch.uids x.b (b.l.take k)).2.2 ≤ k := by have := copyN_le ch.uids (b.l.take k) x.b; rw [List.length_take] at this; omega
        have hgt := isB_zero (isB_copyL ch.uids (b.l.take k) HGX.out)
        obtain ⟨ad, Am, cm, rfl, _, hm⟩ := ((HMS.out.keep HO9.out).only O2 HKP.out).at_ hlt hkl
        generalize copyL ch.uids x.b (b.l.take k) = cl at *
        obtain ⟨cl0, t2, N0⟩ := cl
        simp only at e0 B2 M2 hsuc hN hgt
        subst e0
        generalize b.l[k] = mg at hm hsuc
        obtain ⟨u, f, d, y⟩ := mg
        obtain ⟨m0, m1, m2, m3, hsl, hst⟩ := hm
        simp only at m0 m1 m2 m3 hsl hst hsuc
        obtain ⟨z, hz⟩ : ∃ z, y.length = z := ⟨_, rfl⟩
        rw [hz] at m3 hsl hst hsuc
        have hk5 : wr.cell? ⟨w.heap.size + 1 + 1, 5, none⟩ = some (.slice Au ch.uids.length cu) := (HXB.out _ _ _ wr HC.out (by have := HP9.out.1; omega) O2).cell 5
        have hcl : w.heap.size + 1 + 1 < wr.heap.size := (HXB.out _ _ _ wr HC.out (by have := HP9.out.1; omega) O2).lt
        have oV : Only [] wr (wr.alloc (.cells #[.int .i64 u, .int .i64 f, .int .i64 d, .slice Am z cm] 82)) := (Only.refl [] wr).alloc _
        have bV := Bk.new wr 82 #[.int .i64 u, .int .i64 f, .int .i64 d, .slice Am z cm]
        have HCT := Lib.hid (Contains_any (c := cu) (HUS.out _ (O2.then oV)) HUD.out.2 u)
        obtain ⟨v0, v1, v2, v3⟩ := bk_four bV
        have HMM : Hid (n - (intOf (.int .i64 ((k : Int) + 1))).toNat < n - (intOf (.int .i64 (k : Int))).toNat) := by
          show _ < _
          simp [intOf]
          omega
        have hk1 : k + 1 ≤ n := by omega
        have hwk : IntKind.i64.wrap ((k : Int) + 1) = (k : Int) + 1 := IntWalk.i64_in _ (by have := HN.out; omega)
        have HOV := Lib.hid oV
        have HBV := Lib.hid bV
        have HB2 := Lib.hid B2
        have HM2 := Lib.hid M2
        have HO2 := Lib.hid O2
        have HSL := Lib.hid hsl
        have HGT := Lib.hid hgt
        have hlp := B2.lt
        obtain ⟨hs1, hs2, hs3⟩ := hsuc
        obtain ⟨q, hq⟩ : ∃ q, hasU ch.uids u = q := ⟨_, rfl⟩
        rw [hq] at HCT hs1 hs2 hs3
        clear oV bV B2 M2 O2 hsl hst hgt HKR hq
        cases q
        · have HS1 := Lib.hid (hs1 rfl)
          clear hs1 hs2 hs3
          go_wp2_with (go_at_call 147; go_must (refine HCT.out.mono ?_); rintro e w3 ⟨rfl, rfl⟩)
          go_roundw
          case rel =>
            refine ⟨k + 1, by go_num, by rw [HS1.out], hk1, ⟨A2, c2, ?_⟩⟩
            rw [HS1.out]
            exact ⟨rfl, HB2.out.only HOV.out (by simp), HM2.out.keep HOV.out, HO2.out.then HOV.out⟩
          case measure => exact HMM.out
        · obtain ⟨er, her⟩ : ∃ q, addE t2 f d z = q := ⟨_, rfl⟩
          obtain ⟨t3, ht3⟩ : ∃ q, addB t2 f d y = q := ⟨_, rfl⟩
          obtain ⟨uu, huu⟩ : ∃ q, addU t2 f d z = q := ⟨_, rfl⟩
          have HA := Lib.hid (Add_any (S := KT) (c := c2) t2 (HM2.out.keep HOV.out) HGT.out.1 HGT.out.2.1 HGT.out.2.2.1 (fun y hy => HKN.out y (by simp at hy; omega)) f d Am z cm y (HSL.out.keep HOV.out))
          rw [hz, her, ht3, huu] at HA
          rw [her, ht3] at hs2
          rw [her] at hs3
          unfold Added bxv at HA
          have HBW := Lib.hid (HB2.out.only HOV.out (by simp))
          have dW := HBW.out
          unfold bxc at dW
          obtain ⟨w0, w1, w2, w3⟩ := bk_four dW
          clear dW her ht3 huu hs1
          by_cases he : er = 0
          · subst he
            have HS2 := Lib.hid (hs2 rfl rfl)
            clear hs2 hs3
            have HWR : Hid (IntKind.i64.wrap ((N0 : Int) + 1) = ((N0 + 1 : Nat) : Int)) := by show _ = _; rw [IntWalk.i64_in _ (by have := HN.out; omega)]; omega
            have hwr := HWR.out
            go_wp2_with (first
              | (go_at_call 147; go_must (refine HCT.out.mono ?_); rintro e w3 ⟨rfl, rfl⟩)
              | (go_at_call 155; go_must (refine HA.out.mono ?_); rintro e w4 ⟨A3, c3, rfl, M3, O3⟩; have BW4 := HBW.out.only O3 (by simp); have bW := BW4; unfold bxc at bW; clear w0 w1 w2 w3; obtain ⟨w0, w1, w2, w3⟩ := bk_four bW; have wf0 := BW4.free 0; have wf1 := BW4.free 1; have wf2 := BW4.free 2; have wf3 := BW4.free 3; have wl := BW4.lt))
            have OS := only_store (g := p9) (Only.refl [p9] w4) (.inl (by simp)) (.string (St t3.name)) (.int .i64 t3.val) (.int .i64 t3.next) (.slice A3 t3.l.length c3)
            refine ⟨⟨k + 1, by simp, by rw [HS2.out]; simp, hk1, ⟨A3, c3, ?_⟩⟩, HMM.out⟩
            rw [HS2.out]
            exact ⟨rfl, bk_store BW4 _ _ _ _, M3.only OS HKP.out, ((HO2.out.then HOV.out).then O3).trans OS (fun x hx => .inl hx)⟩
          · have HNE : Hid (er ≠ 0) := he
            have HS3 : Hid (er = Er) := by show _ = _; rw [← HFE.out.1]; exact (hs3 rfl he).symm
            have hne : (er != 0) = true := by simpa using he
            clear hs2 hs3 he
            have hpn1 : ¬ (p9 = w.heap.size + 1 + 1 + 1) := by have := HP9.out.1; omega
            have hpn2 : ¬ (w.heap.size + 1 + 1 + 1 = p9) := by have := HP9.out.1; omega
            have HRR := Lib.hid (((HXB.out _ _ _ _ HR.out (by have := HP9.out.1; omega) HO2.out).only HOV.out (by simp)))
            go_wp2_with (first
              | (go_at_call 147; go_must (refine HCT.out.mono ?_); rintro e w3 ⟨rfl, rfl⟩)
              | (go_at_call 155; go_must (refine HA.out.mono ?_); rintro e w4 ⟨A3, c3, rfl, M3, O3⟩; have BW4 := HBW.out.only O3 (by simp); have bW := BW4; unfold bxc at bW; clear w0 w1 w2 w3; obtain ⟨w0, w1, w2, w3⟩ := bk_four bW; have wf0 := BW4.free 0; have wf1 := BW4.free 1; have wf2 := BW4.free 2; have wf3 := BW4.free 3; have wl := BW4.lt; have BR := HRR.out.only O3 (by simp); obtain ⟨r0, r1⟩ := bk_two BR; have rf0 := BR.free 0; have rf1 := BR.free 1; have rl := BR.lt))
            have OS := only_store (g := p9) (Only.refl [p9] w4) (.inl (by simp)) (.string (St t3.name)) (.int .i64 t3.val) (.int .i64 t3.next) (.slice A3 t3.l.length c3)
            have hpw := HP9.out
            have hsz0 := HO.out.size
            have h3 := HS3.out
            subst h3
            exact us_ret3 (s := 6) (u := 7) (v := 8) (by kernel_rfl) (w.heap.size + 1 + 1 + 1) _ _ _ _ rfl rfl rfl (bk_store2 (BR.only OS (by rw [List.mem_singleton]; omega)) _ _) (.inl ⟨HNE.out, rfl, only_store2 ((HOW.out.trans (((HO2.out.then HOV.out).then O3).trans OS (fun x hx => .inl hx)) (fun x hx => .inr (by simp at hx; omega)))) (.inr (by omega)) _ _⟩)
      · obtain rfl : k = n := by omega
        have hall : b.l.take k = b.l := List.take_of_length_le (by rw [HLN.out]; exact Nat.le_refl _)
        rw [hall] at e0 B2 M2 ⊢
        obtain ⟨f1, f2, f3⟩ := HFE.out
        obtain rfl : 0 = Er := by rw [← f1]; exact e0.symm
        have HBR : Hid (_ = Br) := f2
        have hgt := isB_zero (isB_copyL ch.uids b.l HGX.out)
        have hnm := name_copyL ch.uids b.l x.b
        generalize copyL ch.uids x.b b.l = cl at *
        obtain ⟨cl0, t2, N0⟩ := cl
        simp only at e0 B2 M2 hgt hnm f3 HBR
        obtain rfl := f3
        have HHV := Lib.hid (by
          have hh := having_any (K := KT) (c := c2) pass ((HBS.out.keep HO9.out).only O2 HKP.out) (fun y hy => HKN.out y (by have := B2.lt; omega)) (by have := HZ.out.2.2.2.2; omega) t2 M2 (by have := hgt.2.2.2.1; omega)
          simp only [HTP.out] at hh
          unfold bxv at hh
          exact hh)
        have hpw := HP9.out.1
        have bU := HXB.out _ _ _ _ HU.out (by omega) O2
        have bR := HXB.out _ _ _ _ HR.out (by omega) O2
        obtain ⟨c0, c1⟩ := bk_two bU
        have dW := B2
        unfold bxc at dW
        obtain ⟨w0, w1, w2, w3⟩ := bk_four dW
        have HBR3 := Lib.hid bR
        have HO2 := Lib.hid O2
        clear dW B2 M2 O2 f1 f2 hgt hnm e0 HKR hall bU bR
        go_wp2_with (go_at_call 154; go_must (refine HHV.out.mono ?_); rintro e w5 ⟨v5, rfl, mb2, lb2, hv5, HB5, hm5, O5⟩; rw [HTP.out] at hv5; subst hv5; have B53 := HBR3.out.only O5 (by simp); obtain ⟨r0, r1⟩ := bk_two B53; have rf0 := B53.free 0; have rf1 := B53.free 1; have rl := B53.lt)
        have OR := only_store2 (g := w.heap.size + 1 + 1 + 1) (Only.refl [w.heap.size + 1 + 1 + 1] w5) (.inl (by simp)) (.string tp) (.map mb2)
        have hp2 := HP9.out.2
        have hsz0 := HO.out.size
        exact us_ret3 (s := 6) (u := 7) (v := 8) (by kernel_rfl) (w.heap.size + 1 + 1 + 1) _ _ _ _ rfl rfl rfl (bk_store2 B53 _ _) (.inr ⟨rfl, _, rfl, mb2, lb2, (HTP.out _).symm, (HB5.only OR (fun y hy hm => by have := (HK2.out y hy).2; simp at hm; omega)).mono (fun y _ hy => (HK2.out y hy).1), hm5.trans HBR.out, only_store2 ((HOW.out.trans HO2.out (fun x hx => .inr (by simp at hx; omega))).then O5) (.inr (by omega)) _ _⟩)
end Go.Proofs.YtgnilldcfpgpaaaGreatDoor
namespace Go.Proofs.YtgnilldcfpgpaaaGreatDoor
open Go.RowKit Go.Maps
structure ChIn (w : World) (ch : Ch) (Au Ab : Option Addr) : Prop where
  uids : Sl w Au ch.uids.length (ivs ch.uids)
  body : Sl w Ab ch.body.length (bvs ch.body)
  many : ch.uids.length ≤ 140737488355328
  to : ch.to.length ≤ 12
def SRU (K : Nat → Prop) (w : World) (S' : Stt) (E N : Int) (e : Ending) (w' : World) : Prop :=
  ∃ (a : Int) (mu3 : Option Nat) (n3 e3 : Int), e = .returned (.tuple #[.agg #[.int .i64 a, .map mu3], .int .i64 n3, .int .i64 e3]) ∧ Only [] w w' ∧ ((E ≠ 0 ∧ a = 0 ∧ mu3 = none ∧ n3 = 0 ∧ e3 = E) ∨ (E = 0 ∧ a = S'.next ∧ n3 = N ∧ e3 = 0 ∧ StIs K w' mu3 S'))
theorem SR.one {K : Nat → Prop} {w : World} {S' S2 : Stt} {E N N2 : Int} {e : Ending} {w' : World} (h : SR K w S' E N e w') (h0 : E = 0 → S' = S2 ∧ N = N2) : SRU K w S2 E N2 e w' := by
  rcases h with ⟨h1, rfl, o⟩ | ⟨h1, mu', rfl, hs, o⟩
  · exact ⟨0, none, 0, E, rfl, o, .inl ⟨h1, rfl, rfl, rfl, rfl⟩⟩
  · obtain ⟨rfl, rfl⟩ := h0 h1
    exact ⟨_, mu', _, 0, rfl, o, .inr ⟨h1, rfl, rfl, rfl, hs⟩⟩
theorem SRU.done {K : Nat → Prop} {w w2 : World} {Sr : Stt} {Er Nr a n3 e3 : Int} {mu3 : Option Nat} (h : (Er ≠ 0 ∧ a = 0 ∧ mu3 = none ∧ n3 = 0 ∧ e3 = Er) ∨ (Er = 0 ∧ a = Sr.next ∧ n3 = Nr ∧ e3 = 0 ∧ StIs (Kx K w 3) w2 mu3 Sr)) (o : Only [] w w2) :
    SR K w Sr Er Nr (.returned (.tuple #[.agg #[.int .i64 a, .map mu3], .int .i64 n3, .int .i64 e3])) ((w2.setCell ⟨w.heap.size + 1 + 1, 0, none⟩ (.int .i64 a)).setCell ⟨w.heap.size + 1 + 1, 1, none⟩ (.map mu3)) := by
  have oo := only_store2 (g := w.heap.size + 1 + 1) o (.inr (by omega)) (.int .i64 a) (.map mu3)
  rcases h with ⟨h1, rfl, rfl, rfl, rfl⟩ | ⟨h1, rfl, rfl, rfl, hs⟩
  · exact .inl ⟨h1, rfl, oo⟩
  · have os := only_store2 (g := w.heap.size + 1 + 1) (Only.refl [w.heap.size + 1 + 1] w2) (.inl (by simp)) (.int .i64 Sr.next) (.map mu3)
    exact .inr ⟨h1, mu3, rfl, (hs.only os (fun x hx hm => by simp at hm; have := hx.2; omega)).mono (fun x _ hx => hx.1), oo⟩
theorem wi_do {S : Stt} {ch : Ch} {fE : List Bx → Bx → Int} {fB : List Bx → Bx → List Bx} {fN : List Bx → Bx → Int} (h1 : ch.kind ≠ 1) (h2 : ch.kind ≠ 2)
    (h : ∀ u b, actE u b ch = fE u.bs b ∧ (fE u.bs b = 0 → { u with bs := fB u.bs b } = actU u b ch ∧ fN u.bs b = actN u b ch)) :
    wiE S ch fE = doE S ch ∧ (wiE S ch fE = 0 → wiS S ch fB = doS S ch ∧ wiN S ch fN = doN S ch) := by
  unfold wiE wiS wiN doE doS doN
  simp only [if_neg h1, if_neg h2]
  cases S.user ch.user with
  | none => exact ⟨rfl, fun _ => ⟨rfl, rfl⟩⟩
  | some u =>
    simp only []
    cases u.box ch.box with
    | none => exact ⟨rfl, fun _ => ⟨rfl, rfl⟩⟩
    | some b =>
      obtain ⟨e1, e2⟩ := h u b
      refine ⟨e1.symm, fun e => ?_⟩
      obtain ⟨e3, e4⟩ := e2 e
      exact ⟨congrArg S.having e3, e4⟩
theorem after3 {K : Nat → Prop} {w : World} {mu : Option Nat} (S : Stt) (hi : SIn K w mu S) (ch : Ch) {Au Ab : Option Addr} {cu cb : Nat} (hsz : ch.user.length ≤ 12 ∧ ch.box.length ≤ 12) (_hci : ChIn w ch Au Ab) (hk : ch.kind = 3) :
    Calls Tryz.prog 86 #[stv S.next mu, chv ch Au cu Ab cb, .func (.func 87) #[] #[]] w (SRU K w (doS S ch) (doE S ch) (doN S ch)) := by
  have h := swithin_any S hi ch (Au := Au) (Ab := Ab) (cu := cu) (cb := cb) hsz 87 (enters_of Tryz.func87 (by kernel_rfl) rfl) (fun _ b => if b.name = inboxL then 11 else 0) (fun bs b => delL bkey bs (tx b.name)) (fun _ _ => 0)
    (fun V o K' m bs pass b A c hi hgd => uremove_any pass b hi ch)
  have hw : wiE S ch _ = doE S ch ∧ (wiE S ch _ = 0 → wiS S ch _ = doS S ch ∧ wiN S ch _ = doN S ch) := wi_do (S := S) (ch := ch) (fE := (fun _ b => if b.name = inboxL then 11 else 0)) (fB := (fun bs b => delL bkey bs (tx b.name))) (fN := (fun _ _ => 0)) (by omega) (by omega) (fun u b => by simp [actE, actU, actN, hk])
  refine h.mono fun e w' hh => ?_
  have := hh.one hw.2
  rw [hw.1] at this
  exact this
theorem after4 {K : Nat → Prop} {w : World} {mu : Option Nat} (S : Stt) (hi : SIn K w mu S) (ch : Ch) {Au Ab : Option Addr} {cu cb : Nat} (hsz : ch.user.length ≤ 12 ∧ ch.box.length ≤ 12) (hci : ChIn w ch Au Ab) (hk : ch.kind = 4) :
    Calls Tryz.prog 86 #[stv S.next mu, chv ch Au cu Ab cb, .func (.func 88) #[] #[]] w (SRU K w (doS S ch) (doE S ch) (doN S ch)) := by
  have h := swithin_any S hi ch (Au := Au) (Ab := Ab) (cu := cu) (cb := cb) hsz 88 (enters_of Tryz.func88 (by kernel_rfl) rfl) (fun bs b => if b.name = inboxL then 11 else if (findL bkey bs (tx ch.to)).isSome then 8 else 0) (fun bs b => putL bkey { b with name := ch.to } (delL bkey bs (tx b.name))) (fun _ _ => 0)
    (fun V o K' m bs pass b A c hi hgd => urename_any pass b hi ch hci.to)
  have hw : wiE S ch _ = doE S ch ∧ (wiE S ch _ = 0 → wiS S ch _ = doS S ch ∧ wiN S ch _ = doN S ch) := wi_do (S := S) (ch := ch) (fE := (fun bs b => if b.name = inboxL then 11 else if (findL bkey bs (tx ch.to)).isSome then 8 else 0)) (fB := (fun bs b => putL bkey { b with name := ch.to } (delL bkey bs (tx b.name)))) (fN := (fun _ _ => 0)) (by omega) (by omega) (fun u b => by by_cases hx : b.name = inboxL <;> cases hq : findL bkey u.bs (tx ch.to) <;> simp [actE, actU, actN, hk, Us.box, Us.having, hx, hq])
  refine h.mono fun e w' hh => ?_
  have := hh.one hw.2
  rw [hw.1] at this
  exact this
theorem after5 {K : Nat → Prop} {w : World} {mu : Option Nat} (S : Stt) (hi : SIn K w mu S) (ch : Ch) {Au Ab : Option Addr} {cu cb : Nat} (hsz : ch.user.length ≤ 12 ∧ ch.box.length ≤ 12) (hci : ChIn w ch Au Ab) (hk : ch.kind = 5) :
    Calls Tryz.prog 86 #[stv S.next mu, chv ch Au cu Ab cb, .func (.func 89) #[] #[]] w (SRU K w (doS S ch) (doE S ch) (doN S ch)) := by
  have h := swithin_any S hi ch (Au := Au) (Ab := Ab) (cu := cu) (cb := cb) hsz 89 (enters_of Tryz.func89 (by kernel_rfl) rfl) (fun _ b => addE b ch.flags ch.date ch.body.length) (fun bs b => putL bkey (addB b ch.flags ch.date ch.body) bs) (fun _ b => b.next)
    (fun V o K' m bs pass b A c hi hgd => add_any pass b hi ch (hci.body.keep o))
  have hw : wiE S ch _ = doE S ch ∧ (wiE S ch _ = 0 → wiS S ch _ = doS S ch ∧ wiN S ch _ = doN S ch) := wi_do (S := S) (ch := ch) (fE := (fun _ b => addE b ch.flags ch.date ch.body.length)) (fB := (fun bs b => putL bkey (addB b ch.flags ch.date ch.body) bs)) (fN := (fun _ b => b.next)) (by omega) (by omega) (fun u b => by simp [actE, actU, actN, hk, Us.having])
  refine h.mono fun e w' hh => ?_
  have := hh.one hw.2
  rw [hw.1] at this
  exact this
theorem after6 {K : Nat → Prop} {w : World} {mu : Option Nat} (S : Stt) (hi : SIn K w mu S) (ch : Ch) {Au Ab : Option Addr} {cu cb : Nat} (hsz : ch.user.length ≤ 12 ∧ ch.box.length ≤ 12) (hci : ChIn w ch Au Ab) (hk : ch.kind = 6) :
    Calls Tryz.prog 86 #[stv S.next mu, chv ch Au cu Ab cb, .func (.func 90) #[] #[]] w (SRU K w (doS S ch) (doE S ch) (doN S ch)) := by
  have h := swithin_any S hi ch (Au := Au) (Ab := Ab) (cu := cu) (cb := cb) hsz 90 (enters_of Tryz.func90 (by kernel_rfl) rfl) (fun _ _ => 0) (fun bs b => putL bkey (markB b ch.uids ch.mode ch.flags) bs) (fun _ b => (markN ch.uids ch.mode ch.flags b.l : Int))
    (fun V o K' m bs pass b A c hi hgd => mark_any pass b hi ch (hci.uids.keep o) hci.many)
  have hw : wiE S ch _ = doE S ch ∧ (wiE S ch _ = 0 → wiS S ch _ = doS S ch ∧ wiN S ch _ = doN S ch) := wi_do (S := S) (ch := ch) (fE := (fun _ _ => 0)) (fB := (fun bs b => putL bkey (markB b ch.uids ch.mode ch.flags) bs)) (fN := (fun _ b => (markN ch.uids ch.mode ch.flags b.l : Int))) (by omega) (by omega) (fun u b => by simp [actE, actU, actN, hk, Us.having])
  refine h.mono fun e w' hh => ?_
  have := hh.one hw.2
  rw [hw.1] at this
  exact this
theorem after7 {K : Nat → Prop} {w : World} {mu : Option Nat} (S : Stt) (hi : SIn K w mu S) (ch : Ch) {Au Ab : Option Addr} {cu cb : Nat} (hsz : ch.user.length ≤ 12 ∧ ch.box.length ≤ 12) (hci : ChIn w ch Au Ab) (hk : ch.kind = 7) :
    Calls Tryz.prog 86 #[stv S.next mu, chv ch Au cu Ab cb, .func (.func 91) #[] #[]] w (SRU K w (doS S ch) (doE S ch) (doN S ch)) := by
  have h := swithin_any S hi ch (Au := Au) (Ab := Ab) (cu := cu) (cb := cb) hsz 91 (enters_of Tryz.func91 (by kernel_rfl) rfl) (fun _ _ => 0) (fun bs b => putL bkey (expB b ch.uids) bs) (fun _ b => ((goneL ch.uids b.l).length : Int))
    (fun V o K' m bs pass b A c hi hgd => expunge_any pass b hi ch (hci.uids.keep o) hci.many)
  have hw : wiE S ch _ = doE S ch ∧ (wiE S ch _ = 0 → wiS S ch _ = doS S ch ∧ wiN S ch _ = doN S ch) := wi_do (S := S) (ch := ch) (fE := (fun _ _ => 0)) (fB := (fun bs b => putL bkey (expB b ch.uids) bs)) (fN := (fun _ b => ((goneL ch.uids b.l).length : Int))) (by omega) (by omega) (fun u b => by simp [actE, actU, actN, hk, Us.having])
  refine h.mono fun e w' hh => ?_
  have := hh.one hw.2
  rw [hw.1] at this
  exact this
theorem after8 {K : Nat → Prop} {w : World} {mu : Option Nat} (S : Stt) (hi : SIn K w mu S) (ch : Ch) {Au Ab : Option Addr} {cu cb : Nat} (hsz : ch.user.length ≤ 12 ∧ ch.box.length ≤ 12) (hci : ChIn w ch Au Ab) (hk : ch.kind = 8) :
    Calls Tryz.prog 86 #[stv S.next mu, chv ch Au cu Ab cb, .func (.func 92) #[] #[]] w (SRU K w (doS S ch) (doE S ch) (doN S ch)) := by
  have h := swithin_any S hi ch (Au := Au) (Ab := Ab) (cu := cu) (cb := cb) hsz 92 (enters_of Tryz.func92 (by kernel_rfl) rfl) (fun bs b => match findL bkey bs (tx ch.to) with | none => 7 | some to => (copyL ch.uids to b.l).1) (fun bs b => match findL bkey bs (tx ch.to) with | none => [] | some to => putL bkey (copyL ch.uids to b.l).2.1 bs) (fun bs b => match findL bkey bs (tx ch.to) with | none => 0 | some to => ((copyL ch.uids to b.l).2.2 : Int))
    (fun V o K' m bs pass b A c hi hgd => transcribe_any pass b hi ch (hci.uids.keep o) hci.many hci.to hgd (isB_zero hi.good).2.2.2.2.1)
  have hw : wiE S ch _ = doE S ch ∧ (wiE S ch _ = 0 → wiS S ch _ = doS S ch ∧ wiN S ch _ = doN S ch) := wi_do (S := S) (ch := ch) (fE := (fun bs b => match findL bkey bs (tx ch.to) with | none => 7 | some to => (copyL ch.uids to b.l).1)) (fB := (fun bs b => match findL bkey bs (tx ch.to) with | none => [] | some to => putL bkey (copyL ch.uids to b.l).2.1 bs)) (fN := (fun bs b => match findL bkey bs (tx ch.to) with | none => 0 | some to => ((copyL ch.uids to b.l).2.2 : Int))) (by omega) (by omega) (fun u b => by unfold actE actU actN Us.box Us.having; simp only [hk]; cases findL bkey u.bs (tx ch.to) <;> simp)
  refine h.mono fun e w' hh => ?_
  have := hh.one hw.2
  rw [hw.1] at this
  exact this
set_option maxRecDepth 100000 in
set_option maxHeartbeats 2000000 in
theorem after_any {K : Nat → Prop} {w : World} {mu : Option Nat} (S : Stt) (hi : SIn K w mu S) (ch : Ch) {Au Ab : Option Addr} {cu cb : Nat} (hsz : ch.user.length ≤ 12 ∧ ch.box.length ≤ 12) (hci : ChIn w ch Au Ab) (hk8 : ch.kind = 1 ∨ ch.kind = 2 ∨ ch.kind = 3 ∨ ch.kind = 4 ∨ ch.kind = 5 ∨ ch.kind = 6 ∨ ch.kind = 7 ∨ ch.kind = 8):
    Calls Tryz.prog 42 #[stv S.next mu, chv ch Au cu Ab cb] w (SR K w (doS S ch) (doE S ch) (doN S ch)) := by
  obtain ⟨⟨us, hus, hmap⟩, hK, hg⟩ := hi
  have hf := three_blocks w #[.int .i64 S.next, .map mu] #[.int .i64 ch.kind, .string (St ch.user), .string (St ch.pass), .string (St ch.box), .string (St ch.to), .slice Au ch.uids.length cu, .int .i64 ch.mode, .int .i64 ch.flags, .int .i64 ch.date, .slice Ab ch.body.length cb] #[.int .i64 0, .map none] 91 29 91
  obtain ⟨Er, hEr⟩ : ∃ x : Int, (doE S ch) = x := ⟨_, rfl⟩
  obtain ⟨Sr, hSr⟩ : ∃ x : Stt, (doS S ch) = x := ⟨_, rfl⟩
  rw [hEr, hSr]
  have HER := Lib.hid hEr
  have HSR := Lib.hid hSr
  have HU := Lib.hid hus
  have HMP := Lib.hid hmap
  have HK := Lib.hid hK
  have HG := Lib.hid hg
  have HSZ := Lib.hid hsz
  unfold stv chv
  clear hEr hSr hus hmap hK hg hsz
  obtain ⟨Nr, hNr⟩ : ∃ x : Int, doN S ch = x := ⟨_, rfl⟩
  rw [hNr]
  have HNR := Lib.hid hNr
  have HCI := Lib.hid hci
  clear hNr hci
  go_enter Tryz.func42, Tryz.ntmps42
  go_upto_region 1 with fail
  revert hf
  generalize (((w.alloc (.cells #[.int .i64 S.next, .map mu] 91)).alloc (.cells #[.int .i64 ch.kind, .string (St ch.user), .string (St ch.pass), .string (St ch.box), .string (St ch.to), .slice Au ch.uids.length cu, .int .i64 ch.mode, .int .i64 ch.flags, .int .i64 ch.date, .slice Ab ch.body.length cb] 29)).alloc (.cells #[.int .i64 0, .map none] 91)) = W
  rintro ⟨hS, hC, hR, hO⟩
  obtain ⟨s0, s1⟩ := bk_two hS
  obtain ⟨k0, k1, k2, k3, k4, k5, k6, k7, k8, k9⟩ := bk_ten hC
  obtain ⟨r0, r1⟩ := bk_two hR
  have rf0 := hR.free 0
  have rf1 := hR.free 1
  have rl := hR.lt
  have sl := hS.lt
  have cl := hC.lt
  have HS := Lib.hid hS
  have HC := Lib.hid hC
  have HR := Lib.hid hR
  have HO := Lib.hid hO
  have HKX : Hid (∀ x, W.heap.size ≤ x → Kx K w 3 x) := fun x hx => ⟨HK.out x (by omega), .inr (by omega)⟩
  have HUW : Hid (UsIs (Kx K w 3) W mu us) := HU.out.kx 3 HO.out
  clear hS hC hR hO
  have HSI : Hid (SIn (Kx K w 3) W mu S) := ⟨⟨us, HUW.out, HMP.out⟩, HKX.out, HG.out⟩
  have HCW : Hid (ChIn W ch Au Ab) := ⟨HCI.out.uids.keep HO.out, HCI.out.body.keep HO.out, HCI.out.many, HCI.out.to⟩
  rcases hk8 with hk | hk | hk | hk | hk | hk | hk | hk
  · have HAF : Hid (Calls Tryz.prog 84 #[.agg #[.int .i64 S.next, .map mu], .agg #[.int .i64 1, .string (St ch.user), .string (St ch.pass), .string (St ch.box), .string (St ch.to), .slice Au ch.uids.length cu, .int .i64 ch.mode, .int .i64 ch.flags, .int .i64 ch.date, .slice Ab ch.body.length cb]] W (SRU (Kx K w 3) W Sr Er Nr)) := by
      have hh : Calls Tryz.prog 84 #[stv S.next mu, chv ch Au cu Ab cb] W (SRU (Kx K w 3) W (doS S ch) (doE S ch) (doN S ch)) := by
        have h := enrol_any S HSI.out ch (Au := Au) (Ab := Ab) (cu := cu) (cb := cb) HSZ.out
        refine h.mono fun e w' hh => ?_
        have he : refE (S.user ch.user).isSome S.us.length S.next = doE S ch := by unfold doE; rw [if_pos hk]
        rw [he] at hh
        refine hh.one fun _ => ⟨?_, ?_⟩
        · unfold doS; rw [if_pos hk]
        · unfold doN; rw [if_pos hk]
      rw [HER.out, HSR.out, HNR.out] at hh
      unfold stv chv at hh
      rw [hk] at hh
      exact hh
    rw [hk] at k0
    clear hk
    go_wp2_with (go_at_call 84; go_must (refine HAF.out.mono ?_); rintro e w2 ⟨a, mu3, n3, e3, rfl, O2, hr⟩; have hr := Lib.hid hr; have B3 := HR.out.only O2 (by simp); clear s0 s1 sl k0 k1 k2 k3 k4 k5 k6 k7 k8 k9 cl r0 r1 rf0 rf1 rl; obtain ⟨r0, r1⟩ := bk_two B3; have rf0 := B3.free 0; have rf1 := B3.free 1; have rl := B3.lt)
    exact st_ret3 (s := 4) (u := 5) (v := 6) (by kernel_rfl) (w.heap.size + 1 + 1) _ _ _ _ rfl rfl rfl (bk_store2 B3 _ _) (SRU.done hr.out (HO.out.then O2))
  · have HAF : Hid (Calls Tryz.prog 85 #[.agg #[.int .i64 S.next, .map mu], .agg #[.int .i64 2, .string (St ch.user), .string (St ch.pass), .string (St ch.box), .string (St ch.to), .slice Au ch.uids.length cu, .int .i64 ch.mode, .int .i64 ch.flags, .int .i64 ch.date, .slice Ab ch.body.length cb]] W (SRU (Kx K w 3) W Sr Er Nr)) := by
      have hh : Calls Tryz.prog 85 #[stv S.next mu, chv ch Au cu Ab cb] W (SRU (Kx K w 3) W (doS S ch) (doE S ch) (doN S ch)) := by
        have h := create_any S HSI.out ch (Au := Au) (Ab := Ab) (cu := cu) (cb := cb) HSZ.out
        refine h.mono fun e w' hh => ?_
        cases hu : S.user ch.user with
        | none =>
          simp only [hu] at hh
          have e1 : doE S ch = 7 := by unfold doE; rw [if_neg (by omega)]; simp [hu]
          have e2 : doS S ch = S := by unfold doS; rw [if_neg (by omega)]; simp [hu]
          have e3 : doN S ch = 0 := by unfold doN; rw [if_neg (by omega)]; simp [hu]
          rw [e1, e2, e3]
          exact hh.one (fun _ => ⟨rfl, rfl⟩)
        | some u =>
          simp only [hu] at hh
          have e1 : doE S ch = refE (u.box ch.box).isSome u.bs.length S.next := by unfold doE; rw [if_neg (by omega)]; simp [hu, hk]
          have e2 : doS S ch = S.withNew u ch.box := by unfold doS; rw [if_neg (by omega)]; simp [hu, hk]
          have e3 : doN S ch = 0 := by unfold doN; rw [if_neg (by omega)]; simp [hu, hk]
          rw [e1, e2, e3]
          exact hh.one (fun _ => ⟨rfl, rfl⟩)
      rw [HER.out, HSR.out, HNR.out] at hh
      unfold stv chv at hh
      rw [hk] at hh
      exact hh
    rw [hk] at k0
    clear hk
    go_wp2_with (go_at_call 85; go_must (refine HAF.out.mono ?_); rintro e w2 ⟨a, mu3, n3, e3, rfl, O2, hr⟩; have hr := Lib.hid hr; have B3 := HR.out.only O2 (by simp); clear s0 s1 sl k0 k1 k2 k3 k4 k5 k6 k7 k8 k9 cl r0 r1 rf0 rf1 rl; obtain ⟨r0, r1⟩ := bk_two B3; have rf0 := B3.free 0; have rf1 := B3.free 1; have rl := B3.lt)
    exact st_ret3 (s := 4) (u := 5) (v := 6) (by kernel_rfl) (w.heap.size + 1 + 1) _ _ _ _ rfl rfl rfl (bk_store2 B3 _ _) (SRU.done hr.out (HO.out.then O2))
  · have HAF : Hid (Calls Tryz.prog 86 #[.agg #[.int .i64 S.next, .map mu], .agg #[.int .i64 3, .string (St ch.user), .string (St ch.pass), .string (St ch.box), .string (St ch.to), .slice Au ch.uids.length cu, .int .i64 ch.mode, .int .i64 ch.flags, .int .i64 ch.date, .slice Ab ch.body.length cb], .func (.func 87) #[] #[]] W (SRU (Kx K w 3) W Sr Er Nr)) := by
      have hh : Calls Tryz.prog 86 #[stv S.next mu, chv ch Au cu Ab cb, .func (.func 87) #[] #[]] W (SRU (Kx K w 3) W (doS S ch) (doE S ch) (doN S ch)) := by
        exact after3 S HSI.out ch HSZ.out HCW.out hk
      rw [HER.out, HSR.out, HNR.out] at hh
      unfold stv chv at hh
      rw [hk] at hh
      exact hh
    rw [hk] at k0
    clear hk
    go_wp2_with (go_at_call 86; go_must (refine HAF.out.mono ?_); rintro e w2 ⟨a, mu3, n3, e3, rfl, O2, hr⟩; have hr := Lib.hid hr; have B3 := HR.out.only O2 (by simp); clear s0 s1 sl k0 k1 k2 k3 k4 k5 k6 k7 k8 k9 cl r0 r1 rf0 rf1 rl; obtain ⟨r0, r1⟩ := bk_two B3; have rf0 := B3.free 0; have rf1 := B3.free 1; have rl := B3.lt)
    exact st_ret3 (s := 4) (u := 5) (v := 6) (by kernel_rfl) (w.heap.size + 1 + 1) _ _ _ _ rfl rfl rfl (bk_store2 B3 _ _) (SRU.done hr.out (HO.out.then O2))
  · have HAF : Hid (Calls Tryz.prog 86 #[.agg #[.int .i64 S.next, .map mu], .agg #[.int .i64 4, .string (St ch.user), .string (St ch.pass), .string (St ch.box), .string (St ch.to), .slice Au ch.uids.length cu, .int .i64 ch.mode, .int .i64 ch.flags, .int .i64 ch.date, .slice Ab ch.body.length cb], .func (.func 88) #[] #[]] W (SRU (Kx K w 3) W Sr Er Nr)) := by
      have hh : Calls Tryz.prog 86 #[stv S.next mu, chv ch Au cu Ab cb, .func (.func 88) #[] #[]] W (SRU (Kx K w 3) W (doS S ch) (doE S ch) (doN S ch)) := by
        exact after4 S HSI.out ch HSZ.out HCW.out hk
      rw [HER.out, HSR.out, HNR.out] at hh
      unfold stv chv at hh
      rw [hk] at hh
      exact hh
    rw [hk] at k0
    clear hk
    go_wp2_with (go_at_call 86; go_must (refine HAF.out.mono ?_); rintro e w2 ⟨a, mu3, n3, e3, rfl, O2, hr⟩; have hr := Lib.hid hr; have B3 := HR.out.only O2 (by simp); clear s0 s1 sl k0 k1 k2 k3 k4 k5 k6 k7 k8 k9 cl r0 r1 rf0 rf1 rl; obtain ⟨r0, r1⟩ := bk_two B3; have rf0 := B3.free 0; have rf1 := B3.free 1; have rl := B3.lt)
    exact st_ret3 (s := 4) (u := 5) (v := 6) (by kernel_rfl) (w.heap.size + 1 + 1) _ _ _ _ rfl rfl rfl (bk_store2 B3 _ _) (SRU.done hr.out (HO.out.then O2))
  · have HAF : Hid (Calls Tryz.prog 86 #[.agg #[.int .i64 S.next, .map mu], .agg #[.int .i64 5, .string (St ch.user), .string (St ch.pass), .string (St ch.box), .string (St ch.to), .slice Au ch.uids.length cu, .int .i64 ch.mode, .int .i64 ch.flags, .int .i64 ch.date, .slice Ab ch.body.length cb], .func (.func 89) #[] #[]] W (SRU (Kx K w 3) W Sr Er Nr)) := by
      have hh : Calls Tryz.prog 86 #[stv S.next mu, chv ch Au cu Ab cb, .func (.func 89) #[] #[]] W (SRU (Kx K w 3) W (doS S ch) (doE S ch) (doN S ch)) := by
        exact after5 S HSI.out ch HSZ.out HCW.out hk
      rw [HER.out, HSR.out, HNR.out] at hh
      unfold stv chv at hh
      rw [hk] at hh
      exact hh
    rw [hk] at k0
    clear hk
    go_wp2_with (go_at_call 86; go_must (refine HAF.out.mono ?_); rintro e w2 ⟨a, mu3, n3, e3, rfl, O2, hr⟩; have hr := Lib.hid hr; have B3 := HR.out.only O2 (by simp); clear s0 s1 sl k0 k1 k2 k3 k4 k5 k6 k7 k8 k9 cl r0 r1 rf0 rf1 rl; obtain ⟨r0, r1⟩ := bk_two B3; have rf0 := B3.free 0; have rf1 := B3.free 1; have rl := B3.lt)
    exact st_ret3 (s := 4) (u := 5) (v := 6) (by kernel_rfl) (w.heap.size + 1 + 1) _ _ _ _ rfl rfl rfl (bk_store2 B3 _ _) (SRU.done hr.out (HO.out.then O2))
  · have HAF : Hid (Calls Tryz.prog 86 #[.agg #[.int .i64 S.next, .map mu], .agg #[.int .i64 6, .string (St ch.user), .string (St ch.pass), .string (St ch.box), .string (St ch.to), .slice Au ch.uids.length cu, .int .i64 ch.mode, .int .i64 ch.flags, .int .i64 ch.date, .slice Ab ch.body.length cb], .func (.func 90) #[] #[]] W (SRU (Kx K w 3) W Sr Er Nr)) := by
      have hh : Calls Tryz.prog 86 #[stv S.next mu, chv ch Au cu Ab cb, .func (.func 90) #[] #[]] W (SRU (Kx K w 3) W (doS S ch) (doE S ch) (doN S ch)) := by
        exact after6 S HSI.out ch HSZ.out HCW.out hk
      rw [HER.out, HSR.out, HNR.out] at hh
      unfold stv chv at hh
      rw [hk] at hh
      exact hh
    rw [hk] at k0
    clear hk
    go_wp2_with (go_at_call 86; go_must (refine HAF.out.mono ?_); rintro e w2 ⟨a, mu3, n3, e3, rfl, O2, hr⟩; have hr := Lib.hid hr; have B3 := HR.out.only O2 (by simp); clear s0 s1 sl k0 k1 k2 k3 k4 k5 k6 k7 k8 k9 cl r0 r1 rf0 rf1 rl; obtain ⟨r0, r1⟩ := bk_two B3; have rf0 := B3.free 0; have rf1 := B3.free 1; have rl := B3.lt)
    exact st_ret3 (s := 4) (u := 5) (v := 6) (by kernel_rfl) (w.heap.size + 1 + 1) _ _ _ _ rfl rfl rfl (bk_store2 B3 _ _) (SRU.done hr.out (HO.out.then O2))
  · have HAF : Hid (Calls Tryz.prog 86 #[.agg #[.int .i64 S.next, .map mu], .agg #[.int .i64 7, .string (St ch.user), .string (St ch.pass), .string (St ch.box), .string (St ch.to), .slice Au ch.uids.length cu, .int .i64 ch.mode, .int .i64 ch.flags, .int .i64 ch.date, .slice Ab ch.body.length cb], .func (.func 91) #[] #[]] W (SRU (Kx K w 3) W Sr Er Nr)) := by
      have hh : Calls Tryz.prog 86 #[stv S.next mu, chv ch Au cu Ab cb, .func (.func 91) #[] #[]] W (SRU (Kx K w 3) W (doS S ch) (doE S ch) (doN S ch)) := by
        exact after7 S HSI.out ch HSZ.out HCW.out hk
      rw [HER.out, HSR.out, HNR.out] at hh
      unfold stv chv at hh
      rw [hk] at hh
      exact hh
    rw [hk] at k0
    clear hk
    go_wp2_with (go_at_call 86; go_must (refine HAF.out.mono ?_); rintro e w2 ⟨a, mu3, n3, e3, rfl, O2, hr⟩; have hr := Lib.hid hr; have B3 := HR.out.only O2 (by simp); clear s0 s1 sl k0 k1 k2 k3 k4 k5 k6 k7 k8 k9 cl r0 r1 rf0 rf1 rl; obtain ⟨r0, r1⟩ := bk_two B3; have rf0 := B3.free 0; have rf1 := B3.free 1; have rl := B3.lt)
    exact st_ret3 (s := 4) (u := 5) (v := 6) (by kernel_rfl) (w.heap.size + 1 + 1) _ _ _ _ rfl rfl rfl (bk_store2 B3 _ _) (SRU.done hr.out (HO.out.then O2))
  · have HAF : Hid (Calls Tryz.prog 86 #[.agg #[.int .i64 S.next, .map mu], .agg #[.int .i64 8, .string (St ch.user), .string (St ch.pass), .string (St ch.box), .string (St ch.to), .slice Au ch.uids.length cu, .int .i64 ch.mode, .int .i64 ch.flags, .int .i64 ch.date, .slice Ab ch.body.length cb], .func (.func 92) #[] #[]] W (SRU (Kx K w 3) W Sr Er Nr)) := by
      have hh : Calls Tryz.prog 86 #[stv S.next mu, chv ch Au cu Ab cb, .func (.func 92) #[] #[]] W (SRU (Kx K w 3) W (doS S ch) (doE S ch) (doN S ch)) := by
        exact after8 S HSI.out ch HSZ.out HCW.out hk
      rw [HER.out, HSR.out, HNR.out] at hh
      unfold stv chv at hh
      rw [hk] at hh
      exact hh
    rw [hk] at k0
    clear hk
    go_wp2_with (go_at_call 86; go_must (refine HAF.out.mono ?_); rintro e w2 ⟨a, mu3, n3, e3, rfl, O2, hr⟩; have hr := Lib.hid hr; have B3 := HR.out.only O2 (by simp); clear s0 s1 sl k0 k1 k2 k3 k4 k5 k6 k7 k8 k9 cl r0 r1 rf0 rf1 rl; obtain ⟨r0, r1⟩ := bk_two B3; have rf0 := B3.free 0; have rf1 := B3.free 1; have rl := B3.lt)
    exact st_ret3 (s := 4) (u := 5) (v := 6) (by kernel_rfl) (w.heap.size + 1 + 1) _ _ _ _ rfl rfl rfl (bk_store2 B3 _ _) (SRU.done hr.out (HO.out.then O2))
end Go.Proofs.YtgnilldcfpgpaaaGreatDoor
namespace Go.Proofs.YtgnilldcfpgpaaaGreatDoor
def numd (k : Nat) (p : List UInt8) : List UInt8 := enc k ++ (enc p.length ++ p)
def pV (b : List UInt8) : Nat := takeV false b
def pRow (b : List UInt8) : List UInt8 := rowTook (takeBad false b) (takeRest false b)
def pOk (b : List UInt8) : Bool := !rowBad (takeBad false b) (takeRest false b) && decide (rowRest (takeBad false b) (takeRest false b) = [])
def prsR (b : List UInt8) : Option (Nat × List UInt8) := if pOk b = true then (if 1099511627776 < pV b then none else some (pV b, pRow b)) else none
theorem take_enc (k : Nat) (r : List UInt8) (h : k ≤ 4611686018427387904) : takeV false (enc k ++ r) = k ∧ takeBad false (enc k ++ r) = false ∧ takeRest false (enc k ++ r) = r := by
  have hd := dec_enc k r h
  have hv : decV (enc k ++ r) = k := by unfold decV; rw [hd]; rfl
  have hn : decN (enc k ++ r) = (enc k).length := by unfold decN; rw [hd]; rfl
  have hp := enc_len_pos k
  have hb : takeBad false (enc k ++ r) = false := by
    unfold takeBad
    rw [hn]
    simp only [Bool.false_or, decide_eq_false_iff_not]
    omega
  refine ⟨by unfold takeV; simpa using hv, hb, ?_⟩
  unfold takeRest
  rw [hb, hn]
  simp
theorem prsR_numd {k : Nat} {p : List UInt8} (hk : k ≤ 1099511627776) (hp : p.length ≤ 1099511627776) : prsR (numd k p) = some (k, p) := by
  obtain ⟨a1, a2, a3⟩ := take_enc k (enc p.length ++ p) (by omega)
  obtain ⟨b1, b2, b3⟩ := take_enc p.length p (by omega)
  have hbad : rawBad false p (p.length : Int) = false := by unfold rawBad; simp
  obtain ⟨c1, c2⟩ := raw_of_good hbad
  have e1 : pV (numd k p) = k := a1
  have e2 : pRow (numd k p) = p := by
    unfold pRow rowTook numd
    rw [a2, a3, b1, b2, b3, c1]
    simp
  have e3 : pOk (numd k p) = true := by
    unfold pOk rowBad rowRest numd
    rw [a2, a3, b1, b2, b3, hbad, c2]
    simp
  unfold prsR
  rw [e1, e2, e3, if_pos rfl, if_neg (by omega)]
theorem numd_len {k : Nat} {p : List UInt8} (hk : k ≤ 1099511627776) (hp : p.length ≤ 1099511627776) : (numd k p).length ≤ p.length + 18 := by
  unfold numd
  have h1 := enc_len9 (v := k) (by omega)
  have h2 := enc_len9 (v := p.length) (by omega)
  rw [List.length_append, List.length_append]
  omega
end Go.Proofs.YtgnilldcfpgpaaaGreatDoor
namespace Go.Proofs.YtgnilldcfpgpaaaGreatDoor
theorem sumOf_lt (l : List UInt8) : sumOf l < 4294967296 := by unfold sumOf; omega
def four (v : Nat) : List UInt8 := [UInt8.ofNat (v % 256), UInt8.ofNat (v / 256 % 256), UInt8.ofNat (v / 65536 % 256), UInt8.ofNat (v / 16777216 % 256)]
def from4 : List UInt8 → Nat
  | a :: b :: c :: d :: _ => a.toNat + 256 * b.toNat + 65536 * c.toNat + 16777216 * d.toNat
  | _ => 0
theorem four_len (v : Nat) : (four v).length = 4 := rfl
theorem from4_lt (l : List UInt8) : from4 l < 4294967296 := by
  match l with
  | [] | [_] | [_, _] | [_, _, _] => simp [from4]
  | a :: b :: c :: d :: _ =>
    have := a.toNat_lt
    have := b.toNat_lt
    have := c.toNat_lt
    have := d.toNat_lt
    simp only [from4]
    omega
theorem ofNat_toNat {x : Nat} (h : x < 256) : (UInt8.ofNat x).toNat = x := by rw [UInt8.toNat_ofNat']; omega
theorem from4_take (l : List UInt8) : from4 (l.take 4) = from4 l := by
  match l with
  | [] | [_] | [_, _] | [_, _, _] => rfl
  | _ :: _ :: _ :: _ :: _ => rfl
def heading (n : Nat) : List UInt8 := four n ++ four (sumOf (four n))
def record (p : List UInt8) : List UInt8 := heading p.length ++ p ++ four (sumOf (heading p.length ++ p))
theorem heading_len (n : Nat) : (heading n).length = 8 := rfl
def bad (b : List UInt8) : Nat :=
  if b.length < 8 then 2
  else if sumOf (b.take 4) ≠ from4 (b.drop 4) then 4
  else if 1048576 < from4 b then 5
  else if b.length < 12 + from4 b then 2
  else if sumOf (b.take (8 + from4 b)) ≠ from4 (b.drop (8 + from4 b)) then 4
  else 0
def body (b : List UInt8) : List UInt8 := if bad b = 0 then (b.drop 8).take (from4 b) else []
def size (b : List UInt8) : Nat := if bad b = 0 then 12 + from4 b else 0
theorem bad_0 {b : List UInt8} (h : b.length < 8) : bad b = 2 := by rw [bad, if_pos h]
theorem bad_1 {b : List UInt8} (h : ¬ b.length < 8) (h1 : sumOf (b.take 4) ≠ from4 (b.drop 4)) : bad b = 4 := by rw [bad, if_neg h, if_pos h1]
theorem bad_2 {b : List UInt8} (h : ¬ b.length < 8) (h1 : sumOf (b.take 4) = from4 (b.drop 4)) (h2 : 1048576 < from4 b) : bad b = 5 := by rw [bad, if_neg h, if_neg (fun n => n h1), if_pos h2]
theorem bad_3 {b : List UInt8} (h : ¬ b.length < 8) (h1 : sumOf (b.take 4) = from4 (b.drop 4)) (h2 : ¬ 1048576 < from4 b) (h3 : b.length < 12 + from4 b) : bad b = 2 := by
  rw [bad, if_neg h, if_neg (fun n => n h1), if_neg h2, if_pos h3]
theorem bad_4 {b : List UInt8} (h : ¬ b.length < 8) (h1 : sumOf (b.take 4) = from4 (b.drop 4)) (h2 : ¬ 1048576 < from4 b) (h3 : ¬ b.length < 12 + from4 b) (h4 : sumOf (b.take (8 + from4 b)) ≠ from4 (b.drop (8 + from4 b))) : bad b = 4 := by
  rw [bad, if_neg h, if_neg (fun n => n h1), if_neg h2, if_neg h3, if_pos h4]
theorem bad_5 {b : List UInt8} (h : ¬ b.length < 8) (h1 : sumOf (b.take 4) = from4 (b.drop 4)) (h2 : ¬ 1048576 < from4 b) (h3 : ¬ b.length < 12 + from4 b) (h4 : sumOf (b.take (8 + from4 b)) = from4 (b.drop (8 + from4 b))) : bad b = 0 := by
  rw [bad, if_neg h, if_neg (fun n => n h1), if_neg h2, if_neg h3, if_neg (fun n => n h4)]
theorem bad_le (b : List UInt8) : bad b ≤ 5 := by
  unfold bad
  split
  · omega
  split
  · omega
  split
  · omega
  split
  · omega
  split <;> omega
theorem size_pos {b : List UInt8} (h : bad b = 0) : 12 ≤ size b ∧ size b ≤ b.length ∧ size b = 12 + (body b).length := by
  have hs : size b = 12 + from4 b := by rw [size, if_pos h]
  have hb : body b = (b.drop 8).take (from4 b) := by rw [body, if_pos h]
  have hl : ¬ b.length < 12 + from4 b := by
    intro hl
    unfold bad at h
    rw [if_pos hl] at h
    split at h
    · omega
    · split at h
      · omega
      · split at h <;> omega
  rw [hs, hb, List.length_take, List.length_drop]
  omega
theorem body_bad {b : List UInt8} (h : bad b ≠ 0) : body b = [] := by rw [body, if_neg h]
theorem size_bad {b : List UInt8} (h : bad b ≠ 0) : size b = 0 := by rw [size, if_neg h]
def oneBad (b : List UInt8) : Nat := if bad b = 0 then (if size b < b.length then 3 else 0) else bad b
def oneBody (b : List UInt8) : List UInt8 := if oneBad b = 0 then body b else []
theorem one_0 {b : List UInt8} (h : bad b ≠ 0) : oneBad b = bad b ∧ oneBody b = [] := by
  have e : oneBad b = bad b := by rw [oneBad, if_neg h]
  exact ⟨e, by rw [oneBody, e, if_neg h]⟩
theorem one_1 {b : List UInt8} (h : bad b = 0) (hs : size b < b.length) : oneBad b = 3 ∧ oneBody b = [] := by
  have e : oneBad b = 3 := by rw [oneBad, if_pos h, if_pos hs]
  exact ⟨e, by rw [oneBody, e, if_neg (by omega)]⟩
theorem one_2 {b : List UInt8} (h : bad b = 0) (hs : ¬ size b < b.length) : oneBad b = 0 ∧ oneBody b = body b := by
  have e : oneBad b = 0 := by rw [oneBad, if_pos h, if_neg hs]
  exact ⟨e, by rw [oneBody, e, if_pos rfl]⟩
def scan (b : List UInt8) : List (List UInt8) × Nat :=
  if h : bad b = 0 then
    have : (b.drop (size b)).length < b.length := by have := size_pos h; rw [List.length_drop]; omega
    (body b :: (scan (b.drop (size b))).1, size b + (scan (b.drop (size b))).2)
  else ([], 0)
termination_by b.length
decreasing_by all_goals (have := size_pos h; simp only [List.length_drop]; omega)
theorem scan_good {b : List UInt8} (h : bad b = 0) : scan b = (body b :: (scan (b.drop (size b))).1, size b + (scan (b.drop (size b))).2) := by rw [scan, dif_pos h]
theorem scan_bad {b : List UInt8} (h : bad b ≠ 0) : scan b = ([], 0) := by rw [scan, dif_neg h]
theorem scan_le : ∀ (n : Nat) (b : List UInt8), b.length ≤ n → (scan b).2 ≤ b.length ∧ 12 * (scan b).1.length + (scan b).1.flatten.length = (scan b).2 := by
  intro n
  induction n with
  | zero =>
    intro b hb
    rw [scan_bad (by rw [bad_0 (by omega)]; omega)]
    simp
  | succ n ih =>
    intro b hb
    by_cases h : bad b = 0
    · have hs := size_pos h
      have hi := ih (b.drop (size b)) (by rw [List.length_drop]; omega)
      rw [scan_good h]
      rw [List.length_drop] at hi
      simp only [List.length_cons, List.flatten_cons, List.length_append]
      omega
    · rw [scan_bad h]
      simp
end Go.Proofs.YtgnilldcfpgpaaaGreatDoor
namespace Go.Proofs.YtgnilldcfpgpaaaGreatDoor
open Go.RowKit
theorem join_rows (A : Option Addr) (n c : Nat) (ls : List (List UInt8)) (p : List UInt8) (w : World) (hp : ls.flatten = p) (hr : Rw w A n ls) (hn : n ≤ 4611686018427387904) (ht : p.length ≤ 1000000000000) :
    Calls Tryz.prog 137 #[.slice A n c] w (Fresh w p) := by
  subst hp
  exact join_any A n c ls w hr (by omega) (by omega)
theorem join_two (w : World) (A B : Option Addr) (c d m k : Nat) (q r p : List UInt8) (hq : q.length = m) (hr : r.length = k) (hp : q ++ r = p) (hs : Sl w A m (bvs q)) (ht : Sl w B k (bvs r)) (hm : p.length ≤ 1000000000000) :
    Calls Tryz.prog 137 #[.slice (some ⟨w.heap.size, 0, none⟩) 2 2] (w.alloc (.cells #[.slice A m c, .slice B k d] 27)) (Fresh w p) := by
  subst hq hr
  have hfl : [q, r].flatten = p := by simpa using hp
  refine (join_rows (some ⟨w.heap.size, 0, none⟩) 2 2 [q, r] p (w.alloc (.cells #[.slice A q.length c, .slice B r.length d] 27)) hfl (Rw.two (Bk.new _ _ _) (hs.alloc _) (ht.alloc _)) (by omega) hm).mono fun e w' hh => ?_
  obtain ⟨P, cp, he, hv, ho, hb⟩ := hh
  exact ⟨P, cp, he, hv, ((Only.refl _ _).alloc _).then ho, fun k hk => by have := hb k hk; rw [World.size_alloc] at this; omega⟩
theorem sum_rows (A : Option Addr) (n c : Nat) (ls : List (List UInt8)) (p : List UInt8) (w : World) (hp : ls.flatten = p) (hr : Rw w A n ls) (ht : Tab w) (hn : n ≤ 4611686018427387904) (hb : p.length ≤ 1000000000000) :
    Calls Tryz.prog 229 #[.slice A n c] w fun e w' => e = .returned (.int .u32 (sumOf p : Nat)) ∧ w = w' := by
  subst hp
  refine sum_any A n c ls w hr ht (by omega) (fun r hr' => ?_)
  obtain ⟨a, b, rfl⟩ := List.append_of_mem hr'
  simp only [List.flatten_append, List.flatten_cons, List.length_append] at hb
  omega
theorem sum_one (w : World) (A : Option Addr) (c m : Nat) (q : List UInt8) (hlen : q.length = m) (hs : Sl w A m (bvs q)) (ht : Tab w) (hm : m ≤ 1000000000000) :
    Calls Tryz.prog 229 #[.slice (some ⟨w.heap.size, 0, none⟩) 1 1] (w.alloc (.cells #[.slice A m c] 27)) fun e w' => e = .returned (.int .u32 (sumOf q : Nat)) ∧ w.alloc (.cells #[.slice A m c] 27) = w' := by
  subst hlen
  exact sum_rows _ 1 1 [q] q _ (by simp) (Rw.one (Bk.new _ _ _) (hs.alloc _)) (ht.keep ((Only.refl _ _).alloc _)) (by omega) hm
end Go.Proofs.YtgnilldcfpgpaaaGreatDoor
namespace Go.Proofs.YtgnilldcfpgpaaaGreatDoor
open Go.RowKit
def Word (w : World) (v : Nat) (e : Ending) (w' : World) : Prop :=
  ∃ A c, e = .returned (.slice A 4 c) ∧ Own w' 5 A 4 c (bvs (four v)) ∧ Only [] w w' ∧ ∀ k ∈ blks A, w.heap.size ≤ k
set_option maxHeartbeats 400000 in
theorem wordOf_any (v : Nat) (w : World) (hv : v < 4294967296) : Calls Tryz.prog 201 #[.int .u32 v] w (Word w v) := by
  go_enter Tryz.func201, Tryz.ntmps201
  go_wp2
  go_ret
  refine ⟨_, 4, rfl, ?_, (Only.refl _ _).alloc _, fun k hk => ?_⟩
  · have e : bvs (four v) = [.int .u8 ((v : Int) % 256), .int .u8 ((v : Int) / 256 % 256), .int .u8 ((v : Int) / 65536 % 256), .int .u8 ((v : Int) / 16777216)] := by
      simp only [four, bvs, List.map_cons, List.map_nil, bv]
      rw [ofNat_toNat (by omega), ofNat_toNat (by omega), ofNat_toNat (by omega), ofNat_toNat (by omega)]
      simp
      omega
    rw [e]
    exact World.ownsRow_lit w #[.int .u8 ((v : Int) % 256), .int .u8 ((v : Int) / 256 % 256), .int .u8 ((v : Int) / 65536 % 256), .int .u8 ((v : Int) / 16777216)] 4 (Nat.zero_le _) (by decide) rfl
  · simp at hk; omega
theorem or32_add (k a b : Nat) (ha : a < 4294967296) (hb : b < 4294967296) (hk : b % 2 ^ k = 0) (hl : a < 2 ^ k) : bits .or .u32 (a : Int) (b : Int) = ((a + b : Nat) : Int) := by
  rw [u32_or_nat a b ha hb, Nat.or_comm, nat_join k b a hk hl, Nat.add_comm]
theorem four_or (x0 x1 x2 x3 : Nat) (b0 : x0 < 256) (b1 : x1 < 256) (b2 : x2 < 256) (b3 : x3 < 256) :
    bits .or .u32 (bits .or .u32 (bits .or .u32 (x0 : Int) ((x1 : Int) * 256)) ((x2 : Int) * 65536)) ((x3 : Int) * 16777216) = ((x0 + 256 * x1 + 65536 * x2 + 16777216 * x3 : Nat) : Int) := by
  have e1 := or32_add 8 x0 (x1 * 256) (by omega) (by omega) (by omega) (by omega)
  have e2 := or32_add 16 (x0 + x1 * 256) (x2 * 65536) (by omega) (by omega) (by omega) (by omega)
  have e3 := or32_add 24 (x0 + x1 * 256 + x2 * 65536) (x3 * 16777216) (by omega) (by omega) (by omega) (by omega)
  simp only [Int.natCast_mul, Int.natCast_add] at e1 e2 e3
  simp only [Int.natCast_mul, Int.natCast_add]
  rw [show ((256 : Nat) : Int) = 256 from rfl] at e1 e2 e3
  rw [show ((65536 : Nat) : Int) = 65536 from rfl] at e2 e3
  rw [show ((16777216 : Nat) : Int) = 16777216 from rfl] at e3
  rw [e1, e2, e3]
  omega
set_option maxHeartbeats 400000 in
theorem valueOf_any (A : Option Addr) (n c : Nat) (l : List UInt8) (w : World) (hs : Sl w A n (bvs l)) (hn : 4 ≤ n) :
    Calls Tryz.prog 252 #[.slice A n c] w (Quiet w (.int .u32 (from4 l : Nat))) := by
  have hl : l.length = n := by simpa using hs.len
  match l, hl with
  | [], hl => simp at hl; omega
  | [_], hl => simp at hl; omega
  | [_, _], hl => simp at hl; omega
  | [_, _, _], hl => simp at hl; omega
  | a0 :: a1 :: a2 :: a3 :: l', hl =>
    obtain ⟨ad, e, hc⟩ := hs.2 (by omega)
    subst e
    have c0 := hc 0 (bv a0) rfl
    have c1 : w.cell? ⟨ad.block, ad.off + 1, none⟩ = some (bv a1) := hc 1 (bv a1) rfl
    have c2 : w.cell? ⟨ad.block, ad.off + 2, none⟩ = some (bv a2) := hc 2 (bv a2) rfl
    have c3 : w.cell? ⟨ad.block, ad.off + 3, none⟩ = some (bv a3) := hc 3 (bv a3) rfl
    have b0 := byte_lt a0
    have b1 := byte_lt a1
    have b2 := byte_lt a2
    have b3 := byte_lt a3
    rw [add_zero] at c0
    unfold bv at c0 c1 c2 c3
    have j0 : 0 < n := by omega
    have j1 : 1 < n := by omega
    have j2 : 2 < n := by omega
    have j3 : 3 < n := by omega
    have i0 : (0 : Int) < (n : Int) := by omega
    have i1 : (1 : Int) < (n : Int) := by omega
    have i2 : (2 : Int) < (n : Int) := by omega
    have i3 : (3 : Int) < (n : Int) := by omega
    obtain ⟨x0, hx0⟩ : ∃ x, x = a0.toNat := ⟨_, rfl⟩
    obtain ⟨x1, hx1⟩ : ∃ x, x = a1.toNat := ⟨_, rfl⟩
    obtain ⟨x2, hx2⟩ : ∃ x, x = a2.toNat := ⟨_, rfl⟩
    obtain ⟨x3, hx3⟩ : ∃ x, x = a3.toNat := ⟨_, rfl⟩
    have HF : Hid (from4 (a0 :: a1 :: a2 :: a3 :: l') = x0 + 256 * x1 + 65536 * x2 + 16777216 * x3) := by
      show _ = _
      rw [hx0, hx1, hx2, hx3]
      rfl
    rw [← hx0] at c0 b0
    rw [← hx1] at c1 b1
    rw [← hx2] at c2 b2
    rw [← hx3] at c3 b3
    rw [HF.out]
    clear hc hs hl hx0 hx1 hx2 hx3 HF
    go_enter Tryz.func252, Tryz.ntmps252
    go_wp2
    go_quiet (fail)
    go_wp2
    go_ret
    rw [four_or x0 x1 x2 x3 b0 b1 b2 b3]
    exact ⟨rfl, nq, rfl⟩
end Go.Proofs.YtgnilldcfpgpaaaGreatDoor
