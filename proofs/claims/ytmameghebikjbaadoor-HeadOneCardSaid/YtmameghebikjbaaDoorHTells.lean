/-
  The law HeadTells.
-/
import Derived.Test.YtmameghebikjbaaDoorHTopL
import Derived.Test.YtmameghebikjbaaDoorHStuff
import Derived.Test.YtmameghebikjbaaDoorHRefU
namespace Go.Proofs.YtmameghebikjbaaDoor
open Go.RowKit Go.Instr
set_option maxRecDepth 100000 in
set_option maxHeartbeats 8000000 in
theorem tells_any (A : Option Addr) (n c : Nat) (l : List UInt8) (N : Int) (w : World) (hs : Bt w A n c l) (hA : ∀ x ∈ blks A, x < w.heap.size) (hN1 : -9223372036854775808 ≤ N) (hN2 : N ≤ 9223372036854775807) :
    Calls Tryd.prog 3 #[.slice A n c, .int .i64 N] w fun e w' => e = .returned (.bool true) ∧ Only [] w w' := by
  by_cases hbn : n ≤ 1500
  case neg =>
    have hbn'' : (1500 : Int) < (n : Int) := by omega
    go_enter Tryd.func3, Tryd.ntmps3
    go_wp2_with fail
    go_ret
    exact ⟨rfl, Only.refl _ _⟩
  have hbn' : ¬ (1500 : Int) < (n : Int) := by omega
  have hnl := hs.len
  have hTl := topLen_le l N
  have hHl := hd_le l
  have hpq := lns_len l
  have cS := Split_any hs (by omega) hA
  have rS := fun w1 (ho : Only [] w w1) => refSplit_any (hs.keep ho) (by omega) (blks_keep hA ho)
  have cH := fun w1 (ho : Only [] w w1) => Head_any (hs.keep ho) (by omega) (blks_keep hA ho)
  have rH := fun w1 (ho : Only [] w w1) => refHead_any (hs.keep ho) (by omega)
  have cB := fun w1 (ho : Only [] w w1) => Body_any (hs.keep ho) (by omega) (blks_keep hA ho)
  have rB := fun w1 (ho : Only [] w w1) => refBody_any (hs.keep ho) (by omega)
  have cL := fun w1 (ho : Only [] w w1) => LinesN_any (hs.keep ho) (by omega)
  have cT := fun w1 (ho : Only [] w w1) => Top_any (hs.keep ho) (by omega) (blks_keep hA ho) N hN1 hN2
  have rT := fun w1 (ho : Only [] w w1) => refTop_any (hs.keep ho) (by omega) N
  have cU := fun w1 (ho : Only [] w w1) => Stuff_any (hs.keep ho) (by omega) (blks_keep hA ho)
  have rU := fun w1 (ho : Only [] w w1) => refStuff_any (hs.keep ho) (by omega) (blks_keep hA ho)
  have pT := hs.pre (k := topLen l N) (by omega)
  have pH := hs.pre (k := hd l) (by omega)
  obtain ⟨tn, htn⟩ : ∃ tn, topLen l N = tn := ⟨_, rfl⟩
  obtain ⟨hn, hhn⟩ : ∃ hn, hd l = hn := ⟨_, rfl⟩
  rw [htn] at hTl cT rT pT
  rw [hhn] at hHl cH rH cB rB pH
  obtain ⟨t, ht⟩ : ∃ t, l.take tn = t := ⟨_, rfl⟩
  obtain ⟨h, hh⟩ : ∃ h, l.take hn = h := ⟨_, rfl⟩
  obtain ⟨b, hb⟩ : ∃ b, l.drop hn = b := ⟨_, rfl⟩
  have htl : t.length = tn := by rw [← ht, List.length_take]; omega
  have hhl : h.length = hn := by rw [← hh, List.length_take]; omega
  have hbl : b.length = n - hn := by rw [← hb, List.length_drop]; omega
  rw [ht] at cT pT
  rw [hh] at cH pH
  rw [hb] at cB rB
  obtain ⟨s, hst⟩ : ∃ s, stuff l = s := ⟨_, rfl⟩
  rw [hst] at cU rU
  obtain ⟨sn, hsn⟩ : ∃ sn, s.length = sn := ⟨_, rfl⟩
  obtain ⟨bn, hbn2⟩ : ∃ bn, n - hn = bn := ⟨_, rfl⟩
  unfold Fresh at cT cH cB cU rU
  rw [hbn2] at rB hbl
  simp only [htl, hhl, hbl, hsn] at cT cH cB cU rU
  obtain ⟨ls, hls⟩ : ∃ ls, (lns l).map tx = ls := ⟨_, rfl⟩
  obtain ⟨r, hr⟩ : ∃ r, (lns l).length = r := ⟨_, rfl⟩
  have hlr : ls.length = r := by rw [← hls, List.length_map, hr]
  rw [hls, hr] at cS
  simp only [hls, hr] at rS
  simp only [hr] at cL
  have hr2 : r ≤ 1500 := by omega
  have HLR := Lib.hid hlr
  have RS0 := Lib.hid rS
  have HH := Lib.hid cH
  have RH := Lib.hid rH
  have HB := Lib.hid cB
  have RB := Lib.hid rB
  have HL := Lib.hid cL
  have HT := Lib.hid cT
  have RT := Lib.hid rT
  have HS := Lib.hid cU
  have RS := Lib.hid rU
  have PH := Lib.hid pH
  have PT := Lib.hid pT
  clear hlr rS cH rH cB rB cL cT rT cU rU pH pT hls hr hsn hbn2 hst htl hhl hbl ht hh hb htn hhn hpq hTl hHl hnl hA hs hbn
  go_enter Tryd.func3, Tryd.ntmps3
  go_wp2_with first
    | (go_at_call 13; (with_reducible refine (RS0.out w1 hO1).mono ?_); rintro e w2 ⟨A2, c2, rfl, hR2, hO2⟩)
    | (go_at_call 12; (with_reducible refine cS.mono ?_); rintro e w1 ⟨A1, c1, rfl, hR1, hO1⟩)
  go_loopw [7] (fun i wr => ∃ k : Nat, k ≤ r ∧ i = .int .i64 (k : Int) ∧ Only [] w2 wr) (fun i _ => r - (intOf i).toNat)
  case atStart => exact ⟨0, Nat.zero_le _, rfl, Only.refl _ _⟩
  case round =>
    obtain ⟨k, hk, rfl, hOr⟩ := hrel
    by_cases hlt : k < r
    · have hlt' : (k : Int) < (r : Int) := by omega
      have hkl : k < ls.length := by rw [HLR.out]; exact hlt
      obtain ⟨g1, Ai, ci, rfl, e1, hB1', -⟩ := (hR1.keep rOwn_steady (hO2.then hOr)).at_ hlt hkl
      obtain ⟨g2, Di, di, rfl, e2, hB2', -⟩ := (hR2.keep rBt_steady hOr).at_ hlt hkl
      have hB1 : Bt wr Ai ls[k].length ci ls[k] := Own.bt hB1'
      have hB2 : Bt wr Di ls[k].length di ls[k] := hB2'
      obtain ⟨T, hT⟩ : ∃ T, ls[k] = T := ⟨_, rfl⟩
      rw [hT] at e1 e2 hB1 hB2
      obtain ⟨m, hm⟩ : ∃ m, T.length = m := ⟨_, rfl⟩
      rw [hm] at e1 e2 hB1 hB2
      clear hB1' hB2' hT hm
      go_wp2_with fail
      apply region_only (by kernel_rfl) (by kernel_rfl)
      apply rel_val (hrf := Tk_refl)
      case hw => rfl
      case hy => intro wS hN hF; skip; first | (go_simp; done) | (go_simp; with_reducible rfl)
      case' hk => skip
      try simp only [Act.put, List.setIfInBounds_toArray, List.set_cons_zero, List.set_cons_succ]
      apply rel_val (hrf := Tk_refl)
      case hw => rfl
      case hy => intro wS hN hF; skip; first | (go_simp; done) | (go_simp; with_reducible rfl)
      case' hk => skip
      try simp only [Act.put, List.setIfInBounds_toArray, List.set_cons_zero, List.set_cons_succ]
      apply rel_val (hrf := Tk_refl)
      case hw => rfl
      case hy => intro wS hN hF; skip; first | (go_simp; done) | (go_simp; with_reducible rfl)
      case' hk => skip
      try simp only [Act.put, List.setIfInBounds_toArray, List.set_cons_zero, List.set_cons_succ]
      apply rel_val (hrf := Tk_refl)
      case hw => rfl
      case hy => intro wS hN hF; have hO := hN.pre (by kernel_rfl); have h0 := hO.cellSome (p := ⟨g1, k, none⟩) e1 (fun hm => nomatch hm); first | (go_simp; done) | (go_simp; with_reducible rfl)
      case' hk => skip
      try simp only [Act.put, List.setIfInBounds_toArray, List.set_cons_zero, List.set_cons_succ]
      apply rel_val (hrf := Tk_refl)
      case hw => rfl
      case hy => intro wS hN hF; have hcv := str_of (hB1.keep ((Only.refl [] _).drew.then (hN.pre (by kernel_rfl)))).sl ci; first | (go_simp; done) | (go_simp; with_reducible rfl)
      case' hk => skip
      try simp only [Act.put, List.setIfInBounds_toArray, List.set_cons_zero, List.set_cons_succ]
      apply rel_val (hrf := Tk_refl)
      case hw => rfl
      case hy => intro wS hN hF; skip; first | (go_simp; done) | (go_simp; with_reducible rfl)
      case' hk => skip
      try simp only [Act.put, List.setIfInBounds_toArray, List.set_cons_zero, List.set_cons_succ]
      apply rel_val (hrf := Tk_refl)
      case hw => rfl
      case hy => intro wS hN hF; skip; first | (go_simp; done) | (go_simp; with_reducible rfl)
      case' hk => skip
      try simp only [Act.put, List.setIfInBounds_toArray, List.set_cons_zero, List.set_cons_succ]
      apply rel_val (hrf := Tk_refl)
      case hw => rfl
      case hy => intro wS hN hF; skip; first | (go_simp; done) | (go_simp; with_reducible rfl)
      case' hk => skip
      try simp only [Act.put, List.setIfInBounds_toArray, List.set_cons_zero, List.set_cons_succ]
      apply rel_val (hrf := Tk_refl)
      case hw => rfl
      case hy => intro wS hN hF; have hO := hN.pre (by kernel_rfl); have h0 := hO.cellSome (p := ⟨g2, k, none⟩) e2 (fun hm => nomatch hm); first | (go_simp; done) | (go_simp; with_reducible rfl)
      case' hk => skip
      try simp only [Act.put, List.setIfInBounds_toArray, List.set_cons_zero, List.set_cons_succ]
      apply rel_val (hrf := Tk_refl)
      case hw => rfl
      case hy => intro wS hN hF; have hcv := str_of (hB2.keep ((Only.refl [] _).drew.then (hN.pre (by kernel_rfl)))).sl di; first | (go_simp; done) | (go_simp; with_reducible rfl)
      case' hk => skip
      try simp only [Act.put, List.setIfInBounds_toArray, List.set_cons_zero, List.set_cons_succ]
      apply rel_val (v := .bool false) (hrf := Tk_refl)
      case hw => rfl
      case hy =>
        intro wS hN hF
        go_simp
      case' hk => skip
      try simp only [Act.put, List.setIfInBounds_toArray, List.set_cons_zero, List.set_cons_succ]
      refine rel_end ?_
      intro wS hO hF
      clear hF
      go_wp2_with fail
      go_roundw
      case rel => exact ⟨k + 1, by omega, by go_num, hOr.drew.then hO.only⟩
      case measure => simp [intOf]; omega
    · obtain rfl : r = k := by omega
      have hOw : Only [] w wr := (hO1.then hO2).then hOr
      go_wp2_with fail
      apply region_only (by kernel_rfl) (by kernel_rfl)
      apply rel_val (hrf := Tk_refl)
      case hw => rfl
      case hy => intro wS hN hF; skip; first | (go_simp; done) | (go_simp; with_reducible rfl)
      case' hk => skip
      try simp only [Act.put, List.setIfInBounds_toArray, List.set_cons_zero, List.set_cons_succ]
      apply rel_fact_call (φ := fun v W' => ∃ A3 c3, v = .slice A3 hn c3 ∧ Bt W' A3 hn c3 h) (x := 2) (hs := lasts0 (by kernel_rfl) (fun v W1 W2 h ho => by obtain ⟨A3, c3, h1, h2⟩ := h; exact ⟨A3, c3, h1, h2.keep ho⟩))
      case hw => rfl
      case hc =>
        intro wS hN hF
        refine ⟨14, #[.slice A n c], by go_simp, (HH.out wS (hOw.drew.then (hN.pre (by kernel_rfl)))).mono ?_⟩
        rintro e w3 ⟨A3, c3, rfl, hV3, hO3, -⟩
        exact ⟨_, rfl, ⟨A3, c3, rfl, hV3.bt⟩, Tk_only hO3⟩
      case' hk => intro v1
      try simp only [Act.put, List.setIfInBounds_toArray, List.set_cons_zero, List.set_cons_succ]
      apply rel_val (v := .string (St h)) (hrf := Tk_refl)
      case hw => rfl
      case hy =>
        intro wS hN hF
        obtain ⟨A3, c3, rfl, hV⟩ := hF.at_ 0 rfl (by kernel_rfl) (by kernel_rfl)
        have hcv := str_of hV.sl c3
        go_simp
      case' hk => skip
      try simp only [Act.put, List.setIfInBounds_toArray, List.set_cons_zero, List.set_cons_succ]
      apply rel_val (hrf := Tk_refl)
      case hw => rfl
      case hy => intro wS hN hF; skip; first | (go_simp; done) | (go_simp; with_reducible rfl)
      case' hk => skip
      try simp only [Act.put, List.setIfInBounds_toArray, List.set_cons_zero, List.set_cons_succ]
      apply rel_call (v := .slice A hn c) (f := 15) (args := #[.slice A n c])
      case hw => rfl
      case hy => intro wS hN hF; go_simp
      case hc => intro wS hN hF; exact call_same (RH.out wS (hOw.drew.then (hN.pre (by kernel_rfl))))
      case' hk => skip
      try simp only [Act.put, List.setIfInBounds_toArray, List.set_cons_zero, List.set_cons_succ]
      apply rel_val (hrf := Tk_refl)
      case hw => rfl
      case hy => intro wS hN hF; have hcv := str_of (PH.out.keep (hOw.drew.then (hN.pre (by kernel_rfl)))).sl c; first | (go_simp; done) | (go_simp; with_reducible rfl)
      case' hk => skip
      try simp only [Act.put, List.setIfInBounds_toArray, List.set_cons_zero, List.set_cons_succ]
      apply rel_val (v := .bool true) (hrf := Tk_refl)
      case hw => rfl
      case hy =>
        intro wS hN hF
        go_simp
      case' hk => skip
      try simp only [Act.put, List.setIfInBounds_toArray, List.set_cons_zero, List.set_cons_succ]
      apply rel_val (v := .bool true) (hrf := Tk_refl)
      case hw => rfl
      case hy =>
        intro wS hN hF
        go_simp
      case' hk => skip
      try simp only [Act.put, List.setIfInBounds_toArray, List.set_cons_zero, List.set_cons_succ]
      apply rel_val (hrf := Tk_refl)
      case hw => rfl
      case hy => intro wS hN hF; skip; first | (go_simp; done) | (go_simp; with_reducible rfl)
      case' hk => skip
      try simp only [Act.put, List.setIfInBounds_toArray, List.set_cons_zero, List.set_cons_succ]
      apply rel_fact_call (φ := fun v W' => ∃ A3 c3, v = .slice A3 bn c3 ∧ Bt W' A3 bn c3 b) (x := 10) (hs := lasts0 (by kernel_rfl) (fun v W1 W2 h ho => by obtain ⟨A3, c3, h1, h2⟩ := h; exact ⟨A3, c3, h1, h2.keep ho⟩))
      case hw => rfl
      case hc =>
        intro wS hN hF
        refine ⟨16, #[.slice A n c], by go_simp, (HB.out wS (hOw.drew.then (hN.pre (by kernel_rfl)))).mono ?_⟩
        rintro e w3 ⟨A3, c3, rfl, hV3, hO3, -⟩
        exact ⟨_, rfl, ⟨A3, c3, rfl, hV3.bt⟩, Tk_only hO3⟩
      case' hk => intro v9
      try simp only [Act.put, List.setIfInBounds_toArray, List.set_cons_zero, List.set_cons_succ]
      apply rel_val (v := .string (St b)) (hrf := Tk_refl)
      case hw => rfl
      case hy =>
        intro wS hN hF
        obtain ⟨A3, c3, rfl, hV⟩ := hF.at_ 0 rfl (by kernel_rfl) (by kernel_rfl)
        have hcv := str_of hV.sl c3
        go_simp
      case' hk => skip
      try simp only [Act.put, List.setIfInBounds_toArray, List.set_cons_zero, List.set_cons_succ]
      apply rel_val (hrf := Tk_refl)
      case hw => rfl
      case hy => intro wS hN hF; skip; first | (go_simp; done) | (go_simp; with_reducible rfl)
      case' hk => skip
      try simp only [Act.put, List.setIfInBounds_toArray, List.set_cons_zero, List.set_cons_succ]
      apply rel_fact_call (φ := fun v W' => ∃ A3 c3, v = .slice A3 bn c3 ∧ Bt W' A3 bn c3 b) (x := 13) (hs := lasts0 (by kernel_rfl) (fun v W1 W2 h ho => by obtain ⟨A3, c3, h1, h2⟩ := h; exact ⟨A3, c3, h1, h2.keep ho⟩))
      case hw => rfl
      case hc =>
        intro wS hN hF
        refine ⟨17, #[.slice A n c], by go_simp, (RB.out wS (hOw.drew.then (hN.pre (by kernel_rfl)))).mono ?_⟩
        rintro e w3 ⟨A3, c3, rfl, hV3, rfl⟩
        exact ⟨_, rfl, ⟨A3, c3, rfl, hV3⟩, Tk_refl _⟩
      case' hk => intro v12
      try simp only [Act.put, List.setIfInBounds_toArray, List.set_cons_zero, List.set_cons_succ]
      apply rel_val (v := .string (St b)) (hrf := Tk_refl)
      case hw => rfl
      case hy =>
        intro wS hN hF
        obtain ⟨A3, c3, rfl, hV⟩ := hF.at_ 0 rfl (by kernel_rfl) (by kernel_rfl)
        have hcv := str_of hV.sl c3
        go_simp
      case' hk => skip
      try simp only [Act.put, List.setIfInBounds_toArray, List.set_cons_zero, List.set_cons_succ]
      apply rel_val (v := .bool true) (hrf := Tk_refl)
      case hw => rfl
      case hy =>
        intro wS hN hF
        go_simp
      case' hk => skip
      try simp only [Act.put, List.setIfInBounds_toArray, List.set_cons_zero, List.set_cons_succ]
      apply rel_val (v := .bool true) (hrf := Tk_refl)
      case hw => rfl
      case hy =>
        intro wS hN hF
        go_simp
      case' hk => skip
      try simp only [Act.put, List.setIfInBounds_toArray, List.set_cons_zero, List.set_cons_succ]
      apply rel_val (v := .bool true) (hrf := Tk_refl)
      case hw => rfl
      case hy =>
        intro wS hN hF
        go_simp
      case' hk => skip
      try simp only [Act.put, List.setIfInBounds_toArray, List.set_cons_zero, List.set_cons_succ]
      apply rel_val (hrf := Tk_refl)
      case hw => rfl
      case hy => intro wS hN hF; skip; first | (go_simp; done) | (go_simp; with_reducible rfl)
      case' hk => skip
      try simp only [Act.put, List.setIfInBounds_toArray, List.set_cons_zero, List.set_cons_succ]
      apply rel_call (v := .int .i64 (r : Int)) (f := 18) (args := #[.slice A n c])
      case hw => rfl
      case hy => intro wS hN hF; go_simp
      case hc => intro wS hN hF; exact call_only (HL.out wS (hOw.drew.then (hN.pre (by kernel_rfl))))
      case' hk => skip
      try simp only [Act.put, List.setIfInBounds_toArray, List.set_cons_zero, List.set_cons_succ]
      apply rel_val (hrf := Tk_refl)
      case hw => rfl
      case hy => intro wS hN hF; skip; first | (go_simp; done) | (go_simp; with_reducible rfl)
      case' hk => skip
      try simp only [Act.put, List.setIfInBounds_toArray, List.set_cons_zero, List.set_cons_succ]
      apply rel_val (hrf := Tk_refl)
      case hw => rfl
      case hy => intro wS hN hF; skip; first | (go_simp; done) | (go_simp; with_reducible rfl)
      case' hk => skip
      try simp only [Act.put, List.setIfInBounds_toArray, List.set_cons_zero, List.set_cons_succ]
      apply rel_val (v := .bool true) (hrf := Tk_refl)
      case hw => rfl
      case hy =>
        intro wS hN hF
        go_simp
      case' hk => skip
      try simp only [Act.put, List.setIfInBounds_toArray, List.set_cons_zero, List.set_cons_succ]
      apply rel_val (v := .bool true) (hrf := Tk_refl)
      case hw => rfl
      case hy =>
        intro wS hN hF
        go_simp
      case' hk => skip
      try simp only [Act.put, List.setIfInBounds_toArray, List.set_cons_zero, List.set_cons_succ]
      apply rel_val (v := .bool true) (hrf := Tk_refl)
      case hw => rfl
      case hy =>
        intro wS hN hF
        go_simp
      case' hk => skip
      try simp only [Act.put, List.setIfInBounds_toArray, List.set_cons_zero, List.set_cons_succ]
      apply rel_val (hrf := Tk_refl)
      case hw => rfl
      case hy => intro wS hN hF; skip; first | (go_simp; done) | (go_simp; with_reducible rfl)
      case' hk => skip
      try simp only [Act.put, List.setIfInBounds_toArray, List.set_cons_zero, List.set_cons_succ]
      apply rel_val (hrf := Tk_refl)
      case hw => rfl
      case hy => intro wS hN hF; skip; first | (go_simp; done) | (go_simp; with_reducible rfl)
      case' hk => skip
      try simp only [Act.put, List.setIfInBounds_toArray, List.set_cons_zero, List.set_cons_succ]
      apply rel_fact_call (φ := fun v W' => ∃ A3 c3, v = .slice A3 tn c3 ∧ Bt W' A3 tn c3 t) (x := 27) (hs := lasts0 (by kernel_rfl) (fun v W1 W2 h ho => by obtain ⟨A3, c3, h1, h2⟩ := h; exact ⟨A3, c3, h1, h2.keep ho⟩))
      case hw => rfl
      case hc =>
        intro wS hN hF
        refine ⟨19, #[.slice A n c, .int .i64 N], by go_simp, (HT.out wS (hOw.drew.then (hN.pre (by kernel_rfl)))).mono ?_⟩
        rintro e w3 ⟨A3, c3, rfl, hV3, hO3, -⟩
        exact ⟨_, rfl, ⟨A3, c3, rfl, hV3.bt⟩, Tk_only hO3⟩
      case' hk => intro v26
      try simp only [Act.put, List.setIfInBounds_toArray, List.set_cons_zero, List.set_cons_succ]
      apply rel_val (v := .string (St t)) (hrf := Tk_refl)
      case hw => rfl
      case hy =>
        intro wS hN hF
        obtain ⟨A3, c3, rfl, hV⟩ := hF.at_ 0 rfl (by kernel_rfl) (by kernel_rfl)
        have hcv := str_of hV.sl c3
        go_simp
      case' hk => skip
      try simp only [Act.put, List.setIfInBounds_toArray, List.set_cons_zero, List.set_cons_succ]
      apply rel_val (hrf := Tk_refl)
      case hw => rfl
      case hy => intro wS hN hF; skip; first | (go_simp; done) | (go_simp; with_reducible rfl)
      case' hk => skip
      try simp only [Act.put, List.setIfInBounds_toArray, List.set_cons_zero, List.set_cons_succ]
      apply rel_val (hrf := Tk_refl)
      case hw => rfl
      case hy => intro wS hN hF; skip; first | (go_simp; done) | (go_simp; with_reducible rfl)
      case' hk => skip
      try simp only [Act.put, List.setIfInBounds_toArray, List.set_cons_zero, List.set_cons_succ]
      apply rel_call (v := .slice A tn c) (f := 20) (args := #[.slice A n c, .int .i64 N])
      case hw => rfl
      case hy => intro wS hN hF; go_simp
      case hc => intro wS hN hF; exact call_same (RT.out wS (hOw.drew.then (hN.pre (by kernel_rfl))))
      case' hk => skip
      try simp only [Act.put, List.setIfInBounds_toArray, List.set_cons_zero, List.set_cons_succ]
      apply rel_val (hrf := Tk_refl)
      case hw => rfl
      case hy => intro wS hN hF; have hcv := str_of (PT.out.keep (hOw.drew.then (hN.pre (by kernel_rfl)))).sl c; first | (go_simp; done) | (go_simp; with_reducible rfl)
      case' hk => skip
      try simp only [Act.put, List.setIfInBounds_toArray, List.set_cons_zero, List.set_cons_succ]
      apply rel_val (v := .bool true) (hrf := Tk_refl)
      case hw => rfl
      case hy =>
        intro wS hN hF
        go_simp
      case' hk => skip
      try simp only [Act.put, List.setIfInBounds_toArray, List.set_cons_zero, List.set_cons_succ]
      apply rel_val (v := .bool true) (hrf := Tk_refl)
      case hw => rfl
      case hy =>
        intro wS hN hF
        go_simp
      case' hk => skip
      try simp only [Act.put, List.setIfInBounds_toArray, List.set_cons_zero, List.set_cons_succ]
      apply rel_val (v := .bool true) (hrf := Tk_refl)
      case hw => rfl
      case hy =>
        intro wS hN hF
        go_simp
      case' hk => skip
      try simp only [Act.put, List.setIfInBounds_toArray, List.set_cons_zero, List.set_cons_succ]
      apply rel_val (hrf := Tk_refl)
      case hw => rfl
      case hy => intro wS hN hF; skip; first | (go_simp; done) | (go_simp; with_reducible rfl)
      case' hk => skip
      try simp only [Act.put, List.setIfInBounds_toArray, List.set_cons_zero, List.set_cons_succ]
      apply rel_fact_call (φ := fun v W' => ∃ A3 c3, v = .slice A3 sn c3 ∧ Bt W' A3 sn c3 s) (x := 37) (hs := lasts0 (by kernel_rfl) (fun v W1 W2 h ho => by obtain ⟨A3, c3, h1, h2⟩ := h; exact ⟨A3, c3, h1, h2.keep ho⟩))
      case hw => rfl
      case hc =>
        intro wS hN hF
        refine ⟨21, #[.slice A n c], by go_simp, (HS.out wS (hOw.drew.then (hN.pre (by kernel_rfl)))).mono ?_⟩
        rintro e w3 ⟨A3, c3, rfl, hV3, hO3, -⟩
        exact ⟨_, rfl, ⟨A3, c3, rfl, hV3.bt⟩, Tk_only hO3⟩
      case' hk => intro v36
      try simp only [Act.put, List.setIfInBounds_toArray, List.set_cons_zero, List.set_cons_succ]
      apply rel_val (v := .string (St s)) (hrf := Tk_refl)
      case hw => rfl
      case hy =>
        intro wS hN hF
        obtain ⟨A3, c3, rfl, hV⟩ := hF.at_ 0 rfl (by kernel_rfl) (by kernel_rfl)
        have hcv := str_of hV.sl c3
        go_simp
      case' hk => skip
      try simp only [Act.put, List.setIfInBounds_toArray, List.set_cons_zero, List.set_cons_succ]
      apply rel_val (hrf := Tk_refl)
      case hw => rfl
      case hy => intro wS hN hF; skip; first | (go_simp; done) | (go_simp; with_reducible rfl)
      case' hk => skip
      try simp only [Act.put, List.setIfInBounds_toArray, List.set_cons_zero, List.set_cons_succ]
      apply rel_fact_call (φ := fun v W' => ∃ A3 c3, v = .slice A3 sn c3 ∧ Bt W' A3 sn c3 s) (x := 40) (hs := lasts0 (by kernel_rfl) (fun v W1 W2 h ho => by obtain ⟨A3, c3, h1, h2⟩ := h; exact ⟨A3, c3, h1, h2.keep ho⟩))
      case hw => rfl
      case hc =>
        intro wS hN hF
        refine ⟨22, #[.slice A n c], by go_simp, (RS.out wS (hOw.drew.then (hN.pre (by kernel_rfl)))).mono ?_⟩
        rintro e w3 ⟨A3, c3, rfl, hV3, hO3, -⟩
        exact ⟨_, rfl, ⟨A3, c3, rfl, hV3.bt⟩, Tk_only hO3⟩
      case' hk => intro v39
      try simp only [Act.put, List.setIfInBounds_toArray, List.set_cons_zero, List.set_cons_succ]
      apply rel_val (v := .string (St s)) (hrf := Tk_refl)
      case hw => rfl
      case hy =>
        intro wS hN hF
        obtain ⟨A3, c3, rfl, hV⟩ := hF.at_ 0 rfl (by kernel_rfl) (by kernel_rfl)
        have hcv := str_of hV.sl c3
        go_simp
      case' hk => skip
      try simp only [Act.put, List.setIfInBounds_toArray, List.set_cons_zero, List.set_cons_succ]
      apply rel_val (v := .bool true) (hrf := Tk_refl)
      case hw => rfl
      case hy =>
        intro wS hN hF
        go_simp
      case' hk => skip
      try simp only [Act.put, List.setIfInBounds_toArray, List.set_cons_zero, List.set_cons_succ]
      apply rel_val (v := .bool true) (hrf := Tk_refl)
      case hw => rfl
      case hy =>
        intro wS hN hF
        go_simp
      case' hk => skip
      try simp only [Act.put, List.setIfInBounds_toArray, List.set_cons_zero, List.set_cons_succ]
      apply rel_val (v := .bool true) (hrf := Tk_refl)
      case hw => rfl
      case hy =>
        intro wS hN hF
        go_simp
      case' hk => skip
      try simp only [Act.put, List.setIfInBounds_toArray, List.set_cons_zero, List.set_cons_succ]
      apply rel_call (v := .bool true) (f := 23) (args := #[])
      case hw => rfl
      case hy => intro wS hN hF; go_simp
      case hc => intro wS hN hF; exact call_only (known_any wS)
      case' hk => skip
      try simp only [Act.put, List.setIfInBounds_toArray, List.set_cons_zero, List.set_cons_succ]
      apply rel_val (v := .bool true) (hrf := Tk_refl)
      case hw => rfl
      case hy =>
        intro wS hN hF
        go_simp
      case' hk => skip
      try simp only [Act.put, List.setIfInBounds_toArray, List.set_cons_zero, List.set_cons_succ]
      apply rel_val (hrf := Tk_refl)
      case hw => rfl
      case hy => intro wS hN hF; skip; first | (go_simp; done) | (go_simp; with_reducible rfl)
      case' hk => skip
      try simp only [Act.put, List.setIfInBounds_toArray, List.set_cons_zero, List.set_cons_succ]
      refine rel_end ?_
      intro wS hO hF
      clear hF
      go_wp2_with fail
      go_ret
      exact ⟨rfl, hOw.drew.then hO.only⟩
end Go.Proofs.YtmameghebikjbaaDoor
