/-
  The law HeadOne.
-/
import Derived.Test.YtmameghebikjbaaDoorHOneM
namespace Go.Proofs.YtmameghebikjbaaDoor
open Go.RowKit Go.Instr
set_option maxRecDepth 100000 in
set_option maxHeartbeats 8000000 in
theorem one_any (s1 s2 : ByteArray) (A : Option Addr) (n c : Nat) (l : List UInt8) (w : World) (hs : Bt w A n c l) (_ : ∀ x ∈ blks A, x < w.heap.size) :
    Calls Tryd.prog 8 #[.string s1, .string s2, .slice A n c] w fun e w' => e = .returned (.bool true) ∧ Only [] w w' := by
  by_cases h1 : s1.size < 1
  case pos =>
    have h1' : (s1.size : Int) < 1 := by omega
    clear h1
    go_enter Tryd.func8, Tryd.ntmps8
    go_wp2_with fail
    go_ret
    exact ⟨rfl, Only.refl _ _⟩
  have h1' : ¬ (s1.size : Int) < 1 := by omega
  by_cases h2 : 40 < s1.size
  case pos =>
    have h2' : (40 : Int) < (s1.size : Int) := by omega
    clear h1 h2
    go_enter Tryd.func8, Tryd.ntmps8
    go_wp2_with fail
    go_ret
    exact ⟨rfl, Only.refl _ _⟩
  have h2' : ¬ (40 : Int) < (s1.size : Int) := by omega
  by_cases h3 : 100 < s2.size
  case pos =>
    have h3' : (100 : Int) < (s2.size : Int) := by omega
    clear h1 h2 h3
    go_enter Tryd.func8, Tryd.ntmps8
    go_wp2_with fail
    go_ret
    exact ⟨rfl, Only.refl _ _⟩
  have h3' : ¬ (100 : Int) < (s2.size : Int) := by omega
  by_cases h4 : 500 < n
  case pos =>
    have h4' : (500 : Int) < (n : Int) := by omega
    clear h1 h2 h3 h4
    go_enter Tryd.func8, Tryd.ntmps8
    go_wp2_with fail
    go_ret
    exact ⟨rfl, Only.refl _ _⟩
  have h4' : ¬ (500 : Int) < (n : Int) := by omega
  obtain ⟨i0, hi, hz0, hz1, hz2⟩ := info_parts infoByte
  have hnl := hs.len
  obtain ⟨nm, hnm⟩ : ∃ nm, s1.data.toList = nm := ⟨_, rfl⟩
  obtain ⟨val, hval⟩ : ∃ val, s2.data.toList = val := ⟨_, rfl⟩
  have hs1 : St nm = s1 := by rw [← hnm, St_data]
  have hs2 : St val = s2 := by rw [← hval, St_data]
  have hl1 : nm.length = s1.size := by rw [← hnm]; simp
  have hl2 : val.length = s2.size := by rw [← hval]; simp
  have a1 := fun W => add_txt [120] nm (by simp; omega) W
  have a2 := fun W => add_txt ([120] ++ nm) [58, 32, 110, 111, 13, 10] (by simp; omega) W
  have a3 := fun W => add_txt ([120] ++ nm ++ [58, 32, 110, 111, 13, 10]) nm (by simp; omega) W
  have a4 := fun W => add_txt ([120] ++ nm ++ [58, 32, 110, 111, 13, 10] ++ nm) [58, 32] (by simp; omega) W
  have a5 := fun W => add_txt ([120] ++ nm ++ [58, 32, 110, 111, 13, 10] ++ nm ++ [58, 32]) val (by simp; omega) W
  have a6 := fun W => add_txt ([120] ++ nm ++ [58, 32, 110, 111, 13, 10] ++ nm ++ [58, 32] ++ val) [13, 10, 13, 10] (by simp; omega) W
  have hall : [120] ++ nm ++ [58, 32, 110, 111, 13, 10] ++ nm ++ [58, 32] ++ val ++ [13, 10, 13, 10] ++ l = oB nm val l := by
    unfold oB oLs oL1 oL2
    simp
  rw [hs1] at a1 a3
  rw [hs2] at a5
  obtain ⟨U1, hu1⟩ : ∃ u, St ([120] ++ nm) = u := ⟨_, rfl⟩
  obtain ⟨U2, hu2⟩ : ∃ u, St ([120] ++ nm ++ [58, 32, 110, 111, 13, 10]) = u := ⟨_, rfl⟩
  obtain ⟨U3, hu3⟩ : ∃ u, St ([120] ++ nm ++ [58, 32, 110, 111, 13, 10] ++ nm) = u := ⟨_, rfl⟩
  obtain ⟨U4, hu4⟩ : ∃ u, St ([120] ++ nm ++ [58, 32, 110, 111, 13, 10] ++ nm ++ [58, 32]) = u := ⟨_, rfl⟩
  obtain ⟨U5, hu5⟩ : ∃ u, St ([120] ++ nm ++ [58, 32, 110, 111, 13, 10] ++ nm ++ [58, 32] ++ val) = u := ⟨_, rfl⟩
  obtain ⟨U6, hu6⟩ : ∃ u, St ([120] ++ nm ++ [58, 32, 110, 111, 13, 10] ++ nm ++ [58, 32] ++ val ++ [13, 10, 13, 10]) = u := ⟨_, rfl⟩
  rw [hu1] at a1 a2
  rw [hu2] at a2 a3
  rw [hu3] at a3 a4
  rw [hu4] at a4 a5
  rw [hu5] at a5 a6
  rw [hu6] at a6
  have hU : bvs U6.data.toList ++ bvs l = bvs (oB nm val l) := by rw [← hall, ← hu6, St_list, ← bvs_append]
  have hUs : U6.size ≤ 200 := by
    rw [← hu6, St_size]
    simp
    omega
  have hN : (oB nm val l).length = U6.size + n := by
    have := congrArg List.length hU
    rw [List.length_append, bvs_length, bvs_length, bvs_length] at this
    rw [← this, hnl]
    congr 1
  have e1 : ∀ W, (Op.stringOp .add ⟨#[120]⟩ s1).run Tryd.prog W = .ok (.string U1) W := a1
  have e2 : ∀ W, (Op.stringOp .add U1 ⟨#[58, 32, 110, 111, 13, 10]⟩).run Tryd.prog W = .ok (.string U2) W := a2
  have e4 : ∀ W, (Op.stringOp .add U3 ⟨#[58, 32]⟩).run Tryd.prog W = .ok (.string U4) W := a4
  have e6 : ∀ W, (Op.stringOp .add U5 ⟨#[13, 10, 13, 10]⟩).run Tryd.prog W = .ok (.string U6) W := a6
  have E1 := Lib.hid e1
  have E2 := Lib.hid e2
  have E3 := Lib.hid a3
  have E4 := Lib.hid e4
  have E5 := Lib.hid a5
  have E6 := Lib.hid e6
  have HL1 := Lib.hid hl1
  have HL2 := Lib.hid hl2
  have HN1 := Lib.hid hnm
  have HV1 := Lib.hid hval
  have HU := Lib.hid hU
  have HNN := Lib.hid hN
  have HSS := Lib.hid hs
  clear a1 a2 a3 a4 a5 a6 e1 e2 e4 e6 hu1 hu2 hu3 hu4 hu5 hu6 hall hs1 hs2 hl1 hl2 hnm hval hU hN hnl hs
  go_enter Tryd.func8, Tryd.ntmps8
  go_wp2_with fail
  go_loopw [7] (fun i wr => ∃ k : Nat, k ≤ s1.size ∧ i = .int .i64 (k : Int) ∧ Only [] w wr ∧ Hid (∀ j (hj : j < nm.length), j < k → isL nm[j])) (fun i _ => s1.size - (intOf i).toNat)
  case atStart => exact ⟨0, Nat.zero_le _, rfl, Only.refl _ _, fun j _ hj => absurd hj (Nat.not_lt_zero j)⟩
  case round =>
    obtain ⟨k, hk, rfl, hOr, HK⟩ := hrel
    by_cases hlt : k < s1.size
    · have hkn : k < nm.length := by rw [HL1.out]; exact hlt
      have hat : s1[k] = nm[k] := by
        have := text_at s1 hlt (by simpa using hlt)
        rw [this]
        congr 1
      have hstep : isL nm[k] → ∀ j (hj : j < nm.length), j < k + 1 → isL nm[j] := fun h j hj hjk => by
        rcases Nat.lt_or_ge j k with h5 | h5
        · exact HK.out j hj h5
        · obtain rfl : j = k := by omega
          exact h
      have HAT := Lib.hid hat
      clear hat
      by_cases c1 : ((s1[k].toNat : Nat) : Int) < 65
      · go_wp2_with fail
        go_ret
        exact ⟨rfl, hOr⟩
      by_cases c2 : (122 : Int) < ((s1[k].toNat : Nat) : Int)
      · go_wp2_with fail
        go_ret
        exact ⟨rfl, hOr⟩
      by_cases c3 : (90 : Int) < ((s1[k].toNat : Nat) : Int)
      · by_cases c4 : ((s1[k].toNat : Nat) : Int) < 97
        · go_wp2_with fail
          go_ret
          exact ⟨rfl, hOr⟩
        · have HS := Lib.hid (hstep (by unfold isL; rw [← HAT.out]; omega))
          clear hstep
          go_wp2_with fail
          go_roundw
          case rel => exact ⟨k + 1, by omega, by go_num, hOr, HS⟩
          case measure => simp [intOf]; omega
      · have HS := Lib.hid (hstep (by unfold isL; rw [← HAT.out]; omega))
        clear hstep
        go_wp2_with fail
        go_roundw
        case rel => exact ⟨k + 1, by omega, by go_num, hOr, HS⟩
        case measure => simp [intOf]; omega
    · obtain rfl : k = s1.size := by omega
      have HLet : Hid (∀ x ∈ nm, isL x) := fun x hx => by
        obtain ⟨j, hj, rfl⟩ := List.getElem_of_mem hx
        exact HK.out j hj (by rw [← HL1.out]; exact hj)
      have hO1 := hOr
      go_wp2_with fail
      go_loopw [8] (fun i wr => ∃ k : Nat, k ≤ s2.size ∧ i = .int .i64 (k : Int) ∧ Only [] w wr ∧ Hid (∀ j (hj : j < val.length), j < k → val[j] ≠ 10)) (fun i _ => s2.size - (intOf i).toNat)
      case atStart => exact ⟨0, Nat.zero_le _, rfl, hO1, fun j _ hj => absurd hj (Nat.not_lt_zero j)⟩
      case round =>
        clear hOr hO1 HK hk hlt
        obtain ⟨k, hk, rfl, hOr, HK⟩ := hrel
        by_cases hlt : k < s2.size
        · have hkn : k < val.length := by rw [HL2.out]; exact hlt
          have hat : s2[k] = val[k] := by
            have := text_at s2 hlt (by simpa using hlt)
            rw [this]
            congr 1
          have HAT := Lib.hid hat
          clear hat
          by_cases c1 : s2[k].toNat = 10
          · have hyb : ((s2[k].toNat : Int) == 10) = true := by rw [c1]; rfl
            clear c1
            go_wp2_with fail
            go_ret
            exact ⟨rfl, hOr⟩
          have hyb : ((s2[k].toNat : Int) == 10) = false := by rw [beq_eq_false_iff_ne]; omega
          by_cases c2 : s2[k].toNat = 13
          · have hyb2 : ((s2[k].toNat : Int) == 13) = true := by rw [c2]; rfl
            clear c1 c2
            go_wp2_with fail
            go_ret
            exact ⟨rfl, hOr⟩
          have hyb2 : ((s2[k].toNat : Int) == 13) = false := by rw [beq_eq_false_iff_ne]; omega
          have HS : Hid (∀ j (hj : j < val.length), j < k + 1 → val[j] ≠ 10) := fun j hj hjk => by
            rcases Nat.lt_or_ge j k with h5 | h5
            · exact HK.out j hj h5
            · obtain rfl : j = k := by omega
              intro e
              exact c1 (by rw [HAT.out, e]; rfl)
          clear c1 c2
          go_wp2_with fail
          go_roundw
          case rel => exact ⟨k + 1, by omega, by go_num, hOr, HS⟩
          case measure => simp [intOf]; omega
        · obtain rfl : k = s2.size := by omega
          have HNo : ∀ x ∈ val, x ≠ 10 := fun x hx => by
            obtain ⟨j, hj, rfl⟩ := List.getElem_of_mem hx
            exact HK.out j hj (by rw [← HL2.out]; exact hj)
          have hne : nm ≠ [] := fun e => by
            have := HL1.out
            rw [e] at this
            simp at this
            omega
          have hget := one_get (bd := l) HLet.out HNo hne
          have hbody := one_body (bd := l) HLet.out HNo
          have hfl := one_flds (bd := l) HLet.out HNo hne
          obtain ⟨b, hb⟩ : ∃ b, oB nm val l = b := ⟨_, rfl⟩
          have hU := HU.out
          have hN := HNN.out
          rw [hb] at hget hbody hfl hU hN
          obtain ⟨N, hNe⟩ : ∃ N, U6.size + n = N := ⟨_, rfl⟩
          have hN4 : N ≤ 800 := by omega
          rw [hNe] at hN
          obtain ⟨sL, hsL⟩ : ∃ sL, St (lows nm) = sL := ⟨_, rfl⟩
          have hsLl : sL.data.toList = lows nm := by rw [← hsL, St_list]
          have hsLs : sL.size ≤ 4096 := by
            rw [← hsL, St_size]
            unfold lows
            rw [List.length_map, HL1.out]
            omega
          obtain ⟨sV, hsV⟩ : ∃ sV, St (trimB val) = sV := ⟨_, rfl⟩
          have cLow : ∀ W, Calls Tryd.prog 30 #[.string s1] W fun e w' => e = .returned (.string sL) ∧ Only [] W w' := fun W =>
            (refLow_any s1 (by omega) W).mono fun e w' ⟨t, he, ht, ho⟩ => by rw [he, ht.out, HN1.out, hsL]; exact ⟨rfl, ho⟩
          have cTr : ∀ W, Calls Tryd.prog 31 #[.string s2] W fun e w' => e = .returned (.string sV) ∧ W = w' := fun W => by
            have := trim_text s2 (by omega) W
            rwa [HV1.out, hsV] at this
          have cG : ∀ W A9 c9, Gro W A9 N c9 (bvs b) → Calls Tryd.prog 26 #[.slice A9 N c9, .string sL] W fun e w' => e = .returned (.tuple #[.string sV, .bool true]) ∧ Only [] W w' := fun W A9 c9 h =>
            Get_as h.bt (by omega) h.lt sL hsLs sV true (by rw [hsLl, hget]; exact hsV) (by rw [hsLl, hget]; rfl)
          have cBo : ∀ W A9 c9, Gro W A9 N c9 (bvs b) → Calls Tryd.prog 16 #[.slice A9 N c9] W fun e w' => ∃ A2 c2, e = .returned (.slice A2 n c2) ∧ Own w' 5 A2 n c2 (bvs l) ∧ Only [] W w' ∧ ∀ k ∈ blks A2, W.heap.size ≤ k := fun W A9 c9 h => by
            have := Body_any h.bt (by omega) h.lt
            rw [hbody] at this
            unfold Fresh at this
            rwa [HSS.out.len] at this
          have cFi : ∀ W A9 c9, Gro W A9 N c9 (bvs b) → Calls Tryd.prog 24 #[.slice A9 N c9] W fun e w' => ∃ A2 c2, e = .returned (.slice A2 2 c2) ∧ Only [] W w' := fun W A9 c9 h =>
            (Fields_any h.bt (by omega) h.lt).mono fun e w' ⟨A2, c2, he, _, ho⟩ => ⟨A2, c2, by rw [he, hfl]; rfl, ho⟩
          have HLO := Lib.hid cLow
          have HTR := Lib.hid cTr
          have HGE := Lib.hid cG
          have HBO := Lib.hid cBo
          have HFI := Lib.hid cFi
          obtain ⟨w5, cc, hcv, hG5, hO5⟩ := conv_gro U6 (by omega) wr
          have hg5 : ∀ x ∈ blks (some (⟨wr.heap.size, 0, none⟩ : Addr)), wr.heap.size ≤ x := fun x hx => by simp at hx; omega
          obtain ⟨g5, hge⟩ : ∃ g5, wr.heap.size = g5 := ⟨_, rfl⟩
          rw [hge] at hcv hG5 hg5
          have x1 := E1.out wr
          have x2 := E2.out wr
          have x3 := E3.out wr
          have x4 := E4.out wr
          have x5 := E5.out wr
          have x6 := E6.out wr
          clear hget hbody hfl hb hsL hsLl hsLs hsV cLow cTr cG cBo cFi HNo hne HK hk hlt hN
          go_wp2_with first
            | (go_at_call 26; (with_reducible refine (HGE.out w7 A9 c9 (hG9.keep hO7)).mono ?_); rintro e w8 ⟨rfl, hO8⟩)
            | (go_at_call 30; (with_reducible refine (HLO.out w9).mono ?_); rintro e w7 ⟨rfl, hO7⟩)
            | (at_builtin; refine wpList_append_gro rfl (.tmp 83) (.tmp 84) 22 rfl 5 i0 (.int .u8 0) 1 Tryd.underlying22 hi hz0 hz1 hz2 rfl (some ⟨g5, 0, none⟩) U6.size cc _ rfl hG5 A n c _ rfl (HSS.out.keep (hOr.then hO5)).sl (bvs_one _) (by unfold maxLen; omega) (by omega) ?_; intro A9 c9 w9 hG9 hO9 _; rw [hU, hNe] at hG9; rw [hNe])
          have hOw9 : Only [] w w9 := (hOr.then hO5).trans hO9 (fun x hx => .inr (by have h1 := hOr.size; have h2 := hg5 x hx; omega))
          have hOw : Only [] w w8 := (hOw9.then hO7).then hO8
          replace hG9 := hG9.keep (hO7.then hO8)
          have hbd := HSS.out.keep hOw
          clear hO9 hOw9 hO7 hO8 hO5 hg5 hG5 hcv x1 x2 x3 x4 x5 x6 hge
          apply region_only (by kernel_rfl) (by kernel_rfl)
          apply rel_val (v := .bool true) (hrf := Tk_refl)
          case hw => rfl
          case hy =>
            intro wS hN hF
            go_simp
          case' hk => skip
          try simp only [Act.put, List.setIfInBounds_toArray, List.set_cons_zero, List.set_cons_succ]
          apply rel_val (v := .bool true) (hrf := Tk_refl)
          case hw => rfl
          case hy =>
            intro wS hN hF
            go_simp
          case' hk => skip
          try simp only [Act.put, List.setIfInBounds_toArray, List.set_cons_zero, List.set_cons_succ]
          apply rel_val (hrf := Tk_refl)
          case hw => rfl
          case hy => intro wS hN hF; skip; first | (go_simp; done) | (go_simp; with_reducible rfl)
          case' hk => skip
          try simp only [Act.put, List.setIfInBounds_toArray, List.set_cons_zero, List.set_cons_succ]
          apply rel_val (hrf := Tk_refl)
          case hw => rfl
          case hy => intro wS hN hF; skip; first | (go_simp; done) | (go_simp; with_reducible rfl)
          case' hk => skip
          try simp only [Act.put, List.setIfInBounds_toArray, List.set_cons_zero, List.set_cons_succ]
          apply rel_call (v := .string sV) (f := 31) (args := #[.string s2])
          case hw => rfl
          case hy => intro wS hN hF; go_simp
          case hc => intro wS hN hF; exact call_same (HTR.out wS)
          case' hk => skip
          try simp only [Act.put, List.setIfInBounds_toArray, List.set_cons_zero, List.set_cons_succ]
          apply rel_val (v := .bool true) (hrf := Tk_refl)
          case hw => rfl
          case hy =>
            intro wS hN hF
            go_simp
          case' hk => skip
          try simp only [Act.put, List.setIfInBounds_toArray, List.set_cons_zero, List.set_cons_succ]
          apply rel_val (v := .bool true) (hrf := Tk_refl)
          case hw => rfl
          case hy =>
            intro wS hN hF
            go_simp
          case' hk => skip
          try simp only [Act.put, List.setIfInBounds_toArray, List.set_cons_zero, List.set_cons_succ]
          apply rel_val (v := .bool true) (hrf := Tk_refl)
          case hw => rfl
          case hy =>
            intro wS hN hF
            go_simp
          case' hk => skip
          try simp only [Act.put, List.setIfInBounds_toArray, List.set_cons_zero, List.set_cons_succ]
          apply rel_val (hrf := Tk_refl)
          case hw => rfl
          case hy => intro wS hN hF; skip; first | (go_simp; done) | (go_simp; with_reducible rfl)
          case' hk => skip
          try simp only [Act.put, List.setIfInBounds_toArray, List.set_cons_zero, List.set_cons_succ]
          apply rel_fact_call (φ := fun v W' => ∃ A3 c3, v = .slice A3 n c3 ∧ Bt W' A3 n c3 l) (x := 10) (hs := lasts0 (by kernel_rfl) (fun v W1 W2 h ho => by obtain ⟨A3, c3, h1, h2⟩ := h; exact ⟨A3, c3, h1, h2.keep ho⟩))
          case hw => rfl
          case hc =>
            intro wS hN hF
            refine ⟨16, #[.slice A9 N c9], by go_simp, (HBO.out wS A9 c9 (hG9.keep ((Only.refl [] _).drew.then (hN.pre (by kernel_rfl))))).mono ?_⟩
            rintro e w3 ⟨A3, c3, rfl, hV3, hO3, -⟩
            exact ⟨_, rfl, ⟨A3, c3, rfl, hV3.bt⟩, Tk_only hO3⟩
          case' hk => intro v9
          try simp only [Act.put, List.setIfInBounds_toArray, List.set_cons_zero, List.set_cons_succ]
          apply rel_val (v := .string (St l)) (hrf := Tk_refl)
          case hw => rfl
          case hy =>
            intro wS hN hF
            obtain ⟨A3, c3, rfl, hV⟩ := hF.at_ 0 rfl (by kernel_rfl) (by kernel_rfl)
            have hcv := str_of hV.sl c3
            go_simp
          case' hk => skip
          try simp only [Act.put, List.setIfInBounds_toArray, List.set_cons_zero, List.set_cons_succ]
          apply rel_val (hrf := Tk_refl)
          case hw => rfl
          case hy => intro wS hN hF; skip; first | (go_simp; done) | (go_simp; with_reducible rfl)
          case' hk => skip
          try simp only [Act.put, List.setIfInBounds_toArray, List.set_cons_zero, List.set_cons_succ]
          apply rel_val (hrf := Tk_refl)
          case hw => rfl
          case hy => intro wS hN hF; have hcv := str_of (hbd.keep ((Only.refl [] _).drew.then (hN.pre (by kernel_rfl)))).sl c; first | (go_simp; done) | (go_simp; with_reducible rfl)
          case' hk => skip
          try simp only [Act.put, List.setIfInBounds_toArray, List.set_cons_zero, List.set_cons_succ]
          apply rel_val (v := .bool true) (hrf := Tk_refl)
          case hw => rfl
          case hy =>
            intro wS hN hF
            go_simp
          case' hk => skip
          try simp only [Act.put, List.setIfInBounds_toArray, List.set_cons_zero, List.set_cons_succ]
          apply rel_val (v := .bool true) (hrf := Tk_refl)
          case hw => rfl
          case hy =>
            intro wS hN hF
            go_simp
          case' hk => skip
          try simp only [Act.put, List.setIfInBounds_toArray, List.set_cons_zero, List.set_cons_succ]
          apply rel_val (v := .bool true) (hrf := Tk_refl)
          case hw => rfl
          case hy =>
            intro wS hN hF
            go_simp
          case' hk => skip
          try simp only [Act.put, List.setIfInBounds_toArray, List.set_cons_zero, List.set_cons_succ]
          apply rel_val (hrf := Tk_refl)
          case hw => rfl
          case hy => intro wS hN hF; skip; first | (go_simp; done) | (go_simp; with_reducible rfl)
          case' hk => skip
          try simp only [Act.put, List.setIfInBounds_toArray, List.set_cons_zero, List.set_cons_succ]
          apply rel_fact_call (φ := fun v W' => ∃ A3 c3, v = .slice A3 2 c3) (x := 18) (hs := lasts0 (by kernel_rfl) (fun v W1 W2 h ho => h))
          case hw => rfl
          case hc =>
            intro wS hN hF
            refine ⟨24, #[.slice A9 N c9], by go_simp, (HFI.out wS A9 c9 (hG9.keep ((Only.refl [] _).drew.then (hN.pre (by kernel_rfl))))).mono ?_⟩
            rintro e w3 ⟨A3, c3, rfl, hO3⟩
            exact ⟨_, rfl, ⟨A3, c3, rfl⟩, Tk_only hO3⟩
          case' hk => intro v17
          try simp only [Act.put, List.setIfInBounds_toArray, List.set_cons_zero, List.set_cons_succ]
          apply rel_val (v := .int .i64 2) (hrf := Tk_refl)
          case hw => rfl
          case hy =>
            intro wS hN hF
            obtain ⟨A3, c3, rfl⟩ := hF.at_ 0 rfl (by kernel_rfl) (by kernel_rfl)
            go_simp
          case' hk => skip
          try simp only [Act.put, List.setIfInBounds_toArray, List.set_cons_zero, List.set_cons_succ]
          apply rel_val (v := .bool true) (hrf := Tk_refl)
          case hw => rfl
          case hy =>
            intro wS hN hF
            go_simp
          case' hk => skip
          try simp only [Act.put, List.setIfInBounds_toArray, List.set_cons_zero, List.set_cons_succ]
          apply rel_val (v := .bool true) (hrf := Tk_refl)
          case hw => rfl
          case hy =>
            intro wS hN hF
            go_simp
          case' hk => skip
          try simp only [Act.put, List.setIfInBounds_toArray, List.set_cons_zero, List.set_cons_succ]
          apply rel_val (v := .bool true) (hrf := Tk_refl)
          case hw => rfl
          case hy =>
            intro wS hN hF
            go_simp
          case' hk => skip
          try simp only [Act.put, List.setIfInBounds_toArray, List.set_cons_zero, List.set_cons_succ]
          apply rel_call (v := .bool true) (f := 23) (args := #[])
          case hw => rfl
          case hy => intro wS hN hF; go_simp
          case hc => intro wS hN hF; exact call_only (known_any wS)
          case' hk => skip
          try simp only [Act.put, List.setIfInBounds_toArray, List.set_cons_zero, List.set_cons_succ]
          apply rel_val (v := .bool true) (hrf := Tk_refl)
          case hw => rfl
          case hy =>
            intro wS hN hF
            go_simp
          case' hk => skip
          try simp only [Act.put, List.setIfInBounds_toArray, List.set_cons_zero, List.set_cons_succ]
          apply rel_val (hrf := Tk_refl)
          case hw => rfl
          case hy => intro wS hN hF; skip; first | (go_simp; done) | (go_simp; with_reducible rfl)
          case' hk => skip
          try simp only [Act.put, List.setIfInBounds_toArray, List.set_cons_zero, List.set_cons_succ]
          refine rel_end ?_
          intro wS hO hF
          clear hF
          go_wp2_with fail
          go_ret
          exact ⟨rfl, hOw.drew.then hO.only⟩
end Go.Proofs.YtmameghebikjbaaDoor
