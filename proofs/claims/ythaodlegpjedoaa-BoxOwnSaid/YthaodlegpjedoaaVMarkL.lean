/-
  The law BoxMarks.
-/
import Derived.Test.YthaodlegpjedoaaVMark
import Derived.Test.YthaodlegpjedoaaVGone
import Derived.Test.YthaodlegpjedoaaVGoneL
import Derived.Test.YthaodlegpjedoaaRel
import Derived.Test.YthaodlegpjedoaaRelOps
namespace Go.Proofs.Ythaodlegpjedoaa
open Go.RowKit Go.Instr

/-- Mark, its answer in named parts. -/
theorem mark_as {S : Nat → Prop} {w : World} {s : List UInt8} {v x : Int} {l lc : List Mg} {n q c : Nat} {A : Option Addr} (hl : l.length = n) (h : Ms S w A n l) (hn : n ≤ 1000000) (hb : ∀ m ∈ l, m.body.length ≤ 1000000) (hS : ∀ y, w.heap.size ≤ y → S y) (U : Option Addr) (nu cu : Nat) (us : List Int) (hU : Sl w U nu (ivs us)) (hnu : nu ≤ 140737488355328) (mode fl : Int)
    (h1 : l.map (markM us mode fl) = lc) (h2 : markN us mode fl l = q) :
    Calls Try.prog 32 #[.agg #[.string (St s), .int .i64 v, .int .i64 x, .slice A n c], .slice U nu cu, .int .i64 mode, .int .i64 fl] w fun e w' =>
      ∃ A' c', e = .returned (.tuple #[.agg #[.string (St s), .int .i64 v, .int .i64 x, .slice A' n c'], .int .i64 (q : Int)]) ∧ Ms S w' A' n lc ∧ Only [] w w' := by
  subst hl h1 h2
  refine (Mark_any ⟨s, v, x, l⟩ h hn hb hS U nu cu us hU hnu mode fl).mono fun e w' ⟨A', c', he, hM, hO⟩ => ⟨A', c', ?_, ?_, hO⟩
  · rw [he, bxv_eq (show (markB ⟨s, v, x, l⟩ us mode fl).l.length = l.length from List.length_map ..)]
    rfl
  · have : (markB ⟨s, v, x, l⟩ us mode fl).l.length = l.length := List.length_map ..
    rw [this] at hM
    exact hM
set_option maxRecDepth 100000 in
set_option maxHeartbeats 8000000 in
theorem marks_any {w : World} (b : Bx) {A : Option Addr} {c : Nat} (h : Ms AnyB w A b.l.length b.l) (hn : b.l.length ≤ 140737488351232) (hnm : b.name.length ≤ 140737488351232) (U : Option Addr) (nu cu : Nat) (us : List Int) (hU : Sl w U nu (ivs us)) (hnu : nu ≤ 140737488351232) (mode fl : Int) :
    Calls Try.prog 10 #[bxv b A c, .slice U nu cu, .int .i64 mode, .int .i64 fl] w fun e w' => e = .returned (.bool true) ∧ Only [] w w' := by
  have cL := fun (W : World) (o : Only [] w W) => large_any b (c := c) (h.keep o) (by omega)
  have cI := fun (W : World) (o : Only [] w W) => refIs_any b (c := c) (h.keep o) (by omega) (by omega)
  obtain ⟨p, hp⟩ : ∃ p, isB b = p := ⟨_, rfl⟩
  rw [hp] at cI
  obtain ⟨s, v, x, l⟩ := b
  obtain ⟨n, hl⟩ : ∃ n, l.length = n := ⟨_, rfl⟩
  simp only at h hn hnm
  simp only [bxv_eq hl] at cL cI ⊢
  rw [hl] at h hn
  have hO0 : Only [] w (w.alloc (.cells #[.string (St s), .int .i64 v, .int .i64 x, .slice A n c] 26)) := (Only.refl _ _).alloc _
  have HCL := Lib.hid cL
  have HCI := Lib.hid cI
  obtain ⟨lc, hlc⟩ : ∃ lc, l.map (markM us mode fl) = lc := ⟨_, rfl⟩
  obtain ⟨q, hq⟩ : ∃ q, markN us mode fl l = q := ⟨_, rfl⟩
  have HCE := Lib.hid (fun (W : World) (o : Only [] w W) (hb1 : n ≤ 1000000) (hb2 : ∀ m ∈ l, m.body.length ≤ 1000000) => mark_as (S := AnyB) (s := s) (v := v) (x := x) (c := c) hl (h.keep o) hb1 hb2 (fun _ _ => trivial) U nu cu us (hU.keep o) (by omega) mode fl hlc hq)
  have HLC := Lib.hid hlc
  have HQN := Lib.hid hq
  have HL := Lib.hid hl
  have HS := Lib.hid h
  have HU := Lib.hid hU
  have HP := Lib.hid hp
  have HKN := Lib.hid known_any
  have HUL : Hid (us.length = nu) := by show _ = _; simpa using hU.len
  have B0 := Lib.hid (Bk.new w 26 #[.string (St s), .int .i64 v, .int .i64 x, .slice A n c])
  obtain ⟨t, ht⟩ : ∃ t, St s = t := ⟨_, rfl⟩
  rw [ht] at HCL HCI HCE B0 hO0 ⊢
  clear cL cI h hU hl ht hnm hp hlc hq
  have hg : p = false ∨ p = true ∧ (60 : Int) < (nu : Int) ∨ p = true ∧ ¬ (60 : Int) < (nu : Int) ∧ fl < 0 ∨ p = true ∧ ¬ (60 : Int) < (nu : Int) ∧ ¬ fl < 0 ∧ 31 < fl ∨ p = true ∧ ¬ (60 : Int) < (nu : Int) ∧ ¬ fl < 0 ∧ ¬ 31 < fl := by
    cases p <;> simp <;> omega
  by_cases hok : p = true ∧ ¬ (60 : Int) < (nu : Int) ∧ ¬ fl < 0 ∧ ¬ 31 < fl
  rotate_left
  · go_enter Try.func10, Try.ntmps10
    go_wp2_with fail
    refine (HCL.out _ hO0).mono ?_
    rintro e w2 ⟨B, rfl, O2⟩
    obtain ⟨c0, c1, c2, c3⟩ := bk_four (B0.out.only O2 (by simp))
    cases B
    · rcases hg with rfl | ⟨rfl, h7⟩ | ⟨rfl, h7, h8⟩ | ⟨rfl, h7, h8, h9⟩ | hg
      · go_wp2_with (go_at_call 15; go_must (with_reducible refine (HCI.out _ (hO0.then O2)).mono ?_); rintro e w3 ⟨rfl, O3⟩)
        go_ret
        exact ⟨rfl, (hO0.then O2).then O3⟩
      · go_wp2_with (go_at_call 15; go_must (with_reducible refine (HCI.out _ (hO0.then O2)).mono ?_); rintro e w3 ⟨rfl, O3⟩)
        go_ret
        exact ⟨rfl, (hO0.then O2).then O3⟩
      · go_wp2_with (go_at_call 15; go_must (with_reducible refine (HCI.out _ (hO0.then O2)).mono ?_); rintro e w3 ⟨rfl, O3⟩)
        go_ret
        exact ⟨rfl, (hO0.then O2).then O3⟩
      · go_wp2_with (go_at_call 15; go_must (with_reducible refine (HCI.out _ (hO0.then O2)).mono ?_); rintro e w3 ⟨rfl, O3⟩)
        go_ret
        exact ⟨rfl, (hO0.then O2).then O3⟩
      · exact absurd hg hok
    · go_wp2
      go_ret
      exact ⟨rfl, hO0.then O2⟩
  clear hg
  obtain ⟨hp1, h7, h8, h9⟩ := hok
  subst hp1
  have hB := HP.out
  rw [isB_iff] at hB
  obtain ⟨_, _, _, hB4, hB5⟩ := hB
  simp only at hB4 hB5
  rw [HL.out] at hB4
  have HEX := Lib.hid (fun W o => HCE.out W o (by omega) (fun m hm => by have := rises_at hB5 hm; omega))
  clear hB5 HCE
  go_enter Try.func10, Try.ntmps10
  go_wp2_with fail
  refine (HCL.out _ hO0).mono ?_
  rintro e w2 ⟨B, rfl, O2⟩
  obtain ⟨c0, c1, c2, c3⟩ := bk_four (B0.out.only O2 (by simp))
  cases B
  case true =>
    go_wp2
    go_ret
    exact ⟨rfl, hO0.then O2⟩
  go_wp2_with (first
    | (go_at_call 15; go_must (with_reducible refine (HCI.out _ (hO0.then O2)).mono ?_); rintro e w3 ⟨rfl, O3⟩; obtain ⟨d0, d1, d2, d3⟩ := bk_four (B0.out.only (O2.then O3) (by simp)))
    | (go_at_call 32; with_reducible refine (HEX.out _ ((hO0.then O2).then O3)).mono ?_; rintro e w4 ⟨Ac, cc, rfl, MC, O4⟩; have B4 := B0.out.only ((O2.then O3).then O4) (by simp); have hlt4 := B4.lt; obtain ⟨e0, e1, e2, e3⟩ := bk_four B4))
  have BB := Lib.hid (B4.alloc (.cells #[.string t, .int .i64 v, .int .i64 x, .slice Ac n cc] 26))
  have BC := Lib.hid (Bk.new w4 26 #[.string t, .int .i64 v, .int .i64 x, .slice Ac n cc])
  have MC5 := Lib.hid (MC.keep ((Only.refl [] w4).alloc (.cells #[.string t, .int .i64 v, .int .i64 x, .slice Ac n cc] 26)))
  have Q5 := Lib.hid ((((hO0.then O2).then O3).then O4).alloc (.cells #[.string t, .int .i64 v, .int .i64 x, .slice Ac n cc] 26))
  clear MC O4 O3 O2 c0 c1 c2 c3 d0 d1 d2 d3 e0 e1 e2 e3 HEX HCI HCL
  generalize w4.alloc (.cells #[.string t, .int .i64 v, .int .i64 x, .slice Ac n cc] 26) = w5 at *
  generalize w4.heap.size = gc at *
  generalize w.heap.size = gb at *
  go_loopw [11, 12] (fun nv iv wr => Only [] w5 wr ∧ ∃ k : Nat, iv = .int .i64 (k : Int) ∧ k ≤ n ∧ nv = .int .i64 (markN us mode fl (l.take k) : Nat)) (fun _ iv _ => n - (intOf iv).toNat)
  case atStart => exact ⟨Only.refl _ _, 0, rfl, Nat.zero_le _, rfl⟩
  case round =>
    obtain ⟨hO, k, rfl, hk, rfl⟩ := hrel
    obtain ⟨c0, c1, c2, c3⟩ := bk_four (BB.out.only hO (by simp))
    by_cases hlt : k < n
    · have hlt' : (k : Int) < (n : Int) := by omega
      have hkl : k < l.length := by rw [HL.out]; exact hlt
      have hkc : k < lc.length := by rw [← HLC.out, List.length_map]; exact hkl
      obtain ⟨ad, Ab, cb, rfl, _, hm⟩ := (HS.out.keep (Q5.out.then hO)).at_ hlt hkl
      obtain ⟨adc, Abc, cbc, rfl, _, hmc⟩ := (MC5.out.keep hO).at_ hlt hkc
      have hlk : lc[k] = markM us mode fl l[k] := by simp [← HLC.out]
      rw [hlk] at hmc
      have hnx : markN us mode fl (l.take (k + 1)) = markN us mode fl (l.take k) + (if ((markM us mode fl l[k]).flags != l[k].flags) = true then 1 else 0) := markN_succ hkl
      have HKN2 : Hid (markN us mode fl (l.take k) ≤ 1000000) := by
        show _ ≤ _
        have := markN_le us mode fl (l.take k)
        rw [List.length_take] at this
        omega
      generalize l[k] = m at hm hmc hnx
      obtain ⟨F, hF⟩ : ∃ F, (markM us mode fl m).flags = F := ⟨_, rfl⟩
      have h1 : (markM us mode fl m).uid = m.uid := by unfold markM; split <;> rfl
      have h2 : (markM us mode fl m).body = m.body := by unfold markM; split <;> rfl
      obtain ⟨u, f, d, y⟩ := m
      have HNF : Hid (hasU us u = false → F = f) := fun he => by rw [← hF, markM_no he]
      obtain ⟨a0, a1, _, a3, a4, _⟩ := hm
      obtain ⟨z0, z1, _, z3, z4, _⟩ := hmc
      rw [h1] at z0
      rw [hF] at z1 hnx
      rw [h2] at z3 z4
      simp only at a0 a1 a3 a4 z0 z1 z3 z4 hnx
      obtain ⟨z, hz⟩ : ∃ z, y.length = z := ⟨_, rfl⟩
      rw [hz] at a3 a4 z3 z4
      obtain ⟨ts, hts⟩ : ∃ ts, St y = ts := ⟨_, rfl⟩
      have HTS := Lib.hid hts
      have HM0 := Lib.hid a0
      have HM1 := Lib.hid a1
      have HM3 := Lib.hid a3
      have HMS := Lib.hid a4
      have HZ0 := Lib.hid z0
      have HZ1 := Lib.hid z1
      have HZ3 := Lib.hid z3
      have HZS := Lib.hid z4
      have HO := Lib.hid hO
      obtain ⟨N0, hN0⟩ : ∃ N0, markN us mode fl (l.take k) = N0 := ⟨_, rfl⟩
      rw [hN0] at hnx HKN2 ⊢
      have HNX := Lib.hid hnx
      have HN2 := HKN2.out
      clear hF h1 h2 hlk hnx hN0 hz hts a0 a1 a3 a4 z0 z1 z3 z4 c0 c1 c2 hO
      have HMM : Hid (n - (intOf (.int .i64 ((k : Int) + 1))).toNat < n - (intOf (.int .i64 (k : Int))).toNat) := by
        show _ < _
        simp [intOf]
        omega
      have hk1 : k + 1 ≤ n := by omega
      go_wp2
      clear c3
      generalize wr = w6 at *
      go_loopw [13, 14] (fun nv jv wq => Only [] w6 wq ∧ ∃ j : Nat, jv = .int .i64 (j : Int) ∧ j ≤ nu ∧ nv = .bool (hasU (us.take j) u)) (fun _ jv _ => nu - (intOf jv).toNat)
      case atStart => exact ⟨Only.refl _ _, 0, rfl, Nat.zero_le _, by simp [hasU]⟩
      case round =>
        obtain ⟨hQ, j, rfl, hj, rfl⟩ := hrel
        have hQ5 := HO.out.then hQ
        obtain ⟨c0, c1, c2, c3⟩ := bk_four (BB.out.only hQ5 (by simp))
        have m0 := hQ.cellSome HM0.out (by simp)
        by_cases hltj : j < nu
        · have hltj' : (j : Int) < (nu : Int) := by omega
          have hjl : j < us.length := by rw [HUL.out]; exact hltj
          obtain ⟨ad2, rfl, hcu⟩ := (HU.out.keep (Q5.out.then hQ5)).int_at hltj hjl
          have HST := Lib.hid (has_take (u := u) hjl)
          obtain ⟨b0, hb0⟩ : ∃ b0, hasU (us.take j) u = b0 := ⟨_, rfl⟩
          rw [hb0] at HST ⊢
          obtain ⟨e0, he0⟩ : ∃ e0, (us[j] == u) = e0 := ⟨_, rfl⟩
          rw [he0] at HST
          generalize us[j] = z at hcu he0
          have HM : Hid (nu - (intOf (.int .i64 ((j : Int) + 1))).toNat < nu - (intOf (.int .i64 (j : Int))).toNat) := by
            show _ < _
            simp [intOf]
            omega
          cases b0
          · have HRR : Hid (∃ j' : Nat, Value.int .i64 ((j : Int) + 1) = .int .i64 (j' : Int) ∧ j' ≤ nu ∧ Value.bool e0 = .bool (hasU (us.take j') u)) := ⟨j + 1, by simp, by omega, by rw [HST.out]; rfl⟩
            clear hb0 c0 c1 c2
            go_wp2_with fail
            go_quiet (fail)
            go_wp2_with fail
            exact ⟨⟨hQ.drewN _, HRR.out⟩, HM.out⟩
          · have HRR : Hid (∃ j' : Nat, Value.int .i64 ((j : Int) + 1) = .int .i64 (j' : Int) ∧ j' ≤ nu ∧ Value.bool true = .bool (hasU (us.take j') u)) := ⟨j + 1, by simp, by omega, by rw [HST.out]; rfl⟩
            clear hb0 c0 c1 c2 he0
            go_wp2_with fail
            go_quiet (fail)
            go_wp2_with fail
            exact ⟨⟨hQ.drewN _, HRR.out⟩, HM.out⟩
        · obtain rfl : j = nu := by omega
          have hall : us.take j = us := List.take_of_length_le (by rw [HUL.out]; exact Nat.le_refl _)
          rw [hall]
          have hnf := HNF.out
          obtain ⟨nm, hnm⟩ : ∃ nm, hasU us u = nm := ⟨_, rfl⟩
          rw [hnm] at hnf ⊢
          obtain ⟨e0, e1, e2, e3⟩ := bk_four (BC.out.only hQ5 (by simp))
          have m1 := hQ.cellSome HM1.out (by simp)
          have m3 := hQ.cellSome HM3.out (by simp)
          have q0 := hQ.cellSome HZ0.out (by simp)
          have q1 := hQ.cellSome HZ1.out (by simp)
          have q3 := hQ.cellSome HZ3.out (by simp)
          have HSB : Hid (∀ W, Only [] wr W → Sl W Ab z (bvs y)) := fun W o => HMS.out.keep (hQ.then o)
          have HSC : Hid (∀ W, Only [] wr W → Sl W Abc z (bvs y)) := fun W o => HZS.out.keep (hQ.then o)
          have HQ := Lib.hid hQ5
          have c0' := Lib.hid c0
          clear hnm hall hQ5 hQ
          cases nm
          · have hff := hnf rfl
            subst hff
            clear hnf
            go_wp2_with fail
            apply region_only (by kernel_rfl) (by kernel_rfl)
            apply rel_val (hrf := Tk_refl)
            case hw => rfl
            case hy => intro wS hN hF; skip; first | (go_simp; done) | (go_simp; with_reducible rfl)
            case' hk => skip
            try simp only [Act.put, List.setIfInBounds_toArray, List.set_cons_zero, List.set_cons_succ]
            apply rel_val (hrf := Tk_refl)
            case hw => rfl
            case hy => intro wS hN hF; have hO := hN.pre (by kernel_rfl); have q0 := hO.cellSome e3 (by simp); first | (go_simp; done) | (go_simp; with_reducible rfl)
            case' hk => skip
            try simp only [Act.put, List.setIfInBounds_toArray, List.set_cons_zero, List.set_cons_succ]
            apply rel_val (hrf := Tk_refl)
            case hw => rfl
            case hy => intro wS hN hF; skip; first | (go_simp; done) | (go_simp; with_reducible rfl)
            case' hk => skip
            try simp only [Act.put, List.setIfInBounds_toArray, List.set_cons_zero, List.set_cons_succ]
            apply rel_val (hrf := Tk_refl)
            case hw => rfl
            case hy => intro wS hN hF; skip; first | (go_simp; done) | (go_simp; with_reducible rfl)
            case' hk => skip
            try simp only [Act.put, List.setIfInBounds_toArray, List.set_cons_zero, List.set_cons_succ]
            apply rel_val (hrf := Tk_refl)
            case hw => rfl
            case hy => intro wS hN hF; skip; first | (go_simp; done) | (go_simp; with_reducible rfl)
            case' hk => skip
            try simp only [Act.put, List.setIfInBounds_toArray, List.set_cons_zero, List.set_cons_succ]
            apply rel_val (hrf := Tk_refl)
            case hw => rfl
            case hy => intro wS hN hF; have hO := hN.pre (by kernel_rfl); have q0 := hO.cellSome q0 (by simp); first | (go_simp; done) | (go_simp; with_reducible rfl)
            case' hk => skip
            try simp only [Act.put, List.setIfInBounds_toArray, List.set_cons_zero, List.set_cons_succ]
            apply rel_val (hrf := Tk_refl)
            case hw => rfl
            case hy => intro wS hN hF; skip; first | (go_simp; done) | (go_simp; with_reducible rfl)
            case' hk => skip
            try simp only [Act.put, List.setIfInBounds_toArray, List.set_cons_zero, List.set_cons_succ]
            apply rel_val (hrf := Tk_refl)
            case hw => rfl
            case hy => intro wS hN hF; have hO := hN.pre (by kernel_rfl); have q0 := hO.cellSome c3 (by simp); first | (go_simp; done) | (go_simp; with_reducible rfl)
            case' hk => skip
            try simp only [Act.put, List.setIfInBounds_toArray, List.set_cons_zero, List.set_cons_succ]
            apply rel_val (hrf := Tk_refl)
            case hw => rfl
            case hy => intro wS hN hF; skip; first | (go_simp; done) | (go_simp; with_reducible rfl)
            case' hk => skip
            try simp only [Act.put, List.setIfInBounds_toArray, List.set_cons_zero, List.set_cons_succ]
            apply rel_val (hrf := Tk_refl)
            case hw => rfl
            case hy => intro wS hN hF; skip; first | (go_simp; done) | (go_simp; with_reducible rfl)
            case' hk => skip
            try simp only [Act.put, List.setIfInBounds_toArray, List.set_cons_zero, List.set_cons_succ]
            apply rel_val (hrf := Tk_refl)
            case hw => rfl
            case hy => intro wS hN hF; skip; first | (go_simp; done) | (go_simp; with_reducible rfl)
            case' hk => skip
            try simp only [Act.put, List.setIfInBounds_toArray, List.set_cons_zero, List.set_cons_succ]
            apply rel_val (hrf := Tk_refl)
            case hw => rfl
            case hy => intro wS hN hF; have hO := hN.pre (by kernel_rfl); have q0 := hO.cellSome m0 (by simp); first | (go_simp; done) | (go_simp; with_reducible rfl)
            case' hk => skip
            try simp only [Act.put, List.setIfInBounds_toArray, List.set_cons_zero, List.set_cons_succ]
            apply rel_val (v := .bool false) (hrf := Tk_refl)
            case hw => rfl
            case hy =>
              intro wS hN hF
              go_simp
            case' hk => skip
            try simp only [Act.put, List.setIfInBounds_toArray, List.set_cons_zero, List.set_cons_succ]
            apply rel_val (hrf := Tk_refl)
            case hw => rfl
            case hy => intro wS hN hF; skip; first | (go_simp; done) | (go_simp; with_reducible rfl)
            case' hk => skip
            try simp only [Act.put, List.setIfInBounds_toArray, List.set_cons_zero, List.set_cons_succ]
            apply rel_val (hrf := Tk_refl)
            case hw => rfl
            case hy => intro wS hN hF; skip; first | (go_simp; done) | (go_simp; with_reducible rfl)
            case' hk => skip
            try simp only [Act.put, List.setIfInBounds_toArray, List.set_cons_zero, List.set_cons_succ]
            apply rel_val (hrf := Tk_refl)
            case hw => rfl
            case hy => intro wS hN hF; have hO := hN.pre (by kernel_rfl); have q0 := hO.cellSome e3 (by simp); first | (go_simp; done) | (go_simp; with_reducible rfl)
            case' hk => skip
            try simp only [Act.put, List.setIfInBounds_toArray, List.set_cons_zero, List.set_cons_succ]
            apply rel_val (hrf := Tk_refl)
            case hw => rfl
            case hy => intro wS hN hF; skip; first | (go_simp; done) | (go_simp; with_reducible rfl)
            case' hk => skip
            try simp only [Act.put, List.setIfInBounds_toArray, List.set_cons_zero, List.set_cons_succ]
            apply rel_val (hrf := Tk_refl)
            case hw => rfl
            case hy => intro wS hN hF; skip; first | (go_simp; done) | (go_simp; with_reducible rfl)
            case' hk => skip
            try simp only [Act.put, List.setIfInBounds_toArray, List.set_cons_zero, List.set_cons_succ]
            apply rel_val (hrf := Tk_refl)
            case hw => rfl
            case hy => intro wS hN hF; skip; first | (go_simp; done) | (go_simp; with_reducible rfl)
            case' hk => skip
            try simp only [Act.put, List.setIfInBounds_toArray, List.set_cons_zero, List.set_cons_succ]
            apply rel_val (hrf := Tk_refl)
            case hw => rfl
            case hy => intro wS hN hF; have hO := hN.pre (by kernel_rfl); have q0 := hO.cellSome q3 (by simp); first | (go_simp; done) | (go_simp; with_reducible rfl)
            case' hk => skip
            try simp only [Act.put, List.setIfInBounds_toArray, List.set_cons_zero, List.set_cons_succ]
            apply rel_val (v := .string ts) (hrf := Tk_refl)
            case hw => rfl
            case hy =>
              intro wS hN hF
              have hO := hN.pre (by kernel_rfl)
              have hcv := run_str_sl (P := Try.prog) 29 9 5 Abc z cbc y Try.underlying29 Try.underlying5 Try.underlying9 (HSC.out wS ((Only.refl [] _).drew.then hO))
              rw [HTS.out] at hcv
              go_simp
            case' hk => skip
            try simp only [Act.put, List.setIfInBounds_toArray, List.set_cons_zero, List.set_cons_succ]
            apply rel_val (hrf := Tk_refl)
            case hw => rfl
            case hy => intro wS hN hF; skip; first | (go_simp; done) | (go_simp; with_reducible rfl)
            case' hk => skip
            try simp only [Act.put, List.setIfInBounds_toArray, List.set_cons_zero, List.set_cons_succ]
            apply rel_val (hrf := Tk_refl)
            case hw => rfl
            case hy => intro wS hN hF; have hO := hN.pre (by kernel_rfl); have q0 := hO.cellSome c3 (by simp); first | (go_simp; done) | (go_simp; with_reducible rfl)
            case' hk => skip
            try simp only [Act.put, List.setIfInBounds_toArray, List.set_cons_zero, List.set_cons_succ]
            apply rel_val (hrf := Tk_refl)
            case hw => rfl
            case hy => intro wS hN hF; skip; first | (go_simp; done) | (go_simp; with_reducible rfl)
            case' hk => skip
            try simp only [Act.put, List.setIfInBounds_toArray, List.set_cons_zero, List.set_cons_succ]
            apply rel_val (hrf := Tk_refl)
            case hw => rfl
            case hy => intro wS hN hF; skip; first | (go_simp; done) | (go_simp; with_reducible rfl)
            case' hk => skip
            try simp only [Act.put, List.setIfInBounds_toArray, List.set_cons_zero, List.set_cons_succ]
            apply rel_val (hrf := Tk_refl)
            case hw => rfl
            case hy => intro wS hN hF; skip; first | (go_simp; done) | (go_simp; with_reducible rfl)
            case' hk => skip
            try simp only [Act.put, List.setIfInBounds_toArray, List.set_cons_zero, List.set_cons_succ]
            apply rel_val (hrf := Tk_refl)
            case hw => rfl
            case hy => intro wS hN hF; have hO := hN.pre (by kernel_rfl); have q0 := hO.cellSome m3 (by simp); first | (go_simp; done) | (go_simp; with_reducible rfl)
            case' hk => skip
            try simp only [Act.put, List.setIfInBounds_toArray, List.set_cons_zero, List.set_cons_succ]
            apply rel_val (v := .string ts) (hrf := Tk_refl)
            case hw => rfl
            case hy =>
              intro wS hN hF
              have hO := hN.pre (by kernel_rfl)
              have hcv := run_str_sl (P := Try.prog) 29 9 5 Ab z cb y Try.underlying29 Try.underlying5 Try.underlying9 (HSB.out wS ((Only.refl [] _).drew.then hO))
              rw [HTS.out] at hcv
              go_simp
            case' hk => skip
            try simp only [Act.put, List.setIfInBounds_toArray, List.set_cons_zero, List.set_cons_succ]
            apply rel_val (v := .bool false) (hrf := Tk_refl)
            case hw => rfl
            case hy =>
              intro wS hN hF
              go_simp
            case' hk => skip
            try simp only [Act.put, List.setIfInBounds_toArray, List.set_cons_zero, List.set_cons_succ]
            apply rel_val (v := .bool false) (hrf := Tk_refl)
            case hw => rfl
            case hy =>
              intro wS hN hF
              go_simp
            case' hk => skip
            try simp only [Act.put, List.setIfInBounds_toArray, List.set_cons_zero, List.set_cons_succ]
            apply rel_val (hrf := Tk_refl)
            case hw => rfl
            case hy => intro wS hN hF; skip; first | (go_simp; done) | (go_simp; with_reducible rfl)
            case' hk => skip
            try simp only [Act.put, List.setIfInBounds_toArray, List.set_cons_zero, List.set_cons_succ]
            apply rel_val (hrf := Tk_refl)
            case hw => rfl
            case hy => intro wS hN hF; skip; first | (go_simp; done) | (go_simp; with_reducible rfl)
            case' hk => skip
            try simp only [Act.put, List.setIfInBounds_toArray, List.set_cons_zero, List.set_cons_succ]
            apply rel_val (v := .bool true) (hrf := Tk_refl)
            case hw => rfl
            case hy =>
              intro wS hN hF
              go_simp
            case' hk => skip
            try simp only [Act.put, List.setIfInBounds_toArray, List.set_cons_zero, List.set_cons_succ]
            apply rel_val (hrf := Tk_refl)
            case hw => rfl
            case hy => intro wS hN hF; skip; first | (go_simp; done) | (go_simp; with_reducible rfl)
            case' hk => skip
            try simp only [Act.put, List.setIfInBounds_toArray, List.set_cons_zero, List.set_cons_succ]
            apply rel_val (hrf := Tk_refl)
            case hw => rfl
            case hy => intro wS hN hF; skip; first | (go_simp; done) | (go_simp; with_reducible rfl)
            case' hk => skip
            try simp only [Act.put, List.setIfInBounds_toArray, List.set_cons_zero, List.set_cons_succ]
            apply rel_val (hrf := Tk_refl)
            case hw => rfl
            case hy => intro wS hN hF; have hO := hN.pre (by kernel_rfl); have q0 := hO.cellSome e3 (by simp); first | (go_simp; done) | (go_simp; with_reducible rfl)
            case' hk => skip
            try simp only [Act.put, List.setIfInBounds_toArray, List.set_cons_zero, List.set_cons_succ]
            apply rel_val (hrf := Tk_refl)
            case hw => rfl
            case hy => intro wS hN hF; skip; first | (go_simp; done) | (go_simp; with_reducible rfl)
            case' hk => skip
            try simp only [Act.put, List.setIfInBounds_toArray, List.set_cons_zero, List.set_cons_succ]
            apply rel_val (hrf := Tk_refl)
            case hw => rfl
            case hy => intro wS hN hF; skip; first | (go_simp; done) | (go_simp; with_reducible rfl)
            case' hk => skip
            try simp only [Act.put, List.setIfInBounds_toArray, List.set_cons_zero, List.set_cons_succ]
            apply rel_val (hrf := Tk_refl)
            case hw => rfl
            case hy => intro wS hN hF; skip; first | (go_simp; done) | (go_simp; with_reducible rfl)
            case' hk => skip
            try simp only [Act.put, List.setIfInBounds_toArray, List.set_cons_zero, List.set_cons_succ]
            apply rel_val (hrf := Tk_refl)
            case hw => rfl
            case hy => intro wS hN hF; have hO := hN.pre (by kernel_rfl); have q0 := hO.cellSome q1 (by simp); first | (go_simp; done) | (go_simp; with_reducible rfl)
            case' hk => skip
            try simp only [Act.put, List.setIfInBounds_toArray, List.set_cons_zero, List.set_cons_succ]
            apply rel_val (hrf := Tk_refl)
            case hw => rfl
            case hy => intro wS hN hF; skip; first | (go_simp; done) | (go_simp; with_reducible rfl)
            case' hk => skip
            try simp only [Act.put, List.setIfInBounds_toArray, List.set_cons_zero, List.set_cons_succ]
            apply rel_val (hrf := Tk_refl)
            case hw => rfl
            case hy => intro wS hN hF; have hO := hN.pre (by kernel_rfl); have q0 := hO.cellSome c3 (by simp); first | (go_simp; done) | (go_simp; with_reducible rfl)
            case' hk => skip
            try simp only [Act.put, List.setIfInBounds_toArray, List.set_cons_zero, List.set_cons_succ]
            apply rel_val (hrf := Tk_refl)
            case hw => rfl
            case hy => intro wS hN hF; skip; first | (go_simp; done) | (go_simp; with_reducible rfl)
            case' hk => skip
            try simp only [Act.put, List.setIfInBounds_toArray, List.set_cons_zero, List.set_cons_succ]
            apply rel_val (hrf := Tk_refl)
            case hw => rfl
            case hy => intro wS hN hF; skip; first | (go_simp; done) | (go_simp; with_reducible rfl)
            case' hk => skip
            try simp only [Act.put, List.setIfInBounds_toArray, List.set_cons_zero, List.set_cons_succ]
            apply rel_val (hrf := Tk_refl)
            case hw => rfl
            case hy => intro wS hN hF; skip; first | (go_simp; done) | (go_simp; with_reducible rfl)
            case' hk => skip
            try simp only [Act.put, List.setIfInBounds_toArray, List.set_cons_zero, List.set_cons_succ]
            apply rel_val (hrf := Tk_refl)
            case hw => rfl
            case hy => intro wS hN hF; have hO := hN.pre (by kernel_rfl); have q0 := hO.cellSome m1 (by simp); first | (go_simp; done) | (go_simp; with_reducible rfl)
            case' hk => skip
            try simp only [Act.put, List.setIfInBounds_toArray, List.set_cons_zero, List.set_cons_succ]
            apply rel_val (v := .bool false) (hrf := Tk_refl)
            case hw => rfl
            case hy =>
              intro wS hN hF
              go_simp
            case' hk => skip
            try simp only [Act.put, List.setIfInBounds_toArray, List.set_cons_zero, List.set_cons_succ]
            apply rel_val (v := .bool false) (hrf := Tk_refl)
            case hw => rfl
            case hy =>
              intro wS hN hF
              go_simp
            case' hk => skip
            try simp only [Act.put, List.setIfInBounds_toArray, List.set_cons_zero, List.set_cons_succ]
            apply rel_val (v := .bool false) (hrf := Tk_refl)
            case hw => rfl
            case hy =>
              intro wS hN hF
              go_simp
            case' hk => skip
            try simp only [Act.put, List.setIfInBounds_toArray, List.set_cons_zero, List.set_cons_succ]
            refine rel_end ?_
            intro wS hO2 hF
            clear hF
            have hO7 := (HQ.out.drew).then hO2.only
            have hO8 : Only [] wr wS := ((Only.refl [] wr).drew).then hO2.only
            have hO9 := fun n => Lib.hid (hO7.drewN n)
            replace e3 := hO8.cellSome e3 (by simp)
            replace c3 := hO8.cellSome c3 (by simp)
            replace q1 := hO8.cellSome q1 (by simp)
            replace m1 := hO8.cellSome m1 (by simp)
            clear hO7 hO8 hO2 e0 e1 e2 c0 c1 c2 m0 m3 q0 q3
            have hnx := HNX.out
            rw [show (F != F) = false by simp] at hnx
            have HRR : Hid (∃ k' : Nat, Value.int .i64 ((k : Int) + 1) = .int .i64 (k' : Int) ∧ k' ≤ n ∧ Value.int .i64 (N0 : Nat) = .int .i64 (markN us mode fl (l.take k') : Nat)) := ⟨k + 1, by simp, hk1, by rw [hnx]; rfl⟩
            clear hnx
            go_wp2_with fail
            go_quiet (fail)
            go_wp2_with fail
            exact ⟨⟨(hO9 _).out, HRR.out⟩, HMM.out⟩
          · clear hnf
            go_wp2_with fail
            apply region_only (by kernel_rfl) (by kernel_rfl)
            apply rel_val (hrf := Tk_refl)
            case hw => rfl
            case hy => intro wS hN hF; skip; first | (go_simp; done) | (go_simp; with_reducible rfl)
            case' hk => skip
            try simp only [Act.put, List.setIfInBounds_toArray, List.set_cons_zero, List.set_cons_succ]
            apply rel_val (hrf := Tk_refl)
            case hw => rfl
            case hy => intro wS hN hF; have hO := hN.pre (by kernel_rfl); have q0 := hO.cellSome e3 (by simp); first | (go_simp; done) | (go_simp; with_reducible rfl)
            case' hk => skip
            try simp only [Act.put, List.setIfInBounds_toArray, List.set_cons_zero, List.set_cons_succ]
            apply rel_val (hrf := Tk_refl)
            case hw => rfl
            case hy => intro wS hN hF; skip; first | (go_simp; done) | (go_simp; with_reducible rfl)
            case' hk => skip
            try simp only [Act.put, List.setIfInBounds_toArray, List.set_cons_zero, List.set_cons_succ]
            apply rel_val (hrf := Tk_refl)
            case hw => rfl
            case hy => intro wS hN hF; skip; first | (go_simp; done) | (go_simp; with_reducible rfl)
            case' hk => skip
            try simp only [Act.put, List.setIfInBounds_toArray, List.set_cons_zero, List.set_cons_succ]
            apply rel_val (hrf := Tk_refl)
            case hw => rfl
            case hy => intro wS hN hF; skip; first | (go_simp; done) | (go_simp; with_reducible rfl)
            case' hk => skip
            try simp only [Act.put, List.setIfInBounds_toArray, List.set_cons_zero, List.set_cons_succ]
            apply rel_val (hrf := Tk_refl)
            case hw => rfl
            case hy => intro wS hN hF; have hO := hN.pre (by kernel_rfl); have q0 := hO.cellSome q0 (by simp); first | (go_simp; done) | (go_simp; with_reducible rfl)
            case' hk => skip
            try simp only [Act.put, List.setIfInBounds_toArray, List.set_cons_zero, List.set_cons_succ]
            apply rel_val (hrf := Tk_refl)
            case hw => rfl
            case hy => intro wS hN hF; skip; first | (go_simp; done) | (go_simp; with_reducible rfl)
            case' hk => skip
            try simp only [Act.put, List.setIfInBounds_toArray, List.set_cons_zero, List.set_cons_succ]
            apply rel_val (hrf := Tk_refl)
            case hw => rfl
            case hy => intro wS hN hF; have hO := hN.pre (by kernel_rfl); have q0 := hO.cellSome c3 (by simp); first | (go_simp; done) | (go_simp; with_reducible rfl)
            case' hk => skip
            try simp only [Act.put, List.setIfInBounds_toArray, List.set_cons_zero, List.set_cons_succ]
            apply rel_val (hrf := Tk_refl)
            case hw => rfl
            case hy => intro wS hN hF; skip; first | (go_simp; done) | (go_simp; with_reducible rfl)
            case' hk => skip
            try simp only [Act.put, List.setIfInBounds_toArray, List.set_cons_zero, List.set_cons_succ]
            apply rel_val (hrf := Tk_refl)
            case hw => rfl
            case hy => intro wS hN hF; skip; first | (go_simp; done) | (go_simp; with_reducible rfl)
            case' hk => skip
            try simp only [Act.put, List.setIfInBounds_toArray, List.set_cons_zero, List.set_cons_succ]
            apply rel_val (hrf := Tk_refl)
            case hw => rfl
            case hy => intro wS hN hF; skip; first | (go_simp; done) | (go_simp; with_reducible rfl)
            case' hk => skip
            try simp only [Act.put, List.setIfInBounds_toArray, List.set_cons_zero, List.set_cons_succ]
            apply rel_val (hrf := Tk_refl)
            case hw => rfl
            case hy => intro wS hN hF; have hO := hN.pre (by kernel_rfl); have q0 := hO.cellSome m0 (by simp); first | (go_simp; done) | (go_simp; with_reducible rfl)
            case' hk => skip
            try simp only [Act.put, List.setIfInBounds_toArray, List.set_cons_zero, List.set_cons_succ]
            apply rel_val (v := .bool false) (hrf := Tk_refl)
            case hw => rfl
            case hy =>
              intro wS hN hF
              go_simp
            case' hk => skip
            try simp only [Act.put, List.setIfInBounds_toArray, List.set_cons_zero, List.set_cons_succ]
            apply rel_val (hrf := Tk_refl)
            case hw => rfl
            case hy => intro wS hN hF; skip; first | (go_simp; done) | (go_simp; with_reducible rfl)
            case' hk => skip
            try simp only [Act.put, List.setIfInBounds_toArray, List.set_cons_zero, List.set_cons_succ]
            apply rel_val (hrf := Tk_refl)
            case hw => rfl
            case hy => intro wS hN hF; skip; first | (go_simp; done) | (go_simp; with_reducible rfl)
            case' hk => skip
            try simp only [Act.put, List.setIfInBounds_toArray, List.set_cons_zero, List.set_cons_succ]
            apply rel_val (hrf := Tk_refl)
            case hw => rfl
            case hy => intro wS hN hF; have hO := hN.pre (by kernel_rfl); have q0 := hO.cellSome e3 (by simp); first | (go_simp; done) | (go_simp; with_reducible rfl)
            case' hk => skip
            try simp only [Act.put, List.setIfInBounds_toArray, List.set_cons_zero, List.set_cons_succ]
            apply rel_val (hrf := Tk_refl)
            case hw => rfl
            case hy => intro wS hN hF; skip; first | (go_simp; done) | (go_simp; with_reducible rfl)
            case' hk => skip
            try simp only [Act.put, List.setIfInBounds_toArray, List.set_cons_zero, List.set_cons_succ]
            apply rel_val (hrf := Tk_refl)
            case hw => rfl
            case hy => intro wS hN hF; skip; first | (go_simp; done) | (go_simp; with_reducible rfl)
            case' hk => skip
            try simp only [Act.put, List.setIfInBounds_toArray, List.set_cons_zero, List.set_cons_succ]
            apply rel_val (hrf := Tk_refl)
            case hw => rfl
            case hy => intro wS hN hF; skip; first | (go_simp; done) | (go_simp; with_reducible rfl)
            case' hk => skip
            try simp only [Act.put, List.setIfInBounds_toArray, List.set_cons_zero, List.set_cons_succ]
            apply rel_val (hrf := Tk_refl)
            case hw => rfl
            case hy => intro wS hN hF; have hO := hN.pre (by kernel_rfl); have q0 := hO.cellSome q3 (by simp); first | (go_simp; done) | (go_simp; with_reducible rfl)
            case' hk => skip
            try simp only [Act.put, List.setIfInBounds_toArray, List.set_cons_zero, List.set_cons_succ]
            apply rel_val (v := .string ts) (hrf := Tk_refl)
            case hw => rfl
            case hy =>
              intro wS hN hF
              have hO := hN.pre (by kernel_rfl)
              have hcv := run_str_sl (P := Try.prog) 29 9 5 Abc z cbc y Try.underlying29 Try.underlying5 Try.underlying9 (HSC.out wS ((Only.refl [] _).drew.then hO))
              rw [HTS.out] at hcv
              go_simp
            case' hk => skip
            try simp only [Act.put, List.setIfInBounds_toArray, List.set_cons_zero, List.set_cons_succ]
            apply rel_val (hrf := Tk_refl)
            case hw => rfl
            case hy => intro wS hN hF; skip; first | (go_simp; done) | (go_simp; with_reducible rfl)
            case' hk => skip
            try simp only [Act.put, List.setIfInBounds_toArray, List.set_cons_zero, List.set_cons_succ]
            apply rel_val (hrf := Tk_refl)
            case hw => rfl
            case hy => intro wS hN hF; have hO := hN.pre (by kernel_rfl); have q0 := hO.cellSome c3 (by simp); first | (go_simp; done) | (go_simp; with_reducible rfl)
            case' hk => skip
            try simp only [Act.put, List.setIfInBounds_toArray, List.set_cons_zero, List.set_cons_succ]
            apply rel_val (hrf := Tk_refl)
            case hw => rfl
            case hy => intro wS hN hF; skip; first | (go_simp; done) | (go_simp; with_reducible rfl)
            case' hk => skip
            try simp only [Act.put, List.setIfInBounds_toArray, List.set_cons_zero, List.set_cons_succ]
            apply rel_val (hrf := Tk_refl)
            case hw => rfl
            case hy => intro wS hN hF; skip; first | (go_simp; done) | (go_simp; with_reducible rfl)
            case' hk => skip
            try simp only [Act.put, List.setIfInBounds_toArray, List.set_cons_zero, List.set_cons_succ]
            apply rel_val (hrf := Tk_refl)
            case hw => rfl
            case hy => intro wS hN hF; skip; first | (go_simp; done) | (go_simp; with_reducible rfl)
            case' hk => skip
            try simp only [Act.put, List.setIfInBounds_toArray, List.set_cons_zero, List.set_cons_succ]
            apply rel_val (hrf := Tk_refl)
            case hw => rfl
            case hy => intro wS hN hF; have hO := hN.pre (by kernel_rfl); have q0 := hO.cellSome m3 (by simp); first | (go_simp; done) | (go_simp; with_reducible rfl)
            case' hk => skip
            try simp only [Act.put, List.setIfInBounds_toArray, List.set_cons_zero, List.set_cons_succ]
            apply rel_val (v := .string ts) (hrf := Tk_refl)
            case hw => rfl
            case hy =>
              intro wS hN hF
              have hO := hN.pre (by kernel_rfl)
              have hcv := run_str_sl (P := Try.prog) 29 9 5 Ab z cb y Try.underlying29 Try.underlying5 Try.underlying9 (HSB.out wS ((Only.refl [] _).drew.then hO))
              rw [HTS.out] at hcv
              go_simp
            case' hk => skip
            try simp only [Act.put, List.setIfInBounds_toArray, List.set_cons_zero, List.set_cons_succ]
            apply rel_val (v := .bool false) (hrf := Tk_refl)
            case hw => rfl
            case hy =>
              intro wS hN hF
              go_simp
            case' hk => skip
            try simp only [Act.put, List.setIfInBounds_toArray, List.set_cons_zero, List.set_cons_succ]
            apply rel_val (v := .bool false) (hrf := Tk_refl)
            case hw => rfl
            case hy =>
              intro wS hN hF
              go_simp
            case' hk => skip
            try simp only [Act.put, List.setIfInBounds_toArray, List.set_cons_zero, List.set_cons_succ]
            apply rel_val (hrf := Tk_refl)
            case hw => rfl
            case hy => intro wS hN hF; skip; first | (go_simp; done) | (go_simp; with_reducible rfl)
            case' hk => skip
            try simp only [Act.put, List.setIfInBounds_toArray, List.set_cons_zero, List.set_cons_succ]
            apply rel_val (hrf := Tk_refl)
            case hw => rfl
            case hy => intro wS hN hF; skip; first | (go_simp; done) | (go_simp; with_reducible rfl)
            case' hk => skip
            try simp only [Act.put, List.setIfInBounds_toArray, List.set_cons_zero, List.set_cons_succ]
            apply rel_val (v := .bool false) (hrf := Tk_refl)
            case hw => rfl
            case hy =>
              intro wS hN hF
              go_simp
            case' hk => skip
            try simp only [Act.put, List.setIfInBounds_toArray, List.set_cons_zero, List.set_cons_succ]
            apply rel_val (hrf := Tk_refl)
            case hw => rfl
            case hy => intro wS hN hF; skip; first | (go_simp; done) | (go_simp; with_reducible rfl)
            case' hk => skip
            try simp only [Act.put, List.setIfInBounds_toArray, List.set_cons_zero, List.set_cons_succ]
            apply rel_skip
            case hw => rfl
            case' hk => skip
            try simp only [Act.put, List.setIfInBounds_toArray, List.set_cons_zero, List.set_cons_succ]
            apply rel_skip
            case hw => rfl
            case' hk => skip
            try simp only [Act.put, List.setIfInBounds_toArray, List.set_cons_zero, List.set_cons_succ]
            apply rel_skip
            case hw => rfl
            case' hk => skip
            try simp only [Act.put, List.setIfInBounds_toArray, List.set_cons_zero, List.set_cons_succ]
            apply rel_skip
            case hw => rfl
            case' hk => skip
            try simp only [Act.put, List.setIfInBounds_toArray, List.set_cons_zero, List.set_cons_succ]
            apply rel_skip
            case hw => rfl
            case' hk => skip
            try simp only [Act.put, List.setIfInBounds_toArray, List.set_cons_zero, List.set_cons_succ]
            apply rel_skip
            case hw => rfl
            case' hk => skip
            try simp only [Act.put, List.setIfInBounds_toArray, List.set_cons_zero, List.set_cons_succ]
            apply rel_skip
            case hw => rfl
            case' hk => skip
            try simp only [Act.put, List.setIfInBounds_toArray, List.set_cons_zero, List.set_cons_succ]
            apply rel_skip
            case hw => rfl
            case' hk => skip
            try simp only [Act.put, List.setIfInBounds_toArray, List.set_cons_zero, List.set_cons_succ]
            apply rel_skip
            case hw => rfl
            case' hk => skip
            try simp only [Act.put, List.setIfInBounds_toArray, List.set_cons_zero, List.set_cons_succ]
            apply rel_skip
            case hw => rfl
            case' hk => skip
            try simp only [Act.put, List.setIfInBounds_toArray, List.set_cons_zero, List.set_cons_succ]
            apply rel_skip
            case hw => rfl
            case' hk => skip
            try simp only [Act.put, List.setIfInBounds_toArray, List.set_cons_zero, List.set_cons_succ]
            apply rel_skip
            case hw => rfl
            case' hk => skip
            try simp only [Act.put, List.setIfInBounds_toArray, List.set_cons_zero, List.set_cons_succ]
            apply rel_skip
            case hw => rfl
            case' hk => skip
            try simp only [Act.put, List.setIfInBounds_toArray, List.set_cons_zero, List.set_cons_succ]
            apply rel_val (v := .bool false) (hrf := Tk_refl)
            case hw => rfl
            case hy =>
              intro wS hN hF
              go_simp
            case' hk => skip
            try simp only [Act.put, List.setIfInBounds_toArray, List.set_cons_zero, List.set_cons_succ]
            apply rel_val (v := .bool false) (hrf := Tk_refl)
            case hw => rfl
            case hy =>
              intro wS hN hF
              go_simp
            case' hk => skip
            try simp only [Act.put, List.setIfInBounds_toArray, List.set_cons_zero, List.set_cons_succ]
            refine rel_end ?_
            intro wS hO2 hF
            clear hF
            have hO7 := (HQ.out.drew).then hO2.only
            have hO8 : Only [] wr wS := ((Only.refl [] wr).drew).then hO2.only
            have hO9 := fun n => Lib.hid (hO7.drewN n)
            replace e3 := hO8.cellSome e3 (by simp)
            replace c3 := hO8.cellSome c3 (by simp)
            replace q1 := hO8.cellSome q1 (by simp)
            replace m1 := hO8.cellSome m1 (by simp)
            clear hO7 hO8 hO2 e0 e1 e2 c0 c1 c2 m0 m3 q0 q3
            by_cases hne : F = f
            · subst hne
              have hnx := HNX.out
              rw [show (F != F) = false by simp] at hnx
              have HRR : Hid (∃ k' : Nat, Value.int .i64 ((k : Int) + 1) = .int .i64 (k' : Int) ∧ k' ≤ n ∧ Value.int .i64 (N0 : Nat) = .int .i64 (markN us mode fl (l.take k') : Nat)) := ⟨k + 1, by simp, hk1, by rw [hnx]; rfl⟩
              clear hnx
              go_wp2_with fail
              go_quiet (fail)
              go_wp2_with fail
              exact ⟨⟨(hO9 _).out, HRR.out⟩, HMM.out⟩
            · have hnx := HNX.out
              rw [show (F != f) = true by simpa using hne] at hnx
              have hw : wrap64 ((N0 : Int) + 1) = (N0 : Int) + 1 := IntWalk.wrap64_in _ (by omega)
              have HRR : Hid (∃ k' : Nat, Value.int .i64 ((k : Int) + 1) = .int .i64 (k' : Int) ∧ k' ≤ n ∧ Value.int .i64 (wrap64 ((N0 : Int) + 1)) = .int .i64 (markN us mode fl (l.take k') : Nat)) := ⟨k + 1, by simp, hk1, by rw [hnx, hw]; simp⟩
              clear hnx hw HN2 HKN2 HNX
              generalize (N0 : Int) = N2 at *
              go_wp2_with fail
              go_quiet (fail)
              go_wp2_with fail
              exact ⟨⟨(hO9 _).out, HRR.out⟩, HMM.out⟩
    · obtain rfl : k = n := by omega
      have hall : l.take k = l := List.take_of_length_le (by rw [HL.out]; exact Nat.le_refl _)
      rw [hall, HQN.out]
      have HQ := Lib.hid (Q5.out.then hO)
      go_wp2_with (go_at_call 18; go_must (with_reducible refine (HKN.out _).mono ?_); rintro e w8 ⟨rfl, O8⟩)
      go_ret
      exact ⟨rfl, HQ.out.then O8⟩
end Go.Proofs.Ythaodlegpjedoaa
