/-
  The law BoxGone.
-/
import Derived.Test.YthaodlegpjedoaaVGone
import Derived.Test.YthaodlegpjedoaaRel
import Derived.Test.YthaodlegpjedoaaRelOps
namespace Go.Proofs.Ythaodlegpjedoaa
open Go.RowKit Go.Instr

theorem part_len (us : List Int) (l : List Mg) : (stayL us l).length + (goneL us l).length = l.length := by
  unfold stayL goneL
  rw [List.length_map]
  induction l with
  | nil => rfl
  | cons m r ih =>
    rw [List.filter_cons, List.filter_cons]
    cases hasU us m.uid <;> simp <;> omega
theorem find_gone {us : List Int} {l : List Mg} {u : Int} (h : hasU us u = true) : findI (stayL us l) u = -1 := findI_none fun m hm he => by
  have h2 := (List.mem_filter.1 hm).2
  rw [he, h] at h2
  cases h2
theorem findI_in {u : Int} {l : List Mg} (h : ∃ m ∈ l, m.uid = u) : 0 ≤ findI l u := by
  unfold findI
  split
  · omega
  · rename_i hn
    exfalso
    apply hn
    obtain ⟨m, hm, he⟩ := h
    clear hn
    induction l with
    | nil => cases hm
    | cons y r ih =>
      unfold posU
      rw [List.takeWhile_cons]
      split
      · rename_i hy
        rcases List.mem_cons.1 hm with rfl | hm
        · simp [he] at hy
        · have := ih hm
          unfold posU at this
          simp only [List.length_cons]
          omega
      · simp
theorem find_stay {us : List Int} {l : List Mg} {k : Nat} (hk : k < l.length) (h : hasU us l[k].uid = false) : 0 ≤ findI (stayL us l) l[k].uid :=
  findI_in ⟨l[k], List.mem_filter.2 ⟨List.getElem_mem hk, by rw [h]; rfl⟩, rfl⟩
theorem find_at {next : Int} {l : List Mg} (h : rises next 0 l = true) {k : Nat} (hk : k < l.length) : findI l l[k].uid = (k : Int) :=
  findI_hit hk (fun j hj he => by have := rises_lt h hj hk; omega) rfl
theorem find_zero {next : Int} {l : List Mg} (h : rises next 0 l = true) : findI l 0 = -1 := findI_none fun m hm he => by
  have := rises_at h hm
  omega
theorem has_take {us : List Int} {u : Int} {j : Nat} (h : j < us.length) : hasU (us.take (j + 1)) u = (hasU (us.take j) u || us[j] == u) := by
  unfold hasU
  rw [List.take_succ_eq_append_getElem h, Bool.eq_iff_iff, Bool.or_eq_true, List.contains_iff_mem, List.contains_iff_mem, List.mem_append, List.mem_singleton, beq_iff_eq]
  exact ⟨fun h => h.imp id Eq.symm, fun h => h.imp id Eq.symm⟩
set_option maxRecDepth 100000 in
set_option maxHeartbeats 8000000 in
theorem gone_any {w : World} (b : Bx) {A : Option Addr} {c : Nat} (h : Ms AnyB w A b.l.length b.l) (hn : b.l.length ≤ 140737488351232) (hnm : b.name.length ≤ 140737488351232) (U : Option Addr) (nu cu : Nat) (us : List Int) (hU : Sl w U nu (ivs us)) (hnu : nu ≤ 140737488351232) :
    Calls Try.prog 11 #[bxv b A c, .slice U nu cu] w fun e w' => e = .returned (.bool true) ∧ Only [] w w' := by
  have cL := fun (W : World) (o : Only [] w W) => large_any b (c := c) (h.keep o) (by omega)
  have cI := fun (W : World) (o : Only [] w W) => refIs_any b (c := c) (h.keep o) (by omega) (by omega)
  obtain ⟨p, hp⟩ : ∃ p, isB b = p := ⟨_, rfl⟩
  rw [hp] at cI
  obtain ⟨s, v, x, l⟩ := b
  obtain ⟨n, hl⟩ : ∃ n, l.length = n := ⟨_, rfl⟩
  simp only at h hn hnm
  simp only [bxv_eq hl] at cL cI ⊢
  rw [hl] at h hn
  have hO0 : Only [] w (w.alloc (.cells #[.string (St s), .int .i64 v, .int .i64 x, .slice A n c] 26)) := (Only.refl _ _).alloc _
  have HCL := Lib.hid cL
  have HCI := Lib.hid cI
  obtain ⟨lc, hlc⟩ : ∃ lc, stayL us l = lc := ⟨_, rfl⟩
  obtain ⟨gl, hgl⟩ : ∃ gl, goneL us l = gl := ⟨_, rfl⟩
  obtain ⟨nc, hnc⟩ : ∃ nc, lc.length = nc := ⟨_, rfl⟩
  obtain ⟨ng, hng⟩ : ∃ ng, gl.length = ng := ⟨_, rfl⟩
  have hpart := part_len us l
  rw [hlc, hgl, hnc, hng, hl] at hpart
  have HCE := Lib.hid (fun (W : World) (o : Only [] w W) (hb1 : n ≤ 1000000) (hb2 : ∀ m ∈ l, m.body.length ≤ 1000000) => exp_as (S := AnyB) (s := s) (v := v) (x := x) (c := c) hl (h.keep o) hb1 hb2 (fun _ _ => trivial) U nu cu us (hU.keep o) (by omega) hlc hgl hnc hng)
  have HLC := Lib.hid hlc
  have HNC := Lib.hid hnc
  have HFC := Lib.hid (fun (W : World) (Ac : Option Addr) (cc : Nat) (hM : Ms AnyB W Ac nc lc) (u q : Int) (hq : findI lc u = q) => find_as (s := s) (v := v) (x := x) (c := cc) hnc hM (by omega) u q hq)
  have HL := Lib.hid hl
  have HS := Lib.hid h
  have HU := Lib.hid hU
  have HP := Lib.hid hp
  have HKN := Lib.hid known_any
  have HUL : Hid (us.length = nu) := by show _ = _; simpa using hU.len
  have B0 := Lib.hid (Bk.new w 26 #[.string (St s), .int .i64 v, .int .i64 x, .slice A n c])
  have HNM := Lib.hid hnm
  have HFB := Lib.hid (fun (W : World) (o : Only [] w W) (u q : Int) (hq : findI l u = q) => find_as (s := s) (v := v) (x := x) (c := c) hl (h.keep o) (by omega) u q hq)
  obtain ⟨t, ht⟩ : ∃ t, St s = t := ⟨_, rfl⟩
  have HT := Lib.hid ht
  rw [ht] at HCL HCI HCE B0 hO0 HFB HFC ⊢
  clear cL cI h hU hl ht hnm hp hlc hgl hnc hng
  by_cases h60 : 60 < nu ∨ p = false
  · have h60' : (60 : Int) < (nu : Int) ∨ p = false := h60.imp (fun h => by omega) id
    go_enter Try.func11, Try.ntmps11
    go_wp2_with fail
    refine (HCL.out _ hO0).mono ?_
    rintro e w2 ⟨B, rfl, O2⟩
    obtain ⟨c0, c1, c2, c3⟩ := bk_four (B0.out.only O2 (by simp))
    cases B
    · cases p
      · go_wp2_with (go_at_call 15; go_must (with_reducible refine (HCI.out _ (hO0.then O2)).mono ?_); rintro e w3 ⟨rfl, O3⟩)
        go_ret
        exact ⟨rfl, (hO0.then O2).then O3⟩
      · have h7 : (60 : Int) < (nu : Int) := by rcases h60' with h | h; exact h; cases h
        go_wp2_with (go_at_call 15; go_must (with_reducible refine (HCI.out _ (hO0.then O2)).mono ?_); rintro e w3 ⟨rfl, O3⟩)
        go_ret
        exact ⟨rfl, (hO0.then O2).then O3⟩
    · go_wp2
      go_ret
      exact ⟨rfl, hO0.then O2⟩
  have hp1 : p = true := by cases p; exact absurd (.inr rfl) h60; rfl
  subst hp1
  have h7 : ¬ (60 : Int) < (nu : Int) := by omega
  have hB := HP.out
  rw [isB_iff] at hB
  obtain ⟨_, _, _, hB4, hB5⟩ := hB
  simp only at hB4 hB5
  rw [HL.out] at hB4
  have HR := Lib.hid hB5
  have HEX := Lib.hid (fun W o => HCE.out W o (by omega) (fun m hm => by have := rises_at hB5 hm; omega))
  clear hB5 HCE h60
  go_enter Try.func11, Try.ntmps11
  go_wp2_with fail
  refine (HCL.out _ hO0).mono ?_
  rintro e w2 ⟨B, rfl, O2⟩
  obtain ⟨c0, c1, c2, c3⟩ := bk_four (B0.out.only O2 (by simp))
  cases B
  case true =>
    go_wp2
    go_ret
    exact ⟨rfl, hO0.then O2⟩
  have hsum : ((nc : Int) + (ng : Int) != (n : Int)) = false := by rw [bne_eq_false_iff_eq]; omega
  go_wp2_with (first
    | (go_at_call 15; go_must (with_reducible refine (HCI.out _ (hO0.then O2)).mono ?_); rintro e w3 ⟨rfl, O3⟩; obtain ⟨d0, d1, d2, d3⟩ := bk_four (B0.out.only (O2.then O3) (by simp)))
    | (go_at_call 28; with_reducible refine (HEX.out _ ((hO0.then O2).then O3)).mono ?_; rintro e w4 ⟨Ac, cc, Ag, cg, rfl, MC, SG, BG, O4⟩; have B4 := B0.out.only ((O2.then O3).then O4) (by simp); have hlt4 := B4.lt; obtain ⟨e0, e1, e2, e3⟩ := bk_four B4))
  have BB := Lib.hid (B4.alloc (.cells #[.string t, .int .i64 v, .int .i64 x, .slice Ac nc cc] 26))
  have BC := Lib.hid (Bk.new w4 26 #[.string t, .int .i64 v, .int .i64 x, .slice Ac nc cc])
  have MC5 := Lib.hid (MC.keep ((Only.refl [] w4).alloc (.cells #[.string t, .int .i64 v, .int .i64 x, .slice Ac nc cc] 26)))
  have Q5 := Lib.hid ((((hO0.then O2).then O3).then O4).alloc (.cells #[.string t, .int .i64 v, .int .i64 x, .slice Ac nc cc] 26))
  clear MC SG BG O4 O3 O2 c0 c1 c2 c3 d0 d1 d2 d3 e0 e1 e2 e3 hsum HEX HCI HCL
  generalize w4.alloc (.cells #[.string t, .int .i64 v, .int .i64 x, .slice Ac nc cc] 26) = w5 at *
  generalize w4.heap.size = gc at *
  generalize w.heap.size = gb at *
  go_loopw [7] (fun iv wr => Only [] w5 wr ∧ ∃ k : Nat, iv = .int .i64 (k : Int) ∧ k ≤ n) (fun iv _ => n - (intOf iv).toNat)
  case atStart => exact ⟨Only.refl _ _, 0, rfl, Nat.zero_le _⟩
  case round =>
    obtain ⟨hO, k, rfl, hk⟩ := hrel
    obtain ⟨c0, c1, c2, c3⟩ := bk_four (BB.out.only hO (by simp))
    by_cases hlt : k < n
    · have hlt' : (k : Int) < (n : Int) := by omega
      have hkl : k < l.length := by rw [HL.out]; exact hlt
      obtain ⟨ad, Ab, cb, rfl, _, hm⟩ := (HS.out.keep (Q5.out.then hO)).at_ hlt hkl
      obtain ⟨u, hu⟩ : ∃ u, l[k].uid = u := ⟨_, rfl⟩
      have HM0 := Lib.hid (show wr.cell? (ad.add (k * 4)) = some (.int .i64 u) by rw [← hu]; exact hm.c0)
      have HQB := Lib.hid (show findI l u = (k : Int) by rw [← hu]; exact find_at HR.out hkl)
      have HQC : Hid (decide (findI lc u < 0) = hasU us u) := by
        show _ = _
        rw [← HLC.out]
        cases e : hasU us u with
        | true => rw [find_gone e]; rfl
        | false =>
          rw [← hu] at e ⊢
          have := find_stay hkl e
          exact decide_eq_false (by omega)
      have HO := Lib.hid hO
      clear hm hu c0 c1 c2 hO
      go_wp2
      clear c3
      generalize wr = w6 at *
      go_loopw [8, 9] (fun nv jv wq => Only [] w6 wq ∧ ∃ j : Nat, jv = .int .i64 (j : Int) ∧ j ≤ nu ∧ nv = .bool (hasU (us.take j) u)) (fun _ jv _ => nu - (intOf jv).toNat)
      case atStart => exact ⟨Only.refl _ _, 0, rfl, Nat.zero_le _, by simp [hasU]⟩
      case round =>
        obtain ⟨hQ, j, rfl, hj, rfl⟩ := hrel
        have hQ5 := HO.out.then hQ
        obtain ⟨c0, c1, c2, c3⟩ := bk_four (BB.out.only hQ5 (by simp))
        have m0 := hQ.cellSome HM0.out (by simp)
        by_cases hltj : j < nu
        · have hltj' : (j : Int) < (nu : Int) := by omega
          have hjl : j < us.length := by rw [HUL.out]; exact hltj
          obtain ⟨ad2, rfl, hcu⟩ := (HU.out.keep (Q5.out.then hQ5)).int_at hltj hjl
          have HST := Lib.hid (has_take (u := u) hjl)
          obtain ⟨b0, hb0⟩ : ∃ b0, hasU (us.take j) u = b0 := ⟨_, rfl⟩
          rw [hb0] at HST ⊢
          obtain ⟨e0, he0⟩ : ∃ e0, (us[j] == u) = e0 := ⟨_, rfl⟩
          rw [he0] at HST
          generalize us[j] = z at hcu he0
          have HM : Hid (nu - (intOf (.int .i64 ((j : Int) + 1))).toNat < nu - (intOf (.int .i64 (j : Int))).toNat) := by
            show _ < _
            simp [intOf]
            omega
          cases b0
          · have HRR : Hid (∃ j' : Nat, Value.int .i64 ((j : Int) + 1) = .int .i64 (j' : Int) ∧ j' ≤ nu ∧ Value.bool e0 = .bool (hasU (us.take j') u)) := ⟨j + 1, by simp, by omega, by rw [HST.out]; rfl⟩
            clear hb0 c0 c1 c2
            go_wp2_with fail
            go_quiet (fail)
            go_wp2_with fail
            exact ⟨⟨hQ.drewN _, HRR.out⟩, HM.out⟩
          · have HRR : Hid (∃ j' : Nat, Value.int .i64 ((j : Int) + 1) = .int .i64 (j' : Int) ∧ j' ≤ nu ∧ Value.bool true = .bool (hasU (us.take j') u)) := ⟨j + 1, by simp, by omega, by rw [HST.out]; rfl⟩
            clear hb0 c0 c1 c2 he0
            go_wp2_with fail
            go_quiet (fail)
            go_wp2_with fail
            exact ⟨⟨hQ.drewN _, HRR.out⟩, HM.out⟩
        · obtain rfl : j = nu := by omega
          have hall : us.take j = us := List.take_of_length_le (by rw [HUL.out]; exact Nat.le_refl _)
          rw [hall]
          have hqc := HQC.out
          obtain ⟨nm, hnm⟩ : ∃ nm, hasU us u = nm := ⟨_, rfl⟩
          obtain ⟨q, hq⟩ : ∃ q, findI lc u = q := ⟨_, rfl⟩
          rw [hnm, hq] at hqc
          rw [hnm]
          obtain ⟨a0, a1, a2, a3⟩ := bk_four (BC.out.only hQ5 (by simp))
          have HF1 : Hid (∀ W, Only [] wr W → Calls Try.prog 33 #[.agg #[.string t, .int .i64 v, .int .i64 x, .slice Ac nc cc], .int .i64 u] W fun e w' => e = .returned (.int .i64 q) ∧ Only [] W w') := fun W o => HFC.out W Ac cc (MC5.out.keep (hQ5.then o)) u q hq
          have HF2 : Hid (∀ W, Only [] wr W → Calls Try.prog 33 #[.agg #[.string t, .int .i64 v, .int .i64 x, .slice (some ad) n c], .int .i64 u] W fun e w' => e = .returned (.int .i64 (k : Int)) ∧ Only [] W w') := fun W o => HFB.out W ((Q5.out.then hQ5).then o) u k HQB.out
          have HQ := Lib.hid hQ5
          have hbn : (nm != nm) = false := by simp
          clear hq hnm hall hQ5 hQ
          go_wp2_with fail
          apply region_only (by kernel_rfl) (by kernel_rfl)
          apply rel_val (hrf := Tk_refl)
          case hw => rfl
          case hy => intro wS hN hF; have hO := hN.pre (by kernel_rfl); have q0 := hO.cellSome a0 (by simp); have q1 := hO.cellSome a1 (by simp); have q2 := hO.cellSome a2 (by simp); have q3 := hO.cellSome a3 (by simp); first | (go_simp; done) | (go_simp; with_reducible rfl)
          case' hk => skip
          try simp only [Act.put, List.setIfInBounds_toArray, List.set_cons_zero, List.set_cons_succ]
          apply rel_val (hrf := Tk_refl)
          case hw => rfl
          case hy => intro wS hN hF; skip; first | (go_simp; done) | (go_simp; with_reducible rfl)
          case' hk => skip
          try simp only [Act.put, List.setIfInBounds_toArray, List.set_cons_zero, List.set_cons_succ]
          apply rel_val (hrf := Tk_refl)
          case hw => rfl
          case hy => intro wS hN hF; have hO := hN.pre (by kernel_rfl); have q0 := hO.cellSome c3 (by simp); first | (go_simp; done) | (go_simp; with_reducible rfl)
          case' hk => skip
          try simp only [Act.put, List.setIfInBounds_toArray, List.set_cons_zero, List.set_cons_succ]
          apply rel_val (hrf := Tk_refl)
          case hw => rfl
          case hy => intro wS hN hF; skip; first | (go_simp; done) | (go_simp; with_reducible rfl)
          case' hk => skip
          try simp only [Act.put, List.setIfInBounds_toArray, List.set_cons_zero, List.set_cons_succ]
          apply rel_val (hrf := Tk_refl)
          case hw => rfl
          case hy => intro wS hN hF; skip; first | (go_simp; done) | (go_simp; with_reducible rfl)
          case' hk => skip
          try simp only [Act.put, List.setIfInBounds_toArray, List.set_cons_zero, List.set_cons_succ]
          apply rel_val (hrf := Tk_refl)
          case hw => rfl
          case hy => intro wS hN hF; skip; first | (go_simp; done) | (go_simp; with_reducible rfl)
          case' hk => skip
          try simp only [Act.put, List.setIfInBounds_toArray, List.set_cons_zero, List.set_cons_succ]
          apply rel_val (hrf := Tk_refl)
          case hw => rfl
          case hy => intro wS hN hF; have hO := hN.pre (by kernel_rfl); have q0 := hO.cellSome m0 (by simp); first | (go_simp; done) | (go_simp; with_reducible rfl)
          case' hk => skip
          try simp only [Act.put, List.setIfInBounds_toArray, List.set_cons_zero, List.set_cons_succ]
          apply rel_call (v := .int .i64 q) (f := 33) (args := #[.agg #[.string t, .int .i64 v, .int .i64 x, .slice Ac nc cc], .int .i64 u])
          case hw => rfl
          case hy => intro wS hN hF; go_simp
          case hc => intro wS hN hF; exact call_only (HF1.out wS ((Only.refl [] _).drew.then (hN.pre (by kernel_rfl))))
          case' hk => skip
          try simp only [Act.put, List.setIfInBounds_toArray, List.set_cons_zero, List.set_cons_succ]
          apply rel_val (v := .bool nm) (hrf := Tk_refl)
          case hw => rfl
          case hy =>
            intro wS hN hF
            go_simp
          case' hk => skip
          try simp only [Act.put, List.setIfInBounds_toArray, List.set_cons_zero, List.set_cons_succ]
          apply rel_val (hrf := Tk_refl)
          case hw => rfl
          case hy => intro wS hN hF; skip; first | (go_simp; done) | (go_simp; with_reducible rfl)
          case' hk => skip
          try simp only [Act.put, List.setIfInBounds_toArray, List.set_cons_zero, List.set_cons_succ]
          apply rel_val (v := .bool false) (hrf := Tk_refl)
          case hw => rfl
          case hy =>
            intro wS hN hF
            go_simp
          case' hk => skip
          try simp only [Act.put, List.setIfInBounds_toArray, List.set_cons_zero, List.set_cons_succ]
          apply rel_val (v := .bool false) (hrf := Tk_refl)
          case hw => rfl
          case hy =>
            intro wS hN hF
            go_simp
          case' hk => skip
          try simp only [Act.put, List.setIfInBounds_toArray, List.set_cons_zero, List.set_cons_succ]
          apply rel_val (hrf := Tk_refl)
          case hw => rfl
          case hy => intro wS hN hF; have hO := hN.pre (by kernel_rfl); have q0 := hO.cellSome c0 (by simp); have q1 := hO.cellSome c1 (by simp); have q2 := hO.cellSome c2 (by simp); have q3 := hO.cellSome c3 (by simp); first | (go_simp; done) | (go_simp; with_reducible rfl)
          case' hk => skip
          try simp only [Act.put, List.setIfInBounds_toArray, List.set_cons_zero, List.set_cons_succ]
          apply rel_val (hrf := Tk_refl)
          case hw => rfl
          case hy => intro wS hN hF; skip; first | (go_simp; done) | (go_simp; with_reducible rfl)
          case' hk => skip
          try simp only [Act.put, List.setIfInBounds_toArray, List.set_cons_zero, List.set_cons_succ]
          apply rel_val (hrf := Tk_refl)
          case hw => rfl
          case hy => intro wS hN hF; have hO := hN.pre (by kernel_rfl); have q0 := hO.cellSome c3 (by simp); first | (go_simp; done) | (go_simp; with_reducible rfl)
          case' hk => skip
          try simp only [Act.put, List.setIfInBounds_toArray, List.set_cons_zero, List.set_cons_succ]
          apply rel_val (hrf := Tk_refl)
          case hw => rfl
          case hy => intro wS hN hF; skip; first | (go_simp; done) | (go_simp; with_reducible rfl)
          case' hk => skip
          try simp only [Act.put, List.setIfInBounds_toArray, List.set_cons_zero, List.set_cons_succ]
          apply rel_val (hrf := Tk_refl)
          case hw => rfl
          case hy => intro wS hN hF; skip; first | (go_simp; done) | (go_simp; with_reducible rfl)
          case' hk => skip
          try simp only [Act.put, List.setIfInBounds_toArray, List.set_cons_zero, List.set_cons_succ]
          apply rel_val (hrf := Tk_refl)
          case hw => rfl
          case hy => intro wS hN hF; skip; first | (go_simp; done) | (go_simp; with_reducible rfl)
          case' hk => skip
          try simp only [Act.put, List.setIfInBounds_toArray, List.set_cons_zero, List.set_cons_succ]
          apply rel_val (hrf := Tk_refl)
          case hw => rfl
          case hy => intro wS hN hF; have hO := hN.pre (by kernel_rfl); have q0 := hO.cellSome m0 (by simp); first | (go_simp; done) | (go_simp; with_reducible rfl)
          case' hk => skip
          try simp only [Act.put, List.setIfInBounds_toArray, List.set_cons_zero, List.set_cons_succ]
          apply rel_call (v := .int .i64 (k : Int)) (f := 33) (args := #[.agg #[.string t, .int .i64 v, .int .i64 x, .slice (some ad) n c], .int .i64 u])
          case hw => rfl
          case hy => intro wS hN hF; go_simp
          case hc => intro wS hN hF; exact call_only (HF2.out wS ((Only.refl [] _).drew.then (hN.pre (by kernel_rfl))))
          case' hk => skip
          try simp only [Act.put, List.setIfInBounds_toArray, List.set_cons_zero, List.set_cons_succ]
          apply rel_val (hrf := Tk_refl)
          case hw => rfl
          case hy => intro wS hN hF; skip; first | (go_simp; done) | (go_simp; with_reducible rfl)
          case' hk => skip
          try simp only [Act.put, List.setIfInBounds_toArray, List.set_cons_zero, List.set_cons_succ]
          apply rel_val (v := .bool false) (hrf := Tk_refl)
          case hw => rfl
          case hy =>
            intro wS hN hF
            go_simp
          case' hk => skip
          try simp only [Act.put, List.setIfInBounds_toArray, List.set_cons_zero, List.set_cons_succ]
          apply rel_val (v := .bool false) (hrf := Tk_refl)
          case hw => rfl
          case hy =>
            intro wS hN hF
            go_simp
          case' hk => skip
          try simp only [Act.put, List.setIfInBounds_toArray, List.set_cons_zero, List.set_cons_succ]
          refine rel_end ?_
          intro wS hO2 hF
          clear hF
          have hO7 := (HQ.out.drew).then hO2.only
          go_wp2_with fail
          exact ⟨⟨hO7, k + 1, by simp, by omega⟩, by simp [intOf]; omega⟩
    · obtain rfl : k = n := by omega
      have HFZ := Lib.hid (fun W (o : Only [] w W) => HFB.out W o 0 (-1) (find_zero HR.out))
      have HQ := Lib.hid (Q5.out.then hO)
      go_wp2_with (first
        | (go_at_call 33; with_reducible refine (HFZ.out _ HQ.out).mono ?_; rintro e w7 ⟨rfl, O7⟩)
        | (go_at_call 18; go_must (with_reducible refine (HKN.out _).mono ?_); rintro e w8 ⟨rfl, O8⟩))
      go_ret
      exact ⟨rfl, (HQ.out.then O7).then O8⟩
end Go.Proofs.Ythaodlegpjedoaa
