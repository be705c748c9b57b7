/-
  The law BoxOwn.
-/
import Derived.Test.YthaodlegpjedoaaVOwn0
import Derived.Test.YthaodlegpjedoaaVMarkL
import Derived.Test.YthaodlegpjedoaaVUids0
import Derived.Test.YthaodlegpjedoaaVKnown
import Derived.Test.YthaodlegpjedoaaVRefAdd0
namespace Go.Proofs.Ythaodlegpjedoaa
open Go.RowKit Go.Instr

theorem wraps_n {n : Nat} (h : n ≤ 140737488351232) : IntKind.i64.wrap ((n : Int) + 1) = (n : Int) + 1 ∧ IntKind.i64.wrap ((n : Int) + 1 - 1) = (n : Int) ∧ IntKind.i64.wrap (n : Int) = (n : Int) ∧ (n : Int) < (n : Int) + 1 :=
  ⟨IntWalk.i64_in _ (by omega), by rw [show (n : Int) + 1 - 1 = n by omega]; exact IntWalk.i64_in _ (by omega), IntWalk.i64_in _ (by omega), by omega⟩
theorem own_first {w : World} {t : TypeId} {A : Option Addr} {n c : Nat} {p : List UInt8} {y0 : UInt8} {pr : List UInt8} (h : Own w t A n c (bvs p)) (hp : p = y0 :: pr) : ∃ g, A = some ⟨g, 0, none⟩ ∧ w.cell? ⟨g, 0, none⟩ = some (.int .u8 (y0.toNat : Int)) ∧ ∃ cur, Bk w g t cur := by
  subst hp
  have hs := h.sl
  obtain ⟨ad, hA, hc⟩ := hs.2 (by have := hs.len; simp at this; omega)
  obtain ⟨g, rfl⟩ := h.addr hA
  refine ⟨g, hA, ?_, h.bk (by subst hA; simp)⟩
  have := hc 0 (bv y0) rfl
  rw [add_none, Nat.zero_add] at this
  exact this
set_option maxRecDepth 100000 in
set_option maxHeartbeats 8000000 in
theorem own_any {w : World} (b : Bx) {A : Option Addr} {c : Nat} (h : Ms AnyB w A b.l.length b.l) (hn : b.l.length ≤ 140737488351232) (hnm : b.name.length ≤ 140737488351232) (U : Option Addr) (nu cu : Nat) (us : List Int) (hU : Sl w U nu (ivs us)) (hnu : nu ≤ 140737488351232)
    (P : Option Addr) (m cp : Nat) (p : List UInt8) (hp : Sl w P m (bvs p)) (hm : m ≤ 140737488351232) :
    Calls Try.prog 8 #[bxv b A c, .slice U nu cu, .slice P m cp] w fun e w' => e = .returned (.bool true) ∧ Only [] w w' := by
  have cL := fun (W : World) (o : Only [] w W) => large_any b (c := c) (h.keep o) (by omega)
  have cI := fun (W : World) (o : Only [] w W) => refIs_any b (c := c) (h.keep o) (by omega) (by omega)
  obtain ⟨r, hr⟩ : ∃ r, isB b = r := ⟨_, rfl⟩
  rw [hr] at cI
  obtain ⟨s, v, x, l⟩ := b
  obtain ⟨n, hl⟩ : ∃ n, l.length = n := ⟨_, rfl⟩
  simp only at h hn hnm
  simp only [bxv_eq hl] at cL cI ⊢
  rw [hl] at h hn
  have hO0 : Only [] w (w.alloc (.cells #[.string (St s), .int .i64 v, .int .i64 x, .slice A n c] 26)) := (Only.refl _ _).alloc _
  have HCL := Lib.hid cL
  have HCI := Lib.hid cI
  have B0 := Lib.hid (Bk.new w 26 #[.string (St s), .int .i64 v, .int .i64 x, .slice A n c])
  have HKN := Lib.hid known_any
  by_cases hok : ¬ 60 < nu ∧ ¬ 1000 < m ∧ m ≠ 0 ∧ r = true
  rotate_left
  · have hg : (60 : Int) < (nu : Int) ∨ (¬ (60 : Int) < (nu : Int) ∧ (1000 : Int) < (m : Int)) ∨ (¬ (60 : Int) < (nu : Int) ∧ ¬ (1000 : Int) < (m : Int) ∧ ((m : Int) == 0) = true) ∨ (¬ (60 : Int) < (nu : Int) ∧ ¬ (1000 : Int) < (m : Int) ∧ ((m : Int) == 0) = false ∧ r = false) := by
      rw [beq_iff_eq, beq_eq_false_iff_ne]
      cases r
      · simp
        omega
      · simp at hok ⊢
        omega
    obtain ⟨t, ht⟩ : ∃ t, St s = t := ⟨_, rfl⟩
    rw [ht] at HCL HCI B0 hO0 ⊢
    clear cL cI h hU hp hl ht hnm hr hok
    go_enter Try.func8, Try.ntmps8
    go_wp2_with fail
    refine (HCL.out _ hO0).mono ?_
    rintro e w2 ⟨B, rfl, O2⟩
    obtain ⟨c0, c1, c2, c3⟩ := bk_four (B0.out.only O2 (by simp))
    cases B
    · rcases hg with h1 | ⟨h1, h2⟩ | ⟨h1, h2, h3⟩ | ⟨h1, h2, h3, rfl⟩
      · go_wp2
        go_ret
        exact ⟨rfl, hO0.then O2⟩
      · go_wp2
        go_ret
        exact ⟨rfl, hO0.then O2⟩
      · go_wp2
        go_ret
        exact ⟨rfl, hO0.then O2⟩
      · go_wp2_with (go_at_call 15; go_must (with_reducible refine (HCI.out _ (hO0.then O2)).mono ?_); rintro e w3 ⟨rfl, O3⟩)
        go_ret
        exact ⟨rfl, (hO0.then O2).then O3⟩
    · go_wp2
      go_ret
      exact ⟨rfl, hO0.then O2⟩
  obtain ⟨k1, k2, k3, rfl⟩ := hok
  have h1 : ¬ (60 : Int) < (nu : Int) := by omega
  have h2 : ¬ (1000 : Int) < (m : Int) := by omega
  have h3 : ((m : Int) == 0) = false := by rw [beq_eq_false_iff_ne]; omega
  obtain ⟨y0, pr, hpc⟩ : ∃ y0 pr, p = y0 :: pr := by
    have hl2 : p.length = m := by simpa using hp.len
    cases p with
    | nil => simp at hl2; omega
    | cons a r => exact ⟨a, r, rfl⟩
  have HPC := Lib.hid hpc
  clear hpc
  obtain ⟨x', l', hb⟩ : ∃ x' l', addB ⟨s, v, x, l⟩ 1 2 p = ⟨s, v, x', l'⟩ := by
    unfold addB
    split
    · exact ⟨_, _, rfl⟩
    · exact ⟨x, l, rfl⟩
  obtain ⟨n', hn'⟩ : ∃ n', l'.length = n' := ⟨_, rfl⟩
  obtain ⟨u, hu⟩ : ∃ u, addU ⟨s, v, x, l⟩ 1 2 p.length = u := ⟨_, rfl⟩
  obtain ⟨q, hq⟩ : ∃ q, addE ⟨s, v, x, l⟩ 1 2 p.length = q := ⟨_, rfl⟩
  obtain ⟨eb, heb⟩ : ∃ eb, encB ⟨s, v, x, l⟩ = eb := ⟨_, rfl⟩
  obtain ⟨ne, hne⟩ : ∃ ne, eb.length = ne := ⟨_, rfl⟩
  obtain ⟨lc, hlc⟩ : ∃ lc, stayL us l = lc := ⟨_, rfl⟩
  obtain ⟨gl, hgl⟩ : ∃ gl, goneL us l = gl := ⟨_, rfl⟩
  obtain ⟨lm, hlm⟩ : ∃ lm, l.map (markM us 0 31) = lm := ⟨_, rfl⟩
  obtain ⟨qm, hqm⟩ : ∃ qm, markN us 0 31 l = qm := ⟨_, rfl⟩
  have hB := hr
  rw [isB_iff] at hB
  obtain ⟨_, _, hB3, hB4, hB5⟩ := hB
  simp only at hB3 hB4 hB5
  rw [hl] at hB4
  have hby : ∀ m ∈ l, m.body.length ≤ 1000000 := fun m hm => by have := rises_at hB5 hm; omega
  have HQ0 : Hid (q = 0 → n' = n + 1 ∧ l' = l ++ [⟨x, 1, 2, p⟩]) := fun h0 => by
    rw [h0] at hq
    unfold addB at hb
    rw [if_pos hq] at hb
    injection hb with _ _ _ b4
    refine ⟨?_, b4.symm⟩
    rw [← hn', ← b4, List.length_append, hl]
    rfl
  have HPL : Hid (p.length = m) := by show _ = _; simpa using hp.len
  have HEN := Lib.hid (fun (W : World) (o : Only [] w W) => enc_as (c := c) hr hl (h.keep o) (by omega) (by omega) heb hne)
  have HAD := Lib.hid (fun (W : World) (S : Nat → Prop) (hS : ∀ y, W.heap.size ≤ y → S y) (hM : Ms S W A n l) (Pp : Option Addr) (cpp : Nat) (hp' : Sl W Pp m (bvs p)) => add_as (c := c) hr hl hM hS 1 2 Pp m cpp p hp' hb hn' hu hq)
  have HMK := Lib.hid (fun (W : World) (o : Only [] w W) => mark_as (S := AnyB) (s := s) (v := v) (x := x) (c := c) hl (h.keep o) (by omega) hby (fun _ _ => trivial) U nu cu us (hU.keep o) (by omega) 0 31 hlm hqm)
  have HEX := Lib.hid (fun (W : World) (o : Only [] w W) => exp_as (S := AnyB) (s := s) (v := v) (x := x) (c := c) hl (h.keep o) (by omega) hby (fun _ _ => trivial) U nu cu us (hU.keep o) (by omega) hlc hgl rfl rfl)
  have HS := Lib.hid h
  have HP := Lib.hid hp
  obtain ⟨i0, hi, hz0, hz1, hz2⟩ := info_parts infoByte
  obtain ⟨t, ht⟩ : ∃ t, St s = t := ⟨_, rfl⟩
  rw [ht] at HCL HCI B0 hO0 HEN HAD HMK HEX ⊢
  have HL := Lib.hid hl
  clear cL cI h hU hp ht hnm hr hl hb hn' hu hq heb hne hlc hgl hlm hqm hB3 hB4 hB5 hby
  go_enter Try.func8, Try.ntmps8
  go_wp2_with fail
  refine (HCL.out _ hO0).mono ?_
  rintro e w2 ⟨B, rfl, O2⟩
  obtain ⟨c0, c1, c2, c3⟩ := bk_four (B0.out.only O2 (by simp))
  cases B
  case true =>
    go_wp2
    go_ret
    exact ⟨rfl, hO0.then O2⟩
  by_cases h0 : q = 0
  rotate_left
  · have hq1 : (q != 0) = true := by simpa using h0
    go_wp2_with (first
      | (go_at_call 15; go_must (with_reducible refine (HCI.out _ (hO0.then O2)).mono ?_); rintro e w3 ⟨rfl, O3⟩; have Q3 := (hO0.then O2).then O3; obtain ⟨d0, d1, d2, d3⟩ := bk_four (B0.out.only (O2.then O3) (by simp)))
      | (go_at_call 21; with_reducible refine (HEN.out _ Q3).mono ?_; rintro e w4 ⟨A4, c4, rfl, V4, O4, F4⟩; have Q4 := Q3.then O4; obtain ⟨e0, e1, e2, e3⟩ := bk_four (B0.out.only ((O2.then O3).then O4) (by simp)))
      | (refine wpList_append_sl rfl _ _ 29 rfl 5 i0 (.int .u8 0) 1 Try.underlying29 hi hz0 hz1 hz2 rfl (some ⟨w4.heap.size, 0, none⟩) 0 0 [] rfl (own_empty w4 _) P m cp (bvs p) rfl (HP.out.keep (Q4.alloc _)) (bvs_one p) (by unfold maxLen; omega) (by omega) ?_; intro A5 c5 w5 V5 O5 F5; replace V5 : Own w5 5 A5 m c5 (bvs p) := (by simpa using V5); obtain ⟨g5, rfl, CL5, cur5, BK5⟩ := own_first V5 HPC.out; have R4 := (O2.then O3).then O4; have R5 := (R4.alloc (.cells #[] 5)).trans O5 (fun y hy => .inr (by simp at hy; subst hy; exact R4.size)); have G5q : w4.heap.size ≤ g5 := (by have := F5 g5 (by simp); simp at this; omega); have G5' : w.heap.size < g5 := (by have h4 := R4.size; simp at h4; have := F5 g5 (by simp); simp at this; omega); have Q5 := hO0.then R5; have G5 : ∀ y ∈ blks (some ⟨g5, 0, none⟩), w.heap.size ≤ y := (fun y hy => by have h4 := Q4.size; rcases F5 y hy with hh | hh; (simp at hh; omega); (simp at hh; omega)); have HM5 := Lib.hid ((HS.out.lt.keep Q5).mono (S' := fun y => y ∉ blks (some ⟨g5, 0, none⟩)) (fun y hy hh => by have := G5 y hh; have := hy.2; omega)); have HS5 := Lib.hid (show ∀ y, w5.heap.size ≤ y → ¬ y ∈ blks (some ⟨g5, 0, none⟩) from fun y hy hh => by have := V5.lt hh; omega); obtain ⟨f0, f1, f2, f3⟩ := bk_four (B0.out.only R5 (by simp)))
      | (go_at_call 31; go_must (with_reducible refine (HAD.out w5 (fun y => y ∉ blks (some ⟨g5, 0, none⟩)) HS5.out HM5.out (some ⟨g5, 0, none⟩) c5 V5.sl).mono ?_); rintro e w6 ⟨A6, c6, rfl, M6, O6⟩; have R6 := R5.then O6; have Q6 := hO0.then R6; have B6 := B0.out.only R6 (by simp); have hw6 := B6.lt; obtain ⟨g0, g1, g2, g3⟩ := bk_four B6)
      | (go_at_call 32; go_must (with_reducible refine (HMK.out _ (Q6.alloc _)).mono ?_); rintro e w7 ⟨A7, c7, rfl, M7, O7⟩; have R7 := (R6.alloc (.cells #[.string t, .int .i64 v, .int .i64 x', .slice A6 n' c6] 26)).then O7; have Q7 := hO0.then R7; have B7 := B0.out.only R7 (by simp); obtain ⟨h0, h1', h2', h3'⟩ := bk_four B7)
      | (go_at_call 28; go_must (with_reducible refine (HEX.out _ Q7).mono ?_); rintro e w8 ⟨A8, c8, Ag8, cg8, rfl, M8, S8, G8, O8⟩; have R8 := R7.then O8; have Q8 := hO0.then R8; have B8 := B0.out.only R8 (by simp); obtain ⟨l0, l1, l2, l3⟩ := bk_four B8; have T8 := ((O6.alloc (.cells #[.string t, .int .i64 v, .int .i64 x', .slice A6 n' c6] 26)).then O7).then O8; have CL8 := T8.cellSome CL5 (by simp); have FR8 := (BK5.only T8 (by simp)).free 0; have hg8 := (BK5.only T8 (by simp)).lt; have hgn : w.heap.size ≠ g5 := (by omega); have hgn2 : g5 ≠ w.heap.size := (by omega))
      | (go_at_call 21; with_reducible refine (HEN.out _ (Q8.setCell (p := ⟨g5, 0, none⟩) (.inr (Nat.le_of_lt G5')) _)).mono ?_; rintro e w10 ⟨A10, c10, rfl, V10, O10, F10⟩; have X8 : Only [] w4 w8 := (((Only.refl [] w4).alloc (.cells #[] 5)).trans O5 (fun y hy => .inr (by simp at hy; omega))).then T8; have hg54 : g5 ∉ blks A4 := (fun hh => by have := V4.lt hh; omega); have V4' := ((V4.keep X8).setFar (p := ⟨g5, 0, none⟩) hg54 _).keep O10; have cv1 := str_at V4'.sl c4; have cv2 := str_at V10.sl c10; have QX := (Q8.setCell (p := ⟨g5, 0, none⟩) (.inr (Nat.le_of_lt G5')) _).then O10; have hg56 : g5 < w6.heap.size := (BK5.only O6 (by simp)).lt; have BN := (((Bk.new w6 26 #[.string t, .int .i64 v, .int .i64 x', .slice A6 n' c6]).only O7 (by simp)).only O8 (by simp)).far (p := ⟨g5, 0, none⟩) (by simp; omega) _ |>.only O10 (by simp); have BX := (B8.far (p := ⟨g5, 0, none⟩) (by simp; omega) _).only O10 (by simp); have MSX := (((M6.keep ((Only.refl [] w6).alloc (.cells #[.string t, .int .i64 v, .int .i64 x', .slice A6 n' c6] 26))).keep O7).keep O8).only (rs := [g5]) ((Only.refl _ _).setCell (p := ⟨g5, 0, none⟩) (.inl (by simp)) _) (fun y hy hh => absurd (show y ∈ blks (some ⟨g5, 0, none⟩) by simpa using hh) hy) |>.keep O10; generalize St eb = te at cv1 cv2; have HQX := Lib.hid QX; obtain ⟨b0, b1, b2, b3⟩ := bk_four BX; obtain ⟨a0, a1, a2, a3⟩ := bk_four BN)
      | (go_at_call 18; go_must (with_reducible refine (HKN.out _).mono ?_); rintro e w11 ⟨rfl, O11⟩))
    go_ret
    exact ⟨rfl, HQX.out.then O11⟩
  have HN1 := Lib.hid (HQ0.out h0)
  clear HQ0
  subst h0
  go_wp2_with (first
    | (go_at_call 15; go_must (with_reducible refine (HCI.out _ (hO0.then O2)).mono ?_); rintro e w3 ⟨rfl, O3⟩; have Q3 := (hO0.then O2).then O3; obtain ⟨d0, d1, d2, d3⟩ := bk_four (B0.out.only (O2.then O3) (by simp)))
    | (go_at_call 21; with_reducible refine (HEN.out _ Q3).mono ?_; rintro e w4 ⟨A4, c4, rfl, V4, O4, F4⟩; have Q4 := Q3.then O4; obtain ⟨e0, e1, e2, e3⟩ := bk_four (B0.out.only ((O2.then O3).then O4) (by simp)))
    | (refine wpList_append_sl rfl _ _ 29 rfl 5 i0 (.int .u8 0) 1 Try.underlying29 hi hz0 hz1 hz2 rfl (some ⟨w4.heap.size, 0, none⟩) 0 0 [] rfl (own_empty w4 _) P m cp (bvs p) rfl (HP.out.keep (Q4.alloc _)) (bvs_one p) (by unfold maxLen; omega) (by omega) ?_; intro A5 c5 w5 V5 O5 F5; replace V5 : Own w5 5 A5 m c5 (bvs p) := (by simpa using V5); obtain ⟨g5, rfl, CL5, cur5, BK5⟩ := own_first V5 HPC.out; have R4 := (O2.then O3).then O4; have R5 := (R4.alloc (.cells #[] 5)).trans O5 (fun y hy => .inr (by simp at hy; subst hy; exact R4.size)); have G5q : w4.heap.size ≤ g5 := (by have := F5 g5 (by simp); simp at this; omega); have G5' : w.heap.size < g5 := (by have h4 := R4.size; simp at h4; have := F5 g5 (by simp); simp at this; omega); have Q5 := hO0.then R5; have G5 : ∀ y ∈ blks (some ⟨g5, 0, none⟩), w.heap.size ≤ y := (fun y hy => by have h4 := Q4.size; rcases F5 y hy with hh | hh; (simp at hh; omega); (simp at hh; omega)); have HM5 := Lib.hid ((HS.out.lt.keep Q5).mono (S' := fun y => y ∉ blks (some ⟨g5, 0, none⟩)) (fun y hy hh => by have := G5 y hh; have := hy.2; omega)); have HS5 := Lib.hid (show ∀ y, w5.heap.size ≤ y → ¬ y ∈ blks (some ⟨g5, 0, none⟩) from fun y hy hh => by have := V5.lt hh; omega); obtain ⟨f0, f1, f2, f3⟩ := bk_four (B0.out.only R5 (by simp)))
    | (go_at_call 31; go_must (with_reducible refine (HAD.out w5 (fun y => y ∉ blks (some ⟨g5, 0, none⟩)) HS5.out HM5.out (some ⟨g5, 0, none⟩) c5 V5.sl).mono ?_); rintro e w6 ⟨A6, c6, rfl, M6, O6⟩; have R6 := R5.then O6; have Q6 := hO0.then R6; have B6 := B0.out.only R6 (by simp); have hw6 := B6.lt; obtain ⟨g0, g1, g2, g3⟩ := bk_four B6)
    | (go_at_call 32; go_must (with_reducible refine (HMK.out _ (Q6.alloc _)).mono ?_); rintro e w7 ⟨A7, c7, rfl, M7, O7⟩; have R7 := (R6.alloc (.cells #[.string t, .int .i64 v, .int .i64 x', .slice A6 n' c6] 26)).then O7; have Q7 := hO0.then R7; have B7 := B0.out.only R7 (by simp); obtain ⟨h0, h1', h2', h3'⟩ := bk_four B7)
    | (go_at_call 28; go_must (with_reducible refine (HEX.out _ Q7).mono ?_); rintro e w8 ⟨A8, c8, Ag8, cg8, rfl, M8, S8, G8, O8⟩; have R8 := R7.then O8; have Q8 := hO0.then R8; have B8 := B0.out.only R8 (by simp); obtain ⟨l0, l1, l2, l3⟩ := bk_four B8; have T8 := ((O6.alloc (.cells #[.string t, .int .i64 v, .int .i64 x', .slice A6 n' c6] 26)).then O7).then O8; have CL8 := T8.cellSome CL5 (by simp); have FR8 := (BK5.only T8 (by simp)).free 0; have hg8 := (BK5.only T8 (by simp)).lt; have hgn : w.heap.size ≠ g5 := (by omega); have hgn2 : g5 ≠ w.heap.size := (by omega))
    | (go_at_call 21; with_reducible refine (HEN.out _ (Q8.setCell (p := ⟨g5, 0, none⟩) (.inr (Nat.le_of_lt G5')) _)).mono ?_; rintro e w10 ⟨A10, c10, rfl, V10, O10, F10⟩; have X8 : Only [] w4 w8 := (((Only.refl [] w4).alloc (.cells #[] 5)).trans O5 (fun y hy => .inr (by simp at hy; omega))).then T8; have hg54 : g5 ∉ blks A4 := (fun hh => by have := V4.lt hh; omega); have V4' := ((V4.keep X8).setFar (p := ⟨g5, 0, none⟩) hg54 _).keep O10; have cv1 := str_at V4'.sl c4; have cv2 := str_at V10.sl c10; have QX := (Q8.setCell (p := ⟨g5, 0, none⟩) (.inr (Nat.le_of_lt G5')) _).then O10; have hg56 : g5 < w6.heap.size := (BK5.only O6 (by simp)).lt; have BN := (((Bk.new w6 26 #[.string t, .int .i64 v, .int .i64 x', .slice A6 n' c6]).only O7 (by simp)).only O8 (by simp)).far (p := ⟨g5, 0, none⟩) (by simp; omega) _ |>.only O10 (by simp); have BX := (B8.far (p := ⟨g5, 0, none⟩) (by simp; omega) _).only O10 (by simp); have MSX := (((M6.keep ((Only.refl [] w6).alloc (.cells #[.string t, .int .i64 v, .int .i64 x', .slice A6 n' c6] 26))).keep O7).keep O8).only (rs := [g5]) ((Only.refl _ _).setCell (p := ⟨g5, 0, none⟩) (.inl (by simp)) _) (fun y hy hh => absurd (show y ∈ blks (some ⟨g5, 0, none⟩) by simpa using hh) hy) |>.keep O10; generalize St eb = te at cv1 cv2; have HQX := Lib.hid QX; obtain ⟨b0, b1, b2, b3⟩ := bk_four BX; obtain ⟨a0, a1, a2, a3⟩ := bk_four BN))
  obtain ⟨rfl, rfl⟩ := HN1.out
  have hnl : n < (l ++ [(⟨x, 1, 2, p⟩ : Mg)]).length := by rw [List.length_append, HL.out]; simp
  obtain ⟨ad6, Ab, cb, rfl, _, hmm⟩ := MSX.at_ (show n < n + 1 by omega) hnl
  have hlast : (l ++ [(⟨x, 1, 2, p⟩ : Mg)])[n] = ⟨x, 1, 2, p⟩ := by
    rw [List.getElem_append_right (by rw [HL.out]; exact Nat.le_refl _)]
    simp [HL.out]
  rw [hlast] at hmm
  have z3 := hmm.c3
  have zs := hmm.sl
  simp only at z3 zs
  rw [HPL.out] at z3 zs
  have HZS := Lib.hid zs
  have HPX := Lib.hid (HP.out.keep HQX.out)
  have HSTP := Lib.hid (show ∃ tp, St p = tp from ⟨_, rfl⟩)
  obtain ⟨tp, htp⟩ := HSTP.out
  have HTP := Lib.hid htp
  obtain ⟨hw1, hw2, hw3, hw4⟩ := wraps_n hn
  clear htp hmm zs hlast hnl MSX BX BN
  apply region_only (by kernel_rfl) (by kernel_rfl)
  apply rel_val (hrf := Tk_refl)
  case hw => rfl
  case hy => intro wS hN hF; skip; first | (go_simp; done) | (go_simp; with_reducible rfl)
  case' hk => skip
  try simp only [Act.put, List.setIfInBounds_toArray, List.set_cons_zero, List.set_cons_succ]
  apply rel_val (hrf := Tk_refl)
  case hw => rfl
  case hy => intro wS hN hF; have hO := hN.pre (by kernel_rfl); have q0 := hO.cellSome a3 (by simp); first | (go_simp; done) | (go_simp; with_reducible rfl)
  case' hk => skip
  try simp only [Act.put, List.setIfInBounds_toArray, List.set_cons_zero, List.set_cons_succ]
  apply rel_val (hrf := Tk_refl)
  case hw => rfl
  case hy => intro wS hN hF; skip; first | (go_simp; done) | (go_simp; with_reducible rfl)
  case' hk => skip
  try simp only [Act.put, List.setIfInBounds_toArray, List.set_cons_zero, List.set_cons_succ]
  apply rel_val (hrf := Tk_refl)
  case hw => rfl
  case hy => intro wS hN hF; skip; first | (go_simp; done) | (go_simp; with_reducible rfl)
  case' hk => skip
  try simp only [Act.put, List.setIfInBounds_toArray, List.set_cons_zero, List.set_cons_succ]
  apply rel_val (hrf := Tk_refl)
  case hw => rfl
  case hy => intro wS hN hF; have hO := hN.pre (by kernel_rfl); have q0 := hO.cellSome b3 (by simp); first | (go_simp; done) | (go_simp; with_reducible rfl)
  case' hk => skip
  try simp only [Act.put, List.setIfInBounds_toArray, List.set_cons_zero, List.set_cons_succ]
  apply rel_val (hrf := Tk_refl)
  case hw => rfl
  case hy => intro wS hN hF; skip; first | (go_simp; done) | (go_simp; with_reducible rfl)
  case' hk => skip
  try simp only [Act.put, List.setIfInBounds_toArray, List.set_cons_zero, List.set_cons_succ]
  apply rel_val (hrf := Tk_refl)
  case hw => rfl
  case hy => intro wS hN hF; skip; first | (go_simp; done) | (go_simp; with_reducible rfl)
  case' hk => skip
  try simp only [Act.put, List.setIfInBounds_toArray, List.set_cons_zero, List.set_cons_succ]
  apply rel_val (v := .bool true) (hrf := Tk_refl)
  case hw => rfl
  case hy =>
    intro wS hN hF
    go_simp
  case' hk => skip
  try simp only [Act.put, List.setIfInBounds_toArray, List.set_cons_zero, List.set_cons_succ]
  apply rel_val (hrf := Tk_refl)
  case hw => rfl
  case hy => intro wS hN hF; skip; first | (go_simp; done) | (go_simp; with_reducible rfl)
  case' hk => skip
  try simp only [Act.put, List.setIfInBounds_toArray, List.set_cons_zero, List.set_cons_succ]
  apply rel_val (hrf := Tk_refl)
  case hw => rfl
  case hy => intro wS hN hF; skip; first | (go_simp; done) | (go_simp; with_reducible rfl)
  case' hk => skip
  try simp only [Act.put, List.setIfInBounds_toArray, List.set_cons_zero, List.set_cons_succ]
  apply rel_val (hrf := Tk_refl)
  case hw => rfl
  case hy => intro wS hN hF; have hO := hN.pre (by kernel_rfl); have q0 := hO.cellSome a3 (by simp); first | (go_simp; done) | (go_simp; with_reducible rfl)
  case' hk => skip
  try simp only [Act.put, List.setIfInBounds_toArray, List.set_cons_zero, List.set_cons_succ]
  apply rel_val (hrf := Tk_refl)
  case hw => rfl
  case hy => intro wS hN hF; skip; first | (go_simp; done) | (go_simp; with_reducible rfl)
  case' hk => skip
  try simp only [Act.put, List.setIfInBounds_toArray, List.set_cons_zero, List.set_cons_succ]
  apply rel_val (hrf := Tk_refl)
  case hw => rfl
  case hy => intro wS hN hF; have hO := hN.pre (by kernel_rfl); have q0 := hO.cellSome a3 (by simp); first | (go_simp; done) | (go_simp; with_reducible rfl)
  case' hk => skip
  try simp only [Act.put, List.setIfInBounds_toArray, List.set_cons_zero, List.set_cons_succ]
  apply rel_val (hrf := Tk_refl)
  case hw => rfl
  case hy => intro wS hN hF; skip; first | (go_simp; done) | (go_simp; with_reducible rfl)
  case' hk => skip
  try simp only [Act.put, List.setIfInBounds_toArray, List.set_cons_zero, List.set_cons_succ]
  apply rel_val (hrf := Tk_refl)
  case hw => rfl
  case hy => intro wS hN hF; skip; first | (go_simp; done) | (go_simp; with_reducible rfl)
  case' hk => skip
  try simp only [Act.put, List.setIfInBounds_toArray, List.set_cons_zero, List.set_cons_succ]
  apply rel_val (hrf := Tk_refl)
  case hw => rfl
  case hy => intro wS hN hF; skip; first | (go_simp; done) | (go_simp; with_reducible rfl)
  case' hk => skip
  try simp only [Act.put, List.setIfInBounds_toArray, List.set_cons_zero, List.set_cons_succ]
  apply rel_val (hrf := Tk_refl)
  case hw => rfl
  case hy => intro wS hN hF; skip; first | (go_simp; done) | (go_simp; with_reducible rfl)
  case' hk => skip
  try simp only [Act.put, List.setIfInBounds_toArray, List.set_cons_zero, List.set_cons_succ]
  apply rel_val (hrf := Tk_refl)
  case hw => rfl
  case hy => intro wS hN hF; have hO := hN.pre (by kernel_rfl); have q0 := hO.cellSome z3 (by simp); first | (go_simp; done) | (go_simp; with_reducible rfl)
  case' hk => skip
  try simp only [Act.put, List.setIfInBounds_toArray, List.set_cons_zero, List.set_cons_succ]
  apply rel_val (v := .string tp) (hrf := Tk_refl)
  case hw => rfl
  case hy =>
    intro wS hN hF
    have hO := hN.pre (by kernel_rfl)
    have hcv := run_str_sl (P := Try.prog) 29 9 5 Ab m cb p Try.underlying29 Try.underlying5 Try.underlying9 (HZS.out.keep ((Only.refl [] _).drew.then hO))
    rw [HTP.out] at hcv
    go_simp
  case' hk => skip
  try simp only [Act.put, List.setIfInBounds_toArray, List.set_cons_zero, List.set_cons_succ]
  apply rel_val (hrf := Tk_refl)
  case hw => rfl
  case hy => intro wS hN hF; skip; first | (go_simp; done) | (go_simp; with_reducible rfl)
  case' hk => skip
  try simp only [Act.put, List.setIfInBounds_toArray, List.set_cons_zero, List.set_cons_succ]
  apply rel_val (v := .string tp) (hrf := Tk_refl)
  case hw => rfl
  case hy =>
    intro wS hN hF
    have hO := hN.pre (by kernel_rfl)
    have hcv := run_str_sl (P := Try.prog) 29 9 5 P m cp p Try.underlying29 Try.underlying5 Try.underlying9 (HPX.out.keep ((Only.refl [] _).drew.then hO))
    rw [HTP.out] at hcv
    go_simp
  case' hk => skip
  try simp only [Act.put, List.setIfInBounds_toArray, List.set_cons_zero, List.set_cons_succ]
  apply rel_val (v := .bool true) (hrf := Tk_refl)
  case hw => rfl
  case hy =>
    intro wS hN hF
    go_simp
  case' hk => skip
  try simp only [Act.put, List.setIfInBounds_toArray, List.set_cons_zero, List.set_cons_succ]
  apply rel_val (v := .bool true) (hrf := Tk_refl)
  case hw => rfl
  case hy =>
    intro wS hN hF
    go_simp
  case' hk => skip
  try simp only [Act.put, List.setIfInBounds_toArray, List.set_cons_zero, List.set_cons_succ]
  apply rel_val (hrf := Tk_refl)
  case hw => rfl
  case hy => intro wS hN hF; skip; first | (go_simp; done) | (go_simp; with_reducible rfl)
  case' hk => skip
  try simp only [Act.put, List.setIfInBounds_toArray, List.set_cons_zero, List.set_cons_succ]
  apply rel_call (v := .bool true) (f := 18) (args := #[])
  case hw => rfl
  case hy => intro wS hN hF; go_simp
  case hc => intro wS hN hF; exact call_only (HKN.out wS)
  case' hk => skip
  try simp only [Act.put, List.setIfInBounds_toArray, List.set_cons_zero, List.set_cons_succ]
  apply rel_val (v := .bool true) (hrf := Tk_refl)
  case hw => rfl
  case hy =>
    intro wS hN hF
    go_simp
  case' hk => skip
  try simp only [Act.put, List.setIfInBounds_toArray, List.set_cons_zero, List.set_cons_succ]
  apply rel_val (v := .bool true) (hrf := Tk_refl)
  case hw => rfl
  case hy =>
    intro wS hN hF
    go_simp
  case' hk => skip
  try simp only [Act.put, List.setIfInBounds_toArray, List.set_cons_zero, List.set_cons_succ]
  refine rel_end ?_
  intro wS hO2 hF
  clear hF
  go_wp2
  go_ret
  exact ⟨rfl, (HQX.out.drew).then hO2.only⟩
end Go.Proofs.Ythaodlegpjedoaa
