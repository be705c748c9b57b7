/-
  The law BoxPlays.
-/
import Derived.Test.YthaodlegpjedoaaVPlay
import Derived.Test.YthaodlegpjedoaaVKnown
import Derived.Test.YthaodlegpjedoaaVIs4
import Derived.Test.YthaodlegpjedoaaVSame
namespace Go.Proofs.Ythaodlegpjedoaa
open Go.RowKit Go.Instr

theorem same_two {S S' : Nat → Prop} {w : World} {b : Bx} {c1 c2 : Nat} {A1 A2 : Option Addr} (h1 : Ms S w A1 b.l.length b.l) (h2 : Ms S' w A2 b.l.length b.l) (hn : b.l.length ≤ 140737488355328) :
    Calls Try.prog 17 #[bxv b A1 c1, bxv b A2 c2] w fun e w' => e = .returned (.bool true) ∧ Only [] w w' := by
  have hh := refSame_any (w := w) b b (A1 := A1) (A2 := A2) (e1 := c1) (e2 := c2) h1 h2 hn hn
  have e : sameB b b = true := by unfold sameB; simp
  rw [e] at hh
  exact hh
/-- What an act leaves: few messages, none too long. -/
def SmallB (b : Bx) : Prop := b.l.length ≤ 24 ∧ (∀ m ∈ b.l, m.body.length ≤ 1000000) ∧ 0 ≤ b.next
theorem addE_zero {b : Bx} {f d : Int} {n : Nat} (h : addE b f d n = 0) : n ≤ 1200 ∧ b.l.length < 24 := by
  unfold addE at h
  split at h
  · cases h
  · split at h
    · cases h
    · split at h
      · cases h
      · omega
theorem stepB_small {b : Bx} (h : SmallB b) (kd f d md : Int) (us : List Int) (y : List UInt8) : SmallB (stepB b kd f d md us y) := by
  obtain ⟨h1, h2, h3⟩ := h
  unfold stepB
  split
  · unfold addB
    split
    · rename_i hq
      obtain ⟨q1, q2⟩ := addE_zero hq
      refine ⟨by simp; omega, fun m hm => ?_, by show 0 ≤ b.next + 1; omega⟩
      rcases List.mem_append.1 hm with hm | hm
      · exact h2 m hm
      · simp at hm
        subst hm
        show y.length ≤ _
        omega
    · exact ⟨h1, h2, h3⟩
  · split
    · refine ⟨by show (b.l.map _).length ≤ 24; rw [List.length_map]; exact h1, fun m hm => ?_, h3⟩
      obtain ⟨m', hm', rfl⟩ := List.mem_map.1 hm
      have : (markM us md f m').body = m'.body := by unfold markM; split <;> rfl
      rw [this]
      exact h2 m' hm'
    · split
      · exact ⟨Nat.le_trans (List.length_filter_le _ _) h1, fun m hm => h2 m (List.mem_filter.1 hm).1, h3⟩
      · exact ⟨h1, h2, h3⟩
theorem stepB_form (s : List UInt8) (v x : Int) (l : List Mg) (kd f d md : Int) (us : List Int) (y : List UInt8) : ∃ x' l', stepB ⟨s, v, x, l⟩ kd f d md us y = ⟨s, v, x', l'⟩ := by
  unfold stepB
  split
  · unfold addB
    split
    · exact ⟨_, _, rfl⟩
    · exact ⟨_, _, rfl⟩
  · split
    · exact ⟨_, _, rfl⟩
    · split
      · exact ⟨_, _, rfl⟩
      · exact ⟨_, _, rfl⟩
/-- The loop's relation: both mailboxes are one. -/
def PlR (w : World) (gb gx : Nat) (s : List UInt8) (v : Int) (wr : World) : Prop :=
  ∃ (x : Int) (l : List Mg) (A A' : Option Addr) (c c' : Nat), Bk wr gb 26 (bxc ⟨s, v, x, l⟩ A c) ∧ Bk wr gx 26 (bxc ⟨s, v, x, l⟩ A' c') ∧ Ms (fun y => y ≠ gb ∧ y ≠ gx) wr A l.length l ∧ Ms (fun y => y ≠ gb ∧ y ≠ gx) wr A' l.length l ∧ SmallB ⟨s, v, x, l⟩ ∧ Only [] w wr
theorem PlR.keep {w wr W : World} {gb gx : Nat} {s : List UInt8} {v : Int} (h : PlR w gb gx s v wr) (o : Only [] wr W) : PlR w gb gx s v W := by
  obtain ⟨x, l, A, A', c, c', h1, h2, h3, h4, h5, h6⟩ := h
  exact ⟨x, l, A, A', c, c', h1.only o (by simp), h2.only o (by simp), h3.keep o, h4.keep o, h5, h6.then o⟩
set_option maxRecDepth 100000 in
set_option maxHeartbeats 16000000 in
theorem plays_any {w : World} (tn : ByteArray) (htn : tn.size ≤ 140737488351232) (v : Int) (T : Option Addr) (nt ct : Nat) (ts : List VAc) (h : VActs w T nt ts) (hn : nt ≤ 140737488351232) (hs : ∀ a ∈ ts, a.uids.length ≤ 140737488351232 ∧ a.body.length ≤ 140737488351232) :
    Calls Try.prog 3 #[.string tn, .int .i64 v, .slice T nt ct] w fun e w' => e = .returned (.bool true) ∧ Only [] w w' := by
  obtain ⟨s, hsn⟩ : ∃ s, St s = tn := ⟨tn.data.toList, by cases tn; simp [St]⟩
  have hsz : s.length = tn.size := by rw [← hsn, St_size]
  have HLG := Lib.hid (long_any (c := ct) h (by omega) hs)
  have HH := Lib.hid h
  have HTL : Hid (ts.length = nt) := h.1
  have HKN := Lib.hid known_any
  have HTS := Lib.hid hs
  have HN1 := Lib.hid (fun (W : World) => New_any s v W)
  have HN2 := Lib.hid (fun (W : World) => refNew_any s v W)
  have hbx : bxv (newB s v) none 0 = .agg #[.string tn, .int .i64 v, .int .i64 1, .slice none 0 0] := by unfold newB; rw [bxv_eq rfl, hsn]; rfl
  rw [hbx, hsn] at HN1 HN2
  have HST := Lib.hid hsn
  obtain ⟨nn, hnn⟩ : ∃ k, tn.size = k := ⟨_, rfl⟩
  have HSL : Hid (s.length ≤ 140737488355328) := by show _ ≤ _; omega
  clear h hs hsn hsz hbx htn
  go_enter Try.func3, Try.ntmps3
  go_wp2_with fail
  refine HLG.out.mono ?_
  rintro e w1 ⟨b, rfl, O1, HSH⟩
  cases b
  case true =>
    go_wp2
    go_ret
    exact ⟨rfl, O1⟩
  by_cases h60n : (60 : Int) < (nn : Int)
  · go_wp2
    go_ret
    exact ⟨rfl, O1⟩
  clear HLG
  go_wp2_with (first
    | (go_at_call 13; go_must (refine (HN1.out _).mono ?_); rintro e w2 ⟨rfl, O2⟩)
    | (go_at_call 14; go_must (refine (HN2.out _).mono ?_); rintro e w3 ⟨rfl, O3⟩))
  have hB1 := (Bk.new w3 26 #[.string tn, .int .i64 v, .int .i64 1, .slice none 0 0]).alloc (.cells #[.string tn, .int .i64 v, .int .i64 1, .slice none 0 0] 26)
  have hB2 := Bk.new (w3.alloc (.cells #[.string tn, .int .i64 v, .int .i64 1, .slice none 0 0] 26)) 26 #[.string tn, .int .i64 v, .int .i64 1, .slice none 0 0]
  rw [World.size_alloc] at hB2
  have H0 : Hid (PlR w w3.heap.size (w3.heap.size + 1) s v ((w3.alloc (.cells #[.string tn, .int .i64 v, .int .i64 1, .slice none 0 0] 26)).alloc (.cells #[.string tn, .int .i64 v, .int .i64 1, .slice none 0 0] 26))) :=
    ⟨1, [], none, none, 0, 0, by rw [bxc_eq rfl, HST.out]; exact hB1, by rw [bxc_eq rfl, HST.out]; exact hB2, Ms.nil _ _ _, Ms.nil _ _ _, ⟨by simp, by simp, by simp⟩, (((O1.then O2).then O3).alloc _).alloc _⟩
  have hlow : w.heap.size ≤ w3.heap.size := ((O1.then O2).then O3).size
  have hlow2 : w.heap.size ≤ w3.heap.size + 1 := by omega
  have hne : w3.heap.size ≠ w3.heap.size + 1 := by omega
  clear O1 O2 O3 hB1 hB2 HN1 HN2
  generalize (w3.alloc (.cells #[.string tn, .int .i64 v, .int .i64 1, .slice none 0 0] 26)).alloc (.cells #[.string tn, .int .i64 v, .int .i64 1, .slice none 0 0] 26) = w4 at *
  generalize w3.heap.size + 1 = gx at *
  generalize w3.heap.size = gb at *
  go_loopw [9] (fun iv wr => ∃ k : Nat, iv = .int .i64 (k : Int) ∧ k ≤ nt ∧ Hid (PlR w gb gx s v wr)) (fun iv _ => nt - (intOf iv).toNat)
  case atStart => exact ⟨0, rfl, Nat.zero_le _, H0.out⟩
  case round =>
    obtain ⟨k, rfl, hk, HR⟩ := hrel
    obtain ⟨x, l, A, A', c, c', B1, B2, M1, M2, hsml, O⟩ := HR.out
    have HO := Lib.hid O
    by_cases hlt : k < nt
    rotate_left
    · obtain rfl : k = nt := by omega
      clear HR B1 B2 M1 M2 O hsml
      go_wp2_with (go_at_call 18; go_must (with_reducible refine (HKN.out _).mono ?_); rintro e w9 ⟨rfl, O9⟩)
      go_ret
      exact ⟨rfl, HO.out.then O9⟩
    have hlt' : (k : Int) < (nt : Int) := by omega
    by_cases h60 : k < 60
    rotate_left
    · have h60' : ¬ (k : Int) < 60 := by omega
      clear HR B1 B2 M1 M2 O hsml
      go_wp2_with (go_at_call 18; go_must (with_reducible refine (HKN.out _).mono ?_); rintro e w9 ⟨rfl, O9⟩)
      go_ret
      exact ⟨rfl, HO.out.then O9⟩
    have h60' : (k : Int) < 60 := by omega
    have hkl : k < ts.length := by rw [HTL.out]; exact hlt
    obtain ⟨ad, Au, cu, Ab, cb, rfl, hm⟩ := (HH.out.keep O).at_ hlt hkl
    have hsh := HTS.out ts[k] (List.getElem_mem hkl)
    generalize ts[k] = a at hm hsh
    obtain ⟨kd, f, d, md, us, y⟩ := a
    obtain ⟨m0, m1, m2, m3, m4, m5, su, sb⟩ := hm
    simp only at m0 m1 m2 m3 m4 m5 su sb hsh
    generalize us.length = nu at m4 su hsh
    generalize y.length = nb at m5 sb hsh
    obtain ⟨n, hl⟩ : ∃ n, l.length = n := ⟨_, rfl⟩
    have hn24 : n ≤ 24 := by rw [← hl]; exact hsml.1
    rw [bxc_eq hl] at B1 B2
    rw [hl] at M1 M2
    obtain ⟨x', l', hst⟩ := stepB_form s v x l kd f d md us y
    have hsm2 : SmallB ⟨s, v, x', l'⟩ := by rw [← hst]; exact stepB_small hsml kd f d md us y
    obtain ⟨n', hl'⟩ : ∃ n', l'.length = n' := ⟨_, rfl⟩
    have hn24' : n' ≤ 24 := by rw [← hl']; exact hsm2.1
    have HAC := Lib.hid (fun (W : World) (o : Only [] wr W) => by
      have hh := act_any (w := W) (B1.only o (by simp)) (B2.only o (by simp)) hne hl (M1.keep o) (M2.keep o) hn24 hsml.2.1 hsml.2.2 kd f d md Au nu cu us (su.keep o) hsh.1 Ab nb cb y (sb.keep o) hsh.2
      rw [hst] at hh
      exact hh)
    have HIS := Lib.hid (by
      have hh := refIs_any (w := wr) ⟨s, v, x, l⟩ (A := A') (c := c') (S := fun y => y ≠ gb ∧ y ≠ gx) (by show Ms _ wr A' l.length l; rw [hl]; exact M2) (by show l.length ≤ _; omega) HSL.out
      rw [bxv_eq hl, HST.out] at hh
      exact hh)
    obtain ⟨ib, hib⟩ : ∃ b, isB ⟨s, v, x, l⟩ = b := ⟨_, rfl⟩
    rw [hib] at HIS
    have HCE : Hid (∀ (A2 : Option Addr) (c2 : Nat), bxc ⟨s, v, x', l'⟩ A2 c2 = #[.string tn, .int .i64 v, .int .i64 x', .slice A2 n' c2]) := fun A2 c2 => by rw [bxc_eq hl', HST.out]
    have HSM := Lib.hid (fun (W : World) (A2 : Option Addr) (c2 : Nat) (A3 : Option Addr) (c3 : Nat) (q1 : Ms (fun y => y ≠ gb ∧ y ≠ gx) W A2 l'.length l') (q2 : Ms (fun y => y ≠ gb ∧ y ≠ gx) W A3 l'.length l') => by
      have hh := same_two (w := W) (b := ⟨s, v, x', l'⟩) (c1 := c2) (c2 := c3) q1 q2 (by show l'.length ≤ _; omega)
      rw [bxv_eq hl', bxv_eq hl', HST.out] at hh
      exact hh)
    have HNX := Lib.hid (fun (W0 W : World) (A2 : Option Addr) (c2 : Nat) (A3 : Option Addr) (c3 : Nat) (q1 : Bk W gb 26 (bxc ⟨s, v, x', l'⟩ A2 c2)) (q2 : Bk W gx 26 (bxc ⟨s, v, x', l'⟩ A3 c3)) (q3 : Ms (fun y => y ≠ gb ∧ y ≠ gx) W A2 l'.length l') (q4 : Ms (fun y => y ≠ gb ∧ y ≠ gx) W A3 l'.length l') (o : Only [] wr W0) (o2 : Only [gb, gx] W0 W) =>
      (show PlR w gb gx s v W from ⟨x', l', A2, A3, c2, c3, q1, q2, q3, q4, hsm2, (HO.out.then o).trans o2 (fun y hy => .inr (by simp at hy; rcases hy with rfl | rfl <;> omega))⟩))
    have HMM : Hid (nt - (intOf (.int .i64 ((k : Int) + 1))).toNat < nt - (intOf (.int .i64 (k : Int))).toNat) := by
      show _ < _
      simp [intOf]
      omega
    rw [HST.out] at B1 B2
    obtain ⟨k0, k1, k2, k3⟩ := bk_four B1
    obtain ⟨j0, j1, j2, j3⟩ := bk_four B2
    clear HR B1 B2 M1 M2 O hsml hl hl' hst hsm2 hib su sb hkl hsh
    by_cases hk2 : kd = 2
    · subst hk2
      cases ib
      · go_wp2_with (first
          | (go_at_call 15; go_must (refine HIS.out.mono ?_); rintro e w6 ⟨rfl, O6⟩; replace k0 := O6.cellSome k0 (by simp); replace k1 := O6.cellSome k1 (by simp); replace k2 := O6.cellSome k2 (by simp); replace k3 := O6.cellSome k3 (by simp); replace j0 := O6.cellSome j0 (by simp); replace j1 := O6.cellSome j1 (by simp); replace j2 := O6.cellSome j2 (by simp); replace j3 := O6.cellSome j3 (by simp); replace m0 := O6.cellSome m0 (by simp); replace m1 := O6.cellSome m1 (by simp); replace m2 := O6.cellSome m2 (by simp); replace m3 := O6.cellSome m3 (by simp); replace m4 := O6.cellSome m4 (by simp); replace m5 := O6.cellSome m5 (by simp))
          | (go_at_call 18; go_must (with_reducible refine (HKN.out _).mono ?_); rintro e w9 ⟨rfl, O9⟩))
        go_ret
        exact ⟨rfl, (HO.out.then O6).then O9⟩
      · go_wp2_with (first
          | (go_at_call 15; go_must (refine HIS.out.mono ?_); rintro e w6 ⟨rfl, O6⟩; replace k0 := O6.cellSome k0 (by simp); replace k1 := O6.cellSome k1 (by simp); replace k2 := O6.cellSome k2 (by simp); replace k3 := O6.cellSome k3 (by simp); replace j0 := O6.cellSome j0 (by simp); replace j1 := O6.cellSome j1 (by simp); replace j2 := O6.cellSome j2 (by simp); replace j3 := O6.cellSome j3 (by simp); replace m0 := O6.cellSome m0 (by simp); replace m1 := O6.cellSome m1 (by simp); replace m2 := O6.cellSome m2 (by simp); replace m3 := O6.cellSome m3 (by simp); replace m4 := O6.cellSome m4 (by simp); replace m5 := O6.cellSome m5 (by simp))
          | (go_at_call 16; go_must (refine (HAC.out _ O6).mono ?_); rintro e w7 ⟨rfl, A2, c2, A3, c3, B7, B8, M7, M8, O7⟩; have HJ := Lib.hid (HNX.out w6 w7 A2 c2 A3 c3 B7 B8 M7 M8 (O6) O7); have hsm := Lib.hid (HSM.out w7 A2 c2 A3 c3 M7 M8); rw [HCE.out A2 c2] at B7; rw [HCE.out A3 c3] at B8; clear k0 k1 k2 k3 j0 j1 j2 j3; obtain ⟨k0, k1, k2, k3⟩ := bk_four B7; obtain ⟨j0, j1, j2, j3⟩ := bk_four B8)
          | (go_at_call 17; go_must (refine hsm.out.mono ?_); rintro e w8 ⟨rfl, O8⟩))
        exact ⟨⟨k + 1, by simp, by omega, HJ.out.keep O8⟩, HMM.out⟩
    by_cases hk3 : kd = 3
    · subst hk3
      cases ib
      · go_wp2_with (first
          | (go_at_call 15; go_must (refine HIS.out.mono ?_); rintro e w6 ⟨rfl, O6⟩; replace k0 := O6.cellSome k0 (by simp); replace k1 := O6.cellSome k1 (by simp); replace k2 := O6.cellSome k2 (by simp); replace k3 := O6.cellSome k3 (by simp); replace j0 := O6.cellSome j0 (by simp); replace j1 := O6.cellSome j1 (by simp); replace j2 := O6.cellSome j2 (by simp); replace j3 := O6.cellSome j3 (by simp); replace m0 := O6.cellSome m0 (by simp); replace m1 := O6.cellSome m1 (by simp); replace m2 := O6.cellSome m2 (by simp); replace m3 := O6.cellSome m3 (by simp); replace m4 := O6.cellSome m4 (by simp); replace m5 := O6.cellSome m5 (by simp))
          | (go_at_call 18; go_must (with_reducible refine (HKN.out _).mono ?_); rintro e w9 ⟨rfl, O9⟩))
        go_ret
        exact ⟨rfl, (HO.out.then O6).then O9⟩
      · go_wp2_with (first
          | (go_at_call 15; go_must (refine HIS.out.mono ?_); rintro e w6 ⟨rfl, O6⟩; replace k0 := O6.cellSome k0 (by simp); replace k1 := O6.cellSome k1 (by simp); replace k2 := O6.cellSome k2 (by simp); replace k3 := O6.cellSome k3 (by simp); replace j0 := O6.cellSome j0 (by simp); replace j1 := O6.cellSome j1 (by simp); replace j2 := O6.cellSome j2 (by simp); replace j3 := O6.cellSome j3 (by simp); replace m0 := O6.cellSome m0 (by simp); replace m1 := O6.cellSome m1 (by simp); replace m2 := O6.cellSome m2 (by simp); replace m3 := O6.cellSome m3 (by simp); replace m4 := O6.cellSome m4 (by simp); replace m5 := O6.cellSome m5 (by simp))
          | (go_at_call 16; go_must (refine (HAC.out _ O6).mono ?_); rintro e w7 ⟨rfl, A2, c2, A3, c3, B7, B8, M7, M8, O7⟩; have HJ := Lib.hid (HNX.out w6 w7 A2 c2 A3 c3 B7 B8 M7 M8 (O6) O7); have hsm := Lib.hid (HSM.out w7 A2 c2 A3 c3 M7 M8); rw [HCE.out A2 c2] at B7; rw [HCE.out A3 c3] at B8; clear k0 k1 k2 k3 j0 j1 j2 j3; obtain ⟨k0, k1, k2, k3⟩ := bk_four B7; obtain ⟨j0, j1, j2, j3⟩ := bk_four B8)
          | (go_at_call 17; go_must (refine hsm.out.mono ?_); rintro e w8 ⟨rfl, O8⟩))
        exact ⟨⟨k + 1, by simp, by omega, HJ.out.keep O8⟩, HMM.out⟩
    have h2f : (kd == 2) = false := beq_eq_false_iff_ne.2 hk2
    have h3f : (kd == 3) = false := beq_eq_false_iff_ne.2 hk3
    go_wp2_with (first
      | (go_at_call 16; go_must (refine (HAC.out _ (Only.refl _ _)).mono ?_); rintro e w7 ⟨rfl, A2, c2, A3, c3, B7, B8, M7, M8, O7⟩; have HJ := Lib.hid (HNX.out wr w7 A2 c2 A3 c3 B7 B8 M7 M8 ((Only.refl _ _)) O7); have hsm := Lib.hid (HSM.out w7 A2 c2 A3 c3 M7 M8); rw [HCE.out A2 c2] at B7; rw [HCE.out A3 c3] at B8; clear k0 k1 k2 k3 j0 j1 j2 j3; obtain ⟨k0, k1, k2, k3⟩ := bk_four B7; obtain ⟨j0, j1, j2, j3⟩ := bk_four B8)
      | (go_at_call 17; go_must (refine hsm.out.mono ?_); rintro e w8 ⟨rfl, O8⟩))
    exact ⟨⟨k + 1, by simp, by omega, HJ.out.keep O8⟩, HMM.out⟩
end Go.Proofs.Ythaodlegpjedoaa
