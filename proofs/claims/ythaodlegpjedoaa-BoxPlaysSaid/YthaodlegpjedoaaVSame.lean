/-
  Are two mailboxes one? The reference's Same.
-/
import Derived.Test.YthaodlegpjedoaaVIs4
import Derived.Test.YthaodlegpjedoaaVAdd
import Derived.Test.YthaodlegpjedoaaInv2
import Derived.Test.YthaodlegpjedoaaStr
namespace Go.Proofs.Ythaodlegpjedoaa
open Go.RowKit Go.Instr

theorem str_at {w : World} {A : Option Addr} {n : Nat} {l : List UInt8} (h : Sl w A n (bvs l)) (c : Nat) : (convert 29 9 (.slice A n c)).run Try.prog w = .ok (.string (St l)) w :=
  run_str_sl (P := Try.prog) 29 9 5 A n c l Try.underlying29 Try.underlying5 Try.underlying9 h
def sameB (a b : Bx) : Bool := decide (a = b)
theorem sameB_no {a b : Bx} (h : a ≠ b) : sameB a b = false := decide_eq_false h
set_option maxRecDepth 100000 in
set_option maxHeartbeats 8000000 in
theorem refSame_any {S S' : Nat → Prop} {w : World} (b1 b2 : Bx) {A1 A2 : Option Addr} {e1 e2 : Nat} (h1 : Ms S w A1 b1.l.length b1.l) (h2 : Ms S' w A2 b2.l.length b2.l) (hn1 : b1.l.length ≤ 140737488355328) (hn2 : b2.l.length ≤ 140737488355328) :
    Calls Try.prog 17 #[bxv b1 A1 e1, bxv b2 A2 e2] w fun e w' => e = .returned (.bool (sameB b1 b2)) ∧ Only [] w w' := by
  obtain ⟨s1, v1, x1, l1⟩ := b1
  obtain ⟨s2, v2, x2, l2⟩ := b2
  obtain ⟨n1, hl1⟩ : ∃ n, l1.length = n := ⟨_, rfl⟩
  obtain ⟨n2, hl2⟩ : ∃ n, l2.length = n := ⟨_, rfl⟩
  simp only at h1 h2 hn1 hn2
  rw [bxv_eq hl1, bxv_eq hl2]
  rw [hl1] at h1 hn1
  rw [hl2] at h2 hn2
  have hO1 : Only [] w ((w.alloc (.cells #[.string (St s1), .int .i64 v1, .int .i64 x1, .slice A1 n1 e1] 26)).alloc (.cells #[.string (St s2), .int .i64 v2, .int .i64 x2, .slice A2 n2 e2] 26)) := ((Only.refl _ _).alloc _).alloc _
  have B1 := (Bk.new w 26 #[.string (St s1), .int .i64 v1, .int .i64 x1, .slice A1 n1 e1]).alloc (.cells #[.string (St s2), .int .i64 v2, .int .i64 x2, .slice A2 n2 e2] 26)
  have B2 := Bk.new (w.alloc (.cells #[.string (St s1), .int .i64 v1, .int .i64 x1, .slice A1 n1 e1] 26)) 26 #[.string (St s2), .int .i64 v2, .int .i64 x2, .slice A2 n2 e2]
  rw [World.size_alloc] at B2
  have HB1 := Lib.hid B1
  have HB2 := Lib.hid B2
  have HM1 := Lib.hid (h1.keep hO1)
  have HM2 := Lib.hid (h2.keep hO1)
  have HO := Lib.hid hO1
  have HL1 := Lib.hid hl1
  have HL2 := Lib.hid hl2
  obtain ⟨t1, ht1⟩ : ∃ t, St s1 = t := ⟨_, rfl⟩
  obtain ⟨t2, ht2⟩ : ∃ t, St s2 = t := ⟨_, rfl⟩
  have HT1 := Lib.hid ht1
  have HT2 := Lib.hid ht2
  have HTE : Hid ((t1.toList == t2.toList) = (s1 == s2)) := by show _ = _; rw [← ht1, ← ht2, St_eq]
  rw [ht1] at HB1 HB2 HM1 HM2 HO
  rw [ht2] at HB1 HB2 HM1 HM2 HO
  rw [ht1, ht2]
  obtain ⟨r, hr⟩ : ∃ r, sameB ⟨s1, v1, x1, l1⟩ ⟨s2, v2, x2, l2⟩ = r := ⟨_, rfl⟩
  rw [hr]
  have HR := Lib.hid hr
  clear h1 h2 hO1 B1 B2 hl1 hl2 ht1 ht2 hr
  obtain ⟨c0, c1, c2, c3⟩ := bk_four HB1.out
  obtain ⟨d0, d1, d2, d3⟩ := bk_four HB2.out
  have hte := HTE.out
  obtain ⟨k1, hk1⟩ : ∃ k, (s1 == s2) = k := ⟨_, rfl⟩
  obtain ⟨k2, hk2⟩ : ∃ k, (v1 != v2) = k := ⟨_, rfl⟩
  obtain ⟨k3, hk3⟩ : ∃ k, (x1 != x2) = k := ⟨_, rfl⟩
  obtain ⟨k4, hk4⟩ : ∃ k, ((n1 : Int) != (n2 : Int)) = k := ⟨_, rfl⟩
  rw [hk1] at hte
  by_cases ha : k1 = true ∧ k2 = false ∧ k3 = false ∧ k4 = false
  rotate_left
  · have hr : r = false := by
      rw [← HR.out]
      refine sameB_no fun e => ha ?_
      injection e with q1 q2 q3 q4
      subst q1 q2 q3 q4
      have : n1 = n2 := by rw [← HL1.out, ← HL2.out]
      subst this
      exact ⟨by rw [← hk1]; simp, by rw [← hk2]; simp, by rw [← hk3]; simp, by rw [← hk4]; simp⟩
    subst hr
    clear hk1 HR HTE
    go_enter Try.func17, Try.ntmps17
    cases k1
    · go_wp2
      go_ret
      exact ⟨rfl, HO.out⟩
    cases k2
    rotate_left
    · go_wp2
      go_ret
      exact ⟨rfl, HO.out⟩
    cases k3
    rotate_left
    · go_wp2
      go_ret
      exact ⟨rfl, HO.out⟩
    cases k4
    · exact absurd ⟨rfl, rfl, rfl, rfl⟩ ha
    · go_wp2
      go_ret
      exact ⟨rfl, HO.out⟩
  obtain ⟨rfl, rfl, rfl, rfl⟩ := ha
  have hs : s1 = s2 := by simpa using hk1
  have hv : v1 = v2 := by simpa using hk2
  have hx : x1 = x2 := by simpa using hk3
  have hn : n1 = n2 := by have : (n1 : Int) = (n2 : Int) := by simpa using hk4
                          omega
  clear hk1 hk2 hk3 hk4 HTE
  subst hs hv hx hn
  obtain rfl : t1 = t2 := by rw [← HT1.out, ← HT2.out]
  clear HT1 HT2
  go_enter Try.func17, Try.ntmps17
  go_wp2
  clear hte
  clear c0 c1 c2 c3 d0 d1 d2 d3
  generalize ((w.alloc (.cells #[.string t1, .int .i64 v1, .int .i64 x1, .slice A1 n1 e1] 26)).alloc (.cells #[.string t1, .int .i64 v1, .int .i64 x1, .slice A2 n1 e2] 26)) = w2 at *
  go_loopw [5] (fun iv wr => Only [] w2 wr ∧ ∃ k : Nat, iv = .int .i64 (k : Int) ∧ k ≤ n1 ∧ l1.take k = l2.take k) (fun iv _ => n1 - (intOf iv).toNat)
  case atStart => exact ⟨Only.refl _ _, 0, rfl, Nat.zero_le _, rfl⟩
  case round =>
    obtain ⟨hO, k, rfl, hk, hpre⟩ := hrel
    obtain ⟨c0, c1, c2, c3⟩ := bk_four (HB1.out.only hO (by simp))
    obtain ⟨d0, d1, d2, d3⟩ := bk_four (HB2.out.only hO (by simp))
    by_cases hlt : k < n1
    · have hlt' : (k : Int) < (n1 : Int) := by omega
      have hk1 : k < l1.length := by rw [HL1.out]; exact hlt
      have hk2 : k < l2.length := by rw [HL2.out]; exact hlt
      obtain ⟨ad1, Ab1, cb1, rfl, _, hm⟩ := (HM1.out.keep hO).at_ hlt hk1
      obtain ⟨ad2, Ab2, cb2, rfl, _, hq⟩ := (HM2.out.keep hO).at_ hlt hk2
      have HNO : Hid (l1[k] ≠ l2[k] → r = false) := fun hne => by
        rw [← HR.out]
        refine sameB_no fun e => hne ?_
        injection e with _ _ _ q4
        subst q4
        rfl
      have HYES : Hid (l1[k] = l2[k] → l1.take (k + 1) = l2.take (k + 1)) := fun he => by
        rw [List.take_succ_eq_append_getElem hk1, List.take_succ_eq_append_getElem hk2, hpre, he]
      generalize l1[k] = p1 at hm HNO HYES
      generalize l2[k] = p2 at hq HNO HYES
      obtain ⟨u1, f1, dd1, y1⟩ := p1
      obtain ⟨u2, f2, dd2, y2⟩ := p2
      obtain ⟨m0, m1, m2, m3, hs1, _⟩ := hm
      obtain ⟨q0, q1, q2, q3, hs2, _⟩ := hq
      simp only at m0 m1 m2 m3 hs1 q0 q1 q2 q3 hs2
      generalize y1.length = z1 at m3 hs1
      generalize y2.length = z2 at q3 hs2
      have HS1 := Lib.hid hs1
      have HS2 := Lib.hid hs2
      have HO2 := Lib.hid hO
      clear hs1 hs2 hpre hO hk1 hk2 c0 c1 c2 d0 d1 d2
      go_wp2_with fail
      apply region_inv (TwoI wr 62 #[.int .i64 0, .int .i64 0, .int .i64 0, .slice none 0 0] #[.int .i64 u1, .int .i64 f1, .int .i64 dd1, .slice Ab1 z1 cb1] #[.int .i64 u2, .int .i64 f2, .int .i64 dd2, .slice Ab2 z2 cb2] 10 11 12 13) (by kernel_rfl) (by kernel_rfl) (fun vs => TwoI.start _ _ _ _ _ _ _ _ _ vs)
      intro vs
      apply inv_val
      case hw => rfl
      case hI => intro L wS hI; exact hI.pure (by decide)
      case hy => intro L wS hI; skip; first | (go_simp; done) | (go_simp; with_reducible rfl)
      case' hk => skip
      try simp only [Act.put, List.setIfInBounds_toArray, List.set_cons_zero, List.set_cons_succ]
      apply inv_val
      case hw => rfl
      case hI => intro L wS hI; exact hI.pure (by decide)
      case hy => intro L wS hI; have q0 := hI.1.cellSome c3 (by simp); first | (go_simp; done) | (go_simp; with_reducible rfl)
      case' hk => skip
      try simp only [Act.put, List.setIfInBounds_toArray, List.set_cons_zero, List.set_cons_succ]
      apply inv_val
      case hw => rfl
      case hI => intro L wS hI; exact hI.pure (by decide)
      case hy => intro L wS hI; skip; first | (go_simp; done) | (go_simp; with_reducible rfl)
      case' hk => skip
      try simp only [Act.put, List.setIfInBounds_toArray, List.set_cons_zero, List.set_cons_succ]
      apply inv_val
      case hw => rfl
      case hI => intro L wS hI; exact hI.pure (by decide)
      case hy => intro L wS hI; skip; first | (go_simp; done) | (go_simp; with_reducible rfl)
      case' hk => skip
      try simp only [Act.put, List.setIfInBounds_toArray, List.set_cons_zero, List.set_cons_succ]
      apply inv_val
      case hw => rfl
      case hI => intro L wS hI; exact hI.pure (by decide)
      case hy => intro L wS hI; have q0 := hI.1.cellSome m0 (by simp); have q1 := hI.1.cellSome m1 (by simp); have q2 := hI.1.cellSome m2 (by simp); have q3 := hI.1.cellSome m3 (by simp); first | (go_simp; done) | (go_simp; with_reducible rfl)
      case' hk => skip
      try simp only [Act.put, List.setIfInBounds_toArray, List.set_cons_zero, List.set_cons_succ]
      apply inv_val
      case hw => rfl
      case hI => intro L wS hI; exact hI.pure (by decide)
      case hy => intro L wS hI; skip; first | (go_simp; done) | (go_simp; with_reducible rfl)
      case' hk => skip
      try simp only [Act.put, List.setIfInBounds_toArray, List.set_cons_zero, List.set_cons_succ]
      apply inv_val
      case hw => rfl
      case hI => intro L wS hI; exact hI.pure (by decide)
      case hy => intro L wS hI; have q0 := hI.1.cellSome d3 (by simp); first | (go_simp; done) | (go_simp; with_reducible rfl)
      case' hk => skip
      try simp only [Act.put, List.setIfInBounds_toArray, List.set_cons_zero, List.set_cons_succ]
      apply inv_val
      case hw => rfl
      case hI => intro L wS hI; exact hI.pure (by decide)
      case hy => intro L wS hI; skip; first | (go_simp; done) | (go_simp; with_reducible rfl)
      case' hk => skip
      try simp only [Act.put, List.setIfInBounds_toArray, List.set_cons_zero, List.set_cons_succ]
      apply inv_val
      case hw => rfl
      case hI => intro L wS hI; exact hI.pure (by decide)
      case hy => intro L wS hI; skip; first | (go_simp; done) | (go_simp; with_reducible rfl)
      case' hk => skip
      try simp only [Act.put, List.setIfInBounds_toArray, List.set_cons_zero, List.set_cons_succ]
      apply inv_val
      case hw => rfl
      case hI => intro L wS hI; exact hI.pure (by decide)
      case hy => intro L wS hI; have q0 := hI.1.cellSome q0 (by simp); have q1 := hI.1.cellSome q1 (by simp); have q2 := hI.1.cellSome q2 (by simp); have q3 := hI.1.cellSome q3 (by simp); first | (go_simp; done) | (go_simp; with_reducible rfl)
      case' hk => skip
      try simp only [Act.put, List.setIfInBounds_toArray, List.set_cons_zero, List.set_cons_succ]
      apply inv_op
      case hw => rfl
      case hy =>
        intro L wS hI hL hw
        refine gives_value (u := ptr2 wS.heap.size) (w' := wS.alloc (.cells #[.int .i64 0, .int .i64 0, .int .i64 0, .slice none 0 0] 62)) ?_ (hI.alloc1 hL (by decide) (by decide) (by decide)) trivial
        show _ = Result.ok (Next.value (.pointer (some ⟨wS.heap.size, 0, none⟩))) (wS.alloc (.cells #[.int .i64 0, .int .i64 0, .int .i64 0, .slice none 0 0] 62))
        first | (go_simp; done) | (go_simp; with_reducible rfl)
      case' hk => skip
      try simp only [Act.put, List.setIfInBounds_toArray, List.set_cons_zero, List.set_cons_succ]
      apply inv_op
      case hw => rfl
      case hy =>
        intro L wS hI hL hw
        refine gives_value (u := ptr2 wS.heap.size) (w' := wS.alloc (.cells #[.int .i64 0, .int .i64 0, .int .i64 0, .slice none 0 0] 62)) ?_ (hI.alloc2 hL (by decide) (by decide) (by decide)) trivial
        show _ = Result.ok (Next.value (.pointer (some ⟨wS.heap.size, 0, none⟩))) (wS.alloc (.cells #[.int .i64 0, .int .i64 0, .int .i64 0, .slice none 0 0] 62))
        first | (go_simp; done) | (go_simp; with_reducible rfl)
      case' hk => skip
      try simp only [Act.put, List.setIfInBounds_toArray, List.set_cons_zero, List.set_cons_succ]
      apply inv_op
      case hw => rfl
      case hy =>
        intro L wS hI hL hw
        have hl := hw 10 (by kernel_rfl)
        obtain ⟨g, e4, _, hb⟩ := hI.2.1 hl
        rw [e4]
        obtain ⟨rz0, rz1, rz2, rz3, hb⟩ : ∃ rz0 rz1 rz2 rz3, Bk wS g 62 #[rz0, rz1, rz2, rz3] := by
          split at hb
          · exact ⟨_, _, _, _, hb⟩
          · exact ⟨_, _, _, _, hb⟩
        obtain ⟨k0, k1, k2, k3⟩ := bk_four hb
        have fz0 := hb.free 0
        have fz1 := hb.free 1
        have fz2 := hb.free 2
        have fz3 := hb.free 3
        have hg := hb.lt
        refine gives_skip ?_ (hI.store1 hl e4 (only_store (Only.refl [g] wS) (.inl List.mem_cons_self) (.int .i64 u1) (.int .i64 f1) (.int .i64 dd1) (.slice Ab1 z1 cb1)) (fun c hc h2 => by rcases h2 with rfl | rfl <;> exact bk_store hc _ _ _ _) (by decide) (by decide) (by decide)) trivial
        unfold ptr2
        go_simp
      case' hk => skip
      try simp only [Act.put]
      apply inv_op
      case hw => rfl
      case hy =>
        intro L wS hI hL hw
        have hl := hw 11 (by kernel_rfl)
        obtain ⟨g, e4, _, hb⟩ := hI.2.2.1 hl
        rw [e4]
        obtain ⟨rz0, rz1, rz2, rz3, hb⟩ : ∃ rz0 rz1 rz2 rz3, Bk wS g 62 #[rz0, rz1, rz2, rz3] := by
          split at hb
          · exact ⟨_, _, _, _, hb⟩
          · exact ⟨_, _, _, _, hb⟩
        obtain ⟨k0, k1, k2, k3⟩ := bk_four hb
        have fz0 := hb.free 0
        have fz1 := hb.free 1
        have fz2 := hb.free 2
        have fz3 := hb.free 3
        have hg := hb.lt
        refine gives_skip ?_ (hI.store2 hl e4 (only_store (Only.refl [g] wS) (.inl List.mem_cons_self) (.int .i64 u2) (.int .i64 f2) (.int .i64 dd2) (.slice Ab2 z2 cb2)) (fun c hc h2 => by rcases h2 with rfl | rfl <;> exact bk_store hc _ _ _ _) (by decide) (by decide) (by decide)) trivial
        unfold ptr2
        go_simp
      case' hk => skip
      try simp only [Act.put]
      refine inv_end ?_
      intro L w7 hall hI
      obtain ⟨hO7, h4, h5, _, _, _⟩ := hI
      obtain ⟨g6, ev6, hg6, hb6⟩ := h4 (hall 10 (by decide))
      obtain ⟨g7, ev7, hg7, hb7⟩ := h5 (hall 11 (by decide))
      rw [if_pos (hall 12 (by decide))] at hb6
      rw [if_pos (hall 13 (by decide))] at hb7
      rw [ev6, ev7]
      clear ev6 ev7 h4 h5 hall
      unfold ptr2
      obtain ⟨k0, k1, k2, k3⟩ := bk_four hb6
      obtain ⟨r0, r1, r2, r3⟩ := bk_four hb7
      have cv1 := str_at (HS1.out.keep hO7) cb1
      have cv2 := str_at (HS2.out.keep hO7) cb2
      have hte := St_eq y1 y2
      generalize St y1 = ty1 at cv1 hte
      generalize St y2 = ty2 at cv2 hte
      have HO3 := Lib.hid (HO.out.then (HO2.out.then hO7))
      have HOR := Lib.hid (HO2.out.then hO7)
      obtain ⟨b1, hb1⟩ : ∃ b, (u1 != u2) = b := ⟨_, rfl⟩
      obtain ⟨b2, hb2⟩ : ∃ b, (f1 != f2) = b := ⟨_, rfl⟩
      obtain ⟨b3, hb3⟩ : ∃ b, (dd1 != dd2) = b := ⟨_, rfl⟩
      obtain ⟨b4, hb4⟩ : ∃ b, (y1 == y2) = b := ⟨_, rfl⟩
      rw [hb4] at hte
      have HNE : Hid (b1 = true ∨ b2 = true ∨ b3 = true ∨ b4 = false → r = false) := fun hh => HNO.out fun e => by
        injection e with e1 e2 e3 e4
        subst e1 e2 e3 e4
        simp at hb1 hb2 hb3 hb4
        subst hb1 hb2 hb3 hb4
        simp at hh
      have HEQ : Hid (b1 = false → b2 = false → b3 = false → b4 = true → l1.take (k + 1) = l2.take (k + 1)) := fun h1 h2 h3 h4 => HYES.out (by
        subst h1 h2 h3 h4
        simp at hb1 hb2 hb3 hb4
        subst hb1 hb2 hb3 hb4
        rfl)
      have HM : Hid (n1 - (intOf (.int .i64 ((k : Int) + 1))).toNat < n1 - (intOf (.int .i64 (k : Int))).toNat) := by
        show _ < _
        simp [intOf]
        omega
      clear hb4 hb6 hb7 hg6 hg7 hO7 HNO HYES m0 m1 m2 m3 q0 q1 q2 q3 c3 d3
      cases b1
      rotate_left
      · obtain rfl := HNE.out (.inl rfl)
        go_wp2_with fail
        go_ret
        exact ⟨rfl, HO3.out⟩
      cases b2
      rotate_left
      · obtain rfl := HNE.out (.inr (.inl rfl))
        go_wp2_with fail
        go_ret
        exact ⟨rfl, HO3.out⟩
      cases b3
      rotate_left
      · obtain rfl := HNE.out (.inr (.inr (.inl rfl)))
        go_wp2_with fail
        go_ret
        exact ⟨rfl, HO3.out⟩
      cases b4
      · obtain rfl := HNE.out (.inr (.inr (.inr rfl)))
        go_wp2_with fail
        go_ret
        exact ⟨rfl, HO3.out⟩
      · have HP := Lib.hid (HEQ.out rfl rfl rfl rfl)
        go_wp2_with fail
        exact ⟨⟨HOR.out, k + 1, by simp, by omega, HP.out⟩, HM.out⟩
    · obtain rfl : k = n1 := by omega
      have hr : r = true := by
        rw [← HR.out]
        have : l1 = l2 := by
          rw [List.take_of_length_le (by rw [HL1.out]; exact Nat.le_refl _), List.take_of_length_le (by rw [HL2.out]; exact Nat.le_refl _)] at hpre
          exact hpre
        subst this
        exact decide_eq_true rfl
      subst hr
      go_wp2
      go_ret
      exact ⟨rfl, HO.out.then hO⟩
end Go.Proofs.Ythaodlegpjedoaa
