/-
  The reference's Mark.
-/
import Derived.Test.YthaodlegpjedoaaVMark
import Derived.Test.YthaodlegpjedoaaVHas
import Derived.Test.YthaodlegpjedoaaAApply
namespace Go.Proofs.Ythaodlegpjedoaa
open Go.RowKit Go.Instr

set_option maxRecDepth 100000 in
set_option maxHeartbeats 4000000 in
theorem refMark_any {S : Nat → Prop} {w : World} (b : Bx) {A : Option Addr} {c : Nat} (h : Ms S w A b.l.length b.l) (hn : b.l.length ≤ 1000000) (hS : ∀ x, w.heap.size ≤ x → S x)
    (U : Option Addr) (nu cu : Nat) (us : List Int) (hU : Sl w U nu (ivs us)) (hnu : nu ≤ 140737488355328) (mode fl : Int) :
    Calls Try.prog 36 #[bxv b A c, .slice U nu cu, .int .i64 mode, .int .i64 fl] w (Markd S w (markB b us mode fl) (markN us mode fl b.l)) := by
  obtain ⟨s, v, x, l⟩ := b
  obtain ⟨n, hl⟩ : ∃ n, l.length = n := ⟨_, rfl⟩
  simp only at h hn
  rw [bxv_eq hl]
  rw [hl] at h hn
  obtain ⟨T, hTd⟩ : ∃ T : Nat → Prop, T = fun y => S y ∧ y ≠ w.heap.size ∧ y ≠ w.heap.size + 1 := ⟨_, rfl⟩
  have hO1 : Only [] w ((w.alloc (.cells #[.string (St s), .int .i64 v, .int .i64 x, .slice A n c] 26)).alloc (.cells #[.string ⟨#[]⟩, .int .i64 0, .int .i64 0, .slice none 0 0] 26)) := ((Only.refl _ _).alloc _).alloc _
  have hO0 := hO1.alloc (.cells #[] 62)
  have hT : ∀ y, w.heap.size + 1 < y → T y := fun y hy => by rw [hTd]; exact ⟨hS y (by omega), by omega, by omega⟩
  have b1 := ((Bk.new w 26 #[.string (St s), .int .i64 v, .int .i64 x, .slice A n c]).alloc (.cells #[.string ⟨#[]⟩, .int .i64 0, .int .i64 0, .slice none 0 0] 26)).alloc (.cells #[] 62)
  have b2 := Bk.new (w.alloc (.cells #[.string (St s), .int .i64 v, .int .i64 x, .slice A n c] 26)) 26 #[.string ⟨#[]⟩, .int .i64 0, .int .i64 0, .slice none 0 0]
  rw [World.size_alloc] at b2
  replace b2 := b2.alloc (.cells #[] 62)
  have hm0 := Mo.empty (S := T) ((w.alloc (.cells #[.string (St s), .int .i64 v, .int .i64 x, .slice A n c] 26)).alloc (.cells #[.string ⟨#[]⟩, .int .i64 0, .int .i64 0, .slice none 0 0] 26)) (hT _ (by simp))
  rw [World.size_alloc, World.size_alloc] at hm0
  have HM0 := Lib.hid hm0
  have HSRC := Lib.hid ((h.lt.keep hO0).mono (S' := fun y => T y ∧ y ∉ blks (some (⟨w.heap.size + 1 + 1, 0, none⟩ : Addr))) (fun y hy => ⟨by rw [hTd]; exact ⟨hy.1, by omega, by omega⟩, by simp; omega⟩))
  have HUU := Lib.hid (hU.keep hO0)
  have HULT := Lib.hid (fun hp => hU.lt hp)
  have HB1 := Lib.hid b1
  have HB2 := Lib.hid b2
  have HT := Lib.hid hT
  have HTD := Lib.hid hTd
  have HL := Lib.hid hl
  have HO1 := Lib.hid hO0
  obtain ⟨b', hb'⟩ : ∃ b', markB ⟨s, v, x, l⟩ us mode fl = b' := ⟨_, rfl⟩
  obtain ⟨mn, hmn⟩ : ∃ mn, markN us mode fl l = mn := ⟨_, rfl⟩
  rw [hb']
  simp only
  rw [hmn]
  have HB' := Lib.hid hb'
  have HMN := Lib.hid hmn
  obtain ⟨t, ht⟩ : ∃ t, St s = t := ⟨_, rfl⟩
  have HTT := Lib.hid ht
  rw [ht] at HM0 HSRC HB1 HB2 HO1 HUU ⊢
  have hsz : ((w.alloc (.cells #[.string t, .int .i64 v, .int .i64 x, .slice A n c] 26)).alloc (.cells #[.string ⟨#[]⟩, .int .i64 0, .int .i64 0, .slice none 0 0] 26) |>.alloc (.cells #[] 62)).heap.size = w.heap.size + 3 := by simp
  have HSZ := Lib.hid hsz
  obtain ⟨k0, k1, k2, k3⟩ := bk_four HB1.out
  clear h hS hO1 hO0 hT b1 b2 hl ht hb' hmn hU hTd hm0 hsz
  go_enter Try.func36, Try.ntmps36
  go_wp2_with (refine wpList_append_ms rfl _ _ rfl (some ⟨w.heap.size + 1 + 1, 0, none⟩) 0 0 [] rfl HM0.out A n c l rfl HSRC.out (fun y hy => HT.out y (by rw [HSZ.out] at hy; omega)) (by omega) n (by omega) ?_; intro A1 c1 w1 M1 O1 B1; rw [List.nil_append] at M1; have hz1 := O1.size; rw [HSZ.out] at hz1; obtain ⟨k0, k1, k2, k3⟩ := bk_four (HB1.out.only O1 (by simp; omega)); have kf := (HB1.out.only O1 (by simp; omega)).free 3)
  have hO2 : Only [] w (w1.setCell ⟨w.heap.size, 3, none⟩ (.slice A1 n c1)) := (HO1.out.trans O1 (fun y hy => .inr (by simp at hy; omega))).setCell (.inr (Nat.le_refl _)) _
  have B1' : Bk (w1.setCell ⟨w.heap.size, 3, none⟩ (.slice A1 n c1)) w.heap.size 26 #[.string t, .int .i64 v, .int .i64 x, .slice A1 n c1] := (HB1.out.only O1 (by simp; omega)).set 3 _
  have B2' : Bk (w1.setCell ⟨w.heap.size, 3, none⟩ (.slice A1 n c1)) (w.heap.size + 1) 26 #[.string ⟨#[]⟩, .int .i64 0, .int .i64 0, .slice none 0 0] := (HB2.out.only O1 (by simp)).far (by simp) _
  have U2 : Sl (w1.setCell ⟨w.heap.size, 3, none⟩ (.slice A1 n c1)) U nu (ivs us) := (HUU.out.only' O1 (fun hp ad e hm => by
    have := HULT.out hp ad e
    simp at hm
    omega)).only' (rs := [w.heap.size]) ((Only.refl _ _).setCell (.inl (by simp)) _) (fun hp ad e hm => by
    have := HULT.out hp ad e
    simp at hm
    omega)
  have M2 : Mo T (w1.setCell ⟨w.heap.size, 3, none⟩ (.slice A1 n c1)) A1 n c1 l := M1.only (rs := [w.heap.size]) ((Only.refl _ _).setCell (.inl (by simp)) _) (fun y hy hm => by simp at hm; rw [HTD.out] at hy; exact hy.2.1 hm)
  have HA1 : Hid (∀ y ∈ blks A1, w.heap.size + 1 < y) := fun y hy => by
    rcases B1 y hy with h1 | h1
    · simp at h1
      omega
    · rw [HSZ.out] at h1
      omega
  have H0 : Hid (MkR T w #[.string t, .int .i64 v, .int .i64 x, .slice A1 n c1] A1 n c1 U nu us l (w1.setCell ⟨w.heap.size, 3, none⟩ (.slice A1 n c1))) := ⟨hO2, B1', B2', U2, M2⟩
  clear hO2 B1' B2' U2 M2 k0 k1 k2 k3 kf M1 O1 B1 HM0 HSRC HB1 HB2 HUU HO1 HSZ hz1
  generalize w1.setCell ⟨w.heap.size, 3, none⟩ (.slice A1 n c1) = w2 at *
  go_loopw [10, 11] (fun cv iv wr => ∃ k : Nat, iv = .int .i64 (k : Int) ∧ k ≤ n ∧ cv = .int .i64 (markN us mode fl (l.take k) : Nat) ∧ Hid (MkR T w #[.string t, .int .i64 v, .int .i64 x, .slice A1 n c1] A1 n c1 U nu us (markK us mode fl l k) wr)) (fun _ iv _ => n - (intOf iv).toNat)
  case atStart => exact ⟨0, rfl, Nat.zero_le _, rfl, H0.out⟩
  case round =>
    obtain ⟨k, rfl, hk, rfl, HK⟩ := hrel
    obtain ⟨hQ, hBg, hBr, hUs, hMo⟩ := HK.out
    obtain ⟨k0, k1, k2, k3⟩ := bk_four hBg
    have hgr : w.heap.size < wr.heap.size := hBg.lt
    by_cases hlt : k < n
    · have hlt' : (k : Int) < (n : Int) := by omega
      have hkl : k < l.length := by rw [HL.out]; exact hlt
      have hkl' : k < (markK us mode fl l k).length := by rw [markK_len]; exact hkl
      obtain ⟨g, hA⟩ := hMo.form (by omega)
      obtain ⟨ad, hA2⟩ : ∃ ad, A1 = some ad := ⟨_, hA⟩
      clear hA
      subst hA2
      obtain ⟨Ab, cb, hm, hf0, hf1, hf3⟩ := hMo.apart rfl hkl'
      have hadlt : ad.block < wr.heap.size := hMo.lt (by simp)
      have hadb : (ad.add (k * 4)).block < wr.heap.size := by rw [add_block]; exact hadlt
      have HSET := Lib.hid (fun (W : World) (o : Only [] wr W) (F : Int) => (hMo.keep o).setFlags rfl hkl' F)
      have HSU := Lib.hid (markK_succ (us := us) (mode := mode) (f := fl) hkl)
      rw [markK_at hkl hkl'] at hm HSET
      obtain ⟨m0, m1, m2, m3, hsl, hst⟩ := hm
      have cU := Lib.hid (among_any (c := cu) hUs hnu l[k].uid)
      have HSK := Lib.hid (fun h => markK_skip (us := us) (mode := mode) (f := fl) hkl h)
      have HNK := Lib.hid (fun h => markN_skip (us := us) (mode := mode) (f := fl) hkl h)
      have HNH := Lib.hid (fun h => markN_hit (us := us) (mode := mode) (f := fl) hkl h)
      have HMY := Lib.hid (fun (h : hasU us l[k].uid = true) => markM_yes (mode := mode) (f := fl) h)
      have HKN : Hid (markN us mode fl (l.take k) ≤ 1000000) := by
        show _ ≤ _
        have := markN_le us mode fl (l.take k)
        rw [List.length_take] at this
        omega
      obtain ⟨p, hp⟩ : ∃ p, hasU us l[k].uid = p := ⟨_, rfl⟩
      rw [hp] at cU HSK HNK HNH HMY
      clear hp
      generalize markN us mode fl (l.take k) = N0 at HNK HNH HKN ⊢
      obtain ⟨N1, hN1⟩ : ∃ N1, markN us mode fl (l.take (k + 1)) = N1 := ⟨_, rfl⟩
      obtain ⟨Lk1, hLk1⟩ : ∃ Lk1, markK us mode fl l (k + 1) = Lk1 := ⟨_, rfl⟩
      rw [hN1] at HNK HNH
      rw [hLk1] at HSU HSK
      have HRR : Hid (∀ W : World, MkR T w #[.string t, .int .i64 v, .int .i64 x, .slice (some ad) n c1] (some ad) n c1 U nu us Lk1 W → ∃ k' : Nat, Value.int .i64 ((k : Int) + 1) = .int .i64 (k' : Int) ∧ k' ≤ n ∧ Value.int .i64 (N1 : Nat) = .int .i64 (markN us mode fl (l.take k') : Nat) ∧ Hid (MkR T w #[.string t, .int .i64 v, .int .i64 x, .slice (some ad) n c1] (some ad) n c1 U nu us (markK us mode fl l k') W)) :=
        fun W hW => ⟨k + 1, by simp, by omega, by rw [hN1], by show MkR _ _ _ _ _ _ _ _ _ _ _; rw [hLk1]; exact hW⟩
      clear hN1 hLk1
      generalize l[k] = m at m0 m1 m2 m3 hsl hst cU HSET HSU HNH HMY
      obtain ⟨u, f, d, y⟩ := m
      simp only at m0 m1 m2 m3 hsl hst cU HSET HSU HNH HMY
      generalize y.length = z at m3
      clear hsl hst hf0 hf3
      have hnb := HKN.out
      generalize markK us mode fl l k = Lk at HK HSET HSU HSK hMo hkl' ⊢
      have HM : Hid (n - (intOf (.int .i64 ((k : Int) + 1))).toNat < n - (intOf (.int .i64 (k : Int))).toNat) := by
        show _ < _
        simp [intOf]
        omega
      have hAb : ad.block ≠ w.heap.size ∧ ad.block ≠ w.heap.size + 1 := by have := HA1.out ad.block (by simp); omega
      have hAl : w.heap.size + 1 < ad.block := HA1.out ad.block (by simp)
      clear hQ hBg hBr hUs hMo
      cases p
      · have e1 := HSK.out (by trivial)
        have e2 := HNK.out (by trivial)
        subst e1 e2
        go_wp2_with (go_at_call 70; go_must (refine cU.out.mono ?_); rintro e w2 ⟨rfl, rfl⟩)
        exact ⟨HRR.out _ HK.out, HM.out⟩
      · obtain ⟨F, hF⟩ : ∃ F, applyV mode f fl = F := ⟨_, rfl⟩
        have HAP := Lib.hid (fun W => refApply_any mode f fl W)
        have e2 := HNH.out (by trivial)
        have e1 := HSU.out
        rw [HMY.out (by trivial)] at e1
        try simp only at e1
        rw [hF] at HAP e1 e2
        have hset := fun W o => HSET.out W o F
        rw [← e1] at hset
        have HRW : Hid (MkR T w #[.string t, .int .i64 v, .int .i64 x, .slice (some ad) n c1] (some ad) n c1 U nu us Lk1 (wr.setCell ⟨(ad.add (k * 4)).block, (ad.add (k * 4)).off + 1, none⟩ (.int .i64 F))) := by
          obtain ⟨q0, q1, q2, q3, q4⟩ := HK.out
          have hO : Only [ad.block] wr (wr.setCell ⟨(ad.add (k * 4)).block, (ad.add (k * 4)).off + 1, none⟩ (.int .i64 F)) := (Only.refl [ad.block] wr).setCell (.inl (by simp [add_block])) _
          exact ⟨q0.trans hO (fun x hx => .inr (by simp at hx; omega)), q1.only hO (by simp; omega), q2.only hO (by simp; omega), q3.only' hO (fun hp a e hm => by have := HULT.out hp a e; simp at hm; omega), hset wr (Only.refl _ _)⟩
        clear hset e1 hF HSET HSU HMY HSK HNK HNH
        have hn1 : (N0 : Int) + 1 ≤ 9223372036854775807 := by omega
        have hn0 : -9223372036854775808 ≤ (N0 : Int) + 1 := by omega
        by_cases hne : F = f
        · subst hne
          have e3 : N1 = N0 := by simpa using e2
          subst e3
          clear e2
          go_wp2_with (first
            | (go_at_call 70; go_must (refine cU.out.mono ?_); rintro e w2 ⟨rfl, rfl⟩)
            | (go_at_call 71; go_must (refine (HAP.out _).mono ?_); rintro e w2 ⟨rfl, rfl⟩))
          exact ⟨HRR.out _ HRW.out, HM.out⟩
        · have e3 : N1 = N0 + 1 := by simpa [hne] using e2
          subst e3
          have hc : ((N0 + 1 : Nat) : Int) = (N0 : Int) + 1 := by simp
          rw [hc] at HRR
          clear hc
          clear e2
          have hn2 : (N0 : Int) < 1000001 := by omega
          clear hn0 hn1 hnb
          have hw : wrap64 ((N0 : Int) + 1) = (N0 : Int) + 1 := IntWalk.wrap64_in _ (by omega)
          rw [← hw] at HRR
          clear hw hn2
          generalize (N0 : Int) = N2 at *
          go_wp2_with (first
            | (go_at_call 70; go_must (refine cU.out.mono ?_); rintro e w2 ⟨rfl, rfl⟩)
            | (go_at_call 71; go_must (refine (HAP.out _).mono ?_); rintro e w2 ⟨rfl, rfl⟩))
          exact ⟨HRR.out _ HRW.out, HM.out⟩
    · obtain rfl : k = n := by omega
      have hsg : markK us mode fl l k = l.map (markM us mode fl) ∧ l.take k = l := ⟨markK_all us mode fl l (by rw [HL.out]; exact Nat.le_refl _), List.take_of_length_le (by rw [HL.out]; exact Nat.le_refl _)⟩
      have hb'' := HB'.out
      unfold markB at hb''
      simp only at hb''
      rw [hsg.1] at hMo
      rw [hsg.2, HMN.out]
      clear hsg HB'
      subst hb''
      obtain ⟨j0, j1, j2, j3⟩ := bk_four hBr
      have f0 := hBr.free 0
      have f1 := hBr.free 1
      have f2 := hBr.free 2
      have f3 := hBr.free 3
      have HR := Lib.hid hBr
      have HQ := Lib.hid hQ
      have HMO := Lib.hid hMo
      have hrs : w.heap.size + 1 < wr.heap.size := hBr.lt
      clear hBg hBr hUs hQ hMo HK
      go_wp2_with fail
      refine box_ret (s := 8) (u := 9) ?_ (w.heap.size + 1) ⟨s, v, x, l.map (markM us mode fl)⟩ A1 c1 (.int .i64 (mn : Int)) ?_ ?_ ?_ ?_
      · kernel_rfl
      · rfl
      · rfl
      · rw [bxc_eq (HMO.out.len), HTT.out]
        exact bk_store HR.out _ _ _ _
      · refine ⟨A1, c1, rfl, ?_, ?_⟩
        · show Ms S _ A1 (l.map (markM us mode fl)).length (l.map (markM us mode fl))
          rw [HMO.out.len]
          exact (HMO.out.ms.store (fun h => by rw [HTD.out] at h; exact h.2.2 rfl) _ _ _ _).mono (fun y hy => by rw [HTD.out] at hy; exact hy.1)
        · exact only_store HQ.out (.inr (by omega)) _ _ _ _
end Go.Proofs.Ythaodlegpjedoaa
