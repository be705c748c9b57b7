/-
  The reference's Expunge; ints: are two rows of numbers one?
-/
import Derived.Test.YthaodlegpjedoaaVExp
import Derived.Test.YthaodlegpjedoaaVHas
namespace Go.Proofs.Ythaodlegpjedoaa
open Go.RowKit Go.Instr

set_option maxRecDepth 100000 in
set_option maxHeartbeats 4000000 in
theorem refExpunge_any {S : Nat → Prop} {w : World} (b : Bx) {A : Option Addr} {c : Nat} (h : Ms S w A b.l.length b.l) (hn : b.l.length ≤ 1000000) (hS : ∀ x, w.heap.size ≤ x → S x)
    (U : Option Addr) (nu cu : Nat) (us : List Int) (hU : Sl w U nu (ivs us)) (hnu : nu ≤ 140737488355328) :
    Calls Try.prog 37 #[bxv b A c, .slice U nu cu] w (Expd S w (expB b us) (goneL us b.l)) := by
  obtain ⟨s, v, x, l⟩ := b
  obtain ⟨n, hl⟩ : ∃ n, l.length = n := ⟨_, rfl⟩
  simp only at h hn
  rw [bxv_eq hl]
  rw [hl] at h hn
  obtain ⟨i0, hi, hz0, hz1, hz2⟩ := info_parts infoInt
  have hO1 : Only [] w ((w.alloc (.cells #[.string (St s), .int .i64 v, .int .i64 x, .slice A n c] 26)).alloc (.cells #[.string ⟨#[]⟩, .int .i64 0, .int .i64 0, .slice none 0 0] 26)) := ((Only.refl _ _).alloc _).alloc _
  have hT : ∀ y, w.heap.size + 1 < y → S y ∧ y ≠ w.heap.size ∧ y ≠ w.heap.size + 1 := fun y hy => ⟨hS y (by omega), by omega, by omega⟩
  have b1 := (Bk.new w 26 #[.string (St s), .int .i64 v, .int .i64 x, .slice A n c]).alloc (.cells #[.string ⟨#[]⟩, .int .i64 0, .int .i64 0, .slice none 0 0] 26)
  have b2 := Bk.new (w.alloc (.cells #[.string (St s), .int .i64 v, .int .i64 x, .slice A n c] 26)) 26 #[.string ⟨#[]⟩, .int .i64 0, .int .i64 0, .slice none 0 0]
  rw [World.size_alloc] at b2
  have HM := Lib.hid ((h.lt.mono (S' := fun y => S y ∧ y ≠ w.heap.size ∧ y ≠ w.heap.size + 1) (fun y hy => ⟨hy.1, by omega, by omega⟩)).keep hO1)
  have HUU := Lib.hid (hU.keep hO1)
  have HB1 := Lib.hid b1
  have HB2 := Lib.hid b2
  have HT := Lib.hid hT
  have HL := Lib.hid hl
  have hsz : w.heap.size + 1 < ((w.alloc (.cells #[.string (St s), .int .i64 v, .int .i64 x, .slice A n c] 26)).alloc (.cells #[.string ⟨#[]⟩, .int .i64 0, .int .i64 0, .slice none 0 0] 26)).heap.size := by simp
  obtain ⟨b', hb'⟩ : ∃ b', expB ⟨s, v, x, l⟩ us = b' := ⟨_, rfl⟩
  obtain ⟨gl, hgl⟩ : ∃ gl, goneL us l = gl := ⟨_, rfl⟩
  rw [hb']
  simp only
  rw [hgl]
  have HB' := Lib.hid hb'
  have HGL := Lib.hid hgl
  have HO1 := Lib.hid hO1
  obtain ⟨t, ht⟩ : ∃ t, St s = t := ⟨_, rfl⟩
  have HTT := Lib.hid ht
  rw [ht] at HM HB1 HB2 HO1 HUU hsz ⊢
  clear h hS hO1 hT b1 b2 hl ht hb' hgl hU
  go_enter Try.func37, Try.ntmps37
  go_wp2
  generalize ((w.alloc (.cells #[.string t, .int .i64 v, .int .i64 x, .slice A n c] 26)).alloc (.cells #[.string ⟨#[]⟩, .int .i64 0, .int .i64 0, .slice none 0 0] 26)) = w1 at *
  go_loopw [6, 7, 8] (fun sv gv iv wr => ∃ k : Nat, iv = .int .i64 (k : Int) ∧ k ≤ n ∧ Hid (ExpR (fun y => S y ∧ y ≠ w.heap.size ∧ y ≠ w.heap.size + 1) w1 wr us l k sv gv)) (fun _ _ iv _ => n - (intOf iv).toNat)
  case atStart => exact ⟨0, rfl, Nat.zero_le _, ExpR.start _ _ _ _⟩
  case round =>
    obtain ⟨k, rfl, hk, HK⟩ := hrel
    obtain ⟨As, ns, cs, Ag, ng, cg, rfl, rfl, M, V, hns, hng, BS, BG, O⟩ := HK.out
    have HMO := Lib.hid M
    have HOW := Lib.hid V
    have HBS := Lib.hid BS
    have HBG := Lib.hid BG
    clear HK M V BS BG
    by_cases hlt : k < n
    · have hlt' : (k : Int) < (n : Int) := by omega
      have hkl : k < l.length := by rw [HL.out]; exact hlt
      obtain ⟨ad, Ab, cb, rfl, hadS, m0, m1, m2, m3, hsl, hst⟩ := (HM.out.lt.keep O).at_ hlt hkl
      have cU := Lib.hid (among_any (c := cu) (HUU.out.keep O) hnu l[k].uid)
      obtain ⟨c0, c1, c2, c3⟩ := bk_four (HB1.out.only O (by simp))
      obtain ⟨p, hp⟩ : ∃ p, hasU us l[k].uid = p := ⟨_, rfl⟩
      rw [hp] at cU
      have HG := Lib.hid (fun (h : p = true) (w2 w3 : World) (Ag' : Option Addr) (cg' : Nat) (O2 : Only [] wr w2) (O3 : Only (blks Ag) w2 w3) (V3 : Own w3 3 Ag' (ng + 1) cg' (ivs (goneL us (l.take k)) ++ [.int .i64 l[k].uid])) (B3 : ∀ x ∈ blks Ag', x ∈ blks Ag ∨ w2.heap.size ≤ x) => ExpR.gone hkl (hp.trans h) HMO.out hns hng HBS.out HBG.out O O2 O3 V3 B3)
      have HST := Lib.hid (fun (h : p = false) (w2 w3 : World) (As' : Option Addr) (cs' : Nat) (O2 : Only [] wr w2) (O3 : Only (blks As) w2 w3) (M3 : Mo (fun y => (S y ∧ y ≠ w.heap.size ∧ y ≠ w.heap.size + 1) ∧ y ∉ blks Ag) w3 As' (ns + 1) cs' (stayL us (l.take k) ++ [l[k]])) (B3 : ∀ x ∈ blks As', x ∈ blks As ∨ w2.heap.size ≤ x) => ExpR.stay hkl (hp.trans h) (fun x hx hm => (HMO.out.2.1 x hm).2 hx) HOW.out hns hng HBS.out HBG.out O O2 O3 M3 B3)
      have HMS : Hid (∀ (g2 : Nat) (W : World), wr.heap.size ≤ g2 → g2 ∉ blks As → Only [] wr W → Bk W g2 62 #[.int .i64 l[k].uid, .int .i64 l[k].flags, .int .i64 l[k].date, .slice Ab l[k].body.length cb] →
          Ms (fun y => ((S y ∧ y ≠ w.heap.size ∧ y ≠ w.heap.size + 1) ∧ y ∉ blks Ag) ∧ y ∉ blks As) W (some ⟨g2, 0, none⟩) 1 [l[k]]) := fun g2 W h1 h2 o hB => by
        have z := O.size
        refine Ms.of_bk hB ⟨⟨HT.out g2 (by omega), fun hm => by have := HOW.out.lt hm; omega⟩, h2⟩ (hsl.keep o) (fun hp ad' e => ?_)
        have h3 := hst hp ad' e
        exact ⟨⟨h3.1, fun hm => by have := HBG.out _ hm; omega⟩, fun hm => by have := HBS.out _ hm; omega⟩
      have HASlt := Lib.hid (fun x hx => HMO.out.lt (k := x) hx)
      clear hp
      obtain ⟨m, hm⟩ : ∃ m, l[k] = m := ⟨_, rfl⟩
      rw [hm] at m0 m1 m2 m3 cU HG HST HMS
      clear hm hsl hst hadS
      obtain ⟨u, f, d, y⟩ := m
      simp only at m0 m1 m2 m3 cU HG HST HMS
      generalize y.length = z at m3 HMS
      have HTN : Hid (∀ W, Only [] wr W → ∀ y, W.heap.size ≤ y → (S y ∧ y ≠ w.heap.size ∧ y ≠ w.heap.size + 1) ∧ y ∉ blks Ag) := fun W o y hy => ⟨HT.out y (by have := O.size; have := o.size; omega), fun hm => by have := HOW.out.lt hm; have := o.size; omega⟩
      have b3 := Bk.new wr 3 #[.int .i64 u]
      have b4 := Bk.new wr 62 #[.int .i64 u, .int .i64 f, .int .i64 d, .slice Ab z cb]
      have HB3 := Lib.hid b3
      have HB4 := Lib.hid b4
      clear b3 b4
      cases p
      · go_wp2_with (first
          | (refine wpList_append_ms rfl _ _ rfl As ns cs (stayL us (l.take k)) rfl (HMO.out.keep ((Only.refl [] wr).alloc _)) _ 1 1 [⟨u, f, d, y⟩] rfl (HMS.out _ _ (Nat.le_refl _) (fun hm => by have := HASlt.out _ hm; omega) ((Only.refl [] wr).alloc _) HB4.out) (HTN.out _ ((Only.refl [] wr).alloc _)) (by omega) (ns + 1) rfl ?_; intro As' cs' w3 M3 O3 B3)
          | (go_at_call 70; go_must (refine cU.out.mono ?_); rintro e w2 ⟨rfl, rfl⟩))
        exact ⟨⟨k + 1, by simp, by omega, HST.out (by trivial) _ w3 As' cs' ((Only.refl [] wr).alloc _) O3 M3 B3⟩, by simp [intOf]; omega⟩
      · go_wp2_with (first
          | (refine wpList_append_sl rfl _ _ 28 rfl 3 i0 (.int .i64 0) 8 Try.underlying28 hi hz0 hz1 hz2 rfl Ag ng cg (ivs (goneL us (l.take k))) rfl (HOW.out.keep ((Only.refl [] wr).alloc _)) _ 1 1 [.int .i64 u] rfl (Sl.of_bk HB3.out) (by intro q hq; simp at hq; subst hq; rfl) (by unfold maxLen; omega) (by omega) ?_; intro Ag' cg' w3 V3 O3 B3)
          | (go_at_call 70; go_must (refine cU.out.mono ?_); rintro e w2 ⟨rfl, rfl⟩))
        exact ⟨⟨k + 1, by simp, by omega, HG.out (by trivial) _ w3 Ag' cg' ((Only.refl [] wr).alloc _) O3 V3 B3⟩, by simp [intOf]; omega⟩
    · obtain rfl : k = n := by omega
      have hsg : stayL us (l.take k) = stayL us l ∧ goneL us (l.take k) = goneL us l := by rw [List.take_of_length_le (by rw [HL.out]; exact Nat.le_refl _)]; exact ⟨rfl, rfl⟩
      have hb'' := HB'.out
      unfold expB at hb''
      simp only at hb''
      rw [hsg.1] at HMO
      rw [hsg.2, HGL.out] at HOW
      have HG1 := HB1.out.only O (by simp)
      have HG2 := HB2.out.only O (by simp)
      have hns2 : (stayL us l).length = ns := HMO.out.len
      have hng2 : gl.length = ng := by simpa using HOW.out.len
      have HNS := Lib.hid hns2
      have HNG := Lib.hid hng2
      have hgw : w.heap.size + 1 < wr.heap.size := Nat.lt_of_lt_of_le hsz O.size
      have hOw := Lib.hid (HO1.out.then O)
      have HBW := Lib.hid (show w.heap.size ≤ w1.heap.size from by omega)
      subst hb''
      clear hsg hns2 hng2 HB'
      obtain ⟨k0, k1, k2, k3⟩ := bk_four HG1
      have kf := HG1.free 3
      obtain ⟨j0, j1, j2, j3⟩ := bk_four HG2
      have f0 := HG2.free 0
      have f1 := HG2.free 1
      have f2 := HG2.free 2
      have f3 := HG2.free 3
      go_wp2_with fail
      refine box_ret (s := 4) (u := 5) ?_ (w.heap.size + 1) ⟨s, v, x, stayL us l⟩ As cs (.slice Ag ng cg) ?_ ?_ ?_ ?_
      · kernel_rfl
      · rfl
      · rfl
      · rw [bxc_eq HNS.out, HTT.out]
        exact bk_store (HG2.far (by simp) _) _ _ _ _
      · have ho : Only [w.heap.size] wr (wr.setCell ⟨w.heap.size, 3, none⟩ (.slice As ns cs)) := (Only.refl _ _).setCell (.inl (by simp)) _
        have hbg := HBG.out
        refine ⟨As, cs, Ag, cg, by rw [HNG.out], ?_, ?_, fun y hy => by have := hbg y hy; have := HBW.out; omega, ?_⟩
        · show Ms S _ As (stayL us l).length (stayL us l)
          rw [HNS.out]
          exact ((HMO.out.ms.only ho (fun y hy hm => by simp at hm; exact hy.1.2.1 hm)).store (fun h => h.1.2.2 rfl) _ _ _ _).mono (fun y hy => hy.1.1)
        · rw [HNG.out]
          have h1 := (HOW.out.only ho (fun y hy hm => by simp at hm; have := hbg y hy; omega))
          exact (h1.only (only_store (Only.refl [w.heap.size + 1] _) (.inl (by simp)) _ _ _ _) (fun y hy hm => by simp at hm; have := hbg y hy; omega)).sl
        · exact only_store (hOw.out.setCell (.inr (Nat.le_refl _)) _) (.inr (by omega)) _ _ _ _
end Go.Proofs.Ythaodlegpjedoaa
