/-
  box: Expunge, the program's.
-/
import Derived.Test.YthaodlegpjedoaaVAdd
namespace Go.Proofs.Ythaodlegpjedoaa
open Go.RowKit Go.Instr

theorem stay_hit {us : List Int} {l : List Mg} {k : Nat} (h : k < l.length) (hb : hasU us l[k].uid = true) : stayL us (l.take (k + 1)) = stayL us (l.take k) ∧ goneL us (l.take (k + 1)) = goneL us (l.take k) ++ [l[k].uid] := by
  unfold stayL goneL
  rw [filter_succ h, filter_succ h]
  simp [hb]
theorem stay_miss {us : List Int} {l : List Mg} {k : Nat} (h : k < l.length) (hb : hasU us l[k].uid = false) : stayL us (l.take (k + 1)) = stayL us (l.take k) ++ [l[k]] ∧ goneL us (l.take (k + 1)) = goneL us (l.take k) := by
  unfold stayL goneL
  rw [filter_succ h, filter_succ h]
  simp [hb]
theorem stay_le (us : List Int) (l : List Mg) (k : Nat) : (stayL us (l.take k)).length ≤ k ∧ (goneL us (l.take k)).length ≤ k := by
  unfold stayL goneL
  have h1 := List.length_filter_le (fun m : Mg => !hasU us m.uid) (l.take k)
  have h2 := List.length_filter_le (fun m : Mg => hasU us m.uid) (l.take k)
  rw [List.length_take] at h1 h2
  rw [List.length_map]
  omega
/-- Expunge's answer. -/
def Expd (S : Nat → Prop) (w : World) (b : Bx) (gl : List Int) (e : Ending) (w' : World) : Prop :=
  ∃ A' c' Ag cg, e = .returned (.tuple #[bxv b A' c', .slice Ag gl.length cg]) ∧ Ms S w' A' b.l.length b.l ∧ Sl w' Ag gl.length (ivs gl) ∧ (∀ k ∈ blks Ag, w.heap.size ≤ k) ∧ Only [] w w'
theorem Mo.below {S : Nat → Prop} {w : World} {A : Option Addr} {n c : Nat} {l : List Mg} (h : Mo S w A n c l) : Mo (fun x => S x ∧ x < w.heap.size) w A n c l := by
  have hlt := fun k hk => h.lt (k := k) hk
  obtain ⟨h1, h2, xs, h3, h4⟩ := h
  exact ⟨h1, fun x hx => ⟨h2 x hx, hlt x hx⟩, xs, h3, h4.lt.mono (fun x hx => ⟨⟨hx.1.1, hx.2⟩, hx.1.2⟩)⟩
/-- The loop's relation. -/
def ExpR (S : Nat → Prop) (w1 wr : World) (us : List Int) (l : List Mg) (k : Nat) (sv gv : Value) : Prop :=
  ∃ As ns cs Ag ng cg, sv = .slice As ns cs ∧ gv = .slice Ag ng cg ∧ Mo (fun y => S y ∧ y ∉ blks Ag) wr As ns cs (stayL us (l.take k)) ∧ Own wr 3 Ag ng cg (ivs (goneL us (l.take k))) ∧ ns ≤ k ∧ ng ≤ k ∧ (∀ x ∈ blks As, w1.heap.size ≤ x) ∧ (∀ x ∈ blks Ag, w1.heap.size ≤ x) ∧ Only [] w1 wr
theorem ExpR.start (S : Nat → Prop) (w1 : World) (us : List Int) (l : List Mg) : ExpR S w1 w1 us l 0 (.slice none 0 0) (.slice none 0 0) :=
  ⟨none, 0, 0, none, 0, 0, rfl, rfl, Mo.nil _ _, Own.nil _ _, Nat.le_refl _, Nat.le_refl _, (fun _ h => nomatch h), (fun _ h => nomatch h), Only.refl _ _⟩
/-- A number is laid behind those that go. -/
theorem ExpR.gone {S : Nat → Prop} {w1 wr w2 w3 : World} {us : List Int} {l : List Mg} {k : Nat} {As Ag Ag' : Option Addr} {ns cs ng cg' : Nat} (hk : k < l.length) (hb : hasU us l[k].uid = true) (M : Mo (fun y => S y ∧ y ∉ blks Ag) wr As ns cs (stayL us (l.take k))) (hns : ns ≤ k) (hng : ng ≤ k)
    (BS : ∀ x ∈ blks As, w1.heap.size ≤ x) (BG : ∀ x ∈ blks Ag, w1.heap.size ≤ x) (O : Only [] w1 wr) (O2 : Only [] wr w2) (O3 : Only (blks Ag) w2 w3) (V3 : Own w3 3 Ag' (ng + 1) cg' (ivs (goneL us (l.take k)) ++ [.int .i64 l[k].uid])) (B3 : ∀ x ∈ blks Ag', x ∈ blks Ag ∨ w2.heap.size ≤ x) :
    ExpR S w1 w3 us l (k + 1) (.slice As ns cs) (.slice Ag' (ng + 1) cg') := by
  obtain ⟨e1, e2⟩ := stay_hit hk hb
  have z1 := O.size
  have z2 := O2.size
  refine ⟨As, ns, cs, Ag', ng + 1, cg', rfl, rfl, ?_, ?_, by omega, by omega, BS, fun x hx => ?_, ((O.then O2).mono (ss := blks Ag) (fun _ h => nomatch h)).trans O3 (fun x hx => .inl hx) |>.mono (fun x hx => .inr (BG x hx))⟩
  · rw [e1]
    refine (((M.keep O2).below).only O3 (fun x hx => hx.1.2)).mono (fun x hx => ⟨hx.1.1, fun hm => ?_⟩)
    rcases B3 x hm with h | h
    · exact hx.1.2 h
    · have := hx.2; omega
  · rw [e2]
    simpa [ivs] using V3
  · rcases B3 x hx with h | h
    · exact BG x h
    · omega
theorem ExpR.stay {S : Nat → Prop} {w1 wr w2 w3 : World} {us : List Int} {l : List Mg} {k : Nat} {As Ag As' : Option Addr} {ns ng cg cs' : Nat} (hk : k < l.length) (hb : hasU us l[k].uid = false) (BV : ∀ x ∈ blks Ag, x ∉ blks As) (V : Own wr 3 Ag ng cg (ivs (goneL us (l.take k)))) (hns : ns ≤ k) (hng : ng ≤ k)
    (BS : ∀ x ∈ blks As, w1.heap.size ≤ x) (BG : ∀ x ∈ blks Ag, w1.heap.size ≤ x) (O : Only [] w1 wr) (O2 : Only [] wr w2) (O3 : Only (blks As) w2 w3) (M3 : Mo (fun y => S y ∧ y ∉ blks Ag) w3 As' (ns + 1) cs' (stayL us (l.take k) ++ [l[k]])) (B3 : ∀ x ∈ blks As', x ∈ blks As ∨ w2.heap.size ≤ x) :
    ExpR S w1 w3 us l (k + 1) (.slice As' (ns + 1) cs') (.slice Ag ng cg) := by
  obtain ⟨e1, e2⟩ := stay_miss hk hb
  have z1 := O.size
  have z2 := O2.size
  refine ⟨As', ns + 1, cs', Ag, ng, cg, rfl, rfl, by rw [e1]; exact M3, ?_, by omega, by omega, fun x hx => ?_, BG, ((O.then O2).mono (ss := blks As) (fun _ h => nomatch h)).trans O3 (fun x hx => .inl hx) |>.mono (fun x hx => .inr (BS x hx))⟩
  · rw [e2]
    exact (V.keep O2).only O3 BV
  · rcases B3 x hx with h | h
    · exact BS x h
    · omega
set_option maxRecDepth 100000 in
set_option maxHeartbeats 4000000 in
theorem Expunge_any {S : Nat → Prop} {w : World} (b : Bx) {A : Option Addr} {c : Nat} (h : Ms S w A b.l.length b.l) (hn : b.l.length ≤ 1000000) (hb : ∀ m ∈ b.l, m.body.length ≤ 1000000) (hS : ∀ x, w.heap.size ≤ x → S x)
    (U : Option Addr) (nu cu : Nat) (us : List Int) (hU : Sl w U nu (ivs us)) (hnu : nu ≤ 140737488355328) :
    Calls Try.prog 28 #[bxv b A c, .slice U nu cu] w (Expd S w (expB b us) (goneL us b.l)) := by
  obtain ⟨s, v, x, l⟩ := b
  obtain ⟨n, hl⟩ : ∃ n, l.length = n := ⟨_, rfl⟩
  simp only at h hn hb
  rw [bxv_eq hl]
  rw [hl] at h hn
  obtain ⟨i0, hi, hz0, hz1, hz2⟩ := info_parts infoInt
  have hO1 : Only [] w ((w.alloc (.cells #[.string (St s), .int .i64 v, .int .i64 x, .slice A n c] 26)).alloc (.cells #[.string ⟨#[]⟩, .int .i64 0, .int .i64 0, .slice none 0 0] 26)) := ((Only.refl _ _).alloc _).alloc _
  have hT : ∀ y, w.heap.size + 1 < y → S y ∧ y ≠ w.heap.size ∧ y ≠ w.heap.size + 1 := fun y hy => ⟨hS y (by omega), by omega, by omega⟩
  have b1 := (Bk.new w 26 #[.string (St s), .int .i64 v, .int .i64 x, .slice A n c]).alloc (.cells #[.string ⟨#[]⟩, .int .i64 0, .int .i64 0, .slice none 0 0] 26)
  have b2 := Bk.new (w.alloc (.cells #[.string (St s), .int .i64 v, .int .i64 x, .slice A n c] 26)) 26 #[.string ⟨#[]⟩, .int .i64 0, .int .i64 0, .slice none 0 0]
  rw [World.size_alloc] at b2
  have HM := Lib.hid ((h.lt.mono (S' := fun y => S y ∧ y ≠ w.heap.size ∧ y ≠ w.heap.size + 1) (fun y hy => ⟨hy.1, by omega, by omega⟩)).keep hO1)
  have HUU := Lib.hid (hU.keep hO1)
  have HB1 := Lib.hid b1
  have HB2 := Lib.hid b2
  have HT := Lib.hid hT
  have HL := Lib.hid hl
  have HBY := Lib.hid hb
  have hsz : w.heap.size + 1 < ((w.alloc (.cells #[.string (St s), .int .i64 v, .int .i64 x, .slice A n c] 26)).alloc (.cells #[.string ⟨#[]⟩, .int .i64 0, .int .i64 0, .slice none 0 0] 26)).heap.size := by simp
  obtain ⟨b', hb'⟩ : ∃ b', expB ⟨s, v, x, l⟩ us = b' := ⟨_, rfl⟩
  obtain ⟨gl, hgl⟩ : ∃ gl, goneL us l = gl := ⟨_, rfl⟩
  rw [hb']
  simp only
  rw [hgl]
  have HB' := Lib.hid hb'
  have HGL := Lib.hid hgl
  have HO1 := Lib.hid hO1
  obtain ⟨t, ht⟩ : ∃ t, St s = t := ⟨_, rfl⟩
  have HTT := Lib.hid ht
  rw [ht] at HM HB1 HB2 HO1 HUU hsz ⊢
  clear h hb hS hO1 hT b1 b2 hl ht hb' hgl hU
  go_enter Try.func28, Try.ntmps28
  go_wp2
  generalize ((w.alloc (.cells #[.string t, .int .i64 v, .int .i64 x, .slice A n c] 26)).alloc (.cells #[.string ⟨#[]⟩, .int .i64 0, .int .i64 0, .slice none 0 0] 26)) = w1 at *
  go_loopw [6, 7, 13] (fun sv gv iv wr => ∃ k : Nat, iv = .int .i64 (k : Int) ∧ k ≤ n ∧ Hid (ExpR (fun y => S y ∧ y ≠ w.heap.size ∧ y ≠ w.heap.size + 1) w1 wr us l k sv gv)) (fun _ _ iv _ => n - (intOf iv).toNat)
  case atStart => exact ⟨0, rfl, Nat.zero_le _, ExpR.start _ _ _ _⟩
  case round =>
    obtain ⟨k, rfl, hk, HK⟩ := hrel
    obtain ⟨As, ns, cs, Ag, ng, cg, rfl, rfl, M, V, hns, hng, BS, BG, O⟩ := HK.out
    have HMO := Lib.hid M
    have HOW := Lib.hid V
    have HBS := Lib.hid BS
    have HBG := Lib.hid BG
    clear HK M V BS BG
    by_cases hlt : k < n
    · have hlt' : (k : Int) < (n : Int) := by omega
      have hkl : k < l.length := by rw [HL.out]; exact hlt
      obtain ⟨ad, Ab, cb, rfl, hadS, m0, m1, m2, m3, hsl, hst⟩ := (HM.out.lt.keep O).at_ hlt hkl
      have cU := Lib.hid (fun (W : World) (o : Only [] w1 W) => Contains_any (c := cu) (HUU.out.keep o) hnu l[k].uid)
      obtain ⟨p, hp⟩ : ∃ p, hasU us l[k].uid = p := ⟨_, rfl⟩
      rw [hp] at cU
      have HG := Lib.hid (fun (h : p = true) (w2 w3 : World) (Ag' : Option Addr) (cg' : Nat) (O2 : Only [] wr w2) (O3 : Only (blks Ag) w2 w3) (V3 : Own w3 3 Ag' (ng + 1) cg' (ivs (goneL us (l.take k)) ++ [.int .i64 l[k].uid])) (B3 : ∀ x ∈ blks Ag', x ∈ blks Ag ∨ w2.heap.size ≤ x) => ExpR.gone hkl (hp.trans h) HMO.out hns hng HBS.out HBG.out O O2 O3 V3 B3)
      have HST := Lib.hid (fun (h : p = false) (w2 w3 : World) (As' : Option Addr) (cs' : Nat) (O2 : Only [] wr w2) (O3 : Only (blks As) w2 w3) (M3 : Mo (fun y => (S y ∧ y ≠ w.heap.size ∧ y ≠ w.heap.size + 1) ∧ y ∉ blks Ag) w3 As' (ns + 1) cs' (stayL us (l.take k) ++ [l[k]])) (B3 : ∀ x ∈ blks As', x ∈ blks As ∨ w2.heap.size ≤ x) => ExpR.stay hkl (hp.trans h) (fun x hx hm => (HMO.out.2.1 x hm).2 hx) HOW.out hns hng HBS.out HBG.out O O2 O3 M3 B3)
      have HMS : Hid (∀ (g2 : Nat) (W : World), wr.heap.size ≤ g2 → g2 ∉ blks As → Only [] wr W → Bk W g2 62 #[.int .i64 l[k].uid, .int .i64 l[k].flags, .int .i64 l[k].date, .slice Ab l[k].body.length cb] →
          Ms (fun y => ((S y ∧ y ≠ w.heap.size ∧ y ≠ w.heap.size + 1) ∧ y ∉ blks Ag) ∧ y ∉ blks As) W (some ⟨g2, 0, none⟩) 1 [l[k]]) := fun g2 W h1 h2 o hB => by
        have z := O.size
        refine Ms.of_bk hB ⟨⟨HT.out g2 (by omega), fun hm => by have := HOW.out.lt hm; omega⟩, h2⟩ (hsl.keep o) (fun hp ad' e => ?_)
        have h3 := hst hp ad' e
        exact ⟨⟨h3.1, fun hm => by have := HBG.out _ hm; omega⟩, fun hm => by have := HBS.out _ hm; omega⟩
      have HASlt := Lib.hid (fun x hx => HMO.out.lt (k := x) hx)
      clear hp
      obtain ⟨m, hm⟩ : ∃ m, l[k] = m := ⟨_, rfl⟩
      rw [hm] at m0 m1 m2 m3 cU HG HST HMS
      clear hm hsl hst hadS
      obtain ⟨u, f, d, y⟩ := m
      simp only at m0 m1 m2 m3 cU HG HST HMS
      generalize y.length = z at m3 HMS
      have HTN : Hid (∀ W, Only [] wr W → ∀ y, W.heap.size ≤ y → (S y ∧ y ≠ w.heap.size ∧ y ≠ w.heap.size + 1) ∧ y ∉ blks Ag) := fun W o y hy => ⟨HT.out y (by have := O.size; have := o.size; omega), fun hm => by have := HOW.out.lt hm; have := o.size; omega⟩
      have hO1 : Only [] wr (wr.alloc (.cells #[.int .i64 u, .int .i64 f, .int .i64 d, .slice Ab z cb] 62)) := (Only.refl [] wr).alloc _
      have b3 := Bk.new (wr.alloc (.cells #[.int .i64 u, .int .i64 f, .int .i64 d, .slice Ab z cb] 62)) 3 #[.int .i64 u]
      have b4 := Bk.new (wr.alloc (.cells #[.int .i64 u, .int .i64 f, .int .i64 d, .slice Ab z cb] 62)) 62 #[.int .i64 u, .int .i64 f, .int .i64 d, .slice Ab z cb]
      rw [World.size_alloc] at b3 b4
      have HB3 := Lib.hid b3
      have HB4 := Lib.hid b4
      clear b3 b4
      cases p
      · go_wp2_with (first
          | (refine wpList_append_ms rfl _ _ rfl As ns cs (stayL us (l.take k)) rfl ((HMO.out.keep hO1).keep ((Only.refl [] _).alloc _)) _ 1 1 [⟨u, f, d, y⟩] rfl (HMS.out _ _ (by omega) (fun hm => by have := HASlt.out _ hm; omega) (hO1.alloc _) HB4.out) (HTN.out _ (hO1.alloc _)) (by omega) (ns + 1) rfl ?_; intro As' cs' w3 M3 O3 B3)
          | (go_at_call 61; with_reducible refine (cU.out _ (O.then hO1)).mono ?_; rintro e w2 ⟨rfl, rfl⟩))
        go_roundw
        case rel => exact ⟨k + 1, by go_num, by omega, HST.out (by trivial) _ w3 As' cs' (hO1.alloc _) O3 M3 B3⟩
        case measure => simp [intOf]; omega
      · go_wp2_with (first
          | (refine wpList_append_sl rfl _ _ 28 rfl 3 i0 (.int .i64 0) 8 Try.underlying28 hi hz0 hz1 hz2 rfl Ag ng cg (ivs (goneL us (l.take k))) rfl ((HOW.out.keep hO1).alloc _) _ 1 1 [.int .i64 u] rfl (Sl.of_bk HB3.out) (by intro q hq; simp at hq; subst hq; rfl) (by unfold maxLen; omega) (by omega) ?_; intro Ag' cg' w3 V3 O3 B3)
          | (go_at_call 61; with_reducible refine (cU.out _ (O.then hO1)).mono ?_; rintro e w2 ⟨rfl, rfl⟩))
        go_roundw
        case rel => exact ⟨k + 1, by go_num, by omega, HG.out (by trivial) _ w3 Ag' cg' (hO1.alloc _) O3 V3 B3⟩
        case measure => simp [intOf]; omega
    · obtain rfl : k = n := by omega
      have hsg : stayL us (l.take k) = stayL us l ∧ goneL us (l.take k) = goneL us l := by rw [List.take_of_length_le (by rw [HL.out]; exact Nat.le_refl _)]; exact ⟨rfl, rfl⟩
      have hb'' := HB'.out
      unfold expB at hb''
      simp only at hb''
      rw [hsg.1] at HMO
      rw [hsg.2, HGL.out] at HOW
      have HMG := Lib.hid (messages_any (c := cs) HMO.out.ms (by omega) (fun m hm => HBY.out m (List.mem_filter.1 hm).1) (fun y hy => ⟨HT.out y (by have := O.size; omega), fun hm => by have := HOW.out.lt hm; omega⟩))
      have HG1 := HB1.out.only O (by simp)
      have HG2 := HB2.out.only O (by simp)
      have hns2 : (stayL us l).length = ns := HMO.out.len
      have hng2 : gl.length = ng := by simpa using HOW.out.len
      have HNS := Lib.hid hns2
      have HNG := Lib.hid hng2
      have hgw : w.heap.size + 1 < wr.heap.size := Nat.lt_of_lt_of_le hsz O.size
      have hOw := Lib.hid (HO1.out.then O)
      have HBW := Lib.hid (show w.heap.size ≤ w1.heap.size from by omega)
      subst hb''
      clear hsg hns2 hng2 HB'
      go_wp2_with (go_at_call 62; with_reducible refine HMG.out.mono ?_; rintro e w3 ⟨A3, c3, rfl, M3, O3, B3⟩; obtain ⟨k0, k1, k2, k3⟩ := bk_four (HG1.only O3 (by simp)); have kf := (HG1.only O3 (by simp)).free 3; obtain ⟨j0, j1, j2, j3⟩ := bk_four (HG2.only O3 (by simp)); have f0 := (HG2.only O3 (by simp)).free 0; have f1 := (HG2.only O3 (by simp)).free 1; have f2 := (HG2.only O3 (by simp)).free 2; have f3 := (HG2.only O3 (by simp)).free 3)
      refine box_ret (s := 4) (u := 5) ?_ (w.heap.size + 1) ⟨s, v, x, stayL us l⟩ A3 c3 (.slice Ag ng cg) ?_ ?_ ?_ ?_
      · kernel_rfl
      · rfl
      · rfl
      · rw [bxc_eq HNS.out, HTT.out]
        exact bk_store ((HG2.only O3 (by simp)).far (by simp) _) _ _ _ _
      · have ho : Only [w.heap.size] w3 (w3.setCell ⟨w.heap.size, 3, none⟩ (.slice A3 ns c3)) := (Only.refl _ _).setCell (.inl (by simp)) _
        have hbg := HBG.out
        refine ⟨A3, c3, Ag, cg, by rw [HNG.out], ?_, ?_, fun y hy => by have := hbg y hy; have := HBW.out; omega, ?_⟩
        · show Ms S _ A3 (stayL us l).length (stayL us l)
          rw [HNS.out]
          exact ((M3.ms.only ho (fun y hy hm => by simp at hm; exact hy.1.2.1 hm)).store (fun h => h.1.2.2 rfl) _ _ _ _).mono (fun y hy => hy.1.1)
        · rw [HNG.out]
          have h1 := ((HOW.out.keep O3).only ho (fun y hy hm => by simp at hm; have := hbg y hy; omega))
          exact (h1.only (only_store (Only.refl [w.heap.size + 1] _) (.inl (by simp)) _ _ _ _) (fun y hy hm => by simp at hm; have := hbg y hy; omega)).sl
        · exact only_store (((hOw.out.then O3).setCell (.inr (Nat.le_refl _)) _)) (.inr (by omega)) _ _ _ _
end Go.Proofs.Ythaodlegpjedoaa
