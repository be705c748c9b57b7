/-
  box: Mark, the program's.
-/
import Derived.Test.YthaodlegpjedoaaVGone
import Derived.Test.YthaodlegpjedoaaVRefAdd0
import Derived.Deep.QuietTactic
import Derived.BigQuiet
namespace Go.Proofs.Ythaodlegpjedoaa
open Go.RowKit Go.Instr

/-- The messages behind the first k. -/
def markK (us : List Int) (mode f : Int) (l : List Mg) (k : Nat) : List Mg := (l.take k).map (markM us mode f) ++ l.drop k
theorem markK_len (us : List Int) (mode f : Int) (l : List Mg) (k : Nat) : (markK us mode f l k).length = l.length := by
  unfold markK
  rw [List.length_append, List.length_map, List.length_take, List.length_drop]
  omega
theorem markK_at {us : List Int} {mode f : Int} {l : List Mg} {k : Nat} (h : k < l.length) (h' : k < (markK us mode f l k).length) : (markK us mode f l k)[k] = l[k] := by
  unfold markK at *
  rw [List.getElem_append_right (by rw [List.length_map, List.length_take]; omega)]
  simp [List.length_take, Nat.min_eq_left (Nat.le_of_lt h)]
theorem markK_succ {us : List Int} {mode f : Int} {l : List Mg} {k : Nat} (h : k < l.length) : markK us mode f l (k + 1) = (markK us mode f l k).set k (markM us mode f l[k]) := by
  unfold markK
  have hl : ((l.take k).map (markM us mode f)).length = k := by rw [List.length_map, List.length_take]; omega
  rw [List.set_append_right _ _ (by omega), hl, Nat.sub_self, List.take_succ_eq_append_getElem h, List.map_append, List.append_assoc, List.drop_eq_getElem_cons h]
  rfl
theorem markK_all (us : List Int) (mode f : Int) (l : List Mg) {k : Nat} (h : l.length ≤ k) : markK us mode f l k = l.map (markM us mode f) := by
  unfold markK
  rw [List.take_of_length_le h, List.drop_of_length_le h, List.append_nil]
theorem markK_zero (us : List Int) (mode f : Int) (l : List Mg) : markK us mode f l 0 = l := rfl
theorem markM_no {us : List Int} {mode f : Int} {m : Mg} (h : hasU us m.uid = false) : markM us mode f m = m := by unfold markM; rw [h]; rfl
theorem markM_yes {us : List Int} {mode f : Int} {m : Mg} (h : hasU us m.uid = true) : markM us mode f m = { m with flags := applyV mode m.flags f } := by unfold markM; rw [h]; rfl
theorem turns_no {us : List Int} {mode f : Int} {m : Mg} (h : hasU us m.uid = false) : turns us mode f m = false := by unfold turns; rw [markM_no h]; simp
theorem turns_yes {us : List Int} {mode f : Int} {m : Mg} (h : hasU us m.uid = true) : turns us mode f m = (applyV mode m.flags f != m.flags) := by unfold turns; rw [markM_yes h]
theorem markK_skip {us : List Int} {mode f : Int} {l : List Mg} {k : Nat} (h : k < l.length) (hu : hasU us l[k].uid = false) : markK us mode f l (k + 1) = markK us mode f l k := by
  have h' : k < (markK us mode f l k).length := by rw [markK_len]; exact h
  rw [markK_succ h, markM_no hu, ← markK_at h h', List.set_getElem_self]
theorem markN_skip {us : List Int} {mode f : Int} {l : List Mg} {k : Nat} (h : k < l.length) (hu : hasU us l[k].uid = false) : markN us mode f (l.take (k + 1)) = markN us mode f (l.take k) := by
  rw [markN_succ h, turns_no hu]; rfl
theorem markN_hit {us : List Int} {mode f : Int} {l : List Mg} {k : Nat} (h : k < l.length) (hu : hasU us l[k].uid = true) : markN us mode f (l.take (k + 1)) = markN us mode f (l.take k) + (if (applyV mode l[k].flags f != l[k].flags) = true then 1 else 0) := by
  rw [markN_succ h, turns_yes hu]
/-- The loop's relation. -/
def MkR (T : Nat → Prop) (w : World) (bc : Array Value) (A1 : Option Addr) (n c1 : Nat) (U : Option Addr) (nu : Nat) (us : List Int) (lk : List Mg) (W : World) : Prop :=
  Only [] w W ∧ Bk W w.heap.size 26 bc ∧ Bk W (w.heap.size + 1) 26 #[.string ⟨#[]⟩, .int .i64 0, .int .i64 0, .slice none 0 0] ∧ Sl W U nu (ivs us) ∧ Mo T W A1 n c1 lk
theorem MkR.keep {T : Nat → Prop} {w W W' : World} {bc : Array Value} {A1 : Option Addr} {n c1 : Nat} {U : Option Addr} {nu : Nat} {us : List Int} {lk : List Mg} (h : MkR T w bc A1 n c1 U nu us lk W) (o : Only [] W W') : MkR T w bc A1 n c1 U nu us lk W' :=
  ⟨h.1.then o, h.2.1.only o (by simp), h.2.2.1.only o (by simp), h.2.2.2.1.keep o, h.2.2.2.2.keep o⟩
/-- Mark's answer. -/
def Markd (S : Nat → Prop) (w : World) (b : Bx) (q : Nat) (e : Ending) (w' : World) : Prop :=
  ∃ A' c', e = .returned (.tuple #[bxv b A' c', .int .i64 (q : Int)]) ∧ Ms S w' A' b.l.length b.l ∧ Only [] w w'
set_option maxRecDepth 100000 in
set_option maxHeartbeats 4000000 in
theorem Mark_any {S : Nat → Prop} {w : World} (b : Bx) {A : Option Addr} {c : Nat} (h : Ms S w A b.l.length b.l) (hn : b.l.length ≤ 1000000) (hb : ∀ m ∈ b.l, m.body.length ≤ 1000000) (hS : ∀ x, w.heap.size ≤ x → S x)
    (U : Option Addr) (nu cu : Nat) (us : List Int) (hU : Sl w U nu (ivs us)) (hnu : nu ≤ 140737488355328) (mode fl : Int) :
    Calls Try.prog 32 #[bxv b A c, .slice U nu cu, .int .i64 mode, .int .i64 fl] w (Markd S w (markB b us mode fl) (markN us mode fl b.l)) := by
  obtain ⟨s, v, x, l⟩ := b
  obtain ⟨n, hl⟩ : ∃ n, l.length = n := ⟨_, rfl⟩
  simp only at h hn hb
  rw [bxv_eq hl]
  rw [hl] at h hn
  obtain ⟨T, hTd⟩ : ∃ T : Nat → Prop, T = fun y => S y ∧ y ≠ w.heap.size ∧ y ≠ w.heap.size + 1 := ⟨_, rfl⟩
  have hO1 : Only [] w ((w.alloc (.cells #[.string (St s), .int .i64 v, .int .i64 x, .slice A n c] 26)).alloc (.cells #[.string ⟨#[]⟩, .int .i64 0, .int .i64 0, .slice none 0 0] 26)) := ((Only.refl _ _).alloc _).alloc _
  have hT : ∀ y, w.heap.size + 1 < y → T y := fun y hy => by rw [hTd]; exact ⟨hS y (by omega), by omega, by omega⟩
  have b1 := (Bk.new w 26 #[.string (St s), .int .i64 v, .int .i64 x, .slice A n c]).alloc (.cells #[.string ⟨#[]⟩, .int .i64 0, .int .i64 0, .slice none 0 0] 26)
  have b2 := Bk.new (w.alloc (.cells #[.string (St s), .int .i64 v, .int .i64 x, .slice A n c] 26)) 26 #[.string ⟨#[]⟩, .int .i64 0, .int .i64 0, .slice none 0 0]
  rw [World.size_alloc] at b2
  have HM := Lib.hid (messages_any (c := c) ((h.lt.mono (S' := T) (fun y hy => by rw [hTd]; exact ⟨hy.1, by omega, by omega⟩)).keep hO1) hn hb (fun y hy => hT y (by simp at hy; omega)))
  have HUU := Lib.hid (hU.keep hO1)
  have HULT := Lib.hid (fun hp => hU.lt hp)
  have HB1 := Lib.hid b1
  have HB2 := Lib.hid b2
  have HT := Lib.hid hT
  have HTD := Lib.hid hTd
  have HL := Lib.hid hl
  have HO1 := Lib.hid hO1
  obtain ⟨b', hb'⟩ : ∃ b', markB ⟨s, v, x, l⟩ us mode fl = b' := ⟨_, rfl⟩
  obtain ⟨mn, hmn⟩ : ∃ mn, markN us mode fl l = mn := ⟨_, rfl⟩
  rw [hb']
  simp only
  rw [hmn]
  have HB' := Lib.hid hb'
  have HMN := Lib.hid hmn
  obtain ⟨t, ht⟩ : ∃ t, St s = t := ⟨_, rfl⟩
  have HTT := Lib.hid ht
  rw [ht] at HM HB1 HB2 HO1 HUU ⊢
  clear h hb hS hO1 hT b1 b2 hl ht hb' hmn hU hTd
  go_enter Try.func32, Try.ntmps32
  go_wp2_with (go_at_call 62; with_reducible refine HM.out.mono ?_; rintro e w1 ⟨A1, c1, rfl, M1, O1, B1⟩; obtain ⟨k0, k1, k2, k3⟩ := bk_four (HB1.out.only O1 (by simp)); have kf := (HB1.out.only O1 (by simp)).free 3)
  have hO2 : Only [] w (w1.setCell ⟨w.heap.size, 3, none⟩ (.slice A1 n c1)) := (HO1.out.then O1).setCell (.inr (Nat.le_refl _)) _
  have B1' : Bk (w1.setCell ⟨w.heap.size, 3, none⟩ (.slice A1 n c1)) w.heap.size 26 #[.string t, .int .i64 v, .int .i64 x, .slice A1 n c1] := (HB1.out.only O1 (by simp)).set 3 _
  have B2' : Bk (w1.setCell ⟨w.heap.size, 3, none⟩ (.slice A1 n c1)) (w.heap.size + 1) 26 #[.string ⟨#[]⟩, .int .i64 0, .int .i64 0, .slice none 0 0] := (HB2.out.only O1 (by simp)).far (by simp) _
  have U2 : Sl (w1.setCell ⟨w.heap.size, 3, none⟩ (.slice A1 n c1)) U nu (ivs us) := (HUU.out.keep O1).only' (rs := [w.heap.size]) ((Only.refl _ _).setCell (.inl (by simp)) _) (fun hp ad e hm => by
    have := HULT.out hp ad e
    simp at hm
    omega)
  have M2 : Mo T (w1.setCell ⟨w.heap.size, 3, none⟩ (.slice A1 n c1)) A1 n c1 l := M1.only (rs := [w.heap.size]) ((Only.refl _ _).setCell (.inl (by simp)) _) (fun y hy hm => by simp at hm; rw [HTD.out] at hy; exact hy.2.1 hm)
  have HA1 : Hid (∀ y ∈ blks A1, w.heap.size + 1 < y) := fun y hy => by
    have h1 := B1 y hy
    simp at h1
    omega
  have H0 : Hid (MkR T w #[.string t, .int .i64 v, .int .i64 x, .slice A1 n c1] A1 n c1 U nu us l (w1.setCell ⟨w.heap.size, 3, none⟩ (.slice A1 n c1))) := ⟨hO2, B1', B2', U2, M2⟩
  clear hO2 B1' B2' U2 M2 k0 k1 k2 k3 kf M1 O1 B1 HM HB1 HB2 HUU HO1
  generalize w1.setCell ⟨w.heap.size, 3, none⟩ (.slice A1 n c1) = w2 at *
  go_loopw [10, 20] (fun cv iv wr => ∃ k : Nat, iv = .int .i64 (k : Int) ∧ k ≤ n ∧ cv = .int .i64 (markN us mode fl (l.take k) : Nat) ∧ Hid (MkR T w #[.string t, .int .i64 v, .int .i64 x, .slice A1 n c1] A1 n c1 U nu us (markK us mode fl l k) wr)) (fun _ iv _ => n - (intOf iv).toNat)
  case atStart => exact ⟨0, rfl, Nat.zero_le _, rfl, H0.out⟩
  case round =>
    obtain ⟨k, rfl, hk, rfl, HK⟩ := hrel
    obtain ⟨hQ, hBg, hBr, hUs, hMo⟩ := HK.out
    obtain ⟨k0, k1, k2, k3⟩ := bk_four hBg
    have hgr : w.heap.size < wr.heap.size := hBg.lt
    by_cases hlt : k < n
    · have hlt' : (k : Int) < (n : Int) := by omega
      have hkl : k < l.length := by rw [HL.out]; exact hlt
      have hkl' : k < (markK us mode fl l k).length := by rw [markK_len]; exact hkl
      obtain ⟨g, hA⟩ := hMo.form (by omega)
      obtain ⟨ad, hA2⟩ : ∃ ad, A1 = some ad := ⟨_, hA⟩
      clear hA
      subst hA2
      obtain ⟨Ab, cb, hm, hf0, hf1, hf3⟩ := hMo.apart rfl hkl'
      have hadlt : ad.block < wr.heap.size := hMo.lt (by simp)
      have hadb : (ad.add (k * 4)).block < wr.heap.size := by rw [add_block]; exact hadlt
      have HSET := Lib.hid (fun (W : World) (o : Only [] wr W) (F : Int) => (hMo.keep o).setFlags rfl hkl' F)
      have HSU := Lib.hid (markK_succ (us := us) (mode := mode) (f := fl) hkl)
      rw [markK_at hkl hkl'] at hm HSET
      obtain ⟨m0, m1, m2, m3, hsl, hst⟩ := hm
      have cU := Lib.hid (fun (W : World) (o : Only [] wr W) => Contains_any (c := cu) (hUs.keep o) hnu l[k].uid)
      have HSK := Lib.hid (fun h => markK_skip (us := us) (mode := mode) (f := fl) hkl h)
      have HNK := Lib.hid (fun h => markN_skip (us := us) (mode := mode) (f := fl) hkl h)
      have HNH := Lib.hid (fun h => markN_hit (us := us) (mode := mode) (f := fl) hkl h)
      have HMY := Lib.hid (fun (h : hasU us l[k].uid = true) => markM_yes (mode := mode) (f := fl) h)
      have HKN : Hid (markN us mode fl (l.take k) ≤ 1000000) := by
        show _ ≤ _
        have := markN_le us mode fl (l.take k)
        rw [List.length_take] at this
        omega
      obtain ⟨p, hp⟩ : ∃ p, hasU us l[k].uid = p := ⟨_, rfl⟩
      rw [hp] at cU HSK HNK HNH HMY
      clear hp
      generalize markN us mode fl (l.take k) = N0 at HNK HNH HKN ⊢
      obtain ⟨N1, hN1⟩ : ∃ N1, markN us mode fl (l.take (k + 1)) = N1 := ⟨_, rfl⟩
      obtain ⟨Lk1, hLk1⟩ : ∃ Lk1, markK us mode fl l (k + 1) = Lk1 := ⟨_, rfl⟩
      rw [hN1] at HNK HNH
      rw [hLk1] at HSU HSK
      have HRR : Hid (∀ W : World, MkR T w #[.string t, .int .i64 v, .int .i64 x, .slice (some ad) n c1] (some ad) n c1 U nu us Lk1 W → ∃ k' : Nat, Value.int .i64 ((k : Int) + 1) = .int .i64 (k' : Int) ∧ k' ≤ n ∧ Value.int .i64 (N1 : Nat) = .int .i64 (markN us mode fl (l.take k') : Nat) ∧ Hid (MkR T w #[.string t, .int .i64 v, .int .i64 x, .slice (some ad) n c1] (some ad) n c1 U nu us (markK us mode fl l k') W)) :=
        fun W hW => ⟨k + 1, by simp, by omega, by rw [hN1], by show MkR _ _ _ _ _ _ _ _ _ _ _; rw [hLk1]; exact hW⟩
      clear hN1 hLk1
      generalize l[k] = m at m0 m1 m2 m3 hsl hst cU HSET HSU HNH HMY
      obtain ⟨u, f, d, y⟩ := m
      simp only at m0 m1 m2 m3 hsl hst cU HSET HSU HNH HMY
      generalize y.length = z at m3
      clear hsl hst hf0 hf3
      have hnb := HKN.out
      generalize markK us mode fl l k = Lk at HK HSET HSU HSK hMo hkl' ⊢
      have HM : Hid (n - (intOf (.int .i64 ((k : Int) + 1))).toNat < n - (intOf (.int .i64 (k : Int))).toNat) := by
        show _ < _
        simp [intOf]
        omega
      have hO1 : Only [] wr (wr.alloc (.cells #[.int .i64 u, .int .i64 f, .int .i64 d, .slice Ab z cb] 62)) := (Only.refl [] wr).alloc _
      have HB5 := Lib.hid (Bk.new wr 62 #[.int .i64 u, .int .i64 f, .int .i64 d, .slice Ab z cb])
      have HMO := Lib.hid hMo
      clear hQ hBg hBr hUs hMo
      cases p
      · have e1 := HSK.out (by trivial)
        have e2 := HNK.out (by trivial)
        subst e1 e2
        go_wp2_with (go_at_call 61; with_reducible refine (cU.out _ hO1).mono ?_; rintro e w2 ⟨rfl, rfl⟩)
        exact ⟨HRR.out _ (HK.out.keep hO1), HM.out⟩
      · obtain ⟨F, hF⟩ : ∃ F, applyV mode f fl = F := ⟨_, rfl⟩
        have HAP := Lib.hid (fun W => Apply_any mode f fl W)
        have e2 := HNH.out (by trivial)
        have e1 := HSU.out
        rw [HMY.out (by trivial)] at e1
        try simp only at e1
        rw [hF] at HAP e1 e2
        have hset := fun W o => HSET.out W o F
        rw [← e1] at hset
        have HS2 := Lib.hid hset
        have HNEW : Hid (∀ W, Mo T W (some ad) n c1 Lk1 → W.cell? ⟨(ad.add (k * 4)).block, (ad.add (k * 4)).off + 1, none⟩ = some (.int .i64 F)) := fun W h => by
          have hk1 : k < Lk1.length := by rw [e1, List.length_set]; exact hkl'
          obtain ⟨Ab2, cb2, hm2, _⟩ := h.apart rfl hk1
          have h5 := hm2.c1
          have : Lk1[k] = ⟨u, F, d, y⟩ := by simp [e1]
          rw [this] at h5
          exact h5
        clear hset e1 hF HSET HSU HMY HSK HNK HNH
        go_wp2_with (go_at_call 61; with_reducible refine (cU.out _ hO1).mono ?_; rintro e w2 ⟨rfl, rfl⟩)
        have M1 := hO1.cellSome m1 (by simp)
        have HF1 := Lib.hid ((hO1.frozen (p := ⟨(ad.add (k * 4)).block, (ad.add (k * 4)).off + 1, none⟩) hadb (by simp)).trans hf1)
        have HLT := Lib.hid (show (⟨(ad.add (k * 4)).block, (ad.add (k * 4)).off + 1, none⟩ : Addr).block < (wr.alloc (.cells #[.int .i64 u, .int .i64 f, .int .i64 d, .slice Ab z cb] 62)).heap.size from Nat.lt_of_lt_of_le hadb hO1.size)
        have k3' := hO1.cellSome k3 (by simp)
        obtain ⟨n0, n1, n2, n3⟩ := bk_four HB5.out
        have HK5 := Lib.hid (HK.out.keep hO1)
        have HS5 := Lib.hid (fun W (o : Only [] (wr.alloc (.cells #[.int .i64 u, .int .i64 f, .int .i64 d, .slice Ab z cb] 62)) W) => HS2.out W (hO1.then o))
        have hnad : wr.heap.size ≠ ad.block := by omega
        clear k0 k1 k2 k3 m0 m1 m2 m3 HK HS2 hO1 cU HMO hf1
        generalize wr.heap.size = g5 at *
        generalize wr.alloc (.cells #[.int .i64 u, .int .i64 f, .int .i64 d, .slice Ab z cb] 62) = W5 at *
        apply region_writes (rs := [ad.block]) (Ws := [10]) (by kernel_rfl) (by kernel_rfl)
        apply rel_val (hrf := Tk_refl)
        case hw => rfl
        case hy => intro wS hN hF; skip; first | (go_simp; done) | (go_simp; with_reducible rfl)
        case' hk => skip
        try simp only [Act.put, List.setIfInBounds_toArray, List.set_cons_zero, List.set_cons_succ]
        apply rel_val (hrf := Tk_refl)
        case hw => rfl
        case hy => intro wS hN hF; have hO := hN.pre (by kernel_rfl); have q0 := hO.cellSome k3' (by simp); first | (go_simp; done) | (go_simp; with_reducible rfl)
        case' hk => skip
        try simp only [Act.put, List.setIfInBounds_toArray, List.set_cons_zero, List.set_cons_succ]
        apply rel_val (hrf := Tk_refl)
        case hw => rfl
        case hy => intro wS hN hF; skip; first | (go_simp; done) | (go_simp; with_reducible rfl)
        case' hk => skip
        try simp only [Act.put, List.setIfInBounds_toArray, List.set_cons_zero, List.set_cons_succ]
        apply rel_val (hrf := Tk_refl)
        case hw => rfl
        case hy => intro wS hN hF; skip; first | (go_simp; done) | (go_simp; with_reducible rfl)
        case' hk => skip
        try simp only [Act.put, List.setIfInBounds_toArray, List.set_cons_zero, List.set_cons_succ]
        apply rel_val (hrf := Tk_refl)
        case hw => rfl
        case hy => intro wS hN hF; skip; first | (go_simp; done) | (go_simp; with_reducible rfl)
        case' hk => skip
        try simp only [Act.put, List.setIfInBounds_toArray, List.set_cons_zero, List.set_cons_succ]
        apply rel_val (hrf := Tk_refl)
        case hw => rfl
        case hy => intro wS hN hF; have hO := hN.pre (by kernel_rfl); have q0 := hO.cellSome n1 (by simp); first | (go_simp; done) | (go_simp; with_reducible rfl)
        case' hk => skip
        try simp only [Act.put, List.setIfInBounds_toArray, List.set_cons_zero, List.set_cons_succ]
        apply rel_val (hrf := Tk_refl)
        case hw => rfl
        case hy => intro wS hN hF; skip; first | (go_simp; done) | (go_simp; with_reducible rfl)
        case' hk => skip
        try simp only [Act.put, List.setIfInBounds_toArray, List.set_cons_zero, List.set_cons_succ]
        apply rel_call (v := .int .i64 F) (f := 67) (args := #[.int .i64 mode, .int .i64 f, .int .i64 fl])
        case hw => rfl
        case hy => intro wS hN hF; go_simp
        case hc => intro wS hN hF; exact call_same (HAP.out wS)
        case' hk => skip
        try simp only [Act.put, List.setIfInBounds_toArray, List.set_cons_zero, List.set_cons_succ]
        apply rel_val (hrf := Tk_refl)
        case hw => rfl
        case hy => intro wS hN hF; skip; first | (go_simp; done) | (go_simp; with_reducible rfl)
        case' hk => skip
        try simp only [Act.put, List.setIfInBounds_toArray, List.set_cons_zero, List.set_cons_succ]
        apply rel_val (hrf := Tk_refl)
        case hw => rfl
        case hy => intro wS hN hF; skip; first | (go_simp; done) | (go_simp; with_reducible rfl)
        case' hk => skip
        try simp only [Act.put, List.setIfInBounds_toArray, List.set_cons_zero, List.set_cons_succ]
        apply rel_fact (φ := fun _ W' => Mo T W' (some ad) n c1 Lk1) (x := 9999) (hs := lasts0 (by kernel_rfl) (fun v W1 W2 h ho => h.keep ho))
        case hw => rfl
        case hy =>
          intro wS hN hF
          have hO := hN.pre (by kernel_rfl)
          have hOW : Only [] W5 wS := (Only.refl [] _).drew.then hO
          have hc := hOW.cellSome M1 (by simp)
          have hf := (hOW.frozen (p := ⟨(ad.add (k * 4)).block, (ad.add (k * 4)).off + 1, none⟩) HLT.out (by simp)).trans HF1.out
          refine gives_skip (w' := wS.setCell ⟨(ad.add (k * 4)).block, (ad.add (k * 4)).off + 1, none⟩ (.int .i64 F)) ?_ (HS5.out wS hOW) (Tk_writes rfl ((Only.refl [ad.block] _).setCell (.inl (by simp [add_block])) _) (fun y hy => .inl hy))
          go_simp
        case' hk => intro v10
        try simp only [Act.put]
        refine rel_end ?_
        intro wS hO2 hF
        have hMo := facts_at hF 0 rfl
        clear hF
        have hA := HA1.out ad.block (by simp)
        have hO : Only [ad.block] W5 wS := ((Only.refl [ad.block] W5).drew).trans hO2.only (fun x hx => .inl hx)
        obtain ⟨q0, q1, q2, q3, q4⟩ := HK5.out
        have HRW : Hid (MkR T w #[.string t, .int .i64 v, .int .i64 x, .slice (some ad) n c1] (some ad) n c1 U nu us Lk1 wS) :=
          ⟨q0.trans hO (fun x hx => .inr (by simp at hx; omega)), q1.only hO (by simp; omega), q2.only hO (by simp; omega), q3.only' hO (fun hp a e hm => by have := HULT.out hp a e; simp at hm; omega), hMo⟩
        have c3 := hO.cellSome k3' (by simp; omega)
        have c1' := hO.cellSome n1 (by simp; omega)
        have cf := HNEW.out wS hMo
        clear hO hO2 q0 q1 q2 q3 q4 hMo HK5 HS5 HB5 n0 n1 n2 n3 k3' M1
        have hn1 : (N0 : Int) + 1 ≤ 9223372036854775807 := by omega
        have hn0 : -9223372036854775808 ≤ (N0 : Int) + 1 := by omega
        by_cases hne : F = f
        · subst hne
          have e3 : N1 = N0 := by simpa using e2
          subst e3
          clear e2
          go_wp2_with fail
          go_quiet (fail)
          go_wp2_with fail
          exact ⟨HRR.out _ (HRW.out.keep ((Only.refl [] _).drewN _)), HM.out⟩
        · have e3 : N1 = N0 + 1 := by simpa [hne] using e2
          subst e3
          have hc : ((N0 + 1 : Nat) : Int) = (N0 : Int) + 1 := by simp
          rw [hc] at HRR
          clear hc
          clear e2
          have hn2 : (N0 : Int) < 1000001 := by omega
          clear hn0 hn1 hnb
          go_wp2_with fail
          go_quiet (fail)
          have hw : wrap64 ((N0 : Int) + 1) = (N0 : Int) + 1 := IntWalk.wrap64_in _ (by omega)
          rw [← hw] at HRR
          clear hw hn2
          generalize (N0 : Int) = N2 at *
          go_wp2_with fail
          exact ⟨HRR.out _ (HRW.out.keep ((Only.refl [] _).drewN _)), HM.out⟩
    · obtain rfl : k = n := by omega
      have hsg : markK us mode fl l k = l.map (markM us mode fl) ∧ l.take k = l := ⟨markK_all us mode fl l (by rw [HL.out]; exact Nat.le_refl _), List.take_of_length_le (by rw [HL.out]; exact Nat.le_refl _)⟩
      have hb'' := HB'.out
      unfold markB at hb''
      simp only at hb''
      rw [hsg.1] at hMo
      rw [hsg.2, HMN.out]
      clear hsg HB'
      subst hb''
      obtain ⟨j0, j1, j2, j3⟩ := bk_four hBr
      have f0 := hBr.free 0
      have f1 := hBr.free 1
      have f2 := hBr.free 2
      have f3 := hBr.free 3
      have HR := Lib.hid hBr
      have HQ := Lib.hid hQ
      have HMO := Lib.hid hMo
      have hrs : w.heap.size + 1 < wr.heap.size := hBr.lt
      clear hBg hBr hUs hQ hMo HK
      go_wp2_with fail
      refine box_ret (s := 8) (u := 9) ?_ (w.heap.size + 1) ⟨s, v, x, l.map (markM us mode fl)⟩ A1 c1 (.int .i64 (mn : Int)) ?_ ?_ ?_ ?_
      · kernel_rfl
      · rfl
      · rfl
      · rw [bxc_eq (HMO.out.len), HTT.out]
        exact bk_store HR.out _ _ _ _
      · refine ⟨A1, c1, rfl, ?_, ?_⟩
        · show Ms S _ A1 (l.map (markM us mode fl)).length (l.map (markM us mode fl))
          rw [HMO.out.len]
          exact (HMO.out.ms.store (fun h => by rw [HTD.out] at h; exact h.2.2 rfl) _ _ _ _).mono (fun y hy => by rw [HTD.out] at hy; exact hy.1)
        · exact only_store HQ.out (.inr (by omega)) _ _ _ _
end Go.Proofs.Ythaodlegpjedoaa
