/-
  Texts of the seat, laid one behind the other: VMark SWords Inv Inv2.
-/
import Derived.Test.YtgnilldcfpgpaaaGreatDoorY9
import Derived.Deep.QuietTactic
import Derived.BigQuiet
import Derived.Test.YtgnilldcfpgpaaaGreatDoorY6
import Derived.Test.YtgnilldcfpgpaaaGreatDoorY3
namespace Go.Proofs.YtgnilldcfpgpaaaGreatDoor
open Go.RowKit Go.Instr
def markK (us : List Int) (mode f : Int) (l : List Mg) (k : Nat) : List Mg := (l.take k).map (markM us mode f) ++ l.drop k
theorem markK_len (us : List Int) (mode f : Int) (l : List Mg) (k : Nat) : (markK us mode f l k).length = l.length := by
  unfold markK
  rw [List.length_append, List.length_map, List.length_take, List.length_drop]
  omega
theorem markK_at {us : List Int} {mode f : Int} {l : List Mg} {k : Nat} (h : k < l.length) (h' : k < (markK us mode f l k).length) : (markK us mode f l k)[k] = l[k] := by
  unfold markK at *
  rw [List.getElem_append_right (by rw [List.length_map, List.length_take]; omega)]
  simp [List.length_take, Nat.min_eq_left (Nat.le_of_lt h)]
theorem markK_succ {us : List Int} {mode f : Int} {l : List Mg} {k : Nat} (h : k < l.length) : markK us mode f l (k + 1) = (markK us mode f l k).set k (markM us mode f l[k]) := by
  unfold markK
  have hl : ((l.take k).map (markM us mode f)).length = k := by rw [List.length_map, List.length_take]; omega
  rw [List.set_append_right _ _ (by omega), hl, Nat.sub_self, List.take_succ_eq_append_getElem h, List.map_append, List.append_assoc, List.drop_eq_getElem_cons h]
  rfl
theorem markK_all (us : List Int) (mode f : Int) (l : List Mg) {k : Nat} (h : l.length ≤ k) : markK us mode f l k = l.map (markM us mode f) := by
  unfold markK
  rw [List.take_of_length_le h, List.drop_of_length_le h, List.append_nil]
theorem markM_no {us : List Int} {mode f : Int} {m : Mg} (h : hasU us m.uid = false) : markM us mode f m = m := by unfold markM; rw [h]; rfl
theorem markM_yes {us : List Int} {mode f : Int} {m : Mg} (h : hasU us m.uid = true) : markM us mode f m = { m with flags := applyV mode m.flags f } := by unfold markM; rw [h]; rfl
theorem turns_no {us : List Int} {mode f : Int} {m : Mg} (h : hasU us m.uid = false) : turns us mode f m = false := by unfold turns; rw [markM_no h]; simp
theorem turns_yes {us : List Int} {mode f : Int} {m : Mg} (h : hasU us m.uid = true) : turns us mode f m = (applyV mode m.flags f != m.flags) := by unfold turns; rw [markM_yes h]
theorem markK_skip {us : List Int} {mode f : Int} {l : List Mg} {k : Nat} (h : k < l.length) (hu : hasU us l[k].uid = false) : markK us mode f l (k + 1) = markK us mode f l k := by
  have h' : k < (markK us mode f l k).length := by rw [markK_len]; exact h
  rw [markK_succ h, markM_no hu, ← markK_at h h', List.set_getElem_self]
theorem markN_skip {us : List Int} {mode f : Int} {l : List Mg} {k : Nat} (h : k < l.length) (hu : hasU us l[k].uid = false) : markN us mode f (l.take (k + 1)) = markN us mode f (l.take k) := by
  rw [markN_succ h, turns_no hu]; rfl
theorem markN_hit {us : List Int} {mode f : Int} {l : List Mg} {k : Nat} (h : k < l.length) (hu : hasU us l[k].uid = true) : markN us mode f (l.take (k + 1)) = markN us mode f (l.take k) + (if (applyV mode l[k].flags f != l[k].flags) = true then 1 else 0) := by
  rw [markN_succ h, turns_yes hu]
def MkR (T : Nat → Prop) (w : World) (bc : Array Value) (A1 : Option Addr) (n c1 : Nat) (U : Option Addr) (nu : Nat) (us : List Int) (lk : List Mg) (W : World) : Prop :=
  Only [] w W ∧ Bk W w.heap.size 71 bc ∧ Bk W (w.heap.size + 1) 71 #[.string ⟨#[]⟩, .int .i64 0, .int .i64 0, .slice none 0 0] ∧ Sl W U nu (ivs us) ∧ Mo T W A1 n c1 lk
theorem MkR.keep {T : Nat → Prop} {w W W' : World} {bc : Array Value} {A1 : Option Addr} {n c1 : Nat} {U : Option Addr} {nu : Nat} {us : List Int} {lk : List Mg} (h : MkR T w bc A1 n c1 U nu us lk W) (o : Only [] W W') : MkR T w bc A1 n c1 U nu us lk W' :=
  ⟨h.1.then o, h.2.1.only o (by simp), h.2.2.1.only o (by simp), h.2.2.2.1.keep o, h.2.2.2.2.keep o⟩
def Markd (S : Nat → Prop) (w : World) (b : Bx) (q : Nat) (e : Ending) (w' : World) : Prop :=
  ∃ A' c', e = .returned (.tuple #[bxv b A' c', .int .i64 (q : Int)]) ∧ Ms S w' A' b.l.length b.l ∧ Only [] w w'
set_option maxRecDepth 100000 in
set_option maxHeartbeats 4000000 in
theorem Mark_any {S : Nat → Prop} {w : World} (b : Bx) {A : Option Addr} {c : Nat} (h : Ms S w A b.l.length b.l) (hn : b.l.length ≤ 1000000) (hb : ∀ m ∈ b.l, m.body.length ≤ 1000000) (hS : ∀ x, w.heap.size ≤ x → S x)
    (U : Option Addr) (nu cu : Nat) (us : List Int) (hU : Sl w U nu (ivs us)) (hnu : nu ≤ 140737488355328) (mode fl : Int) :
    Calls Tryz.prog 82 #[bxv b A c, .slice U nu cu, .int .i64 mode, .int .i64 fl] w (Markd S w (markB b us mode fl) (markN us mode fl b.l)) := by
  obtain ⟨s, v, x, l⟩ := b
  obtain ⟨n, hl⟩ : ∃ n, l.length = n := ⟨_, rfl⟩
  simp only at h hn hb
  rw [bxv_eq hl]
  rw [hl] at h hn
  obtain ⟨T, hTd⟩ : ∃ T : Nat → Prop, T = fun y => S y ∧ y ≠ w.heap.size ∧ y ≠ w.heap.size + 1 := ⟨_, rfl⟩
  have hO1 : Only [] w ((w.alloc (.cells #[.string (St s), .int .i64 v, .int .i64 x, .slice A n c] 71)).alloc (.cells #[.string ⟨#[]⟩, .int .i64 0, .int .i64 0, .slice none 0 0] 71)) := ((Only.refl _ _).alloc _).alloc _
  have hT : ∀ y, w.heap.size + 1 < y → T y := fun y hy => by rw [hTd]; exact ⟨hS y (by omega), by omega, by omega⟩
  have b1 := (Bk.new w 71 #[.string (St s), .int .i64 v, .int .i64 x, .slice A n c]).alloc (.cells #[.string ⟨#[]⟩, .int .i64 0, .int .i64 0, .slice none 0 0] 71)
  have b2 := Bk.new (w.alloc (.cells #[.string (St s), .int .i64 v, .int .i64 x, .slice A n c] 71)) 71 #[.string ⟨#[]⟩, .int .i64 0, .int .i64 0, .slice none 0 0]
  rw [World.size_alloc] at b2
  have HM := Lib.hid (messages_any (c := c) ((h.lt.mono (S' := T) (fun y hy => by rw [hTd]; exact ⟨hy.1, by omega, by omega⟩)).keep hO1) hn hb (fun y hy => hT y (by simp at hy; omega)))
  have HUU := Lib.hid (hU.keep hO1)
  have HULT := Lib.hid (fun hp => hU.lt hp)
  have HB1 := Lib.hid b1
  have HB2 := Lib.hid b2
  have HT := Lib.hid hT
  have HTD := Lib.hid hTd
  have HL := Lib.hid hl
  have HO1 := Lib.hid hO1
  obtain ⟨b', hb'⟩ : ∃ b', markB ⟨s, v, x, l⟩ us mode fl = b' := ⟨_, rfl⟩
  obtain ⟨mn, hmn⟩ : ∃ mn, markN us mode fl l = mn := ⟨_, rfl⟩
  rw [hb']
  simp only
  rw [hmn]
  have HB' := Lib.hid hb'
  have HMN := Lib.hid hmn
  obtain ⟨t, ht⟩ : ∃ t, St s = t := ⟨_, rfl⟩
  have HTT := Lib.hid ht
  rw [ht] at HM HB1 HB2 HO1 HUU ⊢
  clear h hb hS hO1 hT b1 b2 hl ht hb' hmn hU hTd
  go_enter Tryz.func82, Tryz.ntmps82
  go_wp2_with (go_at_call 146; with_reducible refine HM.out.mono ?_; rintro e w1 ⟨A1, c1, rfl, M1, O1, B1⟩; obtain ⟨k0, k1, k2, k3⟩ := bk_four (HB1.out.only O1 (by simp)); have kf := (HB1.out.only O1 (by simp)).free 3)
  have hO2 : Only [] w (w1.setCell ⟨w.heap.size, 3, none⟩ (.slice A1 n c1)) := (HO1.out.then O1).setCell (.inr (Nat.le_refl _)) _
  have B1' : Bk (w1.setCell ⟨w.heap.size, 3, none⟩ (.slice A1 n c1)) w.heap.size 71 #[.string t, .int .i64 v, .int .i64 x, .slice A1 n c1] := (HB1.out.only O1 (by simp)).set 3 _
  have B2' : Bk (w1.setCell ⟨w.heap.size, 3, none⟩ (.slice A1 n c1)) (w.heap.size + 1) 71 #[.string ⟨#[]⟩, .int .i64 0, .int .i64 0, .slice none 0 0] := (HB2.out.only O1 (by simp)).far (by simp) _
  have U2 : Sl (w1.setCell ⟨w.heap.size, 3, none⟩ (.slice A1 n c1)) U nu (ivs us) := (HUU.out.keep O1).only' (rs := [w.heap.size]) ((Only.refl _ _).setCell (.inl (by simp)) _) (fun hp ad e hm => by
    have := HULT.out hp ad e
    simp at hm
    omega)
  have M2 : Mo T (w1.setCell ⟨w.heap.size, 3, none⟩ (.slice A1 n c1)) A1 n c1 l := M1.only (rs := [w.heap.size]) ((Only.refl _ _).setCell (.inl (by simp)) _) (fun y hy hm => by simp at hm; rw [HTD.out] at hy; exact hy.2.1 hm)
  have HA1 : Hid (∀ y ∈ blks A1, w.heap.size + 1 < y) := fun y hy => by
    have h1 := B1 y hy
    simp at h1
    omega
  have H0 : Hid (MkR T w #[.string t, .int .i64 v, .int .i64 x, .slice A1 n c1] A1 n c1 U nu us l (w1.setCell ⟨w.heap.size, 3, none⟩ (.slice A1 n c1))) := ⟨hO2, B1', B2', U2, M2⟩
  clear hO2 B1' B2' U2 M2 k0 k1 k2 k3 kf M1 O1 B1 HM HB1 HB2 HUU HO1
  generalize w1.setCell ⟨w.heap.size, 3, none⟩ (.slice A1 n c1) = w2 at *
  go_loopw [10, 20] (fun cv iv wr => ∃ k : Nat, iv = .int .i64 (k : Int) ∧ k ≤ n ∧ cv = .int .i64 (markN us mode fl (l.take k) : Nat) ∧ Hid (MkR T w #[.string t, .int .i64 v, .int .i64 x, .slice A1 n c1] A1 n c1 U nu us (markK us mode fl l k) wr)) (fun _ iv _ => n - (intOf iv).toNat)
  case atStart => exact ⟨0, rfl, Nat.zero_le _, rfl, H0.out⟩
  case round =>
    obtain ⟨k, rfl, hk, rfl, HK⟩ := hrel
    obtain ⟨hQ, hBg, hBr, hUs, hMo⟩ := HK.out
    obtain ⟨k0, k1, k2, k3⟩ := bk_four hBg
    have hgr : w.heap.size < wr.heap.size := hBg.lt
    by_cases hlt : k < n
    · have hlt' : (k : Int) < (n : Int) := by omega
      have hkl : k < l.length := by rw [HL.out]; exact hlt
      have hkl' : k < (markK us mode fl l k).length := by rw [markK_len]; exact hkl
      obtain ⟨g, hA⟩ := hMo.form (by omega)
      obtain ⟨ad, hA2⟩ : ∃ ad, A1 = some ad := ⟨_, hA⟩
      clear hA
      subst hA2
      obtain ⟨Ab, cb, hm, hf0, hf1, hf3⟩ := hMo.apart rfl hkl'
      have hadlt : ad.block < wr.heap.size := hMo.lt (by simp)
      have hadb : (ad.add (k * 4)).block < wr.heap.size := by rw [add_block]; exact hadlt
      have HSET := Lib.hid (fun (W : World) (o : Only [] wr W) (F : Int) => (hMo.keep o).setFlags rfl hkl' F)
      have HSU := Lib.hid (markK_succ (us := us) (mode := mode) (f := fl) hkl)
      rw [markK_at hkl hkl'] at hm HSET
      obtain ⟨m0, m1, m2, m3, hsl, hst⟩ := hm
      have cU := Lib.hid (fun (W : World) (o : Only [] wr W) => Contains_any (c := cu) (hUs.keep o) hnu l[k].uid)
      have HSK := Lib.hid (fun h => markK_skip (us := us) (mode := mode) (f := fl) hkl h)
      have HNK := Lib.hid (fun h => markN_skip (us := us) (mode := mode) (f := fl) hkl h)
      have HNH := Lib.hid (fun h => markN_hit (us := us) (mode := mode) (f := fl) hkl h)
      have HMY := Lib.hid (fun (h : hasU us l[k].uid = true) => markM_yes (mode := mode) (f := fl) h)
      have HKN : Hid (markN us mode fl (l.take k) ≤ 1000000) := by
        show _ ≤ _
        have := markN_le us mode fl (l.take k)
        rw [List.length_take] at this
        omega
      obtain ⟨p, hp⟩ : ∃ p, hasU us l[k].uid = p := ⟨_, rfl⟩
      rw [hp] at cU HSK HNK HNH HMY
      clear hp
      generalize markN us mode fl (l.take k) = N0 at HNK HNH HKN ⊢
      obtain ⟨N1, hN1⟩ : ∃ N1, markN us mode fl (l.take (k + 1)) = N1 := ⟨_, rfl⟩
      obtain ⟨Lk1, hLk1⟩ : ∃ Lk1, markK us mode fl l (k + 1) = Lk1 := ⟨_, rfl⟩
      rw [hN1] at HNK HNH
      rw [hLk1] at HSU HSK
      have HRR : Hid (∀ W : World, MkR T w #[.string t, .int .i64 v, .int .i64 x, .slice (some ad) n c1] (some ad) n c1 U nu us Lk1 W → ∃ k' : Nat, Value.int .i64 ((k : Int) + 1) = .int .i64 (k' : Int) ∧ k' ≤ n ∧ Value.int .i64 (N1 : Nat) = .int .i64 (markN us mode fl (l.take k') : Nat) ∧ Hid (MkR T w #[.string t, .int .i64 v, .int .i64 x, .slice (some ad) n c1] (some ad) n c1 U nu us (markK us mode fl l k') W)) :=
        fun W hW => ⟨k + 1, by simp, by omega, by rw [hN1], by show MkR _ _ _ _ _ _ _ _ _ _ _; rw [hLk1]; exact hW⟩
      clear hN1 hLk1
      generalize l[k] = m at m0 m1 m2 m3 hsl hst cU HSET HSU HNH HMY
      obtain ⟨u, f, d, y⟩ := m
      simp only at m0 m1 m2 m3 hsl hst cU HSET HSU HNH HMY
      generalize y.length = z at m3
      clear hsl hst hf0 hf3
      have hnb := HKN.out
      generalize markK us mode fl l k = Lk at HK HSET HSU HSK hMo hkl' ⊢
      have HM : Hid (n - (intOf (.int .i64 ((k : Int) + 1))).toNat < n - (intOf (.int .i64 (k : Int))).toNat) := by
        show _ < _
        simp [intOf]
        omega
      have hO1 : Only [] wr (wr.alloc (.cells #[.int .i64 u, .int .i64 f, .int .i64 d, .slice Ab z cb] 82)) := (Only.refl [] wr).alloc _
      have HB5 := Lib.hid (Bk.new wr 82 #[.int .i64 u, .int .i64 f, .int .i64 d, .slice Ab z cb])
      have HMO := Lib.hid hMo
      clear hQ hBg hBr hUs hMo
      cases p
      · have e1 := HSK.out (by trivial)
        have e2 := HNK.out (by trivial)
        subst e1 e2
        go_wp2_with (go_at_call 147; with_reducible refine (cU.out _ hO1).mono ?_; rintro e w2 ⟨rfl, rfl⟩)
        exact ⟨HRR.out _ (HK.out.keep hO1), HM.out⟩
      · obtain ⟨F, hF⟩ : ∃ F, applyV mode f fl = F := ⟨_, rfl⟩
        have HAP := Lib.hid (fun W => Apply_any mode f fl W)
        have e2 := HNH.out (by trivial)
        have e1 := HSU.out
        rw [HMY.out (by trivial)] at e1
        try simp only at e1
        rw [hF] at HAP e1 e2
        have hset := fun W o => HSET.out W o F
        rw [← e1] at hset
        have HS2 := Lib.hid hset
        have HNEW : Hid (∀ W, Mo T W (some ad) n c1 Lk1 → W.cell? ⟨(ad.add (k * 4)).block, (ad.add (k * 4)).off + 1, none⟩ = some (.int .i64 F)) := fun W h => by
          have hk1 : k < Lk1.length := by rw [e1, List.length_set]; exact hkl'
          obtain ⟨Ab2, cb2, hm2, _⟩ := h.apart rfl hk1
          have h5 := hm2.c1
          have : Lk1[k] = ⟨u, F, d, y⟩ := by simp [e1]
          rw [this] at h5
          exact h5
        clear hset e1 hF HSET HSU HMY HSK HNK HNH
        go_wp2_with (go_at_call 147; with_reducible refine (cU.out _ hO1).mono ?_; rintro e w2 ⟨rfl, rfl⟩)
        have M1 := hO1.cellSome m1 (by simp)
        have HF1 := Lib.hid ((hO1.frozen (p := ⟨(ad.add (k * 4)).block, (ad.add (k * 4)).off + 1, none⟩) hadb (by simp)).trans hf1)
        have HLT := Lib.hid (show (⟨(ad.add (k * 4)).block, (ad.add (k * 4)).off + 1, none⟩ : Addr).block < (wr.alloc (.cells #[.int .i64 u, .int .i64 f, .int .i64 d, .slice Ab z cb] 82)).heap.size from Nat.lt_of_lt_of_le hadb hO1.size)
        have k3' := hO1.cellSome k3 (by simp)
        obtain ⟨n0, n1, n2, n3⟩ := bk_four HB5.out
        have HK5 := Lib.hid (HK.out.keep hO1)
        have HS5 := Lib.hid (fun W (o : Only [] (wr.alloc (.cells #[.int .i64 u, .int .i64 f, .int .i64 d, .slice Ab z cb] 82)) W) => HS2.out W (hO1.then o))
        have hnad : wr.heap.size ≠ ad.block := by omega
        clear k0 k1 k2 k3 m0 m1 m2 m3 HK HS2 hO1 cU HMO hf1
        generalize wr.heap.size = g5 at *
        generalize wr.alloc (.cells #[.int .i64 u, .int .i64 f, .int .i64 d, .slice Ab z cb] 82) = W5 at *
        apply region_writes (rs := [ad.block]) (Ws := [10]) (by kernel_rfl) (by kernel_rfl)
        apply rel_val (hrf := Tk_refl)
        case hw => rfl
        case hy => intro wS hN hF; skip; first | (go_simp; done) | (go_simp; with_reducible rfl)
        case' hk => skip
        try simp only [Act.put, List.setIfInBounds_toArray, List.set_cons_zero, List.set_cons_succ]
        apply rel_val (hrf := Tk_refl)
        case hw => rfl
        case hy => intro wS hN hF; have hO := hN.pre (by kernel_rfl); have q0 := hO.cellSome k3' (by simp); first | (go_simp; done) | (go_simp; with_reducible rfl)
        case' hk => skip
        try simp only [Act.put, List.setIfInBounds_toArray, List.set_cons_zero, List.set_cons_succ]
        apply rel_val (hrf := Tk_refl)
        case hw => rfl
        case hy => intro wS hN hF; skip; first | (go_simp; done) | (go_simp; with_reducible rfl)
        case' hk => skip
        try simp only [Act.put, List.setIfInBounds_toArray, List.set_cons_zero, List.set_cons_succ]
        apply rel_val (hrf := Tk_refl)
        case hw => rfl
        case hy => intro wS hN hF; skip; first | (go_simp; done) | (go_simp; with_reducible rfl)
        case' hk => skip
        try simp only [Act.put, List.setIfInBounds_toArray, List.set_cons_zero, List.set_cons_succ]
        apply rel_val (hrf := Tk_refl)
        case hw => rfl
        case hy => intro wS hN hF; skip; first | (go_simp; done) | (go_simp; with_reducible rfl)
        case' hk => skip
        try simp only [Act.put, List.setIfInBounds_toArray, List.set_cons_zero, List.set_cons_succ]
        apply rel_val (hrf := Tk_refl)
        case hw => rfl
        case hy => intro wS hN hF; have hO := hN.pre (by kernel_rfl); have q0 := hO.cellSome n1 (by simp); first | (go_simp; done) | (go_simp; with_reducible rfl)
        case' hk => skip
        try simp only [Act.put, List.setIfInBounds_toArray, List.set_cons_zero, List.set_cons_succ]
        apply rel_val (hrf := Tk_refl)
        case hw => rfl
        case hy => intro wS hN hF; skip; first | (go_simp; done) | (go_simp; with_reducible rfl)
        case' hk => skip
        try simp only [Act.put, List.setIfInBounds_toArray, List.set_cons_zero, List.set_cons_succ]
        apply rel_call (v := .int .i64 F) (f := 148) (args := #[.int .i64 mode, .int .i64 f, .int .i64 fl])
        case hw => rfl
        case hy => intro wS hN hF; go_simp
        case hc => intro wS hN hF; exact call_same (HAP.out wS)
        case' hk => skip
        try simp only [Act.put, List.setIfInBounds_toArray, List.set_cons_zero, List.set_cons_succ]
        apply rel_val (hrf := Tk_refl)
        case hw => rfl
        case hy => intro wS hN hF; skip; first | (go_simp; done) | (go_simp; with_reducible rfl)
        case' hk => skip
        try simp only [Act.put, List.setIfInBounds_toArray, List.set_cons_zero, List.set_cons_succ]
        apply rel_val (hrf := Tk_refl)
        case hw => rfl
        case hy => intro wS hN hF; skip; first | (go_simp; done) | (go_simp; with_reducible rfl)
        case' hk => skip
        try simp only [Act.put, List.setIfInBounds_toArray, List.set_cons_zero, List.set_cons_succ]
        apply rel_fact (φ := fun _ W' => Mo T W' (some ad) n c1 Lk1) (x := 9999) (hs := lasts0 (by kernel_rfl) (fun v W1 W2 h ho => h.keep ho))
        case hw => rfl
        case hy =>
          intro wS hN hF
          have hO := hN.pre (by kernel_rfl)
          have hOW : Only [] W5 wS := (Only.refl [] _).drew.then hO
          have hc := hOW.cellSome M1 (by simp)
          have hf := (hOW.frozen (p := ⟨(ad.add (k * 4)).block, (ad.add (k * 4)).off + 1, none⟩) HLT.out (by simp)).trans HF1.out
          refine gives_skip (w' := wS.setCell ⟨(ad.add (k * 4)).block, (ad.add (k * 4)).off + 1, none⟩ (.int .i64 F)) ?_ (HS5.out wS hOW) (Tk_writes rfl ((Only.refl [ad.block] _).setCell (.inl (by simp [add_block])) _) (fun y hy => .inl hy))
          go_simp
        case' hk => intro v10
        try simp only [Act.put]
        refine rel_end ?_
        intro wS hO2 hF
        have hMo := facts_at hF 0 rfl
        clear hF
        have hA := HA1.out ad.block (by simp)
        have hO : Only [ad.block] W5 wS := ((Only.refl [ad.block] W5).drew).trans hO2.only (fun x hx => .inl hx)
        obtain ⟨q0, q1, q2, q3, q4⟩ := HK5.out
        have HRW : Hid (MkR T w #[.string t, .int .i64 v, .int .i64 x, .slice (some ad) n c1] (some ad) n c1 U nu us Lk1 wS) :=
          ⟨q0.trans hO (fun x hx => .inr (by simp at hx; omega)), q1.only hO (by simp; omega), q2.only hO (by simp; omega), q3.only' hO (fun hp a e hm => by have := HULT.out hp a e; simp at hm; omega), hMo⟩
        have c3 := hO.cellSome k3' (by simp; omega)
        have c1' := hO.cellSome n1 (by simp; omega)
        have cf := HNEW.out wS hMo
        clear hO hO2 q0 q1 q2 q3 q4 hMo HK5 HS5 HB5 n0 n1 n2 n3 k3' M1
        have hn1 : (N0 : Int) + 1 ≤ 9223372036854775807 := by omega
        have hn0 : -9223372036854775808 ≤ (N0 : Int) + 1 := by omega
        by_cases hne : F = f
        · subst hne
          have e3 : N1 = N0 := by simpa using e2
          subst e3
          clear e2
          go_wp2_with fail
          go_quiet (fail)
          go_wp2_with fail
          exact ⟨HRR.out _ (HRW.out.keep ((Only.refl [] _).drewN _)), HM.out⟩
        · have e3 : N1 = N0 + 1 := by simpa [hne] using e2
          subst e3
          have hc : ((N0 + 1 : Nat) : Int) = (N0 : Int) + 1 := by simp
          rw [hc] at HRR
          clear hc
          clear e2
          have hn2 : (N0 : Int) < 1000001 := by omega
          clear hn0 hn1 hnb
          go_wp2_with fail
          go_quiet (fail)
          have hw : wrap64 ((N0 : Int) + 1) = (N0 : Int) + 1 := IntWalk.wrap64_in _ (by omega)
          rw [← hw] at HRR
          clear hw hn2
          generalize (N0 : Int) = N2 at *
          go_wp2_with fail
          exact ⟨HRR.out _ (HRW.out.keep ((Only.refl [] _).drewN _)), HM.out⟩
    · obtain rfl : k = n := by omega
      have hsg : markK us mode fl l k = l.map (markM us mode fl) ∧ l.take k = l := ⟨markK_all us mode fl l (by rw [HL.out]; exact Nat.le_refl _), List.take_of_length_le (by rw [HL.out]; exact Nat.le_refl _)⟩
      have hb'' := HB'.out
      unfold markB at hb''
      simp only at hb''
      rw [hsg.1] at hMo
      rw [hsg.2, HMN.out]
      clear hsg HB'
      subst hb''
      obtain ⟨j0, j1, j2, j3⟩ := bk_four hBr
      have f0 := hBr.free 0
      have f1 := hBr.free 1
      have f2 := hBr.free 2
      have f3 := hBr.free 3
      have HR := Lib.hid hBr
      have HQ := Lib.hid hQ
      have HMO := Lib.hid hMo
      have hrs : w.heap.size + 1 < wr.heap.size := hBr.lt
      clear hBg hBr hUs hQ hMo HK
      go_wp2_with fail
      refine box_ret (s := 8) (u := 9) ?_ (w.heap.size + 1) ⟨s, v, x, l.map (markM us mode fl)⟩ A1 c1 (.int .i64 (mn : Int)) ?_ ?_ ?_ ?_
      · kernel_rfl
      · rfl
      · rfl
      · rw [bxc_eq (HMO.out.len), HTT.out]
        exact bk_store HR.out _ _ _ _
      · refine ⟨A1, c1, rfl, ?_, ?_⟩
        · show Ms S _ A1 (l.map (markM us mode fl)).length (l.map (markM us mode fl))
          rw [HMO.out.len]
          exact (HMO.out.ms.store (fun h => by rw [HTD.out] at h; exact h.2.2 rfl) _ _ _ _).mono (fun y hy => by rw [HTD.out] at hy; exact hy.1)
        · exact only_store HQ.out (.inr (by omega)) _ _ _ _
end Go.Proofs.YtgnilldcfpgpaaaGreatDoor
namespace Go.Proofs.YtgnilldcfpgpaaaGreatDoor
open Go.RowKit Go.Maps
structure Lb where
  b : Bx
  A : Option Addr
  c : Nat
structure Lu where
  name : List UInt8
  pass : List UInt8
  mb : Option Nat
  bs : List Lb
def Lb.key (x : Lb) : ByteArray := St x.b.name
def Lu.key (u : Lu) : ByteArray := St u.name
def kvB (x : Lb) : Kv := (St x.b.name, bxv x.b x.A x.c)
def usv (pass : List UInt8) (mb : Option Nat) : Value := .agg #[.string (St pass), .map mb]
def kvU (u : Lu) : Kv := (St u.name, usv u.pass u.mb)
def Lu.us (u : Lu) : Us := ⟨u.name, u.pass, u.bs.map (·.b)⟩
def BsIs (K : Nat → Prop) (w : World) (mb : Option Nat) (bs : List Lb) : Prop := KvIs shpB w mb (bs.map kvB) ∧ (∀ m, mb = some m → K m) ∧ ∀ x ∈ bs, Ms K w x.A x.b.l.length x.b.l
def UsIs (K : Nat → Prop) (w : World) (mu : Option Nat) (us : List Lu) : Prop := KvIs shpU w mu (us.map kvU) ∧ (∀ m, mu = some m → K m) ∧ ∀ u ∈ us, BsIs K w u.mb u.bs
def StIs (K : Nat → Prop) (w : World) (mu : Option Nat) (S : Stt) : Prop := ∃ us, UsIs K w mu us ∧ us.map Lu.us = S.us
section
variable {K K' : Nat → Prop} {w w' : World} {mb mu : Option Nat} {bs : List Lb} {us : List Lu} {S : Stt} {rs : List Nat}
theorem BsIs.only (h : BsIs K w mb bs) (o : Only rs w w') (hd : ∀ x, K x → x ∉ rs) : BsIs K w' mb bs :=
  ⟨h.1.only o (fun m e => hd m (h.2.1 m e)), h.2.1, fun x hx => (h.2.2 x hx).only o hd⟩
theorem BsIs.keep (h : BsIs K w mb bs) (o : Only [] w w') : BsIs K w' mb bs := h.only o (fun _ _ hm => nomatch hm)
theorem BsIs.mono (h : BsIs K w mb bs) (hs : ∀ x, x < w.heap.size → K x → K' x) : BsIs K' w mb bs :=
  ⟨h.1, fun m e => hs m (h.1.lt m e) (h.2.1 m e), fun x hx => (h.2.2 x hx).lt.mono (fun y hy => hs y hy.2 hy.1)⟩
theorem BsIs.none_ (K : Nat → Prop) (w : World) : BsIs K w none [] := ⟨rfl, (fun _ e => nomatch e), fun _ hx => nomatch hx⟩
theorem UsIs.only (h : UsIs K w mu us) (o : Only rs w w') (hd : ∀ x, K x → x ∉ rs) : UsIs K w' mu us :=
  ⟨h.1.only o (fun m e => hd m (h.2.1 m e)), h.2.1, fun u hu => (h.2.2 u hu).only o hd⟩
theorem UsIs.keep (h : UsIs K w mu us) (o : Only [] w w') : UsIs K w' mu us := h.only o (fun _ _ hm => nomatch hm)
theorem UsIs.mono (h : UsIs K w mu us) (hs : ∀ x, x < w.heap.size → K x → K' x) : UsIs K' w mu us :=
  ⟨h.1, fun m e => hs m (h.1.lt m e) (h.2.1 m e), fun u hu => (h.2.2 u hu).mono hs⟩
theorem UsIs.none_ (K : Nat → Prop) (w : World) : UsIs K w none [] := ⟨rfl, (fun _ e => nomatch e), fun _ hx => nomatch hx⟩
theorem StIs.only (h : StIs K w mu S) (o : Only rs w w') (hd : ∀ x, K x → x ∉ rs) : StIs K w' mu S := by
  obtain ⟨us, h1, h2⟩ := h
  exact ⟨us, h1.only o hd, h2⟩
theorem StIs.keep (h : StIs K w mu S) (o : Only [] w w') : StIs K w' mu S := h.only o (fun _ _ hm => nomatch hm)
theorem StIs.mono (h : StIs K w mu S) (hs : ∀ x, x < w.heap.size → K x → K' x) : StIs K' w mu S := by
  obtain ⟨us, h1, h2⟩ := h
  exact ⟨us, h1.mono hs, h2⟩
theorem find_kvB (bs : List Lb) (s : ByteArray) : findL Prod.fst (bs.map kvB) s = (findL Lb.key bs s).map kvB := findL_map kvB Prod.fst (fun _ => rfl) bs s
theorem find_kvU (us : List Lu) (s : ByteArray) : findL Prod.fst (us.map kvU) s = (findL Lu.key us s).map kvU := findL_map kvU Prod.fst (fun _ => rfl) us s
theorem put_kvB (x : Lb) (bs : List Lb) : putL Prod.fst (kvB x) (bs.map kvB) = (putL Lb.key x bs).map kvB := putL_map kvB Prod.fst (fun _ => rfl) x bs
theorem put_kvU (u : Lu) (us : List Lu) : putL Prod.fst (kvU u) (us.map kvU) = (putL Lu.key u us).map kvU := putL_map kvU Prod.fst (fun _ => rfl) u us
theorem del_kvB (bs : List Lb) (s : ByteArray) : delL Prod.fst (bs.map kvB) s = (delL Lb.key bs s).map kvB := delL_map kvB Prod.fst (fun _ => rfl) bs s
theorem find_b (bs : List Lb) (s : ByteArray) : findL bkey (bs.map (·.b)) s = (findL Lb.key bs s).map (·.b) := findL_map (·.b) bkey (fun _ => rfl) bs s
theorem find_u (us : List Lu) (s : ByteArray) : findL ukey (us.map Lu.us) s = (findL Lu.key us s).map Lu.us := findL_map Lu.us ukey (fun _ => rfl) us s
theorem put_b (x : Lb) (bs : List Lb) : putL bkey x.b (bs.map (·.b)) = (putL Lb.key x bs).map (·.b) := putL_map (fun x : Lb => x.b) bkey (fun _ => rfl) x bs
theorem put_u (u : Lu) (us : List Lu) : putL ukey u.us (us.map Lu.us) = (putL Lu.key u us).map Lu.us := putL_map Lu.us ukey (fun _ => rfl) u us
theorem del_b (bs : List Lb) (s : ByteArray) : delL bkey (bs.map (·.b)) s = (delL Lb.key bs s).map (·.b) := delL_map (fun x : Lb => x.b) bkey (fun _ => rfl) bs s
theorem BsIs.find (h : BsIs K w mb bs) {s : ByteArray} {x : Lb} (hx : findL Lb.key bs s = some x) : Ms K w x.A x.b.l.length x.b.l ∧ St x.b.name = s :=
  ⟨h.2.2 x (findL_some hx).1, (findL_some hx).2⟩
theorem UsIs.find (h : UsIs K w mu us) {s : ByteArray} {u : Lu} (hu : findL Lu.key us s = some u) : BsIs K w u.mb u.bs ∧ St u.name = s :=
  ⟨h.2.2 u (findL_some hu).1, (findL_some hu).2⟩
theorem BsIs.look (h : BsIs K w mb bs) (c : Bool) {s : ByteArray} (hs : s.size ≤ maxLen) {x : Lb} (hx : findL Lb.key bs s = some x) :
    (Instr.lookup 152 (.map mb) (.string s) c).run Tryz.prog w = .ok (if c then .tuple #[bxv x.b x.A x.c, .bool true] else bxv x.b x.A x.c) w := by
  have := lookB c h.1 hs
  unfold valK at this
  rw [find_kvB, hx] at this
  exact this
theorem BsIs.look_no (h : BsIs K w mb bs) (c : Bool) {s : ByteArray} (hs : s.size ≤ maxLen) (hx : findL Lb.key bs s = none) :
    (Instr.lookup 152 (.map mb) (.string s) c).run Tryz.prog w = .ok (if c then .tuple #[.agg #[.string ⟨#[]⟩, .int .i64 0, .int .i64 0, .slice none 0 0], .bool false] else .agg #[.string ⟨#[]⟩, .int .i64 0, .int .i64 0, .slice none 0 0]) w := by
  have := lookB c h.1 hs
  unfold valK at this
  rw [find_kvB, hx] at this
  exact this
theorem UsIs.look (h : UsIs K w mu us) (c : Bool) {s : ByteArray} (hs : s.size ≤ maxLen) {u : Lu} (hu : findL Lu.key us s = some u) :
    (Instr.lookup 89 (.map mu) (.string s) c).run Tryz.prog w = .ok (if c then .tuple #[usv u.pass u.mb, .bool true] else usv u.pass u.mb) w := by
  have := lookU c h.1 hs
  unfold valK at this
  rw [find_kvU, hu] at this
  exact this
theorem UsIs.look_no (h : UsIs K w mu us) (c : Bool) {s : ByteArray} (hs : s.size ≤ maxLen) (hu : findL Lu.key us s = none) :
    (Instr.lookup 89 (.map mu) (.string s) c).run Tryz.prog w = .ok (if c then .tuple #[.agg #[.string ⟨#[]⟩, .map none], .bool false] else .agg #[.string ⟨#[]⟩, .map none]) w := by
  have := lookU c h.1 hs
  unfold valK at this
  rw [find_kvU, hu] at this
  exact this
theorem BsIs.put (h : BsIs K w mb bs) (hK : ∀ x, w.heap.size ≤ x → K x) {x : Lb} (hx : Ms K w x.A x.b.l.length x.b.l) {m' : Nat} (hm : KvAt shpB w' m' (putL Prod.fst (kvB x) (bs.map kvB))) (o : Only [] w w') (hn : w.heap.size ≤ m') : BsIs K w' (some m') (putL Lb.key x bs) := by
  rw [put_kvB] at hm
  refine ⟨hm, fun m e => by injection e with e; subst e; exact hK _ hn, fun y hy => ?_⟩
  rcases mem_putL.1 hy with rfl | ⟨hy, _⟩
  · exact hx.keep o
  · exact (h.2.2 y hy).keep o
theorem BsIs.del (h : BsIs K w mb bs) (hK : ∀ x, w.heap.size ≤ x → K x) {s : ByteArray} {m' : Nat} (hm : KvAt shpB w' m' (delL Prod.fst (bs.map kvB) s)) (o : Only [] w w') (hn : w.heap.size ≤ m') : BsIs K w' (some m') (delL Lb.key bs s) := by
  rw [del_kvB] at hm
  exact ⟨hm, fun m e => by injection e with e; subst e; exact hK _ hn, fun y hy => (h.2.2 y (mem_delL.1 hy).1).keep o⟩
theorem UsIs.put (h : UsIs K w mu us) (hK : ∀ x, w.heap.size ≤ x → K x) {u : Lu} (hu : BsIs K w u.mb u.bs) {m' : Nat} (hm : KvAt shpU w' m' (putL Prod.fst (kvU u) (us.map kvU))) (o : Only [] w w') (hn : w.heap.size ≤ m') : UsIs K w' (some m') (putL Lu.key u us) := by
  rw [put_kvU] at hm
  refine ⟨hm, fun m e => by injection e with e; subst e; exact hK _ hn, fun y hy => ?_⟩
  rcases mem_putL.1 hy with rfl | ⟨hy, _⟩
  · exact hu.keep o
  · exact (h.2.2 y hy).keep o
end
theorem infoSt : (Tryz.prog.info? 91).map (·.size) = some 2 := by kernel_rfl
theorem infoUs : (Tryz.prog.info? 154).map (·.size) = some 2 := by kernel_rfl
theorem st_ret {fn : Func} {R : Ending → World → Prop} {tmps : Array Value} {w : World} {s : Nat} (hres : fn.results = #[.cell s 91]) (p : Nat) (a b : Value) (h2 : tmps.getD s undef = .pointer (some ⟨p, 0, none⟩))
    (hb : Bk w p 91 #[a, b]) (hR : R (.returned (.agg #[a, b])) w) : bodyPost Tryz.prog fn R .ret { tmps := tmps, defers := [] } w := by
  refine bodyPost_ret (v := .agg #[a, b]) ?_ rfl hR
  exact results_cell_row hres tmps w p 91 #[a, b] (0, 0) _ h2 hb Tryz.underlying91 rfl infoSt
theorem st_ret3 {fn : Func} {R : Ending → World → Prop} {tmps : Array Value} {w : World} {s u v : Nat} (hres : fn.results = #[.cell s 91, .tmp u, .tmp v]) (p : Nat) (a b : Value) (x y : Value) (h2 : tmps.getD s undef = .pointer (some ⟨p, 0, none⟩)) (h3 : tmps.getD u undef = x) (h4 : tmps.getD v undef = y)
    (hb : Bk w p 91 #[a, b]) (hR : R (.returned (.tuple #[.agg #[a, b], x, y])) w) : bodyPost Tryz.prog fn R .ret { tmps := tmps, defers := [] } w := by
  refine bodyPost_ret (v := .tuple #[.agg #[a, b], x, y]) ?_ rfl hR
  rw [results_cell_tmp2 hres]
  rw [h2, h3, h4]
  simp only [asAddr, Sem.run_pure, Result.andThen_ok]
  rw [run_loadVar_row (P := Tryz.prog) w p 91 91 #[a, b] (0, 0) _ hb Tryz.underlying91 rfl infoSt]
  rfl
theorem us_ret {fn : Func} {R : Ending → World → Prop} {tmps : Array Value} {w : World} {s : Nat} (hres : fn.results = #[.cell s 154]) (p : Nat) (a b : Value) (h2 : tmps.getD s undef = .pointer (some ⟨p, 0, none⟩))
    (hb : Bk w p 154 #[a, b]) (hR : R (.returned (.agg #[a, b])) w) : bodyPost Tryz.prog fn R .ret { tmps := tmps, defers := [] } w := by
  refine bodyPost_ret (v := .agg #[a, b]) ?_ rfl hR
  exact results_cell_row hres tmps w p 154 #[a, b] (0, 0) _ h2 hb Tryz.underlying154 rfl infoUs
theorem us_ret3 {fn : Func} {R : Ending → World → Prop} {tmps : Array Value} {w : World} {s u v : Nat} (hres : fn.results = #[.cell s 154, .tmp u, .tmp v]) (p : Nat) (a b : Value) (x y : Value) (h2 : tmps.getD s undef = .pointer (some ⟨p, 0, none⟩)) (h3 : tmps.getD u undef = x) (h4 : tmps.getD v undef = y)
    (hb : Bk w p 154 #[a, b]) (hR : R (.returned (.tuple #[.agg #[a, b], x, y])) w) : bodyPost Tryz.prog fn R .ret { tmps := tmps, defers := [] } w := by
  refine bodyPost_ret (v := .tuple #[.agg #[a, b], x, y]) ?_ rfl hR
  rw [results_cell_tmp2 hres]
  rw [h2, h3, h4]
  simp only [asAddr, Sem.run_pure, Result.andThen_ok]
  rw [run_loadVar_row (P := Tryz.prog) w p 154 154 #[a, b] (0, 0) _ hb Tryz.underlying154 rfl infoUs]
  rfl
theorem bk_two {w : World} {g : Nat} {t : TypeId} {a0 a1 : Value} (h : Bk w g t #[a0, a1]) : w.cell? ⟨g, 0, none⟩ = some a0 ∧ w.cell? ⟨g, 1, none⟩ = some a1 := ⟨h.cell 0, h.cell 1⟩
theorem bk_store2 {w : World} {g : Nat} {t : TypeId} {a0 a1 : Value} (h : Bk w g t #[a0, a1]) (b0 b1 : Value) : Bk ((w.setCell ⟨g, 0, none⟩ b0).setCell ⟨g, 1, none⟩ b1) g t #[b0, b1] := by simpa using (h.set 0 b0).set 1 b1
theorem only_store2 {rs : List Nat} {w w' : World} {g : Nat} (o : Only rs w w') (hg : g ∈ rs ∨ w.heap.size ≤ g) (b0 b1 : Value) : Only rs w ((w'.setCell ⟨g, 0, none⟩ b0).setCell ⟨g, 1, none⟩ b1) := (o.setCell (p := ⟨g, 0, none⟩) hg b0).setCell (p := ⟨g, 1, none⟩) hg b1
end Go.Proofs.YtgnilldcfpgpaaaGreatDoor
namespace Go.Proofs.YtgnilldcfpgpaaaGreatDoor
open Go
def updN {α : Type} (f : Nat → α) (i : Nat) (x : α) : Nat → α := fun j => if j = i then x else f j
theorem updN_self {α : Type} (f : Nat → α) (i : Nat) (x : α) : updN f i x i = x := by simp [updN]
theorem updN_ne {α : Type} (f : Nat → α) {i j : Nat} (x : α) (h : j ≠ i) : updN f i x j = f j := by simp [updN, h]
section
variable {P : Program} {ops : Array Oper} {Q : Exit → Act → World → Prop} {I : (Nat → Bool) → (Nat → Value) → World → Prop}
def invStep (P : Program) (ops : Array Oper) (I : (Nat → Bool) → (Nat → Value) → World → Prop) (vs : Nat → Value) (o : Oper) (k : Nat) (a : Act) : Prop :=
  ∀ L w, I L vs w → L k = false → (∀ j, waits o j = true → L j = true) → stepR P ops (fun _ _ => True) a o w (fun u w' => I (updN L k true) (updN vs k u) w')
theorem inv_sound (hB : relB ops = true) {a0 : Act}
    (hstep : ∀ i o, ops[i]? = some o → ∀ vs, invStep P ops I vs o i (frm ops a0 vs i))
    (hfin : ∀ L vs w, (∀ j, j < ops.size → L j = true) → I L vs w → Q .normal (frm ops a0 vs ops.size) w) :
    ∀ (fuel : Nat) (listed : Array Bool) (vs : Nat → Value) (w : World), listed.size = ops.size → left (fun j => listed.getD j false) ops.size ≤ fuel → I (fun j => listed.getD j false) vs w →
      (∀ j, listed.getD j false = true → ∀ o, ops[j]? = some o → ∀ i, waits o i = true → listed.getD i false = true) →
      wpAny P .any ops Q fuel listed (frL ops a0 vs (fun j => listed.getD j false) ops.size) w := by
  obtain ⟨hlow, hpair, hsel⟩ := relB_spec hB
  have hdst : ∀ i j, i < j → ∀ d, dstOf ops i = some d → dstOf ops j ≠ some d := fun i j hij d hi hj => by
    unfold dstOf at hi hj
    cases hoi : ops[i]? with
    | none => rw [hoi] at hi; cases hi
    | some oi =>
      cases hoj : ops[j]? with
      | none => rw [hoj] at hj; cases hj
      | some oj =>
        rw [hoi] at hi
        rw [hoj] at hj
        exact (hpair i j oi oj hij hoi hoj).2 d hi hj
  have hall : ∀ (listed : Array Bool), listed.size = ops.size → Region.ready .any ops listed = [] → ∀ j, j < ops.size → listed.getD j false = true := by
    intro listed hsz hr j
    induction j using Nat.strongRecOn with
    | _ j ih =>
      intro hj
      cases hl : listed.getD j false with
      | true => rfl
      | false =>
        exfalso
        have hm : j ∈ Region.ready .any ops listed := by
          rw [mem_ready]
          refine ⟨?_, ops[j], Array.getElem?_eq_getElem hj, fun e he hb => ?_⟩
          · have hjl : j < listed.size := by omega
            simp [Array.getD, hjl] at hl ⊢
            exact hl
          · have := hlow j _ (Array.getElem?_eq_getElem hj) e he hb
            exact ih _ this (by omega)
        rw [hr] at hm
        cases hm
  have hend : ∀ (listed : Array Bool) (vs : Nat → Value) (w : World), (∀ j, j < ops.size → listed.getD j false = true) → I (fun j => listed.getD j false) vs w →
      Q .normal (frL ops a0 vs (fun j => listed.getD j false) ops.size) w := by
    intro listed vs w h1 hf
    have e : frL ops a0 vs (fun j => listed.getD j false) ops.size = frm ops a0 vs ops.size := by
      rw [frm_frL a0 vs ops.size ops.size (Nat.le_refl _)]
      exact frL_congr a0 _ (fun j hj => ⟨by rw [h1 j hj]; simp [hj], fun _ => rfl⟩)
    rw [e]
    exact hfin _ vs w h1 hf
  intro fuel
  induction fuel with
  | zero =>
    intro listed vs w hsz hle hf hi
    have h1 := left_zero (Nat.le_zero.1 hle)
    refine ⟨?_, hend listed vs w h1 hf⟩
    cases hr : Region.ready .any ops listed with
    | nil => rfl
    | cons x xs =>
      exfalso
      have hx : x ∈ Region.ready .any ops listed := by rw [hr]; simp
      obtain ⟨h0, o, ho, _⟩ := mem_ready.1 hx
      have hlt := (Array.getElem?_eq_some_iff.1 ho).1
      have h2 := h1 x hlt
      have hxl : x < listed.size := by omega
      simp [Array.getD, hxl] at h0 h2
      rw [h0] at h2
      cases h2
  | succ fuel ih =>
    intro listed vs w hsz hle hf hi
    refine ⟨fun hr => hend listed vs w (hall listed hsz hr) hf, fun i him => ?_⟩
    obtain ⟨h0, o, ho, hwait⟩ := mem_ready.1 him
    have hlt := (Array.getElem?_eq_some_iff.1 ho).1
    have hil : i < listed.size := by omega
    have hun : listed.getD i false = false := by
      simp [Array.getD, hil] at h0 ⊢
      exact h0
    have hw8 : ∀ j, waits o j = true → listed.getD j false = true := by
      intro j hj
      unfold waits at hj
      rw [Array.any_eq_true] at hj
      obtain ⟨x, hx, hb⟩ := hj
      obtain ⟨e, he⟩ : ∃ e, e = o.after[x] := ⟨_, rfl⟩
      rw [← he] at hb
      replace he : e ∈ o.after := by rw [he]; exact Array.getElem_mem hx
      simp only [Bool.and_eq_true, beq_iff_eq] at hb
      obtain ⟨hb1, rfl⟩ := hb
      exact hwait e he hb1
    have hsame := eval_at (ops := ops) (a := frL ops a0 vs (fun j => listed.getD j false) ops.size) (a' := frm ops a0 vs i) (hsel i o · · ho) (fun t htl => by
      rw [frm_frL a0 vs i ops.size (by omega)]
      refine frL_at a0 vs _ fun j hj hne hd => ?_
      unfold dstOf at hd
      rw [Array.getElem?_eq_getElem hj] at hd
      rcases Nat.lt_trichotomy j i with hji | hji | hji
      · rcases (hpair j i _ o hji (Array.getElem?_eq_getElem hj) ho).1 with h3 | h3
        · exact hne (by rw [hw8 j h3]; simp [hji])
        · exact (Oper.apart_spec h3).1 t hd htl
      · subst hji
        exact hne (by rw [hun]; simp)
      · rcases (hpair i j o _ hji ho (Array.getElem?_eq_getElem hj)).1 with h3 | h3
        · cases hlj : listed.getD j false with
          | false => exact hne (by rw [hlj]; simp; omega)
          | true =>
            have := (hi j hlj) _ (Array.getElem?_eq_getElem hj) i h3
            rw [hun] at this
            cases this
        · exact (Oper.apart_spec h3).2.2 t hd htl)
    have hst2 := hstep i o ho vs _ w hf hun hw8
    unfold stepR at hst2
    rw [← hsame.1, ← hsame.2] at hst2
    have hset : ∀ j, (listed.setIfInBounds i true).getD j false = if j = i then true else listed.getD j false := by
      intro j
      by_cases hji : j = i
      · subst hji; simp [hil]
      · rw [getD_set_ne false (Ne.symm hji), if_neg hji]
    have go : ∀ u w', I (updN (fun j => listed.getD j false) i true) (updN vs i u) w' → wpAny P .any ops Q fuel (listed.setIfInBounds i true) ((frL ops a0 vs (fun j => listed.getD j false) ops.size).put o.dst u) w' := by
      intro u w' hu
      have hdo : o.dst = dstOf ops i := by unfold dstOf; rw [ho]; rfl
      rw [hdo, frL_put hdst a0 vs _ i u hun ops.size hlt]
      have hfun : (fun j => if j = i then true else listed.getD j false) = (fun j => (listed.setIfInBounds i true).getD j false) := funext fun j => (hset j).symm
      have hleft := left_set (L := fun j => listed.getD j false) hun ops.size hlt
      unfold updN at hu
      rw [hfun] at hleft hu ⊢
      refine ih (listed.setIfInBounds i true) _ w' (by simpa using hsz) (by omega) hu fun j hj => ?_
      rw [hset] at hj
      by_cases hji : j = i
      · subst hji
        intro o' ho' k hk
        rw [ho] at ho'
        injection ho' with ho'
        subst ho'
        rw [hset]
        split
        · rfl
        · exact hw8 k hk
      · rw [if_neg hji] at hj
        intro o' ho' k hk
        rw [hset]
        split
        · rfl
        · exact hi j hj o' ho' k hk
    unfold wpOp
    simp only [ho]
    rcases hst2 with ⟨hw, hg⟩ | ⟨hw, hu⟩
    · simp only [hw, if_true]
      left
      unfold Oper.wp
      generalize (execOp (frL ops a0 vs (fun j => listed.getD j false) ops.size).eval o).run P w = r at hg ⊢
      cases r with
      | ok n w' =>
        cases n <;> simp only [GivesR, Oper.upon] at hg ⊢
        case value u => exact go u w' hg.1
        case skip => exact go undef w' hg.1
        case enter f args =>
          refine Calls.mono hg fun e w'' he => ?_
          obtain ⟨u, rfl, h3, _⟩ := he
          exact go u w'' h3
      | halt x w' => simp only [GivesR] at hg
    · simp only [hw, Bool.false_eq_true, if_false]
      exact go undef w hu
theorem gives_call {T : World → World → Prop} {φ : Value → World → Prop} {w : World} {r : Result Next} {f : FuncId} {args : Array Value} (hr : r = .ok (.enter f args) w) (hc : Calls P f args w fun e w'' => ∃ u, e = .returned u ∧ φ u w'' ∧ T w w'') : GivesR P T w φ r := by
  rw [hr]; exact hc
end
end Go.Proofs.YtgnilldcfpgpaaaGreatDoor
namespace Go.Proofs.YtgnilldcfpgpaaaGreatDoor
open Go Go.RowKit Go.Instr
section
variable {P : Program} {ops : Array Oper} {Q : Exit → Act → World → Prop} {I : (Nat → Bool) → (Nat → Value) → World → Prop}
def fitsL (pl : List (Option Value)) (vs : Nat → Value) : Prop := ∀ k v, pl[k]? = some (some v) → vs k = v
def inv2Walk (P : Program) (ops : Array Oper) (I : (Nat → Bool) → (Nat → Value) → World → Prop) (Q : Exit → Act → World → Prop) (vs : Nat → Value) : List (Option Value) → List Oper → Nat → Act → Prop
  | [], [], _, a => ∀ L w, (∀ j, j < ops.size → L j = true) → I L vs w → Q .normal a w
  | some v :: pl, o :: l, k, a => (∀ L w, I L vs w → L k = false → (∀ j, waits o j = true → L j = true) → stepR P ops (fun _ _ => True) a o w (fun u w' => u = v ∧ I (updN L k true) vs w')) ∧ inv2Walk P ops I Q vs pl l (k + 1) (a.put o.dst v)
  | none :: pl, o :: l, k, a => (∀ L w, I L vs w → L k = false → (∀ j, waits o j = true → L j = true) → stepR P ops (fun _ _ => True) a o w (fun u w' => I (updN L k true) (updN vs k u) w')) ∧ inv2Walk P ops I Q vs pl l (k + 1) (a.put o.dst (vs k))
  | [], _ :: _, _, _ => False
  | _ :: _, [], _, _ => False
theorem stepR.mono {a : Act} {o : Oper} {w : World} {φ ψ : Value → World → Prop} (h : stepR P ops (fun _ _ => True) a o w φ) (hm : ∀ u w', φ u w' → ψ u w') : stepR P ops (fun _ _ => True) a o w ψ := by
  unfold stepR at *
  rcases h with ⟨h1, h2⟩ | ⟨h1, h2⟩
  · refine .inl ⟨h1, ?_⟩
    generalize (execOp a.eval o).run P w = r at h2 ⊢
    cases r with
    | ok n w' =>
      cases n <;> simp only [GivesR] at h2 ⊢
      case value u => exact ⟨hm _ _ h2.1, trivial⟩
      case skip => exact ⟨hm _ _ h2.1, trivial⟩
      case enter f args => exact Calls.mono h2 fun e w'' he => by obtain ⟨u, e1, e2, e3⟩ := he; exact ⟨u, e1, hm _ _ e2, e3⟩
    | halt x w' => simp only [GivesR] at h2
  · exact .inr ⟨h1, hm _ _ h2⟩
theorem inv2_spec (plAll : List (Option Value)) (vs : Nat → Value) (hf : fitsL plAll vs) (a0 : Act) : ∀ (pl : List (Option Value)) (l : List Oper) (k : Nat) (a : Act), (∀ j, plAll[k + j]? = pl[j]?) → (∀ j, ops[k + j]? = l[j]?) → k + l.length = ops.size → a = frm ops a0 vs k → inv2Walk P ops I Q vs pl l k a →
    (∀ i o, k ≤ i → ops[i]? = some o → ∀ L w, I L vs w → L i = false → (∀ j, waits o j = true → L j = true) → stepR P ops (fun _ _ => True) (frm ops a0 vs i) o w (fun u w' => fitsL plAll (updN vs i u) ∧ I (updN L i true) (updN vs i u) w')) ∧
      (∀ L w, (∀ j, j < ops.size → L j = true) → I L vs w → Q .normal (frm ops a0 vs ops.size) w)
  | [], [], k, a, _, _, hs, ha, h => by
    have hs : k = ops.size := by simpa using hs
    subst hs
    refine ⟨fun i o hi ho => ?_, by rw [← ha]; exact h⟩
    have := (Array.getElem?_eq_some_iff.1 ho).1
    omega
  | x :: pl, o :: l, k, a, hp, hl, hs, ha, h => by
    have ho : ops[k]? = some o := by have := hl 0; simpa using this
    have hpk : plAll[k]? = some x := by have := hp 0; simpa using this
    have hdo : o.dst = dstOf ops k := by unfold dstOf; rw [ho]; rfl
    have nexts : ∀ u, vs k = u → inv2Walk P ops I Q vs pl l (k + 1) (a.put o.dst u) → _ := fun u hu hh => inv2_spec plAll vs hf a0 pl l (k + 1) (a.put o.dst u) (fun j => by have := hp (j + 1); rw [show k + 1 + j = k + (j + 1) by omega]; simpa using this)
      (fun j => by have := hl (j + 1); rw [show k + 1 + j = k + (j + 1) by omega]; simpa using this) (by simp at hs; omega) (by rw [ha, hdo, ← hu]; rfl) hh
    have self : ∀ v, vs k = v → updN vs k v = vs := fun v hv => funext fun j => by
      unfold updN
      split
      · rename_i e; rw [e, hv]
      · rfl
    cases x with
    | some v =>
      have hv : vs k = v := hf k v hpk
      have r := nexts v hv h.2
      refine ⟨fun i o' hi ho' => ?_, r.2⟩
      by_cases e : i = k
      · subst e
        rw [ho] at ho'
        injection ho' with ho'
        subst ho'
        rw [← ha]
        intro L w hI hL hw
        refine (h.1 L w hI hL hw).mono fun u w' hh => ?_
        obtain ⟨rfl, h2⟩ := hh
        rw [self _ hv]
        exact ⟨hf, h2⟩
      · exact r.1 i o' (by omega) ho'
    | none =>
      have r := nexts (vs k) rfl h.2
      refine ⟨fun i o' hi ho' => ?_, r.2⟩
      by_cases e : i = k
      · subst e
        rw [ho] at ho'
        injection ho' with ho'
        subst ho'
        rw [← ha]
        intro L w hI hL hw
        refine (h.1 L w hI hL hw).mono fun u w' hh => ⟨fun j v hj => ?_, hh⟩
        by_cases e : j = i
        · subst e
          rw [hpk] at hj
          cases hj
        · rw [updN_ne _ _ e]
          exact hf j v hj
      · exact r.1 i o' (by omega) ho'
  | [], _ :: _, _, _, _, _, _, _, h => h.elim
  | some _ :: _, [], _, _, _, _, _, _, h => h.elim
  | none :: _, [], _, _, _, _, _, _, h => h.elim
theorem region_inv (I : (Nat → Bool) → (Nat → Value) → World → Prop) {pl : List (Option Value)} {id : Nat} {a : Act} {w : World} {l : List Oper} (hm : P.follows .mixedOrders = true) (hB : relB l.toArray = true) (h0 : ∀ vs, I (fun _ => false) vs w.drew)
    (h : ∀ vs, inv2Walk P l.toArray I Q vs pl l 0 a) : (Code.region id l.toArray true).wp P Q a w := by
  refine wp_region_any hm ?_
  have sp := fun vs hf => inv2_spec (P := P) (ops := l.toArray) (I := I) (Q := Q) pl vs hf a pl l 0 a (fun j => by simp) (fun j => by simp) (by simp) rfl (h vs)
  have e0 : (fun j => (Array.replicate l.toArray.size false).getD j false) = fun _ => false := funext fun j => by simp [Array.getD]
  have hv0 : fitsL pl (fun k => match pl[k]? with | some (some v) => v | _ => undef) := fun k v hk => by simp only [hk]
  have h1 := inv_sound (P := P) (ops := l.toArray) (Q := Q) (I := fun L vs w => fitsL pl vs ∧ I L vs w) hB (a0 := a) (fun i o ho vs L w hI hL hw => (sp vs hI.1).1 i o (Nat.zero_le _) ho L w hI.2 hL hw) (fun L vs w hL hI => (sp vs hI.1).2 L w hL hI.2) l.toArray.size (Array.replicate l.toArray.size false) (fun k => match pl[k]? with | some (some v) => v | _ => undef) w.drew (by simp)
    (by unfold left; exact Nat.le_trans List.countP_le_length (by simp)) (by rw [e0]; exact ⟨hv0, h0 _⟩) (fun j hj => by simp [Array.getD] at hj)
  have e : frL l.toArray a (fun k => match pl[k]? with | some (some v) => v | _ => undef) (fun j => (Array.replicate l.toArray.size false).getD j false) l.toArray.size = a := by
    have := frL_congr (ops := l.toArray) a (vs := (fun k => match pl[k]? with | some (some v) => v | _ => undef)) (vs' := fun _ => undef) (L := fun j => (Array.replicate l.toArray.size false).getD j false) (L' := fun j => decide (j < 0)) l.toArray.size (fun j hj => ⟨by simp [Array.getD], fun hl => by simp [Array.getD] at hl⟩)
    rw [this, ← frm_frL a (fun _ => undef) 0 _ (Nat.zero_le _)]
    rfl
  rw [e] at h1
  exact h1
variable {o : Oper} {l : List Oper} {a : Act} {k : Nat} {pl : List (Option Value)} {vs : Nat → Value}
theorem inv_val (v : Value) (hw : Region.wanted o (yielded ops a.tmps) = true) (hI : ∀ L w, I L vs w → I (updN L k true) vs w) (hy : ∀ L w, I L vs w → (execOp a.eval o).run P w = .ok (.value v) w)
    (hk : inv2Walk P ops I Q vs pl l (k + 1) (a.put o.dst v)) : inv2Walk P ops I Q vs (some v :: pl) (o :: l) k a :=
  ⟨fun L w h _ _ => .inl ⟨hw, gives_value (hy L w h) ⟨rfl, hI L w h⟩ trivial⟩, hk⟩
theorem inv_op (hw : Region.wanted o (yielded ops a.tmps) = true) (hy : ∀ L w, I L vs w → L k = false → (∀ j, waits o j = true → L j = true) → GivesR P (fun _ _ => True) w (fun u w' => I (updN L k true) (updN vs k u) w') ((execOp a.eval o).run P w))
    (hk : inv2Walk P ops I Q vs pl l (k + 1) (a.put o.dst (vs k))) : inv2Walk P ops I Q vs (none :: pl) (o :: l) k a :=
  ⟨fun L w h hL hw2 => .inl ⟨hw, hy L w h hL hw2⟩, hk⟩
theorem inv_end (h : ∀ L w, (∀ j, j < ops.size → L j = true) → I L vs w → Q .normal a w) : inv2Walk P ops I Q vs [] [] k a := h
end
def ptr2 (g : Nat) : Value := .pointer (some ⟨g, 0, none⟩)
section
variable {w5 w w' : World} {ty : TypeId} {z a b : Array Value} {i1 i2 s1 s2 : Nat} {L : Nat → Bool} {vs : Nat → Value}
theorem ptr2_inj {g h : Nat} (e : ptr2 g = ptr2 h) : g = h := by
  injection e with e
  injection e with e
  injection e with e
end
end Go.Proofs.YtgnilldcfpgpaaaGreatDoor
