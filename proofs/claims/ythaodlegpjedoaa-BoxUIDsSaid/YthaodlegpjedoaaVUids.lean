/-
  The law BoxUIDs.
-/
import Derived.Test.YthaodlegpjedoaaVUids0
import Derived.Test.YthaodlegpjedoaaVKnown
import Derived.Deep.RegionLaw
import Derived.Deep.RegionHeld3
namespace Go.Proofs.Ythaodlegpjedoaa
open Go.RowKit Go.Instr

def UT (x : Int) (n : Nat) (u q : Int) (A : Option Addr) (c : Nat) : Value := .tuple #[.agg #[.string ⟨#[97]⟩, .int .i64 1, .int .i64 x, .slice A n c], .int .i64 u, .int .i64 q]
def UB (x : Int) (n : Nat) (A : Option Addr) (c : Nat) : Value := .agg #[.string ⟨#[97]⟩, .int .i64 1, .int .i64 x, .slice A n c]
def UC (x : Int) (n : Nat) (A : Option Addr) (c : Nat) : Array Value := #[.string ⟨#[97]⟩, .int .i64 1, .int .i64 x, .slice A n c]
theorem UT_inj (x : Int) (n : Nat) (u q : Int) (A' : Option Addr) (c' : Nat) (A : Option Addr) (c : Nat) (h : UT x n u q A c = UT x n u q A' c') : A = A' ∧ c = c' := by
  unfold UT at h
  simpa using h
theorem u_new (w : World) : Calls Try.prog 13 #[.string ⟨#[97]⟩, .int .i64 1] w fun e w' => e = .returned (.agg #[.string ⟨#[97]⟩, .int .i64 1, .int .i64 1, .slice none 0 0]) ∧ Only [] w w' := New_any [97] 1 w
/-- The loop's relation. -/
def UidR (w : World) (g : Nat) (last : Int) (wr : World) : Prop :=
  ∃ x l n A c, last + 1 = x ∧ isB (ub x l) = true ∧ l.length = n ∧ Bk wr g 26 #[.string ⟨#[97]⟩, .int .i64 1, .int .i64 x, .slice A n c] ∧ Ms (fun y => y ≠ g) wr A n l ∧ Only [] w wr ∧ w.heap.size ≤ g
set_option maxRecDepth 100000 in
set_option maxHeartbeats 8000000 in
theorem uids_any {w : World} (T : Option Addr) (nt ct : Nat) (ts : List VAc) (h : VActs w T nt ts) (hn : nt ≤ 140737488351232) (hs : ∀ a ∈ ts, a.uids.length ≤ 140737488351232 ∧ a.body.length ≤ 140737488351232) :
    Calls Try.prog 7 #[.slice T nt ct] w fun e w' => e = .returned (.bool true) ∧ Only [] w w' := by
  have HLG := Lib.hid (long_any (c := ct) h (by omega) hs)
  have HH := Lib.hid h
  have HTL : Hid (ts.length = nt) := h.1
  have HKN := Lib.hid known_any
  clear h hs
  go_enter Try.func7, Try.ntmps7
  go_wp2_with fail
  refine HLG.out.mono ?_
  rintro e w1 ⟨b, rfl, O1, HSH⟩
  cases b
  case true =>
    go_wp2
    go_ret
    exact ⟨rfl, O1⟩
  replace HSH := Lib.hid (HSH rfl)
  go_wp2_with (go_at_call 13; go_must (with_reducible refine (u_new _).mono ?_); rintro e w2 ⟨rfl, O2⟩)
  have H0 : Hid (UidR w w2.heap.size 0 (w2.alloc (.cells #[.string ⟨#[97]⟩, .int .i64 1, .int .i64 1, .slice none 0 0] 26))) :=
    ⟨1, [], 0, none, 0, rfl, by decide, rfl, Bk.new _ _ _, Ms.nil _ _ _, (O1.then O2).alloc _, (O1.then O2).size⟩
  clear O1 O2 HLG
  generalize w2.alloc (.cells #[.string ⟨#[97]⟩, .int .i64 1, .int .i64 1, .slice none 0 0] 26) = w3 at *
  generalize w2.heap.size = g at *
  go_loopw [4, 5] (fun lv iv wr => ∃ (last : Int) (k : Nat), lv = .int .i64 last ∧ iv = .int .i64 (k : Int) ∧ k ≤ nt ∧ Hid (UidR w g last wr)) (fun _ iv _ => nt - (intOf iv).toNat)
  case atStart => exact ⟨0, 0, rfl, rfl, Nat.zero_le _, H0.out⟩
  case round =>
    obtain ⟨last, k, rfl, rfl, hk, HR⟩ := hrel
    obtain ⟨x, l, n, A, c, hx, hB, hl, B, M, O, hgw⟩ := HR.out
    obtain ⟨k0, k1, k2, k3⟩ := bk_four B
    by_cases hlt : k < nt
    rotate_left
    · obtain rfl : k = nt := by omega
      have HO := Lib.hid O
      clear HR B M O
      go_wp2_with (go_at_call 18; go_must (with_reducible refine (HKN.out _).mono ?_); rintro e w8 ⟨rfl, O8⟩)
      go_ret
      exact ⟨rfl, HO.out.then O8⟩
    have hlt' : (k : Int) < (nt : Int) := by omega
    by_cases h60 : k < 60
    rotate_left
    · have h60' : ¬ (k : Int) < 60 := by omega
      have HO := Lib.hid O
      clear HR B M O
      go_wp2_with (go_at_call 18; go_must (with_reducible refine (HKN.out _).mono ?_); rintro e w8 ⟨rfl, O8⟩)
      go_ret
      exact ⟨rfl, HO.out.then O8⟩
    have h60' : (k : Int) < 60 := by omega
    have hkl : k < ts.length := by rw [HTL.out]; exact hlt
    obtain ⟨ad, Au, cu, Ab, cb, rfl, hm⟩ := (HH.out.keep O).at_ hlt hkl
    have hsh := HSH.out k ts[k] h60 (List.getElem?_eq_getElem hkl)
    have hsm := isB_small hB
    generalize ts[k] = a at hm hsh
    obtain ⟨kd, f, d, md, us, y⟩ := a
    obtain ⟨m0, m1, m2, _, m4, m5, su, sb⟩ := hm
    simp only at m0 m1 m2 m4 m5 su sb hsh
    have HX := Lib.hid hx
    have hxb := hsm.2.2
    have HMM : Hid (nt - (intOf (.int .i64 ((k : Int) + 1))).toNat < nt - (intOf (.int .i64 (k : Int))).toNat) := by
      show _ < _
      simp [intOf]
      omega
    -- what follows the switch
    have HIS := Lib.hid (fun (W : World) (x2 : Int) (l2 : List Mg) (n2 : Nat) (A2 : Option Addr) (c2 : Nat) (hB2 : isB (ub x2 l2) = true) (hl2 : l2.length = n2) (hM : Ms (fun y => y ≠ g) W A2 n2 l2) => u_is (c := c2) hB2 hl2 hM)
    have hgr : g < wr.heap.size := B.lt
    have hS : ∀ y, wr.heap.size ≤ y → y ≠ g := fun y hy => by omega
    have HBK := Lib.hid B
    have HMS := Lib.hid M
    have HO := Lib.hid O
    have HBB := Lib.hid hB
    have HLN := Lib.hid hl
    clear hsm hx hB hl B M O HR
    by_cases h1 : kd = 1
    · subst h1
      obtain ⟨x', l', hb⟩ : ∃ x' l', addB (ub x l) f d y = ub x' l' := by
        unfold addB
        split
        · exact ⟨_, _, rfl⟩
        · exact ⟨x, l, rfl⟩
      obtain ⟨n', hn'⟩ : ∃ n', l'.length = n' := ⟨_, rfl⟩
      obtain ⟨u, hu⟩ : ∃ u, addU (ub x l) f d y.length = u := ⟨_, rfl⟩
      obtain ⟨q, hq⟩ : ∃ q, addE (ub x l) f d y.length = q := ⟨_, rfl⟩
      have HB' : Hid (isB (ub x' l') = true) := by show _ = _; rw [← hb]; exact isB_add HBB.out f d y
      have HQ0 : Hid (q = 0 → u = x ∧ x' = x + 1) := fun h0 => by
        rw [h0] at hq
        unfold addU at hu
        rw [if_pos hq] at hu
        unfold addB at hb
        rw [if_pos hq] at hb
        injection hb with _ _ b3 _
        exact ⟨hu.symm, b3.symm⟩
      have HQ1 : Hid (q ≠ 0 → x' = x ∧ l' = l) := fun h0 => by
        unfold addB at hb
        rw [hq, if_neg h0] at hb
        injection hb with _ _ b3 b4
        exact ⟨b3.symm, b4.symm⟩
      have HN' := Lib.hid hn'
      obtain ⟨z, hz⟩ : ∃ z, y.length = z := ⟨_, rfl⟩
      rw [hz] at m5 sb hsh
      have HC := Lib.hid (fun (W : World) (S : Nat → Prop) (hS : ∀ y, W.heap.size ≤ y → S y) (o : Only [] wr W) (hM : Ms S W A n l) => u_add (c := c) HBB.out HLN.out hM hS f d Ab z cb y (sb.keep o) hb hn' hu hq)
      clear hb hn' hu hq hz m4 su sb hsh
      go_wp2_with fail
      apply region_inv (CallI wr (fun y => y ≠ g) (UT x' n' u q) (UB x' n') (UC x' n') #[.string ⟨#[]⟩, .int .i64 0, .int .i64 0, .slice none 0 0] n' l' 16 17 18 21 22) (by kernel_rfl) (by kernel_rfl) (fun vs => CallI.start _ _ _ _ _ _ _ _ _ _ _ _ _ vs)
      intro vs
      apply inv_val
      case hw => rfl
      case hI => intro L wS hI; exact hI.pure (by decide)
      case hy => intro L wS hI; have q0 := hI.1.cellSome k0 (by simp); have q1 := hI.1.cellSome k1 (by simp); have q2 := hI.1.cellSome k2 (by simp); have q3 := hI.1.cellSome k3 (by simp); first | (go_simp; done) | (go_simp; with_reducible rfl)
      case' hk => skip
      try simp only [Act.put, List.setIfInBounds_toArray, List.set_cons_zero, List.set_cons_succ]
      apply inv_val
      case hw => rfl
      case hI => intro L wS hI; exact hI.pure (by decide)
      case hy => intro L wS hI; skip; first | (go_simp; done) | (go_simp; with_reducible rfl)
      case' hk => skip
      try simp only [Act.put, List.setIfInBounds_toArray, List.set_cons_zero, List.set_cons_succ]
      apply inv_val
      case hw => rfl
      case hI => intro L wS hI; exact hI.pure (by decide)
      case hy => intro L wS hI; skip; first | (go_simp; done) | (go_simp; with_reducible rfl)
      case' hk => skip
      try simp only [Act.put, List.setIfInBounds_toArray, List.set_cons_zero, List.set_cons_succ]
      apply inv_val
      case hw => rfl
      case hI => intro L wS hI; exact hI.pure (by decide)
      case hy => intro L wS hI; skip; first | (go_simp; done) | (go_simp; with_reducible rfl)
      case' hk => skip
      try simp only [Act.put, List.setIfInBounds_toArray, List.set_cons_zero, List.set_cons_succ]
      apply inv_val
      case hw => rfl
      case hI => intro L wS hI; exact hI.pure (by decide)
      case hy => intro L wS hI; skip; first | (go_simp; done) | (go_simp; with_reducible rfl)
      case' hk => skip
      try simp only [Act.put, List.setIfInBounds_toArray, List.set_cons_zero, List.set_cons_succ]
      apply inv_val
      case hw => rfl
      case hI => intro L wS hI; exact hI.pure (by decide)
      case hy => intro L wS hI; have q0 := hI.1.cellSome m1 (by simp); first | (go_simp; done) | (go_simp; with_reducible rfl)
      case' hk => skip
      try simp only [Act.put, List.setIfInBounds_toArray, List.set_cons_zero, List.set_cons_succ]
      apply inv_val
      case hw => rfl
      case hI => intro L wS hI; exact hI.pure (by decide)
      case hy => intro L wS hI; skip; first | (go_simp; done) | (go_simp; with_reducible rfl)
      case' hk => skip
      try simp only [Act.put, List.setIfInBounds_toArray, List.set_cons_zero, List.set_cons_succ]
      apply inv_val
      case hw => rfl
      case hI => intro L wS hI; exact hI.pure (by decide)
      case hy => intro L wS hI; skip; first | (go_simp; done) | (go_simp; with_reducible rfl)
      case' hk => skip
      try simp only [Act.put, List.setIfInBounds_toArray, List.set_cons_zero, List.set_cons_succ]
      apply inv_val
      case hw => rfl
      case hI => intro L wS hI; exact hI.pure (by decide)
      case hy => intro L wS hI; skip; first | (go_simp; done) | (go_simp; with_reducible rfl)
      case' hk => skip
      try simp only [Act.put, List.setIfInBounds_toArray, List.set_cons_zero, List.set_cons_succ]
      apply inv_val
      case hw => rfl
      case hI => intro L wS hI; exact hI.pure (by decide)
      case hy => intro L wS hI; skip; first | (go_simp; done) | (go_simp; with_reducible rfl)
      case' hk => skip
      try simp only [Act.put, List.setIfInBounds_toArray, List.set_cons_zero, List.set_cons_succ]
      apply inv_val
      case hw => rfl
      case hI => intro L wS hI; exact hI.pure (by decide)
      case hy => intro L wS hI; have q0 := hI.1.cellSome m2 (by simp); first | (go_simp; done) | (go_simp; with_reducible rfl)
      case' hk => skip
      try simp only [Act.put, List.setIfInBounds_toArray, List.set_cons_zero, List.set_cons_succ]
      apply inv_val
      case hw => rfl
      case hI => intro L wS hI; exact hI.pure (by decide)
      case hy => intro L wS hI; skip; first | (go_simp; done) | (go_simp; with_reducible rfl)
      case' hk => skip
      try simp only [Act.put, List.setIfInBounds_toArray, List.set_cons_zero, List.set_cons_succ]
      apply inv_val
      case hw => rfl
      case hI => intro L wS hI; exact hI.pure (by decide)
      case hy => intro L wS hI; skip; first | (go_simp; done) | (go_simp; with_reducible rfl)
      case' hk => skip
      try simp only [Act.put, List.setIfInBounds_toArray, List.set_cons_zero, List.set_cons_succ]
      apply inv_val
      case hw => rfl
      case hI => intro L wS hI; exact hI.pure (by decide)
      case hy => intro L wS hI; skip; first | (go_simp; done) | (go_simp; with_reducible rfl)
      case' hk => skip
      try simp only [Act.put, List.setIfInBounds_toArray, List.set_cons_zero, List.set_cons_succ]
      apply inv_val
      case hw => rfl
      case hI => intro L wS hI; exact hI.pure (by decide)
      case hy => intro L wS hI; skip; first | (go_simp; done) | (go_simp; with_reducible rfl)
      case' hk => skip
      try simp only [Act.put, List.setIfInBounds_toArray, List.set_cons_zero, List.set_cons_succ]
      apply inv_val
      case hw => rfl
      case hI => intro L wS hI; exact hI.pure (by decide)
      case hy => intro L wS hI; have q0 := hI.1.cellSome m5 (by simp); first | (go_simp; done) | (go_simp; with_reducible rfl)
      case' hk => skip
      try simp only [Act.put, List.setIfInBounds_toArray, List.set_cons_zero, List.set_cons_succ]
      apply inv_op
      case hw => rfl
      case hy =>
        intro L wS hI hL hw
        refine gives_call (f := 31) (args := #[.agg #[.string ⟨#[97]⟩, .int .i64 1, .int .i64 x, .slice A n c], .int .i64 f, .int .i64 d, .slice Ab z cb]) ?_ ?_
        · first | (go_simp; done) | (go_simp; with_reducible rfl)
        · exact (HC.out wS (CallI.cls (fun y => y ≠ g) 21 L vs) (hI.fresh hS) hI.1 (hI.source HMS.out)).mono fun e w' he => by
            obtain ⟨A', c', e1, e2, e3⟩ := he
            exact ⟨_, e1, hI.call hL (by decide) e2 e3, trivial⟩
      case' hk => skip
      try simp only [Act.put, List.setIfInBounds_toArray, List.set_cons_zero, List.set_cons_succ]
      apply inv_op
      case hw => rfl
      case hy =>
        intro L wS hI hL hw
        have hl := hw 16 (by kernel_rfl)
        obtain ⟨A', c', e, _⟩ := hI.2.2.2 hl
        refine gives_value (u := UT x' n' u q A' c') (w' := wS) ?_ (hI.move e (UT_inj x' n' u q A' c') hl (by decide)) trivial
        rw [e]
        unfold UT
        first | (go_simp; done) | (go_simp; with_reducible rfl)
      case' hk => skip
      try simp only [Act.put, List.setIfInBounds_toArray, List.set_cons_zero, List.set_cons_succ]
      apply inv_op
      case hw => rfl
      case hy =>
        intro L wS hI hL hw
        have hl := hw 17 (by kernel_rfl)
        obtain ⟨A', c', e, e2, _⟩ := hI.moved hl
        refine gives_value (u := UB x' n' A' c') (w' := wS) ?_ (hI.part e (UT_inj x' n' u q A' c') hl (by decide)) trivial
        rw [e2]
        unfold UT UB
        first | (go_simp; done) | (go_simp; with_reducible rfl)
      case' hk => skip
      try simp only [Act.put, List.setIfInBounds_toArray, List.set_cons_zero, List.set_cons_succ]
      apply inv_valw (v := .int .i64 u)
      case hw => rfl
      case hI => intro L wS hI; exact hI.pure (by decide)
      case hy =>
        intro L wS hI hw
        obtain ⟨A', c', e, e2, _⟩ := hI.moved (hw 17 (by kernel_rfl))
        rw [e2]
        unfold UT
        first | (go_simp; done) | (go_simp; with_reducible rfl)
      case' hk => skip
      try simp only [Act.put, List.setIfInBounds_toArray, List.set_cons_zero, List.set_cons_succ]
      apply inv_valw (v := .int .i64 q)
      case hw => rfl
      case hI => intro L wS hI; exact hI.pure (by decide)
      case hy =>
        intro L wS hI hw
        obtain ⟨A', c', e, e2, _⟩ := hI.moved (hw 17 (by kernel_rfl))
        rw [e2]
        unfold UT
        first | (go_simp; done) | (go_simp; with_reducible rfl)
      case' hk => skip
      try simp only [Act.put, List.setIfInBounds_toArray, List.set_cons_zero, List.set_cons_succ]
      apply inv_op
      case hw => rfl
      case hy =>
        intro L wS hI hL hw
        refine gives_value (u := ptr2 wS.heap.size) (w' := wS.alloc (.cells #[.string ⟨#[]⟩, .int .i64 0, .int .i64 0, .slice none 0 0] 26)) ?_ (hI.alloc hL (by decide)) trivial
        show _ = Result.ok (Next.value (.pointer (some ⟨wS.heap.size, 0, none⟩))) (wS.alloc (.cells #[.string ⟨#[]⟩, .int .i64 0, .int .i64 0, .slice none 0 0] 26))
        first | (go_simp; done) | (go_simp; with_reducible rfl)
      case' hk => skip
      try simp only [Act.put, List.setIfInBounds_toArray, List.set_cons_zero, List.set_cons_succ]
      apply inv_op
      case hw => rfl
      case hy =>
        intro L wS hI hL hw
        have hl := hw 21 (by kernel_rfl)
        have hx := hw 18 (by kernel_rfl)
        obtain ⟨gn, e4, hg1, hg2, hb⟩ := hI.2.2.1 hl
        replace hb := hb hL
        obtain ⟨A', c', e, _, e3, _⟩ := hI.2.2.2 (hI.2.1.1 (hI.2.1.2.1 hx))
        obtain ⟨p0, p1, p2, p3⟩ := bk_four hb
        have fz0 := hb.free 0
        have fz1 := hb.free 1
        have fz2 := hb.free 2
        have fz3 := hb.free 3
        rw [e4, e3 hx]
        refine gives_skip ?_ (hI.store e (UT_inj x' n' u q A' c') ⟨hl, hx⟩ e4 (only_store (Only.refl [gn] wS) (.inl List.mem_cons_self) (.string ⟨#[97]⟩) (.int .i64 1) (.int .i64 x') (.slice A' n' c')) (bk_store hb _ _ _ _) (by decide)) trivial
        unfold ptr2 UB
        go_simp
      case' hk => skip
      try simp only [Act.put]
      apply inv_val
      case hw => rfl
      case hI => intro L wS hI; exact hI.pure (by decide)
      case hy => intro L wS hI; skip; first | (go_simp; done) | (go_simp; with_reducible rfl)
      case' hk => skip
      try simp only [Act.put, List.setIfInBounds_toArray, List.set_cons_zero, List.set_cons_succ]
      apply inv_val
      case hw => rfl
      case hI => intro L wS hI; exact hI.pure (by decide)
      case hy => intro L wS hI; skip; first | (go_simp; done) | (go_simp; with_reducible rfl)
      case' hk => skip
      try simp only [Act.put, List.setIfInBounds_toArray, List.set_cons_zero, List.set_cons_succ]
      refine inv_end ?_
      intro L w7 hall hI
      obtain ⟨A', c', gn, ev16, ev17, ev18, ev21, hgn, Bn, Mn, O7⟩ := hI.end_ ⟨hall 16 (by decide), hall 17 (by decide), hall 18 (by decide), hall 21 (by decide), hall 22 (by decide)⟩
      rw [ev16, ev17, ev18, ev21]
      clear ev16 ev17 ev18 ev21 hall hI
      unfold ptr2 UT UB
      unfold UC at Bn
      have BG := HBK.out.only O7 (by simp)
      obtain ⟨j0, j1, j2, j3⟩ := bk_four BG
      obtain ⟨p0, p1, p2, p3⟩ := bk_four Bn
      have f0 := BG.free 0
      have f1 := BG.free 1
      have f2 := BG.free 2
      have f3 := BG.free 3
      have hg7 : g < w7.heap.size := BG.lt
      have B8 := Lib.hid (bk_store BG (.string ⟨#[97]⟩) (.int .i64 1) (.int .i64 x') (.slice A' n' c'))
      have M8 := Lib.hid ((Mn.mono (S' := fun y => y ≠ g) (fun y hy => hy.1)).store (fun h => h rfl) (.string ⟨#[97]⟩) (.int .i64 1) (.int .i64 x') (.slice A' n' c'))
      have O8 := Lib.hid (only_store (HO.out.then O7) (.inr hgw) (.string ⟨#[97]⟩) (.int .i64 1) (.int .i64 x') (.slice A' n' c'))
      have hk1 : k + 1 ≤ nt := by omega
      by_cases h0 : q = 0
      · obtain ⟨e1, e2⟩ := HQ0.out h0
        have e3 := HX.out
        subst h0 e3
        subst e1 e2
        clear HQ0 HQ1 HC k0 k1 k2 k3 m0 m1 m2 m5 BG Bn Mn O7
        go_wp2_with (go_at_call 15; with_reducible refine (HIS.out _ _ l' n' A' c' HB'.out HN'.out M8.out).mono ?_; rintro e w9 ⟨rfl, O9⟩; have B9 := B8.out.only O9 (by simp); obtain ⟨i0, i1, i2, i3⟩ := bk_four B9)
        exact ⟨⟨_, k + 1, rfl, by simp, hk1, _, l', n', A', c', rfl, HB'.out, HN'.out, B9, M8.out.keep O9, O8.out.then O9, hgw⟩, HMM.out⟩
      · obtain ⟨e1, e2⟩ := HQ1.out h0
        have e3 := HX.out
        subst e3
        subst e1 e2
        have hn2 : n' = n := by rw [← HN'.out, ← HLN.out]
        subst hn2
        have hq0 : (q == 0) = false := by simpa using h0
        have hq1 : (q != 0) = true := by simpa using h0
        have HSM := Lib.hid (u_same (w := w7) (x := last + 1) (c := c') (c2 := c) (by have := (isB_small HBB.out).1; rw [HLN.out] at this; omega) HN'.out Mn (HMS.out.keep O7))
        clear HQ0 HQ1 HC k0 k1 k2 k3 m0 m1 m2 m5 h0
        clear j0 j1 j2 j3 f0 f1 f2 f3 hg7 B8 M8 O8
        obtain ⟨j0, j1, j2, j3⟩ := bk_four BG
        go_wp2_with (first
          | (go_at_call 17; go_must (with_reducible refine HSM.out.mono ?_); rintro e wb ⟨rfl, Ob⟩; have Bb := BG.only Ob (by simp); obtain ⟨r0, r1, r2, r3⟩ := bk_four Bb; obtain ⟨s0, s1, s2, s3⟩ := bk_four (Bn.only Ob (by simp)); have f0 := Bb.free 0; have f1 := Bb.free 1; have f2 := Bb.free 2; have f3 := Bb.free 3; have hgb : g < wb.heap.size := Bb.lt; have B8 := Lib.hid (bk_store Bb (.string ⟨#[97]⟩) (.int .i64 1) (.int .i64 (last + 1)) (.slice A' n' c')); have M8 := Lib.hid (((Mn.keep Ob).mono (S' := fun y => y ≠ g) (fun y hy => hy.1)).store (fun h => h rfl) (.string ⟨#[97]⟩) (.int .i64 1) (.int .i64 (last + 1)) (.slice A' n' c')); have O8 := Lib.hid (only_store ((HO.out.then O7).then Ob) (.inr hgw) (.string ⟨#[97]⟩) (.int .i64 1) (.int .i64 (last + 1)) (.slice A' n' c')))
          | (go_at_call 15; with_reducible refine (HIS.out _ _ l' n' A' c' HB'.out HN'.out M8.out).mono ?_; rintro e w9 ⟨rfl, O9⟩; have B9 := B8.out.only O9 (by simp); obtain ⟨i0, i1, i2, i3⟩ := bk_four B9))
        exact ⟨⟨_, k + 1, rfl, by simp, hk1, _, l', n', A', c', rfl, HB'.out, HN'.out, B9, M8.out.keep O9, O8.out.then O9, hgw⟩, HMM.out⟩
    · have hk1 : k + 1 ≤ nt := by omega
      have e3 := HX.out
      subst e3
      by_cases h3 : kd = 3
      · subst h3
        obtain ⟨lc, hlc⟩ : ∃ lc, stayL us l = lc := ⟨_, rfl⟩
        obtain ⟨nc, hnc⟩ : ∃ nc, lc.length = nc := ⟨_, rfl⟩
        have HNC := Lib.hid hnc
        have HB' : Hid (isB (ub (last + 1) lc) = true) := by
          show _ = _
          rw [← hlc]
          exact isB_exp HBB.out us
        obtain ⟨z, hz⟩ : ∃ z, us.length = z := ⟨_, rfl⟩
        rw [hz] at m4 su hsh
        have HE := Lib.hid (fun (W : World) (o : Only [] wr W) => u_exp (S := fun y => y ≠ g) (c := c) HBB.out HLN.out (HMS.out.keep o) (fun y hy => hS y (by have := o.size; omega)) Au z cu us (su.keep o) (by omega) hlc hnc)
        clear hlc hnc hz su sb hsh m1 m2 m5
        go_wp2_with fail
        go_region_law (first | (go_simp; go_at_call 28; refine (HE.out _ ((Only.refl [] wr).drew)).mono ?_; rintro e w4 ⟨A3, c3, Ag, ng, cg, rfl, M3, O3⟩; try have hQ := Only.then ((Only.refl [] wr).drew) O3; try have B3 := HBK.out.only hQ (by simp); try obtain ⟨j0, j1, j2, j3⟩ := bk_four B3; try have f0 := B3.free 0; try have f1 := B3.free 1; try have f2 := B3.free 2; try have f3 := B3.free 3; try have hg3 : g < w4.heap.size := B3.lt; try have B8 := Lib.hid (bk_store B3 (.string ⟨#[97]⟩) (.int .i64 1) (.int .i64 (last + 1)) (.slice A3 nc c3)); try have M8 := Lib.hid (M3.store (fun h => h rfl) (.string ⟨#[97]⟩) (.int .i64 1) (.int .i64 (last + 1)) (.slice A3 nc c3)); try have O8 := Lib.hid (only_store (HO.out.then hQ) (.inr hgw) (.string ⟨#[97]⟩) (.int .i64 1) (.int .i64 (last + 1)) (.slice A3 nc c3))) | fail)
        all_goals
          go_wp2_with (go_at_call 15; with_reducible refine (HIS.out _ _ lc nc A3 c3 HB'.out HNC.out M8.out).mono ?_; rintro e w9 ⟨rfl, O9⟩; have B9 := B8.out.only O9 (by simp); obtain ⟨i0, i1, i2, i3⟩ := bk_four B9)
          exact ⟨⟨_, k + 1, rfl, by simp, hk1, _, lc, nc, A3, c3, rfl, HB'.out, HNC.out, B9, M8.out.keep O9, O8.out.then O9, hgw⟩, HMM.out⟩
      · have e1 : (kd == 1) = false := by simpa using h1
        have e3 : (kd == 3) = false := by simpa using h3
        clear m1 m2 m4 m5 su sb hsh
        go_wp2_with (go_at_call 15; with_reducible refine (HIS.out _ _ l n A c HBB.out HLN.out HMS.out).mono ?_; rintro e w9 ⟨rfl, O9⟩; have B9 := HBK.out.only O9 (by simp); obtain ⟨i0, i1, i2, i3⟩ := bk_four B9)
        exact ⟨⟨_, k + 1, rfl, by simp, hk1, _, l, n, A, c, rfl, HBB.out, HLN.out, B9, HMS.out.keep O9, HO.out.then O9, hgw⟩, HMM.out⟩
end Go.Proofs.Ythaodlegpjedoaa
