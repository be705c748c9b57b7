/-
  The law BoxPlays: ints; an act on both mailboxes.
-/
import Derived.Test.YthaodlegpjedoaaVCallX
import Derived.Test.YthaodlegpjedoaaVRefAdd
import Derived.Test.YthaodlegpjedoaaVRefMark
import Derived.Test.YthaodlegpjedoaaVRefExp
import Derived.Test.YthaodlegpjedoaaVAct
namespace Go.Proofs.Ythaodlegpjedoaa
open Go.RowKit Go.Instr

set_option maxRecDepth 100000 in
set_option maxHeartbeats 4000000 in
theorem ints_any {w : World} {A1 A2 : Option Addr} {n c1 c2 : Nat} {l : List Int} (h1 : Sl w A1 n (ivs l)) (h2 : Sl w A2 n (ivs l)) (hn : n ≤ 140737488355328) :
    Calls Try.prog 38 #[.slice A1 n c1, .slice A2 n c2] w fun e w' => e = .returned (.bool true) ∧ Only [] w w' := by
  have H1 := Lib.hid h1
  have H2 := Lib.hid h2
  have HL : Hid (l.length = n) := by show _ = _; simpa using h1.len
  clear h1 h2
  go_enter Try.func38, Try.ntmps38
  go_wp2
  go_loopw [5] (fun iv wr => Only [] w wr ∧ ∃ k : Nat, iv = .int .i64 (k : Int) ∧ k ≤ n) (fun iv _ => n - (intOf iv).toNat)
  case atStart => exact ⟨Only.refl _ _, 0, rfl, Nat.zero_le _⟩
  case round =>
    obtain ⟨hO, k, rfl, hk⟩ := hrel
    by_cases hlt : k < n
    · have hlt' : (k : Int) < (n : Int) := by omega
      have hkl : k < l.length := by rw [HL.out]; exact hlt
      obtain ⟨a1, rfl, i1⟩ := (H1.out.keep hO).int_at hlt hkl
      obtain ⟨a2, rfl, i2⟩ := (H2.out.keep hO).int_at hlt hkl
      generalize l[k] = z at i1 i2
      have HOO := Lib.hid hO
      clear hO hkl
      have hMM : Hid (n - (intOf (.int .i64 ((k : Int) + 1))).toNat < n - (intOf (.int .i64 (k : Int))).toNat) := by
        show _ < _
        simp [intOf]
        omega
      go_wp2_with fail
      apply region_only (by kernel_rfl) (by kernel_rfl)
      apply rel_val (hrf := Tk_refl)
      case hw => rfl
      case hy => intro wS hN hF; skip; first | (go_simp; done) | (go_simp; with_reducible rfl)
      case' hk => skip
      try simp only [Act.put, List.setIfInBounds_toArray, List.set_cons_zero, List.set_cons_succ]
      apply rel_val (hrf := Tk_refl)
      case hw => rfl
      case hy => intro wS hN hF; skip; first | (go_simp; done) | (go_simp; with_reducible rfl)
      case' hk => skip
      try simp only [Act.put, List.setIfInBounds_toArray, List.set_cons_zero, List.set_cons_succ]
      apply rel_val (hrf := Tk_refl)
      case hw => rfl
      case hy => intro wS hN hF; skip; first | (go_simp; done) | (go_simp; with_reducible rfl)
      case' hk => skip
      try simp only [Act.put, List.setIfInBounds_toArray, List.set_cons_zero, List.set_cons_succ]
      apply rel_val (hrf := Tk_refl)
      case hw => rfl
      case hy => intro wS hN hF; have hO := hN.pre (by kernel_rfl); have q0 := hO.cellSome i1 (by simp); first | (go_simp; done) | (go_simp; with_reducible rfl)
      case' hk => skip
      try simp only [Act.put, List.setIfInBounds_toArray, List.set_cons_zero, List.set_cons_succ]
      apply rel_val (hrf := Tk_refl)
      case hw => rfl
      case hy => intro wS hN hF; skip; first | (go_simp; done) | (go_simp; with_reducible rfl)
      case' hk => skip
      try simp only [Act.put, List.setIfInBounds_toArray, List.set_cons_zero, List.set_cons_succ]
      apply rel_val (hrf := Tk_refl)
      case hw => rfl
      case hy => intro wS hN hF; skip; first | (go_simp; done) | (go_simp; with_reducible rfl)
      case' hk => skip
      try simp only [Act.put, List.setIfInBounds_toArray, List.set_cons_zero, List.set_cons_succ]
      apply rel_val (hrf := Tk_refl)
      case hw => rfl
      case hy => intro wS hN hF; skip; first | (go_simp; done) | (go_simp; with_reducible rfl)
      case' hk => skip
      try simp only [Act.put, List.setIfInBounds_toArray, List.set_cons_zero, List.set_cons_succ]
      apply rel_val (hrf := Tk_refl)
      case hw => rfl
      case hy => intro wS hN hF; have hO := hN.pre (by kernel_rfl); have q0 := hO.cellSome i2 (by simp); first | (go_simp; done) | (go_simp; with_reducible rfl)
      case' hk => skip
      try simp only [Act.put, List.setIfInBounds_toArray, List.set_cons_zero, List.set_cons_succ]
      apply rel_val (v := .bool false) (hrf := Tk_refl)
      case hw => rfl
      case hy =>
        intro wS hN hF
        go_simp
      case' hk => skip
      try simp only [Act.put, List.setIfInBounds_toArray, List.set_cons_zero, List.set_cons_succ]
      refine rel_end ?_
      intro wS hO2 hF
      clear hF
      go_wp2
      exact ⟨⟨(HOO.out.drew).then hO2.only, k + 1, by simp, by omega⟩, hMM.out⟩
    · obtain rfl : k = n := by omega
      go_wp2
      go_ret
      exact ⟨rfl, hO⟩

/-! ### What the six calls answer, as what is found at run time -/
def tAdd (t : ByteArray) (v x : Int) (n : Nat) (u q : Int) (xw : XW) : Value := .tuple #[.agg #[.string t, .int .i64 v, .int .i64 x, .slice xw.1 n xw.2.1], .int .i64 u, .int .i64 q]
def tMark (t : ByteArray) (v x : Int) (n : Nat) (q : Int) (xw : XW) : Value := .tuple #[.agg #[.string t, .int .i64 v, .int .i64 x, .slice xw.1 n xw.2.1], .int .i64 q]
def tExp (t : ByteArray) (v x : Int) (n ng : Nat) (xw : XW) : Value := .tuple #[.agg #[.string t, .int .i64 v, .int .i64 x, .slice xw.1 n xw.2.1], .slice xw.2.2.1 ng xw.2.2.2]
def xBox (t : ByteArray) (v x : Int) (n : Nat) (xw : XW) : Value := .agg #[.string t, .int .i64 v, .int .i64 x, .slice xw.1 n xw.2.1]
def xCells (t : ByteArray) (v x : Int) (n : Nat) (xw : XW) : Array Value := #[.string t, .int .i64 v, .int .i64 x, .slice xw.1 n xw.2.1]
def xGone (ng : Nat) (xw : XW) : Value := .slice xw.2.2.1 ng xw.2.2.2
section
variable {S : Nat → Prop} {w w' : World} {s : List UInt8} {v x x' u q : Int} {l l' : List Mg} {n n' c : Nat} {A : Option Addr} {e : Ending}
theorem Added.wx {b : Bx} (h : Added S w b u q e w') (hb : b = ⟨s, v, x', l'⟩) (hn : l'.length = n') : ∃ xw : XW, e = .returned (tAdd (St s) v x' n' u q xw) ∧ KX n' l' 0 [] S w' xw ∧ Only [] w w' := by
  subst hb
  obtain ⟨A2, c2, e1, e2, e3⟩ := h
  simp only at e2
  rw [hn] at e2
  rw [bxv_eq hn] at e1
  exact ⟨(A2, c2, none, 0), e1, ⟨e2, Sl.none_, fun h => by omega⟩, e3⟩
theorem Markd.wx {b : Bx} {q : Nat} (h : Markd S w b q e w') (hb : b = ⟨s, v, x', l'⟩) (hn : l'.length = n') : ∃ xw : XW, e = .returned (tMark (St s) v x' n' (q : Int) xw) ∧ KX n' l' 0 [] S w' xw ∧ Only [] w w' := by
  subst hb
  obtain ⟨A2, c2, e1, e2, e3⟩ := h
  simp only at e2
  rw [hn] at e2
  rw [bxv_eq hn] at e1
  exact ⟨(A2, c2, none, 0), e1, ⟨e2, Sl.none_, fun h => by omega⟩, e3⟩
theorem Expd.wx {b : Bx} {gl : List Int} {ng : Nat} (h : Expd S w b gl e w') (hS : ∀ y, w.heap.size ≤ y → S y) (hb : b = ⟨s, v, x', l'⟩) (hn : l'.length = n') (hng : gl.length = ng) : ∃ xw : XW, e = .returned (tExp (St s) v x' n' ng xw) ∧ KX n' l' ng gl S w' xw ∧ Only [] w w' := by
  subst hb
  obtain ⟨A2, c2, G, d, e1, e2, e3, e4, e5⟩ := h
  simp only at e2
  rw [hn] at e2
  rw [bxv_eq hn] at e1
  rw [hng] at e1 e3
  exact ⟨(A2, c2, G, d), e1, ⟨e2, e3, fun _ ad ea => by
    simp only at ea
    subst ea
    exact hS _ (e4 _ (by simp))⟩, e5⟩
theorem addX_any (hl : l.length = n) (h : Ms S w A n l) (hn : n ≤ 1000000) (hb : ∀ m ∈ l, m.body.length ≤ 1000000) (hx : 0 ≤ x) (hS : ∀ y, w.heap.size ≤ y → S y) (f d : Int) (P : Option Addr) (m cp : Nat) (p : List UInt8) (hp : Sl w P m (bvs p))
    (hb' : addB ⟨s, v, x, l⟩ f d p = ⟨s, v, x', l'⟩) (hn' : l'.length = n') (hu : addU ⟨s, v, x, l⟩ f d p.length = u) (hq : addE ⟨s, v, x, l⟩ f d p.length = q) :
    Calls Try.prog 31 #[.agg #[.string (St s), .int .i64 v, .int .i64 x, .slice A n c], .int .i64 f, .int .i64 d, .slice P m cp] w fun e w' => ∃ xw : XW, e = .returned (tAdd (St s) v x' n' u q xw) ∧ KX n' l' 0 [] S w' xw ∧ Only [] w w' := by
  subst hl
  have hh := Add_any (w := w) ⟨s, v, x, l⟩ (A := A) (c := c) h hn hb hx hS f d P m cp p hp
  rw [bxv_eq rfl, hu, hq] at hh
  exact hh.mono fun e w' h => h.wx hb' hn'
theorem refAddX_any (hl : l.length = n) (h : Ms S w A n l) (hn : n ≤ 1000000) (hx : 0 ≤ x) (hS : ∀ y, w.heap.size ≤ y → S y) (f d : Int) (P : Option Addr) (m cp : Nat) (p : List UInt8) (hp : Sl w P m (bvs p)) (hm : m ≤ 140737488351232)
    (hb' : addB ⟨s, v, x, l⟩ f d p = ⟨s, v, x', l'⟩) (hn' : l'.length = n') (hu : addU ⟨s, v, x, l⟩ f d p.length = u) (hq : addE ⟨s, v, x, l⟩ f d p.length = q) :
    Calls Try.prog 35 #[.agg #[.string (St s), .int .i64 v, .int .i64 x, .slice A n c], .int .i64 f, .int .i64 d, .slice P m cp] w fun e w' => ∃ xw : XW, e = .returned (tAdd (St s) v x' n' u q xw) ∧ KX n' l' 0 [] S w' xw ∧ Only [] w w' := by
  subst hl
  have hh := refAdd_any (w := w) ⟨s, v, x, l⟩ (A := A) (c := c) h hn hx hS f d P m cp p hp hm
  rw [bxv_eq rfl, hu, hq] at hh
  exact hh.mono fun e w' h => h.wx hb' hn'
theorem markX_any {q : Nat} (hl : l.length = n) (h : Ms S w A n l) (hn : n ≤ 1000000) (hb : ∀ m ∈ l, m.body.length ≤ 1000000) (hS : ∀ y, w.heap.size ≤ y → S y) (U : Option Addr) (nu cu : Nat) (us : List Int) (hU : Sl w U nu (ivs us)) (hnu : nu ≤ 140737488355328) (mode fl : Int)
    (hb' : l.map (markM us mode fl) = l') (hq : markN us mode fl l = q) :
    Calls Try.prog 32 #[.agg #[.string (St s), .int .i64 v, .int .i64 x, .slice A n c], .slice U nu cu, .int .i64 mode, .int .i64 fl] w fun e w' => ∃ xw : XW, e = .returned (tMark (St s) v x n (q : Int) xw) ∧ KX n l' 0 [] S w' xw ∧ Only [] w w' := by
  subst hl
  have hh := Mark_any (w := w) ⟨s, v, x, l⟩ (A := A) (c := c) h hn hb hS U nu cu us hU hnu mode fl
  rw [bxv_eq rfl, hq] at hh
  exact hh.mono fun e w' h => h.wx (by unfold markB; rw [hb']) (by rw [← hb', List.length_map])
theorem refMarkX_any {q : Nat} (hl : l.length = n) (h : Ms S w A n l) (hn : n ≤ 1000000) (hS : ∀ y, w.heap.size ≤ y → S y) (U : Option Addr) (nu cu : Nat) (us : List Int) (hU : Sl w U nu (ivs us)) (hnu : nu ≤ 140737488355328) (mode fl : Int)
    (hb' : l.map (markM us mode fl) = l') (hq : markN us mode fl l = q) :
    Calls Try.prog 36 #[.agg #[.string (St s), .int .i64 v, .int .i64 x, .slice A n c], .slice U nu cu, .int .i64 mode, .int .i64 fl] w fun e w' => ∃ xw : XW, e = .returned (tMark (St s) v x n (q : Int) xw) ∧ KX n l' 0 [] S w' xw ∧ Only [] w w' := by
  subst hl
  have hh := refMark_any (w := w) ⟨s, v, x, l⟩ (A := A) (c := c) h hn hS U nu cu us hU hnu mode fl
  rw [bxv_eq rfl, hq] at hh
  exact hh.mono fun e w' h => h.wx (by unfold markB; rw [hb']) (by rw [← hb', List.length_map])
theorem expX_any {gl : List Int} {ng : Nat} (hl : l.length = n) (h : Ms S w A n l) (hn : n ≤ 1000000) (hb : ∀ m ∈ l, m.body.length ≤ 1000000) (hS : ∀ y, w.heap.size ≤ y → S y) (U : Option Addr) (nu cu : Nat) (us : List Int) (hU : Sl w U nu (ivs us)) (hnu : nu ≤ 140737488355328)
    (hb' : stayL us l = l') (hg : goneL us l = gl) (hn' : l'.length = n') (hng : gl.length = ng) :
    Calls Try.prog 28 #[.agg #[.string (St s), .int .i64 v, .int .i64 x, .slice A n c], .slice U nu cu] w fun e w' => ∃ xw : XW, e = .returned (tExp (St s) v x n' ng xw) ∧ KX n' l' ng gl S w' xw ∧ Only [] w w' := by
  subst hl
  have hh := Expunge_any (w := w) ⟨s, v, x, l⟩ (A := A) (c := c) h hn hb hS U nu cu us hU hnu
  rw [bxv_eq rfl, hg] at hh
  exact hh.mono fun e w' h => h.wx hS (by unfold expB; rw [hb']) hn' hng
theorem refExpX_any {gl : List Int} {ng : Nat} (hl : l.length = n) (h : Ms S w A n l) (hn : n ≤ 1000000) (hS : ∀ y, w.heap.size ≤ y → S y) (U : Option Addr) (nu cu : Nat) (us : List Int) (hU : Sl w U nu (ivs us)) (hnu : nu ≤ 140737488355328)
    (hb' : stayL us l = l') (hg : goneL us l = gl) (hn' : l'.length = n') (hng : gl.length = ng) :
    Calls Try.prog 37 #[.agg #[.string (St s), .int .i64 v, .int .i64 x, .slice A n c], .slice U nu cu] w fun e w' => ∃ xw : XW, e = .returned (tExp (St s) v x n' ng xw) ∧ KX n' l' ng gl S w' xw ∧ Only [] w w' := by
  subst hl
  have hh := refExpunge_any (w := w) ⟨s, v, x, l⟩ (A := A) (c := c) h hn hS U nu cu us hU hnu
  rw [bxv_eq rfl, hg] at hh
  exact hh.mono fun e w' h => h.wx hS (by unfold expB; rw [hb']) hn' hng
end
/-- What an act makes of a mailbox. -/
def stepB (b : Bx) (kd f d md : Int) (us : List Int) (y : List UInt8) : Bx := if kd = 1 then addB b f d y else if kd = 2 then markB b us md f else if kd = 3 then expB b us else b
/-- Both mailboxes are b, behind the act; it answered true. -/
def ActR (w : World) (gb gx : Nat) (b : Bx) (e : Ending) (w' : World) : Prop :=
  e = .returned (.bool true) ∧ ∃ A2 c2 A3 c3, Bk w' gb 26 (bxc b A2 c2) ∧ Bk w' gx 26 (bxc b A3 c3) ∧ Ms (fun y => y ≠ gb ∧ y ≠ gx) w' A2 b.l.length b.l ∧ Ms (fun y => y ≠ gb ∧ y ≠ gx) w' A3 b.l.length b.l ∧ Only [gb, gx] w w'
set_option maxRecDepth 100000 in
set_option maxHeartbeats 16000000 in
theorem act_any {w : World} {gb gx : Nat} {s : List UInt8} {v x : Int} {l : List Mg} {n c c' : Nat} {A A' : Option Addr} (B1 : Bk w gb 26 #[.string (St s), .int .i64 v, .int .i64 x, .slice A n c]) (B2 : Bk w gx 26 #[.string (St s), .int .i64 v, .int .i64 x, .slice A' n c']) (hne : gb ≠ gx) (hl : l.length = n)
    (M1 : Ms (fun y => y ≠ gb ∧ y ≠ gx) w A n l) (M2 : Ms (fun y => y ≠ gb ∧ y ≠ gx) w A' n l) (hn : n ≤ 24) (hby : ∀ m ∈ l, m.body.length ≤ 1000000) (hx : 0 ≤ x) (kd f d md : Int) (Au : Option Addr) (nu cu : Nat) (us : List Int) (hU : Sl w Au nu (ivs us)) (hnu : nu ≤ 140737488351232) (Ab : Option Addr) (nb cb : Nat) (y : List UInt8) (hY : Sl w Ab nb (bvs y)) (hnb : nb ≤ 140737488351232) :
    Calls Try.prog 16 #[.pointer (some ⟨gb, 0, none⟩), .pointer (some ⟨gx, 0, none⟩), .agg #[.int .i64 kd, .int .i64 f, .int .i64 d, .int .i64 md, .slice Au nu cu, .slice Ab nb cb]] w (ActR w gb gx (stepB ⟨s, v, x, l⟩ kd f d md us y)) := by
  obtain ⟨t, ht⟩ : ∃ t, St s = t := ⟨_, rfl⟩
  have HT := Lib.hid ht
  rw [ht] at B1 B2
  obtain ⟨w1, hw1⟩ : ∃ w1, w.alloc (.cells #[.int .i64 kd, .int .i64 f, .int .i64 d, .int .i64 md, .slice Au nu cu, .slice Ab nb cb] 31) = w1 := ⟨_, rfl⟩
  have ho1 : Only [] w w1 := by rw [← hw1]; exact (Only.refl [] w).alloc _
  have hB := Bk.new w 31 #[.int .i64 kd, .int .i64 f, .int .i64 d, .int .i64 md, .slice Au nu cu, .slice Ab nb cb]
  rw [hw1] at hB
  have m0 : w1.cell? ⟨w.heap.size, 0, none⟩ = some (.int .i64 kd) := hB.cell 0
  have m1 : w1.cell? ⟨w.heap.size, 1, none⟩ = some (.int .i64 f) := hB.cell 1
  have m2 : w1.cell? ⟨w.heap.size, 2, none⟩ = some (.int .i64 d) := hB.cell 2
  have m3 : w1.cell? ⟨w.heap.size, 3, none⟩ = some (.int .i64 md) := hB.cell 3
  have m4 : w1.cell? ⟨w.heap.size, 4, none⟩ = some (.slice Au nu cu) := hB.cell 4
  have m5 : w1.cell? ⟨w.heap.size, 5, none⟩ = some (.slice Ab nb cb) := hB.cell 5
  have HOW := Lib.hid ho1
  have HW1 := Lib.hid hw1
  have HB1 := Lib.hid (B1.only ho1 (by simp))
  have HB2 := Lib.hid (B2.only ho1 (by simp))
  have HM1 := Lib.hid (M1.keep ho1)
  have HM2 := Lib.hid (M2.keep ho1)
  have HU1 := Lib.hid (hU.keep ho1)
  have HY1 := Lib.hid (hY.keep ho1)
  have HFR : Hid (∀ y, w1.heap.size ≤ y → y ≠ gb ∧ y ≠ gx) := fun y hy => by have := HB1.out.lt; have := HB2.out.lt; omega
  obtain ⟨k0, k1, k2, k3⟩ := bk_four HB1.out
  obtain ⟨j0, j1, j2, j3⟩ := bk_four HB2.out
  clear B1 B2 M1 M2 hU hY ho1 hB hw1
  go_enter Try.func16, Try.ntmps16
  have hw1 := HW1.out
  by_cases h1 : kd = 1
  · subst h1
    obtain ⟨x', l', hb⟩ : ∃ x' l', addB ⟨s, v, x, l⟩ f d y = ⟨s, v, x', l'⟩ := by
      unfold addB
      split
      · exact ⟨_, _, rfl⟩
      · exact ⟨x, l, rfl⟩
    obtain ⟨n', hn'⟩ : ∃ n', l'.length = n' := ⟨_, rfl⟩
    obtain ⟨u, hu⟩ : ∃ u, addU ⟨s, v, x, l⟩ f d y.length = u := ⟨_, rfl⟩
    obtain ⟨q, hq⟩ : ∃ q, addE ⟨s, v, x, l⟩ f d y.length = q := ⟨_, rfl⟩
    have hst : stepB ⟨s, v, x, l⟩ 1 f d md us y = ⟨s, v, x', l'⟩ := hb
    rw [hst]
    have HC1 := Lib.hid (fun (W : World) (C : Nat → Prop) (hC : ∀ y, W.heap.size ≤ y → C y) (o : Only [] w1 W) (hM : Ms C W A n l) => addX_any (c := c) hl hM (by omega) hby hx hC f d Ab nb cb y (HY1.out.keep o) hb hn' hu hq)
    have HC2 := Lib.hid (fun (W : World) (C : Nat → Prop) (hC : ∀ y, W.heap.size ≤ y → C y) (o : Only [] w1 W) (hM : Ms C W A' n l) => refAddX_any (c := c') hl hM (by omega) hx hC f d Ab nb cb y (HY1.out.keep o) (by omega) hb hn' hu hq)
    have HLN := Lib.hid hn'
    rw [ht] at HC1 HC2
    clear hb hn' hu hq hst hl hby
    go_wp2_with fail
    try rw [hw1]
    clear hw1
    apply region_inv (CallX w1 (fun y => y ≠ gb ∧ y ≠ gx) n' l' 0 [] (tAdd t v x' n' u q) (xBox t v x' n') (xGone 0) (xCells t v x' n') #[.string ⟨#[]⟩, .int .i64 0, .int .i64 0, .slice none 0 0] 9 10 11 100 101 14 15) (by kernel_rfl) (by kernel_rfl) (fun vs => CallX.start vs)
    intro vs
    apply inv_val
    case hw => rfl
    case hI => intro L wS hI; exact hI.pure (by decide)
    case hy => intro L wS hI; skip; first | (go_simp; done) | (go_simp; with_reducible rfl)
    case' hk => skip
    try simp only [Act.put, List.setIfInBounds_toArray, List.set_cons_zero, List.set_cons_succ]
    apply inv_val
    case hw => rfl
    case hI => intro L wS hI; exact hI.pure (by decide)
    case hy => intro L wS hI; skip; first | (go_simp; done) | (go_simp; with_reducible rfl)
    case' hk => skip
    try simp only [Act.put, List.setIfInBounds_toArray, List.set_cons_zero, List.set_cons_succ]
    apply inv_val
    case hw => rfl
    case hI => intro L wS hI; exact hI.pure (by decide)
    case hy => intro L wS hI; have q0 := hI.1.cellSome k0 (by simp); have q1 := hI.1.cellSome k1 (by simp); have q2 := hI.1.cellSome k2 (by simp); have q3 := hI.1.cellSome k3 (by simp); first | (go_simp; done) | (go_simp; with_reducible rfl)
    case' hk => skip
    try simp only [Act.put, List.setIfInBounds_toArray, List.set_cons_zero, List.set_cons_succ]
    apply inv_val
    case hw => rfl
    case hI => intro L wS hI; exact hI.pure (by decide)
    case hy => intro L wS hI; skip; first | (go_simp; done) | (go_simp; with_reducible rfl)
    case' hk => skip
    try simp only [Act.put, List.setIfInBounds_toArray, List.set_cons_zero, List.set_cons_succ]
    apply inv_val
    case hw => rfl
    case hI => intro L wS hI; exact hI.pure (by decide)
    case hy => intro L wS hI; have q0 := hI.1.cellSome m1 (by simp); first | (go_simp; done) | (go_simp; with_reducible rfl)
    case' hk => skip
    try simp only [Act.put, List.setIfInBounds_toArray, List.set_cons_zero, List.set_cons_succ]
    apply inv_val
    case hw => rfl
    case hI => intro L wS hI; exact hI.pure (by decide)
    case hy => intro L wS hI; skip; first | (go_simp; done) | (go_simp; with_reducible rfl)
    case' hk => skip
    try simp only [Act.put, List.setIfInBounds_toArray, List.set_cons_zero, List.set_cons_succ]
    apply inv_val
    case hw => rfl
    case hI => intro L wS hI; exact hI.pure (by decide)
    case hy => intro L wS hI; have q0 := hI.1.cellSome m2 (by simp); first | (go_simp; done) | (go_simp; with_reducible rfl)
    case' hk => skip
    try simp only [Act.put, List.setIfInBounds_toArray, List.set_cons_zero, List.set_cons_succ]
    apply inv_val
    case hw => rfl
    case hI => intro L wS hI; exact hI.pure (by decide)
    case hy => intro L wS hI; skip; first | (go_simp; done) | (go_simp; with_reducible rfl)
    case' hk => skip
    try simp only [Act.put, List.setIfInBounds_toArray, List.set_cons_zero, List.set_cons_succ]
    apply inv_val
    case hw => rfl
    case hI => intro L wS hI; exact hI.pure (by decide)
    case hy => intro L wS hI; have q0 := hI.1.cellSome m5 (by simp); first | (go_simp; done) | (go_simp; with_reducible rfl)
    case' hk => skip
    try simp only [Act.put, List.setIfInBounds_toArray, List.set_cons_zero, List.set_cons_succ]
    apply inv_op
    case hw => rfl
    case hy =>
      intro L wS hI hL hw
      refine gives_call (f := 31) (args := #[.agg #[.string t, .int .i64 v, .int .i64 x, .slice A n c], .int .i64 f, .int .i64 d, .slice Ab nb cb]) ?_ ?_
      · first | (go_simp; done) | (go_simp; with_reducible rfl)
      · exact (HC1.out wS (CallX.cls (fun y => y ≠ gb ∧ y ≠ gx) 14 L vs) (hI.fresh HFR.out) hI.1 (hI.source HM1.out)).mono fun e w' he => by
          obtain ⟨xw, e1, e2, e3⟩ := he
          exact ⟨_, e1, hI.call xw hL (by decide) e2 e3, trivial⟩
    case' hk => skip
    try simp only [Act.put, List.setIfInBounds_toArray, List.set_cons_zero, List.set_cons_succ]
    apply inv_op
    case hw => rfl
    case hy =>
      intro L wS hI hL hw
      obtain ⟨xw, e, h⟩ := hI.move (hw 9 (by kernel_rfl)) (by decide)
      refine gives_value (u := (tAdd t v x' n' u q) xw) (w' := wS) ?_ h trivial
      rw [e]
      unfold tAdd
      first | (go_simp; done) | (go_simp; with_reducible rfl)
    case' hk => skip
    try simp only [Act.put, List.setIfInBounds_toArray, List.set_cons_zero, List.set_cons_succ]
    apply inv_op
    case hw => rfl
    case hy =>
      intro L wS hI hL hw
      obtain ⟨xw, e, h⟩ := hI.part (hw 10 (by kernel_rfl)) (by decide)
      refine gives_value (u := (xBox t v x' n') xw) (w' := wS) ?_ h trivial
      rw [e]
      unfold tAdd xBox
      first | (go_simp; done) | (go_simp; with_reducible rfl)
    case' hk => skip
    try simp only [Act.put, List.setIfInBounds_toArray, List.set_cons_zero, List.set_cons_succ]
    apply inv_valw (v := .int .i64 u)
    case hw => rfl
    case hI => intro L wS hI; exact hI.pure (by decide)
    case hy =>
      intro L wS hI hw
      obtain ⟨xw, e⟩ := hI.see (hw 10 (by kernel_rfl))
      rw [e]
      unfold tAdd
      first | (go_simp; done) | (go_simp; with_reducible rfl)
    case' hk => skip
    try simp only [Act.put, List.setIfInBounds_toArray, List.set_cons_zero, List.set_cons_succ]
    apply inv_valw (v := .int .i64 q)
    case hw => rfl
    case hI => intro L wS hI; exact hI.pure (by decide)
    case hy =>
      intro L wS hI hw
      obtain ⟨xw, e⟩ := hI.see (hw 10 (by kernel_rfl))
      rw [e]
      unfold tAdd
      first | (go_simp; done) | (go_simp; with_reducible rfl)
    case' hk => skip
    try simp only [Act.put, List.setIfInBounds_toArray, List.set_cons_zero, List.set_cons_succ]
    apply inv_op
    case hw => rfl
    case hy =>
      intro L wS hI hL hw
      refine gives_value (u := ptr2 wS.heap.size) (w' := wS.alloc (.cells #[.string ⟨#[]⟩, .int .i64 0, .int .i64 0, .slice none 0 0] 26)) ?_ (hI.alloc hL (by decide)) trivial
      show _ = Result.ok (Next.value (.pointer (some ⟨wS.heap.size, 0, none⟩))) (wS.alloc (.cells #[.string ⟨#[]⟩, .int .i64 0, .int .i64 0, .slice none 0 0] 26))
      first | (go_simp; done) | (go_simp; with_reducible rfl)
    case' hk => skip
    try simp only [Act.put, List.setIfInBounds_toArray, List.set_cons_zero, List.set_cons_succ]
    apply inv_op
    case hw => rfl
    case hy =>
      intro L wS hI hL hw
      obtain ⟨gn, xw, e4, e3, hb, hst⟩ := hI.store hL (hw 14 (by kernel_rfl)) (hw 11 (by kernel_rfl)) (by decide)
      obtain ⟨p0, p1, p2, p3⟩ := bk_four hb
      have fz0 := hb.free 0
      have fz1 := hb.free 1
      have fz2 := hb.free 2
      have fz3 := hb.free 3
      have hg := hb.lt
      rw [e4, e3]
      refine gives_skip ?_ (hst _ _ (only_store (Only.refl [gn] wS) (.inl List.mem_cons_self) (.string t) (.int .i64 v) (.int .i64 x') (.slice xw.1 n' xw.2.1)) (bk_store hb _ _ _ _)) trivial
      unfold ptr2 xBox
      go_simp
    case' hk => skip
    try simp only [Act.put]
    apply inv_val
    case hw => rfl
    case hI => intro L wS hI; exact hI.pure (by decide)
    case hy => intro L wS hI; skip; first | (go_simp; done) | (go_simp; with_reducible rfl)
    case' hk => skip
    try simp only [Act.put, List.setIfInBounds_toArray, List.set_cons_zero, List.set_cons_succ]
    apply inv_val
    case hw => rfl
    case hI => intro L wS hI; exact hI.pure (by decide)
    case hy => intro L wS hI; skip; first | (go_simp; done) | (go_simp; with_reducible rfl)
    case' hk => skip
    try simp only [Act.put, List.setIfInBounds_toArray, List.set_cons_zero, List.set_cons_succ]
    refine inv_end ?_
    intro L w3 hall hI
    obtain ⟨⟨A2, c2, G1, d1⟩, g1, e1, e2, e3, e4, e5, e6, hg1, N1, K1, O1⟩ := hI.end_ ⟨hall 9 (by decide), hall 10 (by decide), hall 11 (by decide), hall 14 (by decide), hall 15 (by decide)⟩
    rw [e1, e2, e3, e6]
    clear e1 e2 e3 e4 e5 e6 hall hI
    unfold ptr2 tAdd xBox
    unfold xCells at N1
    simp only at N1 K1 ⊢
    replace HFR := Lib.hid (fun y (hy : w3.heap.size ≤ y) => HFR.out y (Nat.le_trans O1.size hy))
    replace HC2 := Lib.hid (fun (W : World) (C : Nat → Prop) (hC : ∀ y, W.heap.size ≤ y → C y) (o : Only [] w3 W) => HC2.out W C hC (O1.then o))
    replace HM1 := Lib.hid (HM1.out.keep O1)
    replace HM2 := Lib.hid (HM2.out.keep O1)
    replace k0 := O1.cellSome k0 (by simp)
    replace k1 := O1.cellSome k1 (by simp)
    replace k2 := O1.cellSome k2 (by simp)
    replace k3 := O1.cellSome k3 (by simp)
    replace j0 := O1.cellSome j0 (by simp)
    replace j1 := O1.cellSome j1 (by simp)
    replace j2 := O1.cellSome j2 (by simp)
    replace j3 := O1.cellSome j3 (by simp)
    replace m0 := O1.cellSome m0 (by simp)
    replace m1 := O1.cellSome m1 (by simp)
    replace m2 := O1.cellSome m2 (by simp)
    replace m3 := O1.cellSome m3 (by simp)
    replace m4 := O1.cellSome m4 (by simp)
    replace m5 := O1.cellSome m5 (by simp)
    go_wp2_with fail
    apply region_inv (CallX w3 (fun y => y ≠ gb ∧ y ≠ gx) n' l' 0 [] (tAdd t v x' n' u q) (xBox t v x' n') (xGone 0) (xCells t v x' n') #[.string ⟨#[]⟩, .int .i64 0, .int .i64 0, .slice none 0 0] 9 10 11 100 101 14 15) (by kernel_rfl) (by kernel_rfl) (fun vs => CallX.start vs)
    intro vs
    apply inv_val
    case hw => rfl
    case hI => intro L wS hI; exact hI.pure (by decide)
    case hy => intro L wS hI; skip; first | (go_simp; done) | (go_simp; with_reducible rfl)
    case' hk => skip
    try simp only [Act.put, List.setIfInBounds_toArray, List.set_cons_zero, List.set_cons_succ]
    apply inv_val
    case hw => rfl
    case hI => intro L wS hI; exact hI.pure (by decide)
    case hy => intro L wS hI; skip; first | (go_simp; done) | (go_simp; with_reducible rfl)
    case' hk => skip
    try simp only [Act.put, List.setIfInBounds_toArray, List.set_cons_zero, List.set_cons_succ]
    apply inv_val
    case hw => rfl
    case hI => intro L wS hI; exact hI.pure (by decide)
    case hy => intro L wS hI; have q0 := hI.1.cellSome j0 (by simp); have q1 := hI.1.cellSome j1 (by simp); have q2 := hI.1.cellSome j2 (by simp); have q3 := hI.1.cellSome j3 (by simp); first | (go_simp; done) | (go_simp; with_reducible rfl)
    case' hk => skip
    try simp only [Act.put, List.setIfInBounds_toArray, List.set_cons_zero, List.set_cons_succ]
    apply inv_val
    case hw => rfl
    case hI => intro L wS hI; exact hI.pure (by decide)
    case hy => intro L wS hI; skip; first | (go_simp; done) | (go_simp; with_reducible rfl)
    case' hk => skip
    try simp only [Act.put, List.setIfInBounds_toArray, List.set_cons_zero, List.set_cons_succ]
    apply inv_val
    case hw => rfl
    case hI => intro L wS hI; exact hI.pure (by decide)
    case hy => intro L wS hI; have q0 := hI.1.cellSome m1 (by simp); first | (go_simp; done) | (go_simp; with_reducible rfl)
    case' hk => skip
    try simp only [Act.put, List.setIfInBounds_toArray, List.set_cons_zero, List.set_cons_succ]
    apply inv_val
    case hw => rfl
    case hI => intro L wS hI; exact hI.pure (by decide)
    case hy => intro L wS hI; skip; first | (go_simp; done) | (go_simp; with_reducible rfl)
    case' hk => skip
    try simp only [Act.put, List.setIfInBounds_toArray, List.set_cons_zero, List.set_cons_succ]
    apply inv_val
    case hw => rfl
    case hI => intro L wS hI; exact hI.pure (by decide)
    case hy => intro L wS hI; have q0 := hI.1.cellSome m2 (by simp); first | (go_simp; done) | (go_simp; with_reducible rfl)
    case' hk => skip
    try simp only [Act.put, List.setIfInBounds_toArray, List.set_cons_zero, List.set_cons_succ]
    apply inv_val
    case hw => rfl
    case hI => intro L wS hI; exact hI.pure (by decide)
    case hy => intro L wS hI; skip; first | (go_simp; done) | (go_simp; with_reducible rfl)
    case' hk => skip
    try simp only [Act.put, List.setIfInBounds_toArray, List.set_cons_zero, List.set_cons_succ]
    apply inv_val
    case hw => rfl
    case hI => intro L wS hI; exact hI.pure (by decide)
    case hy => intro L wS hI; have q0 := hI.1.cellSome m5 (by simp); first | (go_simp; done) | (go_simp; with_reducible rfl)
    case' hk => skip
    try simp only [Act.put, List.setIfInBounds_toArray, List.set_cons_zero, List.set_cons_succ]
    apply inv_op
    case hw => rfl
    case hy =>
      intro L wS hI hL hw
      refine gives_call (f := 35) (args := #[.agg #[.string t, .int .i64 v, .int .i64 x, .slice A' n c'], .int .i64 f, .int .i64 d, .slice Ab nb cb]) ?_ ?_
      · first | (go_simp; done) | (go_simp; with_reducible rfl)
      · exact (HC2.out wS (CallX.cls (fun y => y ≠ gb ∧ y ≠ gx) 14 L vs) (hI.fresh HFR.out) hI.1 (hI.source HM2.out)).mono fun e w' he => by
          obtain ⟨xw, e1, e2, e3⟩ := he
          exact ⟨_, e1, hI.call xw hL (by decide) e2 e3, trivial⟩
    case' hk => skip
    try simp only [Act.put, List.setIfInBounds_toArray, List.set_cons_zero, List.set_cons_succ]
    apply inv_op
    case hw => rfl
    case hy =>
      intro L wS hI hL hw
      obtain ⟨xw, e, h⟩ := hI.move (hw 9 (by kernel_rfl)) (by decide)
      refine gives_value (u := (tAdd t v x' n' u q) xw) (w' := wS) ?_ h trivial
      rw [e]
      unfold tAdd
      first | (go_simp; done) | (go_simp; with_reducible rfl)
    case' hk => skip
    try simp only [Act.put, List.setIfInBounds_toArray, List.set_cons_zero, List.set_cons_succ]
    apply inv_op
    case hw => rfl
    case hy =>
      intro L wS hI hL hw
      obtain ⟨xw, e, h⟩ := hI.part (hw 10 (by kernel_rfl)) (by decide)
      refine gives_value (u := (xBox t v x' n') xw) (w' := wS) ?_ h trivial
      rw [e]
      unfold tAdd xBox
      first | (go_simp; done) | (go_simp; with_reducible rfl)
    case' hk => skip
    try simp only [Act.put, List.setIfInBounds_toArray, List.set_cons_zero, List.set_cons_succ]
    apply inv_valw (v := .int .i64 u)
    case hw => rfl
    case hI => intro L wS hI; exact hI.pure (by decide)
    case hy =>
      intro L wS hI hw
      obtain ⟨xw, e⟩ := hI.see (hw 10 (by kernel_rfl))
      rw [e]
      unfold tAdd
      first | (go_simp; done) | (go_simp; with_reducible rfl)
    case' hk => skip
    try simp only [Act.put, List.setIfInBounds_toArray, List.set_cons_zero, List.set_cons_succ]
    apply inv_valw (v := .int .i64 q)
    case hw => rfl
    case hI => intro L wS hI; exact hI.pure (by decide)
    case hy =>
      intro L wS hI hw
      obtain ⟨xw, e⟩ := hI.see (hw 10 (by kernel_rfl))
      rw [e]
      unfold tAdd
      first | (go_simp; done) | (go_simp; with_reducible rfl)
    case' hk => skip
    try simp only [Act.put, List.setIfInBounds_toArray, List.set_cons_zero, List.set_cons_succ]
    apply inv_op
    case hw => rfl
    case hy =>
      intro L wS hI hL hw
      refine gives_value (u := ptr2 wS.heap.size) (w' := wS.alloc (.cells #[.string ⟨#[]⟩, .int .i64 0, .int .i64 0, .slice none 0 0] 26)) ?_ (hI.alloc hL (by decide)) trivial
      show _ = Result.ok (Next.value (.pointer (some ⟨wS.heap.size, 0, none⟩))) (wS.alloc (.cells #[.string ⟨#[]⟩, .int .i64 0, .int .i64 0, .slice none 0 0] 26))
      first | (go_simp; done) | (go_simp; with_reducible rfl)
    case' hk => skip
    try simp only [Act.put, List.setIfInBounds_toArray, List.set_cons_zero, List.set_cons_succ]
    apply inv_op
    case hw => rfl
    case hy =>
      intro L wS hI hL hw
      obtain ⟨gn, xw, e4, e3, hb, hst⟩ := hI.store hL (hw 14 (by kernel_rfl)) (hw 11 (by kernel_rfl)) (by decide)
      obtain ⟨p0, p1, p2, p3⟩ := bk_four hb
      have fz0 := hb.free 0
      have fz1 := hb.free 1
      have fz2 := hb.free 2
      have fz3 := hb.free 3
      have hg := hb.lt
      rw [e4, e3]
      refine gives_skip ?_ (hst _ _ (only_store (Only.refl [gn] wS) (.inl List.mem_cons_self) (.string t) (.int .i64 v) (.int .i64 x') (.slice xw.1 n' xw.2.1)) (bk_store hb _ _ _ _)) trivial
      unfold ptr2 xBox
      go_simp
    case' hk => skip
    try simp only [Act.put]
    apply inv_val
    case hw => rfl
    case hI => intro L wS hI; exact hI.pure (by decide)
    case hy => intro L wS hI; skip; first | (go_simp; done) | (go_simp; with_reducible rfl)
    case' hk => skip
    try simp only [Act.put, List.setIfInBounds_toArray, List.set_cons_zero, List.set_cons_succ]
    apply inv_val
    case hw => rfl
    case hI => intro L wS hI; exact hI.pure (by decide)
    case hy => intro L wS hI; skip; first | (go_simp; done) | (go_simp; with_reducible rfl)
    case' hk => skip
    try simp only [Act.put, List.setIfInBounds_toArray, List.set_cons_zero, List.set_cons_succ]
    refine inv_end ?_
    intro L w5 hall hI
    obtain ⟨⟨A3, c3, G2, d2⟩, g2, e1, e2, e3, e4, e5, e6, hg2, N2, K2, O2⟩ := hI.end_ ⟨hall 9 (by decide), hall 10 (by decide), hall 11 (by decide), hall 14 (by decide), hall 15 (by decide)⟩
    rw [e1, e2, e3, e6]
    clear e1 e2 e3 e4 e5 e6 hall hI
    unfold ptr2 tAdd xBox
    unfold xCells at N2
    simp only at N2 K2 ⊢
    go_wp2_with fail
    have HK1 := Lib.hid (K1.keep O2)
    have HK2 := Lib.hid K2
    have N1' := N1.only O2 (by simp)
    have hz1 := O1.size
    have B5 := (HB1.out.only O1 (by simp)).only O2 (by simp)
    have B6 := (HB2.out.only O1 (by simp)).only O2 (by simp)
    have hd1 : g1 ≠ gb := by have := HB1.out.lt; omega
    have hd2 : g1 ≠ gx := by have := HB2.out.lt; omega
    have hd3 : g2 ≠ gb := by have := HB1.out.lt; omega
    have hd4 : g2 ≠ gx := by have := HB2.out.lt; omega
    have O5 := Lib.hid (O1.then O2)
    clear k0 k1 k2 k3 j0 j1 j2 j3 m0 m1 m2 m3 m4 m5 K1 K2 N1 O1 O2 HC1 HC2 HM1 HM2 HFR hg1 hg2 hz1
    obtain ⟨g10, g11, g12, g13⟩ := bk_four N1'
    obtain ⟨g20, g21, g22, g23⟩ := bk_four N2
    apply region_inv (StI w5 gb gx #[.string t, .int .i64 v, .int .i64 x, .slice A n c] #[.string t, .int .i64 v, .int .i64 x, .slice A' n c'] #[.string t, .int .i64 v, .int .i64 x', .slice A2 n' c2] #[.string t, .int .i64 v, .int .i64 x', .slice A3 n' c3] 5 7) (by kernel_rfl) (by kernel_rfl) (fun vs => StI.start B5 B6 vs)
    intro vs
    apply inv_val
    case hw => rfl
    case hI => intro L wS hI; exact hI.pure (by decide)
    case hy => intro L wS hI; skip; first | (go_simp; done) | (go_simp; with_reducible rfl)
    case' hk => skip
    try simp only [Act.put, List.setIfInBounds_toArray, List.set_cons_zero, List.set_cons_succ]
    apply inv_val
    case hw => rfl
    case hI => intro L wS hI; exact hI.pure (by decide)
    case hy => intro L wS hI; skip; first | (go_simp; done) | (go_simp; with_reducible rfl)
    case' hk => skip
    try simp only [Act.put, List.setIfInBounds_toArray, List.set_cons_zero, List.set_cons_succ]
    apply inv_val
    case hw => rfl
    case hI => intro L wS hI; exact hI.pure (by decide)
    case hy => intro L wS hI; have q0 := hI.1.cellSome g10 (by simp; exact ⟨hd1, hd2⟩); have q1 := hI.1.cellSome g11 (by simp; exact ⟨hd1, hd2⟩); have q2 := hI.1.cellSome g12 (by simp; exact ⟨hd1, hd2⟩); have q3 := hI.1.cellSome g13 (by simp; exact ⟨hd1, hd2⟩); first | (go_simp; done) | (go_simp; with_reducible rfl)
    case' hk => skip
    try simp only [Act.put, List.setIfInBounds_toArray, List.set_cons_zero, List.set_cons_succ]
    apply inv_val
    case hw => rfl
    case hI => intro L wS hI; exact hI.pure (by decide)
    case hy => intro L wS hI; have q0 := hI.1.cellSome g20 (by simp; exact ⟨hd3, hd4⟩); have q1 := hI.1.cellSome g21 (by simp; exact ⟨hd3, hd4⟩); have q2 := hI.1.cellSome g22 (by simp; exact ⟨hd3, hd4⟩); have q3 := hI.1.cellSome g23 (by simp; exact ⟨hd3, hd4⟩); first | (go_simp; done) | (go_simp; with_reducible rfl)
    case' hk => skip
    try simp only [Act.put, List.setIfInBounds_toArray, List.set_cons_zero, List.set_cons_succ]
    apply inv_val
    case hw => rfl
    case hI => intro L wS hI; exact hI.pure (by decide)
    case hy => intro L wS hI; skip; first | (go_simp; done) | (go_simp; with_reducible rfl)
    case' hk => skip
    try simp only [Act.put, List.setIfInBounds_toArray, List.set_cons_zero, List.set_cons_succ]
    apply inv_op
    case hw => rfl
    case hy =>
      intro L wS hI hL hw
      have hb : Bk wS gb 26 #[.string t, .int .i64 v, .int .i64 x, .slice A n c] := by have := hI.2.1; rw [hL] at this; simpa using this
      obtain ⟨p0, p1, p2, p3⟩ := bk_four hb
      have fz0 := hb.free 0
      have fz1 := hb.free 1
      have fz2 := hb.free 2
      have fz3 := hb.free 3
      have hg := hb.lt
      refine gives_skip ?_ (hI.one (by decide) hne.symm (only_store (Only.refl [gb] wS) (.inl List.mem_cons_self) (.string t) (.int .i64 v) (.int .i64 x') (.slice A2 n' c2)) (bk_store hb _ _ _ _)) trivial
      go_simp
    case' hk => skip
    try simp only [Act.put]
    apply inv_val
    case hw => rfl
    case hI => intro L wS hI; exact hI.pure (by decide)
    case hy => intro L wS hI; skip; first | (go_simp; done) | (go_simp; with_reducible rfl)
    case' hk => skip
    try simp only [Act.put, List.setIfInBounds_toArray, List.set_cons_zero, List.set_cons_succ]
    apply inv_op
    case hw => rfl
    case hy =>
      intro L wS hI hL hw
      have hb : Bk wS gx 26 #[.string t, .int .i64 v, .int .i64 x, .slice A' n c'] := by have := hI.2.2; rw [hL] at this; simpa using this
      obtain ⟨p0, p1, p2, p3⟩ := bk_four hb
      have fz0 := hb.free 0
      have fz1 := hb.free 1
      have fz2 := hb.free 2
      have fz3 := hb.free 3
      have hg := hb.lt
      refine gives_skip ?_ (hI.two (by decide) hne (only_store (Only.refl [gx] wS) (.inl List.mem_cons_self) (.string t) (.int .i64 v) (.int .i64 x') (.slice A3 n' c3)) (bk_store hb _ _ _ _)) trivial
      go_simp
    case' hk => skip
    try simp only [Act.put]
    refine inv_end ?_
    intro L w7 hall hI
    obtain ⟨O7, B7, B8⟩ := hI
    rw [if_pos (hall 5 (by decide))] at B7
    rw [if_pos (hall 7 (by decide))] at B8
    have hdj : ∀ y, (y ≠ gb ∧ y ≠ gx) → y ∉ [gb, gx] := fun y hy => by simp; exact hy
    have hM7 := (HK1.out.1.mono (S' := fun y => y ≠ gb ∧ y ≠ gx) (fun y hy => hy.1)).only O7 hdj
    have hM8 := (HK2.out.1.mono (S' := fun y => y ≠ gb ∧ y ≠ gx) (fun y hy => hy.1)).only O7 hdj
    have HR := Lib.hid (show ∀ W, Only [] w7 W → ActR w gb gx ⟨s, v, x', l'⟩ (.returned (.bool true)) W from fun W o => ⟨rfl, A2, c2, A3, c3, by rw [bxc_eq HLN.out, HT.out]; exact B7.only o (by simp), by rw [bxc_eq HLN.out, HT.out]; exact B8.only o (by simp), by show Ms _ _ A2 (Bx.l ⟨s, v, x', l'⟩).length _; rw [show (Bx.l ⟨s, v, x', l'⟩).length = n' from HLN.out]; exact hM7.keep o, by show Ms _ _ A3 (Bx.l ⟨s, v, x', l'⟩).length _; rw [show (Bx.l ⟨s, v, x', l'⟩).length = n' from HLN.out]; exact hM8.keep o, (((HOW.out.then O5.out).mono (ss := [gb, gx]) (fun _ hx => nomatch hx)).trans O7 (fun y hy => .inl hy)).then o⟩)
    go_wp2
    go_ret
    exact HR.out _ (Only.refl _ _)
  by_cases h2 : kd = 2
  · subst h2
    obtain ⟨l', hb⟩ : ∃ l', l.map (markM us md f) = l' := ⟨_, rfl⟩
    obtain ⟨q, hq⟩ : ∃ q : Nat, markN us md f l = q := ⟨_, rfl⟩
    have hn' : l'.length = n := by rw [← hb, List.length_map, hl]
    have hst : stepB ⟨s, v, x, l⟩ 2 f d md us y = ⟨s, v, x, l'⟩ := by rw [← hb]; rfl
    rw [hst]
    have HC1 := Lib.hid (fun (W : World) (C : Nat → Prop) (hC : ∀ y, W.heap.size ≤ y → C y) (o : Only [] w1 W) (hM : Ms C W A n l) => markX_any (s := s) (v := v) (x := x) (c := c) hl hM (by omega) hby hC Au nu cu us (HU1.out.keep o) (by omega) md f hb hq)
    have HC2 := Lib.hid (fun (W : World) (C : Nat → Prop) (hC : ∀ y, W.heap.size ≤ y → C y) (o : Only [] w1 W) (hM : Ms C W A' n l) => refMarkX_any (s := s) (v := v) (x := x) (c := c') hl hM (by omega) hC Au nu cu us (HU1.out.keep o) (by omega) md f hb hq)
    have HLN := Lib.hid hn'
    rw [ht] at HC1 HC2
    clear hb hn' hq hst hl hby
    go_wp2_with fail
    try rw [hw1]
    clear hw1
    apply region_inv (CallX w1 (fun y => y ≠ gb ∧ y ≠ gx) n l' 0 [] (tMark t v x n (q : Int)) (xBox t v x n) (xGone 0) (xCells t v x n) #[.string ⟨#[]⟩, .int .i64 0, .int .i64 0, .slice none 0 0] 9 10 11 100 101 13 14) (by kernel_rfl) (by kernel_rfl) (fun vs => CallX.start vs)
    intro vs
    apply inv_val
    case hw => rfl
    case hI => intro L wS hI; exact hI.pure (by decide)
    case hy => intro L wS hI; skip; first | (go_simp; done) | (go_simp; with_reducible rfl)
    case' hk => skip
    try simp only [Act.put, List.setIfInBounds_toArray, List.set_cons_zero, List.set_cons_succ]
    apply inv_val
    case hw => rfl
    case hI => intro L wS hI; exact hI.pure (by decide)
    case hy => intro L wS hI; skip; first | (go_simp; done) | (go_simp; with_reducible rfl)
    case' hk => skip
    try simp only [Act.put, List.setIfInBounds_toArray, List.set_cons_zero, List.set_cons_succ]
    apply inv_val
    case hw => rfl
    case hI => intro L wS hI; exact hI.pure (by decide)
    case hy => intro L wS hI; have q0 := hI.1.cellSome k0 (by simp); have q1 := hI.1.cellSome k1 (by simp); have q2 := hI.1.cellSome k2 (by simp); have q3 := hI.1.cellSome k3 (by simp); first | (go_simp; done) | (go_simp; with_reducible rfl)
    case' hk => skip
    try simp only [Act.put, List.setIfInBounds_toArray, List.set_cons_zero, List.set_cons_succ]
    apply inv_val
    case hw => rfl
    case hI => intro L wS hI; exact hI.pure (by decide)
    case hy => intro L wS hI; skip; first | (go_simp; done) | (go_simp; with_reducible rfl)
    case' hk => skip
    try simp only [Act.put, List.setIfInBounds_toArray, List.set_cons_zero, List.set_cons_succ]
    apply inv_val
    case hw => rfl
    case hI => intro L wS hI; exact hI.pure (by decide)
    case hy => intro L wS hI; have q0 := hI.1.cellSome m4 (by simp); first | (go_simp; done) | (go_simp; with_reducible rfl)
    case' hk => skip
    try simp only [Act.put, List.setIfInBounds_toArray, List.set_cons_zero, List.set_cons_succ]
    apply inv_val
    case hw => rfl
    case hI => intro L wS hI; exact hI.pure (by decide)
    case hy => intro L wS hI; skip; first | (go_simp; done) | (go_simp; with_reducible rfl)
    case' hk => skip
    try simp only [Act.put, List.setIfInBounds_toArray, List.set_cons_zero, List.set_cons_succ]
    apply inv_val
    case hw => rfl
    case hI => intro L wS hI; exact hI.pure (by decide)
    case hy => intro L wS hI; have q0 := hI.1.cellSome m3 (by simp); first | (go_simp; done) | (go_simp; with_reducible rfl)
    case' hk => skip
    try simp only [Act.put, List.setIfInBounds_toArray, List.set_cons_zero, List.set_cons_succ]
    apply inv_val
    case hw => rfl
    case hI => intro L wS hI; exact hI.pure (by decide)
    case hy => intro L wS hI; skip; first | (go_simp; done) | (go_simp; with_reducible rfl)
    case' hk => skip
    try simp only [Act.put, List.setIfInBounds_toArray, List.set_cons_zero, List.set_cons_succ]
    apply inv_val
    case hw => rfl
    case hI => intro L wS hI; exact hI.pure (by decide)
    case hy => intro L wS hI; have q0 := hI.1.cellSome m1 (by simp); first | (go_simp; done) | (go_simp; with_reducible rfl)
    case' hk => skip
    try simp only [Act.put, List.setIfInBounds_toArray, List.set_cons_zero, List.set_cons_succ]
    apply inv_op
    case hw => rfl
    case hy =>
      intro L wS hI hL hw
      refine gives_call (f := 32) (args := #[.agg #[.string t, .int .i64 v, .int .i64 x, .slice A n c], .slice Au nu cu, .int .i64 md, .int .i64 f]) ?_ ?_
      · first | (go_simp; done) | (go_simp; with_reducible rfl)
      · exact (HC1.out wS (CallX.cls (fun y => y ≠ gb ∧ y ≠ gx) 13 L vs) (hI.fresh HFR.out) hI.1 (hI.source HM1.out)).mono fun e w' he => by
          obtain ⟨xw, e1, e2, e3⟩ := he
          exact ⟨_, e1, hI.call xw hL (by decide) e2 e3, trivial⟩
    case' hk => skip
    try simp only [Act.put, List.setIfInBounds_toArray, List.set_cons_zero, List.set_cons_succ]
    apply inv_op
    case hw => rfl
    case hy =>
      intro L wS hI hL hw
      obtain ⟨xw, e, h⟩ := hI.move (hw 9 (by kernel_rfl)) (by decide)
      refine gives_value (u := (tMark t v x n (q : Int)) xw) (w' := wS) ?_ h trivial
      rw [e]
      unfold tMark
      first | (go_simp; done) | (go_simp; with_reducible rfl)
    case' hk => skip
    try simp only [Act.put, List.setIfInBounds_toArray, List.set_cons_zero, List.set_cons_succ]
    apply inv_op
    case hw => rfl
    case hy =>
      intro L wS hI hL hw
      obtain ⟨xw, e, h⟩ := hI.part (hw 10 (by kernel_rfl)) (by decide)
      refine gives_value (u := (xBox t v x n) xw) (w' := wS) ?_ h trivial
      rw [e]
      unfold tMark xBox
      first | (go_simp; done) | (go_simp; with_reducible rfl)
    case' hk => skip
    try simp only [Act.put, List.setIfInBounds_toArray, List.set_cons_zero, List.set_cons_succ]
    apply inv_valw (v := .int .i64 (q : Int))
    case hw => rfl
    case hI => intro L wS hI; exact hI.pure (by decide)
    case hy =>
      intro L wS hI hw
      obtain ⟨xw, e⟩ := hI.see (hw 10 (by kernel_rfl))
      rw [e]
      unfold tMark
      first | (go_simp; done) | (go_simp; with_reducible rfl)
    case' hk => skip
    try simp only [Act.put, List.setIfInBounds_toArray, List.set_cons_zero, List.set_cons_succ]
    apply inv_op
    case hw => rfl
    case hy =>
      intro L wS hI hL hw
      refine gives_value (u := ptr2 wS.heap.size) (w' := wS.alloc (.cells #[.string ⟨#[]⟩, .int .i64 0, .int .i64 0, .slice none 0 0] 26)) ?_ (hI.alloc hL (by decide)) trivial
      show _ = Result.ok (Next.value (.pointer (some ⟨wS.heap.size, 0, none⟩))) (wS.alloc (.cells #[.string ⟨#[]⟩, .int .i64 0, .int .i64 0, .slice none 0 0] 26))
      first | (go_simp; done) | (go_simp; with_reducible rfl)
    case' hk => skip
    try simp only [Act.put, List.setIfInBounds_toArray, List.set_cons_zero, List.set_cons_succ]
    apply inv_op
    case hw => rfl
    case hy =>
      intro L wS hI hL hw
      obtain ⟨gn, xw, e4, e3, hb, hst⟩ := hI.store hL (hw 13 (by kernel_rfl)) (hw 11 (by kernel_rfl)) (by decide)
      obtain ⟨p0, p1, p2, p3⟩ := bk_four hb
      have fz0 := hb.free 0
      have fz1 := hb.free 1
      have fz2 := hb.free 2
      have fz3 := hb.free 3
      have hg := hb.lt
      rw [e4, e3]
      refine gives_skip ?_ (hst _ _ (only_store (Only.refl [gn] wS) (.inl List.mem_cons_self) (.string t) (.int .i64 v) (.int .i64 x) (.slice xw.1 n xw.2.1)) (bk_store hb _ _ _ _)) trivial
      unfold ptr2 xBox
      go_simp
    case' hk => skip
    try simp only [Act.put]
    apply inv_val
    case hw => rfl
    case hI => intro L wS hI; exact hI.pure (by decide)
    case hy => intro L wS hI; skip; first | (go_simp; done) | (go_simp; with_reducible rfl)
    case' hk => skip
    try simp only [Act.put, List.setIfInBounds_toArray, List.set_cons_zero, List.set_cons_succ]
    refine inv_end ?_
    intro L w3 hall hI
    obtain ⟨⟨A2, c2, G1, d1⟩, g1, e1, e2, e3, e4, e5, e6, hg1, N1, K1, O1⟩ := hI.end_ ⟨hall 9 (by decide), hall 10 (by decide), hall 11 (by decide), hall 13 (by decide), hall 14 (by decide)⟩
    rw [e1, e2, e3, e6]
    clear e1 e2 e3 e4 e5 e6 hall hI
    unfold ptr2 tMark xBox
    unfold xCells at N1
    simp only at N1 K1 ⊢
    replace HFR := Lib.hid (fun y (hy : w3.heap.size ≤ y) => HFR.out y (Nat.le_trans O1.size hy))
    replace HC2 := Lib.hid (fun (W : World) (C : Nat → Prop) (hC : ∀ y, W.heap.size ≤ y → C y) (o : Only [] w3 W) => HC2.out W C hC (O1.then o))
    replace HM1 := Lib.hid (HM1.out.keep O1)
    replace HM2 := Lib.hid (HM2.out.keep O1)
    replace k0 := O1.cellSome k0 (by simp)
    replace k1 := O1.cellSome k1 (by simp)
    replace k2 := O1.cellSome k2 (by simp)
    replace k3 := O1.cellSome k3 (by simp)
    replace j0 := O1.cellSome j0 (by simp)
    replace j1 := O1.cellSome j1 (by simp)
    replace j2 := O1.cellSome j2 (by simp)
    replace j3 := O1.cellSome j3 (by simp)
    replace m0 := O1.cellSome m0 (by simp)
    replace m1 := O1.cellSome m1 (by simp)
    replace m2 := O1.cellSome m2 (by simp)
    replace m3 := O1.cellSome m3 (by simp)
    replace m4 := O1.cellSome m4 (by simp)
    replace m5 := O1.cellSome m5 (by simp)
    go_wp2_with fail
    apply region_inv (CallX w3 (fun y => y ≠ gb ∧ y ≠ gx) n l' 0 [] (tMark t v x n (q : Int)) (xBox t v x n) (xGone 0) (xCells t v x n) #[.string ⟨#[]⟩, .int .i64 0, .int .i64 0, .slice none 0 0] 9 10 11 100 101 13 14) (by kernel_rfl) (by kernel_rfl) (fun vs => CallX.start vs)
    intro vs
    apply inv_val
    case hw => rfl
    case hI => intro L wS hI; exact hI.pure (by decide)
    case hy => intro L wS hI; skip; first | (go_simp; done) | (go_simp; with_reducible rfl)
    case' hk => skip
    try simp only [Act.put, List.setIfInBounds_toArray, List.set_cons_zero, List.set_cons_succ]
    apply inv_val
    case hw => rfl
    case hI => intro L wS hI; exact hI.pure (by decide)
    case hy => intro L wS hI; skip; first | (go_simp; done) | (go_simp; with_reducible rfl)
    case' hk => skip
    try simp only [Act.put, List.setIfInBounds_toArray, List.set_cons_zero, List.set_cons_succ]
    apply inv_val
    case hw => rfl
    case hI => intro L wS hI; exact hI.pure (by decide)
    case hy => intro L wS hI; have q0 := hI.1.cellSome j0 (by simp); have q1 := hI.1.cellSome j1 (by simp); have q2 := hI.1.cellSome j2 (by simp); have q3 := hI.1.cellSome j3 (by simp); first | (go_simp; done) | (go_simp; with_reducible rfl)
    case' hk => skip
    try simp only [Act.put, List.setIfInBounds_toArray, List.set_cons_zero, List.set_cons_succ]
    apply inv_val
    case hw => rfl
    case hI => intro L wS hI; exact hI.pure (by decide)
    case hy => intro L wS hI; skip; first | (go_simp; done) | (go_simp; with_reducible rfl)
    case' hk => skip
    try simp only [Act.put, List.setIfInBounds_toArray, List.set_cons_zero, List.set_cons_succ]
    apply inv_val
    case hw => rfl
    case hI => intro L wS hI; exact hI.pure (by decide)
    case hy => intro L wS hI; have q0 := hI.1.cellSome m4 (by simp); first | (go_simp; done) | (go_simp; with_reducible rfl)
    case' hk => skip
    try simp only [Act.put, List.setIfInBounds_toArray, List.set_cons_zero, List.set_cons_succ]
    apply inv_val
    case hw => rfl
    case hI => intro L wS hI; exact hI.pure (by decide)
    case hy => intro L wS hI; skip; first | (go_simp; done) | (go_simp; with_reducible rfl)
    case' hk => skip
    try simp only [Act.put, List.setIfInBounds_toArray, List.set_cons_zero, List.set_cons_succ]
    apply inv_val
    case hw => rfl
    case hI => intro L wS hI; exact hI.pure (by decide)
    case hy => intro L wS hI; have q0 := hI.1.cellSome m3 (by simp); first | (go_simp; done) | (go_simp; with_reducible rfl)
    case' hk => skip
    try simp only [Act.put, List.setIfInBounds_toArray, List.set_cons_zero, List.set_cons_succ]
    apply inv_val
    case hw => rfl
    case hI => intro L wS hI; exact hI.pure (by decide)
    case hy => intro L wS hI; skip; first | (go_simp; done) | (go_simp; with_reducible rfl)
    case' hk => skip
    try simp only [Act.put, List.setIfInBounds_toArray, List.set_cons_zero, List.set_cons_succ]
    apply inv_val
    case hw => rfl
    case hI => intro L wS hI; exact hI.pure (by decide)
    case hy => intro L wS hI; have q0 := hI.1.cellSome m1 (by simp); first | (go_simp; done) | (go_simp; with_reducible rfl)
    case' hk => skip
    try simp only [Act.put, List.setIfInBounds_toArray, List.set_cons_zero, List.set_cons_succ]
    apply inv_op
    case hw => rfl
    case hy =>
      intro L wS hI hL hw
      refine gives_call (f := 36) (args := #[.agg #[.string t, .int .i64 v, .int .i64 x, .slice A' n c'], .slice Au nu cu, .int .i64 md, .int .i64 f]) ?_ ?_
      · first | (go_simp; done) | (go_simp; with_reducible rfl)
      · exact (HC2.out wS (CallX.cls (fun y => y ≠ gb ∧ y ≠ gx) 13 L vs) (hI.fresh HFR.out) hI.1 (hI.source HM2.out)).mono fun e w' he => by
          obtain ⟨xw, e1, e2, e3⟩ := he
          exact ⟨_, e1, hI.call xw hL (by decide) e2 e3, trivial⟩
    case' hk => skip
    try simp only [Act.put, List.setIfInBounds_toArray, List.set_cons_zero, List.set_cons_succ]
    apply inv_op
    case hw => rfl
    case hy =>
      intro L wS hI hL hw
      obtain ⟨xw, e, h⟩ := hI.move (hw 9 (by kernel_rfl)) (by decide)
      refine gives_value (u := (tMark t v x n (q : Int)) xw) (w' := wS) ?_ h trivial
      rw [e]
      unfold tMark
      first | (go_simp; done) | (go_simp; with_reducible rfl)
    case' hk => skip
    try simp only [Act.put, List.setIfInBounds_toArray, List.set_cons_zero, List.set_cons_succ]
    apply inv_op
    case hw => rfl
    case hy =>
      intro L wS hI hL hw
      obtain ⟨xw, e, h⟩ := hI.part (hw 10 (by kernel_rfl)) (by decide)
      refine gives_value (u := (xBox t v x n) xw) (w' := wS) ?_ h trivial
      rw [e]
      unfold tMark xBox
      first | (go_simp; done) | (go_simp; with_reducible rfl)
    case' hk => skip
    try simp only [Act.put, List.setIfInBounds_toArray, List.set_cons_zero, List.set_cons_succ]
    apply inv_valw (v := .int .i64 (q : Int))
    case hw => rfl
    case hI => intro L wS hI; exact hI.pure (by decide)
    case hy =>
      intro L wS hI hw
      obtain ⟨xw, e⟩ := hI.see (hw 10 (by kernel_rfl))
      rw [e]
      unfold tMark
      first | (go_simp; done) | (go_simp; with_reducible rfl)
    case' hk => skip
    try simp only [Act.put, List.setIfInBounds_toArray, List.set_cons_zero, List.set_cons_succ]
    apply inv_op
    case hw => rfl
    case hy =>
      intro L wS hI hL hw
      refine gives_value (u := ptr2 wS.heap.size) (w' := wS.alloc (.cells #[.string ⟨#[]⟩, .int .i64 0, .int .i64 0, .slice none 0 0] 26)) ?_ (hI.alloc hL (by decide)) trivial
      show _ = Result.ok (Next.value (.pointer (some ⟨wS.heap.size, 0, none⟩))) (wS.alloc (.cells #[.string ⟨#[]⟩, .int .i64 0, .int .i64 0, .slice none 0 0] 26))
      first | (go_simp; done) | (go_simp; with_reducible rfl)
    case' hk => skip
    try simp only [Act.put, List.setIfInBounds_toArray, List.set_cons_zero, List.set_cons_succ]
    apply inv_op
    case hw => rfl
    case hy =>
      intro L wS hI hL hw
      obtain ⟨gn, xw, e4, e3, hb, hst⟩ := hI.store hL (hw 13 (by kernel_rfl)) (hw 11 (by kernel_rfl)) (by decide)
      obtain ⟨p0, p1, p2, p3⟩ := bk_four hb
      have fz0 := hb.free 0
      have fz1 := hb.free 1
      have fz2 := hb.free 2
      have fz3 := hb.free 3
      have hg := hb.lt
      rw [e4, e3]
      refine gives_skip ?_ (hst _ _ (only_store (Only.refl [gn] wS) (.inl List.mem_cons_self) (.string t) (.int .i64 v) (.int .i64 x) (.slice xw.1 n xw.2.1)) (bk_store hb _ _ _ _)) trivial
      unfold ptr2 xBox
      go_simp
    case' hk => skip
    try simp only [Act.put]
    apply inv_val
    case hw => rfl
    case hI => intro L wS hI; exact hI.pure (by decide)
    case hy => intro L wS hI; skip; first | (go_simp; done) | (go_simp; with_reducible rfl)
    case' hk => skip
    try simp only [Act.put, List.setIfInBounds_toArray, List.set_cons_zero, List.set_cons_succ]
    refine inv_end ?_
    intro L w5 hall hI
    obtain ⟨⟨A3, c3, G2, d2⟩, g2, e1, e2, e3, e4, e5, e6, hg2, N2, K2, O2⟩ := hI.end_ ⟨hall 9 (by decide), hall 10 (by decide), hall 11 (by decide), hall 13 (by decide), hall 14 (by decide)⟩
    rw [e1, e2, e3, e6]
    clear e1 e2 e3 e4 e5 e6 hall hI
    unfold ptr2 tMark xBox
    unfold xCells at N2
    simp only at N2 K2 ⊢
    go_wp2_with fail
    have HK1 := Lib.hid (K1.keep O2)
    have HK2 := Lib.hid K2
    have N1' := N1.only O2 (by simp)
    have hz1 := O1.size
    have B5 := (HB1.out.only O1 (by simp)).only O2 (by simp)
    have B6 := (HB2.out.only O1 (by simp)).only O2 (by simp)
    have hd1 : g1 ≠ gb := by have := HB1.out.lt; omega
    have hd2 : g1 ≠ gx := by have := HB2.out.lt; omega
    have hd3 : g2 ≠ gb := by have := HB1.out.lt; omega
    have hd4 : g2 ≠ gx := by have := HB2.out.lt; omega
    have O5 := Lib.hid (O1.then O2)
    clear k0 k1 k2 k3 j0 j1 j2 j3 m0 m1 m2 m3 m4 m5 K1 K2 N1 O1 O2 HC1 HC2 HM1 HM2 HFR hg1 hg2 hz1
    obtain ⟨g10, g11, g12, g13⟩ := bk_four N1'
    obtain ⟨g20, g21, g22, g23⟩ := bk_four N2
    apply region_inv (StI w5 gb gx #[.string t, .int .i64 v, .int .i64 x, .slice A n c] #[.string t, .int .i64 v, .int .i64 x, .slice A' n c'] #[.string t, .int .i64 v, .int .i64 x, .slice A2 n c2] #[.string t, .int .i64 v, .int .i64 x, .slice A3 n c3] 5 7) (by kernel_rfl) (by kernel_rfl) (fun vs => StI.start B5 B6 vs)
    intro vs
    apply inv_val
    case hw => rfl
    case hI => intro L wS hI; exact hI.pure (by decide)
    case hy => intro L wS hI; skip; first | (go_simp; done) | (go_simp; with_reducible rfl)
    case' hk => skip
    try simp only [Act.put, List.setIfInBounds_toArray, List.set_cons_zero, List.set_cons_succ]
    apply inv_val
    case hw => rfl
    case hI => intro L wS hI; exact hI.pure (by decide)
    case hy => intro L wS hI; skip; first | (go_simp; done) | (go_simp; with_reducible rfl)
    case' hk => skip
    try simp only [Act.put, List.setIfInBounds_toArray, List.set_cons_zero, List.set_cons_succ]
    apply inv_val
    case hw => rfl
    case hI => intro L wS hI; exact hI.pure (by decide)
    case hy => intro L wS hI; have q0 := hI.1.cellSome g10 (by simp; exact ⟨hd1, hd2⟩); have q1 := hI.1.cellSome g11 (by simp; exact ⟨hd1, hd2⟩); have q2 := hI.1.cellSome g12 (by simp; exact ⟨hd1, hd2⟩); have q3 := hI.1.cellSome g13 (by simp; exact ⟨hd1, hd2⟩); first | (go_simp; done) | (go_simp; with_reducible rfl)
    case' hk => skip
    try simp only [Act.put, List.setIfInBounds_toArray, List.set_cons_zero, List.set_cons_succ]
    apply inv_val
    case hw => rfl
    case hI => intro L wS hI; exact hI.pure (by decide)
    case hy => intro L wS hI; have q0 := hI.1.cellSome g20 (by simp; exact ⟨hd3, hd4⟩); have q1 := hI.1.cellSome g21 (by simp; exact ⟨hd3, hd4⟩); have q2 := hI.1.cellSome g22 (by simp; exact ⟨hd3, hd4⟩); have q3 := hI.1.cellSome g23 (by simp; exact ⟨hd3, hd4⟩); first | (go_simp; done) | (go_simp; with_reducible rfl)
    case' hk => skip
    try simp only [Act.put, List.setIfInBounds_toArray, List.set_cons_zero, List.set_cons_succ]
    apply inv_val
    case hw => rfl
    case hI => intro L wS hI; exact hI.pure (by decide)
    case hy => intro L wS hI; skip; first | (go_simp; done) | (go_simp; with_reducible rfl)
    case' hk => skip
    try simp only [Act.put, List.setIfInBounds_toArray, List.set_cons_zero, List.set_cons_succ]
    apply inv_op
    case hw => rfl
    case hy =>
      intro L wS hI hL hw
      have hb : Bk wS gb 26 #[.string t, .int .i64 v, .int .i64 x, .slice A n c] := by have := hI.2.1; rw [hL] at this; simpa using this
      obtain ⟨p0, p1, p2, p3⟩ := bk_four hb
      have fz0 := hb.free 0
      have fz1 := hb.free 1
      have fz2 := hb.free 2
      have fz3 := hb.free 3
      have hg := hb.lt
      refine gives_skip ?_ (hI.one (by decide) hne.symm (only_store (Only.refl [gb] wS) (.inl List.mem_cons_self) (.string t) (.int .i64 v) (.int .i64 x) (.slice A2 n c2)) (bk_store hb _ _ _ _)) trivial
      go_simp
    case' hk => skip
    try simp only [Act.put]
    apply inv_val
    case hw => rfl
    case hI => intro L wS hI; exact hI.pure (by decide)
    case hy => intro L wS hI; skip; first | (go_simp; done) | (go_simp; with_reducible rfl)
    case' hk => skip
    try simp only [Act.put, List.setIfInBounds_toArray, List.set_cons_zero, List.set_cons_succ]
    apply inv_op
    case hw => rfl
    case hy =>
      intro L wS hI hL hw
      have hb : Bk wS gx 26 #[.string t, .int .i64 v, .int .i64 x, .slice A' n c'] := by have := hI.2.2; rw [hL] at this; simpa using this
      obtain ⟨p0, p1, p2, p3⟩ := bk_four hb
      have fz0 := hb.free 0
      have fz1 := hb.free 1
      have fz2 := hb.free 2
      have fz3 := hb.free 3
      have hg := hb.lt
      refine gives_skip ?_ (hI.two (by decide) hne (only_store (Only.refl [gx] wS) (.inl List.mem_cons_self) (.string t) (.int .i64 v) (.int .i64 x) (.slice A3 n c3)) (bk_store hb _ _ _ _)) trivial
      go_simp
    case' hk => skip
    try simp only [Act.put]
    refine inv_end ?_
    intro L w7 hall hI
    obtain ⟨O7, B7, B8⟩ := hI
    rw [if_pos (hall 5 (by decide))] at B7
    rw [if_pos (hall 7 (by decide))] at B8
    have hdj : ∀ y, (y ≠ gb ∧ y ≠ gx) → y ∉ [gb, gx] := fun y hy => by simp; exact hy
    have hM7 := (HK1.out.1.mono (S' := fun y => y ≠ gb ∧ y ≠ gx) (fun y hy => hy.1)).only O7 hdj
    have hM8 := (HK2.out.1.mono (S' := fun y => y ≠ gb ∧ y ≠ gx) (fun y hy => hy.1)).only O7 hdj
    have HR := Lib.hid (show ∀ W, Only [] w7 W → ActR w gb gx ⟨s, v, x, l'⟩ (.returned (.bool true)) W from fun W o => ⟨rfl, A2, c2, A3, c3, by rw [bxc_eq HLN.out, HT.out]; exact B7.only o (by simp), by rw [bxc_eq HLN.out, HT.out]; exact B8.only o (by simp), by show Ms _ _ A2 (Bx.l ⟨s, v, x, l'⟩).length _; rw [show (Bx.l ⟨s, v, x, l'⟩).length = n from HLN.out]; exact hM7.keep o, by show Ms _ _ A3 (Bx.l ⟨s, v, x, l'⟩).length _; rw [show (Bx.l ⟨s, v, x, l'⟩).length = n from HLN.out]; exact hM8.keep o, (((HOW.out.then O5.out).mono (ss := [gb, gx]) (fun _ hx => nomatch hx)).trans O7 (fun y hy => .inl hy)).then o⟩)
    go_wp2
    go_ret
    exact HR.out _ (Only.refl _ _)
  by_cases h3 : kd = 3
  · subst h3
    obtain ⟨l', hb⟩ : ∃ l', stayL us l = l' := ⟨_, rfl⟩
    obtain ⟨gl, hg⟩ : ∃ gl, goneL us l = gl := ⟨_, rfl⟩
    obtain ⟨n', hn'⟩ : ∃ n', l'.length = n' := ⟨_, rfl⟩
    obtain ⟨ng, hng⟩ : ∃ ng, gl.length = ng := ⟨_, rfl⟩
    have hst : stepB ⟨s, v, x, l⟩ 3 f d md us y = ⟨s, v, x, l'⟩ := by rw [← hb]; rfl
    rw [hst]
    have hng24 : ng ≤ 140737488355328 := by rw [← hng, ← hg]; unfold goneL; rw [List.length_map]; have := List.length_filter_le (fun m => hasU us m.uid) l; omega
    have HC1 := Lib.hid (fun (W : World) (C : Nat → Prop) (hC : ∀ y, W.heap.size ≤ y → C y) (o : Only [] w1 W) (hM : Ms C W A n l) => expX_any (s := s) (v := v) (x := x) (c := c) hl hM (by omega) hby hC Au nu cu us (HU1.out.keep o) (by omega) hb hg hn' hng)
    have HC2 := Lib.hid (fun (W : World) (C : Nat → Prop) (hC : ∀ y, W.heap.size ≤ y → C y) (o : Only [] w1 W) (hM : Ms C W A' n l) => refExpX_any (s := s) (v := v) (x := x) (c := c') hl hM (by omega) hC Au nu cu us (HU1.out.keep o) (by omega) hb hg hn' hng)
    have HLN := Lib.hid hn'
    rw [ht] at HC1 HC2
    clear hb hg hn' hng hst hl hby
    go_wp2_with fail
    try rw [hw1]
    clear hw1
    apply region_inv (CallX w1 (fun y => y ≠ gb ∧ y ≠ gx) n' l' ng gl (tExp t v x n' ng) (xBox t v x n') (xGone ng) (xCells t v x n') #[.string ⟨#[]⟩, .int .i64 0, .int .i64 0, .slice none 0 0] 5 6 7 8 11 9 10) (by kernel_rfl) (by kernel_rfl) (fun vs => CallX.start vs)
    intro vs
    apply inv_val
    case hw => rfl
    case hI => intro L wS hI; exact hI.pure (by decide)
    case hy => intro L wS hI; skip; first | (go_simp; done) | (go_simp; with_reducible rfl)
    case' hk => skip
    try simp only [Act.put, List.setIfInBounds_toArray, List.set_cons_zero, List.set_cons_succ]
    apply inv_val
    case hw => rfl
    case hI => intro L wS hI; exact hI.pure (by decide)
    case hy => intro L wS hI; skip; first | (go_simp; done) | (go_simp; with_reducible rfl)
    case' hk => skip
    try simp only [Act.put, List.setIfInBounds_toArray, List.set_cons_zero, List.set_cons_succ]
    apply inv_val
    case hw => rfl
    case hI => intro L wS hI; exact hI.pure (by decide)
    case hy => intro L wS hI; have q0 := hI.1.cellSome k0 (by simp); have q1 := hI.1.cellSome k1 (by simp); have q2 := hI.1.cellSome k2 (by simp); have q3 := hI.1.cellSome k3 (by simp); first | (go_simp; done) | (go_simp; with_reducible rfl)
    case' hk => skip
    try simp only [Act.put, List.setIfInBounds_toArray, List.set_cons_zero, List.set_cons_succ]
    apply inv_val
    case hw => rfl
    case hI => intro L wS hI; exact hI.pure (by decide)
    case hy => intro L wS hI; skip; first | (go_simp; done) | (go_simp; with_reducible rfl)
    case' hk => skip
    try simp only [Act.put, List.setIfInBounds_toArray, List.set_cons_zero, List.set_cons_succ]
    apply inv_val
    case hw => rfl
    case hI => intro L wS hI; exact hI.pure (by decide)
    case hy => intro L wS hI; have q0 := hI.1.cellSome m4 (by simp); first | (go_simp; done) | (go_simp; with_reducible rfl)
    case' hk => skip
    try simp only [Act.put, List.setIfInBounds_toArray, List.set_cons_zero, List.set_cons_succ]
    apply inv_op
    case hw => rfl
    case hy =>
      intro L wS hI hL hw
      refine gives_call (f := 28) (args := #[.agg #[.string t, .int .i64 v, .int .i64 x, .slice A n c], .slice Au nu cu]) ?_ ?_
      · first | (go_simp; done) | (go_simp; with_reducible rfl)
      · exact (HC1.out wS (CallX.cls (fun y => y ≠ gb ∧ y ≠ gx) 9 L vs) (hI.fresh HFR.out) hI.1 (hI.source HM1.out)).mono fun e w' he => by
          obtain ⟨xw, e1, e2, e3⟩ := he
          exact ⟨_, e1, hI.call xw hL (by decide) e2 e3, trivial⟩
    case' hk => skip
    try simp only [Act.put, List.setIfInBounds_toArray, List.set_cons_zero, List.set_cons_succ]
    apply inv_op
    case hw => rfl
    case hy =>
      intro L wS hI hL hw
      obtain ⟨xw, e, h⟩ := hI.move (hw 5 (by kernel_rfl)) (by decide)
      refine gives_value (u := (tExp t v x n' ng) xw) (w' := wS) ?_ h trivial
      rw [e]
      unfold tExp
      first | (go_simp; done) | (go_simp; with_reducible rfl)
    case' hk => skip
    try simp only [Act.put, List.setIfInBounds_toArray, List.set_cons_zero, List.set_cons_succ]
    apply inv_op
    case hw => rfl
    case hy =>
      intro L wS hI hL hw
      obtain ⟨xw, e, h⟩ := hI.part (hw 6 (by kernel_rfl)) (by decide)
      refine gives_value (u := (xBox t v x n') xw) (w' := wS) ?_ h trivial
      rw [e]
      unfold tExp xBox
      first | (go_simp; done) | (go_simp; with_reducible rfl)
    case' hk => skip
    try simp only [Act.put, List.setIfInBounds_toArray, List.set_cons_zero, List.set_cons_succ]
    apply inv_op
    case hw => rfl
    case hy =>
      intro L wS hI hL hw
      obtain ⟨xw, e, h⟩ := hI.second (hw 6 (by kernel_rfl)) (by decide)
      refine gives_value (u := xGone ng xw) (w' := wS) ?_ h trivial
      rw [e]
      unfold tExp xGone
      first | (go_simp; done) | (go_simp; with_reducible rfl)
    case' hk => skip
    try simp only [Act.put, List.setIfInBounds_toArray, List.set_cons_zero, List.set_cons_succ]
    apply inv_op
    case hw => rfl
    case hy =>
      intro L wS hI hL hw
      refine gives_value (u := ptr2 wS.heap.size) (w' := wS.alloc (.cells #[.string ⟨#[]⟩, .int .i64 0, .int .i64 0, .slice none 0 0] 26)) ?_ (hI.alloc hL (by decide)) trivial
      show _ = Result.ok (Next.value (.pointer (some ⟨wS.heap.size, 0, none⟩))) (wS.alloc (.cells #[.string ⟨#[]⟩, .int .i64 0, .int .i64 0, .slice none 0 0] 26))
      first | (go_simp; done) | (go_simp; with_reducible rfl)
    case' hk => skip
    try simp only [Act.put, List.setIfInBounds_toArray, List.set_cons_zero, List.set_cons_succ]
    apply inv_op
    case hw => rfl
    case hy =>
      intro L wS hI hL hw
      obtain ⟨gn, xw, e4, e3, hb, hst⟩ := hI.store hL (hw 9 (by kernel_rfl)) (hw 7 (by kernel_rfl)) (by decide)
      obtain ⟨p0, p1, p2, p3⟩ := bk_four hb
      have fz0 := hb.free 0
      have fz1 := hb.free 1
      have fz2 := hb.free 2
      have fz3 := hb.free 3
      have hg := hb.lt
      rw [e4, e3]
      refine gives_skip ?_ (hst _ _ (only_store (Only.refl [gn] wS) (.inl List.mem_cons_self) (.string t) (.int .i64 v) (.int .i64 x) (.slice xw.1 n' xw.2.1)) (bk_store hb _ _ _ _)) trivial
      unfold ptr2 xBox
      go_simp
    case' hk => skip
    try simp only [Act.put]
    apply inv_op
    case hw => rfl
    case hy =>
      intro L wS hI hL hw
      obtain ⟨xw, e, h⟩ := hI.hand (hw 8 (by kernel_rfl)) (by decide)
      refine gives_value (u := xGone ng xw) (w' := wS) ?_ h trivial
      rw [e]
      unfold xGone
      first | (go_simp; done) | (go_simp; with_reducible rfl)
    case' hk => skip
    try simp only [Act.put, List.setIfInBounds_toArray, List.set_cons_zero, List.set_cons_succ]
    refine inv_end ?_
    intro L w3 hall hI
    obtain ⟨⟨A2, c2, G1, d1⟩, g1, e1, e2, e3, e4, e5, e6, hg1, N1, K1, O1⟩ := hI.end_ ⟨hall 5 (by decide), hall 6 (by decide), hall 7 (by decide), hall 9 (by decide), hall 10 (by decide)⟩
    replace e4 := e4 (hall 8 (by decide))
    replace e5 := e5 (hall 11 (by decide))
    rw [e1, e2, e3, e6, e4, e5]
    clear e1 e2 e3 e4 e5 e6 hall hI
    unfold ptr2 tExp xBox xGone
    unfold xCells at N1
    simp only at N1 K1 ⊢
    replace HFR := Lib.hid (fun y (hy : w3.heap.size ≤ y) => HFR.out y (Nat.le_trans O1.size hy))
    replace HC2 := Lib.hid (fun (W : World) (C : Nat → Prop) (hC : ∀ y, W.heap.size ≤ y → C y) (o : Only [] w3 W) => HC2.out W C hC (O1.then o))
    replace HM1 := Lib.hid (HM1.out.keep O1)
    replace HM2 := Lib.hid (HM2.out.keep O1)
    replace k0 := O1.cellSome k0 (by simp)
    replace k1 := O1.cellSome k1 (by simp)
    replace k2 := O1.cellSome k2 (by simp)
    replace k3 := O1.cellSome k3 (by simp)
    replace j0 := O1.cellSome j0 (by simp)
    replace j1 := O1.cellSome j1 (by simp)
    replace j2 := O1.cellSome j2 (by simp)
    replace j3 := O1.cellSome j3 (by simp)
    replace m0 := O1.cellSome m0 (by simp)
    replace m1 := O1.cellSome m1 (by simp)
    replace m2 := O1.cellSome m2 (by simp)
    replace m3 := O1.cellSome m3 (by simp)
    replace m4 := O1.cellSome m4 (by simp)
    replace m5 := O1.cellSome m5 (by simp)
    go_wp2_with fail
    apply region_inv (CallX w3 (fun y => y ≠ gb ∧ y ≠ gx) n' l' ng gl (tExp t v x n' ng) (xBox t v x n') (xGone ng) (xCells t v x n') #[.string ⟨#[]⟩, .int .i64 0, .int .i64 0, .slice none 0 0] 5 6 7 8 11 9 10) (by kernel_rfl) (by kernel_rfl) (fun vs => CallX.start vs)
    intro vs
    apply inv_val
    case hw => rfl
    case hI => intro L wS hI; exact hI.pure (by decide)
    case hy => intro L wS hI; skip; first | (go_simp; done) | (go_simp; with_reducible rfl)
    case' hk => skip
    try simp only [Act.put, List.setIfInBounds_toArray, List.set_cons_zero, List.set_cons_succ]
    apply inv_val
    case hw => rfl
    case hI => intro L wS hI; exact hI.pure (by decide)
    case hy => intro L wS hI; skip; first | (go_simp; done) | (go_simp; with_reducible rfl)
    case' hk => skip
    try simp only [Act.put, List.setIfInBounds_toArray, List.set_cons_zero, List.set_cons_succ]
    apply inv_val
    case hw => rfl
    case hI => intro L wS hI; exact hI.pure (by decide)
    case hy => intro L wS hI; have q0 := hI.1.cellSome j0 (by simp); have q1 := hI.1.cellSome j1 (by simp); have q2 := hI.1.cellSome j2 (by simp); have q3 := hI.1.cellSome j3 (by simp); first | (go_simp; done) | (go_simp; with_reducible rfl)
    case' hk => skip
    try simp only [Act.put, List.setIfInBounds_toArray, List.set_cons_zero, List.set_cons_succ]
    apply inv_val
    case hw => rfl
    case hI => intro L wS hI; exact hI.pure (by decide)
    case hy => intro L wS hI; skip; first | (go_simp; done) | (go_simp; with_reducible rfl)
    case' hk => skip
    try simp only [Act.put, List.setIfInBounds_toArray, List.set_cons_zero, List.set_cons_succ]
    apply inv_val
    case hw => rfl
    case hI => intro L wS hI; exact hI.pure (by decide)
    case hy => intro L wS hI; have q0 := hI.1.cellSome m4 (by simp); first | (go_simp; done) | (go_simp; with_reducible rfl)
    case' hk => skip
    try simp only [Act.put, List.setIfInBounds_toArray, List.set_cons_zero, List.set_cons_succ]
    apply inv_op
    case hw => rfl
    case hy =>
      intro L wS hI hL hw
      refine gives_call (f := 37) (args := #[.agg #[.string t, .int .i64 v, .int .i64 x, .slice A' n c'], .slice Au nu cu]) ?_ ?_
      · first | (go_simp; done) | (go_simp; with_reducible rfl)
      · exact (HC2.out wS (CallX.cls (fun y => y ≠ gb ∧ y ≠ gx) 9 L vs) (hI.fresh HFR.out) hI.1 (hI.source HM2.out)).mono fun e w' he => by
          obtain ⟨xw, e1, e2, e3⟩ := he
          exact ⟨_, e1, hI.call xw hL (by decide) e2 e3, trivial⟩
    case' hk => skip
    try simp only [Act.put, List.setIfInBounds_toArray, List.set_cons_zero, List.set_cons_succ]
    apply inv_op
    case hw => rfl
    case hy =>
      intro L wS hI hL hw
      obtain ⟨xw, e, h⟩ := hI.move (hw 5 (by kernel_rfl)) (by decide)
      refine gives_value (u := (tExp t v x n' ng) xw) (w' := wS) ?_ h trivial
      rw [e]
      unfold tExp
      first | (go_simp; done) | (go_simp; with_reducible rfl)
    case' hk => skip
    try simp only [Act.put, List.setIfInBounds_toArray, List.set_cons_zero, List.set_cons_succ]
    apply inv_op
    case hw => rfl
    case hy =>
      intro L wS hI hL hw
      obtain ⟨xw, e, h⟩ := hI.part (hw 6 (by kernel_rfl)) (by decide)
      refine gives_value (u := (xBox t v x n') xw) (w' := wS) ?_ h trivial
      rw [e]
      unfold tExp xBox
      first | (go_simp; done) | (go_simp; with_reducible rfl)
    case' hk => skip
    try simp only [Act.put, List.setIfInBounds_toArray, List.set_cons_zero, List.set_cons_succ]
    apply inv_op
    case hw => rfl
    case hy =>
      intro L wS hI hL hw
      obtain ⟨xw, e, h⟩ := hI.second (hw 6 (by kernel_rfl)) (by decide)
      refine gives_value (u := xGone ng xw) (w' := wS) ?_ h trivial
      rw [e]
      unfold tExp xGone
      first | (go_simp; done) | (go_simp; with_reducible rfl)
    case' hk => skip
    try simp only [Act.put, List.setIfInBounds_toArray, List.set_cons_zero, List.set_cons_succ]
    apply inv_op
    case hw => rfl
    case hy =>
      intro L wS hI hL hw
      refine gives_value (u := ptr2 wS.heap.size) (w' := wS.alloc (.cells #[.string ⟨#[]⟩, .int .i64 0, .int .i64 0, .slice none 0 0] 26)) ?_ (hI.alloc hL (by decide)) trivial
      show _ = Result.ok (Next.value (.pointer (some ⟨wS.heap.size, 0, none⟩))) (wS.alloc (.cells #[.string ⟨#[]⟩, .int .i64 0, .int .i64 0, .slice none 0 0] 26))
      first | (go_simp; done) | (go_simp; with_reducible rfl)
    case' hk => skip
    try simp only [Act.put, List.setIfInBounds_toArray, List.set_cons_zero, List.set_cons_succ]
    apply inv_op
    case hw => rfl
    case hy =>
      intro L wS hI hL hw
      obtain ⟨gn, xw, e4, e3, hb, hst⟩ := hI.store hL (hw 9 (by kernel_rfl)) (hw 7 (by kernel_rfl)) (by decide)
      obtain ⟨p0, p1, p2, p3⟩ := bk_four hb
      have fz0 := hb.free 0
      have fz1 := hb.free 1
      have fz2 := hb.free 2
      have fz3 := hb.free 3
      have hg := hb.lt
      rw [e4, e3]
      refine gives_skip ?_ (hst _ _ (only_store (Only.refl [gn] wS) (.inl List.mem_cons_self) (.string t) (.int .i64 v) (.int .i64 x) (.slice xw.1 n' xw.2.1)) (bk_store hb _ _ _ _)) trivial
      unfold ptr2 xBox
      go_simp
    case' hk => skip
    try simp only [Act.put]
    apply inv_op
    case hw => rfl
    case hy =>
      intro L wS hI hL hw
      obtain ⟨xw, e, h⟩ := hI.hand (hw 8 (by kernel_rfl)) (by decide)
      refine gives_value (u := xGone ng xw) (w' := wS) ?_ h trivial
      rw [e]
      unfold xGone
      first | (go_simp; done) | (go_simp; with_reducible rfl)
    case' hk => skip
    try simp only [Act.put, List.setIfInBounds_toArray, List.set_cons_zero, List.set_cons_succ]
    refine inv_end ?_
    intro L w5 hall hI
    obtain ⟨⟨A3, c3, G2, d2⟩, g2, e1, e2, e3, e4, e5, e6, hg2, N2, K2, O2⟩ := hI.end_ ⟨hall 5 (by decide), hall 6 (by decide), hall 7 (by decide), hall 9 (by decide), hall 10 (by decide)⟩
    replace e4 := e4 (hall 8 (by decide))
    replace e5 := e5 (hall 11 (by decide))
    rw [e1, e2, e3, e6, e4, e5]
    clear e1 e2 e3 e4 e5 e6 hall hI
    unfold ptr2 tExp xBox xGone
    unfold xCells at N2
    simp only at N2 K2 ⊢
    go_wp2_with fail
    have HK1 := Lib.hid (K1.keep O2)
    have HK2 := Lib.hid K2
    have N1' := N1.only O2 (by simp)
    have hz1 := O1.size
    have B5 := (HB1.out.only O1 (by simp)).only O2 (by simp)
    have B6 := (HB2.out.only O1 (by simp)).only O2 (by simp)
    have hd1 : g1 ≠ gb := by have := HB1.out.lt; omega
    have hd2 : g1 ≠ gx := by have := HB2.out.lt; omega
    have hd3 : g2 ≠ gb := by have := HB1.out.lt; omega
    have hd4 : g2 ≠ gx := by have := HB2.out.lt; omega
    have O5 := Lib.hid (O1.then O2)
    clear k0 k1 k2 k3 j0 j1 j2 j3 m0 m1 m2 m3 m4 m5 K1 K2 N1 O1 O2 HC1 HC2 HM1 HM2 HFR hg1 hg2 hz1
    obtain ⟨g10, g11, g12, g13⟩ := bk_four N1'
    obtain ⟨g20, g21, g22, g23⟩ := bk_four N2
    apply region_inv (StI w5 gb gx #[.string t, .int .i64 v, .int .i64 x, .slice A n c] #[.string t, .int .i64 v, .int .i64 x, .slice A' n c'] #[.string t, .int .i64 v, .int .i64 x, .slice A2 n' c2] #[.string t, .int .i64 v, .int .i64 x, .slice A3 n' c3] 5 7) (by kernel_rfl) (by kernel_rfl) (fun vs => StI.start B5 B6 vs)
    intro vs
    apply inv_val
    case hw => rfl
    case hI => intro L wS hI; exact hI.pure (by decide)
    case hy => intro L wS hI; skip; first | (go_simp; done) | (go_simp; with_reducible rfl)
    case' hk => skip
    try simp only [Act.put, List.setIfInBounds_toArray, List.set_cons_zero, List.set_cons_succ]
    apply inv_val
    case hw => rfl
    case hI => intro L wS hI; exact hI.pure (by decide)
    case hy => intro L wS hI; skip; first | (go_simp; done) | (go_simp; with_reducible rfl)
    case' hk => skip
    try simp only [Act.put, List.setIfInBounds_toArray, List.set_cons_zero, List.set_cons_succ]
    apply inv_val
    case hw => rfl
    case hI => intro L wS hI; exact hI.pure (by decide)
    case hy => intro L wS hI; have q0 := hI.1.cellSome g10 (by simp; exact ⟨hd1, hd2⟩); have q1 := hI.1.cellSome g11 (by simp; exact ⟨hd1, hd2⟩); have q2 := hI.1.cellSome g12 (by simp; exact ⟨hd1, hd2⟩); have q3 := hI.1.cellSome g13 (by simp; exact ⟨hd1, hd2⟩); first | (go_simp; done) | (go_simp; with_reducible rfl)
    case' hk => skip
    try simp only [Act.put, List.setIfInBounds_toArray, List.set_cons_zero, List.set_cons_succ]
    apply inv_val
    case hw => rfl
    case hI => intro L wS hI; exact hI.pure (by decide)
    case hy => intro L wS hI; have q0 := hI.1.cellSome g20 (by simp; exact ⟨hd3, hd4⟩); have q1 := hI.1.cellSome g21 (by simp; exact ⟨hd3, hd4⟩); have q2 := hI.1.cellSome g22 (by simp; exact ⟨hd3, hd4⟩); have q3 := hI.1.cellSome g23 (by simp; exact ⟨hd3, hd4⟩); first | (go_simp; done) | (go_simp; with_reducible rfl)
    case' hk => skip
    try simp only [Act.put, List.setIfInBounds_toArray, List.set_cons_zero, List.set_cons_succ]
    apply inv_val
    case hw => rfl
    case hI => intro L wS hI; exact hI.pure (by decide)
    case hy => intro L wS hI; skip; first | (go_simp; done) | (go_simp; with_reducible rfl)
    case' hk => skip
    try simp only [Act.put, List.setIfInBounds_toArray, List.set_cons_zero, List.set_cons_succ]
    apply inv_op
    case hw => rfl
    case hy =>
      intro L wS hI hL hw
      have hb : Bk wS gb 26 #[.string t, .int .i64 v, .int .i64 x, .slice A n c] := by have := hI.2.1; rw [hL] at this; simpa using this
      obtain ⟨p0, p1, p2, p3⟩ := bk_four hb
      have fz0 := hb.free 0
      have fz1 := hb.free 1
      have fz2 := hb.free 2
      have fz3 := hb.free 3
      have hg := hb.lt
      refine gives_skip ?_ (hI.one (by decide) hne.symm (only_store (Only.refl [gb] wS) (.inl List.mem_cons_self) (.string t) (.int .i64 v) (.int .i64 x) (.slice A2 n' c2)) (bk_store hb _ _ _ _)) trivial
      go_simp
    case' hk => skip
    try simp only [Act.put]
    apply inv_val
    case hw => rfl
    case hI => intro L wS hI; exact hI.pure (by decide)
    case hy => intro L wS hI; skip; first | (go_simp; done) | (go_simp; with_reducible rfl)
    case' hk => skip
    try simp only [Act.put, List.setIfInBounds_toArray, List.set_cons_zero, List.set_cons_succ]
    apply inv_op
    case hw => rfl
    case hy =>
      intro L wS hI hL hw
      have hb : Bk wS gx 26 #[.string t, .int .i64 v, .int .i64 x, .slice A' n c'] := by have := hI.2.2; rw [hL] at this; simpa using this
      obtain ⟨p0, p1, p2, p3⟩ := bk_four hb
      have fz0 := hb.free 0
      have fz1 := hb.free 1
      have fz2 := hb.free 2
      have fz3 := hb.free 3
      have hg := hb.lt
      refine gives_skip ?_ (hI.two (by decide) hne (only_store (Only.refl [gx] wS) (.inl List.mem_cons_self) (.string t) (.int .i64 v) (.int .i64 x) (.slice A3 n' c3)) (bk_store hb _ _ _ _)) trivial
      go_simp
    case' hk => skip
    try simp only [Act.put]
    refine inv_end ?_
    intro L w7 hall hI
    obtain ⟨O7, B7, B8⟩ := hI
    rw [if_pos (hall 5 (by decide))] at B7
    rw [if_pos (hall 7 (by decide))] at B8
    have hdj : ∀ y, (y ≠ gb ∧ y ≠ gx) → y ∉ [gb, gx] := fun y hy => by simp; exact hy
    have hM7 := (HK1.out.1.mono (S' := fun y => y ≠ gb ∧ y ≠ gx) (fun y hy => hy.1)).only O7 hdj
    have hM8 := (HK2.out.1.mono (S' := fun y => y ≠ gb ∧ y ≠ gx) (fun y hy => hy.1)).only O7 hdj
    have HR := Lib.hid (show ∀ W, Only [] w7 W → ActR w gb gx ⟨s, v, x, l'⟩ (.returned (.bool true)) W from fun W o => ⟨rfl, A2, c2, A3, c3, by rw [bxc_eq HLN.out, HT.out]; exact B7.only o (by simp), by rw [bxc_eq HLN.out, HT.out]; exact B8.only o (by simp), by show Ms _ _ A2 (Bx.l ⟨s, v, x, l'⟩).length _; rw [show (Bx.l ⟨s, v, x, l'⟩).length = n' from HLN.out]; exact hM7.keep o, by show Ms _ _ A3 (Bx.l ⟨s, v, x, l'⟩).length _; rw [show (Bx.l ⟨s, v, x, l'⟩).length = n' from HLN.out]; exact hM8.keep o, (((HOW.out.then O5.out).mono (ss := [gb, gx]) (fun _ hx => nomatch hx)).trans O7 (fun y hy => .inl hy)).then o⟩)
    have hG1 := HK1.out.2.1.only' O7 (fun hp ad e => by have := (HK1.out.2.2 hp ad e).1; simp; exact this)
    have hG2 := HK2.out.2.1.only' O7 (fun hp ad e => by have := (HK2.out.2.2 hp ad e).1; simp; exact this)
    have HIN := Lib.hid (ints_any (c1 := d1) (c2 := d2) hG1 hG2 hng24)
    clear hG1 hG2 hM7 hM8 B7 B8 O7
    go_wp2_with (go_at_call 38; go_must (refine HIN.out.mono ?_); rintro e w9 ⟨rfl, O9⟩)
    go_ret
    exact HR.out _ O9
  have hst : stepB ⟨s, v, x, l⟩ kd f d md us y = ⟨s, v, x, l⟩ := by unfold stepB; rw [if_neg h1, if_neg h2, if_neg h3]
  rw [hst]
  obtain ⟨fi, hfi⟩ : ∃ fi, findI l d = fi := ⟨_, rfl⟩
  have HF1 := Lib.hid (fun (W : World) (o : Only [] w1 W) => by
    have hh := Find_any (w := W) ⟨s, v, x, l⟩ (A := A) (c := c) (S := fun y => y ≠ gb ∧ y ≠ gx) (by show Ms _ W A l.length l; rw [hl]; exact HM1.out.keep o) (by show l.length ≤ _; omega) d
    rw [bxv_eq hl, hfi, ht] at hh
    exact hh)
  have HF2 := Lib.hid (fun (W : World) (o : Only [] w1 W) => by
    have hh := refFind_any (w := W) ⟨s, v, x, l⟩ (A := A') (c := c') (S := fun y => y ≠ gb ∧ y ≠ gx) (by show Ms _ W A' l.length l; rw [hl]; exact HM2.out.keep o) (by show l.length ≤ _; omega) d
    rw [bxv_eq hl, hfi, ht] at hh
    exact hh)
  clear hfi hst hby
  go_wp2_with fail
  apply region_only (by kernel_rfl) (by kernel_rfl)
  apply rel_val (hrf := Tk_refl)
  case hw => rfl
  case hy => intro wS hN hF; skip; first | (go_simp; done) | (go_simp; with_reducible rfl)
  case' hk => skip
  try simp only [Act.put, List.setIfInBounds_toArray, List.set_cons_zero, List.set_cons_succ]
  apply rel_val (hrf := Tk_refl)
  case hw => rfl
  case hy => intro wS hN hF; skip; first | (go_simp; done) | (go_simp; with_reducible rfl)
  case' hk => skip
  try simp only [Act.put, List.setIfInBounds_toArray, List.set_cons_zero, List.set_cons_succ]
  apply rel_val (hrf := Tk_refl)
  case hw => rfl
  case hy => intro wS hN hF; have hO := hN.pre (by kernel_rfl); have q0 := hO.cellSome k0 (by simp); have q1 := hO.cellSome k1 (by simp); have q2 := hO.cellSome k2 (by simp); have q3 := hO.cellSome k3 (by simp); first | (go_simp; done) | (go_simp; with_reducible rfl)
  case' hk => skip
  try simp only [Act.put, List.setIfInBounds_toArray, List.set_cons_zero, List.set_cons_succ]
  apply rel_val (hrf := Tk_refl)
  case hw => rfl
  case hy => intro wS hN hF; skip; first | (go_simp; done) | (go_simp; with_reducible rfl)
  case' hk => skip
  try simp only [Act.put, List.setIfInBounds_toArray, List.set_cons_zero, List.set_cons_succ]
  apply rel_val (hrf := Tk_refl)
  case hw => rfl
  case hy => intro wS hN hF; have hO := hN.pre (by kernel_rfl); have q0 := hO.cellSome m2 (by simp); first | (go_simp; done) | (go_simp; with_reducible rfl)
  case' hk => skip
  try simp only [Act.put, List.setIfInBounds_toArray, List.set_cons_zero, List.set_cons_succ]
  apply rel_call (v := .int .i64 fi) (f := 33) (args := #[.agg #[.string t, .int .i64 v, .int .i64 x, .slice A n c], .int .i64 d])
  case hw => rfl
  case hy => intro wS hN hF; go_simp
  case hc => intro wS hN hF; exact call_only (HF1.out wS ((Only.refl [] _).drew.then (hN.pre (by kernel_rfl))))
  case' hk => skip
  try simp only [Act.put, List.setIfInBounds_toArray, List.set_cons_zero, List.set_cons_succ]
  apply rel_val (hrf := Tk_refl)
  case hw => rfl
  case hy => intro wS hN hF; skip; first | (go_simp; done) | (go_simp; with_reducible rfl)
  case' hk => skip
  try simp only [Act.put, List.setIfInBounds_toArray, List.set_cons_zero, List.set_cons_succ]
  apply rel_val (hrf := Tk_refl)
  case hw => rfl
  case hy => intro wS hN hF; skip; first | (go_simp; done) | (go_simp; with_reducible rfl)
  case' hk => skip
  try simp only [Act.put, List.setIfInBounds_toArray, List.set_cons_zero, List.set_cons_succ]
  apply rel_val (hrf := Tk_refl)
  case hw => rfl
  case hy => intro wS hN hF; have hO := hN.pre (by kernel_rfl); have q0 := hO.cellSome j0 (by simp); have q1 := hO.cellSome j1 (by simp); have q2 := hO.cellSome j2 (by simp); have q3 := hO.cellSome j3 (by simp); first | (go_simp; done) | (go_simp; with_reducible rfl)
  case' hk => skip
  try simp only [Act.put, List.setIfInBounds_toArray, List.set_cons_zero, List.set_cons_succ]
  apply rel_val (hrf := Tk_refl)
  case hw => rfl
  case hy => intro wS hN hF; skip; first | (go_simp; done) | (go_simp; with_reducible rfl)
  case' hk => skip
  try simp only [Act.put, List.setIfInBounds_toArray, List.set_cons_zero, List.set_cons_succ]
  apply rel_val (hrf := Tk_refl)
  case hw => rfl
  case hy => intro wS hN hF; have hO := hN.pre (by kernel_rfl); have q0 := hO.cellSome m2 (by simp); first | (go_simp; done) | (go_simp; with_reducible rfl)
  case' hk => skip
  try simp only [Act.put, List.setIfInBounds_toArray, List.set_cons_zero, List.set_cons_succ]
  apply rel_call (v := .int .i64 fi) (f := 39) (args := #[.agg #[.string t, .int .i64 v, .int .i64 x, .slice A' n c'], .int .i64 d])
  case hw => rfl
  case hy => intro wS hN hF; go_simp
  case hc => intro wS hN hF; exact call_only (HF2.out wS ((Only.refl [] _).drew.then (hN.pre (by kernel_rfl))))
  case' hk => skip
  try simp only [Act.put, List.setIfInBounds_toArray, List.set_cons_zero, List.set_cons_succ]
  apply rel_val (v := .bool true) (hrf := Tk_refl)
  case hw => rfl
  case hy =>
    intro wS hN hF
    go_simp
  case' hk => skip
  try simp only [Act.put, List.setIfInBounds_toArray, List.set_cons_zero, List.set_cons_succ]
  apply rel_val (hrf := Tk_refl)
  case hw => rfl
  case hy => intro wS hN hF; skip; first | (go_simp; done) | (go_simp; with_reducible rfl)
  case' hk => skip
  try simp only [Act.put, List.setIfInBounds_toArray, List.set_cons_zero, List.set_cons_succ]
  refine rel_end ?_
  intro wS hO2 hF
  clear hF
  go_wp2
  go_ret
  have hO9 : Only [] w1 wS := ((Only.refl [] w1).drew).then hO2.only
  exact ⟨rfl, A, c, A', c', by rw [bxc_eq hl, HT.out]; exact HB1.out.only hO9 (by simp), by rw [bxc_eq hl, HT.out]; exact HB2.out.only hO9 (by simp), by show Ms _ _ A l.length l; rw [hl]; exact HM1.out.keep hO9, by show Ms _ _ A' l.length l; rw [hl]; exact HM2.out.keep hO9, (HOW.out.then hO9).mono (fun _ hx => nomatch hx)⟩
end Go.Proofs.Ythaodlegpjedoaa
