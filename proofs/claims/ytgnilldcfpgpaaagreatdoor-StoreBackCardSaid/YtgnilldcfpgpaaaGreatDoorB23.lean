/-
  Texts of the seat, laid one behind the other: SDecI SDec.
-/
import Derived.Test.YtgnilldcfpgpaaaGreatDoorB14
import Derived.Test.YtgnilldcfpgpaaaGreatDoorB22
import Derived.Test.YtgnilldcfpgpaaaGreatDoorB13
import Derived.Test.YtgnilldcfpgpaaaGreatDoorB7
import Derived.Test.YtgnilldcfpgpaaaGreatDoorB11
import Derived.Test.YtgnilldcfpgpaaaGreatDoorB6
import Derived.Test.YtgnilldcfpgpaaaGreatDoorB12
namespace Go.Proofs.YtgnilldcfpgpaaaGreatDoor
open Go.RowKit Go.Instr
set_option maxRecDepth 100000 in
set_option maxHeartbeats 2000000 in
theorem rnums1_any {w : World} {g kb s b o : Nat} {x : Int} {A : Option Addr} {c : Nat} {r : RS} (h : Rd w g kb A c r.1 r.2) (hs : Bk w s 144 #[.pointer (some ⟨b, o, none⟩)]) (hc : w.cell? ⟨b, o, none⟩ = some (.int .i64 x)) (hf : w.frozen? ⟨b, o, none⟩ = false) (hbg : b ≠ g) :
    Calls Tryz.prog 67 #[.pointer (some ⟨g, 0, none⟩), .slice (some ⟨s, 0, none⟩) 1 1] w fun e w' => e = .returned (.tuple #[]) ∧ ∃ W A' c', w' = W.setCell ⟨b, o, none⟩ (.int .i64 (tv r)) ∧ Rd W g kb A' c' (tk r).1 (tk r).2 ∧ Only [g] w W := by
  have hsg : s ≠ g := hs.ne h.bk (by decide)
  have HS := Lib.hid hs
  have HR0 := Lib.hid h
  have HC := Lib.hid hc
  have HF := Lib.hid hf
  clear hs h hc hf
  go_enter Tryz.func67, Tryz.ntmps67
  go_wp2
  go_loopw [9] (fun i wr => (i = .int .i64 0 ∧ Hid (wr = w)) ∨ (i = .int .i64 1 ∧ Hid (∃ W A' c', wr = W.setCell ⟨b, o, none⟩ (.int .i64 (tv r)) ∧ Rd W g kb A' c' (tk r).1 (tk r).2 ∧ Only [g] w W))) (fun i _ => 1 - (intOf i).toNat)
  case atStart => exact .inl ⟨rfl, rfl⟩
  case round =>
    rcases hrel with ⟨rfl, HW⟩ | ⟨rfl, HW⟩
    · obtain rfl := HW.out
      have s0 : wr.cell? ⟨s, 0, none⟩ = some (.pointer (some ⟨b, o, none⟩)) := by rw [HS.out.cell]; rfl
      have HNm := Lib.hid (num_any HR0.out)
      go_wp2_with fail
      refine HNm.out.mono ?_
      rintro e w1 ⟨rfl, A1, c1, R1, O1⟩
      have ca := (O1.cell (p := ⟨b, o, none⟩) (block_lt_of_cell HC.out) (by simpa using hbg)).trans HC.out
      have cf := (O1.frozen (p := ⟨b, o, none⟩) (block_lt_of_cell HC.out) (by simpa using hbg)).trans HF.out
      have hlt := block_lt_of_cell ca
      simp only at hlt
      have HQ : Hid (∃ W A' c', w1.setCell ⟨b, o, none⟩ (.int .i64 (tv r)) = W.setCell ⟨b, o, none⟩ (.int .i64 (tv r)) ∧ Rd W g kb A' c' (tk r).1 (tk r).2 ∧ Only [g] wr W) := ⟨w1, A1, c1, rfl, R1, O1⟩
      clear R1 O1
      go_wp2_with fail
      go_roundw
      case rel => exact .inr ⟨by go_num, HQ.out⟩
      case measure => simp [intOf]
    · go_wp2_with fail
      go_end0
      exact ⟨rfl, HW.out⟩
structure RB (w : World) (g kb pb pn : Nat) (cs : Array Value) (A : Option Addr) (k c : Nat) (l : List Int) (cn : Int) (W : World) : Prop where
  bx : Bk W pb 29 cs
  ul : Own W 3 A k c (ivs l)
  uf : ∀ y ∈ blks A, w.heap.size < y
  nn : Bk W pn 3 #[.int .i64 cn]
  nu : pn ∉ blks A
  xc : Bk W w.heap.size 29 zeroC
  on : Only [] w W
  ap : pb ≠ g ∧ pb ≠ kb ∧ pn ≠ g ∧ pn ≠ kb ∧ kb ∉ blks A ∧ w.heap.size < g ∧ w.heap.size < kb ∧ w.heap.size < pb ∧ w.heap.size < pn ∧ g ∉ blks A
structure RP (w : World) (g kb pb pn : Nat) (cs : Array Value) (A : Option Addr) (k c : Nat) (l : List Int) (cn : Int) (s : RS) (W : World) : Prop where
  rd : ∃ Ar cr, Rd W g kb Ar cr s.1 s.2
  rb : RB w g kb pb pn cs A k c l cn W
section
variable {w : World} {g kb pb pn : Nat} {cs : Array Value} {A : Option Addr} {k c : Nat} {l : List Int} {cn : Int} {s s' : RS} {W W' : World}
theorem RB.step (h : RB w g kb pb pn cs A k c l cn W) (o : Only [g] W W') : RB w g kb pb pn cs A k c l cn W' := by
  have ha := h.ap
  refine ⟨h.bx.only o (by simpa using ha.1), h.ul.only o (fun y hy => ?_), h.uf, h.nn.only o (by simpa using ha.2.2.1), h.nu, h.xc.only o (by simp; omega), h.on.trans o (fun y hy => .inr (by simp at hy; omega)), ha⟩
  simp
  rintro rfl
  exact ha.2.2.2.2.2.2.2.2.2 hy
theorem RB.set (h : RB w g kb pb pn cs A k c l cn W) (i : Nat) (u : Value) : RB w g kb pb pn (cs.setIfInBounds i u) A k c l cn (W.setCell ⟨pb, i, none⟩ u) := by
  have o : Only [pb] W (W.setCell ⟨pb, i, none⟩ u) := (Only.refl [pb] W).setCell (.inl (by simp)) _
  have ha := h.ap
  refine ⟨h.bx.set i u, h.ul.only o (fun y hy => ?_), h.uf, h.nn.only o (by simpa using h.nn.ne h.bx (by decide)), h.nu, h.xc.only o (by simp; omega), h.on.setCell (.inr (Nat.le_of_lt ha.2.2.2.2.2.2.2.1)) _, ha⟩
  obtain ⟨cu, q⟩ := h.ul.bk hy
  simpa using q.ne h.bx (by decide)
theorem RB.keep (h : RB w g kb pb pn cs A k c l cn W) (o : Only [] W W') : RB w g kb pb pn cs A k c l cn W' := h.step (o.mono (fun _ hx => nomatch hx))
theorem RP.keep (h : RP w g kb pb pn cs A k c l cn s W) (o : Only [] W W') : RP w g kb pb pn cs A k c l cn s W' := by
  obtain ⟨⟨Ar, cr, r⟩, b⟩ := h
  exact ⟨⟨Ar, cr, r.keep o⟩, b.keep o⟩
theorem RP.set (h : RP w g kb pb pn cs A k c l cn s W) (i : Nat) (u : Value) : RP w g kb pb pn (cs.setIfInBounds i u) A k c l cn s (W.setCell ⟨pb, i, none⟩ u) := by
  have o : Only [pb] W (W.setCell ⟨pb, i, none⟩ u) := (Only.refl [pb] W).setCell (.inl (by simp)) _
  obtain ⟨⟨Ar, cr, r⟩, b⟩ := h
  exact ⟨⟨Ar, cr, r.only o (by simpa using b.ap.1.symm) (by simpa using b.ap.2.1.symm)⟩, b.set i u⟩
theorem RP.num1 (h : RP w g kb pb pn cs A k c l cn s W) (i : Nat) {x z : Int} (hi : cs[i]? = some (.int .i64 x)) (hz : tv s = z) (hs : tk s = s') : Calls Tryz.prog 67 #[.pointer (some ⟨g, 0, none⟩), .slice (some ⟨W.heap.size, 0, none⟩) 1 1] (W.alloc (.cells #[.pointer (some ⟨pb, i, none⟩)] 144)) fun e w' =>
    e = .returned (.tuple #[]) ∧ RP w g kb pb pn (cs.setIfInBounds i (.int .i64 z)) A k c l cn s' w' := by
  have o1 : Only [] W (W.alloc (.cells #[.pointer (some ⟨pb, i, none⟩)] 144)) := (Only.refl [] W).alloc _
  obtain ⟨⟨Ar, cr, r⟩, b⟩ := h
  have b1 := b.keep o1
  refine (rnums1_any (r.keep o1) (Bk.new W _ _) ((b1.bx.cell i).trans hi) (b1.bx.free i) b.ap.1).mono fun e w' ⟨e1, W1, A1, c1, e2, r1, o2⟩ => ?_
  subst e2 hz hs
  exact ⟨e1, (show RP w g kb pb pn cs A k c l cn (tk s) W1 from ⟨⟨A1, c1, r1⟩, b1.step o2⟩).set i _⟩
theorem RP.count (h : RP w g kb pb pn cs A k c l cn s W) {z : Int} (hz : tv s = z) (hs : tk s = s') : Calls Tryz.prog 67 #[.pointer (some ⟨g, 0, none⟩), .slice (some ⟨W.heap.size, 0, none⟩) 1 1] (W.alloc (.cells #[.pointer (some ⟨pn, 0, none⟩)] 144)) fun e w' =>
    e = .returned (.tuple #[]) ∧ RP w g kb pb pn cs A k c l z s' w' := by
  have o1 : Only [] W (W.alloc (.cells #[.pointer (some ⟨pn, 0, none⟩)] 144)) := (Only.refl [] W).alloc _
  obtain ⟨⟨Ar, cr, r⟩, b⟩ := h
  have b1 := b.keep o1
  refine (rnums1_any (r.keep o1) (Bk.new W _ _) (b1.nn.cell 0) (b1.nn.free 0) b.ap.2.2.1).mono fun e w' ⟨e1, W1, A1, c1, e2, r1, o2⟩ => ?_
  subst e2 hz hs
  have b2 := b1.step o2
  have o3 : Only [pn] W1 (W1.setCell ⟨pn, 0, none⟩ (.int .i64 (tv s))) := (Only.refl [pn] W1).setCell (.inl (by simp)) _
  have ha := b.ap
  refine ⟨e1, ⟨A1, c1, r1.only o3 (by simpa using ha.2.2.1.symm) (by simpa using ha.2.2.2.1.symm)⟩, ⟨b2.bx.only o3 (by simpa using (b2.nn.ne b2.bx (by decide)).symm), b2.ul.only o3 (fun y hy => ?_), b.uf, by simpa using b2.nn.set 0 (.int .i64 (tv s)), b.nu, b2.xc.only o3 (by simp; omega), b2.on.setCell (.inr (Nat.le_of_lt ha.2.2.2.2.2.2.2.2.1)) _, ha⟩⟩
  simp
  rintro rfl
  exact b.nu hy
theorem RP.row (h : RP w g kb pb pn cs A k c l cn s W) {y : List UInt8} {z : Nat} (hy : rv s = y) (hz : y.length = z) (hs : rk s = s') : Calls Tryz.prog 72 #[.pointer (some ⟨g, 0, none⟩)] W fun e w' =>
    ∃ P cp, e = .returned (.slice P z cp) ∧ Own w' 5 P z cp (bvs y) ∧ (∀ k ∈ blks P, W.heap.size ≤ k) ∧ RP w g kb pb pn cs A k c l cn s' w' := by
  obtain ⟨⟨Ar, cr, r⟩, b⟩ := h
  subst hz hy hs
  exact (rbytes_any r).mono fun e w' ⟨P, cp, A', c', e1, v1, f1, r', o⟩ => ⟨P, cp, e1, v1, f1, ⟨A', c', r'⟩, b.step o⟩
def FCh (w : World) (g kb pb pn : Nat) (f : Int → Int → Int → Array Value) (A : Option Addr) (k c : Nat) (l : List Int) (cn m fl d : Int) : Nat → World → Prop
  | 0, W => RB w g kb pb pn (f 0 0 0) A k c l cn W
  | 1, W => RB w g kb pb pn (f m 0 0) A k c l cn W
  | 2, W => RB w g kb pb pn (f m fl 0) A k c l cn W
  | _, W => RB w g kb pb pn (f m fl d) A k c l cn W
theorem RP.nums3 {f : Int → Int → Int → Array Value} (h : RP w g kb pb pn (f 0 0 0) A k c l cn s W) {m fl d : Int} {q1 q2 q3 : RS} (hf : ∀ a b c, (f a b c)[6]? = some (.int .i64 a) ∧ (f a b c)[7]? = some (.int .i64 b) ∧ (f a b c)[8]? = some (.int .i64 c)) (g6 : ∀ a b c z, (f a b c).setIfInBounds 6 (.int .i64 z) = f z b c) (g7 : ∀ a b c z, (f a b c).setIfInBounds 7 (.int .i64 z) = f a z c) (g8 : ∀ a b c z, (f a b c).setIfInBounds 8 (.int .i64 z) = f a b z)
    (h1 : tv s = m) (e1 : tk s = q1) (h2 : tv q1 = fl) (e2 : tk q1 = q2) (h3 : tv q2 = d) (e3 : tk q2 = q3) :
    Calls Tryz.prog 67 #[.pointer (some ⟨g, 0, none⟩), .slice (some ⟨W.heap.size, 0, none⟩) 3 3] (W.alloc (.cells #[.pointer (some ⟨pb, 6, none⟩), .pointer (some ⟨pb, 7, none⟩), .pointer (some ⟨pb, 8, none⟩)] 144)) fun e w' =>
      e = .returned (.tuple #[]) ∧ RP w g kb pb pn (f m fl d) A k c l cn q3 w' := by
  have o1 : Only [] W (W.alloc (.cells #[.pointer (some ⟨pb, 6, none⟩), .pointer (some ⟨pb, 7, none⟩), .pointer (some ⟨pb, 8, none⟩)] 144)) := (Only.refl [] W).alloc _
  obtain ⟨⟨Ar, cr, r⟩, b⟩ := h
  subst h1 e1 h2 e2 h3 e3
  have lb := b.bx.lt
  refine (rnumsF_any (r := s) [pb] (FCh w g kb pb pn f A k c l cn (tv s) (tv (tk s)) (tv (tk (tk s)))) (r.keep o1) (Bk.new W _ _) ⟨by simp, by simp, by simp⟩ (by simpa using b.ap.1.symm) (by simpa using b.ap.2.1.symm) (by simp; omega) (b.keep o1) (fun j W W' o hF => ?_) (fun W hF => ⟨⟨_, (hF.bx.cell 6).trans (hf _ _ _).1⟩, hF.bx.free 6, ?_⟩) (fun W hF => ⟨⟨_, (hF.bx.cell 7).trans (hf _ _ _).2.1⟩, hF.bx.free 7, ?_⟩) (fun W hF => ⟨⟨_, (hF.bx.cell 8).trans (hf _ _ _).2.2⟩, hF.bx.free 8, ?_⟩)).mono fun e w' ⟨h1, A', c', h2, h3, h4⟩ => ⟨h1, ⟨A', c', h2⟩, h3⟩
  · match j, hF with
    | 0, hF => exact RB.step hF o
    | 1, hF => exact RB.step hF o
    | 2, hF => exact RB.step hF o
    | n + 3, hF => exact RB.step hF o
  · have := RB.set hF 6 (.int .i64 (tv s))
    rwa [g6] at this
  · have := RB.set hF 7 (.int .i64 (tv (tk s)))
    rwa [g7] at this
  · have := RB.set hF 8 (.int .i64 (tv (tk (tk s))))
    rwa [g8] at this
theorem RP.txt (h : RP w g kb pb pn cs A k c l cn s W) {y : List UInt8} {t : ByteArray} (hy : rv s = y) (ht : St y = t) (hs : rk s = s') : Calls Tryz.prog 68 #[.pointer (some ⟨g, 0, none⟩)] W fun e w' =>
    e = .returned (.string t) ∧ RP w g kb pb pn cs A k c l cn s' w' := by
  obtain ⟨z, hz⟩ : ∃ z, y.length = z := ⟨_, rfl⟩
  have HR := Lib.hid (h.row hy hz hs)
  have HC := Lib.hid (fun (V : World) (A' : Option Addr) (c' : Nat) (hs : Sl V A' z (bvs y)) => by
    have hh := str_at hs c'
    rw [ht] at hh
    exact hh)
  clear h hy hz hs ht
  go_enter Tryz.func68, Tryz.ntmps68
  go_wp2_with (go_at_call 72; go_must (refine HR.out.mono ?_); rintro e w2 ⟨P, cp, rfl, V2, F2, R2⟩; have cv := HC.out w2 P cp V2.sl)
  go_ret
  exact ⟨rfl, R2⟩
end
def chN (pb : Nat) (W : World) : Nat := match W.cell? ⟨pb, 5, none⟩ with
  | some (.slice _ n _) => n
  | _ => 0
def DecP (w0 : World) (g kb pb : Nat) (cs : Value → Array Value) (Ar : Option Addr) (cr : Nat) (s : RS) (A : Option Addr) (k c : Nat) (l : List Int) (v : Int) (L : Nat → Bool) (vs : Nat → Value) (w : World) : Prop :=
  Only (g :: pb :: blks A) w0 w ∧ ((L 4 = true → L 3 = true) ∧ (L 5 = true → L 1 = true ∧ L 4 = true) ∧ (L 7 = true → L 5 = true)) ∧
  ((L 3 = false → Rd w g kb Ar cr s.1 s.2) ∧ (L 3 = true → vs 3 = .int .i64 v ∧ ∃ A' c', Rd w g kb A' c' (tk s).1 (tk s).2)) ∧
  (L 7 = false → Bk w pb 29 (cs (.slice A k c))) ∧
  (L 5 = false → Own w 3 A k c (ivs l) ∧ (L 4 = true → ∃ k4, vs 4 = .slice (some ⟨k4, 0, none⟩) 1 1 ∧ Bk w k4 3 #[.int .i64 v])) ∧
  (L 5 = true → ∃ A' c', vs 5 = .slice A' (k + 1) c' ∧ Own w 3 A' (k + 1) c' (ivs (l ++ [v])) ∧ (∀ y ∈ blks A', y ∈ blks A ∨ w0.heap.size ≤ y) ∧ (L 7 = true → Bk w pb 29 (cs (.slice A' (k + 1) c'))))
section
variable {w0 w w' : World} {g kb pb : Nat} {cs : Value → Array Value} {Ar : Option Addr} {cr : Nat} {s : RS} {A : Option Addr} {k c : Nat} {l : List Int} {v : Int} {L : Nat → Bool} {vs : Nat → Value}
theorem DecP.start (h1 : Rd w0 g kb Ar cr s.1 s.2) (h2 : Bk w0 pb 29 (cs (.slice A k c))) (h3 : Own w0 3 A k c (ivs l)) (vs : Nat → Value) : DecP w0 g kb pb cs Ar cr s A k c l v (fun _ => false) vs w0.drew := by
  have o : Only [] w0 w0.drew := (Only.refl [] w0).drew
  exact ⟨(Only.refl _ w0).drew, ⟨(fun e => by cases e), (fun e => by cases e), fun e => by cases e⟩, ⟨fun _ => h1.keep o, fun e => by cases e⟩, fun _ => h2.only o (by simp), fun _ => ⟨h3.keep o, fun e => by cases e⟩, fun e => by cases e⟩
theorem DecP.pure {j : Nat} (h : DecP w0 g kb pb cs Ar cr s A k c l v L vs w) (hj : 3 ≠ j ∧ 4 ≠ j ∧ 5 ≠ j ∧ 7 ≠ j) : DecP w0 g kb pb cs Ar cr s A k c l v (updN L j true) vs w := by
  obtain ⟨h0, ⟨a, b, d⟩, h2, h3, h4, h5⟩ := h
  unfold DecP
  simp only [updN_ne _ _ hj.1, updN_ne _ _ hj.2.1, updN_ne _ _ hj.2.2.1, updN_ne _ _ hj.2.2.2]
  refine ⟨h0, ⟨a, fun e => ⟨?_, (b e).2⟩, d⟩, h2, h3, h4, h5⟩
  by_cases hj1 : j = 1
  · subst hj1
    exact updN_self _ _ _
  · rw [updN_ne _ _ (fun e => hj1 e.symm)]
    exact (b e).1
theorem DecP.load (h : DecP w0 g kb pb cs Ar cr s A k c l v L vs w) (hL : L 1 = false) : Bk w pb 29 (cs (.slice A k c)) := by
  refine h.2.2.2.1 ?_
  cases e : L 7 with
  | false => rfl
  | true =>
    have := (h.2.1.2.1 (h.2.1.2.2 e)).1
    rw [hL] at this
    cases this
theorem DecP.no (h : DecP w0 g kb pb cs Ar cr s A k c l v L vs w) : (L 3 = false → L 4 = false) ∧ (L 4 = false → L 5 = false) ∧ (L 5 = false → L 7 = false) :=
  ⟨no_of h.2.1.1, no_of (fun e => (h.2.1.2.1 e).2), no_of h.2.1.2.2⟩
theorem DecP.took {e : Ending} (h : DecP w0 g kb pb cs Ar cr s A k c l v L vs w) (hL : L 3 = false) (hp : pb ≠ g) (ht : TookNum w g kb (takeV s.1 s.2) (takeBad s.1 s.2) (takeRest s.1 s.2) e w') (hv : tv s = v) : ∃ u, e = .returned u ∧ DecP w0 g kb pb cs Ar cr s A k c l v (updN L 3 true) (updN vs 3 u) w' := by
  obtain ⟨e1, A', c', e4, e5⟩ := ht
  have l4 := h.no.1 hL
  have l5 := h.no.2.1 l4
  have l7 := h.no.2.2 l5
  have hr := h.2.2.1.1 hL
  obtain ⟨h0, ⟨a, b, d⟩, h2, h3, h4, h5⟩ := h
  refine ⟨_, e1, ?_⟩
  unfold DecP
  simp only [updN_self, updN_ne _ _ (show (1 : Nat) ≠ 3 by decide), updN_ne _ _ (show (4 : Nat) ≠ 3 by decide), updN_ne _ _ (show (5 : Nat) ≠ 3 by decide), updN_ne _ _ (show (7 : Nat) ≠ 3 by decide)]
  refine ⟨h0.trans e5 (fun y hy => .inl (by simp at hy; simp [hy])), ⟨fun _ => trivial, b, d⟩, ⟨(fun e => by cases e), fun _ => ⟨by rw [← hv]; rfl, A', c', e4⟩⟩, fun e => (h3 e).only e5 (by simpa using hp), fun e => ⟨(h4 e).1.only e5 (fun y hy => ?_), fun e => by rw [l4] at e; cases e⟩, fun e => by rw [l5] at e; cases e⟩
  obtain ⟨cu, q⟩ := (h4 e).1.bk hy
  simpa using q.ne hr.bk (by decide)
theorem DecP.laid (h : DecP w0 g kb pb cs Ar cr s A k c l v L vs w) (hL : L 4 = false) (h3t : L 3 = true) : vs 3 = .int .i64 v ∧ DecP w0 g kb pb cs Ar cr s A k c l v (updN L 4 true) (updN vs 4 (.slice (some ⟨w.heap.size, 0, none⟩) 1 1)) (w.alloc (.cells #[.int .i64 v] 3)) := by
  have l5 := h.no.2.1 hL
  obtain ⟨h0, ⟨a, b, d⟩, h2, h3, h4, h5⟩ := h
  have o : Only [] w (w.alloc (.cells #[.int .i64 v] 3)) := (Only.refl [] w).alloc _
  refine ⟨(h2.2 h3t).1, ?_⟩
  unfold DecP
  simp only [updN_self, updN_ne _ _ (show (1 : Nat) ≠ 4 by decide), updN_ne _ _ (show (3 : Nat) ≠ 4 by decide), updN_ne _ _ (show (5 : Nat) ≠ 4 by decide), updN_ne _ _ (show (7 : Nat) ≠ 4 by decide)]
  exact ⟨h0.then o, ⟨fun _ => h3t, (fun e => by rw [l5] at e; cases e), d⟩, ⟨(fun e => by rw [h3t] at e; cases e), fun e => by obtain ⟨q, A', c', r⟩ := h2.2 e; exact ⟨q, A', c', r.keep o⟩⟩, fun e => (h3 e).only o (by simp), fun e => ⟨(h4 e).1.keep o, fun _ => ⟨_, rfl, Bk.new w _ _⟩⟩, fun e => by rw [l5] at e; cases e⟩
theorem DecP.more {A' : Option Addr} {c' : Nat} (h : DecP w0 g kb pb cs Ar cr s A k c l v L vs w) (hL : L 5 = false) (h1t : L 1 = true) (h4t : L 4 = true) (hkb : kb ∉ blks A) (o : Only (blks A) w w') (hM : Own w' 3 A' (k + 1) c' (ivs (l ++ [v]))) (hf : ∀ y ∈ blks A', y ∈ blks A ∨ w.heap.size ≤ y) :
    DecP w0 g kb pb cs Ar cr s A k c l v (updN L 5 true) (updN vs 5 (.slice A' (k + 1) c')) w' := by
  have l7 := h.no.2.2 hL
  have h3t := h.2.1.1 h4t
  have hz := h.1.size
  obtain ⟨h0, ⟨a, b, d⟩, h2, h3, h4, h5⟩ := h
  have hO := (h4 hL).1
  have hgA : ∀ {p : Nat} {t : TypeId} {cc : Array Value}, Bk w p t cc → t ≠ 3 → p ∉ blks A := fun hb ht hm => by
    obtain ⟨cu, q⟩ := hO.bk hm
    exact hb.ne q ht rfl
  unfold DecP
  simp only [updN_self, updN_ne _ _ (show (1 : Nat) ≠ 5 by decide), updN_ne _ _ (show (3 : Nat) ≠ 5 by decide), updN_ne _ _ (show (4 : Nat) ≠ 5 by decide), updN_ne _ _ (show (7 : Nat) ≠ 5 by decide)]
  refine ⟨h0.trans o (fun y hy => .inl (by simp [hy])), ⟨a, fun _ => ⟨h1t, h4t⟩, fun _ => trivial⟩, ⟨(fun e => by rw [h3t] at e; cases e), fun e => ?_⟩, fun e => (h3 e).only o (hgA (h3 e) (by decide)), (fun e => by cases e), fun _ => ⟨A', c', rfl, hM, fun y hy => (hf y hy).imp id (fun q => by omega), fun e => by rw [l7] at e; cases e⟩⟩
  obtain ⟨q, A2, c2, r⟩ := h2.2 e
  exact ⟨q, A2, c2, r.only o (hgA r.bk (by decide)) hkb⟩
theorem DecP.store (h : DecP w0 g kb pb cs Ar cr s A k c l v L vs w) (hL : L 7 = false) (h5t : L 5 = true) (hpg : pb ≠ g) (hpk : pb ≠ kb) (hcs : ∀ a b, (cs a).setIfInBounds 5 b = cs b) {u : Value} :
    ∃ A' c', vs 5 = .slice A' (k + 1) c' ∧ Bk w pb 29 (cs (.slice A k c)) ∧ DecP w0 g kb pb cs Ar cr s A k c l v (updN L 7 true) (updN vs 7 u) (w.setCell ⟨pb, 5, none⟩ (.slice A' (k + 1) c')) := by
  have h3t := h.2.1.1 (h.2.1.2.1 h5t).2
  obtain ⟨h0, ⟨a, b, d⟩, h2, h3, h4, h5⟩ := h
  obtain ⟨A', c', e1, e2, e3, _⟩ := h5 h5t
  have o : Only [pb] w (w.setCell ⟨pb, 5, none⟩ (.slice A' (k + 1) c')) := (Only.refl [pb] w).setCell (.inl (by simp)) _
  refine ⟨A', c', e1, h3 hL, ?_⟩
  unfold DecP
  simp only [updN_self, updN_ne _ _ (show (1 : Nat) ≠ 7 by decide), updN_ne _ _ (show (3 : Nat) ≠ 7 by decide), updN_ne _ _ (show (4 : Nat) ≠ 7 by decide), updN_ne _ _ (show (5 : Nat) ≠ 7 by decide)]
  refine ⟨h0.trans o (fun y hy => .inl (by simp at hy; simp [hy])), ⟨a, b, fun _ => h5t⟩, ⟨(fun e => by rw [h3t] at e; cases e), fun e => ?_⟩, (fun e => by cases e), (fun e => by rw [h5t] at e; cases e), fun _ => ⟨A', c', e1, e2.only o (fun y hy => ?_), e3, fun _ => by rw [← hcs (.slice A k c)]; exact (h3 hL).set 5 _⟩⟩
  · obtain ⟨q, A2, c2, r⟩ := h2.2 e
    exact ⟨q, A2, c2, r.only o (by simpa using hpg.symm) (by simpa using hpk.symm)⟩
  · obtain ⟨cu, q⟩ := e2.bk hy
    simpa using q.ne (h3 hL) (by decide)
theorem DecP.end_ (h : DecP w0 g kb pb cs Ar cr s A k c l v L vs w) (h3 : L 3 = true) (h5 : L 5 = true) (h7 : L 7 = true) :
    ∃ A' c' A2 c2, vs 5 = .slice A' (k + 1) c' ∧ Rd w g kb A2 c2 (tk s).1 (tk s).2 ∧ Bk w pb 29 (cs (.slice A' (k + 1) c')) ∧ Own w 3 A' (k + 1) c' (ivs (l ++ [v])) ∧ (∀ y ∈ blks A', y ∈ blks A ∨ w0.heap.size ≤ y) ∧ Only (g :: pb :: blks A) w0 w := by
  obtain ⟨_, A2, c2, r⟩ := h.2.2.1.2 h3
  obtain ⟨A', c', e1, e2, e3, e4⟩ := h.2.2.2.2.2 h5
  exact ⟨A', c', A2, c2, e1, r, e4 h7, e2, e3, h.1⟩
end
end Go.Proofs.YtgnilldcfpgpaaaGreatDoor
namespace Go.Proofs.YtgnilldcfpgpaaaGreatDoor
open Go.RowKit Go.Instr
def DecPA (w : World) (p : List UInt8) (e : Ending) (w' : World) : Prop :=
  ∃ c A ca B cb q, e = .returned (.tuple #[chv c A ca B cb, .int .i64 q]) ∧ ((chO p = some c ∧ q = 0) ∨ (chO p = none ∧ c = zeroCh ∧ q = 3)) ∧ Sl w' A c.uids.length (ivs c.uids) ∧ Sl w' B c.body.length (bvs c.body) ∧ Only [] w w' ∧ (∀ y ∈ blks A, w.heap.size ≤ y) ∧ ∀ y ∈ blks B, w.heap.size ≤ y
def RPK (w : World) (g kb pb pn : Nat) (f : Value → Array Value) (cn : Int) (s0 : RS) (W : World) : Prop :=
  ∃ (k : Nat) (A : Option Addr) (c : Nat), RP w g kb pb pn (f (.slice A k c)) A k c (takeU k s0) cn (restU k s0) W ∧ (k : Int) ≤ cn
theorem chN_bk {pb : Nat} {W : World} {t : TypeId} {a0 a1 a2 a3 a4 a6 a7 a8 a9 : Value} {A : Option Addr} {n d : Nat} (h : Bk W pb t #[a0, a1, a2, a3, a4, .slice A n d, a6, a7, a8, a9]) : chN pb W = n := by
  have h5 := (bk_ten h).2.2.2.2.2.1
  unfold chN
  rw [h5]
theorem whole_bad (s : RS) (h : s.1 = true) : wholeS (rk (tk (tk (tk s)))) = false := by
  cases e : (rk (tk (tk (tk s)))).1 with
  | true => unfold wholeS; rw [e]; rfl
  | false =>
    have := tk_bad (tk_bad (tk_bad (rk_bad e)))
    rw [h] at this
    cases this
set_option maxRecDepth 100000 in
set_option maxHeartbeats 1000000 in
theorem DecodeC_any {w : World} {P : Option Addr} {n cp : Nat} {ps : List UInt8} (h : Sl w P n (bvs ps)) (hn : n ≤ 1000000000000) (hT : TabN w) (hpos : 0 < w.heap.size) :
    Calls Tryz.prog 28 #[.slice P n cp] w (DecPA w ps) := by
  have o0 : Only [] w (w.alloc (.cells zeroC 29)) := (Only.refl [] w).alloc _
  have HNR := Lib.hid (newReader_any _ P n cp ps (h.keep o0) hn)
  have HX0 := Lib.hid (Bk.new w 29 zeroC)
  have HO0 := Lib.hid o0
  have HTB := Lib.hid (fun (W : World) (o : Only [] w W) => hT.keep o)
  have HPS := Lib.hid (fun (W : World) (o : Only [] w W) => Nat.lt_of_lt_of_le hpos o.size)
  unfold zeroC at HX0 HO0 HNR
  obtain ⟨v0, hv0⟩ : ∃ v, tv (false, ps) = v := ⟨_, rfl⟩
  obtain ⟨s1, hs1⟩ : ∃ q, tk (false, ps) = q := ⟨_, rfl⟩
  obtain ⟨us, hus⟩ : ∃ y, rv s1 = y := ⟨_, rfl⟩
  obtain ⟨tu, htu⟩ : ∃ t, St us = t := ⟨_, rfl⟩
  obtain ⟨s2, hs2⟩ : ∃ q, rk s1 = q := ⟨_, rfl⟩
  obtain ⟨pw, hpw⟩ : ∃ y, rv s2 = y := ⟨_, rfl⟩
  obtain ⟨tp, htp⟩ : ∃ t, St pw = t := ⟨_, rfl⟩
  obtain ⟨s3, hs3⟩ : ∃ q, rk s2 = q := ⟨_, rfl⟩
  obtain ⟨bx, hbx⟩ : ∃ y, rv s3 = y := ⟨_, rfl⟩
  obtain ⟨tb, htb⟩ : ∃ t, St bx = t := ⟨_, rfl⟩
  obtain ⟨s4, hs4⟩ : ∃ q, rk s3 = q := ⟨_, rfl⟩
  obtain ⟨to, hto⟩ : ∃ y, rv s4 = y := ⟨_, rfl⟩
  obtain ⟨tt, htt⟩ : ∃ t, St to = t := ⟨_, rfl⟩
  obtain ⟨s5, hs5⟩ : ∃ q, rk s4 = q := ⟨_, rfl⟩
  obtain ⟨v1, hv1⟩ : ∃ v, tv s5 = v := ⟨_, rfl⟩
  obtain ⟨s6, hs6⟩ : ∃ q, tk s5 = q := ⟨_, rfl⟩
  have HB6 : Hid (cs6 ps = s6) := by show _ = _; rw [← hs6, ← hs5, ← hs4, ← hs3, ← hs2, ← hs1]; rfl
  have HCN : Hid (ccnt ps = v1) := by show _ = _; rw [← hv1, ← hs5, ← hs4, ← hs3, ← hs2, ← hs1]; rfl
  have HCH : Hid (∀ k, chOf ps k = ⟨v0, us, pw, bx, to, takeU k (cs6 ps), tv (cs7 ps k), tv (cs8 ps k), tv (cs9 ps k), rv (cs10 ps k)⟩) := fun k => by
    rw [← hv0, ← hus, ← hpw, ← hbx, ← hto, ← hs4, ← hs3, ← hs2, ← hs1]; rfl
  have HK1 : Hid (∀ (W : World) (g kb pb pn z : Nat), W.heap.size = z → RP w g kb pb pn #[.int .i64 0, .string ⟨#[]⟩, .string ⟨#[]⟩, .string ⟨#[]⟩, .string ⟨#[]⟩, .slice none 0 0, .int .i64 0, .int .i64 0, .int .i64 0, .slice none 0 0] none 0 0 [] 0 (false, ps) W → Calls Tryz.prog 67 #[.pointer (some ⟨g, 0, none⟩), .slice (some ⟨z, 0, none⟩) 1 1] (W.alloc (.cells #[.pointer (some ⟨pb, 0, none⟩)] 144)) fun e w' => e = .returned (.tuple #[]) ∧ RP w g kb pb pn #[.int .i64 v0, .string ⟨#[]⟩, .string ⟨#[]⟩, .string ⟨#[]⟩, .string ⟨#[]⟩, .slice none 0 0, .int .i64 0, .int .i64 0, .int .i64 0, .slice none 0 0] none 0 0 [] 0 s1 w') := fun W g kb pb pn z hz hr => by
    subst hz
    exact (hr.num1 0 rfl hv0 hs1).mono fun e w' hh => ⟨hh.1, by simpa using hh.2⟩
  have HT1 := Lib.hid (fun (W : World) (g kb pb pn : Nat) (hr : RP w g kb pb pn #[.int .i64 v0, .string ⟨#[]⟩, .string ⟨#[]⟩, .string ⟨#[]⟩, .string ⟨#[]⟩, .slice none 0 0, .int .i64 0, .int .i64 0, .int .i64 0, .slice none 0 0] none 0 0 [] 0 s1 W) => hr.txt hus htu hs2)
  have HT2 := Lib.hid (fun (W : World) (g kb pb pn : Nat) (hr : RP w g kb pb pn #[.int .i64 v0, .string ⟨#[]⟩, .string ⟨#[]⟩, .string ⟨#[]⟩, .string ⟨#[]⟩, .slice none 0 0, .int .i64 0, .int .i64 0, .int .i64 0, .slice none 0 0] none 0 0 [] 0 s2 W) => hr.txt hpw htp hs3)
  have HT3 := Lib.hid (fun (W : World) (g kb pb pn : Nat) (hr : RP w g kb pb pn #[.int .i64 v0, .string ⟨#[]⟩, .string ⟨#[]⟩, .string ⟨#[]⟩, .string ⟨#[]⟩, .slice none 0 0, .int .i64 0, .int .i64 0, .int .i64 0, .slice none 0 0] none 0 0 [] 0 s3 W) => hr.txt hbx htb hs4)
  have HT4 := Lib.hid (fun (W : World) (g kb pb pn : Nat) (hr : RP w g kb pb pn #[.int .i64 v0, .string ⟨#[]⟩, .string ⟨#[]⟩, .string ⟨#[]⟩, .string ⟨#[]⟩, .slice none 0 0, .int .i64 0, .int .i64 0, .int .i64 0, .slice none 0 0] none 0 0 [] 0 s4 W) => hr.txt hto htt hs5)
  have HST : Hid (∀ (W : World) (g kb pb pn : Nat), RP w g kb pb pn #[.int .i64 v0, .string ⟨#[]⟩, .string ⟨#[]⟩, .string ⟨#[]⟩, .string ⟨#[]⟩, .slice none 0 0, .int .i64 0, .int .i64 0, .int .i64 0, .slice none 0 0] none 0 0 [] 0 s5 W → RP w g kb pb pn #[.int .i64 v0, .string tu, .string tp, .string tb, .string tt, .slice none 0 0, .int .i64 0, .int .i64 0, .int .i64 0, .slice none 0 0] none 0 0 [] 0 s5 ((((W.setCell ⟨pb, 1, none⟩ (.string tu)).setCell ⟨pb, 2, none⟩ (.string tp)).setCell ⟨pb, 3, none⟩ (.string tb)).setCell ⟨pb, 4, none⟩ (.string tt))) := fun W g kb pb pn hr => by simpa using (((hr.set 1 (.string tu)).set 2 (.string tp)).set 3 (.string tb)).set 4 (.string tt)
  have HN5 := Lib.hid (fun (W : World) (g kb pb pn z : Nat) (hz : W.heap.size = z) (hr : RP w g kb pb pn #[.int .i64 v0, .string tu, .string tp, .string tb, .string tt, .slice none 0 0, .int .i64 0, .int .i64 0, .int .i64 0, .slice none 0 0] none 0 0 [] 0 s5 W) => by
    have hh := hr.count hv1 hs6
    rw [hz] at hh
    exact hh)
  have hv1p : 0 ≤ v1 := by rw [← hv1]; unfold tv; omega
  have HTU := Lib.hid htu
  have HTA := Lib.hid htp
  have HTBX := Lib.hid htb
  have HTT := Lib.hid htt
  clear h o0 hv0 hs1 hv1 hs6 hT hpos hus htu hs2 hpw htp hs3 hbx htb hs4 hto htt hs5
  go_enter Tryz.func28, Tryz.ntmps28
  by_cases h24 : 24 < v1
  · have HD : Hid (chO ps = none) := by show _ = _; unfold chO; rw [if_pos (by rw [HCN.out]; exact h24)]
    go_wp2_with (first
        | (go_at_call 69; go_must (refine (bad_any R8).mono ?_); rintro e w9 ⟨rfl, R9, O9⟩; have J9 : RP w g kb w1.heap.size (w1.heap.size + 1) #[.int .i64 v0, .string tu, .string tp, .string tb, .string tt, .slice none 0 0, .int .i64 0, .int .i64 0, .int .i64 0, .slice none 0 0] none 0 0 [] v1 (true, []) w9 := ⟨⟨none, 0, R9⟩, J8.rb.step O9⟩)
        | (go_at_call 67; refine (HN5.out _ g kb w1.heap.size (w1.heap.size + 1) w6.heap.size (by simp) J7).mono ?_; clear HN5; rintro e w8 ⟨rfl, J8⟩; obtain ⟨A8, c8, R8⟩ := J8.rd; have n0 : w8.cell? ⟨w1.heap.size + 1, 0, none⟩ = some (.int .i64 v1) := J8.rb.nn.cell 0)
        | (go_at_call 68; refine (HT4.out _ g kb _ _ J5).mono ?_; clear HT4; rintro e w6 ⟨rfl, J6⟩; have J7 := HST.out _ g kb _ _ J6; obtain ⟨c0, c1, c2, c3, c4, c5, c6, c7, c8, c9⟩ := bk_ten J6.rb.bx; have f1 := J6.rb.bx.free 1; have f2 := J6.rb.bx.free 2; have f3 := J6.rb.bx.free 3; have f4 := J6.rb.bx.free 4; have lb := J6.rb.bx.lt)
        | (go_at_call 68; refine (HT3.out _ g kb _ _ J4).mono ?_; clear HT3; rintro e w5 ⟨rfl, J5⟩)
        | (go_at_call 68; refine (HT2.out _ g kb _ _ J3).mono ?_; clear HT2; rintro e w4 ⟨rfl, J4⟩)
        | (go_at_call 68; refine (HT1.out _ g kb _ _ J2).mono ?_; clear HT1; rintro e w3 ⟨rfl, J3⟩)
        | (go_at_call 67; refine (HK1.out _ g kb w1.heap.size (w1.heap.size + 1) (w1.heap.size + 1 + 1) (by simp) J1).mono ?_; clear HK1; rintro e w2 ⟨rfl, J2⟩)
        | (go_at_call 66; go_must (refine HNR.out.mono ?_); rintro e w1 ⟨g, kb, Ar, cr, rfl, hg, hkb, R1, O1⟩; rw [World.size_alloc] at hg hkb; have hgl := R1.bk.lt; have hkl := R1.lt; have J1 : RP w g kb w1.heap.size (w1.heap.size + 1) #[.int .i64 0, .string ⟨#[]⟩, .string ⟨#[]⟩, .string ⟨#[]⟩, .string ⟨#[]⟩, .slice none 0 0, .int .i64 0, .int .i64 0, .int .i64 0, .slice none 0 0] none 0 0 [] 0 (false, ps) ((w1.alloc (.cells #[.int .i64 0, .string ⟨#[]⟩, .string ⟨#[]⟩, .string ⟨#[]⟩, .string ⟨#[]⟩, .slice none 0 0, .int .i64 0, .int .i64 0, .int .i64 0, .slice none 0 0] 29)).alloc (.cells #[.int .i64 0] 3)) := ⟨⟨Ar, cr, (R1.keep ((Only.refl [] w1).alloc _)).keep ((Only.refl [] _).alloc _)⟩, ⟨(Bk.new w1 _ _).alloc _, Own.nil _ _, (by simp), (by have hh := Bk.new (w1.alloc (.cells #[.int .i64 0, .string ⟨#[]⟩, .string ⟨#[]⟩, .string ⟨#[]⟩, .string ⟨#[]⟩, .slice none 0 0, .int .i64 0, .int .i64 0, .int .i64 0, .slice none 0 0] 29)) 3 #[.int .i64 0]; rw [World.size_alloc] at hh; exact hh), (by simp), ((HX0.out.only O1 (by simp)).alloc _).alloc _, ((HO0.out.then O1).alloc _).alloc _, ⟨by omega, by omega, by omega, by omega, by simp, by omega, by omega, by omega, by omega, by simp⟩⟩⟩))
    have H0 : Hid (RP w g kb w1.heap.size (w1.heap.size + 1) #[.int .i64 v0, .string tu, .string tp, .string tb, .string tt, .slice none 0 0, .int .i64 0, .int .i64 0, .int .i64 0, .slice none 0 0] none 0 0 [] v1 (true, []) w9) := J9
    clear J1 J2 J3 J4 J5 J6 J7 J8 J9 R8 R9 O9 R1 O1 c0 c1 c2 c3 c4 c5 c6 c7 c8 c9 f1 f2 f3 f4 lb n0 hg hkb hgl hkl HNR HX0 HO0 HST
    generalize w1.heap.size + 1 = pn at *
    generalize w1.heap.size = pb at *
    go_loopw [] (fun wr => Hid (RP w g kb pb pn #[.int .i64 v0, .string tu, .string tp, .string tb, .string tt, .slice none 0 0, .int .i64 0, .int .i64 0, .int .i64 0, .slice none 0 0] none 0 0 [] v1 (true, []) wr)) (fun _ => 0)
    case atStart => exact H0.out
    case round =>
      have J := hrel.out
      obtain ⟨Ar, cr, R⟩ := J.rd
      have HG := Lib.hid (good_any R)
      obtain ⟨m, hm⟩ : ∃ u, tv ((true, []) : RS) = u := ⟨_, rfl⟩
      obtain ⟨q1, hq1⟩ : ∃ q, tk ((true, []) : RS) = q := ⟨_, rfl⟩
      obtain ⟨f, hf⟩ : ∃ u, tv q1 = u := ⟨_, rfl⟩
      obtain ⟨q2, hq2⟩ : ∃ q, tk q1 = q := ⟨_, rfl⟩
      obtain ⟨d, hd⟩ : ∃ u, tv q2 = u := ⟨_, rfl⟩
      obtain ⟨q3, hq3⟩ : ∃ q, tk q2 = q := ⟨_, rfl⟩
      obtain ⟨y, hy⟩ : ∃ y, rv q3 = y := ⟨_, rfl⟩
      obtain ⟨z, hz⟩ : ∃ z, y.length = z := ⟨_, rfl⟩
      obtain ⟨q4, hq4⟩ : ∃ q, rk q3 = q := ⟨_, rfl⟩
      obtain ⟨wh, hwh⟩ : ∃ b, wholeS q4 = b := ⟨_, rfl⟩
      have HN6 := Lib.hid ((J).nums3 (f := fun a b c' => #[.int .i64 v0, .string tu, .string tp, .string tb, .string tt, .slice none 0 0, .int .i64 a, .int .i64 b, .int .i64 c', .slice none 0 0]) (fun a b c' => ⟨rfl, rfl, rfl⟩) (fun a b c' z => by simp) (fun a b c' z => by simp) (fun a b c' z => by simp) hm hq1 hf hq2 hd hq3)
      have HR9 := Lib.hid (fun (W : World) (hr : RP w g kb pb pn #[.int .i64 v0, .string tu, .string tp, .string tb, .string tt, .slice none 0 0, .int .i64 m, .int .i64 f, .int .i64 d, .slice none 0 0] none 0 0 [] v1 q3 W) => hr.row hy hz hq4)
      have HWH := Lib.hid (fun (W : World) (Ar : Option Addr) (cr : Nat) (hr : Rd W g kb Ar cr q4.1 q4.2) => by
        have hh := whole_any hr
        have e : (!q4.1 && decide (q4.2 = [])) = wh := hwh
        rw [e] at hh
        exact hh)
      have HZ := Lib.hid hz
      have HJ := Lib.hid (J)
      have HJ11 : Hid (∀ (W : World), RP w g kb pb pn #[.int .i64 v0, .string tu, .string tp, .string tb, .string tt, .slice none 0 0, .int .i64 m, .int .i64 f, .int .i64 d, .slice none 0 0] none 0 0 [] v1 q3 W → w.heap.size < W.heap.size) := fun W hr => hr.rb.xc.lt
      obtain rfl : wh = false := by rw [← hwh, ← hq4, ← hq3, ← hq2, ← hq1]; exact whole_bad _ rfl
      clear hm hq1 hf hq2 hd hq3 hy hz hq4 hwh J R
      go_wp2_with (first
        | (go_at_call 73; refine (HWH.out _ _ _ R13).mono ?_; rintro e w13 ⟨rfl, rfl⟩; have X14 := J13.rb.xc; unfold zeroC at X14; obtain ⟨x0, x1, x2, x3, x4, x5, x6, x7, x8, x9⟩ := bk_ten X14; have xf0 := X14.free 0; have xf1 := X14.free 1; have xf2 := X14.free 2; have xf3 := X14.free 3; have xf4 := X14.free 4; have xf5 := X14.free 5; have xf6 := X14.free 6; have xf7 := X14.free 7; have xf8 := X14.free 8; have xf9 := X14.free 9; have xl := X14.lt)
        | (go_at_call 72; refine (HR9.out _ J11).mono ?_; rintro e w12 ⟨P12, cp12, rfl, V12, F12, K12⟩; have J13 : RP w g kb pb pn #[.int .i64 v0, .string tu, .string tp, .string tb, .string tt, .slice none 0 0, .int .i64 m, .int .i64 f, .int .i64 d, .slice P12 z cp12] none 0 0 [] v1 q4 (w12.setCell ⟨pb, 9, none⟩ (.slice P12 z cp12)) := (by simpa using K12.set 9 (.slice P12 z cp12)); have S13 := V12.only (rs := [pb]) ((Only.refl [pb] w12).setCell (p := ⟨pb, 9, none⟩) (.inl (by simp)) (.slice P12 z cp12)) (fun y hy => (by obtain ⟨cu, q⟩ := V12.bk hy; simpa using q.ne K12.rb.bx (by decide))); have L12 := K12.rb.bx.lt; obtain ⟨A13, c13, R13⟩ := J13.rd; obtain ⟨b0, b1, b2, b3, b4, b5, b6, b7, b8, b9⟩ := bk_ten K12.rb.bx; have bf9 := K12.rb.bx.free 9)
        | (go_at_call 67; refine HN6.out.mono ?_; rintro e w11 ⟨rfl, J11⟩)
        | (go_at_call 70; go_must (refine HG.out.mono ?_); rintro e w10 ⟨rfl, rfl⟩))
      exact ch_ret (s := 2) (u := 3) (by kernel_rfl) w.heap.size (.int .i64 3) rfl rfl (bk_store10 X14 _ _ _ _ _ _ _ _ _ _) ⟨zeroCh, none, 0, none, 0, 3, rfl, .inr ⟨HD.out, rfl, rfl⟩, (Own.nil _ 3).sl, (Own.nil _ 5).sl, only_store10 J13.rb.on (.inr (Nat.le_refl _)) _ _ _ _ _ _ _ _ _ _, (fun _ hy => nomatch hy), fun _ hy => nomatch hy⟩
  · go_wp2_with (first
        | (go_at_call 67; refine (HN5.out _ g kb w1.heap.size (w1.heap.size + 1) w6.heap.size (by simp) J7).mono ?_; clear HN5; rintro e w8 ⟨rfl, J8⟩; obtain ⟨A8, c8, R8⟩ := J8.rd; have n0 : w8.cell? ⟨w1.heap.size + 1, 0, none⟩ = some (.int .i64 v1) := J8.rb.nn.cell 0)
        | (go_at_call 68; refine (HT4.out _ g kb _ _ J5).mono ?_; clear HT4; rintro e w6 ⟨rfl, J6⟩; have J7 := HST.out _ g kb _ _ J6; obtain ⟨c0, c1, c2, c3, c4, c5, c6, c7, c8, c9⟩ := bk_ten J6.rb.bx; have f1 := J6.rb.bx.free 1; have f2 := J6.rb.bx.free 2; have f3 := J6.rb.bx.free 3; have f4 := J6.rb.bx.free 4; have lb := J6.rb.bx.lt)
        | (go_at_call 68; refine (HT3.out _ g kb _ _ J4).mono ?_; clear HT3; rintro e w5 ⟨rfl, J5⟩)
        | (go_at_call 68; refine (HT2.out _ g kb _ _ J3).mono ?_; clear HT2; rintro e w4 ⟨rfl, J4⟩)
        | (go_at_call 68; refine (HT1.out _ g kb _ _ J2).mono ?_; clear HT1; rintro e w3 ⟨rfl, J3⟩)
        | (go_at_call 67; refine (HK1.out _ g kb w1.heap.size (w1.heap.size + 1) (w1.heap.size + 1 + 1) (by simp) J1).mono ?_; clear HK1; rintro e w2 ⟨rfl, J2⟩)
        | (go_at_call 66; go_must (refine HNR.out.mono ?_); rintro e w1 ⟨g, kb, Ar, cr, rfl, hg, hkb, R1, O1⟩; rw [World.size_alloc] at hg hkb; have hgl := R1.bk.lt; have hkl := R1.lt; have J1 : RP w g kb w1.heap.size (w1.heap.size + 1) #[.int .i64 0, .string ⟨#[]⟩, .string ⟨#[]⟩, .string ⟨#[]⟩, .string ⟨#[]⟩, .slice none 0 0, .int .i64 0, .int .i64 0, .int .i64 0, .slice none 0 0] none 0 0 [] 0 (false, ps) ((w1.alloc (.cells #[.int .i64 0, .string ⟨#[]⟩, .string ⟨#[]⟩, .string ⟨#[]⟩, .string ⟨#[]⟩, .slice none 0 0, .int .i64 0, .int .i64 0, .int .i64 0, .slice none 0 0] 29)).alloc (.cells #[.int .i64 0] 3)) := ⟨⟨Ar, cr, (R1.keep ((Only.refl [] w1).alloc _)).keep ((Only.refl [] _).alloc _)⟩, ⟨(Bk.new w1 _ _).alloc _, Own.nil _ _, (by simp), (by have hh := Bk.new (w1.alloc (.cells #[.int .i64 0, .string ⟨#[]⟩, .string ⟨#[]⟩, .string ⟨#[]⟩, .string ⟨#[]⟩, .slice none 0 0, .int .i64 0, .int .i64 0, .int .i64 0, .slice none 0 0] 29)) 3 #[.int .i64 0]; rw [World.size_alloc] at hh; exact hh), (by simp), ((HX0.out.only O1 (by simp)).alloc _).alloc _, ((HO0.out.then O1).alloc _).alloc _, ⟨by omega, by omega, by omega, by omega, by simp, by omega, by omega, by omega, by omega, by simp⟩⟩⟩))
    have H0 : Hid (RPK w g kb w1.heap.size (w1.heap.size + 1) (fun a => #[.int .i64 v0, .string tu, .string tp, .string tb, .string tt, a, .int .i64 0, .int .i64 0, .int .i64 0, .slice none 0 0]) v1 s6 w8) := ⟨0, none, 0, J8, hv1p⟩
    clear J1 J2 J3 J4 J5 J6 J7 J8 R8 R1 O1 c0 c1 c2 c3 c4 c5 c6 c7 c8 c9 f1 f2 f3 f4 lb n0 hg hkb hgl hkl HNR HX0 HO0 HST
    generalize w1.heap.size + 1 = pn at *
    generalize w1.heap.size = pb at *
    obtain ⟨i0, hi, hz0, hz1, hz2⟩ := info_parts infoInt
    go_loopw [] (fun wr => Hid (RPK w g kb pb pn (fun a => #[.int .i64 v0, .string tu, .string tp, .string tb, .string tt, a, .int .i64 0, .int .i64 0, .int .i64 0, .slice none 0 0]) v1 s6 wr)) (fun wr => 25 - chN pb wr)
    case atStart => exact H0.out
    case round =>
      obtain ⟨k, A, c, J, hk⟩ := hrel.out
      obtain ⟨s, hs⟩ : ∃ s, restU k s6 = s := ⟨_, rfl⟩
      obtain ⟨l, hl⟩ : ∃ l, takeU k s6 = l := ⟨_, rfl⟩
      have hlen : l.length = k := by rw [← hl]; have := J.rb.ul.len; simpa [ivs] using this
      rw [hs, hl] at J
      obtain ⟨bd, hbd⟩ : ∃ b, s.1 = b := ⟨_, rfl⟩
      obtain ⟨Ar, cr, R⟩ := J.rd
      have hgd := good_any R
      rw [hbd] at hgd
      have HG := Lib.hid hgd
      have hcn := chN_bk J.rb.bx
      obtain ⟨b0, b1, b2, b3, b4, b5, b6, b7, b8, b9⟩ := bk_ten J.rb.bx
      have n0 : wr.cell? ⟨pn, 0, none⟩ = some (.int .i64 v1) := J.rb.nn.cell 0
      by_cases hgo : (k : Int) < v1 ∧ bd = false
      · obtain ⟨hg1, rfl⟩ := hgo
        have hk24 : k ≤ 24 := by omega
        obtain ⟨u, hu⟩ : ∃ u, tv s = u := ⟨_, rfl⟩
        have HTV := Lib.hid hu
        have hsuc := takeU_succ k s6 (by rw [hs]; exact hbd)
        rw [hs, hl, hu] at hsuc
        have HSUC := Lib.hid hsuc
        have HAP : Hid (pb ≠ g ∧ pb ≠ kb ∧ kb ∉ blks A) := ⟨J.rb.ap.1, J.rb.ap.2.1, J.rb.ap.2.2.2.2.1⟩
        have HJ := Lib.hid J
        have HRR := Lib.hid R
        have HCN0 := Lib.hid hcn
        clear hu hsuc J R hs hl hbd hlen hcn
        go_wp2_with (go_at_call 70; go_must (refine HG.out.mono ?_); rintro e w10 ⟨rfl, rfl⟩)
        apply region_inv (DecP wr g kb pb (fun a => #[.int .i64 v0, .string tu, .string tp, .string tb, .string tt, a, .int .i64 0, .int .i64 0, .int .i64 0, .slice none 0 0]) Ar cr s A k c l u) (by kernel_rfl) (by kernel_rfl) (fun vs => DecP.start HRR.out HJ.out.rb.bx HJ.out.rb.ul vs)
        intro vs
        apply inv_val
        case hw => rfl
        case hI => intro L wS hI; exact hI.pure (by decide)
        case hy => intro L wS hI; skip; first | (go_simp; done) | (go_simp; with_reducible rfl)
        case' hk => skip
        try simp only [Act.put, List.setIfInBounds_toArray, List.set_cons_zero, List.set_cons_succ]
        apply inv_load2
        case hw => rfl
        case hI => intro L wS hI; exact hI.pure (by decide)
        case hy => intro L wS hI hL; have hb : Bk wS pb 29 #[.int .i64 v0, .string tu, .string tp, .string tb, .string tt, .slice A k c, .int .i64 0, .int .i64 0, .int .i64 0, .slice none 0 0] := hI.load hL; have k5 := (bk_ten hb).2.2.2.2.2.1; first | (go_simp; done) | (go_simp; with_reducible rfl)
        case' hk => skip
        try simp only [Act.put, List.setIfInBounds_toArray, List.set_cons_zero, List.set_cons_succ]
        apply inv_val
        case hw => rfl
        case hI => intro L wS hI; exact hI.pure (by decide)
        case hy => intro L wS hI; skip; first | (go_simp; done) | (go_simp; with_reducible rfl)
        case' hk => skip
        try simp only [Act.put, List.setIfInBounds_toArray, List.set_cons_zero, List.set_cons_succ]
        apply inv_op
        case hw => rfl
        case hy =>
          intro L wS hI hL hw
          refine gives_call (f := 71) (args := #[.pointer (some ⟨g, 0, none⟩)]) ?_ ?_
          · first | (go_simp; done) | (go_simp; with_reducible rfl)
          · exact (num_any (hI.2.2.1.1 hL)).mono fun e w' he => by
              obtain ⟨u2, e1, h2⟩ := hI.took hL HAP.out.1 he HTV.out
              exact ⟨u2, e1, h2, trivial⟩
        case' hk => skip
        try simp only [Act.put, List.setIfInBounds_toArray, List.set_cons_zero, List.set_cons_succ]
        apply inv_op
        case hw => rfl
        case hy =>
          intro L wS hI hL hw
          obtain ⟨e3, hh⟩ := hI.laid hL (hw 3 (by kernel_rfl))
          refine gives_value (u := .slice (some ⟨wS.heap.size, 0, none⟩) 1 1) (w' := wS.alloc (.cells #[.int .i64 u] 3)) ?_ hh trivial
          rw [e3]
          first | (go_simp; done) | (go_simp; with_reducible rfl)
        case' hk => skip
        try simp only [Act.put, List.setIfInBounds_toArray, List.set_cons_zero, List.set_cons_succ]
        apply inv_op
        case hw => rfl
        case hy =>
          intro L wS hI hL hw
          have h4 := hw 4 (by kernel_rfl)
          have h1 := hw 1 (by kernel_rfl)
          obtain ⟨O5, hm⟩ := hI.2.2.2.2.1 hL
          obtain ⟨k4, e4, B4⟩ := hm h4
          rw [e4]
          exact gives_append_sl (.tmp 42) (.tmp 45) 26 rfl 3 i0 (.int .i64 0) 8 Tryz.underlying26 hi hz0 hz1 hz2 rfl A k c (ivs l) rfl O5 (some ⟨k4, 0, none⟩) 1 1 [.int .i64 u] rfl (Sl.of_bk B4) (fun x hx => by simp at hx; subst hx; rfl) (by unfold maxLen; omega) (by omega) fun A' c' w' h5 h6 h7 => ⟨hI.more hL h1 h4 HAP.out.2.2 h6 (by simpa [ivs] using h5) h7, trivial⟩
        case' hk => skip
        try simp only [Act.put, List.setIfInBounds_toArray, List.set_cons_zero, List.set_cons_succ]
        apply inv_val
        case hw => rfl
        case hI => intro L wS hI; exact hI.pure (by decide)
        case hy => intro L wS hI; skip; first | (go_simp; done) | (go_simp; with_reducible rfl)
        case' hk => skip
        try simp only [Act.put, List.setIfInBounds_toArray, List.set_cons_zero, List.set_cons_succ]
        apply inv_op
        case hw => rfl
        case hy =>
          intro L wS hI hL hw
          obtain ⟨A', c', e5, hb0, hs⟩ := hI.store hL (hw 5 (by kernel_rfl)) HAP.out.1 HAP.out.2.1 (fun a b => by simp) (u := vs 7)
          have hb : Bk wS pb 29 #[.int .i64 v0, .string tu, .string tp, .string tb, .string tt, .slice A k c, .int .i64 0, .int .i64 0, .int .i64 0, .slice none 0 0] := hb0
          obtain ⟨k0, k1, k2, k3, k4, k5, k6, k7, k8, k9⟩ := bk_ten hb
          have fz5 := hb.free 5
          have hg := hb.lt
          rw [e5]
          refine gives_skip ?_ hs trivial
          go_simp
        case' hk => skip
        try simp only [Act.put]
        refine inv_end ?_
        intro L w8 hall hI
        obtain ⟨A', c', A2, c2, e5, R8, B8, V8, F8, O8⟩ := hI.end_ (hall 3 (by decide)) (hall 5 (by decide)) (hall 7 (by decide))
        clear hall hI
        rw [e5]
        clear e5
        have ha := HJ.out.rb.ap
        have hpl := HJ.out.rb.bx.lt
        have hgl := HRR.out.bk.lt
        have hkl := HRR.out.lt
        have hnl := HJ.out.rb.nn.lt
        have hnb := HJ.out.rb.nn.ne HJ.out.rb.bx (by decide)
        have hnA : w.heap.size ∉ blks A := fun hh => Nat.lt_irrefl _ (HJ.out.rb.uf _ hh)
        have HNX : Hid (RPK w g kb pb pn (fun a => #[.int .i64 v0, .string tu, .string tp, .string tb, .string tt, a, .int .i64 0, .int .i64 0, .int .i64 0, .slice none 0 0]) v1 s6 w8) := by
          refine ⟨k + 1, A', c', ?_, by omega⟩
          rw [HSUC.out.1, HSUC.out.2]
          refine ⟨⟨A2, c2, R8⟩, B8, V8, fun y hy => (F8 y hy).elim (HJ.out.rb.uf y) (fun h => by omega), HJ.out.rb.nn.only O8 (fun hh => ?_), fun hh => ?_, HJ.out.rb.xc.only O8 (fun hh => ?_), HJ.out.rb.on.trans O8 (fun y hy => .inr ?_), ⟨ha.1, ha.2.1, ha.2.2.1, ha.2.2.2.1, fun hh => ?_, ha.2.2.2.2.2.1, ha.2.2.2.2.2.2.1, ha.2.2.2.2.2.2.2.1, ha.2.2.2.2.2.2.2.2.1, fun hh => ?_⟩⟩
          · rcases List.mem_cons.1 hh with hh | hh
            · exact ha.2.2.1 hh
            · rcases List.mem_cons.1 hh with hh | hh
              · exact hnb hh
              · exact HJ.out.rb.nu hh
          · rcases F8 _ hh with h | h
            · exact HJ.out.rb.nu h
            · omega
          · rcases List.mem_cons.1 hh with hh | hh
            · omega
            · rcases List.mem_cons.1 hh with hh | hh
              · omega
              · exact hnA hh
          · simp at hy
            rcases hy with rfl | rfl | hy
            · omega
            · omega
            · have := HJ.out.rb.uf y hy; omega
          · rcases F8 _ hh with h | h
            · exact ha.2.2.2.2.1 h
            · omega
          · rcases F8 _ hh with h | h
            · exact ha.2.2.2.2.2.2.2.2.2 h
            · omega
        have HME : Hid (25 - chN pb w8 < 25 - chN pb wr) := by
          show _ < _
          rw [HCN0.out, chN_bk B8]
          omega
        clear B8 V8 F8 O8 R8 ha hpl hgl hkl hnl hnb hnA
        go_wp2_with fail
        go_roundw
        case rel => exact HNX.out
        case measure => exact HME.out
      · have hno : (k : Int) = v1 ∨ s.1 = true ∨ k = 25 := by
          rw [hbd]
          cases bd
          · simp at hgo
            omega
          · exact .inr (.inl rfl)
        have hs7 : cs7 ps k = s := by unfold cs7; rw [HB6.out]; exact hs
        have hex := chO_ref (p := ps) (k := k) (by rw [HCN.out]; exact hk) (by omega) (by rw [HCN.out, hs7]; exact hno) (by rw [HB6.out, hl]; exact hlen)
        obtain ⟨m, hm⟩ : ∃ u, tv s = u := ⟨_, rfl⟩
        obtain ⟨q1, hq1⟩ : ∃ q, tk s = q := ⟨_, rfl⟩
        obtain ⟨f, hf⟩ : ∃ u, tv q1 = u := ⟨_, rfl⟩
        obtain ⟨q2, hq2⟩ : ∃ q, tk q1 = q := ⟨_, rfl⟩
        obtain ⟨d, hd⟩ : ∃ u, tv q2 = u := ⟨_, rfl⟩
        obtain ⟨q3, hq3⟩ : ∃ q, tk q2 = q := ⟨_, rfl⟩
        obtain ⟨y, hy⟩ : ∃ y, rv q3 = y := ⟨_, rfl⟩
        obtain ⟨z, hz⟩ : ∃ z, y.length = z := ⟨_, rfl⟩
        obtain ⟨q4, hq4⟩ : ∃ q, rk q3 = q := ⟨_, rfl⟩
        obtain ⟨wh, hwh⟩ : ∃ b, wholeS q4 = b := ⟨_, rfl⟩
        have HN6 := Lib.hid ((J).nums3 (f := fun a b c' => #[.int .i64 v0, .string tu, .string tp, .string tb, .string tt, .slice A k c, .int .i64 a, .int .i64 b, .int .i64 c', .slice none 0 0]) (fun a b c' => ⟨rfl, rfl, rfl⟩) (fun a b c' z => by simp) (fun a b c' z => by simp) (fun a b c' z => by simp) hm hq1 hf hq2 hd hq3)
        have HR9 := Lib.hid (fun (W : World) (hr : RP w g kb pb pn #[.int .i64 v0, .string tu, .string tp, .string tb, .string tt, .slice A k c, .int .i64 m, .int .i64 f, .int .i64 d, .slice none 0 0] A k c l v1 q3 W) => hr.row hy hz hq4)
        have HWH := Lib.hid (fun (W : World) (Ar : Option Addr) (cr : Nat) (hr : Rd W g kb Ar cr q4.1 q4.2) => by
          have hh := whole_any hr
          have e : (!q4.1 && decide (q4.2 = [])) = wh := hwh
          rw [e] at hh
          exact hh)
        have HZ := Lib.hid hz
        have HJ := Lib.hid (J)
        have HJ11 : Hid (∀ (W : World), RP w g kb pb pn #[.int .i64 v0, .string tu, .string tp, .string tb, .string tt, .slice A k c, .int .i64 m, .int .i64 f, .int .i64 d, .slice none 0 0] A k c l v1 q3 W → w.heap.size < W.heap.size) := fun W hr => hr.rb.xc.lt
        have hs8 : cs8 ps k = q1 := by unfold cs8; rw [hs7, hq1]
        have hs9 : cs9 ps k = q2 := by unfold cs9; rw [hs8, hq2]
        have hs10 : cs10 ps k = q3 := by unfold cs10; rw [hs9, hq3]
        have hs11 : cs11 ps k = q4 := by unfold cs11; rw [hs10, hq4]
        have hch : chOf ps k = ⟨v0, us, pw, bx, to, l, m, f, d, y⟩ := by rw [HCH.out k, HB6.out, hl, hs7, hm, hs8, hf, hs9, hd, hs10, hy]
        rw [hs11, hch, hwh] at hex
        have hwb : bd = true → wh = false := fun e => by rw [← hwh, ← hq4, ← hq3, ← hq2, ← hq1]; exact whole_bad _ (by rw [hbd]; exact e)
        have HMY0 := fun (W : World) (P : Option Addr) (cp : Nat) (o : Only [] w W) (hU : Sl W A k (ivs l)) => by
          have hh := may_any (w := W) ⟨v0, us, pw, bx, to, l, m, f, d, y⟩ (A := A) (B := P) (ca := c) (cb := cp) (by show Sl _ _ l.length _; rw [hlen]; exact hU) (by show l.length ≤ _; omega) (HTB.out W o) (HPS.out W o)
          unfold chv at hh
          simp only [HTU.out, HTA.out, HTBX.out, HTT.out, hlen, hz] at hh
          exact hh
        have HLL := Lib.hid hlen
        have hkl : bd = true ∨ (bd = false ∧ ¬ (k : Int) < v1) := by
          cases bd
          · simp at hgo ⊢
            omega
          · exact .inl rfl
        obtain ⟨ic, hic⟩ : ∃ b, isC ⟨v0, us, pw, bx, to, l, m, f, d, y⟩ = b := ⟨_, rfl⟩
        rw [hic] at hex HMY0
        have HMY := Lib.hid HMY0
        clear hgo hno hs hl hm hq1 hf hq2 hd hq3 hy hz hq4 hs7 hs8 hs9 hs10 hs11 hch hwh hlen hic HMY0 J R hbd hcn
        rcases hkl with rfl | ⟨rfl, hkl⟩
        · obtain rfl := hwb rfl
          have HD : Hid (chO ps = none) := by
            rcases hex with ⟨h, _⟩ | ⟨_, h⟩
            · cases h
            · exact h
          clear hex hwb
          go_wp2_with (first
            | (go_at_call 73; refine (HWH.out _ _ _ R13).mono ?_; rintro e w13 ⟨rfl, rfl⟩; have X14 := J13.rb.xc; unfold zeroC at X14; obtain ⟨x0, x1, x2, x3, x4, x5, x6, x7, x8, x9⟩ := bk_ten X14; have xf0 := X14.free 0; have xf1 := X14.free 1; have xf2 := X14.free 2; have xf3 := X14.free 3; have xf4 := X14.free 4; have xf5 := X14.free 5; have xf6 := X14.free 6; have xf7 := X14.free 7; have xf8 := X14.free 8; have xf9 := X14.free 9; have xl := X14.lt)
            | (go_at_call 72; refine (HR9.out _ J11).mono ?_; rintro e w12 ⟨P12, cp12, rfl, V12, F12, K12⟩; have J13 : RP w g kb pb pn #[.int .i64 v0, .string tu, .string tp, .string tb, .string tt, .slice A k c, .int .i64 m, .int .i64 f, .int .i64 d, .slice P12 z cp12] A k c l v1 q4 (w12.setCell ⟨pb, 9, none⟩ (.slice P12 z cp12)) := (by simpa using K12.set 9 (.slice P12 z cp12)); have S13 := V12.only (rs := [pb]) ((Only.refl [pb] w12).setCell (p := ⟨pb, 9, none⟩) (.inl (by simp)) (.slice P12 z cp12)) (fun y hy => (by obtain ⟨cu, q⟩ := V12.bk hy; simpa using q.ne K12.rb.bx (by decide))); have L12 := K12.rb.bx.lt; obtain ⟨A13, c13, R13⟩ := J13.rd; obtain ⟨b0, b1, b2, b3, b4, b5, b6, b7, b8, b9⟩ := bk_ten K12.rb.bx; have bf9 := K12.rb.bx.free 9)
            | (go_at_call 67; refine HN6.out.mono ?_; rintro e w11 ⟨rfl, J11⟩)
            | (go_at_call 70; go_must (refine HG.out.mono ?_); rintro e w10 ⟨rfl, rfl⟩))
          exact ch_ret (s := 2) (u := 3) (by kernel_rfl) w.heap.size (.int .i64 3) rfl rfl (bk_store10 X14 _ _ _ _ _ _ _ _ _ _) ⟨zeroCh, none, 0, none, 0, 3, rfl, .inr ⟨HD.out, rfl, rfl⟩, (Own.nil _ 3).sl, (Own.nil _ 5).sl, only_store10 J13.rb.on (.inr (Nat.le_refl _)) _ _ _ _ _ _ _ _ _ _, (fun _ hy => nomatch hy), fun _ hy => nomatch hy⟩
        · clear hwb
          rcases hex with ⟨rfl, rfl, hd1, _⟩ | ⟨hb2, hd1⟩
          · have HD := Lib.hid hd1
            clear hd1
            go_wp2_with (first
              | (go_at_call 58; refine (HMY.out _ P12 cp12 J13.rb.on (J13.rb.ul.sl)).mono ?_; rintro e w14 ⟨rfl, O14⟩; have J14 := J13.keep O14; have X14 := J14.rb.xc; unfold zeroC at X14; obtain ⟨x0, x1, x2, x3, x4, x5, x6, x7, x8, x9⟩ := bk_ten X14; have xf0 := X14.free 0; have xf1 := X14.free 1; have xf2 := X14.free 2; have xf3 := X14.free 3; have xf4 := X14.free 4; have xf5 := X14.free 5; have xf6 := X14.free 6; have xf7 := X14.free 7; have xf8 := X14.free 8; have xf9 := X14.free 9; have xl := X14.lt; clear b0 b1 b2 b3 b4 b5 b6 b7 b8 b9; obtain ⟨b0, b1, b2, b3, b4, b5, b6, b7, b8, b9⟩ := bk_ten J14.rb.bx)
              | (go_at_call 73; refine (HWH.out _ _ _ R13).mono ?_; rintro e w13 ⟨rfl, rfl⟩)
              | (go_at_call 72; refine (HR9.out _ J11).mono ?_; rintro e w12 ⟨P12, cp12, rfl, V12, F12, K12⟩; have J13 : RP w g kb pb pn #[.int .i64 v0, .string tu, .string tp, .string tb, .string tt, .slice A k c, .int .i64 m, .int .i64 f, .int .i64 d, .slice P12 z cp12] A k c l v1 q4 (w12.setCell ⟨pb, 9, none⟩ (.slice P12 z cp12)) := (by simpa using K12.set 9 (.slice P12 z cp12)); have S13 := V12.only (rs := [pb]) ((Only.refl [pb] w12).setCell (p := ⟨pb, 9, none⟩) (.inl (by simp)) (.slice P12 z cp12)) (fun y hy => (by obtain ⟨cu, q⟩ := V12.bk hy; simpa using q.ne K12.rb.bx (by decide))); have L12 := K12.rb.bx.lt; obtain ⟨A13, c13, R13⟩ := J13.rd; obtain ⟨b0, b1, b2, b3, b4, b5, b6, b7, b8, b9⟩ := bk_ten K12.rb.bx; have bf9 := K12.rb.bx.free 9)
              | (go_at_call 67; refine HN6.out.mono ?_; rintro e w11 ⟨rfl, J11⟩)
              | (go_at_call 70; go_must (refine HG.out.mono ?_); rintro e w10 ⟨rfl, rfl⟩))
            have OS := only_store10 (g := w.heap.size) (Only.refl [w.heap.size] w14) (.inl (by simp)) (.int .i64 v0) (.string tu) (.string tp) (.string tb) (.string tt) (.slice A k c) (.int .i64 m) (.int .i64 f) (.int .i64 d) (.slice P12 z cp12)
            have hUA := (J14.rb.ul.only OS (fun y hy => by have := J14.rb.uf y hy; simp; omega)).sl
            have hUB := ((S13.keep O14).only OS (fun y hy => by have := F12 y hy; have := HJ.out.rb.on.size; have := HJ11.out w11 J11; simp; omega)).sl
            exact ch_ret (s := 2) (u := 3) (by kernel_rfl) w.heap.size (.int .i64 0) rfl rfl (bk_store10 X14 _ _ _ _ _ _ _ _ _ _) ⟨⟨v0, us, pw, bx, to, l, m, f, d, y⟩, A, c, P12, cp12, 0, by unfold chv; simp only [HTU.out, HTA.out, HTBX.out, HTT.out, HLL.out, HZ.out], .inl ⟨HD.out, rfl⟩, by show Sl _ A (l).length _; rw [HLL.out]; exact hUA, by show Sl _ P12 y.length _; rw [HZ.out]; exact hUB, only_store10 J14.rb.on (.inr (Nat.le_refl _)) _ _ _ _ _ _ _ _ _ _, fun y hy => Nat.le_of_lt (J14.rb.uf y hy), fun y hy => by have := F12 y hy; have := HJ11.out w11 J11; omega⟩
          · have HD := Lib.hid hd1
            clear hd1
            cases wh
            · clear hb2
              go_wp2_with (first
                | (go_at_call 73; refine (HWH.out _ _ _ R13).mono ?_; rintro e w13 ⟨rfl, rfl⟩; have X14 := J13.rb.xc; unfold zeroC at X14; obtain ⟨x0, x1, x2, x3, x4, x5, x6, x7, x8, x9⟩ := bk_ten X14; have xf0 := X14.free 0; have xf1 := X14.free 1; have xf2 := X14.free 2; have xf3 := X14.free 3; have xf4 := X14.free 4; have xf5 := X14.free 5; have xf6 := X14.free 6; have xf7 := X14.free 7; have xf8 := X14.free 8; have xf9 := X14.free 9; have xl := X14.lt)
                | (go_at_call 72; refine (HR9.out _ J11).mono ?_; rintro e w12 ⟨P12, cp12, rfl, V12, F12, K12⟩; have J13 : RP w g kb pb pn #[.int .i64 v0, .string tu, .string tp, .string tb, .string tt, .slice A k c, .int .i64 m, .int .i64 f, .int .i64 d, .slice P12 z cp12] A k c l v1 q4 (w12.setCell ⟨pb, 9, none⟩ (.slice P12 z cp12)) := (by simpa using K12.set 9 (.slice P12 z cp12)); have S13 := V12.only (rs := [pb]) ((Only.refl [pb] w12).setCell (p := ⟨pb, 9, none⟩) (.inl (by simp)) (.slice P12 z cp12)) (fun y hy => (by obtain ⟨cu, q⟩ := V12.bk hy; simpa using q.ne K12.rb.bx (by decide))); have L12 := K12.rb.bx.lt; obtain ⟨A13, c13, R13⟩ := J13.rd; obtain ⟨b0, b1, b2, b3, b4, b5, b6, b7, b8, b9⟩ := bk_ten K12.rb.bx; have bf9 := K12.rb.bx.free 9)
                | (go_at_call 67; refine HN6.out.mono ?_; rintro e w11 ⟨rfl, J11⟩)
                | (go_at_call 70; go_must (refine HG.out.mono ?_); rintro e w10 ⟨rfl, rfl⟩))
              exact ch_ret (s := 2) (u := 3) (by kernel_rfl) w.heap.size (.int .i64 3) rfl rfl (bk_store10 X14 _ _ _ _ _ _ _ _ _ _) ⟨zeroCh, none, 0, none, 0, 3, rfl, .inr ⟨HD.out, rfl, rfl⟩, (Own.nil _ 3).sl, (Own.nil _ 5).sl, only_store10 J13.rb.on (.inr (Nat.le_refl _)) _ _ _ _ _ _ _ _ _ _, (fun _ hy => nomatch hy), fun _ hy => nomatch hy⟩
            · obtain rfl : ic = false := by simpa using hb2
              clear hb2
              go_wp2_with (first
                | (go_at_call 58; refine (HMY.out _ P12 cp12 J13.rb.on (J13.rb.ul.sl)).mono ?_; rintro e w14 ⟨rfl, O14⟩; have J14 := J13.keep O14; have X14 := J14.rb.xc; unfold zeroC at X14; obtain ⟨x0, x1, x2, x3, x4, x5, x6, x7, x8, x9⟩ := bk_ten X14; have xf0 := X14.free 0; have xf1 := X14.free 1; have xf2 := X14.free 2; have xf3 := X14.free 3; have xf4 := X14.free 4; have xf5 := X14.free 5; have xf6 := X14.free 6; have xf7 := X14.free 7; have xf8 := X14.free 8; have xf9 := X14.free 9; have xl := X14.lt; clear b0 b1 b2 b3 b4 b5 b6 b7 b8 b9; obtain ⟨b0, b1, b2, b3, b4, b5, b6, b7, b8, b9⟩ := bk_ten J14.rb.bx)
                | (go_at_call 73; refine (HWH.out _ _ _ R13).mono ?_; rintro e w13 ⟨rfl, rfl⟩)
                | (go_at_call 72; refine (HR9.out _ J11).mono ?_; rintro e w12 ⟨P12, cp12, rfl, V12, F12, K12⟩; have J13 : RP w g kb pb pn #[.int .i64 v0, .string tu, .string tp, .string tb, .string tt, .slice A k c, .int .i64 m, .int .i64 f, .int .i64 d, .slice P12 z cp12] A k c l v1 q4 (w12.setCell ⟨pb, 9, none⟩ (.slice P12 z cp12)) := (by simpa using K12.set 9 (.slice P12 z cp12)); have S13 := V12.only (rs := [pb]) ((Only.refl [pb] w12).setCell (p := ⟨pb, 9, none⟩) (.inl (by simp)) (.slice P12 z cp12)) (fun y hy => (by obtain ⟨cu, q⟩ := V12.bk hy; simpa using q.ne K12.rb.bx (by decide))); have L12 := K12.rb.bx.lt; obtain ⟨A13, c13, R13⟩ := J13.rd; obtain ⟨b0, b1, b2, b3, b4, b5, b6, b7, b8, b9⟩ := bk_ten K12.rb.bx; have bf9 := K12.rb.bx.free 9)
                | (go_at_call 67; refine HN6.out.mono ?_; rintro e w11 ⟨rfl, J11⟩)
                | (go_at_call 70; go_must (refine HG.out.mono ?_); rintro e w10 ⟨rfl, rfl⟩))
              exact ch_ret (s := 2) (u := 3) (by kernel_rfl) w.heap.size (.int .i64 3) rfl rfl (bk_store10 X14 _ _ _ _ _ _ _ _ _ _) ⟨zeroCh, none, 0, none, 0, 3, rfl, .inr ⟨HD.out, rfl, rfl⟩, (Own.nil _ 3).sl, (Own.nil _ 5).sl, only_store10 J14.rb.on (.inr (Nat.le_refl _)) _ _ _ _ _ _ _ _ _ _, (fun _ hy => nomatch hy), fun _ hy => nomatch hy⟩
end Go.Proofs.YtgnilldcfpgpaaaGreatDoor
