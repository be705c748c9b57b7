/-
  A drawn region in which a call answers a mailbox (and more), which is laid in a new block: what always holds.
-/
import Derived.Test.YthaodlegpjedoaaVCall
namespace Go.Proofs.Ythaodlegpjedoaa
open Go.RowKit Go.Instr

theorem inv_load {P : Program} {ops : Array Oper} {I : (Nat → Bool) → (Nat → Value) → World → Prop} {Q : Exit → Act → World → Prop} {vs : Nat → Value} {pl : List (Option Value)} {o : Oper} {l : List Oper} {k : Nat} {a : Act} (v : Value) (hw : Region.wanted o (yielded ops a.tmps) = true) (hI : ∀ L w, I L vs w → I (updN L k true) vs w) (hy : ∀ L w, I L vs w → L k = false → (execOp a.eval o).run P w = .ok (.value v) w)
    (hk : inv2Walk P ops I Q vs pl l (k + 1) (a.put o.dst v)) : inv2Walk P ops I Q vs (some v :: pl) (o :: l) k a :=
  ⟨fun L w h hl _ => .inl ⟨hw, gives_value (hy L w h hl) ⟨rfl, hI L w h⟩ trivial⟩, hk⟩
/-- What is found at run time: the messages' slice, its capacity, a slice of numbers, its capacity. -/
abbrev XW := Option Addr × Nat × Option Addr × Nat
/-- What is known of it. -/
def KX (n : Nat) (l : List Mg) (ng : Nat) (gl : List Int) (C : Nat → Prop) (w : World) (x : XW) : Prop :=
  Ms C w x.1 n l ∧ Sl w x.2.2.1 ng (ivs gl) ∧ (0 < ng → ∀ ad, x.2.2.1 = some ad → C ad.block)
section
variable {n ng : Nat} {l : List Mg} {gl : List Int} {C C' : Nat → Prop} {w w' : World} {x : XW} {rs : List Nat}
theorem KX.only (h : KX n l ng gl C w x) (o : Only rs w w') (hd : ∀ y, C y → y ∉ rs) : KX n l ng gl C w' x :=
  ⟨h.1.only o hd, h.2.1.only' o (fun hp ad e => hd _ (h.2.2 hp ad e)), h.2.2⟩
theorem KX.keep (h : KX n l ng gl C w x) (o : Only [] w w') : KX n l ng gl C w' x := h.only o (fun _ _ hm => nomatch hm)
theorem KX.mono (h : KX n l ng gl C w x) (hs : ∀ y, C y → C' y) : KX n l ng gl C' w x := ⟨h.1.mono hs, h.2.1, fun hp ad e => hs _ (h.2.2 hp ad e)⟩
theorem KX.lt (h : KX n l ng gl C w x) : KX n l ng gl (fun y => C y ∧ y < w.heap.size) w x := ⟨h.1.lt, h.2.1, fun hp ad e => ⟨h.2.2 hp ad e, h.2.1.lt hp ad e⟩⟩
end
/-- What always holds: ic calls, im moves its answer, ix and iy take its parts, iz hands the second on, ia makes the block, is lays the first part there. -/
def CallX (w0 : World) (C0 : Nat → Prop) (n : Nat) (l : List Mg) (ng : Nat) (gl : List Int) (tup box p2 : XW → Value) (cs : XW → Array Value) (z : Array Value) (ic im ix iy iz ia is : Nat) (L : Nat → Bool) (vs : Nat → Value) (w : World) : Prop :=
  Only [] w0 w ∧ ((L im = true → L ic = true) ∧ (L ix = true → L ic = true) ∧ (L iy = true → L ic = true) ∧ (L iz = true → L ic = true) ∧ (L is = true → L ia = true ∧ L ic = true)) ∧
    (L ia = true → ∃ gn, vs ia = ptr2 gn ∧ w0.heap.size ≤ gn ∧ gn < w.heap.size ∧ (L is = false → Bk w gn 26 z)) ∧
    (L ic = true → ∃ x, vs ic = tup x ∧ (L im = true → vs im = tup x) ∧ (L ix = true → vs ix = box x) ∧ (L iy = true → vs iy = p2 x) ∧ (L iz = true → vs iz = p2 x) ∧ (L is = true → ∃ gn, vs ia = ptr2 gn ∧ Bk w gn 26 (cs x)) ∧
      KX n l ng gl (fun y => C0 y ∧ y < w.heap.size ∧ (L ia = true → vs ia ≠ ptr2 y)) w x)
section
variable {w0 w w' : World} {C0 : Nat → Prop} {n ng : Nat} {l : List Mg} {gl : List Int} {tup box p2 : XW → Value} {cs : XW → Array Value} {z : Array Value} {ic im ix iy iz ia is : Nat} {L : Nat → Bool} {vs : Nat → Value}
theorem CallX.start (vs : Nat → Value) : CallX w0 C0 n l ng gl tup box p2 cs z ic im ix iy iz ia is (fun _ => false) vs w0.drew :=
  ⟨(Only.refl [] w0).drew, ⟨(by simp), (by simp), (by simp), (by simp), (by simp)⟩, (by simp), (by simp)⟩
theorem CallX.pure {k : Nat} (h : CallX w0 C0 n l ng gl tup box p2 cs z ic im ix iy iz ia is L vs w) (hk : ic ≠ k ∧ im ≠ k ∧ ix ≠ k ∧ iy ≠ k ∧ iz ≠ k ∧ ia ≠ k ∧ is ≠ k) : CallX w0 C0 n l ng gl tup box p2 cs z ic im ix iy iz ia is (updN L k true) vs w := by
  obtain ⟨k1, k2, k3, k4, k5, k6, k7⟩ := hk
  unfold CallX at *
  rw [updN_ne _ _ k1, updN_ne _ _ k2, updN_ne _ _ k3, updN_ne _ _ k4, updN_ne _ _ k5, updN_ne _ _ k6, updN_ne _ _ k7]
  exact h
def CallX.cls (C0 : Nat → Prop) (ia : Nat) (L : Nat → Bool) (vs : Nat → Value) (y : Nat) : Prop := C0 y ∧ (L ia = true → vs ia ≠ ptr2 y)
theorem CallX.fresh (h : CallX w0 C0 n l ng gl tup box p2 cs z ic im ix iy iz ia is L vs w) (hS : ∀ y, w0.heap.size ≤ y → C0 y) : ∀ y, w.heap.size ≤ y → CallX.cls C0 ia L vs y := fun y hy => by
  refine ⟨hS y (by have := h.1.size; omega), fun hl e => ?_⟩
  obtain ⟨gn, e2, _, hlt, _⟩ := h.2.2.1 hl
  rw [e2] at e
  have := ptr2_inj e
  omega
theorem CallX.source {A : Option Addr} {m : Nat} {r : List Mg} (h : CallX w0 C0 n l ng gl tup box p2 cs z ic im ix iy iz ia is L vs w) (hM : Ms C0 w0 A m r) : Ms (CallX.cls C0 ia L vs) w A m r :=
  (hM.lt.keep h.1).mono fun y hy => ⟨hy.1, fun hl e => by
    obtain ⟨gn, e2, hg, _, _⟩ := h.2.2.1 hl
    rw [e2] at e
    have := ptr2_inj e
    have := hy.2
    omega⟩
theorem no_of {a b : Bool} (h : a = true → b = true) (hb : b = false) : a = false := by
  cases a
  · rfl
  · rw [h rfl] at hb; cases hb
theorem CallX.call (x : XW) (h : CallX w0 C0 n l ng gl tup box p2 cs z ic im ix iy iz ia is L vs w) (hL : L ic = false) (d : im ≠ ic ∧ ix ≠ ic ∧ iy ≠ ic ∧ iz ≠ ic ∧ ia ≠ ic ∧ is ≠ ic) (hK : KX n l ng gl (CallX.cls C0 ia L vs) w' x) (o : Only [] w w') :
    CallX w0 C0 n l ng gl tup box p2 cs z ic im ix iy iz ia is (updN L ic true) (updN vs ic (tup x)) w' := by
  obtain ⟨h1, ⟨a1, a2, a3, a4, a5⟩, h5, _⟩ := h
  obtain ⟨d1, d2, d3, d4, d5, d6⟩ := d
  have l1 := no_of a1 hL
  have l2 := no_of a2 hL
  have l3 := no_of a3 hL
  have l4 := no_of a4 hL
  have l5 := no_of (fun e => (a5 e).2) hL
  unfold CallX
  rw [updN_self, updN_self, updN_ne _ _ d1, updN_ne _ _ d2, updN_ne _ _ d3, updN_ne _ _ d4, updN_ne _ _ d5, updN_ne _ _ d6, updN_ne _ _ d1, updN_ne _ _ d2, updN_ne _ _ d3, updN_ne _ _ d4, updN_ne _ _ d5, l1, l2, l3, l4, l5]
  refine ⟨h1.then o, ⟨(fun _ => rfl), (fun _ => rfl), (fun _ => rfl), (fun _ => rfl), (fun e => by cases e)⟩, fun hl => ?_, fun _ => ⟨x, rfl, (fun e => by cases e), (fun e => by cases e), (fun e => by cases e), (fun e => by cases e), (fun e => by cases e), ?_⟩⟩
  · obtain ⟨gn, e, hg, hlt, hb⟩ := h5 hl
    exact ⟨gn, e, hg, Nat.lt_of_lt_of_le hlt o.size, fun _ => (hb l5).only o (by simp)⟩
  · exact hK.lt.mono fun y hy => ⟨hy.1.1, hy.2, hy.1.2⟩
theorem CallX.move (h : CallX w0 C0 n l ng gl tup box p2 cs z ic im ix iy iz ia is L vs w) (hl : L ic = true) (d : ic ≠ im ∧ ix ≠ im ∧ iy ≠ im ∧ iz ≠ im ∧ ia ≠ im ∧ is ≠ im) :
    ∃ x, vs ic = tup x ∧ CallX w0 C0 n l ng gl tup box p2 cs z ic im ix iy iz ia is (updN L im true) (updN vs im (tup x)) w := by
  obtain ⟨h1, ⟨a1, a2, a3, a4, a5⟩, h5, h6⟩ := h
  obtain ⟨d1, d2, d3, d4, d5, d6⟩ := d
  obtain ⟨x, e, q1, q2, q3, q4, q5, q6⟩ := h6 hl
  refine ⟨x, e, ?_⟩
  unfold CallX
  rw [updN_self, updN_self, updN_ne _ _ d1, updN_ne _ _ d2, updN_ne _ _ d3, updN_ne _ _ d4, updN_ne _ _ d5, updN_ne _ _ d6, updN_ne _ _ d1, updN_ne _ _ d2, updN_ne _ _ d3, updN_ne _ _ d4, updN_ne _ _ d5]
  exact ⟨h1, ⟨fun _ => hl, a2, a3, a4, a5⟩, h5, fun _ => ⟨x, e, fun _ => rfl, q2, q3, q4, q5, q6⟩⟩
theorem CallX.see (h : CallX w0 C0 n l ng gl tup box p2 cs z ic im ix iy iz ia is L vs w) (hm : L im = true) : ∃ x, vs im = tup x := by
  obtain ⟨x, _, q1, _⟩ := h.2.2.2 (h.2.1.1 hm)
  exact ⟨x, q1 hm⟩
theorem CallX.part (h : CallX w0 C0 n l ng gl tup box p2 cs z ic im ix iy iz ia is L vs w) (hm : L im = true) (d : ic ≠ ix ∧ im ≠ ix ∧ iy ≠ ix ∧ iz ≠ ix ∧ ia ≠ ix ∧ is ≠ ix) :
    ∃ x, vs im = tup x ∧ CallX w0 C0 n l ng gl tup box p2 cs z ic im ix iy iz ia is (updN L ix true) (updN vs ix (box x)) w := by
  have hl := h.2.1.1 hm
  obtain ⟨h1, ⟨a1, a2, a3, a4, a5⟩, h5, h6⟩ := h
  obtain ⟨d1, d2, d3, d4, d5, d6⟩ := d
  obtain ⟨x, e, q1, q2, q3, q4, q5, q6⟩ := h6 hl
  refine ⟨x, q1 hm, ?_⟩
  unfold CallX
  rw [updN_self, updN_self, updN_ne _ _ d1, updN_ne _ _ d2, updN_ne _ _ d3, updN_ne _ _ d4, updN_ne _ _ d5, updN_ne _ _ d6, updN_ne _ _ d1, updN_ne _ _ d2, updN_ne _ _ d3, updN_ne _ _ d4, updN_ne _ _ d5]
  exact ⟨h1, ⟨a1, fun _ => hl, a3, a4, a5⟩, h5, fun _ => ⟨x, e, q1, fun _ => rfl, q3, q4, q5, q6⟩⟩
theorem CallX.second (h : CallX w0 C0 n l ng gl tup box p2 cs z ic im ix iy iz ia is L vs w) (hm : L im = true) (d : ic ≠ iy ∧ im ≠ iy ∧ ix ≠ iy ∧ iz ≠ iy ∧ ia ≠ iy ∧ is ≠ iy) :
    ∃ x, vs im = tup x ∧ CallX w0 C0 n l ng gl tup box p2 cs z ic im ix iy iz ia is (updN L iy true) (updN vs iy (p2 x)) w := by
  have hl := h.2.1.1 hm
  obtain ⟨h1, ⟨a1, a2, a3, a4, a5⟩, h5, h6⟩ := h
  obtain ⟨d1, d2, d3, d4, d5, d6⟩ := d
  obtain ⟨x, e, q1, q2, q3, q4, q5, q6⟩ := h6 hl
  refine ⟨x, q1 hm, ?_⟩
  unfold CallX
  rw [updN_self, updN_self, updN_ne _ _ d1, updN_ne _ _ d2, updN_ne _ _ d3, updN_ne _ _ d4, updN_ne _ _ d5, updN_ne _ _ d6, updN_ne _ _ d1, updN_ne _ _ d2, updN_ne _ _ d3, updN_ne _ _ d4, updN_ne _ _ d5]
  exact ⟨h1, ⟨a1, a2, fun _ => hl, a4, a5⟩, h5, fun _ => ⟨x, e, q1, q2, fun _ => rfl, q4, q5, q6⟩⟩
theorem CallX.hand (h : CallX w0 C0 n l ng gl tup box p2 cs z ic im ix iy iz ia is L vs w) (hy : L iy = true) (d : ic ≠ iz ∧ im ≠ iz ∧ ix ≠ iz ∧ iy ≠ iz ∧ ia ≠ iz ∧ is ≠ iz) :
    ∃ x, vs iy = p2 x ∧ CallX w0 C0 n l ng gl tup box p2 cs z ic im ix iy iz ia is (updN L iz true) (updN vs iz (p2 x)) w := by
  have hl := h.2.1.2.2.1 hy
  obtain ⟨h1, ⟨a1, a2, a3, a4, a5⟩, h5, h6⟩ := h
  obtain ⟨d1, d2, d3, d4, d5, d6⟩ := d
  obtain ⟨x, e, q1, q2, q3, q4, q5, q6⟩ := h6 hl
  refine ⟨x, q3 hy, ?_⟩
  unfold CallX
  rw [updN_self, updN_self, updN_ne _ _ d1, updN_ne _ _ d2, updN_ne _ _ d3, updN_ne _ _ d4, updN_ne _ _ d5, updN_ne _ _ d6, updN_ne _ _ d1, updN_ne _ _ d2, updN_ne _ _ d3, updN_ne _ _ d4, updN_ne _ _ d5]
  exact ⟨h1, ⟨a1, a2, a3, fun _ => hl, a5⟩, h5, fun _ => ⟨x, e, q1, q2, q3, fun _ => rfl, q5, q6⟩⟩
theorem CallX.alloc (h : CallX w0 C0 n l ng gl tup box p2 cs z ic im ix iy iz ia is L vs w) (hL : L ia = false) (d : ic ≠ ia ∧ im ≠ ia ∧ ix ≠ ia ∧ iy ≠ ia ∧ iz ≠ ia ∧ is ≠ ia) :
    CallX w0 C0 n l ng gl tup box p2 cs z ic im ix iy iz ia is (updN L ia true) (updN vs ia (ptr2 w.heap.size)) (w.alloc (.cells z 26)) := by
  obtain ⟨h1, ⟨a1, a2, a3, a4, a5⟩, h5, h6⟩ := h
  obtain ⟨d1, d2, d3, d4, d5, d6⟩ := d
  have ls := no_of (fun e => (a5 e).1) hL
  unfold CallX
  rw [updN_self, updN_self, updN_ne _ _ d1, updN_ne _ _ d2, updN_ne _ _ d3, updN_ne _ _ d4, updN_ne _ _ d5, updN_ne _ _ d6, updN_ne _ _ d1, updN_ne _ _ d2, updN_ne _ _ d3, updN_ne _ _ d4, updN_ne _ _ d5, ls]
  refine ⟨h1.alloc _, ⟨a1, a2, a3, a4, fun e => by cases e⟩, fun _ => ⟨w.heap.size, rfl, h1.size, by simp, fun _ => Bk.new w 26 z⟩, fun hc => ?_⟩
  obtain ⟨x, e, q1, q2, q3, q4, _, q6⟩ := h6 hc
  refine ⟨x, e, q1, q2, q3, q4, (fun e => by cases e), ?_⟩
  refine (q6.keep ((Only.refl [] w).alloc _)).mono fun y hy => ⟨hy.1, by simp; have := hy.2.1; omega, fun _ e => ?_⟩
  have := ptr2_inj e
  have := hy.2.1
  omega
theorem CallX.store (h : CallX w0 C0 n l ng gl tup box p2 cs z ic im ix iy iz ia is L vs w) (hL : L is = false) (ha : L ia = true) (hx : L ix = true) (d : ic ≠ is ∧ im ≠ is ∧ ix ≠ is ∧ iy ≠ is ∧ iz ≠ is ∧ ia ≠ is) :
    ∃ gn x, vs ia = ptr2 gn ∧ vs ix = box x ∧ Bk w gn 26 z ∧ ∀ u w', Only [gn] w w' → Bk w' gn 26 (cs x) → CallX w0 C0 n l ng gl tup box p2 cs z ic im ix iy iz ia is (updN L is true) (updN vs is u) w' := by
  have hl := h.2.1.2.1 hx
  obtain ⟨h1, ⟨a1, a2, a3, a4, a5⟩, h5, h6⟩ := h
  obtain ⟨d1, d2, d3, d4, d5, d6⟩ := d
  obtain ⟨gn, eg, hg, hlt, hb⟩ := h5 ha
  obtain ⟨x, e, q1, q2, q3, q4, _, q6⟩ := h6 hl
  refine ⟨gn, x, eg, q2 hx, hb hL, fun u w' ho hs => ?_⟩
  unfold CallX
  rw [updN_self, updN_ne _ _ d1, updN_ne _ _ d2, updN_ne _ _ d3, updN_ne _ _ d4, updN_ne _ _ d5, updN_ne _ _ d6, updN_ne _ _ d1, updN_ne _ _ d2, updN_ne _ _ d3, updN_ne _ _ d4, updN_ne _ _ d5, updN_ne _ _ d6]
  refine ⟨h1.trans ho (fun q hq => .inr (by simp at hq; omega)), ⟨a1, a2, a3, a4, fun _ => ⟨ha, hl⟩⟩, fun _ => ⟨gn, eg, hg, Nat.lt_of_lt_of_le hlt ho.size, fun q => by cases q⟩, fun hc => ⟨x, e, q1, q2, q3, q4, fun _ => ⟨gn, eg, hs⟩, ?_⟩⟩
  refine (q6.only ho fun y hy hm => ?_).mono fun y hy => ⟨hy.1, Nat.lt_of_lt_of_le hy.2.1 ho.size, hy.2.2⟩
  simp at hm
  subst hm
  exact hy.2.2 ha eg
theorem CallX.end_ (h : CallX w0 C0 n l ng gl tup box p2 cs z ic im ix iy iz ia is L vs w) (hall : L ic = true ∧ L im = true ∧ L ix = true ∧ L ia = true ∧ L is = true) :
    ∃ x gn, vs ic = tup x ∧ vs im = tup x ∧ vs ix = box x ∧ (L iy = true → vs iy = p2 x) ∧ (L iz = true → vs iz = p2 x) ∧ vs ia = ptr2 gn ∧ w0.heap.size ≤ gn ∧ Bk w gn 26 (cs x) ∧ KX n l ng gl (fun y => C0 y ∧ y ≠ gn) w x ∧ Only [] w0 w := by
  obtain ⟨a1, a2, a3, a4, a5⟩ := hall
  obtain ⟨gn, e, hg, _, _⟩ := h.2.2.1 a4
  obtain ⟨x, e1, q1, q2, q3, q4, q5, q6⟩ := h.2.2.2 a1
  obtain ⟨g2, e2, hb⟩ := q5 a5
  rw [e] at e2
  obtain rfl := ptr2_inj e2
  exact ⟨x, gn, e1, q1 a2, q2 a3, q3, q4, e, hg, hb, q6.mono fun y hy => ⟨hy.1, fun hh => hy.2.2 a4 (by rw [e, hh])⟩, h.1⟩
end
/-- Two boxes that are there are written (is1, is2); all else stays. -/
def StI (w0 : World) (gb gx : Nat) (cb cx nb nx : Array Value) (is1 is2 : Nat) (L : Nat → Bool) (_ : Nat → Value) (w : World) : Prop :=
  Only [gb, gx] w0 w ∧ Bk w gb 26 (if L is1 = true then nb else cb) ∧ Bk w gx 26 (if L is2 = true then nx else cx)
theorem StI.start {w0 : World} {gb gx : Nat} {cb cx nb nx : Array Value} {is1 is2 : Nat} (h1 : Bk w0 gb 26 cb) (h2 : Bk w0 gx 26 cx) (vs : Nat → Value) : StI w0 gb gx cb cx nb nx is1 is2 (fun _ => false) vs w0.drew := by
  have o : Only [] w0 w0.drew := (Only.refl [] w0).drew
  exact ⟨o.mono (fun _ hx => nomatch hx), by simpa using h1.only o (by simp), by simpa using h2.only o (by simp)⟩
theorem StI.pure {w0 w : World} {gb gx : Nat} {cb cx nb nx : Array Value} {is1 is2 k : Nat} {L : Nat → Bool} {vs : Nat → Value} (h : StI w0 gb gx cb cx nb nx is1 is2 L vs w) (hk : is1 ≠ k ∧ is2 ≠ k) : StI w0 gb gx cb cx nb nx is1 is2 (updN L k true) vs w := by
  unfold StI at *
  rw [updN_ne _ _ hk.1, updN_ne _ _ hk.2]
  exact h
theorem StI.one {w0 w w' : World} {gb gx : Nat} {cb cx nb nx : Array Value} {is1 is2 : Nat} {L : Nat → Bool} {vs vs' : Nat → Value} (h : StI w0 gb gx cb cx nb nx is1 is2 L vs w) (d : is2 ≠ is1) (hne : gx ≠ gb) (o : Only [gb] w w') (hb : Bk w' gb 26 nb) : StI w0 gb gx cb cx nb nx is1 is2 (updN L is1 true) vs' w' := by
  unfold StI at *
  rw [updN_self, updN_ne _ _ d]
  exact ⟨h.1.trans o (fun y hy => .inl (by simp at hy; simp [hy])), by simpa using hb, h.2.2.only o (by simpa using hne)⟩
theorem StI.two {w0 w w' : World} {gb gx : Nat} {cb cx nb nx : Array Value} {is1 is2 : Nat} {L : Nat → Bool} {vs vs' : Nat → Value} (h : StI w0 gb gx cb cx nb nx is1 is2 L vs w) (d : is1 ≠ is2) (hne : gb ≠ gx) (o : Only [gx] w w') (hb : Bk w' gx 26 nx) : StI w0 gb gx cb cx nb nx is1 is2 (updN L is2 true) vs' w' := by
  unfold StI at *
  rw [updN_self, updN_ne _ _ d]
  exact ⟨h.1.trans o (fun y hy => .inl (by simp at hy; simp [hy])), h.2.1.only o (by simpa using hne), by simpa using hb⟩
end Go.Proofs.Ythaodlegpjedoaa
