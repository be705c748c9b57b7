/-
  A region that draws its order: a call answers a mailbox (and more), that is laid in a new block.
-/
import Derived.Test.YthaodlegpjedoaaInv2
import Derived.Test.YthaodlegpjedoaaVAdd
namespace Go.Proofs.Ythaodlegpjedoaa
open Go.RowKit Go.Instr

section
variable {P : Program} {ops : Array Oper} {Q : Exit → Act → World → Prop} {I : (Nat → Bool) → (Nat → Value) → World → Prop} {o : Oper} {l : List Oper} {a : Act} {k : Nat} {pl : List (Option Value)} {vs : Nat → Value}
/-- One value, whatever comes ahead. -/
theorem inv_valw (v : Value) (hw : Region.wanted o (yielded ops a.tmps) = true) (hI : ∀ L w, I L vs w → I (updN L k true) vs w) (hy : ∀ L w, I L vs w → (∀ j, waits o j = true → L j = true) → (execOp a.eval o).run P w = .ok (.value v) w)
    (hk : inv2Walk P ops I Q vs pl l (k + 1) (a.put o.dst v)) : inv2Walk P ops I Q vs (some v :: pl) (o :: l) k a :=
  ⟨fun L w h _ hw2 => .inl ⟨hw, gives_value (hy L w h hw2) ⟨rfl, hI L w h⟩ trivial⟩, hk⟩
end
/-- What always holds: operation ic calls, im moves its answer, ix takes its first part, ia makes the block, is lays it there. -/
def CallI (w0 : World) (S0 : Nat → Prop) (tup box : Option Addr → Nat → Value) (cs : Option Addr → Nat → Array Value) (z : Array Value) (n : Nat) (l : List Mg) (ic im ix ia is : Nat) (L : Nat → Bool) (vs : Nat → Value) (w : World) : Prop :=
  Only [] w0 w ∧ ((L im = true → L ic = true) ∧ (L ix = true → L im = true) ∧ (L is = true → L ia = true ∧ L ix = true)) ∧
    (L ia = true → ∃ gn, vs ia = ptr2 gn ∧ w0.heap.size ≤ gn ∧ gn < w.heap.size ∧ (L is = false → Bk w gn 26 z)) ∧
    (L ic = true → ∃ A' c', vs ic = tup A' c' ∧ (L im = true → vs im = tup A' c') ∧ (L ix = true → vs ix = box A' c') ∧ (L is = true → ∃ gn, vs ia = ptr2 gn ∧ Bk w gn 26 (cs A' c')) ∧
      Ms (fun y => S0 y ∧ y < w.heap.size ∧ (L ia = true → vs ia ≠ ptr2 y)) w A' n l)
section
variable {w0 w w' : World} {S0 : Nat → Prop} {tup box : Option Addr → Nat → Value} {cs : Option Addr → Nat → Array Value} {z : Array Value} {n : Nat} {l : List Mg} {ic im ix ia is : Nat} {L : Nat → Bool} {vs : Nat → Value}
theorem CallI.start (w0 : World) (S0 : Nat → Prop) (tup box : Option Addr → Nat → Value) (cs : Option Addr → Nat → Array Value) (z : Array Value) (n : Nat) (l : List Mg) (ic im ix ia is : Nat) (vs : Nat → Value) :
    CallI w0 S0 tup box cs z n l ic im ix ia is (fun _ => false) vs w0.drew :=
  ⟨(Only.refl [] w0).drew, ⟨(by simp), (by simp), (by simp)⟩, (by simp), (by simp)⟩
theorem CallI.pure {k : Nat} (h : CallI w0 S0 tup box cs z n l ic im ix ia is L vs w) (hk : ic ≠ k ∧ im ≠ k ∧ ix ≠ k ∧ ia ≠ k ∧ is ≠ k) : CallI w0 S0 tup box cs z n l ic im ix ia is (updN L k true) vs w := by
  obtain ⟨k1, k2, k3, k4, k5⟩ := hk
  unfold CallI at *
  rw [updN_ne _ _ k1, updN_ne _ _ k2, updN_ne _ _ k3, updN_ne _ _ k4, updN_ne _ _ k5]
  exact h
/-- The class of blocks that the call is asked for. -/
def CallI.cls (S0 : Nat → Prop) (ia : Nat) (L : Nat → Bool) (vs : Nat → Value) (y : Nat) : Prop := S0 y ∧ (L ia = true → vs ia ≠ ptr2 y)
theorem CallI.fresh (h : CallI w0 S0 tup box cs z n l ic im ix ia is L vs w) (hS : ∀ y, w0.heap.size ≤ y → S0 y) : ∀ y, w.heap.size ≤ y → CallI.cls S0 ia L vs y := fun y hy => by
  refine ⟨hS y (by have := h.1.size; omega), fun hl e => ?_⟩
  obtain ⟨gn, e2, _, hlt, _⟩ := h.2.2.1 hl
  rw [e2] at e
  have := ptr2_inj e
  omega
theorem CallI.source {A : Option Addr} {m : Nat} {r : List Mg} (h : CallI w0 S0 tup box cs z n l ic im ix ia is L vs w) (hM : Ms S0 w0 A m r) : Ms (CallI.cls S0 ia L vs) w A m r :=
  (hM.lt.keep h.1).mono fun y hy => ⟨hy.1, fun hl e => by
    obtain ⟨gn, e2, hg, _, _⟩ := h.2.2.1 hl
    rw [e2] at e
    have := ptr2_inj e
    have := hy.2
    omega⟩
theorem CallI.call {A' : Option Addr} {c' : Nat} (h : CallI w0 S0 tup box cs z n l ic im ix ia is L vs w) (hL : L ic = false) (d : im ≠ ic ∧ ix ≠ ic ∧ ia ≠ ic ∧ is ≠ ic) (hM : Ms (CallI.cls S0 ia L vs) w' A' n l) (o : Only [] w w') :
    CallI w0 S0 tup box cs z n l ic im ix ia is (updN L ic true) (updN vs ic (tup A' c')) w' := by
  obtain ⟨h1, ⟨h2, h3, h4⟩, h5, _⟩ := h
  obtain ⟨d1, d2, d3, d4⟩ := d
  have lm : L im = false := by
    cases e : L im with
    | false => rfl
    | true => rw [h2 e] at hL; cases hL
  have lx : L ix = false := by
    cases e : L ix with
    | false => rfl
    | true => rw [h3 e] at lm; cases lm
  have ls : L is = false := by
    cases e : L is with
    | false => rfl
    | true => rw [(h4 e).2] at lx; cases lx
  unfold CallI
  rw [updN_self, updN_self, updN_ne _ _ d1, updN_ne _ _ d2, updN_ne _ _ d3, updN_ne _ _ d4, updN_ne _ _ d1, updN_ne _ _ d2, updN_ne _ _ d3]
  refine ⟨h1.then o, ⟨fun _ => rfl, h3, h4⟩, fun hl => ?_, fun _ => ⟨A', c', rfl, ?_, ?_, ?_, ?_⟩⟩
  · obtain ⟨gn, e, hg, hlt, hb⟩ := h5 hl
    exact ⟨gn, e, hg, Nat.lt_of_lt_of_le hlt o.size, fun q => (hb q).only o (by simp)⟩
  · rw [lm]; intro e; cases e
  · rw [lx]; intro e; cases e
  · rw [ls]; intro e; cases e
  · exact hM.lt.mono fun y hy => ⟨hy.1.1, hy.2, hy.1.2⟩
theorem CallI.move {A' : Option Addr} {c' : Nat} (h : CallI w0 S0 tup box cs z n l ic im ix ia is L vs w) (hv : vs ic = tup A' c') (hinj : ∀ A c, tup A c = tup A' c' → A = A' ∧ c = c') (hl : L ic = true) (d : ic ≠ im ∧ ix ≠ im ∧ ia ≠ im ∧ is ≠ im) :
    CallI w0 S0 tup box cs z n l ic im ix ia is (updN L im true) (updN vs im (tup A' c')) w := by
  obtain ⟨h1, ⟨h2, h3, h4⟩, h5, h6⟩ := h
  obtain ⟨d1, d2, d3, d4⟩ := d
  unfold CallI
  rw [updN_self, updN_self, updN_ne _ _ d1, updN_ne _ _ d2, updN_ne _ _ d3, updN_ne _ _ d4, updN_ne _ _ d1, updN_ne _ _ d2, updN_ne _ _ d3]
  refine ⟨h1, ⟨fun _ => hl, fun _ => rfl, h4⟩, h5, fun hc => ?_⟩
  obtain ⟨A2, c2, e, _, q2, q3, q4⟩ := h6 hc
  obtain ⟨rfl, rfl⟩ := hinj A2 c2 (by rw [← e, hv])
  exact ⟨A2, c2, e, fun _ => rfl, q2, q3, q4⟩
theorem CallI.moved (h : CallI w0 S0 tup box cs z n l ic im ix ia is L vs w) (hl : L im = true) : ∃ A' c', vs ic = tup A' c' ∧ vs im = tup A' c' ∧ L ic = true := by
  obtain ⟨A', c', e, e2, _⟩ := h.2.2.2 (h.2.1.1 hl)
  exact ⟨A', c', e, e2 hl, h.2.1.1 hl⟩
theorem CallI.part {A' : Option Addr} {c' : Nat} (h : CallI w0 S0 tup box cs z n l ic im ix ia is L vs w) (hv : vs ic = tup A' c') (hinj : ∀ A c, tup A c = tup A' c' → A = A' ∧ c = c') (hl : L im = true) (d : ic ≠ ix ∧ im ≠ ix ∧ ia ≠ ix ∧ is ≠ ix) :
    CallI w0 S0 tup box cs z n l ic im ix ia is (updN L ix true) (updN vs ix (box A' c')) w := by
  obtain ⟨h1, ⟨h2, h3, h4⟩, h5, h6⟩ := h
  obtain ⟨d1, d2, d3, d4⟩ := d
  unfold CallI
  rw [updN_self, updN_self, updN_ne _ _ d1, updN_ne _ _ d2, updN_ne _ _ d3, updN_ne _ _ d4, updN_ne _ _ d1, updN_ne _ _ d2, updN_ne _ _ d3]
  refine ⟨h1, ⟨h2, fun _ => hl, fun hs => ⟨(h4 hs).1, rfl⟩⟩, h5, fun hc => ?_⟩
  obtain ⟨A2, c2, e, q1, _, q3, q4⟩ := h6 hc
  obtain ⟨rfl, rfl⟩ := hinj A2 c2 (by rw [← e, hv])
  exact ⟨A2, c2, e, q1, fun _ => rfl, q3, q4⟩
theorem CallI.alloc (h : CallI w0 S0 tup box cs z n l ic im ix ia is L vs w) (hL : L ia = false) (d : ic ≠ ia ∧ im ≠ ia ∧ ix ≠ ia ∧ is ≠ ia) :
    CallI w0 S0 tup box cs z n l ic im ix ia is (updN L ia true) (updN vs ia (ptr2 w.heap.size)) (w.alloc (.cells z 26)) := by
  obtain ⟨h1, ⟨h2, h3, h4⟩, h5, h6⟩ := h
  obtain ⟨d1, d2, d3, d4⟩ := d
  have ls : L is = false := by
    cases e : L is with
    | false => rfl
    | true => rw [(h4 e).1] at hL; cases hL
  unfold CallI
  rw [updN_self, updN_self, updN_ne _ _ d1, updN_ne _ _ d2, updN_ne _ _ d3, updN_ne _ _ d4, updN_ne _ _ d1, updN_ne _ _ d2, updN_ne _ _ d3]
  refine ⟨h1.alloc _, ⟨h2, h3, fun hs => by rw [ls] at hs; cases hs⟩, fun _ => ⟨w.heap.size, rfl, h1.size, by simp, fun _ => Bk.new w 26 z⟩, fun hc => ?_⟩
  obtain ⟨A2, c2, e, q1, q2, _, q4⟩ := h6 hc
  refine ⟨A2, c2, e, q1, q2, (fun hs => by rw [ls] at hs; cases hs), ?_⟩
  refine (q4.keep ((Only.refl [] w).alloc _)).mono fun y hy => ⟨hy.1, by simp; have := hy.2.1; omega, fun _ e => ?_⟩
  have := ptr2_inj e
  have := hy.2.1
  omega
theorem CallI.store {g : Nat} {A' : Option Addr} {c' : Nat} {u : Value} (h : CallI w0 S0 tup box cs z n l ic im ix ia is L vs w) (hv : vs ic = tup A' c') (hinj : ∀ A c, tup A c = tup A' c' → A = A' ∧ c = c') (hl : L ia = true ∧ L ix = true) (hg : vs ia = ptr2 g) (ho : Only [g] w w') (hs : Bk w' g 26 (cs A' c')) (d : ic ≠ is ∧ im ≠ is ∧ ix ≠ is ∧ ia ≠ is) :
    CallI w0 S0 tup box cs z n l ic im ix ia is (updN L is true) (updN vs is u) w' := by
  obtain ⟨h1, ⟨h2, h3, h4⟩, h5, h6⟩ := h
  obtain ⟨d1, d2, d3, d4⟩ := d
  obtain ⟨g', e', hg', hlt', _⟩ := h5 hl.1
  rw [hg] at e'
  obtain rfl := ptr2_inj e'
  unfold CallI
  rw [updN_self, updN_ne _ _ d1, updN_ne _ _ d2, updN_ne _ _ d3, updN_ne _ _ d4, updN_ne _ _ d1, updN_ne _ _ d2, updN_ne _ _ d3, updN_ne _ _ d4]
  refine ⟨h1.trans ho (fun q hq => .inr (by simp at hq; omega)), ⟨h2, h3, fun _ => hl⟩, fun _ => ⟨g, hg, hg', Nat.lt_of_lt_of_le hlt' ho.size, fun q => by cases q⟩, fun hc => ?_⟩
  obtain ⟨A2, c2, e, q1, q2, _, q4⟩ := h6 hc
  obtain ⟨rfl, rfl⟩ := hinj A2 c2 (by rw [← e, hv])
  refine ⟨A2, c2, e, q1, q2, fun _ => ⟨g, hg, hs⟩, ?_⟩
  refine (q4.only ho fun y hy hm => ?_).mono fun y hy => ⟨hy.1, Nat.lt_of_lt_of_le hy.2.1 ho.size, hy.2.2⟩
  simp at hm
  subst hm
  exact hy.2.2 hl.1 hg
/-- All has come up. -/
theorem CallI.end_ (h : CallI w0 S0 tup box cs z n l ic im ix ia is L vs w) (hall : L ic = true ∧ L im = true ∧ L ix = true ∧ L ia = true ∧ L is = true) :
    ∃ A' c' gn, vs ic = tup A' c' ∧ vs im = tup A' c' ∧ vs ix = box A' c' ∧ vs ia = ptr2 gn ∧ w0.heap.size ≤ gn ∧ Bk w gn 26 (cs A' c') ∧ Ms (fun y => S0 y ∧ y ≠ gn) w A' n l ∧ Only [] w0 w := by
  obtain ⟨a1, a2, a3, a4, a5⟩ := hall
  obtain ⟨gn, e, hg, _, _⟩ := h.2.2.1 a4
  obtain ⟨A', c', e1, q1, q2, q3, q4⟩ := h.2.2.2 a1
  obtain ⟨g2, e2, hb⟩ := q3 a5
  rw [e] at e2
  obtain rfl := ptr2_inj e2
  exact ⟨A', c', gn, e1, q1 a2, q2 a3, e, hg, hb, q4.mono fun y hy => ⟨hy.1, fun hh => hy.2.2 a4 (by rw [e, hh])⟩, h.1⟩
end
end Go.Proofs.Ythaodlegpjedoaa
