/-
  The reference's Add: what always holds in its drawn region (two appends behind '[]T{}', one more).
-/
import Derived.Test.YthaodlegpjedoaaVCallX
import Derived.Test.YthaodlegpjedoaaVRefAdd0
namespace Go.Proofs.Ythaodlegpjedoaa
open Go.RowKit Go.Instr

/-- What always holds: 0 and 8 lay empty slices, 2 loads the list, 3 copies it, 10 copies the bytes, 11 builds the message, 12 lays it in a block, 13 appends it, 15 stores the list. -/
def AddI (w0 : World) (S : Nat → Prop) (p : Nat) (t : ByteArray) (v x : Int) (A : Option Addr) (n c : Nat) (l : List Mg) (f d : Int) (m : Nat) (y : List UInt8) (L : Nat → Bool) (vs : Nat → Value) (w : World) : Prop :=
  Only [p] w0 w ∧ ((L 3 = true → L 2 = true ∧ L 0 = true) ∧ (L 10 = true → L 8 = true) ∧ (L 11 = true → L 10 = true) ∧ (L 12 = true → L 11 = true) ∧ (L 13 = true → L 3 = true ∧ L 12 = true) ∧ (L 15 = true → L 13 = true)) ∧
  (L 15 = false → Bk w p 26 #[.string t, .int .i64 v, .int .i64 x, .slice A n c]) ∧
  (L 0 = true → L 3 = false → ∃ g0, vs 0 = .slice (some ⟨g0, 0, none⟩) 0 0 ∧ w0.heap.size ≤ g0 ∧ Mo S w (some ⟨g0, 0, none⟩) 0 0 []) ∧
  (L 3 = true → L 13 = false → ∃ A3 c3, vs 3 = .slice A3 n c3 ∧ Mo S w A3 n c3 l ∧ ∀ k ∈ blks A3, w0.heap.size ≤ k) ∧
  (L 8 = true → L 10 = false → ∃ g8, vs 8 = .slice (some ⟨g8, 0, none⟩) 0 0 ∧ w0.heap.size ≤ g8 ∧ Own w 5 (some ⟨g8, 0, none⟩) 0 0 []) ∧
  (L 10 = true → L 13 = false → ∃ P cp, vs 10 = .slice P m cp ∧ Own w 5 P m cp (bvs y) ∧ (∀ k ∈ blks P, w0.heap.size ≤ k) ∧ (L 11 = true → vs 11 = .agg #[.int .i64 x, .int .i64 f, .int .i64 d, .slice P m cp]) ∧
    (L 12 = true → ∃ k2, vs 12 = .slice (some ⟨k2, 0, none⟩) 1 1 ∧ Bk w k2 62 #[.int .i64 x, .int .i64 f, .int .i64 d, .slice P m cp] ∧ k2 ≠ p)) ∧
  (L 13 = true → ∃ A' c', vs 13 = .slice A' (n + 1) c' ∧ Mo S w A' (n + 1) c' (l ++ [⟨x, f, d, y⟩]) ∧ (L 15 = true → Bk w p 26 #[.string t, .int .i64 v, .int .i64 x, .slice A' (n + 1) c']))
section
variable {w0 w w' : World} {S : Nat → Prop} {p : Nat} {t : ByteArray} {v x : Int} {A : Option Addr} {n c : Nat} {l : List Mg} {f d : Int} {m : Nat} {y : List UInt8} {L : Nat → Bool} {vs : Nat → Value}
theorem AddI.start (h : Bk w0 p 26 #[.string t, .int .i64 v, .int .i64 x, .slice A n c]) (vs : Nat → Value) : AddI w0 S p t v x A n c l f d m y (fun _ => false) vs w0.drew := by
  have o : Only [] w0 w0.drew := (Only.refl [] w0).drew
  exact ⟨o.mono (fun _ hx => nomatch hx), ⟨(fun e => by cases e), (fun e => by cases e), (fun e => by cases e), (fun e => by cases e), (fun e => by cases e), (fun e => by cases e)⟩, fun _ => h.only o (by simp), (fun e => by cases e), (fun e => by cases e), (fun e => by cases e), (fun e => by cases e), (fun e => by cases e)⟩
theorem AddI.pure {k : Nat} (h : AddI w0 S p t v x A n c l f d m y L vs w) (hk : 0 ≠ k ∧ 3 ≠ k ∧ 8 ≠ k ∧ 10 ≠ k ∧ 11 ≠ k ∧ 12 ≠ k ∧ 13 ≠ k ∧ 15 ≠ k) : AddI w0 S p t v x A n c l f d m y (updN L k true) vs w := by
  obtain ⟨k1, k2, k3, k4, k5, k6, k7, k8⟩ := hk
  obtain ⟨h0, ⟨a1, a2, a3, a4, a5, a6⟩, h2, h3, h4, h5, h6, h7⟩ := h
  unfold AddI
  rw [updN_ne _ _ k1, updN_ne _ _ k2, updN_ne _ _ k3, updN_ne _ _ k4, updN_ne _ _ k5, updN_ne _ _ k6, updN_ne _ _ k7, updN_ne _ _ k8]
  refine ⟨h0, ⟨fun e => ⟨?_, (a1 e).2⟩, a2, a3, a4, a5, a6⟩, h2, h3, h4, h5, h6, h7⟩
  by_cases hk2 : k = 2
  · subst hk2
    exact updN_self _ _ _
  · rw [updN_ne _ _ (fun e => hk2 e.symm)]
    exact (a1 e).1
/-- A call that only makes new memory. -/
theorem AddI.grow (h : AddI w0 S p t v x A n c l f d m y L vs w) (o : Only [] w w') : AddI w0 S p t v x A n c l f d m y L vs w' := by
  obtain ⟨h0, h1, h2, h3, h4, h5, h6, h7⟩ := h
  refine ⟨h0.then o, h1, fun e => (h2 e).only o (by simp), fun e1 e2 => ?_, fun e1 e2 => ?_, fun e1 e2 => ?_, fun e1 e2 => ?_, fun e1 => ?_⟩
  · obtain ⟨g0, q1, q2, q3⟩ := h3 e1 e2
    exact ⟨g0, q1, q2, q3.keep o⟩
  · obtain ⟨A3, c3, q1, q2, q3⟩ := h4 e1 e2
    exact ⟨A3, c3, q1, q2.keep o, q3⟩
  · obtain ⟨g8, q1, q2, q3⟩ := h5 e1 e2
    exact ⟨g8, q1, q2, q3.keep o⟩
  · obtain ⟨P, cp, q1, q2, q3, q4, q5⟩ := h6 e1 e2
    refine ⟨P, cp, q1, q2.keep o, q3, q4, fun e => ?_⟩
    obtain ⟨k2, r1, r2, r3⟩ := q5 e
    exact ⟨k2, r1, r2.only o (by simp), r3⟩
  · obtain ⟨A', c', q1, q2, q3⟩ := h7 e1
    exact ⟨A', c', q1, q2.keep o, fun e => (q3 e).only o (by simp)⟩
theorem AddI.no (h : AddI w0 S p t v x A n c l f d m y L vs w) : (L 2 = false → L 3 = false) ∧ (L 0 = false → L 3 = false) ∧ (L 3 = false → L 13 = false) ∧ (L 13 = false → L 15 = false) ∧ (L 8 = false → L 10 = false) ∧ (L 10 = false → L 11 = false) ∧ (L 11 = false → L 12 = false) ∧ (L 12 = false → L 13 = false) := by
  obtain ⟨a1, a2, a3, a4, a5, a6⟩ := h.2.1
  exact ⟨no_of (fun e => (a1 e).1), no_of (fun e => (a1 e).2), no_of (fun e => (a5 e).1), no_of a6, no_of a2, no_of a3, no_of a4, no_of (fun e => (a5 e).2)⟩
theorem AddI.load (h : AddI w0 S p t v x A n c l f d m y L vs w) (hL : L 2 = false) : Bk w p 26 #[.string t, .int .i64 v, .int .i64 x, .slice A n c] := by
  obtain ⟨n1, _, n3, n4, _⟩ := h.no
  exact h.2.2.1 (n4 (n3 (n1 hL)))
theorem AddI.next (h : AddI w0 S p t v x A n c l f d m y L vs w) : w.cell? ⟨p, 2, none⟩ = some (.int .i64 x) := by
  cases e : L 15 with
  | false => exact (bk_four (h.2.2.1 e)).2.2.1
  | true =>
    obtain ⟨A', c', _, _, q⟩ := h.2.2.2.2.2.2.2 (h.2.1.2.2.2.2.2 e)
    exact (bk_four (q e)).2.2.1
theorem AddI.s0 (h : AddI w0 S p t v x A n c l f d m y L vs w) (hL : L 0 = false) (hS : ∀ y, w0.heap.size ≤ y → S y) : AddI w0 S p t v x A n c l f d m y (updN L 0 true) (updN vs 0 (.slice (some ⟨w.heap.size, 0, none⟩) 0 0)) (w.alloc (.cells #[] 62)) := by
  have l3 := h.no.2.1 hL
  have hg := h.1.size
  obtain ⟨h0, ⟨a1, a2, a3, a4, a5, a6⟩, h2, h3, h4, h5, h6, h7⟩ := h.grow ((Only.refl [] w).alloc (.cells #[] 62))
  unfold AddI
  simp only [updN_self, updN_ne _ _ (show (2 : Nat) ≠ 0 by decide), updN_ne _ _ (show (3 : Nat) ≠ 0 by decide), updN_ne _ _ (show (8 : Nat) ≠ 0 by decide), updN_ne _ _ (show (10 : Nat) ≠ 0 by decide), updN_ne _ _ (show (11 : Nat) ≠ 0 by decide), updN_ne _ _ (show (12 : Nat) ≠ 0 by decide), updN_ne _ _ (show (13 : Nat) ≠ 0 by decide), updN_ne _ _ (show (15 : Nat) ≠ 0 by decide)]
  exact ⟨h0, ⟨(fun e => by rw [l3] at e; cases e), a2, a3, a4, a5, a6⟩, h2, fun _ _ => ⟨_, rfl, hg, Mo.empty w (hS _ hg)⟩, h4, h5, h6, h7⟩
theorem AddI.s3 {A' : Option Addr} {c' : Nat} (h : AddI w0 S p t v x A n c l f d m y L vs w) (hL : L 3 = false) (h02 : L 0 = true ∧ L 2 = true) (o : Only [] w w') (hM : Mo S w' A' n c' l) (hb : ∀ k ∈ blks A', w0.heap.size ≤ k) : AddI w0 S p t v x A n c l f d m y (updN L 3 true) (updN vs 3 (.slice A' n c')) w' := by
  have l13 := h.no.2.2.1 hL
  obtain ⟨h0, ⟨a1, a2, a3, a4, a5, a6⟩, h2, h3, h4, h5, h6, h7⟩ := h.grow o
  unfold AddI
  simp only [updN_self, updN_ne _ _ (show (0 : Nat) ≠ 3 by decide), updN_ne _ _ (show (2 : Nat) ≠ 3 by decide), updN_ne _ _ (show (8 : Nat) ≠ 3 by decide), updN_ne _ _ (show (10 : Nat) ≠ 3 by decide), updN_ne _ _ (show (11 : Nat) ≠ 3 by decide), updN_ne _ _ (show (12 : Nat) ≠ 3 by decide), updN_ne _ _ (show (13 : Nat) ≠ 3 by decide), updN_ne _ _ (show (15 : Nat) ≠ 3 by decide)]
  exact ⟨h0, ⟨fun _ => ⟨h02.2, h02.1⟩, a2, a3, a4, fun e => ⟨trivial, (a5 e).2⟩, a6⟩, h2, (fun _ e => by cases e), fun _ _ => ⟨A', c', rfl, hM, hb⟩, h5, h6, h7⟩
theorem AddI.s8 (h : AddI w0 S p t v x A n c l f d m y L vs w) (hL : L 8 = false) : AddI w0 S p t v x A n c l f d m y (updN L 8 true) (updN vs 8 (.slice (some ⟨w.heap.size, 0, none⟩) 0 0)) (w.alloc (.cells #[] 5)) := by
  have l10 := h.no.2.2.2.2.1 hL
  have hg := h.1.size
  obtain ⟨h0, ⟨a1, a2, a3, a4, a5, a6⟩, h2, h3, h4, h5, h6, h7⟩ := h.grow ((Only.refl [] w).alloc (.cells #[] 5))
  unfold AddI
  simp only [updN_self, updN_ne _ _ (show (0 : Nat) ≠ 8 by decide), updN_ne _ _ (show (2 : Nat) ≠ 8 by decide), updN_ne _ _ (show (3 : Nat) ≠ 8 by decide), updN_ne _ _ (show (10 : Nat) ≠ 8 by decide), updN_ne _ _ (show (11 : Nat) ≠ 8 by decide), updN_ne _ _ (show (12 : Nat) ≠ 8 by decide), updN_ne _ _ (show (13 : Nat) ≠ 8 by decide), updN_ne _ _ (show (15 : Nat) ≠ 8 by decide)]
  exact ⟨h0, ⟨a1, fun _ => trivial, a3, a4, a5, a6⟩, h2, h3, h4, fun _ _ => ⟨_, rfl, hg, own_empty w _⟩, h6, h7⟩
theorem AddI.s10 {P : Option Addr} {cp : Nat} (h : AddI w0 S p t v x A n c l f d m y L vs w) (hL : L 10 = false) (h8 : L 8 = true) (o : Only [] w w') (hM : Own w' 5 P m cp (bvs y)) (hb : ∀ k ∈ blks P, w0.heap.size ≤ k) : AddI w0 S p t v x A n c l f d m y (updN L 10 true) (updN vs 10 (.slice P m cp)) w' := by
  have l11 := h.no.2.2.2.2.2.1 hL
  have l12 := h.no.2.2.2.2.2.2.1 l11
  obtain ⟨h0, ⟨a1, a2, a3, a4, a5, a6⟩, h2, h3, h4, h5, h6, h7⟩ := h.grow o
  unfold AddI
  simp only [updN_self, updN_ne _ _ (show (0 : Nat) ≠ 10 by decide), updN_ne _ _ (show (2 : Nat) ≠ 10 by decide), updN_ne _ _ (show (3 : Nat) ≠ 10 by decide), updN_ne _ _ (show (8 : Nat) ≠ 10 by decide), updN_ne _ _ (show (11 : Nat) ≠ 10 by decide), updN_ne _ _ (show (12 : Nat) ≠ 10 by decide), updN_ne _ _ (show (13 : Nat) ≠ 10 by decide), updN_ne _ _ (show (15 : Nat) ≠ 10 by decide)]
  exact ⟨h0, ⟨a1, fun _ => h8, fun _ => trivial, a4, a5, a6⟩, h2, h3, h4, (fun _ e => by cases e), fun _ _ => ⟨P, cp, rfl, hM, hb, (fun e => by rw [l11] at e; cases e), fun e => by rw [l12] at e; cases e⟩, h7⟩
theorem AddI.s11 (h : AddI w0 S p t v x A n c l f d m y L vs w) (hL : L 11 = false) (h10 : L 10 = true) : ∃ P cp, vs 10 = .slice P m cp ∧ AddI w0 S p t v x A n c l f d m y (updN L 11 true) (updN vs 11 (.agg #[.int .i64 x, .int .i64 f, .int .i64 d, .slice P m cp])) w := by
  have l12 := h.no.2.2.2.2.2.2.1 hL
  have l13 := h.no.2.2.2.2.2.2.2 l12
  obtain ⟨h0, ⟨a1, a2, a3, a4, a5, a6⟩, h2, h3, h4, h5, h6, h7⟩ := h
  obtain ⟨P, cp, q1, q2, q3, _, _⟩ := h6 h10 l13
  refine ⟨P, cp, q1, ?_⟩
  unfold AddI
  simp only [updN_self, updN_ne _ _ (show (0 : Nat) ≠ 11 by decide), updN_ne _ _ (show (2 : Nat) ≠ 11 by decide), updN_ne _ _ (show (3 : Nat) ≠ 11 by decide), updN_ne _ _ (show (8 : Nat) ≠ 11 by decide), updN_ne _ _ (show (10 : Nat) ≠ 11 by decide), updN_ne _ _ (show (12 : Nat) ≠ 11 by decide), updN_ne _ _ (show (13 : Nat) ≠ 11 by decide), updN_ne _ _ (show (15 : Nat) ≠ 11 by decide)]
  exact ⟨h0, ⟨a1, a2, fun _ => h10, fun _ => trivial, a5, a6⟩, h2, h3, h4, h5, fun _ _ => ⟨P, cp, q1, q2, q3, fun _ => rfl, fun e => by rw [l12] at e; cases e⟩, h7⟩
theorem AddI.s12 (h : AddI w0 S p t v x A n c l f d m y L vs w) (hL : L 12 = false) (h11 : L 11 = true) (hp : p < w0.heap.size) : ∃ P cp, vs 11 = .agg #[.int .i64 x, .int .i64 f, .int .i64 d, .slice P m cp] ∧
    AddI w0 S p t v x A n c l f d m y (updN L 12 true) (updN vs 12 (.slice (some ⟨w.heap.size, 0, none⟩) 1 1)) (w.alloc (.cells #[.int .i64 x, .int .i64 f, .int .i64 d, .slice P m cp] 62)) := by
  have l13 := h.no.2.2.2.2.2.2.2 hL
  have h10 := h.2.1.2.2.1 h11
  have hz := h.1.size
  obtain ⟨P, cp, q1, q2, q3, q4, _⟩ := h.2.2.2.2.2.2.1 h10 l13
  refine ⟨P, cp, q4 h11, ?_⟩
  have o : Only [] w (w.alloc (.cells #[.int .i64 x, .int .i64 f, .int .i64 d, .slice P m cp] 62)) := (Only.refl [] w).alloc _
  obtain ⟨h0, ⟨a1, a2, a3, a4, a5, a6⟩, h2, h3, h4, h5, h6, h7⟩ := h.grow o
  unfold AddI
  simp only [updN_self, updN_ne _ _ (show (0 : Nat) ≠ 12 by decide), updN_ne _ _ (show (2 : Nat) ≠ 12 by decide), updN_ne _ _ (show (3 : Nat) ≠ 12 by decide), updN_ne _ _ (show (8 : Nat) ≠ 12 by decide), updN_ne _ _ (show (10 : Nat) ≠ 12 by decide), updN_ne _ _ (show (11 : Nat) ≠ 12 by decide), updN_ne _ _ (show (13 : Nat) ≠ 12 by decide), updN_ne _ _ (show (15 : Nat) ≠ 12 by decide)]
  exact ⟨h0, ⟨a1, a2, a3, fun _ => h11, fun e => ⟨(a5 e).1, trivial⟩, a6⟩, h2, h3, h4, h5, fun _ _ => ⟨P, cp, q1, q2.keep o, q3, q4, fun _ => ⟨_, rfl, Bk.new w _ _, by omega⟩⟩, h7⟩
theorem AddI.s13 {A3 A' : Option Addr} {c3 c' : Nat} (h : AddI w0 S p t v x A n c l f d m y L vs w) (hL : L 13 = false) (h12 : L 3 = true ∧ L 12 = true) (h3e : Mo S w A3 n c3 l) (hS : ∀ y, S y → y ≠ p) (o : Only (blks A3) w w')
    (hnew : ∀ k ∈ blks A3, w0.heap.size ≤ k) (hM : Mo S w' A' (n + 1) c' (l ++ [⟨x, f, d, y⟩])) : AddI w0 S p t v x A n c l f d m y (updN L 13 true) (updN vs 13 (.slice A' (n + 1) c')) w' := by
  have l15 := h.no.2.2.2.1 hL
  obtain ⟨h0, ⟨a1, a2, a3, a4, a5, a6⟩, h2, h3, h4, h5, h6, h7⟩ := h
  have l10 := a3 (a4 h12.2)
  unfold AddI
  simp only [updN_self, updN_ne _ _ (show (0 : Nat) ≠ 13 by decide), updN_ne _ _ (show (2 : Nat) ≠ 13 by decide), updN_ne _ _ (show (3 : Nat) ≠ 13 by decide), updN_ne _ _ (show (8 : Nat) ≠ 13 by decide), updN_ne _ _ (show (10 : Nat) ≠ 13 by decide), updN_ne _ _ (show (11 : Nat) ≠ 13 by decide), updN_ne _ _ (show (12 : Nat) ≠ 13 by decide), updN_ne _ _ (show (15 : Nat) ≠ 13 by decide)]
  exact ⟨h0.trans o (fun k hk => .inr (hnew k hk)), ⟨a1, a2, a3, a4, fun _ => h12, fun _ => trivial⟩, fun e => (h2 e).only o (fun hh => hS _ (h3e.2.1 _ hh) rfl), (fun _ e => by rw [h12.1] at e; cases e), (fun _ e => by cases e), (fun _ e => by rw [l10] at e; cases e), (fun _ e => by cases e), fun _ => ⟨A', c', rfl, hM, fun e => by rw [l15] at e; cases e⟩⟩
theorem AddI.s15 {u : Value} (h : AddI w0 S p t v x A n c l f d m y L vs w) (hL : L 15 = false) (h13 : L 13 = true) (hS : ∀ y, S y → y ≠ p) : ∃ A' c', vs 13 = .slice A' (n + 1) c' ∧ Bk w p 26 #[.string t, .int .i64 v, .int .i64 x, .slice A n c] ∧
    AddI w0 S p t v x A n c l f d m y (updN L 15 true) (updN vs 15 u) (w.setCell ⟨p, 3, none⟩ (.slice A' (n + 1) c')) := by
  obtain ⟨h0, ⟨a1, a2, a3, a4, a5, a6⟩, h2, h3, h4, h5, h6, h7⟩ := h
  obtain ⟨A', c', q1, q2, _⟩ := h7 h13
  have l3 := (a5 h13).1
  have l10 := a3 (a4 (a5 h13).2)
  have o : Only [p] w (w.setCell ⟨p, 3, none⟩ (.slice A' (n + 1) c')) := (Only.refl [p] w).setCell (.inl (by simp)) _
  refine ⟨A', c', q1, h2 hL, ?_⟩
  unfold AddI
  simp only [updN_self, updN_ne _ _ (show (0 : Nat) ≠ 15 by decide), updN_ne _ _ (show (2 : Nat) ≠ 15 by decide), updN_ne _ _ (show (3 : Nat) ≠ 15 by decide), updN_ne _ _ (show (8 : Nat) ≠ 15 by decide), updN_ne _ _ (show (10 : Nat) ≠ 15 by decide), updN_ne _ _ (show (11 : Nat) ≠ 15 by decide), updN_ne _ _ (show (12 : Nat) ≠ 15 by decide), updN_ne _ _ (show (13 : Nat) ≠ 15 by decide)]
  exact ⟨h0.trans o (fun k hk => .inl hk), ⟨a1, a2, a3, a4, a5, fun _ => h13⟩, (fun e => by cases e), (fun _ e => by rw [l3] at e; cases e), (fun _ e => by rw [h13] at e; cases e), (fun _ e => by rw [l10] at e; cases e), (fun _ e => by rw [h13] at e; cases e), fun _ => ⟨A', c', q1, q2.only o (fun k hk => by have := hS k hk; simpa using this), fun _ => by simpa using (h2 hL).set 3 (.slice A' (n + 1) c')⟩⟩
end
/-- One box that is there is written. -/
def St1 (w0 : World) (g : Nat) (co cn : Array Value) (is : Nat) (L : Nat → Bool) (_ : Nat → Value) (w : World) : Prop :=
  Only [g] w0 w ∧ Bk w g 26 (if L is = true then cn else co)
theorem St1.start {w0 : World} {g : Nat} {co cn : Array Value} {is : Nat} (h1 : Bk w0 g 26 co) (vs : Nat → Value) : St1 w0 g co cn is (fun _ => false) vs w0.drew := by
  have o : Only [] w0 w0.drew := (Only.refl [] w0).drew
  exact ⟨o.mono (fun _ hx => nomatch hx), by simpa using h1.only o (by simp)⟩
theorem St1.pure {w0 w : World} {g : Nat} {co cn : Array Value} {is k : Nat} {L : Nat → Bool} {vs : Nat → Value} (h : St1 w0 g co cn is L vs w) (hk : is ≠ k) : St1 w0 g co cn is (updN L k true) vs w := by
  unfold St1 at *
  rw [updN_ne _ _ hk]
  exact h
theorem St1.store {w0 w w' : World} {g : Nat} {co cn : Array Value} {is : Nat} {L : Nat → Bool} {vs vs' : Nat → Value} (h : St1 w0 g co cn is L vs w) (o : Only [g] w w') (hb : Bk w' g 26 cn) : St1 w0 g co cn is (updN L is true) vs' w' := by
  unfold St1 at *
  rw [updN_self]
  exact ⟨h.1.trans o (fun y hy => .inl hy), by simpa using hb⟩
end Go.Proofs.Ythaodlegpjedoaa
