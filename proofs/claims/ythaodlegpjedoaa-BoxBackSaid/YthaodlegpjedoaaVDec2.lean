/-
  box.Decode: what always holds in its loop's drawn region; the plain part.
-/
import Derived.Test.YthaodlegpjedoaaVDec1
import Derived.Test.YthaodlegpjedoaaVCall
import Derived.Test.YthaodlegpjedoaaVSame
import Derived.Test.YthaodlegpjedoaaVIs3
namespace Go.Proofs.Ythaodlegpjedoaa
open Go.RowKit Go.Instr

/-! ### The plain part -/
theorem takeL_succ : ∀ (k : Nat) (s : RS), (restL k s).1 = false → takeL (k + 1) s = takeL k s ++ [takeM (restL k s)] ∧ restL (k + 1) s = restM (restL k s)
  | 0, s, h => by
    have hs : s.1 = false := h
    simp [takeL, restL, hs]
  | k + 1, s, h => by
    have hs := restL_bad h
    have h' : (restL k (restM s)).1 = false := by
      unfold restL at h
      rw [hs] at h
      simpa using h
    obtain ⟨a, b⟩ := takeL_succ k (restM s) h'
    have e1 : takeL (k + 1 + 1) s = takeM s :: takeL (k + 1) (restM s) := by rw [takeL, hs]; rfl
    have e2 : takeL (k + 1) s = takeM s :: takeL k (restM s) := by rw [takeL, hs]; rfl
    have e3 : restL (k + 1) s = restL k (restM s) := by rw [restL, hs]; rfl
    have e4 : restL (k + 1 + 1) s = restL (k + 1) (restM s) := by rw [restL, hs]; rfl
    exact ⟨by rw [e1, a, e2, e3]; rfl, by rw [e4, b, e3]⟩
theorem restL_stuck : ∀ (k j : Nat) (s : RS), (restL k s).1 = true → (restL (k + j) s).1 = true
  | 0, 0, _, h => h
  | 0, j + 1, s, h => by
    have hs : s.1 = true := h
    rw [Nat.zero_add, restL, hs]
    exact hs
  | k + 1, j, s, h => by
    rw [show k + 1 + j = k + j + 1 by omega]
    cases hs : s.1
    · have e3 : restL (k + 1) s = restL k (restM s) := by rw [restL, hs]; rfl
      have e4 : restL (k + j + 1) s = restL (k + j) (restM s) := by rw [restL, hs]; rfl
      rw [e4]
      rw [e3] at h
      exact restL_stuck k j (restM s) h
    · rw [restL, hs]
      exact hs
/-- What Decode answers, as a value. -/
def zeroB : Bx := ⟨[], 0, 0, []⟩
def decB (p : List UInt8) : Bx × Int := match decO p with
  | some b => (b, 0)
  | none => (zeroB, 3)
theorem decB_none {p : List UInt8} (h : decO p = none) : decB p = (zeroB, 3) := by unfold decB; rw [h]
theorem decB_some {p : List UInt8} {b : Bx} (h : decO p = some b) : decB p = (b, 0) := by unfold decB; rw [h]
theorem decO_many {p : List UInt8} (h : 24 < cnt p) : decO p = none := by unfold decO; rw [if_pos h]
theorem decO_bad {p : List UInt8} {k : Nat} (hk : (k : Int) ≤ cnt p) (h : (restL k (body0 p)).1 = true) : decO p = none := by
  unfold decO
  split
  · rfl
  · have e : (cnt p).toNat = k + ((cnt p).toNat - k) := by omega
    have := restL_stuck k ((cnt p).toNat - k) (body0 p) h
    rw [← e] at this
    have hw : wholeS (restL (cnt p).toNat (body0 p)) = false := by unfold wholeS; rw [this]; rfl
    rw [hw]
    rfl
theorem decO_at {p : List UInt8} {k : Nat} (hk : (k : Int) = cnt p) (h : cnt p ≤ 24) : decO p = if wholeS (restL k (body0 p)) && isB (boxOf p k) then some (boxOf p k) else none := by
  unfold decO
  rw [if_neg (by omega), ← hk, Int.toNat_natCast]

/-! ### The region -/
theorem inv_vall {P : Program} {ops : Array Oper} {I : (Nat → Bool) → (Nat → Value) → World → Prop} {Q : Exit → Act → World → Prop} {vs : Nat → Value} {pl : List (Option Value)} {o : Oper} {l : List Oper} {k : Nat} {a : Act} (v : Value) (hw : Region.wanted o (yielded ops a.tmps) = true) (hI : ∀ L w, I L vs w → I (updN L k true) vs w) (hy : ∀ L w, I L vs w → L k = false → (execOp a.eval o).run P w = .ok (.value v) w)
    (hk : inv2Walk P ops I Q vs pl l (k + 1) (a.put o.dst v)) : inv2Walk P ops I Q vs (some v :: pl) (o :: l) k a :=
  ⟨fun L w h hl _ => .inl ⟨hw, gives_value (hy L w h hl) ⟨rfl, hI L w h⟩ trivial⟩, hk⟩
/-- What always holds: 1 loads the list, 3 takes a message, 4 lays it in a block, 5 appends it, 7 lays the list in the box. -/
def DecI (w0 : World) (S : Nat → Prop) (g kb p : Nat) (t : ByteArray) (v x : Int) (Ar : Option Addr) (cr : Nat) (s s' : RS) (A : Option Addr) (k c : Nat) (l : List Mg) (m : Mg) (L : Nat → Bool) (vs : Nat → Value) (w : World) : Prop :=
  Only (g :: p :: blks A) w0 w ∧ ((L 4 = true → L 3 = true) ∧ (L 5 = true → L 1 = true ∧ L 4 = true) ∧ (L 7 = true → L 5 = true)) ∧
  ((L 3 = false → Rd w g kb Ar cr s.1 s.2) ∧ (L 3 = true → ∃ A' c', Rd w g kb A' c' s'.1 s'.2)) ∧
  (L 7 = false → Bk w p 26 #[.string t, .int .i64 v, .int .i64 x, .slice A k c]) ∧
  (L 5 = false → Mo S w A k c l ∧ (L 3 = true → ∃ P cp, vs 3 = .agg #[.int .i64 m.uid, .int .i64 m.flags, .int .i64 m.date, .slice P m.body.length cp] ∧ Sl w P m.body.length (bvs m.body) ∧ (0 < m.body.length → ∀ ad, P = some ad → w0.heap.size ≤ ad.block)) ∧
    (L 4 = true → ∃ k4, vs 4 = .slice (some ⟨k4, 0, none⟩) 1 1 ∧ Ms (fun y => w0.heap.size ≤ y) w (some ⟨k4, 0, none⟩) 1 [m])) ∧
  (L 5 = true → ∃ A' c', vs 5 = .slice A' (k + 1) c' ∧ Mo S w A' (k + 1) c' (l ++ [m]) ∧ (L 7 = true → Bk w p 26 #[.string t, .int .i64 v, .int .i64 x, .slice A' (k + 1) c']))
section
variable {w0 w w' : World} {S : Nat → Prop} {g kb p : Nat} {t : ByteArray} {v x : Int} {Ar : Option Addr} {cr : Nat} {s s' : RS} {A : Option Addr} {k c : Nat} {l : List Mg} {m : Mg} {L : Nat → Bool} {vs : Nat → Value}
theorem DecI.start (h1 : Rd w0 g kb Ar cr s.1 s.2) (h2 : Bk w0 p 26 #[.string t, .int .i64 v, .int .i64 x, .slice A k c]) (h3 : Mo S w0 A k c l) (vs : Nat → Value) : DecI w0 S g kb p t v x Ar cr s s' A k c l m (fun _ => false) vs w0.drew := by
  have o : Only [] w0 w0.drew := (Only.refl [] w0).drew
  exact ⟨(Only.refl _ w0).drew, ⟨(fun e => by cases e), (fun e => by cases e), fun e => by cases e⟩, ⟨fun _ => h1.keep o, fun e => by cases e⟩, fun _ => h2.only o (by simp), fun _ => ⟨h3.keep o, (fun e => by cases e), fun e => by cases e⟩, fun e => by cases e⟩
theorem DecI.pure {j : Nat} (h : DecI w0 S g kb p t v x Ar cr s s' A k c l m L vs w) (hj : 3 ≠ j ∧ 4 ≠ j ∧ 5 ≠ j ∧ 7 ≠ j) : DecI w0 S g kb p t v x Ar cr s s' A k c l m (updN L j true) vs w := by
  obtain ⟨h0, ⟨a, b, d⟩, h2, h3, h4, h5⟩ := h
  unfold DecI
  simp only [updN_ne _ _ hj.1, updN_ne _ _ hj.2.1, updN_ne _ _ hj.2.2.1, updN_ne _ _ hj.2.2.2]
  refine ⟨h0, ⟨a, fun e => ⟨?_, (b e).2⟩, d⟩, h2, h3, h4, h5⟩
  by_cases hj1 : j = 1
  · subst hj1
    exact updN_self _ _ _
  · rw [updN_ne _ _ (fun e => hj1 e.symm)]
    exact (b e).1
theorem DecI.load (h : DecI w0 S g kb p t v x Ar cr s s' A k c l m L vs w) (hL : L 1 = false) : Bk w p 26 #[.string t, .int .i64 v, .int .i64 x, .slice A k c] := by
  refine h.2.2.2.1 ?_
  cases e : L 7 with
  | false => rfl
  | true =>
    have := (h.2.1.2.1 (h.2.1.2.2 e)).1
    rw [hL] at this
    cases this
theorem DecI.no4 (h : DecI w0 S g kb p t v x Ar cr s s' A k c l m L vs w) (hL : L 3 = false) : L 4 = false := by
  cases e : L 4 with
  | false => rfl
  | true => have := h.2.1.1 e; rw [hL] at this; cases this
theorem DecI.no5 (h : DecI w0 S g kb p t v x Ar cr s s' A k c l m L vs w) (hL : L 4 = false) : L 5 = false := by
  cases e : L 5 with
  | false => rfl
  | true => have := (h.2.1.2.1 e).2; rw [hL] at this; cases this
theorem DecI.no7 (h : DecI w0 S g kb p t v x Ar cr s s' A k c l m L vs w) (hL : L 5 = false) : L 7 = false := by
  cases e : L 7 with
  | false => rfl
  | true => have := h.2.1.2.2 e; rw [hL] at this; cases this
theorem DecI.rd (h : DecI w0 S g kb p t v x Ar cr s s' A k c l m L vs w) (hL : L 3 = false) : Rd w g kb Ar cr s.1 s.2 := h.2.2.1.1 hL
/-- The message is taken. -/
theorem DecI.took {e : Ending} (h : DecI w0 S g kb p t v x Ar cr s s' A k c l m L vs w) (hL : L 3 = false) (hS : ∀ y, S y → y ≠ g ∧ y ≠ kb ∧ y ≠ p) (hp : p ≠ g) (ht : TookMg w g kb m s' e w') : ∃ u, e = .returned u ∧ DecI w0 S g kb p t v x Ar cr s s' A k c l m (updN L 3 true) (updN vs 3 u) w' := by
  obtain ⟨P, cp, A', c', e1, e2, e3, e4, e5⟩ := ht
  have l4 := h.no4 hL
  have l5 := h.no5 l4
  have l7 := h.no7 l5
  obtain ⟨h0, ⟨a, b, d⟩, h2, h3, h4, h5⟩ := h
  refine ⟨_, e1, ?_⟩
  unfold DecI
  simp only [updN_self, updN_ne _ _ (show (1 : Nat) ≠ 3 by decide), updN_ne _ _ (show (4 : Nat) ≠ 3 by decide), updN_ne _ _ (show (5 : Nat) ≠ 3 by decide), updN_ne _ _ (show (7 : Nat) ≠ 3 by decide)]
  refine ⟨h0.trans e5 (fun y hy => .inl (by simp at hy; simp [hy])), ⟨fun _ => trivial, b, d⟩, ⟨(fun e => by cases e), fun _ => ⟨A', c', e4⟩⟩, fun e => (h3 e).only e5 (by simpa using hp), fun e => ⟨(h4 e).1.only e5 (fun y hy => by have := (hS y hy).1; simpa using this), fun _ => ⟨P, cp, rfl, e2.sl, fun hpos ad ea => ?_⟩, fun e => by rw [l4] at e; cases e⟩, fun e => by rw [l5] at e; cases e⟩
  subst ea
  exact Nat.le_trans h0.size (e3 _ (by simp))
/-- It is laid in a block. -/
theorem DecI.laid (h : DecI w0 S g kb p t v x Ar cr s s' A k c l m L vs w) (hL : L 4 = false) (h3t : L 3 = true) :
    ∃ P cp, vs 3 = .agg #[.int .i64 m.uid, .int .i64 m.flags, .int .i64 m.date, .slice P m.body.length cp] ∧
      DecI w0 S g kb p t v x Ar cr s s' A k c l m (updN L 4 true) (updN vs 4 (.slice (some ⟨w.heap.size, 0, none⟩) 1 1)) (w.alloc (.cells #[.int .i64 m.uid, .int .i64 m.flags, .int .i64 m.date, .slice P m.body.length cp] 62)) := by
  have l5 := h.no5 hL
  obtain ⟨h0, ⟨a, b, d⟩, h2, h3, h4, h5⟩ := h
  obtain ⟨M, q3, _⟩ := h4 l5
  obtain ⟨P, cp, e1, e2, e3⟩ := q3 h3t
  have o : Only [] w (w.alloc (.cells #[.int .i64 m.uid, .int .i64 m.flags, .int .i64 m.date, .slice P m.body.length cp] 62)) := (Only.refl [] w).alloc _
  refine ⟨P, cp, e1, ?_⟩
  unfold DecI
  simp only [updN_self, updN_ne _ _ (show (1 : Nat) ≠ 4 by decide), updN_ne _ _ (show (3 : Nat) ≠ 4 by decide), updN_ne _ _ (show (5 : Nat) ≠ 4 by decide), updN_ne _ _ (show (7 : Nat) ≠ 4 by decide)]
  refine ⟨h0.then o, ⟨fun _ => h3t, (fun e => by rw [l5] at e; cases e), d⟩, ⟨(fun e => by rw [h3t] at e; cases e), fun e => by obtain ⟨A', c', r⟩ := h2.2 e; exact ⟨A', c', r.keep o⟩⟩, fun e => (h3 e).only o (by simp), fun e => ⟨M.keep o, fun _ => ⟨P, cp, e1, e2.keep o, e3⟩, fun _ => ⟨_, rfl, Ms.of_bk (Bk.new w _ _) h0.size (e2.keep o) e3⟩⟩, fun e => by rw [l5] at e; cases e⟩
/-- It is appended. -/
theorem DecI.more {A' : Option Addr} {c' : Nat} (h : DecI w0 S g kb p t v x Ar cr s s' A k c l m L vs w) (hL : L 5 = false) (h1t : L 1 = true) (h4t : L 4 = true) (hS : ∀ y, S y → y ≠ g ∧ y ≠ kb ∧ y ≠ p) (o : Only (blks A) w w') (hM : Mo S w' A' (k + 1) c' (l ++ [m])) :
    DecI w0 S g kb p t v x Ar cr s s' A k c l m (updN L 5 true) (updN vs 5 (.slice A' (k + 1) c')) w' := by
  have l7 := h.no7 hL
  have h3t := h.2.1.1 h4t
  obtain ⟨h0, ⟨a, b, d⟩, h2, h3, h4, h5⟩ := h
  have hA := (h4 hL).1.2.1
  unfold DecI
  simp only [updN_self, updN_ne _ _ (show (1 : Nat) ≠ 5 by decide), updN_ne _ _ (show (3 : Nat) ≠ 5 by decide), updN_ne _ _ (show (4 : Nat) ≠ 5 by decide), updN_ne _ _ (show (7 : Nat) ≠ 5 by decide)]
  refine ⟨h0.trans o (fun y hy => .inl (by simp [hy])), ⟨a, fun _ => ⟨h1t, h4t⟩, fun _ => trivial⟩, ⟨(fun e => by rw [h3t] at e; cases e), fun e => by obtain ⟨A2, c2, r⟩ := h2.2 e; exact ⟨A2, c2, r.only o (fun hh => (hS _ (hA _ hh)).1 rfl) (fun hh => (hS _ (hA _ hh)).2.1 rfl)⟩⟩, fun e => (h3 e).only o (fun hh => (hS _ (hA _ hh)).2.2 rfl), (fun e => by cases e), fun _ => ⟨A', c', rfl, hM, fun e => by rw [l7] at e; cases e⟩⟩
/-- The list is laid in the box. -/
theorem DecI.store (h : DecI w0 S g kb p t v x Ar cr s s' A k c l m L vs w) (hL : L 7 = false) (h5t : L 5 = true) (hS : ∀ y, S y → y ≠ g ∧ y ≠ kb ∧ y ≠ p) (hpg : p ≠ g) (hpk : p ≠ kb) {u : Value} :
    ∃ A' c', vs 5 = .slice A' (k + 1) c' ∧ Bk w p 26 #[.string t, .int .i64 v, .int .i64 x, .slice A k c] ∧ DecI w0 S g kb p t v x Ar cr s s' A k c l m (updN L 7 true) (updN vs 7 u) (w.setCell ⟨p, 3, none⟩ (.slice A' (k + 1) c')) := by
  have h3t := h.2.1.1 (h.2.1.2.1 h5t).2
  obtain ⟨h0, ⟨a, b, d⟩, h2, h3, h4, h5⟩ := h
  obtain ⟨A', c', e1, e2, _⟩ := h5 h5t
  have o : Only [p] w (w.setCell ⟨p, 3, none⟩ (.slice A' (k + 1) c')) := (Only.refl [p] w).setCell (.inl (by simp)) _
  refine ⟨A', c', e1, h3 hL, ?_⟩
  unfold DecI
  simp only [updN_self, updN_ne _ _ (show (1 : Nat) ≠ 7 by decide), updN_ne _ _ (show (3 : Nat) ≠ 7 by decide), updN_ne _ _ (show (4 : Nat) ≠ 7 by decide), updN_ne _ _ (show (5 : Nat) ≠ 7 by decide)]
  refine ⟨h0.trans o (fun y hy => .inl (by simp at hy; simp [hy])), ⟨a, b, fun _ => h5t⟩, ⟨(fun e => by rw [h3t] at e; cases e), fun e => by obtain ⟨A2, c2, r⟩ := h2.2 e; exact ⟨A2, c2, r.only o (by simpa using hpg.symm) (by simpa using hpk.symm)⟩⟩, (fun e => by cases e), (fun e => by rw [h5t] at e; cases e), fun _ => ⟨A', c', e1, e2.only o (fun y hy => by have := (hS y hy).2.2; simpa using this), fun _ => by simpa using (h3 hL).set 3 (.slice A' (k + 1) c')⟩⟩
theorem DecI.end_ (h : DecI w0 S g kb p t v x Ar cr s s' A k c l m L vs w) (h3 : L 3 = true) (h5 : L 5 = true) (h7 : L 7 = true) :
    ∃ A' c' A2 c2, vs 5 = .slice A' (k + 1) c' ∧ Rd w g kb A2 c2 s'.1 s'.2 ∧ Bk w p 26 #[.string t, .int .i64 v, .int .i64 x, .slice A' (k + 1) c'] ∧ Mo S w A' (k + 1) c' (l ++ [m]) ∧ Only (g :: p :: blks A) w0 w := by
  obtain ⟨A2, c2, r⟩ := h.2.2.1.2 h3
  obtain ⟨A', c', e1, e2, e3⟩ := h.2.2.2.2.2 h5
  exact ⟨A', c', A2, c2, e1, r, e3 h7, e2, h.1⟩
end
end Go.Proofs.Ythaodlegpjedoaa
