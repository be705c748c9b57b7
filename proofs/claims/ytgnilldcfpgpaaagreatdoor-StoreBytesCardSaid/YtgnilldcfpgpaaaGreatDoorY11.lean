/-
  Texts of the seat, laid one behind the other: RowsI VCall VCallX RefEnc.
-/
import Derived.Test.YtgnilldcfpgpaaaGreatDoorY10
import Derived.Test.YtgnilldcfpgpaaaGreatDoorY6
import Derived.Test.YtgnilldcfpgpaaaGreatDoorY2
namespace Go.Proofs.YtgnilldcfpgpaaaGreatDoor
open Go.RowKit Go.Instr
def RowsI (w0 : World) (A4 : Option Addr) (n4 c4 : Nat) (P4 : List UInt8) (u4 : Nat) (R : Nat → Option (List UInt8)) (use : Nat → Nat) (b1 b2 : Nat) (nums : Array Value) (L : Nat → Bool) (vs : Nat → Value) (w : World) : Prop :=
  Only (blks A4) w0 w ∧ (∀ i l, R i = some l → L (use i) = true → L i = true) ∧ (L b2 = true → L b1 = true) ∧
  (L u4 = false → Own w 5 A4 n4 c4 (bvs P4)) ∧
  (∀ i l, R i = some l → L i = true → L (use i) = false → ∃ A c, vs i = .slice A l.length c ∧ Own w 5 A l.length c (bvs l) ∧ ∀ k ∈ blks A, (k ∈ blks A4 ∧ L u4 = true) ∨ w0.heap.size ≤ k) ∧
  (∀ i j li lj, i ≠ j → R i = some li → R j = some lj → L i = true → L j = true → L (use i) = false → L (use j) = false → ∀ Ai ni ci Aj nj cj, vs i = .slice Ai ni ci → vs j = .slice Aj nj cj → ∀ k ∈ blks Ai, k ∉ blks Aj) ∧
  (L b1 = true → L b2 = false → ∃ k2, vs b1 = .slice (some ⟨k2, 0, none⟩) 3 3 ∧ Bk w k2 3 nums) ∧ L 9999 = false
section
variable {w0 w w' : World} {A4 : Option Addr} {n4 c4 : Nat} {P4 : List UInt8} {u4 : Nat} {R : Nat → Option (List UInt8)} {use : Nat → Nat} {b1 b2 : Nat} {nums : Array Value} {L : Nat → Bool} {vs : Nat → Value}
theorem RowsI.start (h : Own w0 5 A4 n4 c4 (bvs P4)) (vs : Nat → Value) : RowsI w0 A4 n4 c4 P4 u4 R use b1 b2 nums (fun _ => false) vs w0.drew := by
  have o : Only [] w0 w0.drew := (Only.refl [] w0).drew
  exact ⟨o.mono (fun _ hx => nomatch hx), (fun _ _ _ e => by cases e), (fun e => by cases e), fun _ => h.keep o, (fun _ _ _ e => by cases e), (fun _ _ _ _ _ _ _ e => by cases e), (fun e => by cases e), rfl⟩
theorem RowsI.pure {k : Nat} (h : RowsI w0 A4 n4 c4 P4 u4 R use b1 b2 nums L vs w) (h1 : R k = none) (h2 : ∀ i l, R i = some l → use i ≠ k) (h3 : u4 ≠ k ∧ b1 ≠ k ∧ b2 ≠ k ∧ 9999 ≠ k) : RowsI w0 A4 n4 c4 P4 u4 R use b1 b2 nums (updN L k true) vs w := by
  obtain ⟨a0, a1, a2, a3, a4, a5, a6, a7⟩ := h
  have hne : ∀ i l, R i = some l → updN L k true i = L i ∧ updN L k true (use i) = L (use i) := fun i l hi => ⟨updN_ne _ _ (fun e => by subst e; rw [h1] at hi; cases hi), updN_ne _ _ (h2 i l hi)⟩
  unfold RowsI
  rw [updN_ne _ _ h3.1, updN_ne _ _ h3.2.1, updN_ne _ _ h3.2.2.1, updN_ne _ _ h3.2.2.2]
  refine ⟨a0, fun i l hi => ?_, a2, a3, fun i l hi => ?_, fun i j li lj hij hi hj => ?_, a6, a7⟩
  · rw [(hne i l hi).1, (hne i l hi).2]; exact a1 i l hi
  · rw [(hne i l hi).1, (hne i l hi).2]; exact a4 i l hi
  · rw [(hne i li hi).1, (hne i li hi).2, (hne j lj hj).1, (hne j lj hj).2]; exact a5 i j li lj hij hi hj
theorem RowsI.grow (h : RowsI w0 A4 n4 c4 P4 u4 R use b1 b2 nums L vs w) (o : Only [] w w') : RowsI w0 A4 n4 c4 P4 u4 R use b1 b2 nums L vs w' := by
  obtain ⟨a0, a1, a2, a3, a4, a5, a6, a7⟩ := h
  refine ⟨a0.then o, a1, a2, fun e => (a3 e).keep o, fun i l hi e1 e2 => ?_, a5, fun e1 e2 => ?_, a7⟩
  · obtain ⟨A, c, q1, q2, q3⟩ := a4 i l hi e1 e2
    exact ⟨A, c, q1, q2.keep o, q3⟩
  · obtain ⟨k2, q1, q2⟩ := a6 e1 e2
    exact ⟨k2, q1, q2.only o (by simp)⟩
theorem RowsI.call {k : Nat} {l : List UInt8} {A : Option Addr} {c : Nat} (h : RowsI w0 A4 n4 c4 P4 u4 R use b1 b2 nums L vs w) (hL : L k = false) (hR : R k = some l) (h2 : ∀ i l, R i = some l → use i ≠ k) (h3 : u4 ≠ k ∧ b1 ≠ k ∧ 9999 ≠ k) (hb2 : b2 = k → L b1 = true) (o : Only [] w w') (hV : Own w' 5 A l.length c (bvs l)) (hf : ∀ y ∈ blks A, w.heap.size ≤ y) :
    RowsI w0 A4 n4 c4 P4 u4 R use b1 b2 nums (updN L k true) (updN vs k (.slice A l.length c)) w' := by
  have hz := h.1.size
  have hlive := h.2.2.2.2.1
  obtain ⟨a0, a1, a2, a3, a4, a5, a6, a7⟩ := h.grow o
  have huk : L (use k) = false := by
    cases e : L (use k) with
    | false => rfl
    | true => have := a1 k l hR e; rw [hL] at this; cases this
  have hdis : ∀ j lj, j ≠ k → R j = some lj → L j = true → L (use j) = false → ∀ Aj nj cj, vs j = .slice Aj nj cj → ∀ y ∈ blks A, y ∉ blks Aj := fun j lj hjk hj e1 e2 Aj nj cj ev y hy hm => by
    obtain ⟨A', c', q1, q2, _⟩ := hlive j lj hj e1 e2
    rw [q1] at ev
    injection ev with ev
    subst ev
    have := q2.lt hm
    have := hf y hy
    omega
  have huse : ∀ i l, R i = some l → updN L k true (use i) = L (use i) := fun i l hi => updN_ne _ _ (h2 i l hi)
  unfold RowsI
  rw [updN_ne _ _ h3.1, updN_ne _ _ h3.2.1, updN_ne (j := b1) _ _ h3.2.1, updN_ne _ _ h3.2.2]
  refine ⟨a0, fun i li hi e => ?_, fun e => ?_, a3, fun i li hi e1 e2 => ?_, fun i j li lj hij hi hj e1 e2 e3 e4 => ?_, fun e1 e2 => ?_, a7⟩
  · rw [huse i li hi] at e
    by_cases hik : i = k
    · subst hik; exact updN_self _ _ _
    · rw [updN_ne _ _ hik]; exact a1 i li hi e
  · by_cases hbk : b2 = k
    · exact hb2 hbk
    · rw [updN_ne _ _ hbk] at e; exact a2 e
  · rw [huse i li hi] at e2
    by_cases hik : i = k
    · subst hik
      rw [hR] at hi
      injection hi with hi
      subst hi
      rw [updN_self]
      exact ⟨A, c, rfl, hV, fun y hy => .inr (Nat.le_trans hz (hf y hy))⟩
    · rw [updN_ne _ _ hik] at e1 ⊢
      exact a4 i li hi e1 e2
  · rw [huse i li hi] at e3
    rw [huse j lj hj] at e4
    intro Ai ni ci Aj nj cj ev1 ev2
    by_cases hik : i = k
    · subst hik
      have hjk : j ≠ i := fun e => hij e.symm
      rw [updN_self] at ev1
      rw [updN_ne _ _ hjk] at ev2 e2
      injection ev1 with ev1
      subst ev1
      exact hdis j lj hjk hj e2 e4 Aj nj cj ev2
    · rw [updN_ne _ _ hik] at ev1 e1
      by_cases hjk : j = k
      · subst hjk
        rw [updN_self] at ev2
        injection ev2 with ev2
        subst ev2
        intro y hy hm
        exact hdis i li hik hi e1 e3 Ai ni ci ev1 y hm hy
      · rw [updN_ne _ _ hjk] at ev2 e2
        exact a5 i j li lj hij hi hj e1 e2 e3 e4 Ai ni ci Aj nj cj ev1 ev2
  · by_cases hbk : b2 = k
    · subst hbk; rw [updN_self] at e2; cases e2
    · rw [updN_ne _ _ hbk] at e2
      exact a6 e1 e2
theorem RowsI.app {k : Nat} {l' : List UInt8} {Ai A' : Option Addr} {c' : Nat} (h : RowsI w0 A4 n4 c4 P4 u4 R use b1 b2 nums L vs w) (hL : L k = false) (hR : R k = some l') (huk : use k ≠ k) (h3 : b1 ≠ k ∧ b2 ≠ k ∧ 9999 ≠ k)
    (hA : ∀ y ∈ blks Ai, (y ∈ blks A4 ∧ updN L k true u4 = true) ∨ w0.heap.size ≤ y) (hext : u4 ≠ k → L u4 = false → ∀ y ∈ blks Ai, y ∉ blks A4)
    (hoth : ∀ m lm Am nm cm, R m = some lm → L m = true → L (use m) = false → use m ≠ k → vs m = .slice Am nm cm → ∀ y ∈ blks Am, y ∉ blks Ai) (hint : ∀ y ∈ blks Ai, ∃ cu, Bk w y 5 cu) (hord : ∀ m l, R m = some l → use m = k → L m = true)
    (hV : Own w' 5 A' l'.length c' (bvs l')) (o : Only (blks Ai) w w') (hf : ∀ y ∈ blks A', y ∈ blks Ai ∨ w.heap.size ≤ y) :
    RowsI w0 A4 n4 c4 P4 u4 R use b1 b2 nums (updN L k true) (updN vs k (.slice A' l'.length c')) w' := by
  obtain ⟨a0, a1, a2, a3, a4, a5, a6, a7⟩ := h
  have hz := a0.size
  have hlk : L (use k) = false := by
    cases e : L (use k) with
    | false => rfl
    | true => have := a1 k l' hR e; rw [hL] at this; cases this
  have hnew : ∀ j lj, j ≠ k → R j = some lj → L j = true → L (use j) = false → use j ≠ k → ∀ Aj nj cj, vs j = .slice Aj nj cj → ∀ y ∈ blks A', y ∉ blks Aj := fun j lj hjk hj e1 e2 e3 Aj nj cj ev y hy hm => by
    rcases hf y hy with h1 | h1
    · exact hoth j lj Aj nj cj hj e1 e2 e3 ev y hm h1
    · obtain ⟨A2, c2, q1, q2, _⟩ := a4 j lj hj e1 e2
      rw [q1] at ev
      injection ev with ev
      subst ev
      have := q2.lt hm
      omega
  have hne : ∀ i, updN L k true (use i) = false → use i ≠ k := fun i e hh => by rw [hh, updN_self] at e; cases e
  unfold RowsI
  rw [updN_ne _ _ h3.1, updN_ne (j := b1) _ _ h3.1, updN_ne _ _ h3.2.1, updN_ne _ _ h3.2.2]
  refine ⟨a0.trans o (fun y hy => (hA y hy).imp (fun q => q.1) id), fun i li hi e => ?_, a2, fun e => ?_, fun i li hi e1 e2 => ?_, fun i j li lj hij hi hj e1 e2 e3 e4 => ?_, fun e1 e2 => ?_, a7⟩
  · by_cases hik : i = k
    · subst hik; exact updN_self _ _ _
    · rw [updN_ne _ _ hik]
      by_cases huik : use i = k
      · exact hord i li hi huik
      · rw [updN_ne _ _ huik] at e
        exact a1 i li hi e
  · have hu : u4 ≠ k := fun hh => by rw [hh, updN_self] at e; cases e
    rw [updN_ne _ _ hu] at e
    exact (a3 e).only o (fun y hy hm => hext hu e y hm hy)
  · have hu := hne i e2
    rw [updN_ne _ _ hu] at e2
    by_cases hik : i = k
    · subst hik
      rw [hR] at hi
      injection hi with hi
      subst hi
      rw [updN_self]
      refine ⟨A', c', rfl, hV, fun y hy => ?_⟩
      rcases hf y hy with h1 | h1
      · exact hA y h1
      · exact .inr (by omega)
    · rw [updN_ne _ _ hik] at e1 ⊢
      obtain ⟨A2, c2, q1, q2, q3⟩ := a4 i li hi e1 e2
      refine ⟨A2, c2, q1, q2.only o (fun y hy hm => hoth i li A2 _ c2 hi e1 e2 hu q1 y hy hm), fun y hy => ?_⟩
      rcases q3 y hy with ⟨r1, r2⟩ | r
      · left
        refine ⟨r1, ?_⟩
        by_cases hu4 : u4 = k
        · rw [hu4, updN_self]
        · rw [updN_ne _ _ hu4]; exact r2
      · exact .inr r
  · have hui := hne i e3
    have huj := hne j e4
    rw [updN_ne _ _ hui] at e3
    rw [updN_ne _ _ huj] at e4
    intro Ai2 ni ci Aj nj cj ev1 ev2
    by_cases hik : i = k
    · subst hik
      have hjk : j ≠ i := fun e => hij e.symm
      rw [updN_self] at ev1
      rw [updN_ne _ _ hjk] at ev2 e2
      injection ev1 with ev1
      subst ev1
      exact hnew j lj hjk hj e2 e4 huj Aj nj cj ev2
    · rw [updN_ne _ _ hik] at ev1 e1
      by_cases hjk : j = k
      · subst hjk
        rw [updN_self] at ev2
        injection ev2 with ev2
        subst ev2
        intro y hy hm
        exact hnew i li hik hi e1 e3 hui Ai2 ni ci ev1 y hm hy
      · rw [updN_ne _ _ hjk] at ev2 e2
        exact a5 i j li lj hij hi hj e1 e2 e3 e4 Ai2 ni ci Aj nj cj ev1 ev2
  · obtain ⟨k2, q1, q2⟩ := a6 e1 e2
    refine ⟨k2, q1, q2.only o (fun hm => ?_)⟩
    obtain ⟨cu, q3⟩ := hint k2 hm
    exact q2.ne q3 (by decide) rfl
theorem RowsI.join {k i j : Nat} {li lj : List UInt8} (h : RowsI w0 A4 n4 c4 P4 u4 R use b1 b2 nums L vs w) (hL : L k = false) (hi : R i = some li) (hj : R j = some lj) (hij : i ≠ j) (ui : use i = k) (uj : use j = k) (hR : R k = some (li ++ lj)) (huk : use k ≠ k) (h3 : u4 ≠ k ∧ b1 ≠ k ∧ b2 ≠ k ∧ 9999 ≠ k) (h4 : ∀ y ∈ blks A4, y < w0.heap.size) (ho : ∀ m l, R m = some l → use m = k → m = i ∨ m = j)
    (e1 : L i = true) (e2 : L j = true) : ∃ Ai ci Aj cj, vs i = .slice Ai li.length ci ∧ vs j = .slice Aj lj.length cj ∧ Own w 5 Ai li.length ci (bvs li) ∧ Own w 5 Aj lj.length cj (bvs lj) ∧
      ∀ w' A' c', Own w' 5 A' (li ++ lj).length c' (bvs (li ++ lj)) → Only (blks Ai) w w' → (∀ y ∈ blks A', y ∈ blks Ai ∨ w.heap.size ≤ y) → RowsI w0 A4 n4 c4 P4 u4 R use b1 b2 nums (updN L k true) (updN vs k (.slice A' (li ++ lj).length c')) w' := by
  have e3 : L (use i) = false := by rw [ui]; exact hL
  have e4 : L (use j) = false := by rw [uj]; exact hL
  obtain ⟨Ai, ci, q1, q2, q3⟩ := h.2.2.2.2.1 i li hi e1 e3
  obtain ⟨Aj, cj, r1, r2, _⟩ := h.2.2.2.2.1 j lj hj e2 e4
  refine ⟨Ai, ci, Aj, cj, q1, r1, q2, r2, fun w' A' c' hV o hf => h.app hL hR huk h3.2 (fun y hy => ?_) (fun _ e y hy hm => ?_) (fun m lm Am nm cm hm f1 f2 f3 ev y hy hm2 => ?_) (fun y hy => q2.bk hy) (fun m l hm hu => ?_) hV o hf⟩
  · rw [updN_ne _ _ h3.1]
    exact q3 y hy
  · rcases q3 y hy with ⟨_, t⟩ | t
    · rw [e] at t; cases t
    · have := h4 y hm
      omega
  · have hmi : i ≠ m := fun hh => by subst hh; exact f3 ui
    exact h.2.2.2.2.2.1 i m li lm hmi hi hm e1 f1 e3 f2 Ai _ ci Am nm cm q1 ev y hm2 hy
  · rcases ho m l hm hu with rfl | rfl
    · exact e1
    · exact e2
theorem RowsI.joinX {j : Nat} {lj : List UInt8} (h : RowsI w0 A4 n4 c4 P4 u4 R use b1 b2 nums L vs w) (hL : L u4 = false) (hj : R j = some lj) (uj : use j = u4) (hR : R u4 = some (P4 ++ lj)) (huk : use u4 ≠ u4) (h3 : b1 ≠ u4 ∧ b2 ≠ u4 ∧ 9999 ≠ u4) (h4 : ∀ y ∈ blks A4, y < w0.heap.size) (ho : ∀ m l, R m = some l → use m = u4 → m = j)
    (e2 : L j = true) : ∃ Aj cj, vs j = .slice Aj lj.length cj ∧ Own w 5 A4 n4 c4 (bvs P4) ∧ Own w 5 Aj lj.length cj (bvs lj) ∧
      ∀ w' A' c', Own w' 5 A' (P4 ++ lj).length c' (bvs (P4 ++ lj)) → Only (blks A4) w w' → (∀ y ∈ blks A', y ∈ blks A4 ∨ w.heap.size ≤ y) → RowsI w0 A4 n4 c4 P4 u4 R use b1 b2 nums (updN L u4 true) (updN vs u4 (.slice A' (P4 ++ lj).length c')) w' := by
  have e4 : L (use j) = false := by rw [uj]; exact hL
  obtain ⟨Aj, cj, r1, r2, _⟩ := h.2.2.2.2.1 j lj hj e2 e4
  have hx := h.2.2.2.1 hL
  refine ⟨Aj, cj, r1, hx, r2, fun w' A' c' hV o hf => h.app hL hR huk h3 (fun y hy => ?_) (fun hh => absurd rfl hh) (fun m lm Am nm cm hm f1 f2 f3 ev y hy hm2 => ?_) (fun y hy => hx.bk hy) (fun m l hm hu => ?_) hV o hf⟩
  · exact .inl ⟨hy, updN_self _ _ _⟩
  · obtain ⟨A2, c2, q1, _, q3⟩ := h.2.2.2.2.1 m lm hm f1 f2
    rw [q1] at ev
    injection ev with ev
    subst ev
    rcases q3 y hy with ⟨_, t⟩ | t
    · rw [hL] at t; cases t
    · have := h4 y hm2
      omega
  · obtain rfl := ho m l hm hu
    exact e2
theorem RowsI.laid (h : RowsI w0 A4 n4 c4 P4 u4 R use b1 b2 nums L vs w) (h1 : R b1 = none) (h2 : ∀ i l, R i = some l → use i ≠ b1) (h3 : u4 ≠ b1 ∧ b2 ≠ b1 ∧ 9999 ≠ b1) : RowsI w0 A4 n4 c4 P4 u4 R use b1 b2 nums (updN L b1 true) (updN vs b1 (.slice (some ⟨w.heap.size, 0, none⟩) 3 3)) (w.alloc (.cells nums 3)) := by
  obtain ⟨a0, a1, a2, a3, a4, a5, a6, a7⟩ := h.grow ((Only.refl [] w).alloc (.cells nums 3))
  have hne : ∀ i l, R i = some l → i ≠ b1 := fun i l hi e => by subst e; rw [h1] at hi; cases hi
  unfold RowsI
  rw [updN_ne _ _ h3.1, updN_ne (j := b2) _ _ h3.2.1, updN_ne (j := 9999) _ _ h3.2.2]
  refine ⟨a0, fun i l hi => ?_, fun _ => updN_self _ _ _, a3, fun i l hi => ?_, fun i j li lj hij hi hj => ?_, (fun _ _ => ⟨_, updN_self _ _ _, Bk.new w _ _⟩), a7⟩
  · rw [updN_ne _ _ (hne i l hi), updN_ne _ _ (h2 i l hi)]; exact a1 i l hi
  · rw [updN_ne _ _ (hne i l hi), updN_ne _ _ (hne i l hi), updN_ne _ _ (h2 i l hi)]; exact a4 i l hi
  · rw [updN_ne _ _ (hne i li hi), updN_ne _ _ (h2 i li hi), updN_ne _ _ (hne j lj hj), updN_ne _ _ (h2 j lj hj), updN_ne _ _ (hne i li hi), updN_ne _ _ (hne j lj hj)]; exact a5 i j li lj hij hi hj
theorem RowsI.hand {k i : Nat} {l : List UInt8} (h : RowsI w0 A4 n4 c4 P4 u4 R use b1 b2 nums L vs w) (hL : L k = false) (hi : R i = some l) (ui : use i = k) (hR : R k = some l) (huk : use k ≠ k) (h3 : u4 ≠ k ∧ b1 ≠ k ∧ b2 ≠ k ∧ 9999 ≠ k) (h4 : ∀ y ∈ blks A4, y < w0.heap.size) (ho : ∀ m l, R m = some l → use m = k → m = i) (e1 : L i = true) :
    ∃ A c, vs i = .slice A l.length c ∧ RowsI w0 A4 n4 c4 P4 u4 R use b1 b2 nums (updN L k true) (updN vs k (.slice A l.length c)) w := by
  have e3 : L (use i) = false := by rw [ui]; exact hL
  obtain ⟨Ai, ci, q1, q2, q3⟩ := h.2.2.2.2.1 i l hi e1 e3
  refine ⟨Ai, ci, q1, h.app (Ai := Ai) hL hR huk h3.2 (fun y hy => ?_) (fun _ e y hy hm => ?_) (fun m lm Am nm cm hm f1 f2 f3 ev y hy hm2 => ?_) (fun y hy => q2.bk hy) (fun m l hm hu => ?_) q2 (Only.refl _ _) (fun y hy => .inl hy)⟩
  · rw [updN_ne _ _ h3.1]
    exact q3 y hy
  · rcases q3 y hy with ⟨_, t⟩ | t
    · rw [e] at t; cases t
    · have := h4 y hm
      omega
  · have hmi : i ≠ m := fun hh => by subst hh; exact f3 ui
    exact h.2.2.2.2.2.1 i m l lm hmi hi hm e1 f1 e3 f2 Ai _ ci Am nm cm q1 ev y hm2 hy
  · obtain rfl := ho m l hm hu
    exact e1
theorem RowsI.row {i : Nat} {l : List UInt8} (h : RowsI w0 A4 n4 c4 P4 u4 R use b1 b2 nums L vs w) (hi : R i = some l) (e1 : L i = true) (hu : use i = 9999) : ∃ A c, vs i = .slice A l.length c ∧ Own w 5 A l.length c (bvs l) ∧ ∀ k ∈ blks A, k ∈ blks A4 ∨ w0.heap.size ≤ k := by
  obtain ⟨A, c, q1, q2, q3⟩ := h.2.2.2.2.1 i l hi e1 (by rw [hu]; exact h.2.2.2.2.2.2.2)
  exact ⟨A, c, q1, q2, fun k hk => (q3 k hk).imp (fun q => q.1) id⟩
end
end Go.Proofs.YtgnilldcfpgpaaaGreatDoor
namespace Go.Proofs.YtgnilldcfpgpaaaGreatDoor
open Go.RowKit Go.Instr
section
variable {P : Program} {ops : Array Oper} {Q : Exit → Act → World → Prop} {I : (Nat → Bool) → (Nat → Value) → World → Prop} {o : Oper} {l : List Oper} {a : Act} {k : Nat} {pl : List (Option Value)} {vs : Nat → Value}
theorem inv_valw (v : Value) (hw : Region.wanted o (yielded ops a.tmps) = true) (hI : ∀ L w, I L vs w → I (updN L k true) vs w) (hy : ∀ L w, I L vs w → (∀ j, waits o j = true → L j = true) → (execOp a.eval o).run P w = .ok (.value v) w)
    (hk : inv2Walk P ops I Q vs pl l (k + 1) (a.put o.dst v)) : inv2Walk P ops I Q vs (some v :: pl) (o :: l) k a :=
  ⟨fun L w h _ hw2 => .inl ⟨hw, gives_value (hy L w h hw2) ⟨rfl, hI L w h⟩ trivial⟩, hk⟩
end
end Go.Proofs.YtgnilldcfpgpaaaGreatDoor
namespace Go.Proofs.YtgnilldcfpgpaaaGreatDoor
open Go.RowKit Go.Instr
abbrev XW := Option Addr × Nat × Option Addr × Nat
section
variable {w0 w w' : World} {C0 : Nat → Prop} {n ng : Nat} {l : List Mg} {gl : List Int} {tup box p2 : XW → Value} {cs : XW → Array Value} {z : Array Value} {ic im ix iy iz ia is : Nat} {L : Nat → Bool} {vs : Nat → Value}
theorem no_of {a b : Bool} (h : a = true → b = true) (hb : b = false) : a = false := by
  cases a
  · rfl
  · rw [h rfl] at hb; cases hb
end
end Go.Proofs.YtgnilldcfpgpaaaGreatDoor
namespace Go.Proofs.YtgnilldcfpgpaaaGreatDoor
open Go.RowKit
theorem u64_low7 (u : Nat) (h : u < 9223372036854775808) : bits .and .u64 (u : Int) 127 = (u : Int) % 128 := by
  have e := u64_and_nat u 127 (by omega) (by omega)
  rw [Nat.and_two_pow_sub_one_eq_mod u 7] at e
  simpa using e
theorem u8_or128 (u : Nat) : bits .or .u8 ((u : Int) % 128) 128 = (u : Int) % 128 + 128 := by
  have e := u8_or_nat (u % 128) 128 (by omega) (by omega)
  have j : u % 128 ||| 128 = u % 128 + 128 := by
    rw [Nat.or_comm, nat_join 7 128 (u % 128) (by omega) (by omega)]; omega
  rw [j] at e
  simpa using e
def RefState (w : World) (v : Nat) (s x : Value) (wr : World) : Prop :=
  ∃ (A' : Option Addr) (n' c' u : Nat) (p : List UInt8), s = .slice A' n' c' ∧ x = .int .u64 u ∧ u ≤ 4611686018427387904 ∧ p.length = n' ∧ Own wr 5 A' n' c' (bvs p) ∧ Hid (p ++ enc u = enc v) ∧ Only [] w wr ∧ (∀ k ∈ blks A', w.heap.size ≤ k)
set_option maxRecDepth 100000 in
set_option maxHeartbeats 1600000 in
theorem refNum_any (v : Int) (w : World) (h0 : -9223372036854775808 ≤ v) (h1 : v ≤ 9223372036854775807) :
    Calls Tryz.prog 62 #[.int .i64 v] w (Fresh w (enc (clamp v))) := by
  obtain ⟨i0, hi, hz0, hz1, hz2⟩ := info_parts infoByte
  have hcl := clamp_le v
  have h9 := enc_len9 hcl
  have H9 := Lib.hid h9
  obtain ⟨m, hm⟩ : ∃ m, m = clamp v := ⟨_, rfl⟩
  have HM := Lib.hid hm
  have hm62 : m ≤ 4611686018427387904 := by rw [hm]; exact hcl
  have three : (4611686018427387904 < v ∧ Hid ((m : Int) = 4611686018427387904)) ∨ ((0 < v ∧ v ≤ 4611686018427387904) ∧ Hid ((m : Int) = v)) ∨ (v ≤ 0 ∧ Hid ((m : Int) = 0)) := by
    unfold Hid
    by_cases a : v < 0
    · right; right; exact ⟨by omega, by rw [hm, clamp_neg a]; rfl⟩
    · by_cases b : 4611686018427387904 < v
      · left; exact ⟨b, by rw [hm, clamp_big b]; rfl⟩
      · have e := clamp_mid (v := v) (by omega) (by omega)
        rw [e] at hm
        by_cases z : 0 < v
        · right; left; exact ⟨⟨z, by omega⟩, by omega⟩
        · right; right; exact ⟨by omega, by omega⟩
  rw [← hm]
  rw [← hm] at h9 H9
  clear hm hcl h9 HM
  rcases three with ⟨hc, HE⟩ | ⟨⟨ha, hb⟩, HE⟩ | ⟨hc, HE⟩
  all_goals
    go_enter Tryz.func62, Tryz.ntmps62
    go_wp2_with fail
    go_loopw [3, 4] (fun x s wr => RefState w m s x wr) (fun x _ _ => (intOf x).toNat)
    case atStart => exact ⟨none, 0, 0, m, [], rfl, by rw [HE.out], hm62, rfl, Own.nil _ _, rfl, Only.refl _ _, fun k hk => (by cases hk)⟩
    case round =>
      obtain ⟨A', n', c', u, p, rfl, rfl, hu, hp, HV, HX, HO, HB⟩ := hrel
      have hb9 : n' ≤ 9 := by
        have h := congrArg List.length HX.out
        have h9 := H9.out
        simp only [List.length_append] at h
        omega
      by_cases hlt : u < 128
      · have hx : ((u : Int)) = ((UInt8.ofNat u).toNat : Int) := (ofNat_byte (by omega)).symm
        have HX2 := Lib.hid hx
        have HS := Lib.hid (enc_small hlt)
        clear hx HE
        go_wp2_with (at_builtin; go_must (refine wpList_append_sl rfl (.tmp 22) (.tmp 25) 27 rfl 5 i0 (.int .u8 0) 1 Tryz.underlying27 hi hz0 hz1 hz2 rfl A' _ c' _ rfl (HV.alloc _) _ 1 1 _ rfl (sl_one _ _ _ (UInt8.ofNat u) HX2.out) (bvs_one _) (by unfold maxLen; omega) (by omega) ?_); intro A2 c2 w2 HV2 HO2 HB2)
        go_ret
        have hlen : n' + 1 = (enc m).length := by rw [← HX.out, HS.out, List.length_append, hp]; rfl
        refine ⟨A2, c2, by rw [← hlen]; rfl, ?_, (HO.alloc _).trans HO2 (fun x hx => .inr (HB x hx)), fun x hx => ?_⟩
        · rw [← hlen, ← HX.out, HS.out, bvs_append]; exact HV2
        · rcases HB2 x hx with h | h
          · exact HB x h
          · have := HO.size; simp at h; omega
      · have hx : ((u : Int) % 128 + 128) = ((UInt8.ofNat (u % 128 + 128)).toNat : Int) := by rw [ofNat_byte (by omega)]; omega
        have HX2 := Lib.hid hx
        have HS := Lib.hid (enc_more hlt)
        have e1 := u64_low7 u (by omega)
        have e2 := u8_or128 u
        clear hx HE
        go_wp2_with (at_builtin; go_must (refine wpList_append_sl rfl (.tmp 13) (.tmp 18) 27 rfl 5 i0 (.int .u8 0) 1 Tryz.underlying27 hi hz0 hz1 hz2 rfl A' _ c' _ rfl (HV.alloc _) _ 1 1 _ rfl (sl_one _ _ _ (UInt8.ofNat (u % 128 + 128)) HX2.out) (bvs_one _) (by unfold maxLen; omega) (by omega) ?_); intro A2 c2 w2 HV2 HO2 HB2)
        go_roundw
        case rel =>
          refine ⟨A2, n' + 1, c2, u / 128, p ++ [UInt8.ofNat (u % 128 + 128)], rfl, by go_num, by omega, by rw [List.length_append, hp]; rfl, by rw [bvs_append]; exact HV2, ?_, ?_, ?_⟩
          · show _ = _
            rw [List.append_assoc, List.singleton_append, ← HS.out, HX.out]
          · exact (HO.alloc _).trans HO2 (fun x hx => .inr (HB x hx))
          · intro x hx
            rcases HB2 x hx with h | h
            · exact HB x h
            · have := HO.size; simp at h; omega
        case measure => simp [intOf]; omega
theorem refNums_any (V : Option Addr) (n c : Nat) (vs : List Int) (w : World) (hv : Sl w V n (ivs vs)) (hf : Fits vs) (hn : n ≤ 1000000000) :
    Calls Tryz.prog 64 #[.slice V n c] w (Fresh w (encs vs)) := by
  obtain ⟨i0, hi, hz0, hz1, hz2⟩ := info_parts infoByte
  have hlen : vs.length = n := by simpa using hv.len
  have hn' : n ≤ 1000000000 := hn
  go_enter Tryz.func64, Tryz.ntmps64
  go_wp2
  go_loopw [3, 4] (fun s i wr => ∃ (k : Nat) (A' : Option Addr) (n' c' : Nat) (p : List UInt8), k ≤ n ∧ i = .int .i64 k ∧ s = .slice A' n' c' ∧ p.length = n' ∧ n' ≤ 9 * k ∧ Own wr 5 A' n' c' (bvs p) ∧ Hid (p = encs (vs.take k)) ∧ Only [] w wr ∧ (∀ x ∈ blks A', w.heap.size ≤ x)) (fun _ i _ => n - (intOf i).toNat)
  case atStart => exact ⟨0, none, 0, 0, [], Nat.zero_le _, rfl, rfl, rfl, Nat.le_refl _, Own.nil _ _, rfl, Only.refl _ _, fun k hk => (by cases hk)⟩
  case round =>
    obtain ⟨k, A', n', c', p, hk, rfl, rfl, hp, hn9, HV, HP, HO, HB⟩ := hrel
    by_cases hlt : k < n
    · obtain ⟨ad, u, rfl, hu, hcell⟩ := (hv.keep HO).at_ hlt
      rw [ivs_get _ _ (by omega)] at hu
      obtain rfl : Value.int .i64 _ = u := by injection hu
      obtain ⟨f1, f2⟩ := hf.at_ k (by omega)
      have HE := Lib.hid (encs_take vs k (by omega))
      have h9 := enc_len9 (clamp_le (vs[k]'(by omega)))
      clear hu
      go_wp2_with (first
        | (go_at_call 62; go_must (refine (refNum_any _ _ f1 f2).mono ?_); rintro e w1 ⟨A1, c1, rfl, V1, O1, _⟩)
        | (at_builtin; go_must (refine wpList_append_sl rfl (.tmp 11) (.tmp 16) 27 rfl 5 i0 (.int .u8 0) 1 Tryz.underlying27 hi hz0 hz1 hz2 rfl A' _ c' _ rfl (HV.keep O1) A1 _ c1 _ rfl V1.sl (bvs_one _) (by unfold maxLen; omega) (by omega) ?_); intro A2 c2 w2 HV2 HO2 HB2))
      go_roundw
      case rel =>
        refine ⟨k + 1, A2, _, c2, p ++ enc (clamp (vs[k]'(by omega))), by omega, by go_num, rfl, by rw [List.length_append, hp], by omega, by rw [bvs_append]; exact HV2, ?_, (HO.then O1).trans HO2 (fun x hx => .inr (HB x hx)), fun x hx => ?_⟩
        · show _ = _
          rw [HE.out, HP.out]
        · rcases HB2 x hx with h | h
          · exact HB x h
          · have := (HO.then O1).size; omega
      case measure => simp [intOf]; omega
    · have HT := Lib.hid (show vs.take k = vs from List.take_of_length_le (by omega))
      go_wp2
      go_ret
      have he : p = encs vs := by rw [HP.out, HT.out]
      rw [← he]
      exact ⟨A', c', by rw [hp]; rfl, by rw [hp]; exact HV, HO, HB⟩
theorem refBytes_any (A : Option Addr) (n c : Nat) (l : List UInt8) (w : World) (hs : Sl w A n (bvs l)) (hn : n ≤ 1000000000) :
    Calls Tryz.prog 65 #[.slice A n c] w (Fresh w (rowEnc l)) := by
  obtain ⟨i0, hi, hz0, hz1, hz2⟩ := info_parts infoByte
  have hl : l.length = n := by simpa using hs.len
  have hn' : n ≤ 1000000000 := hn
  have hcl : clamp (n : Int) = n := by rw [clamp_mid (by omega) (by omega)]; omega
  have h9 := enc_len9 (v := n) (by omega)
  have HN := Lib.hid (fun (W : World) => refNum_any (n : Int) W (by omega) (by omega))
  rw [hcl] at HN
  clear hcl
  go_enter Tryz.func65, Tryz.ntmps65
  go_wp2_with (first
    | (go_at_call 62; go_must (refine (HN.out _).mono ?_); rintro e w1 ⟨A1, c1, rfl, V1, O1, B1⟩)
    | (at_builtin; go_must (refine wpList_append_sl rfl (.tmp 5) (.tmp 6) 27 rfl 5 i0 (.int .u8 0) 1 Tryz.underlying27 hi hz0 hz1 hz2 rfl A1 _ c1 _ rfl V1 A n c _ rfl (hs.keep O1) (bvs_one _) (by unfold maxLen; omega) (by omega) ?_); intro A2 c2 w2 HV2 HO2 HB2))
  go_ret
  have he : (rowEnc l).length = (enc n).length + n := by unfold rowEnc; rw [List.length_append, hl]
  have hb : bvs (rowEnc l) = bvs (enc n) ++ bvs l := by unfold rowEnc; rw [hl, bvs_append]
  refine ⟨A2, c2, by rw [he]; rfl, by rw [he, hb]; exact HV2, O1.trans HO2 (fun x hx => .inr (B1 x hx)), fun x hx => ?_⟩
  rcases HB2 x hx with h | h
  · exact B1 x h
  · have := O1.size; omega
end Go.Proofs.YtgnilldcfpgpaaaGreatDoor
