/-
  The law LockPlays: both tables side by side, and an act's cells.
-/
import Derived.Test.YtmjkdfneohpbjaaQOne
import Derived.Test.YtmjkdfneohpbjaaQRefU
namespace Go.Proofs.Ytmjkdfneohpbjaa
open Go.RowKit Go.Maps

/-! ### Unlike orders, one answer -/
theorem nodup_of_rise {l : List Hd} (h : Rise Prod.fst l) : (l.map Prod.fst).Nodup := by
  unfold List.Nodup
  rw [List.pairwise_map]
  exact h.imp fun {a b} h => bef_ne h
theorem hold_mem {l : List Hd} (hn : (l.map Prod.fst).Nodup) {u : ByteArray} {c : Int} : holdL l u = some c ↔ (u, c) ∈ l := by
  induction l with
  | nil => simp [holdL, findL]
  | cons a r ih =>
    rw [List.map_cons, List.nodup_cons] at hn
    unfold holdL findL at ih ⊢
    rw [List.find?_cons]
    by_cases h : a.1 = u
    · have hnot : ∀ c, (u, c) ∉ r := fun c hm => hn.1 (by rw [h]; exact List.mem_map.2 ⟨_, hm, rfl⟩)
      simp only [h, decide_true, Option.map_some, Option.some.injEq, List.mem_cons]
      constructor
      · rintro rfl
        exact .inl (by rw [← h])
      · rintro (e | e)
        · rw [← e]
        · exact absurd e (hnot c)
    · simp only [h, decide_false, List.mem_cons]
      rw [ih hn.2]
      constructor
      · exact .inr
      · rintro (e | e)
        · exact absurd (by rw [← e]) h
        · exact e
theorem perm_hold {l hs : List Hd} (hr : Rise Prod.fst l) (hp : hs.Perm l) (u : ByteArray) : holdL hs u = holdL l u := by
  have h1 := nodup_of_rise hr
  have h2 : (hs.map Prod.fst).Nodup := (hp.map Prod.fst).nodup_iff.2 h1
  apply Option.ext
  intro c
  rw [hold_mem h1, hold_mem h2]
  exact hp.mem_iff
theorem perm_ins (x : Hd) : ∀ l : List Hd, (insL Prod.fst x l).Perm (x :: l)
  | [] => List.Perm.refl _
  | g :: r => by
    unfold insL
    split
    · exact List.Perm.refl _
    · exact ((perm_ins x r).cons g).trans (List.Perm.swap x g r)
theorem perm_take {l hs : List Hd} (hr : Rise Prod.fst l) (hp : hs.Perm l) (u : ByteArray) (c : Int) : (takeR hs u c).Perm (takeL l u c) := by
  unfold takeR takeL
  rw [perm_hold hr hp]
  cases h : holdL l u with
  | some d => exact hp
  | none =>
    have hf : findL Prod.fst l u = none := by simpa [holdL] using h
    show (hs ++ [(u, c)]).Perm (putL Prod.fst (u, c) l)
    unfold putL
    rw [delL_none hf]
    exact (List.perm_append_singleton _ _).trans ((hp.cons _).trans (perm_ins (u, c) l).symm)
theorem perm_takeB {l hs : List Hd} (hr : Rise Prod.fst l) (hp : hs.Perm l) (u : ByteArray) (c : Int) : takeB hs u c = takeB l u c := by
  unfold takeB
  rw [perm_hold hr hp]
theorem perm_free {l hs : List Hd} (hp : hs.Perm l) (c : Int) : (freeL hs c).Perm (freeL l c) := hp.filter _

/-! ### Both, and an act's cells -/
structure PB (w wr : World) (g1 g2 : Nat) (F1 F2 : List Nat) (p : Nat) (cs : Array Value) (l : List Hd) (ds : List Du) (hs : List Hd) (es : List Du) : Prop where
  L : Lock wr g1 F1 l ds
  R : RefL wr g2 F2 hs es
  A : Bk wr p 32 cs
  Q : Only [] w wr
  P1 : ∀ k ∈ F1, w.heap.size ≤ k
  P2 : ∀ k ∈ F2, w.heap.size ≤ k
  D : ∀ x ∈ F1, x ∉ F2
  n1 : p ∉ F1
  n2 : p ∉ F2
/-- Both mean one state, apart. -/
def Both (w wr : World) (g1 g2 : Nat) (l : List Hd) (ds : List Du) : Prop :=
  ∃ F1 F2 hs, Lock wr g1 F1 l ds ∧ RefL wr g2 F2 hs ds ∧ Only [] w wr ∧ (∀ k ∈ F1, w.heap.size ≤ k) ∧ (∀ k ∈ F2, w.heap.size ≤ k) ∧ (∀ x ∈ F1, x ∉ F2) ∧ hs.Perm l
theorem Lock.rise {w : World} {g : Nat} {F : List Nat} {l : List Hd} {ds : List Du} (h : Lock w g F l ds) : Rise Prod.fst l := by
  obtain ⟨hb, db, h, _⟩ := h
  exact h.hv.rise
section
variable {w wr w' : World} {g1 g2 p : Nat} {F1 F2 : List Nat} {cs : Array Value} {l hs l' : List Hd} {ds es ds' : List Du}
theorem Both.act (h : Both w wr g1 g2 l ds) (cs : Array Value) : ∃ F1 F2 hs, PB w (wr.alloc (.cells cs 32)) g1 g2 F1 F2 wr.heap.size cs l ds hs ds ∧ hs.Perm l := by
  obtain ⟨F1, F2, hs, L, R, Q, P1, P2, D, hp⟩ := h
  have o : Only [] wr (wr.alloc (.cells cs 32)) := (Only.refl [] wr).alloc _
  have h1 := L.lt
  have h2 := R.lt
  exact ⟨F1, F2, hs, ⟨L.keep o, R.keep o, Bk.new wr _ _, Q.alloc _, P1, P2, D, fun hm => by have := h1 _ hm; omega, fun hm => by have := h2 _ hm; omega⟩, hp⟩
theorem PB.both (h : PB w wr g1 g2 F1 F2 p cs l ds hs ds) (hp : hs.Perm l) : Both w wr g1 g2 l ds := ⟨F1, F2, hs, h.L, h.R, h.Q, h.P1, h.P2, h.D, hp⟩
theorem Both.keep (h : Both w wr g1 g2 l ds) (o : Only [] wr w') : Both w w' g1 g2 l ds := by
  obtain ⟨F1, F2, hs, L, R, Q, P1, P2, D, hp⟩ := h
  exact ⟨F1, F2, hs, L.keep o, R.keep o, Q.then o, P1, P2, D, hp⟩
theorem PB.keep (h : PB w wr g1 g2 F1 F2 p cs l ds hs es) (o : Only [] wr w') : PB w w' g1 g2 F1 F2 p cs l ds hs es :=
  ⟨h.L.keep o, h.R.keep o, h.A.only o (by simp), h.Q.then o, h.P1, h.P2, h.D, h.n1, h.n2⟩
theorem PB.stepL {v : Value} {e : Ending} (h : PB w wr g1 g2 F1 F2 p cs l ds hs es) (hL : Lkd wr g1 F1 v l' ds' e w') : e = .returned v ∧ ∃ F, PB w w' g1 g2 F F2 p cs l' ds' hs es := by
  obtain ⟨he, F', L, O, B⟩ := hL
  have hlt := h.R.lt
  refine ⟨he, F', ⟨L, h.R.only O (fun k hk hm => h.D k hm hk), h.A.only O h.n1, h.Q.trans O (fun x hx => .inr (h.P1 x hx)), fun k hk => ?_, h.P2, fun x hx hm => ?_, fun hm => ?_, h.n2⟩⟩
  · rcases B k hk with h1 | h1
    · exact h.P1 k h1
    · exact Nat.le_trans h.Q.size h1
  · rcases B x hx with h1 | h1
    · exact h.D x h1 hm
    · have := hlt x hm; omega
  · rcases B p hm with h1 | h1
    · exact h.n1 h1
    · have := h.A.lt; omega
theorem PB.stepR {v : Value} {e : Ending} {hs' : List Hd} {es' : List Du} (h : PB w wr g1 g2 F1 F2 p cs l ds hs es) (hL : Rfd wr g2 F2 v hs' es' e w') : e = .returned v ∧ ∃ F, PB w w' g1 g2 F1 F p cs l ds hs' es' := by
  obtain ⟨he, F', R, O, B⟩ := hL
  have hlt := h.L.lt
  refine ⟨he, F', ⟨h.L.only O (fun k hk hm => h.D k hk hm), R, h.A.only O h.n2, h.Q.trans O (fun x hx => .inr (h.P2 x hx)), h.P1, fun k hk => ?_, fun x hx hm => ?_, h.n1, fun hm => ?_⟩⟩
  · rcases B k hk with h1 | h1
    · exact h.P2 k h1
    · exact Nat.le_trans h.Q.size h1
  · rcases B x hm with h1 | h1
    · exact h.D x hx h1
    · have := hlt x hx; omega
  · rcases B p hm with h1 | h1
    · exact h.n2 h1
    · have := h.A.lt; omega
end

/-! ### The contracts once more, by blocks -/
section
variable {w : World} {g : Nat} {F : List Nat} {l : List Hd} {ds : List Du}
theorem touch_lock (h : Lock w g F l ds) {c now lim : Int} (hc : -9223372036854775808 ≤ c ∧ c ≤ 9223372036854775807) (hn : 0 ≤ now ∧ now ≤ 1099511627776) (hl : 0 ≤ lim ∧ lim ≤ 1099511627776) (hds : ds.length ≤ 1000000) : Calls Try.prog 13 #[.pointer (some ⟨g, 0, none⟩), .int .i64 c, .int .i64 now, .int .i64 lim] w (Lkd w g F (.tuple #[]) l (putI (c, now + lim) ds)) := by
  obtain ⟨hb, db, L, rfl⟩ := h
  exact touch_any L c now lim hc hn hl hds
theorem forget_lock (h : Lock w g F l ds) {c : Int} (hc : -9223372036854775808 ≤ c ∧ c ≤ 9223372036854775807) : Calls Try.prog 15 #[.pointer (some ⟨g, 0, none⟩), .int .i64 c] w (Lkd w g F (.tuple #[]) l (delI ds c)) := by
  obtain ⟨hb, db, L, rfl⟩ := h
  exact forget_any L c hc
/-- Ints, so many. -/
def IntsN (w : World) (cs : List Int) (n : Nat) (e : Ending) (w' : World) : Prop := ∃ A c, e = .returned (.slice A n c) ∧ Sl w' A n (ivs cs) ∧ Only [] w w'
theorem ints_n {f : FuncId} {args : Array Value} {cs : List Int} {n : Nat} (hn : cs.length = n) (h : Calls Try.prog f args w (IntsNew w cs)) : Calls Try.prog f args w (IntsN w cs n) := by
  subst hn
  exact h.mono fun e w' ⟨A, c, h1, h2, h3, _⟩ => ⟨A, c, h1, h2.sl, h3⟩
theorem due_lock (h : Lock w g F l ds) (now : Int) (hds : ds.length ≤ 1000) {n : Nat} (hn : (dueL ds now).length = n) : Calls Try.prog 17 #[.pointer (some ⟨g, 0, none⟩), .int .i64 now] w (IntsN w (dueL ds now) n) := by
  obtain ⟨hb, db, L, rfl⟩ := h
  exact ints_n hn (due_any L now hds)
theorem rtake_lock (h : RefL w g F l ds) (u : ByteArray) (cn : Int) (hl : l.length ≤ 1000) : Calls Try.prog 10 #[.pointer (some ⟨g, 0, none⟩), .string u, .int .i64 cn] w (Rfd w g F (.bool (takeB l u cn)) (takeR l u cn) ds) := by
  obtain ⟨A, n, c, B, m, d, R, rfl⟩ := h
  exact refTake_any R u cn hl
theorem rfree_lock (h : RefL w g F l ds) (cn : Int) (hl : l.length ≤ 1000) : Calls Try.prog 12 #[.pointer (some ⟨g, 0, none⟩), .int .i64 cn] w (Rfd w g F (.tuple #[]) (freeL l cn) ds) := by
  obtain ⟨A, n, c, B, m, d, R, rfl⟩ := h
  exact refFree_any R cn hl
theorem rforget_lock (h : RefL w g F l ds) (cn : Int) (hl : ds.length ≤ 1000) : Calls Try.prog 16 #[.pointer (some ⟨g, 0, none⟩), .int .i64 cn] w (Rfd w g F (.tuple #[]) l (delI ds cn)) := by
  obtain ⟨A, n, c, B, m, d, R, rfl⟩ := h
  exact refForget_any R cn hl
theorem rtouch_lock (h : RefL w g F l ds) {cn now lim : Int} (hn : 0 ≤ now ∧ now ≤ 1099511627776) (hl : 0 ≤ lim ∧ lim ≤ 1099511627776) (hds : ds.length ≤ 1000) : Calls Try.prog 14 #[.pointer (some ⟨g, 0, none⟩), .int .i64 cn, .int .i64 now, .int .i64 lim] w (Rfd w g F (.tuple #[]) l (putI (cn, now + lim) ds)) := by
  obtain ⟨A, n, c, B, m, d, R, rfl⟩ := h
  exact refTouch_any R cn now lim hn hl hds
theorem rholder_lock (h : RefL w g F l ds) (u : ByteArray) (hl : l.length ≤ 1000) : Calls Try.prog 20 #[.pointer (some ⟨g, 0, none⟩), .string u] w fun e w' => e = .returned (.tuple #[.int .i64 ((holdL l u).getD 0), .bool (holdL l u).isSome]) ∧ w = w' := by
  obtain ⟨A, n, c, B, m, d, R, rfl⟩ := h
  exact refHolder_any R u (by omega)
theorem rdue_lock (h : RefL w g F l ds) (now : Int) (hds : ds.length ≤ 1000) {n : Nat} (hn : (dueL ds now).length = n) : Calls Try.prog 18 #[.pointer (some ⟨g, 0, none⟩), .int .i64 now] w (IntsN w (dueL ds now) n) := by
  obtain ⟨A, n', c, B, m, d, R, rfl⟩ := h
  exact ints_n hn (refDue_any R now hds)
theorem take_lockb (h : Lock w g F l ds) (u : ByteArray) (hu : u.size ≤ 281474976710656) (c : Int) (hl : l.length ≤ 1000000) {q : Bool} (hq : takeB l u c = q) : Calls Try.prog 9 #[.pointer (some ⟨g, 0, none⟩), .string u, .int .i64 c] w (Lkd w g F (.bool q) (takeL l u c) ds) := by
  subst hq
  exact take_lock h u hu c hl
theorem rtake_lockb (h : RefL w g F l ds) (u : ByteArray) (cn : Int) (hl : l.length ≤ 1000) {q : Bool} (hq : takeB l u cn = q) : Calls Try.prog 10 #[.pointer (some ⟨g, 0, none⟩), .string u, .int .i64 cn] w (Rfd w g F (.bool q) (takeR l u cn) ds) := by
  subst hq
  exact rtake_lock h u cn hl
theorem ref_new (w : World) : RefL (w.alloc (.cells #[.slice none 0 0, .slice none 0 0] 30)) w.heap.size [w.heap.size] [] [] :=
  ⟨none, 0, 0, none, 0, 0, ⟨Bk.new w _ _, Po.nil _ _, Po.nil _ _⟩, rfl⟩
theorem both_new {w w1 : World} {g F} (L : Lock w1 g F [] []) (Q : Only [] w w1) (P : ∀ k ∈ F, w.heap.size ≤ k) : Both w (w1.alloc (.cells #[.slice none 0 0, .slice none 0 0] 30)) g w1.heap.size [] [] := by
  have hlt := L.lt
  refine ⟨F, _, [], L.keep ((Only.refl [] w1).alloc _), ref_new w1, Q.alloc _, P, fun k hk => ?_, fun x hx hm => ?_, List.Perm.refl _⟩
  · simp at hk; subst hk; exact Q.size
  · simp at hm; subst hm; have := hlt _ hx; omega
end
end Go.Proofs.Ytmjkdfneohpbjaa
