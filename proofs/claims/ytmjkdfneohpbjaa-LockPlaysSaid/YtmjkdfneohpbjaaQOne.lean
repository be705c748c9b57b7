/-
  The law LockOne: what it holds beside a Locks (a map of its own, an act's cells), and what each call leaves of these.
-/
import Derived.Test.YtmjkdfneohpbjaaQKnown
import Derived.Test.YtmjkdfneohpbjaaQLong
namespace Go.Proofs.Ytmjkdfneohpbjaa
open Go.RowKit Go.Maps

/-! ### The contracts, where the whole Locks is told by its blocks -/
section
variable {w : World} {g : Nat} {F : List Nat} {l : List Hd} {ds : List Du}
theorem take_lock (h : Lock w g F l ds) (u : ByteArray) (hu : u.size ≤ 281474976710656) (c : Int) (hl : l.length ≤ 1000000) : Calls Try.prog 9 #[.pointer (some ⟨g, 0, none⟩), .string u, .int .i64 c] w (Lkd w g F (.bool (takeB l u c)) (takeL l u c) ds) := by
  obtain ⟨hb, db, L, rfl⟩ := h
  exact take_any L u hu c hl
theorem free_lock (h : Lock w g F l ds) (c : Int) : Calls Try.prog 11 #[.pointer (some ⟨g, 0, none⟩), .int .i64 c] w (Lkd w g F (.tuple #[]) (freeL l c) ds) := by
  obtain ⟨hb, db, L, rfl⟩ := h
  exact free_any L c
theorem holder_lock (h : Lock w g F l ds) (u : ByteArray) (hu : u.size ≤ 281474976710656) : Calls Try.prog 19 #[.pointer (some ⟨g, 0, none⟩), .string u] w fun e w' => e = .returned (.tuple #[.int .i64 ((holdL l u).getD 0), .bool (holdL l u).isSome]) ∧ w = w' := by
  obtain ⟨hb, db, L, rfl⟩ := h
  exact holder_any L u hu
end

/-! ### What the law holds -/
structure OneB (w wr : World) (g m : Nat) (F : List Nat) (p : Nat) (cs : Array Value) (l : List Hd) : Prop where
  L : Lock wr g F l []
  A : Bk wr p 32 cs
  Q : Only [] w wr
  P : ∀ k ∈ F, w.heap.size ≤ k
  pm : w.heap.size ≤ m
  pp : w.heap.size ≤ p
  nm : m ∉ F
  np : p ∉ F
  mp : m ≠ p
def One (w wr : World) (g m : Nat) (l : List Hd) : Prop := ∃ F, Lock wr g F l [] ∧ HvAt wr m l ∧ Only [] w wr ∧ (∀ k ∈ F, w.heap.size ≤ k) ∧ w.heap.size ≤ m ∧ m ∉ F
section
variable {w wr w' : World} {g m p : Nat} {F : List Nat} {cs : Array Value} {l lh l' : List Hd}
theorem One.act (h : One w wr g m l) (cs : Array Value) : ∃ F, OneB w (wr.alloc (.cells cs 32)) g m F wr.heap.size cs l ∧ HvAt (wr.alloc (.cells cs 32)) m l := by
  obtain ⟨F, L, H, Q, P, pm, nm⟩ := h
  have o : Only [] wr (wr.alloc (.cells cs 32)) := (Only.refl [] wr).alloc _
  have hlt := L.lt
  exact ⟨F, ⟨L.keep o, Bk.new wr _ _, Q.alloc _, P, pm, Q.size, nm, fun hm => by have := hlt _ hm; omega, fun e => by have := KvAt.lt H; omega⟩, KvAt.only H o (by simp)⟩
theorem OneB.one (h : OneB w wr g m F p cs l) (H : HvAt wr m l) : One w wr g m l := ⟨F, h.L, H, h.Q, h.P, h.pm, h.nm⟩
theorem OneB.only {rs : List Nat} (h : OneB w wr g m F p cs l) (o : Only rs wr w') (hr : ∀ x ∈ rs, x ∉ F ∧ x ≠ p ∧ w.heap.size ≤ x) : OneB w w' g m F p cs l :=
  ⟨h.L.only o (fun k hk hm => (hr k hm).1 hk), h.A.only o (fun hm => (hr p hm).2.1 rfl), h.Q.trans o (fun x hx => .inr (hr x hx).2.2), h.P, h.pm, h.pp, h.nm, h.np, h.mp⟩
theorem OneB.step {v : Value} {e : Ending} (h : OneB w wr g m F p cs l) (H : HvAt wr m lh) (hL : Lkd wr g F v l' [] e w') : e = .returned v ∧ ∃ F', OneB w w' g m F' p cs l' ∧ HvAt w' m lh := by
  obtain ⟨he, F', L, O, B⟩ := hL
  refine ⟨he, F', ⟨L, h.A.only O h.np, h.Q.trans O (fun x hx => .inr (h.P x hx)), fun k hk => ?_, h.pm, h.pp, fun hm => ?_, fun hm => ?_, h.mp⟩, KvAt.only H O h.nm⟩
  · rcases B k hk with h1 | h1
    · exact h.P k h1
    · exact Nat.le_trans h.Q.size h1
  · rcases B m hm with h1 | h1
    · exact h.nm h1
    · have := KvAt.lt H; omega
  · rcases B p hm with h1 | h1
    · exact h.np h1
    · have := h.A.lt; omega
/-- The law's own map of who has it, laid. -/
theorem One.begin {g F} (L : Lock wr g F [] []) (Q : Only [] w wr) (P : ∀ k ∈ F, w.heap.size ≤ k) : One w (wr.alloc (.map #[] 0)) g wr.heap.size [] := by
  have hlt := L.lt
  refine ⟨F, L.keep ((Only.refl [] wr).alloc _), ?_, Q.alloc _, P, Q.size, fun hm => by have := hlt _ hm; omega⟩
  exact World.ownsMap_made wr Try.prog 9 (heldP isI)
theorem frees_same (v : Int) (kl : Lit) : frees v kl (.held (.int .i64 v)) = true := decide_eq_true rfl
theorem frees_not {v c : Int} (kl : Lit) (h : ¬ v = c) : frees c kl (.held (.int .i64 v)) = false := decide_eq_false h
theorem hv_entries (h : HvAt w m l) : ((kvI l).map entK).Pairwise (fun p q => p.1 ≠ q.1) ∧ ∀ p ∈ (kvI l).map entK, WideAt.IsKeyLit p.1 := by
  obtain ⟨es, he, h1, h2⟩ := World.ownsMap.entries h keyed
  unfold DK at he
  injection he with he
  rw [he]
  exact ⟨h1, h2⟩
theorem free_fk (h : HvAt w m l) (c : Int) : Fk (frees c) ((kvI l).map entK) (Maps.has (DK (kvI l))) = DK (kvI l) := Fk_start (hv_entries h).2
end
end Go.Proofs.Ytmjkdfneohpbjaa
