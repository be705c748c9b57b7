/-
  line's mathematics: what bytes that wait are, what is told of them next; all events of bytes, in whatever pieces. Nothing of the program stands here.
-/
import Derived.Lib.Bytealg
import Derived.Lib.IndexLaws
import Derived.Lib.Strings
namespace Go.Proofs.YtakehogenioobaaDoor

/-- Bytes that wait; what comes up to the next end was dropped ahead; so many are a literal. -/
structure LS where
  b : List UInt8
  drop : Bool
  lit : Option Nat
structure Ev where
  kind : Nat
  data : List UInt8

def feedE (s : LS) (x : List UInt8) : Nat := if x.length + s.b.length ≤ 4096 then 0 else 5
def feedS (s : LS) (x : List UInt8) : LS := if x.length + s.b.length ≤ 4096 then ⟨s.b ++ x, s.drop, s.lit⟩ else s
def wantE (n : Int) : Nat := if 0 ≤ n ∧ n ≤ 1200 then 0 else 1
def wantS (s : LS) (n : Int) : LS := if 0 ≤ n ∧ n ≤ 1200 then ⟨s.b, s.drop, some n.toNat⟩ else s

/-- Where the first end stands, or how many bytes there are. -/
def nl (l : List UInt8) : Nat := l.findIdx (· == 10)
theorem nl_le (l : List UInt8) : nl l ≤ l.length := List.findIdx_le_length
theorem nl_cons (x : UInt8) (l : List UInt8) : nl (x :: l) = if x = 10 then 0 else nl l + 1 := by
  unfold nl
  rw [List.findIdx_cons]
  by_cases h : x = 10
  · subst h; simp
  · have : (x == 10) = false := by rw [beq_eq_false_iff_ne]; exact h
    rw [this, if_neg h]
    rfl
theorem index_nl : ∀ l : List UInt8, Lib.indexByte l 10 = if nl l < l.length then (nl l : Int) else -1
  | [] => rfl
  | x :: l => by
    rw [Lib.indexByte, index_nl l, nl_cons]
    by_cases h : x = 10
    · subst h; simp
    · have h' : (x == 10) = false := by rw [beq_eq_false_iff_ne]; exact h
      rw [if_neg (by rw [h']; decide), if_neg h]
      by_cases h2 : nl l < l.length
      · have e1 : ((nl l : Int) == -1) = false := by rw [beq_eq_false_iff_ne]; omega
        simp only [h2, if_true, e1]
        rw [if_neg (by decide), if_pos (by rw [List.length_cons]; omega)]
        rfl
      · simp only [h2, if_false]
        rw [if_pos (by decide), if_neg (by rw [List.length_cons]; omega)]
theorem nl_at {l : List UInt8} (h : nl l < l.length) : l[nl l]'h = 10 := by
  have := List.findIdx_getElem (p := (· == (10 : UInt8))) (xs := l) (w := h)
  exact beq_iff_eq.1 this
theorem nl_before {l : List UInt8} {k : Nat} (hk : k < nl l) (h : k < l.length) : l[k]'h ≠ 10 := by
  have := List.not_of_lt_findIdx (p := (· == (10 : UInt8))) (xs := l) (i := k) hk
  simpa using this
theorem nl_none {l : List UInt8} (h : ∀ x ∈ l, x ≠ 10) : nl l = l.length := by
  rcases Nat.lt_or_ge (nl l) l.length with h1 | h1
  · exact absurd (nl_at h1) (h _ (List.getElem_mem h1))
  · have := nl_le l; omega
theorem nl_append (d r : List UInt8) (h : ∀ x ∈ d, x ≠ 10) : nl (d ++ r) = d.length + nl r := by
  induction d with
  | nil => simp
  | cons x d ih =>
    rw [List.cons_append, nl_cons, if_neg (h x (by simp)), ih (fun y hy => h y (by simp [hy])), List.length_cons]
    omega
theorem nl_left {t : List UInt8} (h : nl t < t.length) (r : List UInt8) : nl (t ++ r) = nl t := by
  induction t with
  | nil => simp at h
  | cons x t ih =>
    rw [List.cons_append, nl_cons, nl_cons]
    by_cases hx : x = 10
    · rw [if_pos hx, if_pos hx]
    · rw [if_neg hx, if_neg hx, ih (by rw [nl_cons, if_neg hx, List.length_cons] at h; omega)]
theorem mem_of_nl {l : List UInt8} (h : ¬ nl l < l.length) : ∀ x ∈ l, x ≠ 10 := by
  intro x hx
  obtain ⟨k, hk, rfl⟩ := List.getElem_of_mem hx
  exact nl_before (by omega) hk

/-- Without one 0D at its end. -/
def tr (l : List UInt8) : List UInt8 := Lib.trimSuffix l [13]
theorem tr_len (l : List UInt8) : (tr l).length ≤ l.length ∧ l.length ≤ (tr l).length + 1 := by
  unfold tr Lib.trimSuffix
  split
  · rw [List.length_take]
    simp
    omega
  · omega
def evOf (drop : Bool) (line : List UInt8) : Ev := if drop = true ∨ 300 < (tr line).length then ⟨2, []⟩ else ⟨1, tr line⟩

def nextR (s : LS) : Option Ev :=
  match s.lit with
  | some n => if s.b.length < n then none else some ⟨3, s.b.take n⟩
  | none => if nl s.b < s.b.length then some (evOf s.drop (s.b.take (nl s.b))) else none
def nextS (s : LS) : LS :=
  match s.lit with
  | some n => if s.b.length < n then s else ⟨s.b.drop n, s.drop, none⟩
  | none => if nl s.b < s.b.length then ⟨s.b.drop (nl s.b + 1), false, none⟩ else if 301 < s.b.length then ⟨[], true, none⟩ else s
def evKind : Option Ev → Nat
  | some e => e.kind
  | none => 0
def evData : Option Ev → List UInt8
  | some e => e.data
  | none => []

/-- All events of bytes. -/
def evs (l : List UInt8) : List Ev := if nl l < l.length then evOf false (l.take (nl l)) :: evs (l.drop (nl l + 1)) else []
termination_by l.length
decreasing_by rw [List.length_drop]; omega
theorem evs_none {l : List UInt8} (h : ¬ nl l < l.length) : evs l = [] := by rw [evs, if_neg h]
theorem evs_cons {l : List UInt8} (h : nl l < l.length) : evs l = evOf false (l.take (nl l)) :: evs (l.drop (nl l + 1)) := by rw [evs, if_pos h]
theorem evs_append {t : List UInt8} (h : nl t < t.length) (r : List UInt8) : evs (t ++ r) = evOf false (t.take (nl t)) :: evs (t.drop (nl t + 1) ++ r) := by
  rw [evs_cons (by rw [nl_left h, List.length_append]; omega), nl_left h, List.take_append_of_le_length (by omega), List.drop_append_of_le_length (by omega)]

/-- The bytes t since the last end (or more): what waits of them. -/
def Sim (s : LS) (t : List UInt8) : Prop := s.lit = none ∧ ((s.drop = false ∧ s.b = t) ∨ (s.drop = true ∧ ∃ d, t = d ++ s.b ∧ 301 < d.length ∧ ∀ x ∈ d, x ≠ 10))
theorem sim_new : Sim ⟨[], false, none⟩ [] := ⟨rfl, .inl ⟨rfl, rfl⟩⟩
theorem sim_len {s : LS} {t : List UInt8} (h : Sim s t) : s.b.length ≤ t.length := by
  rcases h.2 with ⟨_, h⟩ | ⟨_, d, h, _⟩
  · rw [h]; exact Nat.le_refl _
  · rw [h, List.length_append]; omega
theorem sim_feed {s : LS} {t x : List UInt8} (h : Sim s t) (hx : x.length + s.b.length ≤ 4096) : feedE s x = 0 ∧ Sim (feedS s x) (t ++ x) := by
  unfold feedE feedS
  rw [if_pos hx, if_pos hx]
  refine ⟨rfl, h.1, ?_⟩
  rcases h.2 with ⟨h1, h2⟩ | ⟨h1, d, h2, h3⟩
  · exact .inl ⟨h1, by rw [h2]⟩
  · exact .inr ⟨h1, d, by rw [h2, List.append_assoc], h3⟩
theorem sim_some {s : LS} {t : List UInt8} (h : Sim s t) (hs : nl s.b < s.b.length) : nl t < t.length ∧ nextR s = some (evOf false (t.take (nl t))) ∧ Sim (nextS s) (t.drop (nl t + 1)) := by
  have e1 : nextR s = some (evOf s.drop (s.b.take (nl s.b))) := by unfold nextR; rw [h.1]; simp [hs]
  have e2 : nextS s = ⟨s.b.drop (nl s.b + 1), false, none⟩ := by unfold nextS; rw [h.1]; simp [hs]
  rw [e1, e2]
  rcases h.2 with ⟨h1, h2⟩ | ⟨h1, d, h2, h3, h4⟩
  · subst h2
    exact ⟨hs, by rw [h1], rfl, .inl ⟨rfl, rfl⟩⟩
  · have hn : nl t = d.length + nl s.b := by rw [h2, nl_append _ _ h4]
    have hl : t.length = d.length + s.b.length := by rw [h2, List.length_append]
    have e3 : t.take (nl t) = d ++ s.b.take (nl s.b) := by rw [hn, h2, List.take_length_add_append]
    have e4 : t.drop (nl t + 1) = s.b.drop (nl s.b + 1) := by rw [hn, h2, Nat.add_assoc, List.drop_length_add_append]
    have e5 := tr_len (d ++ s.b.take (nl s.b))
    rw [List.length_append] at e5
    refine ⟨by omega, ?_, rfl, .inl ⟨rfl, e4.symm⟩⟩
    rw [e3]
    unfold evOf
    rw [if_pos (.inl h1), if_pos (.inr (by omega))]
theorem sim_none {s : LS} {t : List UInt8} (h : Sim s t) (hs : ¬ nl s.b < s.b.length) : ¬ nl t < t.length ∧ nextR s = none ∧ Sim (nextS s) t := by
  have e1 : nextR s = none := by unfold nextR; rw [h.1]; simp [hs]
  have e2 : nextS s = if 301 < s.b.length then ⟨[], true, none⟩ else s := by unfold nextS; rw [h.1]; simp [hs]
  rw [e1, e2]
  rcases h.2 with ⟨h1, h2⟩ | ⟨h1, d, h2, h3, h4⟩
  · subst h2
    refine ⟨hs, rfl, ?_⟩
    split
    · rename_i h5
      exact ⟨rfl, .inr ⟨rfl, s.b, by simp, h5, mem_of_nl hs⟩⟩
    · exact h
  · have hn : nl t = d.length + nl s.b := by rw [h2, nl_append _ _ h4]
    have hl : t.length = d.length + s.b.length := by rw [h2, List.length_append]
    refine ⟨by omega, rfl, ?_⟩
    split
    · refine ⟨rfl, .inr ⟨rfl, d ++ s.b, by rw [h2]; simp, by rw [List.length_append]; omega, fun x hx => ?_⟩⟩
      rcases List.mem_append.1 hx with hx | hx
      · exact h4 x hx
      · exact mem_of_nl hs x hx
    · exact h
end Go.Proofs.YtakehogenioobaaDoor
