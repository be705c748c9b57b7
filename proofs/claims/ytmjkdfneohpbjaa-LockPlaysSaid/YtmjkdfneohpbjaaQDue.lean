/-
  lock: Due: all that are due, rising.
-/
import Derived.Test.YtmjkdfneohpbjaaQTouch
namespace Go.Proofs.Ytmjkdfneohpbjaa
open Go.RowKit Go.Maps Go.Shelf Go.Sort

/-! ### The plain part -/
theorem find_DI (l : List Du) (k : Int) (z : DataW Value) : (DI l).atKey (keyI k) z = match l.find? (fun p => decide (p.1 = k)) with | some p => .held (.int .i64 p.2) | none => z := by
  unfold DI DataW.atKey
  simp only []
  rw [List.find?_map]
  have : ((fun p : Lit × DataW Value => p.1.sameKey (keyI k)) ∘ entI) = fun p : Du => decide (p.1 = k) := by
    funext p
    exact same_keyI _ _
  rw [this]
  cases List.find? (fun p : Du => decide (p.1 = k)) l <;> rfl
theorem mem_DI {l : List Du} {k c : Int} (h : (DI l).atKey (keyI k) .nil = .held (.int .i64 c)) : (k, c) ∈ l := by
  rw [find_DI] at h
  cases e : l.find? (fun p => decide (p.1 = k)) with
  | none => rw [e] at h; cases h
  | some p =>
    rw [e] at h
    have h1 := List.mem_of_find?_eq_some e
    have h2 := List.find?_some e
    simp at h2
    have h3 : p.2 = c := by injection h with h; injection h
    rw [← h2, ← h3]
    exact h1
/-- One more of those with unlike keys. -/
theorem filter_more {x : Du} {q : Du → Bool} : ∀ {l : List Du}, l.Pairwise (fun a b => a.1 ≠ b.1) → x ∈ l → q x = false → (l.filter fun p => q p || decide (p.1 = x.1)).Perm (x :: l.filter q)
  | [], _, h, _ => nomatch h
  | a :: r, hp, hx, hq => by
    obtain ⟨h1, h2⟩ := List.pairwise_cons.1 hp
    by_cases e : a.1 = x.1
    · have hax : a = x := by
        rcases List.mem_cons.1 hx with h | h
        · exact h.symm
        · exact absurd e (h1 x h)
      subst hax
      have hr : r.filter (fun p => q p || decide (p.1 = a.1)) = r.filter q := List.filter_congr fun p hp => by
        have : ¬ p.1 = a.1 := fun e => h1 p hp e.symm
        simp [this]
      rw [List.filter_cons, List.filter_cons, hr]
      simp [hq]
    · have hxr : x ∈ r := by
        rcases List.mem_cons.1 hx with h | h
        · exact absurd (by rw [h]) e
        · exact h
      have ih := filter_more h2 hxr hq
      rw [List.filter_cons, List.filter_cons]
      cases hqa : q a
      · simpa [e, hqa] using ih
      · simp only [Bool.true_or, if_true]
        exact (ih.cons a).trans (List.Perm.swap x a _)
/-- Those that have come, as far as they are due. -/
def cameL (ds : List Du) (now : Int) (left : Lit → Bool) : List Int := dueL (ds.filter fun p => !left (keyI p.1)) now
theorem came_start (ds : List Du) (now : Int) : cameL ds now (Maps.has (DI ds)) = [] := by
  have : ds.filter (fun p => !Maps.has (DI ds) (keyI p.1)) = [] := by
    rw [List.filter_eq_nil_iff]
    intro p hp
    have : Maps.has (DI ds) (keyI p.1) = true := by
      unfold DI Maps.has
      simp only []
      rw [List.any_map, List.any_eq_true]
      exact ⟨p, hp, by show (keyI p.1).sameKey (keyI p.1) = true; rw [same_keyI]; simp⟩
    simp [this]
  unfold cameL dueL
  rw [this]
  rfl
theorem came_end {ds : List Du} {now : Int} {left : Lit → Bool} (h : ∀ kl, left kl = false) : cameL ds now left = dueL ds now := by
  unfold cameL
  rw [List.filter_eq_self.2 (fun p _ => by simp [h])]
theorem came_step {ds : List Du} (hr : RiseI ds) {now k c : Int} {left : Lit → Bool} (hl : left (keyI k) = true) (hm : (k, c) ∈ ds) {cs : List Int} (hc : cs.Perm (cameL ds now left)) :
    (if c ≤ now then cs ++ [k] else cs).Perm (cameL ds now (fun z => left z && !z.sameKey (keyI k))) := by
  have hp : ds.Pairwise (fun a b => a.1 ≠ b.1) := hr.imp fun {a b} h => by omega
  have e : (ds.filter fun p => !(left (keyI p.1) && !(keyI p.1).sameKey (keyI k))) = ds.filter fun p => (!left (keyI p.1)) || decide (p.1 = (k, c).1) := List.filter_congr fun p _ => by
    rw [same_keyI, Bool.not_and, Bool.not_not]
  have h1 : (ds.filter fun p => !(left (keyI p.1) && !(keyI p.1).sameKey (keyI k))).Perm ((k, c) :: ds.filter fun p => !left (keyI p.1)) := by
    rw [e]
    exact filter_more hp hm (by simp [hl])
  have h2 := (h1.filter (fun p => decide (p.2 ≤ now))).map Prod.fst
  unfold cameL dueL at *
  refine List.Perm.trans ?_ h2.symm
  rw [List.filter_cons]
  by_cases hn : c ≤ now
  · simp only [hn, decide_true, if_true, List.map_cons]
    exact (List.perm_append_singleton k cs).trans (hc.cons k)
  · simpa [hn] using hc
theorem due_rise {ds : List Du} (h : RiseI ds) (now : Int) : (dueL ds now).Pairwise (· < ·) := by
  unfold dueL
  rw [List.pairwise_map]
  exact h.filter _
theorem sort_due {ds : List Du} (h : RiseI ds) {now : Int} {cs : List Int} (hc : cs.Perm (dueL ds now)) : cs.mergeSort (fun x y => decide (x ≤ y)) = dueL ds now := by
  have tr : ∀ a b c : Int, decide (a ≤ b) = true → decide (b ≤ c) = true → decide (a ≤ c) = true := fun a b c h1 h2 => by simp only [decide_eq_true_eq] at *; omega
  have to : ∀ a b : Int, (decide (a ≤ b) || decide (b ≤ a)) = true := fun a b => by simp only [Bool.or_eq_true, decide_eq_true_eq]; omega
  refine List.Perm.eq_of_pairwise (le := fun a b => decide (a ≤ b) = true) (fun a b _ _ h1 h2 => by simp only [decide_eq_true_eq] at h1 h2; omega) (List.pairwise_mergeSort tr to cs) ((due_rise h now).imp fun {a b} h => by simp only [decide_eq_true_eq]; omega) ((List.mergeSort_perm cs _).trans hc)
end Go.Proofs.Ytmjkdfneohpbjaa
