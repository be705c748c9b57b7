/-
  More words for a row of the call's own: a store into it, its beginning.
-/
import Derived.Test.YtbbgdcnnacakjaaDoorAppend
namespace Go.Proofs.YtbbgdcnnacakjaaDoor
open Go.RowKit

theorem Own.stored {w : World} {t : TypeId} {g n c : Nat} {xs : List Value} (h : Own w t (some ⟨g, 0, none⟩) n c xs) (j : Nat) (u : Value) : Own (w.setCell ⟨g, j, none⟩ u) t (some ⟨g, 0, none⟩) n c (xs.set j u) :=
  (World.ownsRow.stored h j u).1
theorem Own.free {w : World} {t : TypeId} {g n c : Nat} {xs : List Value} (h : Own w t (some ⟨g, 0, none⟩) n c xs) (j : Nat) : w.frozen? ⟨g, j, none⟩ = false := World.ownsRow.frozenAt h j
/-- The beginning of a row of one's own. -/
theorem Own.pre {w : World} {t : TypeId} {A : Option Addr} {n c : Nat} {xs : List Value} (h : Own w t A n c xs) {k : Nat} (hk : k ≤ n) : Own w t A k c (xs.take k) := by
  have hl := h.len
  refine ⟨by rw [List.length_take]; omega, ?_⟩
  rcases h.2 with ⟨hv, h0⟩ | ⟨g, cap, cur, hv, hb, hg, hc, hm, hs, ht⟩
  · simp only [Value.slice.injEq] at hv
    obtain ⟨rfl, _, rfl⟩ := hv
    left
    exact ⟨by rw [show k = 0 from by omega], by omega⟩
  · right
    simp only [Value.slice.injEq] at hv
    obtain ⟨rfl, _, rfl⟩ := hv
    refine ⟨g, c, cur, rfl, hb, hg, by omega, hm, hs, ?_⟩
    rw [← ht, List.take_take, Nat.min_eq_left (by omega), Nat.mul_one]
theorem Own.apart {w : World} {t t' : TypeId} {A A' : Option Addr} {n n' c c' : Nat} {xs xs' : List Value} (h : Own w t A n c xs) (h' : Own w t' A' n' c' xs') (hne : t ≠ t') : ∀ x ∈ blks A, x ∉ blks A' := by
  intro x hx hm
  obtain ⟨u, hu⟩ := h.bk hx
  obtain ⟨v, hv⟩ := h'.bk hm
  exact hu.ne hv hne rfl
end Go.Proofs.YtbbgdcnnacakjaaDoor
