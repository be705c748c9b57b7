/-
  A scope with three labels of any numbers, one behind the other in the text. Plain theorems: nothing of the program stands here.
-/
import Derived.Test.YtkdaemjdiafccaaDoorGotoN
namespace Go.Proofs.YtkdaemjdiafccaaDoor
open Go
section
variable {P : Program} {a : Act} {w : World} {Q : Exit → Act → World → Prop}
theorem wp_scope_tri {c b0 b1 b2 : Code} (la lb lc : Nat) (hab : lb ≠ la) (hac : lc ≠ la) (hbc : lc ≠ lb) (J : Nat → Act → World → Prop) (μ : Nat → Act → World → Nat) (h0 : findLabel c la = some (.seq .skip b0)) (h1 : findLabel c lb = some (.seq .skip b1)) (h2 : findLabel c lc = some (.seq .skip b2))
    (hJ : ∀ l a w, J l a w → l = la ∨ l = lb ∨ l = lc)
    (pass2 : ∀ a w, J lc a w → b2.wp P (jumps (fun l' a' w' => J l' a' w' ∧ μ l' a' w' < μ lc a w) Q) a w)
    (pass1 : (∀ a w, J lc a w → ∀ m, μ lc a w ≤ m → b2.wp P (jumps (fun l' a' w' => J l' a' w' ∧ μ l' a' w' < m) Q) a w) → ∀ a w, J lb a w → b1.wp P (jumps (fun l' a' w' => J l' a' w' ∧ μ l' a' w' < μ lb a w) Q) a w)
    (pass0 : (∀ a w, J lb a w → ∀ m, μ lb a w ≤ m → b1.wp P (jumps (fun l' a' w' => J l' a' w' ∧ μ l' a' w' < m) Q) a w) → ∀ a w, J la a w → b0.wp P (jumps (fun l' a' w' => J l' a' w' ∧ μ l' a' w' < μ la a w) Q) a w)
    (first : (∀ a w, J la a w → b0.wp P (jumps J Q) a w) → c.wp P (jumps J Q) a w) : (Code.scope c).wp P Q a w := by
  have p1 := pass1 (fun a w h m hm => wp_mono (pass2 a w h) (jumps_mono hm))
  have p0 := pass0 (fun a w h m hm => wp_mono (p1 a w h) (jumps_mono hm))
  refine wp_scope_many J μ (fun l => if l = la then .seq .skip b0 else if l = lb then .seq .skip b1 else .seq .skip b2) (fun l a w h => ?_) (first fun a w h => wp_mono (p0 a w h) fun e a' w' he => ?_) (fun l a w h => ?_)
  · rcases hJ l a w h with rfl | rfl | rfl
    · simp [h0]
    · simp [h1, hab]
    · simp [h2, hac, hbc]
  · cases e with
    | goto l' => exact he.1
    | _ => exact he
  · rcases hJ l a w h with rfl | rfl | rfl
    · simp only [if_true]
      exact wp_seq (wp_skip (p0 a w h))
    · simp only [if_neg hab, if_true]
      exact wp_seq (wp_skip (p1 a w h))
    · simp only [if_neg hac, if_neg hbc]
      exact wp_seq (wp_skip (pass2 a w h))
end
end Go.Proofs.YtkdaemjdiafccaaDoor
