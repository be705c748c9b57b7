/-
  A scope with four labels, one behind the other. Plain theorems: nothing of the program stands here.
-/
import Derived.Test.YtakehogenioobaaDoorGotoN
namespace Go.Proofs.YtakehogenioobaaDoor
open Go
section
variable {P : Program} {a : Act} {w : World} {Q : Exit → Act → World → Prop}
theorem wp_scope_four {c b0 b1 b2 b3 : Code} (J : Nat → Act → World → Prop) (μ : Nat → Act → World → Nat) (h0 : findLabel c 0 = some (.seq .skip b0)) (h1 : findLabel c 1 = some (.seq .skip b1)) (h2 : findLabel c 2 = some (.seq .skip b2)) (h3 : findLabel c 3 = some (.seq .skip b3))
    (hJ : ∀ l a w, J (l + 4) a w → False)
    (pass3 : ∀ a w, J 3 a w → b3.wp P (jumps (fun l' a' w' => J l' a' w' ∧ μ l' a' w' < μ 3 a w) Q) a w)
    (pass2 : (∀ a w, J 3 a w → ∀ m, μ 3 a w ≤ m → b3.wp P (jumps (fun l' a' w' => J l' a' w' ∧ μ l' a' w' < m) Q) a w) → ∀ a w, J 2 a w → b2.wp P (jumps (fun l' a' w' => J l' a' w' ∧ μ l' a' w' < μ 2 a w) Q) a w)
    (pass1 : (∀ a w, J 2 a w → ∀ m, μ 2 a w ≤ m → b2.wp P (jumps (fun l' a' w' => J l' a' w' ∧ μ l' a' w' < m) Q) a w) → ∀ a w, J 1 a w → b1.wp P (jumps (fun l' a' w' => J l' a' w' ∧ μ l' a' w' < μ 1 a w) Q) a w)
    (pass0 : (∀ a w, J 1 a w → ∀ m, μ 1 a w ≤ m → b1.wp P (jumps (fun l' a' w' => J l' a' w' ∧ μ l' a' w' < m) Q) a w) → ∀ a w, J 0 a w → b0.wp P (jumps (fun l' a' w' => J l' a' w' ∧ μ l' a' w' < μ 0 a w) Q) a w)
    (first : (∀ a w, J 0 a w → b0.wp P (jumps J Q) a w) → c.wp P (jumps J Q) a w) : (Code.scope c).wp P Q a w := by
  have p2 := pass2 (fun a w h m hm => wp_mono (pass3 a w h) (jumps_mono hm))
  have p1 := pass1 (fun a w h m hm => wp_mono (p2 a w h) (jumps_mono hm))
  have p0 := pass0 (fun a w h m hm => wp_mono (p1 a w h) (jumps_mono hm))
  refine wp_scope_many J μ (fun l => match l with | 0 => .seq .skip b0 | 1 => .seq .skip b1 | 2 => .seq .skip b2 | _ => .seq .skip b3) (fun l a w h => ?_) (first fun a w h => wp_mono (p0 a w h) fun e a' w' he => ?_) (fun l a w h => ?_)
  · match l, h with
    | 0, _ => exact h0
    | 1, _ => exact h1
    | 2, _ => exact h2
    | 3, _ => exact h3
    | l + 4, h => exact (hJ l a w h).elim
  · cases e with
    | goto l' => exact he.1
    | _ => exact he
  · match l, h with
    | 0, h => exact wp_seq (wp_skip (p0 a w h))
    | 1, h => exact wp_seq (wp_skip (p1 a w h))
    | 2, h => exact wp_seq (wp_skip (p2 a w h))
    | 3, h => exact wp_seq (wp_skip (pass3 a w h))
    | l + 4, h => exact (hJ l a w h).elim
end
end Go.Proofs.YtakehogenioobaaDoor
