/-
  A scope in which the run jumps back to one label: the way ahead of the label, and the pass from it, shown once. Plain theorems: nothing of the program stands here.
-/
import Derived.ScopeJumps
namespace Go.Proofs.YtbbgdcnnacakjaaDoor
open Go
section
variable {P : Program} {a : Act} {w : World} {Q : Exit → Act → World → Prop}
theorem wp_scope_back {c body : Code} (l : Nat) (J : Act → World → Prop) (μ : Act → World → Nat) (hf : findLabel c l = some (.seq .skip body))
    (pass : ∀ a w, J a w → body.wp P (Exit.jump l (fun a' w' => J a' w' ∧ μ a' w' < μ a w) Q) a w)
    (first : (∀ a w, J a w → body.wp P (Exit.jump l J Q) a w) → c.wp P (Exit.jump l J Q) a w) : (Code.scope c).wp P Q a w :=
  wp_scope_jumps l J μ hf (first fun a w h => wp_mono (pass a w h) fun e a' w' he => by
    cases e with
    | goto l' => exact ⟨he.1, he.2.1⟩
    | _ => exact he) fun a w h => wp_seq (wp_skip (pass a w h))
end
end Go.Proofs.YtbbgdcnnacakjaaDoor
