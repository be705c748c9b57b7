/-
  Scopes with two and with five labels of any numbers. Plain theorems: nothing of the program stands here.
-/
import Derived.Test.YtbbgdcnnacakjaaDoorGotoN
namespace Go.Proofs.YtbbgdcnnacakjaaDoor
open Go
section
variable {P : Program} {a : Act} {w : World} {Q : Exit → Act → World → Prop}
/-- Two labels; the way ahead falls into the first one. -/
theorem wp_scope_duo {c b0 b1 : Code} (la lb : Nat) (hab : lb ≠ la) (J : Nat → Act → World → Prop) (μ : Nat → Act → World → Nat) (h0 : findLabel c la = some (.seq .skip b0)) (h1 : findLabel c lb = some (.seq .skip b1))
    (hJ : ∀ l a w, J l a w → l = la ∨ l = lb)
    (pass1 : ∀ a w, J lb a w → b1.wp P (jumps (fun l' a' w' => J l' a' w' ∧ μ l' a' w' < μ lb a w) Q) a w)
    (pass0 : ∀ a w, J la a w → b0.wp P (jumps (fun l' a' w' => J l' a' w' ∧ μ l' a' w' < μ la a w) Q) a w)
    (first : (∀ a w, J la a w → b0.wp P (jumps J Q) a w) → c.wp P (jumps J Q) a w) : (Code.scope c).wp P Q a w := by
  refine wp_scope_many J μ (fun l => if l = la then .seq .skip b0 else .seq .skip b1) (fun l a w h => ?_) (first fun a w h => wp_mono (pass0 a w h) fun e a' w' he => ?_) (fun l a w h => ?_)
  · rcases hJ l a w h with rfl | rfl
    · simp [h0]
    · simp [h1, hab]
  · cases e with
    | goto l' => exact he.1
    | _ => exact he
  · rcases hJ l a w h with rfl | rfl
    · simp only [if_true]
      exact wp_seq (wp_skip (pass0 a w h))
    · simp only [if_neg hab]
      exact wp_seq (wp_skip (pass1 a w h))
/-- Five labels, numbered 0 .. 4; the way ahead falls into label 1, label 1 into label 2. -/
theorem wp_scope_quin {c b0 b1 b2 b3 b4 : Code} (J : Nat → Act → World → Prop) (μ : Nat → Act → World → Nat) (h0 : findLabel c 0 = some (.seq .skip b0)) (h1 : findLabel c 1 = some (.seq .skip b1)) (h2 : findLabel c 2 = some (.seq .skip b2)) (h3 : findLabel c 3 = some (.seq .skip b3)) (h4 : findLabel c 4 = some (.seq .skip b4))
    (hJ : ∀ l a w, J (l + 5) a w → False)
    (pass0 : ∀ a w, J 0 a w → b0.wp P (jumps (fun l' a' w' => J l' a' w' ∧ μ l' a' w' < μ 0 a w) Q) a w)
    (pass4 : ∀ a w, J 4 a w → b4.wp P (jumps (fun l' a' w' => J l' a' w' ∧ μ l' a' w' < μ 4 a w) Q) a w)
    (pass3 : ∀ a w, J 3 a w → b3.wp P (jumps (fun l' a' w' => J l' a' w' ∧ μ l' a' w' < μ 3 a w) Q) a w)
    (pass2 : ∀ a w, J 2 a w → b2.wp P (jumps (fun l' a' w' => J l' a' w' ∧ μ l' a' w' < μ 2 a w) Q) a w)
    (pass1 : (∀ a w, J 2 a w → ∀ m, μ 2 a w ≤ m → b2.wp P (jumps (fun l' a' w' => J l' a' w' ∧ μ l' a' w' < m) Q) a w) → ∀ a w, J 1 a w → b1.wp P (jumps (fun l' a' w' => J l' a' w' ∧ μ l' a' w' < μ 1 a w) Q) a w)
    (first : (∀ a w, J 1 a w → b1.wp P (jumps J Q) a w) → c.wp P (jumps J Q) a w) : (Code.scope c).wp P Q a w := by
  have p1 := pass1 (fun a w h m hm => wp_mono (pass2 a w h) (jumps_mono hm))
  refine wp_scope_many J μ (fun l => match l with | 0 => .seq .skip b0 | 1 => .seq .skip b1 | 2 => .seq .skip b2 | 3 => .seq .skip b3 | _ => .seq .skip b4) (fun l a w h => ?_) (first fun a w h => wp_mono (p1 a w h) fun e a' w' he => ?_) (fun l a w h => ?_)
  · match l, h with
    | 0, _ => exact h0
    | 1, _ => exact h1
    | 2, _ => exact h2
    | 3, _ => exact h3
    | 4, _ => exact h4
    | l + 5, h => exact (hJ l a w h).elim
  · cases e with
    | goto l' => exact he.1
    | _ => exact he
  · match l, h with
    | 0, h => exact wp_seq (wp_skip (pass0 a w h))
    | 1, h => exact wp_seq (wp_skip (p1 a w h))
    | 2, h => exact wp_seq (wp_skip (pass2 a w h))
    | 3, h => exact wp_seq (wp_skip (pass3 a w h))
    | 4, h => exact wp_seq (wp_skip (pass4 a w h))
    | l + 5, h => exact (hJ l a w h).elim
end
end Go.Proofs.YtbbgdcnnacakjaaDoor
