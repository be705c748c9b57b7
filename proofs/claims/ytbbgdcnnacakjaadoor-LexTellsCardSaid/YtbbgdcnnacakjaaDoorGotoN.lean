/-
  A scope with several labels to which the run jumps: what holds at each jump, a measure that every pass from a label lowers. Plain theorems: nothing of the program stands here.
-/
import Derived.Scope
import Derived.ScopeJumps
namespace Go.Proofs.YtbbgdcnnacakjaaDoor
open Go

/-- As Q; by a goto to label l: G l. -/
def jumps (G : Nat → Act → World → Prop) (Q : Exit → Act → World → Prop) : Exit → Act → World → Prop
  | .goto l, a, w => G l a w
  | e, a, w => Q e a w
section
variable {P : Program} {a : Act} {w : World} {Q : Exit → Act → World → Prop}
theorem wp_scope_many {c : Code} (J : Nat → Act → World → Prop) (μ : Nat → Act → World → Nat) (rest : Nat → Code) (hf : ∀ l a w, J l a w → findLabel c l = some (rest l))
    (first : c.wp P (jumps J Q) a w)
    (pass : ∀ l a w, J l a w → (rest l).wp P (jumps (fun l' a' w' => J l' a' w' ∧ μ l' a' w' < μ l a w) Q) a w) : (Code.scope c).wp P Q a w := by
  intro b k cs
  have hg : ∀ l a w, J l a w → gotoIn l (.inScope c :: k) = some (.code (rest l) :: .inScope c :: k) := fun l a w h => by simp [gotoIn, hf l a w h]
  have key : ∀ n l a w, μ l a w = n → J l a w → ∃ e a' w', Q e a' w' ∧ Arrives P (lone (b.at a (.code (rest l) :: .inScope c :: k)) cs w) b k cs e a' w' := by
    intro n
    induction n using Nat.strongRecOn with
    | _ n ih =>
      intro l a w hn hJ
      obtain ⟨e, a₁, w₁, hq, harr⟩ := pass l a w hJ b (.inScope c :: k) cs
      cases e with
      | goto l' =>
        obtain ⟨hJ', hlt⟩ := hq
        obtain ⟨e₂, a₂, w₂, hq₂, harr₂⟩ := ih _ (by omega) l' a₁ w₁ rfl hJ'
        exact ⟨e₂, a₂, w₂, hq₂, .of_steps (harr _ (hg l' a₁ w₁ hJ')) harr₂⟩
      | normal => exact ⟨.normal, a₁, w₁, hq, Steps.trans harr (.one step_inScope)⟩
      | exit id => exact ⟨.exit id, a₁, w₁, hq, fun k' hk => harr k' (by simp [exitTo, hk])⟩
      | ret => exact ⟨_, a₁, w₁, hq, harr⟩
      | panic ch => exact ⟨_, a₁, w₁, hq, harr⟩
      | outgrown => exact ⟨_, a₁, w₁, hq, harr⟩
  obtain ⟨e, a₁, w₁, hq, harr⟩ := first b (.inScope c :: k) cs
  cases e with
  | goto l' =>
    obtain ⟨e₂, a₂, w₂, hq₂, harr₂⟩ := key _ l' a₁ w₁ rfl hq
    exact ⟨e₂, a₂, w₂, hq₂, .of_steps (.head step_scope (harr _ (hg l' a₁ w₁ hq))) harr₂⟩
  | normal => exact ⟨.normal, a₁, w₁, hq, .head step_scope (Steps.trans harr (.one step_inScope))⟩
  | exit id => exact ⟨.exit id, a₁, w₁, hq, fun k' hk => .head step_scope (harr k' (by simp [exitTo, hk]))⟩
  | ret => exact ⟨_, a₁, w₁, hq, .of_steps (.one step_scope) harr⟩
  | panic ch => exact ⟨_, a₁, w₁, hq, .of_steps (.one step_scope) harr⟩
  | outgrown => exact ⟨_, a₁, w₁, hq, .of_steps (.one step_scope) harr⟩
/-- What a pass is to reach, weakened to a greater measure. -/
theorem jumps_mono {J : Nat → Act → World → Prop} {μ : Nat → Act → World → Nat} {m m' : Nat} (h : m ≤ m') : ∀ e a w, jumps (fun l a w => J l a w ∧ μ l a w < m) Q e a w → jumps (fun l a w => J l a w ∧ μ l a w < m') Q e a w := by
  intro e a w he
  cases e with
  | goto l => exact ⟨he.1, Nat.lt_of_lt_of_le he.2 h⟩
  | _ => exact he
/-- Three labels, one behind the other: each pass may fall into the next one. -/
theorem wp_scope_three {c b0 b1 b2 : Code} (J : Nat → Act → World → Prop) (μ : Nat → Act → World → Nat) (h0 : findLabel c 0 = some (.seq .skip b0)) (h1 : findLabel c 1 = some (.seq .skip b1)) (h2 : findLabel c 2 = some (.seq .skip b2))
    (hJ : ∀ l a w, J (l + 3) a w → False)
    (pass2 : ∀ a w, J 2 a w → b2.wp P (jumps (fun l' a' w' => J l' a' w' ∧ μ l' a' w' < μ 2 a w) Q) a w)
    (pass1 : (∀ a w, J 2 a w → ∀ m, μ 2 a w ≤ m → b2.wp P (jumps (fun l' a' w' => J l' a' w' ∧ μ l' a' w' < m) Q) a w) → ∀ a w, J 1 a w → b1.wp P (jumps (fun l' a' w' => J l' a' w' ∧ μ l' a' w' < μ 1 a w) Q) a w)
    (pass0 : (∀ a w, J 1 a w → ∀ m, μ 1 a w ≤ m → b1.wp P (jumps (fun l' a' w' => J l' a' w' ∧ μ l' a' w' < m) Q) a w) → ∀ a w, J 0 a w → b0.wp P (jumps (fun l' a' w' => J l' a' w' ∧ μ l' a' w' < μ 0 a w) Q) a w)
    (first : (∀ a w, J 0 a w → b0.wp P (jumps J Q) a w) → c.wp P (jumps J Q) a w) : (Code.scope c).wp P Q a w := by
  have p1 := pass1 (fun a w h m hm => wp_mono (pass2 a w h) (jumps_mono hm))
  have p0 := pass0 (fun a w h m hm => wp_mono (p1 a w h) (jumps_mono hm))
  refine wp_scope_many J μ (fun l => match l with | 0 => .seq .skip b0 | 1 => .seq .skip b1 | _ => .seq .skip b2) (fun l a w h => ?_) (first fun a w h => wp_mono (p0 a w h) fun e a' w' he => ?_) (fun l a w h => ?_)
  · match l, h with
    | 0, _ => exact h0
    | 1, _ => exact h1
    | 2, _ => exact h2
    | l + 3, h => exact (hJ l a w h).elim
  · cases e with
    | goto l' => exact he.1
    | _ => exact he
  · match l, h with
    | 0, h => exact wp_seq (wp_skip (p0 a w h))
    | 1, h => exact wp_seq (wp_skip (p1 a w h))
    | 2, h => exact wp_seq (wp_skip (pass2 a w h))
    | l + 3, h => exact (hJ l a w h).elim
end
end Go.Proofs.YtbbgdcnnacakjaaDoor
