/-
  A region that draws, inside a round of a range over a function: what XRel says of it carries over.
-/
import Derived.Test.YtakehogenioobaaDoorRel
import Derived.RangeFuncNested
import Derived.RangeFuncCalls
import Derived.OwnWalkIn
namespace Go.Proofs.YtakehogenioobaaDoor
open Go.RowKit

theorem rows_in {P : Program} {n q : Nat} {row : String} {args : Array Value} {w : World} {R : Value → World → Prop} (h : Rows P row args w R) : RowsIn (Fence.wide.inRound q) n P row args w R := by
  intro c cs _
  obtain ⟨v, w', h1, h2⟩ := h c cs
  exact ⟨v, w', h1, stepsIn_wide.2 h2⟩
section
variable {P : Program} {Q : Exit → Act → World → Prop} {n q : Nat}
theorem oper_in {o : Oper} (hd : ∀ c, o.op ≠ .defer c) {a : Act} {w : World} {K : Act → World → Prop} (h : o.wp P a w K Q) : o.wpIn (Fence.wide.inRound q) n P a w K Q := by
  refine ⟨fun _ _ => trivial, ?_⟩
  rw [Oper.semAt_plain _ _ _ hd]
  unfold Oper.wp at h
  cases hr : (execOp a.eval o).run P w with
  | ok r w' =>
    rw [hr] at h
    cases r with
    | value v => exact h
    | skip => exact h
    | defer d => exact h
    | enter f args => exact ⟨fun hh => Bool.noConfusion (show false = true from hh), CallsIn.inRound q (callsIn_wide.2 h)⟩
    | row r args => exact ⟨fun hh => Bool.noConfusion (show false = true from hh), rows_in h⟩
    | round => exact h.elim
    | _ => exact h.elim
  | halt hh w' =>
    rw [hr] at h
    cases hh with
    | panic v => exact h
    | _ => exact h.elim
theorem any_in {md : Region.Mode} {ops : Array Oper} (hd : ∀ (i : Nat) o, ops[i]? = some o → ∀ c, o.op ≠ .defer c) (ho : ¬ LetsOut Q) : ∀ (fuel : Nat) (listed : Array Bool) (a : Act) (w : World),
    wpAny P md ops Q fuel listed a w → wpAnyIn (Fence.wide.inRound q) n P md ops Q fuel listed a w := by
  intro fuel
  induction fuel with
  | zero => intro listed a w h; exact h
  | succ fuel ih =>
    intro listed a w h
    refine ⟨h.1, fun i hi => ?_⟩
    have h2 := h.2 i hi
    unfold wpOp at h2
    unfold wpOpIn
    cases hoi : ops[i]? with
    | none => rw [hoi] at h2; exact ih _ _ _ h2
    | some o =>
      rw [hoi] at h2
      simp only at h2 ⊢
      by_cases hw : Region.wanted o (yielded ops a.tmps) = true
      · rw [if_pos hw] at h2 ⊢
        rcases h2 with h2 | ⟨_, h2⟩
        · exact Oper.wpIn_mono (fun a w hk => ih _ _ _ hk) (oper_in (hd i o hoi) h2)
        · exact absurd h2 ho
      · rw [if_neg hw] at h2 ⊢
        exact ⟨fun _ _ => trivial, ih _ _ _ h2⟩
theorem region_round (rs Ws : List Nat) {id : Nat} {a : Act} {w : World} {l : List Oper} {K : List Kd} (hm : P.follows .mixedOrders = true) (hB : (relB l.toArray && decide (l.length < 9999)) = true)
    (hd : (l.all fun o => match o.op with | .defer _ => false | _ => true) = true) (ho : ¬ LetsOut Q) (h : relWalk P l.toArray (Only []) (OnlyB w.heap.size rs) Ws w.drew Q K l 0 a []) : (Code.region id l.toArray true).wpIn (Fence.wide.inRound q) n P Q a w := by
  refine wpIn_region_any hm (any_in (fun i o hi c hc => ?_) ho _ _ _ _ (any_rel (Only []) (OnlyB w.heap.size rs) Ws (Only.refl []) only_trans onlyB_trans onlyB_sub hB h))
  have hmem : o ∈ l := by
    have := Array.mem_of_getElem? hi
    simpa using this
  have := List.all_eq_true.1 hd o hmem
  rw [hc] at this
  cases this
end
end Go.Proofs.YtakehogenioobaaDoor
