/-
  A call that only drew: its words, and how it comes back in a region that draws ('go_quiet').
-/
import Derived.Test.YthaodlegpjedoaaWords
namespace Go.Proofs.Ythaodlegpjedoaa
open Go.RowKit

/-- A call that only drew. -/
def Quiet (w : World) (v : Value) (e : Ending) (w' : World) : Prop := e = .returned v ∧ ∃ m, w' = w.drewN m
theorem Quiet.only {w : World} {v : Value} {e : Ending} {w' : World} (h : Quiet w v e w') : Only [] w w' := by
  obtain ⟨_, m, rfl⟩ := h
  exact (Only.refl _ _).drewN m

theorem quiet_on {P : Program} {f : FuncId} {args : Array Value} {w : World} {n : Nat} {v : Value} (h : Calls P f args (w.drewN n) (Quiet (w.drewN n) v)) :
    Calls P f args (w.drewN n) fun e w'' => e = .returned v ∧ ∃ m, w'' = w.drewN m :=
  h.mono fun _ _ ⟨he, m, hm⟩ => ⟨he, n + m, by rw [hm, World.drewN_drewN]⟩
theorem quiet_back {P : Program} {f : FuncId} {args : Array Value} {w : World} {n : Nat} {v : Value} (h : Calls P f args (w.drewN n) fun e w' => e = .returned v ∧ w.drewN n = w') :
    Calls P f args (w.drewN n) fun e w'' => e = .returned v ∧ ∃ m, w'' = w.drewN m :=
  h.mono fun _ _ ⟨he, hm⟩ => ⟨he, n, hm.symm⟩
theorem drewN_more {w : World} (n m : Nat) : ∃ k, (w.drewN n).drewN m = w.drewN k := ⟨n + m, World.drewN_drewN _ _ _⟩
theorem quiet_refl {w : World} {v : Value} : Quiet w v (.returned v) w := ⟨rfl, 0, rfl⟩
end Go.Proofs.Ythaodlegpjedoaa
