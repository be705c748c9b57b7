/-
  The walk of the law MarkModes.
-/
import Derived.Test.YtamekbpmbmggoaaDoorAKnown
namespace Go.Proofs.YtamekbpmbmggoaaDoor
open Go.RowKit Go.Instr

def modesB (o f : Int) : Bool :=
  applyV 0 o f == f && bits .and .i64 (applyV 1 o f) f == f && bits .andNot .i64 (applyV 1 o f) f == bits .andNot .i64 o f && bits .and .i64 (applyV 2 o f) f == 0 && bits .andNot .i64 (applyV 2 o f) f == bits .andNot .i64 o f && applyV 9 o f == o
theorem modes_all : ∀ o < 32, ∀ f < 32, modesB (o : Nat) (f : Nat) = true := by decide +kernel

set_option maxHeartbeats 2000000 in
theorem modes_any (o f : Int) {w : World} (hL : Laid w) : Calls Tryd.prog 5 #[.int .i64 o, .int .i64 f] w fun e w' => e = .returned (.bool true) ∧ Only [] w w' := by
  have HL := Lib.hid hL
  clear hL
  by_cases hin : 0 ≤ o ∧ o ≤ 31 ∧ 0 ≤ f ∧ f ≤ 31
  · obtain ⟨h1, h2, h3, h4⟩ := hin
    have hall := modes_all o.toNat (by omega) f.toNat (by omega)
    rw [Int.toNat_of_nonneg h1, Int.toNat_of_nonneg h3] at hall
    unfold modesB at hall
    simp only [Bool.and_eq_true] at hall
    obtain ⟨⟨⟨⟨⟨e1, e2⟩, e3⟩, e4⟩, e5⟩, e6⟩ := hall
    obtain ⟨a, ha⟩ : ∃ a, applyV 0 o f = a := ⟨_, rfl⟩
    obtain ⟨b, hb⟩ : ∃ b, applyV 1 o f = b := ⟨_, rfl⟩
    obtain ⟨c, hc⟩ : ∃ c, applyV 2 o f = c := ⟨_, rfl⟩
    obtain ⟨d, hd⟩ : ∃ d, applyV 9 o f = d := ⟨_, rfl⟩
    rw [ha] at e1
    rw [hb] at e2 e3
    rw [hc] at e4 e5
    rw [hd] at e6
    have HA := Lib.hid ha
    have HB := Lib.hid hb
    have HC := Lib.hid hc
    have HD := Lib.hid hd
    clear ha hb hc hd
    have h1' : ¬ (o < 0) := by omega
    have h2' : ¬ (31 < o) := by omega
    have h3' : ¬ (f < 0) := by omega
    have h4' : ¬ (31 < f) := by omega
    clear h1 h2 h3 h4
    go_enter Tryd.func5, Tryd.ntmps5
    go_wp2_with (first
      | (go_at_call 13; with_reducible refine (known_any HL.out).mono ?_; rintro e w2 ⟨rfl, hO2⟩)
      | (go_at_call 11; with_reducible refine (Apply_any 9 o f _).mono ?_; rintro e w3 ⟨rfl, rfl⟩; rw [HD.out])
      | (go_at_call 11; with_reducible refine (Apply_any 2 o f _).mono ?_; rintro e w3 ⟨rfl, rfl⟩; rw [HC.out])
      | (go_at_call 11; with_reducible refine (Apply_any 1 o f _).mono ?_; rintro e w3 ⟨rfl, rfl⟩; rw [HB.out])
      | (go_at_call 11; with_reducible refine (Apply_any 0 o f _).mono ?_; rintro e w3 ⟨rfl, rfl⟩; rw [HA.out]))
    go_ret
    exact ⟨rfl, hO2⟩
  · go_enter Tryd.func5, Tryd.ntmps5
    go_wp2_with (go_at_call 13; with_reducible refine (known_any HL.out).mono ?_; rintro e w2 ⟨rfl, hO2⟩)
    all_goals first
      | (go_ret; exact ⟨rfl, hO2⟩)
      | (exfalso; omega)
end Go.Proofs.YtamekbpmbmggoaaDoor
