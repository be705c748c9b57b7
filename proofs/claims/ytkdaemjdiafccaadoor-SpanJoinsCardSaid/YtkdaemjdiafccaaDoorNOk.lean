/-
  May a set be? span's and the document's.
-/
import Derived.Test.YtkdaemjdiafccaaDoorNHas
namespace Go.Proofs.YtkdaemjdiafccaaDoor
open Go.RowKit Go.Instr

theorem enters_mayBe1 : ∀ args w, (callFunc 33 args).run Tryd.prog w = .ok (.enter 33 args) w := Go.Proofs.enters_of Tryd.func33 (by kernel_rfl) rfl
theorem any_not (l : List Rg) : (!(l.any fun r => !okR r)) = l.all okR := by
  induction l with
  | nil => rfl
  | cons r l ih => rw [List.any_cons, List.all_cons, ← ih]; cases okR r <;> simp
set_option maxRecDepth 100000 in
theorem mayBe_any {w : World} {A : Option Addr} {n c : Nat} {l : List Rg} (hs : Rs w A n l) (hn : n ≤ 140737488355328) :
    Calls Tryd.prog 23 #[.slice A n c] w fun e w' => e = .returned (.bool (okS l)) ∧ Only [] w w' := by
  have hl := hs.len
  have hC := ContainsFunc_any (c := c) hs hn 33 #[] enters_mayBe1 (fun r => !okR r) (fun W _ a b => mayBe1_any a b W)
  have hE : okS l = (decide (1 ≤ n) && decide (n ≤ 16) && !(l.any fun r => !okR r)) := by rw [any_not, ← hl]; rfl
  generalize (l.any fun r => !okR r) = b at hC hE
  generalize okS l = q at hE ⊢
  clear hs hl
  by_cases h1 : 1 ≤ n
  · by_cases h2 : n ≤ 16
    · have k1 : (1 : Int) ≤ (n : Int) := by omega
      have k2 : (n : Int) ≤ 16 := by omega
      have HE : Hid (q = !b) := by
        show _ = _
        rw [hE, decide_eq_true h1, decide_eq_true h2]
        rfl
      clear hn hE
      go_enter Tryd.func23, Tryd.ntmps23
      go_wp2_with (go_at_call 27; with_reducible refine hC.mono ?_; rintro e w2 ⟨rfl, O2⟩)
      go_ret
      exact ⟨by rw [HE.out]; rfl, O2⟩
    · have k1 : (1 : Int) ≤ (n : Int) := by omega
      have k2 : ¬ (n : Int) ≤ 16 := by omega
      have HE : Hid (q = false) := by
        show _ = _
        rw [hE, decide_eq_true h1, decide_eq_false h2]
        rfl
      clear hn hC hE
      go_enter Tryd.func23, Tryd.ntmps23
      go_wp2
      go_ret
      exact ⟨by rw [HE.out]; rfl, Only.refl _ _⟩
  · have k1 : ¬ (1 : Int) ≤ (n : Int) := by omega
    have HE : Hid (q = false) := by
      show _ = _
      rw [hE, decide_eq_false h1]
      rfl
    clear hn hC hE
    go_enter Tryd.func23, Tryd.ntmps23
    go_wp2
    go_ret
    exact ⟨by rw [HE.out]; rfl, Only.refl _ _⟩
end Go.Proofs.YtkdaemjdiafccaaDoor
