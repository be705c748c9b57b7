/-
  The law SpanBack: a set that may be, printed and parsed, is it.
-/
import Derived.Test.YtkdaemjdiafccaaDoorNKnown
import Derived.Test.YtkdaemjdiafccaaDoorNSame
namespace Go.Proofs.YtkdaemjdiafccaaDoor
open Go.RowKit Go.Instr

theorem sameL_self (l : List Rg) : sameL l l = true := by simp [sameL]
theorem Back_any {w : World} {A : Option Addr} {n c : Nat} {l : List Rg} (hs : Rs w A n l) (hL : Laid w) : Calls Tryd.prog 4 #[.slice A n c] w fun e w' => e = .returned (.bool true) ∧ Only [] w w' := by
  by_cases h40 : 40 < n
  · have h40' : (40 : Int) < (n : Int) := by omega
    clear hs hL
    go_enter Tryd.func4, Tryd.ntmps4
    go_wp2
    go_ret
    exact ⟨rfl, Only.refl _ _⟩
  · have h40' : ¬ (40 : Int) < (n : Int) := by omega
    have cI := refIs_any (c := c) hs (by omega)
    cases hok : okS l with
    | false =>
      rw [hok] at cI
      clear hs hL hok h40
      go_enter Tryd.func4, Tryd.ntmps4
      go_wp2_with (go_at_call 18; with_reducible refine cI.mono ?_; rintro e w1 ⟨rfl, O1⟩)
      go_ret
      exact ⟨rfl, O1⟩
    | true =>
      rw [hok] at cI
      have hback := prL_back hok
      have hple := prL_le l
      have HS := Lib.hid hs
      have HL := Lib.hid hL
      have CP : ∀ W, Only [] w W → Calls Tryd.prog 12 #[.slice A n c] W fun e w' => e = .returned (.string (St (prL l))) ∧ Only [] W w' := fun W o => Print_any (HL.out.only o) (HS.out.keep o) (by omega)
      have CA : ∀ W, Calls Tryd.prog 9 #[.string (St (prL l))] W fun e w' => ∃ A2 c2, e = .returned (.tuple #[.slice A2 n c2, .int .i64 0]) ∧ Hid (Rs w' A2 n l) ∧ Only [] W w' := fun W => by
        have h := Parse_any (St (prL l)) W (by rw [St_size]; omega)
        rw [St_list, hback] at h
        refine h.mono fun e w' ⟨A2, c2, h1, h2, _, h4⟩ => ⟨A2, c2, ?_, ?_, h4⟩
        · rw [h1]; show Ending.returned (.tuple #[.slice A2 l.length c2, .int .i64 0]) = _; rw [HS.out.len]
        · have := h2.reads; show Rs w' A2 n l; rw [← HS.out.len]; exact this
      obtain ⟨t, ht⟩ : ∃ t, St (prL l) = t := ⟨_, rfl⟩
      rw [ht] at CP CA
      have hn : n ≤ 40 := by omega
      clear hs hL hok h40 hback hple ht
      go_enter Tryd.func4, Tryd.ntmps4
      go_wp2_with first
        | (go_at_call 18; with_reducible refine cI.mono ?_; rintro e w1 ⟨rfl, O1⟩)
        | (go_at_call 12; with_reducible refine (CP _ O1).mono ?_; rintro e w2 ⟨rfl, O2⟩; have O12 := O1.then O2)
        | (go_at_call 9; with_reducible refine (CA _).mono ?_; rintro e w3 ⟨A2, c2, rfl, HV, O3⟩; have O13 := O12.then O3; have hsame := sameL_self l)
        | (go_at_call 11; with_reducible refine (refSame_any (HS.out.keep O13) HV.out (by omega) (by omega)).mono ?_; rintro e w4 ⟨rfl, O4⟩; rw [hsame]; have O14 := O13.then O4)
        | (go_at_call 17; with_reducible refine (known_any (HL.out.only O14)).mono ?_; rintro e w5 ⟨rfl, O5⟩)
      go_ret
      exact ⟨rfl, O14.then O5⟩
end Go.Proofs.YtkdaemjdiafccaaDoor
