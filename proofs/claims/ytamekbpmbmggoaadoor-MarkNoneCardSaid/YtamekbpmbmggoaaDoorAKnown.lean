/-
  mark: what every law asks besides.
-/
import Derived.Test.YtamekbpmbmggoaaDoorARefPr
import Derived.Test.YtamekbpmbmggoaaDoorARefP
import Derived.Test.YtamekbpmbmggoaaDoorAApply
namespace Go.Proofs.YtamekbpmbmggoaaDoor
open Go.RowKit Go.Instr

theorem Parse_known (w : World) (fr : Nat × Nat) (hL : Laid w) : Calls Tryd.prog 7 #[.slice (some ⟨w.heap.size, 0, none⟩) 2 2] (w.alloc (.cells #[.string ⟨#[92, 115, 101, 101, 110]⟩, .string ⟨#[92, 68, 69, 76, 69, 84, 69, 68]⟩] 9 fr))
    fun e w' => e = .returned (.tuple #[.int .i64 9, .int .i64 0]) ∧ Only [] w w' := by
  have hS : Sl (w.alloc (.cells #[.string ⟨#[92, 115, 101, 101, 110]⟩, .string ⟨#[92, 68, 69, 76, 69, 84, 69, 68]⟩] 9 fr)) (some ⟨w.heap.size, 0, none⟩) 2 (strs [⟨#[92, 115, 101, 101, 110]⟩, ⟨#[92, 68, 69, 76, 69, 84, 69, 68]⟩]) := Sl.of_new w _ _ _
  have h := Parse_any (c := 2) hS (by omega) (hL.only ((Only.refl _ _).alloc _))
  have hF : parseF (datas [⟨#[92, 115, 101, 101, 110]⟩, ⟨#[92, 68, 69, 76, 69, 84, 69, 68]⟩]) = 9 := by decide
  have hE : parseE (datas [⟨#[92, 115, 101, 101, 110]⟩, ⟨#[92, 68, 69, 76, 69, 84, 69, 68]⟩]) = 0 := by decide
  rw [hF, hE] at h
  exact h.mono fun e w' ⟨h1, h2⟩ => ⟨h1, ((Only.refl _ _).alloc _).then h2⟩
theorem Print_known {w : World} (hL : Laid w) : Calls Tryd.prog 9 #[.int .i64 9] w fun e w' => e = .returned (.string ⟨#[40, 92, 83, 101, 101, 110, 32, 92, 68, 101, 108, 101, 116, 101, 100, 41]⟩) ∧ Only [] w w' := by
  have h := Print_any 9 hL
  have hp : printL 9 = [40, 92, 83, 101, 101, 110, 32, 92, 68, 101, 108, 101, 116, 101, 100, 41] := by decide
  rw [hp] at h
  exact h
theorem known_any {w : World} (hL : Laid w) : Calls Tryd.prog 13 #[] w fun e w' => e = .returned (.bool true) ∧ Only [] w w' := by
  have HL := Lib.hid hL
  clear hL
  go_enter Tryd.func13, Tryd.ntmps13
  go_wp2_with (first
    | (go_at_call 7; with_reducible refine (Parse_known w _ HL.out).mono ?_; rintro e w2 ⟨rfl, hO2⟩)
    | (go_at_call 9; with_reducible refine (Print_known (HL.out.only hO2)).mono ?_; rintro e w3 ⟨rfl, hO3⟩))
  go_ret
  exact ⟨rfl, hO2.then hO3⟩
end Go.Proofs.YtamekbpmbmggoaaDoor
