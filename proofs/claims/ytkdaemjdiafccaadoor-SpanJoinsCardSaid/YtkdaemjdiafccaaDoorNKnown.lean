/-
  span: what every law asks besides.
-/
import Derived.Test.YtkdaemjdiafccaaDoorNParse
import Derived.Test.YtkdaemjdiafccaaDoorNPrint
import Derived.Test.YtkdaemjdiafccaaDoorNHas
namespace Go.Proofs.YtkdaemjdiafccaaDoor
open Go.RowKit Go.Instr

def KL : List Rg := [(1, 1), (5, 1073741824)]
theorem prs_known : prs 16 [49, 44, 53, 58, 42] = some KL := by decide
theorem itoa_dig {u : Nat} (h : u < 10) : Lib.itoa (u : Int) = [UInt8.ofNat (48 + u)] := by
  unfold Lib.itoa
  rw [if_neg (by omega), Int.toNat_natCast, Lib.decDigits_one h]
theorem prL_known : prL KL = [49, 44, 53, 58, 42] := by
  have h1 : numT 1 = [49] := by
    unfold numT
    rw [if_neg (by decide), show (1 : Int) = ((1 : Nat) : Int) from rfl, itoa_dig (by omega)]
    rfl
  have h5 : numT 5 = [53] := by
    unfold numT
    rw [if_neg (by decide), show (5 : Int) = ((5 : Nat) : Int) from rfl, itoa_dig (by omega)]
    rfl
  have hs : numT 1073741824 = [42] := by
    unfold numT
    rw [if_pos rfl]
  have r1 : rngT (1, 1) = [49] := by
    unfold rngT
    rw [if_pos rfl, h1]
  have r2 : rngT (5, 1073741824) = [53, 58, 42] := by
    unfold rngT
    rw [if_neg (by decide), h5, hs]
    rfl
  unfold prL
  rw [if_pos (by decide)]
  show Lib.join [rngT (1, 1), rngT (5, 1073741824)] [44] = _
  rw [r1, r2, join_two, Lib.join_one]
  rfl
theorem Parse_known (w : World) : Calls Tryd.prog 9 #[.string ⟨#[49, 44, 53, 58, 42]⟩] w fun e w' => ∃ A c, e = .returned (.tuple #[.slice A 2 c, .int .i64 0]) ∧ Hid (Rs w' A 2 KL) ∧ Only [] w w' := by
  have h := Parse_any ⟨#[49, 44, 53, 58, 42]⟩ w (by decide)
  rw [show (⟨#[49, 44, 53, 58, 42]⟩ : ByteArray).data.toList = [49, 44, 53, 58, 42] from rfl, prs_known] at h
  exact h.mono fun e w' ⟨A, c, h1, h2, _, h4⟩ => ⟨A, c, h1, h2.reads, h4⟩
theorem known_any {w : World} (hL : Laid w) : Calls Tryd.prog 17 #[] w fun e w' => e = .returned (.bool true) ∧ Only [] w w' := by
  have HL := Lib.hid hL
  clear hL
  have h7 : hasL KL 7 9 = true := by decide
  have h4 : hasL KL 4 9 = false := by decide
  have hp := prL_known
  have C7 : ∀ (W : World) (A : Option Addr) (c : Nat), Rs W A 2 KL → Calls Tryd.prog 14 #[.slice A 2 c, .int .i64 7, .int .i64 9] W fun e w' => e = .returned (.bool true) ∧ Only [] W w' := fun W A c h => by
    have := Has_any (c := c) h (by omega) 7 9
    rwa [h7] at this
  have C4 : ∀ (W : World) (A : Option Addr) (c : Nat), Rs W A 2 KL → Calls Tryd.prog 14 #[.slice A 2 c, .int .i64 4, .int .i64 9] W fun e w' => e = .returned (.bool false) ∧ Only [] W w' := fun W A c h => by
    have := Has_any (c := c) h (by omega) 4 9
    rwa [h4] at this
  have CP : ∀ (W : World) (A : Option Addr) (c : Nat), Only [] w W → Rs W A 2 KL → Calls Tryd.prog 12 #[.slice A 2 c] W fun e w' => e = .returned (.string ⟨#[49, 44, 53, 58, 42]⟩) ∧ Only [] W w' := fun W A c o h => by
    have := Print_any (HL.out.only o) (c := c) h (by omega)
    rwa [hp] at this
  clear h7 h4 hp
  go_enter Tryd.func17, Tryd.ntmps17
  go_wp2_with first
    | (go_at_call 9; with_reducible refine (Parse_known w).mono ?_; rintro e w1 ⟨A, c, rfl, HR, O1⟩)
    | (go_at_call 14; with_reducible refine (C7 _ _ _ HR.out).mono ?_; rintro e w2 ⟨rfl, O2⟩; have O2' := O1.then O2)
    | (go_at_call 14; with_reducible refine (C4 _ _ _ (HR.out.keep O2)).mono ?_; rintro e w3 ⟨rfl, O3⟩; have O3' := O2'.then O3)
    | (go_at_call 12; with_reducible refine (CP _ _ _ O3' ((HR.out.keep O2).keep O3)).mono ?_; rintro e w4 ⟨rfl, O4⟩)
  go_ret
  exact ⟨rfl, O3'.then O4⟩
end Go.Proofs.YtkdaemjdiafccaaDoor
