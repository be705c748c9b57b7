/-
  The walk of the law MarkTells.
-/
import Derived.Test.YtamekbpmbmggoaaDoorAKnown
namespace Go.Proofs.YtamekbpmbmggoaaDoor
open Go.RowKit Go.Instr

set_option maxHeartbeats 2000000 in
set_option maxRecDepth 100000 in
theorem tells_any {A : Option Addr} {n c : Nat} {ls : List ByteArray} (f m o : Int) {w : World} (hS : Sl w A n (strs ls)) (hn : n ≤ 140737488351232) (hb : ∀ s ∈ ls, s.size ≤ 140737488351232) (hL : Laid w) :
    Calls Tryd.prog 3 #[.slice A n c, .int .i64 f, .int .i64 m, .int .i64 o] w fun e w' => e = .returned (.bool true) ∧ Only [] w w' := by
  have HL := Lib.hid hL
  have HS := Lib.hid hS
  have HB := Lib.hid hb
  have HLN : Hid (ls.length = n) := by show _ = _; simpa using hS.len
  obtain ⟨F, hF⟩ : ∃ F : Int, ((parseF (datas ls) : Nat) : Int) = F := ⟨_, rfl⟩
  obtain ⟨E, hE⟩ : ∃ E : Int, ((parseE (datas ls) : Nat) : Int) = E := ⟨_, rfl⟩
  have HP : Hid (∀ W, Only [] w W → Calls Tryd.prog 7 #[.slice A n c] W fun e w' => e = .returned (.tuple #[.int .i64 F, .int .i64 E]) ∧ Only [] W w') := fun W hW => by
    rw [← hF, ← hE]; exact Parse_any (HS.out.keep hW) (by omega) (HL.out.only hW)
  have HR : Hid (∀ W, Only [] w W → Calls Tryd.prog 8 #[.slice A n c] W fun e w' => e = .returned (.tuple #[.int .i64 F, .int .i64 E]) ∧ Only [] W w') := fun W hW => by
    rw [← hF, ← hE]; exact refParse_any (HS.out.keep hW) (by omega) (fun s hs => by have := HB.out s hs; omega)
  obtain ⟨t, ht⟩ : ∃ t, St (printL f) = t := ⟨_, rfl⟩
  have HPr : Hid (∀ W, Laid W → Calls Tryd.prog 9 #[.int .i64 f] W fun e w' => e = .returned (.string t) ∧ Only [] W w') := fun W hW => by rw [← ht]; exact Print_any f hW
  have HRr : Hid (∀ W, Calls Tryd.prog 10 #[.int .i64 f] W fun e w' => e = .returned (.string t) ∧ Only [] W w') := fun W => by rw [← ht]; exact refPrint_any f W
  obtain ⟨v, hv⟩ : ∃ v, applyV m o f = v := ⟨_, rfl⟩
  have HV := Lib.hid hv
  clear hS hb hL hF hE ht hv
  go_enter Tryd.func3, Tryd.ntmps3
  go_wp2
  go_loopw [9, 10] (fun nv iv wr => wr = w ∧ ∃ (z : Int) (i : Nat), nv = .int .i64 z ∧ iv = .int .i64 (i : Int) ∧ i ≤ n) (fun _ iv _ => n - (intOf iv).toNat)
  case atStart => exact ⟨rfl, 0, 0, rfl, rfl, by omega⟩
  case round =>
    obtain ⟨rfl, z, i, rfl, rfl, hi⟩ := hrel
    by_cases hlt : i < n
    · have hlt' : (i : Int) < (n : Int) := by omega
      have hil : i < ls.length := by rw [HLN.out]; exact hlt
      obtain ⟨ad, rfl, hc0⟩ := strs_at HS.out hlt hil
      obtain ⟨s, hs⟩ : ∃ s, ls[i] = s := ⟨_, rfl⟩
      rw [hs] at hc0
      have hki : (i : Int) + 1 ≤ 140737488355328 := by omega
      have HM : Hid (n - (intOf (.int .i64 ((i : Int) + 1))).toNat < n - (intOf (.int .i64 (i : Int))).toNat) := by
        show _ < _
        simp [intOf]
        omega
      have HI := Lib.hid hlt
      clear hs hil hlt hi
      go_wp2
      exact ⟨⟨trivial, _, i + 1, rfl, by simp, HI.out⟩, HM.out⟩
    · obtain rfl : i = n := by omega
      clear hlt hi
      by_cases hz : 500 < z
      · go_wp2
        go_ret
        exact ⟨rfl, Only.refl _ _⟩
      · go_wp2_with (first
          | (go_at_call 13; with_reducible refine (known_any (HL.out.only (((hO3.then hO4).then hO5).then hO6))).mono ?_; rintro e w7 ⟨rfl, hO7⟩)
          | (go_at_call 12; with_reducible refine (refApply_any m o f _).mono ?_; rintro e w8 ⟨rfl, rfl⟩; rw [HV.out])
          | (go_at_call 11; with_reducible refine (Apply_any m o f _).mono ?_; rintro e w9 ⟨rfl, rfl⟩; rw [HV.out])
          | (go_at_call 10; with_reducible refine (HRr.out _).mono ?_; rintro e w6 ⟨rfl, hO6⟩)
          | (go_at_call 9; with_reducible refine (HPr.out _ (HL.out.only (hO3.then hO4))).mono ?_; rintro e w5 ⟨rfl, hO5⟩)
          | (go_at_call 8; with_reducible refine (HR.out _ hO3).mono ?_; rintro e w4 ⟨rfl, hO4⟩)
          | (go_at_call 7; with_reducible refine (HP.out _ (Only.refl _ _)).mono ?_; rintro e w3 ⟨rfl, hO3⟩))
        go_ret
        exact ⟨rfl, (((hO3.then hO4).then hO5).then hO6).then hO7⟩
end Go.Proofs.YtamekbpmbmggoaaDoor
