/-
  The law SpanTells: any text as a set, or refused; any set as a text; any number whether it is in it; any two whether they are one.
-/
import Derived.Test.YtkdaemjdiafccaaDoorNKnown
import Derived.Test.YtkdaemjdiafccaaDoorNRefPa
import Derived.Test.YtkdaemjdiafccaaDoorNRefPr
import Derived.Test.YtkdaemjdiafccaaDoorNRefHas
import Derived.Test.YtkdaemjdiafccaaDoorNSame
namespace Go.Proofs.YtkdaemjdiafccaaDoor
open Go.RowKit Go.Instr

theorem sameL_same (l : List Rg) : sameL l l = true := by simp [sameL]
theorem lstO_len (m : Nat) (S : List UInt8) : (lstO (prs m S)).length ≤ m := by
  cases h : prs m S with
  | none => exact Nat.zero_le _
  | some l => have := prs_len h; show l.length ≤ m; omega
set_option maxHeartbeats 1000000 in
theorem Tells_any {w : World} (s : ByteArray) {A B : Option Addr} {n m c d : Nat} {l t : List Rg} (x last : Int) (hs : Rs w A n l) (ht : Rs w B m t) (hL : Laid w) : Calls Tryd.prog 3 #[.string s, .slice A n c, .slice B m d, .int .i64 x, .int .i64 last] w fun e w' => e = .returned (.bool true) ∧ Only [] w w' := by
  by_cases hok : s.size ≤ 300 ∧ n ≤ 40 ∧ m ≤ 40
  · obtain ⟨k1, k2, k3⟩ := hok
    have HS := Lib.hid hs
    have HT := Lib.hid ht
    have HL := Lib.hid hL
    have cA := fun W => Parse_any s W (by omega)
    have cB := fun W => refParse_any s W (by omega)
    have hg16 := lstO_len 16 s.data.toList
    generalize prs 16 s.data.toList = G at cA cB hg16
    generalize lstO G = L at cA cB hg16
    generalize errO G = e0 at cA cB
    obtain ⟨g, hg⟩ : ∃ g, L.length = g := ⟨_, rfl⟩
    rw [hg] at cA cB hg16
    have hsm := sameL_same L
    have CS : ∀ (W : World) (A1 A2 : Option Addr) (c1 c2 : Nat), Ro W A1 g c1 L → Ro W A2 g c2 L → Calls Tryd.prog 11 #[.slice A1 g c1, .slice A2 g c2] W fun e w' => e = .returned (.bool true) ∧ Only [] W w' := fun W A1 A2 c1 c2 h1 h2 => by
      have := refSame_any (c := c1) (d := c2) h1.reads h2.reads (by omega) (by omega)
      rwa [hsm] at this
    have CP : ∀ W, Only [] w W → Calls Tryd.prog 12 #[.slice A n c] W fun e w' => e = .returned (.string (St (prL l))) ∧ Only [] W w' := fun W o => Print_any (HL.out.only o) (HS.out.keep o) (by omega)
    have CQ : ∀ W, Only [] w W → Calls Tryd.prog 13 #[.slice A n c] W fun e w' => e = .returned (.string (St (prL l))) ∧ Only [] W w' := fun W o => refPrint_any (HS.out.keep o) (by omega)
    have CH : ∀ W, Only [] w W → Calls Tryd.prog 14 #[.slice A n c, .int .i64 x, .int .i64 last] W fun e w' => e = .returned (.bool (hasL l x last)) ∧ Only [] W w' := fun W o => Has_any (HS.out.keep o) (by omega) x last
    have CI : ∀ W, Only [] w W → Calls Tryd.prog 15 #[.slice A n c, .int .i64 x, .int .i64 last] W fun e w' => e = .returned (.bool (hasL l x last)) ∧ Only [] W w' := fun W o => refHas_any (HS.out.keep o) (by omega) x last
    have CT : ∀ W, Only [] w W → Calls Tryd.prog 16 #[.slice A n c, .slice B m d] W fun e w' => e = .returned (.bool (sameL l t)) ∧ Only [] W w' := fun W o => Same_any (HS.out.keep o) (HT.out.keep o) (by omega) (by omega)
    have CU : ∀ W, Only [] w W → Calls Tryd.prog 11 #[.slice A n c, .slice B m d] W fun e w' => e = .returned (.bool (sameL l t)) ∧ Only [] W w' := fun W o => refSame_any (HS.out.keep o) (HT.out.keep o) (by omega) (by omega)
    generalize St (prL l) = T at CP CQ
    generalize hasL l x last = b1 at CH CI
    generalize sameL l t = b2 at CT CU
    have hb1 : (b1 == b1) = true := by simp
    have hb2 : (b2 == b2) = true := by simp
    have hT : (T.toList == T.toList) = true := by simp
    have q1 : ¬ (300 : Int) < (s.size : Int) := by omega
    have q2 : ¬ (40 : Int) < (n : Int) := by omega
    have q3 : ¬ (40 : Int) < (m : Int) := by omega
    clear hs ht hL hsm hg k1 k2 k3 hg16
    go_enter Tryd.func3, Tryd.ntmps3
    go_wp2_with first
      | (go_at_call 9; with_reducible refine (cA _).mono ?_; rintro e w1 ⟨A1, c1, rfl, V1, _, O1⟩; clear cA)
      | (go_at_call 10; with_reducible refine (cB _).mono ?_; rintro e w2 ⟨A2, c2, rfl, V2, _, O2⟩; replace V1 := V1.keep O2; replace O2 := O1.then O2; clear cB)
      | (go_at_call 11; with_reducible refine (CS _ _ _ _ _ V1 V2).mono ?_; rintro e w3 ⟨rfl, O3⟩; replace O3 := O2.then O3; clear CS)
      | (go_at_call 12; with_reducible refine (CP _ O3).mono ?_; rintro e w4 ⟨rfl, O4⟩; replace O4 := O3.then O4; clear CP)
      | (go_at_call 13; with_reducible refine (CQ _ O4).mono ?_; rintro e w5 ⟨rfl, O5⟩; replace O5 := O4.then O5; clear CQ)
      | (go_at_call 14; with_reducible refine (CH _ O5).mono ?_; rintro e w6 ⟨rfl, O6⟩; replace O6 := O5.then O6; clear CH)
      | (go_at_call 15; with_reducible refine (CI _ O6).mono ?_; rintro e w7 ⟨rfl, O7⟩; replace O7 := O6.then O7; clear CI)
      | (go_at_call 16; with_reducible refine (CT _ O7).mono ?_; rintro e w8 ⟨rfl, O8⟩; replace O8 := O7.then O8; clear CT)
      | (go_at_call 11; with_reducible refine (CU _ O8).mono ?_; rintro e w9 ⟨rfl, O9⟩; replace O9 := O8.then O9; clear CU)
      | (go_at_call 17; with_reducible refine (known_any (HL.out.only O9)).mono ?_; rintro e w10 ⟨rfl, O10⟩)
    go_ret
    exact ⟨rfl, O9.then O10⟩
  · have hfail : (300 : Int) < (s.size : Int) ∨ (¬ (300 : Int) < (s.size : Int) ∧ (40 : Int) < (n : Int)) ∨ (¬ (300 : Int) < (s.size : Int) ∧ ¬ (40 : Int) < (n : Int) ∧ (40 : Int) < (m : Int)) := by omega
    clear hok hs ht hL
    rcases hfail with k1 | ⟨k1, k2⟩ | ⟨k1, k2, k3⟩
    all_goals
      go_enter Tryd.func3, Tryd.ntmps3
      go_wp2
      go_ret
      exact ⟨rfl, Only.refl _ _⟩
end Go.Proofs.YtkdaemjdiafccaaDoor
