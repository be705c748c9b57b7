/-
  The law SpanMany: a number is in a set, if it is in one of its ranges.
-/
import Derived.Test.YtkdaemjdiafccaaDoorNKnown
namespace Go.Proofs.YtkdaemjdiafccaaDoor
open Go.RowKit Go.Instr

theorem hasL_take {l : List Rg} {k : Nat} (h : k < l.length) (x last : Int) : hasL (l.take (k + 1)) x last = (hasL (l.take k) x last || hasL ((l.drop k).take 1) x last) := by
  have e1 := List.take_succ_eq_append_getElem h
  have e2 : (l.drop k).take 1 = [l[k]] := by rw [List.drop_eq_getElem_cons h]; rfl
  unfold hasL
  rw [e1, e2, List.any_append, List.any_cons, List.any_nil, Bool.or_false]
  cases decide (1 ≤ x) <;> simp only [Bool.false_and, Bool.true_and, Bool.or_false]
set_option maxHeartbeats 1000000 in
set_option maxRecDepth 100000 in
theorem Many_any {w : World} {A : Option Addr} {n c : Nat} {l : List Rg} (x last : Int) (hs : Rs w A n l) (hnc : n ≤ c) (hc : c ≤ maxLen) (hL : Laid w) : Calls Tryd.prog 6 #[.slice A n c, .int .i64 x, .int .i64 last] w fun e w' => e = .returned (.bool true) ∧ Only [] w w' := by
  by_cases h40 : 40 < n
  · have h40' : (40 : Int) < (n : Int) := by omega
    clear hs hL
    go_enter Tryd.func6, Tryd.ntmps6
    go_wp2
    go_ret
    exact ⟨rfl, Only.refl _ _⟩
  · have h40' : ¬ (40 : Int) < (n : Int) := by omega
    have hn : n ≤ 40 := by omega
    have HS := Lib.hid hs
    have HL := Lib.hid hL
    have HLN := Lib.hid hs.len
    have HC := Lib.hid hc
    clear hs hL h40 hc
    go_enter Tryd.func6, Tryd.ntmps6
    go_wp2
    go_loopw [7, 8] (fun bv iv wr => Only [] w wr ∧ ∃ k : Nat, bv = .bool (hasL (l.take k) x last) ∧ iv = .int .i64 (k : Int) ∧ k ≤ n) (fun _ iv _ => n - (intOf iv).toNat)
    case atStart => exact ⟨Only.refl _ _, 0, by rw [List.take_zero]; unfold hasL; simp, rfl, by omega⟩
    case round =>
      obtain ⟨hO, k, rfl, rfl, hk⟩ := hrel
      by_cases hlt : k < n
      · have hlt' : (k : Int) < (n : Int) := by omega
        have hkl : k < l.length := by rw [HLN.out]; exact hlt
        have hstep := hasL_take hkl x last
        obtain ⟨ad, e, _⟩ := HS.out.2 (by omega)
        subst e
        have hone := (HS.out.keep hO).one hlt
        have cH := fun cc : Nat => Has_any (c := cc) hone (by omega) x last
        obtain ⟨bb, hbb⟩ : ∃ b, hasL (l.take k) x last = b := ⟨_, rfl⟩
        obtain ⟨b1, hb1⟩ : ∃ b, hasL ((l.drop k).take 1) x last = b := ⟨_, rfl⟩
        rw [hbb, hb1] at hstep
        rw [hb1] at cH
        rw [hbb]
        have HST := Lib.hid hstep
        have HM : Hid (n - (intOf (.int .i64 ((k : Int) + 1))).toNat < n - (intOf (.int .i64 (k : Int))).toNat) := by
          show _ < _
          simp [intOf]
          omega
        have HKN : Hid (k + 1 ≤ n) := hlt
        have hcc : (k : Int) + 1 ≤ (c : Int) := by omega
        clear hstep hbb hb1 hone hkl
        cases bb
        · go_wp2_with (go_at_call 14; with_reducible refine (cH _).mono ?_; rintro e w2 ⟨rfl, O2⟩)
          exact ⟨⟨hO.then O2, k + 1, by rw [HST.out]; rfl, by simp, HKN.out⟩, HM.out⟩
        · clear cH
          go_wp2_with fail
          exact ⟨⟨hO, k + 1, by rw [HST.out]; rfl, by simp, HKN.out⟩, HM.out⟩
      · obtain rfl : k = n := by omega
        have cH := Has_any (c := c) (HS.out.keep hO) (by omega) x last
        have hE : hasL (l.take k) x last = hasL l x last := by rw [List.take_of_length_le (by rw [HLN.out]; exact Nat.le_refl _)]
        rw [hE]
        generalize hasL l x last = b at cH
        have hbb : (b == b) = true := by simp
        clear hE hlt
        go_wp2_with first
          | (go_at_call 14; with_reducible refine cH.mono ?_; rintro e w2 ⟨rfl, O2⟩; have O12 := hO.then O2)
          | (go_at_call 17; with_reducible refine (known_any (HL.out.only O12)).mono ?_; rintro e w3 ⟨rfl, O3⟩)
        go_ret
        exact ⟨rfl, O12.then O3⟩
end Go.Proofs.YtkdaemjdiafccaaDoor
