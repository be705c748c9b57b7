/-
  The law SpanEnds: a range turned round means the same; the last one is meant by a star, whatever else.
-/
import Derived.Test.YtkdaemjdiafccaaDoorNKnown
namespace Go.Proofs.YtkdaemjdiafccaaDoor
open Go.RowKit Go.Instr

/-- Has of one range, just laid. -/
theorem Has_one (a b x last : Int) (W : World) : Calls Tryd.prog 14 #[.slice (some ⟨W.heap.size, 0, none⟩) 1 1, .int .i64 x, .int .i64 last] (W.alloc (.cells #[.int .i64 a, .int .i64 b] 35)) fun e w' => e = .returned (.bool (hasL [(a, b)] x last)) ∧ Only [] W w' :=
  (Has_any (Rs.of_bk (Bk.new W 35 #[.int .i64 a, .int .i64 b])) (by omega) x last).mono fun _ _ ⟨h1, h2⟩ => ⟨h1, ((Only.refl _ _).alloc _).then h2⟩
theorem hasL_one (a b x last : Int) (h : 1 ≤ x) : hasL [(a, b)] x last = hasR x last (a, b) := by
  unfold hasL
  rw [decide_eq_true h]
  simp
theorem endV_no {a last : Int} (h : a ≤ 9999999) : endV a last = a := if_neg (by omega)
theorem endV_star (last : Int) : endV 1073741824 last = last := if_pos rfl
set_option maxHeartbeats 1000000 in
theorem Ends_any {w : World} (a b x last : Int) (hL : Laid w) : Calls Tryd.prog 5 #[.int .i64 a, .int .i64 b, .int .i64 x, .int .i64 last] w fun e w' => e = .returned (.bool true) ∧ Only [] w w' := by
  by_cases hok : 1 ≤ a ∧ a ≤ 9999999 ∧ 1 ≤ b ∧ b ≤ 9999999 ∧ 1 ≤ x ∧ x ≤ 9999999 ∧ 1 ≤ last ∧ last ≤ 9999999
  · obtain ⟨a1, a2, b1, b2, x1, x2, l1, l2⟩ := hok
    have HL := Lib.hid hL
    have h1 := fun W => Has_one a b x last W
    have h2 := fun W => Has_one b a x last W
    have h3 := fun W => Has_one 1073741824 1073741824 last last W
    have h4 := fun W => Has_one a 1073741824 last last W
    have e1 : hasL [(a, b)] x last = (decide (min a b ≤ x) && decide (x ≤ max a b)) := by
      rw [hasL_one a b x last x1]
      show (decide (min (endV a last) (endV b last) ≤ x) && decide (x ≤ max (endV a last) (endV b last))) = _
      rw [endV_no a2, endV_no b2]
    have e2 : hasL [(b, a)] x last = (decide (min a b ≤ x) && decide (x ≤ max a b)) := by
      rw [hasL_one b a x last x1]
      show (decide (min (endV b last) (endV a last) ≤ x) && decide (x ≤ max (endV b last) (endV a last))) = _
      rw [endV_no a2, endV_no b2, Int.min_comm, Int.max_comm]
    have e3 : hasL [((1073741824 : Int), (1073741824 : Int))] last last = true := by
      rw [hasL_one _ _ last last l1]
      show (decide (min (endV 1073741824 last) (endV 1073741824 last) ≤ last) && decide (last ≤ max (endV 1073741824 last) (endV 1073741824 last))) = _
      rw [endV_star]
      simp
    have e4 : hasL [(a, (1073741824 : Int))] last last = true := by
      rw [hasL_one _ _ last last l1]
      show (decide (min (endV a last) (endV 1073741824 last) ≤ last) && decide (last ≤ max (endV a last) (endV 1073741824 last))) = _
      rw [endV_star, endV_no a2]
      have h5 : min a last ≤ last := Int.min_le_right _ _
      have h6 : last ≤ max a last := Int.le_max_right _ _
      rw [decide_eq_true h5, decide_eq_true h6]
      rfl
    obtain ⟨mn, hmn⟩ : ∃ m, min a b = m := ⟨_, rfl⟩
    obtain ⟨mx, hmx⟩ : ∃ m, max a b = m := ⟨_, rfl⟩
    rw [hmn, hmx] at e1 e2
    rw [e3] at h3
    rw [e4] at h4
    have hways : ∃ r, r = (decide (mn ≤ x) && decide (x ≤ mx)) ∧ ((mn ≤ x ∧ x ≤ mx ∧ r = true) ∨ (¬ mn ≤ x ∧ r = false) ∨ (mn ≤ x ∧ ¬ x ≤ mx ∧ r = false)) := by
      refine ⟨_, rfl, ?_⟩
      by_cases k1 : mn ≤ x
      · by_cases k2 : x ≤ mx
        · exact .inl ⟨k1, k2, by rw [decide_eq_true k1, decide_eq_true k2]; rfl⟩
        · exact .inr (.inr ⟨k1, k2, by rw [decide_eq_false k2, Bool.and_false]⟩)
      · exact .inr (.inl ⟨k1, by rw [decide_eq_false k1]; rfl⟩)
    obtain ⟨r, hr, hw⟩ := hways
    rw [← hr] at e1 e2
    rw [e1] at h1
    rw [e2] at h2
    clear e1 e2 e3 e4 hr hL
    rcases hw with ⟨k1, k2, rfl⟩ | ⟨k1, rfl⟩ | ⟨k1, k2, rfl⟩
    all_goals
      go_enter Tryd.func5, Tryd.ntmps5
      go_wp2_with first
        | (go_at_call 14; with_reducible refine (h1 _).mono ?_; rintro e w1 ⟨rfl, O1⟩; clear h1)
        | (go_at_call 14; with_reducible refine (h2 _).mono ?_; rintro e w2 ⟨rfl, O2⟩; clear h2)
        | (go_at_call 14; with_reducible refine (h3 _).mono ?_; rintro e w3 ⟨rfl, O3⟩; clear h3)
        | (go_at_call 14; with_reducible refine (h4 _).mono ?_; rintro e w4 ⟨rfl, O4⟩; clear h4; have O14 := ((O1.then O2).then O3).then O4)
        | (go_at_call 17; with_reducible refine (known_any (HL.out.only O14)).mono ?_; rintro e w5 ⟨rfl, O5⟩)
      go_ret
      refine ⟨?_, O14.then O5⟩
      first
        | rfl
        | (rw [decide_eq_false (by omega)]; rfl)
  · have hfail : (a < 1) ∨ (¬ a < 1 ∧ 9999999 < a) ∨ (¬ a < 1 ∧ ¬ 9999999 < a ∧ b < 1) ∨ (¬ a < 1 ∧ ¬ 9999999 < a ∧ ¬ b < 1 ∧ 9999999 < b) ∨ (¬ a < 1 ∧ ¬ 9999999 < a ∧ ¬ b < 1 ∧ ¬ 9999999 < b ∧ x < 1) ∨ (¬ a < 1 ∧ ¬ 9999999 < a ∧ ¬ b < 1 ∧ ¬ 9999999 < b ∧ ¬ x < 1 ∧ 9999999 < x) ∨
        (¬ a < 1 ∧ ¬ 9999999 < a ∧ ¬ b < 1 ∧ ¬ 9999999 < b ∧ ¬ x < 1 ∧ ¬ 9999999 < x ∧ last < 1) ∨ (¬ a < 1 ∧ ¬ 9999999 < a ∧ ¬ b < 1 ∧ ¬ 9999999 < b ∧ ¬ x < 1 ∧ ¬ 9999999 < x ∧ ¬ last < 1 ∧ 9999999 < last) := by omega
    clear hok hL
    rcases hfail with k1 | ⟨k1, k2⟩ | ⟨k1, k2, k3⟩ | ⟨k1, k2, k3, k4⟩ | ⟨k1, k2, k3, k4, k5⟩ | ⟨k1, k2, k3, k4, k5, k6⟩ | ⟨k1, k2, k3, k4, k5, k6, k7⟩ | ⟨k1, k2, k3, k4, k5, k6, k7, k8⟩
    all_goals
      go_enter Tryd.func5, Tryd.ntmps5
      go_wp2
      go_ret
      exact ⟨rfl, Only.refl _ _⟩
end Go.Proofs.YtkdaemjdiafccaaDoor
