/-
  span's small functions: an end, may it be, a number as a text; the document's.
-/
import Derived.Test.YtkdaemjdiafccaaDoorNLaid
import Derived.WalkKit
import Derived.Deep.QuietTactic
import Derived.BigQuiet
namespace Go.Proofs.YtkdaemjdiafccaaDoor
open Go.RowKit Go.Instr

def endV (n last : Int) : Int := if n = 1073741824 then last else n
def hasR (n last : Int) (r : Rg) : Bool := decide (min (endV r.1 last) (endV r.2 last) ≤ n) && decide (n ≤ max (endV r.1 last) (endV r.2 last))
def hasL (l : List Rg) (n last : Int) : Bool := decide (1 ≤ n) && l.any (hasR n last)

theorem end_any (n last : Int) (w : World) : Calls Tryd.prog 29 #[.int .i64 n, .int .i64 last] w fun e w' => e = .returned (.int .i64 (endV n last)) ∧ w = w' := by
  by_cases h : n = 1073741824
  · subst h
    go_enter Tryd.func29, Tryd.ntmps29
    go_wp2
    go_ret
    exact ⟨rfl, rfl⟩
  · have hb : (n == 1073741824) = false := beq_eq_false_iff_ne.2 h
    have hv : Hid (endV n last = n) := if_neg h
    clear h
    go_enter Tryd.func29, Tryd.ntmps29
    go_wp2
    go_ret
    exact ⟨by rw [hv.out]; rfl, rfl⟩
theorem okN_cases (n : Int) : (n < 1 ∧ okN n = false) ∨ (1 ≤ n ∧ n ≤ 9999999 ∧ okN n = true) ∨ (9999999 < n ∧ n ≠ 1073741824 ∧ okN n = false) ∨ (n = 1073741824) := by
  rcases (by omega : n < 1 ∨ (1 ≤ n ∧ n ≤ 9999999) ∨ (9999999 < n ∧ n ≠ 1073741824) ∨ n = 1073741824) with h | h | h | h
  · left
    refine ⟨h, ?_⟩
    simp only [okN, Bool.or_eq_false_iff, Bool.and_eq_false_iff, decide_eq_false_iff_not, beq_eq_false_iff_ne]
    omega
  · right; left
    refine ⟨h.1, h.2, ?_⟩
    simp only [okN, Bool.or_eq_true, Bool.and_eq_true, decide_eq_true_eq, beq_iff_eq]
    omega
  · right; right; left
    refine ⟨h.1, h.2, ?_⟩
    simp only [okN, Bool.or_eq_false_iff, Bool.and_eq_false_iff, decide_eq_false_iff_not, beq_eq_false_iff_ne]
    omega
  · exact .inr (.inr (.inr h))
theorem mayEnd_any (n : Int) (w : World) : Calls Tryd.prog 34 #[.int .i64 n] w fun e w' => e = .returned (.bool (okN n)) ∧ w = w' := by
  rcases okN_cases n with ⟨h, hk⟩ | ⟨h1, h2, hk⟩ | ⟨h1, h2, hk⟩ | rfl
  · have h3 : (n == 1073741824) = false := beq_eq_false_iff_ne.2 (by omega)
    have HK := Lib.hid hk
    clear hk
    go_enter Tryd.func34, Tryd.ntmps34
    go_wp2
    go_ret
    exact ⟨by rw [HK.out]; rfl, rfl⟩
  · have HK := Lib.hid hk
    clear hk
    go_enter Tryd.func34, Tryd.ntmps34
    go_wp2
    go_ret
    exact ⟨by rw [HK.out]; rfl, rfl⟩
  · have h3 : (n == 1073741824) = false := beq_eq_false_iff_ne.2 h2
    have h0 : 1 ≤ n := by omega
    have h4 : ¬ n ≤ 9999999 := by omega
    have HK := Lib.hid hk
    clear hk h2
    go_enter Tryd.func34, Tryd.ntmps34
    go_wp2
    go_ret
    exact ⟨by rw [HK.out]; rfl, rfl⟩
  · go_enter Tryd.func34, Tryd.ntmps34
    go_wp2
    go_ret
    exact ⟨rfl, rfl⟩
theorem refIs1_any (n : Int) (w : World) : Calls Tryd.prog 31 #[.int .i64 n] w fun e w' => e = .returned (.bool (okN n)) ∧ w = w' := by
  rcases okN_cases n with ⟨h, hk⟩ | ⟨h1, h2, hk⟩ | ⟨h1, h2, hk⟩ | rfl
  · have h3 : (n == 1073741824) = false := beq_eq_false_iff_ne.2 (by omega)
    have HK := Lib.hid hk
    clear hk
    go_enter Tryd.func31, Tryd.ntmps31
    go_wp2
    go_ret
    exact ⟨by rw [HK.out]; rfl, rfl⟩
  · have HK := Lib.hid hk
    clear hk
    go_enter Tryd.func31, Tryd.ntmps31
    go_wp2
    go_ret
    exact ⟨by rw [HK.out]; rfl, rfl⟩
  · have h3 : (n == 1073741824) = false := beq_eq_false_iff_ne.2 h2
    have h0 : 1 ≤ n := by omega
    have h4 : ¬ n ≤ 9999999 := by omega
    have HK := Lib.hid hk
    clear hk h2
    go_enter Tryd.func31, Tryd.ntmps31
    go_wp2
    go_ret
    exact ⟨by rw [HK.out]; rfl, rfl⟩
  · go_enter Tryd.func31, Tryd.ntmps31
    go_wp2
    go_ret
    exact ⟨rfl, rfl⟩
theorem numberText_any {w : World} (hL : Laid w) (n : Int) (h0 : -9223372036854775808 ≤ n) (h1 : n ≤ 9223372036854775807) : Calls Tryd.prog 35 #[.int .i64 n] w fun e w' => e = .returned (.string (St (numT n))) ∧ Only [] w w' := by
  have HI := Lib.hid (Itoa_any hL n h0 h1)
  clear hL
  by_cases h : n = 1073741824
  · subst h
    clear HI h0 h1
    go_enter Tryd.func35, Tryd.ntmps35
    go_wp2
    go_ret
    exact ⟨rfl, Only.refl _ _⟩
  · have hb : (n == 1073741824) = false := beq_eq_false_iff_ne.2 h
    have hv : Hid (St (Lib.itoa n) = St (numT n)) := by
      show _ = _
      unfold numT
      rw [if_neg h]
    rw [hv.out] at HI
    clear h
    obtain ⟨t, ht⟩ : ∃ t, St (numT n) = t := ⟨_, rfl⟩
    rw [ht] at HI ⊢
    clear hv ht
    go_enter Tryd.func35, Tryd.ntmps35
    go_wp2_with (go_at_call 42; with_reducible refine HI.out.mono ?_; rintro e w2 ⟨rfl, O2⟩)
    go_ret
    exact ⟨rfl, O2⟩
theorem mayBe1_any (a b : Int) (w : World) : Calls Tryd.prog 33 #[.agg #[.int .i64 a, .int .i64 b]] w fun e w' => e = .returned (.bool (!okR (a, b))) ∧ Only [] w w' := by
  have ca := fun W => mayEnd_any a W
  have cb := fun W => mayEnd_any b W
  have HE : Hid (okR (a, b) = (okN a && okN b)) := rfl
  rw [HE.out]
  clear HE
  generalize okN a = x at ca
  generalize okN b = y at cb
  cases x
  · go_enter Tryd.func33, Tryd.ntmps33
    go_wp2_with (go_at_call 34; with_reducible refine (ca _).mono ?_; rintro e w2 ⟨rfl, rfl⟩)
    go_ret
    exact ⟨rfl, (Only.refl _ _).alloc _⟩
  · cases y
    · go_enter Tryd.func33, Tryd.ntmps33
      go_wp2_with first
        | (go_at_call 34; with_reducible refine (ca _).mono ?_; rintro e w2 ⟨rfl, rfl⟩)
        | (go_at_call 34; with_reducible refine (cb _).mono ?_; rintro e w2 ⟨rfl, rfl⟩)
      go_ret
      exact ⟨rfl, (Only.refl _ _).alloc _⟩
    · go_enter Tryd.func33, Tryd.ntmps33
      go_wp2_with first
        | (go_at_call 34; with_reducible refine (ca _).mono ?_; rintro e w2 ⟨rfl, rfl⟩)
        | (go_at_call 34; with_reducible refine (cb _).mono ?_; rintro e w2 ⟨rfl, rfl⟩)
      go_ret
      exact ⟨rfl, (Only.refl _ _).alloc _⟩
end Go.Proofs.YtkdaemjdiafccaaDoor
