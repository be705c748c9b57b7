/-
  mark: flags behind a change, the program's and the document's.
-/
import Derived.Test.YthaodlegpjedoaaRowsOf
import Derived.Test.YthaodlegpjedoaaAMath
import Derived.Handy
import Derived.Deep.DeepMust
namespace Go.Proofs.Ythaodlegpjedoaa
open Go.RowKit Go.Instr

def applyV (m o f : Int) : Int :=
  if m = 0 then bits .and .i64 f 31 else if m = 1 then bits .and .i64 (bits .or .i64 o f) 31 else if m = 2 then bits .and .i64 (bits .andNot .i64 o f) 31 else bits .and .i64 o 31
theorem Apply_any (m o f : Int) (w : World) : Calls Try.prog 67 #[.int .i64 m, .int .i64 o, .int .i64 f] w fun e w' => e = .returned (.int .i64 (applyV m o f)) ∧ w = w' := by
  obtain ⟨v, hv⟩ : ∃ v, applyV m o f = v := ⟨_, rfl⟩
  have HV := Lib.hid hv
  rw [hv]
  clear hv
  by_cases h0 : m = 0
  · subst h0
    go_enter Try.func67, Try.ntmps67
    go_wp2
    go_ret
    exact ⟨by rw [← HV.out]; rfl, rfl⟩
  · have b0 : (m == 0) = false := beq_eq_false_iff_ne.2 h0
    by_cases h1 : m = 1
    · subst h1
      go_enter Try.func67, Try.ntmps67
      go_wp2
      go_ret
      exact ⟨by rw [← HV.out]; rfl, rfl⟩
    · have b1 : (m == 1) = false := beq_eq_false_iff_ne.2 h1
      by_cases h2 : m = 2
      · subst h2
        go_enter Try.func67, Try.ntmps67
        go_wp2
        go_ret
        exact ⟨by rw [← HV.out]; rfl, rfl⟩
      · have b2 : (m == 2) = false := beq_eq_false_iff_ne.2 h2
        have HE : Hid (applyV m o f = bits .and .i64 o 31) := by show _ = _; unfold applyV; rw [if_neg h0, if_neg h1, if_neg h2]
        clear h0 h1 h2
        go_enter Try.func67, Try.ntmps67
        go_wp2
        go_ret
        exact ⟨by rw [← HV.out, HE.out]; rfl, rfl⟩
theorem refApply_any (m o f : Int) (w : World) : Calls Try.prog 71 #[.int .i64 m, .int .i64 o, .int .i64 f] w fun e w' => e = .returned (.int .i64 (applyV m o f)) ∧ w = w' := by
  obtain ⟨v, hv⟩ : ∃ v, applyV m o f = v := ⟨_, rfl⟩
  have HV := Lib.hid hv
  rw [hv]
  clear hv
  by_cases h0 : m = 0
  · subst h0
    go_enter Try.func71, Try.ntmps71
    go_wp2
    go_ret
    exact ⟨by rw [← HV.out]; rfl, rfl⟩
  · have b0 : (m == 0) = false := beq_eq_false_iff_ne.2 h0
    by_cases h1 : m = 1
    · subst h1
      have HE : Hid (applyV 1 o f = bits .or .i64 (bits .and .i64 o 31) (bits .and .i64 f 31)) := by show _ = _; rw [← mask_or]; rfl
      go_enter Try.func71, Try.ntmps71
      go_wp2
      go_ret
      exact ⟨by rw [← HV.out, HE.out]; rfl, rfl⟩
    · have b1 : (m == 1) = false := beq_eq_false_iff_ne.2 h1
      by_cases h2 : m = 2
      · subst h2
        have HE : Hid (applyV 2 o f = bits .andNot .i64 (bits .and .i64 o 31) (bits .and .i64 f 31)) := by show _ = _; rw [← mask_andNot]; rfl
        go_enter Try.func71, Try.ntmps71
        go_wp2
        go_ret
        exact ⟨by rw [← HV.out, HE.out]; rfl, rfl⟩
      · have b2 : (m == 2) = false := beq_eq_false_iff_ne.2 h2
        have HE : Hid (applyV m o f = bits .and .i64 o 31) := by show _ = _; unfold applyV; rw [if_neg h0, if_neg h1, if_neg h2]
        clear h0 h1 h2
        go_enter Try.func71, Try.ntmps71
        go_wp2
        go_ret
        exact ⟨by rw [← HV.out, HE.out]; rfl, rfl⟩
end Go.Proofs.Ythaodlegpjedoaa
