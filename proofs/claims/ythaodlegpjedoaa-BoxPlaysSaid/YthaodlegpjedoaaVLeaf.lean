/-
  box: the small functions: numbers within bounds, New, Find's and Name's closures.
-/
import Derived.Test.YthaodlegpjedoaaVMsg
import Derived.Test.YthaodlegpjedoaaQuiet
import Derived.Handy
import Derived.Deep.DeepMust
import Derived.WalkKit
namespace Go.Proofs.Ythaodlegpjedoaa
open Go.RowKit Go.Instr

set_option maxRecDepth 100000 in
theorem mayNumber_any (n : Int) (w : World) : Calls Try.prog 55 #[.int .i64 n] w fun e w' => e = .returned (.bool (inR n 1 1048576)) ∧ w = w' := by
  obtain ⟨q, hq⟩ : ∃ q, inR n 1 1048576 = q := ⟨_, rfl⟩
  rw [hq]
  by_cases h1 : (1 : Int) ≤ n
  · by_cases h2 : n ≤ 1048576
    · have HQ : Hid (q = true) := by show _ = _; rw [← hq]; unfold inR; simp [h1, h2]
      clear hq
      go_enter Try.func55, Try.ntmps55
      go_wp2
      go_ret
      exact ⟨by rw [HQ.out]; rfl, rfl⟩
    · have HQ : Hid (q = false) := by show _ = _; rw [← hq]; unfold inR; simp [h2]
      clear hq
      go_enter Try.func55, Try.ntmps55
      go_wp2
      go_ret
      exact ⟨by rw [HQ.out]; rfl, rfl⟩
  · have HQ : Hid (q = false) := by show _ = _; rw [← hq]; unfold inR; simp [h1]
    clear hq
    go_enter Try.func55, Try.ntmps55
    go_wp2
    go_ret
    exact ⟨by rw [HQ.out]; rfl, rfl⟩
set_option maxRecDepth 100000 in
theorem in_any (n a b : Int) (w : World) : Calls Try.prog 34 #[.int .i64 n, .int .i64 a, .int .i64 b] w fun e w' => e = .returned (.bool (inR n a b)) ∧ w = w' := by
  obtain ⟨q, hq⟩ : ∃ q, inR n a b = q := ⟨_, rfl⟩
  rw [hq]
  by_cases h1 : a ≤ n
  · by_cases h2 : n ≤ b
    · have HQ : Hid (q = true) := by show _ = _; rw [← hq]; unfold inR; simp [h1, h2]
      clear hq
      go_enter Try.func34, Try.ntmps34
      go_wp2
      go_ret
      exact ⟨by rw [HQ.out]; rfl, rfl⟩
    · have HQ : Hid (q = false) := by show _ = _; rw [← hq]; unfold inR; simp [h2]
      clear hq
      go_enter Try.func34, Try.ntmps34
      go_wp2
      go_ret
      exact ⟨by rw [HQ.out]; rfl, rfl⟩
  · have HQ : Hid (q = false) := by show _ = _; rw [← hq]; unfold inR; simp [h1]
    clear hq
    go_enter Try.func34, Try.ntmps34
    go_wp2
    go_ret
    exact ⟨by rw [HQ.out]; rfl, rfl⟩
set_option maxRecDepth 100000 in
theorem mayMark_any (f d : Int) (w : World) : Calls Try.prog 56 #[.int .i64 f, .int .i64 d] w fun e w' => e = .returned (.bool (markOk f d)) ∧ w = w' := by
  obtain ⟨q, hq⟩ : ∃ q, markOk f d = q := ⟨_, rfl⟩
  rw [hq]
  have no : ¬ ((0 ≤ f ∧ f ≤ 31) ∧ 0 ≤ d ∧ d ≤ 1073741824) → Hid (q = false) := fun h => by
    show _ = _
    rw [← hq, Bool.eq_false_iff]
    intro e
    exact h (markOk_iff.1 e)
  by_cases h1 : (0 : Int) ≤ f
  · by_cases h2 : f ≤ 31
    · by_cases h3 : (0 : Int) ≤ d
      · by_cases h4 : d ≤ 1073741824
        · have HQ : Hid (q = true) := by show _ = _; rw [← hq]; exact markOk_iff.2 ⟨⟨h1, h2⟩, h3, h4⟩
          clear hq no
          go_enter Try.func56, Try.ntmps56
          go_wp2
          go_ret
          exact ⟨by rw [HQ.out]; rfl, rfl⟩
        · have HQ := no (by omega)
          clear hq no
          go_enter Try.func56, Try.ntmps56
          go_wp2
          go_ret
          exact ⟨by rw [HQ.out]; rfl, rfl⟩
      · have HQ := no (by omega)
        clear hq no
        go_enter Try.func56, Try.ntmps56
        go_wp2
        go_ret
        exact ⟨by rw [HQ.out]; rfl, rfl⟩
    · have HQ := no (by omega)
      clear hq no
      go_enter Try.func56, Try.ntmps56
      go_wp2
      go_ret
      exact ⟨by rw [HQ.out]; rfl, rfl⟩
  · have HQ := no (by omega)
    clear hq no
    go_enter Try.func56, Try.ntmps56
    go_wp2
    go_ret
    exact ⟨by rw [HQ.out]; rfl, rfl⟩

/-! ### A mailbox as a result -/
theorem infoBx : (Try.prog.info? 26).map (·.size) = some 4 := by kernel_rfl
theorem new_ret {fn : Func} {R : Ending → World → Prop} {tmps : Array Value} {w : World} {s : Nat} (hres : fn.results = #[.cell s 26]) (p : Nat) (b : Bx) (A : Option Addr) (c : Nat) (h2 : tmps.getD s undef = .pointer (some ⟨p, 0, none⟩))
    (hb : Bk w p 26 (bxc b A c)) (hR : R (.returned (bxv b A c)) w) : bodyPost Try.prog fn R .ret { tmps := tmps, defers := [] } w := by
  refine bodyPost_ret (v := bxv b A c) ?_ rfl hR
  exact results_cell_row hres tmps w p 26 (bxc b A c) (0, 0) _ h2 hb Try.underlying26 rfl infoBx
theorem results_cell_tmp2 {fn : Func} {p u v : Tmp} {ty : TypeId} (h : fn.results = #[.cell p ty, .tmp u, .tmp v]) (tmps : Array Value) (P : Program) (w : World) :
    (results fn tmps).run P w =
      ((asAddr (tmps.getD p undef)).run P w).andThen fun a w₁ => ((loadVar ty a).run P w₁).andThen fun x w₂ => .ok (.tuple #[x, tmps.getD u undef, tmps.getD v undef]) w₂ := by
  simp only [results, h]
  simp [Sem.run_bind, Result.andThen]
/-- A mailbox and one more. -/
theorem box_ret {fn : Func} {R : Ending → World → Prop} {tmps : Array Value} {w : World} {s u : Nat} (hres : fn.results = #[.cell s 26, .tmp u]) (p : Nat) (b : Bx) (A : Option Addr) (c : Nat) (x : Value) (h2 : tmps.getD s undef = .pointer (some ⟨p, 0, none⟩)) (h3 : tmps.getD u undef = x)
    (hb : Bk w p 26 (bxc b A c)) (hR : R (.returned (.tuple #[bxv b A c, x])) w) : bodyPost Try.prog fn R .ret { tmps := tmps, defers := [] } w := by
  refine bodyPost_ret (v := .tuple #[bxv b A c, x]) ?_ rfl hR
  rw [results_cell_tmp hres]
  rw [h2, h3]
  simp only [asAddr, Sem.run_pure, Result.andThen_ok]
  rw [run_loadVar_row (P := Try.prog) w p 26 26 (bxc b A c) (0, 0) _ hb Try.underlying26 rfl infoBx]
  rfl
/-- A mailbox and two more. -/
theorem box_ret2 {fn : Func} {R : Ending → World → Prop} {tmps : Array Value} {w : World} {s u v : Nat} (hres : fn.results = #[.cell s 26, .tmp u, .tmp v]) (p : Nat) (b : Bx) (A : Option Addr) (c : Nat) (x y : Value) (h2 : tmps.getD s undef = .pointer (some ⟨p, 0, none⟩)) (h3 : tmps.getD u undef = x) (h4 : tmps.getD v undef = y)
    (hb : Bk w p 26 (bxc b A c)) (hR : R (.returned (.tuple #[bxv b A c, x, y])) w) : bodyPost Try.prog fn R .ret { tmps := tmps, defers := [] } w := by
  refine bodyPost_ret (v := .tuple #[bxv b A c, x, y]) ?_ rfl hR
  rw [results_cell_tmp2 hres]
  rw [h2, h3, h4]
  simp only [asAddr, Sem.run_pure, Result.andThen_ok]
  rw [run_loadVar_row (P := Try.prog) w p 26 26 (bxc b A c) (0, 0) _ hb Try.underlying26 rfl infoBx]
  rfl
theorem New_any (s : List UInt8) (v : Int) (w : World) : Calls Try.prog 13 #[.string (St s), .int .i64 v] w fun e w' => e = .returned (bxv (newB s v) none 0) ∧ Only [] w w' := by
  go_enter Try.func13, Try.ntmps13
  go_wp2
  exact new_ret (s := 4) (by kernel_rfl) w.heap.size (newB s v) none 0 rfl (Bk.new w _ _) ⟨rfl, (Only.refl [] w).alloc _⟩
theorem refNew_any (s : List UInt8) (v : Int) (w : World) : Calls Try.prog 14 #[.string (St s), .int .i64 v] w fun e w' => e = .returned (bxv (newB s v) none 0) ∧ Only [] w w' := by
  go_enter Try.func14, Try.ntmps14
  go_wp2
  exact new_ret (s := 4) (by kernel_rfl) w.heap.size (newB s v) none 0 rfl (Bk.new w _ _) ⟨rfl, (Only.refl [] w).alloc _⟩
end Go.Proofs.Ythaodlegpjedoaa
