/-
  lock: New, Take, Holder, Free, Forget, Touch; of a nil Locks, too.
-/
import Derived.Test.YtmjkdfneohpbjaaQWords
import Derived.Deep.RegionHeld3
import Derived.Lib.SliceRun
import Derived.Handy
import Derived.IntWalk
import Derived.Deep.DeepMust
namespace Go.Proofs.Ytmjkdfneohpbjaa
open Go.RowKit Go.Maps

theorem zeroI (w : World) : (zeroValue 3).run Try.prog w = .ok (.int .i64 0) w := by kernel_rfl
theorem equalIn_mapG {t k e : TypeId} (ht : Try.prog.underlying t = some (.map k e)) (W : World) (n : Nat) (mb : Option Nat) : (Op.equalIn (n + 1) t (.map mb) (.map none)).run Try.prog W = .ok mb.isNone W := by
  cases mb <;> simp [Op.equalIn, run_underlying ht]
theorem eql_mapG {t k e : TypeId} (ht : Try.prog.underlying t = some (.map k e)) (W : World) (mb : Option Nat) : (binOp .eql t (.map mb) (.map none)).run Try.prog W = .ok (.bool mb.isNone) W := by
  simp only [binOp]
  simp [Op.equal, Op.maxDepth, equalIn_mapG ht W 9999 mb]
set_option maxRecDepth 100000 in
theorem lnew_any (w : World) : Calls Try.prog 8 #[] w fun e w' => e = .returned (.pointer (some ⟨w.heap.size, 0, none⟩)) ∧ Lk w' w.heap.size none none [] [] ∧ Only [] w w' := by
  go_enter Try.func8, Try.ntmps8
  go_wp2
  go_ret
  exact ⟨rfl, ⟨Bk.new w _ _, rfl, rfl, by simp [fpL]⟩, (Only.refl [] w).alloc _⟩

section
variable {w : World} {g : Nat} {hb db : Option Nat} {l : List Hd} {ds : List Du}
theorem Lk.cells (h : Lk w g hb db l ds) : w.cell? ⟨g, 0, none⟩ = some (.map hb) ∧ w.cell? ⟨g, 1, none⟩ = some (.map db) := ⟨by rw [h.bk.cell]; rfl, by rw [h.bk.cell]; rfl⟩
set_option maxRecDepth 100000 in
theorem holder_any (h : Lk w g hb db l ds) (u : ByteArray) (hu : u.size ≤ 281474976710656) :
    Calls Try.prog 19 #[.pointer (some ⟨g, 0, none⟩), .string u] w fun e w' => e = .returned (.tuple #[.int .i64 ((holdL l u).getD 0), .bool (holdL l u).isSome]) ∧ w = w' := by
  obtain ⟨c0, c1⟩ := h.cells
  have hlk := look_hv Try.underlying41 zeroI h.hv (s := u) (by unfold maxLen; omega)
  generalize (holdL l u).getD 0 = x at *
  generalize (holdL l u).isSome = b at *
  clear h
  go_enter Try.func19, Try.ntmps19
  go_wp2
  go_ret2
  exact ⟨rfl, rfl⟩
theorem holder_nil (u : ByteArray) : Calls Try.prog 19 #[.pointer none, .string u] w fun e w' => e = .returned (.tuple #[.int .i64 0, .bool false]) ∧ w = w' := by
  go_enter Try.func19, Try.ntmps19
  go_wp2
  go_ret2
  exact ⟨rfl, rfl⟩
theorem take_nil (u : ByteArray) (c : Int) : Calls Try.prog 9 #[.pointer none, .string u, .int .i64 c] w fun e w' => e = .returned (.bool false) ∧ w = w' := by
  go_enter Try.func9, Try.ntmps9
  go_wp2
  go_ret
  exact ⟨rfl, rfl⟩
theorem free_nil (c : Int) : Calls Try.prog 11 #[.pointer none, .int .i64 c] w fun e w' => e = .returned (.tuple #[]) ∧ Only [] w w' := by
  go_enter Try.func11, Try.ntmps11
  go_wp2
  refine bodyPost_ret (results_none rfl _ _ _) rfl ?_
  exact ⟨rfl, (Only.refl [] w).alloc _⟩
theorem touch_nil (c n m : Int) : Calls Try.prog 13 #[.pointer none, .int .i64 c, .int .i64 n, .int .i64 m] w fun e w' => e = .returned (.tuple #[]) ∧ w = w' := by
  go_enter Try.func13, Try.ntmps13
  go_wp2
  refine bodyPost_ret (results_none rfl _ _ _) rfl ?_
  exact ⟨rfl, rfl⟩
theorem forget_nil (c : Int) : Calls Try.prog 15 #[.pointer none, .int .i64 c] w fun e w' => e = .returned (.tuple #[]) ∧ w = w' := by
  go_enter Try.func15, Try.ntmps15
  go_wp2
  refine bodyPost_ret (results_none rfl _ _ _) rfl ?_
  exact ⟨rfl, rfl⟩
theorem due_nil (n : Int) : Calls Try.prog 17 #[.pointer none, .int .i64 n] w fun e w' => e = .returned (.slice none 0 0) ∧ w = w' := by
  go_enter Try.func17, Try.ntmps17
  go_wp2
  go_ret
  exact ⟨rfl, rfl⟩
end
end Go.Proofs.Ytmjkdfneohpbjaa
