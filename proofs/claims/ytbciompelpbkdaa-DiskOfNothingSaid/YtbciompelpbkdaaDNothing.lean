/-
  The walk of the law DiskOfNothing.
-/
import Derived.Test.YtbciompelpbkdaaDList
import Derived.Test.YtbciompelpbkdaaDKnown
namespace Go.Proofs.Ytbciompelpbkdaa
open Go.RowKit Go.Maps

set_option maxRecDepth 100000 in
set_option maxHeartbeats 2000000 in
theorem nothing_any (s : ByteArray) (A : Option Addr) (m c : Nat) (n : Int) (w : World) (hs : s.size ≤ 140737488351232) (hm : m ≤ 140737488351232) :
    Calls Try.prog 6 #[.string s, .slice A m c, .int .i64 n] w fun e w' => e = .returned (.bool true) ∧ Only [] w w' := by
  by_cases hbig : 8000 < s.size + m
  · have hbig' : (8000 : Int) < (s.size : Int) + (m : Int) := by omega
    go_enter Try.func6, Try.ntmps6
    go_wp2
    go_ret
    exact ⟨rfl, Only.refl _ _⟩
  · have hbig' : (s.size : Int) + (m : Int) ≤ 8000 := by omega
    go_enter Try.func6, Try.ntmps6
    go_wp2_with (first
      | (go_at_call 23; refine (fuse_nil (w := w) n).mono ?_; rintro e w1 ⟨rfl, rfl⟩)
      | (go_at_call 17; refine (crash_nil w n).mono ?_; rintro e w1 ⟨rfl, rfl⟩)
      | (go_at_call 21; refine (read_nil s).mono ?_; rintro e w1 ⟨A1, c1, rfl, V1, O1, B1⟩)
      | (go_at_call 16; refine (append_nil _ s _ 1 1).mono ?_; rintro e w2 ⟨rfl, O2⟩; have Q2 := (O1.alloc _).then O2)
      | (go_at_call 20; refine (Sync_nil _ _ 1 1).mono ?_; rintro e w3 ⟨rfl, O3⟩; have Q3 := (Q2.alloc _).then O3)
      | (go_at_call 25; refine (trunc_nil _ s n).mono ?_; rintro e w4 ⟨rfl, O4⟩; have Q4 := Q3.then O4)
      | (go_at_call 26; refine (rename_nil _ s s).mono ?_; rintro e w5 ⟨rfl, O5⟩; have Q5 := Q4.then O5)
      | (go_at_call 24; refine (Remove_nil _ _ 1 1).mono ?_; rintro e w6 ⟨rfl, O6⟩; have Q6 := (Q5.alloc _).then O6)
      | (go_at_call 27; refine (list_nil w6).mono ?_; rintro e w7 ⟨rfl, rfl⟩)
      | (go_at_call 28; refine (used_nil (w := w6)).mono ?_; rintro e w7 ⟨rfl, rfl⟩)
      | (go_at_call 14; refine (copy_nil w6).mono ?_; rintro e w7 ⟨rfl, rfl⟩)
      | (go_at_call 11; refine (known_any w6).mono ?_; rintro e w8 ⟨rfl, O8⟩))
    go_ret
    exact ⟨rfl, Q6.then O8⟩
end Go.Proofs.Ytbciompelpbkdaa
