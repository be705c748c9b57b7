/-
  The walk of the law OctetOfNothing.
-/
import Derived.Test.YtecgmlifeljdeaaDoorKnown
import Derived.Test.YtecgmlifeljdeaaDoorReader3
namespace Go.Proofs.YtecgmlifeljdeaaDoor
open Go.RowKit

theorem wbytes_nil (V : Option Addr) (n cv : Nat) (ls : List (List UInt8)) (w : World) (hv : Rw w V n ls) (hn : n ≤ 1000000000) :
    Calls Tryd.prog 23 #[.pointer none, .slice V n cv] w fun e w' => e = .returned (.tuple #[]) ∧ Only [] w w' := by
  have hlen : ls.length = n := hv.len
  have hn' : n ≤ 1000000000 := hn
  go_enter Tryd.func23, Tryd.ntmps23
  go_wp2
  go_loopw [8] (fun i wr => ∃ k : Nat, k ≤ n ∧ i = .int .i64 k ∧ Only [] w wr) (fun i _ => n - (intOf i).toNat)
  case atStart => exact ⟨0, Nat.zero_le _, rfl, Only.refl _ _⟩
  case round =>
    obtain ⟨k, hk, rfl, HO⟩ := hrel
    by_cases hlt : k < n
    · obtain ⟨ad, Ai, ci, rfl, hcell, _⟩ := (hv.keep HO).at_ hlt (by omega)
      go_wp2_with (first
        | (go_at_call 11; go_must (refine (wnums_nil _ _).mono ?_); rintro e w' ⟨rfl, rfl⟩)
        | (go_at_call 26; go_must (refine (wraw_nil _ _).mono ?_); rintro e w' ⟨rfl, rfl⟩))
      go_roundw
      case rel => exact ⟨k + 1, by omega, by go_num, HO.alloc _⟩
      case measure => simp [intOf]; omega
    · go_wp2
      go_end0
      exact ⟨rfl, HO⟩

theorem rnums_nil (g : Nat) (cv : Nat) (w : World) (hv : w.cell? ⟨g, 0, none⟩ = some (.pointer none)) :
    Calls Tryd.prog 35 #[.pointer none, .slice (some ⟨g, 0, none⟩) 1 cv] w fun e w' => e = .returned (.tuple #[]) ∧ w = w' := by
  go_enter Tryd.func35, Tryd.ntmps35
  go_wp2
  go_loop [9] (fun i => ∃ k : Nat, k ≤ 1 ∧ i = .int .i64 k) (fun i => 1 - (intOf i).toNat)
  case atStart => exact ⟨0, Nat.zero_le _, rfl⟩
  case round =>
    obtain ⟨k, hk, rfl⟩ := hrel
    by_cases hlt : k < 1
    · obtain rfl : k = 0 := by omega
      go_wp2_with (first
        | (go_at_call 17; go_must (refine (num_nil _).mono ?_); rintro e w' ⟨rfl, rfl⟩))
      go_round
      case rel => exact ⟨1, by omega, by go_num⟩
      case measure => simp [intOf]
    · obtain rfl : k = 1 := by omega
      go_wp2
      go_end0
      exact ⟨rfl, rfl⟩

set_option maxRecDepth 100000 in
set_option maxHeartbeats 1600000 in
theorem nothing_any (v : Int) (A : Option Addr) (n c : Nat) (l : List UInt8) (w : World) (ht : Tab w) (hs : Sl w A n (bvs l)) (hn : n ≤ 9223372036854775807) :
    Calls Tryd.prog 7 #[.int .i64 v, .slice A n c] w fun e w' => e = .returned (.bool true) ∧ Only [] w w' := by
  have hl : l.length = n := by simpa using hs.len
  by_cases hbig : 4000 < n
  · go_enter Tryd.func7, Tryd.ntmps7
    go_wp2
    go_ret
    exact ⟨rfl, Only.refl _ _⟩
  · subst hl
    go_enter Tryd.func7, Tryd.ntmps7
    go_wp2_with (first
      | (go_at_call 11; go_must (refine (wnums_nil _ _).mono ?_); rintro e w' ⟨rfl, rfl⟩)
      | (go_at_call 23; go_must (refine (wbytes_nil _ 1 1 [l] _ (Rw.one (by have h := Bk.new (w.alloc (.cells #[.int .i64 v] 3)) 23 #[.slice A l.length c]; simpa using h) ((hs.alloc _).alloc _)) (by omega)).mono ?_); rintro e w1 ⟨rfl, HO1⟩; have HO1' := (((Only.refl [] w).alloc _).alloc _).then HO1; clear HO1)
      | (go_at_call 26; go_must (refine (wraw_nil _ _).mono ?_); rintro e w' ⟨rfl, rfl⟩)
      | (go_at_call 33; go_must (refine (bad_nil _).mono ?_); rintro e w' ⟨rfl, rfl⟩)
      | (go_at_call 35; go_must (refine (rnums_nil _ 1 _ (by simp [go_sem])).mono ?_); rintro e w' ⟨rfl, rfl⟩)
      | (go_at_call 12; go_must (refine (out_nil _).mono ?_); rintro e w' ⟨rfl, rfl⟩)
      | (go_at_call 17; go_must (refine (num_nil _).mono ?_); rintro e w' ⟨rfl, rfl⟩)
      | (go_at_call 27; go_must (refine (rbytes_nil _).mono ?_); rintro e w' ⟨rfl, rfl⟩)
      | (go_at_call 29; go_must (refine (rraw_nil _ _).mono ?_); rintro e w' ⟨rfl, rfl⟩)
      | (go_at_call 28; go_must (refine (left_nil _).mono ?_); rintro e w' ⟨rfl, rfl⟩)
      | (go_at_call 18; go_must (refine (good_nil _).mono ?_); rintro e w' ⟨rfl, rfl⟩)
      | (go_at_call 19; go_must (refine (whole_nil _).mono ?_); rintro e w' ⟨rfl, rfl⟩)
      | (go_at_call 20; go_must (refine (known_any _ (ht.keep (HO1'.alloc _))).mono ?_); rintro e w3 ⟨rfl, HO3⟩))
    go_ret
    exact ⟨rfl, (HO1'.alloc _).then HO3⟩
end Go.Proofs.YtecgmlifeljdeaaDoor
