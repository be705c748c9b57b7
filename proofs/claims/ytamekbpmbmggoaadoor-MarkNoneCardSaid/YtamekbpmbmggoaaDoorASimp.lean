/-
  unicode.SimpleFold at the letters that the words have, and at the long s.
-/
import Derived.Test.YtamekbpmbmggoaaDoorALaid
import Derived.WalkKit
import Derived.Handy
import Derived.Deep.DeepMust
import Derived.WalkLawsBesides
import Derived.WalkMore
import Derived.IntWalk
namespace Go.Proofs.YtamekbpmbmggoaaDoor
open Go.RowKit Go.Instr

theorem ascF_le (c : Nat) (h : c < 128) : ascF c ≤ 8490 := by
  unfold ascF
  repeat' split
  all_goals omega
set_option maxRecDepth 100000 in
theorem fold_asc {w : World} (hL : Laid w) (c : Nat) (hc : c < 128) : Calls Tryd.prog 24 #[.int .i32 (c : Int)] w fun e w' => e = .returned (.int .i32 ((ascF c : Nat) : Int)) ∧ w = w' := by
  have h1 := hL.asc c hc
  have h2 := ascF_le c hc
  obtain ⟨x, hx⟩ : ∃ x, ascF c = x := ⟨_, rfl⟩
  rw [hx] at h1 h2 ⊢
  have h3 : (c : Int) < 128 := by omega
  have h4 : (x : Int) ≤ 8490 := by omega
  clear hx hL
  go_enter Tryd.func24, Tryd.ntmps24
  go_wp2
  go_ret
  exact ⟨rfl, rfl⟩
set_option maxRecDepth 100000 in
theorem fold_383 {w : World} (hL : Laid w) : Calls Tryd.prog 24 #[.int .i32 383] w fun e w' => e = .returned (.int .i32 83) ∧ w = w' := by
  obtain ⟨ad, cap, h0, hO⟩ := hL.orb
  obtain ⟨R, o, sp⟩ := ad
  have HO : Hid (∀ i a b, orbE i = some (a, b) → w.cell? ⟨R, o + i * 2, none⟩ = some (.int .u16 (a : Int)) ∧ w.cell? ⟨R, o + i * 2 + 1, none⟩ = some (.int .u16 (b : Int))) := fun i a b e => by
    have h := hO i a b e
    have hi : i * 2 ≠ 0 := by
      unfold orbE at e
      split at e <;> first | omega | cases e
    rw [show (⟨R, o, sp⟩ : Addr).add (i * 2) = ⟨R, o + i * 2, none⟩ by unfold Addr.add; rw [if_neg hi], add_none] at h
    exact h
  clear hO hL
  go_enter Tryd.func24, Tryd.ntmps24
  go_wp2
  go_loopw [3, 4] (fun s3 s4 wr => w = wr ∧ ((s3 = .int .i64 0 ∧ s4 = .int .i64 94) ∨ (s3 = .int .i64 0 ∧ s4 = .int .i64 47) ∨ (s3 = .int .i64 0 ∧ s4 = .int .i64 23) ∨ (s3 = .int .i64 0 ∧ s4 = .int .i64 11) ∨ (s3 = .int .i64 6 ∧ s4 = .int .i64 11) ∨ (s3 = .int .i64 9 ∧ s4 = .int .i64 11) ∨ (s3 = .int .i64 9 ∧ s4 = .int .i64 10) ∨ (s3 = .int .i64 10 ∧ s4 = .int .i64 10))) (fun s3 s4 _ => (intOf s4).toNat - (intOf s3).toNat)
  case atStart => exact ⟨rfl, .inl ⟨rfl, rfl⟩⟩
  case round =>
    obtain ⟨rfl, h⟩ := hrel
    rcases h with ⟨rfl, rfl⟩ | ⟨rfl, rfl⟩ | ⟨rfl, rfl⟩ | ⟨rfl, rfl⟩ | ⟨rfl, rfl⟩ | ⟨rfl, rfl⟩ | ⟨rfl, rfl⟩ | ⟨rfl, rfl⟩
    · have hc : w.cell? ⟨R, o + 94, none⟩ = some (.int .u16 966) := (HO.out 47 966 981 rfl).1
      go_wp2
      go_roundw
      case rel => simp
      case measure => simp [intOf]
    · have hc : w.cell? ⟨R, o + 46, none⟩ = some (.int .u16 837) := (HO.out 23 837 921 rfl).1
      go_wp2
      go_roundw
      case rel => simp
      case measure => simp [intOf]
    · have hc : w.cell? ⟨R, o + 22, none⟩ = some (.int .u16 452) := (HO.out 11 452 453 rfl).1
      go_wp2
      go_roundw
      case rel => simp
      case measure => simp [intOf]
    · have hc : w.cell? ⟨R, o + 10, none⟩ = some (.int .u16 197) := (HO.out 5 197 229 rfl).1
      go_wp2
      go_roundw
      case rel => simp
      case measure => simp [intOf]
    · have hc : w.cell? ⟨R, o + 16, none⟩ = some (.int .u16 304) := (HO.out 8 304 304 rfl).1
      go_wp2
      go_roundw
      case rel => simp
      case measure => simp [intOf]
    · have hc : w.cell? ⟨R, o + 20, none⟩ = some (.int .u16 383) := (HO.out 10 383 83 rfl).1
      go_wp2
      go_roundw
      case rel => simp
      case measure => simp [intOf]
    · have hc : w.cell? ⟨R, o + 18, none⟩ = some (.int .u16 305) := (HO.out 9 305 305 rfl).1
      go_wp2
      go_roundw
      case rel => simp
      case measure => simp [intOf]
    · have hc : w.cell? ⟨R, o + 20, none⟩ = some (.int .u16 383) := (HO.out 10 383 83 rfl).1
      have hd : w.cell? ⟨R, o + 20 + 1, none⟩ = some (.int .u16 83) := (HO.out 10 383 83 rfl).2
      go_wp2
      go_ret
      exact ⟨rfl, rfl⟩
end Go.Proofs.YtamekbpmbmggoaaDoor
