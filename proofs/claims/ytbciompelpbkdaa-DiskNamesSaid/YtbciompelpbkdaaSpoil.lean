/-
  The laws' small helpers: spoil, roomy, stands.
-/
import Derived.Test.YtbciompelpbkdaaSame
import Derived.Test.YtbciompelpbkdaaRowsOf
import Derived.Test.YtbciompelpbkdaaBits
import Derived.Test.YtbciompelpbkdaaOwnMore
import Derived.WalkKit
import Derived.Handy
import Derived.Deep.DeepMust
namespace Go.Proofs.Ytbciompelpbkdaa
open Go.RowKit

set_option maxRecDepth 100000 in
set_option maxHeartbeats 800000 in
theorem spoil_any (A : Option Addr) (n c : Nat) (xs : List Value) (w : World) (h : Own w 5 A n c xs) (hn : n ≤ 1000000000000) :
    Calls Try.prog 39 #[.slice A n c] w fun e w' => e = .returned (.tuple #[]) ∧ Only (blks A) w w' := by
  obtain ⟨i0, hi, hz0, hz1, hz2⟩ := info_parts infoByte
  go_enter Try.func39, Try.ntmps39
  go_wp2_with (at_builtin; go_must (refine wpList_append_sl rfl (.tmp 4) (.tmp 5) 32 rfl 5 i0 (.int .u8 0) 1 Try.underlying32 hi hz0 hz1 hz2 rfl A _ c _ rfl (h.alloc _) _ 1 1 _ rfl (sl_one _ _ _ 99 (by rfl)) (bvs_one _) (by unfold maxLen; omega) (by omega) ?_); intro A2 c2 w2 HV2 HO2 HB2)
  have HO2' : Only (blks A) w w2 := ((Only.refl _ _).alloc _).trans HO2 (fun x hx => .inl hx)
  have hpos : 0 < n + 1 := by omega
  obtain ⟨ad, u0, hA2, _, _⟩ := HV2.sl.at_ hpos
  subst hA2
  obtain ⟨g, rfl⟩ := HV2.addr rfl
  have hg : g ∈ blks A ∨ w.heap.size ≤ g := by
    rcases HB2 g (by simp) with h1 | h1
    · exact .inl h1
    · exact .inr (by simp at h1; omega)
  generalize xs ++ bvs [99] = ys at HV2
  clear HO2 HB2 hpos
  go_loopw [3] (fun i wr => ∃ (k : Nat) (zs : List Value), k ≤ n + 1 ∧ i = .int .i64 k ∧ Own wr 5 (some ⟨g, 0, none⟩) (n + 1) c2 zs ∧ Only (blks A) w wr) (fun i _ => n + 1 - (intOf i).toNat)
  case atStart => exact ⟨0, ys, Nat.zero_le _, rfl, HV2, HO2'⟩
  case round =>
    obtain ⟨k, zs, hk, rfl, HZ, HO⟩ := hrel
    by_cases hlt : k < n + 1
    · obtain ⟨ad, u, e, hu, hcell⟩ := HZ.sl.at_ hlt
      obtain rfl : (⟨g, 0, none⟩ : Addr) = ad := by injection e
      rw [add_none, Nat.zero_add] at hcell
      have hf := HZ.free k
      clear e hu
      go_wp2
      go_roundw
      case rel => exact ⟨k + 1, _, by omega, by go_num, HZ.stored k _, HO.setCell hg _⟩
      case measure => simp [intOf]; omega
    · go_wp2
      go_end0
      exact ⟨rfl, HO⟩

/-- Bytes in a list of their own, one marked byte more, and room behind. -/
def Roomy (w : World) (l : List UInt8) (e : Ending) (w' : World) : Prop :=
  ∃ g c, e = .returned (.slice (some ⟨g, 0, none⟩) (l.length + 1) c) ∧ Own w' 5 (some ⟨g, 0, none⟩) (l.length + 1) c (bvs (l ++ [171])) ∧ Only [] w w' ∧ w.heap.size ≤ g

set_option maxHeartbeats 800000 in
theorem roomy_any (A : Option Addr) (c : Nat) (l : List UInt8) (w : World) (h : Sl w A l.length (bvs l)) (hn : l.length ≤ 1000000000000) :
    Calls Try.prog 36 #[.slice A l.length c] w (Roomy w l) := by
  obtain ⟨i0, hi, hz0, hz1, hz2⟩ := info_parts infoByte
  have ho0 : Own (w.alloc (.cells #[] 5)) 5 (some ⟨w.heap.size, 0, none⟩) 0 0 [] := World.ownsRow_lit w #[] 0 (Nat.zero_le _) (Nat.zero_le _) rfl
  go_enter Try.func36, Try.ntmps36
  go_wp2_with (first
    | (at_builtin; refine wpList_append_sl rfl (.tmp 3) (.tmp 4) 32 rfl 5 i0 (.int .u8 0) 1 Try.underlying32 hi hz0 hz1 hz2 rfl _ _ _ _ rfl ho0 A l.length c _ rfl (h.alloc _) (bvs_one _) (by unfold maxLen; omega) (by omega) ?_; intro A1 c1 w1 HV1 HO1 HB1; rw [List.nil_append] at HV1; rw [Nat.zero_add] at HV1)
    | (at_builtin; refine wpList_append_sl rfl (.tmp 5) (.tmp 6) 32 rfl 5 i0 (.int .u8 0) 1 Try.underlying32 hi hz0 hz1 hz2 rfl A1 _ c1 _ (by rfl) (HV1.alloc _) _ 1 1 _ rfl (sl_one _ _ _ 171 (by rfl)) (bvs_one _) (by unfold maxLen; omega) (by omega) ?_; intro A2 c2 w2 HV2 HO2 HB2)
    | (at_builtin; refine wpList_append_sl rfl (.tmp 7) (.tmp 8) 32 rfl 5 i0 (.int .u8 0) 1 Try.underlying32 hi hz0 hz1 hz2 rfl A2 _ c2 _ (by rfl) (HV2.alloc _) _ 1 1 _ rfl (sl_one _ _ _ 171 (by rfl)) (bvs_one _) (by unfold maxLen; omega) (by omega) ?_; intro A3 c3 w3 HV3 HO3 HB3; have hcp := HV3.cap))
  have z1 : ∀ k ∈ blks A1, w.heap.size ≤ k := fun k hk => by
    rcases HB1 k hk with h1 | h1
    · simp at h1; omega
    · simp at h1; omega
  have P1 : Only [] w w1 := ((Only.refl [] w).alloc _).trans HO1 (fun x hx => .inr (by simp at hx; omega))
  have z2 : ∀ k ∈ blks A2, w.heap.size ≤ k := fun k hk => by
    rcases HB2 k hk with h1 | h1
    · exact z1 k h1
    · have := P1.size; simp at h1; omega
  have P2 : Only [] w w2 := (P1.alloc _).trans HO2 (fun x hx => .inr (z1 x hx))
  have z3 : ∀ k ∈ blks A3, w.heap.size ≤ k := fun k hk => by
    rcases HB3 k hk with h1 | h1
    · exact z2 k h1
    · have := P2.size; simp at h1; omega
  have P3 : Only [] w w3 := (P2.alloc _).trans HO3 (fun x hx => .inr (z2 x hx))
  obtain ⟨ad, _, hA3, _, _⟩ := HV3.sl.at_ (k := 0) (by omega)
  subst hA3
  obtain ⟨g, rfl⟩ := HV3.addr rfl
  have hp := HV3.pre (k := l.length + 1) (by omega)
  rw [List.take_append_of_le_length (by simp), List.take_of_length_le (by simp), ← bvs_append] at hp
  go_ret
  exact ⟨g, c3, rfl, hp, P3, z3 g (by simp)⟩

/-- stands: the bytes, and the marked room behind them. -/
theorem stands_any (A A' : Option Addr) (c c' : Nat) (l : List UInt8) (w : World) (ha : Sl w A (l.length + 1) (bvs (l ++ [171]))) (hc : l.length + 1 ≤ c) (hb : Sl w A' l.length (bvs l)) (hn : l.length ≤ 1000000000000) :
    Calls Try.prog 38 #[.slice A (l.length + 1) c, .slice A' l.length c'] w fun e w' => e = .returned (.bool true) ∧ Only [] w w' := by
  obtain ⟨ad, u, rfl, hu, hcell⟩ := ha.at_ (k := l.length) (by omega)
  have hu' : (bvs (l ++ [171]))[l.length]? = some (.int .u8 171) := by
    rw [bvs_append, List.getElem?_append_right (by simp)]
    simp [bvs, bv]
  rw [hu'] at hu
  obtain rfl : Value.int .u8 171 = u := by injection hu
  have hp := ha.pre (k := l.length) (by omega)
  rw [bvs_take, List.take_left] at hp
  have HP := Lib.hid hp
  have hd : Hid (decide (l = l) = true) := by show _ = _; simp
  clear hu hu' hp
  go_enter Try.func38, Try.ntmps38
  go_wp2_with (go_at_call 22; go_must (refine (same_any (some ad) A' l.length c l.length c' l l w HP.out hb (by omega) (by omega)).mono ?_); rintro e w1 ⟨he, HO⟩; rw [hd.out] at he; subst he; have hcell1 := HO.cellSome hcell (fun hm => by cases hm))
  go_ret
  exact ⟨rfl, HO⟩
end Go.Proofs.Ytbciompelpbkdaa
