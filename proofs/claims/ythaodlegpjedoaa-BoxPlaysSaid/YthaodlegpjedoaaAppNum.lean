/-
  octet.appendNumber: a number's bytes behind a row of the call's own.
-/
import Derived.Test.YthaodlegpjedoaaRowsOf
import Derived.Test.YthaodlegpjedoaaNum
import Derived.Test.YthaodlegpjedoaaBits
import Derived.WalkKit
import Derived.Handy
import Derived.Deep.DeepMust
namespace Go.Proofs.Ythaodlegpjedoaa
open Go.RowKit

/-- The call returns a row of its own that has bytes more; of what was there the old row alone has turned. -/
def Grew (w : World) (A : Option Addr) (l : List UInt8) (e : Ending) (w' : World) : Prop :=
  ∃ A' c', e = .returned (.slice A' l.length c') ∧ Own w' 5 A' l.length c' (bvs l) ∧ Only (blks A) w w' ∧ ∀ k ∈ blks A', k ∈ blks A ∨ w.heap.size ≤ k

set_option maxHeartbeats 400000 in
set_option maxRecDepth 100000 in
theorem appendNumber_any (A : Option Addr) (n c : Nat) (l : List UInt8) (v : Nat) (w : World) (hl : l.length = n) (hown : Own w 5 A n c (bvs l)) (hn : n ≤ 1099511627776) (hv : v ≤ 4611686018427387904) :
    Calls Try.prog 73 #[.slice A n c, .int .i64 v] w (Grew w A (l ++ enc v)) := by
  obtain ⟨i0, hi, hz0, hz1, hz2⟩ := info_parts infoByte
  go_enter Try.func73, Try.ntmps73
  go_wp2
  go_loopw [0, 1] (fun s x wr => ∃ (A' : Option Addr) (n' c' u : Nat) (p : List UInt8), s = .slice A' n' c' ∧ x = .int .i64 u ∧ u ≤ v ∧ p.length = n' ∧ Own wr 5 A' n' c' (bvs p) ∧ Hid (p ++ enc u = l ++ enc v) ∧ Only (blks A) w wr ∧ (∀ k ∈ blks A', k ∈ blks A ∨ w.heap.size ≤ k)) (fun _ x _ => (intOf x).toNat)
  case atStart => exact ⟨A, n, c, v, l, rfl, rfl, Nat.le_refl _, hl, hown, rfl, Only.refl _ _, fun k hk => .inl hk⟩
  case round =>
    obtain ⟨A', n', c', u, p, rfl, rfl, hu, hp, HV, HE, HO, HB⟩ := hrel
    have hb : n' ≤ 1099511627785 := by
      have h := congrArg List.length HE.out
      have h9 := enc_len9 hv
      simp only [List.length_append] at h
      omega
    by_cases hlt : u < 128
    · have hx : ((u : Int)) = ((UInt8.ofNat u).toNat : Int) := (ofNat_byte (by omega)).symm
      have HX := Lib.hid hx
      have HS := Lib.hid (enc_small hlt)
      clear hx
      go_wp2_with (at_builtin; go_must (refine wpList_append_sl rfl (.tmp 16) (.tmp 19) 29 rfl 5 i0 (.int .u8 0) 1 Try.underlying29 hi hz0 hz1 hz2 rfl A' _ c' _ rfl (HV.alloc _) _ 1 1 _ rfl (sl_one _ _ _ (UInt8.ofNat u) HX.out) (bvs_one _) (by unfold maxLen; omega) (by omega) ?_); intro A2 c2 w2 HV2 HO2 HB2)
      go_ret
      have hlen : n' + 1 = (l ++ enc v).length := by rw [← HE.out, HS.out, List.length_append, hp]; rfl
      refine ⟨A2, c2, by rw [← hlen]; rfl, ?_, (HO.alloc _).trans HO2 HB, fun x hx => ?_⟩
      · rw [← hlen, ← HE.out, HS.out, bvs_append]; exact HV2
      · rcases HB2 x hx with h | h
        · exact HB x h
        · exact .inr (by have := HO.size; simp at h; omega)
    · have hx : ((u : Int) % 128 + 128) = ((UInt8.ofNat (u % 128 + 128)).toNat : Int) := by rw [ofNat_byte (by omega)]; omega
      have HX := Lib.hid hx
      have HS := Lib.hid (enc_more hlt)
      have e1 := low7 u (by omega)
      have e2 := or128 u
      clear hx
      go_wp2_with (at_builtin; go_must (refine wpList_append_sl rfl (.tmp 7) (.tmp 12) 29 rfl 5 i0 (.int .u8 0) 1 Try.underlying29 hi hz0 hz1 hz2 rfl A' _ c' _ rfl (HV.alloc _) _ 1 1 _ rfl (sl_one _ _ _ (UInt8.ofNat (u % 128 + 128)) HX.out) (bvs_one _) (by unfold maxLen; omega) (by omega) ?_); intro A2 c2 w2 HV2 HO2 HB2)
      go_roundw
      case rel =>
        refine ⟨A2, n' + 1, c2, u / 128, p ++ [UInt8.ofNat (u % 128 + 128)], rfl, by go_num, by omega, by rw [List.length_append, hp]; rfl, by rw [bvs_append]; exact HV2, ?_, ?_, ?_⟩
        · show _ = _
          rw [List.append_assoc, List.singleton_append, ← HS.out, HE.out]
        · exact (HO.alloc _).trans HO2 HB
        · intro x hx
          rcases HB2 x hx with h | h
          · exact HB x h
          · exact .inr (by have := HO.size; simp at h; omega)
      case measure => simp [intOf]; omega
end Go.Proofs.Ythaodlegpjedoaa
