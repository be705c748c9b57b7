/-
  The reference's Num, Nums and Bytes.
-/
import Derived.Test.YthaodlegpjedoaaAppNum
import Derived.Test.YthaodlegpjedoaaWriter2
namespace Go.Proofs.Ythaodlegpjedoaa
open Go.RowKit

theorem u64_low7 (u : Nat) (h : u < 9223372036854775808) : bits .and .u64 (u : Int) 127 = (u : Int) % 128 := by
  have e := u64_and_nat u 127 (by omega) (by omega)
  rw [Nat.and_two_pow_sub_one_eq_mod u 7] at e
  simpa using e
theorem u8_or128 (u : Nat) : bits .or .u8 ((u : Int) % 128) 128 = (u : Int) % 128 + 128 := by
  have e := u8_or_nat (u % 128) 128 (by omega) (by omega)
  have j : u % 128 ||| 128 = u % 128 + 128 := by
    rw [Nat.or_comm, nat_join 7 128 (u % 128) (by omega) (by omega)]; omega
  rw [j] at e
  simpa using e

/-- The loop and what stands behind it, from a number u on. -/
def RefState (w : World) (v : Nat) (s x : Value) (wr : World) : Prop :=
  ∃ (A' : Option Addr) (n' c' u : Nat) (p : List UInt8), s = .slice A' n' c' ∧ x = .int .u64 u ∧ u ≤ 4611686018427387904 ∧ p.length = n' ∧ Own wr 5 A' n' c' (bvs p) ∧ Hid (p ++ enc u = enc v) ∧ Only [] w wr ∧ (∀ k ∈ blks A', w.heap.size ≤ k)

set_option maxRecDepth 100000 in
set_option maxHeartbeats 1600000 in
theorem refNum_any (v : Int) (w : World) (h0 : -9223372036854775808 ≤ v) (h1 : v ≤ 9223372036854775807) :
    Calls Try.prog 75 #[.int .i64 v] w (Fresh w (enc (clamp v))) := by
  obtain ⟨i0, hi, hz0, hz1, hz2⟩ := info_parts infoByte
  have hcl := clamp_le v
  have h9 := enc_len9 hcl
  have H9 := Lib.hid h9
  obtain ⟨m, hm⟩ : ∃ m, m = clamp v := ⟨_, rfl⟩
  have HM := Lib.hid hm
  have hm62 : m ≤ 4611686018427387904 := by rw [hm]; exact hcl
  have three : (4611686018427387904 < v ∧ Hid ((m : Int) = 4611686018427387904)) ∨ ((0 < v ∧ v ≤ 4611686018427387904) ∧ Hid ((m : Int) = v)) ∨ (v ≤ 0 ∧ Hid ((m : Int) = 0)) := by
    unfold Hid
    by_cases a : v < 0
    · right; right; exact ⟨by omega, by rw [hm, clamp_neg a]; rfl⟩
    · by_cases b : 4611686018427387904 < v
      · left; exact ⟨b, by rw [hm, clamp_big b]; rfl⟩
      · have e := clamp_mid (v := v) (by omega) (by omega)
        rw [e] at hm
        by_cases z : 0 < v
        · right; left; exact ⟨⟨z, by omega⟩, by omega⟩
        · right; right; exact ⟨by omega, by omega⟩
  rw [← hm]
  rw [← hm] at h9 H9
  clear hm hcl h9 HM
  rcases three with ⟨hc, HE⟩ | ⟨⟨ha, hb⟩, HE⟩ | ⟨hc, HE⟩
  all_goals
    go_enter Try.func75, Try.ntmps75
    go_wp2_with fail
    go_loopw [3, 4] (fun x s wr => RefState w m s x wr) (fun x _ _ => (intOf x).toNat)
    case atStart => exact ⟨none, 0, 0, m, [], rfl, by rw [HE.out], hm62, rfl, Own.nil _ _, rfl, Only.refl _ _, fun k hk => (by cases hk)⟩
    case round =>
      obtain ⟨A', n', c', u, p, rfl, rfl, hu, hp, HV, HX, HO, HB⟩ := hrel
      have hb9 : n' ≤ 9 := by
        have h := congrArg List.length HX.out
        have h9 := H9.out
        simp only [List.length_append] at h
        omega
      by_cases hlt : u < 128
      · have hx : ((u : Int)) = ((UInt8.ofNat u).toNat : Int) := (ofNat_byte (by omega)).symm
        have HX2 := Lib.hid hx
        have HS := Lib.hid (enc_small hlt)
        clear hx HE
        go_wp2_with (at_builtin; go_must (refine wpList_append_sl rfl (.tmp 22) (.tmp 25) 29 rfl 5 i0 (.int .u8 0) 1 Try.underlying29 hi hz0 hz1 hz2 rfl A' _ c' _ rfl (HV.alloc _) _ 1 1 _ rfl (sl_one _ _ _ (UInt8.ofNat u) HX2.out) (bvs_one _) (by unfold maxLen; omega) (by omega) ?_); intro A2 c2 w2 HV2 HO2 HB2)
        go_ret
        have hlen : n' + 1 = (enc m).length := by rw [← HX.out, HS.out, List.length_append, hp]; rfl
        refine ⟨A2, c2, by rw [← hlen]; rfl, ?_, (HO.alloc _).trans HO2 (fun x hx => .inr (HB x hx)), fun x hx => ?_⟩
        · rw [← hlen, ← HX.out, HS.out, bvs_append]; exact HV2
        · rcases HB2 x hx with h | h
          · exact HB x h
          · have := HO.size; simp at h; omega
      · have hx : ((u : Int) % 128 + 128) = ((UInt8.ofNat (u % 128 + 128)).toNat : Int) := by rw [ofNat_byte (by omega)]; omega
        have HX2 := Lib.hid hx
        have HS := Lib.hid (enc_more hlt)
        have e1 := u64_low7 u (by omega)
        have e2 := u8_or128 u
        clear hx HE
        go_wp2_with (at_builtin; go_must (refine wpList_append_sl rfl (.tmp 13) (.tmp 18) 29 rfl 5 i0 (.int .u8 0) 1 Try.underlying29 hi hz0 hz1 hz2 rfl A' _ c' _ rfl (HV.alloc _) _ 1 1 _ rfl (sl_one _ _ _ (UInt8.ofNat (u % 128 + 128)) HX2.out) (bvs_one _) (by unfold maxLen; omega) (by omega) ?_); intro A2 c2 w2 HV2 HO2 HB2)
        go_roundw
        case rel =>
          refine ⟨A2, n' + 1, c2, u / 128, p ++ [UInt8.ofNat (u % 128 + 128)], rfl, by go_num, by omega, by rw [List.length_append, hp]; rfl, by rw [bvs_append]; exact HV2, ?_, ?_, ?_⟩
          · show _ = _
            rw [List.append_assoc, List.singleton_append, ← HS.out, HX.out]
          · exact (HO.alloc _).trans HO2 (fun x hx => .inr (HB x hx))
          · intro x hx
            rcases HB2 x hx with h | h
            · exact HB x h
            · have := HO.size; simp at h; omega
        case measure => simp [intOf]; omega

/-- append of a row onto a row of the call's own, as a result. -/
theorem refNums_any (V : Option Addr) (n c : Nat) (vs : List Int) (w : World) (hv : Sl w V n (ivs vs)) (hf : Fits vs) (hn : n ≤ 1000000000) :
    Calls Try.prog 44 #[.slice V n c] w (Fresh w (encs vs)) := by
  obtain ⟨i0, hi, hz0, hz1, hz2⟩ := info_parts infoByte
  have hlen : vs.length = n := by simpa using hv.len
  have hn' : n ≤ 1000000000 := hn
  go_enter Try.func44, Try.ntmps44
  go_wp2
  go_loopw [3, 4] (fun s i wr => ∃ (k : Nat) (A' : Option Addr) (n' c' : Nat) (p : List UInt8), k ≤ n ∧ i = .int .i64 k ∧ s = .slice A' n' c' ∧ p.length = n' ∧ n' ≤ 9 * k ∧ Own wr 5 A' n' c' (bvs p) ∧ Hid (p = encs (vs.take k)) ∧ Only [] w wr ∧ (∀ x ∈ blks A', w.heap.size ≤ x)) (fun _ i _ => n - (intOf i).toNat)
  case atStart => exact ⟨0, none, 0, 0, [], Nat.zero_le _, rfl, rfl, rfl, Nat.le_refl _, Own.nil _ _, rfl, Only.refl _ _, fun k hk => (by cases hk)⟩
  case round =>
    obtain ⟨k, A', n', c', p, hk, rfl, rfl, hp, hn9, HV, HP, HO, HB⟩ := hrel
    by_cases hlt : k < n
    · obtain ⟨ad, u, rfl, hu, hcell⟩ := (hv.keep HO).at_ hlt
      rw [ivs_get _ _ (by omega)] at hu
      obtain rfl : Value.int .i64 _ = u := by injection hu
      obtain ⟨f1, f2⟩ := hf.at_ k (by omega)
      have HE := Lib.hid (encs_take vs k (by omega))
      have h9 := enc_len9 (clamp_le (vs[k]'(by omega)))
      clear hu
      go_wp2_with (first
        | (go_at_call 75; go_must (refine (refNum_any _ _ f1 f2).mono ?_); rintro e w1 ⟨A1, c1, rfl, V1, O1, _⟩)
        | (at_builtin; go_must (refine wpList_append_sl rfl (.tmp 11) (.tmp 16) 29 rfl 5 i0 (.int .u8 0) 1 Try.underlying29 hi hz0 hz1 hz2 rfl A' _ c' _ rfl (HV.keep O1) A1 _ c1 _ rfl V1.sl (bvs_one _) (by unfold maxLen; omega) (by omega) ?_); intro A2 c2 w2 HV2 HO2 HB2))
      go_roundw
      case rel =>
        refine ⟨k + 1, A2, _, c2, p ++ enc (clamp (vs[k]'(by omega))), by omega, by go_num, rfl, by rw [List.length_append, hp], by omega, by rw [bvs_append]; exact HV2, ?_, (HO.then O1).trans HO2 (fun x hx => .inr (HB x hx)), fun x hx => ?_⟩
        · show _ = _
          rw [HE.out, HP.out]
        · rcases HB2 x hx with h | h
          · exact HB x h
          · have := (HO.then O1).size; omega
      case measure => simp [intOf]; omega
    · have HT := Lib.hid (show vs.take k = vs from List.take_of_length_le (by omega))
      go_wp2
      go_ret
      have he : p = encs vs := by rw [HP.out, HT.out]
      rw [← he]
      exact ⟨A', c', by rw [hp]; rfl, by rw [hp]; exact HV, HO, HB⟩

theorem refBytes_any (A : Option Addr) (n c : Nat) (l : List UInt8) (w : World) (hs : Sl w A n (bvs l)) (hn : n ≤ 1000000000) :
    Calls Try.prog 43 #[.slice A n c] w (Fresh w (rowEnc l)) := by
  obtain ⟨i0, hi, hz0, hz1, hz2⟩ := info_parts infoByte
  have hl : l.length = n := by simpa using hs.len
  have hn' : n ≤ 1000000000 := hn
  have hcl : clamp (n : Int) = n := by rw [clamp_mid (by omega) (by omega)]; omega
  have h9 := enc_len9 (v := n) (by omega)
  have HN := Lib.hid (fun (W : World) => refNum_any (n : Int) W (by omega) (by omega))
  rw [hcl] at HN
  clear hcl
  go_enter Try.func43, Try.ntmps43
  go_wp2_with (first
    | (go_at_call 75; go_must (refine (HN.out _).mono ?_); rintro e w1 ⟨A1, c1, rfl, V1, O1, B1⟩)
    | (at_builtin; go_must (refine wpList_append_sl rfl (.tmp 5) (.tmp 6) 29 rfl 5 i0 (.int .u8 0) 1 Try.underlying29 hi hz0 hz1 hz2 rfl A1 _ c1 _ rfl V1 A n c _ rfl (hs.keep O1) (bvs_one _) (by unfold maxLen; omega) (by omega) ?_); intro A2 c2 w2 HV2 HO2 HB2))
  go_ret
  have he : (rowEnc l).length = (enc n).length + n := by unfold rowEnc; rw [List.length_append, hl]
  have hb : bvs (rowEnc l) = bvs (enc n) ++ bvs l := by unfold rowEnc; rw [hl, bvs_append]
  refine ⟨A2, c2, by rw [he]; rfl, by rw [he, hb]; exact HV2, O1.trans HO2 (fun x hx => .inr (B1 x hx)), fun x hx => ?_⟩
  rcases HB2 x hx with h | h
  · exact B1 x h
  · have := O1.size; omega
end Go.Proofs.Ythaodlegpjedoaa
