/-
  The walk of the law BaseBits.
-/
import Derived.Test.YtjfahkbhhpcnnaaBMore
import Derived.WalkKit
import Derived.Handy
import Derived.Deep.DeepMust
import Derived.WalkLawsBesides
import Derived.ScopeJumps
import Derived.WalkMore
import Derived.IntWalk
namespace Go.Proofs.Ytjfahkbhhpcnnaa
open Go.RowKit

open Go.Instr
set_option maxHeartbeats 4000000 in
theorem basebits_any (x : UInt8) (left : Int) (w : World) :
    Calls Try.prog 7 #[.int .u8 (x.toNat : Int), .int .i64 left] w fun e w' => e = .returned (.bool true) ∧ Only [] w w' := by
  by_cases h0 : left < 0
  · go_enter Try.func7, Try.ntmps7
    go_wp2
    go_ret
    exact ⟨rfl, Only.refl _ _⟩
  · have h0' : 0 ≤ left := by omega
    by_cases h1 : 15 < left
    · go_enter Try.func7, Try.ntmps7
      go_wp2
      go_ret
      exact ⟨rfl, Only.refl _ _⟩
    · obtain ⟨lf, rfl⟩ : ∃ lf : Nat, left = (lf : Int) := ⟨left.toNat, by omega⟩
      have hlb : lf < 16 := by omega
      have hl15 : (lf : Int) ≤ 15 := by omega
      clear h0 h1
      have bx : x.toNat < 256 := x.toNat_lt
      obtain ⟨t, ht⟩ : ∃ t, t = St (enc64 [x]) := ⟨_, rfl⟩
      obtain ⟨u, hu⟩ : ∃ u, u = St abc := ⟨_, rfl⟩
      have HT := Lib.hid ht
      have HU : Hid (u = St abc) := hu
      have HTS : Hid (t.size = 4) := by show _ = _; rw [HT.out, St_size, enc_length]; simp
      have ht4 : 4 ≤ t.size := by have := HTS.out; omega
      have ht1 : (1 : Int) ≤ (t.size : Int) := by omega
      have htq : ((t.size : Int) != 4) = false := by have := HTS.out; simp; omega
      have hus : 64 ≤ u.size := by rw [HU.out, St_size]; decide
      obtain ⟨k, hk⟩ : ∃ k : Nat, k = x.toNat % 4 * 16 + lf := ⟨_, rfl⟩
      have hkb : k < 64 := by omega
      have ea : bits .and .i64 (x.toNat : Int) 3 = ((x.toNat % 4 : Nat) : Int) := by
        have e := i64_and_nat x.toNat 3 (by omega) (by omega)
        rw [Nat.and_two_pow_sub_one_eq_mod x.toNat 2] at e
        exact e
      have eo : bits .or .i64 ((x.toNat : Int) % 4 * 16) (lf : Int) = (k : Int) := by
        rw [show ((x.toNat : Int) % 4 * 16) = ((x.toNat % 4 * 16 : Nat) : Int) by omega, i64_or_nat _ _ (by omega) (by omega), nat_join 4 _ _ (by omega) (by omega), hk]
      have HK := Lib.hid hk
      have hul : (⟨#[65, 66, 67, 68, 69, 70, 71, 72, 73, 74, 75, 76, 77, 78, 79, 80, 81, 82, 83, 84, 85, 86, 87, 88, 89, 90, 97, 98, 99, 100, 101, 102, 103, 104, 105, 106, 107, 108, 109, 110, 111, 112, 113, 114, 115, 116, 117, 118, 119, 120, 121, 122, 48, 49, 50, 51, 52, 53, 54, 55, 56, 57, 43, 47]⟩ : ByteArray) = u := HU.out.symm
      clear ht hu hk
      have PS : Hid (∀ W, (Instr.slice 9 (.string u) (some (.int .i64 (k : Int))) (some (.int .i64 ((k : Int) + 1))) none).run Try.prog W = .ok (.string (u.extract k (k + 1))) W) := run_cut_str (P := Try.prog) 9 Try.underlying9 u k (k + 1) (k : Int) ((k : Int) + 1) rfl (by omega) (by omega) (by omega)
      have HE0 : Hid ((t.extract 0 1).data.toList = [l0 x]) := by show _ = _; rw [Lib.extract_data, HT.out, St_list]; rfl
      have HE1 := Lib.hid (piece HU k hkb)
      obtain ⟨s1, hs1⟩ : ∃ s1, s1 = t.extract 0 1 ++ u.extract k (k + 1) := ⟨_, rfl⟩
      obtain ⟨s2, hs2'⟩ : ∃ s2 : ByteArray, s2 = s1 ++ ⟨#[61, 61]⟩ := ⟨_, rfl⟩
      have hd2 : s2.data.toList = [l0 x, lt k, 61, 61] := by rw [hs2', hs1, app_data, app_data, HE0.out, HE1.out]; rfl
      have hz2 : s2.size = 4 := by rw [Lib.size_eq, hd2]; rfl
      have hz1 : s1.size = 2 := by rw [Lib.size_eq, hs1, app_data, HE0.out, HE1.out]; rfl
      have P1 : Hid (∀ W, (Op.stringOp .add (t.extract 0 1) (u.extract k (k + 1))).run Try.prog W = .ok (.string s1) W) := fun W => by
        rw [hs1]
        refine run_string_add_sum _ _ _ ?_
        rw [← ByteArray.size_append, ← hs1, hz1]
        omega
      have P2 : Hid (∀ W, (Op.stringOp .add s1 ⟨#[61, 61]⟩).run Try.prog W = .ok (.string s2) W) := fun W => by
        rw [hs2']
        refine run_string_add_sum _ _ _ ?_
        rw [← ByteArray.size_append, ← hs2', hz2]
        omega
      have hs2 : s2.size ≤ 1048576 := by omega
      have hdb := dec_bits x lf hlb
      rw [← HK.out, ← hd2] at hdb
      clear hs1 hs2' hd2 hz1 hz2
      by_cases hl : lf = 0
      · rw [if_pos hl] at hdb
        have HD := Lib.hid hdb
        have hle : ((lf : Int) == 0) = true := by simp; omega
        clear hdb hl
        go_enter Try.func7, Try.ntmps7
        go_wp2_with (first
          | (go_at_call 11; refine (Encode_as (some ⟨w.heap.size, 0, none⟩) 1 1 [x] t _ HT (Sl.of_new w #[bv x] _ _) (by omega) (by omega)).mono ?_; rintro e w1 ⟨rfl, HO1⟩))
        apply region_only (by kernel_rfl) (by kernel_rfl)
        apply rel_val (hrf := Tk_refl)
        case hw => rfl
        case hy => intro wS hN hF; skip; first | (go_simp; done) | (go_simp; with_reducible rfl)
        case' hk => skip
        try simp only [Act.put, List.setIfInBounds_toArray, List.set_cons_zero, List.set_cons_succ]
        apply rel_val (v := .string (t.extract 0 1)) (hrf := Tk_refl)
        case hw => rfl
        case hy =>
          intro wS hN hF
          go_simp
        case' hk => skip
        try simp only [Act.put, List.setIfInBounds_toArray, List.set_cons_zero, List.set_cons_succ]
        apply rel_val (hrf := Tk_refl)
        case hw => rfl
        case hy => intro wS hN hF; skip; first | (go_simp; done) | (go_simp; with_reducible rfl)
        case' hk => skip
        try simp only [Act.put, List.setIfInBounds_toArray, List.set_cons_zero, List.set_cons_succ]
        apply rel_val (hrf := Tk_refl)
        case hw => rfl
        case hy => intro wS hN hF; skip; first | (go_simp; done) | (go_simp; with_reducible rfl)
        case' hk => skip
        try simp only [Act.put, List.setIfInBounds_toArray, List.set_cons_zero, List.set_cons_succ]
        apply rel_val (hrf := Tk_refl)
        case hw => rfl
        case hy => intro wS hN hF; skip; first | (go_simp; done) | (go_simp; with_reducible rfl)
        case' hk => skip
        try simp only [Act.put, List.setIfInBounds_toArray, List.set_cons_zero, List.set_cons_succ]
        apply rel_val (v := .int .i64 ((k : Int) + 1)) (hrf := Tk_refl)
        case hw => rfl
        case hy =>
          intro wS hN hF
          go_simp; exact IntWalk.i64_in _ (by omega)
        case' hk => skip
        try simp only [Act.put, List.setIfInBounds_toArray, List.set_cons_zero, List.set_cons_succ]
        apply rel_val (v := .string (u.extract k (k + 1))) (hrf := Tk_refl)
        case hw => rfl
        case hy =>
          intro wS hN hF
          have hp := PS.out wS
          go_simp
        case' hk => skip
        try simp only [Act.put, List.setIfInBounds_toArray, List.set_cons_zero, List.set_cons_succ]
        apply rel_val (v := .string s1) (hrf := Tk_refl)
        case hw => rfl
        case hy =>
          intro wS hN hF
          have hp := P1.out wS
          go_simp
        case' hk => skip
        try simp only [Act.put, List.setIfInBounds_toArray, List.set_cons_zero, List.set_cons_succ]
        apply rel_val (v := .string s2) (hrf := Tk_refl)
        case hw => rfl
        case hy =>
          intro wS hN hF
          have hp := P2.out wS
          go_simp
        case' hk => skip
        try simp only [Act.put, List.setIfInBounds_toArray, List.set_cons_zero, List.set_cons_succ]
        apply rel_fact_call (φ := fun v W => ∃ A' c', v = .tuple #[.slice A' 1 c', .int .i64 0] ∧ Own W 5 A' 1 c' (bvs [x])) (x := 9999) (hs := lasts0 (by kernel_rfl) (fun v W W' h ho => by obtain ⟨A', c', h1, h2⟩ := h; exact ⟨A', c', h1, h2.keep ho⟩))
        case hw => rfl
        case hc =>
          intro wS hN hF
          refine ⟨9, #[.string s2], by go_simp, (Decode_yes s2 [x] wS hs2 HD).mono ?_⟩
          rintro e w3 ⟨A3, n3, c3, rfl, HV3, HB3, HO3⟩
          obtain rfl : 1 = n3 := by have h := HV3.len; exact h
          exact ⟨_, rfl, ⟨A3, c3, rfl, HV3⟩, Tk_only HO3⟩
        case' hk => intro v9
        try simp only [Act.put, List.setIfInBounds_toArray, List.set_cons_zero, List.set_cons_succ]
        apply rel_fact (φ := fun v W => ∃ A' c', v = .tuple #[.slice A' 1 c', .int .i64 0] ∧ Own W 5 A' 1 c' (bvs [x])) (x := 9999) (hs := lasts0 (by kernel_rfl) (fun v W W' h ho => by obtain ⟨A', c', h1, h2⟩ := h; exact ⟨A', c', h1, h2.keep ho⟩))
        case hw => rfl
        case hy =>
          intro wS hN hF
          have h := hF.at_ 0 rfl (by kernel_rfl) (by kernel_rfl)
          refine gives_value (u := v9) (w' := wS) ?_ h (Tk_refl _)
          go_simp
        case' hk => intro v10
        try simp only [Act.put, List.setIfInBounds_toArray, List.set_cons_zero, List.set_cons_succ]
        apply rel_fact (φ := fun v W => ∃ A' c', v = .slice A' 1 c' ∧ Own W 5 A' 1 c' (bvs [x])) (x := 9999) (hs := lasts0 (by kernel_rfl) (fun v W W' h ho => by obtain ⟨A', c', h1, h2⟩ := h; exact ⟨A', c', h1, h2.keep ho⟩))
        case hw => rfl
        case hy =>
          intro wS hN hF
          obtain ⟨A3, c3, rfl, HV3⟩ := hF.at_ 0 rfl (by kernel_rfl) (by kernel_rfl)
          refine gives_value (u := .slice A3 1 c3) (w' := wS) ?_ ⟨A3, c3, rfl, HV3⟩ (Tk_refl _)
          go_simp
        case' hk => intro v11
        try simp only [Act.put, List.setIfInBounds_toArray, List.set_cons_zero, List.set_cons_succ]
        apply rel_val (v := .int .i64 0) (hrf := Tk_refl)
        case hw => rfl
        case hy =>
          intro wS hN hF
          obtain ⟨A3, c3, rfl, HV3⟩ := hF.at_ 1 rfl (by kernel_rfl) (by kernel_rfl)
          go_simp
        case' hk => skip
        try simp only [Act.put, List.setIfInBounds_toArray, List.set_cons_zero, List.set_cons_succ]
        apply rel_fact (φ := fun v W => ∃ A' c', v = .slice A' 1 c' ∧ Own W 5 A' 1 c' (bvs [x])) (x := 9999) (hs := lasts0 (by kernel_rfl) (fun v W W' h ho => by obtain ⟨A', c', h1, h2⟩ := h; exact ⟨A', c', h1, h2.keep ho⟩))
        case hw => rfl
        case hy =>
          intro wS hN hF
          have h := hF.at_ 0 rfl (by kernel_rfl) (by kernel_rfl)
          refine gives_value (u := v11) (w' := wS) ?_ h (Tk_refl _)
          go_simp
        case' hk => intro v13
        try simp only [Act.put, List.setIfInBounds_toArray, List.set_cons_zero, List.set_cons_succ]
        apply rel_val (hrf := Tk_refl)
        case hw => rfl
        case hy => intro wS hN hF; skip; first | (go_simp; done) | (go_simp; with_reducible rfl)
        case' hk => skip
        try simp only [Act.put, List.setIfInBounds_toArray, List.set_cons_zero, List.set_cons_succ]
        refine rel_end ?_
        intro wS hO hF
        obtain ⟨A3, c3, rfl, HV3⟩ := facts_at hF 0 rfl
        clear hF
        obtain ⟨ad, rfl, hcell⟩ := HV3.sl.2 (by omega)
        have hc0 : wS.cell? ad = some (.int .u8 (x.toNat : Int)) := by have h := hcell 0 (bv x) rfl; rwa [add_zero] at h
        have hi0 : (0 : Int) < ((1 : Nat) : Int) := by omega
        clear hcell
        go_wp2_with (go_at_call 13; refine (known_any _).mono ?_; rintro e w5 ⟨rfl, HO5⟩)
        go_ret
        exact ⟨rfl, (((Only.refl [] w).alloc _).then HO1).drew.then (hO.only.then HO5)⟩
      · rw [if_neg hl] at hdb
        have HD := Lib.hid hdb
        have hle : ((lf : Int) == 0) = false := by simp; omega
        clear hdb hl
        go_enter Try.func7, Try.ntmps7
        go_wp2_with (go_at_call 11; refine (Encode_as (some ⟨w.heap.size, 0, none⟩) 1 1 [x] t _ HT (Sl.of_new w #[bv x] _ _) (by omega) (by omega)).mono ?_; rintro e w1 ⟨rfl, HO1⟩)
        apply region_only (by kernel_rfl) (by kernel_rfl)
        apply rel_val (hrf := Tk_refl)
        case hw => rfl
        case hy => intro wS hN hF; skip; first | (go_simp; done) | (go_simp; with_reducible rfl)
        case' hk => skip
        try simp only [Act.put, List.setIfInBounds_toArray, List.set_cons_zero, List.set_cons_succ]
        apply rel_val (v := .string (t.extract 0 1)) (hrf := Tk_refl)
        case hw => rfl
        case hy =>
          intro wS hN hF
          go_simp
        case' hk => skip
        try simp only [Act.put, List.setIfInBounds_toArray, List.set_cons_zero, List.set_cons_succ]
        apply rel_val (hrf := Tk_refl)
        case hw => rfl
        case hy => intro wS hN hF; skip; first | (go_simp; done) | (go_simp; with_reducible rfl)
        case' hk => skip
        try simp only [Act.put, List.setIfInBounds_toArray, List.set_cons_zero, List.set_cons_succ]
        apply rel_val (hrf := Tk_refl)
        case hw => rfl
        case hy => intro wS hN hF; skip; first | (go_simp; done) | (go_simp; with_reducible rfl)
        case' hk => skip
        try simp only [Act.put, List.setIfInBounds_toArray, List.set_cons_zero, List.set_cons_succ]
        apply rel_val (hrf := Tk_refl)
        case hw => rfl
        case hy => intro wS hN hF; skip; first | (go_simp; done) | (go_simp; with_reducible rfl)
        case' hk => skip
        try simp only [Act.put, List.setIfInBounds_toArray, List.set_cons_zero, List.set_cons_succ]
        apply rel_val (v := .int .i64 ((k : Int) + 1)) (hrf := Tk_refl)
        case hw => rfl
        case hy =>
          intro wS hN hF
          go_simp; exact IntWalk.i64_in _ (by omega)
        case' hk => skip
        try simp only [Act.put, List.setIfInBounds_toArray, List.set_cons_zero, List.set_cons_succ]
        apply rel_val (v := .string (u.extract k (k + 1))) (hrf := Tk_refl)
        case hw => rfl
        case hy =>
          intro wS hN hF
          have hp := PS.out wS
          go_simp
        case' hk => skip
        try simp only [Act.put, List.setIfInBounds_toArray, List.set_cons_zero, List.set_cons_succ]
        apply rel_val (v := .string s1) (hrf := Tk_refl)
        case hw => rfl
        case hy =>
          intro wS hN hF
          have hp := P1.out wS
          go_simp
        case' hk => skip
        try simp only [Act.put, List.setIfInBounds_toArray, List.set_cons_zero, List.set_cons_succ]
        apply rel_val (v := .string s2) (hrf := Tk_refl)
        case hw => rfl
        case hy =>
          intro wS hN hF
          have hp := P2.out wS
          go_simp
        case' hk => skip
        try simp only [Act.put, List.setIfInBounds_toArray, List.set_cons_zero, List.set_cons_succ]
        apply rel_call (v := .tuple #[.slice none 0 0, .int .i64 3]) (f := 9) (args := #[.string s2])
        case hw => rfl
        case hy => intro wS hN hF; go_simp
        case hc => intro wS hN hF; exact call_only (Decode_no s2 wS hs2 HD)
        case' hk => skip
        try simp only [Act.put, List.setIfInBounds_toArray, List.set_cons_zero, List.set_cons_succ]
        apply rel_val (hrf := Tk_refl)
        case hw => rfl
        case hy => intro wS hN hF; skip; first | (go_simp; done) | (go_simp; with_reducible rfl)
        case' hk => skip
        try simp only [Act.put, List.setIfInBounds_toArray, List.set_cons_zero, List.set_cons_succ]
        apply rel_val (hrf := Tk_refl)
        case hw => rfl
        case hy => intro wS hN hF; skip; first | (go_simp; done) | (go_simp; with_reducible rfl)
        case' hk => skip
        try simp only [Act.put, List.setIfInBounds_toArray, List.set_cons_zero, List.set_cons_succ]
        apply rel_val (hrf := Tk_refl)
        case hw => rfl
        case hy => intro wS hN hF; skip; first | (go_simp; done) | (go_simp; with_reducible rfl)
        case' hk => skip
        try simp only [Act.put, List.setIfInBounds_toArray, List.set_cons_zero, List.set_cons_succ]
        apply rel_val (hrf := Tk_refl)
        case hw => rfl
        case hy => intro wS hN hF; skip; first | (go_simp; done) | (go_simp; with_reducible rfl)
        case' hk => skip
        try simp only [Act.put, List.setIfInBounds_toArray, List.set_cons_zero, List.set_cons_succ]
        apply rel_val (hrf := Tk_refl)
        case hw => rfl
        case hy => intro wS hN hF; skip; first | (go_simp; done) | (go_simp; with_reducible rfl)
        case' hk => skip
        try simp only [Act.put, List.setIfInBounds_toArray, List.set_cons_zero, List.set_cons_succ]
        refine rel_end ?_
        intro wS hO hF
        clear hF
        go_wp2_with (go_at_call 13; refine (known_any _).mono ?_; rintro e w5 ⟨rfl, HO5⟩)
        go_ret
        exact ⟨rfl, (((Only.refl [] w).alloc _).then HO1).drew.then (hO.only.then HO5)⟩
end Go.Proofs.Ytjfahkbhhpcnnaa
