/-
  The document's Encode.
-/
import Derived.Test.YtjfahkbhhpcnnaaBRef
import Derived.WalkKit
import Derived.Handy
import Derived.Deep.DeepMust
import Derived.WalkLawsBesides
import Derived.ScopeJumps
import Derived.WalkMore
import Derived.IntWalk
namespace Go.Proofs.Ytjfahkbhhpcnnaa
open Go.RowKit

theorem or_N (a b : Nat) (ha : a % 256 = 0) (hb : b < 256) (hs : a < 16777216) : bits .or .i64 (a : Int) (b : Int) = ((a + b : Nat) : Int) := by
  rw [i64_or_nat a b (by omega) (by omega), nat_join 8 a b (by omega) (by omega)]
theorem or_N2 (a b : Nat) (ha : a % 65536 = 0) (hb : b < 65536) (hs : a < 16777216) : bits .or .i64 (a : Int) (b : Int) = ((a + b : Nat) : Int) := by
  rw [i64_or_nat a b (by omega) (by omega), nat_join 16 a b (by omega) (by omega)]
theorem and_63 (a : Nat) (ha : a < 16777216) : bits .and .i64 (a : Int) 63 = ((a % 64 : Nat) : Int) := by
  have e := i64_and_nat a 63 (by omega) (by omega)
  rw [Nat.and_two_pow_sub_one_eq_mod a 6] at e
  exact e
theorem app_data (x y : ByteArray) : (x ++ y).data.toList = x.data.toList ++ y.data.toList := by simp
/-- What a round adds. -/
theorem piece {t : ByteArray} (ht : Hid (t = St abc)) (q : Nat) (hq : q < 64) : (t.extract q (q + 1)).data.toList = [lt q] := by
  rw [Lib.extract_data, ht.out, St_list]
  have h : q < abc.length := hq
  have e : lt q = abc[q] := by simp [lt, List.getD, h]
  rw [List.drop_eq_getElem_cons h, e, Nat.add_sub_cancel_left]
  rfl

set_option maxRecDepth 100000 in
set_option maxHeartbeats 4000000 in
theorem refEncode_any (A : Option Addr) (n c : Nat) (b : List UInt8) (w : World) (hb : Sl w A n (bvs b)) (hn : n ≤ 1048576) :
    Calls Try.prog 12 #[.slice A n c] w fun e w' => e = .returned (.string (St (enc64 b))) ∧ Only [] w w' := by
  have HLN : Hid (b.length = n) := by have := hb.len; rw [bvs_length] at this; exact this
  go_enter Try.func12, Try.ntmps12
  go_wp2
  go_loopw [3, 4] (fun S i wr => ∃ (k : Nat) (s : ByteArray), k ≤ n + 2 ∧ i = .int .i64 (k : Int) ∧ S = .string s ∧ Hid (s.data.toList ++ enc64 (b.drop k) = enc64 b) ∧ Only [] w wr) (fun _ i _ => n - (intOf i).toNat)
  case atStart => exact ⟨0, ⟨#[]⟩, by omega, rfl, rfl, rfl, Only.refl _ _⟩
  case round =>
    obtain ⟨k, s, hk, rfl, rfl, HS, HO⟩ := hrel
    have hss : s.size ≤ 1400000 := by
      have h := congrArg List.length HS.out
      rw [List.length_append, enc_length, enc_length, HLN.out, ← Lib.size_eq] at h
      omega
    by_cases hlt : k < n
    · have hkb : k < b.length := by rw [HLN.out]; exact hlt
      obtain ⟨ad, rfl, hcell⟩ := (hb.keep HO).2 (by omega)
      have hc0 : ∀ j (hj : j < b.length), wr.cell? (ad.add j) = some (.int .u8 (b[j].toNat : Int)) := fun j hj => hcell j _ (bvs_get b j hj)
      have HC := Lib.hid hc0
      clear hc0 hcell hb
      match hd : b.drop k with
      | [] =>
        exfalso
        have h := congrArg List.length hd
        rw [List.length_drop, List.length_nil] at h
        omega
      | [x] =>
        have HD := Lib.hid hd
        have hk1 : k + 1 = n := by
          have h := congrArg List.length hd
          rw [List.length_drop, HLN.out] at h
          simp only [List.length_cons, List.length_nil] at h
          omega
        have g0 : b[k + 0]? = some x := by
          have h := List.getElem?_drop (xs := b) (i := k) (j := 0)
          rw [hd] at h
          exact h.symm
        obtain ⟨j0, e0⟩ := List.getElem?_eq_some_iff.1 g0
        have c0 := HC.out (k + 0) j0
        rw [e0] at c0
        have b0 : x.toNat < 256 := x.toNat_lt
        replace c0 : wr.cell? (ad.add k) = some (.int .u8 (x.toNat : Int)) := c0
        clear hd g0 e0 j0
        obtain ⟨N, hN⟩ : ∃ N : Nat, N = x.toNat * 65536 := ⟨_, rfl⟩
        have hNb : N < 16777216 := by omega
        have eN : (x.toNat : Int) * 65536 = (N : Int) := by omega
        obtain ⟨q0, h0⟩ : ∃ q0 : Nat, q0 = N / 262144 := ⟨_, rfl⟩
        obtain ⟨q1, h1⟩ : ∃ q : Nat, q = N / 4096 % 64 := ⟨_, rfl⟩
        have f0 : (N : Int) / 262144 = (q0 : Int) := by omega
        have f1 : bits .and .i64 ((N : Int) / 4096) 63 = (q1 : Int) := by
          rw [show ((N : Int) / 4096) = ((N / 4096 : Nat) : Int) by omega, and_63 _ (by omega), h1]
        have r0 : q0 < 64 := by omega
        have i0 : (q0 : Int) + 1 ≤ 64 := by omega
        have r1 : q1 < 64 := by omega
        have i1 : (q1 : Int) + 1 ≤ 64 := by omega
        have a0 : x.toNat / 4 = q0 := by omega
        have a1 : x.toNat % 4 * 16 + 0 / 16 = q1 := by omega
        have HL : Hid (enc64 (b.drop k) = lt q0 :: lt q1 :: 61 :: 61 :: []) := by
          show _ = _
          rw [HD.out]
          simp only [enc64, l0, l1, zero_toNat, a0, a1]
        have HR : Hid (b.drop (k + 3) = []) := by
          show _ = _
          rw [← List.drop_drop, HD.out]
          rfl
        clear hN a0 a1  h0 h1
        have t1 : decide ((k : Int) + 1 < (n : Int)) = false := by simp; omega
        have t2 : decide ((k : Int) + 2 < (n : Int)) = false := by simp; omega
        clear hk1
        go_wp2_with (go_at_call 18; refine (letters_any _).mono ?_; rintro e w' ⟨t, rfl, HT, hts, rfl⟩)
        obtain ⟨s1, hs1⟩ : ∃ s' : ByteArray, s' = s ++ t.extract q0 (q0 + 1) := ⟨_, rfl⟩
        have z1 : s1.size ≤ 1400001 := by
          rw [hs1, ByteArray.size_append]
          have h := congrArg List.length (piece HT q0 r0)
          rw [← Lib.size_eq] at h
          simp only [List.length_cons, List.length_nil] at h
          omega
        have p1 : ∀ W, (Op.stringOp .add s (t.extract q0 (q0 + 1))).run Try.prog W = .ok (.string s1) W := fun W => by
          rw [hs1]
          refine run_string_add_sum _ _ _ ?_
          rw [← ByteArray.size_append, ← hs1]
          omega
        obtain ⟨s2, hs2⟩ : ∃ s' : ByteArray, s' = s1 ++ t.extract q1 (q1 + 1) := ⟨_, rfl⟩
        have z2 : s2.size ≤ 1400002 := by
          rw [hs2, ByteArray.size_append]
          have h := congrArg List.length (piece HT q1 r1)
          rw [← Lib.size_eq] at h
          simp only [List.length_cons, List.length_nil] at h
          omega
        have p2 : ∀ W, (Op.stringOp .add s1 (t.extract q1 (q1 + 1))).run Try.prog W = .ok (.string s2) W := fun W => by
          rw [hs2]
          refine run_string_add_sum _ _ _ ?_
          rw [← ByteArray.size_append, ← hs2]
          omega
        obtain ⟨s3, hs3⟩ : ∃ s' : ByteArray, s' = s2 ++ ⟨#[61]⟩ := ⟨_, rfl⟩
        have z3 : s3.size ≤ 1400003 := by
          rw [hs3, ByteArray.size_append]
          show _ + 1 ≤ _
          omega
        have p3 : ∀ W, (Op.stringOp .add s2 (⟨#[61]⟩)).run Try.prog W = .ok (.string s3) W := fun W => by
          rw [hs3]
          refine run_string_add_sum _ _ _ ?_
          rw [← ByteArray.size_append, ← hs3]
          omega
        obtain ⟨s4, hs4⟩ : ∃ s' : ByteArray, s' = s3 ++ ⟨#[61]⟩ := ⟨_, rfl⟩
        have z4 : s4.size ≤ 1400004 := by
          rw [hs4, ByteArray.size_append]
          show _ + 1 ≤ _
          omega
        have p4 : ∀ W, (Op.stringOp .add s3 (⟨#[61]⟩)).run Try.prog W = .ok (.string s4) W := fun W => by
          rw [hs4]
          refine run_string_add_sum _ _ _ ?_
          rw [← ByteArray.size_append, ← hs4]
          omega
        have HS4 : Hid (s4.data.toList ++ enc64 (b.drop (k + 3)) = enc64 b) := by
          show _ = _
          rw [← HS.out, HL.out, HR.out, hs4, hs3, hs2, hs1]
          simp only [app_data, piece HT q0 r0, piece HT q1 r1]
          simp [enc64]
        have y0 : (0 : Int) ≤ (q0 : Int) := by omega
        have y1 : (0 : Int) ≤ (q1 : Int) := by omega
        clear hs1 hs2 hs3 hs4
        have ps0 := run_cut_str (P := Try.prog) 9 Try.underlying9 t q0 (q0 + 1) (q0 : Int) ((q0 : Int) + 1) rfl (by omega) (by omega) (by omega)
        have ps1 := run_cut_str (P := Try.prog) 9 Try.underlying9 t q1 (q1 + 1) (q1 : Int) ((q1 : Int) + 1) rfl (by omega) (by omega) (by omega)
        have w0_ : IntKind.i64.wrap ((q0 : Int) + 1) = (q0 : Int) + 1 := IntWalk.i64_in _ (by omega)
        have w1_ : IntKind.i64.wrap ((q1 : Int) + 1) = (q1 : Int) + 1 := IntWalk.i64_in _ (by omega)
        apply region_only (by kernel_rfl) (by kernel_rfl)
        apply rel_val (hrf := Tk_refl)
        case hw => rfl
        case hy => intro wS hN hF; skip; first | (go_simp; done) | (go_simp; with_reducible rfl)
        case' hk => skip
        try simp only [Act.put, List.setIfInBounds_toArray, List.set_cons_zero, List.set_cons_succ]
        apply rel_val (hrf := Tk_refl)
        case hw => rfl
        case hy => intro wS hN hF; skip; first | (go_simp; done) | (go_simp; with_reducible rfl)
        case' hk => skip
        try simp only [Act.put, List.setIfInBounds_toArray, List.set_cons_zero, List.set_cons_succ]
        apply rel_val (hrf := Tk_refl)
        case hw => rfl
        case hy => intro wS hN hF; skip; first | (go_simp; done) | (go_simp; with_reducible rfl)
        case' hk => skip
        try simp only [Act.put, List.setIfInBounds_toArray, List.set_cons_zero, List.set_cons_succ]
        apply rel_val (hrf := Tk_refl)
        case hw => rfl
        case hy => intro wS hN hF; skip; first | (go_simp; done) | (go_simp; with_reducible rfl)
        case' hk => skip
        try simp only [Act.put, List.setIfInBounds_toArray, List.set_cons_zero, List.set_cons_succ]
        apply rel_val (hrf := Tk_refl)
        case hw => rfl
        case hy => intro wS hN hF; skip; first | (go_simp; done) | (go_simp; with_reducible rfl)
        case' hk => skip
        try simp only [Act.put, List.setIfInBounds_toArray, List.set_cons_zero, List.set_cons_succ]
        apply rel_val (hrf := Tk_refl)
        case hw => rfl
        case hy => intro wS hN hF; skip; first | (go_simp; done) | (go_simp; with_reducible rfl)
        case' hk => skip
        try simp only [Act.put, List.setIfInBounds_toArray, List.set_cons_zero, List.set_cons_succ]
        apply rel_val (hrf := Tk_refl)
        case hw => rfl
        case hy => intro wS hN hF; skip; first | (go_simp; done) | (go_simp; with_reducible rfl)
        case' hk => skip
        try simp only [Act.put, List.setIfInBounds_toArray, List.set_cons_zero, List.set_cons_succ]
        apply rel_val (hrf := Tk_refl)
        case hw => rfl
        case hy => intro wS hN hF; skip; first | (go_simp; done) | (go_simp; with_reducible rfl)
        case' hk => skip
        try simp only [Act.put, List.setIfInBounds_toArray, List.set_cons_zero, List.set_cons_succ]
        apply rel_val (hrf := Tk_refl)
        case hw => rfl
        case hy => intro wS hN hF; skip; first | (go_simp; done) | (go_simp; with_reducible rfl)
        case' hk => skip
        try simp only [Act.put, List.setIfInBounds_toArray, List.set_cons_zero, List.set_cons_succ]
        apply rel_val (hrf := Tk_refl)
        case hw => rfl
        case hy => intro wS hN hF; skip; first | (go_simp; done) | (go_simp; with_reducible rfl)
        case' hk => skip
        try simp only [Act.put, List.setIfInBounds_toArray, List.set_cons_zero, List.set_cons_succ]
        apply rel_val (hrf := Tk_refl)
        case hw => rfl
        case hy => intro wS hN hF; skip; first | (go_simp; done) | (go_simp; with_reducible rfl)
        case' hk => skip
        try simp only [Act.put, List.setIfInBounds_toArray, List.set_cons_zero, List.set_cons_succ]
        apply rel_val (hrf := Tk_refl)
        case hw => rfl
        case hy => intro wS hN hF; skip; first | (go_simp; done) | (go_simp; with_reducible rfl)
        case' hk => skip
        try simp only [Act.put, List.setIfInBounds_toArray, List.set_cons_zero, List.set_cons_succ]
        apply rel_val (hrf := Tk_refl)
        case hw => rfl
        case hy => intro wS hN hF; skip; first | (go_simp; done) | (go_simp; with_reducible rfl)
        case' hk => skip
        try simp only [Act.put, List.setIfInBounds_toArray, List.set_cons_zero, List.set_cons_succ]
        apply rel_val (hrf := Tk_refl)
        case hw => rfl
        case hy => intro wS hN hF; skip; first | (go_simp; done) | (go_simp; with_reducible rfl)
        case' hk => skip
        try simp only [Act.put, List.setIfInBounds_toArray, List.set_cons_zero, List.set_cons_succ]
        apply rel_val (hrf := Tk_refl)
        case hw => rfl
        case hy => intro wS hN hF; skip; first | (go_simp; done) | (go_simp; with_reducible rfl)
        case' hk => skip
        try simp only [Act.put, List.setIfInBounds_toArray, List.set_cons_zero, List.set_cons_succ]
        apply rel_val (hrf := Tk_refl)
        case hw => rfl
        case hy => intro wS hN hF; skip; first | (go_simp; done) | (go_simp; with_reducible rfl)
        case' hk => skip
        try simp only [Act.put, List.setIfInBounds_toArray, List.set_cons_zero, List.set_cons_succ]
        apply rel_val (hrf := Tk_refl)
        case hw => rfl
        case hy => intro wS hN hF; skip; first | (go_simp; done) | (go_simp; with_reducible rfl)
        case' hk => skip
        try simp only [Act.put, List.setIfInBounds_toArray, List.set_cons_zero, List.set_cons_succ]
        apply rel_val (hrf := Tk_refl)
        case hw => rfl
        case hy => intro wS hN hF; skip; first | (go_simp; done) | (go_simp; with_reducible rfl)
        case' hk => skip
        try simp only [Act.put, List.setIfInBounds_toArray, List.set_cons_zero, List.set_cons_succ]
        apply rel_val (hrf := Tk_refl)
        case hw => rfl
        case hy => intro wS hN hF; skip; first | (go_simp; done) | (go_simp; with_reducible rfl)
        case' hk => skip
        try simp only [Act.put, List.setIfInBounds_toArray, List.set_cons_zero, List.set_cons_succ]
        apply rel_val (hrf := Tk_refl)
        case hw => rfl
        case hy => intro wS hN hF; skip; first | (go_simp; done) | (go_simp; with_reducible rfl)
        case' hk => skip
        try simp only [Act.put, List.setIfInBounds_toArray, List.set_cons_zero, List.set_cons_succ]
        refine rel_end ?_
        intro wS hO hF
        clear hF
        go_wp2
        go_roundw
        case rel => exact ⟨k + 3, s4, by omega, by go_num, rfl, HS4, HO.drew.then hO.only⟩
        case measure => simp [intOf]; omega
      | [x, y] =>
        have HD := Lib.hid hd
        have hk1 : k + 2 = n := by
          have h := congrArg List.length hd
          rw [List.length_drop, HLN.out] at h
          simp only [List.length_cons, List.length_nil] at h
          omega
        have g0 : b[k + 0]? = some x := by
          have h := List.getElem?_drop (xs := b) (i := k) (j := 0)
          rw [hd] at h
          exact h.symm
        obtain ⟨j0, e0⟩ := List.getElem?_eq_some_iff.1 g0
        have c0 := HC.out (k + 0) j0
        rw [e0] at c0
        have b0 : x.toNat < 256 := x.toNat_lt
        have g1 : b[k + 1]? = some y := by
          have h := List.getElem?_drop (xs := b) (i := k) (j := 1)
          rw [hd] at h
          exact h.symm
        obtain ⟨j1, e1⟩ := List.getElem?_eq_some_iff.1 g1
        have c1 := HC.out (k + 1) j1
        rw [e1] at c1
        have b1 : y.toNat < 256 := y.toNat_lt
        replace c0 : wr.cell? (ad.add k) = some (.int .u8 (x.toNat : Int)) := c0
        replace c1 : wr.cell? ⟨ad.block, ad.off + (k + 1), none⟩ = some (.int .u8 (y.toNat : Int)) := c1
        clear hd g0 e0 j0 g1 e1 j1
        obtain ⟨N, hN⟩ : ∃ N : Nat, N = x.toNat * 65536 + y.toNat * 256 := ⟨_, rfl⟩
        have hNb : N < 16777216 := by omega
        have eN : bits .or .i64 ((x.toNat : Int) * 65536) ((y.toNat : Int) * 256) = (N : Int) := by rw [show ((x.toNat : Int) * 65536) = ((x.toNat * 65536 : Nat) : Int) by omega, show ((y.toNat : Int) * 256) = ((y.toNat * 256 : Nat) : Int) by omega, or_N2 _ _ (by omega) (by omega) (by omega), hN]
        obtain ⟨q0, h0⟩ : ∃ q0 : Nat, q0 = N / 262144 := ⟨_, rfl⟩
        obtain ⟨q1, h1⟩ : ∃ q : Nat, q = N / 4096 % 64 := ⟨_, rfl⟩
        obtain ⟨q2, h2⟩ : ∃ q : Nat, q = N / 64 % 64 := ⟨_, rfl⟩
        have f0 : (N : Int) / 262144 = (q0 : Int) := by omega
        have f1 : bits .and .i64 ((N : Int) / 4096) 63 = (q1 : Int) := by
          rw [show ((N : Int) / 4096) = ((N / 4096 : Nat) : Int) by omega, and_63 _ (by omega), h1]
        have f2 : bits .and .i64 ((N : Int) / 64) 63 = (q2 : Int) := by
          rw [show ((N : Int) / 64) = ((N / 64 : Nat) : Int) by omega, and_63 _ (by omega), h2]
        have r0 : q0 < 64 := by omega
        have i0 : (q0 : Int) + 1 ≤ 64 := by omega
        have r1 : q1 < 64 := by omega
        have i1 : (q1 : Int) + 1 ≤ 64 := by omega
        have r2 : q2 < 64 := by omega
        have i2 : (q2 : Int) + 1 ≤ 64 := by omega
        have a0 : x.toNat / 4 = q0 := by omega
        have a1 : x.toNat % 4 * 16 + y.toNat / 16 = q1 := by omega
        have a2 : y.toNat % 16 * 4 + 0 / 64 = q2 := by omega
        have HL : Hid (enc64 (b.drop k) = lt q0 :: lt q1 :: lt q2 :: 61 :: []) := by
          show _ = _
          rw [HD.out]
          simp only [enc64, l0, l1, l2, zero_toNat, a0, a1, a2]
        have HR : Hid (b.drop (k + 3) = []) := by
          show _ = _
          rw [← List.drop_drop, HD.out]
          rfl
        clear hN a0 a1 a2 h0 h1 h2
        have t1 : (k : Int) + 1 < (n : Int) := by omega
        have t2 : decide ((k : Int) + 2 < (n : Int)) = false := by simp; omega
        clear hk1
        go_wp2_with (go_at_call 18; refine (letters_any _).mono ?_; rintro e w' ⟨t, rfl, HT, hts, rfl⟩)
        obtain ⟨s1, hs1⟩ : ∃ s' : ByteArray, s' = s ++ t.extract q0 (q0 + 1) := ⟨_, rfl⟩
        have z1 : s1.size ≤ 1400001 := by
          rw [hs1, ByteArray.size_append]
          have h := congrArg List.length (piece HT q0 r0)
          rw [← Lib.size_eq] at h
          simp only [List.length_cons, List.length_nil] at h
          omega
        have p1 : ∀ W, (Op.stringOp .add s (t.extract q0 (q0 + 1))).run Try.prog W = .ok (.string s1) W := fun W => by
          rw [hs1]
          refine run_string_add_sum _ _ _ ?_
          rw [← ByteArray.size_append, ← hs1]
          omega
        obtain ⟨s2, hs2⟩ : ∃ s' : ByteArray, s' = s1 ++ t.extract q1 (q1 + 1) := ⟨_, rfl⟩
        have z2 : s2.size ≤ 1400002 := by
          rw [hs2, ByteArray.size_append]
          have h := congrArg List.length (piece HT q1 r1)
          rw [← Lib.size_eq] at h
          simp only [List.length_cons, List.length_nil] at h
          omega
        have p2 : ∀ W, (Op.stringOp .add s1 (t.extract q1 (q1 + 1))).run Try.prog W = .ok (.string s2) W := fun W => by
          rw [hs2]
          refine run_string_add_sum _ _ _ ?_
          rw [← ByteArray.size_append, ← hs2]
          omega
        obtain ⟨s3, hs3⟩ : ∃ s' : ByteArray, s' = s2 ++ t.extract q2 (q2 + 1) := ⟨_, rfl⟩
        have z3 : s3.size ≤ 1400003 := by
          rw [hs3, ByteArray.size_append]
          have h := congrArg List.length (piece HT q2 r2)
          rw [← Lib.size_eq] at h
          simp only [List.length_cons, List.length_nil] at h
          omega
        have p3 : ∀ W, (Op.stringOp .add s2 (t.extract q2 (q2 + 1))).run Try.prog W = .ok (.string s3) W := fun W => by
          rw [hs3]
          refine run_string_add_sum _ _ _ ?_
          rw [← ByteArray.size_append, ← hs3]
          omega
        obtain ⟨s4, hs4⟩ : ∃ s' : ByteArray, s' = s3 ++ ⟨#[61]⟩ := ⟨_, rfl⟩
        have z4 : s4.size ≤ 1400004 := by
          rw [hs4, ByteArray.size_append]
          show _ + 1 ≤ _
          omega
        have p4 : ∀ W, (Op.stringOp .add s3 (⟨#[61]⟩)).run Try.prog W = .ok (.string s4) W := fun W => by
          rw [hs4]
          refine run_string_add_sum _ _ _ ?_
          rw [← ByteArray.size_append, ← hs4]
          omega
        have HS4 : Hid (s4.data.toList ++ enc64 (b.drop (k + 3)) = enc64 b) := by
          show _ = _
          rw [← HS.out, HL.out, HR.out, hs4, hs3, hs2, hs1]
          simp only [app_data, piece HT q0 r0, piece HT q1 r1, piece HT q2 r2]
          simp [enc64]
        have y0 : (0 : Int) ≤ (q0 : Int) := by omega
        have y1 : (0 : Int) ≤ (q1 : Int) := by omega
        have y2 : (0 : Int) ≤ (q2 : Int) := by omega
        clear hs1 hs2 hs3 hs4
        have ps0 := run_cut_str (P := Try.prog) 9 Try.underlying9 t q0 (q0 + 1) (q0 : Int) ((q0 : Int) + 1) rfl (by omega) (by omega) (by omega)
        have ps1 := run_cut_str (P := Try.prog) 9 Try.underlying9 t q1 (q1 + 1) (q1 : Int) ((q1 : Int) + 1) rfl (by omega) (by omega) (by omega)
        have ps2 := run_cut_str (P := Try.prog) 9 Try.underlying9 t q2 (q2 + 1) (q2 : Int) ((q2 : Int) + 1) rfl (by omega) (by omega) (by omega)
        have w0_ : IntKind.i64.wrap ((q0 : Int) + 1) = (q0 : Int) + 1 := IntWalk.i64_in _ (by omega)
        have w1_ : IntKind.i64.wrap ((q1 : Int) + 1) = (q1 : Int) + 1 := IntWalk.i64_in _ (by omega)
        apply region_only (by kernel_rfl) (by kernel_rfl)
        apply rel_val (hrf := Tk_refl)
        case hw => rfl
        case hy => intro wS hN hF; skip; first | (go_simp; done) | (go_simp; with_reducible rfl)
        case' hk => skip
        try simp only [Act.put, List.setIfInBounds_toArray, List.set_cons_zero, List.set_cons_succ]
        apply rel_val (hrf := Tk_refl)
        case hw => rfl
        case hy => intro wS hN hF; skip; first | (go_simp; done) | (go_simp; with_reducible rfl)
        case' hk => skip
        try simp only [Act.put, List.setIfInBounds_toArray, List.set_cons_zero, List.set_cons_succ]
        apply rel_val (hrf := Tk_refl)
        case hw => rfl
        case hy => intro wS hN hF; skip; first | (go_simp; done) | (go_simp; with_reducible rfl)
        case' hk => skip
        try simp only [Act.put, List.setIfInBounds_toArray, List.set_cons_zero, List.set_cons_succ]
        apply rel_val (hrf := Tk_refl)
        case hw => rfl
        case hy => intro wS hN hF; skip; first | (go_simp; done) | (go_simp; with_reducible rfl)
        case' hk => skip
        try simp only [Act.put, List.setIfInBounds_toArray, List.set_cons_zero, List.set_cons_succ]
        apply rel_val (hrf := Tk_refl)
        case hw => rfl
        case hy => intro wS hN hF; skip; first | (go_simp; done) | (go_simp; with_reducible rfl)
        case' hk => skip
        try simp only [Act.put, List.setIfInBounds_toArray, List.set_cons_zero, List.set_cons_succ]
        apply rel_val (hrf := Tk_refl)
        case hw => rfl
        case hy => intro wS hN hF; skip; first | (go_simp; done) | (go_simp; with_reducible rfl)
        case' hk => skip
        try simp only [Act.put, List.setIfInBounds_toArray, List.set_cons_zero, List.set_cons_succ]
        apply rel_val (hrf := Tk_refl)
        case hw => rfl
        case hy => intro wS hN hF; skip; first | (go_simp; done) | (go_simp; with_reducible rfl)
        case' hk => skip
        try simp only [Act.put, List.setIfInBounds_toArray, List.set_cons_zero, List.set_cons_succ]
        apply rel_val (hrf := Tk_refl)
        case hw => rfl
        case hy => intro wS hN hF; skip; first | (go_simp; done) | (go_simp; with_reducible rfl)
        case' hk => skip
        try simp only [Act.put, List.setIfInBounds_toArray, List.set_cons_zero, List.set_cons_succ]
        apply rel_val (hrf := Tk_refl)
        case hw => rfl
        case hy => intro wS hN hF; skip; first | (go_simp; done) | (go_simp; with_reducible rfl)
        case' hk => skip
        try simp only [Act.put, List.setIfInBounds_toArray, List.set_cons_zero, List.set_cons_succ]
        apply rel_val (hrf := Tk_refl)
        case hw => rfl
        case hy => intro wS hN hF; skip; first | (go_simp; done) | (go_simp; with_reducible rfl)
        case' hk => skip
        try simp only [Act.put, List.setIfInBounds_toArray, List.set_cons_zero, List.set_cons_succ]
        apply rel_val (hrf := Tk_refl)
        case hw => rfl
        case hy => intro wS hN hF; skip; first | (go_simp; done) | (go_simp; with_reducible rfl)
        case' hk => skip
        try simp only [Act.put, List.setIfInBounds_toArray, List.set_cons_zero, List.set_cons_succ]
        apply rel_val (hrf := Tk_refl)
        case hw => rfl
        case hy => intro wS hN hF; skip; first | (go_simp; done) | (go_simp; with_reducible rfl)
        case' hk => skip
        try simp only [Act.put, List.setIfInBounds_toArray, List.set_cons_zero, List.set_cons_succ]
        apply rel_val (hrf := Tk_refl)
        case hw => rfl
        case hy => intro wS hN hF; skip; first | (go_simp; done) | (go_simp; with_reducible rfl)
        case' hk => skip
        try simp only [Act.put, List.setIfInBounds_toArray, List.set_cons_zero, List.set_cons_succ]
        apply rel_val (hrf := Tk_refl)
        case hw => rfl
        case hy => intro wS hN hF; skip; first | (go_simp; done) | (go_simp; with_reducible rfl)
        case' hk => skip
        try simp only [Act.put, List.setIfInBounds_toArray, List.set_cons_zero, List.set_cons_succ]
        apply rel_val (hrf := Tk_refl)
        case hw => rfl
        case hy => intro wS hN hF; skip; first | (go_simp; done) | (go_simp; with_reducible rfl)
        case' hk => skip
        try simp only [Act.put, List.setIfInBounds_toArray, List.set_cons_zero, List.set_cons_succ]
        apply rel_val (hrf := Tk_refl)
        case hw => rfl
        case hy => intro wS hN hF; skip; first | (go_simp; done) | (go_simp; with_reducible rfl)
        case' hk => skip
        try simp only [Act.put, List.setIfInBounds_toArray, List.set_cons_zero, List.set_cons_succ]
        apply rel_val (hrf := Tk_refl)
        case hw => rfl
        case hy => intro wS hN hF; skip; first | (go_simp; done) | (go_simp; with_reducible rfl)
        case' hk => skip
        try simp only [Act.put, List.setIfInBounds_toArray, List.set_cons_zero, List.set_cons_succ]
        apply rel_val (hrf := Tk_refl)
        case hw => rfl
        case hy => intro wS hN hF; skip; first | (go_simp; done) | (go_simp; with_reducible rfl)
        case' hk => skip
        try simp only [Act.put, List.setIfInBounds_toArray, List.set_cons_zero, List.set_cons_succ]
        apply rel_val (hrf := Tk_refl)
        case hw => rfl
        case hy => intro wS hN hF; skip; first | (go_simp; done) | (go_simp; with_reducible rfl)
        case' hk => skip
        try simp only [Act.put, List.setIfInBounds_toArray, List.set_cons_zero, List.set_cons_succ]
        apply rel_val (hrf := Tk_refl)
        case hw => rfl
        case hy => intro wS hN hF; skip; first | (go_simp; done) | (go_simp; with_reducible rfl)
        case' hk => skip
        try simp only [Act.put, List.setIfInBounds_toArray, List.set_cons_zero, List.set_cons_succ]
        refine rel_end ?_
        intro wS hO hF
        clear hF
        go_wp2
        go_roundw
        case rel => exact ⟨k + 3, s4, by omega, by go_num, rfl, HS4, HO.drew.then hO.only⟩
        case measure => simp [intOf]; omega
      | x :: y :: z :: r =>
        have HD := Lib.hid hd
        have hk1 : k + 3 ≤ n := by
          have h := congrArg List.length hd
          rw [List.length_drop, HLN.out] at h
          simp only [List.length_cons] at h
          omega
        have g0 : b[k + 0]? = some x := by
          have h := List.getElem?_drop (xs := b) (i := k) (j := 0)
          rw [hd] at h
          exact h.symm
        obtain ⟨j0, e0⟩ := List.getElem?_eq_some_iff.1 g0
        have c0 := HC.out (k + 0) j0
        rw [e0] at c0
        have b0 : x.toNat < 256 := x.toNat_lt
        have g1 : b[k + 1]? = some y := by
          have h := List.getElem?_drop (xs := b) (i := k) (j := 1)
          rw [hd] at h
          exact h.symm
        obtain ⟨j1, e1⟩ := List.getElem?_eq_some_iff.1 g1
        have c1 := HC.out (k + 1) j1
        rw [e1] at c1
        have b1 : y.toNat < 256 := y.toNat_lt
        have g2 : b[k + 2]? = some z := by
          have h := List.getElem?_drop (xs := b) (i := k) (j := 2)
          rw [hd] at h
          exact h.symm
        obtain ⟨j2, e2⟩ := List.getElem?_eq_some_iff.1 g2
        have c2 := HC.out (k + 2) j2
        rw [e2] at c2
        have b2 : z.toNat < 256 := z.toNat_lt
        replace c0 : wr.cell? (ad.add k) = some (.int .u8 (x.toNat : Int)) := c0
        replace c1 : wr.cell? ⟨ad.block, ad.off + (k + 1), none⟩ = some (.int .u8 (y.toNat : Int)) := c1
        replace c2 : wr.cell? ⟨ad.block, ad.off + (k + 2), none⟩ = some (.int .u8 (z.toNat : Int)) := c2
        clear hd g0 e0 j0 g1 e1 j1 g2 e2 j2
        obtain ⟨N, hN⟩ : ∃ N : Nat, N = x.toNat * 65536 + y.toNat * 256 + z.toNat := ⟨_, rfl⟩
        have hNb : N < 16777216 := by omega
        obtain ⟨M, hM⟩ : ∃ M : Nat, M = x.toNat * 65536 + y.toNat * 256 := ⟨_, rfl⟩
        have eM : bits .or .i64 ((x.toNat : Int) * 65536) ((y.toNat : Int) * 256) = (M : Int) := by rw [show ((x.toNat : Int) * 65536) = ((x.toNat * 65536 : Nat) : Int) by omega, show ((y.toNat : Int) * 256) = ((y.toNat * 256 : Nat) : Int) by omega, or_N2 _ _ (by omega) (by omega) (by omega), hM]
        have eN : bits .or .i64 (M : Int) (z.toNat : Int) = (N : Int) := by rw [or_N _ _ (by omega) (by omega) (by omega)]; omega
        obtain ⟨q0, h0⟩ : ∃ q0 : Nat, q0 = N / 262144 := ⟨_, rfl⟩
        obtain ⟨q1, h1⟩ : ∃ q : Nat, q = N / 4096 % 64 := ⟨_, rfl⟩
        obtain ⟨q2, h2⟩ : ∃ q : Nat, q = N / 64 % 64 := ⟨_, rfl⟩
        obtain ⟨q3, h3⟩ : ∃ q : Nat, q = N / 1 % 64 := ⟨_, rfl⟩
        have f0 : (N : Int) / 262144 = (q0 : Int) := by omega
        have f1 : bits .and .i64 ((N : Int) / 4096) 63 = (q1 : Int) := by
          rw [show ((N : Int) / 4096) = ((N / 4096 : Nat) : Int) by omega, and_63 _ (by omega), h1]
        have f2 : bits .and .i64 ((N : Int) / 64) 63 = (q2 : Int) := by
          rw [show ((N : Int) / 64) = ((N / 64 : Nat) : Int) by omega, and_63 _ (by omega), h2]
        have f3 : bits .and .i64 ((N : Int)) 63 = (q3 : Int) := by
          rw [show ((N : Int)) = ((N / 1 : Nat) : Int) by omega, and_63 _ (by omega), h3]
        have r0 : q0 < 64 := by omega
        have i0 : (q0 : Int) + 1 ≤ 64 := by omega
        have r1 : q1 < 64 := by omega
        have i1 : (q1 : Int) + 1 ≤ 64 := by omega
        have r2 : q2 < 64 := by omega
        have i2 : (q2 : Int) + 1 ≤ 64 := by omega
        have r3 : q3 < 64 := by omega
        have i3 : (q3 : Int) + 1 ≤ 64 := by omega
        have a0 : x.toNat / 4 = q0 := by omega
        have a1 : x.toNat % 4 * 16 + y.toNat / 16 = q1 := by omega
        have a2 : y.toNat % 16 * 4 + z.toNat / 64 = q2 := by omega
        have a3 : z.toNat % 64 = q3 := by omega
        have HL : Hid (enc64 (b.drop k) = lt q0 :: lt q1 :: lt q2 :: lt q3 :: enc64 r) := by
          show _ = _
          rw [HD.out]
          simp only [enc64, l0, l1, l2, l3, a0, a1, a2, a3]
        have HR : Hid (b.drop (k + 3) = r) := by
          show _ = _
          rw [← List.drop_drop, HD.out]
          rfl
        clear hN a0 a1 a2 a3 h0 h1 h2 h3 hM
        have t1 : (k : Int) + 1 < (n : Int) := by omega
        have t2 : (k : Int) + 2 < (n : Int) := by omega
        clear hk1
        go_wp2_with (go_at_call 18; refine (letters_any _).mono ?_; rintro e w' ⟨t, rfl, HT, hts, rfl⟩)
        obtain ⟨s1, hs1⟩ : ∃ s' : ByteArray, s' = s ++ t.extract q0 (q0 + 1) := ⟨_, rfl⟩
        have z1 : s1.size ≤ 1400001 := by
          rw [hs1, ByteArray.size_append]
          have h := congrArg List.length (piece HT q0 r0)
          rw [← Lib.size_eq] at h
          simp only [List.length_cons, List.length_nil] at h
          omega
        have p1 : ∀ W, (Op.stringOp .add s (t.extract q0 (q0 + 1))).run Try.prog W = .ok (.string s1) W := fun W => by
          rw [hs1]
          refine run_string_add_sum _ _ _ ?_
          rw [← ByteArray.size_append, ← hs1]
          omega
        obtain ⟨s2, hs2⟩ : ∃ s' : ByteArray, s' = s1 ++ t.extract q1 (q1 + 1) := ⟨_, rfl⟩
        have z2 : s2.size ≤ 1400002 := by
          rw [hs2, ByteArray.size_append]
          have h := congrArg List.length (piece HT q1 r1)
          rw [← Lib.size_eq] at h
          simp only [List.length_cons, List.length_nil] at h
          omega
        have p2 : ∀ W, (Op.stringOp .add s1 (t.extract q1 (q1 + 1))).run Try.prog W = .ok (.string s2) W := fun W => by
          rw [hs2]
          refine run_string_add_sum _ _ _ ?_
          rw [← ByteArray.size_append, ← hs2]
          omega
        obtain ⟨s3, hs3⟩ : ∃ s' : ByteArray, s' = s2 ++ t.extract q2 (q2 + 1) := ⟨_, rfl⟩
        have z3 : s3.size ≤ 1400003 := by
          rw [hs3, ByteArray.size_append]
          have h := congrArg List.length (piece HT q2 r2)
          rw [← Lib.size_eq] at h
          simp only [List.length_cons, List.length_nil] at h
          omega
        have p3 : ∀ W, (Op.stringOp .add s2 (t.extract q2 (q2 + 1))).run Try.prog W = .ok (.string s3) W := fun W => by
          rw [hs3]
          refine run_string_add_sum _ _ _ ?_
          rw [← ByteArray.size_append, ← hs3]
          omega
        obtain ⟨s4, hs4⟩ : ∃ s' : ByteArray, s' = s3 ++ t.extract q3 (q3 + 1) := ⟨_, rfl⟩
        have z4 : s4.size ≤ 1400004 := by
          rw [hs4, ByteArray.size_append]
          have h := congrArg List.length (piece HT q3 r3)
          rw [← Lib.size_eq] at h
          simp only [List.length_cons, List.length_nil] at h
          omega
        have p4 : ∀ W, (Op.stringOp .add s3 (t.extract q3 (q3 + 1))).run Try.prog W = .ok (.string s4) W := fun W => by
          rw [hs4]
          refine run_string_add_sum _ _ _ ?_
          rw [← ByteArray.size_append, ← hs4]
          omega
        have HS4 : Hid (s4.data.toList ++ enc64 (b.drop (k + 3)) = enc64 b) := by
          show _ = _
          rw [← HS.out, HL.out, HR.out, hs4, hs3, hs2, hs1]
          simp only [app_data, piece HT q0 r0, piece HT q1 r1, piece HT q2 r2, piece HT q3 r3]
          simp
        have y0 : (0 : Int) ≤ (q0 : Int) := by omega
        have y1 : (0 : Int) ≤ (q1 : Int) := by omega
        have y2 : (0 : Int) ≤ (q2 : Int) := by omega
        have y3 : (0 : Int) ≤ (q3 : Int) := by omega
        clear hs1 hs2 hs3 hs4
        have ps0 := run_cut_str (P := Try.prog) 9 Try.underlying9 t q0 (q0 + 1) (q0 : Int) ((q0 : Int) + 1) rfl (by omega) (by omega) (by omega)
        have ps1 := run_cut_str (P := Try.prog) 9 Try.underlying9 t q1 (q1 + 1) (q1 : Int) ((q1 : Int) + 1) rfl (by omega) (by omega) (by omega)
        have ps2 := run_cut_str (P := Try.prog) 9 Try.underlying9 t q2 (q2 + 1) (q2 : Int) ((q2 : Int) + 1) rfl (by omega) (by omega) (by omega)
        have ps3 := run_cut_str (P := Try.prog) 9 Try.underlying9 t q3 (q3 + 1) (q3 : Int) ((q3 : Int) + 1) rfl (by omega) (by omega) (by omega)
        have w0_ : IntKind.i64.wrap ((q0 : Int) + 1) = (q0 : Int) + 1 := IntWalk.i64_in _ (by omega)
        have w1_ : IntKind.i64.wrap ((q1 : Int) + 1) = (q1 : Int) + 1 := IntWalk.i64_in _ (by omega)
        apply region_only (by kernel_rfl) (by kernel_rfl)
        apply rel_val (hrf := Tk_refl)
        case hw => rfl
        case hy => intro wS hN hF; skip; first | (go_simp; done) | (go_simp; with_reducible rfl)
        case' hk => skip
        try simp only [Act.put, List.setIfInBounds_toArray, List.set_cons_zero, List.set_cons_succ]
        apply rel_val (hrf := Tk_refl)
        case hw => rfl
        case hy => intro wS hN hF; skip; first | (go_simp; done) | (go_simp; with_reducible rfl)
        case' hk => skip
        try simp only [Act.put, List.setIfInBounds_toArray, List.set_cons_zero, List.set_cons_succ]
        apply rel_val (hrf := Tk_refl)
        case hw => rfl
        case hy => intro wS hN hF; skip; first | (go_simp; done) | (go_simp; with_reducible rfl)
        case' hk => skip
        try simp only [Act.put, List.setIfInBounds_toArray, List.set_cons_zero, List.set_cons_succ]
        apply rel_val (hrf := Tk_refl)
        case hw => rfl
        case hy => intro wS hN hF; skip; first | (go_simp; done) | (go_simp; with_reducible rfl)
        case' hk => skip
        try simp only [Act.put, List.setIfInBounds_toArray, List.set_cons_zero, List.set_cons_succ]
        apply rel_val (hrf := Tk_refl)
        case hw => rfl
        case hy => intro wS hN hF; skip; first | (go_simp; done) | (go_simp; with_reducible rfl)
        case' hk => skip
        try simp only [Act.put, List.setIfInBounds_toArray, List.set_cons_zero, List.set_cons_succ]
        apply rel_val (hrf := Tk_refl)
        case hw => rfl
        case hy => intro wS hN hF; skip; first | (go_simp; done) | (go_simp; with_reducible rfl)
        case' hk => skip
        try simp only [Act.put, List.setIfInBounds_toArray, List.set_cons_zero, List.set_cons_succ]
        apply rel_val (hrf := Tk_refl)
        case hw => rfl
        case hy => intro wS hN hF; skip; first | (go_simp; done) | (go_simp; with_reducible rfl)
        case' hk => skip
        try simp only [Act.put, List.setIfInBounds_toArray, List.set_cons_zero, List.set_cons_succ]
        apply rel_val (hrf := Tk_refl)
        case hw => rfl
        case hy => intro wS hN hF; skip; first | (go_simp; done) | (go_simp; with_reducible rfl)
        case' hk => skip
        try simp only [Act.put, List.setIfInBounds_toArray, List.set_cons_zero, List.set_cons_succ]
        apply rel_val (hrf := Tk_refl)
        case hw => rfl
        case hy => intro wS hN hF; skip; first | (go_simp; done) | (go_simp; with_reducible rfl)
        case' hk => skip
        try simp only [Act.put, List.setIfInBounds_toArray, List.set_cons_zero, List.set_cons_succ]
        apply rel_val (hrf := Tk_refl)
        case hw => rfl
        case hy => intro wS hN hF; skip; first | (go_simp; done) | (go_simp; with_reducible rfl)
        case' hk => skip
        try simp only [Act.put, List.setIfInBounds_toArray, List.set_cons_zero, List.set_cons_succ]
        apply rel_val (hrf := Tk_refl)
        case hw => rfl
        case hy => intro wS hN hF; skip; first | (go_simp; done) | (go_simp; with_reducible rfl)
        case' hk => skip
        try simp only [Act.put, List.setIfInBounds_toArray, List.set_cons_zero, List.set_cons_succ]
        apply rel_val (hrf := Tk_refl)
        case hw => rfl
        case hy => intro wS hN hF; skip; first | (go_simp; done) | (go_simp; with_reducible rfl)
        case' hk => skip
        try simp only [Act.put, List.setIfInBounds_toArray, List.set_cons_zero, List.set_cons_succ]
        apply rel_val (hrf := Tk_refl)
        case hw => rfl
        case hy => intro wS hN hF; skip; first | (go_simp; done) | (go_simp; with_reducible rfl)
        case' hk => skip
        try simp only [Act.put, List.setIfInBounds_toArray, List.set_cons_zero, List.set_cons_succ]
        apply rel_val (hrf := Tk_refl)
        case hw => rfl
        case hy => intro wS hN hF; skip; first | (go_simp; done) | (go_simp; with_reducible rfl)
        case' hk => skip
        try simp only [Act.put, List.setIfInBounds_toArray, List.set_cons_zero, List.set_cons_succ]
        apply rel_val (hrf := Tk_refl)
        case hw => rfl
        case hy => intro wS hN hF; skip; first | (go_simp; done) | (go_simp; with_reducible rfl)
        case' hk => skip
        try simp only [Act.put, List.setIfInBounds_toArray, List.set_cons_zero, List.set_cons_succ]
        apply rel_val (hrf := Tk_refl)
        case hw => rfl
        case hy => intro wS hN hF; skip; first | (go_simp; done) | (go_simp; with_reducible rfl)
        case' hk => skip
        try simp only [Act.put, List.setIfInBounds_toArray, List.set_cons_zero, List.set_cons_succ]
        apply rel_val (hrf := Tk_refl)
        case hw => rfl
        case hy => intro wS hN hF; skip; first | (go_simp; done) | (go_simp; with_reducible rfl)
        case' hk => skip
        try simp only [Act.put, List.setIfInBounds_toArray, List.set_cons_zero, List.set_cons_succ]
        apply rel_val (hrf := Tk_refl)
        case hw => rfl
        case hy => intro wS hN hF; skip; first | (go_simp; done) | (go_simp; with_reducible rfl)
        case' hk => skip
        try simp only [Act.put, List.setIfInBounds_toArray, List.set_cons_zero, List.set_cons_succ]
        apply rel_val (hrf := Tk_refl)
        case hw => rfl
        case hy => intro wS hN hF; skip; first | (go_simp; done) | (go_simp; with_reducible rfl)
        case' hk => skip
        try simp only [Act.put, List.setIfInBounds_toArray, List.set_cons_zero, List.set_cons_succ]
        apply rel_val (hrf := Tk_refl)
        case hw => rfl
        case hy => intro wS hN hF; skip; first | (go_simp; done) | (go_simp; with_reducible rfl)
        case' hk => skip
        try simp only [Act.put, List.setIfInBounds_toArray, List.set_cons_zero, List.set_cons_succ]
        refine rel_end ?_
        intro wS hO hF
        clear hF
        go_wp2
        go_roundw
        case rel => exact ⟨k + 3, s4, by omega, by go_num, rfl, HS4, HO.drew.then hO.only⟩
        case measure => simp [intOf]; omega
    · have HN : Hid (s = St (enc64 b)) := by
        show _ = _
        have h := HS.out
        rw [List.drop_of_length_le (by rw [HLN.out]; omega)] at h
        simp only [enc64, List.append_nil] at h
        rw [← h]
      go_wp2
      go_ret
      exact ⟨by rw [← HN.out]; rfl, HO⟩
end Go.Proofs.Ytjfahkbhhpcnnaa
