/-
  The walk of the law BaseCut.
-/
import Derived.Test.YtjfahkbhhpcnnaaBMore
import Derived.WalkKit
import Derived.Handy
import Derived.Deep.DeepMust
import Derived.WalkLawsBesides
import Derived.ScopeJumps
import Derived.WalkMore
import Derived.IntWalk
namespace Go.Proofs.Ytjfahkbhhpcnnaa
open Go.RowKit

open Go.Instr

theorem basecut_any (A : Option Addr) (n c : Nat) (b : List UInt8) (x : Int) (w : World) (hb : Sl w A n (bvs b)) (hc : n ≤ c) (hmx : n ≤ maxLen) :
    Calls Try.prog 6 #[.slice A n c, .int .i64 x] w fun e w' => e = .returned (.bool true) ∧ Only [] w w' := by
  unfold maxLen at hmx
  by_cases h0 : n < 1
  · have h1' : (n : Int) < 1 := by omega
    go_enter Try.func6, Try.ntmps6
    go_wp2
    go_ret
    exact ⟨rfl, Only.refl _ _⟩
  · have h0' : (1 : Int) ≤ (n : Int) := by omega
    by_cases h1 : 1000 < n
    · have h1' : (1000 : Int) < (n : Int) := by omega
      go_enter Try.func6, Try.ntmps6
      go_wp2
      go_ret
      exact ⟨rfl, Only.refl _ _⟩
    · have h1' : (n : Int) ≤ 1000 := by omega
      have HBL : Hid (b.length = n) := by have := hb.len; rw [bvs_length] at this; exact this
      obtain ⟨t, ht⟩ : ∃ t, t = St (enc64 b) := ⟨_, rfl⟩
      have HT := Lib.hid ht
      have HTS : Hid (t.size = (n + 2) / 3 * 4) := by show _ = _; rw [HT.out, St_size, enc_length, HBL.out]
      have hts := HTS.out
      have ht4 : 4 ≤ t.size := by omega
      have htm : t.size ≤ 1400 := by omega
      have ht4' : (4 : Int) ≤ (t.size : Int) := by omega
      clear hts ht
      obtain ⟨m, hm⟩ : ∃ m : Nat, x % 65536 = (m : Int) := ⟨(x % 65536).toNat, by omega⟩
      have hmb : m < 65536 := by omega
      have hand : bits .and .i64 x 65535 = (m : Int) := by rw [low16]; exact hm
      obtain ⟨k, hk⟩ : ∃ k : Nat, k = m % t.size := ⟨_, rfl⟩
      have hkl : k < t.size := by rw [hk]; exact Nat.mod_lt _ (by omega)
      have hki : (m : Int) % (t.size : Int) = (k : Int) := by rw [hk]; omega
      have hkl' : (k : Int) < (t.size : Int) := by omega
      clear hm hk
      have HEX : Hid ((t.extract 0 k).data.toList = (enc64 b).take k) := by show _ = _; rw [Lib.extract_data, HT.out, St_list]; simp
      have hes : (t.extract 0 k).size ≤ 1048576 := by rw [Lib.size_eq, HEX.out, List.length_take]; omega
      by_cases h4 : k % 4 = 0
      · have hne : ((k : Int) % 4 != 0) = false := by simp; omega
        have HD : Hid (dec64 (t.extract 0 k).data.toList = some (b.take (3 * (k / 4)))) := by
          show _ = _
          have hts := HTS.out
          have e : 4 * (k / 4) = k := by omega
          have h3 := enc_take b (k / 4) (by rw [HBL.out]; omega)
          rw [e] at h3
          rw [HEX.out, h3, dec_enc]
        obtain ⟨q, hq⟩ : ∃ q : Nat, k / 4 = q := ⟨_, rfl⟩
        obtain ⟨m3, hm3⟩ : ∃ m3 : Nat, m3 = q * 3 := ⟨_, rfl⟩
        have hmn : m3 ≤ n := by have := HTS.out; omega
        have hs3 := hb.pre hmn
        rw [bvs_take, show m3 = 3 * (k / 4) by omega] at hs3
        rw [show 3 * (k / 4) = m3 by omega] at hs3
        rw [show 3 * (k / 4) = m3 by omega] at HD
        have HQ := Lib.hid (And.intro hq hm3)
        have hqb : q ≤ 1000 := by omega
        have hmi : (m3 : Int) ≤ (c : Int) := by omega
        have hmN : m3 ≤ c := by omega
        clear h4 hq hm3
        go_enter Try.func6, Try.ntmps6
        go_wp2_with (first
          | (go_at_call 11; refine (Encode_as A n c b t _ HT hb hc (by omega)).mono ?_; rintro e w1 ⟨rfl, HO1⟩)
          | (go_at_call 9; refine (Decode_yes (t.extract 0 k) _ _ hes HD).mono ?_; rintro e w2 ⟨A1, n1, c1, rfl, HV1, HB1, HO2⟩; have HO12 := HO1.then HO2))
        apply region_only (by kernel_rfl) (by kernel_rfl)
        apply rel_val (hrf := Tk_refl)
        case hw => rfl
        case hy => intro wS hN hF; skip; first | (go_simp; done) | (go_simp; with_reducible rfl)
        case' hk => skip
        try simp only [Act.put, List.setIfInBounds_toArray, List.set_cons_zero, List.set_cons_succ]
        apply rel_val (hrf := Tk_refl)
        case hw => rfl
        case hy => intro wS hN hF; skip; first | (go_simp; done) | (go_simp; with_reducible rfl)
        case' hk => skip
        try simp only [Act.put, List.setIfInBounds_toArray, List.set_cons_zero, List.set_cons_succ]
        apply rel_val (hrf := Tk_refl)
        case hw => rfl
        case hy => intro wS hN hF; skip; first | (go_simp; done) | (go_simp; with_reducible rfl)
        case' hk => skip
        try simp only [Act.put, List.setIfInBounds_toArray, List.set_cons_zero, List.set_cons_succ]
        apply rel_val (hrf := Tk_refl)
        case hw => rfl
        case hy => intro wS hN hF; skip; first | (go_simp; done) | (go_simp; with_reducible rfl)
        case' hk => skip
        try simp only [Act.put, List.setIfInBounds_toArray, List.set_cons_zero, List.set_cons_succ]
        apply rel_val (hrf := Tk_refl)
        case hw => rfl
        case hy => intro wS hN hF; have hcv := str_of (HV1.drew.keep (hN.pre rfl)).sl c1; first | (go_simp; done) | (go_simp; with_reducible rfl)
        case' hk => skip
        try simp only [Act.put, List.setIfInBounds_toArray, List.set_cons_zero, List.set_cons_succ]
        apply rel_val (hrf := Tk_refl)
        case hw => rfl
        case hy => intro wS hN hF; skip; first | (go_simp; done) | (go_simp; with_reducible rfl)
        case' hk => skip
        try simp only [Act.put, List.setIfInBounds_toArray, List.set_cons_zero, List.set_cons_succ]
        apply rel_val (hrf := Tk_refl)
        case hw => rfl
        case hy => intro wS hN hF; skip; first | (go_simp; done) | (go_simp; with_reducible rfl)
        case' hk => skip
        try simp only [Act.put, List.setIfInBounds_toArray, List.set_cons_zero, List.set_cons_succ]
        apply rel_val (v := .int .i64 (q : Int)) (hrf := Tk_refl)
        case hw => rfl
        case hy =>
          intro wS hN hF
          go_simp
          have h := HQ.out.1
          rw [IntWalk.i64_in _ (by omega)]
          omega
        case' hk => skip
        try simp only [Act.put, List.setIfInBounds_toArray, List.set_cons_zero, List.set_cons_succ]
        apply rel_val (v := .int .i64 (m3 : Int)) (hrf := Tk_refl)
        case hw => rfl
        case hy =>
          intro wS hN hF
          go_simp
          have h := HQ.out.2
          rw [IntWalk.i64_in _ (by omega)]
          omega
        case' hk => skip
        try simp only [Act.put, List.setIfInBounds_toArray, List.set_cons_zero, List.set_cons_succ]
        apply rel_val (v := .slice A m3 c) (hrf := Tk_refl)
        case hw => rfl
        case hy =>
          intro wS hN hF
          go_simp
        case' hk => skip
        try simp only [Act.put, List.setIfInBounds_toArray, List.set_cons_zero, List.set_cons_succ]
        apply rel_val (hrf := Tk_refl)
        case hw => rfl
        case hy => intro wS hN hF; have hcv := str_of ((hs3.keep HO12.drew).keep (hN.pre rfl)) c; first | (go_simp; done) | (go_simp; with_reducible rfl)
        case' hk => skip
        try simp only [Act.put, List.setIfInBounds_toArray, List.set_cons_zero, List.set_cons_succ]
        apply rel_val (hrf := Tk_refl)
        case hw => rfl
        case hy => intro wS hN hF; skip; first | (go_simp; done) | (go_simp; with_reducible rfl)
        case' hk => skip
        try simp only [Act.put, List.setIfInBounds_toArray, List.set_cons_zero, List.set_cons_succ]
        apply rel_val (hrf := Tk_refl)
        case hw => rfl
        case hy => intro wS hN hF; skip; first | (go_simp; done) | (go_simp; with_reducible rfl)
        case' hk => skip
        try simp only [Act.put, List.setIfInBounds_toArray, List.set_cons_zero, List.set_cons_succ]
        apply rel_val (hrf := Tk_refl)
        case hw => rfl
        case hy => intro wS hN hF; skip; first | (go_simp; done) | (go_simp; with_reducible rfl)
        case' hk => skip
        try simp only [Act.put, List.setIfInBounds_toArray, List.set_cons_zero, List.set_cons_succ]
        apply rel_call (v := .bool true) (f := 13) (args := #[])
        case hw => rfl
        case hy => intro wS hN hF; go_simp
        case hc => intro wS hN hF; exact call_only (known_any wS)
        case' hk => skip
        try simp only [Act.put, List.setIfInBounds_toArray, List.set_cons_zero, List.set_cons_succ]
        apply rel_val (hrf := Tk_refl)
        case hw => rfl
        case hy => intro wS hN hF; skip; first | (go_simp; done) | (go_simp; with_reducible rfl)
        case' hk => skip
        try simp only [Act.put, List.setIfInBounds_toArray, List.set_cons_zero, List.set_cons_succ]
        apply rel_val (hrf := Tk_refl)
        case hw => rfl
        case hy => intro wS hN hF; skip; first | (go_simp; done) | (go_simp; with_reducible rfl)
        case' hk => skip
        try simp only [Act.put, List.setIfInBounds_toArray, List.set_cons_zero, List.set_cons_succ]
        refine rel_end ?_
        intro wS hO hF
        clear hF
        go_wp2
        go_ret
        exact ⟨rfl, HO12.drew.then hO.only⟩
      · have hne : ((k : Int) % 4 != 0) = true := by simp; omega
        have HD : Hid (dec64 (t.extract 0 k).data.toList = none) := dec_length (by rw [HEX.out, List.length_take, enc_length, HBL.out]; have := HTS.out; omega)
        clear h4
        go_enter Try.func6, Try.ntmps6
        go_wp2_with (first
          | (go_at_call 11; refine (Encode_as A n c b t _ HT hb hc (by omega)).mono ?_; rintro e w1 ⟨rfl, HO1⟩)
          | (go_at_call 9; refine (Decode_no (t.extract 0 k) _ hes HD).mono ?_; rintro e w2 ⟨rfl, HO2⟩)
          | (go_at_call 13; refine (known_any _).mono ?_; rintro e w5 ⟨rfl, HO5⟩))
        go_ret
        exact ⟨rfl, (HO1.then HO2).then HO5⟩
end Go.Proofs.Ytjfahkbhhpcnnaa
