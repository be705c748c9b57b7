/-
  The walks of wave's functions over a list: Poly, Turn; known.
-/
import Derived.Test.YthaodlegpjedoaaWLeaf
import Derived.Test.YthaodlegpjedoaaInts
import Derived.WalkKit
namespace Go.Proofs.Ythaodlegpjedoaa
open Go.RowKit

theorem ivs_at {w : World} {A : Option Addr} {n : Nat} {l : List Int} (h : Sl w A n (ivs l)) {k : Nat} (hk : k < n) : ∃ ad, A = some ad ∧ w.cell? (ad.add k) = some (.int .i64 (l.getD k 0)) := by
  obtain ⟨ad, u, rfl, hu, hc⟩ := h.at_ hk
  have hl : k < l.length := by have := h.len; rw [ivs_length] at this; omega
  rw [ivs_get _ _ hl] at hu
  injection hu with hu
  subst hu
  exact ⟨ad, rfl, by rw [hc]; simp [List.getD, hl]⟩

set_option maxHeartbeats 1600000 in
set_option maxRecDepth 100000 in
theorem Poly_any (c d : Nat) (p q : Int) (A : Option Addr) (n cp : Nat) (l : List Int) (M : Nat) (C : Nat → Nat) (w : World) (hc : Is c p) (hd : Is d q) (hr : Sl w A n (ivs l)) (hB : Bnd p q l M C) (hn : n ≤ 1000000) :
    Calls Try.prog 85 #[.complex .f64 c d, .slice A n cp] w fun e w' => e = .returned (.complex .f64 (FI (pol p q l n).1) (FI (pol p q l n).2)) ∧ w = w' := by
  have HL : Hid (l.length = n) := by have := hr.len; rw [ivs_length] at this; exact this
  have hone : Is 4607182418800017408 1 := by rw [← FI_one]; exact is_FI (by decide)
  have hzero : Is 0 0 := is_FI (n := 0) (by decide)
  go_enter Try.func85, Try.ntmps85
  go_wp2_with fail
  go_loop [5, 6, 11] (fun s pw i => ∃ k a b, k ≤ n ∧ i = .int .i64 (k : Nat) ∧ s = .complex .f64 (FI (pol p q l k).1) (FI (pol p q l k).2) ∧ pw = .complex .f64 a b ∧ Is a (pwr p q k).1 ∧ Is b (pwr p q k).2) (fun _ _ i => n - (intOf i).toNat)
  case atStart => exact ⟨0, 4607182418800017408, 0, Nat.zero_le _, rfl, rfl, rfl, hone, hzero⟩
  case round =>
    obtain ⟨k, a, b, hk, rfl, rfl, rfl, ha, hb⟩ := hrel
    by_cases hlt : k < n
    · have hkl : k < l.length := by rw [HL.out]; exact hlt
      obtain ⟨ad, rfl, hcell⟩ := ivs_at hr hlt
      have hN := hB.next hkl
      have hP := hB.part hkl
      have hS := hB.sums (k := k) (by omega)
      have hS' := hB.sums (k := k + 1) (by omega)
      have hPw := hB.power (k := k + 1) (by omega)
      have hg := hB.getD k
      have HST : Hid (pol p q l (k + 1) = ((pol p q l k).1 + l.getD k 0 * (pwr p q k).1, (pol p q l k).2 + l.getD k 0 * (pwr p q k).2)) := rfl
      obtain ⟨r3, r4, e34, i3, i4⟩ := cmul_is ha hb hc hd hN.1 hN.2.1 hPw.1 hN.2.2.1 hN.2.2.2.1 hPw.2
      have o2 := fun t w => run_complex_mul (P := Try.prog) w t _ _ _ _ r3 r4 e34
      rw [HST.out] at hS'
      generalize l.getD k 0 = z at *
      by_cases h0 : z = 0
      · subst h0
        have HST2 : Hid (pol p q l (k + 1) = pol p q l k) := by show _ = _; rw [HST.out]; simp
        clear hN hP hS hS' hPw hg e34 HST
        go_wp2
        go_round
        case rel => exact ⟨k + 1, r3, r4, by omega, by go_num, by rw [HST2.out], rfl, i3, i4⟩
        case measure => simp [intOf]; omega
      · have hne : (z != 0) = true := by rw [bne_iff_ne]; exact h0
        have hw : W53 z := by unfold W53; omega
        obtain ⟨r1, r2, e12, i1, i2⟩ := cmul_is (is_FI hw) hzero ha hb hP.1 (by rw [Int.zero_mul]; exact w53_zero) (by rw [Int.zero_mul, Int.sub_zero]; exact hP.1) hP.2 (by rw [Int.zero_mul]; exact w53_zero) (by rw [Int.zero_mul, Int.add_zero]; exact hP.2)
        rw [Int.zero_mul, Int.sub_zero] at i1
        rw [Int.zero_mul, Int.add_zero] at i2
        have e3 := cadd_FI i1 i2 hS.1 hS.2 hS'.1 hS'.2
        have o1 := fun t w => run_complex_mul (P := Try.prog) w t _ _ _ _ r1 r2 e12
        have o3 := fun t w => run_complex_sum (P := Try.prog) w .add (Or.inl rfl) t .f64 _ _ _ _ _ _ e3
        clear h0 hN hP hS hS' hPw hg e34 e12 e3 hw
        go_wp2
        go_round
        case rel => exact ⟨k + 1, r3, r4, by omega, by go_num, by rw [HST.out], rfl, i3, i4⟩
        case measure => simp [intOf]; omega
    · have hkn : k = n := by omega
      subst hkn
      go_wp2
      go_ret
      exact ⟨rfl, rfl⟩

set_option maxRecDepth 100000 in
theorem Turn_any (A : Option Addr) (n cp : Nat) (l : List Int) (C : Nat → Nat) (w : World) (hr : Sl w A n (ivs l)) (hB : Bnd 0 1 l 1 C) (hn : n ≤ 1000000) :
    Calls Try.prog 64 #[.slice A n cp] w fun e w' => e = .returned (.complex .f64 (FI (pol 0 1 l n).1) (FI (pol 0 1 l n).2)) ∧ w = w' := by
  have hone : Is 4607182418800017408 1 := by rw [← FI_one]; exact is_FI (by decide)
  have hzero : Is 0 0 := is_FI (n := 0) (by decide)
  go_enter Try.func64, Try.ntmps64
  go_wp2_with (go_at_call 85; refine (Poly_any 0 4607182418800017408 0 1 A n cp l 1 C w hzero hone hr hB hn).mono ?_; rintro e w' ⟨rfl, rfl⟩)
  go_ret
  exact ⟨rfl, rfl⟩

/-- A list at powers of a number of size 1. -/
theorem bnd_one {p q : Int} {l : List Int} (h : p.natAbs + q.natAbs = 1) (hl : l.length ≤ 8000) (hs : ∀ x ∈ l, -1048576 < x ∧ x < 1048576) : Bnd p q l 1 (fun k => k) :=
  ⟨by omega, Nat.le_refl _, fun k _ => by simp, by show l.length * 1048576 ≤ _; omega, by simp, hs⟩

end Go.Proofs.Ythaodlegpjedoaa
