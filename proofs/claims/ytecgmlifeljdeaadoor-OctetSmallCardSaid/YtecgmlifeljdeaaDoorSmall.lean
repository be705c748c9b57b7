/-
  The walk of the law OctetSmall.
-/
import Derived.Test.YtecgmlifeljdeaaDoorKnown
namespace Go.Proofs.YtecgmlifeljdeaaDoor
open Go.RowKit

set_option maxRecDepth 100000 in
set_option maxHeartbeats 1600000 in
theorem small_in (v : Nat) (w : World) (ht : Tab w) (h : v ≤ 4611686018427387904) :
    Calls Tryd.prog 9 #[.int .i64 (v : Int)] w fun e w' => e = .returned (.bool true) ∧ Only [] w w' := by
  have HL := Lib.hid (enc_len_rest v)
  have hlp := enc_len_pos v
  have hl9 := enc_len9 h
  have hcl : clamp (v : Int) = v := by rw [clamp_mid (by omega) (by omega)]; omega
  have HE : Hid ([] ++ encs [(v : Int)] = enc v) := by
    show _ = _
    simp [encs, hcl]
  clear hcl
  go_enter Tryd.func9, Tryd.ntmps9
  go_wp2_with fail
  refine (wnums_any w.heap.size none 0 [] (some ⟨w.heap.size + 1, 0, none⟩) 1 1 [(v : Int)] _ (by exact (Wr.new w).keep ((Only.refl _ _).alloc _)) (by have h := Sl.of_bk (Bk.new (w.alloc (.cells #[.slice none 0 0] 25)) 3 #[.int .i64 (v : Int)]); simpa [ivs] using h) (by intro x hx; simp at hx; omega) (by simp) (by omega) (by simp)).mono ?_
  rintro e w1 ⟨rfl, A1, c1, HW1, HO1, HB1⟩
  have HO1' : Only [] w w1 := (((Only.refl [] w).alloc _).alloc _).trans HO1 (by intro x hx; simp at hx; exact .inr (by omega))
  rw [HE.out] at HW1
  clear HO1 HB1
  go_wp2_with fail
  refine (out_any w.heap.size A1 c1 _ _ HW1 (by omega)).mono ?_
  rintro e w2 ⟨A2, c2, rfl, HV2, HO2, HB2⟩
  have HO2' := HO1'.then HO2
  clear HO2 HB2 HW1 HO1'
  generalize hm : (enc v).length = m at *
  have HM := Lib.hid hm
  clear hm
  go_wp2_with fail
  go_loop [5, 6] (fun n x => ∃ (j u : Nat), n = .int .i64 j ∧ x = .int .i64 u ∧ u ≤ v ∧ j + restLen u = m) (fun _ x => (intOf x).toNat)
  case atStart => exact ⟨1, v / 128, rfl, by go_num, by omega, HL.out.symm⟩
  case round =>
    obtain ⟨j, u, rfl, rfl, hu, HJ⟩ := hrel
    by_cases hpos : 0 < u
    · have hr := restLen_pos hpos
      go_wp2_with fail
      go_round
      case rel => exact ⟨j + 1, u / 128, by go_num, by go_num, by omega, by omega⟩
      case measure => simp [intOf]; omega
    · obtain rfl : u = 0 := by omega
      rw [restLen_zero, Nat.add_zero] at HJ
      subst HJ
      have hj : 0 < j := by omega
      have hj9 : j ≤ 9 := by omega
      have hl0 : 0 < (enc v).length := by rw [HM.out]; exact hj
      obtain ⟨ad, u0, hA, hu0, hc0⟩ := HV2.sl.at_ hj
      subst hA
      obtain ⟨g, rfl⟩ := HV2.addr rfl
      rw [bvs_get _ _ hl0] at hu0
      obtain rfl : bv _ = u0 := by injection hu0
      rw [add_none] at hc0
      unfold bv at hc0
      clear hlp hl9 hu0
      by_cases hv : v < 128
      · have e1 := enc_small hv
        have hj1 : j = 1 := by rw [← HM.out, e1]; rfl
        subst hj1
        have hb0 : (((enc v)[0]'hl0).toNat : Int) = (v : Int) := by
          have h0 : (enc v)[0]'hl0 = UInt8.ofNat v := by
            have h2 : (enc v)[0]? = some (UInt8.ofNat v) := by rw [e1]; rfl
            rw [List.getElem?_eq_getElem hl0] at h2
            injection h2
          rw [h0]
          exact ofNat_byte (by omega)
        rw [hb0] at hc0
        clear e1 hb0
        go_wp2_with (go_at_call 20; go_must (refine (known_any _ (ht.keep HO2')).mono ?_); rintro e w3 ⟨rfl, HO3⟩)
        go_ret
        exact ⟨rfl, HO2'.then HO3⟩
      · have e1 := enc_more hv
        have hb0 : (((enc v)[0]'hl0).toNat : Int) = (v : Int) % 128 + 128 := by
          have h0 : (enc v)[0]'hl0 = UInt8.ofNat (v % 128 + 128) := by
            have h2 : (enc v)[0]? = some (UInt8.ofNat (v % 128 + 128)) := by rw [e1]; rfl
            rw [List.getElem?_eq_getElem hl0] at h2
            injection h2
          rw [h0, ofNat_byte (by omega)]
          omega
        rw [hb0] at hc0
        have hj2 : 2 ≤ j := by
          rw [← HM.out, e1, List.length_cons]
          have := enc_len_pos (v / 128)
          omega
        obtain ⟨b, hb, hn⟩ := enc_last v v (Nat.le_refl _) (by omega)
        rw [HM.out] at hb
        have hlj : j - 1 < (enc v).length := by rw [HM.out]; omega
        obtain ⟨ad, u1, hA, hu1, hc1⟩ := HV2.sl.at_ (k := j - 1) (by omega)
        obtain rfl : (⟨g, 0, none⟩ : Addr) = ad := by injection hA
        rw [bvs_get _ _ hlj] at hu1
        obtain rfl : bv _ = u1 := by injection hu1
        rw [add_none, Nat.zero_add] at hc1
        rw [List.getElem?_eq_getElem hlj] at hb
        have hb' : (enc v)[j - 1]'hlj = b := by injection hb
        rw [hb'] at hc1
        unfold bv at hc1
        have hx : ((b.toNat : Int) != 0) = true := by rw [bne_iff_ne]; omega
        have hj1 : ((j : Int) == 1) = false := by rw [beq_eq_false_iff_ne]; omega
        clear e1 hb0 hA hu1 hb hb'
        go_wp2_with (go_at_call 20; go_must (refine (known_any _ (ht.keep HO2')).mono ?_); rintro e w3 ⟨rfl, HO3⟩)
        go_ret
        exact ⟨rfl, HO2'.then HO3⟩

theorem small_any (v : Int) (w : World) (ht : Tab w) (h0 : -9223372036854775808 ≤ v) (h1 : v ≤ 9223372036854775807) :
    Calls Tryd.prog 9 #[.int .i64 v] w fun e w' => e = .returned (.bool true) ∧ Only [] w w' := by
  by_cases hin : 0 ≤ v ∧ v ≤ 4611686018427387904
  · obtain ⟨a, b⟩ := hin
    obtain ⟨n, rfl⟩ := Int.eq_ofNat_of_zero_le a
    exact small_in n w ht (by omega)
  · by_cases hneg : v < 0
    · clear hin
      go_enter Tryd.func9, Tryd.ntmps9
      go_wp2_with (go_at_call 20; go_must (refine (known_any _ ht).mono ?_); rintro e w3 ⟨rfl, HO3⟩)
      go_ret
      exact ⟨rfl, HO3⟩
    · have hbig : 4611686018427387904 < v := by omega
      clear hin
      go_enter Tryd.func9, Tryd.ntmps9
      go_wp2_with (go_at_call 20; go_must (refine (known_any _ ht).mono ?_); rintro e w3 ⟨rfl, HO3⟩)
      go_ret
      exact ⟨rfl, HO3⟩
end Go.Proofs.YtecgmlifeljdeaaDoor
