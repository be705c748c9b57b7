/-
  The reference's Scan.
-/
import Derived.Test.YtikopdffimpkdaaDoorFScan
namespace Go.Proofs.YtikopdffimpkdaaDoor
open Go.RowKit

set_option maxRecDepth 100000 in
set_option maxHeartbeats 1600000 in
theorem refScan_any (A : Option Addr) (n c : Nat) (b : List UInt8) (w : World) (hs : Sl w A n (bvs b)) (hc : n ≤ c) (hn : n ≤ 100000000000) :
    Calls Tryd.prog 18 #[.slice A n c] w (FreshRows w (scan b).1 (scan b).2) := by
  obtain ⟨i0, hi, hz0, hz1, hz2⟩ := info_parts infoBytes
  have hl : b.length = n := by simpa using hs.len
  have HL := Lib.hid hl
  have hn' : n ≤ 100000000000 := hn
  clear hl
  go_enter Tryd.func18, Tryd.ntmps18
  go_wp2_with fail
  go_loopw [4, 5] (fun s i wr => ∃ (k m cl : Nat) (L : Option Addr) (vs : List Value) (ls : List (List UInt8)), k ≤ n ∧ 12 * m ≤ k ∧ i = .int .i64 k ∧ s = .slice L m cl ∧ Hid (ls.length = m) ∧ Own wr 23 L m cl vs ∧ RowsAt wr vs ls ∧ Only [] w wr ∧ (∀ x ∈ blks L, w.heap.size ≤ x) ∧ Hid (scan b = (ls ++ (scan (b.drop k)).1, k + (scan (b.drop k)).2))) (fun _ i _ => n - (intOf i).toNat)
  case atStart => exact ⟨0, 0, 0, none, [], [], Nat.zero_le _, Nat.le_refl _, rfl, rfl, rfl, Own.nil _ _, RowsAt.nil _, Only.refl _ _, fun x hx => (by cases hx), by show _ = _; simp⟩
  case round =>
    obtain ⟨k, m, cl, L, vs, ls, hk, h12, rfl, rfl, HLs, HV, HR, HO, HB, HS⟩ := hrel
    by_cases hkn : k < n
    · obtain ⟨ad, e, _⟩ := hs.2 (by omega)
      subst e
      have hck : ¬ c = k := by omega
      have hd := hs.add (k := k) (m := n - k) (by omega)
      rw [List.take_of_length_le (by rw [List.length_drop, bvs_length, HL.out]; omega), bvs_drop] at hd
      have HD := Lib.hid (refDecode_any (some (ad.add k)) (n - k) (c - k) (b.drop k) wr (hd.keep HO) (by omega) (by omega))
      have hdl : (b.drop k).length = n - k := by rw [List.length_drop, HL.out]
      by_cases h0 : bad (b.drop k) = 0
      · have hne : ((bad (b.drop k) : Int) != 0) = false := by rw [h0]; rfl
        have hsz := size_pos h0
        have HG := Lib.hid (scan_good h0)
        have hdd : (b.drop k).drop (size (b.drop k)) = b.drop (k + size (b.drop k)) := by rw [List.drop_drop]
        rw [hdd] at HG
        have hs1 := hsz.1
        have hs2 := hsz.2.1
        rw [hdl] at hs2
        obtain ⟨y, hy⟩ : ∃ y, y = body (b.drop k) := ⟨_, rfl⟩
        rw [← hy] at HD HG
        generalize size (b.drop k) = z at *
        clear h0 hsz hdl hd hy hdd
        go_wp2_with fail
        refine HD.out.mono ?_
        rintro e w1 ⟨A1, c1, rfl, V1, O1, B1⟩
        go_wp2_with (at_builtin; go_must (refine wpList_append_sl rfl (.tmp 23) (.tmp 25) 22 rfl 23 i0 (.slice none 0 0) 24 Tryd.underlying22 hi hz0 hz1 hz2 rfl L m cl vs rfl ((HV.keep O1).alloc _) _ 1 1 _ rfl (Sl.of_bk (Bk.new _ _ #[.slice A1 y.length c1])) (one_row _ _ _) (by unfold maxLen; omega) (by omega) ?_); intro L2 c2 w2 HV2 O2 B2)
        go_roundw
        case rel =>
          have HVa := (HV.keep O1).alloc (.cells #[.slice A1 y.length c1] 23)
          have V1a := V1.alloc (.cells #[.slice A1 y.length c1] 23)
          have V1' : Own w2 5 A1 y.length c1 (bvs y) := V1a.only O2 (V1a.apart HVa (by decide))
          have HR2 : RowsAt w2 vs ls := ((HR.keep O1).keep ((Only.refl _ _).alloc _)).beside HVa O2
          refine ⟨k + z, m + 1, c2, L2, vs ++ [.slice A1 y.length c1], ls ++ [y], by omega, by omega, by go_num, rfl, ?_, HV2, HR2.snoc V1', ((HO.then O1).alloc _).trans O2 (fun x hx => .inr (HB x hx)), fun x hx => ?_, ?_⟩
          · show _ = _
            rw [List.length_append, HLs.out]; rfl
          · rcases B2 x hx with h | h
            · exact HB x h
            · have := (HO.then O1).size; rw [World.size_alloc] at h; omega
          · show _ = _
            rw [HS.out, HG.out]
            simp only [List.append_assoc, List.singleton_append, Prod.mk.injEq, true_and]
            omega
        case measure => simp [intOf]; omega
      · have hne : ((bad (b.drop k) : Int) != 0) = true := by rw [bne_iff_ne]; omega
        have HG := Lib.hid (scan_bad h0)
        clear h0 hdl hd
        go_wp2_with fail
        refine HD.out.mono ?_
        rintro e w1 ⟨A1, c1, rfl, V1, O1, B1⟩
        go_wp2
        go_ret2
        rw [HS.out, HG.out]
        simp only [List.append_nil, Nat.add_zero]
        exact ⟨L, cl, vs, by rw [HLs.out]; rfl, by rw [HLs.out]; exact HV.keep O1, HR.keep O1, HO.then O1, HB⟩
    · have HG : Hid (scan b = (ls, k)) := by
        show _ = _
        rw [HS.out, List.drop_of_length_le (by rw [HL.out]; omega), scan_bad (by rw [bad_nil]; omega)]
        simp
      obtain rfl : k = n := by omega
      go_wp2
      go_ret2
      rw [HG.out]
      exact ⟨L, cl, vs, by rw [HLs.out]; rfl, by rw [HLs.out]; exact HV, HR, HO, HB⟩
end Go.Proofs.YtikopdffimpkdaaDoor
