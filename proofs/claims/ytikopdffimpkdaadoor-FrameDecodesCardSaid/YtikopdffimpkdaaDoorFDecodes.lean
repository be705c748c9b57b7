/-
  The walk of the law FrameDecodes.
-/
import Derived.Test.YtikopdffimpkdaaDoorFKnown
namespace Go.Proofs.YtikopdffimpkdaaDoor
open Go.RowKit

set_option maxRecDepth 100000 in
set_option maxHeartbeats 4000000 in
theorem decodes_any (A : Option Addr) (n c : Nat) (b : List UInt8) (w : World) (ht : Tab w) (hs : Sl w A n (bvs b)) (hc : n ≤ c) (hn : n ≤ 9223372036854775807) :
    Calls Tryd.prog 4 #[.slice A n c] w fun e w' => e = .returned (.bool true) ∧ Only [] w w' := by
  by_cases hbig : n ≤ 4000
  · have hl : b.length = n := by simpa using hs.len
    subst hl
    have HR := Lib.hid (fun (W : World) (o : Only [] w W) => refDecode_any A b.length c b W (hs.keep o) hc (by omega))
    have HR1 := Lib.hid (fun (W : World) (o : Only [] w W) => refOne_any A b.length c b W (hs.keep o) hc (by omega))
    have HR2 := Lib.hid (fun (W : World) (o : Only [] w W) => refScan_any A b.length c b W (hs.keep o) hc (by omega))
    have hsz := (scan_le b.length b (Nat.le_refl _))
    have hm1 : (scan b).1.length ≤ 4000 := by omega
    have hm2 : ∀ l ∈ (scan b).1, l.length ≤ 4000 := fun l hl => by obtain ⟨x, y, e⟩ := List.append_of_mem hl; rw [e] at hsz; simp only [List.flatten_append, List.flatten_cons, List.length_append] at hsz; omega
    have hbl : (body b).length ≤ 4000 := by
      by_cases h : bad b = 0
      · have := size_pos h; omega
      · rw [body_bad h]; simp
    have hol : (oneBody b).length ≤ 4000 := by unfold oneBody; split; exact hbl; simp
    clear hsz
    go_enter Tryd.func4, Tryd.ntmps4
    go_wp2_with fail
    refine (roomy_any A c b w hs (by omega)).mono ?_
    rintro e w1 ⟨g, cr, rfl, VR, O1, hg⟩
    have hgl : g < w1.heap.size := VR.lt (by simp)
    have hcr : b.length ≤ cr := by have := VR.cap; omega
    have VP := VR.sl.pre (k := b.length) (by omega)
    rw [bvs_take, List.take_left] at VP
    have HD := Lib.hid (fun (W : World) (o : Only [] w1 W) => decode_any (some ⟨g, 0, none⟩) b.length cr b W (VP.keep o) (ht.keep (O1.then o)) hcr (by omega))
    have HO := Lib.hid (fun (W : World) (o : Only [] w1 W) => one_any (some ⟨g, 0, none⟩) b.length cr b W (VP.keep o) (ht.keep (O1.then o)) hcr (by omega))
    have HS := Lib.hid (fun (W : World) (o : Only [] w1 W) => scan_any (some ⟨g, 0, none⟩) b.length cr b W (VP.keep o) (ht.keep (O1.then o)) hcr (by omega))
    clear VP
    go_wp2_with fail
    refine (HD.out w1 (Only.refl _ _)).mono ?_
    rintro e w2 ⟨A2, c2, rfl, V2, O2, B2⟩
    go_wp2_with fail
    refine (HR.out w2 (O1.then O2)).mono ?_
    rintro e w3 ⟨A3, c3, rfl, V3, O3, B3⟩
    have Q3 := O2.then O3
    go_wp2_with fail
    refine (HO.out w3 Q3).mono ?_
    rintro e w4 ⟨A4, c4, rfl, V4, O4, B4⟩
    have Q4 := Q3.then O4
    go_wp2_with fail
    refine (HR1.out w4 (O1.then Q4)).mono ?_
    rintro e w5 ⟨A5, c5, rfl, V5, O5, B5⟩
    have Q5 := Q4.then O5
    go_wp2_with fail
    refine (HS.out w5 Q5).mono ?_
    rintro e w6 ⟨A6, c6, vs6, rfl, V6, R6, O6, B6⟩
    have Q6 := Q5.then O6
    go_wp2_with fail
    refine (HR2.out w6 (O1.then Q6)).mono ?_
    rintro e w7 ⟨A7, c7, vs7, rfl, V7, R7, O7, B7⟩
    have Q7 := Q6.then O7
    have P4 := ((O4.then O5).then O6).then O7
    have T2 := V2.keep (O3.then P4)
    have T3 := V3.keep P4
    have T4 := V4.keep ((O5.then O6).then O7)
    have T5 := V5.keep (O6.then O7)
    have T6 := (R6.rw V6.sl).keep O7
    have T7 := R7.rw V7.sl
    clear V2 V3 V4 V5 V6 R6 V7 R7 O3 O4 O5 O6 O7 B3 B4 B5 B6 B7 Q3 Q4 Q5 Q6 P4 HR HR1 HR2 HD HO HS
    go_wp2_with fail
    refine (same_eq A2 A3 _ c2 _ c3 (body b) (body b) w7 rfl T2.sl T3.sl (by omega)).mono ?_
    rintro e w8 ⟨rfl, O8⟩
    go_wp2_with fail
    refine (rows_q A6 A7 _ c6 _ c7 (scan b).1 (scan b).1 w8 (T6.keep O8) (T7.keep O8) (by omega) (by omega) (fun l hl => by have := hm2 l hl; omega) (fun l hl => by have := hm2 l hl; omega)).mono ?_
    rintro e w9 HQ
    have O9 := HQ.only
    have he := HQ.1
    rw [decide_eq_true rfl] at he
    subst he
    clear HQ
    go_wp2_with fail
    refine (same_eq A4 A5 _ c4 _ c5 (oneBody b) (oneBody b) w9 rfl (T4.sl.keep (O8.then O9)) (T5.sl.keep (O8.then O9)) (by omega)).mono ?_
    rintro e w10 ⟨rfl, O10⟩
    have P10 := (O8.then O9).then O10
    go_wp2_with fail
    refine (spoil_any A2 _ c2 _ w10 (T2.keep P10) (by omega)).mono ?_
    rintro e w11 ⟨rfl, O11⟩
    have Q10 := Q7.then P10
    have R10 : Only [] w w10 := O1.then Q10
    have R11 : Only [] w w11 := R10.trans O11 (fun x hx => .inr (by have := B2 x hx; have := O1.size; omega))
    have VR11 : Own w11 5 (some ⟨g, 0, none⟩) (b.length + 1) cr (bvs (b ++ [171])) := (VR.keep Q10).only O11 (fun k hk hm => by simp at hk; subst hk; have := B2 _ hm; omega)
    have hcr1 := VR.cap
    clear T2 T3 T4 T5 T6 T7 O8 O9 O10 P10 O11 Q10 R10 VR Q7
    go_wp2_with fail
    refine (stands_any (some ⟨g, 0, none⟩) A cr c b w11 VR11.sl hcr1 (hs.keep R11) (by omega)).mono ?_
    rintro e w12 ⟨rfl, O12⟩
    go_wp2_with fail
    refine (known_any w12 (ht.keep (R11.then O12))).mono ?_
    rintro e w13 ⟨rfl, O13⟩
    go_wp2
    go_ret
    exact ⟨rfl, (R11.then O12).then O13⟩
  · go_enter Tryd.func4, Tryd.ntmps4
    go_wp2
    go_ret
    exact ⟨rfl, Only.refl _ _⟩
end Go.Proofs.YtikopdffimpkdaaDoor
