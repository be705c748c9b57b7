/-
  The walk of the law OctetJoins.
-/
import Derived.Test.YtecgmlifeljdeaaDoorHelp2
namespace Go.Proofs.YtecgmlifeljdeaaDoor
open Go.RowKit

/-- Two slices of rows, one behind the other, in a row of the call's own. -/
theorem Rw.joined {w : World} {A : Option Addr} {n m c : Nat} {la lb : List (List UInt8)} {va vb : List Value} (h : Own w 23 A (n + m) c (va ++ vb)) (ha : la.length = n) (hb : lb.length = m) (hva : va.length = n)
    (ra : ∀ (i : Nat) (l : List UInt8), la[i]? = some l → ∃ Ai ci, va[i]? = some (.slice Ai l.length ci) ∧ Sl w Ai l.length (bvs l))
    (rb : ∀ (i : Nat) (l : List UInt8), lb[i]? = some l → ∃ Ai ci, vb[i]? = some (.slice Ai l.length ci) ∧ Sl w Ai l.length (bvs l)) : Rw w A (n + m) (la ++ lb) := by
  refine ⟨by rw [List.length_append, ha, hb], _, h.sl, fun i l hi => ?_⟩
  by_cases hlt : i < n
  · rw [List.getElem?_append_left (by omega)] at hi
    obtain ⟨Ai, ci, h1, h2⟩ := ra i l hi
    exact ⟨Ai, ci, by rw [List.getElem?_append_left (by omega)]; exact h1, h2⟩
  · rw [List.getElem?_append_right (by omega)] at hi
    obtain ⟨Ai, ci, h1, h2⟩ := rb (i - n) l (by rw [← ha]; exact hi)
    exact ⟨Ai, ci, by rw [List.getElem?_append_right (by omega), hva]; exact h1, h2⟩
theorem rows_one {w : World} {A : Option Addr} {n : Nat} {la : List (List UInt8)} {va : List Value} (hs : Sl w A n va) (ha : la.length = n)
    (ra : ∀ (i : Nat) (l : List UInt8), la[i]? = some l → ∃ Ai ci, va[i]? = some (.slice Ai l.length ci) ∧ Sl w Ai l.length (bvs l)) : ∀ u ∈ va, u.oneCell' = true := by
  intro u hu
  obtain ⟨i, hi, rfl⟩ := List.getElem_of_mem hu
  have hil : i < la.length := by rw [ha, ← hs.len]; exact hi
  obtain ⟨Ai, ci, h1, _⟩ := ra i la[i] (List.getElem?_eq_getElem hil)
  rw [List.getElem?_eq_getElem hi] at h1
  injection h1 with h1
  rw [h1]
  rfl
theorem rows_keep {w w' : World} {la : List (List UInt8)} {va : List Value} (o : Only [] w w') (ra : ∀ (i : Nat) (l : List UInt8), la[i]? = some l → ∃ Ai ci, va[i]? = some (.slice Ai l.length ci) ∧ Sl w Ai l.length (bvs l)) :
    ∀ (i : Nat) (l : List UInt8), la[i]? = some l → ∃ Ai ci, va[i]? = some (.slice Ai l.length ci) ∧ Sl w' Ai l.length (bvs l) :=
  fun i l hi => by obtain ⟨Ai, ci, h1, h2⟩ := ra i l hi; exact ⟨Ai, ci, h1, h2.keep o⟩
theorem row_le {ls : List (List UInt8)} {r : List UInt8} (h : r ∈ ls) : r.length ≤ ls.flatten.length := by
  obtain ⟨a, b, rfl⟩ := List.append_of_mem h
  simp
  omega

set_option maxRecDepth 100000 in
set_option maxHeartbeats 4000000 in
theorem joins_light (A B : Option Addr) (n m ca cb : Nat) (la lb : List (List UInt8)) (w : World) (ht : Tab w) (hra : Rw w A n la) (hrb : Rw w B m lb) (wa : weight la ≤ 4000) (wb : weight lb ≤ 4000) :
    Calls Tryd.prog 10 #[.slice A n ca, .slice B m cb] w fun e w' => e = .returned (.bool true) ∧ Only [] w w' := by
  obtain ⟨i0, hi, hz0, hz1, hz2⟩ := info_parts infoBytes
  have hla : la.length = n := hra.len
  have hlb : lb.length = m := hrb.len
  have fa : la.flatten.length ≤ 4000 := by unfold weight at wa; omega
  have fb : lb.flatten.length ≤ 4000 := by unfold weight at wb; omega
  have na : n ≤ 4000 := by unfold weight at wa; omega
  have nb : m ≤ 4000 := by unfold weight at wb; omega
  have HHa := Lib.hid (heavy_any A n ca la w hra (by omega) (fun l hl => by have := row_le hl; omega))
  have HHb := Lib.hid (heavy_any B m cb lb w hrb (by omega) (fun l hl => by have := row_le hl; omega))
  rw [show decide (4000 < weight la) = false from by rw [decide_eq_false_iff_not]; omega] at HHa
  rw [show decide (4000 < weight lb) = false from by rw [decide_eq_false_iff_not]; omega] at HHb
  obtain ⟨_, va, sa, ra⟩ := id hra
  obtain ⟨_, vb, sb, rb⟩ := id hrb
  have oa := Lib.hid (rows_one sa hla ra)
  have ob := Lib.hid (rows_one sb hlb rb)
  have RA := Lib.hid ra
  have RB := Lib.hid rb
  have ho0 : Own (w.alloc (.cells #[] 23)) 23 (some ⟨w.heap.size, 0, none⟩) 0 0 [] := World.ownsRow_lit w #[] 0 (Nat.zero_le _) (Nat.zero_le _) rfl
  clear ra rb wa wb
  go_enter Tryd.func10, Tryd.ntmps10
  go_wp2_with fail
  refine HHa.out.mono ?_
  rintro e w' ⟨rfl, rfl⟩
  go_wp2_with fail
  refine HHb.out.mono ?_
  rintro e w' ⟨rfl, rfl⟩
  clear HHa HHb
  go_wp2_with (first
    | (at_builtin; refine wpList_append_sl rfl (.tmp 15) (.tmp 16) 36 rfl 23 i0 (.slice none 0 0) 24 Tryd.underlying36 hi hz0 hz1 hz2 rfl _ _ _ _ rfl ho0 A n ca _ rfl (sa.alloc _) oa.out (by unfold maxLen; omega) (by omega) ?_; intro A1 c1 w1 HV1 HO1 HB1; rw [List.nil_append] at HV1; rw [Nat.zero_add] at HV1; have P1 : Only [] w w1 := ((Only.refl [] w).alloc _).trans HO1 (fun x hx => .inr (by simp at hx; omega)))
    | (at_builtin; refine wpList_append_sl rfl (.tmp 17) (.tmp 18) 36 rfl 23 i0 (.slice none 0 0) 24 Tryd.underlying36 hi hz0 hz1 hz2 rfl A1 _ c1 _ (by rfl) HV1 B m cb _ rfl (sb.keep P1) ob.out (by unfold maxLen; omega) (by omega) ?_; intro A2 c2 w2 HV2 HO2 HB2))
  have z1 : ∀ k ∈ blks A1, w.heap.size ≤ k := fun k hk => by
    rcases HB1 k hk with h1 | h1
    · simp at h1; omega
    · simp at h1; omega
  have P2 : Only [] w w2 := P1.trans HO2 (fun x hx => .inr (z1 x hx))
  have z2 : ∀ k ∈ blks A2, w.heap.size ≤ k := fun k hk => by
    rcases HB2 k hk with h1 | h1
    · exact z1 k h1
    · have := P1.size; omega
  have hall : Rw w2 A2 (n + m) (la ++ lb) := Rw.joined HV2 hla hlb (by have := sa.len; omega) (rows_keep P2 RA.out) (rows_keep P2 RB.out)
  have T2 := ht.keep P2
  obtain ⟨pa, hpa⟩ : ∃ p, p = la.flatten := ⟨_, rfl⟩
  obtain ⟨pb, hpb⟩ : ∃ p, p = lb.flatten := ⟨_, rfl⟩
  obtain ⟨pc, hpc⟩ : ∃ p, p = pa ++ pb := ⟨_, rfl⟩
  rw [← hpa] at fa
  rw [← hpb] at fb
  have fc : pc.length ≤ 8000 := by rw [hpc, List.length_append]; omega
  have hpall : (la ++ lb).flatten = pc := by rw [hpc, hpa, hpb, List.flatten_append]
  have HJa := Lib.hid (fun (W : World) (o : Only [] w W) => join_rows A n ca la pa W hpa.symm (hra.keep o) (by omega) (by omega))
  have HJb := Lib.hid (fun (W : World) (o : Only [] w W) => join_rows B m cb lb pb W hpb.symm (hrb.keep o) (by omega) (by omega))
  have HJc := Lib.hid (fun (W : World) (o : Only [] w2 W) => join_rows A2 (n + m) c2 (la ++ lb) pc W hpall (hall.keep o) (by omega) (by omega))
  have HSc := Lib.hid (fun (W : World) (o : Only [] w2 W) => sum_rows A2 (n + m) c2 (la ++ lb) pc W hpall (hall.keep o) (T2.keep o) (by omega) (by omega))
  have Rall := Lib.hid hall
  have HPc := Lib.hid hpc.symm
  have HPl := Lib.hid hpall
  have HLl : Hid ((la ++ lb).length = n + m) := hall.len
  clear hall HV1 HO1 HB1 HV2 HO2 HB2 z1 z2 ho0 P1 sa sb hpa hpb hpc hpall hla hlb oa ob RA RB hra hrb hi hz0 hz1 hz2
  go_wp2_with fail
  refine (HJa.out w2 P2).mono ?_
  rintro e w3 ⟨X1, d1, rfl, V1, O1, _⟩
  go_wp2_with fail
  refine (HJb.out w3 (P2.then O1)).mono ?_
  rintro e w4 ⟨X2, d2, rfl, V2, O2, _⟩
  go_wp2_with fail
  refine (join_two w4 X1 X2 d1 d2 _ _ pa pb pc rfl rfl HPc.out (V1.sl.keep O2) V2.sl (by omega)).mono ?_
  rintro e w5 ⟨X3, d3, rfl, V3, O3, B3⟩
  have Q5 : Only [] w2 w5 := (O1.then O2).then O3
  have B3' : ∀ k ∈ blks X3, w2.heap.size ≤ k := fun k hk => Nat.le_trans (O1.then O2).size (B3 k hk)
  clear V1 V2 O1 O2 O3 B3
  go_wp2_with fail
  refine (HJc.out w5 Q5).mono ?_
  rintro e w6 ⟨X4, d4, rfl, V4, O4, _⟩
  go_wp2_with fail
  refine (same_eq X3 X4 _ d3 _ d4 pc pc w6 rfl (V3.sl.keep O4) V4.sl (by omega)).mono ?_
  rintro e w7 ⟨rfl, O5⟩
  have Q7 : Only [] w2 w7 := (Q5.then O4).then O5
  have V7 := V3.keep (O4.then O5)
  clear V4 O4 O5 V3 Q5
  go_wp2_with fail
  refine (HSc.out w7 Q7).mono ?_
  rintro e w8 ⟨rfl, rfl⟩
  go_wp2_with fail
  refine (sum_one w7 X3 d3 _ pc rfl V7.sl (T2.keep Q7) (by omega)).mono ?_
  rintro e w8 ⟨rfl, rfl⟩
  have V8 := V7.alloc (.cells #[.slice X3 pc.length d3] 23)
  have Q8 := Q7.alloc (.cells #[.slice X3 pc.length d3] 23)
  clear V7 Q7
  generalize w7.alloc (.cells #[.slice X3 pc.length d3] 23) = w8 at *
  go_wp2_with fail
  go_loop [7, 8] (fun t i => ∃ k : Nat, k ≤ n + m ∧ i = .int .i64 k ∧ t = .int .i64 (catLen (la ++ lb) k : Nat)) (fun _ i => n + m - (intOf i).toNat)
  case atStart => exact ⟨0, Nat.zero_le _, rfl, rfl⟩
  case round =>
    obtain ⟨k, hk, rfl, rfl⟩ := hrel
    have hle : catLen (la ++ lb) k ≤ 8000 := by
      have := catLen_le (la ++ lb) k
      rw [HPl.out] at this
      omega
    by_cases hlt : k < n + m
    · have hkl : k < (la ++ lb).length := by rw [HLl.out]; exact hlt
      obtain ⟨ad, Ai, ci, rfl, hcell, _⟩ := (Rall.out.keep Q8).at_ hlt hkl
      have hle2 : catLen (la ++ lb) (k + 1) ≤ 8000 := by
        have := catLen_le (la ++ lb) (k + 1)
        rw [HPl.out] at this
        omega
      have hsu := catLen_succ (la ++ lb) k hkl
      generalize ((la ++ lb)[k]'hkl).length = r at *
      have HSu := Lib.hid hsu
      have hr8 : r ≤ 8000 := by omega
      clear hsu hle2
      generalize catLen (la ++ lb) k = s at *
      go_wp2_with fail
      go_round
      case rel => exact ⟨k + 1, by omega, by go_num, by rw [HSu.out]; go_num⟩
      case measure => simp [intOf]; omega
    · obtain rfl : k = n + m := by omega
      have hct : catLen (la ++ lb) (n + m) = pc.length := by
        rw [catLen_all _ (by rw [HLl.out]; omega), HPl.out]
      rw [hct]
      clear hct hle
      go_wp2_with fail
      refine (spoil_any X3 _ d3 _ w8 V8 (by omega)).mono ?_
      rintro e w9 ⟨rfl, O9⟩
      have Q9 : Only [] w2 w9 := Q8.trans O9 (fun x hx => .inr (B3' x hx))
      clear V8 O9 Q8
      go_wp2_with fail
      refine (HJc.out w9 Q9).mono ?_
      rintro e w10 ⟨Y0, f0, rfl, V0, O10, _⟩
      go_wp2_with fail
      refine (HJa.out w10 (P2.then (Q9.then O10))).mono ?_
      rintro e w11 ⟨Y1, f1, rfl, V1, O11, _⟩
      go_wp2_with fail
      refine (HJb.out w11 (P2.then ((Q9.then O10).then O11))).mono ?_
      rintro e w12 ⟨Y2, f2, rfl, V2, O12, _⟩
      go_wp2_with fail
      refine (join_two w12 Y1 Y2 f1 f2 _ _ pa pb pc rfl rfl HPc.out (V1.sl.keep O12) V2.sl (by omega)).mono ?_
      rintro e w13 ⟨Y3, f3, rfl, V3, O13, _⟩
      go_wp2_with fail
      refine (same_eq Y0 Y3 _ f0 _ f3 pc pc w13 rfl (V0.sl.keep ((O11.then O12).then O13)) V3.sl (by omega)).mono ?_
      rintro e w14 ⟨rfl, O14⟩
      have Q14 : Only [] w2 w14 := (((Q9.then O10).then O11).then O12).then O13 |>.then O14
      clear V0 V1 V2 V3 O10 O11 O12 O13 O14 Q9
      go_wp2_with fail
      refine (known_any w14 (T2.keep Q14)).mono ?_
      rintro e w15 ⟨rfl, O15⟩
      go_wp2
      go_ret
      exact ⟨rfl, (P2.then Q14).then O15⟩

theorem joins_any (A B : Option Addr) (n m ca cb : Nat) (la lb : List (List UInt8)) (w : World) (ht : Tab w) (hra : Rw w A n la) (hrb : Rw w B m lb) (hn : n ≤ 9223372036854775807) (hm : m ≤ 9223372036854775807)
    (hla : ∀ l ∈ la, l.length ≤ 9223372036854775807) (hlb : ∀ l ∈ lb, l.length ≤ 9223372036854775807) :
    Calls Tryd.prog 10 #[.slice A n ca, .slice B m cb] w fun e w' => e = .returned (.bool true) ∧ Only [] w w' := by
  by_cases wa : weight la ≤ 4000
  · by_cases wb : weight lb ≤ 4000
    · exact joins_light A B n m ca cb la lb w ht hra hrb wa wb
    · have HHa := Lib.hid (heavy_any A n ca la w hra hn hla)
      have HHb := Lib.hid (heavy_any B m cb lb w hrb hm hlb)
      rw [show decide (4000 < weight la) = false from by rw [decide_eq_false_iff_not]; omega] at HHa
      rw [show decide (4000 < weight lb) = true from by rw [decide_eq_true_iff]; omega] at HHb
      clear wa wb hla hlb
      go_enter Tryd.func10, Tryd.ntmps10
      go_wp2_with fail
      refine HHa.out.mono ?_
      rintro e w' ⟨rfl, rfl⟩
      go_wp2_with fail
      refine HHb.out.mono ?_
      rintro e w' ⟨rfl, rfl⟩
      go_wp2
      go_ret
      exact ⟨rfl, Only.refl _ _⟩
  · have HHa := Lib.hid (heavy_any A n ca la w hra hn hla)
    rw [show decide (4000 < weight la) = true from by rw [decide_eq_true_iff]; omega] at HHa
    clear wa hla hlb
    go_enter Tryd.func10, Tryd.ntmps10
    go_wp2_with fail
    refine HHa.out.mono ?_
    rintro e w' ⟨rfl, rfl⟩
    go_wp2
    go_ret
    exact ⟨rfl, Only.refl _ _⟩
end Go.Proofs.YtecgmlifeljdeaaDoor
