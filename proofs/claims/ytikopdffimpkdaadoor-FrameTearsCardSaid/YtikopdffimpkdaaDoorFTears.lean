/-
  The walk of the law FrameTears.
-/
import Derived.Test.YtikopdffimpkdaaDoorFKnown
import Derived.Test.YtikopdffimpkdaaDoorInts
namespace Go.Proofs.YtikopdffimpkdaaDoor
open Go.RowKit

/-- Where the k-th record ends. -/
def recT (ls : List (List UInt8)) (k : Nat) : Nat := (recs ls k).length
theorem recT_zero (ls : List (List UInt8)) : recT ls 0 = 0 := rfl
theorem recT_succ (ls : List (List UInt8)) (k : Nat) (h : k < ls.length) : recT ls (k + 1) = recT ls k + (12 + ls[k].length) := by
  unfold recT
  rw [recs_succ ls k h, List.length_append, record_len]
theorem records_split (ls : List (List UInt8)) (k : Nat) : records ls = recs ls k ++ records (ls.drop k) := by
  unfold recs
  rw [← records_append, List.take_append_drop]
/-- Records that are cut short: those that are whole are told. -/
theorem scan_torn (ls : List (List UInt8)) (j z : Nat) (hl : ∀ l ∈ ls, l.length ≤ 1048576) (h1 : recT ls j ≤ z) (h2 : j < ls.length → z < recT ls (j + 1)) :
    scan ((records ls).take z) = (ls.take j, recT ls j) := by
  have hr : recT ls j = (recs ls j).length := rfl
  have htk : ∀ l ∈ ls.take j, l.length ≤ 1048576 := fun l h => hl l (List.mem_of_mem_take h)
  rw [records_split ls j, List.take_append, List.take_of_length_le (by omega), ← hr]
  rcases Nat.lt_or_ge j ls.length with h | h
  · have hs := recT_succ ls j h
    have hz2 := h2 h
    have hlj := hl ls[j] (List.getElem_mem h)
    rw [List.drop_eq_getElem_cons h, records_cons, List.take_append_of_le_length (by rw [record_len]; omega)]
    have ht := scan_bad (record_torn ls[j] hlj (z - recT ls j) (by omega))
    have hsc := scan_records (ls.take j) ((record ls[j]).take (z - recT ls j)) htk
    rw [ht, List.append_nil] at hsc
    exact hsc
  · rw [List.drop_of_length_le h]
    have hsc := scan_records (ls.take j) [] htk
    rw [scan_bad (b := []) (by rw [bad_nil]; omega), List.append_nil] at hsc
    simp only [records, List.map_nil, List.flatten_nil, List.take_nil]
    simp only [List.append_nil, Nat.add_zero] at hsc ⊢
    exact hsc
/-- The ends of the first k records, as ints. -/
def ends (ls : List (List UInt8)) (k : Nat) : List Int := (List.range k).map fun j => (recT ls (j + 1) : Int)
theorem ends_length (ls : List (List UInt8)) (k : Nat) : (ends ls k).length = k := by simp [ends]
theorem ends_succ (ls : List (List UInt8)) (k : Nat) : ends ls (k + 1) = ends ls k ++ [(recT ls (k + 1) : Int)] := by simp [ends, List.range_succ]
theorem ends_get (ls : List (List UInt8)) (k j : Nat) (h : j < k) : (ivs (ends ls k))[j]? = some (.int .i64 (recT ls (j + 1) : Int)) := by
  simp [ivs, ends, h]

/-- What the law's first loop has behind k rows. -/
def TearState (w : World) (ls : List (List UInt8)) (n : Nat) (s t i : Value) (wr : World) : Prop :=
  ∃ (k N c' ce : Nat) (A' E : Option Addr), k ≤ n ∧ i = .int .i64 k ∧ s = .slice A' N c' ∧ t = .slice E k ce ∧ N ≤ 4000 ∧ 12 * k ≤ N ∧ Hid (recT ls k = N) ∧ Own wr 5 A' N c' (bvs (recs ls k)) ∧ Own wr 3 E k ce (ivs (ends ls k)) ∧ Only [] w wr ∧ (∀ x ∈ blks A', w.heap.size ≤ x) ∧ (∀ x ∈ blks E, w.heap.size ≤ x) ∧ Hid (∀ l ∈ ls.take k, l.length ≤ 4000)

set_option maxRecDepth 100000 in
set_option maxHeartbeats 4000000 in
theorem tears_any (A : Option Addr) (n c : Nat) (ls : List (List UInt8)) (at_ : Int) (w : World) (ht : Tab w) (hr : Rw w A n ls) (hc : n ≤ c) (hn : n ≤ 1000000000000000000) (b0 : -9223372036854775808 ≤ at_) (b1 : at_ ≤ 9223372036854775807) :
    Calls Tryd.prog 6 #[.slice A n c, .int .i64 at_] w fun e w' => e = .returned (.bool true) ∧ Only [] w w' := by
  obtain ⟨i0, hi, hz0, hz1, hz2⟩ := info_parts infoByte
  obtain ⟨i1, hi1, hy0, hy1, hy2⟩ := info_parts infoInt
  have HLs : Hid (ls.length = n) := hr.len
  have b0' := b0
  have b1' := b1
  go_enter Tryd.func6, Tryd.ntmps6
  go_wp2_with fail
  go_loopw [5, 6, 7] (fun s t i wr => TearState w ls n s t i wr) (fun _ _ i _ => n - (intOf i).toNat)
  case atStart => exact ⟨0, 0, 0, 0, none, none, Nat.zero_le _, rfl, rfl, rfl, Nat.zero_le _, Nat.le_refl _, rfl, Own.nil _ _, Own.nil _ _, Only.refl _ _, fun x hx => (by cases hx), fun x hx => (by cases hx), fun l hl => (by simp at hl)⟩
  case round =>
    obtain ⟨k, N, c', ce, A', E, hk, rfl, rfl, rfl, hN, h12, HN, HV, HE, HO, HB, HF, HM⟩ := hrel
    by_cases hlt : k < n
    · have hkl : k < ls.length := by rw [HLs.out]; exact hlt
      obtain ⟨ad, Ai, ci, rfl, hcell, hrow⟩ := (hr.keep HO).at_ hlt hkl
      have hi0 : (0 : Int) ≤ (k : Int) := by omega
      have hi1' : (k : Int) < (n : Int) := by omega
      obtain ⟨r, hrr⟩ : ∃ r, r = ls[k]'hkl := ⟨_, rfl⟩
      have HR := Lib.hid hrr
      rw [← hrr] at hcell hrow
      have HS : Hid (recs ls (k + 1) = recs ls k ++ record r) := by show _ = _; rw [recs_succ ls k hkl, HR.out]
      have HT : Hid (ls.take (k + 1) = ls.take k ++ [r]) := by show _ = _; rw [List.take_succ_eq_append_getElem hkl, HR.out]
      have HRT : Hid (recT ls (k + 1) = N + (record r).length) := by show _ = _; rw [recT_succ ls k hkl, HN.out, record_len, HR.out]
      have hrl : (record r).length = 12 + r.length := record_len r
      clear hrr
      by_cases hbig : 4000 < r.length
      · go_wp2
        go_ret
        exact ⟨rfl, HO⟩
      · have HEn := Lib.hid (encode_rows (some ⟨wr.heap.size, 0, none⟩) 1 1 [r] r (wr.alloc (.cells #[.slice Ai r.length ci] 23)) (by simp) (Rw.one (Bk.new wr _ _) (hrow.alloc _)) (ht.keep (HO.alloc _)) (by omega) (by omega))
        generalize hM : (record r).length = M at *
        have HMl := Lib.hid hM
        have hcl2 : Hid (M = 12 + r.length) := hrl
        have hM4 : M ≤ 4012 := by omega
        have hM12 : 12 ≤ M := by omega
        have hrN := Lib.hid hbig
        clear hM hrl
        go_wp2_with fail
        refine HEn.out.mono ?_
        rintro e w1 ⟨A1, c1, rfl, V1, O1, B1⟩
        rw [HMl.out] at V1 ⊢
        have P1 : Only [] w w1 := (HO.alloc _).then O1
        have V0 : Own w1 5 A' N c' (bvs (recs ls k)) := (HV.alloc _).keep O1
        have E0 : Own w1 3 E k ce (ivs (ends ls k)) := (HE.alloc _).keep O1
        clear O1 B1 HV HE HEn
        by_cases hover : 4000 < N + M
        · go_wp2_with (at_builtin; go_must (refine wpList_append_sl rfl (.tmp 38) (.tmp 39) 23 rfl 5 i0 (.int .u8 0) 1 Tryd.underlying23 hi hz0 hz1 hz2 rfl A' N c' _ rfl V0 A1 M c1 _ rfl V1.sl (bvs_one _) (by unfold maxLen; omega) (by omega) ?_); intro A2 c2 w2 V2 O2 B2)
          go_ret
          exact ⟨rfl, P1.trans O2 (fun x hx => .inr (HB x hx))⟩
        · go_wp2_with (first
            | (at_builtin; refine wpList_append_sl rfl (.tmp 38) (.tmp 39) 23 rfl 5 i0 (.int .u8 0) 1 Tryd.underlying23 hi hz0 hz1 hz2 rfl A' N c' _ rfl V0 A1 M c1 _ rfl V1.sl (bvs_one _) (by unfold maxLen; omega) (by omega) ?_; intro A2 c2 w2 V2 O2 B2; have E2 := E0.only O2 (E0.apart V0 (by decide)); have P2 : Only [] w w2 := P1.trans O2 (fun x hx => .inr (HB x hx)))
            | (at_builtin; refine wpList_append_sl rfl (.tmp 44) (.tmp 47) 44 rfl 3 i1 (.int .i64 0) 8 Tryd.underlying44 hi1 hy0 hy1 hy2 rfl E k ce _ rfl (E2.alloc _) _ 1 1 _ rfl (sl_int _ _ _) (ivs_one _) (by unfold maxLen; omega) (by omega) ?_; intro A3 c3 w3 V3 O3 B3))
          go_roundw
          case rel =>
            rw [← bvs_append, ← HS.out] at V2
            have VW3 : Own w3 5 A2 (N + M) c2 (bvs (recs ls (k + 1))) := (V2.alloc _).only O3 (V2.apart E2 (by decide))
            have hEs : ivs (ends ls k) ++ ivs [(N : Int) + (M : Int)] = ivs (ends ls (k + 1)) := by
              rw [ends_succ, ivs_append, HRT.out]
              rfl
            rw [hEs] at V3
            refine ⟨k + 1, N + M, c2, c3, A2, A3, by omega, by go_num, rfl, rfl, by omega, by omega, HRT.out, VW3, V3, (P2.alloc _).trans O3 (fun x hx => .inr (HF x hx)), fun x hx => ?_, fun x hx => ?_, ?_⟩
            · rcases B2 x hx with h | h
              · exact HB x h
              · have := P1.size; omega
            · rcases B3 x hx with h | h
              · exact HF x h
              · have := P2.size; rw [World.size_alloc] at h; omega
            · intro l hl
              rw [HT.out] at hl
              rcases List.mem_append.1 hl with h | h
              · exact HM.out l h
              · simp at h
                subst h
                have := hrN.out
                omega
          case measure => simp [intOf]; omega
    · obtain rfl : k = n := by omega
      have hall : recs ls k = records ls := recs_all ls (by rw [HLs.out]; omega)
      have HTk : Hid (ls.take k = ls) := List.take_of_length_le (by rw [HLs.out]; omega)
      rw [hall] at HV
      have HRN : Hid ((records ls).length = N) := by show _ = _; rw [← hall]; exact HN.out
      have HL4 : Hid (∀ l ∈ ls, l.length ≤ 4000) := by
        have h := HM.out
        rw [HTk.out] at h
        exact h
      obtain ⟨q, hq⟩ : ∃ q : Nat, at_ % 1073741824 = (q : Int) := ⟨(at_ % 1073741824).toNat, by omega⟩
      have e30 := low30 at_
      rw [hq] at e30
      have hq30 : q < 1073741824 := by omega
      obtain ⟨z, hz⟩ : ∃ z, z = q % (N + 1) := ⟨_, rfl⟩
      have hzN : z ≤ N := by have := Nat.mod_lt q (show 0 < N + 1 by omega); omega
      have hidx : ((q : Int) % ((N : Int) + 1)) = (z : Int) := by rw [hz, Int.natCast_emod]; rfl
      clear hall HM HTk hq hz
      go_wp2_with fail
      go_loop [11] (fun i => ∃ j : Nat, j ≤ k ∧ i = .int .i64 j ∧ Hid (recT ls j ≤ z)) (fun i => k - (intOf i).toNat)
      case atStart => exact ⟨0, Nat.zero_le _, rfl, by show _ ≤ _; rw [recT_zero]; omega⟩
      case round =>
        obtain ⟨j, hj, rfl, HJ⟩ := hrel
        by_cases hjk : j < k
        · have hjl0 : j < ls.length := by rw [HLs.out]; exact hjk
          have hi0 : (0 : Int) ≤ (j : Int) := by omega
          have hi1' : (j : Int) < (k : Int) := by omega
          obtain ⟨ae, u, hE, hu, hce⟩ := HE.sl.at_ (k := j) hjk
          subst hE
          rw [ends_get ls k j hjk] at hu
          injection hu with hu
          subst hu
          by_cases hin : recT ls (j + 1) ≤ z
          · have hinI : (recT ls (j + 1) : Int) ≤ (z : Int) := by omega
            have HJ2 := Lib.hid hin
            clear hin
            go_wp2
            go_round
            case rel => exact ⟨j + 1, by omega, by go_num, HJ2.out⟩
            case measure => simp [intOf]; omega
          · have hinI : ¬ (recT ls (j + 1) : Int) ≤ (z : Int) := by omega
            have hcN := HV.cap
            have hsc := scan_torn ls j z (fun l hl => by have := HL4.out l hl; omega) HJ.out (fun _ => by omega)
            have hpz := HV.sl.pre (k := z) hzN
            rw [bvs_take] at hpz
            have HS := Lib.hid (scan_any A' z c' ((records ls).take z) wr hpz (ht.keep HO) (by omega) (by omega))
            rw [hsc] at HS
            have hjl : Hid ((ls.take j).length = j) := by show _ = _; rw [List.length_take, HLs.out]; omega
            have HR4 := Lib.hid (fun (l : List UInt8) (hl : l ∈ ls.take j) => show l.length ≤ 4611686018427387904 by have := HL4.out l (List.mem_of_mem_take hl); omega)
            clear hsc hpz
            cases j with
            | zero =>
              rw [add_zero] at hce
              rw [recT_zero] at HS
              go_wp2_with fail
              refine HS.out.mono ?_
              rintro e w1 ⟨A1, c1, vs1, rfl, V1, R1, O1, B1⟩
              rw [hjl.out] at V1 ⊢
              have P1 := HO.then O1
              go_wp2_with fail
              refine (rows_q A1 A 0 c1 0 c (ls.take 0) (ls.take 0) w1 (R1.rw V1.sl) ((hr.keep P1).pre (by omega)) (by omega) (by omega) HR4.out HR4.out).mono ?_
              rintro e w2 HQ2
              have O2 := HQ2.only
              have he := HQ2.1
              rw [decide_eq_true rfl] at he
              subst he
              have P2 := P1.then O2
              clear HQ2 V1 R1 B1 HS
              go_wp2_with fail
              refine (known_any w2 (ht.keep P2)).mono ?_
              rintro e w7 ⟨rfl, O7⟩
              go_wp2
              go_ret
              exact ⟨rfl, P2.then O7⟩
            | succ j =>
              have hce' : wr.cell? ⟨ae.block, ae.off + (j + 1), none⟩ = some (.int .i64 (recT ls (j + 1 + 1) : Int)) := hce
              obtain ⟨ae2, u2, hE2, hu2, hce2⟩ := HE.sl.at_ (k := j) (by omega)
              injection hE2 with hE2
              subst hE2
              rw [ends_get ls k j (by omega)] at hu2
              injection hu2 with hu2
              subst hu2
              have hj0 : (0 : Int) ≤ (j : Int) := by omega
              have hj1 : (j : Int) < (k : Int) := by omega
              go_wp2_with fail
              refine HS.out.mono ?_
              rintro e w1 ⟨A1, c1, vs1, rfl, V1, R1, O1, B1⟩
              have hce3 := O1.cellSome hce2 (fun hm => by cases hm)
              rw [hjl.out] at V1 ⊢
              have P1 := HO.then O1
              go_wp2_with fail
              refine (rows_q A1 A (j + 1) c1 (j + 1) c (ls.take (j + 1)) (ls.take (j + 1)) w1 (R1.rw V1.sl) ((hr.keep P1).pre (by omega)) (by omega) (by omega) HR4.out HR4.out).mono ?_
              rintro e w2 HQ2
              have O2 := HQ2.only
              have he := HQ2.1
              rw [decide_eq_true rfl] at he
              subst he
              have P2 := P1.then O2
              clear HQ2 V1 R1 B1 HS
              go_wp2_with fail
              refine (known_any w2 (ht.keep P2)).mono ?_
              rintro e w7 ⟨rfl, O7⟩
              go_wp2
              go_ret
              exact ⟨rfl, P2.then O7⟩
        · have hjk2 : j = k := by omega
          have hcN := HV.cap
          have hsc := scan_torn ls j z (fun l hl => by have := HL4.out l hl; omega) HJ.out (fun h => by rw [HLs.out] at h; omega)
          have hpz := HV.sl.pre (k := z) hzN
          rw [bvs_take] at hpz
          have HS := Lib.hid (scan_any A' z c' ((records ls).take z) wr hpz (ht.keep HO) (by omega) (by omega))
          rw [hsc] at HS
          have hjl : Hid ((ls.take j).length = j) := by show _ = _; rw [List.length_take, HLs.out]; omega
          have HR4 := Lib.hid (fun (l : List UInt8) (hl : l ∈ ls.take j) => show l.length ≤ 4611686018427387904 by have := HL4.out l (List.mem_of_mem_take hl); omega)
          clear hsc hpz
          cases j with
          | zero =>
            obtain rfl : k = 0 := by omega
            rw [recT_zero] at HS
            go_wp2_with fail
            refine HS.out.mono ?_
            rintro e w1 ⟨A1, c1, vs1, rfl, V1, R1, O1, B1⟩
            rw [hjl.out] at V1 ⊢
            have P1 := HO.then O1
            go_wp2_with fail
            refine (rows_q A1 A 0 c1 0 c (ls.take 0) (ls.take 0) w1 (R1.rw V1.sl) ((hr.keep P1).pre (by omega)) (by omega) (by omega) HR4.out HR4.out).mono ?_
            rintro e w2 HQ2
            have O2 := HQ2.only
            have he := HQ2.1
            rw [decide_eq_true rfl] at he
            subst he
            have P2 := P1.then O2
            clear HQ2 V1 R1 B1 HS
            go_wp2_with fail
            refine (known_any w2 (ht.keep P2)).mono ?_
            rintro e w7 ⟨rfl, O7⟩
            go_wp2
            go_ret
            exact ⟨rfl, P2.then O7⟩
          | succ j =>
            clear hjk2
            obtain ⟨ae, u, hE, hu, hce⟩ := HE.sl.at_ (k := j) (by omega)
            subst hE
            rw [ends_get ls k j (by omega)] at hu
            injection hu with hu
            subst hu
            have hj0 : (0 : Int) ≤ (j : Int) := by omega
            have hj1 : (j : Int) < (k : Int) := by omega
            go_wp2_with fail
            refine HS.out.mono ?_
            rintro e w1 ⟨A1, c1, vs1, rfl, V1, R1, O1, B1⟩
            have hce3 := O1.cellSome hce (fun hm => by cases hm)
            rw [hjl.out] at V1 ⊢
            have P1 := HO.then O1
            go_wp2_with fail
            refine (rows_q A1 A (j + 1) c1 (j + 1) c (ls.take (j + 1)) (ls.take (j + 1)) w1 (R1.rw V1.sl) ((hr.keep P1).pre (by omega)) (by omega) (by omega) HR4.out HR4.out).mono ?_
            rintro e w2 HQ2
            have O2 := HQ2.only
            have he := HQ2.1
            rw [decide_eq_true rfl] at he
            subst he
            have P2 := P1.then O2
            clear HQ2 V1 R1 B1 HS
            go_wp2_with fail
            refine (known_any w2 (ht.keep P2)).mono ?_
            rintro e w7 ⟨rfl, O7⟩
            go_wp2
            go_ret
            exact ⟨rfl, P2.then O7⟩
end Go.Proofs.YtikopdffimpkdaaDoor
