/-
  The walk of the law OctetCuts.
-/
import Derived.Test.YtecgmlifeljdeaaDoorCutsMath
namespace Go.Proofs.YtecgmlifeljdeaaDoor
open Go.RowKit

/-- One int in a block of its own. -/
theorem sl_int (w : World) (t : TypeId) (E : Int) : Sl (w.alloc (.cells #[.int .i64 E] t)) (some ⟨w.heap.size, 0, none⟩) 1 (ivs [E]) := Sl.of_bk (Bk.new w t #[.int .i64 E])
theorem ivs_one (l : List Int) : ∀ u ∈ ivs l, u.oneCell' = true := by
  intro u hu
  simp only [ivs, List.mem_map] at hu
  obtain ⟨b, _, rfl⟩ := hu
  rfl
theorem Own.apart {w : World} {t t' : TypeId} {A A' : Option Addr} {n n' c c' : Nat} {xs xs' : List Value} (h : Own w t A n c xs) (h' : Own w t' A' n' c' xs') (hne : t ≠ t') : ∀ x ∈ blks A, x ∉ blks A' := by
  intro x hx hm
  obtain ⟨u, hu⟩ := h.bk hx
  obtain ⟨v, hv⟩ := h'.bk hm
  exact hu.ne hv hne rfl
theorem ivs_append (a b : List Int) : ivs (a ++ b) = ivs a ++ ivs b := by simp [ivs]

set_option maxRecDepth 100000 in
set_option maxHeartbeats 4000000 in
theorem cuts_light (A : Option Addr) (n c : Nat) (ls : List (List UInt8)) (at_ : Int) (w : World) (ht : Tab w) (hr : Rw w A n ls) (hn0 : 0 < n) (wl : weight ls ≤ 4000) (b0 : -9223372036854775808 ≤ at_) (b1 : at_ ≤ 9223372036854775807) :
    Calls Tryd.prog 8 #[.slice A n c, .int .i64 at_] w fun e w' => e = .returned (.bool true) ∧ Only [] w w' := by
  obtain ⟨i0, hi, hz0, hz1, hz2⟩ := info_parts infoByte
  obtain ⟨i1, hi1, hy0, hy1, hy2⟩ := info_parts infoInt
  have b0' := b0
  have b1' := b1
  have hl : ls.length = n := hr.len
  have fl : ls.flatten.length ≤ 4000 := by unfold weight at wl; omega
  have nl : n ≤ 1333 := by unfold weight at wl; omega
  have hrl : ∀ r ∈ ls, r.length ≤ 4000 := fun r hr => by obtain ⟨a, b, rfl⟩ := List.append_of_mem hr; simp only [List.flatten_append, List.flatten_cons, List.length_append] at fl; omega
  have HH := Lib.hid (heavy_any A n c ls w hr (by omega) (fun l hl => by have := hrl l hl; omega))
  rw [show decide (4000 < weight ls) = false from by rw [decide_eq_false_iff_not]; omega] at HH
  have HL := Lib.hid hl
  have HRL := Lib.hid hrl
  have hrlen := rowsLen_le ls hrl
  have HT : Hid (∀ k, endAt ls k ≤ 16000) := fun k => by
    have h := rowsLen_take ls k
    unfold rowsLen at h hrlen
    unfold endAt
    omega
  clear hl hrl hrlen wl fl
  go_enter Tryd.func8, Tryd.ntmps8
  go_wp2_with fail
  refine HH.out.mono ?_
  rintro e w' ⟨rfl, rfl⟩
  clear HH
  have hnz : ((n : Int) == 0) = false := by rw [beq_eq_false_iff_ne]; omega
  go_wp2_with fail
  go_loopw [5, 6, 7] (fun s t i wr => ∃ (k : Nat) (AW AE : Option Addr) (m cW cE : Nat) (p : List UInt8), k ≤ n ∧ i = .int .i64 k ∧ s = .slice AW m cW ∧ t = .slice AE k cE ∧ p.length = m ∧ Hid (p = rowsEnc (ls.take k)) ∧ Own wr 5 AW m cW (bvs p) ∧ Own wr 3 AE k cE (ivs (ends ls k)) ∧ Only [] w wr ∧ (∀ x ∈ blks AW, w.heap.size ≤ x) ∧ (∀ x ∈ blks AE, w.heap.size ≤ x)) (fun _ _ i _ => n - (intOf i).toNat)
  case atStart => exact ⟨0, none, none, 0, 0, 0, [], Nat.zero_le _, rfl, rfl, rfl, rfl, rfl, Own.nil _ _, Own.nil _ _, Only.refl _ _, fun x hx => (by cases hx), fun x hx => (by cases hx)⟩
  case round =>
    obtain ⟨k, AW, AE, m, cW, cE, p, hk, rfl, rfl, rfl, hpm, HP, VW, VE, Q, ZW, ZE⟩ := hrel
    have hm16 : m ≤ 16000 := by have := HT.out k; unfold endAt at this; rw [← HP.out] at this; omega
    by_cases hlt : k < n
    · have hkl : k < ls.length := by rw [HL.out]; exact hlt
      obtain ⟨ad, Ai, ci, rfl, hcell, hrow⟩ := (hr.keep Q).at_ hlt hkl
      have hr4 := HRL.out _ (List.getElem_mem hkl)
      have HE := Lib.hid (rowsEnc_succ ls k hkl)
      have HS := Lib.hid (endAt_succ ls k hkl)
      have hre := rowEnc_len (ls[k]'hkl) hr4
      generalize ls[k]'hkl = r at *
      have hmE : endAt ls k = m := by unfold endAt; rw [← HP.out]; exact hpm
      rw [hmE] at HS
      have HHE : Hid ((endAt ls (k + 1) : Int) = ((m + (rowEnc r).length : Nat) : Int)) := by show _ = _; rw [HS.out]
      clear hmE
      go_wp2_with (first
        | (go_at_call 25; go_must (refine (refBytes_any Ai _ ci r wr hrow (by omega)).mono ?_); rintro e w1 ⟨F, cF, rfl, VF, O1, BF⟩)
        | (at_builtin; refine wpList_append_sl rfl (.tmp 25) (.tmp 30) 23 rfl 5 i0 (.int .u8 0) 1 Tryd.underlying23 hi hz0 hz1 hz2 rfl AW _ cW _ rfl (VW.keep O1) F _ cF _ rfl VF.sl (bvs_one _) (by unfold maxLen; omega) (by omega) ?_; intro AW2 cW2 w2 VW2 O2 B2; have VE2 := (VE.keep O1).only O2 (VE.apart VW (by decide)); have Q2 : Only [] w w2 := (Q.then O1).trans O2 (fun x hx => .inr (ZW x hx)))
        | (at_builtin; refine wpList_append_sl rfl (.tmp 32) (.tmp 35) 22 rfl 3 i1 (.int .i64 0) 8 Tryd.underlying22 hi1 hy0 hy1 hy2 rfl AE _ cE _ rfl (VE2.alloc _) _ 1 1 _ rfl (sl_int _ _ _) (ivs_one _) (by unfold maxLen; omega) (by omega) ?_; intro AE2 cE2 w3 VE3 O3 B3))
      go_roundw
      case rel =>
        have VW3 : Own w3 5 AW2 (m + (rowEnc r).length) cW2 (bvs p ++ bvs (rowEnc r)) := (VW2.alloc _).only O3 (VW2.apart VE2 (by decide))
        refine ⟨k + 1, AW2, AE2, _, cW2, cE2, p ++ rowEnc r, by omega, by go_num, rfl, rfl, by rw [List.length_append, hpm], ?_, by rw [bvs_append]; exact VW3, ?_, (Q2.alloc _).trans O3 (fun x hx => .inr (ZE x hx)), fun x hx => ?_, fun x hx => ?_⟩
        · show _ = _
          rw [HE.out, HP.out]
        · rw [ends_succ, ivs_append, HHE.out]
          exact VE3
        · rcases B2 x hx with h | h
          · exact ZW x h
          · have := (Q.then O1).size; omega
        · rcases B3 x hx with h | h
          · exact ZE x h
          · have := Q2.size; simp at h; omega
      case measure => simp [intOf]; omega
    · obtain rfl : k = n := by omega
      have HTk := Lib.hid (show ls.take k = ls from List.take_of_length_le (by rw [HL.out]; omega))
      have hpe : p = rowsEnc ls := by rw [HP.out, HTk.out]
      have hme : m = endAt ls k := by unfold endAt; rw [← HP.out]; exact hpm.symm
      have hmpos : 0 < m := by
        have h1 := endAt_succ ls (k - 1) (by rw [HL.out]; omega)
        have h2 : 0 < (rowEnc (ls[k - 1]'(by rw [HL.out]; omega))).length := by
          unfold rowEnc
          rw [List.length_append]
          have := enc_len_pos (ls[k - 1]'(by rw [HL.out]; omega)).length
          omega
        rw [show k - 1 + 1 = k from by omega] at h1
        omega
      obtain ⟨q, hq⟩ : ∃ q : Nat, at_ % 1073741824 = (q : Int) := ⟨(at_ % 1073741824).toNat, by omega⟩
      have e30 := low30 at_
      rw [hq] at e30
      have hq30 : q < 1073741824 := by omega
      obtain ⟨z, hz⟩ : ∃ z, z = q % m := ⟨_, rfl⟩
      have hzm : z < m := by rw [hz]; exact Nat.mod_lt _ hmpos
      have hrem : ((q : Int) % (m : Int)) = (z : Int) := by rw [hz]; omega
      have HME := Lib.hid hme
      have hcapW := VW.cap
      have HPE := Lib.hid hpe
      clear hz hq hme hpe HTk
      go_wp2_with fail
      have hpre := VW.sl.pre (k := z) (by omega)
      rw [bvs_take] at hpre
      have hAElt : ∀ x ∈ blks AE, x < wr.heap.size := fun x hx => VE.lt hx
      refine (newReader_any wr AW z cW (p.take z) hpre (by omega)).mono ?_
      rintro e w1 ⟨g, kb, A9, c9, rfl, hg, hkb, R9, O9⟩
      have Q9 : Only [] w w1 := Q.then O9
      have VE9 := VE.keep O9
      have hgw : w.heap.size ≤ g := Nat.le_trans Q.size hg
      have HL0 : Hid (p.take z = leftAt ls z 0) := by
        show _ = _
        rw [HPE.out]
        rfl
      clear VW VE Q O9 hpre hkb
      go_wp2_with fail
      go_loopw [10] (fun i wq => ∃ (j : Nat) (A' : Option Addr) (c' : Nat) (bad : Bool) (l : List UInt8), j ≤ k ∧ i = .int .i64 j ∧ Hid (bad = decide (z < endAt ls j)) ∧ Hid (bad = false → l = leftAt ls z j) ∧ Rd wq g kb A' c' bad l ∧ Only [g] w1 wq) (fun i _ => k - (intOf i).toNat)
      case atStart => exact ⟨0, A9, c9, false, p.take z, Nat.zero_le _, rfl, by show false = _; rw [endAt_zero]; simp, fun _ => HL0.out, R9, Only.refl _ _⟩
      case round =>
        obtain ⟨j, A', c', bad, l, hj, rfl, HBd, HLj, HR, HO⟩ := hrel
        have QR := Q9.trans HO (fun x hx => .inr (by simp at hx; omega))
        by_cases hlt : j < k
        · have hjl : j < ls.length := by rw [HL.out]; exact hlt
          obtain ⟨ad, Ai, ci, rfl, hcell0, hrow0⟩ := hr.at_ hlt hjl
          have hr4 := HRL.out _ (List.getElem_mem hjl)
          have hcl0 := endAt_succ ls j hjl
          have hwhole := leftAt_whole ls z j hjl
          have hcut := leftAt_cut ls z j hjl
          have hw' := HLj.out
          have hbd := HBd.out
          generalize ls[j]'hjl = r at *
          by_cases hin : endAt ls (j + 1) ≤ z
          · have hb0 : bad = false := by rw [hbd, decide_eq_false_iff_not]; omega
            subst hb0
            have hl' := hw' rfl
            rw [hwhole hin] at hl'
            obtain ⟨t1, t2, t3⟩ := take_row r (leftAt ls z (j + 1)) (by omega)
            rw [← hl'] at t1 t2 t3
            have HN := Lib.hid (rbytes_any HR)
            rw [t1, t2, t3] at HN
            have HB2 : Hid (false = decide (z < endAt ls (j + 1))) := by show _ = _; rw [eq_comm, decide_eq_false_iff_not]; omega
            have hee : (0 : Int) ≤ (endAt ls (j + 1) : Int) := by omega
            have h16 := HT.out (j + 1)
            have hge := ends_get ls k j hlt
            clear t1 t2 t3 hl' hwhole hcut hw' hbd hcl0
            go_wp2_with fail
            refine HN.out.mono ?_
            rintro e v1 ⟨P, cp, A2, c2, rfl, VP, BP, R2, O1⟩
            have HO1 := HO.trans O1 (fun x hx => .inl hx)
            have Q1 : Only [] w v1 := QR.trans O1 (fun x hx => .inr (by simp at hx; omega))
            have hcell1 := Q1.cellSome hcell0 (fun hm => by cases hm)
            have VE1 := VE9.only HO1 (fun x hx hm => by simp at hm; have := hAElt x hx; omega)
            obtain ⟨ae, u, rfl, hu, hce⟩ := VE1.sl.at_ hlt
            rw [hge] at hu
            obtain rfl : Value.int .i64 _ = u := by injection hu
            clear hge hu
            go_wp2_with fail
            refine (same_eq P Ai _ cp _ ci r r v1 rfl VP.sl (hrow0.keep Q1) (by omega)).mono ?_
            rintro e v2 ⟨rfl, O2⟩
            go_wp2_with fail
            refine (good_any (R2.keep O2)).mono ?_
            rintro e v3 ⟨rfl, rfl⟩
            go_wp2_with fail
            go_roundw
            case rel => exact ⟨j + 1, A2, c2, false, _, by omega, by go_num, HB2, fun _ => rfl, R2.keep O2, HO1.then O2⟩
            case measure => simp [intOf]; omega
          · have HN : Hid (Calls Tryd.prog 27 #[.pointer (some ⟨g, 0, none⟩)] wr (TookRow wr g kb [] true [])) := by
              have h := rbytes_any HR
              cases bad with
              | true =>
                have hl0 := HR.err rfl
                subst hl0
                obtain ⟨t1, t2, t3⟩ := row_bad
                rw [t1, t2, t3] at h
                exact h
              | false =>
                have hlo : endAt ls j ≤ z := by
                  have := decide_eq_false_iff_not.1 hbd.symm
                  omega
                have hl' := hw' rfl
                rw [hcut hlo (by omega)] at hl'
                obtain ⟨t1, t2, t3⟩ := row_cut r (z - endAt ls j) (by omega) (by omega)
                rw [← hl'] at t1 t2 t3
                rw [t1, t2, t3] at h
                exact h
            have HB2 : Hid (true = decide (z < endAt ls (j + 1))) := by show _ = _; rw [eq_comm, decide_eq_true_iff]; omega
            have hzl : z < endAt ls (j + 1) := by omega
            have hge := ends_get ls k j hlt
            clear hwhole hcut hw' hbd hcl0 hin
            go_wp2_with fail
            refine HN.out.mono ?_
            rintro e v1 ⟨P, cp, A2, c2, rfl, VP, BP, R2, O1⟩
            have HO1 := HO.trans O1 (fun x hx => .inl hx)
            have VE1 := VE9.only HO1 (fun x hx hm => by simp at hm; have := hAElt x hx; omega)
            obtain ⟨ae, u, rfl, hu, hce⟩ := VE1.sl.at_ hlt
            rw [hge] at hu
            obtain rfl : Value.int .i64 _ = u := by injection hu
            clear hge hu
            go_wp2_with fail
            refine (good_any R2).mono ?_
            rintro e v3 ⟨rfl, rfl⟩
            go_wp2_with fail
            refine (left_any R2).mono ?_
            rintro e v4 ⟨rfl, rfl⟩
            go_wp2_with fail
            go_roundw
            case rel => exact ⟨j + 1, A2, c2, true, [], by omega, by go_num, HB2, fun h => (by cases h), R2, HO1⟩
            case measure => simp [intOf]; omega
        · have hjk : j = k := by omega
          have hbt : bad = true := by
            rw [HBd.out, hjk, decide_eq_true_iff, ← HME.out]
            exact hzm
          subst hbt
          have hl0 := HR.err rfl
          subst hl0
          have HN := Lib.hid (num_any HR)
          have t1 : takeV true [] = 0 := rfl
          rw [t1] at HN
          clear hjk t1
          go_wp2_with fail
          refine (whole_any HR).mono ?_
          rintro e v1 ⟨rfl, rfl⟩
          go_wp2_with fail
          refine HN.out.mono ?_
          rintro e v2 ⟨rfl, A2, c2, R2, O2⟩
          have Q2 := QR.trans O2 (fun x hx => .inr (by simp at hx; omega))
          go_wp2_with fail
          refine (known_any v2 (ht.keep Q2)).mono ?_
          rintro e v3 ⟨rfl, O3⟩
          go_wp2
          go_ret
          exact ⟨rfl, Q2.then O3⟩

theorem cuts_any (A : Option Addr) (n c : Nat) (ls : List (List UInt8)) (at_ : Int) (w : World) (ht : Tab w) (hr : Rw w A n ls) (hn : n ≤ 9223372036854775807) (hrow : ∀ l ∈ ls, l.length ≤ 9223372036854775807) (b0 : -9223372036854775808 ≤ at_) (b1 : at_ ≤ 9223372036854775807) :
    Calls Tryd.prog 8 #[.slice A n c, .int .i64 at_] w fun e w' => e = .returned (.bool true) ∧ Only [] w w' := by
  by_cases wl : weight ls ≤ 4000
  · by_cases h0 : 0 < n
    · exact cuts_light A n c ls at_ w ht hr h0 wl b0 b1
    · have HH := Lib.hid (heavy_any A n c ls w hr hn hrow)
      rw [show decide (4000 < weight ls) = false from by rw [decide_eq_false_iff_not]; omega] at HH
      have hz : ((n : Int) == 0) = true := by rw [beq_iff_eq]; omega
      clear wl hrow
      go_enter Tryd.func8, Tryd.ntmps8
      go_wp2_with fail
      refine HH.out.mono ?_
      rintro e w' ⟨rfl, rfl⟩
      go_wp2
      go_ret
      exact ⟨rfl, Only.refl _ _⟩
  · have HH := Lib.hid (heavy_any A n c ls w hr hn hrow)
    rw [show decide (4000 < weight ls) = true from by rw [decide_eq_true_iff]; omega] at HH
    clear wl hrow
    go_enter Tryd.func8, Tryd.ntmps8
    go_wp2_with fail
    refine HH.out.mono ?_
    rintro e w' ⟨rfl, rfl⟩
    go_wp2
    go_ret
    exact ⟨rfl, Only.refl _ _⟩
end Go.Proofs.YtecgmlifeljdeaaDoor
