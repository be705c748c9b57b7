/-
  The walk of the law FrameRows.
-/
import Derived.Test.YtikopdffimpkdaaDoorFKnown
namespace Go.Proofs.YtikopdffimpkdaaDoor
open Go.RowKit

/-- What the laws' first loop has behind k rows. -/
def RecState (w : World) (ls : List (List UInt8)) (n : Nat) (s i : Value) (wr : World) : Prop :=
  ∃ (k N c' : Nat) (A' : Option Addr), k ≤ n ∧ i = .int .i64 k ∧ s = .slice A' N c' ∧ N ≤ 4000 ∧ Hid ((recs ls k).length = N) ∧ Own wr 5 A' N c' (bvs (recs ls k)) ∧ Only [] w wr ∧ (∀ x ∈ blks A', w.heap.size ≤ x) ∧ Hid (∀ l ∈ ls.take k, l.length ≤ 4000)

set_option maxRecDepth 100000 in
set_option maxHeartbeats 4000000 in
theorem rowsLaw_any (A B : Option Addr) (n c m d : Nat) (ls : List (List UInt8)) (junk : List UInt8) (w : World) (ht : Tab w) (hr : Rw w A n ls) (hj : Sl w B m (bvs junk)) (hn : n ≤ 1000000000000000000) (hm : m ≤ 1000000000000000000) :
    Calls Tryd.prog 7 #[.slice A n c, .slice B m d] w fun e w' => e = .returned (.bool true) ∧ Only [] w w' := by
  obtain ⟨i0, hi, hz0, hz1, hz2⟩ := info_parts infoByte
  have HLs : Hid (ls.length = n) := hr.len
  go_enter Tryd.func7, Tryd.ntmps7
  go_wp2_with fail
  go_loopw [5, 6] (fun s i wr => RecState w ls n s i wr) (fun _ i _ => n - (intOf i).toNat)
  case atStart => exact ⟨0, 0, 0, none, Nat.zero_le _, rfl, rfl, Nat.zero_le _, rfl, Own.nil _ _, Only.refl _ _, fun x hx => (by cases hx), fun l hl => (by simp at hl)⟩
  case round =>
    obtain ⟨k, N, c', A', hk, rfl, rfl, hN, HN, HV, HO, HB, HM⟩ := hrel
    by_cases hlt : k < n
    · have hkl : k < ls.length := by rw [HLs.out]; exact hlt
      obtain ⟨ad, Ai, ci, rfl, hcell, hrow⟩ := (hr.keep HO).at_ hlt hkl
      have hi0 : (0 : Int) ≤ (k : Int) := by omega
      have hi1 : (k : Int) < (n : Int) := by omega
      obtain ⟨r, hrr⟩ : ∃ r, r = ls[k]'hkl := ⟨_, rfl⟩
      have HR := Lib.hid hrr
      rw [← hrr] at hcell hrow
      have HS : Hid (recs ls (k + 1) = recs ls k ++ record r) := by show _ = _; rw [recs_succ ls k hkl, HR.out]
      have HT : Hid (ls.take (k + 1) = ls.take k ++ [r]) := by show _ = _; rw [List.take_succ_eq_append_getElem hkl, HR.out]
      have hrl : (record r).length = 12 + r.length := record_len r
      clear hrr
      by_cases hbig : 4000 < r.length
      · go_wp2
        go_ret
        exact ⟨rfl, HO⟩
      · have HE := Lib.hid (encode_rows (some ⟨wr.heap.size, 0, none⟩) 1 1 [r] r (wr.alloc (.cells #[.slice Ai r.length ci] 23)) (by simp) (Rw.one (Bk.new wr _ _) (hrow.alloc _)) (ht.keep (HO.alloc _)) (by omega) (by omega))
        generalize hM : (record r).length = M at *
        have HMl := Lib.hid hM
        have hcl2 : Hid (M = 12 + r.length) := hrl
        have hM4 : M ≤ 4012 := by omega
        have hrN := Lib.hid hbig
        clear hM hrl
        go_wp2_with fail
        refine HE.out.mono ?_
        rintro e w1 ⟨A1, c1, rfl, V1, O1, B1⟩
        rw [HMl.out] at V1 ⊢
        have P1 : Only [] w w1 := (HO.alloc _).then O1
        have V0 : Own w1 5 A' N c' (bvs (recs ls k)) := (HV.alloc _).keep O1
        clear O1 B1 HV HE
        by_cases hover : 4000 < N + M
        · go_wp2_with (at_builtin; go_must (refine wpList_append_sl rfl (.tmp 36) (.tmp 37) 23 rfl 5 i0 (.int .u8 0) 1 Tryd.underlying23 hi hz0 hz1 hz2 rfl A' N c' _ rfl V0 A1 M c1 _ rfl V1.sl (bvs_one _) (by unfold maxLen; omega) (by omega) ?_); intro A2 c2 w2 V2 O2 B2)
          go_ret
          exact ⟨rfl, P1.trans O2 (fun x hx => .inr (HB x hx))⟩
        · go_wp2_with (at_builtin; go_must (refine wpList_append_sl rfl (.tmp 36) (.tmp 37) 23 rfl 5 i0 (.int .u8 0) 1 Tryd.underlying23 hi hz0 hz1 hz2 rfl A' N c' _ rfl V0 A1 M c1 _ rfl V1.sl (bvs_one _) (by unfold maxLen; omega) (by omega) ?_); intro A2 c2 w2 V2 O2 B2)
          go_roundw
          case rel =>
            rw [← bvs_append, ← HS.out] at V2
            refine ⟨k + 1, N + M, c2, A2, by omega, by go_num, rfl, by omega, ?_, V2, P1.trans O2 (fun x hx => .inr (HB x hx)), fun x hx => ?_, ?_⟩
            · show _ = _
              rw [HS.out, List.length_append, HN.out, HMl.out]
            · rcases B2 x hx with h | h
              · exact HB x h
              · have := P1.size; omega
            · intro l hl
              rw [HT.out] at hl
              rcases List.mem_append.1 hl with h | h
              · exact HM.out l h
              · simp at h
                subst h
                have := hrN.out
                omega
          case measure => simp [intOf]; omega
    · obtain rfl : k = n := by omega
      have hall : recs ls k = records ls := recs_all ls (by rw [HLs.out]; omega)
      have HTk : Hid (ls.take k = ls) := List.take_of_length_le (by rw [HLs.out]; omega)
      rw [hall] at HN HV
      have HL4 : Hid (∀ l ∈ ls, l.length ≤ 4000) := by
        have h := HM.out
        rw [HTk.out] at h
        exact h
      clear hall HM HTk
      by_cases hmj : 4000 < m
      · go_wp2
        go_ret
        exact ⟨rfl, HO⟩
      · have hcN := HV.cap
        have hscan : scan (records ls) = (ls, N) := by
          have h := scan_records ls [] (fun l hl => by have := HL4.out l hl; omega)
          rw [List.append_nil, scan_bad (b := []) (by rw [bad_nil]; omega), List.append_nil, HN.out] at h
          exact h
        have HS1 := Lib.hid (scan_any A' N c' (records ls) wr HV.sl (ht.keep HO) hcN (by omega))
        rw [hscan] at HS1
        have hjl : junk.length = m := by simpa using hj.len
        have hrec := scan_records ls junk (fun l hl => by have := HL4.out l hl; omega)
        have hle := (scan_le (records ls ++ junk).length (records ls ++ junk) (Nat.le_refl _))
        obtain ⟨L, z, hLz⟩ : ∃ L z, scan (records ls ++ junk) = (L, z) := ⟨_, _, rfl⟩
        rw [hLz] at hrec hle
        have hL : L = ls ++ (scan junk).1 := by injection hrec
        have hz : z = N + (scan junk).2 := by injection hrec with _ h; rw [h, HN.out]
        have hLlen : k ≤ L.length := by rw [hL, List.length_append, HLs.out]; omega
        have hzN : N ≤ z := by omega
        have hpre : Hid (L.take k = ls) := by show _ = _; rw [hL]; exact List.take_left' HLs.out
        have hbl : (records ls ++ junk).length = N + m := by rw [List.length_append, HN.out, hjl]
        have hLb : L.length ≤ 8000 := by
          have h1 := hle.1
          have h2 := hle.2
          rw [hbl] at h1
          simp only at h1 h2
          omega
        have HS2 := Lib.hid (fun (W : World) (X : Option Addr) (cx : Nat) (hs : Sl W X (N + m) (bvs (records ls ++ junk))) (hT : Tab W) (hc : N + m ≤ cx) => scan_any X (N + m) cx (records ls ++ junk) W hs hT hc (by omega))
        rw [hLz] at HS2
        generalize hq : L.length = q at *
        have HQ := Lib.hid hq
        have HR4 := Lib.hid (fun (l : List UInt8) (hl : l ∈ ls) => show l.length ≤ 4611686018427387904 by have := HL4.out l hl; omega)
        clear hscan hrec hle hLz hL hz hbl hq hjl hlt hk
        go_wp2_with fail
        refine HS1.out.mono ?_
        rintro e w1 ⟨A1, c1, vs1, rfl, V1, R1, O1, B1⟩
        rw [HLs.out] at V1 ⊢
        have P1 := HO.then O1
        go_wp2_with fail
        refine (rows_q A1 A k c1 k c ls ls w1 (R1.rw V1.sl) (hr.keep P1) (by omega) (by omega) HR4.out HR4.out).mono ?_
        rintro e w2 HQ2
        have O2 := HQ2.only
        have he := HQ2.1
        rw [decide_eq_true rfl] at he
        subst he
        have P2 := P1.then O2
        have V2 := (HV.keep O1).keep O2
        clear HQ2 V1 R1 B1 HS1
        go_wp2_with (first
          | (at_builtin; refine wpList_append_sl rfl (.tmp 61) (.tmp 62) 23 rfl 5 i0 (.int .u8 0) 1 Tryd.underlying23 hi hz0 hz1 hz2 rfl _ 0 0 [] rfl (World.ownsRow_lit _ #[] 0 (Nat.zero_le _) (Nat.zero_le _) rfl) A' N c' _ rfl (V2.sl.alloc _) (bvs_one _) (by unfold maxLen; omega) (by omega) ?_; intro A3 c3 w3 V3 O3 B3; rw [List.nil_append] at V3; rw [Nat.zero_add] at V3; have P3 : Only [] w w3 := (P2.alloc _).trans O3 (fun x hx => .inr (by simp at hx; have := P2.size; omega)); have B3' : ∀ y ∈ blks A3, w.heap.size ≤ y := (fun y hy => by rcases B3 y hy with h | h; (simp at h; have := P2.size; omega); (simp at h; have := P2.size; omega)))
          | (at_builtin; refine wpList_append_sl rfl (.tmp 63) (.tmp 64) 23 rfl 5 i0 (.int .u8 0) 1 Tryd.underlying23 hi hz0 hz1 hz2 rfl A3 N c3 _ rfl V3 B m d _ rfl (hj.keep P3) (bvs_one _) (by unfold maxLen; omega) (by omega) ?_; intro A4 c4 w4 V4 O4 B4; rw [← bvs_append] at V4; have P4 : Only [] w w4 := P3.trans O4 (fun x hx => .inr (B3' x hx)); have hc4 := V4.cap)
          | (go_at_call 17; refine (HS2.out w4 A4 c4 V4.sl (ht.keep P4) hc4).mono ?_; rintro e w5 ⟨A5, c5, vs5, rfl, V5, R5, O5, B5⟩; rw [HQ.out] at V5 ⊢; have hc5 := V5.cap; have P5 := P4.then O5; have hX := R5.rw V5.sl; have hX2 := hX.pre hLlen; rw [hpre.out] at hX2))
        refine (rows_q A5 A k c5 k c ls ls w5 hX2 (hr.keep P5) (by omega) (by omega) HR4.out HR4.out).mono ?_
        rintro e w6 HQ6
        have O6 := HQ6.only
        have he := HQ6.1
        rw [decide_eq_true rfl] at he
        subst he
        have P6 := P5.then O6
        clear HQ6 V5 R5 hX hX2 B5 B4 V3 V4 B3 HS2
        go_wp2_with fail
        refine (known_any w6 (ht.keep P6)).mono ?_
        rintro e w7 ⟨rfl, O7⟩
        go_wp2
        go_ret
        exact ⟨rfl, P6.then O7⟩
end Go.Proofs.YtikopdffimpkdaaDoor
