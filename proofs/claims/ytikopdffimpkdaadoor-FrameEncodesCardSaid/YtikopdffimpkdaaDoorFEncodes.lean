/-
  The walk of the law FrameEncodes.
-/
import Derived.Test.YtikopdffimpkdaaDoorFKnown
namespace Go.Proofs.YtikopdffimpkdaaDoor
open Go.RowKit

theorem one_record (p : List UInt8) (hp : p.length ≤ 1048576) : oneBad (record p) = 0 ∧ oneBody (record p) = p := by
  obtain ⟨h0, h1, h2⟩ := record_good p [] hp
  rw [List.append_nil] at h0 h1 h2
  obtain ⟨a, b⟩ := one_2 h0 (by rw [h2, record_len]; omega)
  exact ⟨a, by rw [b, h1]⟩
theorem one_more (p : List UInt8) (hp : p.length ≤ 1048576) (x : UInt8) : oneBad (record p ++ [x]) = 3 ∧ oneBody (record p ++ [x]) = [] := by
  obtain ⟨h0, _, h2⟩ := record_good p [x] hp
  exact one_1 h0 (by rw [h2, List.length_append, record_len, List.length_singleton]; omega)

set_option maxRecDepth 100000 in
set_option maxHeartbeats 4000000 in
theorem encodes_any (A B : Option Addr) (n c m d : Nat) (ls : List (List UInt8)) (more : List UInt8) (w : World) (ht : Tab w) (hr : Rw w A n ls) (hj : Sl w B m (bvs more)) (hn : n ≤ 1000000000000000000) (hm : m ≤ 1000000000000000000) :
    Calls Tryd.prog 3 #[.slice A n c, .slice B m d] w fun e w' => e = .returned (.bool true) ∧ Only [] w w' := by
  obtain ⟨i0, hi, hz0, hz1, hz2⟩ := info_parts infoByte
  have HLs : Hid (ls.length = n) := hr.len
  go_enter Tryd.func3, Tryd.ntmps3
  go_wp2_with fail
  go_loopw [5, 6] (fun s i wr => ∃ (k N c' : Nat) (A' : Option Addr), k ≤ n ∧ i = .int .i64 k ∧ s = .slice A' N c' ∧ N ≤ 8000 ∧ Hid ((cat ls k).length = N) ∧ Own wr 5 A' N c' (bvs (cat ls k)) ∧ Only [] w wr ∧ (∀ x ∈ blks A', w.heap.size ≤ x)) (fun _ i _ => n - (intOf i).toNat)
  case atStart => exact ⟨0, 0, 0, none, Nat.zero_le _, rfl, rfl, Nat.zero_le _, rfl, Own.nil _ _, Only.refl _ _, fun x hx => (by cases hx)⟩
  case round =>
    obtain ⟨k, N, c', A', hk, rfl, rfl, hN, HN, HV, HO, HB⟩ := hrel
    by_cases hlt : k < n
    · have hkl : k < ls.length := by rw [HLs.out]; exact hlt
      obtain ⟨ad, Ai, ci, rfl, hcell, hrow⟩ := (hr.keep HO).at_ hlt hkl
      have hi0 : (0 : Int) ≤ (k : Int) := by omega
      have hi1 : (k : Int) < (n : Int) := by omega
      obtain ⟨r, hrr⟩ : ∃ r, r = ls[k]'hkl := ⟨_, rfl⟩
      have HR := Lib.hid hrr
      rw [← hrr] at hcell hrow
      have HS : Hid (cat ls (k + 1) = cat ls k ++ r) := by show _ = _; rw [cat_succ ls k hkl, HR.out]
      clear hrr
      by_cases hbig : 4000 < r.length
      · go_wp2
        go_ret
        exact ⟨rfl, HO⟩
      · by_cases hbig2 : 4000 < N
        · go_wp2
          go_ret
          exact ⟨rfl, HO⟩
        · go_wp2_with (at_builtin; go_must (refine wpList_append_sl rfl (.tmp 35) (.tmp 39) 23 rfl 5 i0 (.int .u8 0) 1 Tryd.underlying23 hi hz0 hz1 hz2 rfl A' N c' _ rfl HV Ai _ ci _ rfl hrow (bvs_one _) (by unfold maxLen; omega) (by omega) ?_); intro A2 c2 w2 V2 O2 B2)
          go_roundw
          case rel =>
            rw [← bvs_append, ← HS.out] at V2
            refine ⟨k + 1, N + r.length, c2, A2, by omega, by go_num, rfl, by omega, ?_, V2, HO.trans O2 (fun x hx => .inr (HB x hx)), fun x hx => ?_⟩
            · show _ = _
              rw [HS.out, List.length_append, HN.out]
            · rcases B2 x hx with h | h
              · exact HB x h
              · have := HO.size; omega
          case measure => simp [intOf]; omega
    · obtain rfl : k = n := by omega
      by_cases hbig : 4000 < N + m
      · go_wp2
        go_ret
        exact ⟨rfl, HO⟩
      · have hall : cat ls k = ls.flatten := cat_all ls (by rw [HLs.out]; omega)
        obtain ⟨p, hp⟩ : ∃ p, ls.flatten = p := ⟨_, rfl⟩
        rw [hall, hp] at HN HV
        have hpl := HN.out
        have HE := Lib.hid (encode_rows A k c ls p wr hp (hr.keep HO) (ht.keep HO) (by omega) (by omega))
        have HRf := Lib.hid (fun (W : World) (o : Only [] wr W) => refEncode_any A' N c' p W (HV.sl.keep o) (by omega))
        have hp20 : p.length ≤ 1048576 := by omega
        have h1 := one_record p hp20
        have h2 := one_more p hp20 1
        have h3 := record_good p more hp20
        rw [← record_len] at h3
        have hM12 : (record p).length = 12 + N := by rw [record_len, hpl]
        have HD := Lib.hid (fun (W : World) (X : Option Addr) (q cx : Nat) (hs : Sl W X q (bvs (record p ++ more))) (hT : Tab W) (hc : q ≤ cx) (hq : q ≤ 100000000000) => decode_any X q cx (record p ++ more) W hs hT hc hq)
        have HO1 := Lib.hid (fun (W : World) (X : Option Addr) (q cx : Nat) (hs : Sl W X q (bvs (record p))) (hT : Tab W) (hc : q ≤ cx) (hq : q ≤ 100000000000) => one_any X q cx (record p) W hs hT hc hq)
        have HO2 := Lib.hid (fun (W : World) (X : Option Addr) (q cx : Nat) (hs : Sl W X q (bvs (record p ++ [1]))) (hT : Tab W) (hc : q ≤ cx) (hq : q ≤ 100000000000) => one_any X q cx (record p ++ [1]) W hs hT hc hq)
        rw [h3.1, h3.2.1, h3.2.2] at HD
        rw [h1.1, h1.2] at HO1
        rw [h2.1, h2.2] at HO2
        generalize hM : (record p).length = M at *
        have HM := Lib.hid hM
        have HP := Lib.hid hpl
        have hM12' : M ≤ 4012 := by omega
        clear hall h1 h2 h3 hM hp hp20 hpl hM12
        go_wp2_with fail
        refine HE.out.mono ?_
        rintro e w1 ⟨A1, c1, rfl, V1, O1, B1⟩
        rw [HM.out] at V1 ⊢
        have P1 := HO.then O1
        have hc1 := V1.cap
        go_wp2_with fail
        refine (HRf.out w1 O1).mono ?_
        rintro e w2 ⟨A2, c2, rfl, V2, O2, B2⟩
        rw [HM.out] at V2 ⊢
        have P2 := P1.then O2
        have V1' := V1.keep O2
        have VA := (HV.keep O1).keep O2
        clear O1 B1 V1 HV HE HRf
        go_wp2_with fail
        refine (same_eq A1 A2 M c1 M c2 (record p) (record p) w2 rfl V1'.sl V2.sl (by omega)).mono ?_
        rintro e w3 ⟨rfl, O3⟩
        have P3 := P2.then O3
        have VA3 := VA.keep O3
        have VR3 := V1'.keep O3
        clear O2 O3 V1' V2 VA B2
        go_wp2_with (first
          | (at_builtin; refine wpList_append_sl rfl (.tmp 67) (.tmp 68) 23 rfl 5 i0 (.int .u8 0) 1 Tryd.underlying23 hi hz0 hz1 hz2 rfl _ 0 0 [] rfl (World.ownsRow_lit _ #[] 0 (Nat.zero_le _) (Nat.zero_le _) rfl) A1 M c1 _ rfl (VR3.sl.alloc _) (bvs_one _) (by unfold maxLen; omega) (by omega) ?_; intro A4 c4 w4 V4 O4 B4; rw [List.nil_append] at V4; rw [Nat.zero_add] at V4; have hs3 := P3.size; have K4 : Only [] w3 w4 := ((Only.refl _ _).alloc _).trans O4 (fun x hx => .inr (by simp at hx; omega)); have B4' : ∀ y ∈ blks A4, w3.heap.size ≤ y := (fun y hy => by rcases B4 y hy with h | h; (simp at h; omega); (simp at h; omega)))
          | (at_builtin; refine wpList_append_sl rfl (.tmp 69) (.tmp 70) 23 rfl 5 i0 (.int .u8 0) 1 Tryd.underlying23 hi hz0 hz1 hz2 rfl A4 M c4 _ rfl V4 B m d _ rfl (hj.keep (P3.then K4)) (bvs_one _) (by unfold maxLen; omega) (by omega) ?_; intro A5 c5 w5 V5 O5 B5; rw [← bvs_append] at V5; have K5 : Only [] w3 w5 := K4.trans O5 (fun x hx => .inr (B4' x hx)); have hc5 := V5.cap)
          | (go_at_call 11; refine (HD.out w5 A5 (M + m) c5 V5.sl (ht.keep (P3.then K5)) hc5 (by omega)).mono ?_; rintro e w6 ⟨A6, c6, rfl, V6, O6, B6⟩; rw [HP.out] at V6 ⊢; have K6 := K5.then O6))
        clear V4 V5 O4 O5 B4 B5
        refine (HO1.out w6 A1 M c1 (VR3.sl.keep K6) (ht.keep (P3.then K6)) hc1 (by omega)).mono ?_
        rintro e w7 ⟨A7, c7, rfl, V7, O7, B7⟩
        rw [HP.out] at V7 ⊢
        have K7 := K6.then O7
        have V67 := V6.keep O7
        have VR7 := VR3.keep K7
        have VA7 := VA3.keep K7
        have P7 := P3.then K7
        clear V6 VR3 VA3 B6 B7 O6 K4 K5 K6 B4'
        go_wp2_with (first
          | (at_builtin; refine wpList_append_sl rfl (.tmp 82) (.tmp 83) 23 rfl 5 i0 (.int .u8 0) 1 Tryd.underlying23 hi hz0 hz1 hz2 rfl _ 0 0 [] rfl (World.ownsRow_lit _ #[] 0 (Nat.zero_le _) (Nat.zero_le _) rfl) A1 M c1 _ rfl (VR7.sl.alloc _) (bvs_one _) (by unfold maxLen; omega) (by omega) ?_; intro A8 c8 w8 V8 O8 B8; rw [List.nil_append] at V8; rw [Nat.zero_add] at V8; have hs7 := P7.size; have K8 : Only [] w7 w8 := ((Only.refl _ _).alloc _).trans O8 (fun x hx => .inr (by simp at hx; omega)); have B8' : ∀ y ∈ blks A8, w7.heap.size ≤ y := (fun y hy => by rcases B8 y hy with h | h; (simp at h; omega); (simp at h; omega)))
          | (at_builtin; refine wpList_append_sl rfl (.tmp 84) (.tmp 85) 23 rfl 5 i0 (.int .u8 0) 1 Tryd.underlying23 hi hz0 hz1 hz2 rfl A8 M c8 _ rfl (V8.alloc _) _ 1 1 _ rfl (sl_one _ _ _ 1 rfl) (bvs_one _) (by unfold maxLen; omega) (by omega) ?_; intro A9 c9 w9 V9 O9 B9; rw [← bvs_append] at V9; have K9 : Only [] w7 w9 := (K8.alloc _).trans O9 (fun x hx => .inr (B8' x hx)); have hc9 := V9.cap)
          | (go_at_call 12; refine (HO2.out w9 A9 (M + 1) c9 V9.sl (ht.keep (P7.then K9)) hc9 (by omega)).mono ?_; rintro e w10 ⟨A10, c10, rfl, V10, O10, B10⟩; have K10 := K9.then O10))
        clear V8 V9 O8 O9 B8 B9 B8' V10 B10
        refine (same_eq A6 A' N c6 N c' p p w10 rfl (V67.sl.keep K10) (VA7.sl.keep K10) (by omega)).mono ?_
        rintro e w11 ⟨rfl, O11⟩
        have K11 := K10.then O11
        go_wp2_with fail
        refine (same_eq A7 A' N c7 N c' p p w11 rfl (V7.sl.keep K11) (VA7.sl.keep K11) (by omega)).mono ?_
        rintro e w12 ⟨rfl, O12⟩
        have K12 := K11.then O12
        go_wp2_with fail
        refine (known_any w12 (ht.keep (P7.then K12))).mono ?_
        rintro e w13 ⟨rfl, O13⟩
        go_wp2
        go_ret
        exact ⟨rfl, (P7.then K12).then O13⟩
end Go.Proofs.YtikopdffimpkdaaDoor
