/-
  The walk of the law DiskKeeps.
-/
import Derived.Test.YtbciompelpbkdaaDFuses
namespace Go.Proofs.Ytbciompelpbkdaa
open Go.RowKit Go.Maps

set_option maxRecDepth 100000 in
set_option maxHeartbeats 4000000 in
theorem keeps_any (A : Option Addr) (n c : Nat) (ls : List (List UInt8)) (synced draw : Int) (w : World) (hr : Rw w A n ls) (hn : n ≤ 10000000000000) (hj : ∀ l ∈ ls, l.length ≤ 140737488351232) (hs0 : -9223372036854775808 ≤ synced) (hs1 : synced ≤ 9223372036854775807) (hdraw : draw ≤ 9223372036854775807) :
    Calls Try.prog 4 #[.slice A n c, .int .i64 synced, .int .i64 draw] w fun e w' => e = .returned (.bool true) ∧ Only [] w w' := by
  obtain ⟨i0, hi, hz0, hz1, hz2⟩ := info_parts infoByte
  have HLs : Hid (ls.length = n) := hr.len
  have hrows := Lib.hid hj
  clear hj
  go_enter Try.func4, Try.ntmps4
  go_wp2_with fail
  go_loop [7, 8] (fun s i => ∃ k N : Nat, k ≤ n ∧ i = .int .i64 k ∧ s = .int .i64 N ∧ Hid (N = cnt ls k) ∧ N ≤ 140737488400000) (fun _ i => n - (intOf i).toNat)
  case atStart => exact ⟨0, 0, Nat.zero_le _, rfl, rfl, rfl, Nat.zero_le _⟩
  case round =>
    obtain ⟨k, N, hk, rfl, rfl, HN, hNb⟩ := hrel
    by_cases hlt : k < n
    · by_cases hc : N ≤ 8000
      · obtain ⟨ad, Ai, ci, rfl, hcell, _⟩ := hr.at_ hlt (by rw [HLs.out]; exact hlt)
        obtain ⟨m, hm⟩ : ∃ m, m = (ls[k]'(by rw [HLs.out]; exact hlt)).length := ⟨_, rfl⟩
        have hmb : m ≤ 140737488351232 := by rw [hm]; exact hrows.out _ (List.getElem_mem _)
        have HN' : Hid (N + 1 + m = cnt ls (k + 1)) := by show _ = _; rw [cnt_succ ls k (by rw [HLs.out]; exact hlt), ← HN.out, hm]
        rw [← hm] at hcell
        clear hm
        go_wp2
        go_round
        case rel => exact ⟨k + 1, N + 1 + m, by omega, by go_num, by go_num, HN', by omega⟩
        case measure => simp [intOf]; omega
      · have hc' : 8000 < N := by omega
        go_wp2_with (go_at_call 11; refine (known_any w).mono ?_; rintro e w1 ⟨rfl, O1⟩)
        go_ret
        exact ⟨rfl, O1⟩
    · have hkn : k = n := by omega
      subst hkn
      have HT : Hid (N = k + ls.flatten.length) := by show _ = _; rw [HN.out, ← HLs.out]; exact cnt_all ls
      by_cases hc : 8000 < N
      · have hc' := hc
        go_wp2_with (go_at_call 11; refine (known_any w).mono ?_; rintro e w1 ⟨rfl, O1⟩)
        go_ret
        exact ⟨rfl, O1⟩
      · have hc' : N ≤ 8000 := by omega
        have hk8 : k ≤ 8000 := by have := HT.out; omega
        have HFl : Hid (ls.flatten.length ≤ 8000) := by show _ ≤ _; have := HT.out; omega
        obtain ⟨sy, hsy⟩ : ∃ sy, sy = synced.toNat := ⟨_, rfl⟩
        have HSY := Lib.hid hsy
        clear hsy
        have HNEW := Lib.hid (new_any (w := w) 1048576 (by omega))
        go_wp2_with (go_at_call 12; refine HNEW.out.mono ?_; rintro e w1 ⟨d, rfl, D1, O1, hd⟩; have P1 : ∀ x ∈ [d], w.heap.size ≤ x := (fun x hx => by simp at hx; rw [hx]; exact hd))
        have HK0 : Hid (kpS sy ls 0 = ⟨1048576, [], none⟩) := rfl
        have D1' : Disk w1 d [d] (kpS sy ls 0) := D1
        have Z1 : Own w1 5 none (catLen ls 0) 0 (bvs (cat ls 0)) := Own.nil _ _
        have Z2 : Own w1 5 none (catLen ls (min 0 sy)) 0 (bvs (cat ls (min 0 sy))) := by rw [Nat.zero_min]; exact Own.nil _ _
        have HZ := Lib.hid (And.intro Z1 Z2)
        clear D1 HNEW Z1 Z2 HK0
        go_loopw [13, 11, 12] (fun i s t wr => ∃ (j : Nat) (F : List Nat) (A1 A2 : Option Addr) (N1 c1 N2 c2 : Nat), j ≤ k ∧ i = .int .i64 j ∧ s = .slice A1 N1 c1 ∧ t = .slice A2 N2 c2 ∧ Hid (N1 = catLen ls j) ∧ Hid (N2 = catLen ls (min j sy)) ∧ N1 ≤ 8000 ∧ Disk wr d F (kpS sy ls j) ∧
          Own wr 5 A1 N1 c1 (bvs (cat ls j)) ∧ Own wr 5 A2 N2 c2 (bvs (cat ls (min j sy))) ∧ (∀ x ∈ F, x ∉ blks A1) ∧ (∀ x ∈ F, x ∉ blks A2) ∧ (∀ x ∈ blks A1, x ∉ blks A2) ∧
          Only [] w wr ∧ (∀ x ∈ F, w.heap.size ≤ x) ∧ (∀ x ∈ blks A1, w.heap.size ≤ x) ∧ ∀ x ∈ blks A2, w.heap.size ≤ x) (fun i _ _ _ => k - (intOf i).toNat)
        case atStart => exact ⟨0, [d], none, none, _, 0, _, 0, Nat.zero_le _, rfl, rfl, by rw [Nat.zero_min]; rfl, rfl, rfl, Nat.zero_le _, D1', HZ.out.1, HZ.out.2, fun _ _ h => (by cases h), fun _ _ h => (by cases h), fun _ h => (by cases h), O1, P1, fun _ h => (by cases h), fun _ h => (by cases h)⟩
        case round =>
          obtain ⟨j, F, A1, A2, N1, c1, N2, c2, hj, rfl, rfl, rfl, HN1, HN2, hN1, D3, V1, V2, a1, a2, a3, Q3, P3, b1, b2⟩ := hrel
          by_cases hlt2 : j < k
          · have hjl : j < ls.length := by rw [HLs.out]; exact hlt2
            have hrS := (hr.below).only Q3 (fun _ _ hm => by cases hm)
            obtain ⟨ad, Ai, ci, rfl, hadS, hcell, hsl, hst⟩ := hrS.at_ hlt2 hjl
            have hsuc := catLen_succ ls j hjl
            have hle := catLen_le ls (j + 1)
            have hfl := HFl.out
            obtain ⟨row, hrow⟩ : ∃ row, row = ls[j]'hjl := ⟨_, rfl⟩
            have hap := kpS_app (sy := sy) hjl HFl.out
            have hcat := cat_succ ls j hjl
            rw [← hrow] at hcell hsl hst hap hcat hsuc
            have HAP := Lib.hid (append_one D3 nameF Ai row.length ci row rfl hsl (fun hpos ad2 e hm => by have h1 := hst hpos ad2 e; have h2 := P3 _ hm; omega))
            rw [hap.1, hap.2] at HAP
            obtain ⟨m, hm⟩ : ∃ m, m = row.length := ⟨_, rfl⟩
            rw [← hm] at hcell hsl hst HAP hsuc
            have hNm : N1 + m ≤ 8000 := by have := HN1.out; omega
            have HN1' : Hid (N1 + m = catLen ls (j + 1)) := by show _ = _; have := HN1.out; omega
            have HCA : Hid (bvs (cat ls j) ++ bvs row = bvs (cat ls (j + 1))) := by show _ = _; rw [← bvs_append, hcat]
            have hadz : ad.block < wr.heap.size := by have := Q3.size; omega
            have HPT := Lib.hid hst
            have hkept : Hid (∀ W, Only [] w W → Sl W Ai m (bvs row)) := fun W hW => by
              have h1 := ((hr.below).only hW (fun _ _ hm => by cases hm)).at_ hlt2 hjl
              obtain ⟨ad', Ai', ci', e1, _, hcell', hsl', _⟩ := h1
              injection e1 with e1
              subst e1
              rw [← hrow] at hcell' hsl'
              have hcl := (hW.cell (p := ad.add j) (by rw [add_block]; exact hadS) (by simp)).symm.trans hcell'
              have hcl3 := (Q3.cell (p := ad.add j) (by rw [add_block]; exact hadS) (by simp)).symm.trans hcell
              rw [hcl] at hcl3
              injection hcl3 with hcl3
              injection hcl3 with e2 e3 e4
              subst e2
              rw [hm]
              exact hsl'
            have hcellW : Hid (∀ W, Only [] w W → W.cell? (ad.add j) = some (.slice Ai m ci)) := fun W hW => by
              have hcl3 := (Q3.cell (p := ad.add j) (by rw [add_block]; exact hadS) (by simp)).symm.trans hcell
              exact (hW.cell (p := ad.add j) (by rw [add_block]; exact hadS) (by simp)).trans hcl3
            clear hrow hap hcat hsuc hle hfl hm hsl hst hrS
            by_cases hjs : j < sy
            · have hjs' : (j : Int) < synced := by have := HSY.out; omega
              have hsn := kpT_sync (ls := ls) hjs
              have HMI : Hid (min (j + 1) sy = j + 1) := by show _ = _; omega
              have HSN := Lib.hid hsn
              clear hsn hjs
              go_wp2_with (first
                | (go_at_call 16; refine HAP.out.mono ?_; rintro e w4 ⟨rfl, F4, D4, O4, B4⟩; have Q4 := Q3.fresh O4 P3; have P4 := fresh_fp Q3 P3 B4; have hc4 := hcellW.out w4 Q4; have V14 := V1.only O4 (fun x hx hm => a1 x hm hx); have V24 := V2.only O4 (fun x hx hm => a2 x hm hx); have x1 : ∀ x ∈ F4, x ∉ blks A1 := (fun x hx hm => by rcases B4 x hx with h | h; exact a1 x h hm; (have := V1.lt hm; omega)); have x2 : ∀ x ∈ F4, x ∉ blks A2 := (fun x hx hm => by rcases B4 x hx with h | h; exact a2 x h hm; (have := V2.lt hm; omega)))
                | (at_builtin; refine wpList_append_sl rfl (.tmp 61) (.tmp 65) 32 rfl 5 i0 (.int .u8 0) 1 Try.underlying32 hi hz0 hz1 hz2 rfl A1 N1 c1 _ rfl V14 Ai m ci _ rfl (hkept.out w4 Q4) (bvs_one _) (by unfold maxLen; omega) (by omega) ?_; intro A5 c5 w5 V5 O5 B5; rw [HCA.out] at V5; have Q5 := Q4.trans O5 (fun x hx => .inr (b1 x hx)); have D5 := D4.only O5 x1; have V25 := V24.only O5 (fun x hx hm => a3 x hm hx); have y1 : ∀ x ∈ F4, x ∉ blks A5 := (fun x hx hm => by rcases B5 x hm with h | h; exact x1 x hx h; (have := D4.lt hx; omega)); have y5 : ∀ x ∈ blks A5, w.heap.size ≤ x := (fun x hx => by rcases B5 x hx with h | h; exact b1 x h; (have := Q4.size; omega)))
                | (go_at_call 20; refine (sync_one D5 nameF).mono ?_; rw [HSN.out.1, HSN.out.2]; rintro e w6 ⟨rfl, F6, D6, O6, B6⟩; have Q6 := Q5.fresh O6 P4; have P6 := fresh_fp Q5 P4 B6; have V56 := V5.only O6 (fun x hx hm => y1 x hm hx); have y6 : ∀ x ∈ F6, x ∉ blks A5 := (fun x hx hm => by rcases B6 x hx with h | h; exact y1 x h hm; (have := V5.lt hm; omega)))
                | (at_builtin; refine wpList_append_sl rfl (.tmp 74) (.tmp 75) 32 rfl 5 i0 (.int .u8 0) 1 Try.underlying32 hi hz0 hz1 hz2 rfl _ _ _ _ rfl (World.ownsRow_lit w6 #[] 0 (Nat.zero_le _) (Nat.zero_le _) rfl) A5 (N1 + m) c5 _ rfl (V56.sl.alloc _) (bvs_one _) (by unfold maxLen; omega) (by omega) ?_; intro A7 c7 w7 V7 O7 B7; rw [List.nil_append] at V7; rw [Nat.zero_add] at V7))
              have O67 : Only [] w6 w7 := ((Only.refl [] w6).alloc _).trans O7 (fun x hx => .inr (by simp at hx; omega))
              have z7 : ∀ x ∈ blks A7, w6.heap.size ≤ x := fun x hx => by
                rcases B7 x hx with h | h
                · simp at h; omega
                · rw [World.size_alloc] at h; omega
              go_roundw
              case rel =>
                refine ⟨j + 1, F6, A5, A7, N1 + m, c5, N1 + m, c7, by omega, by go_num, rfl, rfl, HN1', ?_, hNm, D6.keep O67, V56.keep O67, ?_, fun x hx => y6 x hx, fun x hx hm => ?_, fun x hx hm => ?_, Q6.then O67, P6, y5, fun x hx => ?_⟩
                · show _ = _
                  rw [HMI.out]
                  exact HN1'.out
                · rw [HMI.out]
                  exact V7
                · have h1 := D6.lt hx
                  have h2 := z7 x hm
                  omega
                · have h1 := V56.lt hx
                  have h2 := z7 x hm
                  omega
                · have h1 := z7 x hx
                  have h2 := Q6.size
                  omega
              case measure => simp [intOf]; omega
            · have hjs' : synced ≤ (j : Int) := by have := HSY.out; omega
              have hsn := kpT_stays (ls := ls) (show sy ≤ j by omega)
              have HMI : Hid (min (j + 1) sy = min j sy) := by show _ = _; omega
              rw [hsn] at HAP
              clear hsn hjs
              go_wp2_with (first
                | (go_at_call 16; refine HAP.out.mono ?_; rintro e w4 ⟨rfl, F4, D4, O4, B4⟩; have Q4 := Q3.fresh O4 P3; have P4 := fresh_fp Q3 P3 B4; have hc4 := hcellW.out w4 Q4; have V14 := V1.only O4 (fun x hx hm => a1 x hm hx); have V24 := V2.only O4 (fun x hx hm => a2 x hm hx); have x1 : ∀ x ∈ F4, x ∉ blks A1 := (fun x hx hm => by rcases B4 x hx with h | h; exact a1 x h hm; (have := V1.lt hm; omega)); have x2 : ∀ x ∈ F4, x ∉ blks A2 := (fun x hx hm => by rcases B4 x hx with h | h; exact a2 x h hm; (have := V2.lt hm; omega)))
                | (at_builtin; refine wpList_append_sl rfl (.tmp 61) (.tmp 65) 32 rfl 5 i0 (.int .u8 0) 1 Try.underlying32 hi hz0 hz1 hz2 rfl A1 N1 c1 _ rfl V14 Ai m ci _ rfl (hkept.out w4 Q4) (bvs_one _) (by unfold maxLen; omega) (by omega) ?_; intro A5 c5 w5 V5 O5 B5; rw [HCA.out] at V5; have Q5 := Q4.trans O5 (fun x hx => .inr (b1 x hx)); have D5 := D4.only O5 x1; have V25 := V24.only O5 (fun x hx hm => a3 x hm hx); have y1 : ∀ x ∈ F4, x ∉ blks A5 := (fun x hx hm => by rcases B5 x hm with h | h; exact x1 x hx h; (have := D4.lt hx; omega)); have y5 : ∀ x ∈ blks A5, w.heap.size ≤ x := (fun x hx => by rcases B5 x hx with h | h; exact b1 x h; (have := Q4.size; omega))))
              go_roundw
              case rel =>
                refine ⟨j + 1, F4, A5, A2, N1 + m, c5, N2, c2, by omega, by go_num, rfl, rfl, HN1', ?_, hNm, D5, V5, ?_, y1, x2, fun x hx hm => ?_, Q5, P4, y5, b2⟩
                · show _ = _
                  rw [HMI.out]
                  exact HN2.out
                · rw [HMI.out]
                  exact V25
                · rcases B5 x hx with h | h
                  · exact a3 x h hm
                  · have := V24.lt hm
                    omega
              case measure => simp [intOf]; omega
          · have hjk : j = k := by omega
            subst hjk
            by_cases h0 : j = 0
            · have hem := kpS_empty (sy := sy) (ls := ls) draw
              have hj0 : ((j : Int) == 0) = true := by rw [h0]; rfl
              have HEM : Hid (readD (crashS (kpS sy ls j) draw) nameF = [] ∧ readE (crashS (kpS sy ls j) draw) nameF = 7) := by rw [h0]; exact hem
              clear hem h0
              go_wp2_with (first
                | (go_at_call 17; refine (crash_any D3 draw hdraw).mono ?_; rintro e w4 ⟨rfl, F4, D4, O4, B4⟩; have Q4 := Q3.fresh O4 P3)
                | (go_at_call 21; refine (read_any D4 nameF (by decide)).mono ?_; rw [HEM.out.1, HEM.out.2]; rintro e w5 ⟨A6, c6, rfl, V6, O6, B6⟩; have Q6 := Q4.then O6)
                | (go_at_call 11; refine (known_any w5).mono ?_; rintro e w7 ⟨rfl, O7⟩))
              go_ret
              exact ⟨rfl, Q6.then O7⟩
            · have hj0 : ((j : Int) == 0) = false := by rw [beq_eq_false_iff_ne]; omega
              obtain ⟨st, s1, s2, s3, s4⟩ := kpS_crash (sy := sy) (ls := ls) h0 draw
              have hst1 : N2 ≤ st := by have := HN2.out; omega
              have hst2 : st ≤ N1 := by have := HN1.out; omega
              have hstl : ((cat ls j).take st).length = st := by rw [List.length_take]; have : (cat ls j).length = catLen ls j := rfl; omega
              have hcap := V1.cap
              have hst3 : st ≤ c1 := by omega
              have HR := Lib.hid (And.intro s3 (And.intro s4 hstl))
              obtain ⟨b, hb⟩ : ∃ b, b = (cat ls j).take st := ⟨_, rfl⟩
              rw [← hb] at HR
              have HBB := Lib.hid hb
              clear s1 s2 s3 s4 hstl h0 hb
              go_wp2_with (first
                | (go_at_call 17; refine (crash_any D3 draw hdraw).mono ?_; rintro e w4 ⟨rfl, F4, D4, O4, B4⟩; have Q4 := Q3.fresh O4 P3; have V14 := V1.only O4 (fun x hx hm => a1 x hm hx))
                | (go_at_call 21; refine (read_any D4 nameF (by decide)).mono ?_; rw [HR.out.1, HR.out.2.1]; rintro e w5 ⟨A6, c6, rfl, V6, O6, B6⟩; rw [HR.out.2.2] at V6 ⊢; have Q6 := Q4.then O6; have V15 := (V14.keep O6).pre (k := st) (by omega); rw [bvs_take, ← HBB.out] at V15)
                | (go_at_call 22; refine (same_eq A6 A1 st c6 st c1 b b _ rfl V6.sl V15.sl (by omega)).mono ?_; rintro e w8 ⟨rfl, O8⟩; have Q8 := Q6.then O8)
                | (go_at_call 11; refine (known_any w8).mono ?_; rintro e w7 ⟨rfl, O7⟩))
              go_ret
              exact ⟨rfl, Q8.then O7⟩
end Go.Proofs.Ytbciompelpbkdaa
