/-
  The document's Lex.
-/
import Derived.Test.YtbbgdcnnacakjaaDoorYRefL
namespace Go.Proofs.YtbbgdcnnacakjaaDoor
open Go.RowKit Go.Instr

theorem lineF_err : ∀ (k : Nat) {T : List Tkn} {l : List UInt8} {x : Int}, lineF k T l = .error x → x = 3 ∨ x = 5
  | 0, _, _, _, h => by unfold lineF at h; injection h with h; exact .inl h.symm
  | k + 1, _, _, _, h => by
    unfold lineF at h
    split at h
    · cases h
    · split at h
      · injection h with h; exact .inr h.symm
      · split at h
        · injection h with h; exact .inl h.symm
        · exact lineF_err k h
theorem lineF_le : ∀ (k : Nat) {T T2 : List Tkn} {l : List UInt8}, T.length ≤ 64 → lineF k T l = .ok T2 → T2.length ≤ 64
  | 0, _, _, _, _, h => by unfold lineF at h; cases h
  | k + 1, T, _, _, hT, h => by
    unfold lineF at h
    split at h
    · injection h with h; rw [← h]; exact hT
    · split at h
      · cases h
      · split at h
        · cases h
        · exact lineF_le k (by rw [List.length_append]; simp; omega) h
theorem lineL_le {T T2 : List Tkn} {l : List UInt8} (hT : T.length ≤ 64) (h : lineL T l = .ok T2) : T2.length ≤ 64 := lineF_le _ hT h
theorem lineL_err {T : List Tkn} {l : List UInt8} {x : Int} (h : lineL T l = .error x) : x = 3 ∨ x = 5 := lineF_err _ h
theorem from_at {ls bs : List (List UInt8)} {k : Nat} {a : List UInt8} (h : (laidL ls bs)[k]? = some a) (T : List Tkn) : fromL ls bs k T = contL (lineL T a) (pairsL ls bs k) := by
  unfold fromL
  rw [List.getD_eq_getElem?_getD, h]
  rfl
theorem cont_err {x : Int} {ps : List (List UInt8 × List UInt8)} : contL (.error x) ps = .error x := rfl
theorem cont_ok {T : List Tkn} {ps : List (List UInt8 × List UInt8)} : contL (.ok T) ps = litsL T ps := rfl
section
variable {w : World} {LA LB : Option Addr} {nl lc nb bc : Nat} {ls bs : List (List UInt8)}
set_option maxRecDepth 100000 in
set_option maxHeartbeats 8000000 in
theorem refLex_any (hs : Rb w LA nl ls) (hb : Rb w LB nb bs) (hnb : nb ≤ 140737488355000) (hnl : nl ≤ 140737488355328) (hl : ∀ l ∈ ls, l.length ≤ 140737488355000) :
    Calls Tryd.prog 11 #[.slice LA nl lc, .slice LB nb bc] w (LineP w (lexL ls bs)) := by
  have hnll := hs.len
  have hnbl := hb.len
  have HS := Lib.hid hs
  have HB := Lib.hid hb
  have HL := Lib.hid hl
  have HNL := Lib.hid hnll
  have HNB := Lib.hid hnbl
  by_cases hnm : nl = nb + 1
  case neg =>
    have hne : ((nl : Int) != (nb : Int) + 1) = true := by rw [bne_iff_ne]; omega
    have HE : Hid (lexL ls bs = .error 3) := by show _ = _; unfold lexL; rw [fit_not (by omega)]; rfl
    clear hs hb hl hnll hnbl hnm
    go_enter Tryd.func11, Tryd.ntmps11
    go_wp2_with fail
    go_ret2
    rw [HE.out]
    exact ⟨Only.refl _ _, rfl⟩
  have hne : ((nl : Int) != (nb : Int) + 1) = false := by rw [bne_eq_false_iff_eq]; omega
  obtain ⟨G, hG⟩ : ∃ G, lexL ls bs = G := ⟨_, rfl⟩
  have HG := Lib.hid hG
  rw [hG]
  have HNM := Lib.hid hnm
  clear hs hb hl hnll hnbl hG hnm
  go_enter Tryd.func11, Tryd.ntmps11
  go_wp2_with fail
  go_loopw [6] (fun iv wr => w = wr ∧ ∃ k : Nat, iv = .int .i64 (k : Int) ∧ k ≤ nb ∧ Hid (fitL ls bs = fitL (ls.drop k) (bs.drop k))) (fun iv _ => nb - (intOf iv).toNat)
  case atStart => exact ⟨rfl, 0, rfl, by omega, by show _ = _; rw [List.drop_zero, List.drop_zero]⟩
  case round =>
    obtain ⟨rfl, k, rfl, hk, HK⟩ := hrel
    by_cases hlt : k < nb
    · have hlt' : (k : Int) < (nb : Int) := by omega
      have hkb : k < bs.length := by rw [HNB.out]; exact hlt
      have hkl : k < ls.length := by rw [HNL.out, HNM.out]; omega
      have hkn : k < nl := by rw [HNM.out]; omega
      have hkn' : (k : Int) < (nl : Int) := by omega
      obtain ⟨ad, Ai, ci, rfl, c1, b1⟩ := HS.out.at_ hkn hkl
      obtain ⟨bd, Bi, di, rfl, c2, b2⟩ := HB.out.at_ hlt hkb
      have hW := refWants_any b1 (HL.out _ (List.getElem_mem hkl))
      have hfa := fit_at hkl hkb
      obtain ⟨a, ha⟩ : ∃ a, ls[k] = a := ⟨_, rfl⟩
      obtain ⟨b, hbb⟩ : ∃ b, bs[k] = b := ⟨_, rfl⟩
      rw [ha] at c1 b1 hW hfa
      rw [hbb] at c2 b2 hfa
      obtain ⟨x, hx⟩ : ∃ x, a.length = x := ⟨_, rfl⟩
      obtain ⟨y, hy⟩ : ∃ y, b.length = y := ⟨_, rfl⟩
      rw [hx] at c1 hW
      rw [hy] at c2 hfa
      cases hw : wantL a with
      | none =>
        rw [hw] at hW hfa
        simp only [numO] at hW
        have HW := Lib.hid hW
        have HE : Hid (G = .error 3) := by
          show _ = _
          rw [← HG.out]
          unfold lexL
          rw [HK.out, hfa]
          rfl
        clear hfa hw ha hbb hx hy b1 b2 hW HK
        go_wp2_with (go_at_call 13; with_reducible refine HW.out.mono ?_; rintro e w2 ⟨rfl, rfl⟩)
        go_ret2
        rw [HE.out]
        exact ⟨Only.refl _ _, rfl⟩
      | some z =>
        rw [hw] at hW hfa
        simp only [numO] at hW
        have HW := Lib.hid hW
        by_cases hzy : z = y
        · subst hzy
          have hzz : ((z : Int) != (z : Int)) = false := by rw [bne_eq_false_iff_eq]
          have HR : Hid (∃ k' : Nat, Value.int .i64 ((k : Int) + 1) = .int .i64 (k' : Int) ∧ k' ≤ nb ∧ Hid (fitL ls bs = fitL (ls.drop k') (bs.drop k'))) :=
            ⟨k + 1, by simp, by omega, by show _ = _; rw [HK.out, hfa]; simp⟩
          have HM : Hid (nb - (intOf (.int .i64 ((k : Int) + 1))).toNat < nb - (intOf (.int .i64 (k : Int))).toNat) := by
            show nb - ((k : Int) + 1).toNat < nb - (k : Int).toNat
            omega
          clear hfa hw ha hbb hx hy b1 b2 hW HK
          go_wp2_with (go_at_call 13; with_reducible refine HW.out.mono ?_; rintro e w2 ⟨rfl, rfl⟩)
          exact ⟨⟨trivial, HR.out⟩, HM.out⟩
        · have hzb : ((z : Int) != (y : Int)) = true := by rw [bne_iff_ne]; omega
          have HE : Hid (G = .error 3) := by
            show _ = _
            rw [← HG.out]
            unfold lexL
            rw [HK.out, hfa, decide_eq_false (by intro h; injection h with h; exact hzy h)]
            rfl
          clear hfa hw ha hbb hx hy b1 b2 hzy hW HK
          go_wp2_with (go_at_call 13; with_reducible refine HW.out.mono ?_; rintro e w2 ⟨rfl, rfl⟩)
          go_ret2
          rw [HE.out]
          exact ⟨Only.refl _ _, rfl⟩
    · obtain rfl : k = nb := by omega
      have hkk : ¬ (k : Int) < (k : Int) := by omega
      have HF : Hid (fitL ls bs = true) := by
        show _ = _
        rw [HK.out, ← HNB.out]
        exact fit_end (by rw [HNL.out, HNB.out, HNM.out])
      have HG0 : Hid (G = fromL ls bs 0 []) := by show _ = _; rw [← HG.out, lex_from HF.out]
      obtain ⟨i0, hi, hz0, hz1, hz2⟩ : ∃ i : TypeInfo, Tryd.prog.info? 40 = some i ∧ i.zero = some (.agg #[.int .i64 0, .string ⟨#[]⟩]) ∧ i.size = 2 ∧ i.bytes = 24 := by
        obtain ⟨i, h1, h2⟩ := Option.map_eq_some_iff.1 infoTok3
        simp only [Prod.mk.injEq] at h2
        exact ⟨i, h1, h2.1, h2.2.1, h2.2.2⟩
      clear HK hk hlt HG hne
      have hnbk : nl = k + 1 := HNM.out
      obtain ⟨nb, hnb2⟩ : ∃ nb, k = nb := ⟨_, rfl⟩
      rw [hnb2] at HNB HNM HB hnb hkk hnbk ⊢
      clear hnb2
      have hnlb : (nb : Int) < (nl : Int) := by omega
      have HNBK := Lib.hid hnbk
      clear hnbk
      go_wp2_with fail
      go_loopw [9, 10] (fun ov iv wr => ∃ (k : Nat) (T : List Tkn) (A : Option Addr) (n c : Nat), ov = .slice A n c ∧ iv = .int .i64 (k : Int) ∧ k ≤ nl ∧ Gw 2 wr 40 A n c (gx tkl T) ∧ Hid (T.length = n) ∧ n ≤ 64 ∧ (∀ x ∈ blks A, w.heap.size ≤ x) ∧ Only [] w wr ∧ Hid (G = if k < nl then fromL ls bs k T else .ok T)) (fun _ iv _ => nl - (intOf iv).toNat)
      case atStart => exact ⟨0, [], none, 0, 0, rfl, by simp, by omega, Gw.nil _ _ _, rfl, by omega, (fun _ hx => nomatch hx), Only.refl _ _, by show _ = _; rw [if_pos (by rw [HNBK.out]; omega), HG0.out]⟩
      case round =>
        clear HG0
        obtain ⟨j, T, A, n, c, rfl, rfl, hj, hT, HTL, hn64, hA, hO, HE⟩ := hrel
        have HT := Lib.hid hT
        have HA := Lib.hid hA
        have HO := Lib.hid hO
        have HSZ : Hid (w.heap.size ≤ wr.heap.size) := hO.size
        by_cases hjl : j = nl
        · subst hjl
          have hjj : ¬ (j : Int) < (j : Int) := by omega
          have HR : Hid (G = .ok T) := by show _ = _; rw [HE.out, if_neg (by omega)]
          clear HE hT hA hO
          go_wp2_with fail
          go_ret2
          refine ⟨HO.out, ?_⟩
          rw [HR.out]
          refine ⟨A, c, by rw [HTL.out]; rfl, by rw [HTL.out]; exact HT.out, HA.out, by rw [HTL.out]; exact hn64⟩
        · have hjlt : j < nl := by omega
          have hjlt' : (j : Int) < (nl : Int) := by omega
          have hjL : j < ls.length := by rw [HNL.out]; exact hjlt
          obtain ⟨ad, Ai, ci, rfl, c1w, b1⟩ := HS.out.at_ hjlt hjL
          have c1 := hO.cellSome c1w (fun h => nomatch h)
          have hll := HL.out _ (List.getElem_mem hjL)
          rw [if_pos hjlt] at HE
          by_cases hjb : j < nb
          · have hjb' : (j : Int) < (nb : Int) := by omega
            have hjB : j < bs.length := by rw [HNB.out]; exact hjb
            have hcu := cut_of_want (fit_want HF.out hjL hjB)
            have HE1 : Hid (G = contL (lineL T (aheadL ls[j])) (pairsL ls bs j)) := by show _ = _; rw [HE.out, from_at (laid_at hjL hjB)]
            have hcut := refCut_any (b1.keep hO) hll hcu
            obtain ⟨hta, hla⟩ := cut_take hcu
            have b2 := b1.pre hla
            rw [← hta] at b2
            obtain ⟨a, ha⟩ : ∃ a, aheadL ls[j] = a := ⟨_, rfl⟩
            rw [ha] at HE1 hcut b2 hla
            obtain ⟨bd, Bi, di, rfl, c2w, b3⟩ := HB.out.at_ hjb hjB
            have hlits := lits_at (ls := ls) (bs := bs) (k := j) (by rw [HNL.out, HNB.out, HNBK.out]) hjB
            obtain ⟨b, hbb⟩ : ∃ b, bs[j] = b := ⟨_, rfl⟩
            rw [hbb] at c2w b3 hlits
            have hline := refLine_any HT.out HTL.out hn64 HA.out hO b2 (by omega)
            obtain ⟨x, hx⟩ : ∃ x, ls[j].length = x := ⟨_, rfl⟩
            obtain ⟨y, hy⟩ : ∃ y, b.length = y := ⟨_, rfl⟩
            obtain ⟨z, hz⟩ : ∃ z, a.length = z := ⟨_, rfl⟩
            rw [hx] at c1 hcut
            rw [hy] at c2w
            rw [hz] at hcut hline
            have HCUT : Hid (Calls Tryd.prog 24 #[.slice Ai x ci] wr fun e w' => e = .returned (.slice Ai z ci) ∧ wr = w') := hcut
            clear c1w hcut hta hla hll hcu b1 b2 HE hT hA ha hx hz hbb
            have HC2 : Hid (∀ W, Only [] w W → W.cell? (bd.add j) = some (.slice Bi y di)) := fun W o => o.cellSome c2w (fun h => nomatch h)
            have HCV : Hid (∀ W, Only [] w W → (convert 32 9 (.slice Bi y di)).run Tryd.prog W = .ok (.string (St b)) W) := fun W o => run_str_sl (P := Tryd.prog) (w := W) 32 9 5 Bi y di b Tryd.underlying32 Tryd.underlying5 Tryd.underlying9 (by rw [← hy]; exact (b3.keep o).sl)
            clear c2w b3 hy hO
            cases hln : lineL T a with
            | error er =>
              rcases lineL_err hln with rfl | rfl
              · have HR : Hid (G = .error 3) := by show _ = _; rw [HE1.out, hln]; rfl
                rw [hln] at hline
                have HLN : Hid (Calls Tryd.prog 25 #[.slice A n c, .slice Ai z ci] wr fun e w' => e = .returned (.tuple #[.slice none 0 0, .int .i64 3]) ∧ Only [] w w') := hline.mono fun e w' ⟨h1, h2⟩ => ⟨h2, h1⟩
                clear hln hline HE1 HC2 HCV hlits
                go_wp2_with first
                  | (go_at_call 24; (with_reducible refine HCUT.out.mono ?_); rintro e w2 ⟨rfl, rfl⟩)
                  | (go_at_call 25; (with_reducible refine HLN.out.mono ?_); rintro e w2 ⟨rfl, O2⟩)
                go_ret2
                rw [HR.out]
                exact ⟨O2, rfl⟩
              · have HR : Hid (G = .error 5) := by show _ = _; rw [HE1.out, hln]; rfl
                rw [hln] at hline
                have HLN : Hid (Calls Tryd.prog 25 #[.slice A n c, .slice Ai z ci] wr fun e w' => e = .returned (.tuple #[.slice none 0 0, .int .i64 5]) ∧ Only [] w w') := hline.mono fun e w' ⟨h1, h2⟩ => ⟨h2, h1⟩
                clear hln hline HE1 HC2 HCV hlits
                go_wp2_with first
                  | (go_at_call 24; (with_reducible refine HCUT.out.mono ?_); rintro e w2 ⟨rfl, rfl⟩)
                  | (go_at_call 25; (with_reducible refine HLN.out.mono ?_); rintro e w2 ⟨rfl, O2⟩)
                go_ret2
                rw [HR.out]
                exact ⟨O2, rfl⟩
            | ok T2 =>
              have hl2 := hlits T2
              rw [hln] at hline
              have hm2 := lineL_le (by rw [HTL.out]; exact hn64) hln
              obtain ⟨m2, hm⟩ : ∃ m2, T2.length = m2 := ⟨_, rfl⟩
              rw [hm] at hm2
              have HTL2 : Hid (T2.length = m2) := hm
              have HLN : Hid (Calls Tryd.prog 25 #[.slice A n c, .slice Ai z ci] wr fun e w' => ∃ A2 c2, e = .returned (.tuple #[.slice A2 m2 c2, .int .i64 0]) ∧ Only [] w w' ∧ Gw 2 w' 40 A2 m2 c2 (gx tkl T2) ∧ ∀ x ∈ blks A2, w.heap.size ≤ x) := hline.mono fun e w' ⟨h1, A2, c2, h2, h3, h4, _⟩ => ⟨A2, c2, by rw [h2, hm], h1, by rw [← hm]; exact h3, h4⟩
              by_cases h6 : m2 = 64
              · subst h6
                have HR : Hid (G = .error 5) := by show _ = _; rw [HE1.out, hln, cont_ok, hl2, if_pos hm]
                clear hln hline HE1 HC2 HCV hlits hl2 hm
                go_wp2_with first
                  | (go_at_call 24; (with_reducible refine HCUT.out.mono ?_); rintro e w2 ⟨rfl, rfl⟩)
                  | (go_at_call 25; (with_reducible refine HLN.out.mono ?_); rintro e w2 ⟨A2, c2, rfl, O2, hT2, hA2⟩; have HT2 := Lib.hid hT2; clear hT2)
                go_ret2
                rw [HR.out]
                exact ⟨O2, rfl⟩
              · have hn6 : ¬ (64 : Int) ≤ (m2 : Int) := by omega
                have hm9 : m2 < 64 := by omega
                have hj1 : (j : Int) + 1 ≤ 140737488355328 := by omega
                have HN : Hid (G = if j + 1 < nl then fromL ls bs (j + 1) (T2 ++ [(2, b)]) else .ok (T2 ++ [(2, b)])) := by
                  show _ = _
                  rw [HE1.out, hln, cont_ok, hl2, if_neg (by rw [hm]; exact h6), if_pos (by rw [HNBK.out]; omega)]
                clear hln hline HE1 hlits hl2 hm hj1 hm9 h6
                go_wp2_with first
                  | (go_at_call 24; (with_reducible refine HCUT.out.mono ?_); rintro e w2 ⟨rfl, rfl⟩)
                  | (go_at_call 25; (with_reducible refine HLN.out.mono ?_); rintro e w2 ⟨A2, c2, rfl, O2, hT2, hA2⟩; have hcc := HC2.out _ O2; have hcv := HCV.out _ O2; have HT2 := Lib.hid hT2; have HA2 := Lib.hid hA2; have HOO := Lib.hid O2; clear hT2 hA2 O2)
                  | (at_builtin; go_must (refine wpList_append_gw rfl (.tmp 78) (.tmp 85) 2 24 rfl 40 i0 _ 24 Tryd.underlying24 hi hz0 hz1 hz2 rfl (by decide) A2 m2 c2 (gx tkl T2) rfl (HT2.out.keep ((Only.refl [] _).alloc _)) _ 1 1 (tkl (2, b)) rfl (Gr.of_bk (Bk.new _ _ _) rfl) (tkl_one _) (by unfold maxLen; omega) (by omega) (m2 + 1) rfl ?_); intro A3 c3 w3 HV2 HO2 HB2)
                have hsz := HOO.out.size
                refine ⟨⟨j + 1, T2 ++ [(2, b)], A3, m2 + 1, c3, rfl, by simp, by omega, by rw [gx_append, gx_one]; exact HV2, by show _ = _; rw [List.length_append, HTL2.out]; rfl, by omega, fun x hx => ?_, (HOO.out.alloc _).trans HO2 (fun x hx => .inr (HA2.out x hx)), HN⟩, ?_⟩
                · rcases HB2 x hx with h | h
                  · exact HA2.out x h
                  · simp at h; omega
                · show nl - ((j : Int) + 1).toNat < nl - (j : Int).toNat
                  omega
          · have hjnb : j = nb := by have := HNBK.out; omega
            have hjb' : ¬ (j : Int) < (nb : Int) := by omega
            have HE1 : Hid (G = contL (lineL T ls[j]) (pairsL ls bs j)) := by show _ = _; rw [HE.out, from_at (laid_last (by rw [HNB.out]; exact hjnb) hjL)]
            have hlits : ∀ T2, litsL T2 (pairsL ls bs j) = .ok T2 := fun T2 => by rw [hjnb, ← HNB.out]; exact lits_end
            have hline := refLine_any HT.out HTL.out hn64 HA.out hO b1 hll
            obtain ⟨a, ha⟩ : ∃ a, ls[j] = a := ⟨_, rfl⟩
            rw [ha] at HE1 hline c1
            obtain ⟨z, hz⟩ : ∃ z, a.length = z := ⟨_, rfl⟩
            rw [hz] at c1 hline
            clear c1w hll b1 HE hT hA ha hz hO hjnb
            cases hln : lineL T a with
            | error er =>
              rcases lineL_err hln with rfl | rfl
              · have HR : Hid (G = .error 3) := by show _ = _; rw [HE1.out, hln]; rfl
                rw [hln] at hline
                have HLN : Hid (Calls Tryd.prog 25 #[.slice A n c, .slice Ai z ci] wr fun e w' => e = .returned (.tuple #[.slice none 0 0, .int .i64 3]) ∧ Only [] w w') := hline.mono fun e w' ⟨h1, h2⟩ => ⟨h2, h1⟩
                clear hln hline HE1 hlits
                go_wp2_with (go_at_call 25; (with_reducible refine HLN.out.mono ?_); rintro e w2 ⟨rfl, O2⟩)
                go_ret2
                rw [HR.out]
                exact ⟨O2, rfl⟩
              · have HR : Hid (G = .error 5) := by show _ = _; rw [HE1.out, hln]; rfl
                rw [hln] at hline
                have HLN : Hid (Calls Tryd.prog 25 #[.slice A n c, .slice Ai z ci] wr fun e w' => e = .returned (.tuple #[.slice none 0 0, .int .i64 5]) ∧ Only [] w w') := hline.mono fun e w' ⟨h1, h2⟩ => ⟨h2, h1⟩
                clear hln hline HE1 hlits
                go_wp2_with (go_at_call 25; (with_reducible refine HLN.out.mono ?_); rintro e w2 ⟨rfl, O2⟩)
                go_ret2
                rw [HR.out]
                exact ⟨O2, rfl⟩
            | ok T2 =>
              have hl2 := hlits T2
              rw [hln] at hline
              have hm2 := lineL_le (by rw [HTL.out]; exact hn64) hln
              obtain ⟨m2, hm⟩ : ∃ m2, T2.length = m2 := ⟨_, rfl⟩
              rw [hm] at hm2
              have HTL2 : Hid (T2.length = m2) := hm
              have HLN : Hid (Calls Tryd.prog 25 #[.slice A n c, .slice Ai z ci] wr fun e w' => ∃ A2 c2, e = .returned (.tuple #[.slice A2 m2 c2, .int .i64 0]) ∧ Only [] w w' ∧ Gw 2 w' 40 A2 m2 c2 (gx tkl T2) ∧ ∀ x ∈ blks A2, w.heap.size ≤ x) := hline.mono fun e w' ⟨h1, A2, c2, h2, h3, h4, _⟩ => ⟨A2, c2, by rw [h2, hm], h1, by rw [← hm]; exact h3, h4⟩
              have HN : Hid (G = if j + 1 < nl then fromL ls bs (j + 1) T2 else .ok T2) := by
                show _ = _
                rw [HE1.out, hln, cont_ok, hl2, if_neg (by rw [HNBK.out]; omega)]
              have hj1 : (j : Int) + 1 ≤ 140737488355328 := by omega
              clear hln hline HE1 hlits hl2 hm
              go_wp2_with (go_at_call 25; (with_reducible refine HLN.out.mono ?_); rintro e w2 ⟨A2, c2, rfl, O2, hT2, hA2⟩; have HT2 := Lib.hid hT2; clear hT2)
              refine ⟨⟨j + 1, T2, A2, m2, c2, rfl, by simp, by omega, HT2.out, HTL2, hm2, hA2, O2, HN⟩, ?_⟩
              show nl - ((j : Int) + 1).toNat < nl - (j : Int).toNat
              omega
end
end Go.Proofs.YtbbgdcnnacakjaaDoor
