/-
  The document's Fields.
-/
import Derived.Test.YtmameghebikjbaaDoorHRefS
import Derived.Test.YtmameghebikjbaaDoorHRefT
import Derived.Test.YtmameghebikjbaaDoorHSplit
import Derived.Test.YtmameghebikjbaaDoorHGet
namespace Go.Proofs.YtmameghebikjbaaDoor
open Go.RowKit Go.Instr

theorem ext_St (T : List UInt8) (i j : Nat) : (St T).extract i j = St ((T.drop i).take (j - i)) := by
  rw [Lib.extract_eq]
theorem add_St (a b : List UInt8) : St a ++ St b = St (a ++ b) := by
  apply ByteArray.ext
  simp
theorem trim_text (s : ByteArray) (hs : s.size ≤ 4096) (w : World) : Calls Tryd.prog 31 #[.string s] w fun e w' => e = .returned (.string (St (trimB s.data.toList))) ∧ w = w' :=
  (refTrim_any s hs w).mono fun e w' ⟨t, he, ht, _, hw⟩ => ⟨by rw [he, ← ht.out, St_data], hw⟩
/-- Of the head's texts only the last one may be empty. -/
theorem texts_last {l : List UInt8} (i : Nat) (h : (textsOf (l.take (hd l)))[i]? = some []) : (textsOf (l.take (hd l))).length = i + 1 := by
  unfold textsOf at h ⊢
  rw [lns_head] at h ⊢
  unfold hls at h ⊢
  have hk1 := hk_le (lns l)
  rw [List.length_map, List.length_take]
  rw [List.getElem?_map] at h
  cases hx : ((lns l).take (hk (lns l)))[i]? with
  | none => rw [hx] at h; cases h
  | some x =>
    rw [hx] at h
    have hi : i < hk (lns l) := by
      have := (List.getElem?_eq_some_iff.1 hx).1
      rw [List.length_take] at this
      omega
    rw [List.getElem?_take_of_lt hi] at hx
    rcases Nat.lt_or_ge (i + 1) (hk (lns l)) with h1 | h1
    · exact absurd (Option.some.inj h) (hk_ne (lns l) i x h1 hx)
    · omega
section
variable {w : World} {A : Option Addr} {n c : Nat} {l : List UInt8}
set_option maxRecDepth 100000 in
set_option maxHeartbeats 4000000 in
theorem refFields_any (hs : Bt w A n c l) (hbig : n ≤ 4096) (hA : ∀ x ∈ blks A, x < w.heap.size) : Calls Tryd.prog 25 #[.slice A n c] w fun e w' => ∃ A' c', e = .returned (.slice A' (flds l).length c') ∧ Fd w' A' (flds l).length c' (flds l) ∧ Only [] w w' := by
  have hle := hd_le' hs
  have cH := refHead_any hs hbig
  have hlast := @texts_last l
  have hG0 := flds_texts l
  have hp := hs.pre hle
  have cS := refSplit_any hp (by omega) hA
  obtain ⟨H, hH⟩ : ∃ H, hd l = H := ⟨_, rfl⟩
  rw [hH] at cH hlast hG0 hp hle cS
  obtain ⟨ts, hts⟩ : ∃ ts, textsOf (l.take H) = ts := ⟨_, rfl⟩
  have htl : ∀ t ∈ ts, t.length ≤ 4096 := fun t ht => by
    rw [← hts] at ht
    have := texts_len ht
    rw [List.length_take] at this
    omega
  have hr0 : (lns (l.take H)).length = ts.length := by rw [← hts]; unfold textsOf; rw [List.length_map]
  have hr1 : ts.length ≤ 4096 := by
    rw [← hr0]
    have := lns_len (l.take H)
    rw [List.length_take] at this
    omega
  rw [hr0, show (lns (l.take H)).map tx = ts from hts] at cS
  rw [hts] at hlast hG0
  obtain ⟨G, hG⟩ : ∃ G, flds l = G := ⟨_, rfl⟩
  rw [hG] at hG0 ⊢
  obtain ⟨r, hr⟩ : ∃ r, ts.length = r := ⟨_, rfl⟩
  rw [hr] at cS hr1 hlast
  have HG := Lib.hid hG0
  have HR := Lib.hid hr
  have HTL := Lib.hid htl
  have HLA := Lib.hid hlast
  have HR1 := Lib.hid hr1
  clear hH hts htl hr0 hr1 hG0 hG hr hlast hp hs hle
  go_enter Tryd.func25, Tryd.ntmps25
  go_wp2_with first
    | (go_at_call 15; (with_reducible refine cH.mono ?_); rintro e w0 ⟨rfl, rfl⟩)
    | (go_at_call 13; (with_reducible refine cS.mono ?_); rintro e w1 ⟨A1, c1, rfl, hR, hO1⟩)
  go_loopw [3, 4, 6] (fun L o i wr => ∃ (k : Nat) (AF : Option Addr) (mF cF : Nat) (fs : Fs) (st : Option (List UInt8 × List UInt8)), k ≤ r ∧ i = .int .i64 (k : Int) ∧ L = .slice AF mF cF ∧ o = .bool st.isSome ∧ mF ≤ k ∧ Fd wr AF mF cF (fs ++ st.toList) ∧ (∀ x ∈ blks AF, w1.heap.size ≤ x) ∧ Only [] w1 wr ∧ Hid (fs ++ fl st (ts.drop k) = G) ∧ Hid (∀ p, st = some p → p.2.length ≤ 8192 * (k + 1))) (fun _ _ i _ => r - (intOf i).toNat)
  case atStart => exact ⟨0, none, 0, 0, [], none, Nat.zero_le _, rfl, rfl, rfl, Nat.le_refl _, Fd.nil _, (fun _ hx => nomatch hx), Only.refl _ _, HG.out.symm, fun p hp => by cases hp⟩
  case round =>
    obtain ⟨k, AF, mF, cF, fs, st, hk, rfl, rfl, rfl, hmk, hF, hbF, hO, HK, HV⟩ := hrel
    have hr1 := HR1.out
    by_cases hlt : k < r
    · have hlt' : (k : Int) < (r : Int) := by omega
      have hkt : k < ts.length := by rw [HR.out]; exact hlt
      have hRr := hR.keep rBt_steady hO
      obtain ⟨g1, Ai, ci, rfl, hce, hBi, hAi⟩ := hRr.at_ hlt hkt
      have hBi' : Bt wr Ai ts[k].length ci ts[k] := hBi
      have hTl := HTL.out _ (List.getElem_mem hkt)
      have hla := HLA.out k
      rw [List.getElem?_eq_getElem hkt] at hla
      have hdr := List.drop_eq_getElem_cons hkt
      obtain ⟨T, hT⟩ : ∃ T, ts[k] = T := ⟨_, rfl⟩
      rw [hT] at hce hBi' hTl hla hdr
      rw [hdr] at HK
      obtain ⟨t, ht⟩ : ∃ t, T.length = t := ⟨_, rfl⟩
      rw [ht] at hce hBi' hTl
      clear hdr hT hRr hBi
      rcases Nat.eq_zero_or_pos t with ht0 | ht0
      · have hTn : T = [] := List.eq_nil_of_length_eq_zero (ht.trans ht0)
        have hkr := hla (by rw [hTn])
        have HE : Hid (fs ++ st.toList = G) := by
          show _ = _
          rw [← HK.out, hTn, List.drop_of_length_le (by have := HR.out; omega), fl_text rfl]
          show fs ++ st.toList = fs ++ (st.toList ++ fl (fieldOf []) [])
          rw [show fieldOf [] = none from rfl, fl_nil]
          simp
        subst ht0
        have hl0 := hF.len
        rw [HE.out] at hl0 hF
        clear hla hTn hkr ht
        go_wp2
        go_ret
        exact ⟨AF, cF, by rw [hl0]; rfl, by rw [hl0]; exact hF, hO1.then hO⟩
      · have ht0' : (0 : Int) < (t : Int) := by omega
        obtain ⟨x, T', hxT⟩ : ∃ x T', T = x :: T' := by
          cases T with
          | nil => simp at ht; omega
          | cons x T' => exact ⟨x, T', rfl⟩
        have hbx : begB T = isB x := by rw [hxT]; rfl
        obtain ⟨s, hsT⟩ : ∃ s, St T = s := ⟨_, rfl⟩
        have hss : s.size = t := by rw [← hsT, St_size, ht]
        have hs0 : 0 < s.size := by omega
        have hs0' : (0 : Int) < (s.size : Int) := by omega
        have hsx : s[0] = x := by
          have : s.data.toList = x :: T' := by rw [← hsT, hxT]
          have h2 := text_at s hs0 (by simpa using hs0)
          rw [h2]
          simp [this]
        have hcv := run_str_sl (P := Tryd.prog) 22 9 5 Ai t ci T Tryd.underlying22 Tryd.underlying5 Tryd.underlying9 hBi'.sl
        rw [hsT] at hcv
        have cB := refBlank_any (s[0]'hs0)
        rw [hsx, ← hbx] at cB
        have hcb : ((s[0]'hs0).toNat : Int) = (x.toNat : Int) := by rw [hsx]
        have hsl : s.data.toList = T := by rw [← hsT]
        clear hbx hsx hla
        cases hB : begB T with
        | true =>
          rw [hB] at cB
          cases st with
          | none =>
            have HE : Hid (fs ++ fl none (ts.drop (k + 1)) = G) := by
              show _ = _
              rw [← HK.out, fl_blank hB]
              rfl
            clear hsT hss hxT ht hsl hB
            go_wp2_with (go_at_call 46; (with_reducible refine (cB _).mono ?_); rintro e w2 ⟨rfl, rfl⟩)
            go_roundw
            case rel => exact ⟨k + 1, AF, mF, cF, fs, none, by omega, by go_num, rfl, rfl, by omega, hF, hbF, hO, HE, fun p hp => by cases hp⟩
            case measure => simp [intOf]; omega
          | some p =>
            obtain ⟨na, va⟩ := p
            replace hF : Fd wr AF mF cF (fs ++ [(na, va)]) := hF
            have hfl := hF.len
            obtain ⟨m, hm⟩ : ∃ m, mF = m + 1 := ⟨fs.length, by rw [← hfl]; simp⟩
            subst hm
            have hfm : fs.length = m := by simpa using hfl
            have hlt9 : m < (fs ++ [(na, va)]).length := by rw [List.length_append, hfm]; exact Nat.lt_succ_self m
            obtain ⟨g, rfl, e1, e2⟩ := hF.at_ (k := m) (by omega) hlt9
            have hgm : (fs ++ [(na, va)])[m] = (na, va) := by simp [← hfm]
            rw [hgm] at e2
            replace e2 : wr.drew.cell? ⟨g, m * 2 + 1, none⟩ = some (.string (St va)) := e2
            have hva := HV.out _ rfl
            have hva2 : va.length ≤ 33562624 := by
              have : 8192 * (k + 1) ≤ 8192 * 4097 := Nat.mul_le_mul_left _ (by omega)
              simp only at hva
              omega
            have HFF := Lib.hid hF
            have cTr0 : ∀ w2, Calls Tryd.prog 31 #[.string s] w2 fun e w' => e = .returned (.string (St (trimB T))) ∧ w2 = w' := fun w2 => by
              have := trim_text s (by omega) w2
              rwa [hsl] at this
            have cTr := Lib.hid cTr0
            have htr := trimB_len T
            have add1 : Hid (∀ w2, (Op.stringOp .add (St va) ⟨#[32]⟩).run Tryd.prog w2 = .ok (.string (St (va ++ [32]))) w2) := fun w2 => by
              have := run_string_add_sum (P := Tryd.prog) (w := w2) (St va) (St [32]) (by rw [St_size, St_size]; simp; omega)
              rw [add_St] at this
              exact this
            have add2 : Hid (∀ w2, (Op.stringOp .add (St (va ++ [32])) (St (trimB T))).run Tryd.prog w2 = .ok (.string (St (va ++ 32 :: trimB T))) w2) := fun w2 => by
              have := run_string_add_sum (P := Tryd.prog) (w := w2) (St (va ++ [32])) (St (trimB T)) (by rw [St_size, St_size]; simp; omega)
              rw [add_St, List.append_assoc] at this
              exact this
            have HE : Hid (fs ++ fl (some (na, va ++ 32 :: trimB T)) (ts.drop (k + 1)) = G) := by
              show _ = _
              rw [← HK.out, fl_blank hB]
              rfl
            have HV2 : Hid (∀ p, some (na, va ++ 32 :: trimB T) = some p → p.2.length ≤ 8192 * (k + 1 + 1)) := fun p hp => by
              injection hp with hp
              rw [← hp]
              simp only [List.length_append, List.length_cons]
              simp only at hva
              omega
            have hmm : (m : Int) < ((m + 1 : Nat) : Int) := by omega
            clear hsT hss hxT hB ht hF e1 cTr0 hva hgm htr hfl hfm hlt9 hsl
            go_wp2_with (go_at_call 46; (with_reducible refine (cB _).mono ?_); rintro e w2 ⟨rfl, rfl⟩)
            apply region_writes (rs := [g]) (Ws := [17]) (by kernel_rfl) (by kernel_rfl)
            apply rel_val (hrf := Tk_refl)
            case hw => rfl
            case hy => intro wS hN hF; skip; first | (go_simp; done) | (go_simp; with_reducible rfl)
            case' hk => skip
            try simp only [Act.put, List.setIfInBounds_toArray, List.set_cons_zero, List.set_cons_succ]
            apply rel_val (hrf := Tk_refl)
            case hw => rfl
            case hy => intro wS hN hF; skip; first | (go_simp; done) | (go_simp; with_reducible rfl)
            case' hk => skip
            try simp only [Act.put, List.setIfInBounds_toArray, List.set_cons_zero, List.set_cons_succ]
            apply rel_val (hrf := Tk_refl)
            case hw => rfl
            case hy => intro wS hN hF; skip; first | (go_simp; done) | (go_simp; with_reducible rfl)
            case' hk => skip
            try simp only [Act.put, List.setIfInBounds_toArray, List.set_cons_zero, List.set_cons_succ]
            apply rel_val (v := .int .i64 (m : Int)) (hrf := Tk_refl)
            case hw => rfl
            case hy =>
              intro wS hN hF
              go_simp; exact IntWalk.i64_in _ (by omega)
            case' hk => skip
            try simp only [Act.put, List.setIfInBounds_toArray, List.set_cons_zero, List.set_cons_succ]
            apply rel_val (hrf := Tk_refl)
            case hw => rfl
            case hy => intro wS hN hF; skip; first | (go_simp; done) | (go_simp; with_reducible rfl)
            case' hk => skip
            try simp only [Act.put, List.setIfInBounds_toArray, List.set_cons_zero, List.set_cons_succ]
            apply rel_val (hrf := Tk_refl)
            case hw => rfl
            case hy => intro wS hN hF; skip; first | (go_simp; done) | (go_simp; with_reducible rfl)
            case' hk => skip
            try simp only [Act.put, List.setIfInBounds_toArray, List.set_cons_zero, List.set_cons_succ]
            apply rel_val (hrf := Tk_refl)
            case hw => rfl
            case hy => intro wS hN hF; skip; first | (go_simp; done) | (go_simp; with_reducible rfl)
            case' hk => skip
            try simp only [Act.put, List.setIfInBounds_toArray, List.set_cons_zero, List.set_cons_succ]
            apply rel_val (v := .int .i64 (m : Int)) (hrf := Tk_refl)
            case hw => rfl
            case hy =>
              intro wS hN hF
              go_simp; exact IntWalk.i64_in _ (by omega)
            case' hk => skip
            try simp only [Act.put, List.setIfInBounds_toArray, List.set_cons_zero, List.set_cons_succ]
            apply rel_val (v := .pointer (some ⟨g, m * 2, none⟩)) (hrf := Tk_refl)
            case hw => rfl
            case hy =>
              intro wS hN hF
              go_simp
              try (intro h; omega)
            case' hk => skip
            try simp only [Act.put, List.setIfInBounds_toArray, List.set_cons_zero, List.set_cons_succ]
            apply rel_val (v := .pointer (some ⟨g, m * 2 + 1, none⟩)) (hrf := Tk_refl)
            case hw => rfl
            case hy =>
              intro wS hN hF
              go_simp
            case' hk => skip
            try simp only [Act.put, List.setIfInBounds_toArray, List.set_cons_zero, List.set_cons_succ]
            apply rel_val (v := .string (St va)) (hrf := Tk_refl)
            case hw => rfl
            case hy =>
              intro wS hN hF
              have hc := (hN.pre (by kernel_rfl)).cellSome (p := ⟨g, m * 2 + 1, none⟩) e2 (fun hm => nomatch hm)
              go_simp
            case' hk => skip
            try simp only [Act.put, List.setIfInBounds_toArray, List.set_cons_zero, List.set_cons_succ]
            apply rel_val (v := .string (St (va ++ [32]))) (hrf := Tk_refl)
            case hw => rfl
            case hy =>
              intro wS hN hF
              have hx := add1.out wS
              go_simp
            case' hk => skip
            try simp only [Act.put, List.setIfInBounds_toArray, List.set_cons_zero, List.set_cons_succ]
            apply rel_val (hrf := Tk_refl)
            case hw => rfl
            case hy => intro wS hN hF; skip; first | (go_simp; done) | (go_simp; with_reducible rfl)
            case' hk => skip
            try simp only [Act.put, List.setIfInBounds_toArray, List.set_cons_zero, List.set_cons_succ]
            apply rel_call (v := .string (St (trimB T))) (f := 31) (args := #[.string s])
            case hw => rfl
            case hy => intro wS hN hF; go_simp
            case hc => intro wS hN hF; exact call_same (cTr.out wS)
            case' hk => skip
            try simp only [Act.put, List.setIfInBounds_toArray, List.set_cons_zero, List.set_cons_succ]
            apply rel_val (v := .string (St (va ++ 32 :: trimB T))) (hrf := Tk_refl)
            case hw => rfl
            case hy =>
              intro wS hN hF
              have hx := add2.out wS
              go_simp
            case' hk => skip
            try simp only [Act.put, List.setIfInBounds_toArray, List.set_cons_zero, List.set_cons_succ]
            apply rel_val (v := .pointer (some ⟨g, m * 2, none⟩)) (hrf := Tk_refl)
            case hw => rfl
            case hy =>
              intro wS hN hF
              go_simp
              try (intro h; omega)
            case' hk => skip
            try simp only [Act.put, List.setIfInBounds_toArray, List.set_cons_zero, List.set_cons_succ]
            apply rel_val (v := .pointer (some ⟨g, m * 2 + 1, none⟩)) (hrf := Tk_refl)
            case hw => rfl
            case hy =>
              intro wS hN hF
              go_simp
            case' hk => skip
            try simp only [Act.put, List.setIfInBounds_toArray, List.set_cons_zero, List.set_cons_succ]
            apply rel_fact (φ := fun _ W' => Fd W' (some ⟨g, 0, none⟩) (m + 1) cF (fs ++ [(na, va ++ 32 :: trimB T)])) (x := 9999) (hs := lasts0 (by kernel_rfl) (fun x W1 W2 h ho => h.keep ho))
            case hw => rfl
            case hy =>
              intro wS hN hF
              have hO := hN.pre (by kernel_rfl)
              have hF6 := HFF.out.keep ((Only.refl [] _).drew.then hO)
              obtain ⟨hset, hf6⟩ := Fd.set (b' := va ++ 32 :: trimB T) hF6
              have hc6 := hO.cellSome (p := ⟨g, m * 2 + 1, none⟩) e2 (fun hm => nomatch hm)
              refine gives_skip (w' := wS.setCell ⟨g, m * 2 + 1, none⟩ (.string (St (va ++ 32 :: trimB T)))) ?_ hset (Tk_writes rfl ((Only.refl [g] wS).setCell (.inl (by simp)) _) (fun x hx => .inl hx))
              clear hset hF6
              go_simp
            case' hk => intro v17
            try simp only [Act.put]
            refine rel_end ?_
            intro wS hOS hFc
            have hF5 := facts_at hFc 0 rfl
            clear hFc
            go_wp2_with fail
            go_roundw
            case rel => exact ⟨k + 1, some ⟨g, 0, none⟩, m + 1, cF, fs, some (na, va ++ 32 :: trimB T), by omega, by go_num, rfl, rfl, by omega, hF5, hbF, (hO.drew).trans hOS.only (fun x hx => .inr (hbF x (by simpa using hx))), HE, HV2⟩
            case measure => simp [intOf]; omega
        | false =>
          rw [hB] at cB
          have cC := refColon_any s (by omega)
          obtain ⟨f, hf⟩ : ∃ f, fi 58 T = f := ⟨_, rfl⟩
          rw [hsl, hss, hf] at cC
          have hfo : fieldOf T = if f < t then some (trimB (T.take f), trimB (T.drop (f + 1))) else none := by
            unfold fieldOf
            rw [show cln T = f from hf, ht]
          obtain ⟨fs2, hfs2⟩ : ∃ fs2, fs ++ st.toList = fs2 := ⟨_, rfl⟩
          rw [hfs2] at hF
          have HK2 : Hid (fs2 ++ fl (fieldOf T) (ts.drop (k + 1)) = G) := by
            show _ = _
            rw [← HK.out, fl_text hB, ← hfs2, List.append_assoc]
          by_cases hft : f < t
          · rw [if_pos hft] at cC hfo
            have HE : Hid (fs2 ++ fl (some (trimB (T.take f), trimB (T.drop (f + 1)))) (ts.drop (k + 1)) = G) := by
              show _ = _
              rw [← HK2.out, hfo]
            have hf0 : (0 : Int) ≤ (f : Int) := by omega
            have htk : (T.take f).length ≤ 4096 := by rw [List.length_take]; omega
            have htd : (T.drop (f + 1)).length ≤ 4096 := by rw [List.length_drop]; omega
            have htd2 := trimB_len (T.drop (f + 1))
            have cT1 : Hid (∀ w2, Calls Tryd.prog 31 #[.string (St (T.take f))] w2 fun e w' => e = .returned (.string (St (trimB (T.take f)))) ∧ w2 = w') := fun w2 => trim_text (St (T.take f)) (by rw [St_size]; exact htk) w2
            have cT2 : Hid (∀ w2, Calls Tryd.prog 31 #[.string (St (T.drop (f + 1)))] w2 fun e w' => e = .returned (.string (St (trimB (T.drop (f + 1))))) ∧ w2 = w') := fun w2 => trim_text (St (T.drop (f + 1))) (by rw [St_size]; exact htd) w2
            have cut1 : Hid (∀ w2, (Instr.slice 9 (.string s) none (some (.int .i64 (f : Int))) none).run Tryd.prog w2 = .ok (.string (St (T.take f))) w2) := fun w2 => by
              rw [run_slice_string_h (P := Tryd.prog) (w := w2) (t := 9) (s := s) (ht := Tryd.underlying9) .i64 (f : Int) (by omega) (by omega), ← hsT, ext_St]
              simp
            have cut2 : Hid (∀ w2, (Instr.slice 9 (.string s) (some (.int .i64 ((f : Int) + 1))) none none).run Tryd.prog w2 = .ok (.string (St (T.drop (f + 1)))) w2) := fun w2 => by
              rw [run_slice_string_l (P := Tryd.prog) (w := w2) (t := 9) (s := s) (ht := Tryd.underlying9) .i64 ((f : Int) + 1) (by omega) (by omega), ← hsT, ext_St]
              have : ((f : Int) + 1).toNat = f + 1 := by omega
              rw [this, List.take_of_length_le (by rw [List.length_drop, St_size]; exact Nat.le_refl _)]
            have HV2 : Hid (∀ p, some (trimB (T.take f), trimB (T.drop (f + 1))) = some p → p.2.length ≤ 8192 * (k + 1 + 1)) := fun p hp => by
              injection hp with hp
              rw [← hp]
              simp only
              omega
            have HFF := Lib.hid hF
            have HBN : Hid (mF ≤ 4096) := by show _ ≤ _; omega
            have hft2 : (f : Int) ≤ 4096 := by omega
            clear hsT hss hxT hB ht hF hsl hf hfo hfs2 hft htk htd htd2 HV HK
            go_wp2_with first
              | (go_at_call 46; (with_reducible refine (cB _).mono ?_); rintro e w2 ⟨rfl, rfl⟩)
              | (go_at_call 47; (with_reducible refine (cC _).mono ?_); rintro e w2 ⟨rfl, rfl⟩)
            apply region_writes (rs := blks AF) (Ws := [12]) (by kernel_rfl) (by kernel_rfl)
            apply rel_val (hrf := Tk_refl)
            case hw => rfl
            case hy => intro wS hN hF; skip; first | (go_simp; done) | (go_simp; with_reducible rfl)
            case' hk => skip
            try simp only [Act.put, List.setIfInBounds_toArray, List.set_cons_zero, List.set_cons_succ]
            apply rel_val (hrf := Tk_refl)
            case hw => rfl
            case hy => intro wS hN hF; skip; first | (go_simp; done) | (go_simp; with_reducible rfl)
            case' hk => skip
            try simp only [Act.put, List.setIfInBounds_toArray, List.set_cons_zero, List.set_cons_succ]
            apply rel_val (hrf := Tk_refl)
            case hw => rfl
            case hy => intro wS hN hF; skip; first | (go_simp; done) | (go_simp; with_reducible rfl)
            case' hk => skip
            try simp only [Act.put, List.setIfInBounds_toArray, List.set_cons_zero, List.set_cons_succ]
            apply rel_val (v := .string (St (T.take f))) (hrf := Tk_refl)
            case hw => rfl
            case hy =>
              intro wS hN hF
              have hx := cut1.out wS
              go_simp
            case' hk => skip
            try simp only [Act.put, List.setIfInBounds_toArray, List.set_cons_zero, List.set_cons_succ]
            apply rel_call (v := .string (St (trimB (T.take f)))) (f := 31) (args := #[.string (St (T.take f))])
            case hw => rfl
            case hy => intro wS hN hF; go_simp
            case hc => intro wS hN hF; exact call_same (cT1.out wS)
            case' hk => skip
            try simp only [Act.put, List.setIfInBounds_toArray, List.set_cons_zero, List.set_cons_succ]
            apply rel_val (hrf := Tk_refl)
            case hw => rfl
            case hy => intro wS hN hF; skip; first | (go_simp; done) | (go_simp; with_reducible rfl)
            case' hk => skip
            try simp only [Act.put, List.setIfInBounds_toArray, List.set_cons_zero, List.set_cons_succ]
            apply rel_val (hrf := Tk_refl)
            case hw => rfl
            case hy => intro wS hN hF; skip; first | (go_simp; done) | (go_simp; with_reducible rfl)
            case' hk => skip
            try simp only [Act.put, List.setIfInBounds_toArray, List.set_cons_zero, List.set_cons_succ]
            apply rel_val (v := .int .i64 ((f : Int) + 1)) (hrf := Tk_refl)
            case hw => rfl
            case hy =>
              intro wS hN hF
              go_simp; exact IntWalk.i64_in _ (by omega)
            case' hk => skip
            try simp only [Act.put, List.setIfInBounds_toArray, List.set_cons_zero, List.set_cons_succ]
            apply rel_val (v := .string (St (T.drop (f + 1)))) (hrf := Tk_refl)
            case hw => rfl
            case hy =>
              intro wS hN hF
              have hx := cut2.out wS
              go_simp
            case' hk => skip
            try simp only [Act.put, List.setIfInBounds_toArray, List.set_cons_zero, List.set_cons_succ]
            apply rel_call (v := .string (St (trimB (T.drop (f + 1))))) (f := 31) (args := #[.string (St (T.drop (f + 1)))])
            case hw => rfl
            case hy => intro wS hN hF; go_simp
            case hc => intro wS hN hF; exact call_same (cT2.out wS)
            case' hk => skip
            try simp only [Act.put, List.setIfInBounds_toArray, List.set_cons_zero, List.set_cons_succ]
            apply rel_val (hrf := Tk_refl)
            case hw => rfl
            case hy => intro wS hN hF; skip; first | (go_simp; done) | (go_simp; with_reducible rfl)
            case' hk => skip
            try simp only [Act.put, List.setIfInBounds_toArray, List.set_cons_zero, List.set_cons_succ]
            apply rel_fact (φ := fun x W' => ∃ g, x = .slice (some ⟨g, 0, none⟩) 1 1 ∧ Bk W' g 33 #[.string (St (trimB (T.take f))), .string (St (trimB (T.drop (f + 1))))]) (x := 12) (hs := lasts0 (by kernel_rfl) (fun x W1 W2 h ho => by obtain ⟨g, h1, h2⟩ := h; exact ⟨g, h1, h2.only ho (fun hm => nomatch hm)⟩))
            case hw => rfl
            case hy =>
              intro wS hN hF
              refine gives_value (u := .slice (some ⟨wS.heap.size, 0, none⟩) 1 1) (w' := wS.alloc (.cells #[.string (St (trimB (T.take f))), .string (St (trimB (T.drop (f + 1))))] 33)) ?_ ⟨wS.heap.size, rfl, Bk.new _ _ _⟩ (Tk_only ((Only.refl [] _).alloc _))
              go_simp
            case' hk => intro v11
            try simp only [Act.put, List.setIfInBounds_toArray, List.set_cons_zero, List.set_cons_succ]
            apply rel_fact (φ := fun x W' => ∃ A5 c5, x = .slice A5 (mF + 1) c5 ∧ Fd W' A5 (mF + 1) c5 (fs2 ++ [(trimB (T.take f), trimB (T.drop (f + 1)))]) ∧ ∀ y ∈ blks A5, y ∈ blks AF ∨ wr.heap.size ≤ y) (x := 9999) (hs := lasts0 (by kernel_rfl) (fun x W1 W2 h ho => by obtain ⟨A5, c5, h1, h2, h3⟩ := h; exact ⟨A5, c5, h1, h2.keep ho, h3⟩))
            case hw => rfl
            case hy =>
              intro wS hN hF
              have hO := hN.pre (by kernel_rfl)
              have hOW : Only [] wr wS := (Only.refl [] _).drew.then hO
              obtain ⟨g, rfl, hG⟩ := hF.at_ 0 rfl (by kernel_rfl) (by kernel_rfl)
              exact gives_append_fd (.tmp 57) (.tmp 68) rfl AF mF cF fs2 rfl (HFF.out.keep hOW) (trimB (T.take f)) (trimB (T.drop (f + 1))) g 33 rfl hG (by have := HBN.out; omega) fun A5 c5 w5 hF5 hO5 hB5 => ⟨⟨A5, c5, rfl, hF5, fun y hy => (hB5 y hy).imp id (fun h => by have := hOW.size; omega)⟩, Tk_writes rfl hO5 (fun x hx => .inl hx)⟩
            case' hk => intro v12
            try simp only [Act.put, List.setIfInBounds_toArray, List.set_cons_zero, List.set_cons_succ]
            apply rel_fact (φ := fun x W' => ∃ A5 c5, x = .slice A5 (mF + 1) c5 ∧ Fd W' A5 (mF + 1) c5 (fs2 ++ [(trimB (T.take f), trimB (T.drop (f + 1)))]) ∧ ∀ y ∈ blks A5, y ∈ blks AF ∨ wr.heap.size ≤ y) (x := 9999) (hs := lasts0 (by kernel_rfl) (fun x W1 W2 h ho => by obtain ⟨A5, c5, h1, h2, h3⟩ := h; exact ⟨A5, c5, h1, h2.keep ho, h3⟩))
            case hw => rfl
            case hy =>
              intro wS hN hF
              have h := hF.at_ 0 rfl (by kernel_rfl) (by kernel_rfl)
              refine gives_value (u := v12) (w' := wS) ?_ h (Tk_refl _)
              go_simp
            case' hk => intro v13
            try simp only [Act.put, List.setIfInBounds_toArray, List.set_cons_zero, List.set_cons_succ]
            refine rel_end ?_
            intro wS hOS hFc
            obtain ⟨A5, c5, rfl, hF5, hbF5⟩ := facts_at hFc 0 rfl
            clear hFc
            go_wp2_with fail
            go_roundw
            case rel => exact ⟨k + 1, A5, mF + 1, c5, fs2, some (trimB (T.take f), trimB (T.drop (f + 1))), by omega, by go_num, rfl, rfl, by omega, hF5, fun x hx => by
              rcases hbF5 x hx with h | h
              · exact hbF x h
              · have := hO.size; omega, hO.drew.trans hOS.only (fun x hx => .inr (hbF x hx)), HE, HV2⟩
            case measure => simp [intOf]; omega
          · rw [if_neg hft] at cC hfo
            have HE : Hid (fs2 ++ fl none (ts.drop (k + 1)) = G) := by
              show _ = _
              rw [← HK2.out, hfo]
            clear hsT hss hxT hB ht hsl hf hfo hfs2 hft HV HK
            go_wp2_with first
              | (go_at_call 46; (with_reducible refine (cB _).mono ?_); rintro e w2 ⟨rfl, rfl⟩)
              | (go_at_call 47; (with_reducible refine (cC _).mono ?_); rintro e w2 ⟨rfl, rfl⟩)
            go_roundw
            case rel => exact ⟨k + 1, AF, mF, cF, fs2, none, by omega, by go_num, rfl, rfl, by omega, by simpa using hF, hbF, hO, HE, fun p hp => by cases hp⟩
            case measure => simp [intOf]; omega
    · obtain rfl : k = r := by omega
      have HE : Hid (fs ++ st.toList = G) := by
        show _ = _
        rw [← HK.out, List.drop_of_length_le (by rw [HR.out]; exact Nat.le_refl _), fl_nil]
      have hl0 := hF.len
      rw [HE.out] at hl0 hF
      go_wp2
      go_ret
      exact ⟨AF, cF, by rw [hl0]; rfl, by rw [hl0]; exact hF, hO1.then hO⟩
end
end Go.Proofs.YtmameghebikjbaaDoor
