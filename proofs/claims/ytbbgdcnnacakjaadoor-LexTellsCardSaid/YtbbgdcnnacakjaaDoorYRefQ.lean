/-
  The document's quoted.
-/
import Derived.Test.YtbbgdcnnacakjaaDoorYRefC
namespace Go.Proofs.YtbbgdcnnacakjaaDoor
open Go.RowKit Go.Instr

def textD : List UInt8 → Option (List UInt8 × List UInt8)
  | [] => none
  | c :: r =>
    if foreignB c = true then none
    else if c = 34 then some ([], r)
    else if c = 92 then match r with
      | [] => none
      | d :: r' => if escB d = true then (textD r').map fun p => (d :: p.1, p.2) else none
    else (textD r).map fun p => (c :: p.1, p.2)
theorem textD_bad {c : UInt8} {r : List UInt8} (h : foreignB c = true) : textD (c :: r) = none := by unfold textD; rw [if_pos h]
theorem textD_end (q : List UInt8) : textD (34 :: q) = some ([], q) := by unfold textD; rw [if_neg (by decide), if_pos rfl]
theorem textD_esc0 : textD [92] = none := by unfold textD; rw [if_neg (by decide), if_neg (by decide), if_pos rfl]
theorem textD_esc {d : UInt8} {r : List UInt8} : textD (92 :: d :: r) = if escB d = true then (textD r).map fun p => (d :: p.1, p.2) else none := by
  conv => lhs; unfold textD
  rw [if_neg (by decide), if_neg (by decide), if_pos rfl]
theorem textD_one {c : UInt8} {r : List UInt8} (h0 : ¬ foreignB c = true) (h1 : c ≠ 34) (h2 : c ≠ 92) : textD (c :: r) = (textD r).map fun p => (c :: p.1, p.2) := by
  conv => lhs; unfold textD
  rw [if_neg h0, if_neg h1, if_neg h2]
def tkeep (p : List UInt8 × List UInt8) : Option (List UInt8 × List UInt8) := if p.1.any foreignB = true then none else some p
theorem tkeep_more {d : UInt8} (h : ¬ foreignB d = true) (o : Option (List UInt8 × List UInt8)) : (o.bind tkeep).map (fun p => (d :: p.1, p.2)) = (o.map fun p => (d :: p.1, p.2)).bind tkeep := by
  cases o with
  | none => rfl
  | some p =>
    have hd : foreignB d = false := by simpa using h
    simp only [Option.bind_some, Option.map_some, tkeep, List.any_cons, hd, Bool.false_or]
    by_cases h2 : p.1.any foreignB = true
    · rw [if_pos h2, if_pos h2]; rfl
    · rw [if_neg h2, if_neg h2]; rfl
theorem tkeep_bad {d : UInt8} (h : foreignB d = true) (o : Option (List UInt8 × List UInt8)) : (o.map fun p => (d :: p.1, p.2)).bind tkeep = none := by
  cases o with
  | none => rfl
  | some p => simp [tkeep, h]
theorem esc_fine {d : UInt8} (h : escB d = true) : ¬ foreignB d = true := by
  have : d = 34 ∨ d = 92 := by unfold escB at h; simpa using h
  rcases this with rfl | rfl <;> decide
theorem textD_eq : ∀ (n : Nat) (l : List UInt8), l.length ≤ n → textD l = (textL l).bind tkeep
  | _, [], _ => by unfold textD textL; rfl
  | 0, c :: r, h => by simp at h
  | n + 1, c :: r, h => by
    simp only [List.length_cons] at h
    by_cases hf : foreignB c = true
    · have h34 : c ≠ 34 := by intro e; subst e; revert hf; decide
      have h92 : c ≠ 92 := by intro e; subst e; revert hf; decide
      rw [textD_bad hf, text_one h34 h92, tkeep_bad hf]
    · by_cases h34 : c = 34
      · subst h34
        rw [textD_end, text_end]
        rfl
      · by_cases h92 : c = 92
        · subst h92
          cases r with
          | nil => rw [textD_esc0, text_esc0]; rfl
          | cons d r' =>
            rw [textD_esc, text_esc]
            by_cases he : escB d = true
            · rw [if_pos he, if_pos he, textD_eq n r' (by simp at h; omega), tkeep_more (esc_fine he)]
            · rw [if_neg he, if_neg he]; rfl
        · rw [textD_one hf h34 h92, text_one h34 h92, textD_eq n r (by omega), tkeep_more hf]
def quI (n : Nat) (o : Option (List UInt8 × List UInt8)) : Value := match o with
  | none => .tuple #[.string ⟨#[]⟩, .int .i64 (-1)]
  | some (t, q) => .tuple #[.string (St t), .int .i64 ((n : Int) - (q.length : Int))]
section
variable {w : World} {A : Option Addr} {n c : Nat} {l : List UInt8}
set_option maxRecDepth 100000 in
set_option maxHeartbeats 4000000 in
theorem refQuoted_any (hs : Bt w A n c l) (hn : n ≤ 140737488355000) {k0 : Nat} (hk0 : k0 ≤ n) : Calls Tryd.prog 38 #[.slice A n c, .int .i64 (k0 : Int)] w fun e w' => e = .returned (quI n (textD (l.drop k0))) ∧ Only [] w w' := by
  have hl := hs.len
  have HS := Lib.hid hs
  have HL := Lib.hid hl
  obtain ⟨G, hG⟩ : ∃ G, textD (l.drop k0) = G := ⟨_, rfl⟩
  have HG := Lib.hid hG
  rw [hG]
  clear hs hl hG
  go_enter Tryd.func38, Tryd.ntmps38
  go_wp2_with fail
  go_loopw [1, 6] (fun iv bv wr => ∃ (k : Nat) (B : Option Addr) (m d : Nat) (o : List UInt8), iv = .int .i64 (k : Int) ∧ bv = .slice B m d ∧ k ≤ n ∧ m ≤ k ∧ Own wr 5 B m d (bvs o) ∧ (∀ x ∈ blks B, w.heap.size ≤ x) ∧ Only [] w wr ∧ Hid (G = (textD (l.drop k)).map fun p => (o ++ p.1, p.2))) (fun iv _ _ => n - (intOf iv).toNat)
  case atStart => exact ⟨k0, none, 0, 0, [], rfl, rfl, hk0, Nat.zero_le _, Own.nil _ _, (fun _ hx => nomatch hx), Only.refl _ _, by show _ = _; rw [HG.out]; cases G <;> simp⟩
  case round =>
    obtain ⟨k, B, m, d, o, rfl, rfl, hk, hmk, hI, hBg, hO, HE⟩ := hrel
    have HO := Lib.hid hO
    have HI := Lib.hid hI
    have HBG := Lib.hid hBg
    have HSW := Lib.hid (HS.out.keep hO)
    have HSZ : Hid (w.heap.size ≤ wr.heap.size) := hO.size
    by_cases hkn : k = n
    · subst hkn
      rw [List.drop_of_length_le (by rw [HL.out]; exact Nat.le_refl _)] at HE
      have hkk : ¬ (k : Int) < (k : Int) := by omega
      have HR : Hid (G = none) := by show _ = _; rw [HE.out]; unfold textD; rfl
      clear HE hk hmk hI hBg hO
      go_wp2_with fail
      go_ret2
      exact ⟨by rw [HR.out]; rfl, HO.out⟩
    · have hlt : k < n := by omega
      have hlt' : (k : Int) < (n : Int) := by omega
      have hkl : k < l.length := by rw [HL.out]; exact hlt
      have hdl : (l.drop (k + 1)).length = n - (k + 1) := by rw [List.length_drop, HL.out]
      rw [List.drop_eq_getElem_cons hkl] at HE
      obtain ⟨ad, u, rfl, hu, ha⟩ := HSW.out.sl.at_ (k := k) hlt
      rw [bvs_get l k hkl] at hu
      injection hu with hu
      subst hu
      unfold bv at ha
      obtain ⟨v, hv⟩ : ∃ v, l[k] = v := ⟨_, rfl⟩
      rw [hv] at ha HE
      obtain ⟨q, hq⟩ : ∃ q, v.toNat = q := ⟨_, rfl⟩
      have hq8 : q < 256 := by rw [← hq]; exact byte_lt _
      rw [hq] at ha
      by_cases hf : foreignB v = true
      · have HR : Hid (G = none) := by show _ = _; rw [HE.out, textD_bad hf]; rfl
        have hqo : q < 32 ∨ 126 < q := by
          unfold foreignB at hf
          rw [hq] at hf
          simpa using hf
        rcases hqo with hqo | hqo
        · have hb1 : (q : Int) < 32 := by omega
          clear HE hk hmk hI hBg hO hf hv hq hdl
          go_wp2_with fail
          go_ret2
          exact ⟨by rw [HR.out]; rfl, HO.out⟩
        · have hb1 : ¬ (q : Int) < 32 := by omega
          have hb2 : (126 : Int) < (q : Int) := by omega
          clear HE hk hmk hI hBg hO hf hv hq hdl
          go_wp2_with fail
          go_ret2
          exact ⟨by rw [HR.out]; rfl, HO.out⟩
      · have hqo : 32 ≤ q ∧ q ≤ 126 := by
          unfold foreignB at hf
          rw [hq] at hf
          simp at hf
          omega
        have hb1 : ¬ (q : Int) < 32 := by omega
        have hb2 : ¬ (126 : Int) < (q : Int) := by omega
        obtain ⟨i0, hi, hz0, hz1, hz2⟩ := info_parts infoByte
        by_cases h34 : v = 34
        · subst h34
          obtain rfl : q = 34 := hq.symm
          have ha' : wr.cell? (ad.add k) = some (.int .u8 34) := ha
          have HN : Hid (quI n G = .tuple #[.string (St o), .int .i64 ((k : Int) + 1)]) := by
            show _ = _
            rw [HE.out, textD_end]
            simp only [Option.map_some, List.append_nil, quI, hdl]
            congr 3
            have : ((n - (k + 1) : Nat) : Int) = (n : Int) - ((k : Int) + 1) := by omega
            rw [this]
            simp
            omega
          have hcv := run_str_sl (P := Tryd.prog) (w := wr) 32 9 5 B m d o Tryd.underlying32 Tryd.underlying5 Tryd.underlying9 hI.sl
          have hcv2 := run_str_sl (P := Tryd.prog) (w := wr.drew) 32 9 5 B m d o Tryd.underlying32 Tryd.underlying5 Tryd.underlying9 hI.drew.sl
          obtain ⟨t, ht⟩ : ∃ t, St o = t := ⟨_, rfl⟩
          rw [ht] at hcv hcv2 HN
          clear HE hmk hI hBg hO hf hv hq hdl ha hb1 hb2 hqo hq8 ht
          go_wp2_with fail
          go_ret2
          exact ⟨by rw [HN.out]; rfl, HO.out⟩
        · have hb34 : ((q : Int) == 34) = false := by rw [beq_eq_false_iff_ne]; intro e; exact h34 (UInt8.toNat_inj.1 (by rw [hq]; show q = 34; omega))
          by_cases h92 : v = 92
          · subst h92
            obtain rfl : q = 92 := hq.symm
            have ha' : wr.cell? (ad.add k) = some (.int .u8 92) := ha
            obtain ⟨p, hp⟩ : ∃ p, k + 1 = p := ⟨_, rfl⟩
            have hp1 : (k : Int) + 1 = (p : Int) := by omega
            by_cases hpn : p = n
            · have hpp : ¬ (p : Int) < (n : Int) := by omega
              have hpp2 : (n : Int) ≤ (p : Int) := by omega
              have HR : Hid (G = none) := by
                show _ = _
                rw [HE.out, List.drop_of_length_le (by rw [HL.out]; omega), textD_esc0]
                rfl
              clear HE hk hmk hI hBg hO hf hv hq hdl ha hb1 hb2 hqo hq8 hp hb34 hpn
              go_wp2_with fail
              go_ret2
              exact ⟨by rw [HR.out]; rfl, HO.out⟩
            · have hpl : p < n := by omega
              have hpl' : (p : Int) < (n : Int) := by omega
              have hpl2 : ¬ (n : Int) ≤ (p : Int) := by omega
              have hpL : p < l.length := by rw [HL.out]; exact hpl
              rw [hp, List.drop_eq_getElem_cons hpL] at HE
              obtain ⟨ad', u', e', hu', ha2⟩ := HSW.out.sl.at_ (k := p) hpl
              injection e' with e'
              subst e'
              rw [bvs_get l p hpL] at hu'
              injection hu' with hu'
              subst hu'
              unfold bv at ha2
              obtain ⟨x, hx⟩ : ∃ x, l[p] = x := ⟨_, rfl⟩
              rw [hx] at ha2 HE
              obtain ⟨z, hz⟩ : ∃ z, x.toNat = z := ⟨_, rfl⟩
              rw [hz] at ha2
              have HP := Lib.hid hp
              by_cases he : escB x = true
              · have hx2 : x = 34 ∨ x = 92 := by unfold escB at he; simpa using he
                have HX : Hid ((z : Int) = (x.toNat : Int)) := by show _ = _; rw [hz]
                have HN : Hid (G = (textD (l.drop (p + 1))).map fun p => ((o ++ [x]) ++ p.1, p.2)) := by show _ = _; rw [HE.out, textD_esc, if_pos he, text_more]
                have HM : Hid (n - (intOf (.int .i64 ((p : Int) + 1))).toNat < n - (intOf (.int .i64 (k : Int))).toNat) := by
                  show n - ((p : Int) + 1).toNat < n - (k : Int).toNat
                  omega
                have hmp : m + 1 ≤ p + 1 := by omega
                have hz3 : z = 34 ∨ z = 92 := by rcases hx2 with rfl | rfl; left; exact hz.symm; right; exact hz.symm
                rcases hz3 with h3 | h3
                · have hz4 : ((z : Int) != 34) = false := by rw [bne_eq_false_iff_eq]; omega
                  clear HE hI hBg hO hf hv hq hdl ha hb1 hb2 hqo hq8 hp hb34 hpn hx hz he hx2 h3
                  go_wp2_with (at_builtin; go_must (refine wpList_append_sl rfl (.tmp 53) (.tmp 58) 32 rfl 5 i0 (.int .u8 0) 1 Tryd.underlying32 hi hz0 hz1 hz2 rfl B m d (bvs o) rfl (HI.out.alloc _) _ 1 1 _ rfl (sl_one _ _ _ x HX.out) (bvs_one _) (by unfold maxLen; omega) (by omega) ?_); intro B2 d2 w2 HV2 HO2 HB2)
                  have hws := HSZ.out
                  exact ⟨⟨p + 1, B2, m + 1, d2, o ++ [x], by simp, rfl, by omega, by omega, by rw [bvs_append]; exact HV2, fun x hx => by
                    rcases HB2 x hx with h | h
                    · exact HBG.out x h
                    · simp at h; omega, (HO.out.alloc _).trans HO2 (fun x hx => .inr (HBG.out x hx)), HN.out⟩, HM.out⟩
                · have hz4 : ((z : Int) != 34) = true := by rw [bne_iff_ne]; omega
                  have hz5 : ((z : Int) != 92) = false := by rw [bne_eq_false_iff_eq]; omega
                  clear HE hI hBg hO hf hv hq hdl ha hb1 hb2 hqo hq8 hp hb34 hpn hx hz he hx2 h3
                  go_wp2_with (at_builtin; go_must (refine wpList_append_sl rfl (.tmp 53) (.tmp 58) 32 rfl 5 i0 (.int .u8 0) 1 Tryd.underlying32 hi hz0 hz1 hz2 rfl B m d (bvs o) rfl (HI.out.alloc _) _ 1 1 _ rfl (sl_one _ _ _ x HX.out) (bvs_one _) (by unfold maxLen; omega) (by omega) ?_); intro B2 d2 w2 HV2 HO2 HB2)
                  have hws := HSZ.out
                  exact ⟨⟨p + 1, B2, m + 1, d2, o ++ [x], by simp, rfl, by omega, by omega, by rw [bvs_append]; exact HV2, fun x hx => by
                    rcases HB2 x hx with h | h
                    · exact HBG.out x h
                    · simp at h; omega, (HO.out.alloc _).trans HO2 (fun x hx => .inr (HBG.out x hx)), HN.out⟩, HM.out⟩
              · have HR : Hid (G = none) := by show _ = _; rw [HE.out, textD_esc, if_neg he]; rfl
                have hz4 : ((z : Int) != 34) = true := by rw [bne_iff_ne]; intro e; exact he (by rw [show x = 34 from UInt8.toNat_inj.1 (by rw [hz]; show z = 34; omega)]; decide)
                have hz5 : ((z : Int) != 92) = true := by rw [bne_iff_ne]; intro e; exact he (by rw [show x = 92 from UInt8.toNat_inj.1 (by rw [hz]; show z = 92; omega)]; decide)
                clear HE hk hmk hI hBg hO hf hv hq hdl ha hb1 hb2 hqo hq8 hp hb34 hpn hx hz he
                go_wp2_with fail
                go_ret2
                exact ⟨by rw [HR.out]; rfl, HO.out⟩
          · have hb92 : ((q : Int) == 92) = false := by rw [beq_eq_false_iff_ne]; intro e; exact h92 (UInt8.toNat_inj.1 (by rw [hq]; show q = 92; omega))
            have HN : Hid (G = (textD (l.drop (k + 1))).map fun p => ((o ++ [v]) ++ p.1, p.2)) := by show _ = _; rw [HE.out, textD_one hf h34 h92, text_more]
            have HX : Hid ((q : Int) = (v.toNat : Int)) := by show _ = _; rw [hq]
            have HM : Hid (n - (intOf (.int .i64 ((k : Int) + 1))).toNat < n - (intOf (.int .i64 (k : Int))).toNat) := by
              show n - ((k : Int) + 1).toNat < n - (k : Int).toNat
              omega
            clear HE hI hBg hO hf hv hq hdl hqo hq8 h34 h92
            go_wp2_with (at_builtin; go_must (refine wpList_append_sl rfl (.tmp 53) (.tmp 58) 32 rfl 5 i0 (.int .u8 0) 1 Tryd.underlying32 hi hz0 hz1 hz2 rfl B m d (bvs o) rfl (HI.out.alloc _) _ 1 1 _ rfl (sl_one _ _ _ v HX.out) (bvs_one _) (by unfold maxLen; omega) (by omega) ?_); intro B2 d2 w2 HV2 HO2 HB2)
            have hws := HSZ.out
            exact ⟨⟨k + 1, B2, m + 1, d2, o ++ [v], by simp, rfl, by omega, by omega, by rw [bvs_append]; exact HV2, fun x hx => by
              rcases HB2 x hx with h | h
              · exact HBG.out x h
              · simp at h; omega, (HO.out.alloc _).trans HO2 (fun x hx => .inr (HBG.out x hx)), HN.out⟩, HM.out⟩
end
end Go.Proofs.YtbbgdcnnacakjaaDoor
