/-
  head.Fields.
-/
import Derived.Test.YtakehogenioobaaDoorHHead
import Derived.Test.YtakehogenioobaaDoorHFd
import Derived.Test.YtakehogenioobaaDoorGotoN
namespace Go.Proofs.YtakehogenioobaaDoor
open Go.RowKit Go.Instr

def lenS : Value → Nat | .slice _ n _ => n | _ => 0
abbrev Fs := List (List UInt8 × List UInt8)
def textsOf (r : List UInt8) : List (List UInt8) := (lns r).map tx
theorem textsOf_nil : textsOf [] = [] := rfl
theorem textsOf_step {r : List UInt8} (h : r ≠ []) : textsOf r = tx (r.take (nl r + 1)) :: textsOf (r.drop (nl r + 1)) := by
  unfold textsOf
  rw [lns_step r h]
  rfl
theorem flds_texts (l : List UInt8) : flds l = fl none (textsOf (l.take (hd l))) := by
  unfold flds textsOf
  rw [lns_head]
theorem fl_nil (st : Option (List UInt8 × List UInt8)) : fl st [] = st.toList := by cases st <;> rfl
theorem fl_blank {st : Option (List UInt8 × List UInt8)} {t : List UInt8} {r : List (List UInt8)} (h : begB t = true) : fl st (t :: r) = fl (st.map fun p => (p.1, p.2 ++ 32 :: trimB t)) r := by rw [fl, if_pos h]
theorem fl_text {st : Option (List UInt8 × List UInt8)} {t : List UInt8} {r : List (List UInt8)} (h : begB t = false) : fl st (t :: r) = st.toList ++ fl (fieldOf t) r := by rw [fl, if_neg (by rw [h]; decide)]

section
variable (w : World) (A : Option Addr) (n c : Nat) (G : Fs)
def J0 (a : Act) (W : World) : Prop :=
  ∃ (AF : Option Addr) (nF cF : Nat) (fs : Fs) (AR : Option Addr) (nR cR : Nat) (r : List UInt8), ∃ (u1 u4 u5 u6 u7 u9 u10 u11 u12 u13 u14 u15 u16 u17 u18 u19 u20 u21 u22 u23 u24 u25 u26 u27 u28 u29 u30 u31 u32 u33 u34 u35 u36 u37 u38 u39 u40 u41 u42 u43 u44 u45 u46 u47 u48 u49 u50 u51 u52 u53 u54 u55 u56 u57 u58 : Value), a = { tmps := #[.slice A n c, u1, .slice none 0 0, .slice AF nF cF, u4, u5, u6, u7, .slice AR nR cR, u9, u10, u11, u12, u13, u14, u15, u16, u17, u18, u19, u20, u21, u22, u23, u24, u25, u26, u27, u28, u29, u30, u31, u32, u33, u34, u35, u36, u37, u38, u39, u40, u41, u42, u43, u44, u45, u46, u47, u48, u49, u50, u51, u52, u53, u54, u55, u56, u57, u58], defers := [] } ∧
    Fd W AF nF cF fs ∧ (∀ x ∈ blks AF, w.heap.size ≤ x) ∧ Bt W AR nR cR r ∧ (∀ x ∈ blks AR, x < w.heap.size) ∧ Only [] w W ∧ nF + nR ≤ n ∧ Hid (fs ++ fl none (textsOf r) = G)
def J1 (a : Act) (W : World) : Prop :=
  ∃ (AF : Option Addr) (nF cF : Nat) (fs : Fs) (AR : Option Addr) (nR cR : Nat) (r : List UInt8) (AT : Option Addr) (nT cT : Nat) (t : List UInt8), ∃ (u1 u5 u6 u7 u9 u10 u11 u12 u13 u14 u15 u16 u17 u18 u19 u20 u21 u22 u23 u24 u25 u26 u27 u28 u29 u30 u31 u32 u33 u34 u35 u36 u37 u38 u39 u40 u41 u42 u43 u44 u45 u46 u47 u48 u49 u50 u51 u52 u53 u54 u55 u56 u57 u58 : Value), a = { tmps := #[.slice A n c, u1, .slice none 0 0, .slice AF nF cF, .slice AT nT cT, u5, u6, u7, .slice AR nR cR, u9, u10, u11, u12, u13, u14, u15, u16, u17, u18, u19, u20, u21, u22, u23, u24, u25, u26, u27, u28, u29, u30, u31, u32, u33, u34, u35, u36, u37, u38, u39, u40, u41, u42, u43, u44, u45, u46, u47, u48, u49, u50, u51, u52, u53, u54, u55, u56, u57, u58], defers := [] } ∧
    Fd W AF nF cF fs ∧ (∀ x ∈ blks AF, w.heap.size ≤ x) ∧ Bt W AR nR cR r ∧ (∀ x ∈ blks AR, x < w.heap.size) ∧ Only [] w W ∧ Bt W AT nT cT t ∧ (∀ x ∈ blks AT, x < w.heap.size) ∧ nT + nR ≤ n ∧ (nT = 0 ∨ nF + 1 + nR ≤ n) ∧ nF + nR ≤ n ∧ Hid (fs ++ fl (fieldOf t) (textsOf r) = G)
def J2 (a : Act) (W : World) : Prop :=
  ∃ (AF : Option Addr) (nF cF : Nat) (fs : Fs) (AR : Option Addr) (nR cR : Nat) (r : List UInt8) (AN : Option Addr) (nN cN : Nat) (na : List UInt8) (AV : Option Addr) (nV cV : Nat) (v : List UInt8), ∃ (u1 u4 u7 u9 u10 u11 u12 u13 u14 u15 u16 u17 u18 u19 u20 u21 u22 u23 u24 u25 u26 u27 u28 u29 u30 u31 u32 u33 u34 u35 u36 u37 u38 u39 u40 u41 u42 u43 u44 u45 u46 u47 u48 u49 u50 u51 u52 u53 u54 u55 u56 u57 u58 : Value), a = { tmps := #[.slice A n c, u1, .slice none 0 0, .slice AF nF cF, u4, .slice AN nN cN, .slice AV nV cV, u7, .slice AR nR cR, u9, u10, u11, u12, u13, u14, u15, u16, u17, u18, u19, u20, u21, u22, u23, u24, u25, u26, u27, u28, u29, u30, u31, u32, u33, u34, u35, u36, u37, u38, u39, u40, u41, u42, u43, u44, u45, u46, u47, u48, u49, u50, u51, u52, u53, u54, u55, u56, u57, u58], defers := [] } ∧
    Fd W AF nF cF fs ∧ (∀ x ∈ blks AF, w.heap.size ≤ x) ∧ Bt W AR nR cR r ∧ (∀ x ∈ blks AR, x < w.heap.size) ∧ Only [] w W ∧ Bt W AN nN cN na ∧ (∀ x ∈ blks AN, x < w.heap.size) ∧ Own W 5 AV nV cV (bvs v) ∧ (∀ x ∈ blks AV, w.heap.size ≤ x) ∧ nV + 2 * nR ≤ 2 * n ∧ nF + 1 + nR ≤ n ∧
    Hid (fs ++ fl (some (trimB na, v)) (textsOf r) = G)
def JJ : Nat → Act → World → Prop
  | 0 => J0 w A n c G
  | 1 => J1 w A n c G
  | 2 => J2 w A n c G
  | _ => fun _ _ => False
end
def mu (l : Nat) (a : Act) (_ : World) : Nat := 4 * lenS (a.tmps.getD 8 undef) + (match l with | 0 => 0 | 1 => (if lenS (a.tmps.getD 4 undef) = 0 then 1 else 3) | _ => 2)

section
variable {w : World} {A : Option Addr} {n c : Nat} {l : List UInt8}
set_option maxRecDepth 100000 in
set_option maxHeartbeats 4000000 in
theorem Fields_any (hs : Bt w A n c l) (hbig : n ≤ 4096) (hA : ∀ x ∈ blks A, x < w.heap.size) : Calls Tryd.prog 29 #[.slice A n c] w fun e w' => ∃ A' c', e = .returned (.slice A' (flds l).length c') ∧ Fd w' A' (flds l).length c' (flds l) ∧ Only [] w w' := by
  have hle := hd_le_n hs
  have hcap := hs.cap
  have c1 := headLen_any hs (by omega) hA
  obtain ⟨H, hH⟩ : ∃ H, hd l = H := ⟨_, rfl⟩
  have hG0 : flds l = fl none (textsOf (l.take H)) := by rw [← hH]; exact flds_texts l
  rw [hH] at c1 hle
  have hp := hs.pre hle
  obtain ⟨p, hp0⟩ : ∃ p, l.take H = p := ⟨_, rfl⟩
  rw [hp0] at hp hG0
  obtain ⟨G, hG⟩ : ∃ G, flds l = G := ⟨_, rfl⟩
  rw [hG] at hG0 ⊢
  have hle1 : (H : Int) ≤ (c : Int) := by omega
  have HG := Lib.hid hG0
  have HP := Lib.hid hp
  clear hH hp0 hG0 hG hs hp
  go_enter Tryd.func29, Tryd.ntmps29
  go_wp2_with fail
  refine wp_scope_three (JJ w A n c G) mu rfl rfl rfl (fun l a w h => h) ?pass2 ?pass1 ?pass0 ?first
  case first =>
    intro p0
    go_wp2_with (go_at_call 28; (with_reducible refine c1.mono ?_); rintro e w1 ⟨rfl, hO1⟩)
    rename_i hK
    refine wp_label (hK _ _ (p0 _ _ ?_))
    exact ⟨none, 0, 0, [], A, H, c, p, _, _, _, _, _, _, _, _, _, _, _, _, _, _, _, _, _, _, _, _, _, _, _, _, _, _, _, _, _, _, _, _, _, _, _, _, _, _, _, _, _, _, _, _, _, _, _, _, _, _, _, _, _, _, _, rfl, Fd.nil _, (fun _ hx => nomatch hx), HP.out.keep hO1, hA, hO1, by omega, HG.out.symm⟩
  case pass0 =>
    clear c1 hcap hle hle1 HG HP
    intro p1
    rintro a' W ⟨AF, nF, cF, fs, AR, nR, cR, r, u1, u4, u5, u6, u7, u9, u10, u11, u12, u13, u14, u15, u16, u17, u18, u19, u20, u21, u22, u23, u24, u25, u26, u27, u28, u29, u30, u31, u32, u33, u34, u35, u36, u37, u38, u39, u40, u41, u42, u43, u44, u45, u46, u47, u48, u49, u50, u51, u52, u53, u54, u55, u56, u57, u58, rfl, hF, hbF, hR, hbR, hO, hn, HE⟩
    have hrl := hR.len
    rcases Nat.eq_zero_or_pos nR with h0 | h0
    · have hre : r = [] := List.eq_nil_of_length_eq_zero (by omega)
      have HG : Hid (fs = G) := by
        show _ = _
        rw [← HE.out, hre, textsOf_nil, fl_nil]
        simp
      subst h0
      have hl0 := hF.len
      clear hre hrl HE
      go_wp2_with fail
      simp only [jumps]
      go_ret
      refine ⟨AF, cF, by rw [← HG.out, hl0]; rfl, by rw [← HG.out, hl0]; exact hF, hO⟩
    · have h0' : (nR : Int) ≠ 0 := by omega
      have h0b : ((nR : Int) == 0) = false := by rw [beq_eq_false_iff_ne]; exact h0'
      have hne : r ≠ [] := fun h => by rw [h] at hrl; simp at hrl; omega
      have hst := textsOf_step hne
      have cN := next_any hR (by omega)
      obtain ⟨T, hT⟩ : ∃ T, tx (r.take (nl r + 1)) = T := ⟨_, rfl⟩
      have hTl : T.length + 1 ≤ (r.take (nl r + 1)).length + 1 := by rw [← hT]; have := tx_len (r.take (nl r + 1)); omega
      have hdl : (r.drop (nl r + 1)).length + (r.take (nl r + 1)).length = nR := by rw [List.length_drop, List.length_take]; omega
      have htk : 1 ≤ (r.take (nl r + 1)).length := by rw [List.length_take]; omega
      obtain ⟨r2, hr2⟩ : ∃ r2, r.drop (nl r + 1) = r2 := ⟨_, rfl⟩
      obtain ⟨t, ht⟩ : ∃ t, T.length = t := ⟨_, rfl⟩
      rw [hT, hr2] at cN hst
      rw [hr2] at hdl
      rw [ht] at cN hTl
      have HST := Lib.hid hst
      have HHT := Lib.hid ht
      have hbound : t + r2.length ≤ nR ∧ r2.length + 1 ≤ nR := by omega
      have HBD := Lib.hid hbound
      clear hst hT hTl hdl htk hr2 ht hne hbound h0'
      cases hB : begB T with
      | true =>
        have HE2 : Hid (fs ++ fl none (textsOf r2) = G) := by
          show _ = _
          rw [← HE.out, HST.out, fl_blank hB]
          rfl
        go_wp2_with first
          | (go_at_call 46; (with_reducible refine cN.mono ?_); rintro e w1 ⟨A2, n2, c2, rfl, hO1, hB1, hB2, hbl⟩)
          | (go_at_call 47; (with_reducible refine (beginsBlank_any hB1).mono ?_); rintro e w2 ⟨rfl, rfl⟩; rw [hB])
        go_step3
        have hn2 := hB2.len
        have hbd := HBD.out
        refine And.intro (show JJ w A n c G 0 _ _ from ⟨AF, nF, cF, fs, A2, n2, c2, r2, _, _, _, _, _, _, _, _, _, _, _, _, _, _, _, _, _, _, _, _, _, _, _, _, _, _, _, _, _, _, _, _, _, _, _, _, _, _, _, _, _, _, _, _, _, _, _, _, _, _, _, _, _, _, _, rfl, hF.keep hO1, hbF, hB2, fun x hx => hbR x (hbl x hx), hO.then hO1, by omega, HE2⟩) ?_
        show 4 * n2 + 0 < 4 * nR + 0
        omega
      | false =>
        have HE2 : Hid (fs ++ fl (fieldOf T) (textsOf r2) = G) := by
          show _ = _
          rw [← HE.out, HST.out, fl_text hB]
          rfl
        go_wp2_with first
          | (go_at_call 46; (with_reducible refine cN.mono ?_); rintro e w1 ⟨A2, n2, c2, rfl, hO1, hB1, hB2, hbl⟩)
          | (go_at_call 47; (with_reducible refine (beginsBlank_any hB1).mono ?_); rintro e w2 ⟨rfl, rfl⟩; rw [hB])
        rename_i hK
        have hn2 := hB2.len
        have hbd := HBD.out
        refine wp_label (hK _ _ (p1 _ _ (show J1 w A n c G _ _ from ⟨AF, nF, cF, fs, A2, n2, c2, r2, AR, t, cR, T, _, _, _, _, _, _, _, _, _, _, _, _, _, _, _, _, _, _, _, _, _, _, _, _, _, _, _, _, _, _, _, _, _, _, _, _, _, _, _, _, _, _, _, _, _, _, _, _, _, _, _, _, _, _, rfl, hF.keep hO1, hbF, hB2, fun x hx => hbR x (hbl x hx), hO.then hO1, hB1, hbR, by omega, .inr (by omega), by omega, HE2⟩) _ ?_))
        show 4 * n2 + (if t = 0 then 1 else 3) ≤ 4 * nR + 0
        split <;> omega
  case pass1 =>
    clear c1 hcap hle hle1 HG HP
    intro p2
    rintro a' W ⟨AF, nF, cF, fs, AR, nR, cR, r, AT, nT, cT, t, u1, u5, u6, u7, u9, u10, u11, u12, u13, u14, u15, u16, u17, u18, u19, u20, u21, u22, u23, u24, u25, u26, u27, u28, u29, u30, u31, u32, u33, u34, u35, u36, u37, u38, u39, u40, u41, u42, u43, u44, u45, u46, u47, u48, u49, u50, u51, u52, u53, u54, u55, u56, u57, u58, rfl, hF, hbF, hR, hbR, hO, hT, hbT, hn1, hn2, hn3, HE⟩
    have htl := hT.len
    obtain ⟨f, hf⟩ : ∃ f, fi 58 t = f := ⟨_, rfl⟩
    obtain ⟨bo, hbo⟩ : ∃ bo, decide (fi 58 t < t.length) = bo := ⟨_, rfl⟩
    have hfo : fieldOf t = if bo = true then some (trimB (t.take f), trimB (t.drop (f + 1))) else none := by
      unfold fieldOf
      rw [show cln t = f from hf, ← hbo, ← hf]
      simp
    have k0 := mark0 W (.int .u8 58)
    have cC : ∀ b2 o2 d W1, Only [] W W1 → W1.cell? ⟨b2, o2, none⟩ = some (.int .u8 58) → Calls Tryd.prog 41 #[.slice AT nT cT, .slice (some ⟨b2, o2, none⟩) 1 d] W1 fun e w' => ∃ A2 n2 c2, e = .returned (.tuple #[.slice AT f cT, .slice A2 n2 c2, .bool bo]) ∧ Only [] W1 w' ∧
        Bt w' AT f cT (t.take f) ∧ Bt w' A2 n2 c2 (t.drop (f + 1)) ∧ ∀ k ∈ blks A2, k ∈ blks AT := fun b2 o2 d W1 o h => by
      have := cut_any (hT.keep o) (by omega) b2 o2 d 58 h
      rwa [hbo, hf] at this
    have hO0 : Only [] W (W.alloc (.cells #[.int .u8 58] 5 (1, 2))) := (Only.refl _ _).alloc _
    cases bo with
    | false =>
      have HE2 : Hid (fs ++ fl none (textsOf r) = G) := by
        show _ = _
        rw [← HE.out, hfo]
        rfl
      clear hbo hf hfo
      go_wp2_with (go_at_call 41; (with_reducible refine (cC _ _ _ _ hO0 (lit0 _ _ _ _)).mono ?_); rintro e w1 ⟨A2, n2, c2, rfl, hO1, hB1, hB2, hbl⟩)
      go_step3
      have hOW := hO0.then hO1
      refine And.intro (show JJ w A n c G 0 _ _ from ⟨AF, nF, cF, fs, AR, nR, cR, r, _, _, _, _, _, _, _, _, _, _, _, _, _, _, _, _, _, _, _, _, _, _, _, _, _, _, _, _, _, _, _, _, _, _, _, _, _, _, _, _, _, _, _, _, _, _, _, _, _, _, _, _, _, _, _, rfl, hF.keep hOW, hbF, hR.keep hOW, hbR, hO.then hOW, by omega, HE2⟩) ?_
      show 4 * nR + 0 < 4 * nR + (if nT = 0 then 1 else 3)
      split <;> omega
    | true =>
      have hlt : f < nT := by
        have := of_decide_eq_true hbo
        omega
      obtain ⟨vd, hvd⟩ : ∃ vd, t.drop (f + 1) = vd := ⟨_, rfl⟩
      obtain ⟨v, hv⟩ : ∃ v, trimB vd = v := ⟨_, rfl⟩
      have hvl : v.length ≤ nT := by
        rw [← hv, ← hvd]
        have h1 := trimB_len (t.drop (f + 1))
        rw [List.length_drop] at h1
        omega
      rw [hvd] at cC hfo
      rw [hv, if_pos rfl] at hfo
      have HE2 : Hid (fs ++ fl (some (trimB (t.take f), v)) (textsOf r) = G) := by
        show _ = _
        rw [← HE.out, hfo]
      obtain ⟨q, hq⟩ : ∃ q, v.length = q := ⟨_, rfl⟩
      have cT9 : ∀ W1 A2 n2 c2, Bt W1 A2 n2 c2 vd → Calls Tryd.prog 48 #[.slice A2 n2 c2, .string ⟨#[32, 9]⟩] W1 fun e w' => ∃ A3 c3, e = .returned (.slice A3 q c3) ∧ Only [] W1 w' ∧ Bt w' A3 q c3 v := fun W1 A2 n2 c2 h => by
        have := trim_any h
        rw [hv, hq] at this
        exact this.mono fun e w' ⟨A3, c3, h1, h2, h3, _⟩ => ⟨A3, c3, h1, h2, h3⟩
      rw [hq] at hvl
      clear hbo hf hfo hv hvd hq
      go_wp2_with first
        | (go_at_call 41; (with_reducible refine (cC _ _ _ _ hO0 (lit0 _ _ _ _)).mono ?_); rintro e w1 ⟨A2, n2, c2, rfl, hO1, hB1, hB2, hbl⟩)
        | (go_at_call 48; (with_reducible refine (cT9 _ _ _ _ hB2).mono ?_); rintro e w2 ⟨A3, c3, rfl, hO2, hB3⟩)
        | (go_at_call 17; (with_reducible refine (clone_any _ hB3.sl (by omega)).mono ?_); rintro e w3 ⟨A4, c4, rfl, hV4, hO3, hb4⟩)
      rename_i hK
      have hOW := ((hO0.then hO1).then hO2).then hO3
      refine wp_label (hK _ _ (p2 _ _ (show J2 w A n c G _ _ from ⟨AF, nF, cF, fs, AR, nR, cR, r, AT, f, cT, _, A4, q, c4, v, _, _, _, _, _, _, _, _, _, _, _, _, _, _, _, _, _, _, _, _, _, _, _, _, _, _, _, _, _, _, _, _, _, _, _, _, _, _, _, _, _, _, _, _, _, _, _, _, _, _, _, _, _, rfl, hF.keep hOW, hbF, hR.keep hOW, hbR, hO.then hOW, hB1.keep (hO2.then hO3), hbT, hV4, fun x hx => ?_, by omega, by omega, HE2⟩) _ ?_))
      · have h1 := hb4 x hx
        have h2 := hO.size
        have h3 := ((hO0.then hO1).then hO2).size
        omega
      · show 4 * nR + 2 ≤ 4 * nR + (if nT = 0 then 1 else 3)
        rw [if_neg (by omega)]
        omega
  case pass2 =>
    clear c1 hcap hle hle1 HG HP
    rintro a' W ⟨AF, nF, cF, fs, AR, nR, cR, r, AN, nN, cN, na, AV, nV, cV, v, u1, u4, u7, u9, u10, u11, u12, u13, u14, u15, u16, u17, u18, u19, u20, u21, u22, u23, u24, u25, u26, u27, u28, u29, u30, u31, u32, u33, u34, u35, u36, u37, u38, u39, u40, u41, u42, u43, u44, u45, u46, u47, u48, u49, u50, u51, u52, u53, u54, u55, u56, u57, u58, rfl, hF, hbF, hR, hbR, hO, hN, hbN, hV, hbV, hn1, hn2, HE⟩
    have hrl := hR.len
    have hvl := hV.len
    rw [bvs_length] at hvl
    have cNx := next_any hR (by omega)
    obtain ⟨T, hT⟩ : ∃ T, tx (r.take (nl r + 1)) = T := ⟨_, rfl⟩
    obtain ⟨nm, hnm⟩ : ∃ nm, trimB na = nm := ⟨_, rfl⟩
    rw [hnm] at HE
    have hTl : T.length ≤ (r.take (nl r + 1)).length := by rw [← hT]; exact tx_len _
    have hdl : (r.drop (nl r + 1)).length + (r.take (nl r + 1)).length = nR := by rw [List.length_drop, List.length_take]; omega
    have htk : nR = 0 ∨ 1 ≤ (r.take (nl r + 1)).length := by rw [List.length_take]; omega
    have hstep : (begB T = true → fl (some (nm, v)) (textsOf r) = fl (some (nm, v ++ 32 :: trimB T)) (textsOf (r.drop (nl r + 1)))) ∧ (begB T = false → fl (some (nm, v)) (textsOf r) = (nm, v) :: fl (fieldOf T) (textsOf (r.drop (nl r + 1)))) := by
      by_cases hre : r = []
      · subst hre
        obtain rfl : T = [] := hT.symm
        exact ⟨fun h => Bool.noConfusion (show false = true from h), fun _ => rfl⟩
      · have hst := textsOf_step hre
        rw [hT] at hst
        rw [hst]
        exact ⟨fun h => fl_blank h, fun h => fl_text h⟩
    obtain ⟨r2, hr2⟩ : ∃ r2, r.drop (nl r + 1) = r2 := ⟨_, rfl⟩
    obtain ⟨t, ht⟩ : ∃ t, T.length = t := ⟨_, rfl⟩
    rw [hT, hr2, ht] at cNx
    rw [hr2] at hdl hstep
    rw [ht] at hTl
    have hbound : t + r2.length ≤ nR ∧ (nR = 0 ∨ r2.length + 1 ≤ nR) ∧ r2.length ≤ nR := by omega
    have HBD := Lib.hid hbound
    have HHT := Lib.hid ht
    clear hT hTl hdl htk hr2 ht hbound hrl
    cases hB : begB T with
    | true =>
      have HE2 : Hid (fs ++ fl (some (nm, v ++ 32 :: trimB T)) (textsOf r2) = G) := by
        show _ = _
        rw [← HE.out, hstep.1 hB]
      have hnR : 1 ≤ t := by
        cases T with
        | nil => cases hB
        | cons x y => rw [← HHT.out]; simp
      obtain ⟨tt, htt⟩ : ∃ tt, trimB T = tt := ⟨_, rfl⟩
      have htl := trimB_len T
      rw [htt] at HE2 htl
      rw [HHT.out] at htl
      obtain ⟨q, hq⟩ : ∃ q, tt.length = q := ⟨_, rfl⟩
      rw [hq] at htl
      have cT9 : ∀ W1, Bt W1 AR t cR T → Calls Tryd.prog 48 #[.slice AR t cR, .string ⟨#[32, 9]⟩] W1 fun e w' => ∃ A3 c3, e = .returned (.slice A3 q c3) ∧ Only [] W1 w' ∧ Bt w' A3 q c3 tt ∧ ∀ x ∈ blks A3, x ∈ blks AR := fun W1 h => by
        have := trim_any h
        rw [htt, hq] at this
        exact this
      obtain ⟨i0, hi, hz0, hz1, hz2⟩ := info_parts infoByte
      obtain ⟨u, hu⟩ : ∃ u, nV + 1 = u := ⟨_, rfl⟩
      obtain ⟨u2, hu2⟩ : ∃ u2, u + q = u2 := ⟨_, rfl⟩
      have hL1 : bvs v ++ bvs [32] = bvs (v ++ [32]) := by rw [bvs_append]
      have hL2 : bvs (v ++ [32]) ++ bvs tt = bvs (v ++ 32 :: tt) := by rw [← bvs_append, List.append_assoc]; rfl
      have hbd := HBD.out
      have hn4 : nV ≤ 8192 ∧ q ≤ 4096 := by omega
      obtain ⟨hn5, hn6⟩ := hn4
      have HU := Lib.hid hu
      have HU2 := Lib.hid hu2
      have huu : u ≤ 8193 := by omega
      have hbN2 : ∀ x ∈ blks AN, x ∉ blks AV := fun x hx hm => by have := hbN x hx; have := hbV x hm; omega
      have hbR2 : ∀ x ∈ blks AR, x ∉ blks AV := fun x hx hm => by have := hbR x hx; have := hbV x hm; omega
      have hsz := hO.size
      clear hstep htt hq hu hu2 hbd
      go_wp2_with first
        | (go_at_call 46; (with_reducible refine cNx.mono ?_); rintro e w1 ⟨A2, n2, c2, rfl, hO1, hB1, hB2, hbl⟩)
        | (go_at_call 47; (with_reducible refine (beginsBlank_any hB1).mono ?_); rintro e w2 ⟨rfl, rfl⟩; rw [hB])
        | (at_builtin; refine wpList_append_as rfl (.tmp 46) (.tmp 48) 24 rfl 5 i0 (.int .u8 0) 1 Tryd.underlying24 hi hz0 hz1 hz2 rfl A4 u c4 _ rfl (hV4.keep hO5) A3 q c3 _ rfl hB3.sl (bvs_one _) (by unfold maxLen; omega) (by omega) u2 HU2.out _ hL2 ?_; intro A6 c6 w6 hV6 hO6 hb6)
        | (at_builtin; refine wpList_append_lit rfl (.tmp 44) (.const (.string ⟨#[32]⟩)) 24 9 rfl 5 i0 Tryd.underlying24 Tryd.underlying9 hi hz0 hz1 hz2 AV nV cV _ rfl (hV.keep hO1) ⟨#[32]⟩ rfl (by show nV + 1 ≤ _; omega) u HU.out _ hL1 ?_; intro A4 c4 w4 hV4 hO4 hb4)
        | (go_at_call 48; (with_reducible refine (cT9 _ (hB1.only hO4 hbR2)).mono ?_); rintro e w5 ⟨A3, c3, rfl, hO5, hB3, hbl3⟩)
      go_step3
      have hs1 := hO1.size
      have hs4 := hO4.size
      have hs5 := hO5.size
      have hbA4 : ∀ x ∈ blks A4, w.heap.size ≤ x := hb4 w.heap.size (by omega) hbV
      have hbA6 : ∀ x ∈ blks A6, w.heap.size ≤ x := fun x hx => by
        rcases hb6 x hx with h | h
        · exact hbA4 x h
        · omega
      have hF1 := hF.keep hO1
      have hF5 := (hF1.only hO4 (fun x hx hm => hF1.apart (hV.keep hO1) (by decide) x hm hx)).keep hO5
      have hF6 := hF5.only hO6 (fun x hx hm => hF5.apart (hV4.keep hO5) (by decide) x hm hx)
      have far : ∀ {B : Option Addr} {m k : Nat} {l2 : List UInt8}, Bt w1 B m k l2 → (∀ x ∈ blks B, x < w.heap.size) → Bt w6 B m k l2 := fun h hb => (((h.only hO4 (fun x hx hm => by have := hb x hx; have := hbV x hm; omega)).keep hO5)).only hO6 (fun x hx hm => by have := hb x hx; have := hbA4 x hm; omega)
      have hn9 := hB2.len
      have hbd := HBD.out
      have hu1 := HU.out
      have hu2 := HU2.out
      refine And.intro (show JJ w A n c G 2 _ _ from ⟨AF, nF, cF, fs, A2, n2, c2, r2, AN, nN, cN, na, A6, u2, c6, v ++ 32 :: tt, _, _, _, _, _, _, _, _, _, _, _, _, _, _, _, _, _, _, _, _, _, _, _, _, _, _, _, _, _, _, _, _, _, _, _, _, _, _, _, _, _, _, _, _, _, _, _, _, _, _, _, _, _, rfl, hF6, hbF, far hB2 (fun x hx => hbR x (hbl x hx)), fun x hx => hbR x (hbl x hx), (((hO.then hO1).trans hO4 (fun x hx => .inr (hbV x hx))).then hO5).trans hO6 (fun x hx => .inr (hbA4 x hx)), far (hN.keep hO1) hbN, hbN, hV6, hbA6, by omega, by omega, by rw [hnm]; exact HE2⟩) ?_
      show 4 * n2 + 2 < 4 * nR + 2
      omega
    | false =>
      have HE2 : Hid ((fs ++ [(nm, v)]) ++ fl (fieldOf T) (textsOf r2) = G) := by
        show _ = _
        rw [← HE.out, hstep.2 hB]
        simp
      obtain ⟨q, hq⟩ : ∃ q, nm.length = q := ⟨_, rfl⟩
      have HTN : Hid (∀ W1, Only [] W W1 → Calls Tryd.prog 48 #[.slice AN nN cN, .string ⟨#[32, 9]⟩] W1 fun e w' => ∃ A2 c2, e = .returned (.slice A2 q c2) ∧ Only [] W1 w' ∧ Bt w' A2 q c2 nm ∧ ∀ x ∈ blks A2, x ∈ blks AN) := fun W1 o => by
        have := trim_any (hN.keep o)
        rwa [hnm, hq] at this
      have HVV := Lib.hid hV
      have HFF := Lib.hid hF
      have HBF := Lib.hid hbF
      have HBN : Hid (nF ≤ 4096) := by show _ ≤ _; omega
      have HSZ : Hid (w.heap.size ≤ W.heap.size) := hO.size
      clear hstep hnm hq hV hF hbF hvl
      go_wp2_with first
        | (go_at_call 46; (with_reducible refine cNx.mono ?_); rintro e w1 ⟨A2, n2, c2, rfl, hO1, hB1, hB2, hbl⟩)
        | (go_at_call 47; (with_reducible refine (beginsBlank_any hB1).mono ?_); rintro e w2 ⟨rfl, rfl⟩; rw [hB])
      apply region_writes (rs := blks AF) (Ws := [8]) (by kernel_rfl) (by kernel_rfl)
      apply rel_val (hrf := Tk_refl)
      case hw => rfl
      case hy => intro wS hN hF; skip; first | (go_simp; done) | (go_simp; with_reducible rfl)
      case' hk => skip
      try simp only [Act.put, List.setIfInBounds_toArray, List.set_cons_zero, List.set_cons_succ]
      apply rel_val (hrf := Tk_refl)
      case hw => rfl
      case hy => intro wS hN hF; skip; first | (go_simp; done) | (go_simp; with_reducible rfl)
      case' hk => skip
      try simp only [Act.put, List.setIfInBounds_toArray, List.set_cons_zero, List.set_cons_succ]
      apply rel_fact_call (φ := fun v W' => ∃ A2 c2, v = .slice A2 q c2 ∧ Bt W' A2 q c2 nm) (x := 8) (hs := lasts0 (by kernel_rfl) (fun v W1 W2 h ho => by obtain ⟨A2, c2, h1, h2⟩ := h; exact ⟨A2, c2, h1, h2.keep ho⟩))
      case hw => rfl
      case hc =>
        intro wS hN hF
        have hO := hN.pre (by kernel_rfl)
        refine ⟨48, #[.slice AN nN cN, .string ⟨#[32, 9]⟩], by go_simp, (HTN.out wS (hO1.then ((Only.refl [] _).drew.then hO))).mono ?_⟩
        rintro e w3 ⟨A2, c2, rfl, hO3, hB3, _⟩
        exact ⟨_, rfl, ⟨A2, c2, rfl, hB3⟩, Tk_only hO3⟩
      case' hk => intro v2
      try simp only [Act.put, List.setIfInBounds_toArray, List.set_cons_zero, List.set_cons_succ]
      apply rel_val (v := .string (St nm)) (hrf := Tk_refl)
      case hw => rfl
      case hy =>
        intro wS hN hF
        obtain ⟨A2, c2, rfl, hB2⟩ := hF.at_ 0 rfl (by kernel_rfl) (by kernel_rfl)
        have hcv := run_str_sl (P := Tryd.prog) 24 9 5 A2 q c2 nm Tryd.underlying24 Tryd.underlying5 Tryd.underlying9 hB2.sl
        go_simp
      case' hk => skip
      try simp only [Act.put, List.setIfInBounds_toArray, List.set_cons_zero, List.set_cons_succ]
      apply rel_val (hrf := Tk_refl)
      case hw => rfl
      case hy => intro wS hN hF; skip; first | (go_simp; done) | (go_simp; with_reducible rfl)
      case' hk => skip
      try simp only [Act.put, List.setIfInBounds_toArray, List.set_cons_zero, List.set_cons_succ]
      apply rel_val (v := .string (St v)) (hrf := Tk_refl)
      case hw => rfl
      case hy =>
        intro wS hN hF
        have hO := hN.pre (by kernel_rfl)
        have hcv := run_str_sl (P := Tryd.prog) 24 9 5 AV nV cV v Tryd.underlying24 Tryd.underlying5 Tryd.underlying9 ((HVV.out.keep (hO1.then ((Only.refl [] _).drew.then hO))).sl)
        go_simp
      case' hk => skip
      try simp only [Act.put, List.setIfInBounds_toArray, List.set_cons_zero, List.set_cons_succ]
      apply rel_val (hrf := Tk_refl)
      case hw => rfl
      case hy => intro wS hN hF; skip; first | (go_simp; done) | (go_simp; with_reducible rfl)
      case' hk => skip
      try simp only [Act.put, List.setIfInBounds_toArray, List.set_cons_zero, List.set_cons_succ]
      apply rel_fact (φ := fun x W' => ∃ g, x = .slice (some ⟨g, 0, none⟩) 1 1 ∧ Bk W' g 58 #[.string (St nm), .string (St v)]) (x := 8) (hs := lasts0 (by kernel_rfl) (fun x W1 W2 h ho => by obtain ⟨g, h1, h2⟩ := h; exact ⟨g, h1, h2.only ho (fun hm => nomatch hm)⟩))
      case hw => rfl
      case hy =>
        intro wS hN hF
        refine gives_value (u := .slice (some ⟨wS.heap.size, 0, none⟩) 1 1) (w' := wS.alloc (.cells #[.string (St nm), .string (St v)] 58)) ?_ ⟨wS.heap.size, rfl, Bk.new _ _ _⟩ (Tk_only ((Only.refl [] _).alloc _))
        go_simp
      case' hk => intro v7
      try simp only [Act.put, List.setIfInBounds_toArray, List.set_cons_zero, List.set_cons_succ]
      apply rel_fact (φ := fun x W' => ∃ A5 c5, x = .slice A5 (nF + 1) c5 ∧ Fd W' A5 (nF + 1) c5 (fs ++ [(nm, v)]) ∧ ∀ y ∈ blks A5, w.heap.size ≤ y) (x := 9999) (hs := lasts0 (by kernel_rfl) (fun x W1 W2 h ho => by obtain ⟨A5, c5, h1, h2, h3⟩ := h; exact ⟨A5, c5, h1, h2.keep ho, h3⟩))
      case hw => rfl
      case hy =>
        intro wS hN hF
        have hO := hN.pre (by kernel_rfl)
        have hOW : Only [] w1 wS := (Only.refl [] _).drew.then hO
        obtain ⟨g, rfl, hG⟩ := hF.at_ 0 rfl (by kernel_rfl) (by kernel_rfl)
        exact gives_append_fd (.tmp 50) (.tmp 57) rfl AF nF cF fs rfl ((HFF.out.keep hO1).keep hOW) nm v g 58 rfl hG (by have := HBN.out; omega) fun A5 c5 w5 hF5 hO5 hB5 => ⟨⟨A5, c5, rfl, hF5, fun y hy => by
            rcases hB5 y hy with h | h
            · exact HBF.out y h
            · have := hOW.size; have := hO1.size; have := HSZ.out; omega⟩, Tk_writes rfl hO5 (fun x hx => .inl hx)⟩
      case' hk => intro v8
      try simp only [Act.put, List.setIfInBounds_toArray, List.set_cons_zero, List.set_cons_succ]
      apply rel_fact (φ := fun x W' => ∃ A5 c5, x = .slice A5 (nF + 1) c5 ∧ Fd W' A5 (nF + 1) c5 (fs ++ [(nm, v)]) ∧ ∀ y ∈ blks A5, w.heap.size ≤ y) (x := 9999) (hs := lasts0 (by kernel_rfl) (fun x W1 W2 h ho => by obtain ⟨A5, c5, h1, h2, h3⟩ := h; exact ⟨A5, c5, h1, h2.keep ho, h3⟩))
      case hw => rfl
      case hy =>
        intro wS hN hF
        have h := hF.at_ 0 rfl (by kernel_rfl) (by kernel_rfl)
        refine gives_value (u := v8) (w' := wS) ?_ h (Tk_refl _)
        go_simp
      case' hk => intro v9
      try simp only [Act.put, List.setIfInBounds_toArray, List.set_cons_zero, List.set_cons_succ]
      refine rel_end ?_
      intro wS hOS hFc
      obtain ⟨A5, c5, rfl, hF5, hbF5⟩ := facts_at hFc 0 rfl
      clear hFc
      go_wp2_with fail
      go_step3
      have hOS' : Only (blks AF) w1 wS := (Only.refl _ _).drew.trans hOS.only (fun x hx => .inl hx)
      have hbF := HBF.out
      have far : ∀ {B : Option Addr} {m k : Nat} {l2 : List UInt8}, Bt w1 B m k l2 → (∀ x ∈ blks B, x < w.heap.size) → Bt wS B m k l2 := fun h hb => h.only hOS' (fun x hx hm => by have := hb x hx; have := hbF x hm; omega)
      have hn9 := hB2.len
      have hbd := HBD.out
      refine And.intro (show JJ w A n c G 1 _ _ from ⟨A5, nF + 1, c5, fs ++ [(nm, v)], A2, n2, c2, r2, AR, t, cR, T, _, _, _, _, _, _, _, _, _, _, _, _, _, _, _, _, _, _, _, _, _, _, _, _, _, _, _, _, _, _, _, _, _, _, _, _, _, _, _, _, _, _, _, _, _, _, _, _, _, _, _, _, _, _, rfl, hF5, hbF5, far hB2 (fun x hx => hbR x (hbl x hx)), fun x hx => hbR x (hbl x hx), (hO.then hO1).trans hOS' (fun x hx => .inr (hbF x hx)), far hB1 hbR, hbR, by omega, by omega, by omega, HE2⟩) ?_
      show 4 * n2 + (if t = 0 then 1 else 3) < 4 * nR + 2
      split <;> omega
end
end Go.Proofs.YtakehogenioobaaDoor
