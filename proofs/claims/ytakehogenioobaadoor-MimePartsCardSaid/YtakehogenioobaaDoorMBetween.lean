/-
  mime.between: the parts behind each mark.
-/
import Derived.Test.YtakehogenioobaaDoorMPt
import Derived.Test.YtakehogenioobaaDoorGoto4
import Derived.Test.YtakehogenioobaaDoorHFields
namespace Go.Proofs.YtakehogenioobaaDoor
open Go.RowKit Go.Instr

theorem line_ne {l : List UInt8} {a : Nat} (h : a < l.length) : lns (l.drop a) = lineAt l a :: lns (l.drop (a + (lineAt l a).length)) ∧ 1 ≤ (lineAt l a).length ∧ a + (lineAt l a).length ≤ l.length := by
  have hne : l.drop a ≠ [] := by
    intro e
    have := congrArg List.length e
    rw [List.length_drop] at this
    simp at this
    omega
  have h1 : (l.drop a).length = l.length - a := List.length_drop
  have h2 : (lineAt l a).length = min (nl (l.drop a) + 1) (l.length - a) := by unfold lineAt; rw [List.length_take, h1]
  have e : (l.drop a).drop (nl (l.drop a) + 1) = l.drop (a + (lineAt l a).length) := by
    rw [List.drop_drop, h2]
    rcases Nat.le_total (nl (l.drop a) + 1) (l.length - a) with h3 | h3
    · rw [Nat.min_eq_left h3]
    · rw [Nat.min_eq_right h3, List.drop_of_length_le (by omega), List.drop_of_length_le (by omega)]
  refine ⟨?_, by omega, by omega⟩
  rw [lns_step _ hne, e]
  rfl
def meOf (m : List UInt8) : List UInt8 := m ++ [45, 45]
theorem eq_text {a b : ByteArray} {x y : List UInt8} (ha : a.toList = x) (hb : b.toList = y) : (a.toList == b.toList) = decide (x = y) := by
  rw [ha, hb]
  by_cases h : x = y
  · subst h; simp
  · rw [decide_eq_false h, beq_eq_false_iff_ne]; exact h

section
variable (w : World) (A : Option Addr) (n c : Nat) (tm te : ByteArray) (l m : List UInt8) (G : List (Nat × Nat))
def B0 (a : Act) (W : World) : Prop :=
  ∃ (at_ : Nat), ∃ (u3 u4 u5 u8 u9 u10 u12 u13 u14 u15 u16 u17 u18 u19 u20 u21 u22 u23 u24 u25 u26 u27 u28 u29 u30 u31 u32 u33 u34 u35 u36 u37 u38 u39 u40 u41 u42 u43 u44 u45 u46 u47 u48 u49 u50 u51 u52 u53 u54 u55 u56 u57 u58 u59 u60 u61 u62 u63 u64 u65 u66 u67 u68 u69 u70 u71 : Value), a = { tmps := #[.slice A n c, .int .i64 (at_ : Int), .string tm, u3, u4, u5, .slice none 0 0, .slice none 0 0, u8, u9, u10, .string te, u12, u13, u14, u15, u16, u17, u18, u19, u20, u21, u22, u23, u24, u25, u26, u27, u28, u29, u30, u31, u32, u33, u34, u35, u36, u37, u38, u39, u40, u41, u42, u43, u44, u45, u46, u47, u48, u49, u50, u51, u52, u53, u54, u55, u56, u57, u58, u59, u60, u61, u62, u63, u64, u65, u66, u67, u68, u69, u70, u71], defers := [] } ∧ Only [] w W ∧ at_ ≤ n ∧ Hid (pout l m at_ (lns (l.drop at_)) = G)
def B1 (a : Act) (W : World) : Prop :=
  ∃ (at_ : Nat) (AP : Option Addr) (nP cP : Nat) (ps : List (Nat × Nat)), ∃ (u3 u4 u5 u8 u9 u10 u12 u13 u14 u15 u16 u17 u18 u19 u20 u21 u22 u23 u24 u25 u26 u27 u28 u29 u30 u31 u32 u33 u34 u35 u36 u37 u38 u39 u40 u41 u42 u43 u44 u45 u46 u47 u48 u49 u50 u51 u52 u53 u54 u55 u56 u57 u58 u59 u60 u61 u62 u63 u64 u65 u66 u67 u68 u69 u70 u71 : Value), a = { tmps := #[.slice A n c, .int .i64 (at_ : Int), .string tm, u3, u4, u5, .slice none 0 0, .slice AP nP cP, u8, u9, u10, .string te, u12, u13, u14, u15, u16, u17, u18, u19, u20, u21, u22, u23, u24, u25, u26, u27, u28, u29, u30, u31, u32, u33, u34, u35, u36, u37, u38, u39, u40, u41, u42, u43, u44, u45, u46, u47, u48, u49, u50, u51, u52, u53, u54, u55, u56, u57, u58, u59, u60, u61, u62, u63, u64, u65, u66, u67, u68, u69, u70, u71], defers := [] } ∧ Pt W AP nP cP ps ∧ (∀ x ∈ blks AP, w.heap.size ≤ x) ∧ Only [] w W ∧ at_ ≤ n ∧ nP < 16 ∧ Hid (ps ++ pin l m at_ at_ nP (lns (l.drop at_)) = G)
def B2 (a : Act) (W : World) : Prop :=
  ∃ (at_ : Nat) (AP : Option Addr) (nP cP : Nat) (ps : List (Nat × Nat)) (f : Nat), ∃ (u3 u4 u5 u8 u10 u12 u13 u14 u15 u16 u17 u18 u19 u20 u21 u22 u23 u24 u25 u26 u27 u28 u29 u30 u31 u32 u33 u34 u35 u36 u37 u38 u39 u40 u41 u42 u43 u44 u45 u46 u47 u48 u49 u50 u51 u52 u53 u54 u55 u56 u57 u58 u59 u60 u61 u62 u63 u64 u65 u66 u67 u68 u69 u70 u71 : Value), a = { tmps := #[.slice A n c, .int .i64 (at_ : Int), .string tm, u3, u4, u5, .slice none 0 0, .slice AP nP cP, u8, .int .i64 (f : Int), u10, .string te, u12, u13, u14, u15, u16, u17, u18, u19, u20, u21, u22, u23, u24, u25, u26, u27, u28, u29, u30, u31, u32, u33, u34, u35, u36, u37, u38, u39, u40, u41, u42, u43, u44, u45, u46, u47, u48, u49, u50, u51, u52, u53, u54, u55, u56, u57, u58, u59, u60, u61, u62, u63, u64, u65, u66, u67, u68, u69, u70, u71], defers := [] } ∧ Pt W AP nP cP ps ∧ (∀ x ∈ blks AP, w.heap.size ≤ x) ∧ Only [] w W ∧ at_ ≤ n ∧ nP < 16 ∧ f ≤ at_ ∧ Hid (ps ++ pin l m f at_ nP (lns (l.drop at_)) = G)
def B3 (a : Act) (W : World) : Prop :=
  ∃ (at_ : Nat) (AP : Option Addr) (nP cP : Nat) (ps : List (Nat × Nat)) (f t : Nat), ∃ (u3 u4 u5 u8 u12 u13 u14 u15 u16 u17 u18 u19 u20 u21 u22 u23 u24 u25 u26 u27 u28 u29 u30 u31 u32 u33 u34 u35 u36 u37 u38 u39 u40 u41 u42 u43 u44 u45 u46 u47 u48 u49 u50 u51 u52 u53 u54 u55 u56 u57 u58 u59 u60 u61 u62 u63 u64 u65 u66 u67 u68 u69 u70 u71 : Value), a = { tmps := #[.slice A n c, .int .i64 (at_ : Int), .string tm, u3, u4, u5, .slice none 0 0, .slice AP nP cP, u8, .int .i64 (f : Int), .int .i64 (t : Int), .string te, u12, u13, u14, u15, u16, u17, u18, u19, u20, u21, u22, u23, u24, u25, u26, u27, u28, u29, u30, u31, u32, u33, u34, u35, u36, u37, u38, u39, u40, u41, u42, u43, u44, u45, u46, u47, u48, u49, u50, u51, u52, u53, u54, u55, u56, u57, u58, u59, u60, u61, u62, u63, u64, u65, u66, u67, u68, u69, u70, u71], defers := [] } ∧ Pt W AP nP cP ps ∧ (∀ x ∈ blks AP, w.heap.size ≤ x) ∧ Only [] w W ∧ t ≤ n ∧ nP < 16 ∧ f ≤ t ∧ Hid (ps ++ [prt l f t] = G)
def BB : Nat → Act → World → Prop
  | 0 => B0 w A n c tm te l m G
  | 1 => B1 w A n c tm te l m G
  | 2 => B2 w A n c tm te l m G
  | 3 => B3 w A n c tm te l G
  | _ => fun _ _ => False
end
def muB (n : Nat) (l : Nat) (a : Act) (_ : World) : Nat := 8 * (n - (intOf (a.tmps.getD 1 undef)).toNat) + (match l with | 0 => 3 | 1 => 2 | 2 => 1 | _ => 0)
/-- What is answered: parts in new memory. -/
def NewParts (w : World) (G : List (Nat × Nat)) (e : Ending) (w' : World) : Prop := ∃ A' c', e = .returned (.slice A' G.length c') ∧ Pt w' A' G.length c' G ∧ Only [] w w' ∧ ∀ x ∈ blks A', w.heap.size ≤ x

section
variable {w : World} {A : Option Addr} {n c : Nat} {l : List UInt8}
set_option maxRecDepth 100000 in
set_option maxHeartbeats 4000000 in
theorem between_any (hs : Bt w A n c l) (hbig : n ≤ 4096) (_ : ∀ x ∈ blks A, x < w.heap.size) (s : Nat) (hsn : s ≤ n) (m : List UInt8) (hm : m.length ≤ 8192) :
    Calls Tryd.prog 15 #[.slice A n c, .int .i64 (s : Int), .string (St m)] w (NewParts w (pout l m s (lns (l.drop s)))) := by
  obtain ⟨G, hG⟩ : ∃ G, pout l m s (lns (l.drop s)) = G := ⟨_, rfl⟩
  rw [hG]
  have HN := Lib.hid hs.len
  have HBT := Lib.hid hs
  have HG := Lib.hid hG
  obtain ⟨tm, htm⟩ : ∃ tm, St m = tm := ⟨_, rfl⟩
  have htl : tm.toList = m := by rw [← htm, Lib.toList_data, St_list]
  have hts : tm.size = m.length := by rw [← htm, St_size]
  rw [htm]
  have hadd := fun W => run_string_add_sum (P := Tryd.prog) (w := W) tm ⟨#[45, 45]⟩ (by rw [hts]; show m.length + 2 ≤ _; omega)
  obtain ⟨te, hte⟩ : ∃ te, tm ++ ⟨#[45, 45]⟩ = te := ⟨_, rfl⟩
  rw [hte] at hadd
  have htel : te.toList = meOf m := by
    rw [← hte, ← htm]
    unfold meOf
    rw [Lib.toList_data, ByteArray.data_append, Array.toList_append, St_list]
  have HTM := Lib.hid htl
  have HTE := Lib.hid htel
  clear htm htl hts hte htel hs hG hm
  go_enter Tryd.func15, Tryd.ntmps15
  go_wp2_with fail
  refine wp_scope_four (BB w A n c tm te l m G) (muB n) rfl rfl rfl rfl (fun l a w h => h) ?pass3 ?pass2 ?pass1 ?pass0 ?first
  case first =>
    intro p0
    go_wp2_with fail
    rename_i hK
    refine wp_label (hK _ _ (p0 _ _ ?_))
    exact ⟨s, _, _, _, _, _, _, _, _, _, _, _, _, _, _, _, _, _, _, _, _, _, _, _, _, _, _, _, _, _, _, _, _, _, _, _, _, _, _, _, _, _, _, _, _, _, _, _, _, _, _, _, _, _, _, _, _, _, _, _, _, _, _, _, _, _, _, rfl, Only.refl _ _, hsn, HG.out⟩
  case pass0 =>
    clear hadd
    intro p1
    rintro a' W ⟨at_, u3, u4, u5, u8, u9, u10, u12, u13, u14, u15, u16, u17, u18, u19, u20, u21, u22, u23, u24, u25, u26, u27, u28, u29, u30, u31, u32, u33, u34, u35, u36, u37, u38, u39, u40, u41, u42, u43, u44, u45, u46, u47, u48, u49, u50, u51, u52, u53, u54, u55, u56, u57, u58, u59, u60, u61, u62, u63, u64, u65, u66, u67, u68, u69, u70, u71, rfl, hO, hat, HE⟩
    rcases Nat.lt_or_ge at_ n with hlt | hge
    · have hltl : at_ < l.length := by rw [HN.out]; exact hlt
      have hb0 : ((at_ : Int) == (n : Int)) = false := by rw [beq_eq_false_iff_ne]; omega
      obtain ⟨hst, hL1, hL2⟩ := line_ne hltl
      rw [HN.out] at hL2
      have cN := mNext_any (HBT.out.keep hO) (by omega) at_ hat
      obtain ⟨L, hL⟩ : ∃ L, (lineAt l at_).length = L := ⟨_, rfl⟩
      obtain ⟨T, hT⟩ : ∃ T, tx (lineAt l at_) = T := ⟨_, rfl⟩
      obtain ⟨q, hq⟩ : ∃ q, T.length = q := ⟨_, rfl⟩
      obtain ⟨at2, ha2⟩ : ∃ at2, at_ + L = at2 := ⟨_, rfl⟩
      obtain ⟨tt, htt⟩ : ∃ tt, St T = tt := ⟨_, rfl⟩
      have httl : tt.toList = T := by rw [← htt, Lib.toList_data, St_list]
      have q1 := eq_text httl HTE.out
      have q2 := eq_text httl HTM.out
      have hE1 : pout l m at_ (lns (l.drop at_)) = if T = meOf m then [] else if T = m then pin l m at2 at2 0 (lns (l.drop at2)) else pout l m at2 (lns (l.drop at2)) := by
        rw [hst, pout, hT, hL, ha2]
        rfl
      have HE1 := Lib.hid (hE1.symm.trans HE.out)
      clear hE1
      rw [hL, ha2] at hst hL2 cN
      rw [hL] at hL1
      rw [hT, hq] at cN
      have hg1 : at_ < at2 := by omega
      have HTT := Lib.hid htt
      clear hst hL1 hL hT hq ha2 htt httl hltl hlt
      by_cases h1 : T = meOf m
      · have HG0 : Hid (([] : List (Nat × Nat)) = G) := by
          show _ = _
          rw [← HE1.out, if_pos h1]
        rw [decide_eq_true h1] at q1
        clear h1 q2
        go_wp2_with (go_at_call 26; (with_reducible refine cN.mono ?_); rintro e w1 ⟨A2, c2, rfl, hO1, hB1, _⟩; have hcv := run_str_sl (P := Tryd.prog) 24 9 5 A2 q c2 T Tryd.underlying24 Tryd.underlying5 Tryd.underlying9 hB1.sl; rw [HTT.out] at hcv; have hOW := hO.then hO1; have hO1' := Lib.hid hO1; clear hO1)
        simp only [jumps]
        go_ret
        exact ⟨none, 0, by rw [← HG0.out]; rfl, by rw [← HG0.out]; exact Pt.nil _, hOW, fun _ hx => nomatch hx⟩
      · rw [decide_eq_false h1] at q1
        by_cases h2 : T = m
        · have HE2 : Hid ([] ++ pin l m at2 at2 0 (lns (l.drop at2)) = G) := by
            show _ = _
            rw [← HE1.out, if_neg h1, if_pos h2]
            rfl
          rw [decide_eq_true h2] at q2
          clear h1 h2
          go_wp2_with (go_at_call 26; (with_reducible refine cN.mono ?_); rintro e w1 ⟨A2, c2, rfl, hO1, hB1, _⟩; have hcv := run_str_sl (P := Tryd.prog) 24 9 5 A2 q c2 T Tryd.underlying24 Tryd.underlying5 Tryd.underlying9 hB1.sl; rw [HTT.out] at hcv; have hOW := hO.then hO1; have hO1' := Lib.hid hO1; clear hO1)
          rename_i hK
          refine wp_label (hK _ _ (p1 _ _ (show B1 w A n c tm te l m G _ _ from ⟨at2, none, 0, 0, [], _, _, _, _, _, _, _, _, _, _, _, _, _, _, _, _, _, _, _, _, _, _, _, _, _, _, _, _, _, _, _, _, _, _, _, _, _, _, _, _, _, _, _, _, _, _, _, _, _, _, _, _, _, _, _, _, _, _, _, _, _, _, _, _, _, _, rfl, Pt.nil _, (fun _ hx => nomatch hx), hOW, by omega, by omega, HE2⟩) _ ?_))
          show 8 * (n - ((at2 : Nat) : Int).toNat) + 2 ≤ 8 * (n - ((at_ : Nat) : Int).toNat) + 3
          omega
        · have HE2 : Hid (pout l m at2 (lns (l.drop at2)) = G) := by
            show _ = _
            rw [← HE1.out, if_neg h1, if_neg h2]
          rw [decide_eq_false h2] at q2
          clear h1 h2
          go_wp2_with (go_at_call 26; (with_reducible refine cN.mono ?_); rintro e w1 ⟨A2, c2, rfl, hO1, hB1, _⟩; have hcv := run_str_sl (P := Tryd.prog) 24 9 5 A2 q c2 T Tryd.underlying24 Tryd.underlying5 Tryd.underlying9 hB1.sl; rw [HTT.out] at hcv; have hOW := hO.then hO1; have hO1' := Lib.hid hO1; clear hO1)
          go_step3
          refine And.intro (show BB w A n c tm te l m G 0 _ _ from ⟨at2, _, _, _, _, _, _, _, _, _, _, _, _, _, _, _, _, _, _, _, _, _, _, _, _, _, _, _, _, _, _, _, _, _, _, _, _, _, _, _, _, _, _, _, _, _, _, _, _, _, _, _, _, _, _, _, _, _, _, _, _, _, _, _, _, _, _, rfl, hOW, by omega, HE2⟩) ?_
          show 8 * (n - ((at2 : Nat) : Int).toNat) + 3 < 8 * (n - ((at_ : Nat) : Int).toNat) + 3
          omega
    · obtain rfl : at_ = n := by omega
      have HG0 : Hid (([] : List (Nat × Nat)) = G) := by
        show _ = _
        rw [← HE.out, List.drop_of_length_le (by rw [HN.out]; exact Nat.le_refl _), lns_nil, pout]
      go_wp2_with fail
      simp only [jumps]
      go_ret
      exact ⟨none, 0, by rw [← HG0.out]; rfl, by rw [← HG0.out]; exact Pt.nil _, hO, fun _ hx => nomatch hx⟩
  case pass1 =>
    clear hadd
    intro p2
    rintro a' W ⟨at_, AP, nP, cP, ps, u3, u4, u5, u8, u9, u10, u12, u13, u14, u15, u16, u17, u18, u19, u20, u21, u22, u23, u24, u25, u26, u27, u28, u29, u30, u31, u32, u33, u34, u35, u36, u37, u38, u39, u40, u41, u42, u43, u44, u45, u46, u47, u48, u49, u50, u51, u52, u53, u54, u55, u56, u57, u58, u59, u60, u61, u62, u63, u64, u65, u66, u67, u68, u69, u70, u71, rfl, hP, hbP, hO, hat, hn, HE⟩
    go_wp2_with fail
    rename_i hK
    refine wp_label (hK _ _ (p2 _ _ (show B2 w A n c tm te l m G _ _ from ⟨at_, AP, nP, cP, ps, at_, _, _, _, _, _, _, _, _, _, _, _, _, _, _, _, _, _, _, _, _, _, _, _, _, _, _, _, _, _, _, _, _, _, _, _, _, _, _, _, _, _, _, _, _, _, _, _, _, _, _, _, _, _, _, _, _, _, _, _, _, _, _, _, _, _, rfl, hP, hbP, hO, hat, hn, Nat.le_refl _, HE⟩) _ ?_))
    show 8 * (n - ((at_ : Nat) : Int).toNat) + 1 ≤ 8 * (n - ((at_ : Nat) : Int).toNat) + 2
    omega
  case pass2 =>
    clear hadd
    intro p3
    rintro a' W ⟨at_, AP, nP, cP, ps, f, u3, u4, u5, u8, u10, u12, u13, u14, u15, u16, u17, u18, u19, u20, u21, u22, u23, u24, u25, u26, u27, u28, u29, u30, u31, u32, u33, u34, u35, u36, u37, u38, u39, u40, u41, u42, u43, u44, u45, u46, u47, u48, u49, u50, u51, u52, u53, u54, u55, u56, u57, u58, u59, u60, u61, u62, u63, u64, u65, u66, u67, u68, u69, u70, u71, rfl, hP, hbP, hO, hat, hn, hf, HE⟩
    rcases Nat.lt_or_ge at_ n with hlt | hge
    · have hltl : at_ < l.length := by rw [HN.out]; exact hlt
      have hb0 : ((at_ : Int) == (n : Int)) = false := by rw [beq_eq_false_iff_ne]; omega
      obtain ⟨hst, hL1, hL2⟩ := line_ne hltl
      rw [HN.out] at hL2
      have cN := mNext_any (HBT.out.keep hO) (by omega) at_ hat
      obtain ⟨L, hL⟩ : ∃ L, (lineAt l at_).length = L := ⟨_, rfl⟩
      obtain ⟨T, hT⟩ : ∃ T, tx (lineAt l at_) = T := ⟨_, rfl⟩
      obtain ⟨q, hq⟩ : ∃ q, T.length = q := ⟨_, rfl⟩
      obtain ⟨at2, ha2⟩ : ∃ at2, at_ + L = at2 := ⟨_, rfl⟩
      obtain ⟨tt, htt⟩ : ∃ tt, St T = tt := ⟨_, rfl⟩
      have httl : tt.toList = T := by rw [← htt, Lib.toList_data, St_list]
      have q1 := eq_text httl HTE.out
      have q2 := eq_text httl HTM.out
      have hE1 : pin l m f at_ nP (lns (l.drop at_)) = if T = m ∧ nP + 1 < 16 then prt l f at_ :: pin l m at2 at2 (nP + 1) (lns (l.drop at2)) else if T = meOf m then [prt l f at_] else pin l m f at2 nP (lns (l.drop at2)) := by
        rw [hst, pin, hT, hL, ha2]
        rfl
      have HE1 := Lib.hid ((congrArg (ps ++ ·) hE1.symm).trans HE.out)
      clear hE1
      rw [hL, ha2] at hst hL2 cN
      rw [hL] at hL1
      rw [hT, hq] at cN
      have hg1 : at_ < at2 := by omega
      have HTT := Lib.hid htt
      clear hst hL1 hL hT hq ha2 htt httl hltl hlt
      by_cases h2 : T = m
      · have h1 : T ≠ meOf m := by
          rw [h2]
          intro e
          have := congrArg List.length e
          unfold meOf at this
          simp at this
        rw [decide_eq_true h2] at q2
        rw [decide_eq_false h1] at q1
        by_cases h3 : nP + 1 < 16
        · obtain ⟨p, hp⟩ : ∃ p, prt l f at_ = p := ⟨_, rfl⟩
          have cP1 := fun W1 o => partOf_any ((HBT.out).keep (show Only [] w W1 from o)) (by omega) f at_ hf hat
          rw [hp] at cP1
          obtain ⟨p1, p2⟩ := p
          unfold pv at cP1
          have HE2 : Hid ((ps ++ [(p1, p2)]) ++ pin l m at2 at2 (nP + 1) (lns (l.drop at2)) = G) := by
            show _ = _
            rw [← HE1.out, if_pos ⟨h2, h3⟩, hp]
            simp
          have h3' : (nP : Int) + 1 < 16 := by omega
          have hn' : (nP : Int) ≤ 16 := by omega
          clear h1 h2 hp
          go_wp2_with first
            | (go_at_call 26; (with_reducible refine cN.mono ?_); rintro e w1 ⟨A2, c2, rfl, hO1, hB1, _⟩; have hcv := run_str_sl (P := Tryd.prog) 24 9 5 A2 q c2 T Tryd.underlying24 Tryd.underlying5 Tryd.underlying9 hB1.sl; rw [HTT.out] at hcv; have hOW := hO.then hO1; have hO1' := Lib.hid hO1; clear hO1)
            | (go_at_call 27; (with_reducible refine (cP1 _ hOW).mono ?_); rintro e w2 ⟨rfl, hO2⟩; have hOX := hOW.then hO2; have hBK := Bk.new w2 29 #[.int .i64 (p1 : Int), .int .i64 (p2 : Int)]; have hP2 := (hP.keep (hO1'.out.then hO2)).keep ((Only.refl [] w2).alloc (.cells #[.int .i64 (p1 : Int), .int .i64 (p2 : Int)] 29)))
            | (at_builtin; refine wpList_append_pt rfl (.tmp 54) (.tmp 59) rfl AP nP cP ps rfl hP2 p1 p2 w2.heap.size 29 rfl hBK (by omega) ?_; intro A5 c5 w5 hP5 hO5 hB5)
          go_step3
          have hsz := hOX.size
          refine And.intro (show BB w A n c tm te l m G 1 _ _ from ⟨at2, A5, nP + 1, c5, ps ++ [(p1, p2)], _, _, _, _, _, _, _, _, _, _, _, _, _, _, _, _, _, _, _, _, _, _, _, _, _, _, _, _, _, _, _, _, _, _, _, _, _, _, _, _, _, _, _, _, _, _, _, _, _, _, _, _, _, _, _, _, _, _, _, _, _, _, _, _, _, _, rfl, hP5, (fun x hx => by
            rcases hB5 x hx with h | h
            · exact hbP x h
            · simp at h; omega), (hOX.then ((Only.refl [] w2).alloc _)).trans hO5 (fun x hx => .inr (hbP x hx)), by omega, h3, HE2⟩) ?_
          show 8 * (n - ((at2 : Nat) : Int).toNat) + 2 < 8 * (n - ((at_ : Nat) : Int).toNat) + 1
          omega
        · have HE2 : Hid (ps ++ pin l m f at2 nP (lns (l.drop at2)) = G) := by
            show _ = _
            rw [← HE1.out, if_neg (fun h => h3 h.2), if_neg h1]
          have h3' : ¬ (nP : Int) + 1 < 16 := by omega
          have h3b : (16 : Int) ≤ (nP : Int) + 1 := by omega
          have hn' : (nP : Int) ≤ 16 := by omega
          clear h1 h2
          go_wp2_with (go_at_call 26; (with_reducible refine cN.mono ?_); rintro e w1 ⟨A2, c2, rfl, hO1, hB1, _⟩; have hcv := run_str_sl (P := Tryd.prog) 24 9 5 A2 q c2 T Tryd.underlying24 Tryd.underlying5 Tryd.underlying9 hB1.sl; rw [HTT.out] at hcv; have hOW := hO.then hO1; have hO1' := Lib.hid hO1; clear hO1)
          go_step3
          refine And.intro (show BB w A n c tm te l m G 2 _ _ from ⟨at2, AP, nP, cP, ps, f, _, _, _, _, _, _, _, _, _, _, _, _, _, _, _, _, _, _, _, _, _, _, _, _, _, _, _, _, _, _, _, _, _, _, _, _, _, _, _, _, _, _, _, _, _, _, _, _, _, _, _, _, _, _, _, _, _, _, _, _, _, _, _, _, _, rfl, hP.keep hO1'.out, hbP, hOW, by omega, hn, by omega, HE2⟩) ?_
          show 8 * (n - ((at2 : Nat) : Int).toNat) + 1 < 8 * (n - ((at_ : Nat) : Int).toNat) + 1
          omega
      · rw [decide_eq_false h2] at q2
        by_cases h1 : T = meOf m
        · have HE2 : Hid (ps ++ [prt l f at_] = G) := by
            show _ = _
            rw [← HE1.out, if_neg (fun h => h2 h.1), if_pos h1]
          rw [decide_eq_true h1] at q1
          clear h1 h2
          go_wp2_with (go_at_call 26; (with_reducible refine cN.mono ?_); rintro e w1 ⟨A2, c2, rfl, hO1, hB1, _⟩; have hcv := run_str_sl (P := Tryd.prog) 24 9 5 A2 q c2 T Tryd.underlying24 Tryd.underlying5 Tryd.underlying9 hB1.sl; rw [HTT.out] at hcv; have hOW := hO.then hO1; have hO1' := Lib.hid hO1; clear hO1)
          rename_i hK
          refine wp_label (hK _ _ (p3 _ _ (show B3 w A n c tm te l G _ _ from ⟨at2, AP, nP, cP, ps, f, at_, _, _, _, _, _, _, _, _, _, _, _, _, _, _, _, _, _, _, _, _, _, _, _, _, _, _, _, _, _, _, _, _, _, _, _, _, _, _, _, _, _, _, _, _, _, _, _, _, _, _, _, _, _, _, _, _, _, _, _, _, _, _, _, _, rfl, hP.keep hO1'.out, hbP, hOW, hat, hn, hf, HE2⟩) _ ?_))
          show 8 * (n - ((at2 : Nat) : Int).toNat) + 0 ≤ 8 * (n - ((at_ : Nat) : Int).toNat) + 1
          omega
        · have HE2 : Hid (ps ++ pin l m f at2 nP (lns (l.drop at2)) = G) := by
            show _ = _
            rw [← HE1.out, if_neg (fun h => h2 h.1), if_neg h1]
          rw [decide_eq_false h1] at q1
          clear h1 h2
          go_wp2_with (go_at_call 26; (with_reducible refine cN.mono ?_); rintro e w1 ⟨A2, c2, rfl, hO1, hB1, _⟩; have hcv := run_str_sl (P := Tryd.prog) 24 9 5 A2 q c2 T Tryd.underlying24 Tryd.underlying5 Tryd.underlying9 hB1.sl; rw [HTT.out] at hcv; have hOW := hO.then hO1; have hO1' := Lib.hid hO1; clear hO1)
          go_step3
          refine And.intro (show BB w A n c tm te l m G 2 _ _ from ⟨at2, AP, nP, cP, ps, f, _, _, _, _, _, _, _, _, _, _, _, _, _, _, _, _, _, _, _, _, _, _, _, _, _, _, _, _, _, _, _, _, _, _, _, _, _, _, _, _, _, _, _, _, _, _, _, _, _, _, _, _, _, _, _, _, _, _, _, _, _, _, _, _, _, rfl, hP.keep hO1'.out, hbP, hOW, by omega, hn, by omega, HE2⟩) ?_
          show 8 * (n - ((at2 : Nat) : Int).toNat) + 1 < 8 * (n - ((at_ : Nat) : Int).toNat) + 1
          omega
    · obtain rfl : at_ = n := by omega
      have HE2 : Hid (ps ++ [prt l f at_] = G) := by
        show _ = _
        rw [← HE.out, List.drop_of_length_le (by rw [HN.out]; exact Nat.le_refl _), lns_nil, pin]
      go_wp2_with fail
      go_step3
      refine And.intro (show BB w A at_ c tm te l m G 3 _ _ from ⟨at_, AP, nP, cP, ps, f, at_, _, _, _, _, _, _, _, _, _, _, _, _, _, _, _, _, _, _, _, _, _, _, _, _, _, _, _, _, _, _, _, _, _, _, _, _, _, _, _, _, _, _, _, _, _, _, _, _, _, _, _, _, _, _, _, _, _, _, _, _, _, _, _, _, rfl, hP, hbP, hO, Nat.le_refl _, hn, hf, HE2⟩) ?_
      show 8 * (at_ - ((at_ : Nat) : Int).toNat) + 0 < 8 * (at_ - ((at_ : Nat) : Int).toNat) + 1
      omega
  case pass3 =>
    clear hadd
    rintro a' W ⟨at_, AP, nP, cP, ps, f, t, u3, u4, u5, u8, u12, u13, u14, u15, u16, u17, u18, u19, u20, u21, u22, u23, u24, u25, u26, u27, u28, u29, u30, u31, u32, u33, u34, u35, u36, u37, u38, u39, u40, u41, u42, u43, u44, u45, u46, u47, u48, u49, u50, u51, u52, u53, u54, u55, u56, u57, u58, u59, u60, u61, u62, u63, u64, u65, u66, u67, u68, u69, u70, u71, rfl, hP, hbP, hO, ht, hn, hf, HE⟩
    obtain ⟨p, hp⟩ : ∃ p, prt l f t = p := ⟨_, rfl⟩
    have cP1 := fun W1 o => partOf_any ((HBT.out).keep (show Only [] w W1 from o)) (by omega) f t hf ht
    have hpl := hP.len
    rw [hp] at cP1
    obtain ⟨p1, p2⟩ := p
    unfold pv at cP1
    have HE2 : Hid (ps ++ [(p1, p2)] = G) := by
      show _ = _
      rw [← HE.out, hp]
    have HGL : Hid (G.length = nP + 1) := by
      show _ = _
      rw [← HE2.out, List.length_append, hpl]
      rfl
    clear hp hpl
    go_wp2_with first
      | (go_at_call 27; (with_reducible refine (cP1 _ hO).mono ?_); rintro e w2 ⟨rfl, hO2⟩; have hOX := hO.then hO2; have hBK := Bk.new w2 29 #[.int .i64 (p1 : Int), .int .i64 (p2 : Int)]; have hP2 := (hP.keep hO2).keep ((Only.refl [] w2).alloc (.cells #[.int .i64 (p1 : Int), .int .i64 (p2 : Int)] 29)))
      | (at_builtin; refine wpList_append_pt rfl (.tmp 65) (.tmp 70) rfl AP nP cP ps rfl hP2 p1 p2 w2.heap.size 29 rfl hBK (by omega) ?_; intro A5 c5 w5 hP5 hO5 hB5)
    simp only [jumps]
    go_ret
    have hsz := hOX.size
    rw [HE2.out] at hP5
    refine ⟨A5, c5, by rw [HGL.out]; rfl, by rw [HGL.out]; exact hP5, (hOX.then ((Only.refl [] w2).alloc _)).trans hO5 (fun x hx => .inr (hbP x hx)), fun x hx => ?_⟩
    rcases hB5 x hx with h | h
    · exact hbP x h
    · simp at h; omega
end
end Go.Proofs.YtakehogenioobaaDoor
