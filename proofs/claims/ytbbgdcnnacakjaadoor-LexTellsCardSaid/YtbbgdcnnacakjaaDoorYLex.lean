/-
  lex.Lex (laid by gen/ylex.py).
-/
import Derived.Test.YtbbgdcnnacakjaaDoorYTok
import Derived.Test.YtbbgdcnnacakjaaDoorGst
namespace Go.Proofs.YtbbgdcnnacakjaaDoor
open Go.RowKit Go.Instr

/-! ### What is looked at, line by line -/
theorem fit_want : ∀ {ls bs : List (List UInt8)} {k : Nat} (_ : fitL ls bs = true) (h1 : k < ls.length) (h2 : k < bs.length), wantL ls[k] = some (bs[k]).length
  | l :: ls, b :: bs, k, h, h1, h2 => by
    rw [fitL] at h
    simp only [Bool.and_eq_true, decide_eq_true_eq] at h
    cases k with
    | zero => exact h.1
    | succ k => exact fit_want h.2 (by simpa using h1) (by simpa using h2)
theorem laid_len : ∀ {ls bs : List (List UInt8)}, ls.length = bs.length + 1 → (laidL ls bs).length = ls.length
  | [], _, h => by simp at h
  | _ :: _, [], _ => rfl
  | l :: ls, b :: bs, h => by
    rw [laidL, List.length_cons, List.length_cons, laid_len (by simpa using h)]
theorem laid_at : ∀ {ls bs : List (List UInt8)} {k : Nat} (h1 : k < ls.length) (_ : k < bs.length), (laidL ls bs)[k]? = some (aheadL ls[k])
  | l :: ls, b :: bs, k, h1, h2 => by
    rw [laidL]
    cases k with
    | zero => rfl
    | succ k =>
      rw [List.getElem?_cons_succ]
      exact laid_at (by simpa using h1) (by simpa using h2)
theorem laid_last : ∀ {ls bs : List (List UInt8)} {k : Nat} (_ : k = bs.length) (h : k < ls.length), (laidL ls bs)[k]? = some ls[k]
  | l :: ls, [], k, _, h => by
    show (l :: ls)[k]? = _
    exact List.getElem?_eq_getElem h
  | l :: ls, b :: bs, k, e, h => by
    rw [laidL]
    cases k with
    | zero => simp at e
    | succ k =>
      rw [List.getElem?_cons_succ]
      exact laid_last (by simpa using e) (by simpa using h)
theorem cut_take {l a : List UInt8} {m : Nat} (h : cutL l = some (a, m)) : a = l.take a.length ∧ a.length ≤ l.length := by
  unfold cutL at h
  split at h
  · split at h
    · cases h
    · rename_i i hi
      split at h
      · cases h
      · simp only [Option.some.injEq, Prod.mk.injEq] at h
        have h1 := lastI_lt hi
        rw [List.length_dropLast] at h1
        rw [← h.1, List.length_take, List.length_dropLast, Nat.min_eq_left (by omega), List.dropLast_eq_take, List.take_take, Nat.min_eq_left (by omega)]
        exact ⟨rfl, by omega⟩
  · cases h
theorem cut_of_want {l : List UInt8} {m : Nat} (h : wantL l = some m) : cutL l = some (aheadL l, m) := by
  unfold wantL at h
  unfold aheadL
  cases hc : cutL l with
  | none => rw [hc] at h; cases h
  | some p =>
    obtain ⟨a, b⟩ := p
    rw [hc] at h
    simp at h
    simp [h]
/-- What is answered once a line's tokens are told. -/
def contL (x : Except Int (List Tkn)) (ps : List (List UInt8 × List UInt8)) : Except Int (List Tkn) := match x with
  | .error e => .error e
  | .ok T => litsL T ps
def pairsL (ls bs : List (List UInt8)) (k : Nat) : List (List UInt8 × List UInt8) := (bs.drop k).zip ((laidL ls bs).drop (k + 1))
/-- What is answered from a line on. -/
def fromL (ls bs : List (List UInt8)) (k : Nat) (T : List Tkn) : Except Int (List Tkn) := contL (lineL T ((laidL ls bs).getD k [])) (pairsL ls bs k)
theorem lex_from {ls bs : List (List UInt8)} (h : fitL ls bs = true) : lexL ls bs = fromL ls bs 0 [] := by
  unfold lexL fromL pairsL contL
  rw [if_pos h]
  have hl := laid_len (fit_len h)
  have h0 := fit_len h
  cases hx : laidL ls bs with
  | nil => rw [hx] at hl; simp at hl; omega
  | cons l r =>
    simp only [List.getD_cons_zero, List.drop_zero]
    rw [List.drop_one, List.tail_cons]
    cases lineL [] l <;> rfl
theorem lits_end {ls bs : List (List UInt8)} {T : List Tkn} : litsL T (pairsL ls bs bs.length) = .ok T := by
  unfold pairsL
  rw [List.drop_of_length_le (Nat.le_refl _)]
  rfl
theorem lits_at {ls bs : List (List UInt8)} {k : Nat} (h : ls.length = bs.length + 1) (h2 : k < bs.length) (T : List Tkn) : litsL T (pairsL ls bs k) = if T.length = 64 then .error 5 else fromL ls bs (k + 1) (T ++ [(2, bs[k])]) := by
  have hl := laid_len h
  unfold fromL pairsL contL
  rw [List.drop_eq_getElem_cons h2, List.drop_eq_getElem_cons (i := k + 1) (l := laidL ls bs) (by omega), List.zip_cons_cons, litsL]
  have hg : (laidL ls bs).getD (k + 1) [] = (laidL ls bs)[k + 1]'(by omega) := by simp [List.getD, show k + 1 < (laidL ls bs).length by omega]
  rw [hg]
  split
  · rfl
  · cases lineL (T ++ [(2, bs[k])]) ((laidL ls bs)[k + 1]'(by omega)) <;> rfl
theorem cont_nil {T : List Tkn} {l : List UInt8} {ps : List (List UInt8 × List UInt8)} (h : trimL l = []) : contL (lineL T l) ps = litsL T ps := by
  rw [lineL_nil h]; rfl
theorem cont_long {T : List Tkn} {l : List UInt8} {ps : List (List UInt8 × List UInt8)} {c : UInt8} {r : List UInt8} (h : trimL l = c :: r) (hT : T.length = 64) : contL (lineL T l) ps = .error 5 := by
  rw [lineL_long h hT]; rfl
theorem cont_bad {T : List Tkn} {l : List UInt8} {ps : List (List UInt8 × List UInt8)} {c : UInt8} {r : List UInt8} (h : trimL l = c :: r) (hT : T.length ≠ 64) (hk : tokL (c :: r) = none) : contL (lineL T l) ps = .error 3 := by
  rw [lineL_bad h hT hk]; rfl

/-! ### Rows of tokens -/
def tkl (t : Tkn) : List Value := [.int .i64 t.1, .string (St t.2)]
theorem tkl_len (t : Tkn) : (tkl t).length = 2 := rfl
theorem tkl_one (t : Tkn) : One1 (tkl t) := by
  intro u hu
  simp only [tkl, List.mem_cons, List.not_mem_nil, or_false] at hu
  rcases hu with rfl | rfl <;> rfl
theorem infoTok3 : (Tryd.prog.info? 40).map (fun i => (i.zero, i.size, i.bytes)) = some (some (.agg #[.int .i64 0, .string ⟨#[]⟩]), 2, 24) := by kernel_rfl
/-- A token laid in the variable's cells, and in a new row of one. -/
theorem tok_next {W w3 : World} {g n c : Nat} {A : Option Addr} {xs : List Value} {t : Tkn} (HT : Gw 2 W 40 A n c xs) (HA : ∀ x ∈ blks A, g < x) (HB : Bk W g 40 (tkc t)) (O3 : Only [] W w3) (t1 : Int) (t2 : List UInt8) :
    Gw 2 (((w3.setCell ⟨g, 0, none⟩ (.int .i64 t1)).setCell ⟨g, 1, none⟩ (.string (St t2))).alloc (.cells #[.int .i64 t1, .string (St t2)] 40)) 40 A n c xs ∧
    Gr 2 (((w3.setCell ⟨g, 0, none⟩ (.int .i64 t1)).setCell ⟨g, 1, none⟩ (.string (St t2))).alloc (.cells #[.int .i64 t1, .string (St t2)] 40)) (some ⟨w3.heap.size, 0, none⟩) 1 (tkl (t1, t2)) ∧
    Bk (((w3.setCell ⟨g, 0, none⟩ (.int .i64 t1)).setCell ⟨g, 1, none⟩ (.string (St t2))).alloc (.cells #[.int .i64 t1, .string (St t2)] 40)) g 40 (tkc (t1, t2)) ∧
    Only [g] W (((w3.setCell ⟨g, 0, none⟩ (.int .i64 t1)).setCell ⟨g, 1, none⟩ (.string (St t2))).alloc (.cells #[.int .i64 t1, .string (St t2)] 40)) := by
  have O4 : Only [g] W (((w3.setCell ⟨g, 0, none⟩ (.int .i64 t1)).setCell ⟨g, 1, none⟩ (.string (St t2))).alloc (.cells #[.int .i64 t1, .string (St t2)] 40)) :=
    (((O3.mono (ss := [g]) (fun _ h => nomatch h)).setCell (p := ⟨g, 0, none⟩) (.inl (by simp)) _).setCell (p := ⟨g, 1, none⟩) (.inl (by simp)) _).alloc _
  refine ⟨HT.only O4 (fun x hx hm => by have := HA x hx; simp at hm; omega), ?_, (tok_set (HB.only O3 (fun hm => nomatch hm)) (t1, t2)).alloc _, O4⟩
  have h := Gr.of_bk (k := 2) (cs := tkl (t1, t2)) (Bk.new ((w3.setCell ⟨g, 0, none⟩ (.int .i64 t1)).setCell ⟨g, 1, none⟩ (.string (St t2))) 40 #[.int .i64 t1, .string (St t2)]) rfl
  have e : ((w3.setCell ⟨g, 0, none⟩ (.int .i64 t1)).setCell ⟨g, 1, none⟩ (.string (St t2))).heap.size = w3.heap.size := by simp [World.setCell]
  rw [e] at h
  exact h
/-- What Lex answers. -/
def LexR (w : World) (G : Except Int (List Tkn)) (e : Ending) (w' : World) : Prop :=
  Only [] w w' ∧ match G with
    | .error x => e = .returned (.tuple #[.slice none 0 0, .int .i64 x])
    | .ok T => ∃ A c, e = .returned (.tuple #[.slice A T.length c, .int .i64 0]) ∧ Gw 2 w' 40 A T.length c (gx tkl T) ∧ ∀ x ∈ blks A, w.heap.size ≤ x
section
variable (w : World) (LA LB : Option Addr) (nl lc nb bc : Nat) (ls bs : List (List UInt8)) (g : Nat) (G : Except Int (List Tkn))
def XJ1 (a : Act) (W : World) : Prop :=
  ∃ (k : Nat) (T : List Tkn) (A : Option Addr) (n c : Nat), ∃ (u2 u3 u8 u9 u11 u12 u13 u14 u15 u16 u17 u18 u19 u20 u21 u22 u23 u24 u25 u26 u27 u28 u29 u30 u31 u32 u33 u34 u35 u36 u37 u38 u39 u40 u41 u42 u43 u44 u45 u46 u47 u48 u49 u50 u51 u52 u53 u54 u55 u56 u57 u58 u59 u60 u61 u62 u63 u64 u65 u66 u67 : Value), a = { tmps := #[.slice LA nl lc, .slice LB nb bc, u2, u3, .slice none 0 0, .int .i64 0, .slice A n c, .pointer (some ⟨g, 0, none⟩), u8, u9, .int .i64 (k : Int), u11, u12, u13, u14, u15, u16, u17, u18, u19, u20, u21, u22, u23, u24, u25, u26, u27, u28, u29, u30, u31, u32, u33, u34, u35, u36, u37, u38, u39, u40, u41, u42, u43, u44, u45, u46, u47, u48, u49, u50, u51, u52, u53, u54, u55, u56, u57, u58, u59, u60, u61, u62, u63, u64, u65, u66, u67], defers := [] } ∧ Hid (fitL ls bs = true) ∧ k ≤ nb ∧ Gw 2 W 40 A n c (gx tkl T) ∧ T.length = n ∧ n ≤ 64 ∧ (∀ x ∈ blks A, g < x) ∧ (∃ t, Bk W g 40 (tkc t)) ∧ Only [] w W ∧ Hid (G = fromL ls bs k T)
def XJ2 (a : Act) (W : World) : Prop :=
  ∃ (k : Nat) (T : List Tkn) (A : Option Addr) (n c : Nat) (R : Option Addr) (m d : Nat) (l : List UInt8), ∃ (u2 u3 u9 u11 u12 u13 u14 u15 u16 u17 u18 u19 u20 u21 u22 u23 u24 u25 u26 u27 u28 u29 u30 u31 u32 u33 u34 u35 u36 u37 u38 u39 u40 u41 u42 u43 u44 u45 u46 u47 u48 u49 u50 u51 u52 u53 u54 u55 u56 u57 u58 u59 u60 u61 u62 u63 u64 u65 u66 u67 : Value), a = { tmps := #[.slice LA nl lc, .slice LB nb bc, u2, u3, .slice none 0 0, .int .i64 0, .slice A n c, .pointer (some ⟨g, 0, none⟩), .slice R m d, u9, .int .i64 (k : Int), u11, u12, u13, u14, u15, u16, u17, u18, u19, u20, u21, u22, u23, u24, u25, u26, u27, u28, u29, u30, u31, u32, u33, u34, u35, u36, u37, u38, u39, u40, u41, u42, u43, u44, u45, u46, u47, u48, u49, u50, u51, u52, u53, u54, u55, u56, u57, u58, u59, u60, u61, u62, u63, u64, u65, u66, u67], defers := [] } ∧ Hid (fitL ls bs = true) ∧ k ≤ nb ∧ Gw 2 W 40 A n c (gx tkl T) ∧ T.length = n ∧ n ≤ 64 ∧ (∀ x ∈ blks A, g < x) ∧ (∃ t, Bk W g 40 (tkc t)) ∧ Only [] w W ∧ Bt W R m d l ∧ (0 < m → ∀ x ∈ blks R, x < g) ∧ m ≤ 140737488355000 ∧ Hid (G = contL (lineL T l) (pairsL ls bs k))
def XJ3 (a : Act) (W : World) : Prop :=
  ∃ (k : Nat) (T : List Tkn) (A : Option Addr) (n c : Nat), ∃ (u2 u3 u8 u9 u11 u12 u13 u14 u15 u16 u17 u18 u19 u20 u21 u22 u23 u24 u25 u26 u27 u28 u29 u30 u31 u32 u33 u34 u35 u36 u37 u38 u39 u40 u41 u42 u43 u44 u45 u46 u47 u48 u49 u50 u51 u52 u53 u54 u55 u56 u57 u58 u59 u60 u61 u62 u63 u64 u65 u66 u67 : Value), a = { tmps := #[.slice LA nl lc, .slice LB nb bc, u2, u3, .slice none 0 0, .int .i64 0, .slice A n c, .pointer (some ⟨g, 0, none⟩), u8, u9, .int .i64 (k : Int), u11, u12, u13, u14, u15, u16, u17, u18, u19, u20, u21, u22, u23, u24, u25, u26, u27, u28, u29, u30, u31, u32, u33, u34, u35, u36, u37, u38, u39, u40, u41, u42, u43, u44, u45, u46, u47, u48, u49, u50, u51, u52, u53, u54, u55, u56, u57, u58, u59, u60, u61, u62, u63, u64, u65, u66, u67], defers := [] } ∧ Hid (fitL ls bs = true) ∧ k ≤ nb ∧ Gw 2 W 40 A n c (gx tkl T) ∧ T.length = n ∧ n ≤ 64 ∧ (∀ x ∈ blks A, g < x) ∧ (∃ t, Bk W g 40 (tkc t)) ∧ Only [] w W ∧ Hid (G = litsL T (pairsL ls bs k))
def XJE (x : Int) (a : Act) (W : World) : Prop :=
  ∃ (u0 u1 u2 u3 u4 u5 u6 u7 u8 u9 u10 u11 u12 u13 u14 u15 u16 u17 u18 u19 u20 u21 u22 u23 u24 u25 u26 u27 u28 u29 u30 u31 u32 u33 u34 u35 u36 u37 u38 u39 u40 u41 u42 u43 u44 u45 u46 u47 u48 u49 u50 u51 u52 u53 u54 u55 u56 u57 u58 u59 u60 u61 u62 u63 u64 u65 u66 u67 : Value), a = { tmps := #[u0, u1, u2, u3, u4, u5, u6, u7, u8, u9, u10, u11, u12, u13, u14, u15, u16, u17, u18, u19, u20, u21, u22, u23, u24, u25, u26, u27, u28, u29, u30, u31, u32, u33, u34, u35, u36, u37, u38, u39, u40, u41, u42, u43, u44, u45, u46, u47, u48, u49, u50, u51, u52, u53, u54, u55, u56, u57, u58, u59, u60, u61, u62, u63, u64, u65, u66, u67], defers := [] } ∧ Only [] w W ∧ Hid (G = .error x)
def XJ : Nat → Act → World → Prop
  | 0 => XJE w G 3
  | 1 => XJ1 w LA LB nl lc nb bc ls bs g G
  | 2 => XJ2 w LA LB nl lc nb bc ls bs g G
  | 3 => XJ3 w LA LB nl lc nb bc ls bs g G
  | 4 => XJE w G 5
  | _ => fun _ _ => False
end
def xmu (nb : Nat) (l : Nat) (a : Act) (_ : World) : Nat := match l with
  | 1 => (nb + 1 - (intOf (a.tmps.getD 10 undef)).toNat) * 1125899906842624 + 1125899906842623
  | 2 => (nb + 1 - (intOf (a.tmps.getD 10 undef)).toNat) * 1125899906842624 + 2 * lenS (a.tmps.getD 8 undef) + 3
  | 3 => (nb + 1 - (intOf (a.tmps.getD 10 undef)).toNat) * 1125899906842624 + 1
  | _ => 0
set_option maxRecDepth 100000 in
set_option maxHeartbeats 8000000 in
theorem Lex_any {w : World} {LA LB : Option Addr} {nl lc nb bc : Nat} {ls bs : List (List UInt8)} (hs : Rb w LA nl ls) (hb : Rb w LB nb bs) (hnb : nb ≤ 140737488355000) (hnl : nl ≤ 140737488355328) (hl : ∀ l ∈ ls, l.length ≤ 140737488355000) :
    Calls Tryd.prog 10 #[.slice LA nl lc, .slice LB nb bc] w (LexR w (lexL ls bs)) := by
  have HO0 : Hid (Only [] w (w.alloc (.cells #[.int .i64 0, .string ⟨#[]⟩] 40))) := (Only.refl _ _).alloc _
  have HB0 : Hid (Bk (w.alloc (.cells #[.int .i64 0, .string ⟨#[]⟩] 40)) w.heap.size 40 (tkc (0, []))) := Bk.new w 40 #[.int .i64 0, .string ⟨#[]⟩]
  have HF := Lib.hid (fit_any (c := lc) (d := bc) (hs.keep HO0.out) (hb.keep HO0.out) hnl (by omega) (fun l h => by have := hl l h; omega))
  have HS := Lib.hid hs
  have HB := Lib.hid hb
  have HL := Lib.hid hl
  obtain ⟨G, hG⟩ : ∃ G, lexL ls bs = G := ⟨_, rfl⟩
  rw [hG]
  have HG := Lib.hid hG
  have HNL := Lib.hid hs.len
  have HNB := Lib.hid hb.len
  obtain ⟨g, hg⟩ : ∃ g, w.heap.size = g := ⟨_, rfl⟩
  rw [hg] at HB0
  have HGG := Lib.hid hg
  have e64 : ∀ k : Nat, k ≠ 64 → ((k : Int) == 64) = false := fun k h => by rw [beq_eq_false_iff_ne]; omega
  have E64 := Lib.hid e64
  clear hs hb hl hG hg e64
  go_enter Tryd.func10, Tryd.ntmps10
  go_wp2_with fail
  refine wp_scope_quin (XJ w LA LB nl lc nb bc ls bs g G) (xmu nb) rfl rfl rfl rfl rfl (fun l a w h => h) ?pass0 ?pass4 ?pass3 ?pass2 ?pass1 ?first
  case first =>
    intro p
    cases hfit : fitL ls bs with
    | false =>
      have HN : Hid (G = .error 3) := by
        show _ = _
        rw [← HG.out]
        unfold lexL
        rw [hfit]
        rfl
      rw [hfit] at HF
      clear hfit HS HB HL
      go_wp2_with (go_at_call 20; with_reducible refine HF.out.mono ?_; rintro e w2 ⟨rfl, O2⟩)
      go_step3
      exact (show XJ w LA LB nl lc nb bc ls bs g G 0 _ _ from ⟨_, _, _, _, _, _, _, _, _, _, _, _, _, _, _, _, _, _, _, _, _, _, _, _, _, _, _, _, _, _, _, _, _, _, _, _, _, _, _, _, _, _, _, _, _, _, _, _, _, _, _, _, _, _, _, _, _, _, _, _, _, _, _, _, _, _, _, _, rfl, HO0.out.then O2, HN⟩)
    | true =>
      have HN : Hid (G = fromL ls bs 0 []) := by
        show _ = _
        rw [← HG.out, lex_from hfit]
      have HFIT := Lib.hid hfit
      rw [hfit] at HF
      clear hfit HS HB HL
      go_wp2_with (go_at_call 20; with_reducible refine HF.out.mono ?_; rintro e w2 ⟨rfl, O2⟩)
      rename_i hK
      refine wp_label (hK _ _ (p _ _ ?_))
      rw [HGG.out]
      exact (show XJ w LA LB nl lc nb bc ls bs g G 1 _ _ from ⟨0, [], none, 0, 0, _, _, _, _, _, _, _, _, _, _, _, _, _, _, _, _, _, _, _, _, _, _, _, _, _, _, _, _, _, _, _, _, _, _, _, _, _, _, _, _, _, _, _, _, _, _, _, _, _, _, _, _, _, _, _, _, _, _, _, _, _, rfl, HFIT, Nat.zero_le _, Gw.nil 2 _ _, rfl, by omega, (fun _ h => nomatch h), ⟨_, HB0.out.only O2 (fun hm => nomatch hm)⟩, HO0.out.then O2, HN⟩)
  case pass0 =>
    clear HB0 HO0 HG HF HS HB HL
    rintro a' W ⟨u0, u1, u2, u3, u4, u5, u6, u7, u8, u9, u10, u11, u12, u13, u14, u15, u16, u17, u18, u19, u20, u21, u22, u23, u24, u25, u26, u27, u28, u29, u30, u31, u32, u33, u34, u35, u36, u37, u38, u39, u40, u41, u42, u43, u44, u45, u46, u47, u48, u49, u50, u51, u52, u53, u54, u55, u56, u57, u58, u59, u60, u61, u62, u63, u64, u65, u66, u67, rfl, hO, HE⟩
    go_wp2_with fail
    simp only [jumps]
    go_ret2
    exact ⟨hO, by rw [HE.out]; rfl⟩
  case pass4 =>
    clear HB0 HO0 HG HF HS HB HL
    rintro a' W ⟨u0, u1, u2, u3, u4, u5, u6, u7, u8, u9, u10, u11, u12, u13, u14, u15, u16, u17, u18, u19, u20, u21, u22, u23, u24, u25, u26, u27, u28, u29, u30, u31, u32, u33, u34, u35, u36, u37, u38, u39, u40, u41, u42, u43, u44, u45, u46, u47, u48, u49, u50, u51, u52, u53, u54, u55, u56, u57, u58, u59, u60, u61, u62, u63, u64, u65, u66, u67, rfl, hO, HE⟩
    go_wp2_with fail
    simp only [jumps]
    go_ret2
    exact ⟨hO, by rw [HE.out]; rfl⟩
  case pass3 =>
    clear HB0 HO0 HG HF HL
    rintro a' W ⟨k, T, A, n, c, u2, u3, u8, u9, u11, u12, u13, u14, u15, u16, u17, u18, u19, u20, u21, u22, u23, u24, u25, u26, u27, u28, u29, u30, u31, u32, u33, u34, u35, u36, u37, u38, u39, u40, u41, u42, u43, u44, u45, u46, u47, u48, u49, u50, u51, u52, u53, u54, u55, u56, u57, u58, u59, u60, u61, u62, u63, u64, u65, u66, u67, rfl, HFIT, hk, hT, hTl, hn64, hA, ⟨t, hB⟩, hO, HE⟩
    have hfl := fit_len HFIT.out
    have hbl := HNB.out
    by_cases hkn : k = nb
    · have hkb := hkn.symm
      subst hkb
      have HN : Hid (G = .ok T) := by show _ = _; rw [HE.out, ← hbl]; exact lits_end
      have HT := Lib.hid hT
      have HA := Lib.hid hA
      have HO := Lib.hid hO
      have HTL := Lib.hid hTl
      clear hT hA hB hO hfl hbl hTl
      go_wp2_with fail
      simp only [jumps]
      go_ret2
      refine ⟨HO.out, ?_⟩
      rw [HN.out]
      refine ⟨A, c, ?_, ?_, fun x hx => by have := HA.out x hx; have := HGG.out; omega⟩
      · rw [HTL.out]; rfl
      · rw [HTL.out]; exact HT.out
    · have hlt : k < nb := by omega
      have hlt' : (k : Int) < (nb : Int) := by omega
      have hkb : ((k : Int) == (nb : Int)) = false := by rw [beq_eq_false_iff_ne]; omega
      have hkl : k < bs.length := by rw [hbl]; exact hlt
      have hat := lits_at hfl hkl T
      rw [← HE.out] at hat
      by_cases h64 : n = 64
      · subst h64
        have HN : Hid (G = .error 5) := by show _ = _; rw [hat, if_pos hTl]
        have HO := Lib.hid hO
        clear hT hA hB hO hfl hbl hTl hat
        go_wp2_with fail
        go_step3
        refine And.intro (show XJ w LA LB nl lc nb bc ls bs g G 4 _ _ from ⟨_, _, _, _, _, _, _, _, _, _, _, _, _, _, _, _, _, _, _, _, _, _, _, _, _, _, _, _, _, _, _, _, _, _, _, _, _, _, _, _, _, _, _, _, _, _, _, _, _, _, _, _, _, _, _, _, _, _, _, _, _, _, _, _, _, _, _, _, rfl, HO.out, HN⟩) ?_
        show (0 : Nat) < _ + 1
        exact Nat.succ_pos _
      · rw [if_neg (by rw [hTl]; exact h64)] at hat
        have hn64' := E64.out n h64
        obtain ⟨bd, Bi, di, rfl, c1, b1⟩ := (HB.out.keep hO).at_ hlt hkl
        obtain ⟨b, hbb⟩ : ∃ b, bs[k] = b := ⟨_, rfl⟩
        rw [hbb] at c1 b1 hat
        have hcv := run_str_sl (P := Tryd.prog) (w := W) 32 9 5 Bi b.length di b Tryd.underlying32 Tryd.underlying5 Tryd.underlying9 b1.sl
        obtain ⟨y, hy⟩ : ∃ y, b.length = y := ⟨_, rfl⟩
        rw [hy] at c1 hcv
        have HN := Lib.hid hat
        obtain ⟨i0, hi, hz0, hz1, hz2⟩ : ∃ i : TypeInfo, Tryd.prog.info? 40 = some i ∧ i.zero = some (.agg #[.int .i64 0, .string ⟨#[]⟩]) ∧ i.size = 2 ∧ i.bytes = 24 := by
          obtain ⟨i, h1, h2⟩ := Option.map_eq_some_iff.1 infoTok3
          simp only [Prod.mk.injEq] at h2
          exact ⟨i, h1, h2.1, h2.2.1, h2.2.2⟩
        have HT := Lib.hid hT
        have HA := Lib.hid hA
        have HO := Lib.hid hO
        have HBK := Lib.hid hB
        have HTL := Lib.hid hTl
        have hgl := hB.lt
        have hki : (k : Int) + 1 ≤ 140737488355000 := by omega
        have hn9 : n < 64 := by omega
        clear hT hA hB hO hfl hbl hTl hat hbb hy b1
        go_wp2_with (at_builtin; go_must (refine wpList_append_gw rfl (.tmp 57) (.tmp 64) 2 24 rfl 40 i0 _ 24 Tryd.underlying24 hi hz0 hz1 hz2 rfl (by decide) A n c (gx tkl T) rfl (HT.out.keep ((Only.refl [] _).alloc _)) _ 1 1 (tkl (2, b)) rfl (Gr.of_bk (Bk.new _ _ _) rfl) (tkl_one _) (by unfold maxLen; omega) (by omega) (n + 1) rfl ?_); intro A2 c2 w2 HV2 HO2 HB2)
        go_step3
        have hO2 : Only [] w w2 := (HO.out.alloc _).trans HO2 (fun x hx => .inr (by have := HA.out x hx; have := HGG.out; omega))
        refine And.intro (show XJ w LA _ nl lc nb bc ls bs g G 1 _ _ from ⟨k + 1, T ++ [(2, b)], A2, n + 1, c2, _, _, _, _, _, _, _, _, _, _, _, _, _, _, _, _, _, _, _, _, _, _, _, _, _, _, _, _, _, _, _, _, _, _, _, _, _, _, _, _, _, _, _, _, _, _, _, _, _, _, _, _, _, _, _, _, _, _, _, _, _, rfl, HFIT, by omega, by rw [gx_append, gx_one]; exact HV2, by rw [List.length_append, HTL.out]; rfl, by omega, fun x hx => ?_, ⟨t, (HBK.out.alloc _).only HO2 (fun hm => by have := HA.out g hm; omega)⟩, hO2, HN⟩) ?_
        · rcases HB2 x hx with h | h
          · exact HA.out x h
          · simp at h; omega
        · show (nb + 1 - ((k : Int) + 1).toNat) * 1125899906842624 + 1125899906842623 < (nb + 1 - (k : Int).toNat) * 1125899906842624 + 1
          omega
  case pass2 =>
    clear HB0 HO0 HG HF HL HS HB
    rintro a' W ⟨k, T, A, n, c, R, m, d, l, u2, u3, u9, u11, u12, u13, u14, u15, u16, u17, u18, u19, u20, u21, u22, u23, u24, u25, u26, u27, u28, u29, u30, u31, u32, u33, u34, u35, u36, u37, u38, u39, u40, u41, u42, u43, u44, u45, u46, u47, u48, u49, u50, u51, u52, u53, u54, u55, u56, u57, u58, u59, u60, u61, u62, u63, u64, u65, u66, u67, rfl, HFIT, hk, hT, hTl, hn64, hA, ⟨t, hB⟩, hO, hR, hRg, hm, HE⟩
    have htr := trimLeft_any hR
    have htl := trimL_len l
    rw [hR.len] at htl
    have hc0 : W.cell? ⟨g, 0, none⟩ = some (.int .i64 t.1) := by rw [hB.cell]; rfl
    have hc1 : W.cell? ⟨g, 1, none⟩ = some (.string (St t.2)) := by rw [hB.cell]; rfl
    have hf0 := hB.free 0
    have hf1 := hB.free 1
    have hgl := hB.lt
    have HT := Lib.hid hT
    have HA := Lib.hid hA
    have HO := Lib.hid hO
    have HBK := Lib.hid hB
    have HTL := Lib.hid hTl
    cases hl0 : trimL l with
    | nil =>
      rw [hl0] at htr
      have HTR : Hid (Calls Tryd.prog 22 #[.slice R m d, .string ⟨#[32]⟩] W fun e w' => ∃ A2 c2, e = .returned (.slice A2 0 c2) ∧ W = w') := htr.mono fun e w' ⟨A2, n2, c2, he, hw, hb, _⟩ => ⟨A2, c2, by rw [he, show n2 = 0 from hb.len.symm], hw⟩
      have HN : Hid (G = litsL T (pairsL ls bs k)) := by show _ = _; rw [HE.out, cont_nil hl0]
      clear hT hA hB hO hTl hR hRg htr htl hl0 hc0 hc1 hf0 hf1
      go_wp2_with (go_at_call 22; with_reducible refine HTR.out.mono ?_; rintro e w2 ⟨A2, c2, rfl, rfl⟩)
      go_step3
      refine And.intro (show XJ w LA LB nl lc nb bc ls bs g G 3 _ _ from ⟨k, T, A, n, c, _, _, _, _, _, _, _, _, _, _, _, _, _, _, _, _, _, _, _, _, _, _, _, _, _, _, _, _, _, _, _, _, _, _, _, _, _, _, _, _, _, _, _, _, _, _, _, _, _, _, _, _, _, _, _, _, _, _, _, _, _, rfl, HFIT, hk, HT.out, HTL.out, hn64, HA.out, ⟨t, HBK.out⟩, HO.out, HN⟩) ?_
      show (nb + 1 - (k : Int).toNat) * 1125899906842624 + 1 < (nb + 1 - (k : Int).toNat) * 1125899906842624 + 2 * m + 3
      omega
    | cons x r =>
      rw [hl0] at htr htl
      have HTR : Hid (Calls Tryd.prog 22 #[.slice R m d, .string ⟨#[32]⟩] W fun e w' => ∃ A2 c2, e = .returned (.slice A2 (r.length + 1) c2) ∧ W = w' ∧ Bt W A2 (r.length + 1) c2 (x :: r) ∧ ∀ y ∈ blks A2, y < g) := htr.mono fun e w' ⟨A2, n2, c2, he, hw, hb, hbl⟩ => ⟨A2, c2, by rw [he, ← hb.len]; rfl, hw, by have := hb.len; rw [List.length_cons] at this; rw [this]; exact hb, fun y hy => hRg (by simp only [List.length_cons] at htl; omega) y (hbl y hy)⟩
      simp only [List.length_cons] at htl
      by_cases h64 : n = 64
      · subst h64
        have HN : Hid (G = .error 5) := by show _ = _; rw [HE.out, cont_long hl0 hTl]
        have hrz : (((r.length + 1 : Nat) : Int) == 0) = false := by rw [beq_eq_false_iff_ne]; omega
        obtain ⟨q, hq⟩ : ∃ q, r.length = q := ⟨_, rfl⟩
        rw [hq] at HTR hrz
        clear hT hA hB hO hTl hR hRg htr htl hl0 hc0 hc1 hf0 hf1 hq
        go_wp2_with (go_at_call 22; with_reducible refine HTR.out.mono ?_; rintro e w2 ⟨A2, c2, rfl, rfl, hx, hxg⟩)
        go_step3
        refine And.intro (show XJ w LA LB nl lc nb bc ls bs g G 4 _ _ from ⟨_, _, _, _, _, _, _, _, _, _, _, _, _, _, _, _, _, _, _, _, _, _, _, _, _, _, _, _, _, _, _, _, _, _, _, _, _, _, _, _, _, _, _, _, _, _, _, _, _, _, _, _, _, _, _, _, _, _, _, _, _, _, _, _, _, _, _, _, rfl, HO.out, HN⟩) ?_
        show (0 : Nat) < _ + 3
        exact Nat.succ_pos _
      · have hn64' := E64.out n h64
        have hn9 : n < 64 := by omega
        have hne : T.length ≠ 64 := by rw [hTl]; exact h64
        have h32 := trimL_cons hl0
        have HTOK : Hid (∀ A2 c2, Bt W A2 (r.length + 1) c2 (x :: r) → Calls Tryd.prog 23 #[.slice A2 (r.length + 1) c2] W (TokR W A2 (tokL (x :: r)))) := fun A2 c2 hb => token_any hb (by omega) (fun y hy => by
          obtain ⟨ad, rfl, _, hc⟩ := hb.first
          simp at hy
          subst hy
          exact block_lt_of_cell hc)
        have hrz : (((r.length + 1 : Nat) : Int) == 0) = false := by rw [beq_eq_false_iff_ne]; omega
        cases hk0 : tokL (x :: r) with
        | none =>
          have HN : Hid (G = .error 3) := by show _ = _; rw [HE.out, cont_bad hl0 hne hk0]
          rw [hk0] at HTOK
          obtain ⟨q, hq⟩ : ∃ q, r.length = q := ⟨_, rfl⟩
          rw [hq] at HTR hrz HTOK
          clear hT hA hB hO hTl hR hRg htr htl hl0 hq hk0 h32
          go_wp2_with first
            | (go_at_call 22; (with_reducible refine HTR.out.mono ?_); rintro e w2 ⟨A2, c2, rfl, rfl, hx, hxg⟩)
            | (go_at_call 23; refine (HTOK.out _ _ hx).mono ?_; rintro e w3 ⟨⟨t1, t2⟩, A3, n3, c3, q3, b, rfl, B3, O3, L3, E3⟩; have E3' : b = false := (by cases b; rfl; cases E3.out); subst E3'; have hB3 := HBK.out.only O3 (fun hm => nomatch hm); have d0 : w3.cell? ⟨g, 0, none⟩ = some (.int .i64 t.1) := (by rw [hB3.cell]; rfl); have d1 : w3.cell? ⟨g, 1, none⟩ = some (.string (St t.2)) := (by rw [hB3.cell]; rfl); have df0 := hB3.free 0; have df1 := hB3.free 1; have ht : tkv (t1, t2) = .agg #[.int .i64 t1, .string (St t2)] := rfl; rw [ht]; clear ht)
          go_step3
          have hO2 : Only [] w ((w3.setCell ⟨g, 0, none⟩ (.int .i64 t1)).setCell ⟨g, 1, none⟩ (.string (St t2))) := ((HO.out.then O3).setCell (p := ⟨g, 0, none⟩) (.inr (by rw [HGG.out]; exact Nat.le_refl _)) _).setCell (p := ⟨g, 1, none⟩) (.inr (by rw [HGG.out]; exact Nat.le_refl _)) _
          refine And.intro (show XJ w LA LB nl lc nb bc ls bs g G 0 _ _ from ⟨_, _, _, _, _, _, _, _, _, _, _, _, _, _, _, _, _, _, _, _, _, _, _, _, _, _, _, _, _, _, _, _, _, _, _, _, _, _, _, _, _, _, _, _, _, _, _, _, _, _, _, _, _, _, _, _, _, _, _, _, _, _, _, _, _, _, _, _, rfl, hO2, HN⟩) ?_
          show (0 : Nat) < _ + 3
          exact Nat.succ_pos _
        | some p =>
          obtain ⟨tk, q0⟩ := p
          have hql := (tokL_len (by simpa using h32) hk0).1
          simp only [List.length_cons] at hql
          have HN : Hid (G = contL (lineL (T ++ [tk]) q0) (pairsL ls bs k)) := by show _ = _; rw [HE.out, lineL_tok hl0 hne hk0]
          rw [hk0] at HTOK
          obtain ⟨q, hq⟩ : ∃ q, r.length = q := ⟨_, rfl⟩
          rw [hq] at HTR hrz HTOK hql htl
          obtain ⟨i0, hi, hz0, hz1, hz2⟩ : ∃ i : TypeInfo, Tryd.prog.info? 40 = some i ∧ i.zero = some (.agg #[.int .i64 0, .string ⟨#[]⟩]) ∧ i.size = 2 ∧ i.bytes = 24 := by
            obtain ⟨i, h1, h2⟩ := Option.map_eq_some_iff.1 infoTok3
            simp only [Prod.mk.injEq] at h2
            exact ⟨i, h1, h2.1, h2.2.1, h2.2.2⟩
          have HQL := Lib.hid hql
          have HTM := Lib.hid htl
          clear hT hA hB hO hTl hR hRg htr htl hl0 hq hk0 h32 hql
          go_wp2_with first
            | (go_at_call 22; (with_reducible refine HTR.out.mono ?_); rintro e w2 ⟨A2, c2, rfl, rfl, hx, hxg⟩)
            | (go_at_call 23; refine (HTOK.out _ _ hx).mono ?_; rintro e w3 ⟨⟨t1, t2⟩, A3, n3, c3, q3, b, rfl, B3, O3, L3, E3⟩; have E3' : b = true := (by cases b; cases E3.out; rfl); subst E3'; have E4 : (tk, q0) = ((t1, t2), q3) := (by have := E3.out; rw [if_pos rfl] at this; injection this); obtain ⟨rfl, rfl⟩ : tk = (t1, t2) ∧ q0 = q3 := (by simpa using E4); clear E4; have hB3 := HBK.out.only O3 (fun hm => nomatch hm); have d0 : w3.cell? ⟨g, 0, none⟩ = some (.int .i64 t.1) := (by rw [hB3.cell]; rfl); have d1 : w3.cell? ⟨g, 1, none⟩ = some (.string (St t.2)) := (by rw [hB3.cell]; rfl); have df0 := hB3.free 0; have df1 := hB3.free 1; have HSET := Lib.hid (tok_set hB3 (t1, t2)); have j0 : ((w3.setCell ⟨g, 0, none⟩ (.int .i64 t1)).setCell ⟨g, 1, none⟩ (.string (St t2))).cell? ⟨g, 0, none⟩ = some (.int .i64 t1) := HSET.out.cell 0; have j1 : ((w3.setCell ⟨g, 0, none⟩ (.int .i64 t1)).setCell ⟨g, 1, none⟩ (.string (St t2))).cell? ⟨g, 1, none⟩ = some (.string (St t2)) := HSET.out.cell 1; have HNX := Lib.hid (tok_next HT.out HA.out HBK.out O3 t1 t2); have HX := Lib.hid (And.intro B3 (And.intro O3 (fun y hy => hxg y (L3 y hy)))); clear B3 O3 L3 E3 hB3; have ht : tkv (t1, t2) = .agg #[.int .i64 t1, .string (St t2)] := rfl; rw [ht]; clear ht)
            | (at_builtin; go_must (refine wpList_append_gw rfl (.tmp 45) (.tmp 47) 2 24 rfl 40 i0 _ 24 Tryd.underlying24 hi hz0 hz1 hz2 rfl (by decide) A n c (gx tkl T) rfl HNX.out.1 _ 1 1 (tkl (t1, t2)) rfl HNX.out.2.1 (tkl_one _) (by unfold maxLen; omega) (by omega) (n + 1) rfl ?_); intro A4 c4 w4 HV4 HO4 HB4)
          go_step3
          obtain ⟨n1, n2, n3', n4⟩ := HNX.out
          have hs3 := HX.out.2.1.size
          have hgA : g ∉ blks A := fun hm => by have := HA.out g hm; omega
          have hO4 : Only [] w w4 := (HO.out.trans n4 (fun x hx => .inr (by simp at hx; have := HGG.out; omega))).trans HO4 (fun x hx => .inr (by have := HA.out x hx; have := HGG.out; omega))
          have hlen := HX.out.1.len
          have hQ := HQL.out
          have hM := HTM.out
          have hBt : Bt w4 A3 _ c3 _ := HX.out.1.only (rs := g :: blks A) ((((((Only.refl [g] w3).setCell (p := ⟨g, 0, none⟩) (.inl (by simp)) _).setCell (p := ⟨g, 1, none⟩) (.inl (by simp)) _).alloc _).mono (ss := g :: blks A) (fun x hx => .inl (by simp at hx; simp [hx]))).trans HO4 (fun x hx => .inl (by simp [hx]))) ?_
          · refine And.intro (show XJ w LA LB nl lc nb bc ls bs g G 2 _ _ from ⟨k, T ++ [(t1, t2)], A4, n + 1, c4, A3, _, c3, _, _, _, _, _, _, _, _, _, _, _, _, _, _, _, _, _, _, _, _, _, _, _, _, _, _, _, _, _, _, _, _, _, _, _, _, _, _, _, _, _, _, _, _, _, _, _, _, _, _, _, _, _, _, _, _, _, _, _, _, _, rfl, HFIT, hk, by rw [gx_append, gx_one]; exact HV4, by rw [List.length_append, HTL.out]; rfl, by omega, fun x hx => ?_, ⟨(t1, t2), n3'.only HO4 hgA⟩, hO4, hBt, fun _ y hy => HX.out.2.2 y hy, by omega, HN⟩) ?_
            · rcases HB4 x hx with h | h
              · exact HA.out x h
              · simp [World.setCell] at h; omega
            · show (nb + 1 - (k : Int).toNat) * 1125899906842624 + 2 * _ + 3 < (nb + 1 - (k : Int).toNat) * 1125899906842624 + 2 * m + 3
              have e : ∀ v : Nat, v ≤ q → (nb + 1 - (k : Int).toNat) * 1125899906842624 + 2 * v + 3 < (nb + 1 - (k : Int).toNat) * 1125899906842624 + 2 * m + 3 := fun v hv => by omega
              exact e n3 (by omega)
          · intro y hy hm
            have := HX.out.2.2 y hy
            rcases List.mem_cons.1 hm with h | h
            · omega
            · have := HA.out y h; omega
  case pass1 =>
    clear HB0 HO0 HG HF HB
    intro p2
    rintro a' W ⟨k, T, A, n, c, u2, u3, u8, u9, u11, u12, u13, u14, u15, u16, u17, u18, u19, u20, u21, u22, u23, u24, u25, u26, u27, u28, u29, u30, u31, u32, u33, u34, u35, u36, u37, u38, u39, u40, u41, u42, u43, u44, u45, u46, u47, u48, u49, u50, u51, u52, u53, u54, u55, u56, u57, u58, u59, u60, u61, u62, u63, u64, u65, u66, u67, rfl, HFIT, hk, hT, hTl, hn64, hA, ⟨t, hB⟩, hO, HE⟩
    have hfl := fit_len HFIT.out
    have hll := laid_len hfl
    have hnl2 := HNL.out
    have hbl := HNB.out
    have hkl : k < ls.length := by omega
    have hkn : k < nl := by omega
    have hkn' : (k : Int) < (nl : Int) := by omega
    obtain ⟨ad, Ai, ci, rfl, c1, b1⟩ := (HS.out.keep hO).at_ hkn hkl
    obtain ⟨ad0, Ai0, ci0, e0, c10, b10⟩ := HS.out.at_ hkn hkl
    have hAi : Ai = Ai0 := by
      injection e0 with e0
      subst e0
      have := hO.cellSome c10 (fun hm => nomatch hm)
      rw [c1] at this
      simp only [Option.some.injEq, Value.slice.injEq] at this
      exact this.1
    have hlen := HL.out _ (List.getElem_mem hkl)
    obtain ⟨l, hl⟩ : ∃ l, ls[k] = l := ⟨_, rfl⟩
    rw [hl] at c1 b1 b10 hlen
    obtain ⟨m, hm⟩ : ∃ m, l.length = m := ⟨_, rfl⟩
    rw [hm] at c1 b1 b10 hlen
    have hRg : 0 < m → ∀ x ∈ blks Ai, x < g := fun h0 x hx => by
      rw [hAi] at hx
      obtain ⟨ad2, rfl, hc⟩ := b10.sl.2 h0
      have h3 := b10.sl.at_ h0
      obtain ⟨ad3, u, e3, _, hc3⟩ := h3
      injection e3 with e3
      subst e3
      have := block_lt_of_cell hc3
      rw [add_block] at this
      simp at hx
      rw [hx, ← HGG.out]
      exact this
    have HT := Lib.hid hT
    have HA := Lib.hid hA
    have HO := Lib.hid hO
    have HBK := Lib.hid hB
    have HTL := Lib.hid hTl
    have HB1 := Lib.hid b1
    have HRG := Lib.hid hRg
    by_cases hkb : k < nb
    · have hkb' : (k : Int) < (nb : Int) := by omega
      have hw := fit_want HFIT.out hkl (by omega)
      rw [hl] at hw
      have hct := cut_of_want hw
      obtain ⟨ht1, ht2⟩ := cut_take hct
      have hat := laid_at (ls := ls) (bs := bs) hkl (by omega)
      rw [hl] at hat
      have hgd : (laidL ls bs).getD k [] = aheadL l := by rw [List.getD_eq_getElem?_getD, hat]; rfl
      obtain ⟨a, ha⟩ : ∃ a, aheadL l = a := ⟨_, rfl⟩
      rw [ha] at hct ht1 ht2 hgd
      have HN : Hid (G = contL (lineL T a) (pairsL ls bs k)) := by show _ = _; rw [HE.out]; unfold fromL; rw [hgd]
      have HC := Lib.hid (cut_any b1 (by omega))
      rw [hct] at HC
      simp only [cutO] at HC
      obtain ⟨q, hq⟩ : ∃ q, a.length = q := ⟨_, rfl⟩
      rw [hq] at HC ht1 ht2
      have hqm : q ≤ m := by omega
      have HB2 := Lib.hid (b1.pre hqm)
      rw [← ht1] at HB2
      clear hT hA hB hO hTl b1 b10 hRg hw hct ht1 ht2 hat hgd ha hq hl hm c10 hAi e0
      go_wp2_with (go_at_call 21; with_reducible refine HC.out.mono ?_; rintro e w2 ⟨rfl, O2⟩)
      rename_i hK
      refine wp_label (hK _ _ (p2 _ _ (show XJ w _ LB nl lc nb bc ls bs g G 2 _ _ from ⟨k, T, A, n, c, Ai, q, ci, a, _, _, _, _, _, _, _, _, _, _, _, _, _, _, _, _, _, _, _, _, _, _, _, _, _, _, _, _, _, _, _, _, _, _, _, _, _, _, _, _, _, _, _, _, _, _, _, _, _, _, _, _, _, _, _, _, _, _, _, _, rfl, HFIT, hk, HT.out.keep O2, HTL.out, hn64, HA.out, ⟨t, HBK.out.only O2 (fun hm => nomatch hm)⟩, HO.out.then O2, HB2.out.keep O2, fun h => HRG.out (by omega), by omega, HN⟩) _ ?_))
      show (nb + 1 - (k : Int).toNat) * 1125899906842624 + 2 * q + 3 ≤ (nb + 1 - (k : Int).toNat) * 1125899906842624 + 1125899906842623
      omega
    · obtain rfl : k = nb := by omega
      have hkb' : ¬ (k : Int) < (k : Int) := by omega
      have hat := laid_last (ls := ls) (bs := bs) hbl.symm hkl
      rw [hl] at hat
      have hgd : (laidL ls bs).getD k [] = l := by rw [List.getD_eq_getElem?_getD, hat]; rfl
      have HN : Hid (G = contL (lineL T l) (pairsL ls bs k)) := by show _ = _; rw [HE.out]; unfold fromL; rw [hgd]
      clear hT hA hB hO hTl b1 b10 hRg hat hgd hl hm c10 hAi e0
      go_wp2_with fail
      rename_i hK
      refine wp_label (hK _ _ (p2 _ _ (show XJ w _ LB nl lc k bc ls bs g G 2 _ _ from ⟨k, T, A, n, c, Ai, m, ci, l, _, _, _, _, _, _, _, _, _, _, _, _, _, _, _, _, _, _, _, _, _, _, _, _, _, _, _, _, _, _, _, _, _, _, _, _, _, _, _, _, _, _, _, _, _, _, _, _, _, _, _, _, _, _, _, _, _, _, _, _, rfl, HFIT, hk, HT.out, HTL.out, hn64, HA.out, ⟨t, HBK.out⟩, HO.out, HB1.out, HRG.out, hlen, HN⟩) _ ?_))
      show (k + 1 - (k : Int).toNat) * 1125899906842624 + 2 * m + 3 ≤ (k + 1 - (k : Int).toNat) * 1125899906842624 + 1125899906842623
      omega
end Go.Proofs.YtbbgdcnnacakjaaDoor
