/-
  lex.text: the string whose beginning stands ahead of bytes (laid by gen/ytext.py).
-/
import Derived.Test.YtbbgdcnnacakjaaDoorYLib
import Derived.Test.YtbbgdcnnacakjaaDoorYGoto
import Derived.Test.YtbbgdcnnacakjaaDoorBits
import Derived.Deep.DeepMust
import Derived.Handy
import Derived.OwnWalk
namespace Go.Proofs.YtbbgdcnnacakjaaDoor
open Go.RowKit Go.Instr

/-! ### Tokens as values -/
def tkc (t : Tkn) : Array Value := #[.int .i64 t.1, .string (St t.2)]
def tkv (t : Tkn) : Value := .agg (tkc t)
theorem infoTok : (Tryd.prog.info? 40).map (·.size) = some 2 := by kernel_rfl
theorem results_cell_duo {fn : Func} {p u v : Tmp} {ty : TypeId} (h : fn.results = #[.cell p ty, .tmp u, .tmp v]) (tmps : Array Value) (P : Program) (w : World) :
    (results fn tmps).run P w =
      ((asAddr (tmps.getD p undef)).run P w).andThen fun a w₁ => ((loadVar ty a).run P w₁).andThen fun x w₂ => .ok (.tuple #[x, tmps.getD u undef, tmps.getD v undef]) w₂ := by
  simp only [results, h]
  simp [Sem.run_bind, Result.andThen]
theorem tok_ret {fn : Func} {R : Ending → World → Prop} {tmps : Array Value} {w : World} {s u v : Nat} (hres : fn.results = #[.cell s 40, .tmp u, .tmp v]) (p : Nat) (t : Tkn) (x y : Value) (h2 : tmps.getD s undef = .pointer (some ⟨p, 0, none⟩)) (h3 : tmps.getD u undef = x) (h4 : tmps.getD v undef = y)
    (hb : Bk w p 40 (tkc t)) (hR : R (.returned (.tuple #[tkv t, x, y])) w) : bodyPost Tryd.prog fn R .ret { tmps := tmps, defers := [] } w := by
  refine bodyPost_ret (v := .tuple #[tkv t, x, y]) ?_ rfl hR
  rw [results_cell_duo hres]
  rw [h2, h3, h4]
  simp only [asAddr, Sem.run_pure, Result.andThen_ok]
  rw [run_loadVar_row (P := Tryd.prog) w p 40 40 (tkc t) (0, 0) _ hb Tryd.underlying40 rfl infoTok]
  rfl
/-- What is answered of a token: the token and what stands behind it, or none. -/
def TokR (w : World) (A : Option Addr) (o : Option (Tkn × List UInt8)) (e : Ending) (w' : World) : Prop :=
  ∃ (t : Tkn) (A2 : Option Addr) (n2 c2 : Nat) (q : List UInt8) (b : Bool), e = .returned (.tuple #[tkv t, .slice A2 n2 c2, .bool b]) ∧ Bt w' A2 n2 c2 q ∧ Only [] w w' ∧ (∀ k ∈ blks A2, k ∈ blks A) ∧ Hid (o = if b = true then some (t, q) else none)

section
variable {w : World} {A : Option Addr} {n c : Nat} {l : List UInt8}
theorem ybt_cut (hs : Bt w A n c l) {k : Nat} (hk : k ≤ n) : ∃ A2 c2, (∀ W, (Instr.slice 32 (.slice A n c) (some (.int .i64 (k : Int))) none none).run Tryd.prog W = .ok (.slice A2 (n - k) c2) W) ∧ Bt w A2 (n - k) c2 (l.drop k) ∧ blks A2 = blks A := by
  refine ⟨_, _, fun W => ?_, hs.cut hk, blks_from A c k⟩
  have h1 : (k : Int) ≤ (n : Int) := by omega
  have hnil := hs.nil
  have hcap := hs.cap
  by_cases hck : c = k
  · subst hck
    obtain rfl : n = c := by omega
    go_simp
  · cases A with
    | none => have := hnil rfl; omega
    | some ad => go_simp
theorem ybt_cut1 (hs : Bt w A (n + 1) c l) : ∃ A2 c2, (∀ W, (Instr.slice 32 (.slice A (n + 1) c) (some (.int .i64 1)) none none).run Tryd.prog W = .ok (.slice A2 n c2) W) ∧ Bt w A2 n c2 (l.drop 1) ∧ blks A2 = blks A :=
  ybt_cut (k := 1) hs (by omega)
theorem ybt_pre (hs : Bt w A n c l) {k : Nat} (hk : k ≤ n) : ∀ W, (Instr.slice 32 (.slice A n c) none (some (.int .i64 (k : Int))) none).run Tryd.prog W = .ok (.slice A k c) W := fun W => by
  have hcap := hs.cap
  have h1 : (k : Int) ≤ (c : Int) := by omega
  go_simp
/-- The first byte of bytes. -/
theorem Bt.first {x : UInt8} {r : List UInt8} (hs : Bt w A n c (x :: r)) : ∃ ad, A = some ad ∧ n = r.length + 1 ∧ w.cell? ad = some (.int .u8 (x.toNat : Int)) := by
  have hl := hs.len
  simp only [List.length_cons] at hl
  obtain ⟨ad, rfl, hc⟩ := hs.sl.2 (by omega)
  have := hc 0 (bv x) rfl
  rw [add_zero] at this
  exact ⟨ad, rfl, hl.symm, this⟩
end

theorem tok_set {w : World} {g : Nat} {t0 : Tkn} (h : Bk w g 40 (tkc t0)) (t : Tkn) : Bk ((w.setCell ⟨g, 0, none⟩ (.int .i64 t.1)).setCell ⟨g, 1, none⟩ (.string (St t.2))) g 40 (tkc t) := by
  simpa [tkc] using (h.set 0 (.int .i64 t.1)).set 1 (.string (St t.2))
def lenS : Value → Nat
  | .slice _ n _ => n
  | _ => 0
section
variable (w : World) (A0 : Option Addr) (g : Nat) (G : Option (List UInt8 × List UInt8))
def TJ1 (a : Act) (W : World) : Prop :=
  ∃ (A : Option Addr) (n c : Nat) (l : List UInt8) (B : Option Addr) (m d : Nat) (o : List UInt8), ∃ (u1 u6 u7 u8 u9 u10 u11 u12 u13 u14 u15 u16 u17 u18 u19 u20 u21 u22 u23 u24 u25 u26 u27 u28 u29 u30 u31 u32 u33 u34 u35 u36 u37 u38 u39 u40 u41 : Value), a = { tmps := #[.slice A n c, u1, .pointer (some ⟨g, 0, none⟩), .slice none 0 0, .bool false, .slice B m d, u6, u7, u8, u9, u10, u11, u12, u13, u14, u15, u16, u17, u18, u19, u20, u21, u22, u23, u24, u25, u26, u27, u28, u29, u30, u31, u32, u33, u34, u35, u36, u37, u38, u39, u40, u41], defers := [] } ∧
    Bt W A n c l ∧ (∀ k ∈ blks A, k ∈ blks A0) ∧ Own W 5 B m d (bvs o) ∧ (∀ k ∈ blks B, g < k) ∧ Bk W g 40 (tkc (0, [])) ∧ Only [] w W ∧ m + n ≤ 140737488355000 ∧ Hid (G = (textL l).map fun p => (o ++ p.1, p.2))
def TJ0 (a : Act) (W : World) : Prop :=
  ∃ (A : Option Addr) (n c : Nat) (B : Option Addr) (m d : Nat), ∃ (u1 u6 u7 u8 u9 u10 u11 u12 u13 u14 u15 u16 u17 u18 u19 u20 u21 u22 u23 u24 u25 u26 u27 u28 u29 u30 u31 u32 u33 u34 u35 u36 u37 u38 u39 u40 u41 : Value), a = { tmps := #[.slice A n c, u1, .pointer (some ⟨g, 0, none⟩), .slice none 0 0, .bool false, .slice B m d, u6, u7, u8, u9, u10, u11, u12, u13, u14, u15, u16, u17, u18, u19, u20, u21, u22, u23, u24, u25, u26, u27, u28, u29, u30, u31, u32, u33, u34, u35, u36, u37, u38, u39, u40, u41], defers := [] } ∧ Bk W g 40 (tkc (0, [])) ∧ Only [] w W ∧ Hid (G = none)
def TJ : Nat → Act → World → Prop
  | 0 => TJ0 w g G
  | 1 => TJ1 w A0 g G
  | _ => fun _ _ => False
end
def tmu (l : Nat) (a : Act) (_ : World) : Nat := match l with
  | 1 => lenS (a.tmps.getD 0 undef) + 1
  | _ => 0
theorem text_end (q : List UInt8) : textL (34 :: q) = some ([], q) := by unfold textL; rw [if_pos rfl]
theorem text_esc0 : textL [92] = none := by unfold textL; rw [if_neg (by decide), if_pos rfl]
theorem text_esc {d : UInt8} {r : List UInt8} : textL (92 :: d :: r) = if escB d = true then (textL r).map fun p => (d :: p.1, p.2) else none := by
  conv => lhs; unfold textL
  rw [if_neg (by decide), if_pos rfl]
  unfold escB
  simp
theorem text_one {c : UInt8} {r : List UInt8} (h1 : c ≠ 34) (h2 : c ≠ 92) : textL (c :: r) = (textL r).map fun p => (c :: p.1, p.2) := by
  conv => lhs; unfold textL
  rw [if_neg h1, if_neg h2]
theorem text_more {o : List UInt8} {c : UInt8} (x : Option (List UInt8 × List UInt8)) : ((x.map fun p => (c :: p.1, p.2)).map fun p => (o ++ p.1, p.2)) = x.map fun p => ((o ++ [c]) ++ p.1, p.2) := by
  cases x <;> simp
theorem text_push {w W w2 : World} {A0 A2 B B2 : Option Addr} {n2 c2 m d2 g : Nat} {r o : List UInt8} {x : UInt8} {ob : Obj} (hs2 : Bt W A2 n2 c2 r) (hAA : ∀ k ∈ blks A2, k ∈ blks A0) (hA0 : ∀ k ∈ blks A0, k < g) (hBg : ∀ k ∈ blks B, g < k) (hB : Bk W g 40 (tkc (0, []))) (hO : Only [] w W) (hg : w.heap.size = g)
    (HV2 : Own w2 5 B2 (m + 1) d2 (bvs o ++ bvs [x])) (HO2 : Only (blks B) (W.alloc ob) w2) (HB2 : ∀ k ∈ blks B2, k ∈ blks B ∨ (W.alloc ob).heap.size ≤ k) :
    Bt w2 A2 n2 c2 r ∧ (∀ k ∈ blks A2, k ∈ blks A0) ∧ Own w2 5 B2 (m + 1) d2 (bvs (o ++ [x])) ∧ (∀ k ∈ blks B2, g < k) ∧ Bk w2 g 40 (tkc (0, [])) ∧ Only [] w w2 := by
  have hgl := hB.lt
  refine ⟨(hs2.keep ((Only.refl _ _).alloc ob)).only HO2 (fun k hk hm => ?_), hAA, by rw [bvs_append]; exact HV2, fun k hk => ?_, (hB.alloc ob).only HO2 (fun hm => ?_), (hO.alloc ob).trans HO2 (fun k hk => .inr ?_)⟩
  · have h1 := hA0 k (hAA k hk)
    have h2 := hBg k hm
    omega
  · rcases HB2 k hk with h | h
    · exact hBg k h
    · simp at h; omega
  · have := hBg g hm
    omega
  · have := hBg k hk
    omega
set_option maxRecDepth 100000 in
set_option maxHeartbeats 4000000 in
theorem text_any {w : World} {A : Option Addr} {n c : Nat} {l : List UInt8} (hs : Bt w A n c l) (hn : n ≤ 140737488355000) (hA : ∀ k ∈ blks A, k < w.heap.size) :
    Calls Tryd.prog 34 #[.slice A n c] w (TokR w A ((textL l).map fun p => ((2, p.1), p.2))) := by
  obtain ⟨G, hG⟩ : ∃ G, textL l = G := ⟨_, rfl⟩
  rw [hG]
  have HG := Lib.hid hG
  clear hG
  have hO0 : Only [] w (w.alloc (.cells #[.int .i64 0, .string ⟨#[]⟩] 40)) := (Only.refl _ _).alloc _
  have HB0 := Lib.hid (Bk.new w 40 #[.int .i64 0, .string ⟨#[]⟩])
  have HS0 := Lib.hid (hs.keep hO0)
  have HA := Lib.hid hA
  clear hs hA
  go_enter Tryd.func34, Tryd.ntmps34
  go_wp2_with fail
  refine wp_scope_duo 1 0 (by decide) (TJ w A w.heap.size G) tmu rfl rfl (fun l a w h => ?lab) ?pass0 ?pass1 ?first
  case lab =>
    match l, h with
    | 0, _ => exact .inr rfl
    | 1, _ => exact .inl rfl
    | l + 2, h => exact h.elim
  case first =>
    intro p
    go_wp2_with fail
    rename_i hK
    refine wp_label (hK _ _ (p _ _ ?_))
    exact ⟨A, n, c, l, none, 0, 0, [], _, _, _, _, _, _, _, _, _, _, _, _, _, _, _, _, _, _, _, _, _, _, _, _, _, _, _, _, _, _, _, _, _, _, _, _, _, rfl, HS0.out, fun _ h => h, Own.nil _ _, (fun _ hx => nomatch hx), HB0.out, hO0, by omega, by show _ = _; rw [HG.out]; cases G <;> simp⟩
  case pass0 =>
    clear HB0 hO0 HG HS0 HA
    obtain ⟨g, hg⟩ : ∃ g, w.heap.size = g := ⟨_, rfl⟩
    rw [hg]
    have HGG := Lib.hid hg
    clear hg
    rintro a' W ⟨A, n, c, B, m, d, u1, u6, u7, u8, u9, u10, u11, u12, u13, u14, u15, u16, u17, u18, u19, u20, u21, u22, u23, u24, u25, u26, u27, u28, u29, u30, u31, u32, u33, u34, u35, u36, u37, u38, u39, u40, u41, rfl, hB, hO, HE⟩
    have hc0 : W.cell? ⟨g, 0, none⟩ = some (.int .i64 0) := by rw [hB.cell]; rfl
    have hc1 : W.cell? ⟨g, 1, none⟩ = some (.string ⟨#[]⟩) := by rw [hB.cell]; rfl
    have hf0 := hB.free 0
    have hf1 := hB.free 1
    have HB := Lib.hid (tok_set hB (0, []))
    have HO := Lib.hid hO
    clear hB hO
    go_wp2_with fail
    simp only [jumps]
    refine tok_ret (s := 2) (u := 3) (v := 4) (by kernel_rfl) g (0, []) _ _ rfl rfl rfl HB.out ?_
    exact ⟨(0, []), none, 0, 0, [], false, rfl, Bt.none_ _, (HO.out.setCell (.inr (by rw [HGG.out]; exact Nat.le_refl _)) _).setCell (.inr (by rw [HGG.out]; exact Nat.le_refl _)) _, (fun _ h => nomatch h), by show _ = _; rw [HE.out]; rfl⟩
  case pass1 =>
    clear HB0 hO0 HG HS0 hn
    obtain ⟨g, hg⟩ : ∃ g, w.heap.size = g := ⟨_, rfl⟩
    rw [hg]
    have HGG := Lib.hid hg
    rw [hg] at HA
    clear hg
    rintro a' W ⟨A1, n, c, l, B, m, d, o, u1, u6, u7, u8, u9, u10, u11, u12, u13, u14, u15, u16, u17, u18, u19, u20, u21, u22, u23, u24, u25, u26, u27, u28, u29, u30, u31, u32, u33, u34, u35, u36, u37, u38, u39, u40, u41, rfl, hs, hAA, hI, hBg, hB, hO, hmn, HE⟩
    have hc0 : W.cell? ⟨g, 0, none⟩ = some (.int .i64 0) := by rw [hB.cell]; rfl
    have hc1 : W.cell? ⟨g, 1, none⟩ = some (.string ⟨#[]⟩) := by rw [hB.cell]; rfl
    have hf0 := hB.free 0
    have hf1 := hB.free 1
    have HO := Lib.hid hO
    have HB := Lib.hid hB
    have HS := Lib.hid hs
    have HI := Lib.hid hI
    have HBG := Lib.hid hBg
    have HAA := Lib.hid hAA
    match l, hs, HS, HE with
    | [], hs, HS, HE =>
      obtain rfl : n = 0 := hs.len.symm
      have HN : Hid (G = none) := by show _ = _; rw [HE.out]; unfold textL; rfl
      clear hB hO hs hI hBg hAA HS HI HBG HAA HE hc0 hc1 hf0 hf1
      go_wp2_with fail
      go_step3
      refine And.intro (show TJ w A g G 0 _ _ from ⟨A1, 0, c, B, m, d, _, _, _, _, _, _, _, _, _, _, _, _, _, _, _, _, _, _, _, _, _, _, _, _, _, _, _, _, _, _, _, _, _, _, _, _, _, rfl, HB.out, HO.out, HN⟩) ?_
      show (0 : Nat) < 0 + 1
      omega
    | x :: r, hs, HS, HE =>
      obtain ⟨ad, rfl, hnr, c0⟩ := hs.first
      subst hnr
      obtain ⟨A2, c2, hcut, hs2, hbl⟩ := ybt_cut1 hs
      rw [List.drop_one, List.tail_cons] at hs2
      have HCUT := Lib.hid hcut
      have HS2 := Lib.hid hs2
      have hn1 : r.length ≤ 140737488355000 := by omega
      obtain ⟨nr, hnr⟩ : ∃ nr, r.length = nr := ⟨_, rfl⟩
      rw [hnr] at hs HS hcut HS2 HCUT hs2 hmn hn1 ⊢
      have HAA2 : Hid (∀ k ∈ blks A2, k ∈ blks A) := fun k hk => HAA.out k (by rw [← hbl]; exact hk)
      obtain ⟨y, hy⟩ : ∃ y, x.toNat = y := ⟨_, rfl⟩
      rw [hy] at c0
      have h0n : (0 : Int) < ((nr + 1 : Nat) : Int) := by omega
      have h0n' : 0 < nr + 1 := by omega
      have hnz : (((nr + 1 : Nat) : Int) == 0) = false := by rw [beq_eq_false_iff_ne]; omega
      by_cases h34 : y = 34
      · subst h34
        obtain rfl : x = 34 := UInt8.toNat_inj.1 (by rw [hy]; rfl)
        have HN : Hid (G = some (o, r)) := by show _ = _; rw [HE.out, text_end]; simp
        have hcv := run_str_sl (P := Tryd.prog) (w := W) 32 9 5 B m d o Tryd.underlying32 Tryd.underlying5 Tryd.underlying9 hI.sl
        have hcv2 := run_str_sl (P := Tryd.prog) (w := W.drew) 32 9 5 B m d o Tryd.underlying32 Tryd.underlying5 Tryd.underlying9 hI.drew.sl
        have HSET := Lib.hid (tok_set hB (2, o))
        obtain ⟨t, ht⟩ : ∃ t, St o = t := ⟨_, rfl⟩
        rw [ht] at hcv hcv2
        have HT := Lib.hid ht
        clear hy hs hs2 hI hBg hAA hB hO HE hnr hcut ht
        have hcut := HCUT.out
        go_wp2_with fail
        go_region
        go_wp2_with fail
        simp only [jumps]
        have hO2 : Only [] w (((W.setCell ⟨g, 0, none⟩ (.int .i64 2)).setCell ⟨g, 1, none⟩ (.string (St o))).drew) := ((HO.out.setCell (.inr (by rw [HGG.out]; exact Nat.le_refl _)) _).setCell (.inr (by rw [HGG.out]; exact Nat.le_refl _)) _).drew
        have hK0 := HS2.out.only (rs := [g]) ((((Only.refl [g] W).setCell (p := ⟨g, 0, none⟩) (.inl (by simp)) (.int .i64 2)).setCell (p := ⟨g, 1, none⟩) (.inl (by simp)) (.string (St o))).drew) (fun k hk hm => by have := HA.out k (HAA2.out k hk); simp at hm; omega)
        rw [← HT.out]
        refine tok_ret (s := 2) (u := 3) (v := 4) (by kernel_rfl) g (2, o) _ _ rfl rfl rfl HSET.out.drew ?_
        exact ⟨(2, o), A2, nr, c2, r, true, rfl, hK0, hO2, HAA2.out, by show _ = _; rw [HN.out]; rfl⟩
      · have hb34 : ((y : Int) == 34) = false := by rw [beq_eq_false_iff_ne]; omega
        have hx34 : x ≠ 34 := fun h => h34 (by rw [← hy, h]; rfl)
        obtain ⟨i0, hi, hz0, hz1, hz2⟩ := info_parts infoByte
        by_cases h92 : y = 92
        · subst h92
          obtain rfl : x = 92 := UInt8.toNat_inj.1 (by rw [hy]; rfl)
          match r, hs2, HS2, HE, hnr with
          | [], hs2, HS2, HE, hnr =>
            obtain rfl : nr = 0 := hnr.symm
            have HN : Hid (G = none) := by show _ = _; rw [HE.out, text_esc0]; rfl
            clear hs hs2 hI hBg hAA hB hO hy HE hnr hc0 hc1 hf0 hf1 hcut
            have hcut := HCUT.out
            go_wp2_with fail
            go_step3
            refine And.intro (show TJ w A g G 0 _ _ from ⟨A2, 0, c2, B, m, d, _, _, _, _, _, _, _, _, _, _, _, _, _, _, _, _, _, _, _, _, _, _, _, _, _, _, _, _, _, _, _, _, _, _, _, _, _, rfl, HB.out, HO.out, HN⟩) ?_
            show (0 : Nat) < lenS (.slice (some ad) (0 + 1) c) + 1
            omega
          | e :: r', hs2, HS2, HE, hnr =>
            obtain ⟨ad2, rfl, hnr', c02⟩ := hs2.first
            subst hnr'
            obtain ⟨A3, c3, hcut3, hs3, hbl3⟩ := ybt_cut1 hs2
            rw [List.drop_one, List.tail_cons] at hs3
            have HCUT3 := Lib.hid hcut3
            have HS3 := Lib.hid hs3
            have HAA3 : Hid (∀ k ∈ blks A3, k ∈ blks A) := fun k hk => HAA2.out k (by rw [← hbl3]; exact hk)
            have hes := fun W => esc_any e W
            obtain ⟨z, hz⟩ : ∃ z, e.toNat = z := ⟨_, rfl⟩
            obtain ⟨nq, hnq⟩ : ∃ nq, r'.length = nq := ⟨_, rfl⟩
            rw [hnq] at hs HS hcut HS2 HCUT hs2 hmn hn1 hcut3 HS3 HCUT3 hs3 h0n h0n' hnz ⊢
            rw [hz] at c02 hes
            have h0q : (0 : Int) < ((nq + 1 : Nat) : Int) := by omega
            have h0q' : 0 < nq + 1 := by omega
            have hqz : (((nq + 1 : Nat) : Int) == 0) = false := by rw [beq_eq_false_iff_ne]; omega
            cases hb : escB e with
            | false =>
              have HN : Hid (G = none) := by show _ = _; rw [HE.out, text_esc, hb]; rfl
              rw [hb] at hes
              clear hs hs2 hs3 hI hBg hAA hB hO hy HE hnr hc0 hc1 hf0 hf1 hcut hcut3 hb hz hnq
              have hcut := HCUT.out
              go_wp2_with (go_at_call 46; (with_reducible refine (hes _).mono ?_); rintro e w2 ⟨⟨I, rfl, HI2⟩, rfl⟩; have hI2 : decide (I < 0) = true := HI2.out)
              go_step3
              refine And.intro (show TJ w A g G 0 _ _ from ⟨_, nq + 1, c2, B, m, d, _, _, _, _, _, _, _, _, _, _, _, _, _, _, _, _, _, _, _, _, _, _, _, _, _, _, _, _, _, _, _, _, _, _, _, _, _, rfl, HB.out, HO.out, HN⟩) ?_
              show (0 : Nat) < lenS (.slice (some ad) (nq + 1 + 1) c) + 1
              omega
            | true =>
              have HN : Hid (G = (textL r').map fun p => ((o ++ [e]) ++ p.1, p.2)) := by show _ = _; rw [HE.out, text_esc, hb, if_pos rfl, text_more]
              rw [hb] at hes
              have HX : Hid ((z : Int) = (e.toNat : Int)) := by show _ = _; rw [hz]
              clear hs hs2 hs3 hI hBg hAA hB hO hy HE hnr hc0 hc1 hf0 hf1 hcut hcut3 hb hz hnq
              have hcut := HCUT.out
              have hcut3 := HCUT3.out
              go_wp2_with first
                | (go_at_call 46; (with_reducible refine (hes _).mono ?_); rintro e w2 ⟨⟨I, rfl, HI2⟩, rfl⟩; have hI2 : decide (I < 0) = false := HI2.out)
                | (at_builtin; go_must (refine wpList_append_sl rfl (.tmp 33) (.tmp 37) 32 rfl 5 i0 (.int .u8 0) 1 Tryd.underlying32 hi hz0 hz1 hz2 rfl B m d (bvs o) rfl (HI.out.alloc _) _ 1 1 _ rfl (sl_one _ _ _ e HX.out) (bvs_one _) (by unfold maxLen; omega) (by omega) ?_); intro B2 d2 w2 HV2 HO2 HB2)
              go_step3
              obtain ⟨k1, k2, k3, k4, k5, k6⟩ := text_push HS3.out HAA3.out HA.out HBG.out HB.out HO.out HGG.out HV2 HO2 HB2
              refine And.intro (show TJ w A g G 1 _ _ from ⟨A3, nq, c3, r', B2, m + 1, d2, o ++ [e], _, _, _, _, _, _, _, _, _, _, _, _, _, _, _, _, _, _, _, _, _, _, _, _, _, _, _, _, _, _, _, _, _, _, _, _, _, rfl, k1, k2, k3, k4, k5, k6, by omega, HN⟩) ?_
              show lenS (.slice A3 nq c3) + 1 < lenS (.slice (some ad) (nq + 1 + 1) c) + 1
              show nq + 1 < nq + 1 + 1 + 1
              omega
        · have hb92 : ((y : Int) == 92) = false := by rw [beq_eq_false_iff_ne]; omega
          have hx92 : x ≠ 92 := fun h => h92 (by rw [← hy, h]; rfl)
          have HN : Hid (G = (textL r).map fun p => ((o ++ [x]) ++ p.1, p.2)) := by show _ = _; rw [HE.out, text_one hx34 hx92, text_more]
          have HX : Hid ((y : Int) = (x.toNat : Int)) := by show _ = _; rw [hy]
          clear hs hs2 hI hBg hAA hB hO hy HE hnr hc0 hc1 hf0 hf1 hcut hx34 hx92 h34 h92
          have hcut := HCUT.out
          go_wp2_with (at_builtin; go_must (refine wpList_append_sl rfl (.tmp 33) (.tmp 37) 32 rfl 5 i0 (.int .u8 0) 1 Tryd.underlying32 hi hz0 hz1 hz2 rfl B m d (bvs o) rfl (HI.out.alloc _) _ 1 1 _ rfl (sl_one _ _ _ x HX.out) (bvs_one _) (by unfold maxLen; omega) (by omega) ?_); intro B2 d2 w2 HV2 HO2 HB2)
          go_step3
          obtain ⟨k1, k2, k3, k4, k5, k6⟩ := text_push HS2.out HAA2.out HA.out HBG.out HB.out HO.out HGG.out HV2 HO2 HB2
          refine And.intro (show TJ w A g G 1 _ _ from ⟨A2, nr, c2, r, B2, m + 1, d2, o ++ [x], _, _, _, _, _, _, _, _, _, _, _, _, _, _, _, _, _, _, _, _, _, _, _, _, _, _, _, _, _, _, _, _, _, _, _, _, _, rfl, k1, k2, k3, k4, k5, k6, by omega, HN⟩) ?_
          show nr + 1 < nr + 1 + 1
          omega
end Go.Proofs.YtbbgdcnnacakjaaDoor
