/-
  lex.token: the token that bytes begin with (laid by gen/ytok.py).
-/
import Derived.Test.YtbbgdcnnacakjaaDoorYAtom
import Derived.Deep.RegionHeld3
namespace Go.Proofs.YtbbgdcnnacakjaaDoor
open Go.RowKit Go.Instr

/-- A token without foreign bytes. -/
def tokF (o : Option (Tkn × List UInt8)) : Option (Tkn × List UInt8) := match o with
  | none => none
  | some (t, q) => if t.2.any foreignB = true then none else some (t, q)
theorem tok_text (r : List UInt8) : tokL (34 :: r) = tokF ((textL r).map fun p => ((2, p.1), p.2)) := by
  rw [tokL, if_neg (by decide), if_neg (by decide), if_pos rfl]
  cases textL r <;> rfl
theorem tok_atom {x : UInt8} (r : List UInt8) (h1 : x ≠ 40) (h2 : x ≠ 41) (h3 : x ≠ 34) : tokL (x :: r) = tokF ((atomN false (x :: r)).map fun k => ((1, (x :: r).take k), (x :: r).drop k)) := by
  rw [tokL, if_neg h1, if_neg h2, if_neg h3]
  cases atomN false (x :: r) <;> rfl
set_option maxRecDepth 100000 in
set_option maxHeartbeats 4000000 in
theorem token_any {w : World} {A : Option Addr} {n c : Nat} {x : UInt8} {r : List UInt8} (hs : Bt w A n c (x :: r)) (hn : n ≤ 140737488355000) (hA : ∀ k ∈ blks A, k < w.heap.size) :
    Calls Tryd.prog 23 #[.slice A n c] w (TokR w A (tokL (x :: r))) := by
  have HO0 : Hid (Only [] w (w.alloc (.cells #[.int .i64 0, .string ⟨#[]⟩] 40))) := (Only.refl _ _).alloc _
  have HB0 : Hid (Bk (w.alloc (.cells #[.int .i64 0, .string ⟨#[]⟩] 40)) w.heap.size 40 (tkc (0, []))) := Bk.new w 40 #[.int .i64 0, .string ⟨#[]⟩]
  have HS := Lib.hid (hs.keep HO0.out)
  obtain ⟨ad, rfl, hnr, c0⟩ := hs.first
  subst hnr
  obtain ⟨A2, c2, hcut, hs2, hbl⟩ := ybt_cut1 hs
  rw [List.drop_one, List.tail_cons] at hs2
  have HAA2 : Hid (∀ k ∈ blks A2, k ∈ blks (some ad)) := fun k hk => by rw [← hbl]; exact hk
  have HS2 := Lib.hid hs2
  obtain ⟨nr, hnr⟩ : ∃ nr, r.length = nr := ⟨_, rfl⟩
  rw [hnr] at hs HS hcut HS2 hs2 hn ⊢
  obtain ⟨y, hy⟩ : ∃ y, x.toNat = y := ⟨_, rfl⟩
  rw [hy] at c0
  have h0n : (0 : Int) < ((nr + 1 : Nat) : Int) := by omega
  have h0n' : 0 < nr + 1 := by omega
  have h1n : (1 : Int) ≤ ((nr + 1 : Nat) : Int) := by omega
  have hc0 := HO0.out.cellSome c0 (fun hm => nomatch hm)
  have HA := Lib.hid hA
  obtain ⟨g, hg⟩ : ∃ g, w.heap.size = g := ⟨_, rfl⟩
  rw [hg] at HB0
  have HGG := Lib.hid hg
  have HA' : Hid (∀ k ∈ blks (some ad), k < g) := by rw [← hg]; exact HA.out
  clear HA
  have HA := HA'
  have hA0 : ∀ k ∈ blks (some ad), k < (w.alloc (.cells #[.int .i64 0, .string ⟨#[]⟩] 40)).heap.size := fun k hk => by have := hA k hk; simp; omega
  have HA0 := Lib.hid hA0
  have d0 : (w.alloc (.cells #[.int .i64 0, .string ⟨#[]⟩] 40)).cell? ⟨g, 0, none⟩ = some (.int .i64 0) := by rw [HB0.out.cell]; rfl
  have d1 : (w.alloc (.cells #[.int .i64 0, .string ⟨#[]⟩] 40)).cell? ⟨g, 1, none⟩ = some (.string ⟨#[]⟩) := by rw [HB0.out.cell]; rfl
  have e0 := HB0.out.free 0
  have e1 := HB0.out.free 1
  clear hs hs2 hbl HA' hA hA0 hnr
  by_cases hyx : y = 40
  · subst hyx
    obtain rfl : x = 40 := UInt8.toNat_inj.1 (by rw [hy]; rfl)
    have HN : Hid (tokL (40 :: r) = some ((3, []), r)) := rfl
    have HSET : Hid (Bk (w.alloc (.cells #[.int .i64 3, .string ⟨#[]⟩] 40)) g 40 (tkc (3, []))) := by rw [← HGG.out]; exact Bk.new w 40 #[.int .i64 3, .string ⟨#[]⟩]
    clear hy
    go_enter Tryd.func23, Tryd.ntmps23
    go_wp2_with fail
    go_region
    go_wp2_with fail
    have hO2 : Only [] w (w.alloc (.cells #[.int .i64 3, .string ⟨#[]⟩] 40)).drew := ((Only.refl [] w).alloc _).drew
    refine tok_ret (s := 2) (u := 3) (v := 4) (by kernel_rfl) g (3, []) _ _ rfl rfl rfl HSET.out.drew ?_
    exact ⟨(3, []), A2, nr, c2, r, true, rfl, HS2.out.keep hO2, hO2, HAA2.out, by show _ = _; rw [HN.out]; rfl⟩
  by_cases hyx2 : y = 41
  · have hyx := hyx2
    subst hyx
    obtain rfl : x = 41 := UInt8.toNat_inj.1 (by rw [hy]; rfl)
    have HN : Hid (tokL (41 :: r) = some ((4, []), r)) := rfl
    have HSET : Hid (Bk (w.alloc (.cells #[.int .i64 4, .string ⟨#[]⟩] 40)) g 40 (tkc (4, []))) := by rw [← HGG.out]; exact Bk.new w 40 #[.int .i64 4, .string ⟨#[]⟩]
    clear hy
    go_enter Tryd.func23, Tryd.ntmps23
    go_wp2_with fail
    go_region
    go_wp2_with fail
    have hO2 : Only [] w (w.alloc (.cells #[.int .i64 4, .string ⟨#[]⟩] 40)).drew := ((Only.refl [] w).alloc _).drew
    refine tok_ret (s := 2) (u := 3) (v := 4) (by kernel_rfl) g (4, []) _ _ rfl rfl rfl HSET.out.drew ?_
    exact ⟨(4, []), A2, nr, c2, r, true, rfl, HS2.out.keep hO2, hO2, HAA2.out, by show _ = _; rw [HN.out]; rfl⟩
  have hb40 : ((y : Int) == 40) = false := by rw [beq_eq_false_iff_ne]; omega
  have hb41 : ((y : Int) == 41) = false := by rw [beq_eq_false_iff_ne]; omega
  by_cases hyx3 : y = 34
  · have hyx := hyx3
    subst hyx
    obtain rfl : x = 34 := UInt8.toNat_inj.1 (by rw [hy]; rfl)
    obtain ⟨l0, hl0⟩ : ∃ l0, (34 : UInt8) :: r = l0 := ⟨_, rfl⟩
    have HT : Hid (tokL l0 = tokF ((textL r).map fun p => ((2, p.1), p.2))) := by show _ = _; rw [← hl0]; exact tok_text r
    have HC := Lib.hid (text_any (HS2.out.keep HO0.out) (by omega) (fun k hk => HA0.out k (HAA2.out k hk)))
    have HSUB := HAA2
    rw [hl0] at HS ⊢
    clear hy hl0 hyx3
    go_enter Tryd.func23, Tryd.ntmps23
    go_wp2_with (go_at_call 34; refine HC.out.mono ?_; rintro e w2 ⟨t, A3, n3, c3, q, b, rfl, B2, O2, L2, E2⟩; have hB2 := HB0.out.only O2 (fun hm => nomatch hm); have h20 : w2.cell? ⟨g, 0, none⟩ = some (.int .i64 0) := (by rw [hB2.cell]; rfl); have h21 : w2.cell? ⟨g, 1, none⟩ = some (.string ⟨#[]⟩) := (by rw [hB2.cell]; rfl); have f20 := hB2.free 0; have f21 := hB2.free 1; have HSET := Lib.hid (tok_set hB2 t); have HW2 := Lib.hid (And.intro B2 (And.intro O2 (And.intro L2 E2))); clear B2 O2 L2 E2 hB2; obtain ⟨t1, t2⟩ := t; have ht : tkv (t1, t2) = .agg #[.int .i64 t1, .string (St t2)] := rfl; rw [ht]; clear ht)
    generalize hW3 : (w2.setCell ⟨g, 0, none⟩ (.int .i64 t1)).setCell ⟨g, 1, none⟩ (.string (St t2)) = w3 at *
    have hBk3 : Bk w3 g 40 (tkc (t1, t2)) := HSET.out
    have hO3 : Only [] w w3 := by rw [← hW3]; exact ((HO0.out.then HW2.out.2.1).setCell (p := ⟨g, 0, none⟩) (.inr (by rw [HGG.out]; exact Nat.le_refl _)) _).setCell (p := ⟨g, 1, none⟩) (.inr (by rw [HGG.out]; exact Nat.le_refl _)) _
    have hBt3 : Bt w3 A3 n3 c3 q := by
      rw [← hW3]
      exact HW2.out.1.only (rs := [g]) (((Only.refl [g] w2).setCell (p := ⟨g, 0, none⟩) (.inl (by simp)) _).setCell (p := ⟨g, 1, none⟩) (.inl (by simp)) _) (fun k hk hm => by have := HA.out k (HSUB.out k (HW2.out.2.2.1 k hk)); simp at hm; omega)
    have h30 : w3.cell? ⟨g, 0, none⟩ = some (.int .i64 t1) := by rw [hBk3.cell]; rfl
    have h31 : w3.cell? ⟨g, 1, none⟩ = some (.string (St t2)) := by rw [hBk3.cell]; rfl
    have f30 := hBk3.free 0
    have f31 := hBk3.free 1
    have HBK3 := Lib.hid hBk3
    have HO3 := Lib.hid hO3
    have HBT3 := Lib.hid hBt3
    have HL2 := Lib.hid HW2.out.2.2.1
    have HE2 := Lib.hid HW2.out.2.2.2
    clear hBk3 hO3 hBt3 h20 h21 f20 f21 HSET hW3 HW2
    cases b with
    | false =>
      have HN : Hid (tokL l0 = none) := by show _ = _; rw [HT.out, HE2.out.out]; rfl
      have HBK4 := Lib.hid (tok_set HBK3.out (t1, t2))
      go_region
      go_wp2_with fail
      refine tok_ret (s := 2) (u := 3) (v := 4) (by kernel_rfl) g (t1, t2) _ _ rfl rfl rfl HBK4.out.drew ?_
      exact ⟨(t1, t2), A3, n3, c3, q, false, rfl, HBT3.out.only (rs := [g]) ((((Only.refl [g] w3).setCell (p := ⟨g, 0, none⟩) (.inl (by simp)) _).setCell (p := ⟨g, 1, none⟩) (.inl (by simp)) _).drew) (fun k hk hm => by have := HA.out k (HSUB.out k (HL2.out k hk)); simp at hm; omega), ((HO3.out.setCell (.inr (by rw [HGG.out]; exact Nat.le_refl _)) _).setCell (.inr (by rw [HGG.out]; exact Nat.le_refl _)) _).drew, fun k hk => HSUB.out k (HL2.out k hk), by show _ = _; rw [HN.out]; rfl⟩
    | true =>
      have HN : Hid (tokL l0 = if t2.any foreignB = true then none else some ((t1, t2), q)) := by show _ = _; rw [HT.out, HE2.out.out]; rfl
      have hcf := fun W => contains_any (St t2) W
      rw [St_list] at hcf
      obtain ⟨fb, hfb⟩ : ∃ fb, t2.any foreignB = fb := ⟨_, rfl⟩
      rw [hfb] at hcf HN
      have HCF := Lib.hid hcf
      clear hcf hfb
      go_region_held3 (fun w' => w'.cell? ⟨g, 0, none⟩ = some (.int .i64 t1) ∧ w'.cell? ⟨g, 1, none⟩ = some (.string (St t2))) (first | go_keep | exact ⟨k0, k1⟩ | exact ⟨j0, j1⟩)
        ((go_at_call 36; refine (HCF.out _).mono ?_; rintro e w4 ⟨rfl, O4⟩; have O4' := ((Only.refl [] w3).drew).then O4; have hB4 := HBK3.out.only O4' (fun hm => nomatch hm); have k0 : w4.cell? ⟨g, 0, none⟩ = some (.int .i64 t1) := (by rw [hB4.cell]; rfl); have k1 : w4.cell? ⟨g, 1, none⟩ = some (.string (St t2)) := (by rw [hB4.cell]; rfl); have f40 := hB4.free 0; have f41 := hB4.free 1; have HBK4 := Lib.hid (tok_set hB4 (t1, t2)); have j0 : ((w4.setCell ⟨g, 0, none⟩ (.int .i64 t1)).setCell ⟨g, 1, none⟩ (.string (St t2))).cell? ⟨g, 0, none⟩ = some (.int .i64 t1) := HBK4.out.cell 0; have j1 : ((w4.setCell ⟨g, 0, none⟩ (.int .i64 t1)).setCell ⟨g, 1, none⟩ (.string (St t2))).cell? ⟨g, 1, none⟩ = some (.string (St t2)) := HBK4.out.cell 1))
      go_wp2_with fail
      refine tok_ret (s := 2) (u := 3) (v := 4) (by kernel_rfl) g (t1, t2) _ _ rfl rfl rfl HBK4.out ?_
      refine ⟨(t1, t2), A3, n3, c3, q, !fb, by cases fb <;> rfl, (HBT3.out.keep O4').only (rs := [g]) (((Only.refl [g] w4).setCell (p := ⟨g, 0, none⟩) (.inl (by simp)) _).setCell (p := ⟨g, 1, none⟩) (.inl (by simp)) _) (fun k hk hm => by have := HA.out k (HSUB.out k (HL2.out k hk)); simp at hm; omega), ((HO3.out.then O4').setCell (.inr (by rw [HGG.out]; exact Nat.le_refl _)) _).setCell (.inr (by rw [HGG.out]; exact Nat.le_refl _)) _, fun k hk => HSUB.out k (HL2.out k hk), ?_⟩
      show _ = _
      rw [HN.out]
      cases fb <;> rfl
  · have hb34 : ((y : Int) == 34) = false := by rw [beq_eq_false_iff_ne]; omega
    have hx : ∀ k : Nat, y ≠ k → ∀ z : UInt8, z.toNat = k → x ≠ z := fun k h z hz e => h (by rw [← hy, e, hz])
    have ht := tok_atom r (hx 40 hyx 40 rfl) (hx 41 hyx2 41 rfl) (hx 34 hyx3 34 rfl)
    obtain ⟨l0, hl0⟩ : ∃ l0, x :: r = l0 := ⟨_, rfl⟩
    rw [hl0] at ht HS ⊢
    have HT := Lib.hid ht
    have HC := Lib.hid (atom_any HS.out hn HA0.out)
    have HSUB : Hid (∀ k ∈ blks (some ad), k ∈ blks (some ad)) := fun _ h => h
    clear hy hl0 hyx3 hyx hyx2 ht hx
    go_enter Tryd.func23, Tryd.ntmps23
    go_wp2_with (go_at_call 35; refine HC.out.mono ?_; rintro e w2 ⟨t, A3, n3, c3, q, b, rfl, B2, O2, L2, E2⟩; have hB2 := HB0.out.only O2 (fun hm => nomatch hm); have h20 : w2.cell? ⟨g, 0, none⟩ = some (.int .i64 0) := (by rw [hB2.cell]; rfl); have h21 : w2.cell? ⟨g, 1, none⟩ = some (.string ⟨#[]⟩) := (by rw [hB2.cell]; rfl); have f20 := hB2.free 0; have f21 := hB2.free 1; have HSET := Lib.hid (tok_set hB2 t); have HW2 := Lib.hid (And.intro B2 (And.intro O2 (And.intro L2 E2))); clear B2 O2 L2 E2 hB2; obtain ⟨t1, t2⟩ := t; have ht : tkv (t1, t2) = .agg #[.int .i64 t1, .string (St t2)] := rfl; rw [ht]; clear ht)
    generalize hW3 : (w2.setCell ⟨g, 0, none⟩ (.int .i64 t1)).setCell ⟨g, 1, none⟩ (.string (St t2)) = w3 at *
    have hBk3 : Bk w3 g 40 (tkc (t1, t2)) := HSET.out
    have hO3 : Only [] w w3 := by rw [← hW3]; exact ((HO0.out.then HW2.out.2.1).setCell (p := ⟨g, 0, none⟩) (.inr (by rw [HGG.out]; exact Nat.le_refl _)) _).setCell (p := ⟨g, 1, none⟩) (.inr (by rw [HGG.out]; exact Nat.le_refl _)) _
    have hBt3 : Bt w3 A3 n3 c3 q := by
      rw [← hW3]
      exact HW2.out.1.only (rs := [g]) (((Only.refl [g] w2).setCell (p := ⟨g, 0, none⟩) (.inl (by simp)) _).setCell (p := ⟨g, 1, none⟩) (.inl (by simp)) _) (fun k hk hm => by have := HA.out k (HSUB.out k (HW2.out.2.2.1 k hk)); simp at hm; omega)
    have h30 : w3.cell? ⟨g, 0, none⟩ = some (.int .i64 t1) := by rw [hBk3.cell]; rfl
    have h31 : w3.cell? ⟨g, 1, none⟩ = some (.string (St t2)) := by rw [hBk3.cell]; rfl
    have f30 := hBk3.free 0
    have f31 := hBk3.free 1
    have HBK3 := Lib.hid hBk3
    have HO3 := Lib.hid hO3
    have HBT3 := Lib.hid hBt3
    have HL2 := Lib.hid HW2.out.2.2.1
    have HE2 := Lib.hid HW2.out.2.2.2
    clear hBk3 hO3 hBt3 h20 h21 f20 f21 HSET hW3 HW2
    cases b with
    | false =>
      have HN : Hid (tokL l0 = none) := by show _ = _; rw [HT.out, HE2.out.out]; rfl
      have HBK4 := Lib.hid (tok_set HBK3.out (t1, t2))
      go_region
      go_wp2_with fail
      refine tok_ret (s := 2) (u := 3) (v := 4) (by kernel_rfl) g (t1, t2) _ _ rfl rfl rfl HBK4.out.drew ?_
      exact ⟨(t1, t2), A3, n3, c3, q, false, rfl, HBT3.out.only (rs := [g]) ((((Only.refl [g] w3).setCell (p := ⟨g, 0, none⟩) (.inl (by simp)) _).setCell (p := ⟨g, 1, none⟩) (.inl (by simp)) _).drew) (fun k hk hm => by have := HA.out k (HSUB.out k (HL2.out k hk)); simp at hm; omega), ((HO3.out.setCell (.inr (by rw [HGG.out]; exact Nat.le_refl _)) _).setCell (.inr (by rw [HGG.out]; exact Nat.le_refl _)) _).drew, fun k hk => HSUB.out k (HL2.out k hk), by show _ = _; rw [HN.out]; rfl⟩
    | true =>
      have HN : Hid (tokL l0 = if t2.any foreignB = true then none else some ((t1, t2), q)) := by show _ = _; rw [HT.out, HE2.out.out]; rfl
      have hcf := fun W => contains_any (St t2) W
      rw [St_list] at hcf
      obtain ⟨fb, hfb⟩ : ∃ fb, t2.any foreignB = fb := ⟨_, rfl⟩
      rw [hfb] at hcf HN
      have HCF := Lib.hid hcf
      clear hcf hfb
      go_region_held3 (fun w' => w'.cell? ⟨g, 0, none⟩ = some (.int .i64 t1) ∧ w'.cell? ⟨g, 1, none⟩ = some (.string (St t2))) (first | go_keep | exact ⟨k0, k1⟩ | exact ⟨j0, j1⟩)
        ((go_at_call 36; refine (HCF.out _).mono ?_; rintro e w4 ⟨rfl, O4⟩; have O4' := ((Only.refl [] w3).drew).then O4; have hB4 := HBK3.out.only O4' (fun hm => nomatch hm); have k0 : w4.cell? ⟨g, 0, none⟩ = some (.int .i64 t1) := (by rw [hB4.cell]; rfl); have k1 : w4.cell? ⟨g, 1, none⟩ = some (.string (St t2)) := (by rw [hB4.cell]; rfl); have f40 := hB4.free 0; have f41 := hB4.free 1; have HBK4 := Lib.hid (tok_set hB4 (t1, t2)); have j0 : ((w4.setCell ⟨g, 0, none⟩ (.int .i64 t1)).setCell ⟨g, 1, none⟩ (.string (St t2))).cell? ⟨g, 0, none⟩ = some (.int .i64 t1) := HBK4.out.cell 0; have j1 : ((w4.setCell ⟨g, 0, none⟩ (.int .i64 t1)).setCell ⟨g, 1, none⟩ (.string (St t2))).cell? ⟨g, 1, none⟩ = some (.string (St t2)) := HBK4.out.cell 1))
      go_wp2_with fail
      refine tok_ret (s := 2) (u := 3) (v := 4) (by kernel_rfl) g (t1, t2) _ _ rfl rfl rfl HBK4.out ?_
      refine ⟨(t1, t2), A3, n3, c3, q, !fb, by cases fb <;> rfl, (HBT3.out.keep O4').only (rs := [g]) (((Only.refl [g] w4).setCell (p := ⟨g, 0, none⟩) (.inl (by simp)) _).setCell (p := ⟨g, 1, none⟩) (.inl (by simp)) _) (fun k hk hm => by have := HA.out k (HSUB.out k (HL2.out k hk)); simp at hm; omega), ((HO3.out.then O4').setCell (.inr (by rw [HGG.out]; exact Nat.le_refl _)) _).setCell (.inr (by rw [HGG.out]; exact Nat.le_refl _)) _, fun k hk => HSUB.out k (HL2.out k hk), ?_⟩
      show _ = _
      rw [HN.out]
      cases fb <;> rfl
end Go.Proofs.YtbbgdcnnacakjaaDoor
