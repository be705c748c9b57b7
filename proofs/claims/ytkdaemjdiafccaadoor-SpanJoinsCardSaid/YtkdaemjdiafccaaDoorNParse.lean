/-
  span.Parse.
-/
import Derived.Test.YtkdaemjdiafccaaDoorNNum
import Derived.Test.YtkdaemjdiafccaaDoorGotoT
namespace Go.Proofs.YtkdaemjdiafccaaDoor
open Go.RowKit Go.Instr

/-- What is answered of a set. -/
def errO (o : Option (List Rg)) : Int := match o with
  | none => 3
  | some _ => 0
def lstO (o : Option (List Rg)) : List Rg := o.getD []
def lenV : Value → Nat
  | .slice _ n _ => n
  | _ => 0
section
variable (w : World) (g : Nat) (G : Option (List Rg))
def J1 (a : Act) (W : World) : Prop :=
  ∃ (A : Option Addr) (n c : Nat) (l : List Rg) (t : ByteArray), ∃ (u1 u6 u7 u8 u9 u10 u11 u12 u13 u14 u15 u16 u17 u18 u19 u20 u21 u22 u23 u24 u25 u26 u27 u28 u29 u30 u31 u32 u33 u34 u35 u36 u37 u38 u39 u40 u41 u42 u43 u44 u45 u46 u47 u48 u49 u50 u51 : Value), a = { tmps := #[.string t, u1, .slice none 0 0, .int .i64 0, .slice A n c, .pointer (some ⟨g, 0, none⟩), u6, u7, u8, u9, u10, u11, u12, u13, u14, u15, u16, u17, u18, u19, u20, u21, u22, u23, u24, u25, u26, u27, u28, u29, u30, u31, u32, u33, u34, u35, u36, u37, u38, u39, u40, u41, u42, u43, u44, u45, u46, u47, u48, u49, u50, u51], defers := [] } ∧
    Ro W A n c l ∧ (∀ x ∈ blks A, g < x) ∧ (∃ x y : Int, Bk W g 35 #[.int .i64 x, .int .i64 y]) ∧ Only [] w W ∧ n ≤ 16 ∧ t.size ≤ 140737488355328 ∧ Hid (G = (prs (16 - n) t.data.toList).map (l ++ ·))
def J2 (a : Act) (W : World) : Prop :=
  ∃ (A : Option Addr) (n c : Nat) (l : List Rg) (t : ByteArray) (x y : Int), ∃ (u1 u6 u7 u8 u9 u10 u11 u12 u13 u14 u15 u16 u17 u18 u19 u20 u21 u22 u23 u24 u25 u26 u27 u28 u29 u30 u31 u32 u33 u34 u35 u36 u37 u38 u39 u40 u41 u42 u43 u44 u45 u46 u47 u48 u49 u50 u51 : Value), a = { tmps := #[.string t, u1, .slice none 0 0, .int .i64 0, .slice A n c, .pointer (some ⟨g, 0, none⟩), u6, u7, u8, u9, u10, u11, u12, u13, u14, u15, u16, u17, u18, u19, u20, u21, u22, u23, u24, u25, u26, u27, u28, u29, u30, u31, u32, u33, u34, u35, u36, u37, u38, u39, u40, u41, u42, u43, u44, u45, u46, u47, u48, u49, u50, u51], defers := [] } ∧
    Ro W A n c l ∧ (∀ z ∈ blks A, g < z) ∧ Bk W g 35 #[.int .i64 x, .int .i64 y] ∧ Only [] w W ∧ n < 16 ∧ t.size ≤ 140737488355328 ∧
    Hid ((t.data.toList = [] ∧ G = some (l ++ [(x, y)])) ∨ (∃ z, t.data.toList = 44 :: z ∧ G = (prs (15 - n) z).map ((l ++ [(x, y)]) ++ ·)) ∨ (t.data.toList ≠ [] ∧ t.data.toList.head? ≠ some 44 ∧ G = none))
def J0 (a : Act) (W : World) : Prop :=
  ∃ (A : Option Addr) (n c : Nat) (t : ByteArray), ∃ (u1 u6 u7 u8 u9 u10 u11 u12 u13 u14 u15 u16 u17 u18 u19 u20 u21 u22 u23 u24 u25 u26 u27 u28 u29 u30 u31 u32 u33 u34 u35 u36 u37 u38 u39 u40 u41 u42 u43 u44 u45 u46 u47 u48 u49 u50 u51 : Value), a = { tmps := #[.string t, u1, .slice none 0 0, .int .i64 0, .slice A n c, .pointer (some ⟨g, 0, none⟩), u6, u7, u8, u9, u10, u11, u12, u13, u14, u15, u16, u17, u18, u19, u20, u21, u22, u23, u24, u25, u26, u27, u28, u29, u30, u31, u32, u33, u34, u35, u36, u37, u38, u39, u40, u41, u42, u43, u44, u45, u46, u47, u48, u49, u50, u51], defers := [] } ∧ Only [] w W ∧ Hid (G = none)
def JJ : Nat → Act → World → Prop
  | 0 => J0 w g G
  | 1 => J1 w g G
  | 2 => J2 w g G
  | _ => fun _ _ => False
end
def mu (l : Nat) (a : Act) (_ : World) : Nat := match l with
  | 1 => 3 * (17 - lenV (a.tmps.getD 4 undef)) + 2
  | 2 => 3 * (17 - lenV (a.tmps.getD 4 undef)) + 1
  | _ => 0
theorem St_len {l : List UInt8} {B : Nat} (h : l.length ≤ B) : (St l).size ≤ B := by rw [St_size]; exact h
theorem numS_len {s : List UInt8} {n : Nat} {q : List UInt8} (h : numS s = some (n, q)) : q.length ≤ s.length := by
  unfold numS at h
  split at h
  · injection h with h
    injection h with _ h
    rw [← h, List.length_drop]
    omega
  · split at h
    · cases h
    · split at h
      · cases h
      · injection h with h
        injection h with _ h
        rw [← h, List.length_drop]
        omega
/-- Once the first range is told. -/
theorem J2_of {S q : List UInt8} {l : List Rg} {n : Nat} {G : Option (List Rg)} {r : Rg} (hn : n < 16) (hG : G = (prs (16 - n) S).map (l ++ ·)) (h : oneP S = some (r, q)) :
    (q = [] ∧ G = some (l ++ [r])) ∨ (∃ z, q = 44 :: z ∧ G = (prs (15 - n) z).map ((l ++ [r]) ++ ·)) ∨ (q ≠ [] ∧ q.head? ≠ some 44 ∧ G = none) := by
  rcases one_cases S with ⟨h0, _⟩ | ⟨r', q', h0, hk⟩
  · rw [h0] at h; cases h
  · rw [h0] at h
    injection h with h
    injection h with h1 h2
    subst h1 h2
    have e : 16 - n = (15 - n) + 1 := by omega
    rcases hk with ⟨k1, k2, k3⟩ | ⟨z, k1, k2, k3, k4⟩ | ⟨c, z, k1, k2, k3⟩
    · exact .inl ⟨k1, by rw [hG, e, prs_end k2 k3]; rfl⟩
    · refine .inr (.inl ⟨z, k1, ?_⟩)
      rw [hG, e, prs_more k2 k3 k4]
      cases prs (15 - n) z <;> simp
    · refine .inr (.inr ⟨by rw [k1]; simp, by rw [k1]; simpa using k2, ?_⟩)
      rw [hG, prs_bad k3]
      rfl
theorem none_of {S : List UInt8} {l : List Rg} {n : Nat} {G : Option (List Rg)} (hG : G = (prs (16 - n) S).map (l ++ ·)) (h : oneP S = none) : G = none := by
  rcases one_cases S with ⟨_, h1⟩ | ⟨r', q', h0, _⟩
  · rw [hG, prs_bad h1]; rfl
  · rw [h0] at h; cases h

theorem two_sets {w1 : World} {g : Nat} {T : TypeId} {x0 y0 : Int} (h : Bk w1 g T #[.int .i64 x0, .int .i64 y0]) (a b : Int) : Bk ((w1.setCell ⟨g, 0, none⟩ (.int .i64 a)).setCell ⟨g, 1, none⟩ (.int .i64 b)) g T #[.int .i64 a, .int .i64 b] := by
  simpa using (h.set 0 (.int .i64 a)).set 1 (.int .i64 b)
set_option maxRecDepth 100000 in
set_option maxHeartbeats 4000000 in
theorem Parse_any (s : ByteArray) (w : World) (hbig : s.size ≤ 140737488355328) : Calls Tryd.prog 9 #[.string s] w fun e w' => ∃ A c, e = .returned (.tuple #[.slice A (lstO (prs 16 s.data.toList)).length c, .int .i64 (errO (prs 16 s.data.toList))]) ∧
    Ro w' A (lstO (prs 16 s.data.toList)).length c (lstO (prs 16 s.data.toList)) ∧ (∀ x ∈ blks A, w.heap.size ≤ x) ∧ Only [] w w' := by
  obtain ⟨G, hG⟩ : ∃ G, prs 16 s.data.toList = G := ⟨_, rfl⟩
  rw [hG]
  have HG := Lib.hid hG
  clear hG
  have hO0 : Only [] w (w.alloc (.cells #[.int .i64 0, .int .i64 0] 35)) := (Only.refl _ _).alloc _
  have hB0 := Bk.new w 35 #[.int .i64 0, .int .i64 0]
  have HB0 := Lib.hid hB0
  clear hB0
  go_enter Tryd.func9, Tryd.ntmps9
  go_wp2_with fail
  refine wp_scope_tri 1 2 0 (by decide) (by decide) (by decide) (JJ w w.heap.size G) mu rfl rfl rfl (fun l a w h => ?lab) ?pass2 ?pass1 ?pass0 ?first
  case lab =>
    match l, h with
    | 0, _ => exact .inr (.inr rfl)
    | 1, _ => exact .inl rfl
    | 2, _ => exact .inr (.inl rfl)
    | l + 3, h => exact h.elim
  case first =>
    intro p0
    go_wp2_with fail
    rename_i hK
    refine wp_label (hK _ _ (p0 _ _ ?_))
    exact ⟨none, 0, 0, [], s, _, _, _, _, _, _, _, _, _, _, _, _, _, _, _, _, _, _, _, _, _, _, _, _, _, _, _, _, _, _, _, _, _, _, _, _, _, _, _, _, _, _, _, _, _, _, _, rfl, Ro.nil _, (fun _ hx => nomatch hx), ⟨0, 0, HB0.out⟩, hO0, by omega, hbig, by show _ = _; rw [← HG.out]; simp⟩
  case pass2 =>
    clear HB0 hO0 HG hbig
    rintro a' W ⟨A, n, c, t, u1, u6, u7, u8, u9, u10, u11, u12, u13, u14, u15, u16, u17, u18, u19, u20, u21, u22, u23, u24, u25, u26, u27, u28, u29, u30, u31, u32, u33, u34, u35, u36, u37, u38, u39, u40, u41, u42, u43, u44, u45, u46, u47, u48, u49, u50, u51, rfl, hO, HE⟩
    go_wp2_with fail
    simp only [jumps]
    go_ret2
    exact ⟨none, 0, by rw [HE.out]; rfl, by rw [HE.out]; exact Ro.nil _, (fun _ hx => nomatch hx), hO⟩
  case pass0 =>
    clear HB0 hO0 HG hbig
    intro p1
    rintro a' W ⟨A, n, c, l, t, u1, u6, u7, u8, u9, u10, u11, u12, u13, u14, u15, u16, u17, u18, u19, u20, u21, u22, u23, u24, u25, u26, u27, u28, u29, u30, u31, u32, u33, u34, u35, u36, u37, u38, u39, u40, u41, u42, u43, u44, u45, u46, u47, u48, u49, u50, u51, rfl, hR, hA, ⟨x0, y0, hB⟩, hO, hn, ht, HE⟩
    obtain ⟨g, hg⟩ : ∃ g, w.heap.size = g := ⟨_, rfl⟩
    rw [hg] at hA hB p1 ⊢
    have HGG := Lib.hid hg
    have HR := Lib.hid hR
    have HA := Lib.hid hA
    have HO := Lib.hid hO
    clear hg hR hA hO
    by_cases h16 : n = 16
    · subst h16
      have HN : Hid (G = none) := by
        show _ = _
        rw [HE.out, show (16 : Nat) - 16 = 0 from rfl, prs_zero]
        rfl
      clear HE hB
      go_wp2_with fail
      go_step3
      refine And.intro (show JJ w g G 0 _ _ from ⟨A, 16, c, t, _, _, _, _, _, _, _, _, _, _, _, _, _, _, _, _, _, _, _, _, _, _, _, _, _, _, _, _, _, _, _, _, _, _, _, _, _, _, _, _, _, _, _, _, _, _, _, rfl, HO.out, HN⟩) ?_
      show (0 : Nat) < 3 * (17 - 16) + 2
      omega
    · have h16b : ((n : Int) == 16) = false := by rw [beq_eq_false_iff_ne]; omega
      have hn' : n < 16 := by omega
      have hnum := fun W2 => number_any t W2 ht
      obtain ⟨S, hS⟩ : ∃ S, t.data.toList = S := ⟨_, rfl⟩
      have hSl : S.length = t.size := by rw [← hS]; simp
      rw [hS] at hnum HE
      have fl : ∀ W2, Only [] W W2 → W2.cell? ⟨g, 0, none⟩ = some (.int .i64 x0) ∧ W2.cell? ⟨g, 1, none⟩ = some (.int .i64 y0) ∧ W2.frozen? ⟨g, 0, none⟩ = false ∧ W2.frozen? ⟨g, 1, none⟩ = false ∧ Bk W2 g 35 #[.int .i64 x0, .int .i64 y0] := fun W2 o => by
        have hb := hB.only o (fun hm => nomatch hm)
        exact ⟨by rw [hb.cell]; rfl, by rw [hb.cell]; rfl, hb.free 0, hb.free 1, hb⟩
      have FL := Lib.hid fl
      clear fl hS h16
      have HN16 := Lib.hid hn
      have HT := Lib.hid ht
      clear hn ht
      cases h1 : numS S with
      | none =>
        have HN : Hid (G = none) := none_of HE.out (by unfold oneP; rw [h1])
        rw [h1] at hnum
        simp only [numA] at hnum
        clear HE h1 hB
        go_wp2_with (go_at_call 19; (with_reducible refine (hnum _).mono ?_); rintro e w1 ⟨rfl, O1⟩; obtain ⟨c0, c1, f0, f1, hb1⟩ := FL.out _ O1)
        go_step3
        have hO2 : Only [] w (w1.setCell ⟨g, 0, none⟩ (.int .i64 0)) := (HO.out.then O1).setCell (.inr (by rw [HGG.out]; exact Nat.le_refl _)) _
        refine And.intro (show JJ w g G 0 _ _ from ⟨A, n, c, _, _, _, _, _, _, _, _, _, _, _, _, _, _, _, _, _, _, _, _, _, _, _, _, _, _, _, _, _, _, _, _, _, _, _, _, _, _, _, _, _, _, _, _, _, _, _, _, rfl, hO2, HN⟩) ?_
        show (0 : Nat) < 3 * (17 - n) + 2
        omega
      | some p =>
        obtain ⟨a, s1⟩ := p
        have hl1 := numS_len h1
        rw [h1] at hnum
        simp only [numA] at hnum
        by_cases h58 : s1.head? = some 58
        · have hcut := fun W2 => cut_hit (St s1) 58 (by rw [St_list]; exact h58) W2
          rw [St_list] at hcut
          have hnum2 := fun W2 => number_any (St (s1.drop 1)) W2 (by rw [St_size, List.length_drop]; have := HT.out; omega)
          rw [St_list] at hnum2
          cases h2 : numS (s1.drop 1) with
          | none =>
            have HN : Hid (G = none) := none_of HE.out (by unfold oneP; rw [h1]; simp only; rw [if_pos h58, h2])
            rw [h2] at hnum2
            simp only [numA] at hnum2
            obtain ⟨t1, ht1⟩ : ∃ t1, St s1 = t1 := ⟨_, rfl⟩
            obtain ⟨t2, ht2⟩ : ∃ t2, St (s1.drop 1) = t2 := ⟨_, rfl⟩
            rw [ht1] at hnum hcut
            rw [ht2] at hcut hnum2
            clear HE h1 h2 hB hl1 h58 ht1 ht2 hSl
            go_wp2_with first
              | (go_at_call 19; (with_reducible refine (hnum _).mono ?_); rintro e w1 ⟨rfl, O1⟩; obtain ⟨c0, c1, f0, f1, hb1⟩ := FL.out _ O1; clear hnum)
              | (go_at_call 20; (with_reducible refine (hcut _).mono ?_); rintro e w2 ⟨rfl, rfl⟩)
              | (go_at_call 19; (with_reducible refine (hnum2 _).mono ?_); rintro e w3 ⟨rfl, O3⟩; have hb3 := (two_sets hb1 (a : Int) (a : Int)).only O3 (fun hm => nomatch hm); have c31 : w3.cell? ⟨g, 1, none⟩ = some (.int .i64 (a : Int)) := (by rw [hb3.cell]; rfl); have f31 := hb3.free 1)
            go_step3
            have hO2 : Only [] w (w3.setCell ⟨g, 1, none⟩ (.int .i64 0)) := ((((HO.out.then O1).setCell (.inr (by rw [HGG.out]; exact Nat.le_refl _)) _).setCell (.inr (by rw [HGG.out]; exact Nat.le_refl _)) _).then O3).setCell (.inr (by rw [HGG.out]; exact Nat.le_refl _)) _
            refine And.intro (show JJ w g G 0 _ _ from ⟨A, n, c, _, _, _, _, _, _, _, _, _, _, _, _, _, _, _, _, _, _, _, _, _, _, _, _, _, _, _, _, _, _, _, _, _, _, _, _, _, _, _, _, _, _, _, _, _, _, _, _, rfl, hO2, HN⟩) ?_
            show (0 : Nat) < 3 * (17 - n) + 2
            omega
          | some p2 =>
            obtain ⟨b, s2⟩ := p2
            have hl2 := numS_len h2
            rw [List.length_drop] at hl2
            have HJ : Hid _ := J2_of hn' HE.out (r := ((a : Int), (b : Int))) (q := s2) (by unfold oneP; rw [h1]; simp only; rw [if_pos h58, h2])
            rw [h2] at hnum2
            simp only [numA] at hnum2
            have HS2 : Hid ((St s2).size ≤ 140737488355328 ∧ (St s2).data.toList = s2) := ⟨by rw [St_size]; have := HT.out; omega, St_list s2⟩
            obtain ⟨t1, ht1⟩ : ∃ t1, St s1 = t1 := ⟨_, rfl⟩
            obtain ⟨t2, ht2⟩ : ∃ t2, St (s1.drop 1) = t2 := ⟨_, rfl⟩
            obtain ⟨t3, ht3⟩ : ∃ t3, St s2 = t3 := ⟨_, rfl⟩
            rw [ht1] at hnum hcut
            rw [ht2] at hcut hnum2
            rw [ht3] at hnum2 HS2
            clear HE h1 h2 hB hl1 hl2 h58 ht1 ht2 ht3 hSl
            go_wp2_with first
              | (go_at_call 19; (with_reducible refine (hnum _).mono ?_); rintro e w1 ⟨rfl, O1⟩; obtain ⟨c0, c1, f0, f1, hb1⟩ := FL.out _ O1; clear hnum)
              | (go_at_call 20; (with_reducible refine (hcut _).mono ?_); rintro e w2 ⟨rfl, rfl⟩)
              | (go_at_call 19; (with_reducible refine (hnum2 _).mono ?_); rintro e w3 ⟨rfl, O3⟩; have hb3 := (two_sets hb1 (a : Int) (a : Int)).only O3 (fun hm => nomatch hm); have c31 : w3.cell? ⟨g, 1, none⟩ = some (.int .i64 (a : Int)) := (by rw [hb3.cell]; rfl); have f31 := hb3.free 1)
            rename_i hK
            have hO2 : Only [] w (w3.setCell ⟨g, 1, none⟩ (.int .i64 (b : Int))) := ((((HO.out.then O1).setCell (.inr (by rw [HGG.out]; exact Nat.le_refl _)) _).setCell (.inr (by rw [HGG.out]; exact Nat.le_refl _)) _).then O3).setCell (.inr (by rw [HGG.out]; exact Nat.le_refl _)) _
            have hOR : Only [g] W (w3.setCell ⟨g, 1, none⟩ (.int .i64 (b : Int))) := ((((O1.mono (fun _ hx => nomatch hx)).setCell (.inl (by simp)) _).setCell (.inl (by simp)) _).then O3).setCell (.inl (by simp)) _
            have hRR := HR.out.only hOR (fun x hx hm => by have := HA.out x hx; simp at hm; omega)
            have hbb : Bk (w3.setCell ⟨g, 1, none⟩ (.int .i64 (b : Int))) g 35 #[.int .i64 (a : Int), .int .i64 (b : Int)] := by simpa using hb3.set 1 (.int .i64 (b : Int))
            refine wp_label (hK _ _ (p1 _ _ (show JJ w g G 2 _ _ from ⟨A, n, c, l, _, (a : Int), (b : Int), _, _, _, _, _, _, _, _, _, _, _, _, _, _, _, _, _, _, _, _, _, _, _, _, _, _, _, _, _, _, _, _, _, _, _, _, _, _, _, _, _, _, _, _, _, _, _, rfl, hRR, HA.out, hbb, hO2, hn', HS2.out.1, by rw [HS2.out.2]; exact HJ.out⟩) _ ?_))
            show 3 * (17 - n) + 1 ≤ 3 * (17 - n) + 2
            omega
        · have hcut := fun W2 => cut_miss (St s1) 58 (by rw [St_list]; exact h58) W2
          have HJ : Hid _ := J2_of hn' HE.out (r := ((a : Int), (a : Int))) (q := s1) (by unfold oneP; rw [h1]; simp only; rw [if_neg h58])
          have HS1 : Hid ((St s1).size ≤ 140737488355328 ∧ (St s1).data.toList = s1) := ⟨by rw [St_size]; have := HT.out; omega, St_list s1⟩
          obtain ⟨t1, ht1⟩ : ∃ t1, St s1 = t1 := ⟨_, rfl⟩
          rw [ht1] at hnum hcut HS1
          clear HE h1 hB hl1 h58 ht1 hSl
          go_wp2_with first
            | (go_at_call 19; (with_reducible refine (hnum _).mono ?_); rintro e w1 ⟨rfl, O1⟩; obtain ⟨c0, c1, f0, f1, hb1⟩ := FL.out _ O1; clear hnum)
            | (go_at_call 20; (with_reducible refine (hcut _).mono ?_); rintro e w2 ⟨rfl, rfl⟩)
          go_step3
          have hO2 : Only [] w ((w1.setCell ⟨g, 0, none⟩ (.int .i64 (a : Int))).setCell ⟨g, 1, none⟩ (.int .i64 (a : Int))) := ((HO.out.then O1).setCell (.inr (by rw [HGG.out]; exact Nat.le_refl _)) _).setCell (.inr (by rw [HGG.out]; exact Nat.le_refl _)) _
          have hOR : Only [g] W ((w1.setCell ⟨g, 0, none⟩ (.int .i64 (a : Int))).setCell ⟨g, 1, none⟩ (.int .i64 (a : Int))) := ((O1.mono (fun _ hx => nomatch hx)).setCell (.inl (by simp)) _).setCell (.inl (by simp)) _
          have hRR := HR.out.only hOR (fun x hx hm => by have := HA.out x hx; simp at hm; omega)
          refine And.intro (show JJ w g G 2 _ _ from ⟨A, n, c, l, _, (a : Int), (a : Int), _, _, _, _, _, _, _, _, _, _, _, _, _, _, _, _, _, _, _, _, _, _, _, _, _, _, _, _, _, _, _, _, _, _, _, _, _, _, _, _, _, _, _, _, _, _, _, rfl, hRR, HA.out, two_sets hb1 _ _, hO2, hn', HS1.out.1, by rw [HS1.out.2]; exact HJ.out⟩) ?_
          show 3 * (17 - n) + 1 < 3 * (17 - n) + 2
          omega
  case pass1 =>
    clear HB0 hO0 HG hbig
    intro p2
    rintro a' W ⟨A, n, c, l, t, x, y, u1, u6, u7, u8, u9, u10, u11, u12, u13, u14, u15, u16, u17, u18, u19, u20, u21, u22, u23, u24, u25, u26, u27, u28, u29, u30, u31, u32, u33, u34, u35, u36, u37, u38, u39, u40, u41, u42, u43, u44, u45, u46, u47, u48, u49, u50, u51, rfl, hR, hA, hB, hO, hn, ht, HE⟩
    obtain ⟨g, hg⟩ : ∃ g, w.heap.size = g := ⟨_, rfl⟩
    rw [hg] at hA hB p2 ⊢
    have HGG := Lib.hid hg
    have HR := Lib.hid hR
    have HA := Lib.hid hA
    have HO := Lib.hid hO
    have HB := Lib.hid hB
    have c0 : W.cell? ⟨g, 0, none⟩ = some (.int .i64 x) := by rw [hB.cell]; rfl
    have c1 : W.cell? ⟨g, 1, none⟩ = some (.int .i64 y) := by rw [hB.cell]; rfl
    have hgl := hB.lt
    have hA0 : ∀ z ∈ blks A, w.heap.size ≤ z := fun z hz => by have := hA z hz; omega
    have HA0 := Lib.hid hA0
    have HT := Lib.hid ht
    have HGL := Lib.hid hgl
    clear hg hR hA hO hA0 hB ht
    have app : ∀ (A' : Option Addr) (w2 : World), Only (blks A) (W.alloc (.cells #[.int .i64 x, .int .i64 y] 35)) w2 → (∀ k ∈ blks A', k ∈ blks A ∨ (W.alloc (.cells #[.int .i64 x, .int .i64 y] 35)).heap.size ≤ k) →
        Only [] w w2 ∧ (∀ z ∈ blks A', g < z) ∧ (∀ z ∈ blks A', w.heap.size ≤ z) ∧ Bk w2 g 35 #[.int .i64 x, .int .i64 y] := fun A' w2 o hk => by
      have h1 : Only [] w w2 := (HO.out.alloc _).trans o (fun z hz => .inr (HA0.out z hz))
      have h2 : ∀ z ∈ blks A', g < z := fun z hz => by
        rcases hk z hz with h | h
        · exact HA.out z h
        · rw [World.size_alloc] at h; have := HGL.out; omega
      exact ⟨h1, h2, fun z hz => by have := h2 z hz; have := HGG.out; omega, (HB.out.alloc _).only o (fun hm => by have := HA.out g hm; omega)⟩
    have APP := Lib.hid app
    clear app
    rcases HE.out with ⟨e1, e2⟩ | ⟨z, e1, e2⟩ | ⟨e1, e2, e3⟩
    · have hte : t = ⟨#[]⟩ := by rw [← St_data t, e1]
      subst hte
      have HN := Lib.hid e2
      clear e1 e2 HE HT
      go_wp2_with (at_builtin; refine wpList_append_rg rfl (.tmp 39) (.tmp 41) rfl A n c l rfl (HR.out.keep ((Only.refl _ _).alloc _)) x y W.heap.size _ rfl (Bk.new _ _ _) (by omega) ?_; intro A2 c2 w2 V2 O2 B2)
      simp only [jumps]
      go_ret2
      obtain ⟨k1, k2, k3, k4⟩ := APP.out _ _ O2 B2
      have hlen : (lstO G).length = n + 1 := by rw [HN.out]; show (l ++ [(x, y)]).length = n + 1; have := HR.out.len; simp; omega
      have hlst : lstO G = l ++ [(x, y)] := by rw [HN.out]; rfl
      have herr : errO G = 0 := by rw [HN.out]; rfl
      exact ⟨A2, c2, by rw [hlen, herr]; rfl, by rw [hlen, hlst]; exact V2, k3, k1⟩
    · have hq : (t.toList == []) = false := by
        rw [beq_eq_false_iff_ne, Lib.toList_data, e1]
        simp
      have hcut := fun W2 => cut_hit t 44 (by rw [e1]; rfl) W2
      rw [e1] at hcut
      have hzl : z.length + 1 ≤ 140737488355328 := by
        have := congrArg List.length e1
        simp at this
        have := HT.out
        omega
      simp only [List.drop_succ_cons, List.drop_zero] at hcut
      have HS1 : Hid ((St z).size ≤ 140737488355328 ∧ (St z).data.toList = z) := ⟨by rw [St_size]; omega, St_list z⟩
      obtain ⟨t1, ht1⟩ : ∃ t1, St z = t1 := ⟨_, rfl⟩
      rw [ht1] at hcut HS1
      have HN := Lib.hid e2
      clear e1 e2 HE HT ht1 hzl
      go_wp2_with first
        | (at_builtin; refine wpList_append_rg rfl (.tmp 39) (.tmp 41) rfl A n c l rfl (HR.out.keep ((Only.refl _ _).alloc _)) x y W.heap.size _ rfl (Bk.new _ _ _) (by omega) ?_; intro A2 c2 w2 V2 O2 B2)
        | (go_at_call 20; (with_reducible refine (hcut _).mono ?_); rintro e w3 ⟨rfl, rfl⟩)
      go_step3
      obtain ⟨k1, k2, k3, k4⟩ := APP.out _ _ O2 B2
      refine And.intro (show JJ w g G 1 _ _ from ⟨A2, n + 1, c2, l ++ [(x, y)], _, _, _, _, _, _, _, _, _, _, _, _, _, _, _, _, _, _, _, _, _, _, _, _, _, _, _, _, _, _, _, _, _, _, _, _, _, _, _, _, _, _, _, _, _, _, _, _, rfl, V2, k2, ⟨x, y, k4⟩, k1, by omega, HS1.out.1, by show _ = _; rw [HS1.out.2, HN.out, show 16 - (n + 1) = 15 - n by omega]⟩) ?_
      show 3 * (17 - (n + 1)) + 2 < 3 * (17 - n) + 1
      omega
    · have hq : (t.toList == []) = false := by
        rw [beq_eq_false_iff_ne, Lib.toList_data]
        exact e1
      have hcut := fun W2 => cut_miss t 44 e2 W2
      have HN := Lib.hid e3
      clear e1 e2 e3 HE HT
      go_wp2_with first
        | (at_builtin; refine wpList_append_rg rfl (.tmp 39) (.tmp 41) rfl A n c l rfl (HR.out.keep ((Only.refl _ _).alloc _)) x y W.heap.size _ rfl (Bk.new _ _ _) (by omega) ?_; intro A2 c2 w2 V2 O2 B2)
        | (go_at_call 20; (with_reducible refine (hcut _).mono ?_); rintro e w3 ⟨rfl, rfl⟩)
      rename_i hK
      obtain ⟨k1, k2, k3, k4⟩ := APP.out _ _ O2 B2
      refine wp_label (hK _ _ (p2 _ _ (show JJ w g G 0 _ _ from ⟨A2, n + 1, c2, _, _, _, _, _, _, _, _, _, _, _, _, _, _, _, _, _, _, _, _, _, _, _, _, _, _, _, _, _, _, _, _, _, _, _, _, _, _, _, _, _, _, _, _, _, _, _, _, rfl, k1, HN⟩) _ ?_))
      show (0 : Nat) ≤ 3 * (17 - n) + 1
      omega
end Go.Proofs.YtkdaemjdiafccaaDoor
