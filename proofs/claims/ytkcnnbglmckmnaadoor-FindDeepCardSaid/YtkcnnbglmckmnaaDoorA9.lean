/-
  Texts of the seat, laid one behind the other: NParse ZBd2 ZSize ZSet Goto.
-/
import Derived.Test.YtkcnnbglmckmnaaDoorA8
import Derived.Test.YtkcnnbglmckmnaaDoorA7
import Derived.Test.YtkcnnbglmckmnaaDoorA4
import Derived.ScopeJumps
namespace Go.Proofs.YtkcnnbglmckmnaaDoor
open Go.RowKit Go.Instr
def errO (o : Option (List Rg)) : Int := match o with
  | none => 3
  | some _ => 0
def lstO (o : Option (List Rg)) : List Rg := o.getD []
def lenV : Value → Nat
  | .slice _ n _ => n
  | _ => 0
section
variable (w : World) (g : Nat) (G : Option (List Rg))
def NJ1 (a : Act) (W : World) : Prop :=
  ∃ (A : Option Addr) (n c : Nat) (l : List Rg) (t : ByteArray), ∃ (u1 u6 u7 u8 u9 u10 u11 u12 u13 u14 u15 u16 u17 u18 u19 u20 u21 u22 u23 u24 u25 u26 u27 u28 u29 u30 u31 u32 u33 u34 u35 u36 u37 u38 u39 u40 u41 u42 u43 u44 u45 u46 u47 u48 u49 u50 u51 : Value), a = { tmps := #[.string t, u1, .slice none 0 0, .int .i64 0, .slice A n c, .pointer (some ⟨g, 0, none⟩), u6, u7, u8, u9, u10, u11, u12, u13, u14, u15, u16, u17, u18, u19, u20, u21, u22, u23, u24, u25, u26, u27, u28, u29, u30, u31, u32, u33, u34, u35, u36, u37, u38, u39, u40, u41, u42, u43, u44, u45, u46, u47, u48, u49, u50, u51], defers := [] } ∧
    Ro W A n c l ∧ (∀ x ∈ blks A, g < x) ∧ (∃ x y : Int, Bk W g 74 #[.int .i64 x, .int .i64 y]) ∧ Only [] w W ∧ n ≤ 16 ∧ t.size ≤ 140737488355328 ∧ Hid (G = (prs (16 - n) t.data.toList).map (l ++ ·))
def NJ2 (a : Act) (W : World) : Prop :=
  ∃ (A : Option Addr) (n c : Nat) (l : List Rg) (t : ByteArray) (x y : Int), ∃ (u1 u6 u7 u8 u9 u10 u11 u12 u13 u14 u15 u16 u17 u18 u19 u20 u21 u22 u23 u24 u25 u26 u27 u28 u29 u30 u31 u32 u33 u34 u35 u36 u37 u38 u39 u40 u41 u42 u43 u44 u45 u46 u47 u48 u49 u50 u51 : Value), a = { tmps := #[.string t, u1, .slice none 0 0, .int .i64 0, .slice A n c, .pointer (some ⟨g, 0, none⟩), u6, u7, u8, u9, u10, u11, u12, u13, u14, u15, u16, u17, u18, u19, u20, u21, u22, u23, u24, u25, u26, u27, u28, u29, u30, u31, u32, u33, u34, u35, u36, u37, u38, u39, u40, u41, u42, u43, u44, u45, u46, u47, u48, u49, u50, u51], defers := [] } ∧
    Ro W A n c l ∧ (∀ z ∈ blks A, g < z) ∧ Bk W g 74 #[.int .i64 x, .int .i64 y] ∧ Only [] w W ∧ n < 16 ∧ t.size ≤ 140737488355328 ∧
    Hid ((t.data.toList = [] ∧ G = some (l ++ [(x, y)])) ∨ (∃ z, t.data.toList = 44 :: z ∧ G = (prs (15 - n) z).map ((l ++ [(x, y)]) ++ ·)) ∨ (t.data.toList ≠ [] ∧ t.data.toList.head? ≠ some 44 ∧ G = none))
def NJ0 (a : Act) (W : World) : Prop :=
  ∃ (A : Option Addr) (n c : Nat) (t : ByteArray), ∃ (u1 u6 u7 u8 u9 u10 u11 u12 u13 u14 u15 u16 u17 u18 u19 u20 u21 u22 u23 u24 u25 u26 u27 u28 u29 u30 u31 u32 u33 u34 u35 u36 u37 u38 u39 u40 u41 u42 u43 u44 u45 u46 u47 u48 u49 u50 u51 : Value), a = { tmps := #[.string t, u1, .slice none 0 0, .int .i64 0, .slice A n c, .pointer (some ⟨g, 0, none⟩), u6, u7, u8, u9, u10, u11, u12, u13, u14, u15, u16, u17, u18, u19, u20, u21, u22, u23, u24, u25, u26, u27, u28, u29, u30, u31, u32, u33, u34, u35, u36, u37, u38, u39, u40, u41, u42, u43, u44, u45, u46, u47, u48, u49, u50, u51], defers := [] } ∧ Only [] w W ∧ Hid (G = none)
def NJJ : Nat → Act → World → Prop
  | 0 => NJ0 w g G
  | 1 => NJ1 w g G
  | 2 => NJ2 w g G
  | _ => fun _ _ => False
end
def muN (l : Nat) (a : Act) (_ : World) : Nat := match l with
  | 1 => 3 * (17 - lenV (a.tmps.getD 4 undef)) + 2
  | 2 => 3 * (17 - lenV (a.tmps.getD 4 undef)) + 1
  | _ => 0
theorem numS_len {s : List UInt8} {n : Nat} {q : List UInt8} (h : numS s = some (n, q)) : q.length ≤ s.length := by
  unfold numS at h
  split at h
  · injection h with h
    injection h with _ h
    rw [← h, List.length_drop]
    omega
  · split at h
    · cases h
    · split at h
      · cases h
      · injection h with h
        injection h with _ h
        rw [← h, List.length_drop]
        omega
theorem NJ2_of {S q : List UInt8} {l : List Rg} {n : Nat} {G : Option (List Rg)} {r : Rg} (hn : n < 16) (hG : G = (prs (16 - n) S).map (l ++ ·)) (h : oneP S = some (r, q)) :
    (q = [] ∧ G = some (l ++ [r])) ∨ (∃ z, q = 44 :: z ∧ G = (prs (15 - n) z).map ((l ++ [r]) ++ ·)) ∨ (q ≠ [] ∧ q.head? ≠ some 44 ∧ G = none) := by
  rcases one_cases S with ⟨h0, _⟩ | ⟨r', q', h0, hk⟩
  · rw [h0] at h; cases h
  · rw [h0] at h
    injection h with h
    injection h with h1 h2
    subst h1 h2
    have e : 16 - n = (15 - n) + 1 := by omega
    rcases hk with ⟨k1, k2, k3⟩ | ⟨z, k1, k2, k3, k4⟩ | ⟨c, z, k1, k2, k3⟩
    · exact .inl ⟨k1, by rw [hG, e, prs_end k2 k3]; rfl⟩
    · refine .inr (.inl ⟨z, k1, ?_⟩)
      rw [hG, e, prs_more k2 k3 k4]
      cases prs (15 - n) z <;> simp
    · refine .inr (.inr ⟨by rw [k1]; simp, by rw [k1]; simpa using k2, ?_⟩)
      rw [hG, prs_bad k3]
      rfl
theorem none_of {S : List UInt8} {l : List Rg} {n : Nat} {G : Option (List Rg)} (hG : G = (prs (16 - n) S).map (l ++ ·)) (h : oneP S = none) : G = none := by
  rcases one_cases S with ⟨_, h1⟩ | ⟨r', q', h0, _⟩
  · rw [hG, prs_bad h1]; rfl
  · rw [h0] at h; cases h
theorem two_sets {w1 : World} {g : Nat} {T : TypeId} {x0 y0 : Int} (h : Bk w1 g T #[.int .i64 x0, .int .i64 y0]) (a b : Int) : Bk ((w1.setCell ⟨g, 0, none⟩ (.int .i64 a)).setCell ⟨g, 1, none⟩ (.int .i64 b)) g T #[.int .i64 a, .int .i64 b] := by
  simpa using (h.set 0 (.int .i64 a)).set 1 (.int .i64 b)
set_option maxRecDepth 100000 in
set_option maxHeartbeats 4000000 in
theorem Parse_any (s : ByteArray) (w : World) (hbig : s.size ≤ 140737488355328) : Calls Tryd.prog 97 #[.string s] w fun e w' => ∃ A c, e = .returned (.tuple #[.slice A (lstO (prs 16 s.data.toList)).length c, .int .i64 (errO (prs 16 s.data.toList))]) ∧
    Ro w' A (lstO (prs 16 s.data.toList)).length c (lstO (prs 16 s.data.toList)) ∧ (∀ x ∈ blks A, w.heap.size ≤ x) ∧ Only [] w w' := by
  obtain ⟨G, hG⟩ : ∃ G, prs 16 s.data.toList = G := ⟨_, rfl⟩
  rw [hG]
  have HG := Lib.hid hG
  clear hG
  have hO0 : Only [] w (w.alloc (.cells #[.int .i64 0, .int .i64 0] 74)) := (Only.refl _ _).alloc _
  have hB0 := Bk.new w 74 #[.int .i64 0, .int .i64 0]
  have HB0 := Lib.hid hB0
  clear hB0
  go_enter Tryd.func97, Tryd.ntmps97
  go_wp2_with fail
  refine wp_scope_tri 1 2 0 (by decide) (by decide) (by decide) (NJJ w w.heap.size G) muN rfl rfl rfl (fun l a w h => ?lab) ?pass2 ?pass1 ?pass0 ?first
  case lab =>
    match l, h with
    | 0, _ => exact .inr (.inr rfl)
    | 1, _ => exact .inl rfl
    | 2, _ => exact .inr (.inl rfl)
    | l + 3, h => exact h.elim
  case first =>
    intro p0
    go_wp2_with fail
    rename_i hK
    refine wp_label (hK _ _ (p0 _ _ ?_))
    exact ⟨none, 0, 0, [], s, _, _, _, _, _, _, _, _, _, _, _, _, _, _, _, _, _, _, _, _, _, _, _, _, _, _, _, _, _, _, _, _, _, _, _, _, _, _, _, _, _, _, _, _, _, _, _, rfl, Ro.nil _, (fun _ hx => nomatch hx), ⟨0, 0, HB0.out⟩, hO0, by omega, hbig, by show _ = _; rw [← HG.out]; simp⟩
  case pass2 =>
    clear HB0 hO0 HG hbig
    rintro a' W ⟨A, n, c, t, u1, u6, u7, u8, u9, u10, u11, u12, u13, u14, u15, u16, u17, u18, u19, u20, u21, u22, u23, u24, u25, u26, u27, u28, u29, u30, u31, u32, u33, u34, u35, u36, u37, u38, u39, u40, u41, u42, u43, u44, u45, u46, u47, u48, u49, u50, u51, rfl, hO, HE⟩
    go_wp2_with fail
    simp only [jumps]
    go_ret2
    exact ⟨none, 0, by rw [HE.out]; rfl, by rw [HE.out]; exact Ro.nil _, (fun _ hx => nomatch hx), hO⟩
  case pass0 =>
    clear HB0 hO0 HG hbig
    intro p1
    rintro a' W ⟨A, n, c, l, t, u1, u6, u7, u8, u9, u10, u11, u12, u13, u14, u15, u16, u17, u18, u19, u20, u21, u22, u23, u24, u25, u26, u27, u28, u29, u30, u31, u32, u33, u34, u35, u36, u37, u38, u39, u40, u41, u42, u43, u44, u45, u46, u47, u48, u49, u50, u51, rfl, hR, hA, ⟨x0, y0, hB⟩, hO, hn, ht, HE⟩
    obtain ⟨g, hg⟩ : ∃ g, w.heap.size = g := ⟨_, rfl⟩
    rw [hg] at hA hB p1 ⊢
    have HGG := Lib.hid hg
    have HR := Lib.hid hR
    have HA := Lib.hid hA
    have HO := Lib.hid hO
    clear hg hR hA hO
    by_cases h16 : n = 16
    · subst h16
      have HN : Hid (G = none) := by
        show _ = _
        rw [HE.out, show (16 : Nat) - 16 = 0 from rfl, prs_zero]
        rfl
      clear HE hB
      go_wp2_with fail
      go_step3
      refine And.intro (show NJJ w g G 0 _ _ from ⟨A, 16, c, t, _, _, _, _, _, _, _, _, _, _, _, _, _, _, _, _, _, _, _, _, _, _, _, _, _, _, _, _, _, _, _, _, _, _, _, _, _, _, _, _, _, _, _, _, _, _, _, rfl, HO.out, HN⟩) ?_
      show (0 : Nat) < 3 * (17 - 16) + 2
      omega
    · have h16b : ((n : Int) == 16) = false := by rw [beq_eq_false_iff_ne]; omega
      have hn' : n < 16 := by omega
      have hnum := fun W2 => number_any t W2 ht
      obtain ⟨S, hS⟩ : ∃ S, t.data.toList = S := ⟨_, rfl⟩
      have hSl : S.length = t.size := by rw [← hS]; simp
      rw [hS] at hnum HE
      have fl : ∀ W2, Only [] W W2 → W2.cell? ⟨g, 0, none⟩ = some (.int .i64 x0) ∧ W2.cell? ⟨g, 1, none⟩ = some (.int .i64 y0) ∧ W2.frozen? ⟨g, 0, none⟩ = false ∧ W2.frozen? ⟨g, 1, none⟩ = false ∧ Bk W2 g 74 #[.int .i64 x0, .int .i64 y0] := fun W2 o => by
        have hb := hB.only o (fun hm => nomatch hm)
        exact ⟨by rw [hb.cell]; rfl, by rw [hb.cell]; rfl, hb.free 0, hb.free 1, hb⟩
      have FL := Lib.hid fl
      clear fl hS h16
      have HN16 := Lib.hid hn
      have HT := Lib.hid ht
      clear hn ht
      cases h1 : numS S with
      | none =>
        have HN : Hid (G = none) := none_of HE.out (by unfold oneP; rw [h1])
        rw [h1] at hnum
        simp only [numA] at hnum
        clear HE h1 hB
        go_wp2_with (go_at_call 114; (with_reducible refine (hnum _).mono ?_); rintro e w1 ⟨rfl, O1⟩; obtain ⟨c0, c1, f0, f1, hb1⟩ := FL.out _ O1)
        go_step3
        have hO2 : Only [] w (w1.setCell ⟨g, 0, none⟩ (.int .i64 0)) := (HO.out.then O1).setCell (.inr (by rw [HGG.out]; exact Nat.le_refl _)) _
        refine And.intro (show NJJ w g G 0 _ _ from ⟨A, n, c, _, _, _, _, _, _, _, _, _, _, _, _, _, _, _, _, _, _, _, _, _, _, _, _, _, _, _, _, _, _, _, _, _, _, _, _, _, _, _, _, _, _, _, _, _, _, _, _, rfl, hO2, HN⟩) ?_
        show (0 : Nat) < 3 * (17 - n) + 2
        omega
      | some p =>
        obtain ⟨a, s1⟩ := p
        have hl1 := numS_len h1
        rw [h1] at hnum
        simp only [numA] at hnum
        by_cases h58 : s1.head? = some 58
        · have hcut := fun W2 => cut_hit (St s1) 58 (by rw [St_list]; exact h58) W2
          rw [St_list] at hcut
          have hnum2 := fun W2 => number_any (St (s1.drop 1)) W2 (by rw [St_size, List.length_drop]; have := HT.out; omega)
          rw [St_list] at hnum2
          cases h2 : numS (s1.drop 1) with
          | none =>
            have HN : Hid (G = none) := none_of HE.out (by unfold oneP; rw [h1]; simp only; rw [if_pos h58, h2])
            rw [h2] at hnum2
            simp only [numA] at hnum2
            obtain ⟨t1, ht1⟩ : ∃ t1, St s1 = t1 := ⟨_, rfl⟩
            obtain ⟨t2, ht2⟩ : ∃ t2, St (s1.drop 1) = t2 := ⟨_, rfl⟩
            rw [ht1] at hnum hcut
            rw [ht2] at hcut hnum2
            clear HE h1 h2 hB hl1 h58 ht1 ht2 hSl
            go_wp2_with first
              | (go_at_call 114; (with_reducible refine (hnum _).mono ?_); rintro e w1 ⟨rfl, O1⟩; obtain ⟨c0, c1, f0, f1, hb1⟩ := FL.out _ O1; clear hnum)
              | (go_at_call 77; (with_reducible refine (hcut _).mono ?_); rintro e w2 ⟨rfl, rfl⟩)
              | (go_at_call 114; (with_reducible refine (hnum2 _).mono ?_); rintro e w3 ⟨rfl, O3⟩; have hb3 := (two_sets hb1 (a : Int) (a : Int)).only O3 (fun hm => nomatch hm); have c31 : w3.cell? ⟨g, 1, none⟩ = some (.int .i64 (a : Int)) := (by rw [hb3.cell]; rfl); have f31 := hb3.free 1)
            go_step3
            have hO2 : Only [] w (w3.setCell ⟨g, 1, none⟩ (.int .i64 0)) := ((((HO.out.then O1).setCell (.inr (by rw [HGG.out]; exact Nat.le_refl _)) _).setCell (.inr (by rw [HGG.out]; exact Nat.le_refl _)) _).then O3).setCell (.inr (by rw [HGG.out]; exact Nat.le_refl _)) _
            refine And.intro (show NJJ w g G 0 _ _ from ⟨A, n, c, _, _, _, _, _, _, _, _, _, _, _, _, _, _, _, _, _, _, _, _, _, _, _, _, _, _, _, _, _, _, _, _, _, _, _, _, _, _, _, _, _, _, _, _, _, _, _, _, rfl, hO2, HN⟩) ?_
            show (0 : Nat) < 3 * (17 - n) + 2
            omega
          | some p2 =>
            obtain ⟨b, s2⟩ := p2
            have hl2 := numS_len h2
            rw [List.length_drop] at hl2
            have HJ : Hid _ := NJ2_of hn' HE.out (r := ((a : Int), (b : Int))) (q := s2) (by unfold oneP; rw [h1]; simp only; rw [if_pos h58, h2])
            rw [h2] at hnum2
            simp only [numA] at hnum2
            have HS2 : Hid ((St s2).size ≤ 140737488355328 ∧ (St s2).data.toList = s2) := ⟨by rw [St_size]; have := HT.out; omega, St_list s2⟩
            obtain ⟨t1, ht1⟩ : ∃ t1, St s1 = t1 := ⟨_, rfl⟩
            obtain ⟨t2, ht2⟩ : ∃ t2, St (s1.drop 1) = t2 := ⟨_, rfl⟩
            obtain ⟨t3, ht3⟩ : ∃ t3, St s2 = t3 := ⟨_, rfl⟩
            rw [ht1] at hnum hcut
            rw [ht2] at hcut hnum2
            rw [ht3] at hnum2 HS2
            clear HE h1 h2 hB hl1 hl2 h58 ht1 ht2 ht3 hSl
            go_wp2_with first
              | (go_at_call 114; (with_reducible refine (hnum _).mono ?_); rintro e w1 ⟨rfl, O1⟩; obtain ⟨c0, c1, f0, f1, hb1⟩ := FL.out _ O1; clear hnum)
              | (go_at_call 77; (with_reducible refine (hcut _).mono ?_); rintro e w2 ⟨rfl, rfl⟩)
              | (go_at_call 114; (with_reducible refine (hnum2 _).mono ?_); rintro e w3 ⟨rfl, O3⟩; have hb3 := (two_sets hb1 (a : Int) (a : Int)).only O3 (fun hm => nomatch hm); have c31 : w3.cell? ⟨g, 1, none⟩ = some (.int .i64 (a : Int)) := (by rw [hb3.cell]; rfl); have f31 := hb3.free 1)
            rename_i hK
            have hO2 : Only [] w (w3.setCell ⟨g, 1, none⟩ (.int .i64 (b : Int))) := ((((HO.out.then O1).setCell (.inr (by rw [HGG.out]; exact Nat.le_refl _)) _).setCell (.inr (by rw [HGG.out]; exact Nat.le_refl _)) _).then O3).setCell (.inr (by rw [HGG.out]; exact Nat.le_refl _)) _
            have hOR : Only [g] W (w3.setCell ⟨g, 1, none⟩ (.int .i64 (b : Int))) := ((((O1.mono (fun _ hx => nomatch hx)).setCell (.inl (by simp)) _).setCell (.inl (by simp)) _).then O3).setCell (.inl (by simp)) _
            have hRR := HR.out.only hOR (fun x hx hm => by have := HA.out x hx; simp at hm; omega)
            have hbb : Bk (w3.setCell ⟨g, 1, none⟩ (.int .i64 (b : Int))) g 74 #[.int .i64 (a : Int), .int .i64 (b : Int)] := by simpa using hb3.set 1 (.int .i64 (b : Int))
            refine wp_label (hK _ _ (p1 _ _ (show NJJ w g G 2 _ _ from ⟨A, n, c, l, _, (a : Int), (b : Int), _, _, _, _, _, _, _, _, _, _, _, _, _, _, _, _, _, _, _, _, _, _, _, _, _, _, _, _, _, _, _, _, _, _, _, _, _, _, _, _, _, _, _, _, _, _, _, rfl, hRR, HA.out, hbb, hO2, hn', HS2.out.1, by rw [HS2.out.2]; exact HJ.out⟩) _ ?_))
            show 3 * (17 - n) + 1 ≤ 3 * (17 - n) + 2
            omega
        · have hcut := fun W2 => cut_miss (St s1) 58 (by rw [St_list]; exact h58) W2
          have HJ : Hid _ := NJ2_of hn' HE.out (r := ((a : Int), (a : Int))) (q := s1) (by unfold oneP; rw [h1]; simp only; rw [if_neg h58])
          have HS1 : Hid ((St s1).size ≤ 140737488355328 ∧ (St s1).data.toList = s1) := ⟨by rw [St_size]; have := HT.out; omega, St_list s1⟩
          obtain ⟨t1, ht1⟩ : ∃ t1, St s1 = t1 := ⟨_, rfl⟩
          rw [ht1] at hnum hcut HS1
          clear HE h1 hB hl1 h58 ht1 hSl
          go_wp2_with first
            | (go_at_call 114; (with_reducible refine (hnum _).mono ?_); rintro e w1 ⟨rfl, O1⟩; obtain ⟨c0, c1, f0, f1, hb1⟩ := FL.out _ O1; clear hnum)
            | (go_at_call 77; (with_reducible refine (hcut _).mono ?_); rintro e w2 ⟨rfl, rfl⟩)
          go_step3
          have hO2 : Only [] w ((w1.setCell ⟨g, 0, none⟩ (.int .i64 (a : Int))).setCell ⟨g, 1, none⟩ (.int .i64 (a : Int))) := ((HO.out.then O1).setCell (.inr (by rw [HGG.out]; exact Nat.le_refl _)) _).setCell (.inr (by rw [HGG.out]; exact Nat.le_refl _)) _
          have hOR : Only [g] W ((w1.setCell ⟨g, 0, none⟩ (.int .i64 (a : Int))).setCell ⟨g, 1, none⟩ (.int .i64 (a : Int))) := ((O1.mono (fun _ hx => nomatch hx)).setCell (.inl (by simp)) _).setCell (.inl (by simp)) _
          have hRR := HR.out.only hOR (fun x hx hm => by have := HA.out x hx; simp at hm; omega)
          refine And.intro (show NJJ w g G 2 _ _ from ⟨A, n, c, l, _, (a : Int), (a : Int), _, _, _, _, _, _, _, _, _, _, _, _, _, _, _, _, _, _, _, _, _, _, _, _, _, _, _, _, _, _, _, _, _, _, _, _, _, _, _, _, _, _, _, _, _, _, _, rfl, hRR, HA.out, two_sets hb1 _ _, hO2, hn', HS1.out.1, by rw [HS1.out.2]; exact HJ.out⟩) ?_
          show 3 * (17 - n) + 1 < 3 * (17 - n) + 2
          omega
  case pass1 =>
    clear HB0 hO0 HG hbig
    intro p2
    rintro a' W ⟨A, n, c, l, t, x, y, u1, u6, u7, u8, u9, u10, u11, u12, u13, u14, u15, u16, u17, u18, u19, u20, u21, u22, u23, u24, u25, u26, u27, u28, u29, u30, u31, u32, u33, u34, u35, u36, u37, u38, u39, u40, u41, u42, u43, u44, u45, u46, u47, u48, u49, u50, u51, rfl, hR, hA, hB, hO, hn, ht, HE⟩
    obtain ⟨g, hg⟩ : ∃ g, w.heap.size = g := ⟨_, rfl⟩
    rw [hg] at hA hB p2 ⊢
    have HGG := Lib.hid hg
    have HR := Lib.hid hR
    have HA := Lib.hid hA
    have HO := Lib.hid hO
    have HB := Lib.hid hB
    have c0 : W.cell? ⟨g, 0, none⟩ = some (.int .i64 x) := by rw [hB.cell]; rfl
    have c1 : W.cell? ⟨g, 1, none⟩ = some (.int .i64 y) := by rw [hB.cell]; rfl
    have hgl := hB.lt
    have hA0 : ∀ z ∈ blks A, w.heap.size ≤ z := fun z hz => by have := hA z hz; omega
    have HA0 := Lib.hid hA0
    have HT := Lib.hid ht
    have HGL := Lib.hid hgl
    clear hg hR hA hO hA0 hB ht
    have app : ∀ (A' : Option Addr) (w2 : World), Only (blks A) (W.alloc (.cells #[.int .i64 x, .int .i64 y] 74)) w2 → (∀ k ∈ blks A', k ∈ blks A ∨ (W.alloc (.cells #[.int .i64 x, .int .i64 y] 74)).heap.size ≤ k) →
        Only [] w w2 ∧ (∀ z ∈ blks A', g < z) ∧ (∀ z ∈ blks A', w.heap.size ≤ z) ∧ Bk w2 g 74 #[.int .i64 x, .int .i64 y] := fun A' w2 o hk => by
      have h1 : Only [] w w2 := (HO.out.alloc _).trans o (fun z hz => .inr (HA0.out z hz))
      have h2 : ∀ z ∈ blks A', g < z := fun z hz => by
        rcases hk z hz with h | h
        · exact HA.out z h
        · rw [World.size_alloc] at h; have := HGL.out; omega
      exact ⟨h1, h2, fun z hz => by have := h2 z hz; have := HGG.out; omega, (HB.out.alloc _).only o (fun hm => by have := HA.out g hm; omega)⟩
    have APP := Lib.hid app
    clear app
    rcases HE.out with ⟨e1, e2⟩ | ⟨z, e1, e2⟩ | ⟨e1, e2, e3⟩
    · have hte : t = ⟨#[]⟩ := by rw [← St_data t, e1]
      subst hte
      have HN := Lib.hid e2
      clear e1 e2 HE HT
      go_wp2_with (at_builtin; refine wpList_append_rg rfl (.tmp 39) (.tmp 41) rfl A n c l rfl (HR.out.keep ((Only.refl _ _).alloc _)) x y W.heap.size _ rfl (Bk.new _ _ _) (by omega) ?_; intro A2 c2 w2 V2 O2 B2)
      simp only [jumps]
      go_ret2
      obtain ⟨k1, k2, k3, k4⟩ := APP.out _ _ O2 B2
      have hlen : (lstO G).length = n + 1 := by rw [HN.out]; show (l ++ [(x, y)]).length = n + 1; have := HR.out.len; simp; omega
      have hlst : lstO G = l ++ [(x, y)] := by rw [HN.out]; rfl
      have herr : errO G = 0 := by rw [HN.out]; rfl
      exact ⟨A2, c2, by rw [hlen, herr]; rfl, by rw [hlen, hlst]; exact V2, k3, k1⟩
    · have hq : (t.toList == []) = false := by
        rw [beq_eq_false_iff_ne, Lib.toList_data, e1]
        simp
      have hcut := fun W2 => cut_hit t 44 (by rw [e1]; rfl) W2
      rw [e1] at hcut
      have hzl : z.length + 1 ≤ 140737488355328 := by
        have := congrArg List.length e1
        simp at this
        have := HT.out
        omega
      simp only [List.drop_succ_cons, List.drop_zero] at hcut
      have HS1 : Hid ((St z).size ≤ 140737488355328 ∧ (St z).data.toList = z) := ⟨by rw [St_size]; omega, St_list z⟩
      obtain ⟨t1, ht1⟩ : ∃ t1, St z = t1 := ⟨_, rfl⟩
      rw [ht1] at hcut HS1
      have HN := Lib.hid e2
      clear e1 e2 HE HT ht1 hzl
      go_wp2_with first
        | (at_builtin; refine wpList_append_rg rfl (.tmp 39) (.tmp 41) rfl A n c l rfl (HR.out.keep ((Only.refl _ _).alloc _)) x y W.heap.size _ rfl (Bk.new _ _ _) (by omega) ?_; intro A2 c2 w2 V2 O2 B2)
        | (go_at_call 77; (with_reducible refine (hcut _).mono ?_); rintro e w3 ⟨rfl, rfl⟩)
      go_step3
      obtain ⟨k1, k2, k3, k4⟩ := APP.out _ _ O2 B2
      refine And.intro (show NJJ w g G 1 _ _ from ⟨A2, n + 1, c2, l ++ [(x, y)], _, _, _, _, _, _, _, _, _, _, _, _, _, _, _, _, _, _, _, _, _, _, _, _, _, _, _, _, _, _, _, _, _, _, _, _, _, _, _, _, _, _, _, _, _, _, _, _, rfl, V2, k2, ⟨x, y, k4⟩, k1, by omega, HS1.out.1, by show _ = _; rw [HS1.out.2, HN.out, show 16 - (n + 1) = 15 - n by omega]⟩) ?_
      show 3 * (17 - (n + 1)) + 2 < 3 * (17 - n) + 1
      omega
    · have hq : (t.toList == []) = false := by
        rw [beq_eq_false_iff_ne, Lib.toList_data]
        exact e1
      have hcut := fun W2 => cut_miss t 44 e2 W2
      have HN := Lib.hid e3
      clear e1 e2 e3 HE HT
      go_wp2_with first
        | (at_builtin; refine wpList_append_rg rfl (.tmp 39) (.tmp 41) rfl A n c l rfl (HR.out.keep ((Only.refl _ _).alloc _)) x y W.heap.size _ rfl (Bk.new _ _ _) (by omega) ?_; intro A2 c2 w2 V2 O2 B2)
        | (go_at_call 77; (with_reducible refine (hcut _).mono ?_); rintro e w3 ⟨rfl, rfl⟩)
      rename_i hK
      obtain ⟨k1, k2, k3, k4⟩ := APP.out _ _ O2 B2
      refine wp_label (hK _ _ (p2 _ _ (show NJJ w g G 0 _ _ from ⟨A2, n + 1, c2, _, _, _, _, _, _, _, _, _, _, _, _, _, _, _, _, _, _, _, _, _, _, _, _, _, _, _, _, _, _, _, _, _, _, _, _, _, _, _, _, _, _, _, _, _, _, _, _, rfl, k1, HN⟩) _ ?_))
      show (0 : Nat) ≤ 3 * (17 - n) + 1
      omega
end Go.Proofs.YtkcnnbglmckmnaaDoor
namespace Go.Proofs.YtkcnnbglmckmnaaDoor
open Go.RowKit Go.Instr
def OkT (T : List Tkn) : Prop := (∀ t ∈ T, t.2.length ≤ 140737488355328) ∧ T.length ≤ 140737488355328
theorem OkT.tail {t : Tkn} {r : List Tkn} (h : OkT (t :: r)) : OkT r := ⟨fun x hx => h.1 x (by simp [hx]), by have := h.2; simp at this; omega⟩
theorem bd_small (kd n : Int) : BdK (.mk kd n [] [] [] []) := by
  unfold BdK BdKs
  exact ⟨Nat.zero_le _, Nat.zero_le _, Nat.zero_le _, Nat.zero_le _, trivial⟩
theorem bd_kids {kd : Int} {l : List Ky} (hl : l.length ≤ 140737488355328) (h : ∀ y ∈ l, BdK y) : BdK (.mk kd 0 [] [] [] l) := by
  unfold BdK
  exact ⟨Nat.zero_le _, Nat.zero_le _, Nat.zero_le _, hl, BdKs.of h⟩
theorem bd_set {kd : Int} {s : List UInt8} {l : List (Int × Int)} (h : prs 16 s = some l) : BdK (.mk kd 0 [] [] l []) := by
  have := prs_len h
  unfold BdK BdKs
  exact ⟨Nat.zero_le _, Nat.zero_le _, by omega, Nat.zero_le _, trivial⟩
theorem atom_ok {T q : List Tkn} {s : List UInt8} (hT : OkT T) (h : atomArg T = some (s, q)) : s.length ≤ 140737488355328 ∧ OkT q := by
  cases T with
  | nil => cases h
  | cons t r =>
    unfold atomArg at h
    simp only at h
    split at h
    · injection h with h
      injection h with h1 h2
      rw [← h1, ← h2]
      exact ⟨hT.1 t (by simp), hT.tail⟩
    · cases h
theorem word_ok {T q : List Tkn} {s : List UInt8} (hT : OkT T) (h : wordArg T = some (s, q)) : s.length ≤ 140737488355328 ∧ OkT q := by
  cases T with
  | nil => cases h
  | cons t r =>
    unfold wordArg at h
    simp only at h
    split at h
    · injection h with h
      injection h with h1 h2
      rw [← h1, ← h2]
      exact ⟨hT.1 t (by simp), hT.tail⟩
    · cases h
section
variable {key : List Tkn → Option (Ky × List Tkn)} (hk : ∀ T k q, OkT T → key T = some (k, q) → BdK k ∧ OkT q)
include hk
theorem wordK_bd {raw : List UInt8} {T q : List Tkn} {k : Ky} (hT : OkT T) (hraw : raw.length ≤ 140737488355328) (h : wordK (prs 16) key raw T = some (k, q)) : BdK k ∧ OkT q := by
  unfold wordK at h
  simp only at h
  have hlow : (lowT raw).length ≤ 140737488355328 := by rw [lowT_len]; exact hraw
  repeat' split at h
  all_goals first
    | (simp only [Option.some.injEq, Prod.mk.injEq] at h
       rw [← h.1, ← h.2]
       exact ⟨bd_small _ _, hT⟩)
    | (simp only [Option.some.injEq, Prod.mk.injEq] at h
       rw [← h.1, ← h.2]
       exact ⟨bd_kids (by simp) (fun y hy => by rw [List.mem_singleton.1 hy]; exact bd_small _ _), hT⟩)
    | (unfold numArg at h
       simp only [Option.bind_eq_some_iff, Option.map_eq_some_iff, Prod.mk.injEq] at h
       obtain ⟨⟨a, b⟩, h1, n, _, h3, h2⟩ := h
       rw [← h3, ← h2]
       exact ⟨bd_small _ _, (atom_ok hT h1).2⟩)
    | (unfold textArg at h
       simp only [Option.map_eq_some_iff, Prod.mk.injEq] at h
       obtain ⟨⟨a, b⟩, h1, h3, h2⟩ := h
       have h4 := word_ok hT h1
       rw [← h3, ← h2]
       refine ⟨?_, h4.2⟩
       unfold BdK BdKs
       exact ⟨by first | exact hlow | exact Nat.zero_le _, h4.1, Nat.zero_le _, Nat.zero_le _, trivial⟩)
    | (unfold setArg at h
       simp only [Option.bind_eq_some_iff, Option.map_eq_some_iff, Prod.mk.injEq] at h
       obtain ⟨⟨a, b⟩, h1, n, h5, h3, h2⟩ := h
       rw [← h3, ← h2]
       exact ⟨bd_set h5, (atom_ok hT h1).2⟩)
    | (simp only [Option.bind_eq_some_iff, Option.map_eq_some_iff, Prod.mk.injEq] at h
       obtain ⟨⟨a, b⟩, h1, ⟨c, d⟩, h3, h4, h2⟩ := h
       have k1 := hk _ _ _ hT h1
       have k2 := hk _ _ _ k1.2 h3
       rw [← h4, ← h2]
       exact ⟨bd_kids (by simp) (fun y hy => by
         rcases List.mem_cons.1 hy with rfl | hy
         · exact k1.1
         · rw [List.mem_singleton.1 hy]; exact k2.1), k2.2⟩)
    | (simp only [Option.map_eq_some_iff, Prod.mk.injEq] at h
       obtain ⟨⟨a, b⟩, h1, h4, h2⟩ := h
       have k1 := hk _ _ _ hT h1
       rw [← h4, ← h2]
       exact ⟨bd_kids (by simp) (fun y hy => by rw [List.mem_singleton.1 hy]; exact k1.1), k1.2⟩)
    | (simp only [Option.map_eq_some_iff, Prod.mk.injEq] at h
       obtain ⟨a, h1, h4, h2⟩ := h
       rw [← h4, ← h2]
       exact ⟨bd_set h1, hT⟩)
theorem allK_bd (hlen : ∀ l k q, key l = some (k, q) → q.length < l.length) : ∀ {f : Nat} {T q : List Tkn} {ks : List Ky}, OkT T → allK key f T = some (ks, q) → (∀ y ∈ ks, BdK y) ∧ OkT q ∧ ks.length + q.length ≤ T.length
  | 0, _, _, _, _, h => by cases h
  | f + 1, T, q, ks, hT, h => by
    rw [allK] at h
    cases h1 : key T with
    | none => rw [h1] at h; cases h
    | some p =>
      obtain ⟨k, r⟩ := p
      have h2 := hk _ _ _ hT h1
      have h3 := hlen _ _ _ h1
      rw [h1] at h
      simp only at h
      split at h
      · simp only [Option.map_eq_some_iff, Prod.mk.injEq] at h
        obtain ⟨⟨a, b⟩, h4, h5, h6⟩ := h
        obtain ⟨k1, k2, k3⟩ := allK_bd hlen h2.2 h4
        rw [← h5, ← h6]
        refine ⟨fun y hy => ?_, k2, by simp only [List.length_cons]; omega⟩
        rcases List.mem_cons.1 hy with rfl | hy
        · exact h2.1
        · exact k1 y hy
      · simp only [Option.some.injEq, Prod.mk.injEq] at h
        rw [← h.1, ← h.2]
        refine ⟨fun y hy => ?_, h2.2, by simp only [List.length_singleton]; omega⟩
        rw [List.mem_singleton.1 hy]
        exact h2.1
end
theorem keyD_bd : ∀ (D : Nat) (T : List Tkn) (k : Ky) (q : List Tkn), OkT T → keyD (prs 16) D T = some (k, q) → BdK k ∧ OkT q
  | 0, _, _, _, _, h => by cases h
  | D + 1, [], _, _, _, h => by cases h
  | D + 1, t :: r, k, q, hT, h => by
    rw [keyD] at h
    split at h
    · exact wordK_bd (keyD_bd D) hT.tail (hT.1 t (by simp)) h
    · split at h
      · rw [inner_all] at h
        simp only [Option.map_eq_some_iff, Prod.mk.injEq] at h
        obtain ⟨⟨a, b⟩, h1, h2, h3⟩ := h
        unfold shutK at h1
        simp only [Option.bind_eq_some_iff] at h1
        obtain ⟨⟨c, d⟩, h4, h5⟩ := h1
        obtain ⟨k1, k2, k3⟩ := allK_bd (keyD_bd D) (fun l k q h => keyD_len _ D h) hT.tail h4
        have hr := hT.tail.2
        cases d with
        | nil => cases h5
        | cons t2 r2 =>
          simp only at h5
          split at h5
          · simp only [Option.some.injEq, Prod.mk.injEq] at h5
            rw [← h2, ← h3, ← h5.1, ← h5.2]
            exact ⟨bd_kids (show c.length ≤ 140737488355328 by omega) k1, k2.tail⟩
          · cases h5
      · cases h
theorem parse_bd {T : List Tkn} {k : Ky} (hT : OkT T) (h : parseK (prs 16) T = some k) : BdK k := by
  rw [parse_all] at h
  simp only [Option.map_eq_some_iff] at h
  obtain ⟨a, h1, h2⟩ := h
  unfold endK at h1
  simp only [Option.bind_eq_some_iff] at h1
  obtain ⟨⟨c, d⟩, h4, h5⟩ := h1
  obtain ⟨k1, k2, k3⟩ := allK_bd (keyD_bd 5) (fun l k q h => keyD_len _ 5 h) hT h4
  have hr := hT.2
  simp only at h5
  split at h5
  · injection h5 with h5
    rw [← h2, ← h5]
    exact bd_kids (by omega) k1
  · cases h5
theorem match_any {m : Mss} {pl la lu : Int} (k : Ky) : MatchC 16 m pl la lu k :=
  match_step k fun y hy =>
    have : SizeOf.sizeOf y < SizeOf.sizeOf k := Ky.kids_lt hy
    match_any y
termination_by SizeOf.sizeOf k
end Go.Proofs.YtkcnnbglmckmnaaDoor
namespace Go.Proofs.YtkcnnbglmckmnaaDoor
open Go.RowKit Go.Instr
set_option maxHeartbeats 2000000 in
set_option maxRecDepth 100000 in
theorem size_any {b g : Nat} {w : World} {T : List Tkn} {d : Int} (h : Rdr b w g T d) (hb : b ≤ w.heap.size) (hd5 : d ≤ 5) (kind : Int) :
    Calls Tryd.prog 73 #[.pointer (some ⟨g, 0, none⟩), .int .i64 kind] w (KeyR b g d w (numArg kind T)) := by
  have hO0 : Only [] w (w.alloc (.cells zkA 27)) := (Only.refl _ _).alloc _
  have hN := fnext_any (h.keep hO0) (by rw [World.size_alloc]; omega)
  have hB0 : Bk (w.alloc (.cells zkA 27)) w.heap.size 27 zkA := Bk.new _ _ _
  have hg : g < w.heap.size := by have := h.lt; omega
  obtain ⟨G, hG⟩ : ∃ G, numArg kind T = G := ⟨_, rfl⟩
  unfold numArg at hG
  rw [atom_head] at hG
  obtain ⟨⟨t1, t2⟩, ht⟩ : ∃ t, headT T = t := ⟨_, rfl⟩
  unfold NextR at hN
  rw [ht] at hG hN
  simp only at hG
  have HN := Lib.hid hN
  have hnum := fun W => fnumber_any (St t2) W
  rw [St_list] at hnum
  have HO0 := Lib.hid hO0
  have HB0 := Lib.hid hB0
  have HB := Lib.hid hb
  obtain ⟨p, hp⟩ : ∃ p, w.heap.size = p := ⟨_, rfl⟩
  have HP := Lib.hid hp
  have hGG : Hid (numArg kind T = G) := by show _ = _; unfold numArg; rw [atom_head, ht]; exact hG
  rw [hGG.out]
  have HG := Lib.hid hG
  clear hGG hG ht hN hO0 hB0 h hb
  rw [hp] at hg HB0
  unfold zkA at HB0 HN HO0
  have key : ∀ (w1 : World), Only [g] (w.alloc (.cells #[.int .i64 0, .int .i64 0, .string ⟨#[]⟩, .string ⟨#[]⟩, .slice none 0 0, .slice none 0 0] 27)) w1 → Rdr b w1 g T.tail d → ∀ w2, Only [] (w1.alloc (.cells #[.int .i64 t1, .string (St t2)] 45)) w2 →
      Bk w2 p 27 #[.int .i64 0, .int .i64 0, .string ⟨#[]⟩, .string ⟨#[]⟩, .slice none 0 0, .slice none 0 0] ∧ w2.cell? ⟨w1.heap.size, 0, none⟩ = some (.int .i64 t1) ∧ p < w1.heap.size ∧ Only [g] w w2 ∧ Rdr b w2 g T.tail d := fun w1 o1 r1 w2 o2 => by
    have h1 : Bk w1 p 27 _ := HB0.out.only o1 (fun hm => by simp at hm; omega)
    refine ⟨(h1.alloc _).only o2 (fun hm => nomatch hm), ?_, h1.lt, ?_, r1.keep (((Only.refl _ _).alloc _).then o2)⟩
    · rw [((Bk.new w1 45 #[.int .i64 t1, .string (St t2)]).only o2 (fun hm => nomatch hm)).cell]
      rfl
    · exact ((HO0.out.mono (fun _ hx => nomatch hx)).trans o1 (fun x hx => .inl hx)).alloc _ |>.then o2
  have KEY := Lib.hid key
  clear key
  have hbp : Hid (b ≤ p) := by show b ≤ p; rw [← hp]; exact HB.out
  by_cases h1 : t1 = 1
  · cases hn : numD t2 with
    | none =>
      have HE : Hid (G = none) := by show _ = _; rw [← HG.out, if_pos h1, Option.bind_some, hn]; rfl
      rw [hn] at hnum
      have hb1 : (t1 != 1) = false := by rw [h1]; rfl
      clear h1 hn
      unfold numZ at hnum
      go_enter Tryd.func73, Tryd.ntmps73
      go_wp2_with first
        | (go_at_call 51; refine HN.out.mono ?_; rintro e w1 ⟨rfl, O1, R1⟩; have O1 := Lib.hid O1; have R1 := Lib.hid R1; unfold tkv tkc)
        | (go_at_call 96; refine (hnum _).mono ?_; rintro e w2 ⟨rfl, O2⟩; obtain ⟨B2, k20, hpw, O3, R3⟩ := KEY.out w1 O1.out R1.out w2 O2; have B2 := Lib.hid B2; obtain ⟨⟨q0, q1, q2, q3, q4, q5⟩, f0, f1, f2, f3, f4, f5⟩ := B2.out.six; have O3 := Lib.hid O3; have O2 := Lib.hid O2; have R3 := Lib.hid R3)
      refine key_ret (s := 4) (u := 5) (by kernel_rfl) p _ rfl rfl (bk_store6 B2.out _ _ _ _ _ _) ?_
      exact ⟨_, _, _, _, _, _, _, _, _, _, _, rfl, only_store6 O3.out (.inr (by rw [HP.out]; exact Nat.le_refl _)) _ _ _ _ _ _, by show KeyO _ _ _ _ _ _ _ _; rw [HE.out]; exact ⟨rfl, d, T.tail, Int.le_refl _, hd5, R3.out.only (only_store6 (Only.refl [p] _) (.inl (by simp)) _ _ _ _ _ _) (fun x hx => by simp at hx; rw [hx]; exact hbp.out)⟩⟩
    | some n =>
      have HE : Hid (G = some (.mk kind (n : Int) [] [] [] [], T.tail)) := by show _ = _; rw [← HG.out, if_pos h1, Option.bind_some, hn]; rfl
      rw [hn] at hnum
      have hb1 : (t1 != 1) = false := by rw [h1]; rfl
      clear h1 hn
      unfold numZ at hnum
      go_enter Tryd.func73, Tryd.ntmps73
      go_wp2_with first
        | (go_at_call 51; refine HN.out.mono ?_; rintro e w1 ⟨rfl, O1, R1⟩; have O1 := Lib.hid O1; have R1 := Lib.hid R1; unfold tkv tkc)
        | (go_at_call 96; refine (hnum _).mono ?_; rintro e w2 ⟨rfl, O2⟩; obtain ⟨B2, k20, hpw, O3, R3⟩ := KEY.out w1 O1.out R1.out w2 O2; have B2 := Lib.hid B2; obtain ⟨⟨q0, q1, q2, q3, q4, q5⟩, f0, f1, f2, f3, f4, f5⟩ := B2.out.six; have O3 := Lib.hid O3; have O2 := Lib.hid O2; have R3 := Lib.hid R3)
      refine key_ret (s := 4) (u := 5) (by kernel_rfl) p _ rfl rfl (bk_store6 B2.out _ _ _ _ _ _) ?_
      exact ⟨_, _, _, _, _, _, _, _, _, _, _, rfl, only_store6 O3.out (.inr (by rw [HP.out]; exact Nat.le_refl _)) _ _ _ _ _ _, by show KeyO _ _ _ _ _ _ _ _; rw [HE.out]; exact ⟨rfl, KyIs.plain _ _ [] [], R3.out.only (only_store6 (Only.refl [p] _) (.inl (by simp)) _ _ _ _ _ _) (fun x hx => by simp at hx; rw [hx]; exact hbp.out)⟩⟩
  · have HE : Hid (G = none) := by show _ = _; rw [← HG.out, if_neg h1]; rfl
    have hb1 : (t1 != 1) = true := by rw [bne_iff_ne]; exact h1
    obtain ⟨x1, x2, hx⟩ : ∃ x1 x2, numZ (numD t2) = .tuple #[x1, .bool x2] := by cases numD t2 <;> exact ⟨_, _, rfl⟩
    rw [hx] at hnum
    clear h1 hx
    go_enter Tryd.func73, Tryd.ntmps73
    go_wp2_with first
      | (go_at_call 51; refine HN.out.mono ?_; rintro e w1 ⟨rfl, O1, R1⟩; have O1 := Lib.hid O1; have R1 := Lib.hid R1; unfold tkv tkc)
      | (go_at_call 96; refine (hnum _).mono ?_; rintro e w2 ⟨rfl, O2⟩; obtain ⟨B2, k20, hpw, O3, R3⟩ := KEY.out w1 O1.out R1.out w2 O2; have B2 := Lib.hid B2; obtain ⟨⟨q0, q1, q2, q3, q4, q5⟩, f0, f1, f2, f3, f4, f5⟩ := B2.out.six; have O3 := Lib.hid O3; have O2 := Lib.hid O2; have R3 := Lib.hid R3)
    refine key_ret (s := 4) (u := 5) (by kernel_rfl) p _ rfl rfl (bk_store6 B2.out _ _ _ _ _ _) ?_
    exact ⟨_, _, _, _, _, _, _, _, _, _, _, rfl, only_store6 O3.out (.inr (by rw [HP.out]; exact Nat.le_refl _)) _ _ _ _ _ _, by show KeyO _ _ _ _ _ _ _ _; rw [HE.out]; exact ⟨rfl, d, T.tail, Int.le_refl _, hd5, R3.out.only (only_store6 (Only.refl [p] _) (.inl (by simp)) _ _ _ _ _ _) (fun x hx => by simp at hx; rw [hx]; exact hbp.out)⟩⟩
set_option maxHeartbeats 2000000 in
set_option maxRecDepth 100000 in
theorem text_any {b g : Nat} {w : World} {T : List Tkn} {d : Int} (h : Rdr b w g T d) (hb : b ≤ w.heap.size) (hd5 : d ≤ 5) (kind : Int) (nm : List UInt8) :
    Calls Tryd.prog 74 #[.pointer (some ⟨g, 0, none⟩), .agg #[.int .i64 kind, .int .i64 0, .string (St nm), .string ⟨#[]⟩, .slice none 0 0, .slice none 0 0]] w (KeyR b g d w (textArg kind nm T)) := by
  have hO0 : Only [] w ((w.alloc (.cells #[.int .i64 kind, .int .i64 0, .string (St nm), .string ⟨#[]⟩, .slice none 0 0, .slice none 0 0] 27)).alloc (.cells #[.int .i64 0, .int .i64 0, .string ⟨#[]⟩, .string ⟨#[]⟩, .slice none 0 0, .slice none 0 0] 27)) := ((Only.refl _ _).alloc _).alloc _
  have hN := fnext_any (h.keep hO0) (by rw [World.size_alloc, World.size_alloc]; omega)
  have hB0 : Bk ((w.alloc (.cells #[.int .i64 kind, .int .i64 0, .string (St nm), .string ⟨#[]⟩, .slice none 0 0, .slice none 0 0] 27)).alloc (.cells #[.int .i64 0, .int .i64 0, .string ⟨#[]⟩, .string ⟨#[]⟩, .slice none 0 0, .slice none 0 0] 27)) w.heap.size 27 #[.int .i64 kind, .int .i64 0, .string (St nm), .string ⟨#[]⟩, .slice none 0 0, .slice none 0 0] := (Bk.new _ _ _).alloc _
  have hB1 : Bk ((w.alloc (.cells #[.int .i64 kind, .int .i64 0, .string (St nm), .string ⟨#[]⟩, .slice none 0 0, .slice none 0 0] 27)).alloc (.cells #[.int .i64 0, .int .i64 0, .string ⟨#[]⟩, .string ⟨#[]⟩, .slice none 0 0, .slice none 0 0] 27)) (w.heap.size + 1) 27 #[.int .i64 0, .int .i64 0, .string ⟨#[]⟩, .string ⟨#[]⟩, .slice none 0 0, .slice none 0 0] := by
    have := Bk.new (w.alloc (.cells #[.int .i64 kind, .int .i64 0, .string (St nm), .string ⟨#[]⟩, .slice none 0 0, .slice none 0 0] 27)) 27 #[.int .i64 0, .int .i64 0, .string ⟨#[]⟩, .string ⟨#[]⟩, .slice none 0 0, .slice none 0 0]
    rwa [World.size_alloc] at this
  have hg : g < w.heap.size := by have := h.lt; omega
  obtain ⟨⟨t1, t2⟩, ht⟩ : ∃ t, headT T = t := ⟨_, rfl⟩
  obtain ⟨G, hG⟩ : ∃ G, textArg kind nm T = G := ⟨_, rfl⟩
  rw [hG]
  have hGG : Hid (G = (if t1 = 1 ∨ t1 = 2 then some (t2, T.tail) else none).map fun p => (.mk kind 0 nm p.1 [] [], p.2)) := by show _ = _; rw [← hG]; unfold textArg; rw [word_head, ht]
  unfold NextR at hN
  rw [ht] at hN
  have HN := Lib.hid hN
  have HO0 := Lib.hid hO0
  have HB0 := Lib.hid hB0
  have HB1 := Lib.hid hB1
  have HB := Lib.hid hb
  obtain ⟨p, hp⟩ : ∃ p, w.heap.size = p := ⟨_, rfl⟩
  have HP := Lib.hid hp
  clear hG ht hN hO0 hB0 hB1 h hb
  rw [hp] at hg HB0 HB1
  have key : ∀ (w1 : World), Only [g] ((w.alloc (.cells #[.int .i64 kind, .int .i64 0, .string (St nm), .string ⟨#[]⟩, .slice none 0 0, .slice none 0 0] 27)).alloc (.cells #[.int .i64 0, .int .i64 0, .string ⟨#[]⟩, .string ⟨#[]⟩, .slice none 0 0, .slice none 0 0] 27)) w1 →
      Bk w1 p 27 #[.int .i64 kind, .int .i64 0, .string (St nm), .string ⟨#[]⟩, .slice none 0 0, .slice none 0 0] ∧ Bk w1 (p + 1) 27 #[.int .i64 0, .int .i64 0, .string ⟨#[]⟩, .string ⟨#[]⟩, .slice none 0 0, .slice none 0 0] ∧ p + 1 < w1.heap.size ∧ p < w1.heap.size ∧ Only [g] w w1 := fun w1 o1 => by
    have h1 : Bk w1 p 27 _ := HB0.out.only o1 (fun hm => by simp at hm; omega)
    have h2 : Bk w1 (p + 1) 27 _ := HB1.out.only o1 (fun hm => by simp at hm; omega)
    exact ⟨h1, h2, h2.lt, h1.lt, (HO0.out.mono (fun _ hx => nomatch hx)).trans o1 (fun x hx => .inl hx)⟩
  have KEY := Lib.hid key
  clear key
  have hbp : Hid (b ≤ p) := by show b ≤ p; rw [← hp]; exact HB.out
  have hne : p ≠ p + 1 := by omega
  by_cases h1 : t1 = 1 ∨ t1 = 2
  · have HOR := Lib.hid h1
    have HE : Hid (G = some (.mk kind 0 nm t2 [] [], T.tail)) := by show _ = _; rw [hGG.out, if_pos h1]; rfl
    clear hGG HOR
    rcases h1 with h1 | h1
    · have hb1 : (t1 != 1) = false := by rw [h1]; rfl
      clear h1
      go_enter Tryd.func74, Tryd.ntmps74
      go_upto_region 2 with (go_at_call 51; refine HN.out.mono ?_; rintro e w1 ⟨rfl, O1, R1⟩; obtain ⟨B2, B3, hpw, hpw', O3⟩ := KEY.out w1 O1; unfold tkv tkc; clear HN)
      have BW2 := Lib.hid (B2.alloc (.cells #[.int .i64 t1, .string (St t2)] 45))
      have BW3 := Lib.hid (B3.alloc (.cells #[.int .i64 t1, .string (St t2)] 45))
      have KT := Lib.hid (Bk.new w1 45 #[.int .i64 t1, .string (St t2)])
      have OW := Lib.hid (O3.alloc (.cells #[.int .i64 t1, .string (St t2)] 45))
      have RW := Lib.hid (R1.keep ((Only.refl _ _).alloc (.cells #[.int .i64 t1, .string (St t2)] 45)))
      have hneT : p ≠ w1.heap.size := by omega
      clear B2 B3 O1 O3 R1
      obtain ⟨gt, hgt⟩ : ∃ gt, w1.heap.size = gt := ⟨_, rfl⟩
      rw [hgt] at KT hneT ⊢
      clear hgt hpw hpw'
      generalize w1.alloc (.cells #[.int .i64 t1, .string (St t2)] 45) = W at *
      obtain ⟨⟨q0, q1, q2, q3, q4, q5⟩, f0, f1, f2, f3, f4, f5⟩ := BW2.out.six
      obtain ⟨⟨r0, r1, r2, r3, r4, r5⟩, g0, g1, g2, g3, g4, g5⟩ := BW3.out.six
      obtain ⟨⟨t0, tt⟩, _⟩ := KT.out.two
      have hpW := BW2.out.lt
      go_wp2_with fail
      refine key_ret (s := 4) (u := 5) (by kernel_rfl) (p + 1) _ rfl rfl (bk_store6 (BW3.out.far (p := ⟨p, 3, none⟩) (by simp) _) _ _ _ _ _ _) ?_
      have O4 : Only [p] W (W.setCell ⟨p, 3, none⟩ (.string (St t2))) := (Only.refl [p] _).setCell (.inl (by simp)) _
      have O5 : Only [g] w (W.setCell ⟨p, 3, none⟩ (.string (St t2))) := OW.out.trans O4 (fun x hx => .inr (by simp at hx; rw [hx, HP.out]; exact Nat.le_refl _))
      exact ⟨_, _, _, _, _, _, _, _, _, _, _, rfl, only_store6 O5 (.inr (by rw [HP.out]; omega)) _ _ _ _ _ _, by show KeyO _ _ _ _ _ _ _ _; rw [HE.out]; exact ⟨rfl, KyIs.plain _ _ nm t2, (RW.out.only O4 (fun x hx => by simp at hx; rw [hx]; exact hbp.out)).only (only_store6 (Only.refl [p + 1] _) (.inl (by simp)) _ _ _ _ _ _) (fun x hx => by simp at hx; rw [hx]; have := hbp.out; omega)⟩⟩
    · have hb1 : (t1 != 1) = true := by rw [h1]; rfl
      have hb2 : (t1 != 2) = false := by rw [h1]; rfl
      clear h1
      go_enter Tryd.func74, Tryd.ntmps74
      go_upto_region 2 with (go_at_call 51; refine HN.out.mono ?_; rintro e w1 ⟨rfl, O1, R1⟩; obtain ⟨B2, B3, hpw, hpw', O3⟩ := KEY.out w1 O1; unfold tkv tkc; clear HN)
      have BW2 := Lib.hid (B2.alloc (.cells #[.int .i64 t1, .string (St t2)] 45))
      have BW3 := Lib.hid (B3.alloc (.cells #[.int .i64 t1, .string (St t2)] 45))
      have KT := Lib.hid (Bk.new w1 45 #[.int .i64 t1, .string (St t2)])
      have OW := Lib.hid (O3.alloc (.cells #[.int .i64 t1, .string (St t2)] 45))
      have RW := Lib.hid (R1.keep ((Only.refl _ _).alloc (.cells #[.int .i64 t1, .string (St t2)] 45)))
      have hneT : p ≠ w1.heap.size := by omega
      clear B2 B3 O1 O3 R1
      obtain ⟨gt, hgt⟩ : ∃ gt, w1.heap.size = gt := ⟨_, rfl⟩
      rw [hgt] at KT hneT ⊢
      clear hgt hpw hpw'
      generalize w1.alloc (.cells #[.int .i64 t1, .string (St t2)] 45) = W at *
      obtain ⟨⟨q0, q1, q2, q3, q4, q5⟩, f0, f1, f2, f3, f4, f5⟩ := BW2.out.six
      obtain ⟨⟨r0, r1, r2, r3, r4, r5⟩, g0, g1, g2, g3, g4, g5⟩ := BW3.out.six
      obtain ⟨⟨t0, tt⟩, _⟩ := KT.out.two
      have hpW := BW2.out.lt
      go_wp2_with fail
      refine key_ret (s := 4) (u := 5) (by kernel_rfl) (p + 1) _ rfl rfl (bk_store6 (BW3.out.far (p := ⟨p, 3, none⟩) (by simp) _) _ _ _ _ _ _) ?_
      have O4 : Only [p] W (W.setCell ⟨p, 3, none⟩ (.string (St t2))) := (Only.refl [p] _).setCell (.inl (by simp)) _
      have O5 : Only [g] w (W.setCell ⟨p, 3, none⟩ (.string (St t2))) := OW.out.trans O4 (fun x hx => .inr (by simp at hx; rw [hx, HP.out]; exact Nat.le_refl _))
      exact ⟨_, _, _, _, _, _, _, _, _, _, _, rfl, only_store6 O5 (.inr (by rw [HP.out]; omega)) _ _ _ _ _ _, by show KeyO _ _ _ _ _ _ _ _; rw [HE.out]; exact ⟨rfl, KyIs.plain _ _ nm t2, (RW.out.only O4 (fun x hx => by simp at hx; rw [hx]; exact hbp.out)).only (only_store6 (Only.refl [p + 1] _) (.inl (by simp)) _ _ _ _ _ _) (fun x hx => by simp at hx; rw [hx]; have := hbp.out; omega)⟩⟩
  · have HE : Hid (G = none) := by show _ = _; rw [hGG.out, if_neg h1]; rfl
    have hb1 : (t1 != 1) = true := by rw [bne_iff_ne]; exact fun e => h1 (.inl e)
    have hb2 : (t1 != 2) = true := by rw [bne_iff_ne]; exact fun e => h1 (.inr e)
    clear h1 hGG
    go_enter Tryd.func74, Tryd.ntmps74
    go_upto_region 2 with (go_at_call 51; refine HN.out.mono ?_; rintro e w1 ⟨rfl, O1, R1⟩; obtain ⟨B2, B3, hpw, hpw', O3⟩ := KEY.out w1 O1; unfold tkv tkc; clear HN)
    have BW2 := Lib.hid (B2.alloc (.cells #[.int .i64 t1, .string (St t2)] 45))
    have BW3 := Lib.hid (B3.alloc (.cells #[.int .i64 t1, .string (St t2)] 45))
    have KT := Lib.hid (Bk.new w1 45 #[.int .i64 t1, .string (St t2)])
    have OW := Lib.hid (O3.alloc (.cells #[.int .i64 t1, .string (St t2)] 45))
    have RW := Lib.hid (R1.keep ((Only.refl _ _).alloc (.cells #[.int .i64 t1, .string (St t2)] 45)))
    have hneT : p ≠ w1.heap.size := by omega
    clear B2 B3 O1 O3 R1
    obtain ⟨gt, hgt⟩ : ∃ gt, w1.heap.size = gt := ⟨_, rfl⟩
    rw [hgt] at KT hneT ⊢
    clear hgt hpw hpw'
    generalize w1.alloc (.cells #[.int .i64 t1, .string (St t2)] 45) = W at *
    obtain ⟨⟨q0, q1, q2, q3, q4, q5⟩, f0, f1, f2, f3, f4, f5⟩ := BW2.out.six
    obtain ⟨⟨r0, r1, r2, r3, r4, r5⟩, g0, g1, g2, g3, g4, g5⟩ := BW3.out.six
    obtain ⟨⟨t0, tt⟩, _⟩ := KT.out.two
    have hpW := BW2.out.lt
    go_wp2_with fail
    refine key_ret (s := 4) (u := 5) (by kernel_rfl) (p + 1) _ rfl rfl (bk_store6 BW3.out _ _ _ _ _ _) ?_
    exact ⟨_, _, _, _, _, _, _, _, _, _, _, rfl, only_store6 OW.out (.inr (by rw [HP.out]; omega)) _ _ _ _ _ _, by show KeyO _ _ _ _ _ _ _ _; rw [HE.out]; exact ⟨rfl, d, T.tail, Int.le_refl _, hd5, RW.out.only (only_store6 (Only.refl [p + 1] _) (.inl (by simp)) _ _ _ _ _ _) (fun x hx => by simp at hx; rw [hx]; have := hbp.out; omega)⟩⟩
end Go.Proofs.YtkcnnbglmckmnaaDoor
namespace Go.Proofs.YtkcnnbglmckmnaaDoor
open Go.RowKit Go.Instr
def SetR (w : World) (o : Option Ky) (e : Ending) (w' : World) : Prop :=
  ∃ (kd n : Int) (s t : ByteArray) (SA : Option Addr) (ns sc : Nat) (KA : Option Addr) (nk kc : Nat) (bo : Bool), e = .returned (.tuple #[.agg #[.int .i64 kd, .int .i64 n, .string s, .string t, .slice SA ns sc, .slice KA nk kc], .bool bo]) ∧ Only [] w w' ∧
    Hid (match o with
      | none => bo = false
      | some k => bo = true ∧ KyIs (fun x => w.heap.size ≤ x ∧ x < w'.heap.size) w' k [.int .i64 kd, .int .i64 n, .string s, .string t, .slice SA ns sc, .slice KA nk kc])
set_option maxHeartbeats 2000000 in
set_option maxRecDepth 100000 in
theorem set_any (kind t1 : Int) (t2 : List UInt8) (w : World) (hbig : t2.length ≤ 140737488355328) :
    Calls Tryd.prog 75 #[.int .i64 kind, .agg #[.int .i64 t1, .string (St t2)]] w (SetR w (if t1 = 1 then (prs 16 t2).map fun l => .mk kind 0 [] [] l [] else none)) := by
  have hP := fun W => Parse_any (St t2) W (by rw [St_size]; exact hbig)
  rw [St_list] at hP
  have hO0 : Only [] w ((w.alloc (.cells #[.int .i64 t1, .string (St t2)] 45)).alloc (.cells zkA 27)) := ((Only.refl _ _).alloc _).alloc _
  have hB0 : Bk ((w.alloc (.cells #[.int .i64 t1, .string (St t2)] 45)).alloc (.cells zkA 27)) w.heap.size 45 #[.int .i64 t1, .string (St t2)] := (Bk.new _ _ _).alloc _
  have hB1 : Bk ((w.alloc (.cells #[.int .i64 t1, .string (St t2)] 45)).alloc (.cells zkA 27)) (w.heap.size + 1) 27 zkA := by
    have := Bk.new (w.alloc (.cells #[.int .i64 t1, .string (St t2)] 45)) 27 zkA
    rwa [World.size_alloc] at this
  obtain ⟨p, hp⟩ : ∃ p, w.heap.size = p := ⟨_, rfl⟩
  have HP := Lib.hid hp
  rw [hp] at hB0 hB1
  obtain ⟨G, hG⟩ : ∃ G, prs 16 t2 = G := ⟨_, rfl⟩
  rw [hG] at hP ⊢
  unfold zkA at hO0 hB0 hB1
  have key : ∀ w1, Only [] ((w.alloc (.cells #[.int .i64 t1, .string (St t2)] 45)).alloc (.cells #[.int .i64 0, .int .i64 0, .string ⟨#[]⟩, .string ⟨#[]⟩, .slice none 0 0, .slice none 0 0] 27)) w1 →
      Bk w1 (p + 1) 27 #[.int .i64 0, .int .i64 0, .string ⟨#[]⟩, .string ⟨#[]⟩, .slice none 0 0, .slice none 0 0] ∧ w1.cell? ⟨p, 0, none⟩ = some (.int .i64 t1) ∧ Only [] w w1 := fun w1 o1 =>
    ⟨hB1.only o1 (fun hm => nomatch hm), by rw [(hB0.only o1 (fun hm => nomatch hm)).cell]; rfl, hO0.then o1⟩
  have KEY := Lib.hid key
  clear key hG hO0 hB0 hB1 hbig
  have hpl : Hid (∀ n c, p + n + c ≥ p) := fun n c => by omega
  cases G with
  | none =>
    have HE : Hid ((if t1 = 1 then (none : Option (List Rg)).map (fun l => Ky.mk kind 0 [] [] l []) else none) = none) := by show _ = _; split <;> rfl
    rw [HE.out]
    have e3 : errO (none : Option (List Rg)) = 3 := rfl
    rw [e3] at hP
    by_cases h1 : t1 = 1
    all_goals
      first
        | (have hb1 : (t1 != 1) = false := by rw [h1]; rfl)
        | (have hb1 : (t1 != 1) = true := by rw [bne_iff_ne]; exact h1)
      clear h1
      go_enter Tryd.func75, Tryd.ntmps75
      go_wp2_with (go_at_call 97; refine (hP _).mono ?_; rintro e w1 ⟨A, c, rfl, V1, N1, O1⟩; obtain ⟨B1, k1, O2⟩ := KEY.out w1 O1; have B1 := Lib.hid B1; have O2 := Lib.hid O2; obtain ⟨⟨q0, q1, q2, q3, q4, q5⟩, f0, f1, f2, f3, f4, f5⟩ := B1.out.six; clear hP)
      refine key_ret (s := 4) (u := 5) (by kernel_rfl) (p + 1) _ rfl rfl (bk_store6 B1.out _ _ _ _ _ _) ?_
      exact ⟨_, _, _, _, _, _, _, _, _, _, _, rfl, only_store6 O2.out (.inr (by rw [HP.out]; omega)) _ _ _ _ _ _, rfl⟩
  | some l =>
    have e3 : errO (some l) = 0 := rfl
    have e4 : lstO (some l) = l := rfl
    rw [e3, e4] at hP
    obtain ⟨m, hm⟩ : ∃ m, l.length = m := ⟨_, rfl⟩
    rw [hm] at hP
    by_cases h1 : t1 = 1
    · have hb1 : (t1 != 1) = false := by rw [h1]; rfl
      rw [if_pos h1]
      clear h1 hm
      go_enter Tryd.func75, Tryd.ntmps75
      go_wp2_with (go_at_call 97; refine (hP _).mono ?_; rintro e w1 ⟨A, c, rfl, V1, N1, O1⟩; obtain ⟨B1, k1, O2⟩ := KEY.out w1 O1; have B1 := Lib.hid B1; have O2 := Lib.hid O2; have V1 := Lib.hid V1; have N1 := Lib.hid N1; obtain ⟨⟨q0, q1, q2, q3, q4, q5⟩, f0, f1, f2, f3, f4, f5⟩ := B1.out.six; clear hP)
      have hN : ∀ x ∈ blks A, p + 2 ≤ x := fun x hx => by have := N1.out x hx; rw [World.size_alloc, World.size_alloc] at this; rw [HP.out] at this; omega
      refine key_ret (s := 4) (u := 5) (by kernel_rfl) (p + 1) _ rfl rfl (bk_store6 B1.out _ _ _ _ _ _) ?_
      exact ⟨_, _, _, _, _, _, _, _, _, _, _, rfl, only_store6 O2.out (.inr (by rw [HP.out]; omega)) _ _ _ _ _ _, rfl, KyIs.ofSet _ _ (V1.out.reads.only (only_store6 (Only.refl [p + 1] _) (.inl (by simp)) _ _ _ _ _ _) (fun x hx hm => by have := hN x hx; simp at hm; omega)) (fun x hx => by have := hN x hx; have h2 := V1.out.lt hx; rw [HP.out]; refine ⟨by omega, ?_⟩; simp only [World.setCell, Array.size_modify]; exact h2)⟩
    · have hb1 : (t1 != 1) = true := by rw [bne_iff_ne]; exact h1
      rw [if_neg h1]
      clear h1 hm
      go_enter Tryd.func75, Tryd.ntmps75
      go_wp2_with (go_at_call 97; refine (hP _).mono ?_; rintro e w1 ⟨A, c, rfl, V1, N1, O1⟩; obtain ⟨B1, k1, O2⟩ := KEY.out w1 O1; have B1 := Lib.hid B1; have O2 := Lib.hid O2; obtain ⟨⟨q0, q1, q2, q3, q4, q5⟩, f0, f1, f2, f3, f4, f5⟩ := B1.out.six; clear hP)
      refine key_ret (s := 4) (u := 5) (by kernel_rfl) (p + 1) _ rfl rfl (bk_store6 B1.out _ _ _ _ _ _) ?_
      exact ⟨_, _, _, _, _, _, _, _, _, _, _, rfl, only_store6 O2.out (.inr (by rw [HP.out]; omega)) _ _ _ _ _ _, rfl⟩
end Go.Proofs.YtkcnnbglmckmnaaDoor
namespace Go.Proofs.YtkcnnbglmckmnaaDoor
open Go
section
variable {P : Program} {a : Act} {w : World} {Q : Exit → Act → World → Prop}
theorem wp_scope_back {c body : Code} (l : Nat) (J : Act → World → Prop) (μ : Act → World → Nat) (hf : findLabel c l = some (.seq .skip body))
    (pass : ∀ a w, J a w → body.wp P (Exit.jump l (fun a' w' => J a' w' ∧ μ a' w' < μ a w) Q) a w)
    (first : (∀ a w, J a w → body.wp P (Exit.jump l J Q) a w) → c.wp P (Exit.jump l J Q) a w) : (Code.scope c).wp P Q a w :=
  wp_scope_jumps l J μ hf (first fun a w h => wp_mono (pass a w h) fun e a' w' he => by
    cases e with
    | goto l' => exact ⟨he.1, he.2.1⟩
    | _ => exact he) fun a w h => wp_seq (wp_skip (pass a w h))
end
end Go.Proofs.YtkcnnbglmckmnaaDoor
