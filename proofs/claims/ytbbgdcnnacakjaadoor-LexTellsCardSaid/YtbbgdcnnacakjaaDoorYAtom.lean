/-
  lex.atom: the atom that bytes begin with (laid by gen/yatom.py).
-/
import Derived.Test.YtbbgdcnnacakjaaDoorYText
import Derived.Test.YtbbgdcnnacakjaaDoorGoto
namespace Go.Proofs.YtbbgdcnnacakjaaDoor
open Go.RowKit Go.Instr

theorem map_add (o : Option Nat) (a b : Nat) : (o.map (· + a)).map (· + b) = o.map (· + (b + a)) := by
  cases o with
  | none => rfl
  | some n => simp only [Option.map_some, Option.some.injEq]; omega
theorem atom_nil : atomN false [] = some 0 := by unfold atomN; rfl
theorem atom_ends {x : UInt8} {r : List UInt8} (h : endsB x = true) : atomN false (x :: r) = some 0 := by
  unfold atomN
  rw [if_pos ⟨rfl, h⟩]
theorem atom_deep (r : List UInt8) : atomN true r = if fi 93 r < r.length then (atomN false (r.drop (fi 93 r + 1))).map (· + (fi 93 r + 1)) else none := by
  induction r with
  | nil => unfold atomN; rfl
  | cons c r ih =>
    conv => lhs; unfold atomN
    rw [if_neg (by simp), fi_cons]
    by_cases h : c = 93
    · subst h
      simp
    · rw [if_neg h, if_neg h]
      have e : (if c = 91 then true else true) = true := by split <;> rfl
      rw [e, ih]
      by_cases h2 : fi 93 r < r.length
      · rw [if_pos h2, if_pos (by rw [List.length_cons]; omega)]
        rw [map_add, List.drop_succ_cons, show 1 + (fi 93 r + 1) = fi 93 r + 1 + 1 by omega]
      · rw [if_neg h2, if_neg (by rw [List.length_cons]; omega)]
        rfl
theorem atom_open {r : List UInt8} : atomN false (91 :: r) = if fi 93 (91 :: r) < (91 :: r).length then (atomN false ((91 :: r).drop (fi 93 (91 :: r) + 1))).map (· + (fi 93 (91 :: r) + 1)) else none := by
  conv => lhs; unfold atomN
  rw [if_neg (by simp [endsB]), if_pos rfl, atom_deep, fi_cons, if_neg (show ¬ (91 : UInt8) = 93 by decide)]
  by_cases h2 : fi 93 r < r.length
  · rw [if_pos h2, if_pos (by rw [List.length_cons]; omega), List.drop_succ_cons, map_add, show 1 + (fi 93 r + 1) = fi 93 r + 1 + 1 by omega]
  · rw [if_neg h2, if_neg (by rw [List.length_cons]; omega)]
    rfl
theorem atom_one {x : UInt8} {r : List UInt8} (h1 : endsB x = false) (h2 : x ≠ 91) : atomN false (x :: r) = (atomN false r).map (· + 1) := by
  conv => lhs; unfold atomN
  rw [if_neg (by rw [h1]; simp), if_neg h2]
  have e : (if x = 93 then false else false) = false := by split <;> rfl
  rw [e]
section
variable (w : World) (A : Option Addr) (n c : Nat) (g : Nat) (l : List UInt8) (G : Option Nat)
def AJ (a : Act) (W : World) : Prop :=
  ∃ (k : Nat), ∃ (u1 u6 u7 u8 u9 u10 u11 u12 u13 u14 u15 u16 u17 u18 u19 u20 u21 u22 u23 u24 u25 u26 u27 u28 u29 u30 u31 u32 u33 u34 u35 u36 u37 u38 u39 u40 u41 u42 u43 : Value), a = { tmps := #[.slice A n c, u1, .pointer (some ⟨g, 0, none⟩), .slice none 0 0, .bool false, .int .i64 (k : Int), u6, u7, u8, u9, u10, u11, u12, u13, u14, u15, u16, u17, u18, u19, u20, u21, u22, u23, u24, u25, u26, u27, u28, u29, u30, u31, u32, u33, u34, u35, u36, u37, u38, u39, u40, u41, u42, u43], defers := [] } ∧
    k ≤ n ∧ Bk W g 40 (tkc (0, [])) ∧ Only [] w W ∧ Hid (G = (atomN false (l.drop k)).map (· + k))
end
set_option maxRecDepth 100000 in
set_option maxHeartbeats 4000000 in
theorem atom_any {w : World} {A : Option Addr} {n c : Nat} {l : List UInt8} (hs : Bt w A n c l) (hn : n ≤ 140737488355000) (hA : ∀ k ∈ blks A, k < w.heap.size) :
    Calls Tryd.prog 35 #[.slice A n c] w (TokR w A ((atomN false l).map fun k => ((1, l.take k), l.drop k))) := by
  obtain ⟨G, hG⟩ : ∃ G, atomN false l = G := ⟨_, rfl⟩
  rw [hG]
  have HG := Lib.hid hG
  clear hG
  have hO0 : Only [] w (w.alloc (.cells #[.int .i64 0, .string ⟨#[]⟩] 40)) := (Only.refl _ _).alloc _
  have HB0 := Lib.hid (Bk.new w 40 #[.int .i64 0, .string ⟨#[]⟩])
  have HL := Lib.hid hs.len
  have HA := Lib.hid hA
  have HS0 := Lib.hid hs
  clear hs hA
  go_enter Tryd.func35, Tryd.ntmps35
  go_wp2_with fail
  refine wp_scope_back 0 (AJ w A n c w.heap.size l G) (fun a' _ => n + 1 - (intOf (a'.tmps.getD 5 undef)).toNat) rfl ?pass ?first
  case first =>
    intro p
    go_wp2_with fail
    rename_i hK
    refine wp_label (hK _ _ (p _ _ ?_))
    exact ⟨0, _, _, _, _, _, _, _, _, _, _, _, _, _, _, _, _, _, _, _, _, _, _, _, _, _, _, _, _, _, _, _, _, _, _, _, _, _, _, _, rfl, Nat.zero_le _, HB0.out, hO0, by show _ = _; rw [List.drop_zero, HG.out]; cases G <;> simp⟩
  case pass =>
    clear HB0 hO0 HG
    obtain ⟨g, hg⟩ : ∃ g, w.heap.size = g := ⟨_, rfl⟩
    rw [hg]
    have HGG := Lib.hid hg
    rw [hg] at HA
    clear hg
    rintro a' W ⟨k, u1, u6, u7, u8, u9, u10, u11, u12, u13, u14, u15, u16, u17, u18, u19, u20, u21, u22, u23, u24, u25, u26, u27, u28, u29, u30, u31, u32, u33, u34, u35, u36, u37, u38, u39, u40, u41, u42, u43, rfl, hk, hB, hO, HE⟩
    have hc0 : W.cell? ⟨g, 0, none⟩ = some (.int .i64 0) := by rw [hB.cell]; rfl
    have hc1 : W.cell? ⟨g, 1, none⟩ = some (.string ⟨#[]⟩) := by rw [hB.cell]; rfl
    have hf0 := hB.free 0
    have hf1 := hB.free 1
    have HO := Lib.hid hO
    have HB := Lib.hid hB
    have HS := Lib.hid (HS0.out.keep hO)
    clear hB hO HS0
    by_cases hkn : k = n
    · have hnk := hkn.symm
      subst hnk
      have hcap := HS.out.cap
      have HN : Hid (G = some n) := by show _ = _; rw [HE.out, List.drop_of_length_le (by rw [HL.out]; omega), atom_nil]; simp
      have hpre := ybt_pre HS.out (k := n) (by omega)
      obtain ⟨A2, c2, hcut, hs2, hbl⟩ := ybt_cut HS.out (k := n) (by omega)
      rw [Nat.sub_self] at hcut hs2
      have hp := HS.out.pre (k := n) (by omega)
      have hcv := run_str_sl (P := Tryd.prog) (w := W) 32 9 5 A n c (l.take n) Tryd.underlying32 Tryd.underlying5 Tryd.underlying9 hp.sl
      have hcv2 := run_str_sl (P := Tryd.prog) (w := W.drew) 32 9 5 A n c (l.take n) Tryd.underlying32 Tryd.underlying5 Tryd.underlying9 (hp.keep (Only.refl _ _).drew).sl
      have HSET := Lib.hid (tok_set HB.out (1, l.take n))
      obtain ⟨t, ht⟩ : ∃ t, St (l.take n) = t := ⟨_, rfl⟩
      rw [ht] at hcv hcv2
      have HT := Lib.hid ht
      have HS2 := Lib.hid hs2
      have HBL := Lib.hid hbl
      clear ht hp hs2 hbl
      go_wp2_with fail
      go_region
      go_wp2_with fail
      simp only [Exit.jump]
      have hO2 : Only [] w (((W.setCell ⟨g, 0, none⟩ (.int .i64 1)).setCell ⟨g, 1, none⟩ (.string (St (l.take n)))).drew) := ((HO.out.setCell (.inr (by rw [HGG.out]; exact Nat.le_refl _)) _).setCell (.inr (by rw [HGG.out]; exact Nat.le_refl _)) _).drew
      have hK0 := HS2.out.only (rs := [g]) ((((Only.refl [g] W).setCell (p := ⟨g, 0, none⟩) (.inl (by simp)) (.int .i64 1)).setCell (p := ⟨g, 1, none⟩) (.inl (by simp)) (.string (St (l.take n)))).drew) (fun x hx hm => by have := HA.out x (by rw [← HBL.out]; exact hx); simp at hm; omega)
      rw [← HT.out]
      refine tok_ret (s := 2) (u := 3) (v := 4) (by kernel_rfl) g (1, l.take n) _ _ rfl rfl rfl HSET.out.drew ?_
      exact ⟨(1, l.take n), A2, 0, c2, l.drop n, true, rfl, hK0, hO2, fun x hx => by rw [← HBL.out]; exact hx, by show _ = _; rw [HN.out]; rfl⟩
    · have hlt : k < n := by omega
      have hlt' : (k : Int) < (n : Int) := by omega
      have hkb : ((k : Int) == (n : Int)) = false := by rw [beq_eq_false_iff_ne]; omega
      have hkl : k < l.length := by rw [HL.out]; exact hlt
      obtain ⟨ad, u, rfl, hu, hc⟩ := HS.out.sl.at_ hlt
      rw [bvs_get l k hkl] at hu
      injection hu with hu
      subst hu
      have hdk := List.drop_eq_getElem_cons hkl
      obtain ⟨x, hx⟩ : ∃ x, l[k] = x := ⟨_, rfl⟩
      rw [hx] at hc hdk
      have hes := fun W => ends_any x W
      obtain ⟨y, hy⟩ : ∃ y, x.toNat = y := ⟨_, rfl⟩
      unfold bv at hc
      rw [hy] at hc hes
      cases hb : endsB x with
      | true =>
        rw [hb] at hes
        have HN : Hid (G = some k) := by show _ = _; rw [HE.out, hdk, atom_ends hb]; simp
        have hpre := ybt_pre HS.out (k := k) (by omega)
        obtain ⟨A2, c2, hcut, hs2, hbl⟩ := ybt_cut HS.out (k := k) (by omega)
        have hp := HS.out.pre (k := k) (by omega)
        have hcv := run_str_sl (P := Tryd.prog) (w := W) 32 9 5 (some ad) k c (l.take k) Tryd.underlying32 Tryd.underlying5 Tryd.underlying9 hp.sl
        have hcv2 := run_str_sl (P := Tryd.prog) (w := W.drew) 32 9 5 (some ad) k c (l.take k) Tryd.underlying32 Tryd.underlying5 Tryd.underlying9 (hp.keep (Only.refl _ _).drew).sl
        have HSET := Lib.hid (tok_set HB.out (1, l.take k))
        obtain ⟨t, ht⟩ : ∃ t, St (l.take k) = t := ⟨_, rfl⟩
        rw [ht] at hcv hcv2
        have HT := Lib.hid ht
        have HS2 := Lib.hid hs2
        have HBL := Lib.hid hbl
        clear ht hp hs2 hbl hb hx hy hdk
        go_wp2_with (go_at_call 46; (with_reducible refine (hes _).mono ?_); rintro e w2 ⟨⟨I, rfl, HI2⟩, rfl⟩; have hI2 : decide (0 ≤ I) = true := HI2.out; clear hes)
        go_region
        go_wp2_with fail
        simp only [Exit.jump]
        have hO2 : Only [] w (((W.setCell ⟨g, 0, none⟩ (.int .i64 1)).setCell ⟨g, 1, none⟩ (.string (St (l.take k)))).drew) := ((HO.out.setCell (.inr (by rw [HGG.out]; exact Nat.le_refl _)) _).setCell (.inr (by rw [HGG.out]; exact Nat.le_refl _)) _).drew
        have hK0 := HS2.out.only (rs := [g]) ((((Only.refl [g] W).setCell (p := ⟨g, 0, none⟩) (.inl (by simp)) (.int .i64 1)).setCell (p := ⟨g, 1, none⟩) (.inl (by simp)) (.string (St (l.take k)))).drew) (fun x hx hm => by have := HA.out x (by rw [← HBL.out]; exact hx); simp at hm; omega)
        rw [← HT.out]
        refine tok_ret (s := 2) (u := 3) (v := 4) (by kernel_rfl) g (1, l.take k) _ _ rfl rfl rfl HSET.out.drew ?_
        exact ⟨(1, l.take k), A2, n - k, c2, l.drop k, true, rfl, hK0, hO2, fun x hx => by rw [← HBL.out]; exact hx, by show _ = _; rw [HN.out]; rfl⟩
      | false =>
        rw [hb] at hes
        by_cases h91 : y = 91
        · subst h91
          obtain rfl : x = 91 := UInt8.toNat_inj.1 (by rw [hy]; rfl)
          have e91 : ((91 : Nat) : Int) = 91 := rfl
          rw [e91] at hc hes
          clear e91
          obtain ⟨A2, c2, hcut, hs2, hbl⟩ := ybt_cut HS.out (k := k) (by omega)
          have hidx := indexByte_any hs2 (by omega) 93
          rw [show bv 93 = .int .u8 93 from rfl] at hidx
          have hop := atom_open (r := l.drop (k + 1))
          rw [← hdk] at hop
          obtain ⟨j, hj⟩ : ∃ j, fi 93 (l.drop k) = j := ⟨_, rfl⟩
          have hjl : (l.drop k).length = n - k := by rw [List.length_drop, HL.out]
          rw [hj, hjl] at hidx hop
          by_cases hjn : j < n - k
          · rw [if_pos hjn] at hidx hop
            rw [List.drop_drop] at hop
            have HR : Hid (G = (atomN false (l.drop (k + j + 1))).map (· + (k + j + 1))) := by
              show _ = _
              rw [HE.out, hop, map_add, show k + (j + 1) = k + j + 1 by omega]
            have HIDX := Lib.hid hidx
            have HCUT := Lib.hid hcut
            clear hb hx hy hdk hop hj hjl hs2 hbl hidx
            go_wp2_with first
              | (go_at_call 46; (with_reducible refine (hes _).mono ?_); rintro e w2 ⟨⟨I, rfl, HI2⟩, rfl⟩; have hI2 : decide (0 ≤ I) = false := HI2.out; clear hes)
              | (go_at_call 47; (with_reducible refine HIDX.out.mono ?_); rintro e w2 ⟨rfl, rfl⟩)
            go_step3
            have hK : Int.natAbs 0 = 0 := rfl
            refine And.intro (show _ = _ from rfl) (And.intro (show AJ w (some ad) n c g l G _ _ from ⟨k + j + 1, _, _, _, _, _, _, _, _, _, _, _, _, _, _, _, _, _, _, _, _, _, _, _, _, _, _, _, _, _, _, _, _, _, _, _, _, _, _, _, rfl, by omega, HB.out, HO.out, HR.out⟩) ?_)
            show n + 1 - ((k : Int) + (j : Int) + 1).toNat < n + 1 - (k : Int).toNat
            omega
          · rw [if_neg hjn] at hidx hop
            have HR : Hid (G = none) := by
              show _ = _
              rw [HE.out, hop]
              rfl
            have HIDX := Lib.hid hidx
            have HSET := Lib.hid (tok_set HB.out (0, []))
            clear hb hx hy hdk hop hj hjl hs2 hbl hidx
            go_wp2_with first
              | (go_at_call 46; (with_reducible refine (hes _).mono ?_); rintro e w2 ⟨⟨I, rfl, HI2⟩, rfl⟩; have hI2 : decide (0 ≤ I) = false := HI2.out; clear hes)
              | (go_at_call 47; (with_reducible refine HIDX.out.mono ?_); rintro e w2 ⟨rfl, rfl⟩)
            simp only [Exit.jump]
            refine tok_ret (s := 2) (u := 3) (v := 4) (by kernel_rfl) g (0, []) _ _ rfl rfl rfl HSET.out ?_
            exact ⟨(0, []), none, 0, 0, [], false, rfl, Bt.none_ _, (HO.out.setCell (.inr (by rw [HGG.out]; exact Nat.le_refl _)) _).setCell (.inr (by rw [HGG.out]; exact Nat.le_refl _)) _, (fun _ h => nomatch h), by show _ = _; rw [HR.out]; rfl⟩
        · have hb91 : ((y : Int) == 91) = false := by rw [beq_eq_false_iff_ne]; omega
          have hx91 : x ≠ 91 := fun h => h91 (by rw [← hy, h]; rfl)
          have HR : Hid (G = (atomN false (l.drop (k + 1))).map (· + (k + 1))) := by
            show _ = _
            rw [HE.out, hdk, atom_one hb hx91, map_add]
          clear hb hx hy hdk hx91 h91
          go_wp2_with (go_at_call 46; (with_reducible refine (hes _).mono ?_); rintro e w2 ⟨⟨I, rfl, HI2⟩, rfl⟩; have hI2 : decide (0 ≤ I) = false := HI2.out; clear hes)
          go_step3
          refine And.intro (show _ = _ from rfl) (And.intro (show AJ w (some ad) n c g l G _ _ from ⟨k + 1, _, _, _, _, _, _, _, _, _, _, _, _, _, _, _, _, _, _, _, _, _, _, _, _, _, _, _, _, _, _, _, _, _, _, _, _, _, _, _, rfl, by omega, HB.out, HO.out, HR.out⟩) ?_)
          show n + 1 - ((k : Int) + 1).toNat < n + 1 - (k : Int).toNat
          omega
end Go.Proofs.YtbbgdcnnacakjaaDoor
