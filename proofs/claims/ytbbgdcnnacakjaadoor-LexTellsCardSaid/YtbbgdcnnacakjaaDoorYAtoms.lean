/-
  The walk of the law LexAtoms.
-/
import Derived.Test.YtbbgdcnnacakjaaDoorYPlain
namespace Go.Proofs.YtbbgdcnnacakjaaDoor
open Go.RowKit Go.Instr

/-- The cells of a token of a row. -/
theorem tok_cell {w : World} {A : Option Addr} {n : Nat} {T : List Tkn} (h : Gr 2 w A n (gx tkl T)) {k : Nat} (hk : k < n) (hk' : k < T.length) : ∃ ad, A = some ad ∧ w.cell? (ad.add (k * 2)) = some (.int .i64 T[k].1) ∧ w.cell? ⟨(ad.add (k * 2)).block, (ad.add (k * 2)).off + 1, none⟩ = some (.string (St T[k].2)) := by
  obtain ⟨ad, rfl, hc⟩ := h.2 (by omega)
  refine ⟨ad, rfl, ?_, ?_⟩
  · have := hc (k * 2 + 0) (.int .i64 T[k].1) (by rw [gx_get tkl_len hk' (by omega)]; rfl)
    simpa using this
  · have := hc (k * 2 + 1) (.string (St T[k].2)) (by rw [gx_get tkl_len hk' (by omega)]; rfl)
    rw [← add_fld ad (k * 2) 0] at this
    exact this
set_option maxRecDepth 100000 in
set_option maxHeartbeats 16000000 in
theorem lexatoms_any (x y : Int) (s : ByteArray) (w : World) (hs : s.size ≤ 140737488351232) :
    Calls Tryd.prog 6 #[.int .i64 x, .int .i64 y, .string s] w fun e w' => e = .returned (.bool true) ∧ Only [] w w' := by
  by_cases h1 : x < 0
  · go_enter Tryd.func6, Tryd.ntmps6
    go_wp2_with fail
    go_ret
    exact ⟨rfl, Only.refl _ _⟩
  by_cases h2 : 80 < x
  · go_enter Tryd.func6, Tryd.ntmps6
    go_wp2_with fail
    go_ret
    exact ⟨rfl, Only.refl _ _⟩
  by_cases h3 : y < 1
  · go_enter Tryd.func6, Tryd.ntmps6
    go_wp2_with fail
    go_ret
    exact ⟨rfl, Only.refl _ _⟩
  by_cases h4 : 5 < y
  · go_enter Tryd.func6, Tryd.ntmps6
    go_wp2_with fail
    go_ret
    exact ⟨rfl, Only.refl _ _⟩
  by_cases h5 : 40 < s.size
  · have h5' : (40 : Int) < (s.size : Int) := by omega
    go_enter Tryd.func6, Tryd.ntmps6
    go_wp2_with fail
    go_ret
    exact ⟨rfl, Only.refl _ _⟩
  have h5' : ¬ (40 : Int) < (s.size : Int) := by omega
  have HP := Lib.hid (plain_any s w (by omega))
  cases hp : plainL s.data.toList with
  | false =>
    rw [hp] at HP
    clear hp
    go_enter Tryd.func6, Tryd.ntmps6
    go_wp2_with (go_at_call 18; with_reducible refine HP.out.mono ?_; rintro e w2 ⟨rfl, rfl⟩)
    go_ret
    exact ⟨rfl, Only.refl _ _⟩
  | true =>
    rw [hp] at HP
    have HPL := Lib.hid hp
    obtain ⟨n, rfl⟩ : ∃ n : Nat, x = (n : Int) := ⟨x.toNat, by omega⟩
    obtain ⟨k1, rfl⟩ : ∃ k1 : Nat, y = ((k1 + 1 : Nat) : Int) := ⟨y.toNat - 1, by omega⟩
    have hn : n ≤ 80 := by omega
    have hk1 : k1 + 1 ≤ 5 := by omega
    obtain ⟨K, hK⟩ : ∃ K, k1 + 1 = K := ⟨_, rfl⟩
    rw [hK] at h3 h4 hk1 ⊢
    have HK1 := Lib.hid hK
    have hsz : s.size ≤ 40 := by omega
    have hsl : s.data.toList.length = s.size := by simp
    have HSL := Lib.hid hsl
    obtain ⟨u1, e1, z1, hadd1⟩ := add_eq ⟨#[97, 91]⟩ s (by show 2 + s.size ≤ _; omega)
    have zz1 : u1.size = 2 + s.size := z1
    obtain ⟨u2, e2, z2, hadd2⟩ := add_eq u1 ⟨#[93, 122]⟩ (by show u1.size + 2 ≤ _; omega)
    have zz2 : u2.size = u1.size + 2 := z2
    have HU : Hid (u2.data.toList = atomW s.data.toList) := by
      show _ = _
      rw [e2, e1]
      rfl
    obtain ⟨lw, hlw⟩ : ∃ lw, u2.size = lw := ⟨_, rfl⟩
    have hlw44 : lw ≤ 44 := by omega
    have HLW := Lib.hid hlw
    have HCV : Hid (∀ W, ∃ w' c, (convert 9 32 (.string u2)).run Tryd.prog W = .ok (.slice (some ⟨W.heap.size, 0, none⟩) lw c) w' ∧ Gro w' (some ⟨W.heap.size, 0, none⟩) lw c (bvs u2.data.toList) ∧ Only [] W w') := fun W => by
      have := conv_gro u2 (by omega) W
      rwa [hlw] at this
    obtain ⟨i0, hi, hz0, hz1, hz2⟩ := info_parts infoByte
    clear hp hsl e1 e2 z1 z2 zz1 zz2 hlw hK
    go_enter Tryd.func6, Tryd.ntmps6
    go_wp2_with (go_at_call 18; with_reducible refine HP.out.mono ?_; rintro e w2 ⟨rfl, rfl⟩)
    go_loopw [7] (fun iv wr => w = wr ∧ ∃ k : Nat, iv = .int .i64 (k : Int) ∧ k ≤ s.size ∧ Hid (∀ x ∈ s.data.toList.take k, x ≠ 93)) (fun iv _ => s.size - (intOf iv).toNat)
    case atStart => exact ⟨rfl, 0, rfl, by omega, by show ∀ x ∈ List.take 0 _, _; simp⟩
    case round =>
      obtain ⟨rfl, k, rfl, hk, HKK⟩ := hrel
      by_cases hlt : k < s.size
      · have hlt' : (k : Int) < (s.size : Int) := by omega
        have hkl : k < s.data.toList.length := by rw [HSL.out]; exact hlt
        have hg := txt_get s hlt hkl
        have HM : Hid (s.size - (intOf (.int .i64 ((k : Int) + 1))).toNat < s.size - (intOf (.int .i64 (k : Int))).toNat) := by
          show s.size - ((k : Int) + 1).toNat < s.size - (k : Int).toNat
          omega
        by_cases h93 : (s[k] : UInt8).toNat = 93
        · have hb : (((s[k] : UInt8).toNat : Int) == 93) = true := by rw [h93]; rfl
          clear h93 hg
          go_wp2_with fail
          go_ret
          exact ⟨rfl, Only.refl _ _⟩
        · have hb : (((s[k] : UInt8).toNat : Int) == 93) = false := by rw [beq_eq_false_iff_ne]; omega
          have HR : Hid (∃ k' : Nat, Value.int .i64 ((k : Int) + 1) = .int .i64 (k' : Int) ∧ k' ≤ s.size ∧ Hid (∀ x ∈ s.data.toList.take k', x ≠ 93)) := by
            refine ⟨k + 1, by simp, by omega, ?_⟩
            show ∀ x ∈ _, _
            rw [List.take_succ_eq_append_getElem hkl, ← hg]
            intro x hx
            rcases List.mem_append.1 hx with h | h
            · exact HKK.out x h
            · rw [List.mem_singleton.1 h]
              intro e
              exact h93 (by rw [e]; rfl)
          clear h93 hg
          go_wp2_with fail
          exact ⟨⟨trivial, HR.out⟩, HM.out⟩
      · obtain rfl : k = s.size := by omega
        have HNB : Hid (∀ x ∈ s.data.toList, x ≠ 93) := by
          have := HKK.out
          rwa [List.take_of_length_le (by rw [HSL.out]; exact Nat.le_refl _)] at this
        have hkk : ¬ (s.size : Int) < (s.size : Int) := by omega
        clear HKK HP hlt
        go_wp2_with fail
        go_loopw [8, 9] (fun bv iv wr => Only [] w wr ∧ ∃ (i : Nat) (A : Option Addr) (m c : Nat), bv = .slice A m c ∧ iv = .int .i64 (i : Int) ∧ i ≤ n ∧ Own wr 5 A m c (bvs (repW i u2.data.toList K)) ∧ (∀ z ∈ blks A, w.heap.size ≤ z) ∧ m ≤ 49 * i) (fun _ iv _ => n - (intOf iv).toNat)
        case atStart => exact ⟨Only.refl _ _, 0, none, 0, 0, rfl, rfl, by omega, Own.nil _ _, (fun _ h => nomatch h), by omega⟩
        case round =>
          obtain ⟨hO, i, A, m, c, rfl, rfl, hin, hV, hA, hm⟩ := hrel
          have HV := Lib.hid hV
          have HA := Lib.hid hA
          have HO := Lib.hid hO
          clear hV hA hO
          by_cases hlt2 : i < n
          · have hlt2' : (i : Int) < (n : Int) := by omega
            obtain ⟨w1, c1, hcv1, g1, O1⟩ := HCV.out wr
            have HM2 : Hid (n - (intOf (.int .i64 ((i : Int) + 1))).toNat < n - (intOf (.int .i64 (i : Int))).toNat) := by
              show n - ((i : Int) + 1).toNat < n - (i : Int).toNat
              omega
            go_wp2_with (at_builtin; go_must (refine wpList_append_sl rfl (.tmp 53) (.tmp 57) 32 rfl 5 i0 (.int .u8 0) 1 Tryd.underlying32 hi hz0 hz1 hz2 rfl A m c _ rfl (HV.out.keep O1) (some ⟨wr.heap.size, 0, none⟩) lw c1 _ rfl g1.sl (bvs_one _) (by unfold maxLen; omega) (by omega) ?_); intro A2 c2 w2 HV2 HO2 HB2)
            have hE2 : Only [] w w2 := (HO.out.then O1).trans HO2 (fun z hz => .inr (HA.out z hz))
            have HW2 : Hid (Own w2 5 A2 (m + lw) c2 (bvs (repW i u2.data.toList K ++ u2.data.toList ++ List.replicate 0 32))) := by
              show Own _ _ _ _ _ _
              rw [List.replicate_zero, List.append_nil, bvs_append]
              exact HV2
            have HA2 : Hid (∀ z ∈ blks A2, w.heap.size ≤ z) := fun z hz => by
              rcases HB2 z hz with h | h
              · exact HA.out z h
              · have h3 := HO.out.size; have h4 := O1.size; omega
            have HO2' := Lib.hid hE2
            clear HV2 HO2 HB2 g1 O1 hcv1 hE2
            go_loopw [8, 10] (fun bv kv wr2 => Only [] w wr2 ∧ ∃ (k : Nat) (A3 : Option Addr) (c3 m3 : Nat), bv = .slice A3 m3 c3 ∧ kv = .int .i64 (k : Int) ∧ k ≤ K ∧ m3 = m + lw + k ∧ Own wr2 5 A3 m3 c3 (bvs (repW i u2.data.toList K ++ u2.data.toList ++ List.replicate k 32)) ∧ (∀ z ∈ blks A3, w.heap.size ≤ z)) (fun _ kv _ => K - (intOf kv).toNat)
            case atStart => exact ⟨HO2'.out, 0, A2, c2, m + lw, rfl, rfl, by omega, rfl, HW2.out, HA2.out⟩
            case round =>
              obtain ⟨hO3, k, A3, c3, m3, rfl, rfl, hkK, hm3, hV3, hA3⟩ := hrel
              have HV3 := Lib.hid hV3
              have HA3 := Lib.hid hA3
              have HO3 := Lib.hid hO3
              have HM3 := Lib.hid hm3
              have hm3b : m3 ≤ 4000 := by omega
              clear hV3 hA3 hO3 hm3
              by_cases hlt3 : k < K
              · have hlt3' : (k : Int) < (K : Int) := by omega
                go_wp2_with (at_builtin; go_must (refine wpList_append_sl rfl (.tmp 64) (.tmp 65) 32 rfl 5 i0 (.int .u8 0) 1 Tryd.underlying32 hi hz0 hz1 hz2 rfl A3 m3 c3 _ rfl (HV3.out.alloc _) _ 1 1 _ rfl (sl_one _ _ _ 32 rfl) (bvs_one _) (by unfold maxLen; omega) (by omega) ?_); intro A4 c4 w4 HV4 HO4 HB4)
                refine ⟨⟨(HO3.out.alloc _).trans HO4 (fun z hz => .inr (HA3.out z hz)), k + 1, A4, c4, m3 + 1, rfl, by simp, by omega, by have := HM3.out; omega, ?_, fun z hz => ?_⟩, ?_⟩
                · rw [List.replicate_succ', ← List.append_assoc, bvs_append]
                  exact HV4
                · rcases HB4 z hz with h | h
                  · exact HA3.out z h
                  · have h3 := HO3.out.size; simp at h; omega
                · show K - ((k : Int) + 1).toNat < K - (k : Int).toNat
                  omega
              · obtain rfl : k = K := by omega
                have hkk3 : ¬ (k : Int) < (k : Int) := by omega
                have hRR : Hid (∃ (i' : Nat) (A' : Option Addr) (m' c' : Nat), Value.slice A3 m3 c3 = .slice A' m' c' ∧ Value.int .i64 ((i : Int) + 1) = .int .i64 (i' : Int) ∧ i' ≤ n ∧ Own wr 5 A' m' c' (bvs (repW i' u2.data.toList k)) ∧ (∀ z ∈ blks A', w.heap.size ≤ z) ∧ m' ≤ 49 * i') :=
                  ⟨i + 1, A3, m3, c3, rfl, by simp, by omega, HV3.out, HA3.out, by have := HM3.out; omega⟩
                go_wp2_with fail
                exact ⟨⟨HO3.out, hRR.out⟩, HM2.out⟩
          · obtain rfl : i = n := by omega
            have hii : ¬ (i : Int) < (i : Int) := by omega
            have hlex := line_atoms (l := s.data.toList) HNB.out HPL.out k1 i [] (by simp)
            rw [HK1.out, ← HU.out, ← lex_one] at hlex
            have HB0 := Lib.hid HV.out.bt
            have HLX := Lib.hid hlex
            clear hlex
            by_cases h64 : 64 < i
            · have h64' : (64 : Int) < (i : Int) := by omega
              have HE : Hid (lexL [repW i u2.data.toList K] [] = .error 5) := by show _ = _; rw [HLX.out, if_pos (by simpa using h64)]
              clear HLX
              go_wp2_with first
                | (go_at_call 10; refine (lex_bad (Bk.new _ _ _) (HB0.out.keep ((Only.refl _ _).alloc _)) (by omega) HE.out).mono ?_; rintro e w3 ⟨rfl, O3⟩)
                | (go_at_call 17; refine (known_any _).mono ?_; rintro e w4 ⟨rfl, O4⟩)
              go_ret
              exact ⟨rfl, ((HO.out.alloc _).then O3).then O4⟩
            · have h64' : ¬ (64 : Int) < (i : Int) := by omega
              have HE : Hid (lexL [repW i u2.data.toList K] [] = .ok (List.replicate i (1, u2.data.toList))) := by show _ = _; rw [HLX.out, if_neg (by simpa using h64)]; rfl
              have HLE : Hid (Calls Tryd.prog 10 #[.slice (some ⟨wr.heap.size, 0, none⟩) 1 1, .slice none 0 0] (wr.alloc (.cells #[.slice A m c] 32)) fun e w' => ∃ A' c', e = .returned (.tuple #[.slice A' i c', .int .i64 0]) ∧ Only [] w w' ∧ Gr 2 w' A' i (gx tkl (List.replicate i (1, u2.data.toList)))) := by
                have h := one_line (Bk.new wr 32 #[.slice A m c]) (HB0.out.keep ((Only.refl _ _).alloc _)) (by omega)
                rw [HE.out] at h
                refine h.mono fun e w' hr => ?_
                obtain ⟨hO', A', c', he, hg, _⟩ := hr
                rw [List.length_replicate] at he hg
                exact ⟨A', c', he, (HO.out.alloc _).then hO', hg.reads⟩
              have hne : ((i : Int) != (i : Int)) = false := by simp
              clear HLX HE
              go_wp2_with (go_at_call 10; refine HLE.out.mono ?_; rintro e w3 ⟨A', c', rfl, O3, hG⟩; have HG3 := Lib.hid hG; have HO3 := Lib.hid O3; clear hG O3)
              have hut : Hid (St u2.data.toList = u2) := St_data u2
              go_loopw [13] (fun kv wr2 => Only [] w3 wr2 ∧ ∃ k : Nat, kv = .int .i64 (k : Int) ∧ k ≤ i) (fun kv _ => i - (intOf kv).toNat)
              case atStart => exact ⟨Only.refl _ _, 0, rfl, by omega⟩
              case round =>
                obtain ⟨hOr, k, rfl, hki⟩ := hrel
                by_cases hltk : k < i
                · have hltk' : (k : Int) < (i : Int) := by omega
                  obtain ⟨ad, rfl, d1, d2⟩ := tok_cell (HG3.out.keep hOr) hltk (by rw [List.length_replicate]; exact hltk)
                  simp only [List.getElem_replicate] at d1 d2
                  rw [hut.out] at d2
                  have hneq := run_neq_tk 1 1 u2 u2
                  simp only [BEq.rfl, Bool.and_self, Bool.not_true] at hneq
                  have hgd := guard_tk .neq
                  have HW := Lib.hid (IntWalk.wrap64_in ((k : Int) + 1) (by omega))
                  have HM : Hid (i - (intOf (.int .i64 ((k : Int) + 1))).toNat < i - (intOf (.int .i64 (k : Int))).toNat) := by
                    show i - ((k : Int) + 1).toNat < i - (k : Int).toNat
                    omega
                  have HR : Hid (∃ k' : Nat, Value.int .i64 ((k : Int) + 1) = .int .i64 (k' : Int) ∧ k' ≤ i) := ⟨k + 1, by simp, by omega⟩
                  go_wp2_with fail
                  exact ⟨⟨hOr, HR.out⟩, HM.out⟩
                · obtain rfl : k = i := by omega
                  have hkk9 : ¬ (k : Int) < (k : Int) := by omega
                  go_wp2_with (go_at_call 17; refine (known_any _).mono ?_; rintro e w4 ⟨rfl, O4⟩)
                  go_ret
                  exact ⟨rfl, (HO3.out.then hOr).then O4⟩
end Go.Proofs.YtbbgdcnnacakjaaDoor
