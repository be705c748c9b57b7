/-
  The document's Colon and number.
-/
import Derived.Test.YtkdaemjdiafccaaDoorNLeaf
namespace Go.Proofs.YtkdaemjdiafccaaDoor
open Go.RowKit Go.Instr

theorem txt_at (s : ByteArray) {k : Nat} (_h : k < s.size) (h' : k < s.data.toList.length) : s[k] = s.data.toList[k] := rfl
theorem u8_eq {a b : UInt8} (h : a.toNat = b.toNat) : a = b := UInt8.toNat_inj.1 h
theorem dig_yes {c : UInt8} (h1 : 48 ≤ c.toNat) (h2 : c.toNat ≤ 57) : isDig c = true := by simp [isDig, h1, h2]
theorem dig_no {c : UInt8} (h : c.toNat < 48 ∨ 57 < c.toNat) : isDig c = false := by
  simp only [isDig, Bool.and_eq_false_iff, decide_eq_false_iff_not]
  omega
set_option maxRecDepth 100000 in
theorem refCol_any (s : ByteArray) (x : UInt8) (hbig : s.size ≤ 140737488355328) (w : World) : Calls Tryd.prog 21 #[.string s, .int .u8 (x.toNat : Int)] w fun e w' => e = .returned (.int .i64 (if ix x s.data.toList < s.size then (ix x s.data.toList : Int) else -1)) ∧ w = w' := by
  obtain ⟨I, hI⟩ : ∃ I : Int, (if ix x s.data.toList < s.size then (ix x s.data.toList : Int) else -1) = I := ⟨_, rfl⟩
  rw [hI]
  have HI := Lib.hid hI
  obtain ⟨X, hX⟩ : ∃ X : Nat, x.toNat = X := ⟨_, rfl⟩
  rw [hX]
  have HX := Lib.hid hX
  clear hI hX
  go_enter Tryd.func21, Tryd.ntmps21
  go_wp2
  go_loop [5] (fun i => ∃ j : Nat, j ≤ s.size ∧ i = .int .i64 (j : Int) ∧ Hid (j + ix x (s.data.toList.drop j) = ix x s.data.toList)) (fun i => s.size - (intOf i).toNat)
  case atStart => exact ⟨0, by omega, rfl, by show _ = _; simp⟩
  case round =>
    obtain ⟨j, hj, rfl, HN⟩ := hrel
    by_cases hlt : j < s.size
    · have hjl : j < s.data.toList.length := by simpa using hlt
      obtain ⟨y, hy⟩ : ∃ y : Nat, s[j].toNat = y := ⟨_, rfl⟩
      by_cases hyx : y = X
      · have hx : s.data.toList[j] = x := u8_eq (by rw [← txt_at s hlt hjl, hy, hyx, HX.out])
        have HE : Hid (ix x s.data.toList = j) := by
          show _ = _
          rw [← HN.out, ix_hit hjl hx]
          rfl
        have hyb : ((s[j].toNat : Int) == (X : Int)) = true := by rw [hy, hyx]; simp
        clear hx hy hyx
        go_wp2
        go_ret
        refine ⟨?_, rfl⟩
        rw [← HI.out, HE.out, if_pos hlt]
        rfl
      · have hx : s.data.toList[j] ≠ x := fun h => hyx (by rw [← hy, txt_at s hlt hjl, h, HX.out])
        have HE : Hid (j + 1 + ix x (s.data.toList.drop (j + 1)) = ix x s.data.toList) := by
          show _ = _
          rw [← HN.out, ix_miss hjl hx]
          omega
        have hyb : ((s[j].toNat : Int) == (X : Int)) = false := by rw [hy]; rw [beq_eq_false_iff_ne]; omega
        clear hx hy hyx
        go_wp2
        go_round
        case rel => exact ⟨j + 1, by omega, by go_num, HE⟩
        case measure => simp [intOf]; omega
    · obtain rfl : j = s.size := by omega
      have hd : s.data.toList.drop s.size = [] := by simp
      have HE : Hid (ix x s.data.toList = s.size) := by
        show _ = _
        rw [← HN.out, hd]
        rfl
      go_wp2
      go_ret
      refine ⟨?_, rfl⟩
      rw [← HI.out, HE.out, if_neg (by omega)]
      rfl
/-- One digit more of a text. -/
theorem take_dig {l : List UInt8} {k : Nat} (h : k < l.length) (ha : (l.take k).all isDig = true) (hd : isDig l[k] = true) : (l.take (k + 1)).all isDig = true ∧ dv 0 (l.take (k + 1)) = stp (dv 0 (l.take k)) l[k] := by
  rw [List.take_succ_eq_append_getElem h]
  exact ⟨by rw [List.all_append, ha]; simp [hd], dv_snoc _ _ _⟩
theorem all_no {l : List UInt8} {k : Nat} (h : k < l.length) (hd : isDig l[k] = false) : l.all isDig = false := by
  rw [List.all_eq_false]
  exact ⟨l[k], List.getElem_mem h, by simp [hd]⟩
set_option maxHeartbeats 1000000 in
set_option maxRecDepth 100000 in
theorem refNumber_any (s : ByteArray) (w : World) (hbig : s.size ≤ 140737488355328) : Calls Tryd.prog 22 #[.string s] w fun e w' => e = .returned (.int .i64 ((numL s.data.toList : Nat) : Int)) ∧ w = w' := by
  obtain ⟨l, hl⟩ : ∃ l, s.data.toList = l := ⟨_, rfl⟩
  have hlen : l.length = s.size := by rw [← hl]; simp
  obtain ⟨N, hN⟩ : ∃ N, numL l = N := ⟨_, rfl⟩
  rw [hl, hN]
  have HN := Lib.hid hN
  clear hN
  by_cases h42 : l = [42]
  · subst h42
    have hs : s = ⟨#[42]⟩ := by rw [← St_data s, hl]
    subst hs
    have HE : Hid (N = 1073741824) := HN.out.symm.trans numL_star
    clear hl hlen hbig
    go_enter Tryd.func22, Tryd.ntmps22
    go_wp2
    go_ret
    exact ⟨by rw [HE.out]; rfl, rfl⟩
  · have hq : (s.toList == [42]) = false := by
      rw [beq_eq_false_iff_ne]
      intro e
      exact h42 (by rw [← hl, ← Lib.toList_data, e])
    by_cases h1 : s.size < 1
    · have HE : Hid (N = 0) := by
        show _ = _
        rw [← HN.out]
        unfold numL
        rw [if_neg h42, if_pos (by omega)]
      have h1' : (s.size : Int) < 1 := by omega
      clear hl hlen hbig h1
      go_enter Tryd.func22, Tryd.ntmps22
      go_wp2
      go_ret
      exact ⟨by rw [HE.out]; rfl, rfl⟩
    · have h1' : ¬ (s.size : Int) < 1 := by omega
      by_cases h7 : 7 < s.size
      · have HE : Hid (N = 0) := by
          show _ = _
          rw [← HN.out]
          unfold numL
          rw [if_neg h42, if_neg (by omega), if_pos (by omega)]
        have h7' : (7 : Int) < (s.size : Int) := by omega
        clear hl hlen hbig
        go_enter Tryd.func22, Tryd.ntmps22
        go_wp2
        go_ret
        exact ⟨by rw [HE.out]; rfl, rfl⟩
      · have h7' : ¬ (7 : Int) < (s.size : Int) := by omega
        have h0 : 0 < s.size := by omega
        have h0l : 0 < l.length := by omega
        have hz : (s[0] : UInt8) = l[0] := by subst hl; exact txt_at s h0 h0l
        obtain ⟨y, hy⟩ : ∃ y : Nat, s[0].toNat = y := ⟨_, rfl⟩
        have hhead : l.head? = some l[0] := by rw [List.head?_eq_getElem?, List.getElem?_eq_getElem h0l]
        by_cases h48 : y = 48
        · have HE : Hid (N = 0) := by
            show _ = _
            rw [← HN.out]
            unfold numL
            rw [if_neg h42, if_neg (by omega), if_neg (by omega), if_pos (by rw [hhead, ← hz]; congr 1; exact u8_eq (by rw [hy, h48]; rfl))]
          have hyb : ((s[0].toNat : Int) == 48) = true := by rw [hy, h48]; rfl
          clear hl hlen hbig hz hhead
          go_enter Tryd.func22, Tryd.ntmps22
          go_wp2
          go_ret
          exact ⟨by rw [HE.out]; rfl, rfl⟩
        · have HV : Hid (N = if l.all isDig = true then dv 0 l else 0) := by
            show _ = _
            rw [← HN.out]
            unfold numL
            rw [if_neg h42, if_neg (by omega), if_neg (by omega), if_neg (by
              rw [hhead, ← hz]
              intro e
              injection e with e
              exact h48 (by rw [← hy, e]; rfl))]
          have hyb : ((s[0].toNat : Int) == 48) = false := by rw [hy, beq_eq_false_iff_ne]; omega
          have HLEN := Lib.hid hlen
          have HL := Lib.hid hl
          have h8 : s.size ≤ 7 := by omega
          clear hl hlen hbig hz hhead h0l h48 hy h1 h7
          go_enter Tryd.func22, Tryd.ntmps22
          go_wp2
          clear hyb hq
          go_loop [3, 4] (fun nv iv => ∃ (k V : Nat), nv = .int .i64 (V : Int) ∧ iv = .int .i64 (k : Int) ∧ k ≤ s.size ∧ Hid (V = dv 0 (l.take k) ∧ (l.take k).all isDig = true)) (fun _ iv => s.size - (intOf iv).toNat)
          case atStart => exact ⟨0, 0, rfl, rfl, by omega, by rw [List.take_zero]; exact (dv_nil 0).symm, by rw [List.take_zero]; rfl⟩
          case round =>
            obtain ⟨k, V, rfl, rfl, hk, HK⟩ := hrel
            by_cases hlt : k < s.size
            · have hlt' : (k : Int) < (s.size : Int) := by omega
              have hkl : k < l.length := by rw [HLEN.out]; exact hlt
              have hck : (s[k] : UInt8) = l[k] := by have := HL.out; subst this; exact txt_at s hlt hkl
              have hV : V < 10000000 := by
                have h := dv_lt (l.take k) 0 HK.out.2
                rw [← HK.out.1, List.length_take] at h
                have h2 : 10 ^ min k l.length ≤ 10 ^ 7 := Nat.pow_le_pow_right (by omega) (by omega)
                omega
              obtain ⟨y, hy⟩ : ∃ y : Nat, s[k].toNat = y := ⟨_, rfl⟩
              have hnat : l[k].toNat = y := by rw [← hck, hy]
              have hy256 : y < 256 := by rw [← hy]; exact byte_lt _
              by_cases hA : y < 48
              · have HE : Hid (N = 0) := by
                  show _ = _
                  rw [HV.out, all_no hkl (dig_no (.inl (by rw [hnat]; exact hA)))]
                  rfl
                have hA' : (s[k].toNat : Int) < 48 := by rw [hy]; omega
                clear hck hnat hy
                go_wp2
                go_ret
                exact ⟨by rw [HE.out]; rfl, rfl⟩
              · have hA' : ¬ (s[k].toNat : Int) < 48 := by rw [hy]; omega
                by_cases hB : 57 < y
                · have HE : Hid (N = 0) := by
                    show _ = _
                    rw [HV.out, all_no hkl (dig_no (.inr (by rw [hnat]; exact hB)))]
                    rfl
                  have hB' : (57 : Int) < (s[k].toNat : Int) := by rw [hy]; omega
                  clear hck hnat hy
                  go_wp2
                  go_ret
                  exact ⟨by rw [HE.out]; rfl, rfl⟩
                · have hB' : ¬ (57 : Int) < (s[k].toNat : Int) := by rw [hy]; omega
                  obtain ⟨k1, k2⟩ := take_dig hkl HK.out.2 (dig_yes (by rw [hnat]; omega) (by rw [hnat]; omega))
                  have HR : Hid (∃ (k' V' : Nat), Value.int .i64 (10 * (V : Int) + (s[k].toNat : Int) - 48) = .int .i64 (V' : Int) ∧ Value.int .i64 ((k : Int) + 1) = .int .i64 (k' : Int) ∧ k' ≤ s.size ∧ Hid (V' = dv 0 (l.take k') ∧ (l.take k').all isDig = true)) := by
                    refine ⟨k + 1, dv 0 (l.take (k + 1)), ?_, by simp, by omega, rfl, k1⟩
                    rw [k2, ← HK.out.1, hy]
                    unfold stp
                    rw [hnat]
                    congr 1
                    omega
                  have HM : Hid (s.size - (intOf (.int .i64 ((k : Int) + 1))).toNat < s.size - (intOf (.int .i64 (k : Int))).toNat) := by
                    show _ < _
                    simp [intOf]
                    omega
                  have hb2 : (s[k].toNat : Int) < 256 := by rw [hy]; omega
                  clear hck hnat hy k1 k2
                  go_wp2
                  exact ⟨HR.out, HM.out⟩
            · obtain rfl : k = s.size := by omega
              have HE : Hid (N = V) := by
                show _ = _
                have h := HK.out
                rw [List.take_of_length_le (by rw [HLEN.out]; exact Nat.le_refl _)] at h
                rw [HV.out, if_pos h.2, h.1]
              go_wp2
              go_ret
              exact ⟨by rw [HE.out]; rfl, rfl⟩
end Go.Proofs.YtkdaemjdiafccaaDoor
