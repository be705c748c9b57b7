/-
  The document's Trim.
-/
import Derived.Test.YtmameghebikjbaaDoorHRefA
namespace Go.Proofs.YtmameghebikjbaaDoor
open Go.RowKit Go.Instr

def strSz : Value → Nat
  | .string t => t.size
  | _ => 0
theorem list_cons {t : ByteArray} (h : 0 < t.size) : ∃ r, t.data.toList = t[0] :: r ∧ (t.extract 1 t.size).data.toList = r := by
  have hl : 0 < t.data.toList.length := by simpa using h
  refine ⟨t.data.toList.drop 1, ?_, ?_⟩
  · have := List.drop_eq_getElem_cons hl
    rw [List.drop_zero] at this
    exact this
  · rw [Lib.extract_data, List.take_of_length_le (by simp)]
theorem list_snoc {t : ByteArray} {k : Nat} (h : t.size = k + 1) : ∃ r, t.data.toList = r ++ [t[k]'(by omega)] ∧ (t.extract 0 k).data.toList = r := by
  have hl : k < t.data.toList.length := by have : t.data.toList.length = t.size := by simp
                                           omega
  refine ⟨t.data.toList.take k, ?_, ?_⟩
  · have := List.take_succ_eq_append_getElem hl
    rw [List.take_of_length_le (by have : t.data.toList.length = t.size := by simp
                                   omega)] at this
    exact this
  · rw [Lib.extract_data, List.drop_zero, Nat.sub_zero]
theorem dropR_snoc_yes {r : List UInt8} {x : UInt8} (h : isB x = true) : dropR (r ++ [x]) = dropR r := by
  unfold dropR
  rw [List.reverse_append, List.reverse_singleton, List.singleton_append, List.dropWhile_cons, if_pos h]
theorem dropR_snoc_no {r : List UInt8} {x : UInt8} (h : isB x = false) : dropR (r ++ [x]) = r ++ [x] := by
  unfold dropR
  rw [List.reverse_append, List.reverse_singleton, List.singleton_append, List.dropWhile_cons, if_neg (by rw [h]; decide)]
  simp
set_option maxHeartbeats 1000000 in
theorem refTrim_any (s : ByteArray) (hbig : s.size ≤ 4096) (w : World) : Calls Tryd.prog 31 #[.string s] w fun e w' => ∃ t : ByteArray, e = .returned (.string t) ∧ Hid (t.data.toList = trimB s.data.toList) ∧ t.size ≤ s.size ∧ w = w' := by
  go_enter Tryd.func31, Tryd.ntmps31
  go_wp2
  go_loop [0] (fun S => ∃ t : ByteArray, S = .string t ∧ t.size ≤ s.size ∧ Hid (t.data.toList.dropWhile isB = s.data.toList.dropWhile isB)) (fun S => strSz S)
  case atStart => exact ⟨s, rfl, Nat.le_refl _, rfl⟩
  case round =>
    obtain ⟨t, rfl, hts, HT⟩ := hrel
    have hsz : t.data.toList.length = t.size := by simp
    by_cases hgo : ∃ h : 0 < t.size, isB (t[0]'h) = true
    · obtain ⟨h0, hb⟩ := hgo
      have h0' : (0 : Int) < (t.size : Int) := by omega
      have h1' : (1 : Int) ≤ (t.size : Int) := by omega
      obtain ⟨r, hr1, hr2⟩ := list_cons h0
      have HE : Hid ((t.extract 1 t.size).data.toList.dropWhile isB = s.data.toList.dropWhile isB) := by
        show _ = _
        rw [← HT.out, hr1, hr2, List.dropWhile_cons, if_pos hb]
      have hex : (t.extract 1 t.size).size < t.size := by
        have e1 := congrArg List.length hr1
        have e2 : (t.extract 1 t.size).data.toList.length = (t.extract 1 t.size).size := by simp
        rw [hr2] at e2
        rw [List.length_cons] at e1
        omega
      have HX := Lib.hid hex
      clear hr1 hr2 hex
      go_wp2_with (go_at_call 46; with_reducible refine (refBlank_any _ _).mono ?_; rintro e w1 ⟨rfl, rfl⟩; rw [hb])
      go_round
      case rel => exact ⟨_, rfl, by have := HX.out; omega, HE⟩
      case measure => exact HX.out
    · have hout : Hid (dropR t.data.toList = trimB s.data.toList) := by
        show _ = _
        rw [← trim_swap, ← HT.out]
        rcases Nat.eq_zero_or_pos t.size with h0 | h0
        · rw [List.eq_nil_of_length_eq_zero (hsz.trans h0)]
          rfl
        · obtain ⟨r, hr1, _⟩ := list_cons h0
          rw [hr1, List.dropWhile_cons, if_neg (fun h => hgo ⟨h0, h⟩)]
      have hway : t.size = 0 ∨ ∃ h : 0 < t.size, isB (t[0]'h) = false := by
        rcases Nat.eq_zero_or_pos t.size with h0 | h0
        · exact .inl h0
        · exact .inr ⟨h0, by cases hb : isB t[0] with
            | false => rfl
            | true => exact absurd ⟨h0, hb⟩ hgo⟩
      have HS := Lib.hid hsz
      clear hsz hgo
      rcases hway with h0 | ⟨h0, hb⟩
      · have h0' : (t.size : Int) = 0 := by omega
        go_wp2
        go_loop [0] (fun S => ∃ t2 : ByteArray, S = .string t2 ∧ t2.size ≤ s.size ∧ Hid (dropR t2.data.toList = trimB s.data.toList)) (fun S => strSz S)
        case atStart => exact ⟨t, rfl, hts, hout⟩
        case round =>
          obtain ⟨t2, rfl, hts2, HT2⟩ := hrel
          clear hout h0' HT hts
          rcases Nat.eq_zero_or_pos t2.size with h2 | h2
          · have h2' : (t2.size : Int) = 0 := by omega
            have HE : Hid (t2.data.toList = trimB s.data.toList) := by
              show _ = _
              rw [← HT2.out, List.eq_nil_of_length_eq_zero (show t2.data.toList.length = 0 by simpa using h2)]
              rfl
            go_wp2
            go_ret
            exact ⟨t2, rfl, HE, hts2, rfl⟩
          · obtain ⟨k, hk⟩ : ∃ k, t2.size = k + 1 := ⟨t2.size - 1, by omega⟩
            have h2' : (0 : Int) < (t2.size : Int) := by omega
            have hk' : (t2.size : Int) - 1 = (k : Int) := by omega
            have hk2 : k < t2.size := by omega
            have hk3 : (k : Int) < (t2.size : Int) := by omega
            have hk4 : (k : Int) ≤ (t2.size : Int) := by omega
            obtain ⟨r, hr1, hr2⟩ := list_snoc hk
            cases hb2 : isB (t2[k]'hk2) with
            | true =>
              have HE : Hid (dropR (t2.extract 0 k).data.toList = trimB s.data.toList) := by
                show _ = _
                rw [← HT2.out, hr1, hr2, dropR_snoc_yes hb2]
              have HX : Hid ((t2.extract 0 k).size < t2.size) := by
                show _ < _
                have e1 := congrArg List.length hr1
                have e2 : (t2.extract 0 k).data.toList.length = (t2.extract 0 k).size := by simp
                have e3 : t2.data.toList.length = t2.size := by simp
                rw [hr2] at e2
                rw [List.length_append, List.length_singleton] at e1
                omega
              clear hr1 hr2 hk
              go_wp2_with (go_at_call 46; with_reducible refine (refBlank_any _ _).mono ?_; rintro e w1 ⟨rfl, rfl⟩; rw [hb2])
              go_round
              case rel => exact ⟨_, rfl, by have := HX.out; omega, HE⟩
              case measure => exact HX.out
            | false =>
              have HE : Hid (t2.data.toList = trimB s.data.toList) := by
                show _ = _
                rw [← HT2.out, hr1, dropR_snoc_no hb2]
              clear hr1 hr2 hk
              go_wp2_with (go_at_call 46; with_reducible refine (refBlank_any _ _).mono ?_; rintro e w1 ⟨rfl, rfl⟩; rw [hb2])
              go_ret
              exact ⟨t2, rfl, HE, hts2, rfl⟩
      · have h0' : (0 : Int) < (t.size : Int) := by omega
        go_wp2_with (go_at_call 46; with_reducible refine (refBlank_any _ _).mono ?_; rintro e w1 ⟨rfl, rfl⟩; rw [hb])
        go_loop [0] (fun S => ∃ t2 : ByteArray, S = .string t2 ∧ t2.size ≤ s.size ∧ Hid (dropR t2.data.toList = trimB s.data.toList)) (fun S => strSz S)
        case atStart => exact ⟨t, rfl, hts, hout⟩
        case round =>
          obtain ⟨t2, rfl, hts2, HT2⟩ := hrel
          clear hout h0' HT hts
          rcases Nat.eq_zero_or_pos t2.size with h2 | h2
          · have h2' : (t2.size : Int) = 0 := by omega
            have HE : Hid (t2.data.toList = trimB s.data.toList) := by
              show _ = _
              rw [← HT2.out, List.eq_nil_of_length_eq_zero (show t2.data.toList.length = 0 by simpa using h2)]
              rfl
            go_wp2
            go_ret
            exact ⟨t2, rfl, HE, hts2, rfl⟩
          · obtain ⟨k, hk⟩ : ∃ k, t2.size = k + 1 := ⟨t2.size - 1, by omega⟩
            have h2' : (0 : Int) < (t2.size : Int) := by omega
            have hk' : (t2.size : Int) - 1 = (k : Int) := by omega
            have hk2 : k < t2.size := by omega
            have hk3 : (k : Int) < (t2.size : Int) := by omega
            have hk4 : (k : Int) ≤ (t2.size : Int) := by omega
            obtain ⟨r, hr1, hr2⟩ := list_snoc hk
            cases hb2 : isB (t2[k]'hk2) with
            | true =>
              have HE : Hid (dropR (t2.extract 0 k).data.toList = trimB s.data.toList) := by
                show _ = _
                rw [← HT2.out, hr1, hr2, dropR_snoc_yes hb2]
              have HX : Hid ((t2.extract 0 k).size < t2.size) := by
                show _ < _
                have e1 := congrArg List.length hr1
                have e2 : (t2.extract 0 k).data.toList.length = (t2.extract 0 k).size := by simp
                have e3 : t2.data.toList.length = t2.size := by simp
                rw [hr2] at e2
                rw [List.length_append, List.length_singleton] at e1
                omega
              clear hr1 hr2 hk
              go_wp2_with (go_at_call 46; with_reducible refine (refBlank_any _ _).mono ?_; rintro e w1 ⟨rfl, rfl⟩; rw [hb2])
              go_round
              case rel => exact ⟨_, rfl, by have := HX.out; omega, HE⟩
              case measure => exact HX.out
            | false =>
              have HE : Hid (t2.data.toList = trimB s.data.toList) := by
                show _ = _
                rw [← HT2.out, hr1, dropR_snoc_no hb2]
              clear hr1 hr2 hk
              go_wp2_with (go_at_call 46; with_reducible refine (refBlank_any _ _).mono ?_; rintro e w1 ⟨rfl, rfl⟩; rw [hb2])
              go_ret
              exact ⟨t2, rfl, HE, hts2, rfl⟩
end Go.Proofs.YtmameghebikjbaaDoor
