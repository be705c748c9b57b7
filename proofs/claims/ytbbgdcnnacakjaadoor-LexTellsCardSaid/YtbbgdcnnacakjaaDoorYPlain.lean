/-
  The laws' plain: is a text of 20 to 7e?
-/
import Derived.Test.YtbbgdcnnacakjaaDoorYAtomsM
import Derived.Test.YtbbgdcnnacakjaaDoorYTokEq
import Derived.Test.YtbbgdcnnacakjaaDoorYBad
namespace Go.Proofs.YtbbgdcnnacakjaaDoor
open Go.RowKit Go.Instr

theorem foreign_nat (c : UInt8) : foreignB c = (decide (c.toNat < 32) || decide (126 < c.toNat)) := rfl
set_option maxRecDepth 100000 in
theorem plain_any (s : ByteArray) (w : World) (hs : s.size ≤ 140737488355327) : Calls Tryd.prog 18 #[.string s] w fun e w' => e = .returned (.bool (plainL s.data.toList)) ∧ w = w' := by
  have hsl : s.data.toList.length = s.size := by simp
  have HSL := Lib.hid hsl
  obtain ⟨G, hG⟩ : ∃ G, plainL s.data.toList = G := ⟨_, rfl⟩
  have HG := Lib.hid hG
  rw [hG]
  clear hsl hG
  go_enter Tryd.func18, Tryd.ntmps18
  go_wp2_with fail
  go_loopw [3] (fun iv wr => wr = w ∧ ∃ k : Nat, iv = .int .i64 (k : Int) ∧ k ≤ s.size ∧ Hid ((s.data.toList.take k).any foreignB = false)) (fun iv _ => s.size - (intOf iv).toNat)
  case atStart => exact ⟨rfl, 0, rfl, by omega, rfl⟩
  case round =>
    obtain ⟨rfl, k, rfl, hk, HK⟩ := hrel
    by_cases hlt : k < s.size
    · have hlt' : (k : Int) < (s.size : Int) := by omega
      have hkl : k < s.data.toList.length := by rw [HSL.out]; exact hlt
      have hg := txt_get s hlt hkl
      obtain ⟨v, hv⟩ : ∃ v : Nat, (s[k] : UInt8).toNat = v := ⟨_, rfl⟩
      have hv8 : v < 256 := by rw [← hv]; exact byte_lt _
      have HM : Hid (s.size - (intOf (.int .i64 ((k : Int) + 1))).toNat < s.size - (intOf (.int .i64 (k : Int))).toNat) := by
        show s.size - ((k : Int) + 1).toNat < s.size - (k : Int).toNat
        omega
      have HBAD : Hid (v < 32 ∨ 126 < v → G = false) := fun h => by
        rw [← HG.out]
        unfold plainL
        have : s.data.toList.any foreignB = true := by
          rw [List.any_eq_true]
          refine ⟨s.data.toList[k], List.getElem_mem hkl, ?_⟩
          rw [← hg, foreign_nat, hv]
          rcases h with h | h
          · rw [decide_eq_true h]; rfl
          · rw [decide_eq_true h]; simp
        rw [this]
        rfl
      have hki : (k : Int) + 1 ≤ 140737488355327 := by omega
      by_cases hA : v < 32
      · have hA' : ((s[k] : UInt8).toNat : Int) < 32 := by rw [hv]; omega
        have HE : Hid (G = false) := HBAD.out (.inl hA)
        clear hv hg
        go_wp2_with fail
        go_ret
        exact ⟨by rw [HE.out]; rfl, rfl⟩
      · have hA' : ¬ ((s[k] : UInt8).toNat : Int) < 32 := by rw [hv]; omega
        by_cases hC : 126 < v
        · have hC' : (126 : Int) < ((s[k] : UInt8).toNat : Int) := by rw [hv]; omega
          have HE : Hid (G = false) := HBAD.out (.inr hC)
          clear hv hg
          go_wp2_with fail
          go_ret
          exact ⟨by rw [HE.out]; rfl, rfl⟩
        · have hC' : ¬ (126 : Int) < ((s[k] : UInt8).toNat : Int) := by rw [hv]; omega
          have HR : Hid (∃ k' : Nat, Value.int .i64 ((k : Int) + 1) = .int .i64 (k' : Int) ∧ k' ≤ s.size ∧ Hid ((s.data.toList.take k').any foreignB = false)) := by
            refine ⟨k + 1, by simp, by omega, ?_⟩
            show _ = _
            rw [List.take_succ_eq_append_getElem hkl, List.any_append, HK.out, ← hg]
            simp only [List.any_cons, List.any_nil, Bool.or_false, Bool.false_or]
            rw [foreign_nat, hv, decide_eq_false hA, decide_eq_false hC]
            rfl
          clear hv hg
          go_wp2_with fail
          exact ⟨⟨trivial, HR.out⟩, HM.out⟩
    · obtain rfl : k = s.size := by omega
      have HE : Hid (G = true) := by
        show _ = _
        rw [← HG.out]
        have := HK.out
        rw [List.take_of_length_le (by rw [HSL.out]; exact Nat.le_refl _)] at this
        unfold plainL
        rw [this]
        rfl
      go_wp2_with fail
      go_ret
      exact ⟨by rw [HE.out]; rfl, rfl⟩
end Go.Proofs.YtbbgdcnnacakjaaDoor
