/-
  box: may a mailbox be? The program's and the document's.
-/
import Derived.Test.YthaodlegpjedoaaVIs
import Derived.Deep.QuietTactic
import Derived.BigQuiet
namespace Go.Proofs.Ythaodlegpjedoaa
open Go.RowKit Go.Instr

set_option maxRecDepth 100000 in
set_option maxHeartbeats 1000000 in
theorem refName_any (s : List UInt8) (w : World) (hn : s.length ≤ 140737488355328) : Calls Try.prog 27 #[.string (St s)] w fun e w' => e = .returned (.bool (nameL s)) ∧ w = w' := by
  obtain ⟨q, hq⟩ : ∃ q, nameL s = q := ⟨_, rfl⟩
  rw [hq]
  have hs := St_size s
  have HQ := Lib.hid hq
  have hix : ∀ (k : Nat) (hk : k < s.length) (W : World), (Instr.index 9 (.string (St s)) (.int .i64 (k : Int))).run Try.prog W = .ok (.int .u8 ((s[k]).toNat : Int)) W := fun k hk W => by
    have hk' : k < (St s).size := by omega
    rw [run_index_string W 9 (St s) .i64 (k : Int) Try.underlying9, dif_pos ⟨by omega, by omega⟩]
    simp [ByteArray.getElem_eq_getElem_data]
  have HIX := Lib.hid hix
  have HSZ := Lib.hid hs
  clear hix hs hq
  generalize ht : St s = t at *
  clear ht
  go_enter Try.func27, Try.ntmps27
  go_wp2
  go_loop [3] (fun i => ∃ k : Nat, i = .int .i64 (k : Int) ∧ k ≤ s.length ∧ Hid ((s.take k).all okc = true)) (fun i => s.length - (intOf i).toNat)
  case atStart => exact ⟨0, rfl, Nat.zero_le _, by show _ = _; simp⟩
  case round =>
    obtain ⟨k, rfl, hk, HA⟩ := hrel
    have hz : (t.size : Int) = (s.length : Int) := by rw [HSZ.out]
    by_cases hlt : k < s.length
    · have hlt' : (k : Int) < (s.length : Int) := by omega
      have hx := HIX.out k hlt
      have hsuc := all_take_succ hlt
      have hbad := all_bad hlt
      obtain ⟨y, hy⟩ : ∃ y, s[k] = y := ⟨_, rfl⟩
      rw [hy] at hx hsuc hbad
      have hyb := y.toNat_lt
      have hok : okc y = true ↔ (97 ≤ y.toNat ∧ y.toNat ≤ 122) ∨ (48 ≤ y.toNat ∧ y.toNat ≤ 57) := by simp [okc]
      have good : okc y = true → Hid (∃ k' : Nat, Value.int .i64 ((k : Int) + 1) = .int .i64 (k' : Int) ∧ k' ≤ s.length ∧ Hid ((s.take k').all okc = true)) := fun h => ⟨k + 1, by simp, by omega, by show _ = _; rw [hsuc, HA.out, h]; rfl⟩
      have bad : ¬ ((97 ≤ y.toNat ∧ y.toNat ≤ 122) ∨ (48 ≤ y.toNat ∧ y.toNat ≤ 57)) → Hid (q = false) := fun h => by
        show _ = _
        rw [← HQ.out]
        have hb : okc y = false := by rw [Bool.eq_false_iff]; exact fun e => h (hok.1 e)
        unfold nameL
        rw [hbad hb, Bool.and_false]
      have HM : Hid (s.length - (intOf (.int .i64 ((k : Int) + 1))).toNat < s.length - (intOf (.int .i64 (k : Int))).toNat) := by
        show _ < _
        simp [intOf]
        omega
      have hkb : (k : Int) + 1 ≤ 140737488355328 := by omega
      generalize y.toNat = x at *
      rw [hok] at good
      clear hok hsuc hbad hy
      rcases (by omega : x < 48 ∨ (48 ≤ x ∧ x ≤ 57) ∨ (57 < x ∧ x < 97) ∨ (97 ≤ x ∧ x ≤ 122) ∨ 122 < x) with h | h | h | h | h
      · have HB := bad (by omega)
        have i1 : (x : Int) < 97 := by omega
        have i2 : (x : Int) < 48 := by omega
        clear good bad h
        go_wp2
        go_ret
        exact ⟨by rw [HB.out]; rfl, rfl⟩
      · have HR := good (by omega)
        have i1 : (x : Int) < 97 := by omega
        have i2 : ¬ (x : Int) < 48 := by omega
        have i3 : ¬ (57 : Int) < (x : Int) := by omega
        clear good bad h
        go_wp2
        exact ⟨HR.out, HM.out⟩
      · have HB := bad (by omega)
        have i1 : (x : Int) < 97 := by omega
        have i2 : ¬ (x : Int) < 48 := by omega
        have i3 : (57 : Int) < (x : Int) := by omega
        clear good bad h
        go_wp2
        go_ret
        exact ⟨by rw [HB.out]; rfl, rfl⟩
      · have HR := good (by omega)
        have i1 : ¬ (x : Int) < 97 := by omega
        have i2 : ¬ (122 : Int) < (x : Int) := by omega
        clear good bad h
        go_wp2
        exact ⟨HR.out, HM.out⟩
      · have HB := bad (by omega)
        have i1 : ¬ (x : Int) < 97 := by omega
        have i2 : (122 : Int) < (x : Int) := by omega
        have i3 : ¬ (x : Int) < 48 := by omega
        have i4 : (57 : Int) < (x : Int) := by omega
        clear good bad h
        go_wp2
        go_ret
        exact ⟨by rw [HB.out]; rfl, rfl⟩
    · obtain rfl : k = s.length := by omega
      have HA' : s.all okc = true := by have := HA.out; rwa [List.take_length] at this
      have hlt' : ¬ (s.length : Int) < (s.length : Int) := by omega
      by_cases h1 : 1 ≤ s.length
      · by_cases h2 : s.length ≤ 12
        · have HB : Hid (q = true) := by show _ = _; rw [← HQ.out]; unfold nameL; simp [h1, h2, HA']
          have i1 : (1 : Int) ≤ (s.length : Int) := by omega
          have i2 : (s.length : Int) ≤ 12 := by omega
          clear HA'
          go_wp2
          go_ret
          exact ⟨by rw [HB.out]; rfl, rfl⟩
        · have HB : Hid (q = false) := by show _ = _; rw [← HQ.out]; unfold nameL; simp [h2]
          have i1 : (1 : Int) ≤ (s.length : Int) := by omega
          have i2 : ¬ (s.length : Int) ≤ 12 := by omega
          clear HA'
          go_wp2
          go_ret
          exact ⟨by rw [HB.out]; rfl, rfl⟩
      · have HB : Hid (q = false) := by show _ = _; rw [← HQ.out]; unfold nameL; simp [h1]
        have i1 : ¬ (1 : Int) ≤ (s.length : Int) := by omega
        clear HA'
        go_wp2
        go_ret
        exact ⟨by rw [HB.out]; rfl, rfl⟩
end Go.Proofs.Ythaodlegpjedoaa
