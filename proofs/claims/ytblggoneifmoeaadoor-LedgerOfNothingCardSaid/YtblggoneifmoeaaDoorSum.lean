/-
  octet.Sum over the table of sixteen.
-/
import Derived.Test.YtblggoneifmoeaaDoorBits
import Derived.Test.YtblggoneifmoeaaDoorCrc
import Derived.Test.YtblggoneifmoeaaDoorRowsOf
import Derived.WalkKit
import Derived.Handy
import Derived.Laws.BitsAllLaws
import Derived.Deep.DeepMust
namespace Go.Proofs.YtblggoneifmoeaaDoor
open Go.RowKit

/-- The table of remainders stands in its variable. -/
def Tab (w : World) : Prop := ∀ i, i < 16 → w.cell? ⟨0, i, none⟩ = some (.int .u32 (bits4 i : Nat))
theorem Tab.only {w w' : World} {rs : List Nat} (h : Tab w) (o : Only rs w w') (hn : 0 ∉ rs) : Tab w' := fun i hi => o.cellSome (h i hi) hn
theorem Tab.keep {w w' : World} (h : Tab w) (o : Only [] w w') : Tab w' := h.only o (fun hm => by cases hm)

theorem xor32 (a b : Nat) (ha : a < 4294967296) (hb : b < 4294967296) : bits .xor .u32 (a : Int) (b : Int) = ((a ^^^ b : Nat) : Int) := u32_xor_nat a b ha hb
theorem low4 (a : Nat) (ha : a < 4294967296) : bits .and .u32 (a : Int) 15 = (a : Int) % 16 := by
  have e := u32_and_nat a 15 ha (by omega)
  rw [Nat.and_two_pow_sub_one_eq_mod a 4] at e
  simpa using e
theorem flip32 (a : Nat) (ha : a < 4294967296) : 4294967295 ^^^ a = 4294967295 - a := by
  apply Nat.eq_of_testBit_eq
  intro i
  rw [show 4294967295 - a = 2 ^ 32 - (a + 1) from by omega, Nat.testBit_two_pow_sub_succ (by omega), Nat.testBit_xor, show 4294967295 = 2 ^ 32 - 1 from rfl, Nat.testBit_two_pow_sub_one]
  by_cases hi : i < 32
  · simp [hi]
  · have : a.testBit i = false := Nat.testBit_lt_two_pow (Nat.lt_of_lt_of_le ha (Nat.pow_le_pow_right (n := 2) (by omega) (by omega : 32 ≤ i)))
    simp [hi, this]
theorem not32 (a : Nat) (ha : a < 4294967296) : bits .xor .u32 IntKind.u32.max (a : Int) = ((4294967295 - a : Nat) : Int) := by
  have e := u32_xor_nat 4294967295 a (by omega) ha
  rw [flip32 a ha] at e
  exact e

set_option maxHeartbeats 800000 in
theorem sum_any (A : Option Addr) (n c : Nat) (ls : List (List UInt8)) (w : World) (hr : Rw w A n ls) (ht : Tab w) (hn : n ≤ 4611686018427387904) (htot : ∀ r ∈ ls, r.length ≤ 1099511627776) :
    Calls Tryd.prog 75 #[.slice A n c] w fun e w' => e = .returned (.int .u32 (sumOf ls.flatten : Nat)) ∧ w = w' := by
  have hl : ls.length = n := hr.len
  go_enter Tryd.func75, Tryd.ntmps75
  go_wp2
  go_loop [3, 10] (fun s i => ∃ (k : Nat) (x : Nat), k ≤ n ∧ i = .int .i64 k ∧ s = .int .u32 x ∧ x < 4294967296 ∧ Hid (x = crc 4294967295 (cat ls k))) (fun _ i => n - (intOf i).toNat)
  case atStart => exact ⟨0, 4294967295, Nat.zero_le _, rfl, rfl, by omega, rfl⟩
  case round =>
    obtain ⟨k, x, hk, rfl, rfl, hx, HX⟩ := hrel
    by_cases hlt : k < n
    · have hkl : k < ls.length := by omega
      obtain ⟨ad, Ai, ci, rfl, hcell, hrow⟩ := hr.at_ hlt hkl
      have hrl := htot _ (List.getElem_mem hkl)
      have HC := Lib.hid (cat_succ ls k hkl)
      generalize hm : (ls[k]'hkl).length = m at *
      have HM := Lib.hid hm
      clear hm
      go_wp2
      go_loop [3, 16] (fun s i => ∃ (j : Nat) (y : Nat), j ≤ m ∧ i = .int .i64 j ∧ s = .int .u32 y ∧ y < 4294967296 ∧ Hid (y = crc x ((ls[k]'hkl).take j))) (fun _ i => m - (intOf i).toNat)
      case atStart => exact ⟨0, x, Nat.zero_le _, rfl, rfl, hx, rfl⟩
      case round =>
        obtain ⟨j, y, hj, rfl, rfl, hy, HY⟩ := hrel
        by_cases hlt2 : j < m
        · obtain ⟨ad2, u, rfl, hu, hcell2⟩ := hrow.at_ hlt2
          have hjl : j < (ls[k]'hkl).length := by rw [HM.out]; exact hlt2
          rw [bvs_get _ _ hjl] at hu
          obtain rfl : bv _ = u := by injection hu
          unfold bv at hcell2
          have hb := byte_lt ((ls[k]'hkl)[j]'hjl)
          obtain ⟨b, hbe⟩ : ∃ b, b = ((ls[k]'hkl)[j]'hjl).toNat := ⟨_, rfl⟩
          rw [← hbe] at hcell2 hb
          obtain ⟨y1, hy1⟩ : ∃ y1, y1 = y ^^^ b := ⟨_, rfl⟩
          obtain ⟨y2, hy2⟩ : ∃ y2, y2 = bits4 y1 := ⟨_, rfl⟩
          obtain ⟨y3, hy3⟩ : ∃ y3, y3 = bits4 y2 := ⟨_, rfl⟩
          have l1 : y1 < 4294967296 := by rw [hy1]; exact xor_lt hy (by omega)
          have l2 : y2 < 4294967296 := by rw [hy2]; exact bits4_lt l1
          have l3 : y3 < 4294967296 := by rw [hy3]; exact bits4_lt l2
          have e0 := xor32 y b hy (by omega)
          rw [← hy1] at e0
          have a1 := low4 y1 l1
          have a2 := low4 y2 l2
          have c1 := ht (y1 % 16) (by omega)
          have c2 := ht (y2 % 16) (by omega)
          have e1 := xor32 (y1 / 16) (bits4 (y1 % 16)) (by omega) (bits4_lt (by omega))
          have e2 := xor32 (y2 / 16) (bits4 (y2 % 16)) (by omega) (bits4_lt (by omega))
          rw [nib_eq, ← hy2] at e1
          rw [nib_eq, ← hy3] at e2
          generalize bits4 (y1 % 16) = t1 at c1 e1
          generalize bits4 (y2 % 16) = t2 at c2 e2
          have HN : Hid (y3 = crc x ((ls[k]'hkl).take (j + 1))) := by
            show y3 = _
            rw [List.take_succ_eq_append_getElem hjl, crc_snoc, ← HY.out, ← hbe, ← hy1, hy3, hy2]
            rfl
          have e1' : bits .xor .u32 ((y1 : Int) / 16) (t1 : Int) = (y2 : Int) := by simpa using e1
          have e2' : bits .xor .u32 ((y2 : Int) / 16) (t2 : Int) = (y3 : Int) := by simpa using e2
          clear e1 e2
          clear hu hbe hy1 hy2 hy3
          go_wp2
          go_round
          case rel => exact ⟨j + 1, y3, by omega, by go_num, rfl, l3, HN⟩
          case measure => simp [intOf]; omega
        · have HF : Hid (y = crc 4294967295 (cat ls (k + 1))) := by
            show y = _
            rw [HC.out, crc_append, ← HX.out, HY.out, List.take_of_length_le (by rw [HM.out]; omega)]
          go_wp2
          go_round
          case rel => exact ⟨k + 1, y, by omega, by go_num, rfl, hy, HF⟩
          case measure => simp [intOf]; omega
    · have HF : Hid (4294967295 - x = sumOf ls.flatten) := by
        show _ = _
        unfold sumOf
        rw [← cat_all ls (k := k) (by omega), ← HX.out]
      have e := not32 x hx
      rw [HF.out] at e
      clear HX
      go_wp2
      go_ret
      exact ⟨rfl, rfl⟩
end Go.Proofs.YtblggoneifmoeaaDoor
