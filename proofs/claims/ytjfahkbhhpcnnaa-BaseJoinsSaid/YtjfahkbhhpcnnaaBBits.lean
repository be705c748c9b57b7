/-
  base's bitsOf: the bits of a group of letters.
-/
import Derived.Test.YtjfahkbhhpcnnaaBMath
import Derived.Test.YtjfahkbhhpcnnaaChecked
import Derived.Test.YtjfahkbhhpcnnaaWords
import Derived.Test.YtjfahkbhhpcnnaaBits
import Derived.Test.YtjfahkbhhpcnnaaShelf
import Derived.WalkKit
import Derived.Handy
import Derived.Deep.DeepMust
import Derived.WalkLawsBesides
import Derived.ScopeJumps
import Derived.WalkMore
import Derived.IntWalk
namespace Go.Proofs.Ytjfahkbhhpcnnaa
open Go.RowKit

theorem index_none (c : UInt8) (w : World) (h : nx c = none) : Calls Try.prog 20 #[.string ⟨abc.toArray⟩, .int .u8 (c.toNat : Int)] w fun e w' => e = .returned (.int .i64 (-1)) ∧ w = w' := by
  refine (Try.strings_IndexByte ⟨abc.toArray⟩ (c.toNat : Int) w).mono fun e w' he => ⟨?_, he.2.symm⟩
  rw [he.1]
  have e1 : ((c.toNat : Int)).toNat.toUInt8 = c := by simp
  rw [e1]
  rcases ix_cases c with ⟨hx, _⟩ | ⟨j, _, _, hn, _⟩
  · exact congrArg (fun x => Ending.returned (.int .i64 x)) hx
  · rw [h] at hn; cases hn
theorem index_some (c : UInt8) (k : Nat) (w : World) (h : nx c = some k) : Calls Try.prog 20 #[.string ⟨abc.toArray⟩, .int .u8 (c.toNat : Int)] w fun e w' => e = .returned (.int .i64 (k : Int)) ∧ w = w' := by
  refine (Try.strings_IndexByte ⟨abc.toArray⟩ (c.toNat : Int) w).mono fun e w' he => ⟨?_, he.2.symm⟩
  rw [he.1]
  have e1 : ((c.toNat : Int)).toNat.toUInt8 = c := by simp
  rw [e1]
  rcases ix_cases c with ⟨_, hn⟩ | ⟨j, _, hx, hn, _⟩
  · rw [h] at hn; cases hn
  · rw [h] at hn
    injection hn with hn
    subst hn
    exact congrArg (fun x => Ending.returned (.int .i64 x)) hx

def bitsV : Option Nat → Value
  | some n => .tuple #[.int .i64 (n : Int), .bool true]
  | none => .tuple #[.int .i64 0, .bool false]
theorem or_place (k acc j : Nat) (hk : k ≤ 18) (ha : acc % 2 ^ (k + 6) = 0) (h : acc < 16777216) (hj : j < 64) : bits .or .i64 (acc : Int) ((j * 2 ^ k : Nat) : Int) = ((acc + j * 2 ^ k : Nat) : Int) := by
  have h1 : j * 2 ^ k < 2 ^ (k + 6) := by rw [Nat.pow_add, Nat.mul_comm]; exact Nat.mul_lt_mul_of_pos_left (by omega) (Nat.two_pow_pos k)
  have h2 : 2 ^ (k + 6) ≤ 2 ^ 24 := Nat.pow_le_pow_right (by omega) (by omega)
  rw [i64_or_nat _ _ (by omega) (by omega), nat_join (k + 6) _ _ ha h1]

theorem bitsOf_any (g : ByteArray) (w : World) (hg : g.size ≤ 4) : Calls Try.prog 15 #[.string g] w fun e w' => e = .returned (bitsV (bitsG g.data.toList)) ∧ w = w' := by
  have HL : Hid (g.size = g.data.toList.length) := Lib.size_eq g
  go_enter Try.func15, Try.ntmps15
  go_wp2
  go_loop [4, 9] (fun b i => ∃ k acc : Nat, k ≤ g.size ∧ i = .int .i64 (k : Int) ∧ b = .int .i64 (acc : Int) ∧ Hid (bitsL (g.data.toList.drop k) k acc = bitsG g.data.toList) ∧ Hid (acc % 2 ^ (24 - 6 * k) = 0) ∧ acc < 16777216) (fun _ i => g.size - (intOf i).toNat)
  case atStart => exact ⟨0, 0, Nat.zero_le _, rfl, rfl, rfl, rfl, by omega⟩
  case round =>
    obtain ⟨k, acc, hk, rfl, rfl, HB, HM, ha⟩ := hrel
    by_cases hlt : k < g.size
    · have HD : Hid (g.data.toList.drop k = g[k] :: g.data.toList.drop (k + 1)) := by
        show _ = _
        rw [List.drop_eq_getElem_cons (by rw [← HL.out]; exact hlt)]
        rfl
      cases hx : nx g[k] with
      | none =>
        have HX := Lib.hid hx
        have HN : Hid (bitsG g.data.toList = none) := by
          show _ = _
          rw [← HB.out, HD.out]
          unfold bitsL
          rw [HX.out]
          rfl
        clear hx
        go_wp2_with ((go_at_call 20; refine (index_none _ _ HX.out).mono ?_; rintro e w' ⟨rfl, rfl⟩))
        go_ret2
        exact ⟨by rw [HN.out]; rfl, rfl⟩
      | some j =>
        have HX := Lib.hid hx
        obtain ⟨hj, _⟩ := nx_some hx
        have hk4 : k = 0 ∨ k = 1 ∨ k = 2 ∨ k = 3 := by omega
        have HN : Hid (bitsL (g.data.toList.drop (k + 1)) (k + 1) (acc + j * 2 ^ (18 - 6 * k)) = bitsG g.data.toList) := by
          show _ = _
          rw [← HB.out, HD.out]
          conv => rhs; unfold bitsL
          rw [HX.out]
          rfl
        have HO : ∀ p, p = 18 - 6 * k → Hid (bits .or .i64 (acc : Int) ((j * 2 ^ p : Nat) : Int) = ((acc + j * 2 ^ p : Nat) : Int)) := by
          rintro p rfl
          refine or_place (18 - 6 * k) acc j (by omega) ?_ ha hj
          have := HM.out
          rwa [show 18 - 6 * k + 6 = 24 - 6 * k by omega]
        have HM2 : Hid ((acc + j * 2 ^ (18 - 6 * k)) % 2 ^ (24 - 6 * (k + 1)) = 0) := by
          show _ = _
          have := HM.out
          rcases hk4 with rfl | rfl | rfl | rfl <;> simp at this ⊢ <;> omega
        have ha2 : acc + j * 2 ^ (18 - 6 * k) < 16777216 := by
          have := HM.out
          rcases hk4 with rfl | rfl | rfl | rfl <;> simp at this ⊢ <;> omega
        clear hx HB HM
        rcases hk4 with rfl | rfl | rfl | rfl
        · have e1 : bits .or .i64 (acc : Int) ((j : Int) * 262144) = ((acc + j * 262144 : Nat) : Int) := by
            rw [show ((j : Int) * 262144 : Int) = ((j * 2 ^ 18 : Nat) : Int) by omega]
            exact (HO 18 rfl).out
          clear HO
          go_wp2_with ((go_at_call 20; refine (index_some _ j _ HX.out).mono ?_; rintro e w' ⟨rfl, rfl⟩))
          go_round
          case rel => exact ⟨1, acc + j * 262144, by omega, rfl, by go_num, HN, HM2, ha2⟩
          case measure => simp [intOf]; omega
        · have e1 : bits .or .i64 (acc : Int) ((j : Int) * 4096) = ((acc + j * 4096 : Nat) : Int) := by
            rw [show ((j : Int) * 4096 : Int) = ((j * 2 ^ 12 : Nat) : Int) by omega]
            exact (HO 12 rfl).out
          clear HO
          go_wp2_with ((go_at_call 20; refine (index_some _ j _ HX.out).mono ?_; rintro e w' ⟨rfl, rfl⟩))
          go_round
          case rel => exact ⟨2, acc + j * 4096, by omega, rfl, by go_num, HN, HM2, ha2⟩
          case measure => simp [intOf]; omega
        · have e1 : bits .or .i64 (acc : Int) ((j : Int) * 64) = ((acc + j * 64 : Nat) : Int) := by
            rw [show ((j : Int) * 64 : Int) = ((j * 2 ^ 6 : Nat) : Int) by omega]
            exact (HO 6 rfl).out
          clear HO
          go_wp2_with ((go_at_call 20; refine (index_some _ j _ HX.out).mono ?_; rintro e w' ⟨rfl, rfl⟩))
          go_round
          case rel => exact ⟨3, acc + j * 64, by omega, rfl, by go_num, HN, HM2, ha2⟩
          case measure => simp [intOf]; omega
        · have e1 : bits .or .i64 (acc : Int) ((j : Int)) = ((acc + j * 1 : Nat) : Int) := by
            rw [show ((j : Int) : Int) = ((j * 2 ^ 0 : Nat) : Int) by omega]
            exact (HO 0 rfl).out
          clear HO
          go_wp2_with ((go_at_call 20; refine (index_some _ j _ HX.out).mono ?_; rintro e w' ⟨rfl, rfl⟩))
          go_round
          case rel => exact ⟨4, acc + j * 1, by omega, rfl, by go_num, HN, HM2, ha2⟩
          case measure => simp [intOf]; omega

    · have HN : Hid (bitsG g.data.toList = some acc) := by
        show _ = _
        rw [← HB.out, List.drop_of_length_le (by rw [← HL.out]; omega)]
        rfl
      clear HB HM
      go_wp2
      go_ret2
      exact ⟨by rw [HN.out]; rfl, rfl⟩
end Go.Proofs.Ytjfahkbhhpcnnaa
