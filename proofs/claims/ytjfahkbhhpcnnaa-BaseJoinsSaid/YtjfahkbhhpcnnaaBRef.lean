/-
  The document's answers of base: letters, number.
-/
import Derived.Test.YtjfahkbhhpcnnaaBLeaf
import Derived.Test.YtjfahkbhhpcnnaaStr
import Derived.WalkKit
import Derived.Handy
import Derived.Deep.DeepMust
import Derived.WalkLawsBesides
import Derived.ScopeJumps
import Derived.WalkMore
import Derived.IntWalk
namespace Go.Proofs.Ytjfahkbhhpcnnaa
open Go.RowKit

theorem letters_any (w : World) : Calls Try.prog 18 #[] w fun e w' => ∃ t : ByteArray, e = .returned (.string t) ∧ Hid (t = St abc) ∧ t.size = 64 ∧ w = w' := by
  go_enter Try.func18, Try.ntmps18
  go_wp2
  go_ret
  exact ⟨_, rfl, rfl, rfl, rfl⟩
theorem abc_get {t : ByteArray} (ht : Hid (t = St abc)) (k : Nat) (hk : k < 64) (h : k < t.size) : t[k] = lt k := by
  have e := ht.out
  subst e
  exact abc_at k hk h

/-- A letter's number as the document tells it. -/
def numV (c : UInt8) : Int := match nx c with | some k => (k : Int) | none => -1
theorem number_any (c : UInt8) (w : World) : Calls Try.prog 16 #[.int .u8 (c.toNat : Int)] w fun e w' => e = .returned (.int .i64 (numV c)) ∧ w = w' := by
  go_enter Try.func16, Try.ntmps16
  go_wp2_with (go_at_call 18; refine (letters_any _).mono ?_; rintro e w' ⟨t, rfl, HT, hts, rfl⟩)
  go_loop [4] (fun i => ∃ k : Nat, k ≤ 64 ∧ i = .int .i64 (k : Int) ∧ Hid (∀ j, j < k → lt j ≠ c)) (fun i => 64 - (intOf i).toNat)
  case atStart => exact ⟨0, by omega, rfl, fun j hj => by omega⟩
  case round =>
    obtain ⟨k, hk, rfl, HK⟩ := hrel
    by_cases hlt : k < 64
    · have hk2 : k < t.size := by omega
      have HG := Lib.hid (abc_get HT k hlt hk2)
      by_cases hx : t[k] = c
      · have HN : Hid (numV c = (k : Int)) := by
          show _ = _
          rw [← hx, HG.out, numV, nx_lt hlt]
        have hb : ((t[k].toNat : Int) == (c.toNat : Int)) = true := by rw [hx]; simp
        clear hx
        go_wp2
        go_ret
        exact ⟨by rw [HN.out]; rfl, rfl⟩
      · have hb : ((t[k].toNat : Int) == (c.toNat : Int)) = false := by
          simp only [beq_eq_false_iff_ne, ne_eq, Int.natCast_inj]
          exact fun h => hx (UInt8.toNat_inj.1 h)
        have HK2 : Hid (∀ j, j < k + 1 → lt j ≠ c) := fun j hj => by
          rcases Nat.lt_or_ge j k with h | h
          · exact HK.out j h
          · have : j = k := by omega
            subst this
            rw [← HG.out]
            exact hx
        clear hx
        go_wp2
        go_round
        case rel => exact ⟨k + 1, by omega, by go_num, HK2⟩
        case measure => simp [intOf]; omega
    · obtain rfl : k = 64 := by omega
      have HN : Hid (numV c = -1) := by
        show _ = _
        unfold numV
        rcases ix_cases c with ⟨_, h⟩ | ⟨j, hj, _, _, h⟩
        · rw [h]
        · exact absurd h (HK.out j hj)
      go_wp2
      go_ret
      exact ⟨by rw [HN.out]; rfl, rfl⟩
end Go.Proofs.Ytjfahkbhhpcnnaa
