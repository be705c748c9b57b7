/-
  The walks of the least functions: octet.within, law's same.
-/
import Derived.Test.YtecgmlifeljdeaaDoorRows
import Derived.Test.YtecgmlifeljdeaaDoorWords
import Derived.Test.YtecgmlifeljdeaaDoorNum
import Derived.WalkKit
import Derived.Deep.QuietTactic
import Derived.BigQuiet
namespace Go.Proofs.YtecgmlifeljdeaaDoor
open Go.RowKit

theorem within_any (v : Int) (w : World) (h0 : -9223372036854775808 ≤ v) (h1 : v ≤ 9223372036854775807) :
    Calls Tryd.prog 41 #[.int .i64 v] w fun e w' => e = .returned (.int .i64 (clamp v : Nat)) ∧ w = w' := by
  by_cases ha : v < 0
  · have hc : Hid (clamp v = 0) := clamp_neg ha
    go_enter Tryd.func41, Tryd.ntmps41
    go_wp2
    go_ret
    exact ⟨by rw [hc.out]; rfl, rfl⟩
  · by_cases hb : 4611686018427387904 < v
    · have hc : Hid (clamp v = 4611686018427387904) := clamp_big hb
      go_enter Tryd.func41, Tryd.ntmps41
      go_wp2
      go_ret
      exact ⟨by rw [hc.out]; rfl, rfl⟩
    · have hc : Hid ((clamp v : Int) = v) := by
        show (clamp v : Int) = v
        rw [clamp_mid (by omega) (by omega)]; omega
      go_enter Tryd.func41, Tryd.ntmps41
      go_wp2
      go_ret
      exact ⟨by rw [hc.out]; rfl, rfl⟩

/-- same: two rows of bytes. -/
theorem same_any (A A' : Option Addr) (n c n' c' : Nat) (l l' : List UInt8) (w : World) (ha : Sl w A n (bvs l)) (hb : Sl w A' n' (bvs l')) (hn : n ≤ 4611686018427387904) (hn' : n' ≤ 4611686018427387904) :
    Calls Tryd.prog 13 #[.slice A n c, .slice A' n' c'] w fun e w' => e = .returned (.bool (decide (l = l'))) ∧ Only [] w w' := by
  have hl : l.length = n := by simpa using ha.len
  have hl' : l'.length = n' := by simpa using hb.len
  by_cases hne : n = n'
  · subst hne
    go_enter Tryd.func13, Tryd.ntmps13
    go_wp2
    go_loopw [5] (fun i wr => ∃ k : Nat, k ≤ n ∧ i = .int .i64 k ∧ Hid (l.take k = l'.take k) ∧ Only [] w wr) (fun i _ => n - (intOf i).toNat)
    case atStart => exact ⟨0, Nat.zero_le _, rfl, rfl, Only.refl _ _⟩
    case round =>
      obtain ⟨k, hk, rfl, HE, HO⟩ := hrel
      by_cases hlt : k < n
      · obtain ⟨ad, u, rfl, hu, hcell⟩ := (ha.keep HO).at_ hlt
        obtain ⟨ad', u', rfl, hu', hcell'⟩ := (hb.keep HO).at_ hlt
        rw [bvs_get _ _ (by omega)] at hu hu'
        obtain rfl : bv _ = u := by injection hu
        obtain rfl : bv _ = u' := by injection hu'
        unfold bv at hcell hcell'
        have b1 := byte_lt (l[k]'(by omega))
        have b2 := byte_lt (l'[k]'(by omega))
        clear hu hu'
        by_cases he : l[k]'(by omega) = l'[k]'(by omega)
        · have hx : ((l[k]'(by omega)).toNat : Int) = ((l'[k]'(by omega)).toNat : Int) := by rw [he]
          have HT : Hid (l.take (k + 1) = l'.take (k + 1)) := by
            show l.take (k + 1) = l'.take (k + 1)
            rw [List.take_succ_eq_append_getElem (by omega), List.take_succ_eq_append_getElem (by omega), HE.out, he]
          rw [hx] at hcell
          clear he hx
          go_wp2
          go_quiet (fail)
          go_wp2
          go_roundw
          case rel => exact ⟨k + 1, by omega, by go_num, HT, HO.drewN _⟩
          case measure => simp [intOf]; omega
        · have hx : (((l[k]'(by omega)).toNat : Int) != ((l'[k]'(by omega)).toNat : Int)) = true := by
            rw [bne_iff_ne]
            intro h
            exact he (UInt8.toNat_inj.1 (by omega))
          have hd : Hid (decide (l = l') = false) := by
            show decide (l = l') = false
            rw [decide_eq_false_iff_not]
            rintro rfl
            exact he rfl
          clear he
          go_wp2
          go_quiet (fail)
          go_wp2
          go_ret
          exact ⟨by rw [hd.out]; rfl, HO.drewN _⟩
      · have hd : Hid (decide (l = l') = true) := by
          show decide (l = l') = true
          rw [decide_eq_true_iff]
          have := HE.out
          rwa [List.take_of_length_le (by omega), List.take_of_length_le (by omega)] at this
        go_wp2
        go_ret
        exact ⟨by rw [hd.out]; rfl, HO⟩
  · have hd : Hid (decide (l = l') = false) := by
      show decide (l = l') = false
      rw [decide_eq_false_iff_not]
      rintro rfl
      omega
    have hx : ((n : Int) != (n' : Int)) = true := by rw [bne_iff_ne]; omega
    go_enter Tryd.func13, Tryd.ntmps13
    go_wp2
    go_ret
    exact ⟨by rw [hd.out]; rfl, Only.refl _ _⟩
end Go.Proofs.YtecgmlifeljdeaaDoor
