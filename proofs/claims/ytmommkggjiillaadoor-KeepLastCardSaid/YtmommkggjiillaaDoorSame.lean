/-
  A law's same: two rows of bytes.
-/
import Derived.Test.YtmommkggjiillaaDoorRows
import Derived.Test.YtmommkggjiillaaDoorQuiet
import Derived.WalkKit
import Derived.Deep.QuietTactic
import Derived.BigQuiet
namespace Go.Proofs.YtmommkggjiillaaDoor
open Go.RowKit

/-- same: two rows of bytes. -/
theorem same_q (A A' : Option Addr) (n c n' c' : Nat) (l l' : List UInt8) (w : World) (ha : Sl w A n (bvs l)) (hb : Sl w A' n' (bvs l')) (hn : n ≤ 4611686018427387904) (hn' : n' ≤ 4611686018427387904) :
    Calls Tryd.prog 15 #[.slice A n c, .slice A' n' c'] w (Quiet w (.bool (decide (l = l')))) := by
  have hl : l.length = n := by simpa using ha.len
  have hl' : l'.length = n' := by simpa using hb.len
  by_cases hne : n = n'
  · subst hne
    go_enter Tryd.func15, Tryd.ntmps15
    go_wp2
    go_loopw [5] (fun i wr => ∃ k : Nat, k ≤ n ∧ i = .int .i64 k ∧ Hid (l.take k = l'.take k) ∧ ∃ m, wr = w.drewN m) (fun i _ => n - (intOf i).toNat)
    case atStart => exact ⟨0, Nat.zero_le _, rfl, rfl, 0, rfl⟩
    case round =>
      obtain ⟨k, hk, rfl, HE, m0, rfl⟩ := hrel
      by_cases hlt : k < n
      · obtain ⟨ad, u, rfl, hu, hcell⟩ := ha.at_ hlt
        obtain ⟨ad', u', rfl, hu', hcell'⟩ := hb.at_ hlt
        rw [bvs_get _ _ (by omega)] at hu hu'
        obtain rfl : bv _ = u := by injection hu
        obtain rfl : bv _ = u' := by injection hu'
        unfold bv at hcell hcell'
        have b1 := byte_lt (l[k]'(by omega))
        have b2 := byte_lt (l'[k]'(by omega))
        clear hu hu'
        by_cases he : l[k]'(by omega) = l'[k]'(by omega)
        · have hx : ((l[k]'(by omega)).toNat : Int) = ((l'[k]'(by omega)).toNat : Int) := by rw [he]
          have HT : Hid (l.take (k + 1) = l'.take (k + 1)) := by
            show l.take (k + 1) = l'.take (k + 1)
            rw [List.take_succ_eq_append_getElem (by omega), List.take_succ_eq_append_getElem (by omega), HE.out, he]
          rw [hx] at hcell
          clear he hx
          go_wp2
          go_quiet (fail)
          go_wp2
          go_roundw
          case rel => exact ⟨k + 1, by omega, by go_num, HT, _, rfl⟩
          case measure => simp [intOf]; omega
        · have hx : (((l[k]'(by omega)).toNat : Int) != ((l'[k]'(by omega)).toNat : Int)) = true := by
            rw [bne_iff_ne]
            intro h
            exact he (UInt8.toNat_inj.1 (by omega))
          have hd : Hid (decide (l = l') = false) := by
            show decide (l = l') = false
            rw [decide_eq_false_iff_not]
            rintro rfl
            exact he rfl
          clear he
          go_wp2
          go_quiet (fail)
          go_wp2
          go_ret
          exact ⟨by rw [hd.out]; rfl, drewN_more _ _⟩
      · have hd : Hid (decide (l = l') = true) := by
          show decide (l = l') = true
          rw [decide_eq_true_iff]
          have := HE.out
          rwa [List.take_of_length_le (by omega), List.take_of_length_le (by omega)] at this
        go_wp2
        go_ret
        exact ⟨by rw [hd.out]; rfl, _, rfl⟩
  · have hd : Hid (decide (l = l') = false) := by
      show decide (l = l') = false
      rw [decide_eq_false_iff_not]
      rintro rfl
      omega
    have hx : ((n : Int) != (n' : Int)) = true := by rw [bne_iff_ne]; omega
    go_enter Tryd.func15, Tryd.ntmps15
    go_wp2
    go_ret
    exact ⟨by rw [hd.out]; rfl, 0, rfl⟩
theorem same_any (A A' : Option Addr) (n c n' c' : Nat) (l l' : List UInt8) (w : World) (ha : Sl w A n (bvs l)) (hb : Sl w A' n' (bvs l')) (hn : n ≤ 4611686018427387904) (hn' : n' ≤ 4611686018427387904) :
    Calls Tryd.prog 15 #[.slice A n c, .slice A' n' c'] w fun e w' => e = .returned (.bool (decide (l = l'))) ∧ Only [] w w' :=
  (same_q A A' n c n' c' l l' w ha hb hn hn').mono fun _ _ h => ⟨h.1, h.only⟩
end Go.Proofs.YtmommkggjiillaaDoor
