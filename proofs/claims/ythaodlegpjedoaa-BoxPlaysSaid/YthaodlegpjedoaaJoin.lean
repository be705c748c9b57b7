/-
  octet.Join: all rows, one behind the other, in new memory.
-/
import Derived.Test.YthaodlegpjedoaaRows
import Derived.Test.YthaodlegpjedoaaRowsOf
import Derived.WalkKit
import Derived.Handy
namespace Go.Proofs.Ythaodlegpjedoaa
open Go.RowKit

set_option maxHeartbeats 400000 in
theorem join_any (A : Option Addr) (n c : Nat) (ls : List (List UInt8)) (w : World) (hr : Rw w A n ls) (hn : n ≤ 4611686018427387904) (ht : ls.flatten.length ≤ 1099511627776) :
    Calls Try.prog 66 #[.slice A n c] w (Fresh w ls.flatten) := by
  obtain ⟨i0, hi, hz0, hz1, hz2⟩ := info_parts infoByte
  have hl : ls.length = n := hr.len
  go_enter Try.func66, Try.ntmps66
  go_wp2
  go_loop [3, 11] (fun t i => ∃ k : Nat, k ≤ n ∧ i = .int .i64 k ∧ t = .int .i64 (catLen ls k : Nat)) (fun _ i => n - (intOf i).toNat)
  case atStart => exact ⟨0, Nat.zero_le _, rfl, rfl⟩
  case round =>
    obtain ⟨k, hk, rfl, rfl⟩ := hrel
    have hle := catLen_le ls k
    have htot : catLen ls k ≤ 1099511627776 := by omega
    by_cases hlt : k < n
    · obtain ⟨ad, Ai, ci, rfl, hcell, _⟩ := hr.at_ hlt (by omega)
      have hle2 := catLen_le ls (k + 1)
      have HT := Lib.hid (catLen_succ ls k (by omega))
      have hb : catLen ls k + (ls[k]'(by omega)).length ≤ 1099511627776 := by
        rw [← HT.out]; omega
      clear hle hle2 ht
      go_wp2
      go_round
      case rel => exact ⟨k + 1, by omega, by go_num, by rw [HT.out]; go_num⟩
      case measure => simp [intOf]; omega
    · obtain rfl : k = n := by omega
      have HF := Lib.hid (catLen_all ls (k := k) (by omega))
      clear hle
      go_wp2_with (at_make; refine wpList_make_own _ rfl (.const (.int .i64 0)) (.tmp 20) 29 rfl 0 5 i0 _ 1 Try.underlying29 hi hz0 hz1 _ _ _ (catLen ls k) rfl rfl rfl (by rw [hz2]; omega) (by unfold maxLen; omega) (Nat.zero_le _) ?_; intro w1 hown hgrow)
      have HO1 : Only [] w w1 := by simpa using Only.of_grown hgrow
      have hown1 : Own w1 5 (some ⟨w.heap.size, 0, none⟩) 0 (catLen ls k) [] := hown
      clear hown hgrow
      go_loopw [6, 24] (fun v i wr => ∃ (j : Nat) (A' : Option Addr) (c' : Nat), j ≤ k ∧ i = .int .i64 j ∧ v = .slice A' (catLen ls j) c' ∧ Own wr 5 A' (catLen ls j) c' (bvs (cat ls j)) ∧ Only [] w wr ∧ (∀ x ∈ blks A', w.heap.size ≤ x)) (fun _ i _ => k - (intOf i).toNat)
      case atStart => exact ⟨0, _, _, Nat.zero_le _, rfl, rfl, hown1, HO1, by simp⟩
      case round =>
        obtain ⟨j, A', c', hj, rfl, rfl, HV, HO, HB⟩ := hrel
        by_cases hlt2 : j < k
        · obtain ⟨ad, Ai, ci, rfl, hcell, hrow⟩ := (hr.keep HO).at_ hlt2 (by omega)
          have hle := catLen_le ls j
          have hle2 := catLen_le ls (j + 1)
          have HT := Lib.hid (catLen_succ ls j (by omega))
          have HC := Lib.hid (cat_succ ls j (by omega))
          have hb : catLen ls j + (ls[j]'(by omega)).length ≤ 1099511627776 := by rw [← HT.out]; omega
          clear hle hle2 ht
          go_wp2_with (at_builtin; refine wpList_append_sl rfl (.tmp 28) (.tmp 29) 29 rfl 5 i0 (.int .u8 0) 1 Try.underlying29 hi hz0 hz1 hz2 rfl A' _ c' _ rfl HV Ai _ ci _ rfl hrow (bvs_one _) (by unfold maxLen; omega) (by omega) ?_; intro A2 c2 w2 HV2 HO2 HB2)
          go_roundw
          case rel =>
            refine ⟨j + 1, A2, c2, by omega, by go_num, by rw [HT.out], ?_, HO.trans HO2 (fun x hx => .inr (HB x hx)), fun x hx => ?_⟩
            · rw [HT.out, HC.out, bvs_append]; exact HV2
            · rcases HB2 x hx with h | h
              · exact HB x h
              · have := HO.size; omega
          case measure => simp [intOf]; omega
        · obtain rfl : j = k := by omega
          go_wp2
          go_ret
          exact ⟨A', c', by rw [← HF.out]; rfl, by rw [← HF.out, ← cat_all ls (k := j) (by omega)]; exact HV, HO, HB⟩
/-- Join of one row that the caller has just laid. -/
theorem join_one (w : World) (A : Option Addr) (c m : Nat) (q : List UInt8) (hlen : q.length = m) (hs : Sl w A m (bvs q)) (hm : m ≤ 1000000000000) :
    Calls Try.prog 66 #[.slice (some ⟨w.heap.size, 0, none⟩) 1 1] (w.alloc (.cells #[.slice A m c] 29)) (fun e w' => Fresh w q e w' ∧ w.heap.size < w'.heap.size) := by
  subst hlen
  have hfl : [q].flatten = q := by simp
  have h := join_any (some ⟨w.heap.size, 0, none⟩) 1 1 [q] (w.alloc (.cells #[.slice A q.length c] 29)) (Rw.one (Bk.new _ _ _) (hs.alloc _)) (by omega) (by rw [hfl]; omega)
  rw [hfl] at h
  refine h.mono fun e w' hh => ?_
  obtain ⟨P, cp, he, hv, ho, hb⟩ := hh
  exact ⟨⟨P, cp, he, hv, ((Only.refl _ _).alloc _).then ho, fun k hk => by have := hb k hk; rw [World.size_alloc] at this; omega⟩, by have := ho.size; rw [World.size_alloc] at this; omega⟩
end Go.Proofs.Ythaodlegpjedoaa
