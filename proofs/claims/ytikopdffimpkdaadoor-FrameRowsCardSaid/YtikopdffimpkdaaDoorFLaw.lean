/-
  The laws' rows and known.
-/
import Derived.Test.YtikopdffimpkdaaDoorFScanR
import Derived.Test.YtikopdffimpkdaaDoorSpoil
import Derived.Lib.SlBytesConst
import Derived.Lib.SmallJoins
namespace Go.Proofs.YtikopdffimpkdaaDoor
open Go.RowKit

theorem lists_ne {a b : List (List UInt8)} {k : Nat} (ha : k < a.length) (hb : k < b.length) (h : a[k] ≠ b[k]) : a ≠ b := by
  intro e
  apply h
  have := congrArg (fun l : List (List UInt8) => l[k]?) e
  simpa [ha, hb] using this

/-- The first k rows. -/
theorem Rw.pre {w : World} {A : Option Addr} {n : Nat} {ls : List (List UInt8)} (h : Rw w A n ls) {k : Nat} (hk : k ≤ n) : Rw w A k (ls.take k) := by
  obtain ⟨hl, vs, hs, hr⟩ := h
  refine ⟨by rw [List.length_take]; omega, vs.take k, hs.pre hk, fun i l hi => ?_⟩
  have hik : i < k := by
    have := (List.getElem?_eq_some_iff.1 hi).1
    rw [List.length_take] at this
    omega
  rw [List.getElem?_take, if_pos hik] at hi
  obtain ⟨Ai, ci, h1, h2⟩ := hr i l hi
  exact ⟨Ai, ci, by rw [List.getElem?_take, if_pos hik]; exact h1, h2⟩
/-- The records of the first k rows. -/
def recs (ls : List (List UInt8)) (k : Nat) : List UInt8 := records (ls.take k)
theorem recs_zero (ls : List (List UInt8)) : recs ls 0 = [] := rfl
theorem recs_succ (ls : List (List UInt8)) (k : Nat) (h : k < ls.length) : recs ls (k + 1) = recs ls k ++ record ls[k] := by
  unfold recs
  rw [List.take_succ_eq_append_getElem h, records_append]
  simp [records]
theorem recs_all (ls : List (List UInt8)) {k : Nat} (h : ls.length ≤ k) : recs ls k = records ls := by
  unfold recs
  rw [List.take_of_length_le h]

set_option maxHeartbeats 800000 in
theorem rows_q (A A' : Option Addr) (n c n' c' : Nat) (a b : List (List UInt8)) (w : World) (ha : Rw w A n a) (hb : Rw w A' n' b) (hn : n ≤ 4611686018427387904) (hn' : n' ≤ 4611686018427387904)
    (la : ∀ l ∈ a, l.length ≤ 4611686018427387904) (lb : ∀ l ∈ b, l.length ≤ 4611686018427387904) :
    Calls Tryd.prog 19 #[.slice A n c, .slice A' n' c'] w (Quiet w (.bool (decide (a = b)))) := by
  have hl : a.length = n := ha.len
  have hl' : b.length = n' := hb.len
  by_cases hne : n = n'
  · subst hne
    have HLA := Lib.hid hl
    have HLB := Lib.hid hl'
    have HMA := Lib.hid la
    have HMB := Lib.hid lb
    have hn2 : n ≤ 4611686018427387904 := hn
    clear hl hl' la lb
    go_enter Tryd.func19, Tryd.ntmps19
    go_wp2
    go_loopw [5] (fun i wr => ∃ k : Nat, k ≤ n ∧ i = .int .i64 k ∧ Hid (a.take k = b.take k) ∧ ∃ m, wr = w.drewN m) (fun i _ => n - (intOf i).toNat)
    case atStart => exact ⟨0, Nat.zero_le _, rfl, rfl, 0, rfl⟩
    case round =>
      obtain ⟨k, hk, rfl, HE, m0, hwr⟩ := hrel
      have HW := Lib.hid hwr
      have HO : Only [] w wr := by rw [hwr]; exact (Only.refl _ _).drewN _
      clear hwr
      by_cases hlt : k < n
      · have hka : k < a.length := by rw [HLA.out]; exact hlt
        have hkb : k < b.length := by rw [HLB.out]; exact hlt
        obtain ⟨ad, Ai, ci, rfl, hcell, hrow⟩ := (ha.keep HO).at_ hlt hka
        obtain ⟨ad', Ai', ci', rfl, hcell', hrow'⟩ := (hb.keep HO).at_ hlt hkb
        have ha1 := HMA.out _ (List.getElem_mem hka)
        have hb1 := HMB.out _ (List.getElem_mem hkb)
        have HQ := Lib.hid (fun (q : Nat) => quiet_on (w := wr) (n := q) (same_q Ai Ai' _ ci _ ci' (a[k]'hka) (b[k]'hkb) (wr.drewN q) (hrow.drewN q) (hrow'.drewN q) ha1 hb1))
        have hi0 : (0 : Int) ≤ (k : Int) := by omega
        have hi1 : (k : Int) < (n : Int) := by omega
        by_cases he : a[k]'hka = b[k]'hkb
        · have HT : Hid (a.take (k + 1) = b.take (k + 1)) := by
            show a.take (k + 1) = b.take (k + 1)
            rw [List.take_succ_eq_append_getElem hka, List.take_succ_eq_append_getElem hkb, HE.out, he]
          rw [decide_eq_true he] at HQ
          clear he hrow hrow' ha1 hb1
          go_wp2
          go_quiet (first | (go_at_call 10; exact HQ.out _))
          go_wp2
          go_roundw
          case rel => exact ⟨k + 1, by omega, by go_num, HT, by rw [HW.out]; exact drewN_more _ _⟩
          case measure => simp [intOf]; omega
        · have HD : Hid (decide (a = b) = false) := by
            show _ = _
            rw [decide_eq_false_iff_not]
            exact lists_ne hka hkb he
          rw [decide_eq_false he] at HQ
          clear he hrow hrow' ha1 hb1
          go_wp2
          go_quiet (first | (go_at_call 10; exact HQ.out _))
          go_wp2
          go_ret
          exact ⟨by rw [HD.out]; rfl, by rw [HW.out]; exact drewN_more _ _⟩
      · have HD : Hid (decide (a = b) = true) := by
          show _ = _
          rw [decide_eq_true_iff]
          have := HE.out
          rwa [List.take_of_length_le (by rw [HLA.out]; omega), List.take_of_length_le (by rw [HLB.out]; omega)] at this
        go_wp2
        go_ret
        exact ⟨by rw [HD.out]; rfl, m0, HW.out⟩
  · have HD : Hid (decide (a = b) = false) := by
      show _ = _
      rw [decide_eq_false_iff_not]
      rintro rfl
      omega
    have hx : ((n : Int) != (n' : Int)) = true := by rw [bne_iff_ne]; omega
    clear hl hl' la lb
    go_enter Tryd.func19, Tryd.ntmps19
    go_wp2
    go_ret
    exact ⟨by rw [HD.out]; rfl, 0, rfl⟩
end Go.Proofs.YtikopdffimpkdaaDoor
