/-
  The walk of the law DiskFuses.
-/
import Derived.Test.YtbciompelpbkdaaDLaw
namespace Go.Proofs.Ytbciompelpbkdaa
open Go.RowKit Go.Maps

/-- How many bytes the laws count behind k rows. -/
def cnt (ls : List (List UInt8)) (k : Nat) : Nat := k + catLen ls k
theorem cnt_succ (ls : List (List UInt8)) (k : Nat) (h : k < ls.length) : cnt ls (k + 1) = cnt ls k + 1 + ls[k].length := by unfold cnt; rw [catLen_succ ls k h]; omega
theorem cnt_all (ls : List (List UInt8)) : cnt ls ls.length = ls.length + ls.flatten.length := by unfold cnt; rw [catLen_all ls (Nat.le_refl _)]

set_option maxRecDepth 100000 in
set_option maxHeartbeats 4000000 in
theorem fuses_any (nn : Int) (A : Option Addr) (n c : Nat) (ls : List (List UInt8)) (w : World) (hr : Rw w A n ls) (hn : n ≤ 10000000000000) (hj : ∀ l ∈ ls, l.length ≤ 140737488351232) :
    Calls Try.prog 5 #[.int .i64 nn, .slice A n c] w fun e w' => e = .returned (.bool true) ∧ Only [] w w' := by
  have HLs : Hid (ls.length = n) := hr.len
  have hrows := Lib.hid hj
  clear hj
  go_enter Try.func5, Try.ntmps5
  go_wp2_with fail
  go_loop [5, 6] (fun s i => ∃ k N : Nat, k ≤ n ∧ i = .int .i64 k ∧ s = .int .i64 N ∧ Hid (N = cnt ls k) ∧ N ≤ 140737488400000) (fun _ i => n - (intOf i).toNat)
  case atStart => exact ⟨0, 0, Nat.zero_le _, rfl, rfl, rfl, Nat.zero_le _⟩
  case round =>
    obtain ⟨k, N, hk, rfl, rfl, HN, hNb⟩ := hrel
    by_cases hlt : k < n
    · by_cases hc : N ≤ 8000
      · obtain ⟨ad, Ai, ci, rfl, hcell, _⟩ := hr.at_ hlt (by rw [HLs.out]; exact hlt)
        obtain ⟨m, hm⟩ : ∃ m, m = (ls[k]'(by rw [HLs.out]; exact hlt)).length := ⟨_, rfl⟩
        have hmb : m ≤ 140737488351232 := by rw [hm]; exact hrows.out _ (List.getElem_mem _)
        have HN' : Hid (N + 1 + m = cnt ls (k + 1)) := by show _ = _; rw [cnt_succ ls k (by rw [HLs.out]; exact hlt), ← HN.out, hm]
        rw [← hm] at hcell
        clear hm
        go_wp2
        go_round
        case rel => exact ⟨k + 1, N + 1 + m, by omega, by go_num, by go_num, HN', by omega⟩
        case measure => simp [intOf]; omega
      · have hc' : 8000 < N := by omega
        go_wp2_with (go_at_call 11; refine (known_any w).mono ?_; rintro e w1 ⟨rfl, O1⟩)
        go_ret
        exact ⟨rfl, O1⟩
    · have hkn : k = n := by omega
      subst hkn
      have HT : Hid (N = k + ls.flatten.length) := by show _ = _; rw [HN.out, ← HLs.out]; exact cnt_all ls
      by_cases hc : 8000 < N
      · have hc' := hc
        go_wp2_with (go_at_call 11; refine (known_any w).mono ?_; rintro e w1 ⟨rfl, O1⟩)
        go_ret
        exact ⟨rfl, O1⟩
      · have hc' : N ≤ 8000 := by omega
        have hk8 : k ≤ 8000 := by have := HT.out; omega
        have HFl : Hid (ls.flatten.length ≤ 8000) := by show _ ≤ _; have := HT.out; omega
        by_cases hneg : nn < 0
        · go_wp2_with (go_at_call 11; refine (known_any w).mono ?_; rintro e w1 ⟨rfl, O1⟩)
          go_ret
          exact ⟨rfl, O1⟩
        by_cases hbig : 1000 < nn
        · go_wp2_with (go_at_call 11; refine (known_any w).mono ?_; rintro e w1 ⟨rfl, O1⟩)
          go_ret
          exact ⟨rfl, O1⟩
        obtain ⟨m, rfl⟩ : ∃ m : Nat, nn = (m : Int) := ⟨nn.toNat, by omega⟩
        have hm0 : (0 : Int) ≤ (m : Int) := by omega
        have hm1 : (m : Int) ≤ 1000 := by omega
        clear hneg hbig
        have HNEW := Lib.hid (new_any (w := w) 1048576 (by omega))
        go_wp2_with (first
          | (go_at_call 12; refine HNEW.out.mono ?_; rintro e w1 ⟨d, rfl, D1, O1, hd⟩; have P1 : ∀ x ∈ [d], w.heap.size ≤ x := (fun x hx => by simp at hx; rw [hx]; exact hd))
          | (go_at_call 23; refine (fuse_any D1 (m : Int) (by omega)).mono ?_; rw [fuS_zero m ls]; rintro e w2 ⟨rfl, F2, D2, O2, B2⟩; have Q2 := O1.fresh O2 P1; have P2 := fresh_fp O1 P1 B2))
        clear D1 O1 hd P1 O2 B2 HNEW
        go_loopw [9] (fun i wr => ∃ (j : Nat) (F : List Nat), j ≤ k ∧ i = .int .i64 j ∧ Disk wr d F (fuS m ls j) ∧ Only [] w wr ∧ ∀ x ∈ F, w.heap.size ≤ x) (fun i _ => k - (intOf i).toNat)
        case atStart => exact ⟨0, F2, Nat.zero_le _, rfl, D2, Q2, P2⟩
        case round =>
          obtain ⟨j, F, hj, rfl, D3, Q3, P3⟩ := hrel
          by_cases hlt2 : j < k
          · have hjl : j < ls.length := by rw [HLs.out]; exact hlt2
            obtain ⟨ad, Ai, ci, rfl, _, hcell, hsl, hst⟩ := ((hr.below).only Q3 (fun _ _ hm => by cases hm)).at_ hlt2 hjl
            obtain ⟨row, hrow⟩ : ∃ row, row = ls[j]'hjl := ⟨_, rfl⟩
            rw [← hrow] at hcell hsl hst
            have HAP := Lib.hid (append_one D3 nameF Ai row.length ci row rfl hsl (fun hpos ad2 e hm => by have h1 := hst hpos ad2 e; have h2 := P3 _ hm; omega))
            by_cases hjm : j < m
            · have hst2 := fuS_step hjl HFl.out hjm
              rw [← hrow] at hst2
              rw [hst2.1, hst2.2] at HAP
              have hjm' : (j : Int) < (m : Int) := by omega
              clear hrow hst2 hst hsl
              go_wp2_with (go_at_call 16; refine HAP.out.mono ?_; rintro e w4 ⟨rfl, F4, D4, O4, B4⟩)
              go_roundw
              case rel => exact ⟨j + 1, F4, by omega, by go_num, D4, Q3.fresh O4 P3, fresh_fp Q3 P3 B4⟩
              case measure => simp [intOf]; omega
            · have hst2 := fuS_burnt (ls := ls) (show m ≤ j by omega) row
              rw [hst2.1, hst2.2] at HAP
              have hjm' : (m : Int) ≤ (j : Int) := by omega
              clear hrow hst2 hst hsl
              go_wp2_with (go_at_call 16; refine HAP.out.mono ?_; rintro e w4 ⟨rfl, F4, D4, O4, B4⟩)
              go_roundw
              case rel => exact ⟨j + 1, F4, by omega, by go_num, D4, Q3.fresh O4 P3, fresh_fp Q3 P3 B4⟩
              case measure => simp [intOf]; omega
          · have HRM := Lib.hid (remove_one D3 nameNone)
            rw [fuS_none.1, fuS_none.2] at HRM
            have hjk : j = k := by omega
            by_cases hjm : j < m
            · rw [if_pos hjm] at HRM
              have hjm' : (k : Int) < (m : Int) := by omega
              clear hjk
              go_wp2_with (first
                | (go_at_call 24; refine HRM.out.mono ?_; rintro e w4 ⟨rfl, F4, D4, O4, B4⟩; have Q4 := Q3.fresh O4 P3; have P4 := fresh_fp Q3 P3 B4)
                | (go_at_call 17; refine (crash_any D4 0 (by omega)).mono ?_; rintro e w5 ⟨rfl, F5, D5, O5, B5⟩; have Q5 := Q4.fresh O5 P4; have P5 := fresh_fp Q4 P4 B5; have HAP := append_one D5 nameZ none 0 0 [] rfl Sl.none_ (fun h => absurd h (by omega)); rw [app_none okZ rfl D5.good.2.2 (by show ((fuS m ls j).fs.map _).length < 4096; rw [List.length_map]; have := fuS_len m ls j; omega)] at HAP)
                | (go_at_call 16; refine HAP.mono ?_; rintro e w6 ⟨rfl, F6, D6, O6, B6⟩; have Q6 := Q5.fresh O6 P5)
                | (go_at_call 11; refine (known_any w6).mono ?_; rintro e w7 ⟨rfl, O7⟩))
              go_ret
              exact ⟨rfl, Q6.then O7⟩
            · rw [if_neg hjm] at HRM
              have hjm' : (m : Int) ≤ (k : Int) := by omega
              clear hjk
              go_wp2_with (first
                | (go_at_call 24; refine HRM.out.mono ?_; rintro e w4 ⟨rfl, F4, D4, O4, B4⟩; have Q4 := Q3.fresh O4 P3; have P4 := fresh_fp Q3 P3 B4)
                | (go_at_call 17; refine (crash_any D4 0 (by omega)).mono ?_; rintro e w5 ⟨rfl, F5, D5, O5, B5⟩; have Q5 := Q4.fresh O5 P4; have P5 := fresh_fp Q4 P4 B5; have HAP := append_one D5 nameZ none 0 0 [] rfl Sl.none_ (fun h => absurd h (by omega)); rw [app_none okZ rfl D5.good.2.2 (by show ((fuS m ls j).fs.map _).length < 4096; rw [List.length_map]; have := fuS_len m ls j; omega)] at HAP)
                | (go_at_call 16; refine HAP.mono ?_; rintro e w6 ⟨rfl, F6, D6, O6, B6⟩; have Q6 := Q5.fresh O6 P5)
                | (go_at_call 11; refine (known_any w6).mono ?_; rintro e w7 ⟨rfl, O7⟩))
              go_ret
              exact ⟨rfl, Q6.then O7⟩
end Go.Proofs.Ytbciompelpbkdaa
