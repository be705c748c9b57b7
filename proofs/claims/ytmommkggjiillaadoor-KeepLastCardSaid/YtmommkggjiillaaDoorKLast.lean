/-
  The walk of the law KeepLast (gen/klast.py).
-/
import Derived.Test.YtmommkggjiillaaDoorKKnown
namespace Go.Proofs.YtmommkggjiillaaDoor
open Go.RowKit Go.Maps

def nameF : ByteArray := ⟨#[102]⟩
/-- What is there when so many rows have been saved. -/
def lastF (ls : List (List UInt8)) : Nat → Option Fl
  | 0 => none
  | q + 1 => some ⟨nameF, record (ls.getD q []), (record (ls.getD q [])).length⟩
theorem lastF_succ {ls : List (List UInt8)} {q : Nat} (h : q < ls.length) : lastF ls (q + 1) = some ⟨nameF, record ls[q], (record ls[q]).length⟩ := by
  have e : ls.getD q [] = ls[q] := by simp [List.getD, h]
  show some (Fl.mk nameF (record (ls.getD q [])) _) = _
  rw [e]

set_option maxRecDepth 100000 in
set_option maxHeartbeats 4000000 in
theorem last_any (A : Option Addr) (n c : Nat) (ls : List (List UInt8)) (fuse draw : Int) (w : World) (hr : Rw w A n ls) (hn : n ≤ 10000000000000) (hj : ∀ l ∈ ls, l.length ≤ 140737488351232)
    (hfu : fuse ≤ 9223372036854775807) (hdraw : draw ≤ 9223372036854775807) (hT : Tab w) :
    Calls Tryd.prog 4 #[.slice A n c, .int .i64 fuse, .int .i64 draw] w fun e w' => e = .returned (.bool true) ∧ Only [] w w' := by
  have HLs : Hid (ls.length = n) := hr.len
  have hrows := Lib.hid hj
  have HT := Lib.hid hT
  clear hj hT
  go_enter Tryd.func4, Tryd.ntmps4
  go_wp2_with fail
  go_loop [7, 8] (fun s i => ∃ k N : Nat, k ≤ n ∧ i = .int .i64 k ∧ s = .int .i64 N ∧ Hid (N = 5 * k + catLen ls k) ∧ N ≤ 140737488400000) (fun _ i => n - (intOf i).toNat)
  case atStart => exact ⟨0, 0, Nat.zero_le _, rfl, rfl, rfl, Nat.zero_le _⟩
  case round =>
    obtain ⟨k, N, hk, rfl, rfl, HN, hNb⟩ := hrel
    by_cases hlt : k < n
    · by_cases hc : N ≤ 5000
      · obtain ⟨ad, Ai, ci, rfl, hcell, _⟩ := hr.at_ hlt (by rw [HLs.out]; exact hlt)
        obtain ⟨m, hm⟩ : ∃ m, m = (ls[k]'(by rw [HLs.out]; exact hlt)).length := ⟨_, rfl⟩
        have hmb : m ≤ 140737488351232 := by rw [hm]; exact hrows.out _ (List.getElem_mem _)
        have HN' : Hid (N + 5 + m = 5 * (k + 1) + catLen ls (k + 1)) := by show _ = _; rw [catLen_succ ls k (by rw [HLs.out]; exact hlt), HN.out, ← hm]; omega
        rw [← hm] at hcell
        clear hm
        go_wp2
        go_round
        case rel => exact ⟨k + 1, N + 5 + m, by omega, by go_num, by go_num, HN', by omega⟩
        case measure => simp [intOf]; omega
      · have hc' : 5000 < N := by omega
        go_wp2_with (go_at_call 8; refine (known_any w HT.out).mono ?_; rintro e w1 ⟨rfl, O1⟩)
        go_ret
        exact ⟨rfl, O1⟩
    · have hkn : k = n := by omega
      subst hkn
      by_cases hc : 5000 < N
      · have hc' := hc
        go_wp2_with (go_at_call 8; refine (known_any w HT.out).mono ?_; rintro e w1 ⟨rfl, O1⟩)
        go_ret
        exact ⟨rfl, O1⟩
      · have hc' : N ≤ 5000 := by omega
        by_cases hf0 : fuse < 0
        · go_wp2_with (go_at_call 8; refine (known_any w HT.out).mono ?_; rintro e w1 ⟨rfl, O1⟩)
          go_ret
          exact ⟨rfl, O1⟩
        by_cases hf1 : 1000 < fuse
        · go_wp2_with (go_at_call 8; refine (known_any w HT.out).mono ?_; rintro e w1 ⟨rfl, O1⟩)
          go_ret
          exact ⟨rfl, O1⟩
        obtain ⟨n, rfl⟩ : ∃ n, n = k := ⟨_, rfl⟩
        have hk1 : n ≤ 1000 := by have := HN.out; omega
        have HB : Hid (∀ q (h : q < ls.length), (ls[q]'h).length ≤ 5000) := fun q h => by
          have h1 := catLen_succ ls q h
          have h2 := catLen_le ls (q + 1)
          have h4 := catLen_all ls (k := n) (by rw [HLs.out]; omega)
          have h3 := HN.out
          omega
        obtain ⟨S0, hS0⟩ : ∃ S0 : St, S0 = ⟨1048576, [], none⟩ := ⟨_, rfl⟩
        obtain ⟨S1, hS1⟩ : ∃ S1 : St, S1 = fuseS S0 fuse := ⟨_, rfl⟩
        have HG0 : Hid (get S1.fs nameF = lastF ls 0) := by show _ = _; rw [hS1, hS0]; rfl
        have HNEW := Lib.hid (new_any (w := w) 1048576 (by omega))
        rw [← hS0] at HNEW
        have HFU := Lib.hid (fun (W : World) (d : Nat) (F : List Nat) (D : Disk W d F S0) => fuse_any D fuse hfu)
        rw [← hS1] at HFU
        clear hS0 hS1
        go_wp2_with (first
          | (go_at_call 20; refine (HFU.out _ d [d] D1).mono ?_; clear HFU; rintro e w2 ⟨rfl, F2, D2, O2, B2⟩; have Q2 := O1.fresh O2 P1; have P2 := fresh_fp O1 P1 B2)
          | (go_at_call 9; refine HNEW.out.mono ?_; clear HNEW; rintro e w1 ⟨d, rfl, D1, O1, hd⟩; have P1 : ∀ x ∈ [d], w.heap.size ≤ x := (fun x hx => by simp at hx; rw [hx]; exact hd)))
        clear D1 O1 P1 O2 B2
        go_loopw [11, 12] (fun x i wr => ∃ (j : Nat) (X : Int) (F : List Nat) (S : St), j ≤ n ∧ i = .int .i64 j ∧ x = .int .i64 X ∧ X = (j : Int) - 1 ∧ Disk wr d F S ∧ Hid (get S.fs nameF = lastF ls j) ∧ Only [] w wr ∧ ∀ x ∈ F, w.heap.size ≤ x) (fun _ i _ => n - (intOf i).toNat)
        case atStart => exact ⟨0, -1, F2, S1, Nat.zero_le _, rfl, rfl, rfl, D2, HG0, Q2, P2⟩
        case round =>
          obtain ⟨j, X, F, S, hj, rfl, rfl, hX, D3, HG, Q3, P3⟩ := hrel
          clear HG0 D2 Q2 P2
          have HX := Lib.hid hX
          clear hX
          by_cases hlt2 : j < n
          · have hjl : j < ls.length := by rw [HLs.out]; exact hlt2
            obtain ⟨ad, Ai, ci, rfl, hcell, hsl⟩ := (hr.keep Q3).at_ hlt2 hjl
            obtain ⟨row, hrow⟩ : ∃ row, row = ls[j]'hjl := ⟨_, rfl⟩
            have hrl : row.length ≤ 5000 := by rw [hrow]; exact HB.out j hjl
            rw [← hrow] at hcell hsl
            have HSV := Lib.hid (save_any (D3.keep ((Only.refl [] wr).alloc (.cells #[.slice Ai row.length ci] 32))) nameF (some ⟨wr.heap.size, 0, none⟩) 1 1 [row] row (by simp) (rw_one_at hsl _ rfl) (HT.out.keep (Q3.alloc _)) (by omega) (by omega))
            by_cases hs : saveE S nameF row = 0
            · have hg := get_save hs
              rw [hs] at HSV
              have HG' : Hid (get (saveS S nameF row).fs nameF = lastF ls (j + 1)) := by show _ = _; rw [hg, hrow]; exact (lastF_succ hjl).symm
              obtain ⟨S', hS'⟩ : ∃ S', S' = saveS S nameF row := ⟨_, rfl⟩
              rw [← hS'] at HSV HG'
              obtain ⟨m, hm⟩ : ∃ m, m = row.length := ⟨_, rfl⟩
              rw [← hm] at hcell hsl HSV hrl
              clear hg hS' hs hrow hm
              go_wp2_with (go_at_call 11; refine HSV.out.mono ?_; clear HSV; rintro e w4 hD4; obtain ⟨rfl, F4, D4, O4, B4⟩ := hD4.back ((Only.refl [] wr).alloc _); have Q4 := Q3.fresh O4 P3; have P4 := fresh_fp Q3 P3 B4)
              go_roundw
              case rel => exact ⟨j + 1, (j : Int), F4, S', by omega, by go_num, rfl, by omega, D4, HG', Q4, P4⟩
              case measure => simp [intOf]; omega
            · have hg := get_save_err hs
              have HG' : Hid (get (saveS S nameF row).fs nameF = lastF ls j) := by show _ = _; rw [hg]; exact HG.out
              obtain ⟨S', hS'⟩ : ∃ S', S' = saveS S nameF row := ⟨_, rfl⟩
              obtain ⟨x, hx, hx0⟩ : ∃ x : Int, x = (saveE S nameF row : Nat) ∧ x ≠ 0 := ⟨_, rfl, by omega⟩
              rw [← hS', ← hx] at HSV
              rw [← hS'] at HG'
              obtain ⟨m, hm⟩ : ∃ m, m = row.length := ⟨_, rfl⟩
              rw [← hm] at hcell hsl HSV hrl
              clear hg hS' hs hrow hm hx HG
              go_wp2_with (go_at_call 11; refine HSV.out.mono ?_; clear HSV; rintro e w4 hD4; obtain ⟨rfl, F4, D4, O4, B4⟩ := hD4.back ((Only.refl [] wr).alloc _); have Q4 := Q3.fresh O4 P3; have P4 := fresh_fp Q3 P3 B4; clear D3)
              by_cases h0 : j = 0
              · have hX0 : X < 0 := by have := HX.out; omega
                have hg : get S'.fs nameF = none := by rw [HG'.out, h0]; rfl
                have hc := get_crash_none (draw := draw) hg
                obtain ⟨l1, l2⟩ := load_none hc
                have HL := Lib.hid (fun (W : World) (F : List Nat) (D : Disk W d F (crashS S' draw)) (ht : Tab W) => load_any D nameF (by decide) ht)
                rw [l1, l2] at HL
                clear hg hc l1 l2 h0
                go_wp2_with (first
                  | (go_at_call 8; refine (known_any w6 (HT.out.keep Q6)).mono ?_; rintro e w9 ⟨rfl, O9⟩)
                  | (go_at_call 13; refine (HL.out _ F5 D5 (HT.out.keep Q5)).mono ?_; clear HL; rintro e w6 ⟨A6, c6, rfl, V6, O6, B6⟩; have Q6 := Q5.then O6)
                  | (go_at_call 18; refine (crash_any D4 draw hdraw).mono ?_; rintro e w5 ⟨rfl, F5, D5, O5, B5⟩; have Q5 := Q4.fresh O5 P4; clear D4))
                go_ret
                exact ⟨rfl, Q6.then O9⟩
              · obtain ⟨q, hq⟩ : ∃ q, j = q + 1 := ⟨j - 1, by omega⟩
                obtain rfl : X = (q : Int) := by have := HX.out; omega
                have hqn : q < n := by omega
                have hql : q < ls.length := by rw [HLs.out]; exact hqn
                have hn0 : (0 : Int) < (n : Int) := by omega
                have hqi : (q : Int) < (n : Int) := by omega
                have hX0 : (0 : Int) ≤ (q : Int) := by omega
                obtain ⟨row2, hrow2⟩ : ∃ row2, row2 = ls[q]'hql := ⟨_, rfl⟩
                have hg : get S'.fs nameF = some ⟨nameF, record row2, (record row2).length⟩ := by rw [HG'.out, hq, hrow2]; exact lastF_succ hql
                have hrl : row2.length ≤ 5000 := by rw [hrow2]; exact HB.out q hql
                have hc := get_crash (draw := draw) hg rfl
                obtain ⟨l1, l2⟩ := load_saved hc (by omega)
                have HL := Lib.hid (fun (W : World) (F : List Nat) (D : Disk W d F (crashS S' draw)) (ht : Tab W) => load_any D nameF (by decide) ht)
                rw [l1, l2] at HL
                obtain ⟨m2, hm2⟩ : ∃ m2, m2 = row2.length := ⟨_, rfl⟩
                rw [← hm2] at hrl
                have HR2 := Lib.hid (fun (W : World) (o : Only [] w W) => (hr.keep o).at_ hqn hql)
                rw [← hrow2, ← hm2] at HR2
                have HM2 := Lib.hid hm2
                clear hg hc l1 l2 h0 hrow2 hm2 hq
                go_wp2_with (first
                  | (go_at_call 8; refine (known_any w8 (HT.out.keep Q8)).mono ?_; rintro e w9 ⟨rfl, O9⟩)
                  | (go_at_call 15; refine (same_eq A6 Aq m2 c6 m2 cq row2 row2 _ rfl V6.sl hslq (by omega)).mono ?_; rintro e w8 ⟨rfl, O8⟩; have Q8 := Q6.then O8)
                  | (go_at_call 13; refine (HL.out _ F5 D5 (HT.out.keep Q5)).mono ?_; clear HL; rintro e w6 ⟨A6, c6, rfl, V6, O6, B6⟩; have Q6 := Q5.then O6; rw [← HM2.out] at V6 ⊢; obtain ⟨adq, Aq, cq, hAq, hcq, hslq⟩ := HR2.out w6 Q6; cases hAq)
                  | (go_at_call 18; refine (crash_any D4 draw hdraw).mono ?_; rintro e w5 ⟨rfl, F5, D5, O5, B5⟩; have Q5 := Q4.fresh O5 P4; clear D4))
                go_ret
                exact ⟨rfl, Q8.then O9⟩
          · have hjn : j = n := by omega
            have hlt3 : (n : Int) ≤ (j : Int) := by omega
            have HJN := Lib.hid hjn
            clear hjn
            by_cases h0 : j = 0
            · have hX0 : X < 0 := by have := HX.out; omega
              have hg : get S.fs nameF = none := by rw [HG.out, h0]; rfl
              have hc := get_crash_none (draw := draw) hg
              obtain ⟨l1, l2⟩ := load_none hc
              have HL := Lib.hid (fun (W : World) (F : List Nat) (D : Disk W d F (crashS S draw)) (ht : Tab W) => load_any D nameF (by decide) ht)
              rw [l1, l2] at HL
              clear hg hc l1 l2 h0
              go_wp2_with (first
                | (go_at_call 8; refine (known_any w6 (HT.out.keep Q6)).mono ?_; rintro e w9 ⟨rfl, O9⟩)
                | (go_at_call 13; refine (HL.out _ F5 D5 (HT.out.keep Q5)).mono ?_; clear HL; rintro e w6 ⟨A6, c6, rfl, V6, O6, B6⟩; have Q6 := Q5.then O6)
                | (go_at_call 18; refine (crash_any D3 draw hdraw).mono ?_; rintro e w5 ⟨rfl, F5, D5, O5, B5⟩; have Q5 := Q3.fresh O5 P3; clear D3))
              go_ret
              exact ⟨rfl, Q6.then O9⟩
            · obtain ⟨q, hq⟩ : ∃ q, j = q + 1 := ⟨j - 1, by omega⟩
              obtain rfl : X = (q : Int) := by have := HX.out; omega
              have hqn : q < n := by have := HJN.out; omega
              have hql : q < ls.length := by rw [HLs.out]; exact hqn
              have hn0 : (0 : Int) < (n : Int) := by omega
              have hqi : (q : Int) < (n : Int) := by omega
              have hX0 : (0 : Int) ≤ (q : Int) := by omega
              obtain ⟨row2, hrow2⟩ : ∃ row2, row2 = ls[q]'hql := ⟨_, rfl⟩
              have hg : get S.fs nameF = some ⟨nameF, record row2, (record row2).length⟩ := by rw [HG.out, hq, hrow2]; exact lastF_succ hql
              have hrl : row2.length ≤ 5000 := by rw [hrow2]; exact HB.out q hql
              have hc := get_crash (draw := draw) hg rfl
              obtain ⟨l1, l2⟩ := load_saved hc (by omega)
              have HL := Lib.hid (fun (W : World) (F : List Nat) (D : Disk W d F (crashS S draw)) (ht : Tab W) => load_any D nameF (by decide) ht)
              rw [l1, l2] at HL
              obtain ⟨m2, hm2⟩ : ∃ m2, m2 = row2.length := ⟨_, rfl⟩
              rw [← hm2] at hrl
              have HR2 := Lib.hid (fun (W : World) (o : Only [] w W) => (hr.keep o).at_ hqn hql)
              rw [← hrow2, ← hm2] at HR2
              have HM2 := Lib.hid hm2
              clear hg hc l1 l2 h0 hrow2 hm2 hq
              go_wp2_with (first
                | (go_at_call 8; refine (known_any w8 (HT.out.keep Q8)).mono ?_; rintro e w9 ⟨rfl, O9⟩)
                | (go_at_call 15; refine (same_eq A6 Aq m2 c6 m2 cq row2 row2 _ rfl V6.sl hslq (by omega)).mono ?_; rintro e w8 ⟨rfl, O8⟩; have Q8 := Q6.then O8)
                | (go_at_call 13; refine (HL.out _ F5 D5 (HT.out.keep Q5)).mono ?_; clear HL; rintro e w6 ⟨A6, c6, rfl, V6, O6, B6⟩; have Q6 := Q5.then O6; rw [← HM2.out] at V6 ⊢; obtain ⟨adq, Aq, cq, hAq, hcq, hslq⟩ := HR2.out w6 Q6; cases hAq)
                | (go_at_call 18; refine (crash_any D3 draw hdraw).mono ?_; rintro e w5 ⟨rfl, F5, D5, O5, B5⟩; have Q5 := Q3.fresh O5 P3; clear D3))
              go_ret
              exact ⟨rfl, Q8.then O9⟩
end Go.Proofs.YtmommkggjiillaaDoor
