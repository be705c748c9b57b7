/-
  The walk of the law LockPlays.
-/
import Derived.Test.YtmjkdfneohpbjaaQPlayM
import Derived.Deep.RegionHeld3
import Derived.Deep.QuietTactic
import Derived.BigQuiet
namespace Go.Proofs.Ytmjkdfneohpbjaa
open Go.RowKit Go.Maps

set_option maxRecDepth 100000 in
set_option maxHeartbeats 16000000 in
theorem lockplays_any (A : Option Addr) (n c : Nat) (l : List QAct) (w : World) (hl : ActsQ w A n l) (hb : ∀ a ∈ l, a.user.size ≤ 140737488351232) (hn : n ≤ 4611686018427387904) :
    Calls Try.prog 3 #[.slice A n c] w fun e w' => e = .returned (.bool true) ∧ Only [] w w' := by
  have HLONG := Lib.hid (long_q A n c l w hl hb hn)
  have HLL := Lib.hid hl.1
  have HA := Lib.hid hl
  have HB := Lib.hid hb
  clear hl hb
  go_enter Try.func3, Try.ntmps3
  go_wp2_with (first
    | (go_at_call 8; (with_reducible refine (lo_new w).mono ?_); rintro e w1 ⟨g, rfl, L1⟩)
    | (go_at_call 7; (with_reducible refine HLONG.out.mono ?_); clear HLONG; rintro e w0 ⟨B, rfl, rfl, hfair⟩; cases B))
  · have HF := Lib.hid (hfair (by first | rfl | trivial))
    clear hfair
    have HJ0 : Hid (Both w (w1.alloc (.cells #[.slice none 0 0, .slice none 0 0] 30)) g w1.heap.size [] []) := by
      obtain ⟨F, h1, h2, h3⟩ := L1
      exact both_new h1 h2 h3
    generalize w1.heap.size = g2 at HJ0 ⊢
    generalize w1.alloc (.cells #[.slice none 0 0, .slice none 0 0] 30) = w2 at HJ0 ⊢
    clear L1
    go_loopw [5] (fun i wr => ∃ (k : Nat) (h : List Hd) (ds : List Du), k ≤ n ∧ k ≤ 100 ∧ i = .int .i64 (k : Int) ∧ h.length ≤ k ∧ ds.length ≤ k ∧ Hid (Both w wr g g2 h ds)) (fun i _ => n - (intOf i).toNat)
    case atStart => exact ⟨0, [], [], Nat.zero_le _, by omega, rfl, Nat.le_refl _, Nat.le_refl _, HJ0.out⟩
    case round =>
      obtain ⟨k, h, ds, hk, hk1, rfl, hhk, hdk, HJ⟩ := hrel
      by_cases hlt : k < n ∧ k < 100
      · obtain ⟨hkn, hk100⟩ := hlt
        have h1 : (k : Int) < (n : Int) := by omega
        have h2 : (k : Int) < 100 := by omega
        have hkl : k < l.length := by rw [HLL.out]; exact hkn
        have hQ : Only [] w wr := by
          obtain ⟨_, _, _, _, _, hq, _⟩ := HJ.out
          exact hq
        obtain ⟨ad, rfl, c0, c1, c2, c3, c4, hwf⟩ := (HA.out.keep hQ).at_ k hkl
        have hub : l[k].user.size ≤ 140737488351232 := HB.out _ (List.getElem_mem hkl)
        have hfr : l[k].fair := HF.out k _ hk100 (List.getElem?_eq_getElem hkl)
        have hwf2 : -9223372036854775808 ≤ l[k].conn ∧ l[k].conn ≤ 9223372036854775807 := hwf
        have hfr2 : 0 ≤ l[k].now ∧ l[k].now ≤ 1099511627776 ∧ 0 ≤ l[k].lim ∧ l[k].lim ≤ 1099511627776 := hfr
        clear hwf hfr
        generalize l[k].kind = K at c0
        generalize l[k].user = u at c1 hub
        generalize l[k].conn = cn at c2 hwf2
        generalize l[k].now = N at c3 hfr2
        generalize l[k].lim = M at c4 hfr2
        obtain ⟨f1, f2, f3, f4⟩ := hfr2
        have hN : 0 ≤ N ∧ N ≤ 1099511627776 := ⟨f1, f2⟩
        have hM : 0 ≤ M ∧ M ≤ 1099511627776 := ⟨f3, f4⟩
        have HWF := Lib.hid hwf2
        have HHN := Lib.hid hN
        have HHM := Lib.hid hM
        clear f1 f2 f3 f4 hwf2 hN hM
        obtain ⟨F1, F2, hs, hPB, hperm⟩ := HJ.out.act #[.int .i64 K, .string u, .int .i64 cn, .int .i64 N, .int .i64 M]
        have hus : u.size ≤ 281474976710656 := by omega
        have HPB := Lib.hid hPB
        have HPE := Lib.hid hperm
        have HRI := Lib.hid hPB.L.rise
        have hsl : hs.length ≤ k := by rw [hperm.length_eq]; exact hhk
        clear hPB hperm hQ
        by_cases hK1 : K = 1
        · subst hK1
          have HLE : Hid ((takeL h u cn).length ≤ k + 1) := by show _ ≤ _; have := length_takeL h u cn; omega
          have HPN := Lib.hid (perm_take HRI.out HPE.out u cn)
          obtain ⟨q, hq⟩ : ∃ q, takeB h u cn = q := ⟨_, rfl⟩
          have HQ := Lib.hid hq
          have HTB := Lib.hid ((perm_takeB HRI.out HPE.out u cn).trans hq)
          have hqq : (q != q) = false := by cases q <;> rfl
          have hgl := HPB.out.A.lt
          rw [World.size_alloc] at hgl
          clear hq
          go_wp2_with fail
          go_region_held3 (fun w' => w'.cell? ⟨wr.heap.size, 1, none⟩ = some (.string u) ∧ w'.cell? ⟨wr.heap.size, 2, none⟩ = some (.int .i64 cn)) (first | go_keep | exact ⟨a31, a32⟩ | exact ⟨a41, a42⟩)
            (first
              | (go_at_call 9; (with_reducible refine (take_lockb (HPB.out.keep ((Only.refl [] _).drew)).L u hus cn (by omega) HQ.out).mono ?_); intro e w3 hr3; obtain ⟨rfl, F3, HB3⟩ := (HPB.out.keep ((Only.refl [] _).drew)).stepL hr3; clear hr3; have a31 : w3.cell? ⟨wr.heap.size, 1, none⟩ = some (.string u) := (by rw [HB3.A.cell]; rfl); have a32 : w3.cell? ⟨wr.heap.size, 2, none⟩ = some (.int .i64 cn) := (by rw [HB3.A.cell]; rfl))
              | (go_at_call 10; (with_reducible refine (rtake_lockb HB3.R u cn (by omega) HTB.out).mono ?_); intro e w4 hr4; obtain ⟨rfl, F4, HB4⟩ := HB3.stepR hr4; clear hr4; have a41 : w4.cell? ⟨wr.heap.size, 1, none⟩ = some (.string u) := (by rw [HB4.A.cell]; rfl); have a42 : w4.cell? ⟨wr.heap.size, 2, none⟩ = some (.int .i64 cn) := (by rw [HB4.A.cell]; rfl)))
          have HFN := Lib.hid (HB4.both HPN.out)
          clear HB3 HB4 a31 a32 a41 a42
          go_wp2
          go_roundw
          case rel => exact ⟨k + 1, _, ds, by omega, by omega, by go_num, HLE.out, by omega, HFN.out⟩
          case measure => simp [intOf]; omega
        have hK1b : (K == 1) = false := by simpa using hK1
        by_cases hK2 : K = 2
        · subst hK2
          have HPN := Lib.hid (perm_free HPE.out cn)
          go_wp2_with (first
            | (go_at_call 11; (with_reducible refine (free_lock HPB.out.L cn).mono ?_); intro e w3 hr3; obtain ⟨rfl, F3, HB3⟩ := HPB.out.stepL hr3; clear hr3; have a32 : w3.cell? ⟨wr.heap.size, 2, none⟩ = some (.int .i64 cn) := (by rw [HB3.A.cell]; rfl))
            | (go_at_call 12; (with_reducible refine (rfree_lock HB3.R cn (by omega)).mono ?_); intro e w4 hr4; obtain ⟨rfl, F4, HB4⟩ := HB3.stepR hr4; have HFN := Lib.hid (HB4.both HPN.out); clear hr4 HB3 HB4)
            | go_in)
          go_roundw
          case rel => exact ⟨k + 1, freeL h cn, ds, by omega, by omega, by go_num, (by have := length_freeL h cn; omega), by omega, HFN.out⟩
          case measure => simp [intOf]; omega
        have hK2b : (K == 2) = false := by simpa using hK2
        by_cases hK3 : K = 3
        · subst hK3
          go_wp2_with (first
            | (go_at_call 13; (with_reducible refine (touch_lock HPB.out.L HWF.out HHN.out HHM.out (by omega)).mono ?_); intro e w3 hr3; obtain ⟨rfl, F3, HB3⟩ := HPB.out.stepL hr3; clear hr3; have a32 : w3.cell? ⟨wr.heap.size, 2, none⟩ = some (.int .i64 cn) := (by rw [HB3.A.cell]; rfl); have a33 : w3.cell? ⟨wr.heap.size, 3, none⟩ = some (.int .i64 N) := (by rw [HB3.A.cell]; rfl); have a34 : w3.cell? ⟨wr.heap.size, 4, none⟩ = some (.int .i64 M) := (by rw [HB3.A.cell]; rfl))
            | (go_at_call 14; (with_reducible refine (rtouch_lock HB3.R HHN.out HHM.out (by omega)).mono ?_); intro e w4 hr4; obtain ⟨rfl, F4, HB4⟩ := HB3.stepR hr4; have HFN := Lib.hid (HB4.both HPE.out); clear hr4 HB3 HB4)
            | go_in)
          go_roundw
          case rel => exact ⟨k + 1, h, _, by omega, by omega, by go_num, by omega, (by have := length_putI (cn, N + M) ds; omega), HFN.out⟩
          case measure => simp [intOf]; omega
        have hK3b : (K == 3) = false := by simpa using hK3
        by_cases hK4 : K = 4
        · subst hK4
          go_wp2_with (first
            | (go_at_call 15; (with_reducible refine (forget_lock HPB.out.L HWF.out).mono ?_); intro e w3 hr3; obtain ⟨rfl, F3, HB3⟩ := HPB.out.stepL hr3; clear hr3; have a32 : w3.cell? ⟨wr.heap.size, 2, none⟩ = some (.int .i64 cn) := (by rw [HB3.A.cell]; rfl))
            | (go_at_call 16; (with_reducible refine (rforget_lock HB3.R cn (by omega)).mono ?_); intro e w4 hr4; obtain ⟨rfl, F4, HB4⟩ := HB3.stepR hr4; have HFN := Lib.hid (HB4.both HPE.out); clear hr4 HB3 HB4)
            | go_in)
          go_roundw
          case rel => exact ⟨k + 1, h, _, by omega, by omega, by go_num, by omega, (by have := length_delI ds cn; omega), HFN.out⟩
          case measure => simp [intOf]; omega
        have hK4b : (K == 4) = false := by simpa using hK4
        by_cases hK5 : K = 5
        · subst hK5
          obtain ⟨q, hq⟩ : ∃ q, (dueL ds N).length = q := ⟨_, rfl⟩
          have HQ := Lib.hid hq
          have hq100 : q ≤ 100 := by have := length_dueL ds N; omega
          have hgl := HPB.out.A.lt
          rw [World.size_alloc] at hgl
          obtain ⟨cs, hcs⟩ : ∃ cs, dueL ds N = cs := ⟨_, rfl⟩
          have HCS := Lib.hid hcs
          clear hq hcs
          go_wp2_with fail
          go_region_held3 (fun w' => w'.cell? ⟨wr.heap.size, 3, none⟩ = some (.int .i64 N)) (first | go_keep | exact a33 | exact a43)
            (first
              | (go_at_call 17; (with_reducible refine (due_lock (HPB.out.keep ((Only.refl [] _).drew)).L N (by omega) HQ.out).mono ?_); rintro e w3 ⟨A3, c3, rfl, V3, O3⟩; have HB3 := (HPB.out.keep ((Only.refl [] _).drew)).keep O3; have a33 : w3.cell? ⟨wr.heap.size, 3, none⟩ = some (.int .i64 N) := (by rw [HB3.A.cell]; rfl))
              | (go_at_call 18; (with_reducible refine (rdue_lock HB3.R N (by omega) HQ.out).mono ?_); rintro e w4 ⟨A4, c4, rfl, V4, O4⟩; have HB4 := HB3.keep O4; have a43 : w4.cell? ⟨wr.heap.size, 3, none⟩ = some (.int .i64 N) := (by rw [HB4.A.cell]; rfl)))
          have HFN := Lib.hid (HB4.both HPE.out)
          have V34 := V3.keep O4
          rw [HCS.out] at V34 V4
          have HLQ : Hid (cs.length = q) := by show _ = _; rw [← HCS.out]; exact HQ.out
          have hqq : (((q : Nat) : Int) != (q : Int)) = false := by simp
          clear HB3 HB4 a33 a43 V3 O3 O4
          go_wp2
          go_loopw [9] (fun i wq => ∃ j : Nat, j ≤ q ∧ i = .int .i64 (j : Int) ∧ Only [] w4 wq) (fun i _ => q - (intOf i).toNat)
          case atStart => exact ⟨0, Nat.zero_le _, rfl, Only.refl _ _⟩
          case round =>
            obtain ⟨j, hj, rfl, OQ⟩ := hrel
            by_cases hjq : j < q
            · have g1 : (j : Int) < (q : Int) := by omega
              have hjl : j < cs.length := by rw [HLQ.out]; exact hjq
              obtain ⟨ad3, u3, rfl, hu3, e3⟩ := (V34.keep OQ).at_ hjq
              obtain ⟨ad4, u4, rfl, hu4, e4⟩ := (V4.keep OQ).at_ hjq
              rw [ivs_get cs j hjl] at hu3 hu4
              injection hu3 with hu3
              injection hu4 with hu4
              subst hu3 hu4
              generalize (cs[j]) = v at e3 e4
              have hvv : (v != v) = false := by simp
              go_wp2
              go_region
              go_wp2
              go_roundw
              case rel => exact ⟨j + 1, by omega, by go_num, OQ.drew⟩
              case measure => simp [intOf]; omega
            · have g1 : ¬ (j : Int) < (q : Int) := by omega
              have HF2 := Lib.hid (HFN.out.keep OQ)
              go_wp2
              go_roundw
              case rel => exact ⟨k + 1, h, ds, by omega, by omega, by go_num, by omega, by omega, HF2.out⟩
              case measure => simp [intOf]; omega
        have hK5b : (K == 5) = false := by simpa using hK5
        have HHO := Lib.hid (perm_hold HRI.out HPE.out u)
        obtain ⟨qv, hqv⟩ : ∃ qv, (holdL h u).getD 0 = qv := ⟨_, rfl⟩
        obtain ⟨qb, hqb⟩ : ∃ qb, (holdL h u).isSome = qb := ⟨_, rfl⟩
        have HL1 := Lib.hid (holder_lock HPB.out.L u hus)
        have HR1 := Lib.hid (rholder_lock HPB.out.R u (by omega))
        rw [HHO.out] at HR1
        rw [hqv, hqb] at HL1 HR1
        have hvv : (qv != qv) = false := by simp
        have hbb : (qb != qb) = false := by cases qb <;> rfl
        have HFN := Lib.hid (HPB.out.both HPE.out)
        clear hqv hqb
        go_wp2_with (first
          | (go_at_call 19; (with_reducible refine HL1.out.mono ?_); rintro e w3 ⟨rfl, rfl⟩)
          | (go_at_call 20; (with_reducible refine HR1.out.mono ?_); rintro e w4 ⟨rfl, rfl⟩)
          | go_in)
        go_roundw
        case rel => exact ⟨k + 1, h, ds, by omega, by omega, by go_num, by omega, by omega, HFN.out⟩
        case measure => simp [intOf]; omega
      · have hlt' : k = 100 ∨ (k = n ∧ ¬ k = 100) := by omega
        rcases hlt' with h | ⟨h, h100⟩
        · subst h
          by_cases hn100 : 100 < n
          · have h1 : (100 : Int) < (n : Int) := by omega
            go_wp2_with (go_at_call 21; (with_reducible refine (lknown_any _).mono ?_); rintro e w7 ⟨rfl, O7⟩)
            go_ret
            obtain ⟨_, _, _, _, _, hq, _⟩ := HJ.out
            exact ⟨rfl, hq.then O7⟩
          · have h1 : ¬ (100 : Int) < (n : Int) := by omega
            go_wp2_with (go_at_call 21; (with_reducible refine (lknown_any _).mono ?_); rintro e w7 ⟨rfl, O7⟩)
            go_ret
            obtain ⟨_, _, _, _, _, hq, _⟩ := HJ.out
            exact ⟨rfl, hq.then O7⟩
        · have h1 : ¬ (k : Int) < (n : Int) := by omega
          go_wp2_with (go_at_call 21; (with_reducible refine (lknown_any _).mono ?_); rintro e w7 ⟨rfl, O7⟩)
          go_ret
          obtain ⟨_, _, _, _, _, hq, _⟩ := HJ.out
          exact ⟨rfl, hq.then O7⟩
  · go_ret
    exact ⟨rfl, Only.refl _ _⟩
end Go.Proofs.Ytmjkdfneohpbjaa
