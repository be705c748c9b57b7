/-
  The walk of the law LockOne.
-/
import Derived.Test.YtmjkdfneohpbjaaQOne
import Derived.Maps.RangeWalk
import Derived.Laws.IdiomRangeMap
namespace Go.Proofs.Ytmjkdfneohpbjaa
open Go.RowKit Go.Maps

theorem free_map {l : List Hd} {c : Int} : Lib.deleteFuncD (frees c) (.map ((kvI l).map entK)) = DK (kvI (freeL l c)) := free_DK l c
set_option maxRecDepth 100000 in
set_option maxHeartbeats 8000000 in
theorem lockone_any (A : Option Addr) (n c : Nat) (l : List QAct) (w : World) (hl : ActsQ w A n l) (hb : ∀ a ∈ l, a.user.size ≤ 140737488351232) (hn : n ≤ 4611686018427387904) :
    Calls Try.prog 4 #[.slice A n c] w fun e w' => e = .returned (.bool true) ∧ Only [] w w' := by
  have HLONG := Lib.hid (long_q A n c l w hl hb hn)
  have HLL := Lib.hid hl.1
  have HA := Lib.hid hl
  have HB := Lib.hid hb
  have hmm := @run_makeMap Try.prog
  clear hl hb
  go_enter Try.func4, Try.ntmps4
  go_wp2_with (first
    | (go_at_call 8; (with_reducible refine (lo_new w).mono ?_); rintro e w1 ⟨g, rfl, L1⟩)
    | (go_at_call 7; (with_reducible refine HLONG.out.mono ?_); clear HLONG; rintro e w0 ⟨B, rfl, rfl, _⟩; cases B))
  · have HJ0 : Hid (One w (w1.alloc (.map #[] 0)) g w1.heap.size []) := by
      obtain ⟨F, h1, h2, h3⟩ := L1
      exact One.begin h1 h2 h3
    generalize hm : w1.heap.size = m at HJ0 ⊢
    generalize w1.alloc (.map #[] 0) = w2 at HJ0 ⊢
    clear L1 hm hmm
    go_loopw [5] (fun i wr => ∃ (k : Nat) (h : List Hd), k ≤ n ∧ k ≤ 100 ∧ i = .int .i64 (k : Int) ∧ h.length ≤ k ∧ Hid (One w wr g m h)) (fun i _ => n - (intOf i).toNat)
    case atStart => exact ⟨0, [], Nat.zero_le _, by omega, rfl, Nat.le_refl _, HJ0.out⟩
    case round =>
      obtain ⟨k, h, hk, hk1, rfl, hhk, HJ⟩ := hrel
      by_cases hlt : k < n ∧ k < 100
      · obtain ⟨hkn, hk100⟩ := hlt
        have h1 : (k : Int) < (n : Int) := by omega
        have h2 : (k : Int) < 100 := by omega
        have hkl : k < l.length := by rw [HLL.out]; exact hkn
        have hQ : Only [] w wr := by
          obtain ⟨_, _, _, hq, _⟩ := HJ.out
          exact hq
        obtain ⟨ad, rfl, c0, c1, c2, c3, c4, _⟩ := (HA.out.keep hQ).at_ k hkl
        have hub : l[k].user.size ≤ 140737488351232 := HB.out _ (List.getElem_mem hkl)
        generalize l[k].kind = K at c0
        generalize l[k].user = u at c1 hub
        generalize l[k].conn = cn at c2
        generalize l[k].now = N at c3
        generalize l[k].lim = M at c4
        obtain ⟨F, hB, hH⟩ := HJ.out.act #[.int .i64 K, .string u, .int .i64 cn, .int .i64 N, .int .i64 M]
        have HBB := Lib.hid hB
        have HHH := Lib.hid hH
        clear hB hH
        by_cases hK : K = 2
        · subst hK
          have HC := Lib.hid (free_lock HBB.out.L cn)
          go_wp2_with (first
            | (go_at_call 11; (with_reducible refine HC.out.mono ?_); clear HC; intro e w3 hr3; obtain ⟨rfl, F3, HB3, HH3⟩ := HBB.out.step HHH.out hr3; clear hr3)
            | (at_range; refine wpList_range_own _ rfl _ 41 rfl 9 3 keyed Try.underlying41 (heldP isI) m (kvI h).length (DK (kvI h)) rfl HH3 ?_; intro w4 hrg4 hg4 hs4)
            | go_in)
          have HIT : Hid (w3.heap.size ∉ F3 ∧ w3.heap.size ≠ wr.heap.size ∧ w.heap.size ≤ w3.heap.size ∧ m ≠ w3.heap.size) := by
            have hlt := HB3.L.lt
            exact ⟨fun hm => by have := hlt _ hm; omega, fun e => by have := HB3.A.lt; omega, HB3.Q.size, fun e => by have := KvAt.lt HH3; omega⟩
          have HEN := Lib.hid (hv_entries HH3)
          have HST := Lib.hid (free_fk HH3 cn)
          have hB4 : OneB w w4 g m F3 wr.heap.size #[.int .i64 2, .string u, .int .i64 cn, .int .i64 N, .int .i64 M] (freeL h cn) := HB3.only (Only.of_grown hg4) (fun x hx => by simp at hx)
          have HB4 := Lib.hid hB4
          clear HB3 HH3 hB4 HBB HHH
          go_frame
          clear c0 c1 c2 c3 c4 hQ
          generalize wr.heap.size = p at *
          go_loopw [7] (fun _ wq => ∃ (left : Lit → Bool) (cnt : Nat), wq.ranges Try.prog 9 (heldP isI) m w3.heap.size (kvI h).length (Fk (frees cn) ((kvI h).map entK) left) left cnt ∧ Hid (OneB w wq g m F3 p #[.int .i64 2, .string u, .int .i64 cn, .int .i64 N, .int .i64 M] (freeL h cn)))
            (fun _ wq => wq.rangeLeft m w3.heap.size)
          case atStart => exact ⟨_, _, by rw [HST.out]; exact hrg4, HB4⟩
          case round =>
            obtain ⟨left, cnt, hrg, HBq⟩ := hrel
            go_wp2_with (first
              | (at_next; refine wpList_next_ranges _ rfl _ rfl 9 keyed (heldP isI) id (Value.int .i64) (fun key _ _ => ⟨key, rfl⟩) (fun v y hv => by obtain ⟨hp, _⟩ := heldP_inv hv; exact isI_inv hp) m w3.heap.size (kvI h).length _ _ _ rfl hrg ?_ ?_)
              | go_in)
            · intro hc0 hl0
              have HFN : Hid (One w wr g m (freeL h cn)) := by
                have := hrg.owns
                rw [Fk_end hl0, free_map] at this
                exact HBq.out.one (KvAt.of this)
              clear hrg HBq HB4
              go_wp2
              go_roundw
              case rel => exact ⟨k + 1, freeL h cn, by omega, by omega, by go_num, by have := length_freeL h cn; omega, HFN.out⟩
              case measure => simp [intOf]; omega
            · intro x v kl yd yp w5 cnt1 hkey hlx hv hat hrg1 hlt hg1 hs1 hen
              obtain ⟨_, hy⟩ := heldP_inv hv
              obtain rfl : yd = .held (.int .i64 v) := congrArg Prod.fst hy
              have HKY := Lib.hid (keyed.key hkey)
              have HHK := Lib.hid hkey
              have HLT := Lib.hid hlt
              have hB5 : OneB w w5 g m F3 p #[.int .i64 2, .string u, .int .i64 cn, .int .i64 N, .int .i64 M] (freeL h cn) := HBq.out.only (Only.of_grown hg1) (fun x hx => by
                simp at hx
                subst hx
                have := HIT.out
                exact ⟨this.1, this.2.1, this.2.2.1⟩)
              have a2 : w5.cell? ⟨p, 2, none⟩ = some (.int .i64 cn) := by rw [hB5.A.cell]; rfl
              have HB5 := Lib.hid hB5
              have HAT := Lib.hid hat
              clear hB5 hv hlt hg1 hs1 hat hkey hrg4 hg4 hs4
              by_cases hvc : v = cn
              · subst hvc
                go_wp2_with (first
                  | (at_delete; refine wpList_delete_ranges _ rfl _ _ 41 9 rfl 3 keyed Try.underlying41 (heldP isI) m w3.heap.size (kvI h).length _ _ _ rfl hrg1 _ _ rfl HHK.out ?_; intro w6 cnt6 hrg6 hle hturn; go_frame)
                  | go_in)
                rw [strike_twice] at hrg6
                go_roundw
                case rel => exact ⟨_, cnt6, by rw [← Fk_struck HEN.out.1 HKY.out hlx (frees_same v kl) HAT.out]; exact hrg6, HB5.out.only (Only.of_turned hturn) (fun x hx => by
                  simp at hx
                  subst hx
                  exact ⟨HB5.out.nm, HB5.out.mp, HB5.out.pm⟩)⟩
                case measure => rw [hrg6.left_eq, hrg.left_eq]; have := HLT.out; omega
              · have hvb : (v == cn) = false := by simpa using hvc
                go_wp2
                go_roundw
                case rel => exact ⟨_, cnt1, by rw [← Fk_stays HEN.out.1 HKY.out hlx (frees_not kl hvc) HAT.out]; exact hrg1, HB5⟩
                case measure => rw [hrg1.left_eq, hrg.left_eq]; exact HLT.out
        · have hKb : (K == 2) = false := by simpa using hK
          have hus : u.size ≤ 281474976710656 := by omega
          have hkey := key_of u (by unfold maxLen; omega)
          have hlk := look_hv Try.underlying41 zeroI HHH.out (s := u) (mb := some m) (by unfold maxLen; omega)
          cases hh : holdL h u with
          | some d =>
            rw [hh] at hlk
            simp only [Option.getD_some, Option.isSome_some] at hlk
            have hTL : takeL h u cn = h := by unfold takeL; rw [hh]
            obtain ⟨q, hq⟩ : ∃ q, q = decide (d = cn) := ⟨_, rfl⟩
            have hTB : takeB h u cn = q := by unfold takeB; rw [hh, hq]
            have hdq : (d == cn) = q := by rw [hq]; by_cases e : d = cn <;> simp [e]
            have HC := take_lock HBB.out.L u hus cn (by omega)
            rw [hTB, hTL] at HC
            have HCC := Lib.hid HC
            have HHO := Lib.hid hh
            have hqq : (q != q) = false := by cases q <;> rfl
            have hdd : (d != d) = false := by simp
            clear HC hTL hTB hq hh hQ
            go_wp2_with (first
              | (go_at_call 9; (with_reducible refine HCC.out.mono ?_); clear HCC; intro e w3 hr3; obtain ⟨rfl, F3, HB3, HH3⟩ := HBB.out.step HHH.out hr3; clear hr3; have a1 : w3.cell? ⟨wr.heap.size, 1, none⟩ = some (.string u) := (by rw [HB3.A.cell]; rfl); have a2 : w3.cell? ⟨wr.heap.size, 2, none⟩ = some (.int .i64 cn) := (by rw [HB3.A.cell]; rfl); have HHC := holder_lock HB3.L u hus; rw [HHO.out] at HHC; have hlk3 := look_hv1 Try.underlying41 zeroI HH3 (s := u) (mb := some m) (by unfold maxLen; omega); rw [HHO.out] at hlk3; simp only [Option.getD_some, Option.isSome_some] at hlk3 HHC; have HFN := Lib.hid (HB3.one HH3); clear HB3 HH3 HBB HHH hlk)
              | (go_at_call 19; (with_reducible refine HHC.mono ?_); clear HHC; rintro e w4 ⟨rfl, rfl⟩)
              | go_in)
            go_roundw
            case rel => exact ⟨k + 1, h, by omega, by omega, by go_num, by omega, HFN.out⟩
            case measure => simp [intOf]; omega
          | none =>
            rw [hh] at hlk
            simp only [Option.getD_none, Option.isSome_none] at hlk
            have hTL : takeL h u cn = putL Prod.fst (u, cn) h := by unfold takeL; rw [hh]
            have hTB : takeB h u cn = true := by unfold takeB; rw [hh]
            have HC := take_lock HBB.out.L u hus cn (by omega)
            rw [hTB, hTL] at HC
            have HCC := Lib.hid HC
            have HN : Hid (holdL (putL Prod.fst (u, cn) h) u = some cn) := by show _ = _; unfold holdL; rw [findL_put (key := Prod.fst) (u, cn) h]; rfl
            have HP : Hid ((DK (kvI h)).put (keyLit u) (.held (.int .i64 cn)) = DK (kvI (putL Prod.fst (u, cn) h))) := (put_DK (u, Value.int .i64 cn) (kvI h)).trans (by rw [put_kvI (u, cn) h])
            have HLN : Hid ((kvI h).length + 1 ≤ maxLen) := by show _ ≤ _; unfold kvI maxLen; rw [List.length_map]; omega
            have HL2 : Hid ((putL Prod.fst (u, cn) h).length ≤ k + 1) := by show _ ≤ _; have := length_putL (key := Prod.fst) (x := (u, cn)) (l := h); omega
            have hc0 : heldP isI (.int .i64 cn) = some (.held (.int .i64 cn), []) := heldP_mk rfl
            have hdd : (cn != cn) = false := by simp
            clear HC hTL hTB hh hQ
            go_wp2_with (first
              | (go_at_call 9; (with_reducible refine HCC.out.mono ?_); clear HCC; intro e w3 hr3; obtain ⟨rfl, F3, HB3, HH3⟩ := HBB.out.step HHH.out hr3; clear hr3; have a1 : w3.cell? ⟨wr.heap.size, 1, none⟩ = some (.string u) := (by rw [HB3.A.cell]; rfl); have a2 : w3.cell? ⟨wr.heap.size, 2, none⟩ = some (.int .i64 cn) := (by rw [HB3.A.cell]; rfl); clear HBB HHH hlk)
              | (at_mapUpdate; refine wpList_mapUpdate_own _ rfl _ _ _ 41 rfl 9 3 keyed Try.underlying41 (heldP isI) m (kvI h).length (DK (kvI h)) rfl HH3 HLN.out _ _ (keyLit u) rfl rfl hkey (.held (.int .i64 cn)) [] hc0 ?_; intro w4 hout4 hg4; rw [HP.out] at hout4; have HB4 := HB3.only (Only.of_grown hg4) (fun x hx => by
                  simp at hx
                  subst hx
                  exact ⟨HB3.nm, HB3.mp, HB3.pm⟩); have HH4 : HvAt w4 m (putL Prod.fst (u, cn) h) := KvAt.of hout4; have b1 : w4.cell? ⟨wr.heap.size, 1, none⟩ = some (.string u) := (by rw [HB4.A.cell]; rfl); have HHC := holder_lock HB4.L u hus; rw [HN.out] at HHC; have hlk4 := look_hv1 Try.underlying41 zeroI HH4 (s := u) (mb := some m) (by unfold maxLen; omega); rw [HN.out] at hlk4; simp only [Option.getD_some, Option.isSome_some] at hlk4 HHC; have HFN := Lib.hid (HB4.one HH4); clear HB4 HH4 HB3 HH3 hout4 hg4; go_frame)
              | (go_at_call 19; (with_reducible refine HHC.mono ?_); clear HHC; rintro e w5 ⟨rfl, rfl⟩)
              | go_in)
            go_roundw
            case rel => exact ⟨k + 1, _, by omega, by omega, by go_num, HL2.out, HFN.out⟩
            case measure => simp [intOf]; omega
      · have hlt' : k = 100 ∨ (k = n ∧ ¬ k = 100) := by omega
        rcases hlt' with h | ⟨h, h100⟩
        · subst h
          by_cases hn100 : 100 < n
          · have h1 : (100 : Int) < (n : Int) := by omega
            go_wp2_with (go_at_call 21; (with_reducible refine (lknown_any _).mono ?_); rintro e w7 ⟨rfl, O7⟩)
            go_ret
            obtain ⟨_, _, _, hq, _⟩ := HJ.out
            exact ⟨rfl, hq.then O7⟩
          · have h1 : ¬ (100 : Int) < (n : Int) := by omega
            go_wp2_with (go_at_call 21; (with_reducible refine (lknown_any _).mono ?_); rintro e w7 ⟨rfl, O7⟩)
            go_ret
            obtain ⟨_, _, _, hq, _⟩ := HJ.out
            exact ⟨rfl, hq.then O7⟩
        · have h1 : ¬ (k : Int) < (n : Int) := by omega
          go_wp2_with (go_at_call 21; (with_reducible refine (lknown_any _).mono ?_); rintro e w7 ⟨rfl, O7⟩)
          go_ret
          obtain ⟨_, _, _, hq, _⟩ := HJ.out
          exact ⟨rfl, hq.then O7⟩
  · go_ret
    exact ⟨rfl, Only.refl _ _⟩
end Go.Proofs.Ytmjkdfneohpbjaa
