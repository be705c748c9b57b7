/-
  The document's End, Head, Body, Top.
-/
import Derived.Test.YtmameghebikjbaaDoorHWords
import Derived.Test.YtmameghebikjbaaDoorHRefB
namespace Go.Proofs.YtmameghebikjbaaDoor
open Go.RowKit Go.Instr

theorem hd_nil : hd [] = 0 := rfl
theorem hd_step {l : List UInt8} (h : l ≠ []) : hd l = if tx (l.take (nl l + 1)) = [] then (l.take (nl l + 1)).length else (l.take (nl l + 1)).length + hd (l.drop (nl l + 1)) := by
  unfold hd hls
  rw [lns_step l h, hk]
  split
  · simp
  · rw [List.take_succ_cons, List.flatten_cons, List.length_append]
theorem nx_len {l : List UInt8} {k : Nat} (h : k ≤ l.length) : nx l k = k + ((l.drop k).take (nl (l.drop k) + 1)).length := by
  unfold nx
  rw [List.length_take, List.length_drop]
  omega
theorem mid_line {l : List UInt8} {k : Nat} (h : k ≤ l.length) : (l.drop k).take (nx l k - k) = (l.drop k).take (nl (l.drop k) + 1) := by
  rw [nx_len h, Nat.add_sub_cancel_left, List.length_take]
  rcases Nat.le_total (nl (l.drop k) + 1) (l.drop k).length with h1 | h1
  · rw [Nat.min_eq_left h1]
  · rw [Nat.min_eq_right h1, List.take_of_length_le (Nat.le_refl _), List.take_of_length_le h1]
theorem drop_line {l : List UInt8} {k : Nat} (_ : k ≤ l.length) : (l.drop k).drop (nl (l.drop k) + 1) = l.drop (nx l k) := by
  rw [List.drop_drop]
  unfold nx
  rcases Nat.le_total (k + nl (l.drop k) + 1) l.length with h1 | h1
  · rw [Nat.min_eq_left h1, Nat.add_assoc]
  · rw [Nat.min_eq_right h1, List.drop_of_length_le (by omega), List.drop_of_length_le (Nat.le_refl _)]
theorem nx_gt {l : List UInt8} {k : Nat} (h : k < l.length) : k < nx l k ∧ nx l k ≤ l.length := by
  unfold nx
  omega

section
variable {w : World} {A : Option Addr} {n c : Nat} {l : List UInt8}
set_option maxHeartbeats 1000000 in
theorem refEnd_any (hs : Bt w A n c l) (hbig : n ≤ 4096) : Calls Tryd.prog 38 #[.slice A n c] w fun e w' => e = .returned (.int .i64 (hd l : Nat)) ∧ w = w' := by
  have HL := Lib.hid hs.len
  have hcap := hs.cap
  have HB := Lib.hid hs
  clear hs
  obtain ⟨H, hH⟩ : ∃ H, hd l = H := ⟨_, rfl⟩
  rw [hH]
  have HH := Lib.hid hH
  clear hH
  go_enter Tryd.func38, Tryd.ntmps38
  go_wp2
  go_loop [3] (fun i => ∃ k : Nat, k ≤ n ∧ i = .int .i64 (k : Int) ∧ Hid (k + hd (l.drop k) = H)) (fun i => n - (intOf i).toNat)
  case atStart => exact ⟨0, Nat.zero_le _, rfl, by show _ = _; rw [List.drop_zero, Nat.zero_add]; exact HH.out⟩
  case round =>
    obtain ⟨k, hk, rfl, HK⟩ := hrel
    by_cases hlt : k < n
    · have hlt' : (k : Int) < (n : Int) := by omega
      have hkl : k < l.length := by rw [HL.out]; exact hlt
      obtain ⟨ad, rfl, hcell⟩ := HB.out.at_ hlt hkl
      clear hcell
      obtain ⟨hg1, hg2⟩ := nx_gt hkl
      have cN := refNext_any HB.out hbig k hk
      have hm := HB.out.mid (i := k) (j := nx l k) (by omega) (by rw [← HL.out]; exact hg2) (by omega)
      rw [mid_line (by omega)] at hm
      have hst := hd_step (l := l.drop k) (fun h => by have := congrArg List.length h; rw [List.length_drop] at this; simp at this; omega)
      have hlen := nx_len (l := l) (k := k) (by omega)
      have hdr := drop_line (l := l) (k := k) (by omega)
      obtain ⟨q, hq⟩ : ∃ q, nx l k = q := ⟨_, rfl⟩
      obtain ⟨ln, hln⟩ : ∃ ln, (l.drop k).take (nl (l.drop k) + 1) = ln := ⟨_, rfl⟩
      rw [hq] at cN hm hlen hdr hg1 hg2
      rw [hln] at hm hst hlen
      rw [hdr] at hst
      obtain ⟨t, ht⟩ : ∃ t, (tx ln).length = t := ⟨_, rfl⟩
      have cT := refText_any hm
      rw [ht] at cT
      have hq1 : (k : Int) ≤ (q : Int) := by omega
      have hq2 : (q : Int) ≤ (n : Int) := by have := HL.out; omega
      have hq3 : (q : Int) ≤ (c : Int) := by omega
      have hq4 : ¬ c = k := by omega
      by_cases ht0 : t = 0
      · have HE : Hid (H = q) := by
          show _ = _
          rw [← HK.out, hst, if_pos (List.eq_nil_of_length_eq_zero (ht.trans ht0)), hlen]
        clear hst hlen hdr hln hq hg1 hg2 hkl ht hm
        subst ht0
        go_wp2_with first
          | (go_at_call 35; with_reducible refine cN.mono ?_; rintro e w1 ⟨rfl, rfl⟩)
          | (go_at_call 36; with_reducible refine cT.mono ?_; rintro e w1 ⟨rfl, rfl⟩)
        go_ret
        exact ⟨by rw [HE.out]; rfl, rfl⟩
      · have HE : Hid (q + hd (l.drop q) = H) := by
          show _ = _
          rw [← HK.out, hst, if_neg (fun h => ht0 (by rw [← ht, h]; rfl)), hlen]
          omega
        have htb : ((t : Int) == 0) = false := by rw [beq_eq_false_iff_ne]; omega
        clear hst hlen hdr hln hq hg2 hkl ht hm ht0
        go_wp2_with first
          | (go_at_call 35; with_reducible refine cN.mono ?_; rintro e w1 ⟨rfl, rfl⟩)
          | (go_at_call 36; with_reducible refine cT.mono ?_; rintro e w1 ⟨rfl, rfl⟩)
        go_round
        case rel => exact ⟨q, by omega, rfl, HE⟩
        case measure => simp [intOf]; omega
    · obtain rfl : k = n := by omega
      have HE : Hid (H = k) := by
        show _ = _
        rw [← HK.out, List.drop_of_length_le (by rw [HL.out]; exact Nat.le_refl _)]
        rfl
      go_wp2
      go_ret
      exact ⟨by rw [HE.out]; rfl, rfl⟩

theorem hd_le' (hs : Bt w A n c l) : hd l ≤ n := by
  have h1 := hd_le l
  have h2 := hs.len
  omega
theorem refHead_any (hs : Bt w A n c l) (hbig : n ≤ 4096) : Calls Tryd.prog 15 #[.slice A n c] w fun e w' => e = .returned (.slice A (hd l) c) ∧ w = w' := by
  have hle := hd_le' hs
  have hcap := hs.cap
  have c1 := refEnd_any hs hbig
  obtain ⟨H, hH⟩ : ∃ H, hd l = H := ⟨_, rfl⟩
  rw [hH] at c1 hle ⊢
  have hle1 : (H : Int) ≤ (c : Int) := by omega
  clear hH hs
  go_enter Tryd.func15, Tryd.ntmps15
  go_wp2_with (go_at_call 38; with_reducible refine c1.mono ?_; rintro e w1 ⟨rfl, rfl⟩)
  go_ret
  exact ⟨rfl, rfl⟩
theorem refBody_any (hs : Bt w A n c l) (hbig : n ≤ 4096) : Calls Tryd.prog 17 #[.slice A n c] w fun e w' => ∃ A2 c2, e = .returned (.slice A2 (n - hd l) c2) ∧ Bt w A2 (n - hd l) c2 (l.drop (hd l)) ∧ w = w' := by
  have hle := hd_le' hs
  have hcap := hs.cap
  have c1 := refEnd_any hs hbig
  have hp := hs.cut hle
  obtain ⟨H, hH⟩ : ∃ H, hd l = H := ⟨_, rfl⟩
  rw [hH] at c1 hle hp ⊢
  have hle1 : (H : Int) ≤ (n : Int) := by omega
  have hle2 : (n : Int) ≤ (c : Int) := by omega
  have hnil := hs.nil
  clear hH hs
  by_cases hcH : c = H
  · rw [if_pos hcH] at hp
    have h0 : c - H = 0 := by omega
    have h1 : n - H = 0 := by omega
    rw [h0, h1] at hp
    rw [h1]
    obtain rfl : n = c := by omega
    subst hcH
    clear h0 h1
    go_enter Tryd.func17, Tryd.ntmps17
    go_wp2_with (go_at_call 38; with_reducible refine c1.mono ?_; rintro e w1 ⟨rfl, rfl⟩)
    go_ret
    exact ⟨A, 0, rfl, hp, rfl⟩
  · rw [if_neg hcH] at hp
    cases A with
    | none => have := hnil rfl; omega
    | some ad =>
      have hp2 : Bt w (some (ad.add H)) (n - H) (c - H) (l.drop H) := hp
      clear hp hnil
      go_enter Tryd.func17, Tryd.ntmps17
      go_wp2_with (go_at_call 38; with_reducible refine c1.mono ?_; rintro e w1 ⟨rfl, rfl⟩)
      go_ret
      exact ⟨_, _, rfl, hp2, rfl⟩

theorem top_step {l : List UInt8} {k m : Nat} (h : k < l.length) : k + ((lns (l.drop k)).take (m + 1)).flatten.length = nx l k + ((lns (l.drop (nx l k))).take m).flatten.length := by
  have hne : l.drop k ≠ [] := fun h2 => by have := congrArg List.length h2; rw [List.length_drop] at this; simp at this; omega
  rw [lns_step _ hne, List.take_succ_cons, List.flatten_cons, List.length_append, drop_line (by omega), nx_len (by omega)]
  omega
set_option maxHeartbeats 1000000 in
theorem refTop_any (hs : Bt w A n c l) (hbig : n ≤ 4096) (N : Int) : Calls Tryd.prog 20 #[.slice A n c, .int .i64 N] w fun e w' => e = .returned (.slice A (topLen l N) c) ∧ w = w' := by
  have HL := Lib.hid hs.len
  have hle := hd_le' hs
  have hcap := hs.cap
  have HB := Lib.hid hs
  have c1 := refEnd_any hs hbig
  clear hs
  obtain ⟨H, hH⟩ : ∃ H, hd l = H := ⟨_, rfl⟩
  obtain ⟨T, hT⟩ : ∃ T, topLen l N = T := ⟨_, rfl⟩
  have hTH : T = H + ((lns (l.drop H)).take N.toNat).flatten.length := by rw [← hT, ← hH]; rfl
  rw [hT]
  rw [hH] at c1 hle
  have HT := Lib.hid hTH
  clear hH hT hTH
  go_enter Tryd.func20, Tryd.ntmps20
  go_wp2_with (go_at_call 38; with_reducible refine c1.mono ?_; rintro e w1 ⟨rfl, rfl⟩)
  go_loop [5, 6] (fun a i => ∃ k j : Nat, k ≤ n ∧ j ≤ k ∧ a = .int .i64 (k : Int) ∧ i = .int .i64 (j : Int) ∧ Hid (T = k + ((lns (l.drop k)).take (N.toNat - j)).flatten.length)) (fun a _ => n - (intOf a).toNat)
  case atStart => exact ⟨H, 0, hle, by omega, rfl, rfl, by show _ = _; rw [HT.out]; rfl⟩
  case round =>
    obtain ⟨k, j, hk, hjk, rfl, rfl, HK⟩ := hrel
    by_cases hj : (j : Int) < N
    · by_cases hlt : k < n
      · have hlt' : (k : Int) < (n : Int) := by omega
        have hkl : k < l.length := by rw [HL.out]; exact hlt
        obtain ⟨hg1, hg2⟩ := nx_gt hkl
        have hst := top_step (m := N.toNat - j - 1) hkl
        have cN := refNext_any HB.out hbig k hk
        obtain ⟨q, hq⟩ : ∃ q, nx l k = q := ⟨_, rfl⟩
        rw [hq] at cN hg1 hg2 hst
        have HE : Hid (T = q + ((lns (l.drop q)).take (N.toNat - (j + 1))).flatten.length) := by
          show _ = _
          rw [HK.out, show N.toNat - j = N.toNat - j - 1 + 1 by omega, hst]
          rfl
        have hqn : q ≤ n := by have := HL.out; omega
        clear hst hq hkl hg2
        go_wp2_with (go_at_call 35; with_reducible refine cN.mono ?_; rintro e w1 ⟨rfl, rfl⟩)
        go_round
        case rel => exact ⟨q, j + 1, hqn, by omega, rfl, by go_num, HE⟩
        case measure => simp [intOf]; omega
      · obtain rfl : k = n := by omega
        have HE : Hid (T = k) := by
          show _ = _
          rw [HK.out, List.drop_of_length_le (by rw [HL.out]; exact Nat.le_refl _)]
          simp [lns]
        have hkc : (k : Int) ≤ (c : Int) := by omega
        go_wp2
        go_ret
        exact ⟨by rw [HE.out]; rfl, rfl⟩
    · have HE : Hid (T = k) := by
        show _ = _
        rw [HK.out, show N.toNat - j = 0 by omega]
        simp
      have hkc : (k : Int) ≤ (c : Int) := by omega
      have hj' : N ≤ (j : Int) := by omega
      go_wp2
      go_ret
      exact ⟨by rw [HE.out]; rfl, rfl⟩
end
end Go.Proofs.YtmameghebikjbaaDoor
