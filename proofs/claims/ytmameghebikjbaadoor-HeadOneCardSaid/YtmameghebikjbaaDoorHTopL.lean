/-
  The law HeadTop.
-/
import Derived.Test.YtmameghebikjbaaDoorHTop
import Derived.Test.YtmameghebikjbaaDoorHWhole
namespace Go.Proofs.YtmameghebikjbaaDoor
open Go.RowKit Go.Instr
section
variable {w : World} {A : Option Addr} {n c : Nat} {l : List UInt8}
theorem bt_cut (hs : Bt w A n c l) {k : Nat} (hk : k ≤ n) : ∃ A2 c2, (∀ W, (Instr.slice 22 (.slice A n c) (some (.int .i64 (k : Int))) none none).run Tryd.prog W = .ok (.slice A2 (n - k) c2) W) ∧ Bt w A2 (n - k) c2 (l.drop k) ∧ blks A2 = blks A := by
  refine ⟨_, _, fun W => ?_, hs.cut hk, blks_from A c k⟩
  have h1 : (k : Int) ≤ (n : Int) := by omega
  have hnil := hs.nil
  have hcap := hs.cap
  by_cases hcH : c = k
  · subst hcH
    go_simp
  · cases A with
    | none => have := hnil rfl; omega
    | some ad => go_simp
theorem bt_pre (hs : Bt w A n c l) {k : Nat} (hk : k ≤ n) : ∀ W, (Instr.slice 22 (.slice A n c) none (some (.int .i64 (k : Int))) none).run Tryd.prog W = .ok (.slice A k c) W := fun W => by
  have hcap := hs.cap
  have h1 : (k : Int) ≤ (c : Int) := by omega
  go_simp
end
/-- Behind the head, the top is as many lines as are asked, or all. -/
theorem top_count (l : List UInt8) (N : Int) : (lns ((l.take (topLen l N)).drop (hd l))).length = min N.toNat (lns (l.drop (hd l))).length := by
  unfold topLen
  rw [List.drop_take, Nat.add_sub_cancel_left, take_lns, lns_take, List.length_take]
set_option maxRecDepth 100000 in
set_option maxHeartbeats 2000000 in
theorem top_any (A : Option Addr) (n c : Nat) (l : List UInt8) (N : Int) (w : World) (hs : Bt w A n c l) (hA : ∀ x ∈ blks A, x < w.heap.size) (hN1 : -9223372036854775808 ≤ N) (hN2 : N ≤ 9223372036854775807) :
    Calls Tryd.prog 6 #[.slice A n c, .int .i64 N] w fun e w' => e = .returned (.bool true) ∧ Only [] w w' := by
  by_cases hbn : n ≤ 1500
  case neg =>
    have hbn'' : (1500 : Int) < (n : Int) := by omega
    go_enter Tryd.func6, Tryd.ntmps6
    go_wp2_with fail
    go_ret
    exact ⟨rfl, Only.refl _ _⟩
  have hbn' : ¬ (1500 : Int) < (n : Int) := by omega
  by_cases hN0 : N < 0
  case pos =>
    go_enter Tryd.func6, Tryd.ntmps6
    go_wp2_with fail
    go_ret
    exact ⟨rfl, Only.refl _ _⟩
  by_cases hN3 : 2000 < N
  case pos =>
    go_enter Tryd.func6, Tryd.ntmps6
    go_wp2_with fail
    go_ret
    exact ⟨rfl, Only.refl _ _⟩
  have hnl := hs.len
  have hcount := top_count l N
  have hTl := topLen_le l N
  have hHT : hd l ≤ topLen l N := by unfold topLen; omega
  have hHl := hd_le l
  have hpq := lns_len (l.drop (hd l))
  rw [List.length_drop] at hpq
  have cT := Top_any hs (by omega) hA N hN1 hN2
  have cH := fun w1 (ho : Only [] w w1) => Head_any (hs.keep ho) (by omega) (blks_keep hA ho)
  have cB := fun w1 (ho : Only [] w w1) => Body_any (hs.keep ho) (by omega) (blks_keep hA ho)
  have hp := hs.pre (k := topLen l N) (by omega)
  obtain ⟨tn, htn⟩ : ∃ tn, topLen l N = tn := ⟨_, rfl⟩
  obtain ⟨hn, hhn⟩ : ∃ hn, hd l = hn := ⟨_, rfl⟩
  rw [htn] at hcount hTl hHT cT hp
  rw [hhn] at hcount hHT hHl hpq cH cB
  obtain ⟨t, ht⟩ : ∃ t, l.take tn = t := ⟨_, rfl⟩
  obtain ⟨h, hh⟩ : ∃ h, l.take hn = h := ⟨_, rfl⟩
  obtain ⟨b, hb⟩ : ∃ b, l.drop hn = b := ⟨_, rfl⟩
  have htl : t.length = tn := by rw [← ht, List.length_take]; omega
  have hhl : h.length = hn := by rw [← hh, List.length_take]; omega
  have hbl : b.length = n - hn := by rw [← hb, List.length_drop]; omega
  rw [ht] at hcount cT hp
  rw [hh] at cH
  rw [hb] at hcount hpq cB
  obtain ⟨q, hq⟩ : ∃ q, (lns b).length = q := ⟨_, rfl⟩
  obtain ⟨K, hK⟩ : ∃ K, (lns (t.drop hn)).length = K := ⟨_, rfl⟩
  rw [hq] at hcount hpq
  rw [hK] at hcount
  have hmin : min N (q : Int) = (K : Int) := by omega
  have hL1 : ∀ w1 A1 c1, Bt w1 A1 (tn - hn) c1 (t.drop hn) → Calls Tryd.prog 18 #[.slice A1 (tn - hn) c1] w1 fun e w' => e = .returned (.int .i64 (K : Int)) ∧ Only [] w1 w' := fun w1 A1 c1 hx => by
    have := LinesN_any hx (by omega)
    rwa [hK] at this
  have hL2 : ∀ w1 A1 c1, Bt w1 A1 (n - hn) c1 b → Calls Tryd.prog 18 #[.slice A1 (n - hn) c1] w1 fun e w' => e = .returned (.int .i64 (q : Int)) ∧ Only [] w1 w' := fun w1 A1 c1 hx => by
    have := LinesN_any hx (by omega)
    rwa [hq] at this
  have hHT' : (hn : Int) ≤ (tn : Int) := by omega
  have hTn' : (tn : Int) ≤ (n : Int) := by omega
  have hTc' : (tn : Int) ≤ (c : Int) := by have := hs.cap; omega
  have hq2 : (q : Int) ≤ 1500 := by omega
  have hTn : tn ≤ n := by omega
  unfold Fresh at cT cH cB
  rw [htl] at cT
  rw [hhl] at cH
  rw [hbl] at cB
  have HL1 := Lib.hid hL1
  have HL2 := Lib.hid hL2
  have HH := Lib.hid cH
  have HB := Lib.hid cB
  have HP := Lib.hid hp
  clear hcount hK hq ht hh hb htl hhl hbl hnl htn hhn hTl hHl hpq cH cB hL1 hL2 hp hA hs
  obtain ⟨b2, hb2⟩ : ∃ b2, n - hn = b2 := ⟨_, rfl⟩
  obtain ⟨t2, ht2⟩ : ∃ t2, tn - hn = t2 := ⟨_, rfl⟩
  rw [hb2] at HB HL2
  rw [ht2] at HL1
  go_enter Tryd.func6, Tryd.ntmps6
  go_wp2_with first
    | (go_at_call 14; (with_reducible refine (HH.out w1 hO1).mono ?_); rintro e w2 ⟨A2, c2, rfl, -, hO2, -⟩)
    | (go_at_call 19; (with_reducible refine cT.mono ?_); rintro e w1 ⟨A1, c1, rfl, h1, hO1, -⟩)
  have hp2 := HP.out.keep (hO1.then hO2)
  have h1t := (h1.keep hO2).bt
  apply region_only (by kernel_rfl) (by kernel_rfl)
  apply rel_val (hrf := Tk_refl)
  case hw => rfl
  case hy => intro wS hN hF; skip; first | (go_simp; done) | (go_simp; with_reducible rfl)
  case' hk => skip
  try simp only [Act.put, List.setIfInBounds_toArray, List.set_cons_zero, List.set_cons_succ]
  apply rel_val (hrf := Tk_refl)
  case hw => rfl
  case hy => intro wS hN hF; skip; first | (go_simp; done) | (go_simp; with_reducible rfl)
  case' hk => skip
  try simp only [Act.put, List.setIfInBounds_toArray, List.set_cons_zero, List.set_cons_succ]
  apply rel_val (hrf := Tk_refl)
  case hw => rfl
  case hy => intro wS hN hF; skip; first | (go_simp; done) | (go_simp; with_reducible rfl)
  case' hk => skip
  try simp only [Act.put, List.setIfInBounds_toArray, List.set_cons_zero, List.set_cons_succ]
  apply rel_val (hrf := Tk_refl)
  case hw => rfl
  case hy => intro wS hN hF; skip; first | (go_simp; done) | (go_simp; with_reducible rfl)
  case' hk => skip
  try simp only [Act.put, List.setIfInBounds_toArray, List.set_cons_zero, List.set_cons_succ]
  apply rel_val (v := .bool false) (hrf := Tk_refl)
  case hw => rfl
  case hy =>
    intro wS hN hF
    go_simp
  case' hk => skip
  try simp only [Act.put, List.setIfInBounds_toArray, List.set_cons_zero, List.set_cons_succ]
  apply rel_val (v := .bool false) (hrf := Tk_refl)
  case hw => rfl
  case hy =>
    intro wS hN hF
    go_simp
  case' hk => skip
  try simp only [Act.put, List.setIfInBounds_toArray, List.set_cons_zero, List.set_cons_succ]
  apply rel_val (hrf := Tk_refl)
  case hw => rfl
  case hy => intro wS hN hF; skip; first | (go_simp; done) | (go_simp; with_reducible rfl)
  case' hk => skip
  try simp only [Act.put, List.setIfInBounds_toArray, List.set_cons_zero, List.set_cons_succ]
  apply rel_val (hrf := Tk_refl)
  case hw => rfl
  case hy => intro wS hN hF; skip; first | (go_simp; done) | (go_simp; with_reducible rfl)
  case' hk => skip
  try simp only [Act.put, List.setIfInBounds_toArray, List.set_cons_zero, List.set_cons_succ]
  apply rel_val (hrf := Tk_refl)
  case hw => rfl
  case hy => intro wS hN hF; skip; first | (go_simp; done) | (go_simp; with_reducible rfl)
  case' hk => skip
  try simp only [Act.put, List.setIfInBounds_toArray, List.set_cons_zero, List.set_cons_succ]
  apply rel_val (hrf := Tk_refl)
  case hw => rfl
  case hy => intro wS hN hF; skip; first | (go_simp; done) | (go_simp; with_reducible rfl)
  case' hk => skip
  try simp only [Act.put, List.setIfInBounds_toArray, List.set_cons_zero, List.set_cons_succ]
  apply rel_val (v := .bool false) (hrf := Tk_refl)
  case hw => rfl
  case hy =>
    intro wS hN hF
    go_simp
  case' hk => skip
  try simp only [Act.put, List.setIfInBounds_toArray, List.set_cons_zero, List.set_cons_succ]
  apply rel_val (v := .bool false) (hrf := Tk_refl)
  case hw => rfl
  case hy =>
    intro wS hN hF
    go_simp
  case' hk => skip
  try simp only [Act.put, List.setIfInBounds_toArray, List.set_cons_zero, List.set_cons_succ]
  apply rel_val (v := .bool false) (hrf := Tk_refl)
  case hw => rfl
  case hy =>
    intro wS hN hF
    go_simp
  case' hk => skip
  try simp only [Act.put, List.setIfInBounds_toArray, List.set_cons_zero, List.set_cons_succ]
  apply rel_val (hrf := Tk_refl)
  case hw => rfl
  case hy => intro wS hN hF; skip; first | (go_simp; done) | (go_simp; with_reducible rfl)
  case' hk => skip
  try simp only [Act.put, List.setIfInBounds_toArray, List.set_cons_zero, List.set_cons_succ]
  apply rel_val (hrf := Tk_refl)
  case hw => rfl
  case hy => intro wS hN hF; skip; first | (go_simp; done) | (go_simp; with_reducible rfl)
  case' hk => skip
  try simp only [Act.put, List.setIfInBounds_toArray, List.set_cons_zero, List.set_cons_succ]
  apply rel_val (hrf := Tk_refl)
  case hw => rfl
  case hy => intro wS hN hF; skip; first | (go_simp; done) | (go_simp; with_reducible rfl)
  case' hk => skip
  try simp only [Act.put, List.setIfInBounds_toArray, List.set_cons_zero, List.set_cons_succ]
  apply rel_val (v := .slice A tn c) (hrf := Tk_refl)
  case hw => rfl
  case hy =>
    intro wS hN hF
    go_simp
  case' hk => skip
  try simp only [Act.put, List.setIfInBounds_toArray, List.set_cons_zero, List.set_cons_succ]
  apply rel_val (hrf := Tk_refl)
  case hw => rfl
  case hy => intro wS hN hF; have hcv := str_of (hp2.keep ((Only.refl [] _).drew.then (hN.pre (by kernel_rfl)))).sl c; first | (go_simp; done) | (go_simp; with_reducible rfl)
  case' hk => skip
  try simp only [Act.put, List.setIfInBounds_toArray, List.set_cons_zero, List.set_cons_succ]
  apply rel_val (hrf := Tk_refl)
  case hw => rfl
  case hy => intro wS hN hF; skip; first | (go_simp; done) | (go_simp; with_reducible rfl)
  case' hk => skip
  try simp only [Act.put, List.setIfInBounds_toArray, List.set_cons_zero, List.set_cons_succ]
  apply rel_val (hrf := Tk_refl)
  case hw => rfl
  case hy => intro wS hN hF; have hcv := str_of (h1t.keep ((Only.refl [] _).drew.then (hN.pre (by kernel_rfl)))).sl c1; first | (go_simp; done) | (go_simp; with_reducible rfl)
  case' hk => skip
  try simp only [Act.put, List.setIfInBounds_toArray, List.set_cons_zero, List.set_cons_succ]
  apply rel_val (v := .bool false) (hrf := Tk_refl)
  case hw => rfl
  case hy =>
    intro wS hN hF
    go_simp
  case' hk => skip
  try simp only [Act.put, List.setIfInBounds_toArray, List.set_cons_zero, List.set_cons_succ]
  apply rel_val (v := .bool false) (hrf := Tk_refl)
  case hw => rfl
  case hy =>
    intro wS hN hF
    go_simp
  case' hk => skip
  try simp only [Act.put, List.setIfInBounds_toArray, List.set_cons_zero, List.set_cons_succ]
  refine rel_end ?_
  intro wS hO hF
  clear hF
  have hOw : Only [] w wS := (hO1.then hO2).drew.then hO.only
  have hsl := (h1t.keep ((Only.refl [] w2).drew.then hO.only))
  obtain ⟨A3, c3, hcut, hB3, -⟩ := bt_cut hsl (k := hn) (by omega)
  rw [ht2] at hcut hB3
  clear hsl hp2 h1t
  clear hO HP hb2 ht2 hHT hTn hHT' hTn' hTc'
  go_wp2_with first
    | (go_at_call 23; (with_reducible refine (known_any _).mono ?_); rintro e w7 ⟨rfl, hO7⟩)
    | (go_at_call 18; (with_reducible refine (HL2.out w5 A5 c5 h5.bt).mono ?_); rintro e w6 ⟨rfl, hO6⟩)
    | (go_at_call 16; (with_reducible refine (HB.out w4 (hOw.then hO4)).mono ?_); rintro e w5 ⟨A5, c5, rfl, h5, hO5, -⟩)
    | (go_at_call 18; (with_reducible refine (HL1.out wS A3 c3 hB3).mono ?_); rintro e w4 ⟨rfl, hO4⟩)
  go_ret
  exact ⟨rfl, (((hOw.then hO4).then hO5).then hO6).then hO7⟩
end Go.Proofs.YtmameghebikjbaaDoor
