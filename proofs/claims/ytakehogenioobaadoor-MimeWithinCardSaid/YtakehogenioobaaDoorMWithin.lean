/-
  The law MimeWithin.
-/
import Derived.Test.YtakehogenioobaaDoorMCount
import Derived.Test.YtakehogenioobaaDoorRel
namespace Go.Proofs.YtakehogenioobaaDoor
open Go.RowKit Go.Instr

theorem ord_drop {N lo k : Nat} {G : List (Nat × Nat)} (h : k < G.length) (ho : Ord N lo (G.drop k)) : lo ≤ G[k].1 ∧ G[k].1 ≤ G[k].2 ∧ G[k].2 ≤ N ∧ Ord N G[k].2 (G.drop (k + 1)) := by
  rw [List.drop_eq_getElem_cons h] at ho
  exact ho
set_option maxRecDepth 100000 in
set_option maxHeartbeats 4000000 in
theorem within_any (A : Option Addr) (n c : Nat) (l : List UInt8) (w : World) (hs : Bt w A n c l) (hA : ∀ x ∈ blks A, x < w.heap.size) :
    Calls Tryd.prog 5 #[.slice A n c] w fun e w' => e = .returned (.bool true) ∧ Only [] w w' := by
  by_cases hbn : n ≤ 1500
  case neg =>
    have hbn'' : (1500 : Int) < (n : Int) := by omega
    go_enter Tryd.func5, Tryd.ntmps5
    go_wp2_with fail
    go_ret
    exact ⟨rfl, Only.refl _ _⟩
  have hbn' : (n : Int) ≤ 1500 := by omega
  have cP0 := Parts_any hs (by omega) hA
  have cC := fun w1 (o : Only [] w w1) => Count_any (hs.keep o) (by omega) (blks_keep hA o)
  have hord := parts_ord l
  have hmost := parts_most l
  have hnl := hs.len
  have hcp := cnt_pos 4 l
  have hcl := cnt_le 4 l
  have hc1 : parts l = [] → cnt 4 l = 1 := fun h => by rw [cnt, if_pos h]
  obtain ⟨G, hG⟩ : ∃ G, parts l = G := ⟨_, rfl⟩
  rw [hG] at cP0 hord hmost hc1
  rw [hnl] at hord
  obtain ⟨m, hm⟩ : ∃ m, G.length = m := ⟨_, rfl⟩
  obtain ⟨q, hq⟩ : ∃ q, cnt 4 l = q := ⟨_, rfl⟩
  rw [hq] at hcp hcl hc1 cC
  have cP : Calls Tryd.prog 10 #[.slice A n c] w fun e w' => ∃ A' c', e = .returned (.slice A' m c') ∧ Hid (Pt w' A' m c' G) ∧ Only [] w w' := cP0.mono fun e w' ⟨A', c', h1, h2, h3, _⟩ => ⟨A', c', by rw [h1, hm], by rw [← hm]; exact h2, h3⟩
  have hm16 : (m : Int) ≤ 16 := by omega
  have hq1 : (1 : Int) ≤ (q : Int) := by omega
  have hqm : ¬ 0 < m → q = 1 := fun h => hc1 (List.eq_nil_of_length_eq_zero (by omega))
  have HM := Lib.hid hm
  have HORD := Lib.hid hord
  have HQM := Lib.hid hqm
  clear cP0 hG hord hmost hm hq hc1 hs hnl hcl hqm
  go_enter Tryd.func5, Tryd.ntmps5
  go_wp2_with (go_at_call 10; (with_reducible refine cP.mono ?_); rintro e w1 ⟨A', c', rfl, hP, hO⟩)
  go_loopw [5, 4] (fun i a wr => ∃ k lo : Nat, k ≤ m ∧ i = .int .i64 (k : Int) ∧ a = .int .i64 (lo : Int) ∧ Hid (Ord n lo (G.drop k)) ∧ lo ≤ n ∧ Only [] w1 wr) (fun i _ _ => m - (intOf i).toNat)
  case atStart => exact ⟨0, 0, Nat.zero_le _, rfl, rfl, HORD.out, Nat.zero_le _, Only.refl _ _⟩
  case round =>
    obtain ⟨k, lo, hk, rfl, rfl, HO, hlo, hOr⟩ := hrel
    by_cases hlt : k < m
    · have hlt' : (k : Int) < (m : Int) := by omega
      have hkG : k < G.length := by rw [HM.out]; exact hlt
      obtain ⟨g, rfl, e1, e2⟩ := (hP.out.keep hOr).at_ hlt hkG
      obtain ⟨o1, o2, o3, o4⟩ := ord_drop hkG HO.out
      obtain ⟨p, hp⟩ : ∃ p, G[k] = p := ⟨_, rfl⟩
      rw [hp] at e1 e2 o1 o2 o3 o4
      obtain ⟨f, t⟩ := p
      simp only at e1 e2 o1 o2 o3 o4
      have h1 : ¬ (f : Int) < (lo : Int) := by omega
      have h2 : ¬ (t : Int) < (f : Int) := by omega
      have h3 : ¬ (n : Int) < (t : Int) := by omega
      have HO4 := Lib.hid o4
      clear hp o4 hlo
      go_wp2_with fail
      apply region_only (by kernel_rfl) (by kernel_rfl)
      apply rel_val (hrf := Tk_refl)
      case hw => rfl
      case hy => intro wS hN hF; skip; first | (go_simp; done) | (go_simp; with_reducible rfl)
      case' hk => skip
      try simp only [Act.put, List.setIfInBounds_toArray, List.set_cons_zero, List.set_cons_succ]
      apply rel_val (hrf := Tk_refl)
      case hw => rfl
      case hy => intro wS hN hF; skip; first | (go_simp; done) | (go_simp; with_reducible rfl)
      case' hk => skip
      try simp only [Act.put, List.setIfInBounds_toArray, List.set_cons_zero, List.set_cons_succ]
      apply rel_val (hrf := Tk_refl)
      case hw => rfl
      case hy => intro wS hN hF; skip; first | (go_simp; done) | (go_simp; with_reducible rfl)
      case' hk => skip
      try simp only [Act.put, List.setIfInBounds_toArray, List.set_cons_zero, List.set_cons_succ]
      apply rel_val (hrf := Tk_refl)
      case hw => rfl
      case hy => intro wS hN hF; skip; first | (go_simp; done) | (go_simp; with_reducible rfl)
      case' hk => skip
      try simp only [Act.put, List.setIfInBounds_toArray, List.set_cons_zero, List.set_cons_succ]
      apply rel_val (hrf := Tk_refl)
      case hw => rfl
      case hy => intro wS hN hF; have hO := hN.pre (by kernel_rfl); have h0 := hO.cellSome (p := ⟨g, k * 2, none⟩) e1 (fun hm => nomatch hm); first | (go_simp; done) | (go_simp; with_reducible rfl)
      case' hk => skip
      try simp only [Act.put, List.setIfInBounds_toArray, List.set_cons_zero, List.set_cons_succ]
      apply rel_val (hrf := Tk_refl)
      case hw => rfl
      case hy => intro wS hN hF; skip; first | (go_simp; done) | (go_simp; with_reducible rfl)
      case' hk => skip
      try simp only [Act.put, List.setIfInBounds_toArray, List.set_cons_zero, List.set_cons_succ]
      apply rel_val (v := .bool false) (hrf := Tk_refl)
      case hw => rfl
      case hy =>
        intro wS hN hF
        go_simp
      case' hk => skip
      try simp only [Act.put, List.setIfInBounds_toArray, List.set_cons_zero, List.set_cons_succ]
      apply rel_val (v := .bool false) (hrf := Tk_refl)
      case hw => rfl
      case hy =>
        intro wS hN hF
        go_simp
      case' hk => skip
      try simp only [Act.put, List.setIfInBounds_toArray, List.set_cons_zero, List.set_cons_succ]
      apply rel_val (hrf := Tk_refl)
      case hw => rfl
      case hy => intro wS hN hF; skip; first | (go_simp; done) | (go_simp; with_reducible rfl)
      case' hk => skip
      try simp only [Act.put, List.setIfInBounds_toArray, List.set_cons_zero, List.set_cons_succ]
      apply rel_val (hrf := Tk_refl)
      case hw => rfl
      case hy => intro wS hN hF; skip; first | (go_simp; done) | (go_simp; with_reducible rfl)
      case' hk => skip
      try simp only [Act.put, List.setIfInBounds_toArray, List.set_cons_zero, List.set_cons_succ]
      apply rel_val (hrf := Tk_refl)
      case hw => rfl
      case hy => intro wS hN hF; skip; first | (go_simp; done) | (go_simp; with_reducible rfl)
      case' hk => skip
      try simp only [Act.put, List.setIfInBounds_toArray, List.set_cons_zero, List.set_cons_succ]
      apply rel_val (hrf := Tk_refl)
      case hw => rfl
      case hy => intro wS hN hF; skip; first | (go_simp; done) | (go_simp; with_reducible rfl)
      case' hk => skip
      try simp only [Act.put, List.setIfInBounds_toArray, List.set_cons_zero, List.set_cons_succ]
      apply rel_val (hrf := Tk_refl)
      case hw => rfl
      case hy => intro wS hN hF; have hO := hN.pre (by kernel_rfl); have h1 := hO.cellSome (p := ⟨g, k * 2 + 1, none⟩) e2 (fun hm => nomatch hm); first | (go_simp; done) | (go_simp; with_reducible rfl)
      case' hk => skip
      try simp only [Act.put, List.setIfInBounds_toArray, List.set_cons_zero, List.set_cons_succ]
      apply rel_val (hrf := Tk_refl)
      case hw => rfl
      case hy => intro wS hN hF; skip; first | (go_simp; done) | (go_simp; with_reducible rfl)
      case' hk => skip
      try simp only [Act.put, List.setIfInBounds_toArray, List.set_cons_zero, List.set_cons_succ]
      apply rel_val (hrf := Tk_refl)
      case hw => rfl
      case hy => intro wS hN hF; skip; first | (go_simp; done) | (go_simp; with_reducible rfl)
      case' hk => skip
      try simp only [Act.put, List.setIfInBounds_toArray, List.set_cons_zero, List.set_cons_succ]
      apply rel_val (hrf := Tk_refl)
      case hw => rfl
      case hy => intro wS hN hF; skip; first | (go_simp; done) | (go_simp; with_reducible rfl)
      case' hk => skip
      try simp only [Act.put, List.setIfInBounds_toArray, List.set_cons_zero, List.set_cons_succ]
      apply rel_val (hrf := Tk_refl)
      case hw => rfl
      case hy => intro wS hN hF; skip; first | (go_simp; done) | (go_simp; with_reducible rfl)
      case' hk => skip
      try simp only [Act.put, List.setIfInBounds_toArray, List.set_cons_zero, List.set_cons_succ]
      apply rel_val (hrf := Tk_refl)
      case hw => rfl
      case hy => intro wS hN hF; have hO := hN.pre (by kernel_rfl); have h0 := hO.cellSome (p := ⟨g, k * 2, none⟩) e1 (fun hm => nomatch hm); first | (go_simp; done) | (go_simp; with_reducible rfl)
      case' hk => skip
      try simp only [Act.put, List.setIfInBounds_toArray, List.set_cons_zero, List.set_cons_succ]
      apply rel_val (v := .bool false) (hrf := Tk_refl)
      case hw => rfl
      case hy =>
        intro wS hN hF
        go_simp
      case' hk => skip
      try simp only [Act.put, List.setIfInBounds_toArray, List.set_cons_zero, List.set_cons_succ]
      apply rel_val (v := .bool false) (hrf := Tk_refl)
      case hw => rfl
      case hy =>
        intro wS hN hF
        go_simp
      case' hk => skip
      try simp only [Act.put, List.setIfInBounds_toArray, List.set_cons_zero, List.set_cons_succ]
      apply rel_val (v := .bool false) (hrf := Tk_refl)
      case hw => rfl
      case hy =>
        intro wS hN hF
        go_simp
      case' hk => skip
      try simp only [Act.put, List.setIfInBounds_toArray, List.set_cons_zero, List.set_cons_succ]
      apply rel_val (hrf := Tk_refl)
      case hw => rfl
      case hy => intro wS hN hF; skip; first | (go_simp; done) | (go_simp; with_reducible rfl)
      case' hk => skip
      try simp only [Act.put, List.setIfInBounds_toArray, List.set_cons_zero, List.set_cons_succ]
      apply rel_val (hrf := Tk_refl)
      case hw => rfl
      case hy => intro wS hN hF; skip; first | (go_simp; done) | (go_simp; with_reducible rfl)
      case' hk => skip
      try simp only [Act.put, List.setIfInBounds_toArray, List.set_cons_zero, List.set_cons_succ]
      apply rel_val (hrf := Tk_refl)
      case hw => rfl
      case hy => intro wS hN hF; skip; first | (go_simp; done) | (go_simp; with_reducible rfl)
      case' hk => skip
      try simp only [Act.put, List.setIfInBounds_toArray, List.set_cons_zero, List.set_cons_succ]
      apply rel_val (hrf := Tk_refl)
      case hw => rfl
      case hy => intro wS hN hF; skip; first | (go_simp; done) | (go_simp; with_reducible rfl)
      case' hk => skip
      try simp only [Act.put, List.setIfInBounds_toArray, List.set_cons_zero, List.set_cons_succ]
      apply rel_val (hrf := Tk_refl)
      case hw => rfl
      case hy => intro wS hN hF; have hO := hN.pre (by kernel_rfl); have h1 := hO.cellSome (p := ⟨g, k * 2 + 1, none⟩) e2 (fun hm => nomatch hm); first | (go_simp; done) | (go_simp; with_reducible rfl)
      case' hk => skip
      try simp only [Act.put, List.setIfInBounds_toArray, List.set_cons_zero, List.set_cons_succ]
      apply rel_val (hrf := Tk_refl)
      case hw => rfl
      case hy => intro wS hN hF; skip; first | (go_simp; done) | (go_simp; with_reducible rfl)
      case' hk => skip
      try simp only [Act.put, List.setIfInBounds_toArray, List.set_cons_zero, List.set_cons_succ]
      apply rel_val (hrf := Tk_refl)
      case hw => rfl
      case hy => intro wS hN hF; skip; first | (go_simp; done) | (go_simp; with_reducible rfl)
      case' hk => skip
      try simp only [Act.put, List.setIfInBounds_toArray, List.set_cons_zero, List.set_cons_succ]
      apply rel_val (v := .bool false) (hrf := Tk_refl)
      case hw => rfl
      case hy =>
        intro wS hN hF
        go_simp
      case' hk => skip
      try simp only [Act.put, List.setIfInBounds_toArray, List.set_cons_zero, List.set_cons_succ]
      apply rel_val (v := .bool false) (hrf := Tk_refl)
      case hw => rfl
      case hy =>
        intro wS hN hF
        go_simp
      case' hk => skip
      try simp only [Act.put, List.setIfInBounds_toArray, List.set_cons_zero, List.set_cons_succ]
      refine rel_end ?_
      intro wS hO hF
      clear hF
      have hO3 : Only [] wr.drew wS := hO.only
      have e2' := hO3.cellSome (p := ⟨g, k * 2 + 1, none⟩) e2 (fun hm => nomatch hm)
      go_wp2_with fail
      go_roundw
      case rel => exact ⟨k + 1, t, by omega, by go_num, rfl, HO4.out, by omega, hOr.drew.then hO3⟩
      case measure => simp [intOf]; omega
    · obtain rfl : k = m := by omega
      have hpw := hO.then hOr
      by_cases hm0 : 0 < k
      · have hm1 : (0 : Int) < (k : Int) := by omega
        go_wp2_with first
          | (go_at_call 13; (with_reducible refine (cC _ hpw).mono ?_); rintro e w2 ⟨rfl, hO2⟩)
          | (go_at_call 12; (with_reducible refine (known_any _).mono ?_); rintro e w3 ⟨rfl, hO3⟩)
        go_ret
        exact ⟨rfl, (hpw.then hO2).then hO3⟩
      · have hm1 : ¬ (0 : Int) < (k : Int) := by omega
        obtain rfl : q = 1 := HQM.out hm0
        go_wp2_with first
          | (go_at_call 13; (with_reducible refine (cC _ hpw).mono ?_); rintro e w2 ⟨rfl, hO2⟩)
          | (go_at_call 12; (with_reducible refine (known_any _).mono ?_); rintro e w3 ⟨rfl, hO3⟩)
        go_ret
        exact ⟨rfl, (hpw.then hO2).then hO3⟩
end Go.Proofs.YtakehogenioobaaDoor
