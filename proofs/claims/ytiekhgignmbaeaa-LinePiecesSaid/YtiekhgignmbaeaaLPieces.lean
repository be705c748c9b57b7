/-
  The walk of the law LinePieces.
-/
import Derived.Test.YtiekhgignmbaeaaLAll
namespace Go.Proofs.Ytiekhgignmbaeaa
open Go.RowKit Go.Instr

set_option maxRecDepth 100000 in
set_option maxHeartbeats 4000000 in
theorem pieces_any (A0 : Option Addr) (n0 c0 : Nat) (b : List UInt8) (A1 : Option Addr) (m c1 : Nat) (vs : List Int) (w : World) (hb : Sl w A0 n0 (bvs b)) (hc0 : n0 ≤ c0) (hv : Sl w A1 m (ivs vs)) :
    Calls Try.prog 4 #[.slice A0 n0 c0, .slice A1 m c1] w fun e w' => e = .returned (.bool true) ∧ Only [] w w' := by
  by_cases hbig : n0 ≤ 4096 ∧ m ≤ 200
  · obtain ⟨hb1, hb2⟩ := hbig
    have hb1' : (n0 : Int) ≤ 4096 := by omega
    have hb2' : (m : Int) ≤ 200 := by omega
    have HB := Lib.hid hb
    have HV := Lib.hid hv
    clear hb hv
    go_enter Try.func4, Try.ntmps4
    go_wp2_with (first
      | (go_at_call 21; (with_reducible refine (HY.out).mono ?_); clear HY; rintro e w6 ⟨A6, n6, c6, rfl, E6, O6, h6, P6⟩; have hnn : n6 = n5 := E6.len.symm.trans E5.len; subst hnn)
      | (go_at_call 21; (with_reducible refine (HX.out).mono ?_); clear HX; rintro e w5 ⟨A5, n5, c5, rfl, E5, O5, h5, P5⟩
         have Q5 := own_step (O1.then O2) O5 (fun x hx => P1 x (by simpa using hx))
         have HY := Lib.hid (all_any [] (fun _ hx => nomatch hx) (L2.only O5 (by simp; exact hg12) (fun _ hx => nomatch hx)) A0 n0 c0 b (HB.out.keep Q5) hc0 hb1 (fun hp k hk => by have h1 := HB.out.lt hp; have h2 := P2 g2 (by simp); have h3 := O1.size; cases A0 with | none => cases hk | some a => (simp at hk; have := h1 a rfl; omega)) A1 m c1 vs (HV.out.keep Q5) hb2 (fun hp k hk => by have h1 := HV.out.lt hp; have h2 := P2 g2 (by simp); have h3 := O1.size; cases A1 with | none => cases hk | some a => (simp at hk; have := h1 a rfl; omega))))
      | (go_at_call 11; (with_reducible refine (new_g w1).mono ?_); rintro e w2 ⟨g2, rfl, L2, O2, P2⟩
         have hg12 : ¬ g2 = g1 := (by have h1 := P2 g2 (by simp); have h2 := L1.lt; omega)
         have HX := Lib.hid (all_any [g2] (fun x hx => by simp at hx; subst hx; exact L2.lt) (L1.keep O2) A0 n0 c0 b (HB.out.keep (O1.then O2)) hc0 hb1 (fun hp k hk => by have h1 := HB.out.lt hp; have h2 := P1 g1 (by simp); cases A0 with | none => cases hk | some a => (simp at hk; have := h1 a rfl; omega)) none 0 0 [] Sl.none_ (by omega) (fun hp => by omega)))
      | (go_at_call 11; (with_reducible refine (new_g w).mono ?_); rintro e w1 ⟨g1, rfl, L1, O1, P1⟩))
    have E5' := E5.only (G' := []) O6 (fun x hx => by simpa using hx) (fun _ hx => nomatch hx)
    have Q6 := own_step Q5 O6 (fun x hx => by have h1 := O1.size; have := P2 x (by simpa using hx); omega)
    have HL := Lib.hid E6.len
    have hn6 : (n6 : Int) ≤ 4096 := by have := HB.out.len; rw [bvs_length] at this; omega
    clear E5 O6 O5 O1 O2 L1 L2 P1 P2 P5 P6 h5 h6 Q5 HB HV
    go_loopw [9] (fun i wr => ∃ k : Nat, k ≤ n6 ∧ i = .int .i64 (k : Int) ∧ Only [] w6 wr) (fun i _ => n6 - (intOf i).toNat)
    case atStart => exact ⟨0, Nat.zero_le _, rfl, Only.refl _ _⟩
    case round =>
      obtain ⟨k, hk, rfl, QR⟩ := hrel
      by_cases hlt : k < n6
      · have hlt' : (k : Int) < (n6 : Int) := by omega
        have hke : k < (evs b).length := by rw [HL.out]; exact hlt
        obtain ⟨bb1, rfl, A7, c7, p0, p1, V7⟩ := (E5'.keep QR).at_ k hke
        obtain ⟨bb2, rfl, A8, c8, q0, q1, V8⟩ := (E6.keep QR).at_ k hke
        obtain ⟨E, hE⟩ : ∃ E, E = (evs b)[k] := ⟨_, rfl⟩
        rw [← hE] at p0 p1 V7 q0 q1 V8
        clear hE
        obtain ⟨K, d⟩ := E
        obtain ⟨D, hD⟩ : ∃ D, D = d.length := ⟨_, rfl⟩
        simp only at p0 p1 V7 q0 q1 V8
        rw [← hD] at p1 V7 q1 V8
        rw [Nat.mul_comm 2 k] at p0 p1 q0 q1
        have HD := Lib.hid hD
        clear hD E6 E5'
        go_wp2_with fail
        apply region_only (by kernel_rfl) (by kernel_rfl)
        apply rel_val (hrf := Tk_refl)
        case hw => rfl
        case hy => intro wS hN hF; skip; first | (go_simp; done) | (go_simp; with_reducible rfl)
        case' hk => skip
        try simp only [Act.put, List.setIfInBounds_toArray, List.set_cons_zero, List.set_cons_succ]
        apply rel_val (hrf := Tk_refl)
        case hw => rfl
        case hy => intro wS hN hF; skip; first | (go_simp; done) | (go_simp; with_reducible rfl)
        case' hk => skip
        try simp only [Act.put, List.setIfInBounds_toArray, List.set_cons_zero, List.set_cons_succ]
        apply rel_val (hrf := Tk_refl)
        case hw => rfl
        case hy => intro wS hN hF; skip; first | (go_simp; done) | (go_simp; with_reducible rfl)
        case' hk => skip
        try simp only [Act.put, List.setIfInBounds_toArray, List.set_cons_zero, List.set_cons_succ]
        apply rel_val (hrf := Tk_refl)
        case hw => rfl
        case hy => intro wS hN hF; have hO := hN.pre (by kernel_rfl); have h0 := hO.cellSome (p := ⟨bb1, k * 2, none⟩) p0 (fun hm => nomatch hm); have h1 := hO.cellSome (p := ⟨bb1, k * 2 + 1, none⟩) p1 (fun hm => nomatch hm); first | (go_simp; done) | (go_simp; with_reducible rfl)
        case' hk => skip
        try simp only [Act.put, List.setIfInBounds_toArray, List.set_cons_zero, List.set_cons_succ]
        apply rel_val (hrf := Tk_refl)
        case hw => rfl
        case hy => intro wS hN hF; skip; first | (go_simp; done) | (go_simp; with_reducible rfl)
        case' hk => skip
        try simp only [Act.put, List.setIfInBounds_toArray, List.set_cons_zero, List.set_cons_succ]
        apply rel_val (hrf := Tk_refl)
        case hw => rfl
        case hy => intro wS hN hF; skip; first | (go_simp; done) | (go_simp; with_reducible rfl)
        case' hk => skip
        try simp only [Act.put, List.setIfInBounds_toArray, List.set_cons_zero, List.set_cons_succ]
        apply rel_val (hrf := Tk_refl)
        case hw => rfl
        case hy => intro wS hN hF; skip; first | (go_simp; done) | (go_simp; with_reducible rfl)
        case' hk => skip
        try simp only [Act.put, List.setIfInBounds_toArray, List.set_cons_zero, List.set_cons_succ]
        apply rel_val (hrf := Tk_refl)
        case hw => rfl
        case hy => intro wS hN hF; have hO := hN.pre (by kernel_rfl); have h0 := hO.cellSome (p := ⟨bb2, k * 2, none⟩) q0 (fun hm => nomatch hm); have h1 := hO.cellSome (p := ⟨bb2, k * 2 + 1, none⟩) q1 (fun hm => nomatch hm); first | (go_simp; done) | (go_simp; with_reducible rfl)
        case' hk => skip
        try simp only [Act.put, List.setIfInBounds_toArray, List.set_cons_zero, List.set_cons_succ]
        apply rel_call (v := .bool true) (f := 16) (args := #[.agg #[.int .i64 (K : Int), .slice A7 D c7], .agg #[.int .i64 (K : Int), .slice A8 D c8]])
        case hw => rfl
        case hy => intro wS hN hF; go_simp
        case hc => intro wS hN hF; exact call_only (same_yes K A7 A8 D c7 c8 d wS (V7.keep ((Only.refl [] _).drew.then (hN.pre (by kernel_rfl)))) (V8.keep ((Only.refl [] _).drew.then (hN.pre (by kernel_rfl)))))
        case' hk => skip
        try simp only [Act.put, List.setIfInBounds_toArray, List.set_cons_zero, List.set_cons_succ]
        apply rel_val (hrf := Tk_refl)
        case hw => rfl
        case hy => intro wS hN hF; skip; first | (go_simp; done) | (go_simp; with_reducible rfl)
        case' hk => skip
        try simp only [Act.put, List.setIfInBounds_toArray, List.set_cons_zero, List.set_cons_succ]
        refine rel_end ?_
        intro wS hO hF
        clear hF
        go_wp2
        go_roundw
        case rel => exact ⟨k + 1, by omega, by go_num, QR.drew.then hO.only⟩
        case measure => simp [intOf]; omega
      · have hlt' : ¬ (k : Int) < (n6 : Int) := by omega
        go_wp2_with (go_at_call 20; (with_reducible refine (known_any _).mono ?_); rintro e w9 ⟨rfl, O9⟩)
        go_ret
        exact ⟨rfl, (Q6.then QR).then O9⟩
  · have hbig' : (4096 : Int) < (n0 : Int) ∨ ((n0 : Int) ≤ 4096 ∧ (200 : Int) < (m : Int)) := by omega
    clear hbig
    rcases hbig' with h1 | ⟨h1, h2⟩
    all_goals
      go_enter Try.func4, Try.ntmps4
      go_wp2
      go_ret
      exact ⟨rfl, Only.refl _ _⟩
end Go.Proofs.Ytiekhgignmbaeaa
