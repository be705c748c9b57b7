/-
  The walk of the law DiskNames.
-/
import Derived.Test.YtbciompelpbkdaaDTexts
import Derived.Test.YtbciompelpbkdaaDList
namespace Go.Proofs.Ytbciompelpbkdaa
open Go.RowKit Go.Maps
theorem texts_one (A A' : Option Addr) (n c n' c' : Nat) (ss : List ByteArray) (w : World) (ha : Sl w A n (ss.map Value.string)) (hb : Sl w A' n' (ss.map Value.string)) (hn : n ≤ 4611686018427387904) :
    Calls Try.prog 29 #[.slice A n c, .slice A' n' c'] w fun e w' => e = .returned (.bool true) ∧ Only [] w w' := (texts_q A A' n c n' c' ss w ha hb hn).mono fun _ _ h => ⟨h.1, h.only⟩
theorem list_y {w : World} {d : Nat} {F : List Nat} {room la : Nat} {q : List UInt8} {fu : Option Nat} (h : Disk w d F ⟨room, [⟨nameY, q, la⟩], fu⟩) :
    Calls Try.prog 27 #[.pointer (some ⟨d, 0, none⟩)] w fun e w' => ∃ A c, e = .returned (.slice A 1 c) ∧ Own w' 9 A 1 c [.string nameY] ∧ Only [] w w' ∧ ∀ k ∈ blks A, w.heap.size ≤ k := list_any h

set_option maxRecDepth 100000 in
set_option maxHeartbeats 4000000 in
theorem names_any (A1 A2 A3 : Option Addr) (n1 n2 n3 c1 c2 c3 : Nat) (a b l : List UInt8) (sync : Bool) (w : World) (h1 : Sl w A1 n1 (bvs a)) (h2 : Sl w A2 n2 (bvs b)) (h3 : Sl w A3 n3 (bvs l)) (m1 : n1 ≤ 140737488355328) (m2 : n2 ≤ 140737488355328) (m3 : n3 ≤ 140737488355328) :
    Calls Try.prog 8 #[.slice A1 n1 c1, .slice A2 n2 c2, .slice A3 n3 c3, .bool sync] w fun e w' => e = .returned (.bool true) ∧ Only [] w w' := by
  obtain ⟨i0, hi, hz0, hz1, hz2⟩ := info_parts infoByte
  have la : a.length = n1 := by simpa using h1.len
  have lb : b.length = n2 := by simpa using h2.len
  have lc : l.length = n3 := by simpa using h3.len
  have hA1 : Hid (∀ _ : 0 < n1, ∀ ad, A1 = some ad → ∀ F : List Nat, ad.block ∈ F → (∀ x ∈ F, w.heap.size ≤ x) → False) := fun hp ad e F hx hF => by have h4 := h1.lt hp ad e; have h5 := hF _ hx; omega
  have hA2 : Hid (∀ _ : 0 < n2, ∀ ad, A2 = some ad → ∀ F : List Nat, ad.block ∈ F → (∀ x ∈ F, w.heap.size ≤ x) → False) := fun hp ad e F hx hF => by have h4 := h2.lt hp ad e; have h5 := hF _ hx; omega
  have hA3 : Hid (∀ _ : 0 < n3, ∀ ad, A3 = some ad → ∀ F : List Nat, ad.block ∈ F → (∀ x ∈ F, w.heap.size ≤ x) → False) := fun hp ad e F hx hF => by have h4 := h3.lt hp ad e; have h5 := hF _ hx; omega
  by_cases hbig : 8000 < n1 + n2 + n3
  · have hb' : (8000 : Int) < (n1 : Int) + (n2 : Int) + (n3 : Int) := by omega
    clear hbig la lb lc hA1 hA2 hA3 hi hz0 hz1 hz2
    go_enter Try.func8, Try.ntmps8
    go_wp2
    go_ret
    exact ⟨rfl, Only.refl _ _⟩
  · have hb' : (n1 : Int) + (n2 : Int) + (n3 : Int) ≤ 8000 := by omega
    cases sync with
    | true =>
      have E2 : errA ⟨1048576, [], none⟩ nameX a = 0 ∧ appendS ⟨1048576, [], none⟩ nameX a = ⟨1048576, [⟨nameX, a, 0⟩], none⟩ := app_new okX (by simp) (by omega)
      have E3 : errF ⟨1048576, [⟨nameX, a, 0⟩], none⟩ nameX = 0 ∧ syncS ⟨1048576, [⟨nameX, a, 0⟩], none⟩ nameX = ⟨1048576, [⟨nameX, a, a.length⟩], none⟩ := sync_file okX (by simp)
      have E4 : errA ⟨1048576, [⟨nameX, a, a.length⟩], none⟩ nameX b = 0 ∧ appendS ⟨1048576, [⟨nameX, a, a.length⟩], none⟩ nameX b = ⟨1048576, [⟨nameX, a ++ b, a.length⟩], none⟩ := app_file okX (by simp) (by omega)
      have E5 : errA ⟨1048576, [⟨nameX, a ++ b, a.length⟩], none⟩ nameY l = 0 ∧ appendS ⟨1048576, [⟨nameX, a ++ b, a.length⟩], none⟩ nameY l = ⟨1048576, [⟨nameX, a ++ b, a.length⟩, ⟨nameY, l, 0⟩], none⟩ := app_y (by rw [List.length_append]; omega)
      have E6 : errF ⟨1048576, [⟨nameX, a ++ b, a.length⟩, ⟨nameY, l, 0⟩], none⟩ nameX = 0 ∧ syncS ⟨1048576, [⟨nameX, a ++ b, a.length⟩, ⟨nameY, l, 0⟩], none⟩ nameX = ⟨1048576, [⟨nameX, a ++ b, (a ++ b).length⟩, ⟨nameY, l, 0⟩], none⟩ := sync_x
      have E7 : errR ⟨1048576, [⟨nameX, a ++ b, (a ++ b).length⟩, ⟨nameY, l, 0⟩], none⟩ nameX nameY = 0 ∧ renameS ⟨1048576, [⟨nameX, a ++ b, (a ++ b).length⟩, ⟨nameY, l, 0⟩], none⟩ nameX nameY = ⟨1048576, [⟨nameY, a ++ b, (a ++ b).length⟩], none⟩ := ren_xy
      have E10 : errR ⟨1048576, [⟨nameY, a ++ b, (a ++ b).length⟩], none⟩ nameX nameZ = 7 ∧ renameS ⟨1048576, [⟨nameY, a ++ b, (a ++ b).length⟩], none⟩ nameX nameZ = ⟨1048576, [⟨nameY, a ++ b, (a ++ b).length⟩], none⟩ := ren_xz
      obtain ⟨R, hR⟩ : ∃ R, R = a ++ b := ⟨_, rfl⟩
      have E11 : crashS ⟨1048576, [⟨nameY, a ++ b, (a ++ b).length⟩], none⟩ 0 = ⟨1048576, [⟨nameY, R, (a ++ b).length⟩], none⟩ := by rw [crash_y, hR]; rw [List.take_length]
      obtain ⟨N, hN⟩ : ∃ N, N = R.length := ⟨_, rfl⟩
      have hN2 : N = n1 + n2 := by rw [hN, hR]; rw [List.length_append]; omega
      have E12 : readD ⟨1048576, [⟨nameY, R, (a ++ b).length⟩], none⟩ nameY = R ∧ readE ⟨1048576, [⟨nameY, R, (a ++ b).length⟩], none⟩ nameY = 0 := read_file
      have HRR : Hid (R = a ++ b) := hR
      have HRL : Hid (R.length = N) := hN.symm
      have HN : Hid (n1 + n2 = N) := hN2.symm
      have HNEW := Lib.hid (new_any (w := w) 1048576 (by omega))
      have H2 := Lib.hid (fun (W : World) (d : Nat) (F : List Nat) (hD : Disk W d F ⟨1048576, [], none⟩) (hs : Sl W A1 n1 (bvs a)) (hx : 0 < n1 → ∀ ad, A1 = some ad → ad.block ∉ F) => append_one hD nameX A1 n1 c1 a la hs hx)
      rw [E2.1, E2.2] at H2
      have H3 := Lib.hid (fun (W : World) (d : Nat) (F : List Nat) (hD : Disk W d F ⟨1048576, [⟨nameX, a, 0⟩], none⟩) => sync_one hD nameX)
      rw [E3.1, E3.2] at H3
      have H4 := Lib.hid (fun (W : World) (d : Nat) (F : List Nat) (hD : Disk W d F ⟨1048576, [⟨nameX, a, a.length⟩], none⟩) (hs : Sl W A2 n2 (bvs b)) (hx : 0 < n2 → ∀ ad, A2 = some ad → ad.block ∉ F) => append_one hD nameX A2 n2 c2 b lb hs hx)
      rw [E4.1, E4.2] at H4
      have H5 := Lib.hid (fun (W : World) (d : Nat) (F : List Nat) (hD : Disk W d F ⟨1048576, [⟨nameX, a ++ b, a.length⟩], none⟩) (hs : Sl W A3 n3 (bvs l)) (hx : 0 < n3 → ∀ ad, A3 = some ad → ad.block ∉ F) => append_one hD nameY A3 n3 c3 l lc hs hx)
      rw [E5.1, E5.2] at H5
      have H6 := Lib.hid (fun (W : World) (d : Nat) (F : List Nat) (hD : Disk W d F ⟨1048576, [⟨nameX, a ++ b, a.length⟩, ⟨nameY, l, 0⟩], none⟩) => sync_one hD nameX)
      rw [E6.1, E6.2] at H6
      have H7 := Lib.hid (fun (W : World) (d : Nat) (F : List Nat) (hD : Disk W d F ⟨1048576, [⟨nameX, a ++ b, (a ++ b).length⟩, ⟨nameY, l, 0⟩], none⟩) => rename_any hD nameX nameY)
      rw [E7.1, E7.2] at H7
      have HL := Lib.hid (fun (W : World) (d : Nat) (F : List Nat) (hD : Disk W d F ⟨1048576, [⟨nameY, a ++ b, (a ++ b).length⟩], none⟩) => list_y hD)
      have H10 := Lib.hid (fun (W : World) (d : Nat) (F : List Nat) (hD : Disk W d F ⟨1048576, [⟨nameY, a ++ b, (a ++ b).length⟩], none⟩) => rename_any hD nameX nameZ)
      rw [E10.1, E10.2] at H10
      have H11 := Lib.hid (fun (W : World) (d : Nat) (F : List Nat) (hD : Disk W d F ⟨1048576, [⟨nameY, a ++ b, (a ++ b).length⟩], none⟩) => crash_any hD 0 (by omega))
      rw [E11] at H11
      have HRD := Lib.hid (fun (W : World) (d : Nat) (F : List Nat) (hD : Disk W d F ⟨1048576, [⟨nameY, R, (a ++ b).length⟩], none⟩) => read_any hD nameY (by decide))
      rw [E12.1, E12.2] at HRD
      have hN8 : N ≤ 8000 := by omega
      clear E2 E3 E4 E5 E6 E7 E10 E11 E12 hR hN hN2 la lb lc
      go_enter Try.func8, Try.ntmps8
      go_wp2_with (first
        | (go_at_call 11; refine (known_any w16).mono ?_; rintro e w17 ⟨rfl, O17⟩; have Q17 := Q16.then O17)
        | (go_at_call 22; refine (same_eq A12 A14 N c12 N c14 R R _ rfl V122.sl V14.sl (by omega)).mono ?_; rintro e w16 ⟨rfl, O16⟩; have Q16 := Q14.then O16)
        | (at_builtin; refine wpList_append_sl rfl (.tmp 93) (.tmp 94) 32 rfl 5 i0 (.int .u8 0) 1 Try.underlying32 hi hz0 hz1 hz2 rfl A13 n1 c13 _ rfl V13 A2 n2 c2 (bvs b) rfl (h2.keep Q13) (bvs_one _) (by unfold maxLen; omega) (by omega) ?_; intro A14 c14 w14 V14 O14 B14; rw [← bvs_append, ← HRR.out, HN.out] at V14; rw [HN.out]; have Q14 := Q13.trans O14 (fun x hx => .inr (z13 x hx)); have V122 := V12.keep (O12a.trans O14 (fun x hx => .inr (y13 x hx))))
        | (at_builtin; refine wpList_append_sl rfl (.tmp 89) (.tmp 90) 32 rfl 5 i0 (.int .u8 0) 1 Try.underlying32 hi hz0 hz1 hz2 rfl _ 0 0 [] rfl (World.ownsRow_lit _ #[] 0 (Nat.zero_le _) (Nat.zero_le _) rfl) A1 n1 c1 (bvs a) rfl (h1.keep (Q12.alloc _)) (bvs_one _) (by unfold maxLen; omega) (by omega) ?_; intro A13 c13 w13 V13 O13 B13; rw [List.nil_append] at V13; have O12a := (((Only.refl [] w12).alloc (.cells #[] 5)).trans O13 (fun x hx => by simp at hx; exact .inr (by omega))); have Q13 := Q12.then O12a; have y13 : ∀ x ∈ blks A13, w12.heap.size ≤ x := (fun x hx => by rcases B13 x hx with h | h; (simp at h; omega); (rw [World.size_alloc] at h; omega)); have z13 : ∀ x ∈ blks A13, w.heap.size ≤ x := (fun x hx => by have h1 := y13 x hx; have h2 := Q12.size; omega); rw [Nat.zero_add] at V13; rw [Nat.zero_add n1]; clear Q12)
        | (go_at_call 21; refine (HRD.out w11 d F11 D11).mono ?_; rintro e w12 ⟨A12, c12, rfl, V12, O12, B12⟩; rw [HRL.out] at V12 ⊢; have Q12 := Q11.then O12; clear HRD)
        | (go_at_call 17; refine (H11.out w10 d F10 D10).mono ?_; rintro e w11 ⟨rfl, F11, D11, O11, B11⟩; have Q11 := Q10.fresh O11 P10; have P11 := fresh_fp Q10 P10 B11; clear H11)
        | (go_at_call 26; refine (H10.out w9 d F7 D9).mono ?_; rintro e w10 ⟨rfl, F10, D10, O10, B10⟩; have Q10 := Q9.fresh O10 P7; have P10 := fresh_fp Q9 P7 B10; clear H10)
        | (go_at_call 29; refine (texts_one A8 (some ⟨w8.heap.size, 0, none⟩) 1 c8 1 1 [nameY] _ (V8.sl.alloc _) (sl_name w8 nameY) (by omega)).mono ?_; rintro e w9 ⟨rfl, O9⟩; have O79 := (O8.alloc (.cells #[.string nameY] 9)).then O9; have D9 := D7.keep O79; have Q9 := Q7.then O79)
        | (go_at_call 27; refine (HL.out w7 d F7 D7).mono ?_; rintro e w8 ⟨A8, c8, rfl, V8, O8, B8⟩; clear HL)
        | (go_at_call 26; refine (H7.out w6 d F6 D6).mono ?_; rintro e w7 ⟨rfl, F7, D7, O7, B7⟩; have Q7 := Q6.fresh O7 P6; have P7 := fresh_fp Q6 P6 B7; clear H7)
        | (go_at_call 20; refine (H6.out w5 d F5 D5).mono ?_; rintro e w6 ⟨rfl, F6, D6, O6, B6⟩; have Q6 := Q5.fresh O6 P5; have P6 := fresh_fp Q5 P5 B6; clear H6)
        | (go_at_call 16; refine (H5.out w4 d F4 D4 (h3.keep Q4) (fun hp ad e hx => hA3.out hp ad e _ hx P4)).mono ?_; rintro e w5 ⟨rfl, F5, D5, O5, B5⟩; have Q5 := Q4.fresh O5 P4; have P5 := fresh_fp Q4 P4 B5; clear H5)
        | (go_at_call 16; refine (H4.out w3 d F3 D3 (h2.keep Q3) (fun hp ad e hx => hA2.out hp ad e _ hx P3)).mono ?_; rintro e w4 ⟨rfl, F4, D4, O4, B4⟩; have Q4 := Q3.fresh O4 P3; have P4 := fresh_fp Q3 P3 B4; clear H4)
        | (go_at_call 20; refine (H3.out w2 d F2 D2).mono ?_; rintro e w3 ⟨rfl, F3, D3, O3, B3⟩; have Q3 := Q2.fresh O3 P2; have P3 := fresh_fp Q2 P2 B3; clear H3)
        | (go_at_call 16; refine (H2.out w1 d [d] D1 (h1.keep Q1) (fun hp ad e hx => hA1.out hp ad e _ hx P1)).mono ?_; rintro e w2 ⟨rfl, F2, D2, O2, B2⟩; have Q2 := Q1.fresh O2 P1; have P2 := fresh_fp Q1 P1 B2; clear H2)
        | (go_at_call 12; refine HNEW.out.mono ?_; rintro e w1 ⟨d, rfl, D1, Q1, hd⟩; have P1 : ∀ x ∈ [d], w.heap.size ≤ x := (fun x hx => by simp at hx; rw [hx]; exact hd)))
      go_ret
      exact ⟨rfl, Q17⟩
    | false =>
      have E2 : errA ⟨1048576, [], none⟩ nameX a = 0 ∧ appendS ⟨1048576, [], none⟩ nameX a = ⟨1048576, [⟨nameX, a, 0⟩], none⟩ := app_new okX (by simp) (by omega)
      have E3 : errF ⟨1048576, [⟨nameX, a, 0⟩], none⟩ nameX = 0 ∧ syncS ⟨1048576, [⟨nameX, a, 0⟩], none⟩ nameX = ⟨1048576, [⟨nameX, a, a.length⟩], none⟩ := sync_file okX (by simp)
      have E4 : errA ⟨1048576, [⟨nameX, a, a.length⟩], none⟩ nameX b = 0 ∧ appendS ⟨1048576, [⟨nameX, a, a.length⟩], none⟩ nameX b = ⟨1048576, [⟨nameX, a ++ b, a.length⟩], none⟩ := app_file okX (by simp) (by omega)
      have E5 : errA ⟨1048576, [⟨nameX, a ++ b, a.length⟩], none⟩ nameY l = 0 ∧ appendS ⟨1048576, [⟨nameX, a ++ b, a.length⟩], none⟩ nameY l = ⟨1048576, [⟨nameX, a ++ b, a.length⟩, ⟨nameY, l, 0⟩], none⟩ := app_y (by rw [List.length_append]; omega)
      have E6 : errF ⟨1048576, [⟨nameX, a ++ b, a.length⟩, ⟨nameY, l, 0⟩], none⟩ nameX = 0 ∧ syncS ⟨1048576, [⟨nameX, a ++ b, a.length⟩, ⟨nameY, l, 0⟩], none⟩ nameX = ⟨1048576, [⟨nameX, a ++ b, (a ++ b).length⟩, ⟨nameY, l, 0⟩], none⟩ := sync_x
      have E7 : errR ⟨1048576, [⟨nameX, a ++ b, a.length⟩, ⟨nameY, l, 0⟩], none⟩ nameX nameY = 0 ∧ renameS ⟨1048576, [⟨nameX, a ++ b, a.length⟩, ⟨nameY, l, 0⟩], none⟩ nameX nameY = ⟨1048576, [⟨nameY, a ++ b, a.length⟩], none⟩ := ren_xy
      have E10 : errR ⟨1048576, [⟨nameY, a ++ b, a.length⟩], none⟩ nameX nameZ = 7 ∧ renameS ⟨1048576, [⟨nameY, a ++ b, a.length⟩], none⟩ nameX nameZ = ⟨1048576, [⟨nameY, a ++ b, a.length⟩], none⟩ := ren_xz
      obtain ⟨R, hR⟩ : ∃ R, R = a := ⟨_, rfl⟩
      have E11 : crashS ⟨1048576, [⟨nameY, a ++ b, a.length⟩], none⟩ 0 = ⟨1048576, [⟨nameY, R, a.length⟩], none⟩ := by rw [crash_y, hR]; rw [List.take_left]
      obtain ⟨N, hN⟩ : ∃ N, N = R.length := ⟨_, rfl⟩
      have hN2 : N = n1 := by rw [hN, hR]; exact la
      have E12 : readD ⟨1048576, [⟨nameY, R, a.length⟩], none⟩ nameY = R ∧ readE ⟨1048576, [⟨nameY, R, a.length⟩], none⟩ nameY = 0 := read_file
      have HRR : Hid (R = a) := hR
      have HRL : Hid (R.length = n1) := hN.symm.trans hN2
      have HN : Hid (n1 = N) := hN2.symm
      have HNEW := Lib.hid (new_any (w := w) 1048576 (by omega))
      have H2 := Lib.hid (fun (W : World) (d : Nat) (F : List Nat) (hD : Disk W d F ⟨1048576, [], none⟩) (hs : Sl W A1 n1 (bvs a)) (hx : 0 < n1 → ∀ ad, A1 = some ad → ad.block ∉ F) => append_one hD nameX A1 n1 c1 a la hs hx)
      rw [E2.1, E2.2] at H2
      have H3 := Lib.hid (fun (W : World) (d : Nat) (F : List Nat) (hD : Disk W d F ⟨1048576, [⟨nameX, a, 0⟩], none⟩) => sync_one hD nameX)
      rw [E3.1, E3.2] at H3
      have H4 := Lib.hid (fun (W : World) (d : Nat) (F : List Nat) (hD : Disk W d F ⟨1048576, [⟨nameX, a, a.length⟩], none⟩) (hs : Sl W A2 n2 (bvs b)) (hx : 0 < n2 → ∀ ad, A2 = some ad → ad.block ∉ F) => append_one hD nameX A2 n2 c2 b lb hs hx)
      rw [E4.1, E4.2] at H4
      have H5 := Lib.hid (fun (W : World) (d : Nat) (F : List Nat) (hD : Disk W d F ⟨1048576, [⟨nameX, a ++ b, a.length⟩], none⟩) (hs : Sl W A3 n3 (bvs l)) (hx : 0 < n3 → ∀ ad, A3 = some ad → ad.block ∉ F) => append_one hD nameY A3 n3 c3 l lc hs hx)
      rw [E5.1, E5.2] at H5
      have H7 := Lib.hid (fun (W : World) (d : Nat) (F : List Nat) (hD : Disk W d F ⟨1048576, [⟨nameX, a ++ b, a.length⟩, ⟨nameY, l, 0⟩], none⟩) => rename_any hD nameX nameY)
      rw [E7.1, E7.2] at H7
      have HL := Lib.hid (fun (W : World) (d : Nat) (F : List Nat) (hD : Disk W d F ⟨1048576, [⟨nameY, a ++ b, a.length⟩], none⟩) => list_y hD)
      have H10 := Lib.hid (fun (W : World) (d : Nat) (F : List Nat) (hD : Disk W d F ⟨1048576, [⟨nameY, a ++ b, a.length⟩], none⟩) => rename_any hD nameX nameZ)
      rw [E10.1, E10.2] at H10
      have H11 := Lib.hid (fun (W : World) (d : Nat) (F : List Nat) (hD : Disk W d F ⟨1048576, [⟨nameY, a ++ b, a.length⟩], none⟩) => crash_any hD 0 (by omega))
      rw [E11] at H11
      have HRD := Lib.hid (fun (W : World) (d : Nat) (F : List Nat) (hD : Disk W d F ⟨1048576, [⟨nameY, R, a.length⟩], none⟩) => read_any hD nameY (by decide))
      rw [E12.1, E12.2] at HRD
      have hN8 : N ≤ 8000 := by omega
      clear E2 E3 E4 E5 E6 E7 E10 E11 E12 hR hN hN2 la lb lc
      go_enter Try.func8, Try.ntmps8
      go_wp2_with (first
        | (go_at_call 11; refine (known_any w16).mono ?_; rintro e w17 ⟨rfl, O17⟩; have Q17 := Q16.then O17)
        | (go_at_call 22; refine (same_eq A12 A13 n1 c12 n1 c13 R R _ rfl V122.sl V13.sl (by omega)).mono ?_; rintro e w16 ⟨rfl, O16⟩; have Q16 := Q13.then O16)
        | (at_builtin; refine wpList_append_sl rfl (.tmp 89) (.tmp 90) 32 rfl 5 i0 (.int .u8 0) 1 Try.underlying32 hi hz0 hz1 hz2 rfl _ 0 0 [] rfl (World.ownsRow_lit _ #[] 0 (Nat.zero_le _) (Nat.zero_le _) rfl) A1 n1 c1 (bvs a) rfl (h1.keep (Q12.alloc _)) (bvs_one _) (by unfold maxLen; omega) (by omega) ?_; intro A13 c13 w13 V13 O13 B13; rw [List.nil_append] at V13; have O12a := (((Only.refl [] w12).alloc (.cells #[] 5)).trans O13 (fun x hx => by simp at hx; exact .inr (by omega))); have Q13 := Q12.then O12a; have y13 : ∀ x ∈ blks A13, w12.heap.size ≤ x := (fun x hx => by rcases B13 x hx with h | h; (simp at h; omega); (rw [World.size_alloc] at h; omega)); have z13 : ∀ x ∈ blks A13, w.heap.size ≤ x := (fun x hx => by have h1 := y13 x hx; have h2 := Q12.size; omega); rw [Nat.zero_add] at V13; rw [Nat.zero_add n1]; rw [← HRR.out] at V13; have V122 := V12.keep O12a; clear Q12)
        | (go_at_call 21; refine (HRD.out w11 d F11 D11).mono ?_; rintro e w12 ⟨A12, c12, rfl, V12, O12, B12⟩; rw [HRL.out] at V12 ⊢; have Q12 := Q11.then O12; clear HRD)
        | (go_at_call 17; refine (H11.out w10 d F10 D10).mono ?_; rintro e w11 ⟨rfl, F11, D11, O11, B11⟩; have Q11 := Q10.fresh O11 P10; have P11 := fresh_fp Q10 P10 B11; clear H11)
        | (go_at_call 26; refine (H10.out w9 d F7 D9).mono ?_; rintro e w10 ⟨rfl, F10, D10, O10, B10⟩; have Q10 := Q9.fresh O10 P7; have P10 := fresh_fp Q9 P7 B10; clear H10)
        | (go_at_call 29; refine (texts_one A8 (some ⟨w8.heap.size, 0, none⟩) 1 c8 1 1 [nameY] _ (V8.sl.alloc _) (sl_name w8 nameY) (by omega)).mono ?_; rintro e w9 ⟨rfl, O9⟩; have O79 := (O8.alloc (.cells #[.string nameY] 9)).then O9; have D9 := D7.keep O79; have Q9 := Q7.then O79)
        | (go_at_call 27; refine (HL.out w7 d F7 D7).mono ?_; rintro e w8 ⟨A8, c8, rfl, V8, O8, B8⟩; clear HL)
        | (go_at_call 26; refine (H7.out w5 d F5 D5).mono ?_; rintro e w7 ⟨rfl, F7, D7, O7, B7⟩; have Q7 := Q5.fresh O7 P5; have P7 := fresh_fp Q5 P5 B7; clear H7)
        | (go_at_call 16; refine (H5.out w4 d F4 D4 (h3.keep Q4) (fun hp ad e hx => hA3.out hp ad e _ hx P4)).mono ?_; rintro e w5 ⟨rfl, F5, D5, O5, B5⟩; have Q5 := Q4.fresh O5 P4; have P5 := fresh_fp Q4 P4 B5; clear H5)
        | (go_at_call 16; refine (H4.out w3 d F3 D3 (h2.keep Q3) (fun hp ad e hx => hA2.out hp ad e _ hx P3)).mono ?_; rintro e w4 ⟨rfl, F4, D4, O4, B4⟩; have Q4 := Q3.fresh O4 P3; have P4 := fresh_fp Q3 P3 B4; clear H4)
        | (go_at_call 20; refine (H3.out w2 d F2 D2).mono ?_; rintro e w3 ⟨rfl, F3, D3, O3, B3⟩; have Q3 := Q2.fresh O3 P2; have P3 := fresh_fp Q2 P2 B3; clear H3)
        | (go_at_call 16; refine (H2.out w1 d [d] D1 (h1.keep Q1) (fun hp ad e hx => hA1.out hp ad e _ hx P1)).mono ?_; rintro e w2 ⟨rfl, F2, D2, O2, B2⟩; have Q2 := Q1.fresh O2 P1; have P2 := fresh_fp Q1 P1 B2; clear H2)
        | (go_at_call 12; refine HNEW.out.mono ?_; rintro e w1 ⟨d, rfl, D1, Q1, hd⟩; have P1 : ∀ x ∈ [d], w.heap.size ≤ x := (fun x hx => by simp at hx; rw [hx]; exact hd)))
      go_ret
      exact ⟨rfl, Q17⟩
end Go.Proofs.Ytbciompelpbkdaa
