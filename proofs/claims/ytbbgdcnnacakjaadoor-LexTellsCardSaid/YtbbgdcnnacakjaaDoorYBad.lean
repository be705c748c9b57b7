/-
  The walk of the law LexBad (laid by gen/ybad.py).
-/
import Derived.Test.YtbbgdcnnacakjaaDoorYBadM
import Derived.Test.YtbbgdcnnacakjaaDoorRelOps
namespace Go.Proofs.YtbbgdcnnacakjaaDoor
open Go.RowKit Go.Instr

theorem txt_get (s : ByteArray) {k : Nat} (_h : k < s.size) (h' : k < s.data.toList.length) : (s[k] : UInt8) = s.data.toList[k] := by simp [ByteArray.getElem_eq_getElem_data]
theorem sl_two (w : World) (t : TypeId) (E F : Int) (a b : UInt8) (h : E = (a.toNat : Int)) (h2 : F = (b.toNat : Int)) : Sl (w.alloc (.cells #[.int .u8 E, .int .u8 F] t)) (some ⟨w.heap.size, 0, none⟩) 2 (bvs [a, b]) := by
  subst h h2
  exact Sl.of_bk (Bk.new w t #[bv a, bv b])
theorem Rb.two {w : World} {g : Nat} {t : TypeId} {A A2 : Option Addr} {c c2 : Nat} {l l2 : List UInt8} (h : Bk w g t #[.slice A l.length c, .slice A2 l2.length c2]) (hs : Bt w A l.length c l) (hs2 : Bt w A2 l2.length c2 l2) : Rb w (some ⟨g, 0, none⟩) 2 [l, l2] :=
  ⟨rfl, _, Sl.of_bk h, fun i l' hi => by
    match i, hi with
    | 0, hi => simp at hi; subst hi; exact ⟨A, c, by simp, hs⟩
    | 1, hi => simp at hi; subst hi; exact ⟨A2, c2, by simp, hs2⟩⟩
/-- Lex refuses one line. -/
theorem lex_bad {w : World} {g : Nat} {t : TypeId} {A : Option Addr} {n c : Nat} {l : List UInt8} {x : Int} (hg : Bk w g t #[.slice A n c]) (h : Bt w A n c l) (hn : n ≤ 1000000) (hx : lexL [l] [] = .error x) :
    Calls Tryd.prog 10 #[.slice (some ⟨g, 0, none⟩) 1 1, .slice none 0 0] w fun e w' => e = .returned (.tuple #[.slice none 0 0, .int .i64 x]) ∧ Only [] w w' := by
  have := one_line hg h hn
  rw [hx] at this
  exact this.mono fun e w' he => ⟨he.2, he.1⟩
def chW (y : Int) (W : World) : World := (((W.alloc (.cells #[.int .u8 123, .int .u8 49, .int .u8 125] 5 (3, 4))).alloc (.cells #[.slice (some ⟨W.heap.size, 0, none⟩) 3 3, .slice none 0 0] 32)).alloc (.cells #[.int .u8 y] 5)).alloc (.cells #[.slice (some ⟨W.heap.size + 1 + 1, 0, none⟩) 1 1] 32)
theorem lex_three (c : UInt8) (W : World) : Calls Tryd.prog 10 #[.slice (some ⟨W.heap.size + 1, 0, none⟩) 2 2, .slice (some ⟨W.heap.size + 1 + 1 + 1, 0, none⟩) 1 1] (chW (c.toNat : Int) W)
    fun e w' => ∃ g c', e = .returned (.tuple #[.slice (some ⟨g, 0, none⟩) 1 c', .int .i64 0]) ∧ Only [] W w' ∧ w'.cell? ⟨g, 1, none⟩ = some (.string (St [c])) := by
  obtain ⟨W1, hW1⟩ : ∃ W1, W.alloc (.cells #[.int .u8 123, .int .u8 49, .int .u8 125] 5 (3, 4)) = W1 := ⟨_, rfl⟩
  obtain ⟨W2, hW2⟩ : ∃ W2, W1.alloc (.cells #[.slice (some ⟨W.heap.size, 0, none⟩) 3 3, .slice none 0 0] 32) = W2 := ⟨_, rfl⟩
  obtain ⟨W3, hW3⟩ : ∃ W3, W2.alloc (.cells #[.int .u8 (c.toNat : Int)] 5) = W3 := ⟨_, rfl⟩
  obtain ⟨W4, hW4⟩ : ∃ W4, W3.alloc (.cells #[.slice (some ⟨W.heap.size + 1 + 1, 0, none⟩) 1 1] 32) = W4 := ⟨_, rfl⟩
  have z1 : W1.heap.size = W.heap.size + 1 := by rw [← hW1]; simp
  have z2 : W2.heap.size = W.heap.size + 1 + 1 := by rw [← hW2]; simp [z1]
  have z3 : W3.heap.size = W.heap.size + 1 + 1 + 1 := by rw [← hW3]; simp [z2]
  have o1 : Only [] W W1 := by rw [← hW1]; exact (Only.refl _ _).alloc _
  have o2 : Only [] W1 W2 := by rw [← hW2]; exact (Only.refl _ _).alloc _
  have o3 : Only [] W2 W3 := by rw [← hW3]; exact (Only.refl _ _).alloc _
  have o4 : Only [] W3 W4 := by rw [← hW4]; exact (Only.refl _ _).alloc _
  have b1 : Bt W1 (some ⟨W.heap.size, 0, none⟩) 3 3 [123, 49, 125] := by rw [← hW1]; exact bt_lit W #[.int .u8 123, .int .u8 49, .int .u8 125] [123, 49, 125] 3 (3, 4) rfl rfl (by decide)
  have b3 : Bt W3 (some ⟨W.heap.size + 1 + 1, 0, none⟩) 1 1 [c] := by
    have := bt_lit W2 #[.int .u8 (c.toNat : Int)] [c] 1 (0, 0) rfl rfl (by decide)
    rw [z2] at this
    rw [← hW3]
    exact this
  have k2 : Bk W2 (W.heap.size + 1) 32 #[.slice (some ⟨W.heap.size, 0, none⟩) 3 3, .slice none 0 0] := by rw [← hW2, ← z1]; exact Bk.new _ _ _
  have k4 : Bk W4 (W.heap.size + 1 + 1 + 1) 32 #[.slice (some ⟨W.heap.size + 1 + 1, 0, none⟩) 1 1] := by rw [← hW4, ← z3]; exact Bk.new _ _ _
  have hch : chW (c.toNat : Int) W = W4 := by unfold chW; rw [hW1, hW2, hW3, hW4]
  have h := Lex_any (lc := 2) (bc := 1) (Rb.two ((k2.only o3 (fun hm => nomatch hm)).only o4 (fun hm => nomatch hm)) (l := [123, 49, 125]) (l2 := []) (((b1.keep o2).keep o3).keep o4) (Bt.none_ _)) (Rb.one k4 (l := [c]) (b3.keep o4)) (by omega) (by omega) (fun l hl => by
    simp only [List.mem_cons, List.not_mem_nil, or_false] at hl
    rcases hl with rfl | rfl <;> simp)
  rw [bad_three] at h
  rw [hch]
  refine h.mono fun e w' hr => ?_
  obtain ⟨hO, A, c', he, hg, hA⟩ := hr
  obtain ⟨g, rfl⟩ := hg.form (by simp)
  refine ⟨g, c', he, (((o1.then o2).then o3).then o4).then hO, ?_⟩
  obtain ⟨ad, e1, hc⟩ := hg.reads.2 (by simp)
  injection e1 with e1
  subst e1
  have := hc 1 (.string (St [c])) rfl
  rwa [add_none] at this
set_option maxRecDepth 100000 in
set_option maxHeartbeats 16000000 in
theorem lexbad_any (c : UInt8) (s : ByteArray) (w : World) (hs : s.size ≤ 140737488351232) :
    Calls Tryd.prog 7 #[bv c, .string s] w fun e w' => e = .returned (.bool true) ∧ Only [] w w' := by
  have hc8 := byte_lt c
  have HFB : Hid (foreignB c = (decide (c.toNat < 32) || decide (126 < c.toNat))) := rfl
  have HL3 := Lib.hid (fun W => lex_three c W)
  have HCS : Hid (∀ W, (convert 32 9 (.slice (some ⟨World.heap W |>.size, 0, none⟩) 1 1)).run Tryd.prog ((W.alloc (.cells #[.int .u8 (c.toNat : Int)] 5)).drew) = .ok (.string (St [c])) ((W.alloc (.cells #[.int .u8 (c.toNat : Int)] 5)).drew)) := fun W =>
    run_str_sl (P := Tryd.prog) 32 9 5 (some ⟨W.heap.size, 0, none⟩) 1 1 [c] Tryd.underlying32 Tryd.underlying5 Tryd.underlying9 (Sl.of_bk (Bk.new W 5 #[bv c])).drew
  obtain ⟨y, hy⟩ : ∃ y, c.toNat = y := ⟨_, rfl⟩
  unfold bv
  rw [hy] at HL3 HCS ⊢
  have HY := Lib.hid hy
  by_cases h1 : 32 ≤ y ∧ y ≤ 126
  · obtain ⟨h1a, h1b⟩ := h1
    have h1c : (32 : Int) ≤ (y : Int) := by omega
    have h1d : (y : Int) ≤ 126 := by omega
    clear HL3 HCS
    go_enter Tryd.func7, Tryd.ntmps7
    go_wp2_with fail
    go_ret
    exact ⟨rfl, Only.refl _ _⟩
  have HFC : Hid (foreignB c = true) := by
    show _ = _
    rw [HFB.out, hy]
    by_cases h : y < 32
    · rw [decide_eq_true h]; rfl
    · rw [decide_eq_true (p := 126 < y) (by omega)]; simp
  have hor : (y : Int) < 32 ∨ (126 : Int) < (y : Int) := by omega
  have hy8 : y < 256 := by omega
  obtain ⟨i0, hi, hz0, hz1, hz2⟩ := info_parts infoByte
  have kc := fun (w : World) (C : Array Value) (n c : Nat) => Lib.run_convert_bytes_const (P := Tryd.prog) w 32 5 C n c Tryd.underlying32 Tryd.underlying5
  obtain ⟨tc, htc⟩ : ∃ tc, St [c] = tc := ⟨_, rfl⟩
  rw [htc] at HL3 HCS
  have HTC := Lib.hid htc
  clear h1 hy hc8 htc HFB
  by_cases h60 : 60 < s.size
  · have h60' : (60 : Int) < (s.size : Int) := by omega
    clear HL3 HCS
    rcases hor with hor | hor
    · go_enter Tryd.func7, Tryd.ntmps7
      go_wp2_with fail
      go_ret
      exact ⟨rfl, Only.refl _ _⟩
    · have hor2 : (32 : Int) ≤ (y : Int) := by omega
      go_enter Tryd.func7, Tryd.ntmps7
      go_wp2_with fail
      go_ret
      exact ⟨rfl, Only.refl _ _⟩
  have h60' : ¬ (60 : Int) < (s.size : Int) := by omega
  have hsz : s.size ≤ 60 := by omega
  clear h60
  have hsl : s.data.toList.length = s.size := by simp
  have HSL := Lib.hid hsl
  clear hsl
  rcases hor with hor | hor
  · have hor2 : ¬ (32 : Int) ≤ (y : Int) := by omega
    go_enter Tryd.func7, Tryd.ntmps7
    go_wp2_with fail
    go_loopw [5] (fun iv wr => wr = w ∧ ∃ k : Nat, iv = .int .i64 (k : Int) ∧ k ≤ s.size ∧ Hid ((s.data.toList.take k).all calmB = true)) (fun iv _ => s.size - (intOf iv).toNat)
    case atStart => exact ⟨rfl, 0, rfl, by omega, rfl⟩
    case round =>
      obtain ⟨rfl, k, rfl, hk, HK⟩ := hrel
      by_cases hlt : k < s.size
      · have hlt' : (k : Int) < (s.size : Int) := by omega
        have hkl : k < s.data.toList.length := by rw [HSL.out]; exact hlt
        have HG := Lib.hid (txt_get s hlt hkl)
        obtain ⟨v, hv⟩ : ∃ v : Nat, (s[k] : UInt8).toNat = v := ⟨_, rfl⟩
        have hv8 : v < 256 := by rw [← hv]; exact byte_lt _
        have HV := Lib.hid hv
        have HNX : Hid ((97 ≤ v ∧ v ≤ 122) ∨ v = 32 → (s.data.toList.take (k + 1)).all calmB = true) := fun h => by
          rw [List.take_succ_eq_append_getElem hkl, List.all_append, HK.out]
          simp only [List.all_cons, List.all_nil, Bool.and_true, Bool.true_and]
          rw [← HG.out]
          unfold calmB wordB
          rw [hv]
          rcases h with h | h
          · rw [decide_eq_true h.1, decide_eq_true h.2]; rfl
          · rw [decide_eq_true (p := (s[k] : UInt8) = 32) (UInt8.toNat_inj.1 (by rw [hv, h]; rfl))]; simp
        have HM : Hid (s.size - (intOf (.int .i64 ((k : Int) + 1))).toNat < s.size - (intOf (.int .i64 (k : Int))).toNat) := by
          show s.size - ((k : Int) + 1).toNat < s.size - (k : Int).toNat
          omega
        by_cases hA : v < 97
        · have hA' : ((s[k] : UInt8).toNat : Int) < 97 := by rw [hv]; omega
          by_cases hB : v = 32
          · have hB' : (((s[k] : UInt8).toNat : Int) != 32) = false := by rw [hv, hB]; rfl
            have HR : Hid (∃ k' : Nat, Value.int .i64 ((k : Int) + 1) = .int .i64 (k' : Int) ∧ k' ≤ s.size ∧ Hid ((s.data.toList.take k').all calmB = true)) := ⟨k + 1, by simp, by omega, HNX.out (.inr hB)⟩
            clear hv hB HL3 HCS
            go_wp2_with fail
            exact ⟨⟨trivial, HR.out⟩, HM.out⟩
          · have hB' : (((s[k] : UInt8).toNat : Int) != 32) = true := by rw [hv, bne_iff_ne]; omega
            clear hv hB HL3 HCS
            go_wp2_with fail
            go_ret
            exact ⟨rfl, Only.refl _ _⟩
        · have hA' : ¬ ((s[k] : UInt8).toNat : Int) < 97 := by rw [hv]; omega
          by_cases hC : 122 < v
          · have hC' : (122 : Int) < ((s[k] : UInt8).toNat : Int) := by rw [hv]; omega
            have hB' : (((s[k] : UInt8).toNat : Int) != 32) = true := by rw [hv, bne_iff_ne]; omega
            clear hv HL3 HCS
            go_wp2_with fail
            go_ret
            exact ⟨rfl, Only.refl _ _⟩
          · have hC' : ¬ (122 : Int) < ((s[k] : UInt8).toNat : Int) := by rw [hv]; omega
            have HR : Hid (∃ k' : Nat, Value.int .i64 ((k : Int) + 1) = .int .i64 (k' : Int) ∧ k' ≤ s.size ∧ Hid ((s.data.toList.take k').all calmB = true)) := ⟨k + 1, by simp, by omega, HNX.out (.inl (by omega))⟩
            clear hv HL3 HCS
            go_wp2_with fail
            exact ⟨⟨trivial, HR.out⟩, HM.out⟩
      · obtain rfl : k = s.size := by omega
        have hall : s.data.toList.all calmB = true := by
          have := HK.out
          rwa [List.take_of_length_le (by rw [HSL.out]; exact Nat.le_refl _)] at this
        have HE1 := Lib.hid (bad_one HFC.out hall (by rw [HSL.out]; exact hsz))
        have HE2 := Lib.hid (bad_two HFC.out hall (by rw [HSL.out]; exact hsz))
        obtain ⟨w1, c1, hcv1, g1, O1⟩ := conv_gro s (by omega) wr
        have HX : Hid ((y : Int) = (c.toNat : Int)) := by show _ = _; rw [HY.out]
        have HCV := Lib.hid (fun W => conv_gro s (by omega) W)
        have hsn : (s.size : Int) + 1 ≤ 61 := by omega
        clear hall HK
        go_wp2_with first
          | (at_builtin; refine wpList_append_gro rfl (.tmp 47) (.tmp 49) 32 rfl 5 i0 (.int .u8 0) 1 Tryd.underlying32 hi hz0 hz1 hz2 rfl (some ⟨wr.heap.size, 0, none⟩) s.size c1 (bvs s.data.toList) rfl (g1.alloc _) _ 1 1 _ rfl (sl_one _ _ _ c HX.out) (bvs_one _) (by unfold maxLen; omega) (by omega) ?_; intro A2 c2 w2 G2 O2 B2; rw [← bvs_append] at G2; have HB2 := Lib.hid G2.bt; have HO2 : Hid (Only [] wr w2) := ((O1.alloc _).trans O2 (fun x hx => .inr (by simp at hx; omega))); clear G2 g1 B2 O2 O1 hcv1)
          | (go_at_call 10; refine (lex_bad (Bk.new _ _ _) (HB2.out.keep ((Only.refl _ _).alloc _)) (by omega) HE1.out).mono ?_; rintro e w3 ⟨rfl, O3⟩; have HO3 : Hid (Only [] wr w3) := (HO2.out.alloc _).then O3; clear HB2 HE1 O3; obtain ⟨w4, c4, hcv4, g4, O4⟩ := HCV.out w3; have hz4 : w3.heap.size ≤ w3.heap.size := Nat.le_refl _)
          | (at_builtin; refine wpList_append_gro rfl (.tmp 57) (.tmp 59) 32 rfl 5 i0 (.int .u8 0) 1 Tryd.underlying32 hi hz0 hz1 hz2 rfl (some ⟨w3.heap.size, 0, none⟩) s.size c4 (bvs s.data.toList) rfl (g4.alloc _) _ 2 2 _ rfl (sl_two _ _ _ _ 34 c rfl HX.out) (bvs_one _) (by unfold maxLen; omega) (by omega) ?_; intro A5 c5 w5 G5 O5 B5; rw [← bvs_append] at G5; have HO5 : Hid (Only [] wr w5) := (((HO3.out.then O4).alloc _).trans O5 (fun x hx => .inr (by have h3 := HO3.out.size; simp at hx; omega))); have hB5 : ∀ k ∈ blks A5, wr.heap.size ≤ k := (fun k hk => by have h3 := HO3.out.size; have h4 := O4.size; rcases B5 k hk with h | h; simp at h; omega; simp at h; omega); clear O4 O5 B5 g4 hcv4)
          | (at_builtin; refine wpList_append_gro rfl (.tmp 60) (.tmp 61) 32 rfl 5 i0 (.int .u8 0) 1 Tryd.underlying32 hi hz0 hz1 hz2 rfl A5 (s.size + 2) c5 _ rfl (G5.alloc _) _ 1 1 _ rfl (sl_one _ _ _ 34 rfl) (bvs_one _) (by unfold maxLen; omega) (by omega) ?_; intro A6 c6 w6 G6 O6 B6; rw [← bvs_append, List.append_assoc] at G6; have HB6 := Lib.hid G6.bt; have HO6 : Hid (Only [] wr w6) := ((HO5.out.alloc _).trans O6 (fun x hx => .inr (hB5 x hx))); clear G6 O6 B6 G5 hB5)
          | (go_at_call 10; refine (lex_bad (Bk.new _ _ _) (HB6.out.keep ((Only.refl _ _).alloc _)) (by omega) HE2.out).mono ?_; rintro e w7 ⟨rfl, O7⟩; have HO7 : Hid (Only [] wr w7) := (HO6.out.alloc _).then O7; clear HB6 HE2 O7)
          | (go_at_call 10; refine (HL3.out _).mono ?_; rintro e w8 ⟨g8, c8, rfl, O8, hc8⟩; have HO8 : Hid (Only [] wr w8) := HO7.out.then O8)
        have hcs := HCS.out
        clear HL3 HCS HCV
        apply region_only (by kernel_rfl) (by kernel_rfl)
        apply rel_val (hrf := Tk_refl)
        case hw => rfl
        case hy => intro wS hN hF; skip; first | (go_simp; done) | (go_simp; with_reducible rfl)
        case' hk => skip
        try simp only [Act.put, List.setIfInBounds_toArray, List.set_cons_zero, List.set_cons_succ]
        apply rel_val (hrf := Tk_refl)
        case hw => rfl
        case hy => intro wS hN hF; skip; first | (go_simp; done) | (go_simp; with_reducible rfl)
        case' hk => skip
        try simp only [Act.put, List.setIfInBounds_toArray, List.set_cons_zero, List.set_cons_succ]
        apply rel_val (hrf := Tk_refl)
        case hw => rfl
        case hy => intro wS hN hF; skip; first | (go_simp; done) | (go_simp; with_reducible rfl)
        case' hk => skip
        try simp only [Act.put, List.setIfInBounds_toArray, List.set_cons_zero, List.set_cons_succ]
        apply rel_val (hrf := Tk_refl)
        case hw => rfl
        case hy => intro wS hN hF; skip; first | (go_simp; done) | (go_simp; with_reducible rfl)
        case' hk => skip
        try simp only [Act.put, List.setIfInBounds_toArray, List.set_cons_zero, List.set_cons_succ]
        apply rel_val (hrf := Tk_refl)
        case hw => rfl
        case hy => intro wS hN hF; skip; first | (go_simp; done) | (go_simp; with_reducible rfl)
        case' hk => skip
        try simp only [Act.put, List.setIfInBounds_toArray, List.set_cons_zero, List.set_cons_succ]
        apply rel_val (hrf := Tk_refl)
        case hw => rfl
        case hy => intro wS hN hF; skip; first | (go_simp; done) | (go_simp; with_reducible rfl)
        case' hk => skip
        try simp only [Act.put, List.setIfInBounds_toArray, List.set_cons_zero, List.set_cons_succ]
        apply rel_val (hrf := Tk_refl)
        case hw => rfl
        case hy => intro wS hN hF; skip; first | (go_simp; done) | (go_simp; with_reducible rfl)
        case' hk => skip
        try simp only [Act.put, List.setIfInBounds_toArray, List.set_cons_zero, List.set_cons_succ]
        apply rel_val (hrf := Tk_refl)
        case hw => rfl
        case hy => intro wS hN hF; skip; first | (go_simp; done) | (go_simp; with_reducible rfl)
        case' hk => skip
        try simp only [Act.put, List.setIfInBounds_toArray, List.set_cons_zero, List.set_cons_succ]
        apply rel_val (hrf := Tk_refl)
        case hw => rfl
        case hy => intro wS hN hF; skip; first | (go_simp; done) | (go_simp; with_reducible rfl)
        case' hk => skip
        try simp only [Act.put, List.setIfInBounds_toArray, List.set_cons_zero, List.set_cons_succ]
        apply rel_val (hrf := Tk_refl)
        case hw => rfl
        case hy => intro wS hN hF; skip; first | (go_simp; done) | (go_simp; with_reducible rfl)
        case' hk => skip
        try simp only [Act.put, List.setIfInBounds_toArray, List.set_cons_zero, List.set_cons_succ]
        apply rel_val (hrf := Tk_refl)
        case hw => rfl
        case hy => intro wS hN hF; skip; first | (go_simp; done) | (go_simp; with_reducible rfl)
        case' hk => skip
        try simp only [Act.put, List.setIfInBounds_toArray, List.set_cons_zero, List.set_cons_succ]
        apply rel_val (hrf := Tk_refl)
        case hw => rfl
        case hy => intro wS hN hF; skip; first | (go_simp; done) | (go_simp; with_reducible rfl)
        case' hk => skip
        try simp only [Act.put, List.setIfInBounds_toArray, List.set_cons_zero, List.set_cons_succ]
        apply rel_val (hrf := Tk_refl)
        case hw => rfl
        case hy => intro wS hN hF; skip; first | (go_simp; done) | (go_simp; with_reducible rfl)
        case' hk => skip
        try simp only [Act.put, List.setIfInBounds_toArray, List.set_cons_zero, List.set_cons_succ]
        apply rel_val (hrf := Tk_refl)
        case hw => rfl
        case hy => intro wS hN hF; skip; first | (go_simp; done) | (go_simp; with_reducible rfl)
        case' hk => skip
        try simp only [Act.put, List.setIfInBounds_toArray, List.set_cons_zero, List.set_cons_succ]
        apply rel_val (hrf := Tk_refl)
        case hw => rfl
        case hy => intro wS hN hF; skip; first | (go_simp; done) | (go_simp; with_reducible rfl)
        case' hk => skip
        try simp only [Act.put, List.setIfInBounds_toArray, List.set_cons_zero, List.set_cons_succ]
        apply rel_val (hrf := Tk_refl)
        case hw => rfl
        case hy => intro wS hN hF; skip; first | (go_simp; done) | (go_simp; with_reducible rfl)
        case' hk => skip
        try simp only [Act.put, List.setIfInBounds_toArray, List.set_cons_zero, List.set_cons_succ]
        apply rel_val (hrf := Tk_refl)
        case hw => rfl
        case hy => intro wS hN hF; skip; first | (go_simp; done) | (go_simp; with_reducible rfl)
        case' hk => skip
        try simp only [Act.put, List.setIfInBounds_toArray, List.set_cons_zero, List.set_cons_succ]
        apply rel_val (hrf := Tk_refl)
        case hw => rfl
        case hy => intro wS hN hF; skip; first | (go_simp; done) | (go_simp; with_reducible rfl)
        case' hk => skip
        try simp only [Act.put, List.setIfInBounds_toArray, List.set_cons_zero, List.set_cons_succ]
        apply rel_val (hrf := Tk_refl)
        case hw => rfl
        case hy => intro wS hN hF; skip; first | (go_simp; done) | (go_simp; with_reducible rfl)
        case' hk => skip
        try simp only [Act.put, List.setIfInBounds_toArray, List.set_cons_zero, List.set_cons_succ]
        apply rel_val (v := .string tc) (hrf := Tk_refl)
        case hw => rfl
        case hy =>
          intro wS hN hF
          have hc := ((Only.drew (Only.refl [] w8)).then (hN.pre (by kernel_rfl))).cellSome hc8 (fun hm => nomatch hm)
          go_simp
        case' hk => skip
        try simp only [Act.put, List.setIfInBounds_toArray, List.set_cons_zero, List.set_cons_succ]
        apply rel_val (hrf := Tk_refl)
        case hw => rfl
        case hy => intro wS hN hF; skip; first | (go_simp; done) | (go_simp; with_reducible rfl)
        case' hk => skip
        try simp only [Act.put, List.setIfInBounds_toArray, List.set_cons_zero, List.set_cons_succ]
        apply rel_fact (φ := fun v W => ∃ ad, v = .slice (some ad) 1 1 ∧ Sl W (some ad) 1 (bvs [c])) (x := 22) (hs := lasts0 (by kernel_rfl) (fun v W W' h ho => by obtain ⟨ad, h1, h2⟩ := h; exact ⟨ad, h1, h2.keep ho⟩))
        case hw => rfl
        case hy =>
          intro wS hN hF
          refine gives_value (u := .slice (some ⟨wS.heap.size, 0, none⟩) 1 1) (w' := wS.alloc (.cells #[.int .u8 (y : Int)] 5)) ?_ ⟨_, rfl, sl_one _ _ _ c HX.out⟩ (Tk_only ((Only.refl [] _).alloc _))
          go_simp
        case' hk => intro v21
        try simp only [Act.put, List.setIfInBounds_toArray, List.set_cons_zero, List.set_cons_succ]
        apply rel_val (v := .string tc) (hrf := Tk_refl)
        case hw => rfl
        case hy =>
          intro wS hN hF
          obtain ⟨ad, rfl, hs⟩ := hF.at_ 0 rfl (by kernel_rfl) (by kernel_rfl)
          have hcv := run_str_sl (P := Tryd.prog) (w := wS) 32 9 5 (some ad) 1 1 [c] Tryd.underlying32 Tryd.underlying5 Tryd.underlying9 hs
          rw [HTC.out] at hcv
          go_simp
        case' hk => skip
        try simp only [Act.put, List.setIfInBounds_toArray, List.set_cons_zero, List.set_cons_succ]
        apply rel_val (hrf := Tk_refl)
        case hw => rfl
        case hy => intro wS hN hF; skip; first | (go_simp; done) | (go_simp; with_reducible rfl)
        case' hk => skip
        try simp only [Act.put, List.setIfInBounds_toArray, List.set_cons_zero, List.set_cons_succ]
        apply rel_val (hrf := Tk_refl)
        case hw => rfl
        case hy => intro wS hN hF; skip; first | (go_simp; done) | (go_simp; with_reducible rfl)
        case' hk => skip
        try simp only [Act.put, List.setIfInBounds_toArray, List.set_cons_zero, List.set_cons_succ]
        apply rel_val (hrf := Tk_refl)
        case hw => rfl
        case hy => intro wS hN hF; skip; first | (go_simp; done) | (go_simp; with_reducible rfl)
        case' hk => skip
        try simp only [Act.put, List.setIfInBounds_toArray, List.set_cons_zero, List.set_cons_succ]
        apply rel_call (v := .bool true) (f := 17) (args := #[])
        case hw => rfl
        case hy => intro wS hN hF; go_simp
        case hc => intro wS hN hF; exact call_only (known_any wS)
        case' hk => skip
        try simp only [Act.put, List.setIfInBounds_toArray, List.set_cons_zero, List.set_cons_succ]
        apply rel_val (hrf := Tk_refl)
        case hw => rfl
        case hy => intro wS hN hF; skip; first | (go_simp; done) | (go_simp; with_reducible rfl)
        case' hk => skip
        try simp only [Act.put, List.setIfInBounds_toArray, List.set_cons_zero, List.set_cons_succ]
        apply rel_val (hrf := Tk_refl)
        case hw => rfl
        case hy => intro wS hN hF; skip; first | (go_simp; done) | (go_simp; with_reducible rfl)
        case' hk => skip
        try simp only [Act.put, List.setIfInBounds_toArray, List.set_cons_zero, List.set_cons_succ]
        refine rel_end ?_
        intro wS hO hF
        clear hF
        go_wp2_with fail
        go_ret
        exact ⟨rfl, HO8.out.drew.then hO.only⟩
  · have hor2 : (32 : Int) ≤ (y : Int) := by omega
    have hor3 : ¬ (y : Int) ≤ 126 := by omega
    go_enter Tryd.func7, Tryd.ntmps7
    go_wp2_with fail
    go_loopw [5] (fun iv wr => wr = w ∧ ∃ k : Nat, iv = .int .i64 (k : Int) ∧ k ≤ s.size ∧ Hid ((s.data.toList.take k).all calmB = true)) (fun iv _ => s.size - (intOf iv).toNat)
    case atStart => exact ⟨rfl, 0, rfl, by omega, rfl⟩
    case round =>
      obtain ⟨rfl, k, rfl, hk, HK⟩ := hrel
      by_cases hlt : k < s.size
      · have hlt' : (k : Int) < (s.size : Int) := by omega
        have hkl : k < s.data.toList.length := by rw [HSL.out]; exact hlt
        have HG := Lib.hid (txt_get s hlt hkl)
        obtain ⟨v, hv⟩ : ∃ v : Nat, (s[k] : UInt8).toNat = v := ⟨_, rfl⟩
        have hv8 : v < 256 := by rw [← hv]; exact byte_lt _
        have HV := Lib.hid hv
        have HNX : Hid ((97 ≤ v ∧ v ≤ 122) ∨ v = 32 → (s.data.toList.take (k + 1)).all calmB = true) := fun h => by
          rw [List.take_succ_eq_append_getElem hkl, List.all_append, HK.out]
          simp only [List.all_cons, List.all_nil, Bool.and_true, Bool.true_and]
          rw [← HG.out]
          unfold calmB wordB
          rw [hv]
          rcases h with h | h
          · rw [decide_eq_true h.1, decide_eq_true h.2]; rfl
          · rw [decide_eq_true (p := (s[k] : UInt8) = 32) (UInt8.toNat_inj.1 (by rw [hv, h]; rfl))]; simp
        have HM : Hid (s.size - (intOf (.int .i64 ((k : Int) + 1))).toNat < s.size - (intOf (.int .i64 (k : Int))).toNat) := by
          show s.size - ((k : Int) + 1).toNat < s.size - (k : Int).toNat
          omega
        by_cases hA : v < 97
        · have hA' : ((s[k] : UInt8).toNat : Int) < 97 := by rw [hv]; omega
          by_cases hB : v = 32
          · have hB' : (((s[k] : UInt8).toNat : Int) != 32) = false := by rw [hv, hB]; rfl
            have HR : Hid (∃ k' : Nat, Value.int .i64 ((k : Int) + 1) = .int .i64 (k' : Int) ∧ k' ≤ s.size ∧ Hid ((s.data.toList.take k').all calmB = true)) := ⟨k + 1, by simp, by omega, HNX.out (.inr hB)⟩
            clear hv hB HL3 HCS
            go_wp2_with fail
            exact ⟨⟨trivial, HR.out⟩, HM.out⟩
          · have hB' : (((s[k] : UInt8).toNat : Int) != 32) = true := by rw [hv, bne_iff_ne]; omega
            clear hv hB HL3 HCS
            go_wp2_with fail
            go_ret
            exact ⟨rfl, Only.refl _ _⟩
        · have hA' : ¬ ((s[k] : UInt8).toNat : Int) < 97 := by rw [hv]; omega
          by_cases hC : 122 < v
          · have hC' : (122 : Int) < ((s[k] : UInt8).toNat : Int) := by rw [hv]; omega
            have hB' : (((s[k] : UInt8).toNat : Int) != 32) = true := by rw [hv, bne_iff_ne]; omega
            clear hv HL3 HCS
            go_wp2_with fail
            go_ret
            exact ⟨rfl, Only.refl _ _⟩
          · have hC' : ¬ (122 : Int) < ((s[k] : UInt8).toNat : Int) := by rw [hv]; omega
            have HR : Hid (∃ k' : Nat, Value.int .i64 ((k : Int) + 1) = .int .i64 (k' : Int) ∧ k' ≤ s.size ∧ Hid ((s.data.toList.take k').all calmB = true)) := ⟨k + 1, by simp, by omega, HNX.out (.inl (by omega))⟩
            clear hv HL3 HCS
            go_wp2_with fail
            exact ⟨⟨trivial, HR.out⟩, HM.out⟩
      · obtain rfl : k = s.size := by omega
        have hall : s.data.toList.all calmB = true := by
          have := HK.out
          rwa [List.take_of_length_le (by rw [HSL.out]; exact Nat.le_refl _)] at this
        have HE1 := Lib.hid (bad_one HFC.out hall (by rw [HSL.out]; exact hsz))
        have HE2 := Lib.hid (bad_two HFC.out hall (by rw [HSL.out]; exact hsz))
        obtain ⟨w1, c1, hcv1, g1, O1⟩ := conv_gro s (by omega) wr
        have HX : Hid ((y : Int) = (c.toNat : Int)) := by show _ = _; rw [HY.out]
        have HCV := Lib.hid (fun W => conv_gro s (by omega) W)
        have hsn : (s.size : Int) + 1 ≤ 61 := by omega
        clear hall HK
        go_wp2_with first
          | (at_builtin; refine wpList_append_gro rfl (.tmp 47) (.tmp 49) 32 rfl 5 i0 (.int .u8 0) 1 Tryd.underlying32 hi hz0 hz1 hz2 rfl (some ⟨wr.heap.size, 0, none⟩) s.size c1 (bvs s.data.toList) rfl (g1.alloc _) _ 1 1 _ rfl (sl_one _ _ _ c HX.out) (bvs_one _) (by unfold maxLen; omega) (by omega) ?_; intro A2 c2 w2 G2 O2 B2; rw [← bvs_append] at G2; have HB2 := Lib.hid G2.bt; have HO2 : Hid (Only [] wr w2) := ((O1.alloc _).trans O2 (fun x hx => .inr (by simp at hx; omega))); clear G2 g1 B2 O2 O1 hcv1)
          | (go_at_call 10; refine (lex_bad (Bk.new _ _ _) (HB2.out.keep ((Only.refl _ _).alloc _)) (by omega) HE1.out).mono ?_; rintro e w3 ⟨rfl, O3⟩; have HO3 : Hid (Only [] wr w3) := (HO2.out.alloc _).then O3; clear HB2 HE1 O3; obtain ⟨w4, c4, hcv4, g4, O4⟩ := HCV.out w3; have hz4 : w3.heap.size ≤ w3.heap.size := Nat.le_refl _)
          | (at_builtin; refine wpList_append_gro rfl (.tmp 57) (.tmp 59) 32 rfl 5 i0 (.int .u8 0) 1 Tryd.underlying32 hi hz0 hz1 hz2 rfl (some ⟨w3.heap.size, 0, none⟩) s.size c4 (bvs s.data.toList) rfl (g4.alloc _) _ 2 2 _ rfl (sl_two _ _ _ _ 34 c rfl HX.out) (bvs_one _) (by unfold maxLen; omega) (by omega) ?_; intro A5 c5 w5 G5 O5 B5; rw [← bvs_append] at G5; have HO5 : Hid (Only [] wr w5) := (((HO3.out.then O4).alloc _).trans O5 (fun x hx => .inr (by have h3 := HO3.out.size; simp at hx; omega))); have hB5 : ∀ k ∈ blks A5, wr.heap.size ≤ k := (fun k hk => by have h3 := HO3.out.size; have h4 := O4.size; rcases B5 k hk with h | h; simp at h; omega; simp at h; omega); clear O4 O5 B5 g4 hcv4)
          | (at_builtin; refine wpList_append_gro rfl (.tmp 60) (.tmp 61) 32 rfl 5 i0 (.int .u8 0) 1 Tryd.underlying32 hi hz0 hz1 hz2 rfl A5 (s.size + 2) c5 _ rfl (G5.alloc _) _ 1 1 _ rfl (sl_one _ _ _ 34 rfl) (bvs_one _) (by unfold maxLen; omega) (by omega) ?_; intro A6 c6 w6 G6 O6 B6; rw [← bvs_append, List.append_assoc] at G6; have HB6 := Lib.hid G6.bt; have HO6 : Hid (Only [] wr w6) := ((HO5.out.alloc _).trans O6 (fun x hx => .inr (hB5 x hx))); clear G6 O6 B6 G5 hB5)
          | (go_at_call 10; refine (lex_bad (Bk.new _ _ _) (HB6.out.keep ((Only.refl _ _).alloc _)) (by omega) HE2.out).mono ?_; rintro e w7 ⟨rfl, O7⟩; have HO7 : Hid (Only [] wr w7) := (HO6.out.alloc _).then O7; clear HB6 HE2 O7)
          | (go_at_call 10; refine (HL3.out _).mono ?_; rintro e w8 ⟨g8, c8, rfl, O8, hc8⟩; have HO8 : Hid (Only [] wr w8) := HO7.out.then O8)
        have hcs := HCS.out
        clear HL3 HCS HCV
        apply region_only (by kernel_rfl) (by kernel_rfl)
        apply rel_val (hrf := Tk_refl)
        case hw => rfl
        case hy => intro wS hN hF; skip; first | (go_simp; done) | (go_simp; with_reducible rfl)
        case' hk => skip
        try simp only [Act.put, List.setIfInBounds_toArray, List.set_cons_zero, List.set_cons_succ]
        apply rel_val (hrf := Tk_refl)
        case hw => rfl
        case hy => intro wS hN hF; skip; first | (go_simp; done) | (go_simp; with_reducible rfl)
        case' hk => skip
        try simp only [Act.put, List.setIfInBounds_toArray, List.set_cons_zero, List.set_cons_succ]
        apply rel_val (hrf := Tk_refl)
        case hw => rfl
        case hy => intro wS hN hF; skip; first | (go_simp; done) | (go_simp; with_reducible rfl)
        case' hk => skip
        try simp only [Act.put, List.setIfInBounds_toArray, List.set_cons_zero, List.set_cons_succ]
        apply rel_val (hrf := Tk_refl)
        case hw => rfl
        case hy => intro wS hN hF; skip; first | (go_simp; done) | (go_simp; with_reducible rfl)
        case' hk => skip
        try simp only [Act.put, List.setIfInBounds_toArray, List.set_cons_zero, List.set_cons_succ]
        apply rel_val (hrf := Tk_refl)
        case hw => rfl
        case hy => intro wS hN hF; skip; first | (go_simp; done) | (go_simp; with_reducible rfl)
        case' hk => skip
        try simp only [Act.put, List.setIfInBounds_toArray, List.set_cons_zero, List.set_cons_succ]
        apply rel_val (hrf := Tk_refl)
        case hw => rfl
        case hy => intro wS hN hF; skip; first | (go_simp; done) | (go_simp; with_reducible rfl)
        case' hk => skip
        try simp only [Act.put, List.setIfInBounds_toArray, List.set_cons_zero, List.set_cons_succ]
        apply rel_val (hrf := Tk_refl)
        case hw => rfl
        case hy => intro wS hN hF; skip; first | (go_simp; done) | (go_simp; with_reducible rfl)
        case' hk => skip
        try simp only [Act.put, List.setIfInBounds_toArray, List.set_cons_zero, List.set_cons_succ]
        apply rel_val (hrf := Tk_refl)
        case hw => rfl
        case hy => intro wS hN hF; skip; first | (go_simp; done) | (go_simp; with_reducible rfl)
        case' hk => skip
        try simp only [Act.put, List.setIfInBounds_toArray, List.set_cons_zero, List.set_cons_succ]
        apply rel_val (hrf := Tk_refl)
        case hw => rfl
        case hy => intro wS hN hF; skip; first | (go_simp; done) | (go_simp; with_reducible rfl)
        case' hk => skip
        try simp only [Act.put, List.setIfInBounds_toArray, List.set_cons_zero, List.set_cons_succ]
        apply rel_val (hrf := Tk_refl)
        case hw => rfl
        case hy => intro wS hN hF; skip; first | (go_simp; done) | (go_simp; with_reducible rfl)
        case' hk => skip
        try simp only [Act.put, List.setIfInBounds_toArray, List.set_cons_zero, List.set_cons_succ]
        apply rel_val (hrf := Tk_refl)
        case hw => rfl
        case hy => intro wS hN hF; skip; first | (go_simp; done) | (go_simp; with_reducible rfl)
        case' hk => skip
        try simp only [Act.put, List.setIfInBounds_toArray, List.set_cons_zero, List.set_cons_succ]
        apply rel_val (hrf := Tk_refl)
        case hw => rfl
        case hy => intro wS hN hF; skip; first | (go_simp; done) | (go_simp; with_reducible rfl)
        case' hk => skip
        try simp only [Act.put, List.setIfInBounds_toArray, List.set_cons_zero, List.set_cons_succ]
        apply rel_val (hrf := Tk_refl)
        case hw => rfl
        case hy => intro wS hN hF; skip; first | (go_simp; done) | (go_simp; with_reducible rfl)
        case' hk => skip
        try simp only [Act.put, List.setIfInBounds_toArray, List.set_cons_zero, List.set_cons_succ]
        apply rel_val (hrf := Tk_refl)
        case hw => rfl
        case hy => intro wS hN hF; skip; first | (go_simp; done) | (go_simp; with_reducible rfl)
        case' hk => skip
        try simp only [Act.put, List.setIfInBounds_toArray, List.set_cons_zero, List.set_cons_succ]
        apply rel_val (hrf := Tk_refl)
        case hw => rfl
        case hy => intro wS hN hF; skip; first | (go_simp; done) | (go_simp; with_reducible rfl)
        case' hk => skip
        try simp only [Act.put, List.setIfInBounds_toArray, List.set_cons_zero, List.set_cons_succ]
        apply rel_val (hrf := Tk_refl)
        case hw => rfl
        case hy => intro wS hN hF; skip; first | (go_simp; done) | (go_simp; with_reducible rfl)
        case' hk => skip
        try simp only [Act.put, List.setIfInBounds_toArray, List.set_cons_zero, List.set_cons_succ]
        apply rel_val (hrf := Tk_refl)
        case hw => rfl
        case hy => intro wS hN hF; skip; first | (go_simp; done) | (go_simp; with_reducible rfl)
        case' hk => skip
        try simp only [Act.put, List.setIfInBounds_toArray, List.set_cons_zero, List.set_cons_succ]
        apply rel_val (hrf := Tk_refl)
        case hw => rfl
        case hy => intro wS hN hF; skip; first | (go_simp; done) | (go_simp; with_reducible rfl)
        case' hk => skip
        try simp only [Act.put, List.setIfInBounds_toArray, List.set_cons_zero, List.set_cons_succ]
        apply rel_val (hrf := Tk_refl)
        case hw => rfl
        case hy => intro wS hN hF; skip; first | (go_simp; done) | (go_simp; with_reducible rfl)
        case' hk => skip
        try simp only [Act.put, List.setIfInBounds_toArray, List.set_cons_zero, List.set_cons_succ]
        apply rel_val (v := .string tc) (hrf := Tk_refl)
        case hw => rfl
        case hy =>
          intro wS hN hF
          have hc := ((Only.drew (Only.refl [] w8)).then (hN.pre (by kernel_rfl))).cellSome hc8 (fun hm => nomatch hm)
          go_simp
        case' hk => skip
        try simp only [Act.put, List.setIfInBounds_toArray, List.set_cons_zero, List.set_cons_succ]
        apply rel_val (hrf := Tk_refl)
        case hw => rfl
        case hy => intro wS hN hF; skip; first | (go_simp; done) | (go_simp; with_reducible rfl)
        case' hk => skip
        try simp only [Act.put, List.setIfInBounds_toArray, List.set_cons_zero, List.set_cons_succ]
        apply rel_fact (φ := fun v W => ∃ ad, v = .slice (some ad) 1 1 ∧ Sl W (some ad) 1 (bvs [c])) (x := 22) (hs := lasts0 (by kernel_rfl) (fun v W W' h ho => by obtain ⟨ad, h1, h2⟩ := h; exact ⟨ad, h1, h2.keep ho⟩))
        case hw => rfl
        case hy =>
          intro wS hN hF
          refine gives_value (u := .slice (some ⟨wS.heap.size, 0, none⟩) 1 1) (w' := wS.alloc (.cells #[.int .u8 (y : Int)] 5)) ?_ ⟨_, rfl, sl_one _ _ _ c HX.out⟩ (Tk_only ((Only.refl [] _).alloc _))
          go_simp
        case' hk => intro v21
        try simp only [Act.put, List.setIfInBounds_toArray, List.set_cons_zero, List.set_cons_succ]
        apply rel_val (v := .string tc) (hrf := Tk_refl)
        case hw => rfl
        case hy =>
          intro wS hN hF
          obtain ⟨ad, rfl, hs⟩ := hF.at_ 0 rfl (by kernel_rfl) (by kernel_rfl)
          have hcv := run_str_sl (P := Tryd.prog) (w := wS) 32 9 5 (some ad) 1 1 [c] Tryd.underlying32 Tryd.underlying5 Tryd.underlying9 hs
          rw [HTC.out] at hcv
          go_simp
        case' hk => skip
        try simp only [Act.put, List.setIfInBounds_toArray, List.set_cons_zero, List.set_cons_succ]
        apply rel_val (hrf := Tk_refl)
        case hw => rfl
        case hy => intro wS hN hF; skip; first | (go_simp; done) | (go_simp; with_reducible rfl)
        case' hk => skip
        try simp only [Act.put, List.setIfInBounds_toArray, List.set_cons_zero, List.set_cons_succ]
        apply rel_val (hrf := Tk_refl)
        case hw => rfl
        case hy => intro wS hN hF; skip; first | (go_simp; done) | (go_simp; with_reducible rfl)
        case' hk => skip
        try simp only [Act.put, List.setIfInBounds_toArray, List.set_cons_zero, List.set_cons_succ]
        apply rel_val (hrf := Tk_refl)
        case hw => rfl
        case hy => intro wS hN hF; skip; first | (go_simp; done) | (go_simp; with_reducible rfl)
        case' hk => skip
        try simp only [Act.put, List.setIfInBounds_toArray, List.set_cons_zero, List.set_cons_succ]
        apply rel_call (v := .bool true) (f := 17) (args := #[])
        case hw => rfl
        case hy => intro wS hN hF; go_simp
        case hc => intro wS hN hF; exact call_only (known_any wS)
        case' hk => skip
        try simp only [Act.put, List.setIfInBounds_toArray, List.set_cons_zero, List.set_cons_succ]
        apply rel_val (hrf := Tk_refl)
        case hw => rfl
        case hy => intro wS hN hF; skip; first | (go_simp; done) | (go_simp; with_reducible rfl)
        case' hk => skip
        try simp only [Act.put, List.setIfInBounds_toArray, List.set_cons_zero, List.set_cons_succ]
        apply rel_val (hrf := Tk_refl)
        case hw => rfl
        case hy => intro wS hN hF; skip; first | (go_simp; done) | (go_simp; with_reducible rfl)
        case' hk => skip
        try simp only [Act.put, List.setIfInBounds_toArray, List.set_cons_zero, List.set_cons_succ]
        refine rel_end ?_
        intro wS hO hF
        clear hF
        go_wp2_with fail
        go_ret
        exact ⟨rfl, HO8.out.drew.then hO.only⟩
end Go.Proofs.YtbbgdcnnacakjaaDoor
