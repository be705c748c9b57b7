/-
  frame.One; the reference's Decode and One.
-/
import Derived.Test.YtmommkggjiillaaDoorFDec
import Derived.BigQuiet
namespace Go.Proofs.YtmommkggjiillaaDoor
open Go.RowKit

theorem neq_true {x y : Nat} (h : x ≠ y) : ((x : Int) != (y : Int)) = true := by rw [bne_iff_ne]; omega
theorem neq_false {x y : Nat} (h : x = y) : ((x : Int) != (y : Int)) = false := by rw [h]; simp

set_option maxRecDepth 100000 in
set_option maxHeartbeats 800000 in
theorem refDecode_any (A : Option Addr) (n c : Nat) (b : List UInt8) (w : World) (hs : Sl w A n (bvs b)) (hc : n ≤ c) (hn : n ≤ 100000000000) :
    Calls Tryd.prog 63 #[.slice A n c] w (Fresh3 w (body b) (size b : Nat) (bad b : Nat)) := by
  obtain ⟨i0, hi, hz0, hz1, hz2⟩ := info_parts infoByte
  have hl : b.length = n := by simpa using hs.len
  by_cases h8 : n < 8
  · have HB := Lib.hid (bad_0 (b := b) (by omega))
    clear hl
    go_enter Tryd.func63, Tryd.ntmps63
    go_wp2
    go_ret3
    exact Fresh3.err 2 (by omega) HB.out (Only.refl _ _)
  · have HL := Lib.hid hl
    obtain ⟨v, hv⟩ : ∃ v, v = from4 b := ⟨_, rfl⟩
    have hv32 := from4_lt b
    rw [← hv] at hv32
    have HV := Lib.hid hv
    have hc8 : 8 ≤ c := by omega
    have hc4 : 4 ≤ c := by omega
    have hcn : ¬ c = 4 := by omega
    have hn4 : 4 ≤ n := by omega
    obtain ⟨ad, e, _⟩ := hs.2 (by omega)
    subst e
    have p4 := hs.pre (k := 4) (by omega)
    rw [bvs_take] at p4
    have d4 : Sl w (some ⟨ad.block, ad.off + 4, none⟩) (n - 4) (((bvs b).drop 4).take (n - 4)) := hs.add (k := 4) (m := n - 4) (by omega)
    rw [List.take_of_length_le (by rw [List.length_drop, bvs_length]; omega), bvs_drop] at d4
    have HV0 := Lib.hid (fun (W : World) (o : Only [] w W) => refFromFour_any (some ad) n c b W (hs.keep o) (by omega))
    have HV4 := Lib.hid (fun (W : World) (o : Only [] w W) (c : Nat) => refFromFour_any (some ⟨ad.block, ad.off + 4, none⟩) (n - 4) c (b.drop 4) W (d4.keep o) (by omega))
    have HS4 := Lib.hid (fun (W : World) (o : Only [] w W) (c : Nat) => refSum_any (some ad) 4 c (b.take 4) W (p4.keep o) (by omega))
    rw [← hv] at HV0
    obtain ⟨x, hx⟩ : ∃ x, x = sumOf (b.take 4) := ⟨_, rfl⟩
    obtain ⟨y, hy⟩ : ∃ y, y = from4 (b.drop 4) := ⟨_, rfl⟩
    rw [← hx] at HS4
    rw [← hy] at HV4
    have HX := Lib.hid hx
    have HY := Lib.hid hy
    clear hx hy hl hv p4 d4
    by_cases h1 : x = y
    · have hne : ((y : Int) != (x : Int)) = false := neq_false h1.symm
      have H1 : Hid (sumOf (b.take 4) = from4 (b.drop 4)) := by show _ = _; rw [← HX.out, ← HY.out, h1]
      clear h1
      go_enter Tryd.func63, Tryd.ntmps63
      go_wp2_with fail
      go_quiet (first
        | (go_at_call 78; exact quiet_on (HV4.out _ ((Only.refl _ _).drewN _) _))
        | (go_at_call 58; exact quiet_back (HS4.out _ ((Only.refl _ _).drewN _) _)))
      go_wp2_with fail
      refine (HV0.out _ ((Only.refl _ _).drewN _)).mono ?_
      rintro e w' ⟨rfl, m1, rfl⟩
      have O2 : Only [] w ((w.drewN nq).drewN m1) := ((Only.refl _ _).drewN _).drewN _
      generalize (w.drewN nq).drewN m1 = w2 at *
      clear HV0 HV4 HS4 hne HX HY
      have hv64 : ((v : Int) % 18446744073709551616) = (v : Int) := by omega
      by_cases h2 : 1048576 < v
      · have HB := Lib.hid (bad_2 (b := b) (by have := HL.out; omega) H1.out (by have := HV.out; omega))
        go_wp2
        go_ret3
        exact Fresh3.err 5 (by omega) HB.out O2
      · by_cases h3 : n < 12 + v
        · have HB := Lib.hid (bad_3 (b := b) (by have := HL.out; omega) H1.out (by have := HV.out; omega) (by have := HL.out; have := HV.out; omega))
          go_wp2
          go_ret3
          exact Fresh3.err 2 (by omega) HB.out O2
        · have hcs : ¬ c = 8 + v := by omega
          have hs2 := hs.keep O2
          have pv := hs2.pre (k := 8 + v) (by omega)
          rw [bvs_take] at pv
          have dv := hs2.add (k := 8 + v) (m := n - (8 + v)) (by omega)
          rw [List.take_of_length_le (by rw [List.length_drop, bvs_length, HL.out]; omega), bvs_drop] at dv
          have HV5 := Lib.hid (fun (W : World) (o : Only [] w2 W) (c : Nat) => refFromFour_any (some (ad.add (8 + v))) (n - (8 + v)) c (b.drop (8 + v)) W (dv.keep o) (by omega))
          have HS5 := Lib.hid (fun (W : World) (o : Only [] w2 W) (c : Nat) => refSum_any (some ad) (8 + v) c (b.take (8 + v)) W (pv.keep o) (by omega))
          obtain ⟨x2, hx⟩ : ∃ x, x = sumOf (b.take (8 + v)) := ⟨_, rfl⟩
          obtain ⟨y2, hy⟩ : ∃ y, y = from4 (b.drop (8 + v)) := ⟨_, rfl⟩
          rw [← hx] at HS5
          rw [← hy] at HV5
          have HX := Lib.hid hx
          have HY := Lib.hid hy
          clear hx hy pv dv hs2
          by_cases h4 : x2 = y2
          · have hne : ((y2 : Int) != (x2 : Int)) = false := neq_false h4.symm
            have hb0 : bad b = 0 := bad_5 (by have := HL.out; omega) H1.out (by have := HV.out; omega) (by have := HL.out; have := HV.out; omega) (by rw [← HV.out, ← HX.out, ← HY.out]; exact h4)
            have HB := Lib.hid hb0
            have HBo : Hid (body b = (b.drop 8).take v) := by show _ = _; rw [body, if_pos hb0, ← HV.out]
            have HZ : Hid (size b = 12 + v) := by show _ = _; rw [size, if_pos hb0, ← HV.out]
            have hd : Sl w (some ⟨ad.block, ad.off + 8, none⟩) v (((bvs b).drop 8).take v) := hs.add (k := 8) (m := v) (by omega)
            rw [bvs_drop, bvs_take] at hd
            have hdl : ((b.drop 8).take v).length = v := by rw [List.length_take, List.length_drop, HL.out]; omega
            rw [← HBo.out] at hd hdl
            have hd8 : Sl w (some ⟨ad.block, ad.off + 8, none⟩) (8 + v - 8) (bvs (body b)) := by rw [Nat.add_sub_cancel_left]; exact hd
            have HDL := Lib.hid hdl
            clear h4 hb0 hdl
            go_wp2_with fail
            go_quiet (first
              | (go_at_call 78; exact quiet_on (HV5.out _ ((Only.refl _ _).drewN _) _))
              | (go_at_call 58; exact quiet_back (HS5.out _ ((Only.refl _ _).drewN _) _)))
            have O3 := O2.drewN nq
            generalize w2.drewN nq = w3 at *
            go_wp2_with (at_builtin; go_must (refine wpList_append_sl rfl (.tmp 37) (.tmp 41) 32 rfl 5 i0 (.int .u8 0) 1 Tryd.underlying32 hi hz0 hz1 hz2 rfl _ 0 0 [] rfl (World.ownsRow_lit _ #[] 0 (Nat.zero_le _) (Nat.zero_le _) rfl) (some ⟨ad.block, ad.off + 8, none⟩) (8 + v - 8) _ _ rfl ((hd8.keep O3).alloc _) (bvs_one _) (by unfold maxLen; omega) (by omega) ?_); intro A4 c4 w4 V4 O4 B4)
            have hz : ((12 + v : Nat) : Int) = 12 + (v : Int) := by omega
            rw [List.nil_append, show 0 + (8 + v - 8) = v from by omega] at V4
            go_ret3
            rw [HZ.out, HB.out, hz]
            refine ⟨A4, c4, by rw [HDL.out]; rfl, by rw [HDL.out]; exact V4, (O3.alloc _).trans O4 (fun x hx => ?_), fun k hk => ?_⟩
            · right; simp at hx; have := O3.size; omega
            · rcases B4 k hk with h | h
              · simp at h; have := O3.size; omega
              · rw [World.size_alloc] at h; have := O3.size; omega
          · have hne : ((y2 : Int) != (x2 : Int)) = true := neq_true (fun e => h4 e.symm)
            have HB := Lib.hid (bad_4 (b := b) (by have := HL.out; omega) H1.out (by have := HV.out; omega) (by have := HL.out; have := HV.out; omega) (by rw [← HV.out, ← HX.out, ← HY.out]; exact h4))
            clear h4
            go_wp2_with fail
            go_quiet (first
              | (go_at_call 78; exact quiet_on (HV5.out _ ((Only.refl _ _).drewN _) _))
              | (go_at_call 58; exact quiet_back (HS5.out _ ((Only.refl _ _).drewN _) _)))
            go_wp2
            go_ret3
            exact Fresh3.err 4 (by omega) HB.out (O2.drewN _)
    · have hne : ((y : Int) != (x : Int)) = true := neq_true (fun e => h1 e.symm)
      have HB := Lib.hid (bad_1 (b := b) (by have := HL.out; omega) (by rw [← HX.out, ← HY.out]; exact h1))
      clear h1
      go_enter Tryd.func63, Tryd.ntmps63
      go_wp2_with fail
      go_quiet (first
        | (go_at_call 78; exact quiet_on (HV4.out _ ((Only.refl _ _).drewN _) _))
        | (go_at_call 58; exact quiet_back (HS4.out _ ((Only.refl _ _).drewN _) _)))
      go_wp2
      go_ret3
      exact Fresh3.err 4 (by omega) HB.out ((Only.refl _ _).drewN _)

theorem Fresh2.err {w w' : World} {l : List UInt8} {y : Nat} (x : Nat) (hb : y = x ∧ l = []) (o : Only [] w w') : Fresh2 w l (y : Nat) (.returned (.tuple #[.slice none 0 0, .int .i64 (x : Int)])) w' := by
  obtain ⟨rfl, rfl⟩ := hb
  exact ⟨none, 0, rfl, Own.nil _ _, o, fun k hk => (by cases hk)⟩

set_option maxRecDepth 100000 in
set_option maxHeartbeats 800000 in
theorem one_any (A : Option Addr) (n c : Nat) (b : List UInt8) (w : World) (hs : Sl w A n (bvs b)) (ht : Tab w) (hc : n ≤ c) (hn : n ≤ 100000000000) :
    Calls Tryd.prog 34 #[.slice A n c] w (Fresh2 w (oneBody b) (oneBad b : Nat)) := by
  have hl : b.length = n := by simpa using hs.len
  have HD := Lib.hid (decode_any A n c b w hs ht hc hn)
  have hle := bad_le b
  have hsz : size b ≤ n := by
    by_cases h : bad b = 0
    · have := size_pos h; omega
    · rw [size_bad h]; omega
  by_cases h0 : bad b = 0
  · have hne : ((bad b : Int) != 0) = false := by rw [h0]; rfl
    by_cases h1 : size b < n
    · have HB := Lib.hid (one_1 h0 (by omega))
      clear hl h0
      go_enter Tryd.func34, Tryd.ntmps34
      go_wp2_with fail
      refine HD.out.mono ?_
      rintro e w1 ⟨A1, c1, rfl, V1, O1, B1⟩
      go_wp2
      go_ret2
      exact Fresh2.err 3 HB.out O1
    · have HB := Lib.hid (one_2 h0 (by omega))
      clear hl h0
      go_enter Tryd.func34, Tryd.ntmps34
      go_wp2_with fail
      refine HD.out.mono ?_
      rintro e w1 ⟨A1, c1, rfl, V1, O1, B1⟩
      go_wp2
      go_ret2
      rw [HB.out.1, HB.out.2]
      exact ⟨A1, c1, rfl, V1, O1, B1⟩
  · have hne : ((bad b : Int) != 0) = true := by rw [bne_iff_ne]; omega
    have HB := Lib.hid (one_0 h0)
    clear hl h0
    go_enter Tryd.func34, Tryd.ntmps34
    go_wp2_with fail
    refine HD.out.mono ?_
    rintro e w1 ⟨A1, c1, rfl, V1, O1, B1⟩
    go_wp2
    go_ret2
    exact Fresh2.err _ HB.out O1

set_option maxRecDepth 100000 in
set_option maxHeartbeats 800000 in
theorem refOne_any (A : Option Addr) (n c : Nat) (b : List UInt8) (w : World) (hs : Sl w A n (bvs b)) (hc : n ≤ c) (hn : n ≤ 100000000000) :
    Calls Tryd.prog 35 #[.slice A n c] w (Fresh2 w (oneBody b) (oneBad b : Nat)) := by
  have hl : b.length = n := by simpa using hs.len
  have HD := Lib.hid (refDecode_any A n c b w hs hc hn)
  have hle := bad_le b
  have hsz : size b ≤ n := by
    by_cases h : bad b = 0
    · have := size_pos h; omega
    · rw [size_bad h]; omega
  by_cases h0 : bad b = 0
  · have hne : ((bad b : Int) != 0) = false := by rw [h0]; rfl
    have heq : ((bad b : Int) == 0) = true := by rw [h0]; rfl
    by_cases h1 : size b < n
    · have HB := Lib.hid (one_1 h0 (by omega))
      clear hl h0
      have hns : ((size b : Int) != (n : Int)) = true := by rw [bne_iff_ne]; omega
      go_enter Tryd.func35, Tryd.ntmps35
      go_wp2_with fail
      refine HD.out.mono ?_
      rintro e w1 ⟨A1, c1, rfl, V1, O1, B1⟩
      go_wp2
      go_ret2
      exact Fresh2.err 3 HB.out O1
    · have HB := Lib.hid (one_2 h0 (by omega))
      clear hl h0
      have hns : ((size b : Int) != (n : Int)) = false := by rw [bne_eq_false_iff_eq]; omega
      go_enter Tryd.func35, Tryd.ntmps35
      go_wp2_with fail
      refine HD.out.mono ?_
      rintro e w1 ⟨A1, c1, rfl, V1, O1, B1⟩
      go_wp2
      go_ret2
      rw [HB.out.1, HB.out.2]
      exact ⟨A1, c1, rfl, V1, O1, B1⟩
  · have hne : ((bad b : Int) != 0) = true := by rw [bne_iff_ne]; omega
    have heq : ((bad b : Int) == 0) = false := by rw [beq_eq_false_iff_ne]; omega
    have HB := Lib.hid (one_0 h0)
    clear hl h0
    go_enter Tryd.func35, Tryd.ntmps35
    go_wp2_with fail
    refine HD.out.mono ?_
    rintro e w1 ⟨A1, c1, rfl, V1, O1, B1⟩
    go_wp2
    go_ret2
    exact Fresh2.err _ HB.out O1
end Go.Proofs.YtmommkggjiillaaDoor
