/-
  frame.sumRight, frame.Decode, frame.One; the reference's Decode and One.
-/
import Derived.Test.YtblggoneifmoeaaDoorEnc
import Derived.Deep.RegionWith
namespace Go.Proofs.YtblggoneifmoeaaDoor
open Go.RowKit

set_option maxHeartbeats 800000 in
theorem sumRight_any (A : Option Addr) (n c : Nat) (q : List UInt8) (w : World) (hs : Sl w A n (bvs q)) (ht : Tab w) (h4 : 4 ≤ n) (hc : n ≤ c) (hn : n ≤ 100000000000) :
    Calls Tryd.prog 77 #[.slice A n c] w fun e w' => e = .returned (.bool (decide (sumOf (q.take (n - 4)) = from4 (q.drop (n - 4))))) ∧ Only [] w w' := by
  have hl : q.length = n := by simpa using hs.len
  obtain ⟨m, rfl⟩ : ∃ m, n = m + 4 := ⟨n - 4, by omega⟩
  rw [Nat.add_sub_cancel]
  obtain ⟨ad, e, _⟩ := hs.2 (by omega)
  subst e
  have hp := hs.pre (k := m) (by omega)
  rw [bvs_take] at hp
  have hd := hs.add (k := m) (m := 4) (by omega)
  rw [List.take_of_length_le (by rw [List.length_drop, bvs_length]; omega), bvs_drop] at hd
  have hm1 : (m : Int) ≤ (m : Int) + 4 := by omega
  have hcm : ¬ c = m := by omega
  have hpl : (q.take m).length = m := by rw [List.length_take]; omega
  have HS := Lib.hid (fun (W : World) (o : Only [] w W) => sum_one W (some ad) c m (q.take m) hpl (hp.keep o) (ht.keep o) (by omega))
  have HV := Lib.hid (fun (W : World) (o : Only [] w W) (c : Nat) => valueOf_any (some (ad.add m)) 4 c (q.drop m) W (hd.keep o) (by omega))
  have s1 := sumOf_lt (q.take m)
  have s2 := from4_lt (q.drop m)
  obtain ⟨x, hx⟩ : ∃ x, x = sumOf (q.take m) := ⟨_, rfl⟩
  obtain ⟨y, hy⟩ : ∃ y, y = from4 (q.drop m) := ⟨_, rfl⟩
  rw [← hx] at HS s1
  rw [← hy] at HV s2
  rw [← hx, ← hy]
  have HD : Hid (((x : Int) == (y : Int)) = decide (x = y)) := by
    show _ = _
    by_cases h : x = y
    · rw [h]; simp
    · rw [decide_eq_false h, beq_eq_false_iff_ne]; omega
  clear hx hy hp hd hs hl hpl
  go_enter Tryd.func77, Tryd.ntmps77
  go_wp2
  go_region_with (first
    | (go_at_call 75; refine (HS.out w.drew (Only.refl _ _).drew).mono ?_; rintro e w' ⟨rfl, rfl⟩)
    | (go_at_call 78; refine (HV.out (w.drew.alloc (.cells #[.slice (some ad) m c] 23)) ((Only.refl _ _).drew.alloc _) _).mono ?_; rintro e w' ⟨rfl, nq, rfl⟩))
  go_wp2
  go_ret
  exact ⟨by rw [← HD.out]; rfl, ((Only.refl _ _).alloc _).drewN _⟩

/-- sumRight of the beginning of bytes. -/
theorem sumRight_pre (A : Option Addr) (n c k m : Nat) (b : List UInt8) (w : World) (hs : Sl w A n (bvs b)) (ht : Tab w) (hm : m + 4 = k) (hk : k ≤ n) (hc : n ≤ c) (hn : k ≤ 100000000000) (t : Bool) (hd : decide (sumOf (b.take m) = from4 (b.drop m)) = t) :
    Calls Tryd.prog 77 #[.slice A k c] w fun e w' => e = .returned (.bool t) ∧ Only [] w w' := by
  subst hm
  have hl : b.length = n := by simpa using hs.len
  have hp := hs.pre hk
  rw [bvs_take] at hp
  have h := sumRight_any A (m + 4) c (b.take (m + 4)) w hp ht (by omega) (by omega) hn
  rw [Nat.add_sub_cancel, List.take_take, Nat.min_eq_left (by omega), List.drop_take, show m + 4 - m = 4 from by omega, from4_take, hd] at h
  exact h

theorem Fresh3.err {w w' : World} {b : List UInt8} (x : Nat) (hx : x ≠ 0) (hb : bad b = x) (o : Only [] w w') : Fresh3 w (body b) (size b : Nat) (bad b : Nat) (.returned (.tuple #[.slice none 0 0, .int .i64 0, .int .i64 (x : Int)])) w' := by
  rw [body_bad (by omega), size_bad (by omega), hb]
  exact ⟨none, 0, rfl, Own.nil _ _, o, fun k hk => (by cases hk)⟩

set_option maxHeartbeats 800000 in
theorem decode_any (A : Option Addr) (n c : Nat) (b : List UInt8) (w : World) (hs : Sl w A n (bvs b)) (ht : Tab w) (hc : n ≤ c) (hn : n ≤ 100000000000) :
    Calls Tryd.prog 68 #[.slice A n c] w (Fresh3 w (body b) (size b : Nat) (bad b : Nat)) := by
  have hl : b.length = n := by simpa using hs.len
  by_cases h8 : n < 8
  · have HB := Lib.hid (bad_0 (b := b) (by omega))
    clear hl
    go_enter Tryd.func68, Tryd.ntmps68
    go_wp2
    go_ret3
    exact Fresh3.err 2 (by omega) HB.out (Only.refl _ _)
  · have HL := Lib.hid hl
    obtain ⟨v, hv⟩ : ∃ v, v = from4 b := ⟨_, rfl⟩
    have hv32 := from4_lt b
    rw [← hv] at hv32
    have HV := Lib.hid hv
    have hc8 : 8 ≤ c := by omega
    have hc4 : 4 ≤ c := by omega
    have p4 := hs.pre (k := 4) (by omega)
    rw [bvs_take] at p4
    have HV4 := Lib.hid (fun (W : World) (o : Only [] w W) => valueOf_any A 4 c (b.take 4) W (p4.keep o) (by omega))
    rw [from4_take, ← hv] at HV4
    by_cases h1 : sumOf (b.take 4) = from4 (b.drop 4)
    · have HS1 := Lib.hid (sumRight_pre A n c 8 4 b w hs ht rfl (by omega) hc (by omega) true (decide_eq_true h1))
      have H1 := Lib.hid h1
      clear h1 hl hv p4
      go_enter Tryd.func68, Tryd.ntmps68
      go_wp2_with fail
      refine HS1.out.mono ?_
      rintro e w1 ⟨rfl, O1⟩
      go_wp2_with fail
      refine (HV4.out w1 O1).mono ?_
      rintro e w' ⟨rfl, m1, rfl⟩
      have O2 := O1.drewN m1
      generalize w1.drewN m1 = w2 at *
      clear O1 HS1 HV4
      by_cases h2 : 1048576 < v
      · have HB := Lib.hid (bad_2 (b := b) (by have := HL.out; omega) H1.out (by have := HV.out; omega))
        go_wp2
        go_ret3
        exact Fresh3.err 5 (by omega) HB.out O2
      · by_cases h3 : n < 12 + v
        · have HB := Lib.hid (bad_3 (b := b) (by have := HL.out; omega) H1.out (by have := HV.out; omega) (by have := HL.out; have := HV.out; omega))
          go_wp2
          go_ret3
          exact Fresh3.err 2 (by omega) HB.out O2
        · have hcs : 8 + v + 4 ≤ c := by omega
          by_cases h4 : sumOf (b.take (8 + v)) = from4 (b.drop (8 + v))
          · have HS2 := Lib.hid (sumRight_pre A n c (8 + v + 4) (8 + v) b w2 (hs.keep O2) (ht.keep O2) rfl (by omega) hc (by omega) true (decide_eq_true h4))
            have hb0 : bad b = 0 := bad_5 (by have := HL.out; omega) H1.out (by have := HV.out; omega) (by have := HL.out; have := HV.out; omega) (by rw [← HV.out]; exact h4)
            have HB := Lib.hid hb0
            have HY : Hid (body b = (b.drop 8).take v) := by show _ = _; rw [body, if_pos hb0, ← HV.out]
            have HZ : Hid (size b = 12 + v) := by show _ = _; rw [size, if_pos hb0, ← HV.out]
            obtain ⟨ad, e, _⟩ := hs.2 (by omega)
            subst e
            have hd : Sl w (some ⟨ad.block, ad.off + 8, none⟩) v (((bvs b).drop 8).take v) := hs.add (k := 8) (m := v) (by omega)
            rw [bvs_drop, bvs_take] at hd
            have hdl : ((b.drop 8).take v).length = v := by rw [List.length_take, List.length_drop, HL.out]; omega
            rw [← HY.out] at hd hdl
            have HDL := Lib.hid hdl
            have HJ := Lib.hid (fun (W : World) (o : Only [] w W) (c : Nat) => join_one W (some ⟨ad.block, ad.off + 8, none⟩) c v (body b) HDL.out (hd.keep o) (by omega))
            clear h4 hb0 hd hdl
            go_wp2_with fail
            refine HS2.out.mono ?_
            rintro e w3 ⟨rfl, O3⟩
            go_wp2_with fail
            refine (HJ.out w3 (O2.then O3) _).mono ?_
            rintro e w4 ⟨⟨A4, c4, rfl, V4, O4, B4⟩, _⟩
            go_wp2
            go_ret3
            have hz : ((12 + v : Nat) : Int) = 8 + (v : Int) + 4 := by omega
            rw [HZ.out, HB.out, hz]
            exact ⟨A4, c4, rfl, V4, (O2.then O3).then O4, fun k hk => Nat.le_trans (O2.then O3).size (B4 k hk)⟩
          · have HS2 := Lib.hid (sumRight_pre A n c (8 + v + 4) (8 + v) b w2 (hs.keep O2) (ht.keep O2) rfl (by omega) hc (by omega) false (decide_eq_false h4))
            have HB := Lib.hid (bad_4 (b := b) (by have := HL.out; omega) H1.out (by have := HV.out; omega) (by have := HL.out; have := HV.out; omega) (by rw [← HV.out]; exact h4))
            clear h4
            go_wp2_with fail
            refine HS2.out.mono ?_
            rintro e w3 ⟨rfl, O3⟩
            go_wp2
            go_ret3
            exact Fresh3.err 4 (by omega) HB.out (O2.then O3)
    · have HS1 := Lib.hid (sumRight_pre A n c 8 4 b w hs ht rfl (by omega) hc (by omega) false (decide_eq_false h1))
      have HB := Lib.hid (bad_1 (b := b) (by omega) h1)
      clear h1 hl hv p4
      go_enter Tryd.func68, Tryd.ntmps68
      go_wp2_with fail
      refine HS1.out.mono ?_
      rintro e w1 ⟨rfl, O1⟩
      go_wp2
      go_ret3
      exact Fresh3.err 4 (by omega) HB.out O1
end Go.Proofs.YtblggoneifmoeaaDoor
