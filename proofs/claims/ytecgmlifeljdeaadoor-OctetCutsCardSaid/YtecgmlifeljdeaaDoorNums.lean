/-
  The walk of the law OctetNums.
-/
import Derived.Test.YtecgmlifeljdeaaDoorHelp2
import Derived.Test.YtecgmlifeljdeaaDoorRefEnc
import Derived.Test.YtecgmlifeljdeaaDoorReader3
namespace Go.Proofs.YtecgmlifeljdeaaDoor
open Go.RowKit
attribute [local go_sem ↓] Go.wp_at_zero Go.wp_at_succ

theorem encs_cons (v : Int) (vs : List Int) : encs (v :: vs) = enc (clamp v) ++ encs vs := by simp [encs]
theorem take_enc (m : Nat) (r : List UInt8) (h : m ≤ 4611686018427387904) : takeV false (enc m ++ r) = m ∧ takeBad false (enc m ++ r) = false ∧ takeRest false (enc m ++ r) = r := by
  have hd := dec_enc m r h
  have hp := enc_len_pos m
  have hv : decV (enc m ++ r) = m := by simp [decV, hd]
  have hn : decN (enc m ++ r) = (enc m).length := by simp [decN, hd]
  have hb : takeBad false (enc m ++ r) = false := by
    unfold takeBad
    rw [hn, Bool.false_or, decide_eq_false_iff_not]
    omega
  refine ⟨by simp [takeV, hv], hb, ?_⟩
  unfold takeRest
  rw [hb, hn]
  simp
theorem clamp_maxmin (v : Int) : max 0 (min v 4611686018427387904) = (clamp v : Int) := by
  unfold clamp
  split
  · omega
  · split <;> omega

set_option maxRecDepth 100000 in
set_option maxHeartbeats 4000000 in
theorem nums_any (V : Option Addr) (n c : Nat) (vs : List Int) (w : World) (ht : Tab w) (hv : Sl w V n (ivs vs)) (hf : Fits vs) (hn : n ≤ 9223372036854775807) :
    Calls Tryd.prog 3 #[.slice V n c] w fun e w' => e = .returned (.bool true) ∧ Only [] w w' := by
  have hn' : n ≤ 9223372036854775807 := hn
  have hlen : vs.length = n := by simpa using hv.len
  by_cases hbig : 500 < n
  · go_enter Tryd.func3, Tryd.ntmps3
    go_wp2
    go_ret
    exact ⟨rfl, Only.refl _ _⟩
  · have hL := Lib.hid hlen
    have hel := encsLen_le vs
    unfold encsLen at hel
    rw [hlen] at hel
    obtain ⟨p, hp⟩ : ∃ p, p = encs vs := ⟨_, rfl⟩
    rw [← hp] at hel
    have HP := Lib.hid hp
    have hp9 : p.length ≤ 4500 := by omega
    clear hlen hel hp
    go_enter Tryd.func3, Tryd.ntmps3
    go_wp2_with fail
    have hv0 := hv.alloc (.cells #[.slice none 0 0] 25)
    refine (wnums_any w.heap.size none 0 [] V n c vs _ (Wr.new w) hv0 hf (by
      rintro h0 ad rfl hm
      simp only [blks_none, List.mem_singleton] at hm
      have := hv.lt h0 ad rfl
      omega) (by omega) (by simp)).mono ?_
    rintro e w1 ⟨rfl, A1, c1, HW1, HO1, HB1⟩
    have Q1 : Only [] w w1 := ((Only.refl [] w).alloc _).trans HO1 (by intro x hx; simp at hx; exact .inr (by omega))
    rw [List.nil_append, ← HP.out] at HW1
    have G1 : w.heap.size < w1.heap.size := HW1.lt
    have A1lt : ∀ k ∈ blks A1, k < w1.heap.size := fun k hk => HW1.2.lt hk
    clear HO1 HB1 hv0
    go_wp2_with fail
    refine (out_any w.heap.size A1 c1 p w1 HW1 (by omega)).mono ?_
    rintro e w2 ⟨X2, d2, rfl, V2, O2, B2⟩
    have W2 := HW1.keep O2
    have Q2 := Q1.then O2
    clear HW1 O2
    go_wp2_with fail
    refine (refNums_any V n c vs w2 (hv.keep Q2) hf (by omega)).mono ?_
    rw [← HP.out]
    rintro e w3 ⟨X3, d3, rfl, V3, O3, B3⟩
    go_wp2_with fail
    refine (same_eq X2 X3 _ d2 _ d3 p p w3 rfl (V2.sl.keep O3) V3.sl (by omega)).mono ?_
    rintro e w4 ⟨rfl, O4⟩
    have V4 := V2.keep (O3.then O4)
    have W4 := W2.keep (O3.then O4)
    have Q4 := (Q2.then O3).then O4
    have B4 : ∀ k ∈ blks X2, w1.heap.size ≤ k := B2
    clear V2 W2 Q2 V3 O3 O4 B3 B2
    go_wp2_with fail
    refine (newReader_any w4 X2 _ d2 p V4.sl (by omega)).mono ?_
    rintro e w5 ⟨g5, kb5, A5, c5, rfl, hg5, hk5, R5, O5⟩
    have V5 := V4.keep O5
    have W5 := W4.keep O5
    have Q5 := Q4.then O5
    clear V4 W4 Q4 O5 R5
    go_wp2_with fail
    refine (spoil_any X2 _ d2 _ w5 V5 (by omega)).mono ?_
    rintro e w6 ⟨rfl, O6⟩
    have Q6 : Only [] w w6 := Q5.trans O6 (fun x hx => .inr (by have := B4 x hx; have := Q1.size; omega))
    have W6 : Wr w6 w.heap.size A1 c1 p := W5.only O6 (fun hm => by have := B4 _ hm; omega) (fun k hk hm => by have := B4 _ hm; have := A1lt k hk; omega)
    clear V5 W5 Q5 O6 B4
    go_wp2_with fail
    refine (out_any w.heap.size A1 c1 p w6 W6 (by omega)).mono ?_
    rintro e w7 ⟨X7, d7, rfl, V7, O7, _⟩
    have Q7 := Q6.then O7
    clear W6 Q6 O7
    go_wp2_with fail
    refine (newReader_any w7 X7 _ d7 p V7.sl (by omega)).mono ?_
    rintro e w8 ⟨g, kb, A8, c8, rfl, hg8, hk8, R8, O8⟩
    have Q8 := Q7.then O8
    have hgw : w.heap.size ≤ g := Nat.le_trans Q7.size hg8
    have T8 := ht.keep Q8
    clear V7 Q7 O8 hk8 hg8
    go_wp2_with fail
    go_loopw [6] (fun i wr => ∃ (k : Nat) (A' : Option Addr) (c' : Nat) (l : List UInt8), k ≤ n ∧ i = .int .i64 k ∧ Hid (l = encs (vs.drop k)) ∧ Rd wr g kb A' c' false l ∧ Only [g] w8 wr) (fun i _ => n - (intOf i).toNat)
    case atStart => exact ⟨0, A8, c8, p, Nat.zero_le _, rfl, by show _ = _; rw [HP.out]; rfl, R8, Only.refl _ _⟩
    case round =>
      obtain ⟨k, A', c', l, hk, rfl, HL, HR, HO⟩ := hrel
      have QR : Only [] w wr := Q8.trans HO (fun x hx => .inr (by simp at hx; omega))
      by_cases hlt : k < n
      · have hkl : k < vs.length := by rw [hL.out]; exact hlt
        obtain ⟨ad, u, rfl, hu, hcell⟩ := (hv.keep QR).at_ hlt
        rw [ivs_get _ _ hkl] at hu
        obtain rfl : Value.int .i64 _ = u := by injection hu
        have hdrop : l = enc (clamp (vs[k]'hkl)) ++ encs (vs.drop (k + 1)) := by
          rw [HL.out, List.drop_eq_getElem_cons hkl, encs_cons]
        obtain ⟨t1, t2, t3⟩ := take_enc (clamp (vs[k]'hkl)) (encs (vs.drop (k + 1))) (clamp_le _)
        rw [← hdrop] at t1 t2 t3
        have hadb : ad.block ≠ g := by
          have := hv.lt (by omega) ad rfl
          omega
        have HD := Lib.hid hdrop
        generalize vs[k]'hkl = v at *
        have HN : Hid (∀ (W : World) (X : Int), Rd W g kb A' c' false l → (clamp v : Int) = X → Calls Tryd.prog 17 #[.pointer (some ⟨g, 0, none⟩)] W
            (fun e w' => e = .returned (.int .i64 X) ∧ ∃ A2 c2, Rd w' g kb A2 c2 false (encs (vs.drop (k + 1))) ∧ Only [g] W w')) := by
          intro W X h hX
          refine (num_any h).mono fun e w' hh => ?_
          rw [t1, t2, t3] at hh
          obtain ⟨he, hr⟩ := hh
          exact ⟨by rw [he, hX], hr⟩
        have three : (v ≤ 0 ∧ Hid ((clamp v : Int) = 0)) ∨ ((0 < v ∧ v ≤ 4611686018427387904) ∧ Hid ((clamp v : Int) = v)) ∨ (4611686018427387904 < v ∧ Hid ((clamp v : Int) = 4611686018427387904)) := by
          have hmm := clamp_maxmin v
          unfold Hid
          omega
        clear hu hdrop t1 t2 t3
        rcases three with ⟨hc, HX⟩ | ⟨⟨hc1, hc2⟩, HX⟩ | ⟨hc, HX⟩
        all_goals
          go_wp2_with fail
          go_region_held3 (fun w' => w'.cell? (ad.add k) = some (.int .i64 v)) (first | go_keep | exact HC2)
            (first | (go_at_call 17; refine (HN.out _ _ (HR.keep (Only.drew (Only.refl _ _))) HX.out).mono ?_; rintro e w' ⟨rfl, A2, c2, R2, O2⟩; have HC2 := O2.cellSome (p := ad.add k) hcell (by rw [add_block]; simpa using hadb)))
          all_goals go_wp2
          all_goals
            go_roundw
            case rel => exact ⟨k + 1, A2, c2, _, by omega, by go_num, rfl, R2, HO.trans (Only.trans (Only.drew (Only.refl _ _)) O2 (fun x hx => .inl hx)) (fun x hx => .inl hx)⟩
            case measure => simp [intOf]; omega
      · have hl0 : l = [] := by
          rw [HL.out, List.drop_of_length_le (by rw [hL.out]; omega)]
          rfl
        subst hl0
        go_wp2_with (first
          | (go_at_call 18; go_must (refine (good_any HR).mono ?_); rintro e w' ⟨rfl, rfl⟩)
          | (go_at_call 19; go_must (refine (whole_any HR).mono ?_); rintro e w' ⟨rfl, rfl⟩)
          | (go_at_call 20; go_must (refine (known_any wr (ht.keep QR)).mono ?_); rintro e w9 ⟨rfl, O9⟩))
        go_ret
        exact ⟨rfl, QR.then O9⟩
end Go.Proofs.YtecgmlifeljdeaaDoor
