/-
  The walk of the law LexLiterals.
-/
import Derived.Test.YtbbgdcnnacakjaaDoorYLitsM
import Derived.Test.YtbbgdcnnacakjaaDoorRz
import Derived.Test.YtbbgdcnnacakjaaDoorYAtoms
import Derived.Deep.QuietTactic
import Derived.BigQuiet
namespace Go.Proofs.YtbbgdcnnacakjaaDoor
open Go.RowKit Go.Instr

theorem lit_text {b : List UInt8} {x : Nat} {t u1 u2 : ByteArray} (hx : b.length = x) (ht : t.data.toList = decD x) (e1 : u1.data.toList = (ByteArray.mk #[119, 32, 123]).data.toList ++ t.data.toList) (e2 : u2.data.toList = u1.data.toList ++ (ByteArray.mk #[125]).data.toList) : u2.data.toList = litLine b := by
  rw [e2, e1, ht, ← hx]
  rfl
/-- Rows with one of them another one. -/
theorem rb_set {W : World} {g c8 k n : Nat} {vs : List Value} {ls : List (List UInt8)} {A1 : Option Addr} {c1 : Nat} {b : List UInt8} (hlen : ls.length = n) (hk : k < n) (hown : Own W 32 (some ⟨g, 0, none⟩) n c8 (vs.set k (.slice A1 b.length c1)))
    (hrow : ∀ (i : Nat) (l : List UInt8), ls[i]? = some l → ∃ Ai ci, vs[i]? = some (.slice Ai l.length ci) ∧ Bt W Ai l.length ci l) (hb : Bt W A1 b.length c1 b) (hvl : vs.length = n) : Rb W (some ⟨g, 0, none⟩) n (ls.set k b) := by
  refine ⟨by rw [List.length_set, hlen], _, hown.sl, fun i l hi => ?_⟩
  by_cases h : k = i
  · subst h
    rw [List.getElem?_set_self (by omega)] at hi
    injection hi with hi
    subst hi
    exact ⟨A1, c1, by rw [List.getElem?_set_self (by omega)], hb⟩
  · rw [List.getElem?_set_ne h] at hi
    obtain ⟨Ai, ci, h1, h2⟩ := hrow i l hi
    exact ⟨Ai, ci, by rw [List.getElem?_set_ne h]; exact h1, h2⟩
theorem rb_more {W : World} {A8 : Option Addr} {n c8 : Nat} {vs : List Value} {ls : List (List UInt8)} (hlen : ls.length = n) (hvl : vs.length = n) (hown : Own W 32 A8 (n + 1) c8 (vs ++ [.slice none 0 0]))
    (hrow : ∀ (i : Nat) (l : List UInt8), ls[i]? = some l → ∃ Ai ci, vs[i]? = some (.slice Ai l.length ci) ∧ Bt W Ai l.length ci l) : Rb W A8 (n + 1) (ls ++ [[]]) := by
  refine ⟨by rw [List.length_append, hlen]; rfl, _, hown.sl, fun i l hi => ?_⟩
  by_cases h : i < n
  · rw [List.getElem?_append_left (by omega)] at hi
    obtain ⟨Ai, ci, h1, h2⟩ := hrow i l hi
    exact ⟨Ai, ci, by rw [List.getElem?_append_left (by omega)]; exact h1, h2⟩
  · rw [List.getElem?_append_right (by omega)] at hi
    have hi0 : i - ls.length = 0 := by
      have := (List.getElem?_eq_some_iff.1 hi).1
      simp at this
      omega
    rw [hi0] at hi
    simp at hi
    subst hi
    exact ⟨none, 0, by rw [List.getElem?_append_right (by omega), show i - vs.length = 0 by omega]; rfl, Bt.none_ _⟩
theorem rb_one {W : World} {n : Nat} {vs : List Value} {ls : List (List UInt8)} (hvl : vs.length = n) (hlen : ls.length = n) (hrow : ∀ (i : Nat) (l : List UInt8), ls[i]? = some l → ∃ Ai ci, vs[i]? = some (.slice Ai l.length ci) ∧ Bt W Ai l.length ci l) : ∀ u ∈ vs, u.oneCell' = true := by
  intro u hu
  obtain ⟨i, hi, rfl⟩ := List.getElem_of_mem hu
  obtain ⟨Ai, ci, h1, _⟩ := hrow i _ (List.getElem?_eq_getElem (by omega))
  rw [List.getElem?_eq_getElem hi] at h1
  injection h1 with h1
  rw [h1]
  rfl
section
variable {w : World} {A : Option Addr} {n c : Nat} {ls : List (List UInt8)}
set_option maxRecDepth 100000 in
set_option maxHeartbeats 32000000 in
theorem lexlits_any (hs : Rb w A n ls) (hn0 : n ≤ 140737488351232) (hl : ∀ l ∈ ls, l.length ≤ 140737488351232) :
    Calls Tryd.prog 5 #[.slice A n c] w fun e w' => e = .returned (.bool true) ∧ Only [] w w' := by
  by_cases h20 : 20 < n
  · have h20' : (20 : Int) < (n : Int) := by omega
    have HL := Lib.hid (long_any (c := c) hs (by omega))
    clear hs hl
    go_enter Tryd.func5, Tryd.ntmps5
    go_wp2_with (go_at_call 9; with_reducible refine HL.out.mono ?_; rintro e w2 ⟨⟨b, rfl⟩, rfl⟩; cases b)
    all_goals go_wp2_with fail
    all_goals go_ret
    all_goals exact ⟨rfl, Only.refl _ _⟩
  have h20' : ¬ (20 : Int) < (n : Int) := by omega
  have hn : n ≤ 20 := by omega
  have HL := Lib.hid (long_few (c := c) hs (by omega) (fun l h => by have := hl l h; omega))
  by_cases h4000 : 4000 < totL ls
  · rw [decide_eq_true (show (4000 : Int) < (totL ls : Int) by omega)] at HL
    clear hs hl
    go_enter Tryd.func5, Tryd.ntmps5
    go_wp2_with (go_at_call 9; with_reducible refine HL.out.mono ?_; rintro e w2 ⟨rfl, rfl⟩)
    go_ret
    exact ⟨rfl, Only.refl _ _⟩
  rw [decide_eq_false (show ¬ (4000 : Int) < (totL ls : Int) by omega)] at HL
  have hlb : ∀ l ∈ ls, l.length ≤ 4000 := fun l h => by have := totL_mem h; omega
  have hnl := hs.len
  have HS := Lib.hid hs
  have HNL := Lib.hid hnl
  have HLB := Lib.hid hlb
  obtain ⟨j0, hj, hjz0, hjz1, hjz2⟩ := info_parts infoBytes
  obtain ⟨i0, hi, hz0, hz1, hz2⟩ := info_parts infoByte
  have kc := fun (w : World) (C : Array Value) (n c : Nat) => Lib.run_convert_bytes_const (P := Tryd.prog) w 32 5 C n c Tryd.underlying32 Tryd.underlying5
  clear hs hl hlb hnl h4000
  go_enter Tryd.func5, Tryd.ntmps5
  go_wp2_with (go_at_call 9; with_reducible refine HL.out.mono ?_; rintro e w2 ⟨rfl, rfl⟩)
  clear HL
  go_loopw [3, 4] (fun lv iv wr => Only [] w wr ∧ ∃ (k : Nat) (L : Option Addr) (d : Nat), lv = .slice L k d ∧ iv = .int .i64 (k : Int) ∧ k ≤ n ∧ Rz rBt (fun x => w.heap.size ≤ x) w.heap.size wr L k d ((ls.take k).map litLine)) (fun _ iv _ => n - (intOf iv).toNat)
  case atStart => exact ⟨Only.refl _ _, 0, none, 0, rfl, rfl, by omega, Rz.nil _ _ _ _⟩
  case round =>
    obtain ⟨hO, k, L, d, rfl, rfl, hk, hRz⟩ := hrel
    have HO := Lib.hid hO
    have HRZ := Lib.hid hRz
    have HLL : Hid (∀ z ∈ blks L, z < wr.heap.size) := by obtain ⟨vs0, h0, _⟩ := hRz; exact fun z hz => h0.lt hz
    by_cases hlt : k < n
    · have hlt' : (k : Int) < (n : Int) := by omega
      have hkl : k < ls.length := by rw [HNL.out]; exact hlt
      obtain ⟨ad, Ai, ci, rfl, c1, b1⟩ := (HS.out.keep hO).at_ hlt hkl
      have hx4 := HLB.out _ (List.getElem_mem hkl)
      have hmap : (ls.take (k + 1)).map litLine = (ls.take k).map litLine ++ [litLine ls[k]] := by
        rw [List.take_succ_eq_append_getElem hkl, List.map_append]
        rfl
      obtain ⟨b, hb⟩ : ∃ b, ls[k] = b := ⟨_, rfl⟩
      rw [hb] at c1 b1 hmap hx4
      obtain ⟨x, hx⟩ : ∃ x, b.length = x := ⟨_, rfl⟩
      rw [hx] at c1 hx4
      have HX := Lib.hid hx
      have HMAP := Lib.hid hmap
      have HD := Lib.hid (fun W => dec_any x W (by omega))
      have HM : Hid (n - (intOf (.int .i64 ((k : Int) + 1))).toNat < n - (intOf (.int .i64 (k : Int))).toNat) := by
        show n - ((k : Int) + 1).toNat < n - (k : Int).toNat
        omega
      clear hO hRz b1 hb hx hmap
      go_wp2_with first
        | (go_at_call 19; refine (HD.out _).mono ?_; rintro e w2 ⟨t, rfl, HT, O2⟩; have lt : t.size ≤ 19 := (by have := decD_19 (n := x) (by omega); rw [← HT.out] at this; simpa using this); obtain ⟨u1, e1, z1, hadd1⟩ := add_eq ⟨#[119, 32, 123]⟩ t (by show 3 + t.size ≤ _; omega); have zz1 : u1.size = 3 + t.size := z1; obtain ⟨u2, e2, z2, hadd2⟩ := add_eq u1 ⟨#[125]⟩ (by show u1.size + 1 ≤ _; omega); have zz2 : u2.size = u1.size + 1 := z2; obtain ⟨w3, c3, hcv3, g3, O3⟩ := conv_gro u2 (by omega) w2; have HLT := Lib.hid (lit_text HX.out HT.out e1 e2); have hRz3 := HRZ.out.keep rBt_steady ((O2.then O3).alloc (.cells #[.slice (some ⟨w2.heap.size, 0, none⟩) u2.size c3] 32)); have HRZ3 := Lib.hid hRz3; obtain ⟨vs, hown, hll, hLb, hrows⟩ := hRz3; have HB3 := Lib.hid (g3.bt.keep ((Only.refl _ _).alloc (.cells #[.slice (some ⟨w2.heap.size, 0, none⟩) u2.size c3] 32))); have HALL := Lib.hid (And.intro O2 O3); have HROW := Lib.hid (And.intro hll (And.intro hLb hrows)); have HG3 := Lib.hid (g3.lt w2.heap.size (by simp)); clear e1 e2 z1 z2 zz1 zz2 lt g3 O2 O3 hll hLb hrows HT)
        | (at_builtin; go_must (refine wpList_append_sl rfl (.tmp 26) (.tmp 36) 22 rfl 32 j0 (.slice none 0 0) 24 Tryd.underlying22 hj hjz0 hjz1 hjz2 rfl L k d vs rfl hown (some ⟨w3.heap.size, 0, none⟩) 1 1 [.slice (some ⟨w2.heap.size, 0, none⟩) u2.size c3] rfl (Sl.of_new _ _ _ _) (fun u hu => by rw [List.mem_singleton.1 hu]; rfl) (by unfold maxLen; omega) (by omega) ?_); intro L4 d4 w4 HV4 HO4 HB4)
      have hsz1 := HO.out.size
      have hsz2 := HALL.out.1.size
      have hsz3 := HALL.out.2.size
      have hg3 := HG3.out
      have hul : (litLine b).length = u2.size := by rw [← HLT.out]; simp
      have hbt := HB3.out
      rw [HLT.out] at hbt
      have hnew := rz_push (S := fun x => w.heap.size ≤ x) rBt_steady (base := w.heap.size) (by simp; omega) hown HROW.out.1 HROW.out.2.1 HROW.out.2.2 (by rw [hul]; exact HV4) HO4 HB4 (show rBt _ (some ⟨w2.heap.size, 0, none⟩) c3 (litLine b) by unfold rBt; rw [hul]; exact hbt) (fun y hy => by
        simp at hy
        subst hy
        refine ⟨by show w.heap.size ≤ w2.heap.size; omega, by simp; omega, fun hm => ?_⟩
        have := HLL.out _ hm
        omega)
      rw [← HMAP.out] at hnew
      exact ⟨⟨((HO.out.then (HALL.out.1.then HALL.out.2)).alloc _).trans HO4 (fun y hy => .inr (HROW.out.2.1 y hy)), k + 1, L4, d4, rfl, by simp, by omega, hnew⟩, HM.out⟩
    · obtain rfl : k = n := by omega
      have hkk : ¬ (k : Int) < (k : Int) := by omega
      have htk : ls.take k = ls := List.take_of_length_le (by rw [HNL.out]; exact Nat.le_refl _)
      rw [htk] at HRZ
      -- the last line
      obtain ⟨W1, hW1⟩ : ∃ W1, wr.alloc (.cells #[.int .u8 40, .int .u8 101, .int .u8 110, .int .u8 100, .int .u8 41] 5 (5, 6)) = W1 := ⟨_, rfl⟩
      have o1 : Only [] wr W1 := by rw [← hW1]; exact (Only.refl _ _).alloc _
      have z1 : W1.heap.size = wr.heap.size + 1 := by rw [← hW1]; simp
      have b1 : Bt W1 (some ⟨wr.heap.size, 0, none⟩) 5 5 endB5 := by rw [← hW1]; exact bt_lit wr #[.int .u8 40, .int .u8 101, .int .u8 110, .int .u8 100, .int .u8 41] endB5 5 (5, 6) rfl rfl (by decide)
      have hRz3 := HRZ.out.keep rBt_steady (o1.alloc (.cells #[.slice (some ⟨wr.heap.size, 0, none⟩) 5 5] 32))
      obtain ⟨vs, hown, hll, hLb, hrows⟩ := hRz3
      have hB3 := b1.keep ((Only.refl _ _).alloc (.cells #[.slice (some ⟨wr.heap.size, 0, none⟩) 5 5] 32))
      have HB3 := Lib.hid hB3
      have HROW := Lib.hid (And.intro hll (And.intro hLb hrows))
      have HO1 := Lib.hid o1
      have HSRC := Lib.hid (Sl.of_new W1 #[.slice (some ⟨wr.heap.size, 0, none⟩) 5 5] 32 (0, 0))
      rw [z1] at HSRC
      have HZ1 := Lib.hid z1
      have HW1 := Lib.hid hW1
      clear hO hRz b1 hB3 hll hLb hrows o1 z1 htk
      rw [← hW1] at hown HSRC
      clear hW1
      go_wp2_with (at_builtin; go_must (refine wpList_append_sl rfl (.tmp 38) (.tmp 41) 22 rfl 32 j0 (.slice none 0 0) 24 Tryd.underlying22 hj hjz0 hjz1 hjz2 rfl L k d vs rfl hown (some ⟨wr.heap.size + 1, 0, none⟩) 1 1 [.slice (some ⟨wr.heap.size, 0, none⟩) 5 5] rfl HSRC.out (fun u hu => by rw [List.mem_singleton.1 hu]; rfl) (by unfold maxLen; omega) (by omega) ?_); intro L4 d4 w4 HV4 HO4 HB4; rw [HW1.out] at HO4 HB4)
      have hown' : Own (W1.alloc (.cells #[.slice (some ⟨wr.heap.size, 0, none⟩) 5 5] 32)) 32 L k d vs := by rw [← HW1.out]; exact hown
      have hsz0 := HO.out.size
      have hz1 := HZ1.out
      have hnew := rz_push (S := fun x => w.heap.size ≤ x) rBt_steady (base := w.heap.size) (by simp; omega) hown' HROW.out.1 HROW.out.2.1 HROW.out.2.2 (l := endB5) (Ai := some ⟨wr.heap.size, 0, none⟩) (ci := 5) HV4 HO4 HB4 (show rBt _ (some ⟨wr.heap.size, 0, none⟩) 5 endB5 from HB3.out) (fun y hy => by
        simp at hy
        subst hy
        refine ⟨by show w.heap.size ≤ wr.heap.size; omega, by simp; omega, fun hm => ?_⟩
        have := HLL.out _ hm
        omega)
      have hrb : Rb w4 L4 (k + 1) (litLines ls) := hnew.rb
      have HLN : Hid (∀ W, Only [] w4 W → Rb W L4 (k + 1) (litLines ls)) := fun W o => hrb.keep o
      have hO4 : Only [] w w4 := ((HO.out.then HO1.out).alloc _).trans HO4 (fun y hy => .inr (HROW.out.2.1 y hy))
      have HO4' := Lib.hid hO4
      have HLB9 : Hid (∀ b ∈ ls, b.length ≤ 9999999) := fun b hb => by have := HLB.out b hb; omega
      have hLL : ∀ l ∈ litLines ls, l.length ≤ 140737488355000 := fun l hl => by
        unfold litLines at hl
        rcases List.mem_append.1 hl with h | h
        · obtain ⟨b, hb, rfl⟩ := List.mem_map.1 h
          have h2 := decD_len b.length 7 (by omega) (by have := HLB.out b hb; omega)
          unfold litLine
          simp
          omega
        · rw [List.mem_singleton.1 h]; decide
      have HLL2 := Lib.hid hLL
      have htl : (litToks ls ++ endT).length = 2 * k + 3 := by rw [List.length_append, litToks_len, HNL.out]; rfl
      obtain ⟨q, hq⟩ : ∃ q, 2 * k + 3 = q := ⟨_, rfl⟩
      rw [hq] at htl
      have HLEX : Hid (Calls Tryd.prog 10 #[.slice L4 (k + 1) d4, .slice A k c] w4 fun e w' => ∃ A' c', e = .returned (.tuple #[.slice A' q c', .int .i64 0]) ∧ Only [] w4 w' ∧ Gr 2 w' A' q (gx tkl (litToks ls ++ endT))) := by
        have h := Lex_any (lc := d4) (bc := c) hrb (HS.out.keep hO4) (by omega) (by omega) hLL
        rw [lex_lits HLB9.out (by rw [HNL.out]; omega)] at h
        refine h.mono fun e w' hr => ?_
        obtain ⟨hO', A', c', he, hg, _⟩ := hr
        rw [htl] at he hg
        exact ⟨A', c', he, hO', hg.reads⟩
      have hqn : ((q : Int) != 2 * (k : Int) + 3) = false := by rw [bne_eq_false_iff_eq]; omega
      have HQ := Lib.hid hq
      have HTL := Lib.hid htl
      clear hown hown' hnew hrb HV4 HO4 HB4 hO4 hLL htl hq HROW HB3 HSRC HZ1 HO1 HRZ HLL hsz0 hz1
      go_wp2_with (go_at_call 10; refine HLEX.out.mono ?_; rintro e w5 ⟨A5, c5, rfl, O5, G5⟩; have HG5 := Lib.hid G5; have HO5 := Lib.hid O5; clear G5 O5 HLEX)
      go_loopw [7] (fun iv wr2 => Only [] w5 wr2 ∧ ∃ i : Nat, iv = .int .i64 (i : Int) ∧ i ≤ k) (fun iv _ => k - (intOf iv).toNat)
      case atStart => exact ⟨Only.refl _ _, 0, rfl, by omega⟩
      case round =>
        obtain ⟨hOr, i, rfl, hik⟩ := hrel
        have HOR := Lib.hid hOr
        by_cases hlti : i < k
        · have hlti' : (i : Int) < (k : Int) := by omega
          have hil : i < ls.length := by rw [HNL.out]; exact hlti
          have hq0 := HQ.out
          have ht1 : 2 * i < (litToks ls ++ endT).length := by rw [HTL.out]; omega
          have ht2 : 2 * i + 1 < (litToks ls ++ endT).length := by rw [HTL.out]; omega
          obtain ⟨ad, rfl, d1, d2⟩ := tok_cell (HG5.out.keep hOr) (k := 2 * i) (by omega) ht1
          obtain ⟨ad', e', d3, d4⟩ := tok_cell (HG5.out.keep hOr) (k := 2 * i + 1) (by omega) ht2
          injection e' with e'
          subst e'
          have hat := litToks_at (bs := ls) hil
          have f1 : (litToks ls ++ endT)[2 * i]'ht1 = (1, [119]) := by
            have h1 : 2 * i < (litToks ls).length := by rw [litToks_len]; omega
            rw [List.getElem_append_left h1]
            have := hat.1
            rw [List.getElem?_eq_getElem h1] at this
            injection this
          have f2 : (litToks ls ++ endT)[2 * i + 1]'ht2 = (2, ls[i]) := by
            have h1 : 2 * i + 1 < (litToks ls).length := by rw [litToks_len]; omega
            rw [List.getElem_append_left h1]
            have := hat.2
            rw [List.getElem?_eq_getElem h1] at this
            injection this
          rw [f1] at d1 d2
          rw [f2] at d3 d4
          obtain ⟨bd, Bi, di, rfl, cB, bB⟩ := (HS.out.keep ((HO4'.out.then HO5.out).then hOr)).at_ hlti hil
          have hx4 := HLB.out _ (List.getElem_mem hil)
          have HBADL := Lib.hid (lex_bad_lit HLB9.out hil 1)
          obtain ⟨b, hb⟩ : ∃ b, ls[i] = b := ⟨_, rfl⟩
          rw [hb] at d3 d4 cB bB hx4 HBADL
          obtain ⟨tb, htb⟩ : ∃ tb, St b = tb := ⟨_, rfl⟩
          have hcv : ∀ m, (convert 32 9 (.slice Bi b.length di)).run Tryd.prog (wr.drewN m) = .ok (.string tb) (wr.drewN m) := fun m => by
            rw [← htb]
            exact run_str_sl (P := Tryd.prog) (w := wr.drewN m) 32 9 5 Bi b.length di b Tryd.underlying32 Tryd.underlying5 Tryd.underlying9 (bB.sl.drewN m)
          have d4' : wr.cell? ⟨(ad.add ((2 * i + 1) * 2)).block, (ad.add ((2 * i + 1) * 2)).off + 1, none⟩ = some (.string tb) := by rw [d4]; exact congrArg (fun t => some (Value.string t)) htb
          have d2' : wr.cell? ⟨(ad.add (2 * i * 2)).block, (ad.add (2 * i * 2)).off + 1, none⟩ = some (.string ⟨#[119]⟩) := d2
          obtain ⟨x, hx⟩ : ∃ x, b.length = x := ⟨_, rfl⟩
          rw [hx] at cB hcv hx4
          have HX := Lib.hid hx
          have HBB := Lib.hid bB
          have HB := Lib.hid hb
          have HM : Hid (k - (intOf (.int .i64 ((i : Int) + 1))).toNat < k - (intOf (.int .i64 (i : Int))).toNat) := by
            show k - ((i : Int) + 1).toNat < k - (i : Int).toNat
            omega
          have i1 : 2 * (i : Int) < (q : Int) := by omega
          have i2 : 2 * (i : Int) + 1 < (q : Int) := by omega
          have i0' : (0 : Int) ≤ 2 * (i : Int) := by omega
          have t1 : (2 * (i : Int)).toNat = 2 * i := by omega
          have t2 : (2 * (i : Int) + 1).toNat = 2 * i + 1 := by omega
          clear d2 d4 htb hat f1 f2 hx hb bB hOr ht1 ht2 hq0
          go_wp2_with fail
          go_quiet (fail)
          obtain ⟨V, hV⟩ : ∃ V, wr.drewN nq = V := ⟨_, rfl⟩
          have hOV : Only [] w5 V := by rw [← hV]; exact HOR.out.drewN _
          have hcw : ∀ W, Only [] V W → W.cell? (bd.add i) = some (.slice Bi x di) := fun W o => o.cellSome (by rw [← hV]; exact cB) (fun hm => nomatch hm)
          have hbw : ∀ W, Only [] V W → Bt W Bi x di b := fun W o => by
            have := HBB.out.keep (((Only.refl [] wr).drewN nq).then (by rw [hV]; exact o))
            rwa [HX.out] at this
          obtain ⟨hll0, vs0, hsl0, hrows0⟩ := HS.out.keep ((HO4'.out.then HO5.out).then hOV)
          have hvl0 : vs0.length = k := hsl0.len
          have HCW := Lib.hid hcw
          have HBW := Lib.hid hbw
          have HR0 := Lib.hid (And.intro hll0 hrows0)
          have HVL := Lib.hid hvl0
          have HON := Lib.hid (rb_one hvl0 hll0 hrows0)
          have HSL := Lib.hid hsl0
          have HOV := Lib.hid hOV
          rw [hV]
          have hxn : (x : Int) + 1 ≤ 4001 := by omega
          clear d1 d2' d3 d4' cB hcv hV hOV hcw hbw hll0 hsl0 hrows0 hvl0 HOR t1 t2 i1 i2 i0'
          go_wp2_with first
            | (at_builtin; refine wpList_append_sl rfl (.tmp 107) (.tmp 108) 22 rfl 32 j0 (.slice none 0 0) 24 Tryd.underlying22 hj hjz0 hjz1 hjz2 rfl (some ⟨V.heap.size, 0, none⟩) 0 0 [] rfl (Gw.empty 1 V 32) (some bd) k c vs0 rfl (HSL.out.keep ((Only.refl _ _).alloc _)) HON.out (by unfold maxLen; omega) (by omega) ?_; intro A8 c8 w8 HV8 HO8 HB8; rw [Nat.zero_add] at HV8; rw [List.nil_append] at HV8; obtain ⟨g8, hg8⟩ := Gw.form (k := 1) HV8 (by omega); have hO8 : Only [] V w8 := ((Only.refl [] V).alloc _).trans HO8 (fun y hy => .inr (by simp at hy; omega)); have c8B := HCW.out _ (hO8.alloc (.cells #[] 5)); have HGE : Hid (V.heap.size ≤ g8) := (by have := HB8 g8 (by rw [hg8]; simp); simp at this; show _ ≤ _; omega); subst hg8; have HVV := Lib.hid HV8; have HO8' := Lib.hid hO8; clear HV8 HO8 HB8 hO8; obtain ⟨ad8, hE8⟩ : ∃ ad8 : Addr, (⟨g8, 0, none⟩ : Addr) = ad8 := ⟨_, rfl⟩; rw [hE8]; have HE8 := Lib.hid hE8; clear hE8)
            | (at_builtin; refine wpList_append_sl rfl (.tmp 112) (.tmp 116) 32 rfl 5 i0 (.int .u8 0) 1 Tryd.underlying32 hi hz0 hz1 hz2 rfl (some ⟨w8.heap.size, 0, none⟩) 0 0 [] rfl (Gw.empty 1 w8 5) Bi x di (bvs b) rfl (HBW.out _ (HO8'.out.alloc _)).sl (bvs_one _) (by unfold maxLen; omega) (by omega) ?_; intro A9 c9 w9 HV9 HO9 HB9; rw [Nat.zero_add] at HV9; rw [List.nil_append] at HV9; have hO9 : Only [] w8 w9 := ((Only.refl [] w8).alloc _).trans HO9 (fun y hy => .inr (by simp at hy; omega)); have HB9' : Hid (∀ y ∈ blks A9, w8.heap.size ≤ y) := (fun y hy => by rcases HB9 y hy with h | h; simp at h; omega; simp at h; omega); have HO9' := Lib.hid hO9; clear HO9 HB9 hO9 c8B)
            | (at_builtin; refine wpList_append_sl rfl (.tmp 117) (.tmp 118) 32 rfl 5 i0 (.int .u8 0) 1 Tryd.underlying32 hi hz0 hz1 hz2 rfl A9 x c9 (bvs b) rfl (HV9.alloc _) _ 1 1 _ rfl (sl_one _ _ _ 1 rfl) (bvs_one _) (by unfold maxLen; omega) (by omega) ?_; intro A10 c10 w10 HV10 HO10 HB10; have hO10 : Only [] w8 w10 := (HO9'.out.alloc _).trans HO10 (fun y hy => .inr (HB9'.out y hy)); have HVV2 := Lib.hid (HVV.out.keep hO10); have c10g : w10.cell? (ad8.add i) = some (vs0[i]'(by rw [HVL.out]; exact hlti)) := (by obtain ⟨ad9, u9, e9, h9, hc9⟩ := HVV2.out.sl.at_ hlti; injection e9 with e9; subst e9; rw [← HE8.out]; rw [List.getElem?_eq_getElem (by rw [HVL.out]; exact hlti)] at h9; injection h9 with h9; rw [h9]; exact hc9); have f10g : w10.frozen? (ad8.add i) = false := (by rw [← HE8.out, add_none, Nat.zero_add]; exact HVV2.out.free i); have HV10' := Lib.hid HV10; have HO10' := Lib.hid hO10; have HB10' : Hid (∀ y ∈ blks A10, w8.heap.size ≤ y) := (fun y hy => by rcases HB10 y hy with h | h; exact HB9'.out y h; have := HO9'.out.size; simp at h; omega); clear HV10 HO10 HB10 hO10 HV9)
          have h8 := HE8.out
          subst h8
          rw [add_none, Nat.zero_add]
          have hg8 : g8 < w8.heap.size := HVV.out.lt (by simp)
          have hO11 : Only [] V (w10.setCell ⟨g8, i, none⟩ (.slice A10 (x + 1) c10)) := (HO8'.out.then HO10'.out).setCell (p := ⟨g8, i, none⟩) (.inr HGE.out) _
          have hbl : (b ++ [1]).length = x + 1 := by rw [List.length_append, HX.out]; rfl
          have hb10 : Bt (w10.setCell ⟨g8, i, none⟩ (.slice A10 (x + 1) c10)) A10 (b ++ [1]).length c10 (b ++ [1]) := by
            have h1 := HV10'.out
            rw [← bvs_append] at h1
            rw [hbl]
            exact h1.bt.only (rs := [g8]) ((Only.refl [g8] w10).setCell (p := ⟨g8, i, none⟩) (.inl (by simp)) _) (fun y hy hm => by have := HB10'.out y hy; simp at hm; omega)
          have hst := HVV2.out.stored i (.slice A10 (x + 1) c10)
          rw [← hbl] at hst
          have hrbad := rb_set (b := b ++ [1]) HR0.out.1 hlti (by rw [hbl] at hst ⊢; exact hst) (fun j l hj => by
            obtain ⟨Aj, cj, h1, h2⟩ := HR0.out.2 j l hj
            exact ⟨Aj, cj, h1, h2.keep hO11⟩) hb10 HVL.out
          have hlex := Lex_any (lc := d4) (bc := c8) (HLN.out _ ((HO5.out.then HOV.out).then hO11)) hrbad (by omega) (by omega) HLL2.out
          rw [HBADL.out] at hlex
          have HO11 := Lib.hid hO11
          have HLX := Lib.hid hlex
          clear hlex hrbad hst hb10 hbl hO11 c10g f10g
          refine HLX.out.mono ?_
          rintro e w12 ⟨O12, rfl⟩
          have HO12 := Lib.hid O12
          clear O12
          go_wp2_with fail
          exact ⟨⟨(HOV.out.then HO11.out).then HO12.out, i + 1, by simp, by omega⟩, HM.out⟩
        · obtain rfl : i = k := by omega
          have hii : ¬ (i : Int) < (i : Int) := by omega
          obtain ⟨hll0, vs0, hsl0, hrows0⟩ := HS.out.keep ((HO4'.out.then HO5.out).then hOr)
          have hvl0 : vs0.length = i := hsl0.len
          have HR0 := Lib.hid (And.intro hll0 hrows0)
          have HVL := Lib.hid hvl0
          have HON := Lib.hid (rb_one hvl0 hll0 hrows0)
          have HSL := Lib.hid hsl0
          clear hll0 hsl0 hrows0 hvl0 hOr
          go_wp2_with first
            | (at_builtin; refine wpList_append_sl rfl (.tmp 131) (.tmp 132) 22 rfl 32 j0 (.slice none 0 0) 24 Tryd.underlying22 hj hjz0 hjz1 hjz2 rfl (some ⟨wr.heap.size, 0, none⟩) 0 0 [] rfl (Gw.empty 1 wr 32) A i c vs0 rfl (HSL.out.keep ((Only.refl _ _).alloc _)) HON.out (by unfold maxLen; omega) (by omega) ?_; intro A8 c8 w8 HV8 HO8 HB8; rw [Nat.zero_add] at HV8; rw [List.nil_append] at HV8; have hO8 : Only [] wr w8 := ((Only.refl [] wr).alloc _).trans HO8 (fun y hy => .inr (by simp at hy; omega)); have HGE : Hid (∀ y ∈ blks A8, wr.heap.size ≤ y) := (fun y hy => by rcases HB8 y hy with h | h; simp at h; omega; simp at h; omega); have HO8' := Lib.hid hO8; clear HO8 HB8 hO8)
            | (at_builtin; refine wpList_append_sl rfl (.tmp 133) (.tmp 134) 22 rfl 32 j0 (.slice none 0 0) 24 Tryd.underlying22 hj hjz0 hjz1 hjz2 rfl A8 i c8 vs0 rfl (HV8.alloc _) (some ⟨w8.heap.size, 0, none⟩) 1 1 [.slice none 0 0] rfl (Sl.of_new _ _ _ _) (fun u hu => by rw [List.mem_singleton.1 hu]; rfl) (by unfold maxLen; omega) (by omega) ?_; intro A9 c9 w9 HV9 HO9 HB9; have hO9 : Only [] wr w9 := (HO8'.out.alloc _).trans HO9 (fun y hy => .inr (HGE.out y hy)); have HLX := Lib.hid (Lex_any (lc := d4) (bc := c9) (HLN.out w9 ((HO5.out.then HOR.out).then hO9)) (rb_more HR0.out.1 HVL.out HV9 (fun j l hj => (by obtain ⟨Aj, cj, h1, h2⟩ := HR0.out.2 j l hj; exact ⟨Aj, cj, h1, h2.keep hO9⟩))) (by omega) (by omega) HLL2.out); rw [lex_more_lits] at HLX; have HO9' := Lib.hid hO9; clear HV9 HO9 HB9 hO9 HV8)
            | (go_at_call 10; refine HLX.out.mono ?_; rintro e w10 ⟨O10, rfl⟩)
            | (go_at_call 17; refine (known_any _).mono ?_; rintro e w11 ⟨rfl, O11⟩)
          go_ret
          exact ⟨rfl, ((((HO4'.out.then HO5.out).then HOR.out).then HO9'.out).then O10).then O11⟩
end
end Go.Proofs.YtbbgdcnnacakjaaDoor
