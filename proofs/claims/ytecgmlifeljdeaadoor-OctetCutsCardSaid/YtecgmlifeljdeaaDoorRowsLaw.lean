/-
  The walk of the law OctetRows.
-/
import Derived.Test.YtecgmlifeljdeaaDoorHelp2
import Derived.Test.YtecgmlifeljdeaaDoorRefEnc
import Derived.Test.YtecgmlifeljdeaaDoorNums
namespace Go.Proofs.YtecgmlifeljdeaaDoor
open Go.RowKit

/-- A row behind its length is taken as it was. -/
theorem take_row (r rest : List UInt8) (h : r.length ≤ 1000000000) : rowTook false (rowEnc r ++ rest) = r ∧ rowBad false (rowEnc r ++ rest) = false ∧ rowRest false (rowEnc r ++ rest) = rest := by
  obtain ⟨t1, t2, t3⟩ := take_enc r.length (r ++ rest) (by omega)
  have he : rowEnc r ++ rest = enc r.length ++ (r ++ rest) := by unfold rowEnc; rw [List.append_assoc]
  unfold rowTook rowBad rowRest
  rw [he, t1, t2, t3]
  have hb : rawBad false (r ++ rest) (r.length : Int) = false := by
    unfold rawBad
    simp
    omega
  obtain ⟨g1, g2⟩ := raw_of_good hb
  rw [Int.toNat_natCast] at g1 g2
  exact ⟨by rw [g1, List.take_left], hb, by rw [g2, List.drop_left]⟩
theorem rowsEnc_cons (r : List UInt8) (ls : List (List UInt8)) : rowsEnc (r :: ls) = rowEnc r ++ rowsEnc ls := by simp [rowsEnc]
theorem rowsEnc_drop (ls : List (List UInt8)) (k : Nat) (h : k < ls.length) : rowsEnc (ls.drop k) = rowEnc ls[k] ++ rowsEnc (ls.drop (k + 1)) := by
  rw [List.drop_eq_getElem_cons h, rowsEnc_cons]
theorem rowEnc_len (r : List UInt8) (h : r.length ≤ 4000) : (rowEnc r).length ≤ r.length + 9 := by
  unfold rowEnc
  rw [List.length_append]
  have := enc_len9 (v := r.length) (by omega)
  omega
theorem rowsLen_le (ls : List (List UInt8)) (h : ∀ r ∈ ls, r.length ≤ 4000) : rowsLen ls ≤ 9 * ls.length + ls.flatten.length := by
  unfold rowsLen
  induction ls with
  | nil => simp [rowsEnc]
  | cons r ls ih =>
    rw [rowsEnc_cons, List.length_append, List.length_cons, List.flatten_cons, List.length_append]
    have := rowEnc_len r (h r (by simp))
    have := ih (fun r hr => h r (by simp [hr]))
    omega
theorem rowsEnc_succ (ls : List (List UInt8)) (k : Nat) (h : k < ls.length) : rowsEnc (ls.take (k + 1)) = rowsEnc (ls.take k) ++ rowEnc ls[k] := by
  rw [rowsEnc_take ls k h]
  rfl

/-- The two lists of blocks have none in common. -/
def Apart (a b : List Nat) : Prop := ∀ x ∈ a, x ∉ b

/-- What holds at the head of each round of the first loop. -/
def RowsInv (w : World) (ls : List (List UInt8)) (k : Nat) (A1 AW : Option Addr) (c1 n cW : Nat) (p : List UInt8) (wr : World) : Prop :=
  p.length = n ∧ p = rowsEnc (ls.take k) ∧ Wr wr w.heap.size A1 c1 p ∧ Wr wr (w.heap.size + 1) none 0 [] ∧ Own wr 5 AW n cW (bvs p) ∧ Only [] w wr ∧ (∀ x ∈ blks A1, w.heap.size + 2 ≤ x) ∧ (∀ x ∈ blks AW, w.heap.size + 2 ≤ x) ∧ Apart (blks A1) (blks AW)

set_option maxRecDepth 100000 in
set_option maxHeartbeats 4000000 in
theorem rows_light (A B : Option Addr) (n c cr : Nat) (ls : List (List UInt8)) (raw : List UInt8) (w : World) (ht : Tab w) (hr : Rw w A n ls) (hs : Sl w B raw.length (bvs raw)) (wl : weight ls ≤ 4000) (hraw : raw.length ≤ 4000) :
    Calls Tryd.prog 4 #[.slice A n c, .slice B raw.length cr] w fun e w' => e = .returned (.bool true) ∧ Only [] w w' := by
  obtain ⟨i0, hi, hz0, hz1, hz2⟩ := info_parts infoByte
  have hl : ls.length = n := hr.len
  have fl : ls.flatten.length ≤ 4000 := by unfold weight at wl; omega
  have nl : n ≤ 1333 := by unfold weight at wl; omega
  have hrl : ∀ r ∈ ls, r.length ≤ 4000 := fun r hr => by obtain ⟨a, b, rfl⟩ := List.append_of_mem hr; simp only [List.flatten_append, List.flatten_cons, List.length_append] at fl; omega
  have HH := Lib.hid (heavy_any A n c ls w hr (by omega) (fun l hl => by have := hrl l hl; omega))
  rw [show decide (4000 < weight ls) = false from by rw [decide_eq_false_iff_not]; omega] at HH
  have HL := Lib.hid hl
  have HRL := Lib.hid hrl
  have hrlen := rowsLen_le ls hrl
  have HT : Hid (∀ k, (rowsEnc (ls.take k)).length ≤ 16000) := fun k => by
    have h := rowsLen_take ls k
    unfold rowsLen at h hrlen
    omega
  have hR0 : rowsLen ls ≤ 16000 := by omega
  have hrb := hr.below
  clear hl hrl hrlen wl fl
  go_enter Tryd.func4, Tryd.ntmps4
  go_wp2_with fail
  refine HH.out.mono ?_
  rintro e w' ⟨rfl, rfl⟩
  clear HH
  go_wp2_with fail
  go_loopw [7, 8] (fun s i wr => ∃ (k : Nat) (A1 AW : Option Addr) (c1 m cW : Nat) (p : List UInt8), k ≤ n ∧ i = .int .i64 k ∧ s = .slice AW m cW ∧ RowsInv w ls k A1 AW c1 m cW p wr) (fun _ i _ => n - (intOf i).toNat)
  case atStart =>
    have h2 := (Wr.new w).keep ((Only.refl _ _).alloc (.cells #[.slice none 0 0] 25))
    have h3 := Wr.new (w.alloc (.cells #[.slice none 0 0] 25))
    rw [World.size_alloc] at h3
    exact ⟨0, none, none, 0, 0, 0, [], Nat.zero_le _, rfl, rfl, rfl, rfl, h2, h3, Own.nil _ _, ((Only.refl _ _).alloc _).alloc _, fun x hx => (by cases hx), fun x hx => (by cases hx), fun x hx => (by cases hx)⟩
  case round =>
    obtain ⟨k, A1, AW, c1, m, cW, p, hk, rfl, rfl, hpm, hp, W1, W2, VW, Q, Z1, ZW, ZA⟩ := hrel
    have hp16 : m ≤ 16000 := by have := HT.out k; rw [← hp] at this; omega
    have HP := Lib.hid hp
    clear hp
    by_cases hlt : k < n
    · have hkl : k < ls.length := by rw [HL.out]; exact hlt
      obtain ⟨ad, Ai, ci, rfl, hSa, hcell0, hrow0, hSr⟩ := hrb.at_ hlt hkl
      have hcell := Q.cellSome hcell0 (fun hm => by cases hm)
      have hrow := hrow0.keep Q
      have hcell00 := hcell0
      have hrow00 := hrow0
      have hr4 := HRL.out _ (List.getElem_mem hkl)
      have HE := Lib.hid (rowsEnc_succ ls k hkl)
      have hre := rowEnc_len (ls[k]'hkl) hr4
      generalize ls[k]'hkl = r at *
      have hlt1 := W1.lt
      have hlt2 := W2.lt
      have hA1lt : ∀ x ∈ blks A1, x < wr.heap.size := fun x hx => W1.2.lt hx
      have hAWlt : ∀ x ∈ blks AW, x < wr.heap.size := fun x hx => VW.lt hx
      clear hcell0 hrow0 hSr hSa
      go_wp2_with fail
      refine (roomy_any Ai ci r wr hrow (by omega)).mono ?_
      rintro e w1 ⟨gR, cR, rfl, VR, O1, BR⟩
      have hgR : gR < w1.heap.size := VR.lt (by simp)
      have hcell1 := O1.cellSome hcell (fun hm => by cases hm)
      have hcR := VR.cap
      go_wp2_with fail
      have hpre := VR.sl.pre (k := r.length) (by omega)
      rw [bvs_take, List.take_left] at hpre
      refine (wbytes_any w.heap.size A1 c1 p (some ⟨w1.heap.size, 0, none⟩) 1 1 [r] _ (fun x => wr.heap.size ≤ x) (W1.keep (O1.alloc _))
        (RwS.one (A := some ⟨gR, 0, none⟩) (c := cR) (Bk.new _ _ _) (hpre.alloc _) O1.size (by simpa using BR))
        (by intro x hx hm; rcases List.mem_cons.1 hm with h | h; omega; have := hA1lt x h; omega) (by omega) (by
          have h1 : rowsLen [r] = (rowEnc r).length := by simp [rowsLen, rowsEnc]
          rw [h1, hpm]; omega)).mono ?_
      rintro e w2 ⟨rfl, A1b, c1b, W1b, O2, B2⟩
      have hEb : p ++ rowsEnc [r] = p ++ rowEnc r := by simp [rowsEnc]
      rw [hEb] at W1b
      have Q1 : Only [] w w1 := Q.then O1
      have Q2 : Only [] w w2 := (Q1.alloc _).trans O2 (fun x hx => .inr (by rcases List.mem_cons.1 hx with h | h; omega; have := Z1 x h; omega))
      have s2 : w1.heap.size < w2.heap.size := by have := O2.size; rw [World.size_alloc] at this; omega
      have B2' : ∀ x ∈ blks A1b, x ∈ blks A1 ∨ w1.heap.size < x := fun x hx => by
        rcases B2 x hx with h | h
        · exact .inl h
        · right; rw [World.size_alloc] at h; omega
      have far2 : ∀ x, x < w1.heap.size + 1 → x ∉ w.heap.size :: blks A1 → w2.heap[x]? = (w1.alloc (.cells #[.slice (some ⟨gR, 0, none⟩) r.length cR] 23)).heap[x]? := fun x hx hn => O2.block x (by rw [World.size_alloc]; omega) hn
      have VR2 : Own w2 5 (some ⟨gR, 0, none⟩) (r.length + 1) cR (bvs (r ++ [171])) := (VR.alloc _).only O2 (fun x hx hm => by
        simp at hx
        subst hx
        rcases List.mem_cons.1 hm with h | h
        · omega
        · have := hA1lt _ h; omega)
      have VW2 : Own w2 5 AW m cW (bvs p) := ((VW.keep O1).alloc _).only O2 (fun x hx hm => by
        rcases List.mem_cons.1 hm with h | h
        · have := ZW x hx; omega
        · exact ZA x h hx)
      have W22 : Wr w2 (w.heap.size + 1) none 0 [] := (W2.keep (O1.alloc _)).only O2 (fun hm => by
        rcases List.mem_cons.1 hm with h | h
        · omega
        · have := Z1 _ h; omega) (fun x hx => by cases hx)
      have hcell2 := Q2.cellSome hcell00 (fun hm => by cases hm)
      have hrow2 := hrow00.keep Q2
      clear W1 W2 VW VR O1 O2 B2 Q Q1 hcell hcell1 hrow hpre far2
      go_wp2_with fail
      refine (stands_any (some ⟨gR, 0, none⟩) Ai cR ci r w2 VR2.sl hcR hrow2 (by omega)).mono ?_
      rintro e w3 ⟨rfl, O3⟩
      have VR3 := VR2.keep O3
      go_wp2_with fail
      refine (spoil_any (some ⟨gR, 0, none⟩) _ cR _ w3 VR3 (by omega)).mono ?_
      rintro e w4 ⟨rfl, O4⟩
      have O24 : Only [gR] w2 w4 := (O3.mono (ss := [gR]) (fun _ hx => by cases hx)).trans O4 (fun x hx => .inl (by simpa using hx))
      have Q4 : Only [] w w4 := Q2.trans O24 (fun x hx => .inr (by simp at hx; have := BR; omega))
      have W14 : Wr w4 w.heap.size A1b c1b (p ++ rowEnc r) := W1b.only O24 (fun hm => by simp at hm; omega) (fun x hx hm => by
        simp at hm
        rcases B2' x hx with h | h
        · have := hA1lt x h; omega
        · omega)
      have W24 : Wr w4 (w.heap.size + 1) none 0 [] := W22.only O24 (fun hm => by simp at hm; omega) (fun x hx => by cases hx)
      have VW4 : Own w4 5 AW m cW (bvs p) := VW2.only O24 (fun x hx hm => by simp at hm; have := hAWlt x hx; omega)
      have hA1b : ∀ x ∈ blks A1b, x < w4.heap.size := fun x hx => W14.2.lt hx
      have hcell4 := Q4.cellSome hcell00 (fun hm => by cases hm)
      have hrow4 := hrow00.keep Q4
      have s4 := O24.size
      clear W1b W22 VR2 VR3 VW2 O3 O4 O24 Q2 hcell2 hrow2
      go_wp2_with fail
      refine (refBytes_any Ai _ ci r w4 hrow4 (by omega)).mono ?_
      rintro e w5 ⟨F, cF, rfl, VF, O5, BF⟩
      have VW5 := VW4.keep O5
      have W15 := W14.keep O5
      have W25 := W24.keep O5
      have Q5 := Q4.then O5
      have s5 := O5.size
      clear VW4 W14 W24 Q4 O5 hcell4 hrow4
      go_wp2_with (at_builtin; go_must (refine wpList_append_sl rfl (.tmp 49) (.tmp 54) 23 rfl 5 i0 (.int .u8 0) 1 Tryd.underlying23 hi hz0 hz1 hz2 rfl AW _ cW _ rfl VW5 F _ cF _ rfl VF.sl (bvs_one _) (by unfold maxLen; omega) (by omega) ?_); intro AW2 cW2 w6 VW6 O6 B6)
      go_roundw
      case rel =>
        refine ⟨k + 1, A1b, AW2, c1b, _, cW2, p ++ rowEnc r, by omega, by go_num, rfl, by rw [List.length_append, hpm], by rw [HE.out, HP.out], ?_, ?_, by rw [bvs_append]; exact VW6, ?_, ?_, ?_, ?_⟩
        · exact W15.only O6 (fun hm => by have := ZW _ hm; omega) (fun x hx hm => by
            rcases B2' x hx with h | h
            · exact ZA x h hm
            · have := hAWlt x hm; omega)
        · exact W25.only O6 (fun hm => by have := ZW _ hm; omega) (fun x hx => by cases hx)
        · exact Q5.trans O6 (fun x hx => .inr (by have := ZW x hx; omega))
        · intro x hx
          rcases B2' x hx with h | h
          · exact Z1 x h
          · omega
        · intro x hx
          rcases B6 x hx with h | h
          · exact ZW x h
          · omega
        · intro x hx hm
          rcases B6 x hm with h | h
          · rcases B2' x hx with h' | h'
            · exact ZA x h' h
            · have := hAWlt x h; omega
          · have := hA1b x hx; omega
      case measure => simp [intOf]; omega
    · obtain rfl : k = n := by omega
      have HTk := Lib.hid (show ls.take k = ls from List.take_of_length_le (by rw [HL.out]; omega))
      have hpe : p = rowsEnc ls := by rw [HP.out, HTk.out]
      have hA1lt : ∀ x ∈ blks A1, x < wr.heap.size := fun x hx => W1.2.lt hx
      have hAWlt : ∀ x ∈ blks AW, x < wr.heap.size := fun x hx => VW.lt hx
      have hlt1 := W1.lt
      have hlt2 := W2.lt
      have hp16' : p.length ≤ 16000 := by omega
      go_wp2_with fail
      refine (wbytes_any (w.heap.size + 1) none 0 [] A _ c ls wr (fun x => x < w.heap.size) W2 (hrb.only Q (fun _ _ hm => by cases hm)) (by intro x hx hm; simp at hm; omega) (by omega) (by simpa using (by omega : rowsLen ls ≤ 900000000))).mono ?_
      rintro e w1 ⟨rfl, A2, c2, W2b, O1, B1⟩
      rw [List.nil_append, ← hpe] at W2b
      have B1' : ∀ x ∈ blks A2, wr.heap.size ≤ x := fun x hx => by rcases B1 x hx with h | h; cases h; exact h
      have hA2lt : ∀ x ∈ blks A2, x < w1.heap.size := fun x hx => W2b.2.lt hx
      have W1b : Wr w1 w.heap.size A1 c1 p := W1.only O1 (fun hm => by simp at hm) (fun x hx hm => by simp at hm; have := Z1 x hx; omega)
      have VWb : Own w1 5 AW m cW (bvs p) := VW.only O1 (fun x hx hm => by simp at hm; have := ZW x hx; omega)
      have Q1 : Only [] w w1 := Q.trans O1 (fun x hx => .inr (by simp at hx; omega))
      have s1 := O1.size
      clear W1 W2 VW Q O1 B1
      go_wp2_with fail
      refine (wraw_any w.heap.size A1 c1 p B raw.length cr raw w1 W1b (hs.keep Q1) (by omega) (by omega)).mono ?_
      rintro e w2 ⟨rfl, A1c, c1c, W1c, O2, B2⟩
      have W2c : Wr w2 (w.heap.size + 1) A2 c2 p := W2b.only O2 (fun hm => by
        rcases List.mem_cons.1 hm with h | h
        · omega
        · have := Z1 _ h; omega) (fun x hx hm => by
        have := B1' x hx
        rcases List.mem_cons.1 hm with h | h
        · omega
        · have := hA1lt x h; omega)
      have VWc : Own w2 5 AW m cW (bvs p) := VWb.only O2 (fun x hx hm => by
        rcases List.mem_cons.1 hm with h | h
        · have := ZW x hx; omega
        · exact ZA x h hx)
      have Q2 : Only [] w w2 := Q1.trans O2 (fun x hx => .inr (by
        rcases List.mem_cons.1 hx with h | h
        · omega
        · have := Z1 x h; omega))
      have s2 := O2.size
      clear W1b W2b VWb Q1 O2
      go_wp2_with fail
      refine (wraw_any (w.heap.size + 1) A2 c2 p B raw.length cr raw w2 W2c (hs.keep Q2) (by omega) (by omega)).mono ?_
      rintro e w3 ⟨rfl, A2d, c2d, W2d, O3, B3⟩
      have W1d : Wr w3 w.heap.size A1c c1c (p ++ raw) := W1c.only O3 (fun hm => by
        rcases List.mem_cons.1 hm with h | h
        · omega
        · have := B1' _ h; omega) (fun x hx hm => by
        rcases List.mem_cons.1 hm with h | h
        · rcases B2 x hx with h' | h'
          · have := Z1 x h'; omega
          · omega
        · have b1 := B1' x h
          have b2 := hA2lt x h
          rcases B2 x hx with h' | h'
          · have := hA1lt x h'; omega
          · omega)
      have VWd : Own w3 5 AW m cW (bvs p) := VWc.only O3 (fun x hx hm => by
        rcases List.mem_cons.1 hm with h | h
        · have := ZW x hx; omega
        · have b1 := B1' x h; have := hAWlt x hx; omega)
      have Q3 : Only [] w w3 := Q2.trans O3 (fun x hx => .inr (by
        rcases List.mem_cons.1 hx with h | h
        · omega
        · have := B1' x h; omega))
      have s3 := O3.size
      clear W1c W2c VWc Q2 O3
      go_wp2_with (at_builtin; go_must (refine wpList_append_sl rfl (.tmp 62) (.tmp 63) 23 rfl 5 i0 (.int .u8 0) 1 Tryd.underlying23 hi hz0 hz1 hz2 rfl AW _ cW _ rfl VWd B raw.length cr _ rfl (hs.keep Q3) (bvs_one _) (by unfold maxLen; omega) (by omega) ?_); intro AX cX w4 VX O4 B4)
      rw [← bvs_append] at VX
      have W1e : Wr w4 w.heap.size A1c c1c (p ++ raw) := W1d.only O4 (fun hm => by have := ZW _ hm; omega) (fun x hx hm => by
        rcases B2 x hx with h | h
        · exact ZA x h hm
        · have := hAWlt x hm; omega)
      have W2e : Wr w4 (w.heap.size + 1) A2d c2d (p ++ raw) := W2d.only O4 (fun hm => by have := ZW _ hm; omega) (fun x hx hm => by
        have := hAWlt x hm
        rcases B3 x hx with h | h
        · have := B1' x h; omega
        · omega)
      have Q4 : Only [] w w4 := Q3.trans O4 (fun x hx => .inr (by have := ZW x hx; omega))
      have hq : (p ++ raw).length = m + raw.length := by rw [List.length_append, hpm]
      obtain ⟨q, hqe⟩ : ∃ q, q = p ++ raw := ⟨_, rfl⟩
      rw [← hqe] at VX W1e W2e hq
      have HQ : Hid (q = rowsEnc (ls.drop 0) ++ raw) := by show _ = _; rw [hqe, hpe]; rfl
      have hq20 : q.length ≤ 20000 := by omega
      have hm20 : m + raw.length ≤ 20000 := by omega
      have HQl := Lib.hid hq
      clear hq W1d W2d VWd Q3 O4 B4 B3 B2 B1' hA2lt hA1lt hAWlt hqe hpe HP HTk ZA ZW Z1
      go_wp2_with fail
      refine (out_any w.heap.size A1c c1c q w4 W1e (by omega)).mono ?_
      rintro e w5 ⟨X5, d5, rfl, V5, O5, _⟩
      go_wp2_with fail
      refine (same_eq X5 AX _ d5 _ cX q q w5 rfl V5.sl (VX.sl.keep O5) (by omega)).mono ?_
      rintro e w6 ⟨rfl, O6⟩
      have O46 := O5.then O6
      clear V5 O5 O6
      go_wp2_with fail
      refine (out_any (w.heap.size + 1) A2d c2d q w6 (W2e.keep O46) (by omega)).mono ?_
      rintro e w7 ⟨X7, d7, rfl, V7, O7, _⟩
      go_wp2_with fail
      refine (same_eq X7 AX _ d7 _ cX q q w7 rfl V7.sl (VX.sl.keep (O46.then O7)) (by omega)).mono ?_
      rintro e w8 ⟨rfl, O8⟩
      have O48 := (O46.then O7).then O8
      clear V7 O46 O7 O8 W1e W2e
      go_wp2_with fail
      refine (newReader_any w8 AX _ cX q (VX.sl.keep O48) (by omega)).mono ?_
      rintro e w9 ⟨g, kb, A9, c9, rfl, hg, hkb, R9, O9⟩
      have Q9 : Only [] w w9 := (Q4.then O48).then O9
      have hgw : w.heap.size ≤ g := Nat.le_trans (Q4.then O48).size hg
      clear VX O48 O9 Q4 hg hkb
      go_wp2_with fail
      go_loopw [11] (fun i wr => ∃ (j : Nat) (A' : Option Addr) (c' : Nat) (l : List UInt8), j ≤ k ∧ i = .int .i64 j ∧ Hid (l = rowsEnc (ls.drop j) ++ raw) ∧ Rd wr g kb A' c' false l ∧ Only [g] w9 wr) (fun i _ => k - (intOf i).toNat)
      case atStart => exact ⟨0, A9, c9, q, Nat.zero_le _, rfl, HQ, R9, Only.refl _ _⟩
      case round =>
        obtain ⟨j, A', c', l, hj, rfl, HLj, HR, HO⟩ := hrel
        have QR := Q9.trans HO (fun x hx => .inr (by simp at hx; omega))
        by_cases hlt : j < k
        · have hjl : j < ls.length := by rw [HL.out]; exact hlt
          obtain ⟨ad, Ai, ci, rfl, _, hcell0, hrow0, _⟩ := hrb.at_ hlt hjl
          have hcell := QR.cellSome hcell0 (fun hm => by cases hm)
          have hr4 := HRL.out _ (List.getElem_mem hjl)
          have hd := HLj.out
          rw [rowsEnc_drop ls j hjl, List.append_assoc] at hd
          obtain ⟨t1, t2, t3⟩ := take_row (ls[j]'hjl) (rowsEnc (ls.drop (j + 1)) ++ raw) (by omega)
          rw [← hd] at t1 t2 t3
          have HN := Lib.hid (rbytes_any HR)
          rw [t1, t2, t3] at HN
          have hglt := HR.bk.lt
          have hkblt := HR.lt
          generalize ls[j]'hjl = r at *
          clear hd t1 t2 t3
          go_wp2_with fail
          refine HN.out.mono ?_
          rintro e v1 ⟨P, cp, A2, c2, rfl, VP, BP, R2, O1⟩
          have hcell1 := (QR.trans O1 (fun x hx => .inr (by simp at hx; omega))).cellSome hcell0 (fun hm => by cases hm)
          have Q1 : Only [] w v1 := QR.trans O1 (fun x hx => .inr (by simp at hx; omega))
          go_wp2_with fail
          refine (same_eq P Ai _ cp _ ci r r v1 rfl VP.sl (hrow0.keep Q1) (by omega)).mono ?_
          rintro e v2 ⟨rfl, O2⟩
          go_wp2_with fail
          refine (spoil_any P _ cp _ v2 (VP.keep O2) (by omega)).mono ?_
          rintro e v3 ⟨rfl, O3⟩
          have O23 : Only (blks P) v1 v3 := (O2.mono (ss := blks P) (fun _ hx => by cases hx)).trans O3 (fun x hx => .inl hx)
          have R3 := R2.only O23 (fun hm => by have := BP _ hm; omega) (fun hm => by have := BP _ hm; omega)
          go_wp2_with fail
          go_roundw
          case rel =>
            refine ⟨j + 1, A2, c2, _, by omega, by go_num, rfl, R3, (HO.trans O1 (fun x hx => .inl hx)).trans O23 (fun x hx => .inr ?_)⟩
            have := BP x hx
            have := HO.size
            omega
          case measure => simp [intOf]; omega
        · have hl0 : l = raw := by
            rw [HLj.out, List.drop_of_length_le (by rw [HL.out]; omega)]
            rfl
          subst hl0
          have hb : rawBad false l (l.length : Int) = false := by unfold rawBad; simp
          obtain ⟨g1, g2⟩ := raw_of_good hb
          rw [Int.toNat_natCast, List.take_length] at g1
          rw [Int.toNat_natCast, List.drop_length] at g2
          have HN := Lib.hid (rraw_any (l.length : Int) HR)
          rw [g1, g2, hb] at HN
          have hglt := HR.bk.lt
          clear hb g1 g2
          go_wp2_with fail
          refine (left_any HR).mono ?_
          rintro e v0 ⟨rfl, rfl⟩
          go_wp2_with fail
          refine HN.out.mono ?_
          rintro e v1 ⟨P, cp, A2, c2, rfl, VP, BP, R2, O1⟩
          have Q1 : Only [] w v1 := QR.trans O1 (fun x hx => .inr (by simp at hx; omega))
          go_wp2_with fail
          refine (same_eq P B _ cp _ cr l l v1 rfl VP.sl (hs.keep Q1) (by omega)).mono ?_
          rintro e v2 ⟨rfl, O2⟩
          go_wp2_with fail
          refine (whole_any (R2.keep O2)).mono ?_
          rintro e v3 ⟨rfl, rfl⟩
          go_wp2_with fail
          refine (known_any v2 (ht.keep (Q1.then O2))).mono ?_
          rintro e v4 ⟨rfl, O4⟩
          go_wp2
          go_ret
          exact ⟨rfl, (Q1.then O2).then O4⟩

theorem rows_any (A B : Option Addr) (n c m cr : Nat) (ls : List (List UInt8)) (raw : List UInt8) (w : World) (ht : Tab w) (hr : Rw w A n ls) (hs : Sl w B m (bvs raw)) (hn : n ≤ 9223372036854775807) (hm : m ≤ 9223372036854775807) (hrow : ∀ l ∈ ls, l.length ≤ 9223372036854775807) :
    Calls Tryd.prog 4 #[.slice A n c, .slice B m cr] w fun e w' => e = .returned (.bool true) ∧ Only [] w w' := by
  have hl : raw.length = m := by simpa using hs.len
  have hm' := hm
  by_cases wl : weight ls ≤ 4000
  · by_cases hb : m ≤ 4000
    · subst hl
      exact rows_light A B n c cr ls raw w ht hr hs wl hb
    · have HH := Lib.hid (heavy_any A n c ls w hr hn hrow)
      rw [show decide (4000 < weight ls) = false from by rw [decide_eq_false_iff_not]; omega] at HH
      clear wl hrow hl
      go_enter Tryd.func4, Tryd.ntmps4
      go_wp2_with fail
      refine HH.out.mono ?_
      rintro e w' ⟨rfl, rfl⟩
      go_wp2
      go_ret
      exact ⟨rfl, Only.refl _ _⟩
  · have HH := Lib.hid (heavy_any A n c ls w hr hn hrow)
    rw [show decide (4000 < weight ls) = true from by rw [decide_eq_true_iff]; omega] at HH
    clear wl hrow hl
    go_enter Tryd.func4, Tryd.ntmps4
    go_wp2_with fail
    refine HH.out.mono ?_
    rintro e w' ⟨rfl, rfl⟩
    go_wp2
    go_ret
    exact ⟨rfl, Only.refl _ _⟩
end Go.Proofs.YtecgmlifeljdeaaDoor
