/-
  The law HeadLines.
-/
import Derived.Test.YtmameghebikjbaaDoorHTells
namespace Go.Proofs.YtmameghebikjbaaDoor
open Go.RowKit Go.Instr

/-- The first k texts, each with a right end. -/
def jn (ts : List (List UInt8)) (k : Nat) : List UInt8 := ((ts.take k).map fun t => t ++ [13, 10]).flatten
theorem jn_succ {ts : List (List UInt8)} {k : Nat} (h : k < ts.length) : jn ts (k + 1) = jn ts k ++ (ts[k] ++ [13, 10]) := by
  unfold jn
  rw [List.take_succ_eq_append_getElem h, List.map_append, List.flatten_append]
  simp
theorem jn_le (ts : List (List UInt8)) : (ts.map fun t => t ++ [13, 10]).flatten.length ≤ (ts.map fun t => dotted t ++ [13, 10]).flatten.length := by
  induction ts with
  | nil => exact Nat.le_refl _
  | cons t r ih =>
    have h : t.length ≤ (dotted t).length := by unfold dotted; split <;> simp
    simp only [List.map_cons, List.flatten_cons, List.length_append, List.length_cons, List.length_nil]
    omega
theorem jn_len (ts : List (List UInt8)) (k : Nat) : (jn ts k).length ≤ (sentT ts k).length := jn_le _
theorem ends_full {ts : List (List UInt8)} (h : ∀ t ∈ ts, ∀ x ∈ t, x ≠ 10) : Full (ts.map fun t => t ++ [13, 10]) := by
  intro l hl
  obtain ⟨t, ht, rfl⟩ := List.mem_map.1 hl
  refine ⟨t ++ [13], fun x hx => ?_, by simp⟩
  rcases List.mem_append.1 hx with hx | hx
  · exact h t ht x hx
  · rw [List.mem_singleton.1 hx]; decide
theorem jn_lns {ts : List (List UInt8)} (h : ∀ t ∈ ts, ∀ x ∈ t, x ≠ 10) : lns (jn ts ts.length) = ts.map fun t => t ++ [13, 10] := by
  unfold jn
  rw [List.take_length]
  exact lns_full' (ends_full h)
theorem jn_stuff (l : List UInt8) : stuff (jn ((lns l).map tx) ((lns l).map tx).length) = stuff l := by
  have h : ∀ t ∈ (lns l).map tx, ∀ x ∈ t, x ≠ 10 := fun t ht => by
    obtain ⟨ln, h1, rfl⟩ := List.mem_map.1 ht
    exact tx_no10 h1
  unfold stuff
  rw [jn_lns h, List.map_map, List.map_map]
  congr 2
  refine List.map_congr_left fun ln _ => ?_
  show sentOf (tx ln ++ [13, 10]) = sentOf ln
  unfold sentOf
  rw [tx_crlf]
theorem jn_count (l : List UInt8) : (lns (jn ((lns l).map tx) ((lns l).map tx).length)).length = (lns l).length := by
  have h : ∀ t ∈ (lns l).map tx, ∀ x ∈ t, x ≠ 10 := fun t ht => by
    obtain ⟨ln, h1, rfl⟩ := List.mem_map.1 ht
    exact tx_no10 h1
  rw [jn_lns h, List.length_map, List.length_map]
set_option maxRecDepth 100000 in
set_option maxHeartbeats 8000000 in
theorem lines_any (A : Option Addr) (n c : Nat) (l : List UInt8) (w : World) (hs : Bt w A n c l) (hA : ∀ x ∈ blks A, x < w.heap.size) :
    Calls Tryd.prog 10 #[.slice A n c] w fun e w' => e = .returned (.bool true) ∧ Only [] w w' := by
  by_cases hbn : n ≤ 1500
  case neg =>
    have hbn'' : (1500 : Int) < (n : Int) := by omega
    go_enter Tryd.func10, Tryd.ntmps10
    go_wp2_with fail
    go_ret
    exact ⟨rfl, Only.refl _ _⟩
  have hbn' : ¬ (1500 : Int) < (n : Int) := by omega
  obtain ⟨i0, hi, hz0, hz1, hz2⟩ := info_parts infoByte
  have hnl := hs.len
  have hpq := lns_len l
  have hno : ∀ t ∈ (lns l).map tx, ∀ x ∈ t, x ≠ 10 := fun t ht => by
    obtain ⟨ln, h1, rfl⟩ := List.mem_map.1 ht
    exact tx_no10 h1
  have hjl : ∀ k, (jn ((lns l).map tx) k).length ≤ 16384 := fun k => by
    have h1 := jn_len ((lns l).map tx) k
    rw [sentT_eq] at h1
    have := sentK_len l k
    omega
  have hjs := jn_stuff l
  have hjc := jn_count l
  have cS := Split_any hs (by omega) hA
  have rU := fun w1 (ho : Only [] w w1) => refStuff_any (hs.keep ho) (by omega) (blks_keep hA ho)
  obtain ⟨ls, hls⟩ : ∃ ls, (lns l).map tx = ls := ⟨_, rfl⟩
  obtain ⟨r, hr⟩ : ∃ r, (lns l).length = r := ⟨_, rfl⟩
  have hlr : ls.length = r := by rw [← hls, List.length_map, hr]
  rw [hls] at hno hjl hjs hjc
  rw [hls, hr] at cS
  rw [hr, hlr] at hjc
  rw [hlr] at hjs
  obtain ⟨Z, hZ⟩ : ∃ Z, stuff l = Z := ⟨_, rfl⟩
  obtain ⟨zn, hzn⟩ : ∃ zn, Z.length = zn := ⟨_, rfl⟩
  rw [hZ] at hjs rU
  unfold Fresh at rU
  rw [hzn] at rU
  have hr2 : r ≤ 1500 := by omega
  have hS : ∀ w1 A1 c1, Own w1 5 A1 (jn ls r).length c1 (bvs (jn ls r)) → Calls Tryd.prog 21 #[.slice A1 (jn ls r).length c1] w1 fun e w' => ∃ A2 c2, e = .returned (.slice A2 zn c2) ∧ Own w' 5 A2 zn c2 (bvs Z) ∧ Only [] w1 w' ∧ ∀ k ∈ blks A2, w1.heap.size ≤ k := fun w1 A1 c1 h => by
    have := Stuff_any h.bt (by have := hjl r; omega) (fun x hx => h.lt hx)
    rw [hjs] at this
    unfold Fresh at this
    rwa [hzn] at this
  have hP : ∀ w1 A1 c1, Own w1 5 A1 (jn ls r).length c1 (bvs (jn ls r)) → Calls Tryd.prog 12 #[.slice A1 (jn ls r).length c1] w1 fun e w' => ∃ A2 c2, e = .returned (.slice A2 r c2) ∧ True ∧ Only [] w1 w' := fun w1 A1 c1 h => by
    have := Split_any h.bt (by have := hjl r; omega) (fun x hx => h.lt hx)
    rw [hjc] at this
    exact this.mono fun e w' ⟨A2, c2, h1, _, h3⟩ => ⟨A2, c2, h1, trivial, h3⟩
  have HLR := Lib.hid hlr
  have HNO := Lib.hid hno
  have HJL := Lib.hid hjl
  have HS := Lib.hid hS
  have HP := Lib.hid hP
  have RS := Lib.hid rU
  clear hjs hjc hls hr hZ hzn hlr hno hjl hS hP rU hpq hnl hA hs hbn
  go_enter Tryd.func10, Tryd.ntmps10
  go_wp2_with (go_at_call 12; (with_reducible refine cS.mono ?_); rintro e w1 ⟨A1, c1, rfl, hR1, hO1⟩)
  go_loopw [4, 5] (fun L i wr => ∃ (k : Nat) (A4 : Option Addr) (s c4 : Nat), k ≤ r ∧ i = .int .i64 (k : Int) ∧ L = .slice A4 s c4 ∧ Own wr 5 A4 s c4 (bvs (jn ls k)) ∧ (∀ x ∈ blks A4, w1.heap.size ≤ x) ∧ Only [] w1 wr) (fun _ i _ => r - (intOf i).toNat)
  case atStart => exact ⟨0, none, 0, 0, Nat.zero_le _, rfl, rfl, Own.nil _ _, (fun _ hx => nomatch hx), Only.refl _ _⟩
  case round =>
    obtain ⟨k, A4, s, c4, hk, rfl, rfl, hV, hb, hOr⟩ := hrel
    have hl0 := hV.len
    rw [bvs_length] at hl0
    by_cases hlt : k < r
    · have hlt' : (k : Int) < (r : Int) := by omega
      have hkl : k < ls.length := by rw [HLR.out]; exact hlt
      obtain ⟨g, Ai, ci, rfl, e1, hB1', hB3⟩ := (hR1.keep rOwn_steady hOr).at_ hlt hkl
      have hB1 : Own wr 5 Ai ls[k].length ci (bvs ls[k]) := hB1'
      have hno := HNO.out _ (List.getElem_mem hkl)
      have hsu := jn_succ hkl
      have hl1 := HJL.out (k + 1)
      obtain ⟨T, hT⟩ : ∃ T, ls[k] = T := ⟨_, rfl⟩
      rw [hT] at e1 hB1 hno hsu
      obtain ⟨t, ht⟩ : ∃ t, T.length = t := ⟨_, rfl⟩
      rw [ht] at e1 hB1
      have htb : s + t + 2 ≤ 16384 := by
        rw [hsu, List.length_append, List.length_append, ht, hl0] at hl1
        simp at hl1
        omega
      clear hB1' hT hl1 hB3
      go_wp2_with fail
      go_loopw [6] (fun i wx => ∃ j : Nat, j ≤ t ∧ i = .int .i64 (j : Int) ∧ Only [] wr wx) (fun i _ => t - (intOf i).toNat)
      case atStart => exact ⟨0, Nat.zero_le _, rfl, Only.refl _ _⟩
      case round =>
        obtain ⟨j, hj, rfl, hOx⟩ := hrel
        have e2 := hOx.cellSome (p := ⟨g, k, none⟩) e1 (fun hm => nomatch hm)
        by_cases hjt : j < t
        · have hjt' : (j : Int) < (t : Int) := by omega
          obtain ⟨ad, u, hAe, hu, hce⟩ := (hB1.keep hOx).sl.at_ hjt
          subst hAe
          have hjT : j < T.length := by omega
          rw [bvs_get T j hjT] at hu
          injection hu with hu
          subst hu
          have h10 := hno _ (List.getElem_mem hjT)
          obtain ⟨y, hy⟩ : ∃ y : Nat, T[j].toNat = y := ⟨_, rfl⟩
          have hce' : wr.cell? (ad.add j) = some (.int .u8 (y : Int)) := by rw [← hy]; exact hce
          have hyb : ((y : Int) == 10) = false := by
            rw [beq_eq_false_iff_ne]
            intro h
            exact h10 (UInt8.toNat_inj.1 (by rw [hy]; show y = 10; omega))
          clear hce h10 hy
          go_wp2_with fail
          go_roundw
          case rel => exact ⟨j + 1, by omega, by go_num, hOx⟩
          case measure => simp [intOf]; omega
        · obtain rfl : t = j := by omega
          have HSU := Lib.hid hsu
          have hV2 := hV.keep hOx
          have hBx := hB1.keep hOx
          have hOxx := hOr.then hOx
          obtain ⟨S0, hS0⟩ : ∃ S0, jn ls k = S0 := ⟨_, rfl⟩
          rw [hS0] at hV2
          obtain ⟨S1, hS1e⟩ : ∃ S1, S0 ++ T = S1 := ⟨_, rfl⟩
          obtain ⟨S2, hS2e⟩ : ∃ S2, S1 ++ [13, 10] = S2 := ⟨_, rfl⟩
          have hS1 : bvs S0 ++ bvs T = bvs S1 := by rw [← hS1e, bvs_append]
          have hS2 : bvs S1 ++ bvs [13, 10] = bvs S2 := by rw [← hS2e, bvs_append]
          have HE : Hid (jn ls (k + 1) = S2) := by
            show _ = _
            rw [HSU.out, hS0, ← hS2e, ← hS1e, List.append_assoc]
          obtain ⟨u, hu⟩ : ∃ u, s + t = u := ⟨_, rfl⟩
          obtain ⟨v, hv⟩ : ∃ v, u + 2 = v := ⟨_, rfl⟩
          have HTB := Lib.hid htb
          have hsz := hOxx.size
          clear hS1e hS2e hsu hS0 hl0 htb hno ht hV hB1
          go_wp2_with first
            | (at_builtin; refine wpList_append_as rfl (.tmp 40) (.tmp 41) 22 rfl 5 i0 (.int .u8 0) 1 Tryd.underlying22 hi hz0 hz1 hz2 rfl A5 u c5 _ rfl (hV5.alloc _) (some ⟨w5.heap.size, 0, none⟩) 2 2 (bvs [13, 10]) rfl l5 (bvs_one _) (by unfold maxLen; have := HTB.out; omega) (by have := HTB.out; omega) v hv (bvs S2) hS2 ?_; intro A6 c6 w6 hV6 hO6 hB6)
            | (at_builtin; refine wpList_append_as rfl (.tmp 35) (.tmp 39) 22 rfl 5 i0 (.int .u8 0) 1 Tryd.underlying22 hi hz0 hz1 hz2 rfl A4 s c4 _ rfl hV2 Ai t ci _ rfl hBx.sl (bvs_one _) (by unfold maxLen; have := HTB.out; omega) (by have := HTB.out; omega) u hu (bvs S1) hS1 ?_; intro A5 c5 w5 hV5 hO5 hB5; have l5 := lit1310 w5)
          have hb5 : ∀ x ∈ blks A5, w1.heap.size ≤ x := fun x hx => by
            rcases hB5 x hx with h | h
            · exact hb x h
            · omega
          have hO5' : Only [] w1 w5 := hOxx.trans hO5 (fun x hx => .inr (hb x hx))
          have hO6' : Only [] w1 w6 := (hO5'.alloc (.cells #[.int .u8 13, .int .u8 10] 5)).trans hO6 (fun x hx => .inr (hb5 x hx))
          go_roundw
          case rel => exact ⟨k + 1, A6, v, c6, by omega, by go_num, rfl, by rw [HE.out]; exact hV6, fun x hx => by
            rcases hB6 x hx with h | h
            · exact hb5 x h
            · have := hO5'.size; simp at h; omega, hO6'⟩
          case measure => simp [intOf]; omega
    · obtain rfl : r = k := by omega
      have hOw : Only [] w wr := hO1.then hOr
      rw [hl0] at HS HP
      clear hl0
      go_wp2_with fail
      apply region_only (by kernel_rfl) (by kernel_rfl)
      apply rel_val (hrf := Tk_refl)
      case hw => rfl
      case hy => intro wS hN hF; skip; first | (go_simp; done) | (go_simp; with_reducible rfl)
      case' hk => skip
      try simp only [Act.put, List.setIfInBounds_toArray, List.set_cons_zero, List.set_cons_succ]
      apply rel_fact_call (φ := fun v W' => ∃ A3 c3, v = .slice A3 zn c3 ∧ Bt W' A3 zn c3 Z) (x := 2) (hs := lasts0 (by kernel_rfl) (fun v W1 W2 h ho => by obtain ⟨A3, c3, h1, h2⟩ := h; exact ⟨A3, c3, h1, h2.keep ho⟩))
      case hw => rfl
      case hc =>
        intro wS hN hF
        refine ⟨21, #[.slice A4 s c4], by go_simp, (HS.out wS A4 c4 (hV.keep ((Only.refl [] _).drew.then (hN.pre (by kernel_rfl))))).mono ?_⟩
        rintro e w3 ⟨A3, c3, rfl, hV3, hO3, -⟩
        exact ⟨_, rfl, ⟨A3, c3, rfl, hV3.bt⟩, Tk_only hO3⟩
      case' hk => intro v1
      try simp only [Act.put, List.setIfInBounds_toArray, List.set_cons_zero, List.set_cons_succ]
      apply rel_val (v := .string (St Z)) (hrf := Tk_refl)
      case hw => rfl
      case hy =>
        intro wS hN hF
        obtain ⟨A3, c3, rfl, hV⟩ := hF.at_ 0 rfl (by kernel_rfl) (by kernel_rfl)
        have hcv := str_of hV.sl c3
        go_simp
      case' hk => skip
      try simp only [Act.put, List.setIfInBounds_toArray, List.set_cons_zero, List.set_cons_succ]
      apply rel_val (hrf := Tk_refl)
      case hw => rfl
      case hy => intro wS hN hF; skip; first | (go_simp; done) | (go_simp; with_reducible rfl)
      case' hk => skip
      try simp only [Act.put, List.setIfInBounds_toArray, List.set_cons_zero, List.set_cons_succ]
      apply rel_fact_call (φ := fun v W' => ∃ A3 c3, v = .slice A3 zn c3 ∧ Bt W' A3 zn c3 Z) (x := 5) (hs := lasts0 (by kernel_rfl) (fun v W1 W2 h ho => by obtain ⟨A3, c3, h1, h2⟩ := h; exact ⟨A3, c3, h1, h2.keep ho⟩))
      case hw => rfl
      case hc =>
        intro wS hN hF
        refine ⟨22, #[.slice A n c], by go_simp, (RS.out wS (hOw.drew.then (hN.pre (by kernel_rfl)))).mono ?_⟩
        rintro e w3 ⟨A3, c3, rfl, hV3, hO3, -⟩
        exact ⟨_, rfl, ⟨A3, c3, rfl, hV3.bt⟩, Tk_only hO3⟩
      case' hk => intro v4
      try simp only [Act.put, List.setIfInBounds_toArray, List.set_cons_zero, List.set_cons_succ]
      apply rel_val (v := .string (St Z)) (hrf := Tk_refl)
      case hw => rfl
      case hy =>
        intro wS hN hF
        obtain ⟨A3, c3, rfl, hV⟩ := hF.at_ 0 rfl (by kernel_rfl) (by kernel_rfl)
        have hcv := str_of hV.sl c3
        go_simp
      case' hk => skip
      try simp only [Act.put, List.setIfInBounds_toArray, List.set_cons_zero, List.set_cons_succ]
      apply rel_val (v := .bool true) (hrf := Tk_refl)
      case hw => rfl
      case hy =>
        intro wS hN hF
        go_simp
      case' hk => skip
      try simp only [Act.put, List.setIfInBounds_toArray, List.set_cons_zero, List.set_cons_succ]
      apply rel_val (v := .bool true) (hrf := Tk_refl)
      case hw => rfl
      case hy =>
        intro wS hN hF
        go_simp
      case' hk => skip
      try simp only [Act.put, List.setIfInBounds_toArray, List.set_cons_zero, List.set_cons_succ]
      apply rel_val (hrf := Tk_refl)
      case hw => rfl
      case hy => intro wS hN hF; skip; first | (go_simp; done) | (go_simp; with_reducible rfl)
      case' hk => skip
      try simp only [Act.put, List.setIfInBounds_toArray, List.set_cons_zero, List.set_cons_succ]
      apply rel_fact_call (φ := fun v W' => ∃ A3 c3, v = .slice A3 r c3) (x := 10) (hs := lasts0 (by kernel_rfl) (fun v W1 W2 h ho => by obtain ⟨A3, c3, h1⟩ := h; exact ⟨A3, c3, h1⟩))
      case hw => rfl
      case hc =>
        intro wS hN hF
        refine ⟨12, #[.slice A4 s c4], by go_simp, (HP.out wS A4 c4 (hV.keep ((Only.refl [] _).drew.then (hN.pre (by kernel_rfl))))).mono ?_⟩
        rintro e w3 ⟨A3, c3, rfl, hV3, hO3⟩
        exact ⟨_, rfl, ⟨A3, c3, rfl⟩, Tk_only hO3⟩
      case' hk => intro v9
      try simp only [Act.put, List.setIfInBounds_toArray, List.set_cons_zero, List.set_cons_succ]
      apply rel_val (v := .int .i64 (r : Int)) (hrf := Tk_refl)
      case hw => rfl
      case hy =>
        intro wS hN hF
        obtain ⟨A3, c3, rfl⟩ := hF.at_ 0 rfl (by kernel_rfl) (by kernel_rfl)
        go_simp
      case' hk => skip
      try simp only [Act.put, List.setIfInBounds_toArray, List.set_cons_zero, List.set_cons_succ]
      apply rel_val (hrf := Tk_refl)
      case hw => rfl
      case hy => intro wS hN hF; skip; first | (go_simp; done) | (go_simp; with_reducible rfl)
      case' hk => skip
      try simp only [Act.put, List.setIfInBounds_toArray, List.set_cons_zero, List.set_cons_succ]
      apply rel_val (hrf := Tk_refl)
      case hw => rfl
      case hy => intro wS hN hF; skip; first | (go_simp; done) | (go_simp; with_reducible rfl)
      case' hk => skip
      try simp only [Act.put, List.setIfInBounds_toArray, List.set_cons_zero, List.set_cons_succ]
      apply rel_val (v := .bool true) (hrf := Tk_refl)
      case hw => rfl
      case hy =>
        intro wS hN hF
        go_simp
      case' hk => skip
      try simp only [Act.put, List.setIfInBounds_toArray, List.set_cons_zero, List.set_cons_succ]
      apply rel_val (v := .bool true) (hrf := Tk_refl)
      case hw => rfl
      case hy =>
        intro wS hN hF
        go_simp
      case' hk => skip
      try simp only [Act.put, List.setIfInBounds_toArray, List.set_cons_zero, List.set_cons_succ]
      apply rel_val (v := .bool true) (hrf := Tk_refl)
      case hw => rfl
      case hy =>
        intro wS hN hF
        go_simp
      case' hk => skip
      try simp only [Act.put, List.setIfInBounds_toArray, List.set_cons_zero, List.set_cons_succ]
      apply rel_call (v := .bool true) (f := 23) (args := #[])
      case hw => rfl
      case hy => intro wS hN hF; go_simp
      case hc => intro wS hN hF; exact call_only (known_any wS)
      case' hk => skip
      try simp only [Act.put, List.setIfInBounds_toArray, List.set_cons_zero, List.set_cons_succ]
      apply rel_val (v := .bool true) (hrf := Tk_refl)
      case hw => rfl
      case hy =>
        intro wS hN hF
        go_simp
      case' hk => skip
      try simp only [Act.put, List.setIfInBounds_toArray, List.set_cons_zero, List.set_cons_succ]
      apply rel_val (hrf := Tk_refl)
      case hw => rfl
      case hy => intro wS hN hF; skip; first | (go_simp; done) | (go_simp; with_reducible rfl)
      case' hk => skip
      try simp only [Act.put, List.setIfInBounds_toArray, List.set_cons_zero, List.set_cons_succ]
      refine rel_end ?_
      intro wS hO hF
      clear hF
      go_wp2_with fail
      go_ret
      exact ⟨rfl, hOw.drew.then hO.only⟩
end Go.Proofs.YtmameghebikjbaaDoor
