/-
  The document's Next: a line is taken out.
-/
import Derived.Test.YtiekhgignmbaeaaLRefC
namespace Go.Proofs.Ytiekhgignmbaeaa
open Go.RowKit Go.Instr
section
variable {w : World} {g : Nat} {F : List Nat} {s : LS}

set_option maxRecDepth 100000 in
set_option maxHeartbeats 4000000 in
theorem ref_long2 (h : Ln true w g F s) (hm : s.lit = none) (hn : nl s.b < s.b.length) (i : Nat) (hi : i < s.b.length) (hj : nl s.b = i + 1) (hx : s.b[i] ≠ 13) (hT : (tr (s.b.take (nl s.b))).length = (i + 1)) (hd : s.drop = true ∨ (s.drop = false ∧ (300 : Int) < ((i : Int) + 1))) : Calls Try.prog 15 #[.pointer (some ⟨g, 0, none⟩)] w (Spoke true w g F (nextS s) (nextR s)) := by
  obtain ⟨i0, hi0, hz0, hz1, hz2⟩ := info_parts infoByte
  have e1 : nextS s = ⟨s.b.drop (i + 1 + 1), false, none⟩ := by unfold nextS; rw [hm]; show (if nl s.b < s.b.length then _ else _) = _; rw [if_pos hn, hj]
  have e2 : nextR s = some ⟨2, []⟩ := by unfold nextR evOf; rw [hm]; simp [hn]; intro h0; rcases hd with h | ⟨_, h⟩; (rw [h] at h0; cases h0); (rw [hT]; omega)
  rw [e1, e2]
  have h0 := Lib.hid h
  obtain ⟨A, c, k, hb, hG, hk, rfl, hg, hl⟩ := h
  obtain ⟨bb, oo, rfl, hcells, _⟩ := hG.at_ (by have := hG.cap; omega)
  obtain ⟨w1, hw1⟩ : ∃ w1, w1 = w.alloc (.cells #[.int .i64 0, .slice none 0 0] 36) := ⟨_, rfl⟩
  have O1 : Only [] w w1 := by rw [hw1]; exact (Only.refl [] w).alloc _
  have c0 : w1.cell? ⟨g, 0, none⟩ = some (.slice (some ⟨bb, oo, none⟩) s.b.length c) := O1.cellSome (by rw [hb.cell]; rfl) (fun hm => nomatch hm)
  have c1 : w1.cell? ⟨g, 1, none⟩ = some (.bool false) := O1.cellSome (by rw [hb.cell, hm]; rfl) (fun hm => nomatch hm)
  have c3 : w1.cell? ⟨g, 3, none⟩ = some (.bool s.drop) := O1.cellSome (by rw [hb.cell]; rfl) (fun hm => nomatch hm)
  have f0 := (hb.keep O1).free 0
  have f3 := (hb.keep O1).free 3
  have HC : Hid (∀ (k : Nat) (hk : k < s.b.length), w1.cell? ⟨bb, oo + k, none⟩ = some (.int .u8 ((s.b[k].toNat : Nat) : Int))) := fun k hk => O1.cellSome (hcells k _ (bvs_get s.b k hk)) (fun hm => nomatch hm)
  have HN := Lib.hid (fun k (hk : k < nl s.b) (hk2 : k < s.b.length) => nl_before hk hk2)
  have H10 : Hid (∀ h : nl s.b < s.b.length, s.b[nl s.b]'h = 10) := fun h => nl_at h
  have hgl := hb.lt
  have HB := Lib.hid hb
  have hcap := hG.cap
  have hle : (s.b.length : Int) ≤ 4096 := by omega
  have hjn : (i + 1) < s.b.length := by omega
  have hjc : (i + 1) < c := by omega
  have hJ1 : ((i + 1 + 1) : Nat) ≤ s.b.length := by omega
  have hJc : ((i + 1 + 1) : Nat) ≤ c := by omega
  have hsc : (s.b.length : Int) ≤ (c : Int) := by omega
  have hcut := hG.cut (k := (i + 1 + 1)) hJ1
  have hbl := blks_cut (some ⟨bb, oo, none⟩) c (i + 1 + 1)
  have hadd : Option.map (fun x => x.add (i + 1 + 1)) (some (⟨bb, oo, none⟩ : Addr)) = some ⟨bb, oo + (i + 1 + 1), none⟩ := by simp only [Option.map_some, add_none]
  rw [hadd] at hcut hbl
  obtain ⟨A', hA'⟩ : ∃ A' : Option Addr, (if c = (i + 1 + 1) then some ⟨bb, oo, none⟩ else some ⟨bb, oo + (i + 1 + 1), none⟩) = A' := ⟨_, rfl⟩
  rw [hA', bvs_drop] at hcut
  rw [hA'] at hbl
  have HG := Lib.hid (hcut.keep O1)
  have HE := Lib.hid hbl
  have HS : Hid (Sl w1 (some ⟨bb, oo, none⟩) (i + 1) (bvs (tr (s.b.take (nl s.b))))) := by
    have h1 := (hG.keep O1).sl.pre (k := (i + 1)) (by omega)
    rw [bvs_take] at h1
    have h2 : tr (s.b.take (nl s.b)) = s.b.take (i + 1) := by rw [tr_pre, hT, List.take_take, Nat.min_eq_left (by omega)]
    rw [h2]
    exact h1
  rw [hw1] at c0 c1 c3 f0 f3
  have HJ := Lib.hid hj
  have HT := Lib.hid hT
  have HM := Lib.hid hm
  have HXV := Lib.hid (HC.out i hi)
  have hxv : ((s.b[i].toNat : Nat) : Int) ≠ 13 := fun e => hx (UInt8.toNat_inj.1 (by show _ = 13; omega))
  clear hx
  clear hn hG hk e1 e2 hb hj hT hcut hbl hm hcells hadd
  rcases hd with hd | ⟨hd, hTl⟩
  all_goals
    rw [hd] at c3
    go_enter Try.func15, Try.ntmps15
    go_wp2
    go_loop [5] (fun u => ∃ k : Nat, k ≤ (i + 1) ∧ u = .int .i64 k) (fun u => (i + 1) - (intOf u).toNat)
    case atStart => exact ⟨0, Nat.zero_le _, rfl⟩
    case round =>
      obtain ⟨k, hk, rfl⟩ := hrel
      have hks : k < s.b.length := by omega
      have hx := HC.out k hks
      have hlt' : (k : Int) < (s.b.length : Int) := by omega
      by_cases hlt : k < (i + 1)
      · have hne : ((s.b[k].toNat : Nat) : Int) ≠ 10 := by
          have := HN.out k (by rw [HJ.out]; exact hlt) hks
          intro e
          exact this (UInt8.toNat_inj.1 (by show _ = 10; omega))
        rw [hw1] at hx
        generalize hy : ((s.b[k].toNat : Nat) : Int) = y at hx hne
        clear hy
        go_wp2
        go_roundw
        case rel => exact ⟨k + 1, by omega, by go_num⟩
        case measure => simp [intOf]; omega
      · obtain rfl : k = (i + 1) := by omega
        have hten : ((s.b[(i + 1)].toNat : Nat) : Int) = 10 := by
          have h1 := H10.out (by rw [HJ.out]; exact hks)
          simp only [HJ.out] at h1
          rw [h1]
          rfl
        rw [hten] at hx
        have hR := Bk.new w 36 #[.int .i64 0, .slice none 0 0]
        have r0 : (w.alloc (.cells #[.int .i64 0, .slice none 0 0] 36)).cell? ⟨w.heap.size, 0, none⟩ = some (.int .i64 0) := by rw [hR.cell]; rfl
        have r1 : (w.alloc (.cells #[.int .i64 0, .slice none 0 0] 36)).cell? ⟨w.heap.size, 1, none⟩ = some (.slice none 0 0) := by rw [hR.cell]; rfl
        have t0 := hR.free 0
        have t1 := hR.free 1
        have hgw : ¬ w.heap.size = g := by omega
        have hgw' : ¬ g = w.heap.size := by omega
        rw [← hw1] at c0 c1 c3 f0 f3 r0 r1 t0 t1 hR ⊢
        have HW := Lib.hid hw1
        clear hw1
        have hb0 := HB.out.keep O1
        rw [show s.lit.isSome = false by rw [HM.out]; rfl] at hb0
        have L3 := Lib.hid (ref_cutout hb0 HG.out HE.out hg (by omega))
        have R3 := Lib.hid ((hR.far (p := ⟨g, 0, none⟩) hgw (.slice A' (s.b.length - (i + 1 + 1)) (c - (i + 1 + 1)))).far (p := ⟨g, 3, none⟩) hgw (.bool false))
        have Q3 : Hid (Only (g :: blks (some ⟨bb, oo, none⟩)) w ((w1.setCell ⟨g, 0, none⟩ (.slice A' (s.b.length - (i + 1 + 1)) (c - (i + 1 + 1)))).setCell ⟨g, 3, none⟩ (.bool false))) := ((O1.mono (fun _ hx => nomatch hx)).setCell (.inl (by simp)) _).setCell (.inl (by simp)) _
        clear hb0 O1
        have hx2 := HXV.out
        have hadg : bb ≠ g := fun e => hg (by simp [e])
        have hx3 : (w1.setCell ⟨g, 0, none⟩ (.slice A' (s.b.length - (i + 1 + 1)) (c - (i + 1 + 1)))).cell? ⟨bb, oo + i, none⟩ = some (.int .u8 ((s.b[i].toNat : Nat) : Int)) := ((Only.refl [g] w1).setCell (.inl (by simp)) _).cellSome hx2 (by simpa using hadg)
        generalize hyy : ((s.b[i].toNat : Nat) : Int) = yy at hx3 hx2 hxv
        clear hyy
        go_wp2
        exact next_ret (x := some ⟨2, []⟩) (by kernel_rfl) _ none _ 0 rfl rfl rfl rfl R3.out Sl.none_ (fun k hk => nomatch hk) L3.out Q3.out (fun k hk => hk) hgl h0.out.flt

set_option maxRecDepth 100000 in
set_option maxHeartbeats 4000000 in
theorem ref_line2 (h : Ln true w g F s) (hm : s.lit = none) (hn : nl s.b < s.b.length) (i : Nat) (hi : i < s.b.length) (hj : nl s.b = i + 1) (hx : s.b[i] ≠ 13) (hT : (tr (s.b.take (nl s.b))).length = (i + 1)) (hd : s.drop = false) (hTl : ((i : Int) + 1) ≤ 300) : Calls Try.prog 15 #[.pointer (some ⟨g, 0, none⟩)] w (Spoke true w g F (nextS s) (nextR s)) := by
  obtain ⟨i0, hi0, hz0, hz1, hz2⟩ := info_parts infoByte
  have e1 : nextS s = ⟨s.b.drop (i + 1 + 1), false, none⟩ := by unfold nextS; rw [hm]; show (if nl s.b < s.b.length then _ else _) = _; rw [if_pos hn, hj]
  have e2 : nextR s = some ⟨1, tr (s.b.take (nl s.b))⟩ := by unfold nextR evOf; rw [hm, hd]; simp [hn]; omega
  rw [e1, e2]
  have h0 := Lib.hid h
  obtain ⟨A, c, k, hb, hG, hk, rfl, hg, hl⟩ := h
  obtain ⟨bb, oo, rfl, hcells, _⟩ := hG.at_ (by have := hG.cap; omega)
  obtain ⟨w1, hw1⟩ : ∃ w1, w1 = w.alloc (.cells #[.int .i64 0, .slice none 0 0] 36) := ⟨_, rfl⟩
  have O1 : Only [] w w1 := by rw [hw1]; exact (Only.refl [] w).alloc _
  have c0 : w1.cell? ⟨g, 0, none⟩ = some (.slice (some ⟨bb, oo, none⟩) s.b.length c) := O1.cellSome (by rw [hb.cell]; rfl) (fun hm => nomatch hm)
  have c1 : w1.cell? ⟨g, 1, none⟩ = some (.bool false) := O1.cellSome (by rw [hb.cell, hm]; rfl) (fun hm => nomatch hm)
  have c3 : w1.cell? ⟨g, 3, none⟩ = some (.bool s.drop) := O1.cellSome (by rw [hb.cell]; rfl) (fun hm => nomatch hm)
  have f0 := (hb.keep O1).free 0
  have f3 := (hb.keep O1).free 3
  have HC : Hid (∀ (k : Nat) (hk : k < s.b.length), w1.cell? ⟨bb, oo + k, none⟩ = some (.int .u8 ((s.b[k].toNat : Nat) : Int))) := fun k hk => O1.cellSome (hcells k _ (bvs_get s.b k hk)) (fun hm => nomatch hm)
  have HN := Lib.hid (fun k (hk : k < nl s.b) (hk2 : k < s.b.length) => nl_before hk hk2)
  have H10 : Hid (∀ h : nl s.b < s.b.length, s.b[nl s.b]'h = 10) := fun h => nl_at h
  have hgl := hb.lt
  have HB := Lib.hid hb
  have hcap := hG.cap
  have hle : (s.b.length : Int) ≤ 4096 := by omega
  have hjn : (i + 1) < s.b.length := by omega
  have hjc : (i + 1) < c := by omega
  have hJ1 : ((i + 1 + 1) : Nat) ≤ s.b.length := by omega
  have hJc : ((i + 1 + 1) : Nat) ≤ c := by omega
  have hsc : (s.b.length : Int) ≤ (c : Int) := by omega
  have hcut := hG.cut (k := (i + 1 + 1)) hJ1
  have hbl := blks_cut (some ⟨bb, oo, none⟩) c (i + 1 + 1)
  have hadd : Option.map (fun x => x.add (i + 1 + 1)) (some (⟨bb, oo, none⟩ : Addr)) = some ⟨bb, oo + (i + 1 + 1), none⟩ := by simp only [Option.map_some, add_none]
  rw [hadd] at hcut hbl
  obtain ⟨A', hA'⟩ : ∃ A' : Option Addr, (if c = (i + 1 + 1) then some ⟨bb, oo, none⟩ else some ⟨bb, oo + (i + 1 + 1), none⟩) = A' := ⟨_, rfl⟩
  rw [hA', bvs_drop] at hcut
  rw [hA'] at hbl
  have HG := Lib.hid (hcut.keep O1)
  have HE := Lib.hid hbl
  have HS : Hid (Sl w1 (some ⟨bb, oo, none⟩) (i + 1) (bvs (tr (s.b.take (nl s.b))))) := by
    have h1 := (hG.keep O1).sl.pre (k := (i + 1)) (by omega)
    rw [bvs_take] at h1
    have h2 : tr (s.b.take (nl s.b)) = s.b.take (i + 1) := by rw [tr_pre, hT, List.take_take, Nat.min_eq_left (by omega)]
    rw [h2]
    exact h1
  rw [hw1] at c0 c1 c3 f0 f3
  have HJ := Lib.hid hj
  have HT := Lib.hid hT
  have HM := Lib.hid hm
  have HXV := Lib.hid (HC.out i hi)
  have hxv : ((s.b[i].toNat : Nat) : Int) ≠ 13 := fun e => hx (UInt8.toNat_inj.1 (by show _ = 13; omega))
  clear hx
  clear hn hG hk e1 e2 hb hj hT hcut hbl hm hcells hadd
  rw [hd] at c3
  go_enter Try.func15, Try.ntmps15
  go_wp2
  go_loop [5] (fun u => ∃ k : Nat, k ≤ (i + 1) ∧ u = .int .i64 k) (fun u => (i + 1) - (intOf u).toNat)
  case atStart => exact ⟨0, Nat.zero_le _, rfl⟩
  case round =>
    obtain ⟨k, hk, rfl⟩ := hrel
    have hks : k < s.b.length := by omega
    have hx := HC.out k hks
    have hlt' : (k : Int) < (s.b.length : Int) := by omega
    by_cases hlt : k < (i + 1)
    · have hne : ((s.b[k].toNat : Nat) : Int) ≠ 10 := by
        have := HN.out k (by rw [HJ.out]; exact hlt) hks
        intro e
        exact this (UInt8.toNat_inj.1 (by show _ = 10; omega))
      rw [hw1] at hx
      generalize hy : ((s.b[k].toNat : Nat) : Int) = y at hx hne
      clear hy
      go_wp2
      go_roundw
      case rel => exact ⟨k + 1, by omega, by go_num⟩
      case measure => simp [intOf]; omega
    · obtain rfl : k = (i + 1) := by omega
      have hten : ((s.b[(i + 1)].toNat : Nat) : Int) = 10 := by
        have h1 := H10.out (by rw [HJ.out]; exact hks)
        simp only [HJ.out] at h1
        rw [h1]
        rfl
      rw [hten] at hx
      have hR := Bk.new w 36 #[.int .i64 0, .slice none 0 0]
      have r0 : (w.alloc (.cells #[.int .i64 0, .slice none 0 0] 36)).cell? ⟨w.heap.size, 0, none⟩ = some (.int .i64 0) := by rw [hR.cell]; rfl
      have r1 : (w.alloc (.cells #[.int .i64 0, .slice none 0 0] 36)).cell? ⟨w.heap.size, 1, none⟩ = some (.slice none 0 0) := by rw [hR.cell]; rfl
      have t0 := hR.free 0
      have t1 := hR.free 1
      have hgw : ¬ w.heap.size = g := by omega
      have hgw' : ¬ g = w.heap.size := by omega
      rw [← hw1] at c0 c1 c3 f0 f3 r0 r1 t0 t1 hR ⊢
      have HW := Lib.hid hw1
      clear hw1
      have hb0 := HB.out.keep O1
      rw [show s.lit.isSome = false by rw [HM.out]; rfl] at hb0
      have L3 := Lib.hid (ref_cutout hb0 HG.out HE.out hg (by omega))
      have R3 := Lib.hid ((hR.far (p := ⟨g, 0, none⟩) hgw (.slice A' (s.b.length - (i + 1 + 1)) (c - (i + 1 + 1)))).far (p := ⟨g, 3, none⟩) hgw (.bool false))
      have Q3 : Hid (Only (g :: blks (some ⟨bb, oo, none⟩)) w ((w1.setCell ⟨g, 0, none⟩ (.slice A' (s.b.length - (i + 1 + 1)) (c - (i + 1 + 1)))).setCell ⟨g, 3, none⟩ (.bool false))) := ((O1.mono (fun _ hx => nomatch hx)).setCell (.inl (by simp)) _).setCell (.inl (by simp)) _
      clear hb0 O1
      have hx2 := HXV.out
      have hadg : bb ≠ g := fun e => hg (by simp [e])
      have hx3 : (w1.setCell ⟨g, 0, none⟩ (.slice A' (s.b.length - (i + 1 + 1)) (c - (i + 1 + 1)))).cell? ⟨bb, oo + i, none⟩ = some (.int .u8 ((s.b[i].toNat : Nat) : Int)) := ((Only.refl [g] w1).setCell (.inl (by simp)) _).cellSome hx2 (by simpa using hadg)
      generalize hyy : ((s.b[i].toNat : Nat) : Int) = yy at hx3 hx2 hxv
      clear hyy
      have V3 : Sl ((w1.setCell ⟨g, 0, none⟩ (.slice A' (s.b.length - (i + 1 + 1)) (c - (i + 1 + 1)))).setCell ⟨g, 3, none⟩ (.bool false)) (some ⟨bb, oo, none⟩) (i + 1) (bvs (tr (s.b.take (nl s.b)))) := HS.out.only (rs := [g]) (((Only.refl _ _).setCell (.inl (by simp)) _).setCell (.inl (by simp)) _) (fun ad' e => by injection e with e; subst e; simp; intro e; exact hg (by simp [e]))
      have ho0 : Own (((w1.setCell ⟨g, 0, none⟩ (.slice A' (s.b.length - (i + 1 + 1)) (c - (i + 1 + 1)))).setCell ⟨g, 3, none⟩ (.bool false)).alloc (.cells #[] 5)) 5 (some ⟨w1.heap.size, 0, none⟩) 0 0 [] := by have := World.ownsRow_lit ((w1.setCell ⟨g, 0, none⟩ (.slice A' (s.b.length - (i + 1 + 1)) (c - (i + 1 + 1)))).setCell ⟨g, 3, none⟩ (.bool false)) (base := 0) (e := 5) (size := 1) #[] 0 (Nat.zero_le _) (Nat.zero_le _) rfl; rw [World.size_setCell, World.size_setCell] at this; exact this
      go_wp2_with (at_builtin; go_must (refine wpList_append_sl rfl (.tmp 133) (.tmp 134) 27 rfl 5 i0 (.int .u8 0) 1 Try.underlying27 hi0 hz0 hz1 hz2 rfl _ _ _ _ rfl ho0 (some ⟨bb, oo, none⟩) (i + 1) c _ rfl (V3.alloc _) (bvs_one _) (by unfold maxLen; omega) (by omega) ?_); intro A3 c3 w3 HV3 HO3 HB3; rw [List.nil_append] at HV3; rw [Nat.zero_add] at HV3; have Q4 := ((Only.refl [] ((w1.setCell ⟨g, 0, none⟩ (.slice A' (s.b.length - (i + 1 + 1)) (c - (i + 1 + 1)))).setCell ⟨g, 3, none⟩ (.bool false))).alloc (.cells #[] 5)).trans HO3 (fun x hx => .inr (by simp at hx; simp; omega)); have R4 := R3.out.keep Q4; have r40 : w3.cell? ⟨w.heap.size, 0, none⟩ = some (.int .i64 0) := (by rw [R4.cell]; rfl); have r41 : w3.cell? ⟨w.heap.size, 1, none⟩ = some (.slice none 0 0) := (by rw [R4.cell]; rfl); have t40 := R4.free 0; have t41 := R4.free 1)
      have hB3 : ∀ k ∈ blks A3, w.heap.size < k ∧ k < w3.heap.size := fun k hk => ⟨by
        have := hR.lt
        rcases HB3 k hk with h1 | h1
        · simp at h1; omega
        · (first | (simp at h1; omega) | (simp [World.setCell] at h1; omega)), HV3.lt hk⟩
      exact next_ret (x := some ⟨1, tr (s.b.take (nl s.b))⟩) (by kernel_rfl) _ A3 _ c3 rfl HT.out.symm rfl rfl R4 HV3.sl hB3 (L3.out.keep Q4) (Q3.out.then Q4) (fun k hk => hk) hgl h0.out.flt
end
end Go.Proofs.Ytiekhgignmbaeaa
