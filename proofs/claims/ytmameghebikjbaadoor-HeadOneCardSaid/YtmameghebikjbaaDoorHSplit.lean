/-
  head.Split.
-/
import Derived.Test.YtmameghebikjbaaDoorHLen
import Derived.Test.YtmameghebikjbaaDoorRelOps
namespace Go.Proofs.YtmameghebikjbaaDoor
open Go.RowKit Go.Instr
attribute [local go_sem] Oper.semAt_some

theorem texts_snoc {b ln : List UInt8} {k : Nat} (h : (lns b)[k]? = some ln) : ((lns b).take (k + 1)).map tx = ((lns b).take k).map tx ++ [tx ln] := by
  obtain ⟨hk, e⟩ := List.getElem?_eq_some_iff.1 h
  rw [List.take_succ_eq_append_getElem hk, List.map_append, e]
  rfl
theorem gives_skip {P : Program} {T : World → World → Prop} {φ : Value → World → Prop} {w w' : World} {r : Result Next} (hr : r = .ok .skip w') (h : φ undef w') (ht : T w w') : GivesR P T w φ r := by
  rw [hr]; exact ⟨h, ht⟩
/-- Rows of bytes in new memory. -/
def FreshRz (w : World) (ls : List (List UInt8)) (n : Nat) (e : Ending) (w' : World) : Prop :=
  ∃ A c, e = .returned (.slice A n c) ∧ Rz rOwn (fun x => w.heap.size ≤ x) w.heap.size w' A n c ls ∧ Only [] w w'
section
variable {w : World} {A : Option Addr} {n c : Nat} {l : List UInt8}
set_option maxRecDepth 100000 in
set_option maxHeartbeats 2000000 in
theorem Split_any (hs : Bt w A n c l) (hbig : n ≤ 1048576) (hA : ∀ x ∈ blks A, x < w.heap.size) : Calls Tryd.prog 12 #[.slice A n c] w (FreshRz w ((lns l).map tx) (lns l).length) := by
  have HL := Lib.hid hs.len
  obtain ⟨i0, hi, hz0, hz1, hz2⟩ := info_parts infoBytes
  obtain ⟨w1, hw1⟩ : ∃ w1, (w.alloc (.cells #[.slice none 0 0] 23)).alloc (.cells #[.slice A n c] 22) = w1 := ⟨_, rfl⟩
  have hsz1 : w1.heap.size = w.heap.size + 2 := by rw [← hw1]; simp
  have hO1 : Only [] w w1 := by rw [← hw1]; exact ((Only.refl _ _).alloc _).alloc _
  have hN1 : Bk w1 w.heap.size 23 #[.slice none 0 0] := by rw [← hw1]; exact (Bk.new _ _ _).alloc _
  have hIt : Iter w1 (w.heap.size + 1) ((w.heap.size + 1) :: blks A) l 0 n := by
    have := iter_start (hs.keep ((Only.refl _ w).alloc (.cells #[.slice none 0 0] 23))) (fun x hx => by have := hA x hx; simp; omega)
    rw [hw1] at this
    simpa using this
  have HW := Lib.hid hw1
  obtain ⟨r, hr⟩ : ∃ r, (lns l).length = r := ⟨_, rfl⟩
  rw [hr]
  obtain ⟨base, hbase⟩ : ∃ base, w1.heap.size + 2 = base := ⟨_, rfl⟩
  clear hw1
  refine (callsIn_wide (n := 5)).1 ?_
  refine callsIn_of_wp_marks Tryd.func12 rfl trivial ?_ rfl
  simp only [Tryd.ntmps12, List.size_toArray, List.length_cons, List.length_nil, Nat.reduceAdd, Nat.reduceSub, Array.replicate_succ, Array.replicate_zero, List.push_toArray, List.append_toArray, List.nil_append, List.cons_append]
  gi_wp2_with (refine ⟨trivial, ?_⟩; gi_at_call 32; refine (callsIn_wide.2 (Lines_any _ _ _ _)).mono ?_; rintro e w9 ⟨rfl, rfl⟩)
  rw [HW.out]
  have hS : ∀ k ∈ ((w.heap.size + 1) :: blks A), k < w1.heap.size := fun k hk => by
    rcases List.mem_cons.1 hk with rfl | hk
    · omega
    · have := hA k hk; omega
  refine range_lines (by omega) rfl hIt hS (by simp)
    (fun k W => ∃ A' c', Bk W w.heap.size 23 #[.slice A' k c'] ∧ Only [] w W ∧ Rz rOwn (fun x => base ≤ x) base W A' k c' (((lns l).take k).map tx))
    (fun _ _ _ => False)
    (fun k W W' ⟨A', c', h1, h2, h3⟩ o => ⟨A', c', h1.only o (by simp; omega), h2.trans o (fun x hx => by simp at hx; omega), h3.only rOwn_steady o (fun x hx hm => by simp at hm; omega) (fun x hx hm => by simp at hm; omega)⟩)
    (fun _ _ _ _ h _ => h)
    ⟨none, 0, hN1, hO1, Rz.nil _ _ _ _⟩
    (fun v => { tmps := #[.slice A n c, undef, .slice none 0 0, .pointer (some ⟨w.heap.size, 0, none⟩), v, .slice A n c, .func (.func 49) #[] #[.pointer (some ⟨w.heap.size + 1, 0, none⟩)], v, undef, undef, undef, undef, undef, undef, undef], defers := [] }) ?assign ?body ?done ?stop
  case assign =>
    intro l v W K hK
    gi_wp2
    exact hK
  case body =>
    rintro q k ln A2 W ⟨A', c', hN, hO, hR⟩ hln hB hA2 hsz
    have hsnoc := texts_snoc hln
    have hkl : k + 1 ≤ 1048576 := by
      have h1 := (List.getElem?_eq_some_iff.1 hln).1
      have h2 := lns_len l
      have h3 := HL.out
      omega
    have hmle : (tx ln).length ≤ 1048576 := by
      have h1 := tx_len ln
      have h2 := sumK_succ hln
      have h3 := sumK_le l (k + 1)
      have h4 := HL.out
      omega
    obtain ⟨gb, hgb⟩ : ∃ gb, w.heap.size = gb := ⟨_, rfl⟩
    have hN0 := hN
    rw [hgb] at hN
    have c0d : W.drew.cell? ⟨gb, 0, none⟩ = some (.slice A' k c') := by rw [hN.drew.cell]; rfl
    have hTx0 := hB.tx
    have cT0 : ∀ W1, Only [] W W1 → Calls Tryd.prog 34 #[.slice A2 ln.length ln.length] W1 fun e w' => e = .returned (.slice A2 (tx ln).length ln.length) ∧ Only [] W1 w' := fun W1 o => textOf_any (hB.keep o)
    obtain ⟨m, hm⟩ : ∃ m, ln.length = m := ⟨_, rfl⟩
    obtain ⟨T, hT⟩ : ∃ T, tx ln = T := ⟨_, rfl⟩
    rw [hT] at hsnoc hmle hTx0 cT0
    obtain ⟨t, ht⟩ : ∃ t, T.length = t := ⟨_, rfl⟩
    rw [ht, hm] at hTx0 cT0
    rw [ht] at hmle
    rw [hm]
    obtain ⟨ls, hls⟩ : ∃ ls, ((lns l).take k).map tx = ls := ⟨_, rfl⟩
    rw [hls] at hR hsnoc
    obtain ⟨vs, hv1, hv2, hv4, hv3⟩ := hR
    have HSN := Lib.hid hsnoc
    have HT := Lib.hid ht
    have HKL := Lib.hid hkl
    have HML := Lib.hid hmle
    have cT := Lib.hid cT0
    have hTx := Lib.hid hTx0
    have HSZ := Lib.hid hsz
    have HW1 := Lib.hid hsz1
    replace hv1 := Lib.hid hv1
    replace hv2 := Lib.hid hv2
    replace hv3 := Lib.hid hv3
    replace hv4 := Lib.hid hv4
    have HB0 := Lib.hid hbase
    replace hbase : Hid (base ≤ W.heap.size ∧ gb < base) := ⟨by omega, by omega⟩
    have HGB := Lib.hid hgb
    have HN := Lib.hid hN
    clear hm hT ht hsnoc hkl hmle cT0 hTx0 hsz hls hgb hN0 hN
    rw [HGB.out]
    gi_wp2_with fail
    apply region_round (rs := gb :: blks A') (Ws := [5, 6]) (by kernel_rfl) (by kernel_rfl) (by kernel_rfl) (by rintro ⟨_, _, h⟩; exact h)
    apply rel_val (hrf := Tk_refl)
    case hw => rfl
    case hy => intro wS hN hF; have hc := (hN.pre (by kernel_rfl)).cellSome (p := ⟨gb, 0, none⟩) c0d (fun hm => nomatch hm); first | (go_simp; done) | (go_simp; with_reducible rfl)
    case' hk => skip
    try simp only [Act.put, List.setIfInBounds_toArray, List.set_cons_zero, List.set_cons_succ]
    apply rel_val (hrf := Tk_refl)
    case hw => rfl
    case hy => intro wS hN hF; skip; first | (go_simp; done) | (go_simp; with_reducible rfl)
    case' hk => skip
    try simp only [Act.put, List.setIfInBounds_toArray, List.set_cons_zero, List.set_cons_succ]
    apply rel_call (v := .slice A2 t m) (f := 34) (args := #[.slice A2 m m])
    case hw => rfl
    case hy => intro wS hN hF; go_simp
    case hc => intro wS hN hF; exact call_only (cT.out wS ((Only.refl [] _).drew.then (hN.pre (by kernel_rfl))))
    case' hk => skip
    try simp only [Act.put, List.setIfInBounds_toArray, List.set_cons_zero, List.set_cons_succ]
    apply rel_fact_call (φ := fun v W' => ∃ A3 c3, v = .slice A3 t c3 ∧ Own W' 5 A3 t c3 (bvs T) ∧ ∀ x ∈ blks A3, W.heap.size ≤ x) (x := 5) (hs := lasts0 (by kernel_rfl) (fun v W1 W2 h ho => by obtain ⟨A3, c3, h1, h2, h3⟩ := h; exact ⟨A3, c3, h1, h2.keep ho, h3⟩))
    case hw => rfl
    case hc =>
      intro wS hN hF
      have hO := hN.pre (by kernel_rfl)
      refine ⟨33, #[.slice A2 t m], by go_simp, (clone_any m (hTx.out.keep ((Only.refl [] _).drew.then hO)).sl (by have := HML.out; omega)).mono ?_⟩
      rintro e w3 ⟨A3, c3, rfl, hV3, hO3, hB3⟩
      exact ⟨_, rfl, ⟨A3, c3, rfl, hV3, fun x hx => Nat.le_trans hO.size (hB3 x hx)⟩, Tk_only hO3⟩
    case' hk => intro v3
    try simp only [Act.put, List.setIfInBounds_toArray, List.set_cons_zero, List.set_cons_succ]
    apply rel_fact (φ := fun v W' => ∃ A3 c3 g, v = .slice (some ⟨g, 0, none⟩) 1 1 ∧ Bk W' g 22 #[.slice A3 t c3] ∧ Own W' 5 A3 t c3 (bvs T) ∧ (∀ x ∈ blks A3, W.heap.size ≤ x) ∧ W.heap.size ≤ W'.heap.size) (x := 5) (hs := lasts0 (by kernel_rfl) (fun v W1 W2 h ho => by obtain ⟨A3, c3, g, h1, h2, h3, h4, h5⟩ := h; exact ⟨A3, c3, g, h1, h2.only ho (fun hm => nomatch hm), h3.keep ho, h4, Nat.le_trans h5 ho.size⟩))
    case hw => rfl
    case hy =>
      intro wS hN hF
      have hO := hN.pre (by kernel_rfl)
      obtain ⟨A3, c3, rfl, hV3, hB3⟩ := hF.at_ 0 rfl (by kernel_rfl) (by kernel_rfl)
      refine gives_value (u := .slice (some ⟨wS.heap.size, 0, none⟩) 1 1) (w' := wS.alloc (.cells #[.slice A3 t c3] 22)) ?_ ⟨A3, c3, wS.heap.size, rfl, Bk.new _ _ _, hV3.alloc _, hB3, by have := hO.size; simp at this ⊢; omega⟩ (Tk_only ((Only.refl [] _).alloc _))
      go_simp
    case' hk => intro v4
    try simp only [Act.put, List.setIfInBounds_toArray, List.set_cons_zero, List.set_cons_succ]
    apply rel_fact (φ := fun v W' => ∃ A5 c5, v = .slice A5 (k + 1) c5 ∧ Bk W' gb 23 #[.slice A' k c'] ∧ Rz rOwn (fun x => base ≤ x) base W' A5 (k + 1) c5 (ls ++ [T])) (x := 6) (hs := lasts0 (by kernel_rfl) (fun v W1 W2 h ho => by obtain ⟨A5, c5, h1, h3, h2⟩ := h; exact ⟨A5, c5, h1, h3.only ho (fun hm => nomatch hm), h2.keep rOwn_steady ho⟩))
    case hw => rfl
    case hy =>
      intro wS hN hF
      have hO := hN.pre (by kernel_rfl)
      have hOW : Only [] W wS := (Only.refl [] _).drew.then hO
      have hgA : gb ∉ blks A' := fun hm => by have h1 := hv4.out _ hm; have h2 := hbase.out; omega
      obtain ⟨A3, c3, g, rfl, hG, hV3, hB3, hsz5⟩ := hF.at_ 0 rfl (by kernel_rfl) (by kernel_rfl)
      have hG1 : Sl wS (some ⟨g, 0, none⟩) 1 [.slice A3 t c3] := Sl.of_bk hG
      exact gives_append_sl (.tmp 8) (.tmp 12) 23 rfl 22 i0 (.slice none 0 0) 24 Tryd.underlying23 hi hz0 hz1 hz2 rfl A' k c' vs rfl (hv1.out.keep hOW) (some ⟨g, 0, none⟩) 1 1 _ rfl hG1 (fun u hu => by simp at hu; subst hu; rfl) (by unfold maxLen; have := HKL.out; omega) (by have := HKL.out; omega) fun A5 c5 w5 hV5 hO5 hB5 => ⟨⟨A5, c5, rfl, (HN.out.only hOW (fun hm => nomatch hm)).only hO5 hgA, (by
          have hb0 := hbase.out
          refine rz_push rOwn_steady (Ai := A3) (ci := c3) (by have := hOW.size; omega) (hv1.out.keep hOW) hv2.out hv4.out (fun i l2 hl2 => ?_) (by rw [HT.out]; exact hV5) hO5 hB5 (by unfold rOwn; rw [HT.out]; exact hV3) (fun x hx => ?_)
          · obtain ⟨Ai, ci, e1, e2, e3⟩ := hv3.out i l2 hl2
            exact ⟨Ai, ci, e1, rOwn_steady _ _ _ _ _ _ e2 hOW (fun _ _ hm => nomatch hm), fun x hx => ⟨(e3 x hx).1, Nat.lt_of_lt_of_le (e3 x hx).2.1 hOW.size, (e3 x hx).2.2⟩⟩
          · have h1 := hB3 x hx
            refine ⟨by omega, hV3.lt hx, fun hm => ?_⟩
            have := hv1.out.lt hm
            omega)⟩, Tk_writes rfl hO5 (fun x hx => .inl (by simp [hx]))⟩
    case' hk => intro v5
    try simp only [Act.put, List.setIfInBounds_toArray, List.set_cons_zero, List.set_cons_succ]
    apply rel_fact (φ := fun _ W' => ∃ A5 c5, Bk W' gb 23 #[.slice A5 (k + 1) c5] ∧ Rz rOwn (fun x => base ≤ x) base W' A5 (k + 1) c5 (ls ++ [T])) (x := 9999) (hs := lasts0 (by kernel_rfl) (fun v W1 W2 h ho => by obtain ⟨A5, c5, h1, h2⟩ := h; exact ⟨A5, c5, h1.only ho (fun hm => nomatch hm), h2.keep rOwn_steady ho⟩))
    case hw => rfl
    case hy =>
      intro wS hN hF
      obtain ⟨A5, c5, rfl, hB6, hR5⟩ := hF.at_ 0 rfl (by kernel_rfl) (by kernel_rfl)
      have hc6 : wS.cell? ⟨gb, 0, none⟩ = some (.slice A' k c') := by rw [hB6.cell]; rfl
      have hf6 := hB6.free 0
      have hO6 : Only [gb] wS (wS.setCell ⟨gb, 0, none⟩ (.slice A5 (k + 1) c5)) := (Only.refl _ _).setCell (.inl (by simp)) _
      refine gives_skip (w' := wS.setCell ⟨gb, 0, none⟩ (.slice A5 (k + 1) c5)) ?_ ⟨A5, c5, by simpa using hB6.set 0 (.slice A5 (k + 1) c5), hR5.only rOwn_steady hO6 (fun x hx hm => by have := hbase.out; simp at hm; omega) (fun x hx hm => by have := hbase.out; simp at hm; omega)⟩ (Tk_writes rfl hO6 (fun x hx => .inl (by simp at hx; simp [hx])))
      clear hB6 hR5 hO6
      go_simp
    case' hk => intro v6
    try simp only [Act.put]
    refine rel_end ?_
    intro wS hOS hF
    obtain ⟨A5, c5, hG5, hR5⟩ := facts_at hF 0 rfl
    clear hF
    have hOW : Only (gb :: blks A') W wS := (Only.refl _ _).drew.trans hOS.only (fun x hx => .inl hx)
    gi_wp2
    have hb0 := hbase.out
    have hs0 := HSZ.out
    have hg0 := HGB.out
    have hw0 := HW1.out
    have hbb := HB0.out
    rw [hg0] at hS
    refine ⟨keepS hOW (by omega) hS (fun x hx => ?_), A5, c5, hG5, hO.trans hOW (fun x hx => ?_), by rw [HSN.out]; exact hR5⟩
    · rcases List.mem_cons.1 hx with rfl | hx
      · refine ⟨fun h => ?_, by omega, by omega⟩
        rcases List.mem_cons.1 h with h | h
        · omega
        · have := hA _ h; omega
      · have h1 := hv4.out x hx
        exact ⟨fun h => by have := hS x h; omega, by omega, by omega⟩
    · rcases List.mem_cons.1 hx with rfl | hx
      · right; omega
      · have h1 := hv4.out x hx
        right; omega
  case done =>
    rintro D W ⟨A', c', hN, hO, hR⟩ hD hK
    have c0 : W.cell? ⟨w.heap.size, 0, none⟩ = some (.slice A' (lns l).length c') := by rw [hN.cell]; rfl
    rw [List.take_length] at hR
    rw [hr] at c0 hR
    clear hr
    gi_wp2
    refine ⟨by simp, .inl ⟨_, _, rfl, run_takeDeferred hK, ?_⟩⟩
    refine ⟨_, results_tmp rfl _ _ _, A', c', rfl, ?_, hO.trans (putObj_only _ _ _) (fun x hx => by simp at hx; omega)⟩
    exact (hR.only rOwn_steady (putObj_only _ _ _) (fun x hx hm => by simp at hm; omega) (fun x hx hm => by simp at hm; omega)).mono (by omega) (fun x hx => by omega)
  case stop =>
    rintro D cd k W hk h
    exact h.elim
end
end Go.Proofs.YtmameghebikjbaaDoor
