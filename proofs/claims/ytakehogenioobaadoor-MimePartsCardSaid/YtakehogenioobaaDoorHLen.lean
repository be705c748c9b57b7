/-
  headLen: how many bytes the head has.
-/
import Derived.Test.YtakehogenioobaaDoorHWords
namespace Go.Proofs.YtakehogenioobaaDoor
open Go.RowKit Go.Instr
attribute [local go_sem] Oper.semAt_some

def sumK (b : List UInt8) (k : Nat) : Nat := ((lns b).take k).flatten.length
theorem sumK_succ {b ln : List UInt8} {k : Nat} (h : (lns b)[k]? = some ln) : sumK b (k + 1) = sumK b k + ln.length := by
  obtain ⟨hk, e⟩ := List.getElem?_eq_some_iff.1 h
  unfold sumK
  rw [List.take_succ_eq_append_getElem hk, List.flatten_append, List.length_append, e]
  simp
theorem sumK_le (b : List UInt8) (k : Nat) : sumK b k ≤ b.length := take_flat_le b k
theorem hk_at {b ln : List UInt8} {k : Nat} (h : (lns b)[k]? = some ln) : hk ((lns b).drop k) = if tx ln = [] then 1 else hk ((lns b).drop (k + 1)) + 1 := by
  obtain ⟨hk, e⟩ := List.getElem?_eq_some_iff.1 h
  rw [List.drop_eq_getElem_cons hk, e]
  rfl

/-- What the blocks are that the loop keeps: its own two, the iterator's cell, the bytes. -/
theorem keepS {W : World} {B : Nat} {S : List Nat} {rs : List Nat} {W' : World} (o : Only rs W W') (hB : B + 2 ≤ W.heap.size) (hS : ∀ k ∈ S, k < B) (hr : ∀ x ∈ rs, x ∉ S ∧ x ≠ B ∧ x ≠ B + 1) : Keeps (B :: (B + 1) :: S) W W' :=
  o.keeps fun k hk => by
    rcases List.mem_cons.1 hk with rfl | hk
    · exact ⟨by omega, fun h => (hr _ h).2.1 rfl⟩
    · rcases List.mem_cons.1 hk with rfl | hk
      · exact ⟨by omega, fun h => (hr _ h).2.2 rfl⟩
      · exact ⟨by have := hS k hk; omega, fun h => (hr _ h).1 hk⟩

section
variable {w : World} {A : Option Addr} {n c : Nat} {l : List UInt8}
theorem iter_start (hs : Bt w A n c l) (hA : ∀ x ∈ blks A, x < w.heap.size) : Iter (w.alloc (.cells #[.slice A n c] 24)) w.heap.size (w.heap.size :: blks A) l 0 n := by
  refine ⟨Nat.zero_le _, A, c, Bk.new _ _ _, ?_, hs.cap, hs.max, fun x hx => by simp [hx], fun hm => ?_⟩
  · rw [List.drop_zero, lns_flat]
    exact hs.sl.alloc _
  · have := hA _ hm
    omega
set_option maxRecDepth 100000 in
set_option maxHeartbeats 2000000 in
theorem headLen_any (hs : Bt w A n c l) (hbig : n ≤ 1048576) (hA : ∀ x ∈ blks A, x < w.heap.size) : Calls Tryd.prog 28 #[.slice A n c] w fun e w' => e = .returned (.int .i64 (hd l : Nat)) ∧ Only [] w w' := by
  have HL := Lib.hid hs.len
  obtain ⟨w1, hw1⟩ : ∃ w1, (w.alloc (.cells #[.int .i64 0] 3)).alloc (.cells #[.slice A n c] 24) = w1 := ⟨_, rfl⟩
  have hsz1 : w1.heap.size = w.heap.size + 2 := by rw [← hw1]; simp
  have hO1 : Only [] w w1 := by rw [← hw1]; exact ((Only.refl _ _).alloc _).alloc _
  have hN1 : Bk w1 w.heap.size 3 #[.int .i64 0] := by rw [← hw1]; exact (Bk.new _ _ _).alloc _
  have hIt : Iter w1 (w.heap.size + 1) ((w.heap.size + 1) :: blks A) l 0 n := by
    have := iter_start (hs.keep ((Only.refl _ w).alloc (.cells #[.int .i64 0] 3))) (fun x hx => by have := hA x hx; simp; omega)
    rw [hw1] at this
    simpa using this
  have HW := Lib.hid hw1
  clear hw1
  refine (callsIn_wide (n := 5)).1 ?_
  refine callsIn_of_wp_marks Tryd.func28 rfl trivial ?_ rfl
  simp only [Tryd.ntmps28, List.size_toArray, List.length_cons, List.length_nil, Nat.reduceAdd, Nat.reduceSub, Array.replicate_succ, Array.replicate_zero, List.push_toArray, List.append_toArray, List.nil_append, List.cons_append]
  gi_wp2_with (refine ⟨trivial, ?_⟩; gi_at_call 44; refine (callsIn_wide.2 (Lines_any _ _ _ _)).mono ?_; rintro e w9 ⟨rfl, rfl⟩)
  rw [HW.out]
  have hS : ∀ k ∈ ((w.heap.size + 1) :: blks A), k < w1.heap.size := fun k hk => by
    rcases List.mem_cons.1 hk with rfl | hk
    · omega
    · have := hA k hk; omega
  refine range_lines (by omega) rfl hIt hS (by simp)
    (fun k W => Bk W w.heap.size 3 #[.int .i64 (sumK l k : Nat)] ∧ Only [] w W ∧ Hid (hk (lns l) = k + hk ((lns l).drop k)))
    (fun cd k W => cd = .exit 0 ∧ Bk W w.heap.size 3 #[.int .i64 (sumK l k : Nat)] ∧ Only [] w W ∧ Hid (hk (lns l) = k))
    (fun k W W' h o => ⟨h.1.only o (by simp; omega), h.2.1.trans o (fun x hx => by simp at hx; omega), h.2.2⟩)
    (fun cd k W W' h o => ⟨h.1, h.2.1.only o (by simp; omega), h.2.2.1.trans o (fun x hx => by simp at hx; omega), h.2.2.2⟩)
    ⟨hN1, hO1, by show _ = _; simp⟩
    (fun v => { tmps := #[.slice A n c, undef, .int .i64 0, .pointer (some ⟨w.heap.size, 0, none⟩), v, .slice A n c, .func (.func 60) #[] #[.pointer (some ⟨w.heap.size + 1, 0, none⟩)], v, undef, undef, undef, undef, undef, undef, undef, undef, undef], defers := [] }) ?assign ?body ?done ?stop
  case assign =>
    intro l v W K hK
    gi_wp2
    exact hK
  case body =>
    rintro q k ln A2 W ⟨hN, hO, HH⟩ hln hB hA2 hsz
    have hsum := sumK_succ hln
    have hle := sumK_le l (k + 1)
    rw [HL.out] at hle
    have c0 : W.cell? ⟨w.heap.size, 0, none⟩ = some (.int .i64 (sumK l k : Nat)) := by rw [hN.cell]; rfl
    have f0 := hN.free 0
    obtain ⟨m, hm⟩ : ∃ m, ln.length = m := ⟨_, rfl⟩
    obtain ⟨s, hs⟩ : ∃ s, sumK l k = s := ⟨_, rfl⟩
    obtain ⟨t, ht⟩ : ∃ t, (tx ln).length = t := ⟨_, rfl⟩
    rw [hs] at c0 hN
    rw [hs, hm] at hsum
    have hgA : w.heap.size ∉ blks A2 := fun hm => by
      rcases List.mem_cons.1 (hA2 _ hm) with h | h
      · omega
      · have := hA _ h; omega
    have hT : ∀ W1, Only [w.heap.size] W W1 → Calls Tryd.prog 45 #[.slice A2 m m] W1 fun e w' => e = .returned (.slice A2 t m) ∧ Only [] W1 w' := fun W1 o => by
      have := textOf_any (hB.only o (fun x hx hm => hgA (by rw [← List.mem_singleton.1 hm]; exact hx)))
      rwa [hm, ht] at this
    obtain ⟨u, hu⟩ : ∃ u, s + m = u := ⟨_, rfl⟩
    rw [hu] at hsum
    have hO1' : Only [w.heap.size] W (W.setCell ⟨w.heap.size, 0, none⟩ (.int .i64 ((s : Int) + (m : Int)))) := (Only.refl _ _).setCell (.inl (by simp)) _
    have hu' : (s : Int) + (m : Int) = (u : Int) := by omega
    have hN2 : Bk (W.setCell ⟨w.heap.size, 0, none⟩ (.int .i64 ((s : Int) + (m : Int)))) w.heap.size 3 #[.int .i64 (u : Int)] := by rw [hu']; simpa using hN.set 0 (.int .i64 (u : Int))
    have hB1 : (s : Int) + (m : Int) ≤ 1048576 := by omega
    have HSUM := Lib.hid hsum
    have HK := hk_at hln
    rw [hm]
    clear hm hs hu hsum
    by_cases ht0 : t = 0
    · have HE : Hid (hk (lns l) = k + 1) := by
        show _ = _
        rw [HH.out, HK, if_pos (List.eq_nil_of_length_eq_zero (by omega))]
      clear HK ht
      subst ht0
      rw [hu'] at hO1' hN2
      gi_wp2_with (refine ⟨trivial, ?_⟩; gi_at_call 45; refine (CallsIn.inRound q (callsIn_wide.2 (hT _ hO1'))).mono ?_; rintro e w2 ⟨rfl, hO2⟩)
      have hOall : Only [w.heap.size] W w2 := hO1'.then hO2
      refine ⟨keepS hOall (by omega) hS (fun x hx => ?_), rfl, ?_, hO.trans hOall (fun x hx => by simp at hx; omega), HE⟩
      · rw [List.mem_singleton] at hx
        subst hx
        refine ⟨fun h => ?_, by omega, by omega⟩
        rcases List.mem_cons.1 h with h | h
        · omega
        · have := hA _ h; omega
      · rw [HSUM.out]
        exact hN2.only hO2 (by simp)
    · have HE : Hid (hk (lns l) = k + 1 + hk ((lns l).drop (k + 1))) := by
        show _ = _
        rw [HH.out, HK, if_neg (fun h => ht0 (by rw [← ht, h]; rfl))]
        omega
      have htb : ((t : Int) == 0) = false := by rw [beq_eq_false_iff_ne]; omega
      clear HK ht ht0
      rw [hu'] at hO1' hN2
      gi_wp2_with (refine ⟨trivial, ?_⟩; gi_at_call 45; refine (CallsIn.inRound q (callsIn_wide.2 (hT _ hO1'))).mono ?_; rintro e w2 ⟨rfl, hO2⟩)
      have hOall : Only [w.heap.size] W w2 := hO1'.then hO2
      refine ⟨keepS hOall (by omega) hS (fun x hx => ?_), ?_, hO.trans hOall (fun x hx => by simp at hx; omega), HE⟩
      · rw [List.mem_singleton] at hx
        subst hx
        refine ⟨fun h => ?_, by omega, by omega⟩
        rcases List.mem_cons.1 h with h | h
        · omega
        · have := hA _ h; omega
      · rw [HSUM.out]
        exact hN2.only hO2 (by simp)
  case done =>
    rintro D W ⟨hN, hO, HH⟩ hD hK
    have HE : Hid (sumK l (lns l).length = hd l) := by
      show _ = _
      unfold hd hls sumK
      rw [HH.out, List.drop_length]
      rfl
    obtain ⟨s, hs⟩ : ∃ s, sumK l (lns l).length = s := ⟨_, rfl⟩
    rw [hs] at hN HE
    have c0 : W.cell? ⟨w.heap.size, 0, none⟩ = some (.int .i64 (s : Int)) := by rw [hN.cell]; rfl
    clear hs
    gi_wp2
    refine ⟨by simp, .inl ⟨_, _, rfl, run_takeDeferred hK, ?_⟩⟩
    refine ⟨_, results_tmp rfl _ _ _, ?_, hO.trans (putObj_only _ _ _) (fun x hx => by simp at hx; omega)⟩
    rw [← HE.out]
    rfl
  case stop =>
    rintro D cd k W hk ⟨rfl, hN, hO, HH⟩ hD hK
    have HE : Hid (sumK l k = hd l) := by
      show _ = _
      unfold hd hls sumK
      rw [HH.out]
    obtain ⟨s, hs⟩ : ∃ s, sumK l k = s := ⟨_, rfl⟩
    rw [hs] at hN HE
    have c0 : W.cell? ⟨w.heap.size, 0, none⟩ = some (.int .i64 (s : Int)) := by rw [hN.cell]; rfl
    clear hs
    gi_wp2
    refine ⟨by simp, .inl ⟨_, _, rfl, run_takeDeferred hK, ?_⟩⟩
    refine ⟨_, results_tmp rfl _ _ _, ?_, hO.trans (putObj_only _ _ _) (fun x hx => by simp at hx; omega)⟩
    rw [← HE.out]
    rfl
end
end Go.Proofs.YtakehogenioobaaDoor
