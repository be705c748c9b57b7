/-
  Texts of the seat, laid one behind the other: HLen HHead HFd GotoN HFields HSame.
-/
import Derived.Test.YtkcnnbglmckmnaaDoorA4
import Derived.Test.YtkcnnbglmckmnaaDoorA2
import Derived.Test.YtkcnnbglmckmnaaDoorA1
import Derived.Scope
import Derived.ScopeJumps
namespace Go.Proofs.YtkcnnbglmckmnaaDoor
open Go.RowKit Go.Instr
attribute [local go_sem] Oper.semAt_some
def sumK (b : List UInt8) (k : Nat) : Nat := ((lns b).take k).flatten.length
theorem sumK_succ {b ln : List UInt8} {k : Nat} (h : (lns b)[k]? = some ln) : sumK b (k + 1) = sumK b k + ln.length := by
  obtain ⟨hk, e⟩ := List.getElem?_eq_some_iff.1 h
  unfold sumK
  rw [List.take_succ_eq_append_getElem hk, List.flatten_append, List.length_append, e]
  simp
theorem sumK_le (b : List UInt8) (k : Nat) : sumK b k ≤ b.length := take_flat_le b k
theorem hk_at {b ln : List UInt8} {k : Nat} (h : (lns b)[k]? = some ln) : hk ((lns b).drop k) = if tx ln = [] then 1 else hk ((lns b).drop (k + 1)) + 1 := by
  obtain ⟨hk, e⟩ := List.getElem?_eq_some_iff.1 h
  rw [List.drop_eq_getElem_cons hk, e]
  rfl
theorem keepS {W : World} {B : Nat} {S : List Nat} {rs : List Nat} {W' : World} (o : Only rs W W') (hB : B + 2 ≤ W.heap.size) (hS : ∀ k ∈ S, k < B) (hr : ∀ x ∈ rs, x ∉ S ∧ x ≠ B ∧ x ≠ B + 1) : Keeps (B :: (B + 1) :: S) W W' :=
  o.keeps fun k hk => by
    rcases List.mem_cons.1 hk with rfl | hk
    · exact ⟨by omega, fun h => (hr _ h).2.1 rfl⟩
    · rcases List.mem_cons.1 hk with rfl | hk
      · exact ⟨by omega, fun h => (hr _ h).2.2 rfl⟩
      · exact ⟨by have := hS k hk; omega, fun h => (hr _ h).1 hk⟩
section
variable {w : World} {A : Option Addr} {n c : Nat} {l : List UInt8}
theorem iter_start (hs : Bt w A n c l) (hA : ∀ x ∈ blks A, x < w.heap.size) : Iter (w.alloc (.cells #[.slice A n c] 35)) w.heap.size (w.heap.size :: blks A) l 0 n := by
  refine ⟨Nat.zero_le _, A, c, Bk.new _ _ _, ?_, hs.cap, hs.max, fun x hx => by simp [hx], fun hm => ?_⟩
  · rw [List.drop_zero, lns_flat]
    exact hs.sl.alloc _
  · have := hA _ hm
    omega
set_option maxRecDepth 100000 in
set_option maxHeartbeats 2000000 in
theorem headLen_any (hs : Bt w A n c l) (hbig : n ≤ 1048576) (hA : ∀ x ∈ blks A, x < w.heap.size) : Calls Tryd.prog 60 #[.slice A n c] w fun e w' => e = .returned (.int .i64 (hd l : Nat)) ∧ Only [] w w' := by
  have HL := Lib.hid hs.len
  obtain ⟨w1, hw1⟩ : ∃ w1, (w.alloc (.cells #[.int .i64 0] 3)).alloc (.cells #[.slice A n c] 35) = w1 := ⟨_, rfl⟩
  have hsz1 : w1.heap.size = w.heap.size + 2 := by rw [← hw1]; simp
  have hO1 : Only [] w w1 := by rw [← hw1]; exact ((Only.refl _ _).alloc _).alloc _
  have hN1 : Bk w1 w.heap.size 3 #[.int .i64 0] := by rw [← hw1]; exact (Bk.new _ _ _).alloc _
  have hIt : Iter w1 (w.heap.size + 1) ((w.heap.size + 1) :: blks A) l 0 n := by
    have := iter_start (hs.keep ((Only.refl _ w).alloc (.cells #[.int .i64 0] 3))) (fun x hx => by have := hA x hx; simp; omega)
    rw [hw1] at this
    simpa using this
  have HW := Lib.hid hw1
  clear hw1
  refine (callsIn_wide (n := 5)).1 ?_
  refine callsIn_of_wp_marks Tryd.func60 rfl trivial ?_ rfl
  simp only [Tryd.ntmps60, List.size_toArray, List.length_cons, List.length_nil, Nat.reduceAdd, Nat.reduceSub, Array.replicate_succ, Array.replicate_zero, List.push_toArray, List.append_toArray, List.nil_append, List.cons_append]
  gi_wp2_with (refine ⟨trivial, ?_⟩; gi_at_call 82; refine (callsIn_wide.2 (Lines_any _ _ _ _)).mono ?_; rintro e w9 ⟨rfl, rfl⟩)
  rw [HW.out]
  have hS : ∀ k ∈ ((w.heap.size + 1) :: blks A), k < w1.heap.size := fun k hk => by
    rcases List.mem_cons.1 hk with rfl | hk
    · omega
    · have := hA k hk; omega
  refine range_lines (by omega) rfl hIt hS (by simp)
    (fun k W => Bk W w.heap.size 3 #[.int .i64 (sumK l k : Nat)] ∧ Only [] w W ∧ Hid (hk (lns l) = k + hk ((lns l).drop k)))
    (fun cd k W => cd = .exit 0 ∧ Bk W w.heap.size 3 #[.int .i64 (sumK l k : Nat)] ∧ Only [] w W ∧ Hid (hk (lns l) = k))
    (fun k W W' h o => ⟨h.1.only o (by simp; omega), h.2.1.trans o (fun x hx => by simp at hx; omega), h.2.2⟩)
    (fun cd k W W' h o => ⟨h.1, h.2.1.only o (by simp; omega), h.2.2.1.trans o (fun x hx => by simp at hx; omega), h.2.2.2⟩)
    ⟨hN1, hO1, by show _ = _; simp⟩
    (fun v => { tmps := #[.slice A n c, undef, .int .i64 0, .pointer (some ⟨w.heap.size, 0, none⟩), v, .slice A n c, .func (.func 104) #[] #[.pointer (some ⟨w.heap.size + 1, 0, none⟩)], v, undef, undef, undef, undef, undef, undef, undef, undef, undef], defers := [] }) ?assign ?body ?done ?stop
  case assign =>
    intro l v W K hK
    gi_wp2
    exact hK
  case body =>
    rintro q k ln A2 W ⟨hN, hO, HH⟩ hln hB hA2 hsz
    have hsum := sumK_succ hln
    have hle := sumK_le l (k + 1)
    rw [HL.out] at hle
    have c0 : W.cell? ⟨w.heap.size, 0, none⟩ = some (.int .i64 (sumK l k : Nat)) := by rw [hN.cell]; rfl
    have f0 := hN.free 0
    obtain ⟨m, hm⟩ : ∃ m, ln.length = m := ⟨_, rfl⟩
    obtain ⟨s, hs⟩ : ∃ s, sumK l k = s := ⟨_, rfl⟩
    obtain ⟨t, ht⟩ : ∃ t, (tx ln).length = t := ⟨_, rfl⟩
    rw [hs] at c0 hN
    rw [hs, hm] at hsum
    have hgA : w.heap.size ∉ blks A2 := fun hm => by
      rcases List.mem_cons.1 (hA2 _ hm) with h | h
      · omega
      · have := hA _ h; omega
    have hT : ∀ W1, Only [w.heap.size] W W1 → Calls Tryd.prog 83 #[.slice A2 m m] W1 fun e w' => e = .returned (.slice A2 t m) ∧ Only [] W1 w' := fun W1 o => by
      have := textOf_any (hB.only o (fun x hx hm => hgA (by rw [← List.mem_singleton.1 hm]; exact hx)))
      rwa [hm, ht] at this
    obtain ⟨u, hu⟩ : ∃ u, s + m = u := ⟨_, rfl⟩
    rw [hu] at hsum
    have hO1' : Only [w.heap.size] W (W.setCell ⟨w.heap.size, 0, none⟩ (.int .i64 ((s : Int) + (m : Int)))) := (Only.refl _ _).setCell (.inl (by simp)) _
    have hu' : (s : Int) + (m : Int) = (u : Int) := by omega
    have hN2 : Bk (W.setCell ⟨w.heap.size, 0, none⟩ (.int .i64 ((s : Int) + (m : Int)))) w.heap.size 3 #[.int .i64 (u : Int)] := by rw [hu']; simpa using hN.set 0 (.int .i64 (u : Int))
    have hB1 : (s : Int) + (m : Int) ≤ 1048576 := by omega
    have HSUM := Lib.hid hsum
    have HK := hk_at hln
    rw [hm]
    clear hm hs hu hsum
    by_cases ht0 : t = 0
    · have HE : Hid (hk (lns l) = k + 1) := by
        show _ = _
        rw [HH.out, HK, if_pos (List.eq_nil_of_length_eq_zero (by omega))]
      clear HK ht
      subst ht0
      rw [hu'] at hO1' hN2
      gi_wp2_with (refine ⟨trivial, ?_⟩; gi_at_call 83; refine (CallsIn.inRound q (callsIn_wide.2 (hT _ hO1'))).mono ?_; rintro e w2 ⟨rfl, hO2⟩)
      have hOall : Only [w.heap.size] W w2 := hO1'.then hO2
      refine ⟨keepS hOall (by omega) hS (fun x hx => ?_), rfl, ?_, hO.trans hOall (fun x hx => by simp at hx; omega), HE⟩
      · rw [List.mem_singleton] at hx
        subst hx
        refine ⟨fun h => ?_, by omega, by omega⟩
        rcases List.mem_cons.1 h with h | h
        · omega
        · have := hA _ h; omega
      · rw [HSUM.out]
        exact hN2.only hO2 (by simp)
    · have HE : Hid (hk (lns l) = k + 1 + hk ((lns l).drop (k + 1))) := by
        show _ = _
        rw [HH.out, HK, if_neg (fun h => ht0 (by rw [← ht, h]; rfl))]
        omega
      have htb : ((t : Int) == 0) = false := by rw [beq_eq_false_iff_ne]; omega
      clear HK ht ht0
      rw [hu'] at hO1' hN2
      gi_wp2_with (refine ⟨trivial, ?_⟩; gi_at_call 83; refine (CallsIn.inRound q (callsIn_wide.2 (hT _ hO1'))).mono ?_; rintro e w2 ⟨rfl, hO2⟩)
      have hOall : Only [w.heap.size] W w2 := hO1'.then hO2
      refine ⟨keepS hOall (by omega) hS (fun x hx => ?_), ?_, hO.trans hOall (fun x hx => by simp at hx; omega), HE⟩
      · rw [List.mem_singleton] at hx
        subst hx
        refine ⟨fun h => ?_, by omega, by omega⟩
        rcases List.mem_cons.1 h with h | h
        · omega
        · have := hA _ h; omega
      · rw [HSUM.out]
        exact hN2.only hO2 (by simp)
  case done =>
    rintro D W ⟨hN, hO, HH⟩ hD hK
    have HE : Hid (sumK l (lns l).length = hd l) := by
      show _ = _
      unfold hd hls sumK
      rw [HH.out, List.drop_length]
      rfl
    obtain ⟨s, hs⟩ : ∃ s, sumK l (lns l).length = s := ⟨_, rfl⟩
    rw [hs] at hN HE
    have c0 : W.cell? ⟨w.heap.size, 0, none⟩ = some (.int .i64 (s : Int)) := by rw [hN.cell]; rfl
    clear hs
    gi_wp2
    refine ⟨by simp, .inl ⟨_, _, rfl, run_takeDeferred hK, ?_⟩⟩
    refine ⟨_, results_tmp rfl _ _ _, ?_, hO.trans (putObj_only _ _ _) (fun x hx => by simp at hx; omega)⟩
    rw [← HE.out]
    rfl
  case stop =>
    rintro D cd k W hk ⟨rfl, hN, hO, HH⟩ hD hK
    have HE : Hid (sumK l k = hd l) := by
      show _ = _
      unfold hd hls sumK
      rw [HH.out]
    obtain ⟨s, hs⟩ : ∃ s, sumK l k = s := ⟨_, rfl⟩
    rw [hs] at hN HE
    have c0 : W.cell? ⟨w.heap.size, 0, none⟩ = some (.int .i64 (s : Int)) := by rw [hN.cell]; rfl
    clear hs
    gi_wp2
    refine ⟨by simp, .inl ⟨_, _, rfl, run_takeDeferred hK, ?_⟩⟩
    refine ⟨_, results_tmp rfl _ _ _, ?_, hO.trans (putObj_only _ _ _) (fun x hx => by simp at hx; omega)⟩
    rw [← HE.out]
    rfl
end
end Go.Proofs.YtkcnnbglmckmnaaDoor
namespace Go.Proofs.YtkcnnbglmckmnaaDoor
open Go.RowKit Go.Instr
theorem hd_le_n {w : World} {A : Option Addr} {n c : Nat} {l : List UInt8} (hs : Bt w A n c l) : hd l ≤ n := by
  have h1 := hd_le l
  have h2 := hs.len
  omega
end Go.Proofs.YtkcnnbglmckmnaaDoor
namespace Go.Proofs.YtkcnnbglmckmnaaDoor
open Go.RowKit Go.Instr
def fvs (fs : List (List UInt8 × List UInt8)) : List Value := fs.flatMap fun f => [.string (St f.1), .string (St f.2)]
theorem fvs_len (fs : List (List UInt8 × List UInt8)) : (fvs fs).length = fs.length * 2 := by
  induction fs with
  | nil => rfl
  | cons f r ih =>
    unfold fvs at ih ⊢
    rw [List.flatMap_cons, List.length_append, ih]
    simp
    omega
theorem fvs_append (a b : List (List UInt8 × List UInt8)) : fvs (a ++ b) = fvs a ++ fvs b := by simp [fvs]
theorem fvs_get {fs : List (List UInt8 × List UInt8)} {k : Nat} (h : k < fs.length) : (fvs fs)[k * 2]? = some (.string (St fs[k].1)) ∧ (fvs fs)[k * 2 + 1]? = some (.string (St fs[k].2)) := by
  have e : fvs fs = fvs (fs.take k) ++ fvs (fs.drop k) := by rw [← fvs_append, List.take_append_drop]
  have hl : (fvs (fs.take k)).length = k * 2 := by rw [fvs_len, List.length_take]; congr 1; omega
  rw [e, List.drop_eq_getElem_cons h]
  refine ⟨?_, ?_⟩
  · rw [List.getElem?_append_right (by omega), hl, Nat.sub_self]; rfl
  · rw [List.getElem?_append_right (by omega), hl, show k * 2 + 1 - k * 2 = 1 by omega]; rfl
def Fd (w : World) (A : Option Addr) (n c : Nat) (fs : List (List UInt8 × List UInt8)) : Prop := fs.length = n ∧ w.ownsRow 0 79 2 (.slice A n c) n (fvs fs)
section
variable {w w' : World} {A : Option Addr} {n c : Nat} {fs : List (List UInt8 × List UInt8)} {rs : List Nat}
theorem Fd.nil (w : World) : Fd w none 0 0 [] := ⟨rfl, rfl, .inl ⟨rfl, rfl⟩⟩
theorem Fd.len (h : Fd w A n c fs) : fs.length = n := h.1
theorem Fd.only (h : Fd w A n c fs) (o : Only rs w w') (hd : ∀ x ∈ blks A, x ∉ rs) : Fd w' A n c fs :=
  ⟨h.1, own_only h.2 o (fun k hk => hd k (by
    cases A with
    | none => cases hk
    | some a => simp [Value.ownBlock] at hk; simp [hk]))⟩
theorem Fd.keep (h : Fd w A n c fs) (o : Only [] w w') : Fd w' A n c fs := h.only o (fun _ _ hm => nomatch hm)
theorem Fd.bk (h : Fd w A n c fs) {k : Nat} (hk : k ∈ blks A) : ∃ cur, Bk w k 79 cur := by
  refine own_bk h.2 ?_
  cases A with
  | none => cases hk
  | some a => simp at hk; simp [Value.ownBlock, hk]
theorem Fd.apart (h : Fd w A n c fs) {t : TypeId} {A2 : Option Addr} {n2 c2 : Nat} {xs : List Value} (h2 : Own w t A2 n2 c2 xs) (hne : t ≠ 79) : ∀ x ∈ blks A2, x ∉ blks A := fun x hx hm => by
  obtain ⟨c1, h3⟩ := h.bk hm
  obtain ⟨c2, h4⟩ := h2.bk hx
  exact h4.ne h3 hne rfl
theorem Fd.at_ (h : Fd w A n c fs) {k : Nat} (hk : k < n) (hk' : k < fs.length) : ∃ g, A = some ⟨g, 0, none⟩ ∧ w.cell? ⟨g, k * 2, none⟩ = some (.string (St fs[k].1)) ∧ w.cell? ⟨g, k * 2 + 1, none⟩ = some (.string (St fs[k].2)) := by
  obtain ⟨h1, h2⟩ := h
  obtain ⟨bb, cap, hv, _, _⟩ := h2.form (by omega)
  have hA : A = some ⟨bb, 0, none⟩ := by injection hv
  subst hA
  obtain ⟨e1, e2⟩ := fvs_get hk'
  refine ⟨bb, rfl, ?_, ?_⟩
  · have := h2.cells (g := bb) rfl (k * 2) _ e1
    rwa [add_none, Nat.zero_add] at this
  · have := h2.cells (g := bb) rfl (k * 2 + 1) _ e2
    rwa [add_none, Nat.zero_add] at this
end
theorem infoFd : (Tryd.prog.info? 79).map (fun i => (i.zero, i.size, i.bytes)) = some (some (.agg #[.string ⟨#[]⟩, .string ⟨#[]⟩]), 2, 32) := by kernel_rfl
theorem run_append_fd {w : World} (ty : TypeId) (A : Option Addr) (n c : Nat) (fs : List (List UInt8 × List UInt8)) (h : Fd w A n c fs) (a b : List UInt8) (g2 : Nat) (t2 : TypeId) (hb : Bk w g2 t2 #[.string (St a), .string (St b)]) (hn : n ≤ 1000000) :
    ∃ A' c' w', (Builtin.append_ #[76, 76] ty #[.slice A n c, .slice (some ⟨g2, 0, none⟩) 1 1]).run Tryd.prog w = .ok (.slice A' (n + 1) c') w' ∧ Fd w' A' (n + 1) c' (fs ++ [(a, b)]) ∧ Only (blks A) w w' ∧ ∀ k ∈ blks A', k ∈ blks A ∨ w.heap.size ≤ k := by
  obtain ⟨i0, hi, hz0, hz1, hz2⟩ := info_parts infoFd
  obtain ⟨h1, h2⟩ := h
  obtain ⟨v', w', hrun, r1, r2, _, r4⟩ := run_append_own_at (P := Tryd.prog) w 0 76 ty 79 i0 (.agg #[.string ⟨#[]⟩, .string ⟨#[]⟩]) 2 32 Tryd.underlying76 hi hz0 hz1 hz2 rfl (by omega) _ n (fvs fs) h2 ⟨g2, 0, none⟩ 1 1 [.string (St a), .string (St b)] rfl (fun j u hu => by
    rw [add_none, Nat.zero_add, hb.cell]
    simpa using hu) (fun u hu => by simp at hu; rcases hu with rfl | rfl <;> rfl) (by unfold maxLen; omega) (by omega) (Nat.zero_le _)
  have hform : ∃ A' c', v' = .slice A' (n + 1) c' := by
    rcases r1.2 with ⟨_, h0⟩ | ⟨g, cap, cur, rfl, _⟩
    · omega
    · exact ⟨_, _, rfl⟩
  obtain ⟨A', c', rfl⟩ := hform
  refine ⟨A', c', w', hrun, ⟨by simp [h1], by rw [fvs_append]; exact r1⟩, ?_, fun k hk => ?_⟩
  · have := Only.of_grown r2
    cases A with
    | none => simpa [Value.ownBlock] using this
    | some a => simpa [Value.ownBlock] using this
  · cases A' with
    | none => cases hk
    | some a' =>
      simp only [blks_some, List.mem_singleton] at hk
      subst hk
      rcases r4 with r4 | r4
      · left
        cases A with
        | none => simp [Value.ownBlock] at r4
        | some a => simp [Value.ownBlock] at r4; simp [r4]
      · right
        simp [Value.ownBlock] at r4
        omega
theorem gives_append_fd {T : World → World → Prop} {φ : Value → World → Prop} {o : Oper} {a : Act} {w : World} (s x : Operand)
    (ho : o.op = .call { callee := .builtin .append, args := #[s, x], argTypes := #[76, 76] }) (A : Option Addr) (n c : Nat) (fs : List (List UInt8 × List UInt8)) (hs : a.eval s = .slice A n c) (h : Fd w A n c fs)
    (l1 l2 : List UInt8) (g2 : Nat) (t2 : TypeId) (hx : a.eval x = .slice (some ⟨g2, 0, none⟩) 1 1) (hb : Bk w g2 t2 #[.string (St l1), .string (St l2)]) (hn : n ≤ 1000000)
    (hK : ∀ A' c' w', Fd w' A' (n + 1) c' (fs ++ [(l1, l2)]) → Only (blks A) w w' → (∀ k ∈ blks A', k ∈ blks A ∨ w.heap.size ≤ k) → φ (.slice A' (n + 1) c') w' ∧ T w w') : GivesR Tryd.prog T w φ ((execOp a.eval o).run Tryd.prog w) := by
  obtain ⟨A', c', w', hrun, k1, k2, k3⟩ := run_append_fd o.type A n c fs h l1 l2 g2 t2 hb hn
  have e : (execOp a.eval o).run Tryd.prog w = .ok (.value (.slice A' (n + 1) c')) w' := by
    unfold execOp
    simp only [ho, resolve, invoke, builtin, Sem.run_bind, Sem.run_pure, Result.andThen_ok, List.map_toArray, List.map_cons, List.map_nil, hs, hx, hrun]
  rw [e]
  exact hK A' c' w' k1 k2 k3
end Go.Proofs.YtkcnnbglmckmnaaDoor
namespace Go.Proofs.YtkcnnbglmckmnaaDoor
open Go
def jumps (G : Nat → Act → World → Prop) (Q : Exit → Act → World → Prop) : Exit → Act → World → Prop
  | .goto l, a, w => G l a w
  | e, a, w => Q e a w
section
variable {P : Program} {a : Act} {w : World} {Q : Exit → Act → World → Prop}
theorem wp_scope_many {c : Code} (J : Nat → Act → World → Prop) (μ : Nat → Act → World → Nat) (rest : Nat → Code) (hf : ∀ l a w, J l a w → findLabel c l = some (rest l))
    (first : c.wp P (jumps J Q) a w)
    (pass : ∀ l a w, J l a w → (rest l).wp P (jumps (fun l' a' w' => J l' a' w' ∧ μ l' a' w' < μ l a w) Q) a w) : (Code.scope c).wp P Q a w := by
  intro b k cs
  have hg : ∀ l a w, J l a w → gotoIn l (.inScope c :: k) = some (.code (rest l) :: .inScope c :: k) := fun l a w h => by simp [gotoIn, hf l a w h]
  have key : ∀ n l a w, μ l a w = n → J l a w → ∃ e a' w', Q e a' w' ∧ Arrives P (lone (b.at a (.code (rest l) :: .inScope c :: k)) cs w) b k cs e a' w' := by
    intro n
    induction n using Nat.strongRecOn with
    | _ n ih =>
      intro l a w hn hJ
      obtain ⟨e, a₁, w₁, hq, harr⟩ := pass l a w hJ b (.inScope c :: k) cs
      cases e with
      | goto l' =>
        obtain ⟨hJ', hlt⟩ := hq
        obtain ⟨e₂, a₂, w₂, hq₂, harr₂⟩ := ih _ (by omega) l' a₁ w₁ rfl hJ'
        exact ⟨e₂, a₂, w₂, hq₂, .of_steps (harr _ (hg l' a₁ w₁ hJ')) harr₂⟩
      | normal => exact ⟨.normal, a₁, w₁, hq, Steps.trans harr (.one step_inScope)⟩
      | exit id => exact ⟨.exit id, a₁, w₁, hq, fun k' hk => harr k' (by simp [exitTo, hk])⟩
      | ret => exact ⟨_, a₁, w₁, hq, harr⟩
      | panic ch => exact ⟨_, a₁, w₁, hq, harr⟩
      | outgrown => exact ⟨_, a₁, w₁, hq, harr⟩
  obtain ⟨e, a₁, w₁, hq, harr⟩ := first b (.inScope c :: k) cs
  cases e with
  | goto l' =>
    obtain ⟨e₂, a₂, w₂, hq₂, harr₂⟩ := key _ l' a₁ w₁ rfl hq
    exact ⟨e₂, a₂, w₂, hq₂, .of_steps (.head step_scope (harr _ (hg l' a₁ w₁ hq))) harr₂⟩
  | normal => exact ⟨.normal, a₁, w₁, hq, .head step_scope (Steps.trans harr (.one step_inScope))⟩
  | exit id => exact ⟨.exit id, a₁, w₁, hq, fun k' hk => .head step_scope (harr k' (by simp [exitTo, hk]))⟩
  | ret => exact ⟨_, a₁, w₁, hq, .of_steps (.one step_scope) harr⟩
  | panic ch => exact ⟨_, a₁, w₁, hq, .of_steps (.one step_scope) harr⟩
  | outgrown => exact ⟨_, a₁, w₁, hq, .of_steps (.one step_scope) harr⟩
theorem jumps_mono {J : Nat → Act → World → Prop} {μ : Nat → Act → World → Nat} {m m' : Nat} (h : m ≤ m') : ∀ e a w, jumps (fun l a w => J l a w ∧ μ l a w < m) Q e a w → jumps (fun l a w => J l a w ∧ μ l a w < m') Q e a w := by
  intro e a w he
  cases e with
  | goto l => exact ⟨he.1, Nat.lt_of_lt_of_le he.2 h⟩
  | _ => exact he
theorem wp_scope_three {c b0 b1 b2 : Code} (J : Nat → Act → World → Prop) (μ : Nat → Act → World → Nat) (h0 : findLabel c 0 = some (.seq .skip b0)) (h1 : findLabel c 1 = some (.seq .skip b1)) (h2 : findLabel c 2 = some (.seq .skip b2))
    (hJ : ∀ l a w, J (l + 3) a w → False)
    (pass2 : ∀ a w, J 2 a w → b2.wp P (jumps (fun l' a' w' => J l' a' w' ∧ μ l' a' w' < μ 2 a w) Q) a w)
    (pass1 : (∀ a w, J 2 a w → ∀ m, μ 2 a w ≤ m → b2.wp P (jumps (fun l' a' w' => J l' a' w' ∧ μ l' a' w' < m) Q) a w) → ∀ a w, J 1 a w → b1.wp P (jumps (fun l' a' w' => J l' a' w' ∧ μ l' a' w' < μ 1 a w) Q) a w)
    (pass0 : (∀ a w, J 1 a w → ∀ m, μ 1 a w ≤ m → b1.wp P (jumps (fun l' a' w' => J l' a' w' ∧ μ l' a' w' < m) Q) a w) → ∀ a w, J 0 a w → b0.wp P (jumps (fun l' a' w' => J l' a' w' ∧ μ l' a' w' < μ 0 a w) Q) a w)
    (first : (∀ a w, J 0 a w → b0.wp P (jumps J Q) a w) → c.wp P (jumps J Q) a w) : (Code.scope c).wp P Q a w := by
  have p1 := pass1 (fun a w h m hm => wp_mono (pass2 a w h) (jumps_mono hm))
  have p0 := pass0 (fun a w h m hm => wp_mono (p1 a w h) (jumps_mono hm))
  refine wp_scope_many J μ (fun l => match l with | 0 => .seq .skip b0 | 1 => .seq .skip b1 | _ => .seq .skip b2) (fun l a w h => ?_) (first fun a w h => wp_mono (p0 a w h) fun e a' w' he => ?_) (fun l a w h => ?_)
  · match l, h with
    | 0, _ => exact h0
    | 1, _ => exact h1
    | 2, _ => exact h2
    | l + 3, h => exact (hJ l a w h).elim
  · cases e with
    | goto l' => exact he.1
    | _ => exact he
  · match l, h with
    | 0, h => exact wp_seq (wp_skip (p0 a w h))
    | 1, h => exact wp_seq (wp_skip (p1 a w h))
    | 2, h => exact wp_seq (wp_skip (pass2 a w h))
    | l + 3, h => exact (hJ l a w h).elim
end
end Go.Proofs.YtkcnnbglmckmnaaDoor
namespace Go.Proofs.YtkcnnbglmckmnaaDoor
open Go.RowKit Go.Instr
def lenS : Value → Nat | .slice _ n _ => n | _ => 0
abbrev Fs := List (List UInt8 × List UInt8)
def textsOf (r : List UInt8) : List (List UInt8) := (lns r).map tx
theorem textsOf_nil : textsOf [] = [] := rfl
theorem textsOf_step {r : List UInt8} (h : r ≠ []) : textsOf r = tx (r.take (nl r + 1)) :: textsOf (r.drop (nl r + 1)) := by
  unfold textsOf
  rw [lns_step r h]
  rfl
theorem flds_texts (l : List UInt8) : flds l = fl none (textsOf (l.take (hd l))) := by
  unfold flds textsOf
  rw [lns_head]
theorem fl_nil (st : Option (List UInt8 × List UInt8)) : fl st [] = st.toList := by cases st <;> rfl
theorem fl_blank {st : Option (List UInt8 × List UInt8)} {t : List UInt8} {r : List (List UInt8)} (h : begB t = true) : fl st (t :: r) = fl (st.map fun p => (p.1, p.2 ++ 32 :: trimB t)) r := by rw [fl, if_pos h]
theorem fl_text {st : Option (List UInt8 × List UInt8)} {t : List UInt8} {r : List (List UInt8)} (h : begB t = false) : fl st (t :: r) = st.toList ++ fl (fieldOf t) r := by rw [fl, if_neg (by rw [h]; decide)]
section
variable (w : World) (A : Option Addr) (n c : Nat) (G : Fs)
def J0 (a : Act) (W : World) : Prop :=
  ∃ (AF : Option Addr) (nF cF : Nat) (fs : Fs) (AR : Option Addr) (nR cR : Nat) (r : List UInt8), ∃ (u1 u4 u5 u6 u7 u9 u10 u11 u12 u13 u14 u15 u16 u17 u18 u19 u20 u21 u22 u23 u24 u25 u26 u27 u28 u29 u30 u31 u32 u33 u34 u35 u36 u37 u38 u39 u40 u41 u42 u43 u44 u45 u46 u47 u48 u49 u50 u51 u52 u53 u54 u55 u56 u57 u58 : Value), a = { tmps := #[.slice A n c, u1, .slice none 0 0, .slice AF nF cF, u4, u5, u6, u7, .slice AR nR cR, u9, u10, u11, u12, u13, u14, u15, u16, u17, u18, u19, u20, u21, u22, u23, u24, u25, u26, u27, u28, u29, u30, u31, u32, u33, u34, u35, u36, u37, u38, u39, u40, u41, u42, u43, u44, u45, u46, u47, u48, u49, u50, u51, u52, u53, u54, u55, u56, u57, u58], defers := [] } ∧
    Fd W AF nF cF fs ∧ (∀ x ∈ blks AF, w.heap.size ≤ x) ∧ Bt W AR nR cR r ∧ (∀ x ∈ blks AR, x < w.heap.size) ∧ Only [] w W ∧ nF + nR ≤ n ∧ Hid (fs ++ fl none (textsOf r) = G)
def J1 (a : Act) (W : World) : Prop :=
  ∃ (AF : Option Addr) (nF cF : Nat) (fs : Fs) (AR : Option Addr) (nR cR : Nat) (r : List UInt8) (AT : Option Addr) (nT cT : Nat) (t : List UInt8), ∃ (u1 u5 u6 u7 u9 u10 u11 u12 u13 u14 u15 u16 u17 u18 u19 u20 u21 u22 u23 u24 u25 u26 u27 u28 u29 u30 u31 u32 u33 u34 u35 u36 u37 u38 u39 u40 u41 u42 u43 u44 u45 u46 u47 u48 u49 u50 u51 u52 u53 u54 u55 u56 u57 u58 : Value), a = { tmps := #[.slice A n c, u1, .slice none 0 0, .slice AF nF cF, .slice AT nT cT, u5, u6, u7, .slice AR nR cR, u9, u10, u11, u12, u13, u14, u15, u16, u17, u18, u19, u20, u21, u22, u23, u24, u25, u26, u27, u28, u29, u30, u31, u32, u33, u34, u35, u36, u37, u38, u39, u40, u41, u42, u43, u44, u45, u46, u47, u48, u49, u50, u51, u52, u53, u54, u55, u56, u57, u58], defers := [] } ∧
    Fd W AF nF cF fs ∧ (∀ x ∈ blks AF, w.heap.size ≤ x) ∧ Bt W AR nR cR r ∧ (∀ x ∈ blks AR, x < w.heap.size) ∧ Only [] w W ∧ Bt W AT nT cT t ∧ (∀ x ∈ blks AT, x < w.heap.size) ∧ nT + nR ≤ n ∧ (nT = 0 ∨ nF + 1 + nR ≤ n) ∧ nF + nR ≤ n ∧ Hid (fs ++ fl (fieldOf t) (textsOf r) = G)
def J2 (a : Act) (W : World) : Prop :=
  ∃ (AF : Option Addr) (nF cF : Nat) (fs : Fs) (AR : Option Addr) (nR cR : Nat) (r : List UInt8) (AN : Option Addr) (nN cN : Nat) (na : List UInt8) (AV : Option Addr) (nV cV : Nat) (v : List UInt8), ∃ (u1 u4 u7 u9 u10 u11 u12 u13 u14 u15 u16 u17 u18 u19 u20 u21 u22 u23 u24 u25 u26 u27 u28 u29 u30 u31 u32 u33 u34 u35 u36 u37 u38 u39 u40 u41 u42 u43 u44 u45 u46 u47 u48 u49 u50 u51 u52 u53 u54 u55 u56 u57 u58 : Value), a = { tmps := #[.slice A n c, u1, .slice none 0 0, .slice AF nF cF, u4, .slice AN nN cN, .slice AV nV cV, u7, .slice AR nR cR, u9, u10, u11, u12, u13, u14, u15, u16, u17, u18, u19, u20, u21, u22, u23, u24, u25, u26, u27, u28, u29, u30, u31, u32, u33, u34, u35, u36, u37, u38, u39, u40, u41, u42, u43, u44, u45, u46, u47, u48, u49, u50, u51, u52, u53, u54, u55, u56, u57, u58], defers := [] } ∧
    Fd W AF nF cF fs ∧ (∀ x ∈ blks AF, w.heap.size ≤ x) ∧ Bt W AR nR cR r ∧ (∀ x ∈ blks AR, x < w.heap.size) ∧ Only [] w W ∧ Bt W AN nN cN na ∧ (∀ x ∈ blks AN, x < w.heap.size) ∧ Own W 5 AV nV cV (bvs v) ∧ (∀ x ∈ blks AV, w.heap.size ≤ x) ∧ nV + 2 * nR ≤ 2 * n ∧ nF + 1 + nR ≤ n ∧
    Hid (fs ++ fl (some (trimB na, v)) (textsOf r) = G)
def JJ : Nat → Act → World → Prop
  | 0 => J0 w A n c G
  | 1 => J1 w A n c G
  | 2 => J2 w A n c G
  | _ => fun _ _ => False
end
def mu (l : Nat) (a : Act) (_ : World) : Nat := 4 * lenS (a.tmps.getD 8 undef) + (match l with | 0 => 0 | 1 => (if lenS (a.tmps.getD 4 undef) = 0 then 1 else 3) | _ => 2)
section
variable {w : World} {A : Option Addr} {n c : Nat} {l : List UInt8}
set_option maxRecDepth 100000 in
set_option maxHeartbeats 4000000 in
theorem Fields_any (hs : Bt w A n c l) (hbig : n ≤ 4096) (hA : ∀ x ∈ blks A, x < w.heap.size) : Calls Tryd.prog 41 #[.slice A n c] w fun e w' => ∃ A' c', e = .returned (.slice A' (flds l).length c') ∧ Fd w' A' (flds l).length c' (flds l) ∧ Only [] w w' := by
  have hle := hd_le_n hs
  have hcap := hs.cap
  have c1 := headLen_any hs (by omega) hA
  obtain ⟨H, hH⟩ : ∃ H, hd l = H := ⟨_, rfl⟩
  have hG0 : flds l = fl none (textsOf (l.take H)) := by rw [← hH]; exact flds_texts l
  rw [hH] at c1 hle
  have hp := hs.pre hle
  obtain ⟨p, hp0⟩ : ∃ p, l.take H = p := ⟨_, rfl⟩
  rw [hp0] at hp hG0
  obtain ⟨G, hG⟩ : ∃ G, flds l = G := ⟨_, rfl⟩
  rw [hG] at hG0 ⊢
  have hle1 : (H : Int) ≤ (c : Int) := by omega
  have HG := Lib.hid hG0
  have HP := Lib.hid hp
  clear hH hp0 hG0 hG hs hp
  go_enter Tryd.func41, Tryd.ntmps41
  go_wp2_with fail
  refine wp_scope_three (JJ w A n c G) mu rfl rfl rfl (fun l a w h => h) ?pass2 ?pass1 ?pass0 ?first
  case first =>
    intro p0
    go_wp2_with (go_at_call 60; (with_reducible refine c1.mono ?_); rintro e w1 ⟨rfl, hO1⟩)
    rename_i hK
    refine wp_label (hK _ _ (p0 _ _ ?_))
    exact ⟨none, 0, 0, [], A, H, c, p, _, _, _, _, _, _, _, _, _, _, _, _, _, _, _, _, _, _, _, _, _, _, _, _, _, _, _, _, _, _, _, _, _, _, _, _, _, _, _, _, _, _, _, _, _, _, _, _, _, _, _, _, _, _, _, rfl, Fd.nil _, (fun _ hx => nomatch hx), HP.out.keep hO1, hA, hO1, by omega, HG.out.symm⟩
  case pass0 =>
    clear c1 hcap hle hle1 HG HP
    intro p1
    rintro a' W ⟨AF, nF, cF, fs, AR, nR, cR, r, u1, u4, u5, u6, u7, u9, u10, u11, u12, u13, u14, u15, u16, u17, u18, u19, u20, u21, u22, u23, u24, u25, u26, u27, u28, u29, u30, u31, u32, u33, u34, u35, u36, u37, u38, u39, u40, u41, u42, u43, u44, u45, u46, u47, u48, u49, u50, u51, u52, u53, u54, u55, u56, u57, u58, rfl, hF, hbF, hR, hbR, hO, hn, HE⟩
    have hrl := hR.len
    rcases Nat.eq_zero_or_pos nR with h0 | h0
    · have hre : r = [] := List.eq_nil_of_length_eq_zero (by omega)
      have HG : Hid (fs = G) := by
        show _ = _
        rw [← HE.out, hre, textsOf_nil, fl_nil]
        simp
      subst h0
      have hl0 := hF.len
      clear hre hrl HE
      go_wp2_with fail
      simp only [jumps]
      go_ret
      refine ⟨AF, cF, by rw [← HG.out, hl0]; rfl, by rw [← HG.out, hl0]; exact hF, hO⟩
    · have h0' : (nR : Int) ≠ 0 := by omega
      have h0b : ((nR : Int) == 0) = false := by rw [beq_eq_false_iff_ne]; exact h0'
      have hne : r ≠ [] := fun h => by rw [h] at hrl; simp at hrl; omega
      have hst := textsOf_step hne
      have cN := next_any hR (by omega)
      obtain ⟨T, hT⟩ : ∃ T, tx (r.take (nl r + 1)) = T := ⟨_, rfl⟩
      have hTl : T.length + 1 ≤ (r.take (nl r + 1)).length + 1 := by rw [← hT]; have := tx_len (r.take (nl r + 1)); omega
      have hdl : (r.drop (nl r + 1)).length + (r.take (nl r + 1)).length = nR := by rw [List.length_drop, List.length_take]; omega
      have htk : 1 ≤ (r.take (nl r + 1)).length := by rw [List.length_take]; omega
      obtain ⟨r2, hr2⟩ : ∃ r2, r.drop (nl r + 1) = r2 := ⟨_, rfl⟩
      obtain ⟨t, ht⟩ : ∃ t, T.length = t := ⟨_, rfl⟩
      rw [hT, hr2] at cN hst
      rw [hr2] at hdl
      rw [ht] at cN hTl
      have HST := Lib.hid hst
      have HHT := Lib.hid ht
      have hbound : t + r2.length ≤ nR ∧ r2.length + 1 ≤ nR := by omega
      have HBD := Lib.hid hbound
      clear hst hT hTl hdl htk hr2 ht hne hbound h0'
      cases hB : begB T with
      | true =>
        have HE2 : Hid (fs ++ fl none (textsOf r2) = G) := by
          show _ = _
          rw [← HE.out, HST.out, fl_blank hB]
          rfl
        go_wp2_with first
          | (go_at_call 61; (with_reducible refine cN.mono ?_); rintro e w1 ⟨A2, n2, c2, rfl, hO1, hB1, hB2, hbl⟩)
          | (go_at_call 62; (with_reducible refine (beginsBlank_any hB1).mono ?_); rintro e w2 ⟨rfl, rfl⟩; rw [hB])
        go_step3
        have hn2 := hB2.len
        have hbd := HBD.out
        refine And.intro (show JJ w A n c G 0 _ _ from ⟨AF, nF, cF, fs, A2, n2, c2, r2, _, _, _, _, _, _, _, _, _, _, _, _, _, _, _, _, _, _, _, _, _, _, _, _, _, _, _, _, _, _, _, _, _, _, _, _, _, _, _, _, _, _, _, _, _, _, _, _, _, _, _, _, _, _, _, rfl, hF.keep hO1, hbF, hB2, fun x hx => hbR x (hbl x hx), hO.then hO1, by omega, HE2⟩) ?_
        show 4 * n2 + 0 < 4 * nR + 0
        omega
      | false =>
        have HE2 : Hid (fs ++ fl (fieldOf T) (textsOf r2) = G) := by
          show _ = _
          rw [← HE.out, HST.out, fl_text hB]
          rfl
        go_wp2_with first
          | (go_at_call 61; (with_reducible refine cN.mono ?_); rintro e w1 ⟨A2, n2, c2, rfl, hO1, hB1, hB2, hbl⟩)
          | (go_at_call 62; (with_reducible refine (beginsBlank_any hB1).mono ?_); rintro e w2 ⟨rfl, rfl⟩; rw [hB])
        rename_i hK
        have hn2 := hB2.len
        have hbd := HBD.out
        refine wp_label (hK _ _ (p1 _ _ (show J1 w A n c G _ _ from ⟨AF, nF, cF, fs, A2, n2, c2, r2, AR, t, cR, T, _, _, _, _, _, _, _, _, _, _, _, _, _, _, _, _, _, _, _, _, _, _, _, _, _, _, _, _, _, _, _, _, _, _, _, _, _, _, _, _, _, _, _, _, _, _, _, _, _, _, _, _, _, _, rfl, hF.keep hO1, hbF, hB2, fun x hx => hbR x (hbl x hx), hO.then hO1, hB1, hbR, by omega, .inr (by omega), by omega, HE2⟩) _ ?_))
        show 4 * n2 + (if t = 0 then 1 else 3) ≤ 4 * nR + 0
        split <;> omega
  case pass1 =>
    clear c1 hcap hle hle1 HG HP
    intro p2
    rintro a' W ⟨AF, nF, cF, fs, AR, nR, cR, r, AT, nT, cT, t, u1, u5, u6, u7, u9, u10, u11, u12, u13, u14, u15, u16, u17, u18, u19, u20, u21, u22, u23, u24, u25, u26, u27, u28, u29, u30, u31, u32, u33, u34, u35, u36, u37, u38, u39, u40, u41, u42, u43, u44, u45, u46, u47, u48, u49, u50, u51, u52, u53, u54, u55, u56, u57, u58, rfl, hF, hbF, hR, hbR, hO, hT, hbT, hn1, hn2, hn3, HE⟩
    have htl := hT.len
    obtain ⟨f, hf⟩ : ∃ f, fi 58 t = f := ⟨_, rfl⟩
    obtain ⟨bo, hbo⟩ : ∃ bo, decide (fi 58 t < t.length) = bo := ⟨_, rfl⟩
    have hfo : fieldOf t = if bo = true then some (trimB (t.take f), trimB (t.drop (f + 1))) else none := by
      unfold fieldOf
      rw [show cln t = f from hf, ← hbo, ← hf]
      simp
    have k0 := mark0 W (.int .u8 58)
    have cC : ∀ b2 o2 d W1, Only [] W W1 → W1.cell? ⟨b2, o2, none⟩ = some (.int .u8 58) → Calls Tryd.prog 63 #[.slice AT nT cT, .slice (some ⟨b2, o2, none⟩) 1 d] W1 fun e w' => ∃ A2 n2 c2, e = .returned (.tuple #[.slice AT f cT, .slice A2 n2 c2, .bool bo]) ∧ Only [] W1 w' ∧
        Bt w' AT f cT (t.take f) ∧ Bt w' A2 n2 c2 (t.drop (f + 1)) ∧ ∀ k ∈ blks A2, k ∈ blks AT := fun b2 o2 d W1 o h => by
      have := cut_any (hT.keep o) (by omega) b2 o2 d 58 h
      rwa [hbo, hf] at this
    have hO0 : Only [] W (W.alloc (.cells #[.int .u8 58] 5 (1, 2))) := (Only.refl _ _).alloc _
    cases bo with
    | false =>
      have HE2 : Hid (fs ++ fl none (textsOf r) = G) := by
        show _ = _
        rw [← HE.out, hfo]
        rfl
      clear hbo hf hfo
      go_wp2_with (go_at_call 63; (with_reducible refine (cC _ _ _ _ hO0 (lit0 _ _ _ _)).mono ?_); rintro e w1 ⟨A2, n2, c2, rfl, hO1, hB1, hB2, hbl⟩)
      go_step3
      have hOW := hO0.then hO1
      refine And.intro (show JJ w A n c G 0 _ _ from ⟨AF, nF, cF, fs, AR, nR, cR, r, _, _, _, _, _, _, _, _, _, _, _, _, _, _, _, _, _, _, _, _, _, _, _, _, _, _, _, _, _, _, _, _, _, _, _, _, _, _, _, _, _, _, _, _, _, _, _, _, _, _, _, _, _, _, _, rfl, hF.keep hOW, hbF, hR.keep hOW, hbR, hO.then hOW, by omega, HE2⟩) ?_
      show 4 * nR + 0 < 4 * nR + (if nT = 0 then 1 else 3)
      split <;> omega
    | true =>
      have hlt : f < nT := by
        have := of_decide_eq_true hbo
        omega
      obtain ⟨vd, hvd⟩ : ∃ vd, t.drop (f + 1) = vd := ⟨_, rfl⟩
      obtain ⟨v, hv⟩ : ∃ v, trimB vd = v := ⟨_, rfl⟩
      have hvl : v.length ≤ nT := by
        rw [← hv, ← hvd]
        have h1 := trimB_len (t.drop (f + 1))
        rw [List.length_drop] at h1
        omega
      rw [hvd] at cC hfo
      rw [hv, if_pos rfl] at hfo
      have HE2 : Hid (fs ++ fl (some (trimB (t.take f), v)) (textsOf r) = G) := by
        show _ = _
        rw [← HE.out, hfo]
      obtain ⟨q, hq⟩ : ∃ q, v.length = q := ⟨_, rfl⟩
      have cT9 : ∀ W1 A2 n2 c2, Bt W1 A2 n2 c2 vd → Calls Tryd.prog 65 #[.slice A2 n2 c2, .string ⟨#[32, 9]⟩] W1 fun e w' => ∃ A3 c3, e = .returned (.slice A3 q c3) ∧ Only [] W1 w' ∧ Bt w' A3 q c3 v := fun W1 A2 n2 c2 h => by
        have := trim_any h
        rw [hv, hq] at this
        exact this.mono fun e w' ⟨A3, c3, h1, h2, h3, _⟩ => ⟨A3, c3, h1, h2, h3⟩
      rw [hq] at hvl
      clear hbo hf hfo hv hvd hq
      go_wp2_with first
        | (go_at_call 63; (with_reducible refine (cC _ _ _ _ hO0 (lit0 _ _ _ _)).mono ?_); rintro e w1 ⟨A2, n2, c2, rfl, hO1, hB1, hB2, hbl⟩)
        | (go_at_call 65; (with_reducible refine (cT9 _ _ _ _ hB2).mono ?_); rintro e w2 ⟨A3, c3, rfl, hO2, hB3⟩)
        | (go_at_call 64; (with_reducible refine (clone_any _ hB3.sl (by omega)).mono ?_); rintro e w3 ⟨A4, c4, rfl, hV4, hO3, hb4⟩)
      rename_i hK
      have hOW := ((hO0.then hO1).then hO2).then hO3
      refine wp_label (hK _ _ (p2 _ _ (show J2 w A n c G _ _ from ⟨AF, nF, cF, fs, AR, nR, cR, r, AT, f, cT, _, A4, q, c4, v, _, _, _, _, _, _, _, _, _, _, _, _, _, _, _, _, _, _, _, _, _, _, _, _, _, _, _, _, _, _, _, _, _, _, _, _, _, _, _, _, _, _, _, _, _, _, _, _, _, _, _, _, _, rfl, hF.keep hOW, hbF, hR.keep hOW, hbR, hO.then hOW, hB1.keep (hO2.then hO3), hbT, hV4, fun x hx => ?_, by omega, by omega, HE2⟩) _ ?_))
      · have h1 := hb4 x hx
        have h2 := hO.size
        have h3 := ((hO0.then hO1).then hO2).size
        omega
      · show 4 * nR + 2 ≤ 4 * nR + (if nT = 0 then 1 else 3)
        rw [if_neg (by omega)]
        omega
  case pass2 =>
    clear c1 hcap hle hle1 HG HP
    rintro a' W ⟨AF, nF, cF, fs, AR, nR, cR, r, AN, nN, cN, na, AV, nV, cV, v, u1, u4, u7, u9, u10, u11, u12, u13, u14, u15, u16, u17, u18, u19, u20, u21, u22, u23, u24, u25, u26, u27, u28, u29, u30, u31, u32, u33, u34, u35, u36, u37, u38, u39, u40, u41, u42, u43, u44, u45, u46, u47, u48, u49, u50, u51, u52, u53, u54, u55, u56, u57, u58, rfl, hF, hbF, hR, hbR, hO, hN, hbN, hV, hbV, hn1, hn2, HE⟩
    have hrl := hR.len
    have hvl := hV.len
    rw [bvs_length] at hvl
    have cNx := next_any hR (by omega)
    obtain ⟨T, hT⟩ : ∃ T, tx (r.take (nl r + 1)) = T := ⟨_, rfl⟩
    obtain ⟨nm, hnm⟩ : ∃ nm, trimB na = nm := ⟨_, rfl⟩
    rw [hnm] at HE
    have hTl : T.length ≤ (r.take (nl r + 1)).length := by rw [← hT]; exact tx_len _
    have hdl : (r.drop (nl r + 1)).length + (r.take (nl r + 1)).length = nR := by rw [List.length_drop, List.length_take]; omega
    have htk : nR = 0 ∨ 1 ≤ (r.take (nl r + 1)).length := by rw [List.length_take]; omega
    have hstep : (begB T = true → fl (some (nm, v)) (textsOf r) = fl (some (nm, v ++ 32 :: trimB T)) (textsOf (r.drop (nl r + 1)))) ∧ (begB T = false → fl (some (nm, v)) (textsOf r) = (nm, v) :: fl (fieldOf T) (textsOf (r.drop (nl r + 1)))) := by
      by_cases hre : r = []
      · subst hre
        obtain rfl : T = [] := hT.symm
        exact ⟨fun h => Bool.noConfusion (show false = true from h), fun _ => rfl⟩
      · have hst := textsOf_step hre
        rw [hT] at hst
        rw [hst]
        exact ⟨fun h => fl_blank h, fun h => fl_text h⟩
    obtain ⟨r2, hr2⟩ : ∃ r2, r.drop (nl r + 1) = r2 := ⟨_, rfl⟩
    obtain ⟨t, ht⟩ : ∃ t, T.length = t := ⟨_, rfl⟩
    rw [hT, hr2, ht] at cNx
    rw [hr2] at hdl hstep
    rw [ht] at hTl
    have hbound : t + r2.length ≤ nR ∧ (nR = 0 ∨ r2.length + 1 ≤ nR) ∧ r2.length ≤ nR := by omega
    have HBD := Lib.hid hbound
    have HHT := Lib.hid ht
    clear hT hTl hdl htk hr2 ht hbound hrl
    cases hB : begB T with
    | true =>
      have HE2 : Hid (fs ++ fl (some (nm, v ++ 32 :: trimB T)) (textsOf r2) = G) := by
        show _ = _
        rw [← HE.out, hstep.1 hB]
      have hnR : 1 ≤ t := by
        cases T with
        | nil => cases hB
        | cons x y => rw [← HHT.out]; simp
      obtain ⟨tt, htt⟩ : ∃ tt, trimB T = tt := ⟨_, rfl⟩
      have htl := trimB_len T
      rw [htt] at HE2 htl
      rw [HHT.out] at htl
      obtain ⟨q, hq⟩ : ∃ q, tt.length = q := ⟨_, rfl⟩
      rw [hq] at htl
      have cT9 : ∀ W1, Bt W1 AR t cR T → Calls Tryd.prog 65 #[.slice AR t cR, .string ⟨#[32, 9]⟩] W1 fun e w' => ∃ A3 c3, e = .returned (.slice A3 q c3) ∧ Only [] W1 w' ∧ Bt w' A3 q c3 tt ∧ ∀ x ∈ blks A3, x ∈ blks AR := fun W1 h => by
        have := trim_any h
        rw [htt, hq] at this
        exact this
      obtain ⟨i0, hi, hz0, hz1, hz2⟩ := info_parts infoByte
      obtain ⟨u, hu⟩ : ∃ u, nV + 1 = u := ⟨_, rfl⟩
      obtain ⟨u2, hu2⟩ : ∃ u2, u + q = u2 := ⟨_, rfl⟩
      have hL1 : bvs v ++ bvs [32] = bvs (v ++ [32]) := by rw [bvs_append]
      have hL2 : bvs (v ++ [32]) ++ bvs tt = bvs (v ++ 32 :: tt) := by rw [← bvs_append, List.append_assoc]; rfl
      have hbd := HBD.out
      have hn4 : nV ≤ 8192 ∧ q ≤ 4096 := by omega
      obtain ⟨hn5, hn6⟩ := hn4
      have HU := Lib.hid hu
      have HU2 := Lib.hid hu2
      have huu : u ≤ 8193 := by omega
      have hbN2 : ∀ x ∈ blks AN, x ∉ blks AV := fun x hx hm => by have := hbN x hx; have := hbV x hm; omega
      have hbR2 : ∀ x ∈ blks AR, x ∉ blks AV := fun x hx hm => by have := hbR x hx; have := hbV x hm; omega
      have hsz := hO.size
      clear hstep htt hq hu hu2 hbd
      go_wp2_with first
        | (go_at_call 61; (with_reducible refine cNx.mono ?_); rintro e w1 ⟨A2, n2, c2, rfl, hO1, hB1, hB2, hbl⟩)
        | (go_at_call 62; (with_reducible refine (beginsBlank_any hB1).mono ?_); rintro e w2 ⟨rfl, rfl⟩; rw [hB])
        | (at_builtin; refine wpList_append_as rfl (.tmp 46) (.tmp 48) 35 rfl 5 i0 (.int .u8 0) 1 Tryd.underlying35 hi hz0 hz1 hz2 rfl A4 u c4 _ rfl (hV4.keep hO5) A3 q c3 _ rfl hB3.sl (bvs_one _) (by unfold maxLen; omega) (by omega) u2 HU2.out _ hL2 ?_; intro A6 c6 w6 hV6 hO6 hb6)
        | (at_builtin; refine wpList_append_lit rfl (.tmp 44) (.const (.string ⟨#[32]⟩)) 35 9 rfl 5 i0 Tryd.underlying35 Tryd.underlying9 hi hz0 hz1 hz2 AV nV cV _ rfl (hV.keep hO1) ⟨#[32]⟩ rfl (by show nV + 1 ≤ _; omega) u HU.out _ hL1 ?_; intro A4 c4 w4 hV4 hO4 hb4)
        | (go_at_call 65; (with_reducible refine (cT9 _ (hB1.only hO4 hbR2)).mono ?_); rintro e w5 ⟨A3, c3, rfl, hO5, hB3, hbl3⟩)
      go_step3
      have hs1 := hO1.size
      have hs4 := hO4.size
      have hs5 := hO5.size
      have hbA4 : ∀ x ∈ blks A4, w.heap.size ≤ x := hb4 w.heap.size (by omega) hbV
      have hbA6 : ∀ x ∈ blks A6, w.heap.size ≤ x := fun x hx => by
        rcases hb6 x hx with h | h
        · exact hbA4 x h
        · omega
      have hF1 := hF.keep hO1
      have hF5 := (hF1.only hO4 (fun x hx hm => hF1.apart (hV.keep hO1) (by decide) x hm hx)).keep hO5
      have hF6 := hF5.only hO6 (fun x hx hm => hF5.apart (hV4.keep hO5) (by decide) x hm hx)
      have far : ∀ {B : Option Addr} {m k : Nat} {l2 : List UInt8}, Bt w1 B m k l2 → (∀ x ∈ blks B, x < w.heap.size) → Bt w6 B m k l2 := fun h hb => (((h.only hO4 (fun x hx hm => by have := hb x hx; have := hbV x hm; omega)).keep hO5)).only hO6 (fun x hx hm => by have := hb x hx; have := hbA4 x hm; omega)
      have hn9 := hB2.len
      have hbd := HBD.out
      have hu1 := HU.out
      have hu2 := HU2.out
      refine And.intro (show JJ w A n c G 2 _ _ from ⟨AF, nF, cF, fs, A2, n2, c2, r2, AN, nN, cN, na, A6, u2, c6, v ++ 32 :: tt, _, _, _, _, _, _, _, _, _, _, _, _, _, _, _, _, _, _, _, _, _, _, _, _, _, _, _, _, _, _, _, _, _, _, _, _, _, _, _, _, _, _, _, _, _, _, _, _, _, _, _, _, _, rfl, hF6, hbF, far hB2 (fun x hx => hbR x (hbl x hx)), fun x hx => hbR x (hbl x hx), (((hO.then hO1).trans hO4 (fun x hx => .inr (hbV x hx))).then hO5).trans hO6 (fun x hx => .inr (hbA4 x hx)), far (hN.keep hO1) hbN, hbN, hV6, hbA6, by omega, by omega, by rw [hnm]; exact HE2⟩) ?_
      show 4 * n2 + 2 < 4 * nR + 2
      omega
    | false =>
      have HE2 : Hid ((fs ++ [(nm, v)]) ++ fl (fieldOf T) (textsOf r2) = G) := by
        show _ = _
        rw [← HE.out, hstep.2 hB]
        simp
      obtain ⟨q, hq⟩ : ∃ q, nm.length = q := ⟨_, rfl⟩
      have HTN : Hid (∀ W1, Only [] W W1 → Calls Tryd.prog 65 #[.slice AN nN cN, .string ⟨#[32, 9]⟩] W1 fun e w' => ∃ A2 c2, e = .returned (.slice A2 q c2) ∧ Only [] W1 w' ∧ Bt w' A2 q c2 nm ∧ ∀ x ∈ blks A2, x ∈ blks AN) := fun W1 o => by
        have := trim_any (hN.keep o)
        rwa [hnm, hq] at this
      have HVV := Lib.hid hV
      have HFF := Lib.hid hF
      have HBF := Lib.hid hbF
      have HBN : Hid (nF ≤ 4096) := by show _ ≤ _; omega
      have HSZ : Hid (w.heap.size ≤ W.heap.size) := hO.size
      clear hstep hnm hq hV hF hbF hvl
      go_wp2_with first
        | (go_at_call 61; (with_reducible refine cNx.mono ?_); rintro e w1 ⟨A2, n2, c2, rfl, hO1, hB1, hB2, hbl⟩)
        | (go_at_call 62; (with_reducible refine (beginsBlank_any hB1).mono ?_); rintro e w2 ⟨rfl, rfl⟩; rw [hB])
      apply region_writes (rs := blks AF) (Ws := [8]) (by kernel_rfl) (by kernel_rfl)
      apply rel_val (hrf := Tk_refl)
      case hw => rfl
      case hy => intro wS hN hF; skip; first | (go_simp; done) | (go_simp; with_reducible rfl)
      case' hk => skip
      try simp only [Act.put, List.setIfInBounds_toArray, List.set_cons_zero, List.set_cons_succ]
      apply rel_val (hrf := Tk_refl)
      case hw => rfl
      case hy => intro wS hN hF; skip; first | (go_simp; done) | (go_simp; with_reducible rfl)
      case' hk => skip
      try simp only [Act.put, List.setIfInBounds_toArray, List.set_cons_zero, List.set_cons_succ]
      apply rel_fact_call (φ := fun v W' => ∃ A2 c2, v = .slice A2 q c2 ∧ Bt W' A2 q c2 nm) (x := 8) (hs := lasts0 (by kernel_rfl) (fun v W1 W2 h ho => by obtain ⟨A2, c2, h1, h2⟩ := h; exact ⟨A2, c2, h1, h2.keep ho⟩))
      case hw => rfl
      case hc =>
        intro wS hN hF
        have hO := hN.pre (by kernel_rfl)
        refine ⟨65, #[.slice AN nN cN, .string ⟨#[32, 9]⟩], by go_simp, (HTN.out wS (hO1.then ((Only.refl [] _).drew.then hO))).mono ?_⟩
        rintro e w3 ⟨A2, c2, rfl, hO3, hB3, _⟩
        exact ⟨_, rfl, ⟨A2, c2, rfl, hB3⟩, Tk_only hO3⟩
      case' hk => intro v2
      try simp only [Act.put, List.setIfInBounds_toArray, List.set_cons_zero, List.set_cons_succ]
      apply rel_val (v := .string (St nm)) (hrf := Tk_refl)
      case hw => rfl
      case hy =>
        intro wS hN hF
        obtain ⟨A2, c2, rfl, hB2⟩ := hF.at_ 0 rfl (by kernel_rfl) (by kernel_rfl)
        have hcv := run_str_sl (P := Tryd.prog) 35 9 5 A2 q c2 nm Tryd.underlying35 Tryd.underlying5 Tryd.underlying9 hB2.sl
        go_simp
      case' hk => skip
      try simp only [Act.put, List.setIfInBounds_toArray, List.set_cons_zero, List.set_cons_succ]
      apply rel_val (hrf := Tk_refl)
      case hw => rfl
      case hy => intro wS hN hF; skip; first | (go_simp; done) | (go_simp; with_reducible rfl)
      case' hk => skip
      try simp only [Act.put, List.setIfInBounds_toArray, List.set_cons_zero, List.set_cons_succ]
      apply rel_val (v := .string (St v)) (hrf := Tk_refl)
      case hw => rfl
      case hy =>
        intro wS hN hF
        have hO := hN.pre (by kernel_rfl)
        have hcv := run_str_sl (P := Tryd.prog) 35 9 5 AV nV cV v Tryd.underlying35 Tryd.underlying5 Tryd.underlying9 ((HVV.out.keep (hO1.then ((Only.refl [] _).drew.then hO))).sl)
        go_simp
      case' hk => skip
      try simp only [Act.put, List.setIfInBounds_toArray, List.set_cons_zero, List.set_cons_succ]
      apply rel_val (hrf := Tk_refl)
      case hw => rfl
      case hy => intro wS hN hF; skip; first | (go_simp; done) | (go_simp; with_reducible rfl)
      case' hk => skip
      try simp only [Act.put, List.setIfInBounds_toArray, List.set_cons_zero, List.set_cons_succ]
      apply rel_fact (φ := fun x W' => ∃ g, x = .slice (some ⟨g, 0, none⟩) 1 1 ∧ Bk W' g 79 #[.string (St nm), .string (St v)]) (x := 8) (hs := lasts0 (by kernel_rfl) (fun x W1 W2 h ho => by obtain ⟨g, h1, h2⟩ := h; exact ⟨g, h1, h2.only ho (fun hm => nomatch hm)⟩))
      case hw => rfl
      case hy =>
        intro wS hN hF
        refine gives_value (u := .slice (some ⟨wS.heap.size, 0, none⟩) 1 1) (w' := wS.alloc (.cells #[.string (St nm), .string (St v)] 79)) ?_ ⟨wS.heap.size, rfl, Bk.new _ _ _⟩ (Tk_only ((Only.refl [] _).alloc _))
        go_simp
      case' hk => intro v7
      try simp only [Act.put, List.setIfInBounds_toArray, List.set_cons_zero, List.set_cons_succ]
      apply rel_fact (φ := fun x W' => ∃ A5 c5, x = .slice A5 (nF + 1) c5 ∧ Fd W' A5 (nF + 1) c5 (fs ++ [(nm, v)]) ∧ ∀ y ∈ blks A5, w.heap.size ≤ y) (x := 9999) (hs := lasts0 (by kernel_rfl) (fun x W1 W2 h ho => by obtain ⟨A5, c5, h1, h2, h3⟩ := h; exact ⟨A5, c5, h1, h2.keep ho, h3⟩))
      case hw => rfl
      case hy =>
        intro wS hN hF
        have hO := hN.pre (by kernel_rfl)
        have hOW : Only [] w1 wS := (Only.refl [] _).drew.then hO
        obtain ⟨g, rfl, hG⟩ := hF.at_ 0 rfl (by kernel_rfl) (by kernel_rfl)
        exact gives_append_fd (.tmp 50) (.tmp 57) rfl AF nF cF fs rfl ((HFF.out.keep hO1).keep hOW) nm v g 79 rfl hG (by have := HBN.out; omega) fun A5 c5 w5 hF5 hO5 hB5 => ⟨⟨A5, c5, rfl, hF5, fun y hy => by
            rcases hB5 y hy with h | h
            · exact HBF.out y h
            · have := hOW.size; have := hO1.size; have := HSZ.out; omega⟩, Tk_writes rfl hO5 (fun x hx => .inl hx)⟩
      case' hk => intro v8
      try simp only [Act.put, List.setIfInBounds_toArray, List.set_cons_zero, List.set_cons_succ]
      apply rel_fact (φ := fun x W' => ∃ A5 c5, x = .slice A5 (nF + 1) c5 ∧ Fd W' A5 (nF + 1) c5 (fs ++ [(nm, v)]) ∧ ∀ y ∈ blks A5, w.heap.size ≤ y) (x := 9999) (hs := lasts0 (by kernel_rfl) (fun x W1 W2 h ho => by obtain ⟨A5, c5, h1, h2, h3⟩ := h; exact ⟨A5, c5, h1, h2.keep ho, h3⟩))
      case hw => rfl
      case hy =>
        intro wS hN hF
        have h := hF.at_ 0 rfl (by kernel_rfl) (by kernel_rfl)
        refine gives_value (u := v8) (w' := wS) ?_ h (Tk_refl _)
        go_simp
      case' hk => intro v9
      try simp only [Act.put, List.setIfInBounds_toArray, List.set_cons_zero, List.set_cons_succ]
      refine rel_end ?_
      intro wS hOS hFc
      obtain ⟨A5, c5, rfl, hF5, hbF5⟩ := facts_at hFc 0 rfl
      clear hFc
      go_wp2_with fail
      go_step3
      have hOS' : Only (blks AF) w1 wS := (Only.refl _ _).drew.trans hOS.only (fun x hx => .inl hx)
      have hbF := HBF.out
      have far : ∀ {B : Option Addr} {m k : Nat} {l2 : List UInt8}, Bt w1 B m k l2 → (∀ x ∈ blks B, x < w.heap.size) → Bt wS B m k l2 := fun h hb => h.only hOS' (fun x hx hm => by have := hb x hx; have := hbF x hm; omega)
      have hn9 := hB2.len
      have hbd := HBD.out
      refine And.intro (show JJ w A n c G 1 _ _ from ⟨A5, nF + 1, c5, fs ++ [(nm, v)], A2, n2, c2, r2, AR, t, cR, T, _, _, _, _, _, _, _, _, _, _, _, _, _, _, _, _, _, _, _, _, _, _, _, _, _, _, _, _, _, _, _, _, _, _, _, _, _, _, _, _, _, _, _, _, _, _, _, _, _, _, _, _, _, _, rfl, hF5, hbF5, far hB2 (fun x hx => hbR x (hbl x hx)), fun x hx => hbR x (hbl x hx), (hO.then hO1).trans hOS' (fun x hx => .inr (hbF x hx)), far hB1 hbR, hbR, by omega, by omega, by omega, HE2⟩) ?_
      show 4 * n2 + (if t = 0 then 1 else 3) < 4 * nR + 2
      split <;> omega
end
end Go.Proofs.YtkcnnbglmckmnaaDoor
namespace Go.Proofs.YtkcnnbglmckmnaaDoor
open Go.RowKit Go.Instr
theorem lows_take {a b : List UInt8} {k : Nat} (h : k < a.length) (h' : k < b.length) (e : lows (a.take k) = lows (b.take k)) (e2 : low a[k] = low b[k]) : lows (a.take (k + 1)) = lows (b.take (k + 1)) := by
  rw [List.take_succ_eq_append_getElem h, List.take_succ_eq_append_getElem h']
  unfold lows at e ⊢
  rw [List.map_append, List.map_append, e]
  simp [e2]
theorem lows_ne {a b : List UInt8} {k : Nat} (h : k < a.length) (h' : k < b.length) (e2 : low a[k] ≠ low b[k]) : lows a ≠ lows b := by
  intro e
  have h1 : (lows a)[k]? = (lows b)[k]? := by rw [e]
  unfold lows at h1
  rw [List.getElem?_map, List.getElem?_map, List.getElem?_eq_getElem h, List.getElem?_eq_getElem h'] at h1
  exact e2 (Option.some.inj h1)
set_option maxRecDepth 100000 in
set_option maxHeartbeats 1000000 in
theorem Same_big (a b : ByteArray) (ha : a.size ≤ 140737488355328) (w : World) : Calls Tryd.prog 42 #[.string a, .string b] w fun e w' => e = .returned (.bool (sameT a.data.toList b.data.toList)) ∧ Only [] w w' := by
  obtain ⟨r, hr⟩ : ∃ r, sameT a.data.toList b.data.toList = r := ⟨_, rfl⟩
  rw [hr]
  have hal : a.data.toList.length = a.size := by simp
  have hbl : b.data.toList.length = b.size := by simp
  by_cases hsz : a.size = b.size
  · have hsz' : ((a.size : Int) == (b.size : Int)) = true := by rw [beq_iff_eq]; omega
    have HR := Lib.hid hr
    have HA := Lib.hid hal
    have HB := Lib.hid hbl
    have HZ := Lib.hid hsz
    clear hr hal hbl hsz
    go_enter Tryd.func42, Tryd.ntmps42
    go_wp2
    go_loopw [13] (fun i wr => ∃ k : Nat, k ≤ a.size ∧ i = .int .i64 (k : Int) ∧ Hid (lows (a.data.toList.take k) = lows (b.data.toList.take k)) ∧ Only [] w wr) (fun i _ => a.size - (intOf i).toNat)
    case atStart => exact ⟨0, Nat.zero_le _, rfl, rfl, Only.refl _ _⟩
    case round =>
      obtain ⟨k, hk, rfl, HT, hO⟩ := hrel
      by_cases hlt : k < a.size
      · have hlt' : (k : Int) < (a.size : Int) := by omega
        have hkb : k < b.size := by rw [← HZ.out]; exact hlt
        have hkb' : (k : Int) < (b.size : Int) := by omega
        have hka1 : k < a.data.toList.length := by rw [HA.out]; exact hlt
        have hkb1 : k < b.data.toList.length := by rw [HB.out]; exact hkb
        by_cases hx : low a[k] = low b[k]
        · have HT2 : Hid (lows (a.data.toList.take (k + 1)) = lows (b.data.toList.take (k + 1))) := lows_take hka1 hkb1 HT.out hx
          have hxb : (((low a[k]).toNat : Int) == ((low b[k]).toNat : Int)) = true := by rw [hx]; simp
          clear hx
          go_wp2_with fail
          apply region_only (by kernel_rfl) (by kernel_rfl)
          apply rel_val (hrf := Tk_refl)
          case hw => rfl
          case hy => intro wS hN hF; skip; first | (go_simp; done) | (go_simp; with_reducible rfl)
          case' hk => skip
          try simp only [Act.put, List.setIfInBounds_toArray, List.set_cons_zero, List.set_cons_succ]
          apply rel_val (hrf := Tk_refl)
          case hw => rfl
          case hy => intro wS hN hF; skip; first | (go_simp; done) | (go_simp; with_reducible rfl)
          case' hk => skip
          try simp only [Act.put, List.setIfInBounds_toArray, List.set_cons_zero, List.set_cons_succ]
          apply rel_val (v := .int .u8 (a[k].toNat : Int)) (hrf := Tk_refl)
          case hw => rfl
          case hy =>
            intro wS hN hF
            go_simp
          case' hk => skip
          try simp only [Act.put, List.setIfInBounds_toArray, List.set_cons_zero, List.set_cons_succ]
          apply rel_call (v := .int .u8 ((low a[k]).toNat : Int)) (f := 66) (args := #[.int .u8 (a[k].toNat : Int)])
          case hw => rfl
          case hy => intro wS hN hF; go_simp
          case hc => intro wS hN hF; exact call_same (small_any _ wS)
          case' hk => skip
          try simp only [Act.put, List.setIfInBounds_toArray, List.set_cons_zero, List.set_cons_succ]
          apply rel_val (hrf := Tk_refl)
          case hw => rfl
          case hy => intro wS hN hF; skip; first | (go_simp; done) | (go_simp; with_reducible rfl)
          case' hk => skip
          try simp only [Act.put, List.setIfInBounds_toArray, List.set_cons_zero, List.set_cons_succ]
          apply rel_val (hrf := Tk_refl)
          case hw => rfl
          case hy => intro wS hN hF; skip; first | (go_simp; done) | (go_simp; with_reducible rfl)
          case' hk => skip
          try simp only [Act.put, List.setIfInBounds_toArray, List.set_cons_zero, List.set_cons_succ]
          apply rel_val (v := .int .u8 (b[k].toNat : Int)) (hrf := Tk_refl)
          case hw => rfl
          case hy =>
            intro wS hN hF
            go_simp
          case' hk => skip
          try simp only [Act.put, List.setIfInBounds_toArray, List.set_cons_zero, List.set_cons_succ]
          apply rel_call (v := .int .u8 ((low b[k]).toNat : Int)) (f := 66) (args := #[.int .u8 (b[k].toNat : Int)])
          case hw => rfl
          case hy => intro wS hN hF; go_simp
          case hc => intro wS hN hF; exact call_same (small_any _ wS)
          case' hk => skip
          try simp only [Act.put, List.setIfInBounds_toArray, List.set_cons_zero, List.set_cons_succ]
          apply rel_val (hrf := Tk_refl)
          case hw => rfl
          case hy => intro wS hN hF; skip; first | (go_simp; done) | (go_simp; with_reducible rfl)
          case' hk => skip
          try simp only [Act.put, List.setIfInBounds_toArray, List.set_cons_zero, List.set_cons_succ]
          refine rel_end ?_
          intro wS hO2 hF
          clear hF
          go_wp2
          go_roundw
          case rel => exact ⟨k + 1, by omega, by go_num, HT2, hO.drew.then hO2.only⟩
          case measure => simp [intOf]; omega
        · have HT2 : Hid (r = false) := by
            show _ = _
            rw [← HR.out]
            exact beq_eq_false_iff_ne.2 (lows_ne hka1 hkb1 hx)
          have hxb : (((low a[k]).toNat : Int) == ((low b[k]).toNat : Int)) = false := by rw [beq_eq_false_iff_ne]; intro h; exact hx (UInt8.toNat_inj.1 (by omega))
          clear hx
          go_wp2_with fail
          apply region_only (by kernel_rfl) (by kernel_rfl)
          apply rel_val (hrf := Tk_refl)
          case hw => rfl
          case hy => intro wS hN hF; skip; first | (go_simp; done) | (go_simp; with_reducible rfl)
          case' hk => skip
          try simp only [Act.put, List.setIfInBounds_toArray, List.set_cons_zero, List.set_cons_succ]
          apply rel_val (hrf := Tk_refl)
          case hw => rfl
          case hy => intro wS hN hF; skip; first | (go_simp; done) | (go_simp; with_reducible rfl)
          case' hk => skip
          try simp only [Act.put, List.setIfInBounds_toArray, List.set_cons_zero, List.set_cons_succ]
          apply rel_val (v := .int .u8 (a[k].toNat : Int)) (hrf := Tk_refl)
          case hw => rfl
          case hy =>
            intro wS hN hF
            go_simp
          case' hk => skip
          try simp only [Act.put, List.setIfInBounds_toArray, List.set_cons_zero, List.set_cons_succ]
          apply rel_call (v := .int .u8 ((low a[k]).toNat : Int)) (f := 66) (args := #[.int .u8 (a[k].toNat : Int)])
          case hw => rfl
          case hy => intro wS hN hF; go_simp
          case hc => intro wS hN hF; exact call_same (small_any _ wS)
          case' hk => skip
          try simp only [Act.put, List.setIfInBounds_toArray, List.set_cons_zero, List.set_cons_succ]
          apply rel_val (hrf := Tk_refl)
          case hw => rfl
          case hy => intro wS hN hF; skip; first | (go_simp; done) | (go_simp; with_reducible rfl)
          case' hk => skip
          try simp only [Act.put, List.setIfInBounds_toArray, List.set_cons_zero, List.set_cons_succ]
          apply rel_val (hrf := Tk_refl)
          case hw => rfl
          case hy => intro wS hN hF; skip; first | (go_simp; done) | (go_simp; with_reducible rfl)
          case' hk => skip
          try simp only [Act.put, List.setIfInBounds_toArray, List.set_cons_zero, List.set_cons_succ]
          apply rel_val (v := .int .u8 (b[k].toNat : Int)) (hrf := Tk_refl)
          case hw => rfl
          case hy =>
            intro wS hN hF
            go_simp
          case' hk => skip
          try simp only [Act.put, List.setIfInBounds_toArray, List.set_cons_zero, List.set_cons_succ]
          apply rel_call (v := .int .u8 ((low b[k]).toNat : Int)) (f := 66) (args := #[.int .u8 (b[k].toNat : Int)])
          case hw => rfl
          case hy => intro wS hN hF; go_simp
          case hc => intro wS hN hF; exact call_same (small_any _ wS)
          case' hk => skip
          try simp only [Act.put, List.setIfInBounds_toArray, List.set_cons_zero, List.set_cons_succ]
          apply rel_val (hrf := Tk_refl)
          case hw => rfl
          case hy => intro wS hN hF; skip; first | (go_simp; done) | (go_simp; with_reducible rfl)
          case' hk => skip
          try simp only [Act.put, List.setIfInBounds_toArray, List.set_cons_zero, List.set_cons_succ]
          refine rel_end ?_
          intro wS hO2 hF
          clear hF
          go_wp2
          go_ret
          exact ⟨by rw [HT2.out]; rfl, hO.drew.then hO2.only⟩
      · obtain rfl : k = a.size := by omega
        have HT2 : Hid (r = true) := by
          show _ = _
          have h := HT.out
          rw [List.take_of_length_le (by rw [HA.out]; exact Nat.le_refl _), List.take_of_length_le (by rw [HB.out, HZ.out]; exact Nat.le_refl _)] at h
          rw [← HR.out]
          exact beq_iff_eq.2 h
        go_wp2
        go_ret
        exact ⟨by rw [HT2.out]; rfl, hO⟩
  · have hsz' : ((a.size : Int) == (b.size : Int)) = false := by rw [beq_eq_false_iff_ne]; omega
    obtain rfl : r = false := by
      rw [← hr]
      refine beq_eq_false_iff_ne.2 (fun h => hsz ?_)
      have := congrArg List.length h
      simpa [lows, hal, hbl] using this
    clear hr hsz hal hbl
    go_enter Tryd.func42, Tryd.ntmps42
    go_wp2
    go_ret
    exact ⟨rfl, Only.refl _ _⟩
end Go.Proofs.YtkcnnbglmckmnaaDoor
