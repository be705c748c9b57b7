/-
  mime.next, partOf, bytesOf; a slice of parts of the call's own.
-/
import Derived.Test.YtakehogenioobaaDoorMLeaf
import Derived.OwnWalk
namespace Go.Proofs.YtakehogenioobaaDoor
open Go.RowKit Go.Instr

theorem mark2 (w : World) (E F : Obj) (v : Value) : (convert 24 24 (.slice (some ⟨w.heap.size + 2, 0, none⟩) 1 1)).run Tryd.prog (((w.alloc E).alloc F).alloc (.cells #[v] 5)) = .ok (.slice (some ⟨w.heap.size + 2, 0, none⟩) 1 1) (((w.alloc E).alloc F).alloc (.cells #[v] 5 (1, 2))) := by
  have := mark1 (w.alloc E) F v
  rwa [World.size_alloc] at this
theorem lit2 (w : World) (E F : Obj) (v : Value) (t : TypeId) (fr : Nat × Nat) : (((w.alloc E).alloc F).alloc (.cells #[v] t fr)).cell? ⟨w.heap.size + 2, 0, none⟩ = some v := by
  have h := lit1 (w.alloc E) F v t fr
  rw [World.size_alloc] at h
  exact h
theorem infoPart : (Tryd.prog.info? 29).map (·.size) = some 2 := by kernel_rfl
/-- A return of a part, in the result's cell. -/
theorem ret_part {fn : Func} {R : Ending → World → Prop} {tmps : Array Value} {w : World} (hres : fn.results = #[.cell 6 29]) (p : Nat) (k v : Value) (h2 : tmps.getD 6 undef = .pointer (some ⟨p, 0, none⟩))
    (hb : Bk w p 29 #[k, v]) (hR : R (.returned (.agg #[k, v])) w) : bodyPost Tryd.prog fn R .ret { tmps := tmps, defers := [] } w := by
  refine bodyPost_ret (v := .agg #[k, v]) ?_ rfl hR
  exact results_cell_row hres tmps w p 29 #[k, v] (0, 0) _ h2 hb Tryd.underlying29 rfl infoPart

theorem tr_next (l : List UInt8) : tr (l.take (nl l)) = tx (l.take (nl l + 1)) := by
  rw [← tx_next]
  unfold tx
  rw [trimSuffix_not]
  intro y hy
  have hm := List.mem_of_getLast? hy
  obtain ⟨k, hk, rfl⟩ := List.getElem_of_mem hm
  rw [List.length_take] at hk
  rw [List.getElem_take]
  exact nl_before (by omega) (by omega)
section
variable {w : World} {A : Option Addr} {n c : Nat} {l : List UInt8}
/-- The line at a place. -/
def lineAt (l : List UInt8) (a : Nat) : List UInt8 := (l.drop a).take (nl (l.drop a) + 1)
set_option maxHeartbeats 2000000 in
theorem mNext_any (hs : Bt w A n c l) (hbig : n ≤ 1048576) (a : Nat) (ha : a ≤ n) : Calls Tryd.prog 26 #[.slice A n c, .int .i64 (a : Int)] w fun e w' => ∃ A2 c2, e = .returned (.tuple #[.slice A2 (tx (lineAt l a)).length c2, .int .i64 ((a + (lineAt l a).length : Nat) : Int)]) ∧ Only [] w w' ∧
    Bt w' A2 (tx (lineAt l a)).length c2 (tx (lineAt l a)) ∧ ∀ k ∈ blks A2, k ∈ blks A := by
  obtain ⟨A1, c1, hcut, hB1, hbl⟩ := bt_cut hs ha
  obtain ⟨r, hr⟩ : ∃ r, l.drop a = r := ⟨_, rfl⟩
  have hL : lineAt l a = r.take (nl r + 1) := by unfold lineAt; rw [hr]
  rw [hL, ← tr_next]
  rw [hr] at hB1
  obtain ⟨n1, hn1⟩ : ∃ n1, n - a = n1 := ⟨_, rfl⟩
  rw [hn1] at hcut hB1
  have hrl := hB1.len
  have hfi : nl r ≤ r.length := nl_le r
  obtain ⟨m, hm⟩ : ∃ m, nl r = m := ⟨_, rfl⟩
  have cc : ∀ b2 o2 d w1, Only [] w w1 → w1.cell? ⟨b2, o2, none⟩ = some (.int .u8 10) → Calls Tryd.prog 41 #[.slice A1 n1 c1, .slice (some ⟨b2, o2, none⟩) 1 d] w1 fun e w' => ∃ A2 n2 c2, e = .returned (.tuple #[.slice A1 m c1, .slice A2 n2 c2, .bool (decide (m < n1))]) ∧ Only [] w1 w' ∧
      Bt w' A1 m c1 (r.take m) := fun b2 o2 d w1 hO h => by
    refine (cut_any (hB1.keep hO) (by omega) b2 o2 d 10 h).mono fun e w' ⟨A2, n2, c2, he, hO, hB, _, _⟩ => ⟨A2, n2, c2, ?_, hO, ?_⟩
    · rw [he, show fi 10 r = m from hm, hrl]
    · rwa [show fi 10 r = m from hm] at hB
  rw [hm] at hfi ⊢
  have hTl : tr (r.take m) = Lib.trimSuffix (r.take m) [13] := rfl
  have hll : (r.take (m + 1)).length = m + (if m < n1 then 1 else 0) := by
    rw [List.length_take]
    split <;> omega
  rw [hll]
  have hml : (r.take m).length = m := by rw [List.length_take]; omega
  obtain ⟨p, hp⟩ : ∃ p, r.take m = p := ⟨_, rfl⟩
  rw [hp] at hTl cc hml ⊢
  obtain ⟨T, hT⟩ : ∃ T, tr p = T := ⟨_, rfl⟩
  rw [hT] at hTl ⊢
  obtain ⟨q, hq⟩ : ∃ q, T.length = q := ⟨_, rfl⟩
  rw [hq]
  have cs : ∀ b2 o2 d w1, Bt w1 A1 m c1 p → w1.cell? ⟨b2, o2, none⟩ = some (.int .u8 13) → Calls Tryd.prog 42 #[.slice A1 m c1, .slice (some ⟨b2, o2, none⟩) 1 d] w1 fun e w' => e = .returned (.slice A1 q c1) ∧ w1 = w' := fun b2 o2 d w1 hB h => by
    have := suffix_any hB b2 o2 d 13 h
    rwa [← hTl, hq] at this
  have hTB : ∀ w1, Bt w1 A1 m c1 p → Bt w1 A1 q c1 T := fun w1 hB => by
    have := hB.suf 13
    rwa [← hTl, hq] at this
  have k0 := mark0 w (.int .u8 10)
  have hO0 : Only [] w (w.alloc (.cells #[.int .u8 10] 5 (1, 2))) := (Only.refl _ _).alloc _
  have ha0 : (a : Int) ≤ 1048576 := by omega
  have hm0 : (m : Int) ≤ 1048576 := by omega
  have hblk : ∀ k ∈ blks A1, k ∈ blks A := fun k hk => by rwa [hbl] at hk
  by_cases hlt : m < n1
  · rw [decide_eq_true hlt] at cc
    rw [if_pos hlt]
    have hsum : ((a + (m + 1) : Nat) : Int) = (a : Int) + (m : Int) + 1 := by omega
    rw [hsum]
    clear hll hm hr hL hn1 hrl hfi hT hp hq hTl hB1 hs hml hlt hsum hbl
    go_enter Tryd.func26, Tryd.ntmps26
    go_wp2_with first
      | (go_at_call 41; with_reducible refine (cc _ _ _ _ hO0 (lit0 _ _ _ _)).mono ?_; rintro e w1 ⟨A2, n2, c2, rfl, hO1, hB2⟩; have k1 := mark0 w1 (.int .u8 13))
      | (go_at_call 42; with_reducible refine (cs _ _ _ _ (hB2.keep ((Only.refl _ _).alloc _)) (lit0 _ _ _ _)).mono ?_; rintro e w2 ⟨rfl, rfl⟩)
    go_ret2
    exact ⟨_, _, rfl, (hO0.then hO1).then ((Only.refl _ _).alloc _), hTB _ (hB2.keep ((Only.refl _ _).alloc _)), hblk⟩
  · rw [decide_eq_false hlt] at cc
    rw [if_neg hlt, Nat.add_zero]
    have hsum : ((a + m : Nat) : Int) = (a : Int) + (m : Int) := by omega
    rw [hsum]
    clear hll hm hr hL hn1 hrl hfi hT hp hq hTl hB1 hs hml hlt hsum hbl
    go_enter Tryd.func26, Tryd.ntmps26
    go_wp2_with first
      | (go_at_call 41; with_reducible refine (cc _ _ _ _ hO0 (lit0 _ _ _ _)).mono ?_; rintro e w1 ⟨A2, n2, c2, rfl, hO1, hB2⟩; have k1 := mark0 w1 (.int .u8 13))
      | (go_at_call 42; with_reducible refine (cs _ _ _ _ (hB2.keep ((Only.refl _ _).alloc _)) (lit0 _ _ _ _)).mono ?_; rintro e w2 ⟨rfl, rfl⟩)
    go_ret2
    exact ⟨_, _, rfl, (hO0.then hO1).then ((Only.refl _ _).alloc _), hTB _ (hB2.keep ((Only.refl _ _).alloc _)), hblk⟩

/-- A part as a value. -/
def pv (p : Nat × Nat) : Value := .agg #[.int .i64 (p.1 : Int), .int .i64 (p.2 : Int)]
set_option maxHeartbeats 2000000 in
theorem partOf_any (hs : Bt w A n c l) (hbig : n ≤ 1048576) (f t : Nat) (hft : f ≤ t) (ht : t ≤ n) : Calls Tryd.prog 27 #[.slice A n c, .int .i64 (f : Int), .int .i64 (t : Int)] w fun e w' => e = .returned (pv (prt l f t)) ∧ Only [] w w' := by
  obtain ⟨A1, c1, hcut, hB1, hbl⟩ := bt_mid hs hft ht
  obtain ⟨r, hr⟩ : ∃ r, (l.take t).drop f = r := ⟨_, rfl⟩
  have hP : pv (prt l f t) = .agg #[.int .i64 (f : Int), .int .i64 ((f : Int) + (pl r : Nat))] := by unfold prt pv; rw [hr]; simp
  rw [hP]
  rw [hr] at hB1
  obtain ⟨n1, hn1⟩ : ∃ n1, t - f = n1 := ⟨_, rfl⟩
  rw [hn1] at hcut hB1
  have hrl := hB1.len
  obtain ⟨p, hp⟩ : ∃ p, Lib.trimSuffix r [10] = p := ⟨_, rfl⟩
  have hB2 := hB1.suf 10
  have hpl := pl_le r
  rw [hp] at hB2
  obtain ⟨q, hq⟩ : ∃ q, p.length = q := ⟨_, rfl⟩
  rw [hq] at hB2
  obtain ⟨z, hz⟩ : ∃ z, Lib.hasSuffix r [10] = z := ⟨_, rfl⟩
  have cc : ∀ b2 o2 d w1, Only [] w w1 → w1.cell? ⟨b2, o2, none⟩ = some (.int .u8 10) → Calls Tryd.prog 43 #[.slice A1 n1 c1, .slice (some ⟨b2, o2, none⟩) 1 d] w1 fun e w' => e = .returned (.tuple #[.slice A1 q c1, .bool z]) ∧ w1 = w' := fun b2 o2 d w1 hO h => by
    have := cutSuf_any (hB1.keep hO) b2 o2 d 10 h
    rwa [hp, hq, hz] at this
  have k1 := mark1 w (.cells #[.int .i64 0, .int .i64 0] 29) (.int .u8 10)
  have hO1 : Only [] w ((w.alloc (.cells #[.int .i64 0, .int .i64 0] 29)).alloc (.cells #[.int .u8 10] 5 (1, 2))) := ((Only.refl _ _).alloc _).alloc _
  have hf0 : (f : Int) ≤ 1048576 := by omega
  cases z with
  | false =>
    have hq2 : pl r = q := by
      unfold pl
      rw [if_neg (by rw [hz]; decide), ← hq, ← hp]
      unfold Lib.trimSuffix
      rw [if_neg (by rw [hz]; decide)]
    rw [hq2] at hpl ⊢
    have hq0 : (q : Int) ≤ 1048576 := by omega
    clear hq2 hP hr hn1 hrl hp hB2 hB1 hpl hq hz hs hbl
    go_enter Tryd.func27, Tryd.ntmps27
    go_wp2_with (go_at_call 43; with_reducible refine (cc _ _ _ _ hO1 (lit1 _ _ _ _ _)).mono ?_; rintro e w1 ⟨rfl, rfl⟩)
    exact ret_part (by kernel_rfl) w.heap.size _ _ rfl ((Bk.new w _ _).alloc _) ⟨rfl, ((Only.refl _ _).alloc _).alloc _⟩
  | true =>
    obtain ⟨T, hT⟩ : ∃ T, Lib.trimSuffix p [13] = T := ⟨_, rfl⟩
    obtain ⟨y, hy⟩ : ∃ y, T.length = y := ⟨_, rfl⟩
    have hq2 : pl r = y := by
      unfold pl
      rw [if_pos hz]
      show (tr (Lib.trimSuffix r [10])).length = y
      rw [hp, ← hy, ← hT]
      rfl
    have cs : ∀ b2 o2 d w1, Only [] w w1 → w1.cell? ⟨b2, o2, none⟩ = some (.int .u8 13) → Calls Tryd.prog 42 #[.slice A1 q c1, .slice (some ⟨b2, o2, none⟩) 1 d] w1 fun e w' => e = .returned (.slice A1 y c1) ∧ w1 = w' := fun b2 o2 d w1 hO h => by
      have := suffix_any (hB2.keep hO) b2 o2 d 13 h
      rwa [hT, hy] at this
    rw [hq2] at hpl ⊢
    have hq0 : (y : Int) ≤ 1048576 := by omega
    have k2 := mark2 w (.cells #[.int .i64 0, .int .i64 0] 29) (.cells #[.int .u8 10] 5 (1, 2)) (.int .u8 13)
    clear hq2 hP hr hn1 hrl hp hB2 hB1 hpl hq hz hs hbl hT hy
    go_enter Tryd.func27, Tryd.ntmps27
    go_wp2_with first
      | (go_at_call 43; with_reducible refine (cc _ _ _ _ hO1 (lit1 _ _ _ _ _)).mono ?_; rintro e w1 ⟨rfl, rfl⟩)
      | (go_at_call 42; with_reducible refine (cs _ _ _ _ (hO1.alloc _) (lit2 _ _ _ _ _ _)).mono ?_; rintro e w1 ⟨rfl, rfl⟩)
    exact ret_part (by kernel_rfl) w.heap.size _ _ rfl (((Bk.new w _ _).alloc _).alloc _) ⟨rfl, (((Only.refl _ _).alloc _).alloc _).alloc _⟩
theorem bytesOf_any (hs : Bt w A n c l) (f t : Nat) (hft : f ≤ t) (ht : t ≤ n) : Calls Tryd.prog 19 #[.slice A n c, pv (f, t)] w fun e w' => ∃ A2 c2, e = .returned (.slice A2 (t - f) c2) ∧ Only [] w w' ∧ Bt w' A2 (t - f) c2 (subB l (f, t)) ∧ blks A2 = blks A := by
  obtain ⟨A1, c1, hcut, hB1, hbl⟩ := bt_mid hs hft ht
  obtain ⟨r, hr⟩ : ∃ r, (l.take t).drop f = r := ⟨_, rfl⟩
  have hP : subB l (f, t) = r := hr
  rw [hP]
  rw [hr] at hB1
  obtain ⟨n1, hn1⟩ : ∃ n1, t - f = n1 := ⟨_, rfl⟩
  rw [hn1] at hcut hB1 ⊢
  clear hP hr hn1
  unfold pv
  go_enter Tryd.func19, Tryd.ntmps19
  go_wp2_with fail
  go_ret
  exact ⟨_, _, rfl, (Only.refl _ _).alloc _, hB1.keep ((Only.refl _ _).alloc _), hbl⟩
end
end Go.Proofs.YtakehogenioobaaDoor
