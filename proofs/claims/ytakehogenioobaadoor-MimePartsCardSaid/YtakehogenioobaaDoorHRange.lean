/-
  'for line := range bytes.Lines(b)': the law of the loop, in our words. The iterator turns the one cell that it has captured; the round keeps that cell, the loop's two blocks and the bytes.
-/
import Derived.Test.YtakehogenioobaaDoorHLib
import Derived.Test.YtakehogenioobaaDoorRowsOf
import Derived.Test.YtakehogenioobaaDoorGro
import Derived.RangeFuncNested
import Derived.RangeFuncCalls
import Derived.WalkKit
import Derived.OwnWalkIn
import Derived.TacticsInMore
import Derived.LoopNIn
import Derived.LoopIn
import Derived.Shelf.RegionOpen
namespace Go.Proofs.YtakehogenioobaaDoor
open Go.RowKit

/-- These blocks lie as they lay. -/
structure Keeps (S : List Nat) (w w' : World) : Prop where
  size : w.heap.size ≤ w'.heap.size
  block : ∀ k ∈ S, w'.heap[k]? = w.heap[k]?
theorem Keeps.refl (S : List Nat) (w : World) : Keeps S w w := ⟨Nat.le_refl _, fun _ _ => rfl⟩
theorem Keeps.trans {S : List Nat} {a b c : World} (h : Keeps S a b) (k : Keeps S b c) : Keeps S a c := ⟨Nat.le_trans h.size k.size, fun i hi => (k.block i hi).trans (h.block i hi)⟩
theorem Only.keeps {rs S : List Nat} {w w' : World} (h : Only rs w w') (hs : ∀ k ∈ S, k < w.heap.size ∧ k ∉ rs) : Keeps S w w' := ⟨h.size, fun k hk => h.block k (hs k hk).1 (hs k hk).2⟩
theorem Keeps.mono {S S' : List Nat} {w w' : World} (h : Keeps S w w') (hs : ∀ k ∈ S', k ∈ S) : Keeps S' w w' := ⟨h.size, fun k hk => h.block k (hs k hk)⟩
theorem Sl.keeps {S : List Nat} {w w' : World} {A : Option Addr} {n : Nat} {xs : List Value} (h : Sl w A n xs) (o : Keeps S w w') (hd : 0 < n → ∀ k ∈ blks A, k ∈ S) : Sl w' A n xs :=
  ⟨h.1, fun hn => by
    obtain ⟨ad, e, hc⟩ := h.2 hn
    refine ⟨ad, e, fun j u hu => ?_⟩
    rw [World.cell?_of_block (o.block _ (by rw [add_block]; exact hd hn _ (by rw [e]; simp)))]
    exact hc j u hu⟩
theorem Bk.keeps {S : List Nat} {w w' : World} {g : Nat} {t : TypeId} {cs : Array Value} (h : Bk w g t cs) (o : Keeps S w w') (hg : g ∈ S) : Bk w' g t cs := (o.block g hg).trans h
theorem putObj_only (w : World) (l : Nat) (o : Obj) : Only [l] w (w.putObj l o) :=
  ⟨rfl, rfl, rfl, by simp, fun k _ hk => World.putObj_heap_other (by simpa using hk)⟩

/-- How the body of a round may be left. -/
def linePost (S : List Nat) (I : Nat → World → Prop) (Ix : Code → Nat → World → Prop) (k : Nat) (W : World) : Exit → Act → World → Prop
  | .normal, _, W' => Keeps S W W' ∧ I (k + 1) W'
  | .ret, _, W' => Keeps S W W' ∧ Ix .ret (k + 1) W'
  | .exit id, _, W' => Keeps S W W' ∧ Ix (.exit id) (k + 1) W'
  | .goto t, _, W' => Keeps S W W' ∧ Ix (.goto t) (k + 1) W'
  | .panic _, _, _ => False
  | .outgrown, _, _ => False
def roundEnd (S : List Nat) (J Jx : Nat → World → Prop) (k : Nat) (W : World) (e : Ending) (W' : World) : Prop :=
  (e = .returned (.bool true) ∧ J (k + 1) W' ∧ Keeps S W W') ∨ (e = .returned (.bool false) ∧ Jx (k + 1) W')

/-- The iterator: k lines have been told. -/
def Iter (W : World) (X : Nat) (S : List Nat) (b : List UInt8) (k : Nat) (N : Nat) : Prop :=
  k ≤ (lns b).length ∧ ∃ A c, Bk W X 24 #[.slice A N c] ∧ Sl W A N (bvs ((lns b).drop k).flatten) ∧ N ≤ c ∧ c ≤ 9223372036854775807 ∧ (∀ x ∈ blks A, x ∈ S) ∧ X ∉ blks A
theorem Iter.only {W W' : World} {X N : Nat} {S : List Nat} {b : List UInt8} {k : Nat} {rs : List Nat} (h : Iter W X S b k N) (o : Only rs W W') (hX : X ∉ rs) (hS : ∀ x ∈ S, x ∉ rs) : Iter W' X S b k N := by
  obtain ⟨hk, A, c, h1, h2, h3, h4, h5, h6⟩ := h
  exact ⟨hk, A, c, h1.only o hX, h2.only o (fun ad e hm => hS _ (h5 _ (by rw [e]; simp)) hm), h3, h4, h5, h6⟩
theorem Iter.keeps {W W' : World} {X N : Nat} {S : List Nat} {b : List UInt8} {k : Nat} (h : Iter W X S b k N) (o : Keeps S W W') (hX : X ∈ S) : Iter W' X S b k N := by
  obtain ⟨hk, A, c, h1, h2, h3, h4, h5, h6⟩ := h
  exact ⟨hk, A, c, h1.keeps o hX, h2.keeps o (fun _ => h5), h3, h4, h5, h6⟩
def leftN (X : Nat) (w : World) : Nat := match w.cell? ⟨X, 0, none⟩ with
  | some (.slice _ n _) => n
  | _ => 0
theorem leftN_eq {W : World} {X N : Nat} {S : List Nat} {b : List UInt8} {k : Nat} (h : Iter W X S b k N) : leftN X W = N := by
  obtain ⟨_, A, c, h1, _⟩ := h
  unfold leftN
  rw [h1.cell]
  rfl

theorem line_at {b r : List UInt8} {k : Nat} (hr : ((lns b).drop k).flatten = r) (hne : 0 < r.length) : (lns b)[k]? = some (r.take (nl r + 1)) ∧ ((lns b).drop (k + 1)).flatten = r.drop (nl r + 1) ∧ k + 1 ≤ (lns b).length := by
  have h1 := lns_drop b k
  rw [hr, lns_step r (List.length_pos_iff.1 hne)] at h1
  have hk : k < (lns b).length := by
    rcases Nat.lt_or_ge k (lns b).length with h | h
    · exact h
    · rw [List.drop_of_length_le h] at h1
      cases h1
  rw [List.drop_eq_getElem_cons hk] at h1
  injection h1 with h1 h2
  exact ⟨by rw [List.getElem?_eq_getElem hk, h1], by rw [← h2]; exact lns_flat _, hk⟩

attribute [local go_sem] Oper.semAt_some
set_option maxRecDepth 100000 in
set_option maxHeartbeats 2000000 in
theorem lines1_in (n l X : Nat) (hn : 1 ≤ n) (S : List Nat) (b : List UInt8) (J Jx : Nat → World → Prop) (hXS : X ∈ S) (hJ : ∀ k W W', J k W → Only [X] W W' → J k W')
    (hY : ∀ k ln A W, J k W → (lns b)[k]? = some ln → Bt W A ln.length ln.length ln → (∀ x ∈ blks A, x ∈ S) → YieldAt Fence.wide (n - 1) Tryd.prog l #[.slice A ln.length ln.length] W (roundEnd S J Jx k W))
    (W : World) (N : Nat) (h : Iter W X S b 0 N) (h0 : J 0 W) :
    CallsIn Fence.wide n Tryd.prog 60 #[.func (.yield l) #[] #[], .pointer (some ⟨X, 0, none⟩)] W fun e W' => (∃ v, e = .returned v) ∧ (J (lns b).length W' ∨ ∃ k, k ≤ (lns b).length ∧ Jx k W') := by
  refine callsIn_of_wp Tryd.func60 rfl trivial ?_ rfl
  simp only [Tryd.ntmps60, List.size_toArray, List.length_cons, List.length_nil, Nat.reduceAdd, Nat.reduceSub, Array.replicate_succ, Array.replicate_zero, List.push_toArray, List.append_toArray, List.nil_append, List.cons_append]
  have hmix : Tryd.prog.follows .mixedOrders = true := by kernel_rfl
  gi_wp2
  gi_loopw [3] (fun _ wr => ∃ k N, Iter wr X S b k N ∧ J k wr) (fun _ wr => leftN X wr)
  case atStart => exact ⟨0, N, h, h0⟩
  case round =>
    obtain ⟨k, N, hI, hJk⟩ := hrel
    have hI' := hI
    obtain ⟨hk, A, c, hX, hS, hNc, hc, hA, hXA⟩ := hI
    have hcx : wr.cell? ⟨X, 0, none⟩ = some (.slice A N c) := by rw [hX.cell]; rfl
    have hfx := hX.free 0
    rcases Nat.eq_zero_or_pos N with h0N | hN
    · subst h0N
      have hkl : k = (lns b).length := by
        have h1 : ((lns b).drop k).flatten = [] := List.eq_nil_of_length_eq_zero (by simpa using hS.len)
        have h2 := lns_drop b k
        rw [h1] at h2
        have := congrArg List.length h2
        rw [List.length_drop] at this
        simp [lns] at this
        omega
      gi_wp2
      go_end0
      exact ⟨⟨_, rfl⟩, .inl (hkl ▸ hJk)⟩
    · have hN' : (0 : Int) < (N : Int) := by omega
      obtain ⟨r, hr⟩ : ∃ r, ((lns b).drop k).flatten = r := ⟨_, rfl⟩
      rw [hr] at hS
      have hrl : r.length = N := by simpa using hS.len
      obtain ⟨hln, hrest, hk1⟩ := line_at hr (by omega)
      obtain ⟨ad, rfl, _⟩ := hS.2 hN
      have hI2 := index_nl r
      by_cases h1 : nl r < r.length
      · rw [if_pos h1] at hI2
        obtain ⟨m, hm⟩ : ∃ m, nl r = m := ⟨_, rfl⟩
        rw [hm] at hln hrest hI2 h1
        have hm1 : (m : Int) + 1 ≤ (c : Int) := by omega
        have hm2 : (m : Int) + 1 ≤ (N : Int) := by omega
        have goOn : ∀ (A2 : Option Addr) (c2 : Nat), A2 = (if c = m + 1 then some ad else (some ad).map (·.add (m + 1))) → c2 = c - (m + 1) → ∃ fn tmps assign body,
            (Instr.yield l #[.slice (some ad) (m + 1) (m + 1)]).run Tryd.prog (wr.setCell ⟨X, 0, none⟩ (.slice A2 (N - (m + 1)) c2)).drew = .ok (.round l fn tmps assign body) (wr.setCell ⟨X, 0, none⟩ (.slice A2 (N - (m + 1)) c2)).drew ∧
            RoundIn Fence.wide (n - 1) Tryd.prog l fn tmps assign body (wr.setCell ⟨X, 0, none⟩ (.slice A2 (N - (m + 1)) c2)).drew (fun e W' => (e = .returned (.bool true) ∧ J (k + 1) W' ∧ Iter W' X S b (k + 1) (N - (m + 1))) ∨ (e = .returned (.bool false) ∧ Jx (k + 1) W')) := by
          intro A2 c2 hA2 hc2
          have hO2 : Only [X] wr (wr.setCell ⟨X, 0, none⟩ (.slice A2 (N - (m + 1)) c2)).drew := ((Only.refl _ _).setCell (.inl (by simp)) _).drew
          have hSl : Sl (wr.setCell ⟨X, 0, none⟩ (.slice A2 (N - (m + 1)) c2)).drew (some ad) (m + 1) (bvs (r.take (m + 1))) := by
            have := (hS.pre (k := m + 1) (by omega)).only hO2 (fun ad' e hm => by injection e with e; subst e; simp at hm; exact hXA (by simp [hm]))
            rwa [bvs_take] at this
          obtain ⟨fn, tmps, assign, body, hy, hR⟩ := hY k _ (some ad) _ (hJ _ _ _ hJk hO2) hln (by rw [List.length_take, show min (m + 1) r.length = m + 1 by omega]; exact ⟨hSl, Nat.le_refl _, by omega, fun e => by cases e⟩) hA
          rw [List.length_take, show min (m + 1) r.length = m + 1 by omega] at hy
          refine ⟨fn, tmps, assign, body, hy, hR.mono ?_⟩
          have hbl : blks A2 = blks (some ad) := by rw [hA2]; exact blks_cut (some ad) c (m + 1)
          have hI2 : Iter (wr.setCell ⟨X, 0, none⟩ (.slice A2 (N - (m + 1)) c2)).drew X S b (k + 1) (N - (m + 1)) := by
            refine ⟨hk1, A2, c2, by have := (hX.set 0 (.slice A2 (N - (m + 1)) c2)).drew; exact this, ?_, by omega, by omega, by rw [hbl]; exact hA, by rw [hbl]; exact hXA⟩
            rw [hrest, ← bvs_drop]
            have hcut := hS.cut (k := m + 1) (by omega) hNc
            rw [← hA2] at hcut
            refine Sl.only hcut hO2 (fun ad' e hm => ?_)
            have : ad'.block ∈ blks (some ad) := by rw [← hbl, e]; simp
            rw [List.mem_singleton] at hm
            rw [hm] at this
            exact hXA this
          rintro e W' (⟨h2, h3, h4⟩ | h2)
          · exact .inl ⟨h2, h3, hI2.keeps h4 hXS⟩
          · exact .inr h2
        by_cases hcm : c = m + 1
        · subst hcm
          rw [show N - (m + 1) = 0 by omega] at goOn
          obtain ⟨fn, tmps, assign, body, hy, hR⟩ := goOn (some ad) 0 (by rw [if_pos rfl]) (by omega)
          gi_wp2_with (refine ⟨trivial, ?_⟩; gi_at_call 61; refine (callsIn_wide.2 (index_any _ _ _ _ _ hN hS)).mono ?_; rintro e w1 ⟨rfl, rfl⟩; rw [hI2])
          gi_region_o
          gi_wp2
          have hle : leftN X wr = N := leftN_eq hI'
          refine hR.mono ?_
          rintro e W3 (⟨rfl, hJ3, hI3⟩ | ⟨rfl, hJx3⟩)
          · gi_wp2
            go_roundw
            case rel => exact ⟨k + 1, _, hI3, hJ3⟩
            case measure => rw [leftN_eq hI3, hle]; omega
          · gi_wp2
            refine bodyPost_ret (results_none rfl _ _ _) rfl ?_
            exact ⟨⟨_, rfl⟩, .inr ⟨k + 1, hk1, hJx3⟩⟩
        · obtain ⟨fn, tmps, assign, body, hy, hR⟩ := goOn (some ⟨ad.block, ad.off + (m + 1), none⟩) (c - (m + 1)) (by rw [if_neg hcm]; simp [Addr.add]) rfl
          gi_wp2_with (refine ⟨trivial, ?_⟩; gi_at_call 61; refine (callsIn_wide.2 (index_any _ _ _ _ _ hN hS)).mono ?_; rintro e w1 ⟨rfl, rfl⟩; rw [hI2])
          gi_region_o
          gi_wp2
          have hle : leftN X wr = N := leftN_eq hI'
          refine hR.mono ?_
          rintro e W3 (⟨rfl, hJ3, hI3⟩ | ⟨rfl, hJx3⟩)
          · gi_wp2
            go_roundw
            case rel => exact ⟨k + 1, _, hI3, hJ3⟩
            case measure => rw [leftN_eq hI3, hle]; omega
          · gi_wp2
            refine bodyPost_ret (results_none rfl _ _ _) rfl ?_
            exact ⟨⟨_, rfl⟩, .inr ⟨k + 1, hk1, hJx3⟩⟩
      · rw [if_neg h1] at hI2
        have hnl : nl r = N := by have := nl_le r; omega
        rw [hnl, List.take_of_length_le (show r.length ≤ N + 1 by omega)] at hln
        rw [hnl, List.drop_of_length_le (show r.length ≤ N + 1 by omega)] at hrest
        obtain ⟨w2, hw2⟩ : ∃ w2, wr.setCell ⟨X, 0, none⟩ (.slice none 0 0) = w2 := ⟨_, rfl⟩
        have hO2 : Only [X] wr w2 := by rw [← hw2]; exact (Only.refl _ _).setCell (.inl (by simp)) _
        have hSl : Sl w2 (some ad) r.length (bvs r) := by
          rw [hrl]
          exact hS.only hO2 (fun ad' e hm => by injection e with e; subst e; simp at hm; exact hXA (by simp [hm]))
        obtain ⟨fn, tmps, assign, body, hy, hR⟩ := hY k r (some ad) w2 (hJ _ _ _ hJk hO2) hln ⟨hSl, Nat.le_refl _, by omega, fun e => by cases e⟩ hA
        rw [hrl] at hy
        have hle : leftN X wr = N := leftN_eq hI'
        have hI3 : Iter w2 X S b (k + 1) 0 := by
          refine ⟨hk1, none, 0, by rw [← hw2]; simpa using hX.set 0 (.slice none 0 0), ?_, Nat.le_refl _, by omega, (fun _ hx => nomatch hx), (fun hx => nomatch hx)⟩
          rw [hrest]
          exact Sl.none_
        gi_wp2_with first
          | (refine ⟨trivial, ?_⟩; gi_at_call 61; refine (callsIn_wide.2 (index_any _ _ _ _ _ hN hS)).mono ?_; rintro e w1 ⟨rfl, rfl⟩; rw [hI2])
          | (rw [hw2])
        refine hR.mono ?_
        rintro e W3 (⟨rfl, hJ3, hK3⟩ | ⟨rfl, hJx3⟩)
        · gi_wp2
          go_roundw
          case rel => exact ⟨k + 1, _, hI3.keeps hK3 hXS, hJ3⟩
          case measure => rw [leftN_eq (hI3.keeps hK3 hXS), hle]; omega
        · gi_wp2
          refine bodyPost_ret (results_none rfl _ _ _) rfl ?_
          exact ⟨⟨_, rfl⟩, .inr ⟨k + 1, hk1, hJx3⟩⟩

/-- THE LOOP. -/
theorem range_lines {g : Operand} {p : Tmp} {assign body : Code} {Q : Exit → Act → World → Prop} {a : Act} {w : World} {n : Nat} (hn : 3 ≤ n) {X N : Nat} {b : List UInt8} {S : List Nat}
    (hg : a.eval g = .func (.func 60) #[] #[.pointer (some ⟨X, 0, none⟩)]) (hI : Iter w X S b 0 N) (hS : ∀ k ∈ S, k < w.heap.size) (hXS : X ∈ S)
    (I : Nat → World → Prop) (Ix : Code → Nat → World → Prop) (hst : ∀ k W W', I k W → Only [X, w.heap.size + 1] W W' → I k W') (hstx : ∀ c k W W', Ix c k W → Only [X, w.heap.size + 1] W W' → Ix c k W') (h0 : I 0 w) (a₁ : Value → Act)
    (hassign : ∀ (l : Nat) (v : Value) (W : World) (K : Act → World → Prop), K (a₁ v) W → assign.wpIn (Fence.wide.inRound l) (n - 1 - 1) Tryd.prog (Exit.then K (fun _ _ _ => False)) { tmps := a.tmps.setIfInBounds p v, defers := [] } W)
    (hbody : ∀ (l k : Nat) (ln : List UInt8) (A : Option Addr) (W : World), I k W → (lns b)[k]? = some ln → Bt W A ln.length ln.length ln → (∀ x ∈ blks A, x ∈ S) → w.heap.size + 2 ≤ W.heap.size →
      body.wpIn (Fence.wide.inRound l) (n - 1 - 1) Tryd.prog (linePost (w.heap.size :: (w.heap.size + 1) :: S) I Ix k W) (a₁ (.slice A ln.length ln.length)) W)
    (hdone : ∀ (D : Nat) (W : World), I (lns b).length W → D = w.heap.size → W.heap[D]? = some (.deferred (some [])) → Q .normal { a with defers := { target := .collected D, args := #[] } :: a.defers } W)
    (hstop : ∀ (D : Nat) (c : Code) (k : Nat) (W : World), k ≤ (lns b).length → Ix c k W → D = w.heap.size → W.heap[D]? = some (.deferred (some [])) → c.wpIn Fence.wide n Tryd.prog Q { a with defers := { target := .collected D, args := #[] } :: a.defers } W) :
    (Code.rangeFunc g #[p] assign body).wpIn Fence.wide n Tryd.prog Q a w := by
  have hXlt : X < w.heap.size := hS X hXS
  refine wpIn_rangeFunc fun fn hfn => ?_
  obtain ⟨rec, hrec⟩ : ∃ rec : LoopState → Option Code → Loop, rec = fun st pe => { state := st, pending := pe, fn, tmps := a.tmps, params := #[p], assign, body, defers := w.heap.size } := ⟨_, rfl⟩
  obtain ⟨W1, hW1⟩ : ∃ W1, (w.alloc (.deferred (some []))).alloc (.loop (rec .ready none)) = W1 := ⟨_, rfl⟩
  have hsz1 : W1.heap.size = w.heap.size + 2 := by rw [← hW1]; simp
  have hO1 : Only [] w W1 := by rw [← hW1]; exact ((Only.refl _ _).alloc _).alloc _
  have hL1 : W1.heap[w.heap.size + 1]? = some (.loop (rec .ready none)) := by
    rw [← hW1]; have := World.alloc_heap_new (w.alloc (.deferred (some []))) (.loop (rec .ready none)); rwa [World.size_alloc] at this
  have hK1 : W1.heap[w.heap.size]? = some (.deferred (some [])) := by
    rw [← hW1]; exact (Below.heap_alloc _ _ _ (by simp)).trans (World.alloc_heap_new w _)
  have lift : ∀ {rs : List Nat} {A B : World}, (∀ x ∈ rs, x = X ∨ x = w.heap.size + 1) → Only rs A B → Only [X, w.heap.size + 1] A B := fun hrs h => h.mono (fun x hx => by
    left
    rcases hrs x hx with rfl | rfl <;> simp)
  refine ⟨w.heap.size + 1, [{ target := .collected w.heap.size, args := #[] }], W1, { target := .fn (.func 60) #[.pointer (some ⟨X, 0, none⟩)], args := #[.func (.yield (w.heap.size + 1)) #[] #[]] }, W1, 60,
    #[.func (.yield (w.heap.size + 1)) #[] #[], .pointer (some ⟨X, 0, none⟩)], W1, ?_, ?_, fun _ _ => trivial, ?_, fun _ => by omega, ?_⟩
  · rw [← hW1, hrec]; exact run_enterLoop_outer _ _ _ _ _
  · simp only [resolve, hg]
    simp [go_sem]
  · simp only [invoke]
    exact enters_of Tryd.func60 (by kernel_rfl) rfl _ _
  · refine (lines1_in (n - 1) (w.heap.size + 1) X (by omega) S b
      (fun k W => I k W ∧ w.heap.size + 2 ≤ W.heap.size ∧ W.heap[w.heap.size + 1]? = some (.loop (rec .ready none)) ∧ W.heap[w.heap.size]? = some (.deferred (some [])))
      (fun k W => ∃ c, Ix c k W ∧ W.heap[w.heap.size + 1]? = some (.loop (rec .done (some c))) ∧ W.heap[w.heap.size]? = some (.deferred (some []))) hXS ?_ ?_ W1 N ?_ ?_).mono ?_
    · rintro k A B ⟨h1, h2, h3, h4⟩ hO
      exact ⟨hst k A B h1 (lift (fun x hx => .inl (by simpa using hx)) hO), Nat.le_trans h2 hO.size, (hO.block _ (by omega) (by simp; omega)).trans h3, (hO.block _ (by omega) (by simp; omega)).trans h4⟩
    · rintro k ln A W ⟨hi, hsz, hl, hk⟩ hln hSl hA
      have hy := run_yield (P := Tryd.prog) (args := #[.slice A ln.length ln.length]) hl (by rw [hrec]; rfl)
      rw [hrec] at hy
      have hy' : (Instr.yield (w.heap.size + 1) #[.slice A ln.length ln.length]).run Tryd.prog W = .ok (.round (w.heap.size + 1) fn (a.tmps.setIfInBounds p (.slice A ln.length ln.length)) assign body) W := by simpa using hy
      refine ⟨fn, _, assign, body, hy', roundIn_of_wpIn hfn ?_⟩
      refine wpIn_mono (hassign (w.heap.size + 1) (.slice A ln.length ln.length) W (fun a1 w1 => a1 = a₁ (.slice A ln.length ln.length) ∧ w1 = W) ⟨rfl, rfl⟩) ?_
      rintro e a2 w2 he
      cases e with
      | normal =>
        obtain ⟨rfl, rfl⟩ := he
        refine ⟨_, run_beginRound hl (by rw [hrec]), ?_⟩
        obtain ⟨W2, hW2⟩ : ∃ W2, w2.putObj (w.heap.size + 1) (.loop { rec .ready none with state := .busy }) = W2 := ⟨_, rfl⟩
        have hO2 : Only [w.heap.size + 1] w2 W2 := by rw [← hW2]; exact putObj_only _ _ _
        have hl2 : W2.heap[w.heap.size + 1]? = some (.loop (rec .busy none)) := by rw [← hW2, World.putObj_heap_same (by omega), hrec]
        have hk2 : W2.heap[w.heap.size]? = some (.deferred (some [])) := (hO2.block _ (by omega) (by simp)).trans hk
        have hsz2 : w.heap.size + 2 ≤ W2.heap.size := Nat.le_trans hsz hO2.size
        rw [hW2]
        refine wpIn_mono (hbody (w.heap.size + 1) k ln A W2 (hst k _ _ hi (lift (rs := [w.heap.size + 1]) (fun x hx => .inr (by simpa using hx)) hO2)) hln (hSl.only hO2 (fun x hx hm => by
          have := hS _ (hA x hx)
          rw [List.mem_singleton] at hm
          omega)) hA hsz2) ?_
        have fin : ∀ (jump : Option Code) (W3 : World), Keeps (w.heap.size :: (w.heap.size + 1) :: S) W2 W3 →
            ∃ W4, (Instr.endRound (w.heap.size + 1) jump).run Tryd.prog W3 = .ok (.bool jump.isNone) W4 ∧ Only [w.heap.size + 1] W3 W4 ∧ W4.heap[w.heap.size + 1]? = some (.loop (rec (if jump.isNone then .ready else .done) jump)) ∧
              W4.heap[w.heap.size]? = some (.deferred (some [])) ∧ w.heap.size + 2 ≤ W4.heap.size ∧ Keeps S w2 W4 := by
          intro jump W3 hk3
          have hl3 : W3.heap[w.heap.size + 1]? = some (.loop (rec .busy none)) := (hk3.block _ (by simp)).trans hl2
          have hd3 : W3.heap[w.heap.size]? = some (.deferred (some [])) := (hk3.block _ (by simp)).trans hk2
          have hsz3 : w.heap.size + 2 ≤ W3.heap.size := Nat.le_trans hsz2 hk3.size
          have hr := run_endRound (P := Tryd.prog) jump hl3
          have hO4 := putObj_only W3 (w.heap.size + 1) (.loop { rec .busy none with state := if jump.isNone then .ready else .done, pending := jump })
          refine ⟨_, hr, hO4, by rw [World.putObj_heap_same (by omega), hrec], (hO4.block _ (by omega) (by simp)).trans hd3, Nat.le_trans hsz3 hO4.size, ?_⟩
          have hSk : ∀ k ∈ S, k < w2.heap.size ∧ k ∉ [w.heap.size + 1] := fun k hk => by have := hS k hk; exact ⟨by omega, by simp; omega⟩
          refine ((hO2.keeps hSk).trans (hk3.mono (fun k hk => by simp [hk]))).trans (hO4.keeps (fun k hk => ?_))
          have := hS k hk
          exact ⟨by omega, by simp; omega⟩
        rintro e a3 W3 hp
        cases e with
        | normal =>
          obtain ⟨hk3, hi3⟩ := hp
          obtain ⟨W4, hr, hO4, hl4, hd4, hs4, hKs⟩ := fin none W3 hk3
          exact ⟨_, _, hr, .inl ⟨rfl, ⟨hst _ _ _ hi3 (lift (rs := [w.heap.size + 1]) (fun x hx => .inr (by simpa using hx)) hO4), hs4, hl4, hd4⟩, hKs⟩⟩
        | ret =>
          obtain ⟨hk3, hi3⟩ := hp
          obtain ⟨W4, hr, hO4, hl4, hd4, hs4, hKs⟩ := fin (some .ret) W3 hk3
          exact ⟨_, _, hr, .inr ⟨rfl, _, hstx _ _ _ _ hi3 (lift (rs := [w.heap.size + 1]) (fun x hx => .inr (by simpa using hx)) hO4), hl4, hd4⟩⟩
        | exit id =>
          obtain ⟨hk3, hi3⟩ := hp
          obtain ⟨W4, hr, hO4, hl4, hd4, hs4, hKs⟩ := fin (some (.exit id)) W3 hk3
          exact ⟨_, _, hr, .inr ⟨rfl, _, hstx _ _ _ _ hi3 (lift (rs := [w.heap.size + 1]) (fun x hx => .inr (by simpa using hx)) hO4), hl4, hd4⟩⟩
        | goto t =>
          obtain ⟨hk3, hi3⟩ := hp
          obtain ⟨W4, hr, hO4, hl4, hd4, hs4, hKs⟩ := fin (some (.goto t)) W3 hk3
          exact ⟨_, _, hr, .inr ⟨rfl, _, hstx _ _ _ _ hi3 (lift (rs := [w.heap.size + 1]) (fun x hx => .inr (by simpa using hx)) hO4), hl4, hd4⟩⟩
        | panic ch => exact hp.elim
        | outgrown => exact hp.elim
      | ret => exact he.elim
      | exit id => exact he.elim
      | goto t => exact he.elim
      | panic ch => exact he.elim
      | outgrown => exact he.elim
    · exact hI.only hO1 (fun hm => nomatch hm) (fun _ _ hm => nomatch hm)
    · exact ⟨hst _ _ _ h0 (lift (rs := []) (fun _ hx => nomatch hx) hO1), by omega, hL1, hK1⟩
    · rintro e W2 ⟨⟨v, rfl⟩, (⟨hi, hsz, hl, hd⟩ | ⟨k, hk, c, hi, hl, hd⟩)⟩
      · have hr := run_endLoop (P := Tryd.prog) hl (by rw [hrec]; simp)
        rw [show (rec .ready none).pending = none by rw [hrec]] at hr
        exact ⟨none, _, hr, hdone _ _ (hst _ _ _ hi (lift (rs := [w.heap.size + 1]) (fun x hx => .inr (by simpa using hx)) (putObj_only _ _ _))) rfl ((World.putObj_heap_other (by omega)).trans hd)⟩
      · have hr := run_endLoop (P := Tryd.prog) hl (by rw [hrec]; simp)
        rw [show (rec .done (some c)).pending = some c by rw [hrec]] at hr
        exact ⟨some c, _, hr, hstop _ c k _ hk (hstx _ _ _ _ hi (lift (rs := [w.heap.size + 1]) (fun x hx => .inr (by simpa using hx)) (putObj_only _ _ _))) rfl ((World.putObj_heap_other (by omega)).trans hd)⟩
end Go.Proofs.YtakehogenioobaaDoor
