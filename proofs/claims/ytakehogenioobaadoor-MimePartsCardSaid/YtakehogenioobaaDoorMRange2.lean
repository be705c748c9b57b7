/-
  The law of the loop over the pieces of a text.
-/
import Derived.Test.YtakehogenioobaaDoorMRange
namespace Go.Proofs.YtakehogenioobaaDoor
open Go.RowKit Go.Instr
attribute [local go_sem] Oper.semAt_some
set_option maxRecDepth 100000 in
/- THE LOOP. -/
set_option maxHeartbeats 1000000 in
theorem range_pieces {g : Operand} {p : Tmp} {assign body : Code} {Q : Exit → Act → World → Prop} {a : Act} {w : World} {n : Nat} (hn : 3 ≤ n) {X : Nat} {b r : List UInt8} {S : List Nat}
    (hg : a.eval g = .func (.func 77) #[] #[.pointer (some ⟨X + 1, 0, none⟩), .pointer (some ⟨X, 0, none⟩), .pointer (some ⟨X + 2, 0, none⟩)]) (hI : IterP w X b 0 r) (hS : ∀ k ∈ S, k < w.heap.size) (hXS : X ∈ S) (hX1 : X + 1 ∈ S) (hX2 : X + 2 ∈ S)
    (I : Nat → World → Prop) (Ix : Code → Nat → World → Prop) (hst : ∀ k W W', I k W → Only [X, w.heap.size + 1] W W' → I k W') (hstx : ∀ c k W W', Ix c k W → Only [X, w.heap.size + 1] W W' → Ix c k W') (h0 : I 0 w) (a₁ : Value → Act)
    (hassign : ∀ (l : Nat) (v : Value) (W : World) (K : Act → World → Prop), K (a₁ v) W → assign.wpIn (Fence.wide.inRound l) (n - 1 - 1) Tryd.prog (Exit.then K (fun _ _ _ => False)) { tmps := a.tmps.setIfInBounds p v, defers := [] } W)
    (hbody : ∀ (l k : Nat) (ln : List UInt8) (W : World), I k W → (pcs b)[k]? = some ln → w.heap.size + 2 ≤ W.heap.size →
      body.wpIn (Fence.wide.inRound l) (n - 1 - 1) Tryd.prog (linePost (w.heap.size :: (w.heap.size + 1) :: S) I Ix k W) (a₁ (.string (St ln))) W)
    (hdone : ∀ (D : Nat) (W : World), I (pcs b).length W → D = w.heap.size → W.heap[D]? = some (.deferred (some [])) → Q .normal { a with defers := { target := .collected D, args := #[] } :: a.defers } W)
    (hstop : ∀ (D : Nat) (c : Code) (k : Nat) (W : World), k ≤ (pcs b).length → Ix c k W → D = w.heap.size → W.heap[D]? = some (.deferred (some [])) → c.wpIn Fence.wide n Tryd.prog Q { a with defers := { target := .collected D, args := #[] } :: a.defers } W) :
    (Code.rangeFunc g #[p] assign body).wpIn Fence.wide n Tryd.prog Q a w := by
  have hXlt : X < w.heap.size := hS X hXS
  refine wpIn_rangeFunc fun fn hfn => ?_
  obtain ⟨rec, hrec⟩ : ∃ rec : LoopState → Option Code → Loop, rec = fun st pe => { state := st, pending := pe, fn, tmps := a.tmps, params := #[p], assign, body, defers := w.heap.size } := ⟨_, rfl⟩
  obtain ⟨W1, hW1⟩ : ∃ W1, (w.alloc (.deferred (some []))).alloc (.loop (rec .ready none)) = W1 := ⟨_, rfl⟩
  have hsz1 : W1.heap.size = w.heap.size + 2 := by rw [← hW1]; simp
  have hO1 : Only [] w W1 := by rw [← hW1]; exact ((Only.refl _ _).alloc _).alloc _
  have hL1 : W1.heap[w.heap.size + 1]? = some (.loop (rec .ready none)) := by
    rw [← hW1]; have := World.alloc_heap_new (w.alloc (.deferred (some []))) (.loop (rec .ready none)); rwa [World.size_alloc] at this
  have hK1 : W1.heap[w.heap.size]? = some (.deferred (some [])) := by
    rw [← hW1]; exact (Below.heap_alloc _ _ _ (by simp)).trans (World.alloc_heap_new w _)
  have lift : ∀ {rs : List Nat} {A B : World}, (∀ x ∈ rs, x = X ∨ x = w.heap.size + 1) → Only rs A B → Only [X, w.heap.size + 1] A B := fun hrs h => h.mono (fun x hx => by
    left
    rcases hrs x hx with rfl | rfl <;> simp)
  refine ⟨w.heap.size + 1, [{ target := .collected w.heap.size, args := #[] }], W1, { target := .fn (.func 77) #[.pointer (some ⟨X + 1, 0, none⟩), .pointer (some ⟨X, 0, none⟩), .pointer (some ⟨X + 2, 0, none⟩)], args := #[.func (.yield (w.heap.size + 1)) #[] #[]] }, W1, 77,
    #[.func (.yield (w.heap.size + 1)) #[] #[], .pointer (some ⟨X + 1, 0, none⟩), .pointer (some ⟨X, 0, none⟩), .pointer (some ⟨X + 2, 0, none⟩)], W1, ?_, ?_, fun _ _ => trivial, ?_, fun _ => by omega, ?_⟩
  · rw [← hW1, hrec]; exact run_enterLoop_outer _ _ _ _ _
  · simp only [resolve, hg]
    simp [go_sem]
  · simp only [invoke]
    exact enters_of Tryd.func77 (by kernel_rfl) rfl _ _
  · refine (split1_in (n - 1) (w.heap.size + 1) X (by omega) S b
      (fun k W => I k W ∧ w.heap.size + 2 ≤ W.heap.size ∧ W.heap[w.heap.size + 1]? = some (.loop (rec .ready none)) ∧ W.heap[w.heap.size]? = some (.deferred (some [])))
      (fun k W => ∃ c, Ix c k W ∧ W.heap[w.heap.size + 1]? = some (.loop (rec .done (some c))) ∧ W.heap[w.heap.size]? = some (.deferred (some []))) hXS hX1 hX2 ?_ ?_ W1 r ?_ ?_).mono ?_
    · rintro k A B ⟨h1, h2, h3, h4⟩ hO
      exact ⟨hst k A B h1 (lift (fun x hx => .inl (by simpa using hx)) hO), Nat.le_trans h2 hO.size, (hO.block _ (by omega) (by simp; omega)).trans h3, (hO.block _ (by omega) (by simp; omega)).trans h4⟩
    · rintro k ln W ⟨hi, hsz, hl, hk⟩ hln
      have hy := run_yield (P := Tryd.prog) (args := #[.string (St ln)]) hl (by rw [hrec]; rfl)
      rw [hrec] at hy
      have hy' : (Instr.yield (w.heap.size + 1) #[.string (St ln)]).run Tryd.prog W = .ok (.round (w.heap.size + 1) fn (a.tmps.setIfInBounds p (.string (St ln))) assign body) W := by simpa using hy
      refine ⟨fn, _, assign, body, hy', roundIn_of_wpIn hfn ?_⟩
      refine wpIn_mono (hassign (w.heap.size + 1) (.string (St ln)) W (fun a1 w1 => a1 = a₁ (.string (St ln)) ∧ w1 = W) ⟨rfl, rfl⟩) ?_
      rintro e a2 w2 he
      cases e with
      | normal =>
        obtain ⟨rfl, rfl⟩ := he
        refine ⟨_, run_beginRound hl (by rw [hrec]), ?_⟩
        obtain ⟨W2, hW2⟩ : ∃ W2, w2.putObj (w.heap.size + 1) (.loop { rec .ready none with state := .busy }) = W2 := ⟨_, rfl⟩
        have hO2 : Only [w.heap.size + 1] w2 W2 := by rw [← hW2]; exact putObj_only _ _ _
        have hl2 : W2.heap[w.heap.size + 1]? = some (.loop (rec .busy none)) := by rw [← hW2, World.putObj_heap_same (by omega), hrec]
        have hk2 : W2.heap[w.heap.size]? = some (.deferred (some [])) := (hO2.block _ (by omega) (by simp)).trans hk
        have hsz2 : w.heap.size + 2 ≤ W2.heap.size := Nat.le_trans hsz hO2.size
        rw [hW2]
        refine wpIn_mono (hbody (w.heap.size + 1) k ln W2 (hst k _ _ hi (lift (rs := [w.heap.size + 1]) (fun x hx => .inr (by simpa using hx)) hO2)) hln hsz2) ?_
        have fin : ∀ (jump : Option Code) (W3 : World), Keeps (w.heap.size :: (w.heap.size + 1) :: S) W2 W3 →
            ∃ W4, (Instr.endRound (w.heap.size + 1) jump).run Tryd.prog W3 = .ok (.bool jump.isNone) W4 ∧ Only [w.heap.size + 1] W3 W4 ∧ W4.heap[w.heap.size + 1]? = some (.loop (rec (if jump.isNone then .ready else .done) jump)) ∧
              W4.heap[w.heap.size]? = some (.deferred (some [])) ∧ w.heap.size + 2 ≤ W4.heap.size ∧ Keeps S w2 W4 := by
          intro jump W3 hk3
          have hl3 : W3.heap[w.heap.size + 1]? = some (.loop (rec .busy none)) := (hk3.block _ (by simp)).trans hl2
          have hd3 : W3.heap[w.heap.size]? = some (.deferred (some [])) := (hk3.block _ (by simp)).trans hk2
          have hsz3 : w.heap.size + 2 ≤ W3.heap.size := Nat.le_trans hsz2 hk3.size
          have hr := run_endRound (P := Tryd.prog) jump hl3
          have hO4 := putObj_only W3 (w.heap.size + 1) (.loop { rec .busy none with state := if jump.isNone then .ready else .done, pending := jump })
          refine ⟨_, hr, hO4, by rw [World.putObj_heap_same (by omega), hrec], (hO4.block _ (by omega) (by simp)).trans hd3, Nat.le_trans hsz3 hO4.size, ?_⟩
          have hSk : ∀ k ∈ S, k < w2.heap.size ∧ k ∉ [w.heap.size + 1] := fun k hk => by have := hS k hk; exact ⟨by omega, by simp; omega⟩
          refine ((hO2.keeps hSk).trans (hk3.mono (fun k hk => by simp [hk]))).trans (hO4.keeps (fun k hk => ?_))
          have := hS k hk
          exact ⟨by omega, by simp; omega⟩
        rintro e a3 W3 hp
        cases e with
        | normal =>
          obtain ⟨hk3, hi3⟩ := hp
          obtain ⟨W4, hr, hO4, hl4, hd4, hs4, hKs⟩ := fin none W3 hk3
          exact ⟨_, _, hr, .inl ⟨rfl, ⟨hst _ _ _ hi3 (lift (rs := [w.heap.size + 1]) (fun x hx => .inr (by simpa using hx)) hO4), hs4, hl4, hd4⟩, hKs⟩⟩
        | ret =>
          obtain ⟨hk3, hi3⟩ := hp
          obtain ⟨W4, hr, hO4, hl4, hd4, hs4, hKs⟩ := fin (some .ret) W3 hk3
          exact ⟨_, _, hr, .inr ⟨rfl, _, hstx _ _ _ _ hi3 (lift (rs := [w.heap.size + 1]) (fun x hx => .inr (by simpa using hx)) hO4), hl4, hd4⟩⟩
        | exit id =>
          obtain ⟨hk3, hi3⟩ := hp
          obtain ⟨W4, hr, hO4, hl4, hd4, hs4, hKs⟩ := fin (some (.exit id)) W3 hk3
          exact ⟨_, _, hr, .inr ⟨rfl, _, hstx _ _ _ _ hi3 (lift (rs := [w.heap.size + 1]) (fun x hx => .inr (by simpa using hx)) hO4), hl4, hd4⟩⟩
        | goto t =>
          obtain ⟨hk3, hi3⟩ := hp
          obtain ⟨W4, hr, hO4, hl4, hd4, hs4, hKs⟩ := fin (some (.goto t)) W3 hk3
          exact ⟨_, _, hr, .inr ⟨rfl, _, hstx _ _ _ _ hi3 (lift (rs := [w.heap.size + 1]) (fun x hx => .inr (by simpa using hx)) hO4), hl4, hd4⟩⟩
        | panic ch => exact hp.elim
        | outgrown => exact hp.elim
      | ret => exact he.elim
      | exit id => exact he.elim
      | goto t => exact he.elim
      | panic ch => exact he.elim
      | outgrown => exact he.elim
    · exact hI.only hO1 (fun hm => nomatch hm) (fun hm => nomatch hm) (fun hm => nomatch hm)
    · exact ⟨hst _ _ _ h0 (lift (rs := []) (fun _ hx => nomatch hx) hO1), by omega, hL1, hK1⟩
    · rintro e W2 ⟨⟨v, rfl⟩, (⟨hi, hsz, hl, hd⟩ | ⟨k, hk, c, hi, hl, hd⟩)⟩
      · have hr := run_endLoop (P := Tryd.prog) hl (by rw [hrec]; simp)
        rw [show (rec .ready none).pending = none by rw [hrec]] at hr
        exact ⟨none, _, hr, hdone _ _ (hst _ _ _ hi (lift (rs := [w.heap.size + 1]) (fun x hx => .inr (by simpa using hx)) (putObj_only _ _ _))) rfl ((World.putObj_heap_other (by omega)).trans hd)⟩
      · have hr := run_endLoop (P := Tryd.prog) hl (by rw [hrec]; simp)
        rw [show (rec .done (some c)).pending = some c by rw [hrec]] at hr
        exact ⟨some c, _, hr, hstop _ c k _ hk (hstx _ _ _ _ hi (lift (rs := [w.heap.size + 1]) (fun x hx => .inr (by simpa using hx)) (putObj_only _ _ _))) rfl ((World.putObj_heap_other (by omega)).trans hd)⟩
end Go.Proofs.YtakehogenioobaaDoor
