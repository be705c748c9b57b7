/-
  A slice of events (two cells each) of the call's own, as values; append of one event.
-/
import Derived.Test.YtiekhgignmbaeaaLKnown2
import Derived.Test.YtiekhgignmbaeaaIntz
namespace Go.Proofs.Ytiekhgignmbaeaa
open Go.RowKit Go.Instr

/-- The cells of an event. -/
def EvCells (w : World) (G : List Nat) (A : Option Addr) (xs : List Value) (i : Nat) (e : Ev) : Prop :=
  ∃ Ai ci, xs[2 * i]? = some (.int .i64 (e.kind : Int)) ∧ xs[2 * i + 1]? = some (.slice Ai e.data.length ci) ∧ Sl w Ai e.data.length (bvs e.data) ∧ ∀ k ∈ blks Ai, k < w.heap.size ∧ k ∉ G ∧ k ∉ blks A
/-- The slice reads as these events; nothing of it lies in the blocks G. -/
def EvRow (G : List Nat) (w : World) (A : Option Addr) (n c : Nat) (es : List Ev) : Prop :=
  es.length = n ∧ (∀ k ∈ blks A, k ∉ G) ∧ ∃ xs, w.ownsRow 0 36 2 (.slice A n c) n xs ∧ ∀ (i : Nat) (e : Ev), es[i]? = some e → EvCells w G A xs i e
section
variable {G G' rs : List Nat} {w w' : World} {A : Option Addr} {n c : Nat} {es : List Ev}
theorem EvRow.nil (G : List Nat) (w : World) : EvRow G w none 0 0 [] := ⟨rfl, (fun _ hk => nomatch hk), [], ⟨rfl, .inl ⟨rfl, rfl⟩⟩, fun i e h => by simp at h⟩
theorem EvRow.len (h : EvRow G w A n c es) : es.length = n := h.1
theorem EvRow.lt (h : EvRow G w A n c es) : ∀ k ∈ blks A, k < w.heap.size := by
  obtain ⟨_, _, xs, h2, _⟩ := h
  intro k hk
  refine own_lt h2 ?_
  cases A with
  | none => cases hk
  | some a => simp at hk; simp [Value.ownBlock, hk]
/-- Of what was there only what lies in G has turned; G' is of G or new. -/
theorem EvRow.only (h : EvRow G w A n c es) (o : Only rs w w') (hr : ∀ x ∈ rs, x ∈ G) (hG : ∀ x ∈ G', x ∈ G ∨ w.heap.size ≤ x) : EvRow G' w' A n c es := by
  have hlt := h.lt
  obtain ⟨h1, h0, xs, h2, h3⟩ := h
  have hG' : ∀ x, x < w.heap.size → x ∉ G → x ∉ G' := fun x hx hn hm => by
    rcases hG x hm with h4 | h4
    · exact hn h4
    · omega
  refine ⟨h1, fun k hk => hG' k (hlt k hk) (h0 k hk), xs, own_only h2 o (fun k hk hm => ?_), fun i e he => ?_⟩
  · refine h0 k ?_ (hr k hm)
    cases A with
    | none => cases hk
    | some a => simp [Value.ownBlock] at hk; simp [hk]
  · obtain ⟨Ai, ci, k1, k2, k3, k4⟩ := h3 i e he
    refine ⟨Ai, ci, k1, k2, k3.only o (fun ad e hm => ?_), fun k hk => ⟨Nat.lt_of_lt_of_le (k4 k hk).1 o.size, hG' k (k4 k hk).1 (k4 k hk).2.1, (k4 k hk).2.2⟩⟩
    subst e
    exact (k4 ad.block (by simp)).2.1 (hr _ hm)
theorem EvRow.keep (h : EvRow G w A n c es) (o : Only [] w w') : EvRow G w' A n c es := h.only o (fun _ hx => nomatch hx) (fun _ hx => .inl hx)
/-- An event of it. -/
theorem EvRow.at_ (h : EvRow G w A n c es) (i : Nat) (hi : i < es.length) : ∃ bb, A = some ⟨bb, 0, none⟩ ∧ ∃ Ai ci, w.cell? ⟨bb, 2 * i, none⟩ = some (.int .i64 (es[i].kind : Int)) ∧ w.cell? ⟨bb, 2 * i + 1, none⟩ = some (.slice Ai es[i].data.length ci) ∧ Sl w Ai es[i].data.length (bvs es[i].data) := by
  obtain ⟨h1, _, xs, h2, h3⟩ := h
  obtain ⟨Ai, ci, k1, k2, k3, _⟩ := h3 i es[i] (List.getElem?_eq_getElem hi)
  obtain ⟨bb, cap, hv, _, _⟩ := h2.form (by omega)
  have hA : A = some ⟨bb, 0, none⟩ := by injection hv
  subst hA
  refine ⟨bb, rfl, Ai, ci, ?_, ?_, k3⟩
  · have := h2.cells (g := bb) rfl (2 * i) _ k1
    rwa [add_none, Nat.zero_add] at this
  · have := h2.cells (g := bb) rfl (2 * i + 1) _ k2
    rwa [add_none, Nat.zero_add] at this
end

theorem infoEv : (Try.prog.info? 36).map (fun i => (i.zero, i.size, i.bytes)) = some (some (.agg #[.int .i64 0, .slice none 0 0]), 2, 32) := by kernel_rfl
/-- One event is appended. -/
theorem wpList_append_ev {ops : Array Oper} {rest : List Oper} {o : Oper} {a : Act} {w : World} {Q : Exit → Act → World → Prop} (hgd : o.guard = none) (s x : Operand)
    (ho : o.op = .call { callee := .builtin .append, args := #[s, x], argTypes := #[45, 45] }) {G : List Nat} (A : Option Addr) (n c : Nat) (es : List Ev) (hs : a.eval s = .slice A n c) (h : EvRow G w A n c es)
    (e : Ev) (g2 : Nat) (Ae : Option Addr) (ce : Nat) (t2 : TypeId) (hx : a.eval x = .slice (some ⟨g2, 0, none⟩) 1 1) (hb : Bk w g2 t2 #[.int .i64 (e.kind : Int), .slice Ae e.data.length ce]) (hd : Sl w Ae e.data.length (bvs e.data))
    (hf : ∀ k ∈ blks Ae, k < w.heap.size ∧ k ∉ G ∧ k ∉ blks A) (hG : ∀ k ∈ G, k < w.heap.size) (hn : n ≤ 1000000)
    (hK : ∀ A' c' w', EvRow G w' A' (n + 1) c' (es ++ [e]) → Only (blks A) w w' → (∀ k ∈ blks A', k ∈ blks A ∨ w.heap.size ≤ k) → wpList Try.prog ops Q rest (a.put o.dst (.slice A' (n + 1) c')) w') : wpList Try.prog ops Q (o :: rest) a w := by
  obtain ⟨i0, hi, hz0, hz1, hz2⟩ := info_parts infoEv
  have hlt := h.lt
  obtain ⟨h1, h0, xs, h2, h3⟩ := h
  have hxl : xs.length = n * 2 := h2.1
  refine wpList_plain hgd fun K hK2 => ?_
  obtain ⟨v', w', hrun, r1, r2, _, r4⟩ := run_append_own_at (P := Try.prog) w 0 45 o.type 36 i0 (.agg #[.int .i64 0, .slice none 0 0]) 2 32 Try.underlying45 hi hz0 hz1 hz2 rfl (by omega) _ n xs h2 ⟨g2, 0, none⟩ 1 1 [.int .i64 (e.kind : Int), .slice Ae e.data.length ce] rfl (fun j u hu => by
    rw [add_none, Nat.zero_add, hb.cell]
    simpa using hu) (fun u hu => by simp at hu; rcases hu with rfl | rfl <;> rfl) (by unfold maxLen; omega) (by omega) (Nat.zero_le _)
  have hform : ∃ A' c', v' = .slice A' (n + 1) c' := by
    rcases r1.2 with ⟨_, h0⟩ | ⟨g, cap, cur, rfl, _⟩
    · omega
    · exact ⟨_, _, rfl⟩
  obtain ⟨A', c', rfl⟩ := hform
  have hO : Only (blks A) w w' := by
    have := Only.of_grown r2
    cases A with
    | none => simpa [Value.ownBlock] using this
    | some a => simpa [Value.ownBlock] using this
  have hA' : ∀ k ∈ blks A', k ∈ blks A ∨ w.heap.size ≤ k := fun k hk => by
    cases A' with
    | none => cases hk
    | some a' =>
      simp only [blks_some, List.mem_singleton] at hk
      subst hk
      rcases r4 with r4 | r4
      · left
        cases A with
        | none => simp [Value.ownBlock] at r4
        | some a => simp [Value.ownBlock] at r4; simp [r4]
      · right
        simp [Value.ownBlock] at r4
        omega
  have key : ∀ (f : Ev) (Ai : Option Addr), Sl w Ai f.data.length (bvs f.data) → (∀ k ∈ blks Ai, k < w.heap.size ∧ k ∉ G ∧ k ∉ blks A) → Sl w' Ai f.data.length (bvs f.data) ∧ ∀ k ∈ blks Ai, k < w'.heap.size ∧ k ∉ G ∧ k ∉ blks A' := by
    intro f Ai hs hk
    refine ⟨hs.only hO (fun ad e => by subst e; exact (hk ad.block (by simp)).2.2), fun k hk' => ⟨Nat.lt_of_lt_of_le (hk k hk').1 hO.size, (hk k hk').2.1, fun hm => ?_⟩⟩
    rcases hA' k hm with h4 | h4
    · exact (hk k hk').2.2 h4
    · have := (hk k hk').1; omega
  have hrow : EvRow G w' A' (n + 1) c' (es ++ [e]) := by
    refine ⟨by simp [h1], fun k hk hm => ?_, xs ++ [.int .i64 (e.kind : Int), .slice Ae e.data.length ce], r1, fun i f hf' => ?_⟩
    · rcases hA' k hk with h4 | h4
      · exact h0 k h4 hm
      · have := hG k hm; omega
    · by_cases hi' : i < n
      · rw [List.getElem?_append_left (by omega)] at hf'
        obtain ⟨Ai, ci, k1, k2, k3, k4⟩ := h3 i f hf'
        obtain ⟨k5, k6⟩ := key f Ai k3 k4
        exact ⟨Ai, ci, by rw [List.getElem?_append_left (by omega)]; exact k1, by rw [List.getElem?_append_left (by omega)]; exact k2, k5, k6⟩
      · have hlen := (List.getElem?_eq_some_iff.1 hf').1
        simp only [List.length_append, List.length_singleton] at hlen
        obtain rfl : i = n := by omega
        rw [List.getElem?_append_right (by omega), h1, Nat.sub_self] at hf'
        simp at hf'
        subst hf'
        obtain ⟨k5, k6⟩ := key e Ae hd hf
        refine ⟨Ae, ce, ?_, ?_, k5, k6⟩
        · rw [List.getElem?_append_right (by omega), show 2 * i - xs.length = 0 by omega]; rfl
        · rw [List.getElem?_append_right (by omega), show 2 * i + 1 - xs.length = 1 by omega]; rfl
  have := hK A' c' w' hrow hO hA'
  unfold Oper.wp execOp
  simp only [ho, resolve, invoke, builtin, Sem.run_bind, Sem.run_pure, Result.andThen_ok, List.map_toArray, List.map_cons, List.map_nil, hs, hx, hrun]
  exact hK2 _ _ this
end Go.Proofs.Ytiekhgignmbaeaa
