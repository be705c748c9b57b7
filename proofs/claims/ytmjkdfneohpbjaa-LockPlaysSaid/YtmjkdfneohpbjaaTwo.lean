/-
  Slices of structs of two one-cell fields: what a slice reads as, a slice of one's own, append, cuts. For any element's type.
-/
import Derived.Test.YtmjkdfneohpbjaaAppend
namespace Go.Proofs.Ytmjkdfneohpbjaa
open Go.RowKit

abbrev Tw := Value × Value
def pvs (l : List Tw) : List Value := l.flatMap fun r => [r.1, r.2]
theorem pvs_len (l : List Tw) : (pvs l).length = l.length * 2 := by
  induction l with
  | nil => rfl
  | cons f r ih =>
    unfold pvs at ih ⊢
    rw [List.flatMap_cons, List.length_append, ih]
    simp
    omega
theorem pvs_append (a b : List Tw) : pvs (a ++ b) = pvs a ++ pvs b := by simp [pvs]
theorem pvs_get {l : List Tw} {k : Nat} (h : k < l.length) : (pvs l)[k * 2]? = some l[k].1 ∧ (pvs l)[k * 2 + 1]? = some l[k].2 := by
  have e : pvs l = pvs (l.take k) ++ pvs (l.drop k) := by rw [← pvs_append, List.take_append_drop]
  have hl : (pvs (l.take k)).length = k * 2 := by rw [pvs_len, List.length_take]; congr 1; omega
  rw [e, List.drop_eq_getElem_cons h]
  refine ⟨?_, ?_⟩
  · rw [List.getElem?_append_right (by omega), hl, Nat.sub_self]; rfl
  · rw [List.getElem?_append_right (by omega), hl, show k * 2 + 1 - k * 2 = 1 by omega]; rfl
theorem pvs_take (l : List Tw) (k : Nat) : pvs (l.take k) = (pvs l).take (k * 2) := by
  rcases Nat.lt_or_ge l.length k with h | h
  · have h2 : (pvs l).length ≤ k * 2 := by rw [pvs_len]; omega
    rw [List.take_of_length_le (Nat.le_of_lt h), List.take_of_length_le h2]
  · have e : pvs l = pvs (l.take k) ++ pvs (l.drop k) := by rw [← pvs_append, List.take_append_drop]
    have hl : (pvs (l.take k)).length = k * 2 := by rw [pvs_len, List.length_take]; congr 1; omega
    rw [e, ← hl, List.take_left]
theorem pvs_drop (l : List Tw) (k : Nat) : pvs (l.drop k) = (pvs l).drop (k * 2) := by
  rcases Nat.lt_or_ge l.length k with h | h
  · have h2 : (pvs l).length ≤ k * 2 := by rw [pvs_len]; omega
    rw [List.drop_of_length_le (Nat.le_of_lt h), List.drop_of_length_le h2]; rfl
  · have e : pvs l = pvs (l.take k) ++ pvs (l.drop k) := by rw [← pvs_append, List.take_append_drop]
    have hl : (pvs (l.take k)).length = k * 2 := by rw [pvs_len, List.length_take]; congr 1; omega
    rw [e, ← hl, List.drop_left]
def OneC (l : List Tw) : Prop := ∀ r ∈ l, r.1.oneCell' = true ∧ r.2.oneCell' = true
theorem OneC.all {l : List Tw} (h : OneC l) : ∀ u ∈ pvs l, u.oneCell' = true := by
  intro u hu
  unfold pvs at hu
  obtain ⟨r, hr, hu⟩ := List.mem_flatMap.1 hu
  simp at hu
  rcases hu with rfl | rfl
  · exact (h r hr).1
  · exact (h r hr).2
/-- The slice reads as these. -/
def Pw (w : World) (A : Option Addr) (n : Nat) (l : List Tw) : Prop := l.length = n ∧ (0 < n → ∃ ad, A = some ad ∧ ∀ j u, (pvs l)[j]? = some u → w.cell? (ad.add j) = some u)
section
variable {w w' : World} {A : Option Addr} {n c : Nat} {l : List Tw} {rs : List Nat} {T : TypeId}
theorem Pw.nil (w : World) (A : Option Addr) : Pw w A 0 [] := ⟨rfl, fun h => absurd h (by omega)⟩
theorem Pw.at_ (h : Pw w A n l) {k : Nat} (hk : k < l.length) : ∃ ad, A = some ad ∧ w.cell? (ad.add (k * 2)) = some l[k].1 ∧ w.cell? ⟨(ad.add (k * 2)).block, (ad.add (k * 2)).off + 1, none⟩ = some l[k].2 := by
  obtain ⟨ad, e, hc⟩ := h.2 (by have := h.1; omega)
  obtain ⟨h1, h2⟩ := pvs_get hk
  refine ⟨ad, e, hc _ _ h1, ?_⟩
  have := hc _ _ h2
  rw [← add_add] at this
  exact this
theorem Pw.only (h : Pw w A n l) (o : Only rs w w') (hd : ∀ x ∈ blks A, x ∉ rs) : Pw w' A n l :=
  ⟨h.1, fun hn => by
    obtain ⟨ad, rfl, hc⟩ := h.2 hn
    exact ⟨ad, rfl, fun j u hu => o.cellSome (hc j u hu) (by rw [add_block]; exact hd _ (by simp))⟩⟩
theorem Pw.keep (h : Pw w A n l) (o : Only [] w w') : Pw w' A n l := h.only o (fun _ _ hm => nomatch hm)
theorem Pw.pre (h : Pw w A n l) {k : Nat} (hk : k ≤ n) : Pw w A k (l.take k) := by
  refine ⟨by rw [List.length_take, h.1]; omega, fun hn => ?_⟩
  obtain ⟨ad, e, hc⟩ := h.2 (by omega)
  refine ⟨ad, e, fun j u hu => hc j u ?_⟩
  rw [pvs_take, List.getElem?_take] at hu
  split at hu
  · exact hu
  · cases hu
theorem Pw.cut (h : Pw w A n l) {k : Nat} (hk : k ≤ n) (hc : n ≤ c) : Pw w (if c = k then A else A.map (·.add (k * 2))) (n - k) (l.drop k) := by
  refine ⟨by rw [List.length_drop, h.1], fun hn => ?_⟩
  obtain ⟨ad, rfl, hcell⟩ := h.2 (by omega)
  rw [if_neg (by omega)]
  refine ⟨ad.add (k * 2), rfl, fun j u hu => ?_⟩
  rw [add_add]
  exact hcell _ u (by rw [← hu, pvs_drop, List.getElem?_drop])
theorem Pw.of_bk {g : Nat} {t : TypeId} {a b : Value} (h : Bk w g t #[a, b]) : Pw w (some ⟨g, 0, none⟩) 1 [(a, b)] := by
  refine ⟨rfl, fun _ => ⟨_, rfl, fun j u hu => ?_⟩⟩
  rw [add_none, Nat.zero_add, h.cell]
  simpa [pvs] using hu

/-- A slice of one's own. -/
def Po (w : World) (T : TypeId) (A : Option Addr) (n c : Nat) (l : List Tw) : Prop := l.length = n ∧ w.ownsRow 0 T 2 (.slice A n c) n (pvs l)
theorem Po.nil (w : World) (T : TypeId) : Po w T none 0 0 [] := ⟨rfl, rfl, .inl ⟨rfl, rfl⟩⟩
theorem Po.empty (w : World) (T : TypeId) : Po (w.alloc (.cells #[] T)) T (some ⟨w.heap.size, 0, none⟩) 0 0 [] :=
  ⟨rfl, rfl, .inr ⟨w.heap.size, 0, #[], rfl, Nat.zero_le _, heap_alloc_new w _, Nat.le_refl _, Nat.zero_le _, rfl, rfl⟩⟩
theorem Po.only (h : Po w T A n c l) (o : Only rs w w') (hd : ∀ x ∈ blks A, x ∉ rs) : Po w' T A n c l :=
  ⟨h.1, own_only h.2 o (fun k hk => hd k (by
    cases A with
    | none => cases hk
    | some a => simp [Value.ownBlock] at hk; simp [hk]))⟩
theorem Po.keep (h : Po w T A n c l) (o : Only [] w w') : Po w' T A n c l := h.only o (fun _ _ hm => nomatch hm)
theorem Po.bk (h : Po w T A n c l) {k : Nat} (hk : k ∈ blks A) : ∃ cur, Bk w k T cur := by
  refine own_bk h.2 ?_
  cases A with
  | none => cases hk
  | some a => simp at hk; simp [Value.ownBlock, hk]
theorem Po.lt (h : Po w T A n c l) {k : Nat} (hk : k ∈ blks A) : k < w.heap.size := by
  obtain ⟨cur, hc⟩ := h.bk hk
  exact hc.lt
theorem Po.cap (h : Po w T A n c l) : n ≤ c := by
  rcases h.2.2 with ⟨hv, h0⟩ | ⟨g, cap, cur, hv, _, _, hc, _⟩
  · simp only [Value.slice.injEq] at hv; omega
  · simp only [Value.slice.injEq] at hv; omega
theorem Po.reads (h : Po w T A n c l) : Pw w A n l := by
  obtain ⟨h1, h2⟩ := h
  refine ⟨h1, fun hn => ?_⟩
  obtain ⟨bb, cap, hv, _, _⟩ := h2.form (by omega)
  have hA : A = some ⟨bb, 0, none⟩ := by injection hv
  subst hA
  exact ⟨_, rfl, fun j u hu => h2.cells (g := bb) rfl j u hu⟩
end
section
variable {P : Program} {w : World}
theorem run_append_po (st ty T : TypeId) (i : TypeInfo) (z : Value) (bytes : Nat) (ht : P.underlying st = some (.slice T)) (hi : P.info? T = some i) (hz : i.zero = some z) (hsize : i.size = 2) (hby : i.bytes = bytes) (hzs : z.cells.size = 2)
    (A : Option Addr) (n c : Nat) (l : List Tw) (h : Po w T A n c l) (B : Option Addr) (m d : Nat) (t : List Tw) (ht2 : Pw w B m t) (h1 : OneC t) (h63 : n + m ≤ maxLen) (hbytes : (n + m) * bytes ≤ 140737488355328) :
    ∃ A' c' w', (Builtin.append_ #[st, st] ty #[.slice A n c, .slice B m d]).run P w = .ok (.slice A' (n + m) c') w' ∧ Po w' T A' (n + m) c' (l ++ t) ∧ Only (blks A) w w' ∧ ∀ k ∈ blks A', k ∈ blks A ∨ w.heap.size ≤ k := by
  obtain ⟨hl, hown⟩ := h
  have nothing : m = 0 → t = [] := fun h => List.eq_nil_of_length_eq_zero (by have := ht2.1; omega)
  cases B with
  | none =>
    have hm : m = 0 := by
      rcases Nat.eq_zero_or_pos m with h0 | h0
      · exact h0
      · obtain ⟨ad, h, _⟩ := ht2.2 h0
        cases h
    subst hm
    rw [nothing rfl]
    exact ⟨A, c, w, run_append_none' 0 st ty T i 2 ht hi _ n _ hown d, by simpa using ⟨hl, hown⟩, Only.refl _ _, fun k hk => .inl hk⟩
  | some ad =>
    have hcells : ∀ j u, (pvs t)[j]? = some u → w.cell? (ad.add j) = some u := by
      intro j u hu
      rcases Nat.eq_zero_or_pos m with h0 | h0
      · rw [nothing h0] at hu
        simp [pvs] at hu
      · obtain ⟨ad', h, hc⟩ := ht2.2 h0
        injection h with h
        subst h
        exact hc j u hu
    obtain ⟨v', w', hrun, r1, r2, _, r4⟩ := run_append_own_at (P := P) w 0 st ty T i z 2 bytes ht hi hz hsize hby hzs (by omega) _ n (pvs l) hown ad m d (pvs t) (by rw [pvs_len, ht2.1]) hcells h1.all h63 hbytes (Nat.zero_le _)
    have hform : ∃ A' c', v' = .slice A' (n + m) c' := by
      rcases r1.2 with ⟨rfl, h0⟩ | ⟨g, cap, cur, rfl, _⟩
      · exact ⟨none, 0, by rw [h0]⟩
      · exact ⟨_, _, rfl⟩
    obtain ⟨A', c', rfl⟩ := hform
    refine ⟨A', c', w', hrun, ⟨by rw [List.length_append, hl, ht2.1], by rw [pvs_append]; exact r1⟩, ?_, fun k hk => ?_⟩
    · have := Only.of_grown r2
      cases A with
      | none => simpa [Value.ownBlock] using this
      | some a => simpa [Value.ownBlock] using this
    · cases A' with
      | none => cases hk
      | some a' =>
        simp only [blks_some, List.mem_singleton] at hk
        subst hk
        rcases r4 with r4 | r4
        · left
          cases A with
          | none => simp [Value.ownBlock] at r4
          | some a => simp [Value.ownBlock] at r4; simp [r4]
        · right
          simp [Value.ownBlock] at r4
          omega
theorem wpList_append_po {ops : Array Oper} {rest : List Oper} {o : Oper} {a : Act} {Q : Exit → Act → World → Prop} (hgd : o.guard = none) (s x : Operand) (st : TypeId)
    (ho : o.op = .call { callee := .builtin .append, args := #[s, x], argTypes := #[st, st] }) (T : TypeId) (i : TypeInfo) (z : Value) (bytes : Nat) (ht : P.underlying st = some (.slice T)) (hi : P.info? T = some i) (hz : i.zero = some z) (hsize : i.size = 2) (hby : i.bytes = bytes) (hzs : z.cells.size = 2)
    (A : Option Addr) (n c : Nat) (l : List Tw) (hs : a.eval s = .slice A n c) (h : Po w T A n c l) (B : Option Addr) (m d : Nat) (t : List Tw) (hx : a.eval x = .slice B m d) (ht2 : Pw w B m t) (h1 : OneC t) (h63 : n + m ≤ maxLen) (hbytes : (n + m) * bytes ≤ 140737488355328)
    (q : Nat) (hq : n + m = q) (hK : ∀ A' c' w', Po w' T A' q c' (l ++ t) → Only (blks A) w w' → (∀ k ∈ blks A', k ∈ blks A ∨ w.heap.size ≤ k) → wpList P ops Q rest (a.put o.dst (.slice A' q c')) w') : wpList P ops Q (o :: rest) a w := by
  subst hq
  refine wpList_plain hgd fun K hK2 => ?_
  obtain ⟨A', c', w', hrun, k1, k2, k3⟩ := run_append_po st o.type T i z bytes ht hi hz hsize hby hzs A n c l h B m d t ht2 h1 h63 hbytes
  unfold Oper.wp execOp
  simp only [ho, resolve, invoke, builtin, Sem.run_bind, Sem.run_pure, Result.andThen_ok, List.map_toArray, List.map_cons, List.map_nil, hs, hx, hrun]
  exact hK2 _ _ (hK A' c' w' k1 k2 k3)
end
end Go.Proofs.Ytmjkdfneohpbjaa
