/-
  Going over the disk's map: the step's law, what stays beside the iterator.
-/
import Derived.Test.YtblggoneifmoeaaDoorDRename
import Derived.Maps.RangeWalk
namespace Go.Proofs.YtblggoneifmoeaaDoor
open Go.RowKit Go.Maps

section
variable {w w' : World} {m r n cnt : Nat} {D : DataW Unit} {left : Lit → Bool} {rs : List Nat}
abbrev Rg (w : World) (m r n : Nat) (D : DataW Unit) (left : Lit → Bool) (cnt : Nat) : Prop := w.ranges Tryd.prog 9 ptrElem m r n D left cnt
theorem ranges_only (h : Rg w m r n D left cnt) (o : Only rs w w') (hm : m ∉ rs) (hr : r ∉ rs) : Rg w' m r n D left cnt := by
  have h1 := h.owns.lt
  have h2 := h.lt
  obtain ⟨es, clock, since, seen, c0, hb, F, hs, hD, hit, rest⟩ := h
  exact ⟨es, clock, since, seen, c0, (o.block m h1 hm).trans hb, F, hs, hD, (o.block r h2 hr).trans hit, rest⟩
theorem iter_ne {g : Nat} {t : TypeId} {xs : Array Value} (h : Rg w m r n D left cnt) (hg : Bk w g t xs) : r ≠ g := by
  rintro rfl
  obtain ⟨es, clock, since, seen, c0, _, _, _, _, hit, _⟩ := h
  unfold Bk at hg
  rw [hit] at hg
  cases hg
theorem iter_own {t : TypeId} {A : Option Addr} {j c : Nat} {xs : List Value} (h : Rg w m r n D left cnt) (hg : Own w t A j c xs) : r ∉ blks A := by
  intro hm
  obtain ⟨cur, hc⟩ := hg.bk hm
  exact iter_ne h hc rfl
theorem iter_fpt {d room u lf : Nat} {fz : Bool} {cs : List Fc} (h : Rg w m r n D left cnt) (hk : Dk w d room u fz lf (some m) cs) : r ∉ fpt d (some m) cs := by
  intro hx
  rcases mem_fpt.1 hx with e | e | ⟨c, hc, e⟩ | ⟨c, hc, hx⟩
  · exact iter_ne h hk.bk e
  · injection e with e
    exact h.ne e.symm
  · exact iter_ne h (hk.file c hc).1 e
  · exact iter_own h (hk.file c hc).2 hx
theorem string_inv {key : Value} {kl : Lit} (h : keyOf Tryd.prog 9 key = some kl) : ∃ s : ByteArray, key = .string s ∧ kl = keyLit s := by
  cases key <;> simp [keyOf, Tryd.underlying9, mapKey] at h
  exact ⟨_, rfl, h.2.symm⟩

/-- THE STEP over a map of files. -/
theorem wpList_next_disk {ops : Array Oper} {rest : List Oper} {o : Oper} {a : Act} {Q : Exit → Act → World → Prop} {cs : List Fc} (hg : o.guard = none) (it : Operand) (hop : o.op = Op.next it false)
    (hit : a.eval it = .pointer (some ⟨r, 0, none⟩)) (h : Rg w m r n (Dm cs) left cnt)
    (hDone : (∀ kl, left kl = false) → wpList Tryd.prog ops Q rest (a.put o.dst (.tuple #[.bool false])) w)
    (hMore : ∀ (c : Fc) (w' : World) (cnt' : Nat), c ∈ cs → left (keyLit c.f.name) = true → Rg w' m r n (Dm cs) (fun z => left z && !z.sameKey (keyLit c.f.name)) cnt' → cnt' < cnt → Only [r] w w' →
      (Instr.entry (.pointer (some ⟨r, 0, none⟩))).run Tryd.prog w' = .ok (.tuple #[.string c.f.name, .pointer (some ⟨c.blk, 0, none⟩)]) w' → wpList Tryd.prog ops Q rest (a.put o.dst (.tuple #[.bool true, .string c.f.name, .pointer (some ⟨c.blk, 0, none⟩)])) w') :
    wpList Tryd.prog ops Q (o :: rest) a w := by
  refine wpList_plain hg fun K' hK' => ?_
  unfold Oper.wp
  rcases World.ranges.next h keyed o.type with ⟨_, hl, hrun⟩ | ⟨key, v, kl, y, w', cnt', hkey, hlk, hv, hat, hrun, hrg, hlt, hgr, hsz, hen⟩
  · simp [execOp, hop, hit, hrun, Result.andThen]
    exact hK' _ _ (hDone hl)
  · obtain ⟨s, rfl, rfl⟩ := string_inv hkey
    cases hc : findC cs s with
    | none =>
      have e1 := hat .nil
      have e2 := hat (.lit (.bool true))
      rw [atKey_dm, hc] at e1 e2
      dsimp only at e1 e2
      rw [← e1] at e2
      cases e2
    | some c =>
      have e1 := hat .nil
      rw [atKey_dm, hc] at e1
      dsimp only at e1
      obtain ⟨hm, rfl⟩ := findC_some hc
      have hv2 : v = .pointer (some ⟨c.blk, 0, none⟩) := ptrElem_some_inv (ps := y.2) (by rw [hv, e1])
      subst hv2
      simp [execOp, hop, hit, hrun, Result.andThen]
      exact hK' _ _ (hMore c w' cnt' hm hlk hrg hlt (by simpa using Only.of_grown hgr) hen)
end

/-- What is still to come is as it was, the rest as g has it: one more is done. -/
theorem split_map {cs csx : List Fc} {g : Fc → Fl} {c : Fc} (h1 : csx.map (·.f) = cs.map g) (h2 : csx.map (·.blk) = cs.map (·.blk)) (hc : c ∈ cs) :
    ∃ P Q Px cx Qx, cs = P ++ c :: Q ∧ csx = Px ++ cx :: Qx ∧ cx.f = g c ∧ cx.blk = c.blk ∧ Px.map (·.f) = P.map g ∧ Qx.map (·.f) = Q.map g ∧ Px.map (·.blk) = P.map (·.blk) ∧ Qx.map (·.blk) = Q.map (·.blk) := by
  obtain ⟨P, Q, rfl⟩ := List.append_of_mem hc
  have hl : csx.length = P.length + (Q.length + 1) := by
    have := congrArg List.length h1
    simpa using this
  obtain ⟨cx, Qx, he⟩ : ∃ cx Qx, csx.drop P.length = cx :: Qx := by
    cases hd : csx.drop P.length with
    | nil =>
      have := congrArg List.length hd
      simp at this
      omega
    | cons x r => exact ⟨x, r, rfl⟩
  have hs : csx = csx.take P.length ++ cx :: Qx := by rw [← he]; exact (List.take_append_drop _ _).symm
  have hp : (csx.take P.length).length = P.length := by rw [List.length_take]; omega
  refine ⟨P, Q, csx.take P.length, cx, Qx, rfl, hs, ?_⟩
  rw [hs, List.map_append, List.map_append, List.map_cons, List.map_cons] at h1 h2
  obtain ⟨a1, a2⟩ := List.append_inj h1 (by rw [List.length_map, List.length_map, hp])
  obtain ⟨b1, b2⟩ := List.append_inj h2 (by rw [List.length_map, List.length_map, hp])
  injection a2 with a2 a3
  injection b2 with b2 b3
  exact ⟨a2, b2, a1, a3, b1, b3⟩
end Go.Proofs.YtblggoneifmoeaaDoor
