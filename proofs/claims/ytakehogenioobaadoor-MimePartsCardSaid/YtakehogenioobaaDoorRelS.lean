/-
  Regions that draw (XRel), with one promise more of what writes: blocks of at most two cells lie as they lay (a slice of two bytes that the region itself lays, while others append to a row that is longer). Plain theorems: nothing of the program stands here.
-/
import Derived.Test.YtakehogenioobaaDoorRel
import Derived.Test.YtakehogenioobaaDoorGro
namespace Go.Proofs.YtakehogenioobaaDoor
open Go Go.RowKit

/-- Blocks of at most two cells lie as they lay. -/
def Small2 (w w' : World) : Prop := ∀ (k : Nat) (cs : Array Value) (t : TypeId) (fr : Nat × Nat), w.heap[k]? = some (.cells cs t fr) → cs.size ≤ 2 → w'.heap[k]? = some (.cells cs t fr)
structure OnlyS (B : Nat) (rs : List Nat) (w w' : World) : Prop where
  b : OnlyB B rs w w'
  s : Small2 w w'
theorem onlyS_trans {B : Nat} {rs : List Nat} : ∀ a b c : World, OnlyS B rs a b → OnlyS B rs b c → OnlyS B rs a c := fun _ _ _ h k => ⟨onlyB_trans _ _ _ h.b k.b, fun i cs t fr h1 h2 => k.s i cs t fr (h.s i cs t fr h1 h2) h2⟩
theorem OnlyS.of {B : Nat} {rs ss : List Nat} {a b : World} (h : Only ss a b) (hs : ∀ x ∈ ss, x ∈ rs ∨ B ≤ x) (hb : ∀ x ∈ ss, ∀ (cs : Array Value) (t : TypeId) (fr : Nat × Nat), a.heap[x]? = some (.cells cs t fr) → 3 ≤ cs.size) : OnlyS B rs a b :=
  ⟨OnlyB.of h hs, fun i cs t fr h1 h2 => by
    have hi : i < a.heap.size := (Array.getElem?_eq_some_iff.1 h1).1
    have hn : i ∉ ss := fun hm => by have := hb i hm cs t fr h1; omega
    rw [h.block i hi hn]
    exact h1⟩
theorem onlyS_sub {B : Nat} {rs : List Nat} : ∀ a b : World, Only [] a b → OnlyS B rs a b := fun _ _ h => OnlyS.of h (fun _ hx => nomatch hx) (fun _ hx => nomatch hx)
theorem TkS_refl {B : Nat} {rs Ws : List Nat} {k : Nat} : ∀ a, Tk (Only []) (OnlyS B rs) Ws k a a := fun a => by
  unfold Tk; split
  · exact onlyS_sub _ _ (Only.refl _ _)
  · exact Only.refl _ _
theorem TkS_only {B : Nat} {rs Ws : List Nat} {k : Nat} {w w' : World} (h : Only [] w w') : Tk (Only []) (OnlyS B rs) Ws k w w' := by
  unfold Tk; split
  · exact onlyS_sub _ _ h
  · exact h
theorem TkS_writes {B : Nat} {rs ss Ws : List Nat} {k : Nat} {w w' : World} (hk : Ws.contains k = true) (h : Only ss w w') (hs : ∀ x ∈ ss, x ∈ rs ∨ B ≤ x) (hb : ∀ x ∈ ss, ∀ (cs : Array Value) (t : TypeId) (fr : Nat × Nat), w.heap[x]? = some (.cells cs t fr) → 3 ≤ cs.size) : Tk (Only []) (OnlyS B rs) Ws k w w' := by
  unfold Tk
  rw [if_pos hk]
  exact OnlyS.of h hs hb
section
variable {P : Program} {ops : Array Oper} {a : Act} {Q : Exit → Act → World → Prop} {l : List Oper} {K : List Kd}
theorem lastsS {B : Nat} {rs Ws : List Nat} {k x : Nat} {φ : Value → World → Prop} (h : ∀ v w w', φ v w → OnlyS B rs w w' → φ v w') : ∀ v w w', φ v w → Sb ops (Only []) (OnlyS B rs) Ws k x w w' → φ v w' := by
  intro v w w' h1 h2
  unfold Sb at h2
  split at h2
  · exact h v w w' h1 h2
  · exact h v w w' h1 (onlyS_sub _ _ h2)
theorem region_writesS (rs Ws : List Nat) {id : Nat} {w : World} (hm : P.follows .mixedOrders = true) (hB : (relB l.toArray && decide (l.length < 9999)) = true) (h : relWalk P l.toArray (Only []) (OnlyS w.heap.size rs) Ws w.drew Q K l 0 a []) : (Code.region id l.toArray true).wp P Q a w :=
  wp_region_rel (Only []) (OnlyS w.heap.size rs) Ws (Only.refl []) only_trans onlyS_trans onlyS_sub hm hB h
theorem gives_append_gro {w : World} {T : World → World → Prop} {φ : Value → World → Prop} {o : Oper} {a : Act} (s x : Operand) (t : TypeId)
    (ho : o.op = .call { callee := .builtin .append, args := #[s, x], argTypes := #[t, t] }) (e : TypeId) (i : TypeInfo) (z : Value) (bytes : Nat) (ht : P.underlying t = some (.slice e)) (hi : P.info? e = some i)
    (hz : i.zero = some z) (hsize : i.size = 1) (hby : i.bytes = bytes) (hzs : z.cells.size = 1) (A : Option Addr) (n c : Nat) (xs : List Value) (hs : a.eval s = .slice A n c) (hown : Gro w A n c xs)
    (A2 : Option Addr) (m c2 : Nat) (news : List Value) (hx : a.eval x = .slice A2 m c2) (hr : Sl w A2 m news) (h1 : ∀ u ∈ news, u.oneCell' = true) (h63 : n + m ≤ maxLen) (hbytes : (n + m) * bytes ≤ 140737488355328)
    (h : ∀ A' c' w', Gro w' A' (n + m) c' (xs ++ news) → Only (blks A) w w' → (∀ k ∈ blks A', k ∈ blks A ∨ w.heap.size ≤ k) → φ (.slice A' (n + m) c') w' ∧ T w w') : GivesR P T w φ ((execOp a.eval o).run P w) := by
  obtain ⟨A', c', w', hrun, h2, h3, h4⟩ := run_append_gro (P := P) t o.type e i z bytes ht hi hz hsize hby hzs A n c xs hown A2 m c2 news hr h1 h63 hbytes
  have e : (execOp a.eval o).run P w = .ok (.value (.slice A' (n + m) c')) w' := by
    unfold execOp
    simp only [ho, resolve, invoke, builtin, Sem.run_bind, Sem.run_pure, Result.andThen_ok, List.map_toArray, List.map_cons, List.map_nil, hs, hx, hrun]
  rw [e]
  exact h A' c' w' h2 h3 h4
end
theorem gro_big {w : World} {A : Option Addr} {n c : Nat} {xs : List Value} (h : Gro w A n c xs) (h3 : 3 ≤ n) : ∀ x ∈ blks A, ∀ (cs : Array Value) (t : TypeId) (fr : Nat × Nat), w.heap[x]? = some (.cells cs t fr) → 3 ≤ cs.size := by
  intro x hx cs t fr hb
  have hc := h.cap
  obtain ⟨g, o, rfl, _, h2⟩ := h.at_ (by omega)
  have := (h2 2 (by omega)).1
  rw [blks_some, List.mem_singleton] at hx
  subst hx
  simp only [World.cell?, hb] at this
  rcases Nat.lt_or_ge (o + 2) cs.size with h4 | h4
  · omega
  · rw [Array.getElem?_eq_none h4] at this
    cases this
end Go.Proofs.YtakehogenioobaaDoor
