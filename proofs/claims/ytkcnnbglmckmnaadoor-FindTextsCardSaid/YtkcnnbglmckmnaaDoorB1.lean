/-
  Texts of the seat, laid one behind the other: Words FrameH Append Bt OpenH RowsOf OpenY.
-/
import Derived.WalkKit
import Derived.Deep.AppendLies
import Derived.Deep.Draws
import Derived.Laws.OwnMore
import Derived.Lib.Hide
import Derived.Test.YtkcnnbglmckmnaaDoorCards
import Derived.Test.YtkcnnbglmckmnaaDoorTie
import Derived.ProofKit
import Derived.OpenShut
import Derived.Deep.DeepHandedRow
import Derived.Lay
import Derived.Maps.AppendAt
import Derived.Deep.RegionLaw
import Derived.RegionTactic
import Derived.OwnWalk
import Derived.Shelf.Bytes.SlSmallAll
import Derived.Lib.Bytealg
import Derived.ChangeMaps5
import Derived.Deep.Matrix
import Derived.SizedLaws
import Derived.Test.YtkcnnbglmckmnaaDoorRows
import Derived.Deep.Strs
namespace Go.Proofs.YtkcnnbglmckmnaaDoor
open Go.RowKit
def bv (b : UInt8) : Value := .int .u8 (b.toNat : Int)
def bvs (l : List UInt8) : List Value := l.map bv
@[simp] theorem bvs_length (l : List UInt8) : (bvs l).length = l.length := by simp [bvs]
@[simp] theorem bvs_nil : bvs [] = [] := rfl
@[simp] theorem bvs_append (l m : List UInt8) : bvs (l ++ m) = bvs l ++ bvs m := by simp [bvs]
theorem bvs_get (l : List UInt8) (k : Nat) (h : k < l.length) : (bvs l)[k]? = some (bv l[k]) := by simp [bvs, h]
theorem bvs_one (l : List UInt8) : ∀ u ∈ bvs l, u.oneCell' = true := by
  intro u hu
  simp only [bvs, List.mem_map] at hu
  obtain ⟨b, _, rfl⟩ := hu
  rfl
theorem bvs_take (l : List UInt8) (k : Nat) : (bvs l).take k = bvs (l.take k) := by simp [bvs, List.map_take]
theorem bvs_drop (l : List UInt8) (k : Nat) : (bvs l).drop k = bvs (l.drop k) := by simp [bvs, List.map_drop]
theorem byte_lt (b : UInt8) : b.toNat < 256 := b.toNat_lt
theorem add_block (a : Addr) (n : Nat) : (a.add n).block = a.block := by unfold Addr.add; split <;> rfl
theorem add_add (a : Addr) (i j : Nat) : (a.add i).add j = a.add (i + j) := by
  unfold Addr.add
  by_cases hi : i = 0 <;> by_cases hj : j = 0 <;> simp [hi, hj, Nat.add_assoc]
theorem add_none (g o j : Nat) : (⟨g, o, none⟩ : Addr).add j = ⟨g, o + j, none⟩ := by
  unfold Addr.add
  split <;> simp_all
theorem add_zero (a : Addr) : a.add 0 = a := by simp [Addr.add]
structure Only (rs : List Nat) (w w' : World) : Prop where
  os : w'.os = w.os
  tape : w'.tape = w.tape
  output : w'.output = w.output
  size : w.heap.size ≤ w'.heap.size
  block : ∀ k, k < w.heap.size → k ∉ rs → w'.heap[k]? = w.heap[k]?
section
variable {rs ss : List Nat} {a b c w w' : World}
theorem Only.refl (rs : List Nat) (w : World) : Only rs w w := ⟨rfl, rfl, rfl, Nat.le_refl _, fun _ _ _ => rfl⟩
theorem Only.trans (h : Only rs a b) (k : Only ss b c) (hs : ∀ x ∈ ss, x ∈ rs ∨ a.heap.size ≤ x) : Only rs a c :=
  ⟨k.os.trans h.os, k.tape.trans h.tape, k.output.trans h.output, Nat.le_trans h.size k.size, fun i hi hn =>
    (k.block i (Nat.lt_of_lt_of_le hi h.size) (fun hm => by rcases hs i hm with h1 | h1; exact hn h1; omega)).trans (h.block i hi hn)⟩
theorem Only.then (h : Only rs a b) (k : Only [] b c) : Only rs a c := h.trans k (fun _ hx => by cases hx)
theorem Only.mono (h : Only rs a b) (hs : ∀ x ∈ rs, x ∈ ss ∨ a.heap.size ≤ x) : Only ss a b :=
  ⟨h.os, h.tape, h.output, h.size, fun i hi hn => h.block i hi (fun hm => by rcases hs i hm with h1 | h1; exact hn h1; omega)⟩
theorem Only.drew (h : Only rs a b) : Only rs a b.drew := ⟨h.os, h.tape, h.output, h.size, h.block⟩
theorem Only.drewN (h : Only rs a b) (n : Nat) : Only rs a (b.drewN n) := ⟨h.os, h.tape, h.output, h.size, h.block⟩
theorem Only.alloc (h : Only rs a b) (o : Obj) : Only rs a (b.alloc o) :=
  ⟨h.os, h.tape, h.output, Nat.le_trans h.size (by simp), fun i hi hn => (Below.heap_alloc b o i (Nat.lt_of_lt_of_le hi h.size)).trans (h.block i hi hn)⟩
theorem Only.setCell (h : Only rs a b) {p : Addr} (hp : p.block ∈ rs ∨ a.heap.size ≤ p.block) (u : Value) : Only rs a (b.setCell p u) :=
  ⟨h.os, h.tape, h.output, by simpa [World.setCell] using h.size, fun i hi hn => (Below.heap_setCell b p u i (by
    rintro rfl
    rcases hp with hp | hp
    · exact hn hp
    · omega)).trans (h.block i hi hn)⟩
theorem Only.of_below (h : Below a.heap.size a b) : Only rs a b := ⟨h.os, h.tape, h.output, h.size, fun i hi _ => h.block i hi⟩
theorem Only.below (h : Only rs a b) {B : Nat} (hB : B ≤ a.heap.size) (hs : ∀ x ∈ rs, B ≤ x) : Below B a b :=
  ⟨h.os, h.tape, h.output, h.size, fun i hi => h.block i (by omega) (fun hm => by have := hs i hm; omega)⟩
theorem Only.of_grown {row : Option Nat} (h : a.grownBy b row) : Only row.toList a b :=
  ⟨h.os, h.tape, h.output, h.size, fun i hi hn => h.block i hi (fun e => hn (by rw [← e]; simp))⟩
theorem Only.cell (h : Only rs a b) {p : Addr} (hp : p.block < a.heap.size) (hn : p.block ∉ rs) : b.cell? p = a.cell? p := World.cell?_of_block (h.block _ hp hn)
theorem Only.frozen (h : Only rs a b) {p : Addr} (hp : p.block < a.heap.size) (hn : p.block ∉ rs) : b.frozen? p = a.frozen? p := World.frozen?_of_block (h.block _ hp hn)
theorem Only.cellSome (h : Only rs a b) {p : Addr} {v : Value} (hc : a.cell? p = some v) (hn : p.block ∉ rs) : b.cell? p = some v := (h.cell (block_lt_of_cell hc) hn).trans hc
end
def Bk (w : World) (g : Nat) (t : TypeId) (cs : Array Value) : Prop := w.heap[g]? = some (.cells cs t (0, 0))
section
variable {w w' : World} {g : Nat} {t : TypeId} {cs : Array Value}
theorem Bk.lt (h : Bk w g t cs) : g < w.heap.size := lt_of_block h
theorem Bk.cell (h : Bk w g t cs) (i : Nat) : w.cell? ⟨g, i, none⟩ = cs[i]? := cell_of_row w g i cs t (0, 0) h
theorem Bk.free (h : Bk w g t cs) (i : Nat) : w.frozen? ⟨g, i, none⟩ = false := frozen_of_row w g i cs t h
theorem Bk.new (w : World) (t : TypeId) (cs : Array Value) : Bk (w.alloc (.cells cs t)) w.heap.size t cs := heap_alloc_new w _
theorem Bk.drew (h : Bk w g t cs) : Bk w.drew g t cs := h
theorem Bk.alloc (h : Bk w g t cs) (o : Obj) : Bk (w.alloc o) g t cs := (Below.heap_alloc w o g h.lt).trans h
theorem Bk.set (h : Bk w g t cs) (i : Nat) (u : Value) : Bk (w.setCell ⟨g, i, none⟩ u) g t (cs.setIfInBounds i u) := by
  unfold Bk at h ⊢
  simp [World.setCell, Array.getElem?_modify, h]
theorem Bk.far (h : Bk w g t cs) {p : Addr} (hp : g ≠ p.block) (u : Value) : Bk (w.setCell p u) g t cs := (Below.heap_setCell w p u g hp).trans h
theorem Bk.only {rs : List Nat} (h : Bk w g t cs) (o : Only rs w w') (hn : g ∉ rs) : Bk w' g t cs := (o.block g h.lt hn).trans h
theorem Bk.ne {g' : Nat} {t' : TypeId} {cs' : Array Value} (h : Bk w g t cs) (h' : Bk w g' t' cs') (hne : t ≠ t') : g ≠ g' := by
  rintro rfl
  unfold Bk at h h'
  rw [h] at h'
  injection h' with h'
  injection h' with _ ht
  exact hne ht
theorem own_bk {base : Nat} {e : TypeId} {size n : Nat} {v : Value} {xs : List Value} (h : w.ownsRow base e size v n xs) {k : Nat} (hk : v.ownBlock = some k) : ∃ cur, Bk w k e cur := by
  rcases h.2 with ⟨rfl, _⟩ | ⟨g', cap, cur, rfl, _, hh, _⟩
  · cases hk
  · have : g' = k := by simpa [Value.ownBlock] using hk
    subst this
    exact ⟨cur, hh⟩
end
def Sl (w : World) (A : Option Addr) (n : Nat) (xs : List Value) : Prop :=
  xs.length = n ∧ (0 < n → ∃ ad, A = some ad ∧ ∀ j u, xs[j]? = some u → w.cell? (ad.add j) = some u)
section
variable {w w' : World} {A : Option Addr} {n : Nat} {xs : List Value}
theorem Sl.none_ : Sl w A 0 [] := ⟨rfl, fun h => absurd h (by omega)⟩
theorem Sl.len (h : Sl w A n xs) : xs.length = n := h.1
theorem Sl.at_ {k : Nat} (h : Sl w A n xs) (hk : k < n) : ∃ ad u, A = some ad ∧ xs[k]? = some u ∧ w.cell? (ad.add k) = some u := by
  obtain ⟨ad, e, hc⟩ := h.2 (by omega)
  have hl : k < xs.length := by have := h.1; omega
  exact ⟨ad, xs[k], e, List.getElem?_eq_getElem hl, hc k _ (List.getElem?_eq_getElem hl)⟩
theorem Sl.only {rs : List Nat} (h : Sl w A n xs) (o : Only rs w w') (hd : ∀ ad, A = some ad → ad.block ∉ rs) : Sl w' A n xs :=
  ⟨h.1, fun hn => by
    obtain ⟨ad, e, hc⟩ := h.2 hn
    exact ⟨ad, e, fun j u hu => o.cellSome (hc j u hu) (by rw [add_block]; exact hd ad e)⟩⟩
theorem Sl.keep (h : Sl w A n xs) (o : Only [] w w') : Sl w' A n xs := h.only o (fun _ _ hm => by cases hm)
theorem Sl.alloc (h : Sl w A n xs) (o : Obj) : Sl (w.alloc o) A n xs := h.keep ((Only.refl _ _).alloc o)
theorem Sl.cut (h : Sl w A n xs) {k cap : Nat} (hk : k ≤ n) (hc : n ≤ cap) : Sl w (if cap = k then A else A.map (·.add k)) (n - k) (xs.drop k) := by
  refine ⟨by rw [List.length_drop, h.1], fun hn => ?_⟩
  obtain ⟨ad, rfl, hcell⟩ := h.2 (by omega)
  rw [if_neg (by omega)]
  refine ⟨ad.add k, rfl, fun j u hu => ?_⟩
  rw [add_add]
  exact hcell _ u (by rw [← hu, List.getElem?_drop])
theorem Sl.pre (h : Sl w A n xs) {k : Nat} (hk : k ≤ n) : Sl w A k (xs.take k) := by
  refine ⟨by rw [List.length_take, h.1]; omega, fun hn => ?_⟩
  obtain ⟨ad, e, hc⟩ := h.2 (by omega)
  refine ⟨ad, e, fun j u hu => hc j u ?_⟩
  rw [List.getElem?_take] at hu
  split at hu
  · exact hu
  · cases hu
theorem Sl.of_own {base : Nat} {e : TypeId} {c : Nat} (h : w.ownsRow base e 1 (.slice A n c) n xs) : Sl w A n xs := by
  refine ⟨by have := h.1; omega, fun hn => ?_⟩
  obtain ⟨g, cap, hv, _, _⟩ := h.form hn
  have hA : A = some ⟨g, 0, none⟩ := by injection hv
  subst hA
  exact ⟨_, rfl, h.cells (g := g) rfl⟩
theorem Sl.of_new (w : World) (cs : Array Value) (t : TypeId) (fr : Nat × Nat) : Sl (w.alloc (.cells cs t fr)) (some ⟨w.heap.size, 0, none⟩) cs.size cs.toList := by
  refine ⟨by simp, fun _ => ⟨_, rfl, fun j u hu => ?_⟩⟩
  rw [add_none, Nat.zero_add, World.cell?_alloc_mark]
  simpa using hu
end
theorem own_only {w w' : World} {base : Nat} {e : TypeId} {size n : Nat} {v : Value} {xs : List Value} {rs : List Nat} (h : w.ownsRow base e size v n xs) (o : Only rs w w') (hd : ∀ k, v.ownBlock = some k → k ∉ rs) : w'.ownsRow base e size v n xs := by
  refine ⟨h.1, ?_⟩
  rcases h.2 with h0 | ⟨g, cap, cur, rfl, hb, hg, r⟩
  · exact .inl h0
  · exact .inr ⟨g, cap, cur, rfl, hb, (o.block g (lt_of_block hg) (hd g rfl)).trans hg, r⟩
theorem own_base {w : World} {base base' : Nat} {e : TypeId} {size n : Nat} {v : Value} {xs : List Value} (h : w.ownsRow base e size v n xs) (hb : ∀ k, v.ownBlock = some k → base' ≤ k) : w.ownsRow base' e size v n xs := by
  refine ⟨h.1, ?_⟩
  rcases h.2 with h0 | ⟨g, cap, cur, rfl, _, r⟩
  · exact .inl h0
  · exact .inr ⟨g, cap, cur, rfl, hb g rfl, r⟩
end Go.Proofs.YtkcnnbglmckmnaaDoor
namespace Go.Proofs.YtkcnnbglmckmnaaDoor
open Go.ChangeShapes Go.WideShapes Go.ChangeAt Go.RowKit
theorem ownKnobs : ownKnob Tryd.prog.godebug = none := by kernel_rfl
noncomputable def laidWorld (os : Os) : World := World.laidAll Tryd.prog os Rows.findSetsRow.laid
theorem int_bounds {x : Int} (h : (Lit.int .i64 x).wf = true) : -9223372036854775808 ≤ x ∧ x ≤ 9223372036854775807 := by
  simp [Lit.wf, IntKind.min, IntKind.max, IntKind.signed, IntKind.bits] at h
  omega
theorem laidOut_seat : laidOutB Tryd.prog = true := by kernel_rfl
theorem trodAll_stays {H : Type} {enc : TypeId × Value → H} {W W' : World} (hb : Below W.heap.size W W') :
    ∀ (ts : List TypeId) (vs : List Value) (ds : List (DataW H)) (ps : List MemPlace), (∀ t ∈ ts, Tryd.prog.readableRec t = true ∧ t < Tryd.prog.types.size) → (∀ x ∈ ps, x.block < W.heap.size) →
      DataW.TrodAll enc Tryd.prog W 0 (fun _ => true) true ts vs ds ps → DataW.TrodAll enc Tryd.prog W' 0 (fun b => decide (b < W.heap.size)) true ts vs ds ps := by
  intro ts
  induction ts with
  | nil =>
    intro vs ds ps _ _ h
    obtain ⟨rfl, rfl, rfl⟩ := trodAll_nil h
    exact trodAll_mk0
  | cons t ts ih =>
    intro vs ds ps hts hlt h
    obtain ⟨v, vs', d, ds', p, q, rfl, rfl, rfl, h0, hr⟩ := trodAll_cons h
    obtain ⟨h1, h2⟩ := hts t (by simp)
    exact trodAll_cons_mk (Below.trod laidOut_seat h1 h2 h0 hb (fun x hx => hlt x (by simp [hx]))) (ih _ _ _ (fun t ht => hts t (by simp [ht])) (fun x hx => hlt x (by simp [hx])) hr)
theorem post_law {H : Type} {enc : TypeId × Value → H} {f : Func} {s : ChangeSpec} {W W' : World} {args : Array Value} {ds : List (DataW H)} {before : List MemPlace}
    (hW : DataW.Whole enc Tryd.prog f.params.toList s.vars false W args.toList ds [] before) (hv : s.vars = []) (hr : f.resultTypes = #[4]) (hfn : s.fn H (ds ++ []) = { results := [.lit (.bool true)], args := ds })
    (hts : ∀ t ∈ f.params.toList, Tryd.prog.readableRec t = true ∧ t < Tryd.prog.types.size) (ho : Only [] W W') : s.post enc Tryd.prog f false true false false W args (.bool true) W' := by
  have hb : Below W.heap.size W W' := ho.below (Nat.le_refl _) (fun _ hx => by cases hx)
  have hW' := hW
  have hlt := hW.lt
  obtain ⟨p, q, hA, hV, rfl, hfz, hnd⟩ := hW
  rw [hv] at hV
  obtain ⟨_, rfl⟩ := trodVars_none hV
  rw [List.append_nil] at hlt
  refine ⟨ds, [], _, [], p, [], hW', ?_, ?_, ?_, hb.frame _, fun h => by cases h⟩
  · rw [hr, hfn]
    exact trodAll_mk1 (shut_bool Tryd.underlying4 true)
  · rw [hfn]
    exact trodAll_stays hb _ _ _ _ hts hlt hA
  · rw [hv, hfn]
    exact rfl
end Go.Proofs.YtkcnnbglmckmnaaDoor
namespace Go.Proofs.YtkcnnbglmckmnaaDoor
open Go.RowKit
def blks : Option Addr → List Nat
  | none => []
  | some a => [a.block]
@[simp] theorem blks_none : blks none = [] := rfl
@[simp] theorem blks_some (a : Addr) : blks (some a) = [a.block] := rfl
def Own (w : World) (t : TypeId) (A : Option Addr) (n c : Nat) (xs : List Value) : Prop := w.ownsRow 0 t 1 (.slice A n c) n xs
section
variable {w w' : World} {t : TypeId} {A : Option Addr} {n c : Nat} {xs : List Value}
theorem Own.nil (w : World) (t : TypeId) : Own w t none 0 0 [] := ⟨rfl, .inl ⟨rfl, rfl⟩⟩
theorem Own.len (h : Own w t A n c xs) : xs.length = n := by have := h.1; omega
theorem Own.sl (h : Own w t A n c xs) : Sl w A n xs := Sl.of_own h
theorem Own.only {rs : List Nat} (h : Own w t A n c xs) (o : Only rs w w') (hd : ∀ k ∈ blks A, k ∉ rs) : Own w' t A n c xs :=
  own_only h o (fun k hk => hd k (by
    cases A with
    | none => cases hk
    | some a => simp [Value.ownBlock] at hk; simp [hk]))
theorem Own.keep (h : Own w t A n c xs) (o : Only [] w w') : Own w' t A n c xs := h.only o (fun _ _ hm => by cases hm)
theorem Own.bk (h : Own w t A n c xs) {k : Nat} (hk : k ∈ blks A) : ∃ cur, Bk w k t cur := by
  refine own_bk h ?_
  cases A with
  | none => cases hk
  | some a => simp at hk; simp [Value.ownBlock, hk]
theorem Own.lt (h : Own w t A n c xs) {k : Nat} (hk : k ∈ blks A) : k < w.heap.size := by
  obtain ⟨cur, hc⟩ := h.bk hk
  exact hc.lt
end
section
variable {P : Program} {w : World}
theorem run_append_none' (base : Nat) (t ty e : TypeId) (i : TypeInfo) (size : Nat) (ht : P.underlying t = some (.slice e)) (hi : P.info? e = some i)
    (v : Value) (n : Nat) (xs : List Value) (hown : w.ownsRow base e size v n xs) (c : Nat) : (Builtin.append_ #[t, t] ty #[v, .slice none 0 c]).run P w = .ok v w := by
  rcases hown.2 with ⟨rfl, rfl⟩ | ⟨g, cap, cur, rfl, _, _, hnc, _⟩
  · simp [Builtin.append_, run_underlying ht, sizeOf, typeInfo, hi, Builtin.lenOf, Builtin.firstCells]
  · simp [Builtin.append_, run_underlying ht, sizeOf, typeInfo, hi, Builtin.lenOf, Builtin.firstCells, hnc, storeCells]
theorem run_append_sl (t ty e : TypeId) (i : TypeInfo) (z : Value) (bytes : Nat) (ht : P.underlying t = some (.slice e)) (hi : P.info? e = some i) (hz : i.zero = some z)
    (hsize : i.size = 1) (hby : i.bytes = bytes) (hzs : z.cells.size = 1) (A : Option Addr) (n c : Nat) (xs : List Value) (hown : Own w e A n c xs)
    (A2 : Option Addr) (m c2 : Nat) (news : List Value) (hr : Sl w A2 m news) (h1 : ∀ u ∈ news, u.oneCell' = true) (h63 : n + m ≤ maxLen) (hbytes : (n + m) * bytes ≤ 140737488355328) :
    ∃ A' c' w', (Builtin.append_ #[t, t] ty #[.slice A n c, .slice A2 m c2]).run P w = .ok (.slice A' (n + m) c') w' ∧ Own w' e A' (n + m) c' (xs ++ news) ∧ Only (blks A) w w' ∧
      (∀ k ∈ blks A', k ∈ blks A ∨ w.heap.size ≤ k) := by
  have nothing : m = 0 → news = [] := fun h => List.eq_nil_of_length_eq_zero (by have := hr.len; omega)
  cases A2 with
  | none =>
    have hm : m = 0 := by
      rcases Nat.eq_zero_or_pos m with h0 | h0
      · exact h0
      · obtain ⟨ad, h, _⟩ := hr.2 h0
        cases h
    subst hm
    rw [nothing rfl]
    exact ⟨A, c, w, run_append_none' 0 t ty e i 1 ht hi _ n xs hown c2, by simpa using hown, Only.refl _ _, fun k hk => .inl hk⟩
  | some ad =>
    have hcells : ∀ j u, news[j]? = some u → w.cell? (ad.add j) = some u := by
      intro j u hu
      rcases Nat.eq_zero_or_pos m with h0 | h0
      · rw [nothing h0] at hu
        simp at hu
      · obtain ⟨ad', h, hc⟩ := hr.2 h0
        injection h with h
        subst h
        exact hc j u hu
    obtain ⟨v', w', hrun, h2, h3, h4, h5⟩ := run_append_own_at (P := P) w 0 t ty e i z 1 bytes ht hi hz hsize hby hzs (by omega) _ n xs hown ad m c2 news (by have := hr.len; omega) hcells h1 h63 hbytes (Nat.zero_le _)
    have hform : ∃ A' c', v' = .slice A' (n + m) c' := by
      rcases h2.2 with ⟨rfl, h0⟩ | ⟨g, cap, cur, rfl, _⟩
      · exact ⟨none, 0, by rw [h0]⟩
      · exact ⟨_, _, rfl⟩
    obtain ⟨A', c', rfl⟩ := hform
    refine ⟨A', c', w', hrun, h2, ?_, ?_⟩
    · have := Only.of_grown h3
      cases A with
      | none => simpa [Value.ownBlock] using this
      | some a => simpa [Value.ownBlock] using this
    · intro k hk
      cases A' with
      | none => cases hk
      | some a' =>
        simp only [blks_some, List.mem_singleton] at hk
        subst hk
        rcases h5 with h5 | h5
        · left
          cases A with
          | none => simp [Value.ownBlock] at h5
          | some a => simp [Value.ownBlock] at h5; simp [h5]
        · right
          simp [Value.ownBlock] at h5
          omega
theorem wp_append_sl {o : Oper} {a : Act} {K : Act → World → Prop} {Q : Exit → Act → World → Prop} (s x : Operand) (t : TypeId)
    (ho : o.op = .call { callee := .builtin .append, args := #[s, x], argTypes := #[t, t] }) (e : TypeId) (i : TypeInfo) (z : Value) (bytes : Nat) (ht : P.underlying t = some (.slice e)) (hi : P.info? e = some i)
    (hz : i.zero = some z) (hsize : i.size = 1) (hby : i.bytes = bytes) (hzs : z.cells.size = 1) (A : Option Addr) (n c : Nat) (xs : List Value) (hs : a.eval s = .slice A n c) (hown : Own w e A n c xs)
    (A2 : Option Addr) (m c2 : Nat) (news : List Value) (hx : a.eval x = .slice A2 m c2) (hr : Sl w A2 m news) (h1 : ∀ u ∈ news, u.oneCell' = true) (h63 : n + m ≤ maxLen) (hbytes : (n + m) * bytes ≤ 140737488355328)
    (h : ∀ A' c' w', Own w' e A' (n + m) c' (xs ++ news) → Only (blks A) w w' → (∀ k ∈ blks A', k ∈ blks A ∨ w.heap.size ≤ k) → K (a.put o.dst (.slice A' (n + m) c')) w') : o.wp P a w K Q := by
  obtain ⟨A', c', w', hrun, h2, h3, h4⟩ := run_append_sl (P := P) t o.type e i z bytes ht hi hz hsize hby hzs A n c xs hown A2 m c2 news hr h1 h63 hbytes
  unfold Oper.wp execOp
  simp only [ho, resolve, invoke, builtin, Sem.run_bind, Sem.run_pure, Result.andThen_ok, List.map_toArray, List.map_cons, List.map_nil, hs, hx, hrun]
  exact h A' c' w' h2 h3 h4
theorem wpList_append_sl {ops : Array Oper} {rest : List Oper} {o : Oper} {a : Act} {Q : Exit → Act → World → Prop} (hgd : o.guard = none) (s x : Operand) (t : TypeId)
    (ho : o.op = .call { callee := .builtin .append, args := #[s, x], argTypes := #[t, t] }) (e : TypeId) (i : TypeInfo) (z : Value) (bytes : Nat) (ht : P.underlying t = some (.slice e)) (hi : P.info? e = some i)
    (hz : i.zero = some z) (hsize : i.size = 1) (hby : i.bytes = bytes) (hzs : z.cells.size = 1) (A : Option Addr) (n c : Nat) (xs : List Value) (hs : a.eval s = .slice A n c) (hown : Own w e A n c xs)
    (A2 : Option Addr) (m c2 : Nat) (news : List Value) (hx : a.eval x = .slice A2 m c2) (hr : Sl w A2 m news) (h1 : ∀ u ∈ news, u.oneCell' = true) (h63 : n + m ≤ maxLen) (hbytes : (n + m) * bytes ≤ 140737488355328)
    (h : ∀ A' c' w', Own w' e A' (n + m) c' (xs ++ news) → Only (blks A) w w' → (∀ k ∈ blks A', k ∈ blks A ∨ w.heap.size ≤ k) → wpList P ops Q rest (a.put o.dst (.slice A' (n + m) c')) w') : wpList P ops Q (o :: rest) a w :=
  wpList_plain hgd fun _ hK => wp_append_sl s x t ho e i z bytes ht hi hz hsize hby hzs A n c xs hs hown A2 m c2 news hx hr h1 h63 hbytes fun A' c' w' h2 h3 h4 => hK _ _ (h A' c' w' h2 h3 h4)
end
end Go.Proofs.YtkcnnbglmckmnaaDoor
namespace Go.Proofs.YtkcnnbglmckmnaaDoor
open Go.RowKit
def nums (l : List UInt8) : List Int := l.map fun b => (b.toNat : Int)
theorem nums_len (l : List UInt8) : (nums l).length = l.length := by simp [nums]
theorem nums_bytes (l : List UInt8) : Lib.bytesOf (nums l) = l := by
  unfold nums Lib.bytesOf
  rw [List.map_map]
  conv => rhs; rw [← List.map_id l]
  refine List.map_congr_left fun b _ => ?_
  simp
theorem nums_get (l : List UInt8) (i : Nat) (h : i < l.length) : (nums l).getD i 0 = ((l[i].toNat : Nat) : Int) := by
  unfold nums
  rw [List.getD_eq_getElem?_getD, List.getElem?_map, List.getElem?_eq_getElem h]
  rfl
theorem nums_vals (l : List UInt8) : (nums l).map (Value.int .u8) = bvs l := by simp [nums, bvs, bv]
theorem nums_small (l : List UInt8) : ∀ x ∈ nums l, 0 ≤ x ∧ x < 256 := by
  intro x hx
  simp only [nums, List.mem_map] at hx
  obtain ⟨b, _, rfl⟩ := hx
  have := byte_lt b
  omega
theorem cells_of {w : World} {ad : Addr} {l : List UInt8} {n : Nat} (h : Sl w (some ad) n (bvs l)) : ∀ i, i < n → w.cell? (ad.add i) = some (.int .u8 ((nums l).getD i 0)) := by
  intro i hi
  have hl : l.length = n := by simpa using h.len
  obtain ⟨ad', e, hc⟩ := h.2 (by omega)
  injection e with e
  subst e
  rw [nums_get l i (by omega)]
  exact hc i _ (bvs_get l i (by omega))
theorem sl_in {w : World} {A : Option Addr} {l : List UInt8} {n : Nat} (h : Sl w A n (bvs l)) : Lib.BytesIn w A n (nums l) := fun hn => by
  obtain ⟨ad, rfl, _⟩ := h.2 hn
  exact Lib.BytesIn.of_cells (cells_of h) hn
theorem one_in {w : World} {b o : Nat} {x : UInt8} (h : w.cell? ⟨b, o, none⟩ = some (bv x)) : Lib.BytesIn w (some ⟨b, o, none⟩) 1 (nums [x]) := fun _ => ⟨b, o, rfl, fun i hi => by
  obtain rfl : i = 0 := by omega
  simpa [nums, bv] using h⟩
theorem sl_empty {w : World} {n : Nat} {l : List UInt8} (h : Sl w none n (bvs l)) : l = [] ∧ n = 0 := by
  have hl : l.length = n := by simpa using h.len
  rcases Nat.eq_zero_or_pos n with h0 | h0
  · exact ⟨List.eq_nil_of_length_eq_zero (by omega), h0⟩
  · obtain ⟨_, e, _⟩ := h.2 h0
    cases e
structure Bt (w : World) (A : Option Addr) (n c : Nat) (l : List UInt8) : Prop where
  sl : Sl w A n (bvs l)
  cap : n ≤ c
  max : c ≤ 9223372036854775807
  nil : A = none → c = 0
section
variable {w w' : World} {A : Option Addr} {n c : Nat} {l : List UInt8}
theorem Bt.len (h : Bt w A n c l) : l.length = n := by simpa using h.sl.len
theorem Bt.only {rs : List Nat} (h : Bt w A n c l) (o : Only rs w w') (hd : ∀ x ∈ blks A, x ∉ rs) : Bt w' A n c l :=
  ⟨h.sl.only o (fun ad e => hd _ (by rw [e]; simp)), h.cap, h.max, h.nil⟩
theorem Bt.keep (h : Bt w A n c l) (o : Only [] w w') : Bt w' A n c l := h.only o (fun _ _ hm => nomatch hm)
theorem Bt.none_ (w : World) : Bt w none 0 0 [] := ⟨Sl.none_, Nat.le_refl _, Nat.zero_le _, fun _ => rfl⟩
theorem Bt.pre (h : Bt w A n c l) {k : Nat} (hk : k ≤ n) : Bt w A k c (l.take k) :=
  ⟨by have := h.sl.pre hk; rwa [bvs_take] at this, Nat.le_trans hk h.cap, h.max, h.nil⟩
theorem Bt.cut (h : Bt w A n c l) {k : Nat} (hk : k ≤ n) : Bt w (if c = k then A else A.map (·.add k)) (n - k) (c - k) (l.drop k) :=
  ⟨by have := h.sl.cut hk h.cap; rwa [bvs_drop] at this, by have := h.cap; omega, by have := h.max; omega, fun e => by
    split at e
    · omega
    · have : A = none := by cases A <;> simp_all
      have := h.nil this
      omega⟩
theorem blks_from (A : Option Addr) (c k : Nat) : blks (if c = k then A else A.map (·.add k)) = blks A := by
  split
  · rfl
  · cases A with
    | none => rfl
    | some a => simp [add_block]
end
def fi (x : UInt8) (l : List UInt8) : Nat := l.findIdx (· == x)
theorem fi_le (x : UInt8) (l : List UInt8) : fi x l ≤ l.length := List.findIdx_le_length
theorem fi_cons (x y : UInt8) (l : List UInt8) : fi x (y :: l) = if y = x then 0 else fi x l + 1 := by
  unfold fi
  rw [List.findIdx_cons]
  by_cases h : y = x
  · subst h; simp
  · have : (y == x) = false := by rw [beq_eq_false_iff_ne]; exact h
    rw [this, if_neg h]
    rfl
theorem index_fi (x : UInt8) : ∀ l : List UInt8, Lib.indexByte l x = if fi x l < l.length then (fi x l : Int) else -1
  | [] => rfl
  | y :: l => by
    rw [Lib.indexByte, index_fi x l, fi_cons]
    by_cases h : y = x
    · subst h; simp
    · have h' : (y == x) = false := by rw [beq_eq_false_iff_ne]; exact h
      rw [if_neg (by rw [h']; decide), if_neg h]
      by_cases h2 : fi x l < l.length
      · have e1 : ((fi x l : Int) == -1) = false := by rw [beq_eq_false_iff_ne]; omega
        simp only [h2, if_true, e1]
        rw [if_neg (by decide), if_pos (by rw [List.length_cons]; omega)]
        rfl
      · simp only [h2, if_false]
        rw [if_pos (by decide), if_neg (by rw [List.length_cons]; omega)]
end Go.Proofs.YtkcnnbglmckmnaaDoor
namespace Go.Proofs.YtkcnnbglmckmnaaDoor
open Go.ChangeShapes Go.WideShapes Go.ChangeAt Go.RowKit Go.Deep
theorem cellsByte : Tryd.prog.cellsOf 5 = 1 := by kernel_rfl
def toBytes (zs : List Int) : List UInt8 := zs.map fun z => UInt8.ofNat z.toNat
theorem toBytes_length (zs : List Int) : (toBytes zs).length = zs.length := by simp [toBytes]
theorem byte_wf {z : Int} (h : (Lit.int .u8 z).wf = true) : 0 ≤ z ∧ z < 256 := by
  simp [Lit.wf, IntKind.min, IntKind.max, IntKind.signed, IntKind.bits] at h
  omega
theorem toBytes_sl {w : World} {A : Option Addr} {n m : Nat} {zs : List Int} (hm : n ≤ m) (hz : zs.length = m) (hw : ∀ z ∈ zs, (Lit.int .u8 z).wf = true)
    (hc : 0 < n → ∃ ad, A = some ad ∧ ∀ i, i < m → w.cell? (ad.add i) = some (.int .u8 (zs.getD i 0))) : Sl w A n (bvs (toBytes (zs.take n))) := by
  have hl : (toBytes (zs.take n)).length = n := by rw [toBytes_length, List.length_take]; omega
  refine ⟨by rw [bvs_length, hl], fun hn => ?_⟩
  obtain ⟨ad, e, hcell⟩ := hc hn
  refine ⟨ad, e, fun j u hu => ?_⟩
  have hj : j < n := by
    have := (List.getElem?_eq_some_iff.1 hu).1
    rw [bvs_length, hl] at this
    exact this
  rw [hcell j (by omega)]
  rw [bvs_get _ _ (by omega)] at hu
  have hz' : j < zs.length := by omega
  have hg : zs.getD j 0 = zs[j] := by simp [List.getD, hz']
  have hb := byte_wf (hw _ (List.getElem_mem hz'))
  have he : (toBytes (zs.take n))[j]'(by omega) = UInt8.ofNat (zs[j]).toNat := by simp [toBytes]
  rw [he] at hu
  rw [← hu, hg]
  unfold bv
  rw [UInt8.toNat_ofNat']
  congr 2
  omega
section
variable {H : Type} {enc : TypeId × Value → H} {W : World}
set_option maxRecDepth 100000 in
theorem open_bytes {r : Reach} {b : Nat} {v : Value} {d : DataW H} {p : List MemPlace} (hv : Value.okWide Tryd.prog W r b 35 v) (h : DataW.Trod enc Tryd.prog W 0 (fun _ => true) true 35 v d p) :
    ∃ A n c l, v = .slice A n c ∧ Bt W A n c l ∧ ∀ x ∈ blks A, x < W.heap.size := by
  obtain ⟨A, n, c, rfl⟩ := okWide_slice Tryd.underlying35 hv
  obtain ⟨fuel, hf⟩ := h
  rcases open_ints Tryd.underlying35 Tryd.underlying5 cellsByte hf with ⟨hcs, _⟩ | ⟨a, len, cap, zs, hcs, _, hl, hm, hz, hx, hcell, hw⟩
  · simp [Value.cells] at hcs
    obtain ⟨rfl, rfl, rfl⟩ := hcs
    exact ⟨none, 0, 0, [], rfl, Bt.none_ _, fun _ hx => nomatch hx⟩
  · simp [Value.cells] at hcs
    obtain ⟨rfl, rfl, rfl⟩ := hcs
    simp only [if_true] at hz
    refine ⟨some a, n, c, _, rfl, ⟨toBytes_sl hl hz hw (fun _ => ⟨a, rfl, fun i hi => hcell i (by omega)⟩), hl, by unfold maxLen at hm; omega, fun e => nomatch e⟩, fun x hx => ?_⟩
    simp only [Value.okWide, Tryd.underlying35, Cell.okWide, Cell.ok, World.has] at hv
    obtain ⟨_, _, _, _, row, cells, hs, _⟩ := hv
    rw [blks_some, List.mem_singleton] at hx
    subst hx
    unfold World.shape? at hs
    exact Decidable.byContradiction fun hge => by
      rw [Array.getElem?_eq_none (by omega)] at hs
      cases hs
set_option maxRecDepth 100000 in
theorem open_num {r : Reach} {b : Nat} {v : Value} {d : DataW H} {p : List MemPlace} (hv : Value.okWide Tryd.prog W r b 3 v) (h : DataW.Trod enc Tryd.prog W 0 (fun _ => true) true 3 v d p) :
    ∃ x : Int, v = .int .i64 x ∧ -9223372036854775808 ≤ x ∧ x ≤ 9223372036854775807 := by
  obtain ⟨x, rfl, _, _, wx⟩ := open_int Tryd.underlying3 hv h
  exact ⟨x, rfl, (int_bounds wx).1, (int_bounds wx).2⟩
set_option maxRecDepth 100000 in
theorem open_text {r : Reach} {b : Nat} {v : Value} {d : DataW H} {p : List MemPlace} (hv : Value.okWide Tryd.prog W r b 9 v) (h : DataW.Trod enc Tryd.prog W 0 (fun _ => true) true 9 v d p) :
    ∃ s : ByteArray, v = .string s ∧ d = .lit (.string s.data.toList) ∧ s.size ≤ maxLen := by
  obtain ⟨s, rfl, rfl, _, hs⟩ := ChangeMaps.open_string Tryd.underlying9 hv h
  exact ⟨s, rfl, rfl, hs⟩
end
end Go.Proofs.YtkcnnbglmckmnaaDoor
namespace Go.Proofs.YtkcnnbglmckmnaaDoor
open Go.RowKit
theorem infoByte : (Tryd.prog.info? 5).map (fun i => (i.zero, i.size, i.bytes)) = some (some (.int .u8 0), 1, 1) := by kernel_rfl
end Go.Proofs.YtkcnnbglmckmnaaDoor
namespace Go.Proofs.YtkcnnbglmckmnaaDoor
open Go.ChangeShapes Go.WideShapes Go.ChangeAt Go.RowKit Go.Deep
def strs (ls : List ByteArray) : List Value := ls.map Value.string
@[simp] theorem strs_length (ls : List ByteArray) : (strs ls).length = ls.length := by simp [strs]
end Go.Proofs.YtkcnnbglmckmnaaDoor
