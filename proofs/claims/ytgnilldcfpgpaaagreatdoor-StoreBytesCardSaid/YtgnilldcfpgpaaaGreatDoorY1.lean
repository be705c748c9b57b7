/-
  Texts of the seat, laid one behind the other: Words FrameH Append RowsOf OpenKS Num Leafs Bits Dec First Join Reader OwnMore Ints.
-/
import Derived.WalkKit
import Derived.Deep.AppendLies
import Derived.Deep.Draws
import Derived.Laws.OwnMore
import Derived.Lib.Hide
import Derived.Test.YtgnilldcfpgpaaaGreatDoorCards
import Derived.Test.YtgnilldcfpgpaaaGreatDoorTie
import Derived.ProofKit
import Derived.OpenShut
import Derived.Deep.DeepHandedRow
import Derived.Lay
import Derived.Maps.AppendAt
import Derived.Deep.RegionLaw
import Derived.RegionTactic
import Derived.OwnWalk
import Derived.Test.YtgnilldcfpgpaaaGreatDoorRows
import Derived.ChangeMaps5
import Derived.Deep.Matrix
import Derived.SizedLaws
import Derived.Deep.QuietTactic
import Derived.BigQuiet
import Derived.Laws.BitsAllLaws
import Derived.Handy
import Derived.Deep.DeepMust
namespace Go.Proofs.YtgnilldcfpgpaaaGreatDoor
open Go.RowKit
def bv (b : UInt8) : Value := .int .u8 (b.toNat : Int)
def bvs (l : List UInt8) : List Value := l.map bv
@[simp] theorem bvs_length (l : List UInt8) : (bvs l).length = l.length := by simp [bvs]
@[simp] theorem bvs_nil : bvs [] = [] := rfl
@[simp] theorem bvs_append (l m : List UInt8) : bvs (l ++ m) = bvs l ++ bvs m := by simp [bvs]
theorem bvs_get (l : List UInt8) (k : Nat) (h : k < l.length) : (bvs l)[k]? = some (bv l[k]) := by simp [bvs, h]
theorem bvs_one (l : List UInt8) : ∀ u ∈ bvs l, u.oneCell' = true := by
  intro u hu
  simp only [bvs, List.mem_map] at hu
  obtain ⟨b, _, rfl⟩ := hu
  rfl
theorem bvs_take (l : List UInt8) (k : Nat) : (bvs l).take k = bvs (l.take k) := by simp [bvs, List.map_take]
theorem bvs_drop (l : List UInt8) (k : Nat) : (bvs l).drop k = bvs (l.drop k) := by simp [bvs, List.map_drop]
theorem byte_lt (b : UInt8) : b.toNat < 256 := b.toNat_lt
theorem add_block (a : Addr) (n : Nat) : (a.add n).block = a.block := by unfold Addr.add; split <;> rfl
theorem add_add (a : Addr) (i j : Nat) : (a.add i).add j = a.add (i + j) := by
  unfold Addr.add
  by_cases hi : i = 0 <;> by_cases hj : j = 0 <;> simp [hi, hj, Nat.add_assoc]
theorem add_none (g o j : Nat) : (⟨g, o, none⟩ : Addr).add j = ⟨g, o + j, none⟩ := by
  unfold Addr.add
  split <;> simp_all
theorem add_zero (a : Addr) : a.add 0 = a := by simp [Addr.add]
structure Only (rs : List Nat) (w w' : World) : Prop where
  os : w'.os = w.os
  tape : w'.tape = w.tape
  output : w'.output = w.output
  size : w.heap.size ≤ w'.heap.size
  block : ∀ k, k < w.heap.size → k ∉ rs → w'.heap[k]? = w.heap[k]?
section
variable {rs ss : List Nat} {a b c w w' : World}
theorem Only.refl (rs : List Nat) (w : World) : Only rs w w := ⟨rfl, rfl, rfl, Nat.le_refl _, fun _ _ _ => rfl⟩
theorem Only.trans (h : Only rs a b) (k : Only ss b c) (hs : ∀ x ∈ ss, x ∈ rs ∨ a.heap.size ≤ x) : Only rs a c :=
  ⟨k.os.trans h.os, k.tape.trans h.tape, k.output.trans h.output, Nat.le_trans h.size k.size, fun i hi hn =>
    (k.block i (Nat.lt_of_lt_of_le hi h.size) (fun hm => by rcases hs i hm with h1 | h1; exact hn h1; omega)).trans (h.block i hi hn)⟩
theorem Only.then (h : Only rs a b) (k : Only [] b c) : Only rs a c := h.trans k (fun _ hx => by cases hx)
theorem Only.mono (h : Only rs a b) (hs : ∀ x ∈ rs, x ∈ ss ∨ a.heap.size ≤ x) : Only ss a b :=
  ⟨h.os, h.tape, h.output, h.size, fun i hi hn => h.block i hi (fun hm => by rcases hs i hm with h1 | h1; exact hn h1; omega)⟩
theorem Only.drew (h : Only rs a b) : Only rs a b.drew := ⟨h.os, h.tape, h.output, h.size, h.block⟩
theorem Only.drewN (h : Only rs a b) (n : Nat) : Only rs a (b.drewN n) := ⟨h.os, h.tape, h.output, h.size, h.block⟩
theorem Only.alloc (h : Only rs a b) (o : Obj) : Only rs a (b.alloc o) :=
  ⟨h.os, h.tape, h.output, Nat.le_trans h.size (by simp), fun i hi hn => (Below.heap_alloc b o i (Nat.lt_of_lt_of_le hi h.size)).trans (h.block i hi hn)⟩
theorem Only.setCell (h : Only rs a b) {p : Addr} (hp : p.block ∈ rs ∨ a.heap.size ≤ p.block) (u : Value) : Only rs a (b.setCell p u) :=
  ⟨h.os, h.tape, h.output, by simpa [World.setCell] using h.size, fun i hi hn => (Below.heap_setCell b p u i (by
    rintro rfl
    rcases hp with hp | hp
    · exact hn hp
    · omega)).trans (h.block i hi hn)⟩
theorem Only.of_below (h : Below a.heap.size a b) : Only rs a b := ⟨h.os, h.tape, h.output, h.size, fun i hi _ => h.block i hi⟩
theorem Only.below (h : Only rs a b) {B : Nat} (hB : B ≤ a.heap.size) (hs : ∀ x ∈ rs, B ≤ x) : Below B a b :=
  ⟨h.os, h.tape, h.output, h.size, fun i hi => h.block i (by omega) (fun hm => by have := hs i hm; omega)⟩
theorem Only.of_grown {row : Option Nat} (h : a.grownBy b row) : Only row.toList a b :=
  ⟨h.os, h.tape, h.output, h.size, fun i hi hn => h.block i hi (fun e => hn (by rw [← e]; simp))⟩
theorem Only.cell (h : Only rs a b) {p : Addr} (hp : p.block < a.heap.size) (hn : p.block ∉ rs) : b.cell? p = a.cell? p := World.cell?_of_block (h.block _ hp hn)
theorem Only.frozen (h : Only rs a b) {p : Addr} (hp : p.block < a.heap.size) (hn : p.block ∉ rs) : b.frozen? p = a.frozen? p := World.frozen?_of_block (h.block _ hp hn)
theorem Only.cellSome (h : Only rs a b) {p : Addr} {v : Value} (hc : a.cell? p = some v) (hn : p.block ∉ rs) : b.cell? p = some v := (h.cell (block_lt_of_cell hc) hn).trans hc
end
def Bk (w : World) (g : Nat) (t : TypeId) (cs : Array Value) : Prop := w.heap[g]? = some (.cells cs t (0, 0))
section
variable {w w' : World} {g : Nat} {t : TypeId} {cs : Array Value}
theorem Bk.lt (h : Bk w g t cs) : g < w.heap.size := lt_of_block h
theorem Bk.cell (h : Bk w g t cs) (i : Nat) : w.cell? ⟨g, i, none⟩ = cs[i]? := cell_of_row w g i cs t (0, 0) h
theorem Bk.free (h : Bk w g t cs) (i : Nat) : w.frozen? ⟨g, i, none⟩ = false := frozen_of_row w g i cs t h
theorem Bk.new (w : World) (t : TypeId) (cs : Array Value) : Bk (w.alloc (.cells cs t)) w.heap.size t cs := heap_alloc_new w _
theorem Bk.drew (h : Bk w g t cs) : Bk w.drew g t cs := h
theorem Bk.alloc (h : Bk w g t cs) (o : Obj) : Bk (w.alloc o) g t cs := (Below.heap_alloc w o g h.lt).trans h
theorem Bk.set (h : Bk w g t cs) (i : Nat) (u : Value) : Bk (w.setCell ⟨g, i, none⟩ u) g t (cs.setIfInBounds i u) := by
  unfold Bk at h ⊢
  simp [World.setCell, Array.getElem?_modify, h]
theorem Bk.far (h : Bk w g t cs) {p : Addr} (hp : g ≠ p.block) (u : Value) : Bk (w.setCell p u) g t cs := (Below.heap_setCell w p u g hp).trans h
theorem Bk.only {rs : List Nat} (h : Bk w g t cs) (o : Only rs w w') (hn : g ∉ rs) : Bk w' g t cs := (o.block g h.lt hn).trans h
theorem Bk.ne {g' : Nat} {t' : TypeId} {cs' : Array Value} (h : Bk w g t cs) (h' : Bk w g' t' cs') (hne : t ≠ t') : g ≠ g' := by
  rintro rfl
  unfold Bk at h h'
  rw [h] at h'
  injection h' with h'
  injection h' with _ ht
  exact hne ht
theorem own_bk {base : Nat} {e : TypeId} {size n : Nat} {v : Value} {xs : List Value} (h : w.ownsRow base e size v n xs) {k : Nat} (hk : v.ownBlock = some k) : ∃ cur, Bk w k e cur := by
  rcases h.2 with ⟨rfl, _⟩ | ⟨g', cap, cur, rfl, _, hh, _⟩
  · cases hk
  · have : g' = k := by simpa [Value.ownBlock] using hk
    subst this
    exact ⟨cur, hh⟩
end
def Sl (w : World) (A : Option Addr) (n : Nat) (xs : List Value) : Prop :=
  xs.length = n ∧ (0 < n → ∃ ad, A = some ad ∧ ∀ j u, xs[j]? = some u → w.cell? (ad.add j) = some u)
section
variable {w w' : World} {A : Option Addr} {n : Nat} {xs : List Value}
theorem Sl.none_ : Sl w A 0 [] := ⟨rfl, fun h => absurd h (by omega)⟩
theorem Sl.len (h : Sl w A n xs) : xs.length = n := h.1
theorem Sl.at_ {k : Nat} (h : Sl w A n xs) (hk : k < n) : ∃ ad u, A = some ad ∧ xs[k]? = some u ∧ w.cell? (ad.add k) = some u := by
  obtain ⟨ad, e, hc⟩ := h.2 (by omega)
  have hl : k < xs.length := by have := h.1; omega
  exact ⟨ad, xs[k], e, List.getElem?_eq_getElem hl, hc k _ (List.getElem?_eq_getElem hl)⟩
theorem Sl.only {rs : List Nat} (h : Sl w A n xs) (o : Only rs w w') (hd : ∀ ad, A = some ad → ad.block ∉ rs) : Sl w' A n xs :=
  ⟨h.1, fun hn => by
    obtain ⟨ad, e, hc⟩ := h.2 hn
    exact ⟨ad, e, fun j u hu => o.cellSome (hc j u hu) (by rw [add_block]; exact hd ad e)⟩⟩
theorem Sl.only' {rs : List Nat} (h : Sl w A n xs) (o : Only rs w w') (hd : 0 < n → ∀ ad, A = some ad → ad.block ∉ rs) : Sl w' A n xs :=
  ⟨h.1, fun hn => by
    obtain ⟨ad, e, hc⟩ := h.2 hn
    exact ⟨ad, e, fun j u hu => o.cellSome (hc j u hu) (by rw [add_block]; exact hd hn ad e)⟩⟩
theorem Sl.lt (h : Sl w A n xs) (hn : 0 < n) : ∀ ad, A = some ad → ad.block < w.heap.size := by
  rintro ad rfl
  obtain ⟨ad', u, e, _, hc⟩ := h.at_ hn
  injection e with e
  subst e
  have := block_lt_of_cell hc
  rwa [add_block] at this
theorem Sl.keep (h : Sl w A n xs) (o : Only [] w w') : Sl w' A n xs := h.only o (fun _ _ hm => by cases hm)
theorem Sl.alloc (h : Sl w A n xs) (o : Obj) : Sl (w.alloc o) A n xs := h.keep ((Only.refl _ _).alloc o)
theorem Sl.add {k m : Nat} {ad : Addr} (h : Sl w (some ad) n xs) (hk : k + m ≤ n) : Sl w (some (ad.add k)) m ((xs.drop k).take m) := by
  refine ⟨by rw [List.length_take, List.length_drop, h.1]; omega, fun hm => ?_⟩
  obtain ⟨ad', e, hc⟩ := h.2 (by omega)
  obtain rfl : ad = ad' := by injection e
  refine ⟨_, rfl, fun j u hu => ?_⟩
  rw [add_add]
  rw [List.getElem?_take] at hu
  split at hu
  · exact hc _ u (by rw [← hu, List.getElem?_drop])
  · cases hu
theorem Sl.cut (h : Sl w A n xs) {k cap : Nat} (hk : k ≤ n) (hc : n ≤ cap) : Sl w (if cap = k then A else A.map (·.add k)) (n - k) (xs.drop k) := by
  refine ⟨by rw [List.length_drop, h.1], fun hn => ?_⟩
  obtain ⟨ad, rfl, hcell⟩ := h.2 (by omega)
  rw [if_neg (by omega)]
  refine ⟨ad.add k, rfl, fun j u hu => ?_⟩
  rw [add_add]
  exact hcell _ u (by rw [← hu, List.getElem?_drop])
theorem Sl.pre (h : Sl w A n xs) {k : Nat} (hk : k ≤ n) : Sl w A k (xs.take k) := by
  refine ⟨by rw [List.length_take, h.1]; omega, fun hn => ?_⟩
  obtain ⟨ad, e, hc⟩ := h.2 (by omega)
  refine ⟨ad, e, fun j u hu => hc j u ?_⟩
  rw [List.getElem?_take] at hu
  split at hu
  · exact hu
  · cases hu
theorem Sl.of_own {base : Nat} {e : TypeId} {c : Nat} (h : w.ownsRow base e 1 (.slice A n c) n xs) : Sl w A n xs := by
  refine ⟨by have := h.1; omega, fun hn => ?_⟩
  obtain ⟨g, cap, hv, _, _⟩ := h.form hn
  have hA : A = some ⟨g, 0, none⟩ := by injection hv
  subst hA
  exact ⟨_, rfl, h.cells (g := g) rfl⟩
theorem Sl.of_new (w : World) (cs : Array Value) (t : TypeId) (fr : Nat × Nat) : Sl (w.alloc (.cells cs t fr)) (some ⟨w.heap.size, 0, none⟩) cs.size cs.toList := by
  refine ⟨by simp, fun _ => ⟨_, rfl, fun j u hu => ?_⟩⟩
  rw [add_none, Nat.zero_add, World.cell?_alloc_mark]
  simpa using hu
theorem Sl.of_bk {g : Nat} {t : TypeId} {cs : Array Value} (h : Bk w g t cs) : Sl w (some ⟨g, 0, none⟩) cs.size cs.toList := by
  refine ⟨by simp, fun _ => ⟨_, rfl, fun j u hu => ?_⟩⟩
  rw [add_none, Nat.zero_add, h.cell]
  simpa using hu
end
theorem own_only {w w' : World} {base : Nat} {e : TypeId} {size n : Nat} {v : Value} {xs : List Value} {rs : List Nat} (h : w.ownsRow base e size v n xs) (o : Only rs w w') (hd : ∀ k, v.ownBlock = some k → k ∉ rs) : w'.ownsRow base e size v n xs := by
  refine ⟨h.1, ?_⟩
  rcases h.2 with h0 | ⟨g, cap, cur, rfl, hb, hg, r⟩
  · exact .inl h0
  · exact .inr ⟨g, cap, cur, rfl, hb, (o.block g (lt_of_block hg) (hd g rfl)).trans hg, r⟩
end Go.Proofs.YtgnilldcfpgpaaaGreatDoor
namespace Go.Proofs.YtgnilldcfpgpaaaGreatDoor
open Go.ChangeShapes Go.WideShapes Go.ChangeAt Go.RowKit
theorem ownKnobs : ownKnob Tryz.prog.godebug = none := by kernel_rfl
noncomputable def laidWorld (os : Os) : World := World.laidAll Tryz.prog os Rows.storeOfNothingRow.laid
theorem laidOut_seat : laidOutB Tryz.prog = true := by kernel_rfl
theorem trodAll_stays {H : Type} {enc : TypeId × Value → H} {W W' : World} (hb : Below W.heap.size W W') :
    ∀ (ts : List TypeId) (vs : List Value) (ds : List (DataW H)) (ps : List MemPlace), (∀ t ∈ ts, Tryz.prog.readableRec t = true ∧ t < Tryz.prog.types.size) → (∀ x ∈ ps, x.block < W.heap.size) →
      DataW.TrodAll enc Tryz.prog W 0 (fun _ => true) true ts vs ds ps → DataW.TrodAll enc Tryz.prog W' 0 (fun b => decide (b < W.heap.size)) true ts vs ds ps := by
  intro ts
  induction ts with
  | nil =>
    intro vs ds ps _ _ h
    obtain ⟨rfl, rfl, rfl⟩ := trodAll_nil h
    exact trodAll_mk0
  | cons t ts ih =>
    intro vs ds ps hts hlt h
    obtain ⟨v, vs', d, ds', p, q, rfl, rfl, rfl, h0, hr⟩ := trodAll_cons h
    obtain ⟨h1, h2⟩ := hts t (by simp)
    exact trodAll_cons_mk (Below.trod laidOut_seat h1 h2 h0 hb (fun x hx => hlt x (by simp [hx]))) (ih _ _ _ (fun t ht => hts t (by simp [ht])) (fun x hx => hlt x (by simp [hx])) hr)
theorem post_law {H : Type} {enc : TypeId × Value → H} {f : Func} {s : ChangeSpec} {W W' : World} {args : Array Value} {ds : List (DataW H)} {before : List MemPlace}
    (hW : DataW.Whole enc Tryz.prog f.params.toList s.vars false W args.toList ds [] before) (hv : s.vars = []) (hr : f.resultTypes = #[4]) (hfn : s.fn H (ds ++ []) = { results := [.lit (.bool true)], args := ds })
    (hts : ∀ t ∈ f.params.toList, Tryz.prog.readableRec t = true ∧ t < Tryz.prog.types.size) (ho : Only [] W W') : s.post enc Tryz.prog f false true false false W args (.bool true) W' := by
  have hb : Below W.heap.size W W' := ho.below (Nat.le_refl _) (fun _ hx => by cases hx)
  have hW' := hW
  have hlt := hW.lt
  obtain ⟨p, q, hA, hV, rfl, hfz, hnd⟩ := hW
  rw [hv] at hV
  obtain ⟨_, rfl⟩ := trodVars_none hV
  rw [List.append_nil] at hlt
  refine ⟨ds, [], _, [], p, [], hW', ?_, ?_, ?_, hb.frame _, fun h => by cases h⟩
  · rw [hr, hfn]
    exact trodAll_mk1 (shut_bool Tryz.underlying4 true)
  · rw [hfn]
    exact trodAll_stays hb _ _ _ _ hts hlt hA
  · rw [hv, hfn]
    exact rfl
end Go.Proofs.YtgnilldcfpgpaaaGreatDoor
namespace Go.Proofs.YtgnilldcfpgpaaaGreatDoor
open Go.RowKit
def blks : Option Addr → List Nat
  | none => []
  | some a => [a.block]
@[simp] theorem blks_none : blks none = [] := rfl
@[simp] theorem blks_some (a : Addr) : blks (some a) = [a.block] := rfl
def Own (w : World) (t : TypeId) (A : Option Addr) (n c : Nat) (xs : List Value) : Prop := w.ownsRow 0 t 1 (.slice A n c) n xs
section
variable {w w' : World} {t : TypeId} {A : Option Addr} {n c : Nat} {xs : List Value}
theorem Own.nil (w : World) (t : TypeId) : Own w t none 0 0 [] := ⟨rfl, .inl ⟨rfl, rfl⟩⟩
theorem Own.len (h : Own w t A n c xs) : xs.length = n := by have := h.1; omega
theorem Own.sl (h : Own w t A n c xs) : Sl w A n xs := Sl.of_own h
theorem Own.drew (h : Own w t A n c xs) : Own w.drew t A n c xs := h
theorem Own.only {rs : List Nat} (h : Own w t A n c xs) (o : Only rs w w') (hd : ∀ k ∈ blks A, k ∉ rs) : Own w' t A n c xs :=
  own_only h o (fun k hk => hd k (by
    cases A with
    | none => cases hk
    | some a => simp [Value.ownBlock] at hk; simp [hk]))
theorem Own.keep (h : Own w t A n c xs) (o : Only [] w w') : Own w' t A n c xs := h.only o (fun _ _ hm => by cases hm)
theorem Own.alloc (h : Own w t A n c xs) (o : Obj) : Own (w.alloc o) t A n c xs := h.keep ((Only.refl _ _).alloc o)
theorem Own.bk (h : Own w t A n c xs) {k : Nat} (hk : k ∈ blks A) : ∃ cur, Bk w k t cur := by
  refine own_bk h ?_
  cases A with
  | none => cases hk
  | some a => simp at hk; simp [Value.ownBlock, hk]
theorem Own.lt (h : Own w t A n c xs) {k : Nat} (hk : k ∈ blks A) : k < w.heap.size := by
  obtain ⟨cur, hc⟩ := h.bk hk
  exact hc.lt
theorem Own.ne {g : Nat} {t' : TypeId} {cs : Array Value} (h : Own w t A n c xs) (hg : Bk w g t' cs) (hne : t ≠ t') : g ∉ blks A := by
  intro hm
  obtain ⟨cur, hc⟩ := h.bk hm
  exact hc.ne hg hne rfl
theorem Own.setFar (h : Own w t A n c xs) {p : Addr} (hp : p.block ∉ blks A) (u : Value) : Own (w.setCell p u) t A n c xs :=
  h.only (rs := [p.block]) ((Only.refl _ _).setCell (.inl (by simp)) u) (fun k hk hm => by simp at hm; subst hm; exact hp hk)
theorem Own.cap (h : Own w t A n c xs) : n ≤ c := by
  rcases h.2 with ⟨hv, h0⟩ | ⟨g, cap, cur, hv, _, _, hc, _⟩
  · simp only [Value.slice.injEq] at hv; omega
  · simp only [Value.slice.injEq] at hv; omega
end
section
variable {P : Program} {w : World}
theorem run_append_none' (base : Nat) (t ty e : TypeId) (i : TypeInfo) (size : Nat) (ht : P.underlying t = some (.slice e)) (hi : P.info? e = some i)
    (v : Value) (n : Nat) (xs : List Value) (hown : w.ownsRow base e size v n xs) (c : Nat) : (Builtin.append_ #[t, t] ty #[v, .slice none 0 c]).run P w = .ok v w := by
  rcases hown.2 with ⟨rfl, rfl⟩ | ⟨g, cap, cur, rfl, _, _, hnc, _⟩
  · simp [Builtin.append_, run_underlying ht, sizeOf, typeInfo, hi, Builtin.lenOf, Builtin.firstCells]
  · simp [Builtin.append_, run_underlying ht, sizeOf, typeInfo, hi, Builtin.lenOf, Builtin.firstCells, hnc, storeCells]
theorem run_append_sl (t ty e : TypeId) (i : TypeInfo) (z : Value) (bytes : Nat) (ht : P.underlying t = some (.slice e)) (hi : P.info? e = some i) (hz : i.zero = some z)
    (hsize : i.size = 1) (hby : i.bytes = bytes) (hzs : z.cells.size = 1) (A : Option Addr) (n c : Nat) (xs : List Value) (hown : Own w e A n c xs)
    (A2 : Option Addr) (m c2 : Nat) (news : List Value) (hr : Sl w A2 m news) (h1 : ∀ u ∈ news, u.oneCell' = true) (h63 : n + m ≤ maxLen) (hbytes : (n + m) * bytes ≤ 140737488355328) :
    ∃ A' c' w', (Builtin.append_ #[t, t] ty #[.slice A n c, .slice A2 m c2]).run P w = .ok (.slice A' (n + m) c') w' ∧ Own w' e A' (n + m) c' (xs ++ news) ∧ Only (blks A) w w' ∧
      (∀ k ∈ blks A', k ∈ blks A ∨ w.heap.size ≤ k) := by
  have nothing : m = 0 → news = [] := fun h => List.eq_nil_of_length_eq_zero (by have := hr.len; omega)
  cases A2 with
  | none =>
    have hm : m = 0 := by
      rcases Nat.eq_zero_or_pos m with h0 | h0
      · exact h0
      · obtain ⟨ad, h, _⟩ := hr.2 h0
        cases h
    subst hm
    rw [nothing rfl]
    exact ⟨A, c, w, run_append_none' 0 t ty e i 1 ht hi _ n xs hown c2, by simpa using hown, Only.refl _ _, fun k hk => .inl hk⟩
  | some ad =>
    have hcells : ∀ j u, news[j]? = some u → w.cell? (ad.add j) = some u := by
      intro j u hu
      rcases Nat.eq_zero_or_pos m with h0 | h0
      · rw [nothing h0] at hu
        simp at hu
      · obtain ⟨ad', h, hc⟩ := hr.2 h0
        injection h with h
        subst h
        exact hc j u hu
    obtain ⟨v', w', hrun, h2, h3, h4, h5⟩ := run_append_own_at (P := P) w 0 t ty e i z 1 bytes ht hi hz hsize hby hzs (by omega) _ n xs hown ad m c2 news (by have := hr.len; omega) hcells h1 h63 hbytes (Nat.zero_le _)
    have hform : ∃ A' c', v' = .slice A' (n + m) c' := by
      rcases h2.2 with ⟨rfl, h0⟩ | ⟨g, cap, cur, rfl, _⟩
      · exact ⟨none, 0, by rw [h0]⟩
      · exact ⟨_, _, rfl⟩
    obtain ⟨A', c', rfl⟩ := hform
    refine ⟨A', c', w', hrun, h2, ?_, ?_⟩
    · have := Only.of_grown h3
      cases A with
      | none => simpa [Value.ownBlock] using this
      | some a => simpa [Value.ownBlock] using this
    · intro k hk
      cases A' with
      | none => cases hk
      | some a' =>
        simp only [blks_some, List.mem_singleton] at hk
        subst hk
        rcases h5 with h5 | h5
        · left
          cases A with
          | none => simp [Value.ownBlock] at h5
          | some a => simp [Value.ownBlock] at h5; simp [h5]
        · right
          simp [Value.ownBlock] at h5
          omega
theorem wp_append_sl {o : Oper} {a : Act} {K : Act → World → Prop} {Q : Exit → Act → World → Prop} (s x : Operand) (t : TypeId)
    (ho : o.op = .call { callee := .builtin .append, args := #[s, x], argTypes := #[t, t] }) (e : TypeId) (i : TypeInfo) (z : Value) (bytes : Nat) (ht : P.underlying t = some (.slice e)) (hi : P.info? e = some i)
    (hz : i.zero = some z) (hsize : i.size = 1) (hby : i.bytes = bytes) (hzs : z.cells.size = 1) (A : Option Addr) (n c : Nat) (xs : List Value) (hs : a.eval s = .slice A n c) (hown : Own w e A n c xs)
    (A2 : Option Addr) (m c2 : Nat) (news : List Value) (hx : a.eval x = .slice A2 m c2) (hr : Sl w A2 m news) (h1 : ∀ u ∈ news, u.oneCell' = true) (h63 : n + m ≤ maxLen) (hbytes : (n + m) * bytes ≤ 140737488355328)
    (h : ∀ A' c' w', Own w' e A' (n + m) c' (xs ++ news) → Only (blks A) w w' → (∀ k ∈ blks A', k ∈ blks A ∨ w.heap.size ≤ k) → K (a.put o.dst (.slice A' (n + m) c')) w') : o.wp P a w K Q := by
  obtain ⟨A', c', w', hrun, h2, h3, h4⟩ := run_append_sl (P := P) t o.type e i z bytes ht hi hz hsize hby hzs A n c xs hown A2 m c2 news hr h1 h63 hbytes
  unfold Oper.wp execOp
  simp only [ho, resolve, invoke, builtin, Sem.run_bind, Sem.run_pure, Result.andThen_ok, List.map_toArray, List.map_cons, List.map_nil, hs, hx, hrun]
  exact h A' c' w' h2 h3 h4
theorem wpList_append_sl {ops : Array Oper} {rest : List Oper} {o : Oper} {a : Act} {Q : Exit → Act → World → Prop} (hgd : o.guard = none) (s x : Operand) (t : TypeId)
    (ho : o.op = .call { callee := .builtin .append, args := #[s, x], argTypes := #[t, t] }) (e : TypeId) (i : TypeInfo) (z : Value) (bytes : Nat) (ht : P.underlying t = some (.slice e)) (hi : P.info? e = some i)
    (hz : i.zero = some z) (hsize : i.size = 1) (hby : i.bytes = bytes) (hzs : z.cells.size = 1) (A : Option Addr) (n c : Nat) (xs : List Value) (hs : a.eval s = .slice A n c) (hown : Own w e A n c xs)
    (A2 : Option Addr) (m c2 : Nat) (news : List Value) (hx : a.eval x = .slice A2 m c2) (hr : Sl w A2 m news) (h1 : ∀ u ∈ news, u.oneCell' = true) (h63 : n + m ≤ maxLen) (hbytes : (n + m) * bytes ≤ 140737488355328)
    (h : ∀ A' c' w', Own w' e A' (n + m) c' (xs ++ news) → Only (blks A) w w' → (∀ k ∈ blks A', k ∈ blks A ∨ w.heap.size ≤ k) → wpList P ops Q rest (a.put o.dst (.slice A' (n + m) c')) w') : wpList P ops Q (o :: rest) a w :=
  wpList_plain hgd fun _ hK => wp_append_sl s x t ho e i z bytes ht hi hz hsize hby hzs A n c xs hs hown A2 m c2 news hx hr h1 h63 hbytes fun A' c' w' h2 h3 h4 => hK _ _ (h A' c' w' h2 h3 h4)
theorem step_append_sl {ops : Array Oper} {o : Oper} {a : Act} {K : Act → World → Prop} {Q : Exit → Act → World → Prop} {E : Prop} (hgd : o.guard = none) (s x : Operand) (t : TypeId)
    (ho : o.op = .call { callee := .builtin .append, args := #[s, x], argTypes := #[t, t] }) (e : TypeId) (i : TypeInfo) (z : Value) (bytes : Nat) (ht : P.underlying t = some (.slice e)) (hi : P.info? e = some i)
    (hz : i.zero = some z) (hsize : i.size = 1) (hby : i.bytes = bytes) (hzs : z.cells.size = 1) (A : Option Addr) (n c : Nat) (xs : List Value) (hs : a.eval s = .slice A n c) (hown : Own w e A n c xs)
    (A2 : Option Addr) (m c2 : Nat) (news : List Value) (hx : a.eval x = .slice A2 m c2) (hr : Sl w A2 m news) (h1 : ∀ u ∈ news, u.oneCell' = true) (h63 : n + m ≤ maxLen) (hbytes : (n + m) * bytes ≤ 140737488355328)
    (h : ∀ A' c' w', Own w' e A' (n + m) c' (xs ++ news) → Only (blks A) w w' → (∀ k ∈ blks A', k ∈ blks A ∨ w.heap.size ≤ k) → K (a.put o.dst (.slice A' (n + m) c')) w') :
    if Region.wanted o (yielded ops a.tmps) = true then Oper.wp P o a w K Q else E := by
  have hw : Region.wanted o (yielded ops a.tmps) = true := by simp [Region.wanted, hgd]
  rw [if_pos hw]
  exact wp_append_sl s x t ho e i z bytes ht hi hz hsize hby hzs A n c xs hs hown A2 m c2 news hx hr h1 h63 hbytes h
end
end Go.Proofs.YtgnilldcfpgpaaaGreatDoor
namespace Go.Proofs.YtgnilldcfpgpaaaGreatDoor
open Go.RowKit
theorem infoByte : (Tryz.prog.info? 5).map (fun i => (i.zero, i.size, i.bytes)) = some (some (.int .u8 0), 1, 1) := by kernel_rfl
theorem infoInt : (Tryz.prog.info? 3).map (fun i => (i.zero, i.size, i.bytes)) = some (some (.int .i64 0), 1, 8) := by kernel_rfl
theorem infoBytes : (Tryz.prog.info? 27).map (fun i => (i.zero, i.size, i.bytes)) = some (some (.slice none 0 0), 1, 24) := by kernel_rfl
def Rw (w : World) (A : Option Addr) (n : Nat) (ls : List (List UInt8)) : Prop :=
  ls.length = n ∧ ∃ vs : List Value, Sl w A n vs ∧ ∀ (i : Nat) (l : List UInt8), ls[i]? = some l → ∃ Ai ci, vs[i]? = some (.slice Ai l.length ci) ∧ Sl w Ai l.length (bvs l)
section
variable {w w' : World} {A : Option Addr} {n : Nat} {ls : List (List UInt8)}
theorem Rw.len (h : Rw w A n ls) : ls.length = n := h.1
theorem Rw.keep (h : Rw w A n ls) (o : Only [] w w') : Rw w' A n ls := by
  obtain ⟨hl, vs, hs, hr⟩ := h
  exact ⟨hl, vs, hs.keep o, fun i l hi => by obtain ⟨Ai, ci, h1, h2⟩ := hr i l hi; exact ⟨Ai, ci, h1, h2.keep o⟩⟩
theorem Rw.at_ (h : Rw w A n ls) {k : Nat} (hk : k < n) (hk' : k < ls.length) : ∃ ad Ai ci, A = some ad ∧ w.cell? (ad.add k) = some (.slice Ai ls[k].length ci) ∧ Sl w Ai ls[k].length (bvs ls[k]) := by
  obtain ⟨hl, vs, hs, hr⟩ := h
  obtain ⟨ad, u, rfl, hu, hc⟩ := hs.at_ hk
  obtain ⟨Ai, ci, h1, h2⟩ := hr k ls[k] (List.getElem?_eq_getElem hk')
  rw [hu] at h1
  injection h1 with h1
  subst h1
  exact ⟨ad, Ai, ci, rfl, hc, h2⟩
theorem Rw.one {g : Nat} {t : TypeId} {A : Option Addr} {c : Nat} {l : List UInt8} (h : Bk w g t #[.slice A l.length c]) (hs : Sl w A l.length (bvs l)) : Rw w (some ⟨g, 0, none⟩) 1 [l] :=
  ⟨rfl, _, Sl.of_bk h, fun i l' hi => by
    match i, hi with
    | 0, hi => simp at hi; subst hi; exact ⟨A, c, by simp, hs⟩⟩
theorem Rw.two {g : Nat} {t : TypeId} {A A2 : Option Addr} {c c2 : Nat} {l l2 : List UInt8} (h : Bk w g t #[.slice A l.length c, .slice A2 l2.length c2]) (hs : Sl w A l.length (bvs l)) (hs2 : Sl w A2 l2.length (bvs l2)) : Rw w (some ⟨g, 0, none⟩) 2 [l, l2] :=
  ⟨rfl, _, Sl.of_bk h, fun i l' hi => by
    match i, hi with
    | 0, hi => simp at hi; subst hi; exact ⟨A, c, by simp, hs⟩
    | 1, hi => simp at hi; subst hi; exact ⟨A2, c2, by simp, hs2⟩⟩
end
def RwS (S : Nat → Prop) (w : World) (A : Option Addr) (n : Nat) (ls : List (List UInt8)) : Prop :=
  ls.length = n ∧ ∃ vs : List Value, Sl w A n vs ∧ (0 < n → ∀ ad, A = some ad → S ad.block) ∧ ∀ (i : Nat) (l : List UInt8), ls[i]? = some l → ∃ Ai ci, vs[i]? = some (.slice Ai l.length ci) ∧ Sl w Ai l.length (bvs l) ∧ (0 < l.length → ∀ ad, Ai = some ad → S ad.block)
section
variable {w w' : World} {A : Option Addr} {n : Nat} {ls : List (List UInt8)} {S : Nat → Prop}
theorem RwS.len (h : RwS S w A n ls) : ls.length = n := h.1
theorem RwS.rw (h : RwS S w A n ls) : Rw w A n ls := by
  obtain ⟨hl, vs, hs, _, hr⟩ := h
  exact ⟨hl, vs, hs, fun i l hi => by obtain ⟨Ai, ci, h1, h2, _⟩ := hr i l hi; exact ⟨Ai, ci, h1, h2⟩⟩
theorem RwS.only {rs : List Nat} (h : RwS S w A n ls) (o : Only rs w w') (hd : ∀ k, S k → k ∉ rs) : RwS S w' A n ls := by
  obtain ⟨hl, vs, hs, hS, hr⟩ := h
  exact ⟨hl, vs, hs.only' o (fun hn ad e => hd _ (hS hn ad e)), hS, fun i l hi => by
    obtain ⟨Ai, ci, h1, h2, h3⟩ := hr i l hi
    exact ⟨Ai, ci, h1, h2.only' o (fun hn ad e => hd _ (h3 hn ad e)), h3⟩⟩
theorem RwS.at_ (h : RwS S w A n ls) {k : Nat} (hk : k < n) (hk' : k < ls.length) : ∃ ad Ai ci, A = some ad ∧ S ad.block ∧ w.cell? (ad.add k) = some (.slice Ai ls[k].length ci) ∧ Sl w Ai ls[k].length (bvs ls[k]) ∧ (0 < ls[k].length → ∀ ad, Ai = some ad → S ad.block) := by
  obtain ⟨hl, vs, hs, hS, hr⟩ := h
  obtain ⟨ad, u, rfl, hu, hc⟩ := hs.at_ hk
  obtain ⟨Ai, ci, h1, h2, h3⟩ := hr k ls[k] (List.getElem?_eq_getElem hk')
  rw [hu] at h1
  injection h1 with h1
  subst h1
  exact ⟨ad, Ai, ci, rfl, hS (by omega) ad rfl, hc, h2, h3⟩
end
def Fresh (w : World) (l : List UInt8) (e : Ending) (w' : World) : Prop :=
  ∃ A c, e = .returned (.slice A l.length c) ∧ Own w' 5 A l.length c (bvs l) ∧ Only [] w w' ∧ ∀ k ∈ blks A, w.heap.size ≤ k
def cat (ls : List (List UInt8)) (k : Nat) : List UInt8 := (ls.take k).flatten
def catLen (ls : List (List UInt8)) (k : Nat) : Nat := (cat ls k).length
theorem cat_zero (ls : List (List UInt8)) : cat ls 0 = [] := rfl
theorem catLen_zero (ls : List (List UInt8)) : catLen ls 0 = 0 := rfl
theorem cat_succ (ls : List (List UInt8)) (k : Nat) (h : k < ls.length) : cat ls (k + 1) = cat ls k ++ ls[k] := by
  unfold cat
  rw [List.take_succ_eq_append_getElem h, List.flatten_append]
  simp
theorem catLen_succ (ls : List (List UInt8)) (k : Nat) (h : k < ls.length) : catLen ls (k + 1) = catLen ls k + ls[k].length := by
  unfold catLen
  rw [cat_succ _ _ h, List.length_append]
theorem cat_all (ls : List (List UInt8)) {k : Nat} (h : ls.length ≤ k) : cat ls k = ls.flatten := by
  unfold cat
  rw [List.take_of_length_le h]
theorem catLen_all (ls : List (List UInt8)) {k : Nat} (h : ls.length ≤ k) : catLen ls k = ls.flatten.length := by
  unfold catLen
  rw [cat_all _ h]
theorem catLen_le (ls : List (List UInt8)) (k : Nat) : catLen ls k ≤ ls.flatten.length := by
  have h := congrArg List.length (congrArg List.flatten (List.take_append_drop k ls))
  rw [List.flatten_append, List.length_append] at h
  unfold catLen cat
  omega
end Go.Proofs.YtgnilldcfpgpaaaGreatDoor
namespace Go.Proofs.YtgnilldcfpgpaaaGreatDoor
open Go.ChangeShapes Go.WideShapes Go.ChangeAt Go.RowKit Go.Deep
theorem bytesByte : Tryz.prog.bytesOf 5 = 1 := by kernel_rfl
theorem cellsByte : Tryz.prog.cellsOf 5 = 1 := by kernel_rfl
theorem cellsInt : Tryz.prog.cellsOf 3 = 1 := by kernel_rfl
def toBytes (zs : List Int) : List UInt8 := zs.map fun z => UInt8.ofNat z.toNat
theorem toBytes_length (zs : List Int) : (toBytes zs).length = zs.length := by simp [toBytes]
theorem byte_wf {z : Int} (h : (Lit.int .u8 z).wf = true) : 0 ≤ z ∧ z < 256 := by
  simp [Lit.wf, IntKind.min, IntKind.max, IntKind.signed, IntKind.bits] at h
  omega
theorem toBytes_sl {w : World} {A : Option Addr} {n m : Nat} {zs : List Int} (hm : n ≤ m) (hz : zs.length = m) (hw : ∀ z ∈ zs, (Lit.int .u8 z).wf = true)
    (hc : 0 < n → ∃ ad, A = some ad ∧ ∀ i, i < m → w.cell? (ad.add i) = some (.int .u8 (zs.getD i 0))) : Sl w A n (bvs (toBytes (zs.take n))) := by
  have hl : (toBytes (zs.take n)).length = n := by rw [toBytes_length, List.length_take]; omega
  refine ⟨by rw [bvs_length, hl], fun hn => ?_⟩
  obtain ⟨ad, e, hcell⟩ := hc hn
  refine ⟨ad, e, fun j u hu => ?_⟩
  have hj : j < n := by
    have := (List.getElem?_eq_some_iff.1 hu).1
    rw [bvs_length, hl] at this
    exact this
  rw [hcell j (by omega)]
  rw [bvs_get _ _ (by omega)] at hu
  have hz' : j < zs.length := by omega
  have hg : zs.getD j 0 = zs[j] := by simp [List.getD, hz']
  have hb := byte_wf (hw _ (List.getElem_mem hz'))
  have he : (toBytes (zs.take n))[j]'(by omega) = UInt8.ofNat (zs[j]).toNat := by simp [toBytes]
  rw [he] at hu
  rw [← hu, hg]
  unfold bv
  rw [UInt8.toNat_ofNat']
  congr 2
  omega
section
variable {H : Type} {enc : TypeId × Value → H} {W : World}
def Weighs (d : DataW H) (c : Nat) : Prop := ∀ R, (∀ e s, d = .slice e s → e.length + s.length ≤ R) → c ≤ R
set_option maxRecDepth 100000 in
theorem open_bytes {r : Reach} {b : Nat} {v : Value} {d : DataW H} {p : List MemPlace} (hv : Value.okWide Tryz.prog W r b 27 v) (h : DataW.Trod enc Tryz.prog W 0 (fun _ => true) true 27 v d p) :
    ∃ A n c l, v = .slice A n c ∧ Sl W A n (bvs l) ∧ n ≤ c ∧ Weighs d c := by
  obtain ⟨A, n, c, rfl⟩ := okWide_slice Tryz.underlying27 hv
  obtain ⟨fuel, hf⟩ := h
  rcases open_ints Tryz.underlying27 Tryz.underlying5 cellsByte hf with ⟨hcs, _⟩ | ⟨a, len, cap, zs, hcs, _, hl, hm, hz, hx, hcell, hw⟩
  · simp [Value.cells] at hcs
    obtain ⟨rfl, rfl, rfl⟩ := hcs
    exact ⟨none, 0, 0, [], rfl, Sl.none_, Nat.zero_le _, fun R _ => Nat.zero_le _⟩
  · simp [Value.cells] at hcs
    obtain ⟨rfl, rfl, rfl⟩ := hcs
    simp only [if_true] at hz
    refine ⟨some a, n, c, _, rfl, toBytes_sl hl hz hw (fun _ => ⟨a, rfl, fun i hi => hcell i (by omega)⟩), hl, fun R hR => ?_⟩
    injection hx with hx _
    have := hR _ _ hx
    simp only [lits, List.length_map, List.length_take, List.length_drop] at this
    omega
end
end Go.Proofs.YtgnilldcfpgpaaaGreatDoor
namespace Go.Proofs.YtgnilldcfpgpaaaGreatDoor
def enc (v : Nat) : List UInt8 := if v < 128 then [UInt8.ofNat v] else UInt8.ofNat (v % 128 + 128) :: enc (v / 128)
termination_by v
decreasing_by omega
theorem enc_small {v : Nat} (h : v < 128) : enc v = [UInt8.ofNat v] := by rw [enc, if_pos h]
theorem enc_more {v : Nat} (h : ¬ v < 128) : enc v = UInt8.ofNat (v % 128 + 128) :: enc (v / 128) := by rw [enc, if_neg h]
def clamp (v : Int) : Nat := if v < 0 then 0 else if 4611686018427387904 < v then 4611686018427387904 else v.toNat
theorem clamp_neg {v : Int} (h : v < 0) : clamp v = 0 := by rw [clamp, if_pos h]
theorem clamp_big {v : Int} (h : 4611686018427387904 < v) : clamp v = 4611686018427387904 := by
  have : ¬ v < 0 := by omega
  rw [clamp, if_neg this, if_pos h]
theorem clamp_mid {v : Int} (h0 : 0 ≤ v) (h : v ≤ 4611686018427387904) : clamp v = v.toNat := by
  rw [clamp, if_neg (by omega), if_neg (by omega)]
theorem clamp_le (v : Int) : clamp v ≤ 4611686018427387904 := by unfold clamp; split <;> (try split) <;> omega
theorem enc_len_pos (v : Nat) : 0 < (enc v).length := by
  rw [enc]; split <;> simp
theorem enc_len (k : Nat) : ∀ v : Nat, v < 128 ^ (k + 1) → (enc v).length ≤ k + 1 := by
  induction k with
  | zero => intro v h; rw [enc_small (by omega)]; simp
  | succ k ih =>
    intro v h
    by_cases hv : v < 128
    · rw [enc_small hv]; simp
    · rw [enc_more hv, List.length_cons]
      have : v / 128 < 128 ^ (k + 1) := by
        rw [Nat.div_lt_iff_lt_mul (by omega)]
        calc v < 128 ^ (k + 1 + 1) := h
          _ = 128 ^ (k + 1) * 128 := by rw [Nat.pow_succ]
      have := ih _ this
      omega
theorem enc_len9 {v : Nat} (h : v ≤ 4611686018427387904) : (enc v).length ≤ 9 := enc_len 8 v (by omega)
end Go.Proofs.YtgnilldcfpgpaaaGreatDoor
namespace Go.Proofs.YtgnilldcfpgpaaaGreatDoor
open Go.RowKit
set_option maxRecDepth 100000 in
theorem within_any (v : Int) (w : World) (h0 : -9223372036854775808 ≤ v) (h1 : v ≤ 9223372036854775807) :
    Calls Tryz.prog 135 #[.int .i64 v] w fun e w' => e = .returned (.int .i64 (clamp v : Nat)) ∧ w = w' := by
  by_cases ha : v < 0
  · have hc : Hid (clamp v = 0) := clamp_neg ha
    go_enter Tryz.func135, Tryz.ntmps135
    go_wp2
    go_ret
    exact ⟨by rw [hc.out]; rfl, rfl⟩
  · by_cases hb : 4611686018427387904 < v
    · have hc : Hid (clamp v = 4611686018427387904) := clamp_big hb
      go_enter Tryz.func135, Tryz.ntmps135
      go_wp2
      go_ret
      exact ⟨by rw [hc.out]; rfl, rfl⟩
    · have hc : Hid ((clamp v : Int) = v) := by
        show (clamp v : Int) = v
        rw [clamp_mid (by omega) (by omega)]; omega
      go_enter Tryz.func135, Tryz.ntmps135
      go_wp2
      go_ret
      exact ⟨by rw [hc.out]; rfl, rfl⟩
end Go.Proofs.YtgnilldcfpgpaaaGreatDoor
namespace Go.Proofs.YtgnilldcfpgpaaaGreatDoor
open Go.RowKit
theorem i64_and_nat (a b : Nat) (ha : a < 9223372036854775808) (hb : b < 9223372036854775808) : bits .and .i64 (a : Int) (b : Int) = ((a &&& b : Nat) : Int) := by
  have hx : a &&& b < 2 ^ 63 := Nat.and_lt_two_pow _ (by omega)
  show IntKind.i64.wrap ((BitVec.ofInt 64 (a : Int) &&& BitVec.ofInt 64 (b : Int)).toNat : Int) = _
  rw [BitVec.toNat_and, ofInt_u64 a (by omega), ofInt_u64 b (by omega)]
  exact IntWalk.i64_in _ (by omega)
theorem i64_or_nat (a b : Nat) (ha : a < 9223372036854775808) (hb : b < 9223372036854775808) : bits .or .i64 (a : Int) (b : Int) = ((a ||| b : Nat) : Int) := by
  have hx : a ||| b < 2 ^ 63 := Nat.or_lt_two_pow (by omega) (by omega)
  show IntKind.i64.wrap ((BitVec.ofInt 64 (a : Int) ||| BitVec.ofInt 64 (b : Int)).toNat : Int) = _
  rw [BitVec.toNat_or, ofInt_u64 a (by omega), ofInt_u64 b (by omega)]
  exact IntWalk.i64_in _ (by omega)
theorem low7 (u : Nat) (h : u < 9223372036854775808) : bits .and .i64 (u : Int) 127 = (u : Int) % 128 := by
  have e := i64_and_nat u 127 h (by omega)
  rw [Nat.and_two_pow_sub_one_eq_mod u 7] at e
  simpa using e
theorem or128 (u : Nat) : bits .or .i64 ((u : Int) % 128) 128 = (u : Int) % 128 + 128 := by
  have e := i64_or_nat (u % 128) 128 (by omega) (by omega)
  have j : u % 128 ||| 128 = u % 128 + 128 := by
    rw [Nat.or_comm, nat_join 7 128 (u % 128) (by omega) (by omega)]; omega
  rw [j] at e
  simpa using e
theorem ofNat_byte {x : Nat} (h : x < 256) : ((UInt8.ofNat x).toNat : Int) = (x : Int) := by
  rw [UInt8.toNat_ofNat']
  omega
theorem sl_one (w : World) (t : TypeId) (E : Int) (b : UInt8) (h : E = (b.toNat : Int)) : Sl (w.alloc (.cells #[.int .u8 E] t)) (some ⟨w.heap.size, 0, none⟩) 1 (bvs [b]) := by
  subst h
  exact Sl.of_bk (Bk.new w t #[bv b])
theorem or_digits (acc y k : Nat) (hk : k ≤ 8) (ha : acc < 128 ^ k) (hy : y < 128) : bits .or .i64 (acc : Int) (wrap64 ((y : Int) * 2 ^ (7 * k))) = ((acc + y * 128 ^ k : Nat) : Int) := by
  have hp : (128 : Nat) ^ k = 2 ^ (7 * k) := by rw [Nat.pow_mul]
  have hle : (2 : Nat) ^ (7 * k) ≤ 2 ^ 56 := Nat.pow_le_pow_right (by omega) (by omega)
  have hm : y * 2 ^ (7 * k) ≤ 127 * 2 ^ 56 := Nat.mul_le_mul (by omega) hle
  have hc : ((y : Int) * 2 ^ (7 * k)) = ((y * 2 ^ (7 * k) : Nat) : Int) := by rw [Int.natCast_mul, Int.natCast_pow]; rfl
  rw [hp] at ha ⊢
  rw [hc, IntWalk.wrap64_in _ (by omega), i64_or_nat acc _ (by omega) (by omega), Nat.or_comm, nat_join (7 * k) _ acc (Nat.mul_mod_left _ _) ha, Nat.add_comm]
theorem u8_low7 (x : Nat) (h : x < 256) : bits .and .u8 (x : Int) 127 = (x : Int) % 128 := by
  have e := u8_and_nat x 127 h (by omega)
  rw [Nat.and_two_pow_sub_one_eq_mod x 7] at e
  simpa using e
theorem u8_top_small (x : Nat) (h : x < 128) : bits .and .u8 (x : Int) 128 = 0 := by
  have e := u8_and_nat x 128 (by omega) (by omega)
  have j : x &&& 128 = 0 := by
    have := nat_bit 7 x
    rw [show (2 : Nat) ^ 7 = 128 from rfl] at this
    rw [this]; omega
  rw [j] at e
  simpa using e
theorem u8_top_big (x : Nat) (h : ¬ x < 128) (h' : x < 256) : bits .and .u8 (x : Int) 128 = 128 := by
  have e := u8_and_nat x 128 (by omega) (by omega)
  have j : x &&& 128 = 128 := by
    have := nat_bit 7 x
    rw [show (2 : Nat) ^ 7 = 128 from rfl] at this
    rw [this]; omega
  rw [j] at e
  simpa using e
end Go.Proofs.YtgnilldcfpgpaaaGreatDoor
namespace Go.Proofs.YtgnilldcfpgpaaaGreatDoor
def decF : Nat → Nat → List UInt8 → Option (Nat × Nat)
  | _, _, [] => none
  | i, acc, b :: r =>
    if i = 9 then none
    else if b.toNat < 128 then (if (b.toNat = 0 ∧ 0 < i) ∨ 4611686018427387904 < acc + b.toNat * 128 ^ i then none else some (acc + b.toNat * 128 ^ i, i + 1))
    else decF (i + 1) (acc + b.toNat % 128 * 128 ^ i) r
def dec (l : List UInt8) : Option (Nat × Nat) := decF 0 0 l
def decV (l : List UInt8) : Nat := ((dec l).getD (0, 0)).1
def decN (l : List UInt8) : Nat := ((dec l).getD (0, 0)).2
theorem decF_bound : ∀ (l : List UInt8) (i acc v n : Nat), decF i acc l = some (v, n) → v ≤ 4611686018427387904 ∧ i < n ∧ n ≤ i + l.length := by
  intro l
  induction l with
  | nil => intro i acc v n h; simp [decF] at h
  | cons b r ih =>
    intro i acc v n h
    unfold decF at h
    split at h
    · cases h
    · split at h
      · split at h
        · cases h
        · rename_i h3
          simp only [Option.some.injEq, Prod.mk.injEq] at h
          obtain ⟨rfl, rfl⟩ := h
          simp only [List.length_cons]
          omega
      · have := ih _ _ _ _ h
        simp only [List.length_cons]
        omega
theorem decV_le (l : List UInt8) : decV l ≤ 4611686018427387904 := by
  unfold decV
  cases h : dec l with
  | none => simp
  | some p =>
    obtain ⟨v, n⟩ := p
    exact (decF_bound _ _ _ _ _ h).1
theorem decN_le (l : List UInt8) : decN l ≤ l.length := by
  unfold decN
  cases h : dec l with
  | none => simp
  | some p =>
    obtain ⟨v, n⟩ := p
    have := (decF_bound _ _ _ _ _ h).2.2
    simpa using this
theorem dec_none_of {l : List UInt8} (h : decN l = 0) : dec l = none := by
  unfold decN at h
  cases e : dec l with
  | none => rfl
  | some p =>
    obtain ⟨v, n⟩ := p
    rw [e] at h
    have := (decF_bound _ _ _ _ _ e).2.1
    simp at h
    omega
theorem dec_some_of {l : List UInt8} (h : decN l ≠ 0) : dec l = some (decV l, decN l) := by
  unfold decN decV at *
  cases e : dec l with
  | none => rw [e] at h; simp at h
  | some p => rfl
theorem decF_enc (r : List UInt8) : ∀ (n v i acc : Nat), v ≤ n → acc + v * 128 ^ i ≤ 4611686018427387904 → i + (enc v).length ≤ 9 → (v = 0 → i = 0) →
    decF i acc (enc v ++ r) = some (acc + v * 128 ^ i, i + (enc v).length) := by
  intro n
  induction n with
  | zero =>
    intro v i acc hv hb hl h0
    obtain rfl : v = 0 := by omega
    obtain rfl : i = 0 := h0 rfl
    rw [enc_small (by omega)]
    show decF 0 acc (UInt8.ofNat 0 :: r) = _
    unfold decF
    simp
    simp at hb
    omega
  | succ n ih =>
    intro v i acc hv hb hl h0
    by_cases hs : v < 128
    · rw [enc_small hs] at hl ⊢
      have ht : (UInt8.ofNat v).toNat = v := by rw [UInt8.toNat_ofNat']; omega
      show decF i acc (UInt8.ofNat v :: r) = _
      unfold decF
      simp only [List.length_singleton] at hl ⊢
      rw [if_neg (by omega), ht, if_pos hs, if_neg (by omega)]
    · rw [enc_more hs] at hl ⊢
      have ht : (UInt8.ofNat (v % 128 + 128)).toNat = v % 128 + 128 := by rw [UInt8.toNat_ofNat']; omega
      show decF i acc (UInt8.ofNat (v % 128 + 128) :: (enc (v / 128) ++ r)) = _
      simp only [List.length_cons] at hl ⊢
      have hp := enc_len_pos (v / 128)
      unfold decF
      rw [if_neg (by omega), ht, if_neg (by omega)]
      have hm : (v % 128 + 128) % 128 = v % 128 := by omega
      have hx : acc + v % 128 * 128 ^ i + v / 128 * 128 ^ (i + 1) = acc + v * 128 ^ i := by
        have h1 : v * 128 ^ i = (v % 128 + 128 * (v / 128)) * 128 ^ i := by rw [Nat.mod_add_div]
        rw [h1, Nat.pow_succ, Nat.add_mul, Nat.add_assoc, Nat.mul_comm 128 (v / 128), Nat.mul_assoc (v / 128), Nat.mul_comm 128 (128 ^ i)]
      rw [hm, ih (v / 128) (i + 1) _ (by omega) (by rw [hx]; exact hb) (by omega) (by omega), hx]
      congr 2
      omega
theorem dec_enc (v : Nat) (r : List UInt8) (h : v ≤ 4611686018427387904) : dec (enc v ++ r) = some (v, (enc v).length) := by
  have := decF_enc r v v 0 0 (Nat.le_refl _) (by simpa using h) (by have := enc_len9 h; omega) (fun _ => rfl)
  simpa [dec] using this
end Go.Proofs.YtgnilldcfpgpaaaGreatDoor
namespace Go.Proofs.YtgnilldcfpgpaaaGreatDoor
open Go.RowKit
set_option maxHeartbeats 1600000 in
set_option maxRecDepth 100000 in
theorem firstNumber_any (A : Option Addr) (n c : Nat) (l : List UInt8) (w : World) (hs : Sl w A n (bvs l)) (hn : n ≤ 1099511627776) :
    Calls Tryz.prog 138 #[.slice A n c] w fun e w' => e = .returned (.tuple #[.int .i64 (decV l : Nat), .int .i64 (decN l : Nat)]) ∧ w = w' := by
  have hl : l.length = n := by simpa using hs.len
  have hn' : n ≤ 1099511627776 := hn
  go_enter Tryz.func138, Tryz.ntmps138
  go_wp2
  go_loop [4, 9] (fun v i => ∃ (k acc : Nat), k ≤ n ∧ k ≤ 9 ∧ i = .int .i64 k ∧ v = .int .i64 acc ∧ acc < 128 ^ k ∧ Hid (dec l = decF k acc (l.drop k))) (fun _ i => n - (intOf i).toNat)
  case atStart => exact ⟨0, 0, Nat.zero_le _, Nat.zero_le _, rfl, rfl, by omega, rfl⟩
  case round =>
    obtain ⟨k, acc, hk, hk9, rfl, rfl, hacc, HD⟩ := hrel
    by_cases hlt : k < n
    · have hkl : k < l.length := by omega
      obtain ⟨ad, u, rfl, hu, hcell⟩ := hs.at_ hlt
      rw [bvs_get _ _ hkl] at hu
      obtain rfl : bv _ = u := by injection hu
      unfold bv at hcell
      have hdrop : l.drop k = l[k] :: l.drop (k + 1) := List.drop_eq_getElem_cons hkl
      have hb := byte_lt l[k]
      rw [hdrop] at HD
      have HD' := HD.out
      clear HD hdrop hu
      generalize l[k] = b at *
      unfold decF at HD'
      generalize b.toNat = x at *
      have hk8 : k ≠ 9 → k ≤ 8 := by omega
      by_cases h9 : k = 9
      · rw [if_pos h9] at HD'
        have HV : Hid (decV l = 0 ∧ decN l = 0) := by
          show _ ∧ _
          simp [decV, decN, HD']
        have hx9 : ((k : Int) == 9) = true := by rw [beq_iff_eq]; omega
        clear HD' h9 hk8
        go_wp2
        go_ret2
        exact ⟨by rw [HV.out.1, HV.out.2]; rfl, rfl⟩
      · rw [if_neg h9] at HD'
        have hk8' := hk8 h9
        clear hk8
        by_cases hx : x < 128
        · have ea : bits .and .u8 (x : Int) 127 = (x : Int) := by rw [u8_low7 x hb]; omega
          have eo := u8_top_small x hx
          have e2 := or_digits acc x k hk8' hacc hx
          rw [if_pos hx] at HD'
          have hpos : 0 < 128 ^ k := Nat.pow_pos (by omega)
          have hle : acc + x * 128 ^ k < 128 ^ (k + 1) := by
            rw [Nat.pow_succ]
            have : x * 128 ^ k ≤ 127 * 128 ^ k := Nat.mul_le_mul_right _ (by omega)
            omega
          have hle9 : (128 : Nat) ^ (k + 1) ≤ 128 ^ 9 := Nat.pow_le_pow_right (by omega) (by omega)
          generalize hy : acc + x * 128 ^ k = y at *
          have hy63 : y < 9223372036854775808 := by omega
          clear hle hle9 hpos hacc hy
          by_cases hbad : (x = 0 ∧ 0 < k) ∨ 4611686018427387904 < y
          · rw [if_pos hbad] at HD'
            have HV : Hid (decV l = 0 ∧ decN l = 0) := by
              show _ ∧ _
              simp [decV, decN, HD']
            clear HD'
            by_cases hx0 : x = 0
            · have hxx : ((x : Int) == 0) = true := by rw [beq_iff_eq]; omega
              clear hx0
              by_cases hk0 : 0 < k
              · clear hbad
                go_wp2
                go_ret2
                exact ⟨by rw [HV.out.1, HV.out.2]; rfl, rfl⟩
              · have hy2 : 4611686018427387904 < y := by omega
                clear hbad
                go_wp2
                go_ret2
                exact ⟨by rw [HV.out.1, HV.out.2]; rfl, rfl⟩
            · have hxx : ((x : Int) == 0) = false := by rw [beq_eq_false_iff_ne]; omega
              have hy2 : 4611686018427387904 < y := by omega
              clear hbad hx0
              go_wp2
              go_ret2
              exact ⟨by rw [HV.out.1, HV.out.2]; rfl, rfl⟩
          · rw [if_neg hbad] at HD'
            have HV : Hid (decV l = y ∧ decN l = k + 1) := by
              show _ ∧ _
              simp [decV, decN, HD']
            have hy2 : y ≤ 4611686018427387904 := by omega
            clear HD'
            by_cases hx0 : x = 0
            · have hxx : ((x : Int) == 0) = true := by rw [beq_iff_eq]; omega
              have hk0 : k ≤ 0 := by omega
              clear hx0 hbad
              go_wp2
              go_ret2
              exact ⟨by rw [HV.out.1, HV.out.2]; rfl, rfl⟩
            · have hxx : ((x : Int) == 0) = false := by rw [beq_eq_false_iff_ne]; omega
              clear hbad hx0
              go_wp2
              go_ret2
              exact ⟨by rw [HV.out.1, HV.out.2]; rfl, rfl⟩
        · have ea := u8_low7 x hb
          have eo := u8_top_big x hx hb
          have e2 := or_digits acc (x % 128) k hk8' hacc (by omega)
          rw [if_neg hx] at HD'
          have HN := Lib.hid HD'
          have hle : acc + x % 128 * 128 ^ k < 128 ^ (k + 1) := by
            rw [Nat.pow_succ]
            have : x % 128 * 128 ^ k ≤ 127 * 128 ^ k := Nat.mul_le_mul_right _ (by omega)
            omega
          generalize acc + x % 128 * 128 ^ k = y at *
          have e2' : bits .or .i64 (acc : Int) (wrap64 ((x : Int) % 128 * 2 ^ (7 * k))) = (y : Int) := by simpa using e2
          clear HD' e2
          go_wp2
          go_round
          case rel => exact ⟨k + 1, y, by omega, by omega, by go_num, rfl, hle, HN.out⟩
          case measure => simp [intOf]; omega
    · have HV : Hid (decV l = 0 ∧ decN l = 0) := by
        have h := HD.out
        rw [List.drop_of_length_le (by omega)] at h
        show _ ∧ _
        unfold decF at h
        simp [decV, decN, h]
      go_wp2
      go_ret2
      exact ⟨by rw [HV.out.1, HV.out.2]; rfl, rfl⟩
end Go.Proofs.YtgnilldcfpgpaaaGreatDoor
namespace Go.Proofs.YtgnilldcfpgpaaaGreatDoor
open Go.RowKit
set_option maxHeartbeats 400000 in
theorem join_any (A : Option Addr) (n c : Nat) (ls : List (List UInt8)) (w : World) (hr : Rw w A n ls) (hn : n ≤ 4611686018427387904) (ht : ls.flatten.length ≤ 1099511627776) :
    Calls Tryz.prog 137 #[.slice A n c] w (Fresh w ls.flatten) := by
  obtain ⟨i0, hi, hz0, hz1, hz2⟩ := info_parts infoByte
  have hl : ls.length = n := hr.len
  go_enter Tryz.func137, Tryz.ntmps137
  go_wp2
  go_loop [3, 11] (fun t i => ∃ k : Nat, k ≤ n ∧ i = .int .i64 k ∧ t = .int .i64 (catLen ls k : Nat)) (fun _ i => n - (intOf i).toNat)
  case atStart => exact ⟨0, Nat.zero_le _, rfl, rfl⟩
  case round =>
    obtain ⟨k, hk, rfl, rfl⟩ := hrel
    have hle := catLen_le ls k
    have htot : catLen ls k ≤ 1099511627776 := by omega
    by_cases hlt : k < n
    · obtain ⟨ad, Ai, ci, rfl, hcell, _⟩ := hr.at_ hlt (by omega)
      have hle2 := catLen_le ls (k + 1)
      have HT := Lib.hid (catLen_succ ls k (by omega))
      have hb : catLen ls k + (ls[k]'(by omega)).length ≤ 1099511627776 := by
        rw [← HT.out]; omega
      clear hle hle2 ht
      go_wp2
      go_round
      case rel => exact ⟨k + 1, by omega, by go_num, by rw [HT.out]; go_num⟩
      case measure => simp [intOf]; omega
    · obtain rfl : k = n := by omega
      have HF := Lib.hid (catLen_all ls (k := k) (by omega))
      clear hle
      go_wp2_with (at_make; refine wpList_make_own _ rfl (.const (.int .i64 0)) (.tmp 20) 27 rfl 0 5 i0 _ 1 Tryz.underlying27 hi hz0 hz1 _ _ _ (catLen ls k) rfl rfl rfl (by rw [hz2]; omega) (by unfold maxLen; omega) (Nat.zero_le _) ?_; intro w1 hown hgrow)
      have HO1 : Only [] w w1 := by simpa using Only.of_grown hgrow
      have hown1 : Own w1 5 (some ⟨w.heap.size, 0, none⟩) 0 (catLen ls k) [] := hown
      clear hown hgrow
      go_loopw [6, 24] (fun v i wr => ∃ (j : Nat) (A' : Option Addr) (c' : Nat), j ≤ k ∧ i = .int .i64 j ∧ v = .slice A' (catLen ls j) c' ∧ Own wr 5 A' (catLen ls j) c' (bvs (cat ls j)) ∧ Only [] w wr ∧ (∀ x ∈ blks A', w.heap.size ≤ x)) (fun _ i _ => k - (intOf i).toNat)
      case atStart => exact ⟨0, _, _, Nat.zero_le _, rfl, rfl, hown1, HO1, by simp⟩
      case round =>
        obtain ⟨j, A', c', hj, rfl, rfl, HV, HO, HB⟩ := hrel
        by_cases hlt2 : j < k
        · obtain ⟨ad, Ai, ci, rfl, hcell, hrow⟩ := (hr.keep HO).at_ hlt2 (by omega)
          have hle := catLen_le ls j
          have hle2 := catLen_le ls (j + 1)
          have HT := Lib.hid (catLen_succ ls j (by omega))
          have HC := Lib.hid (cat_succ ls j (by omega))
          have hb : catLen ls j + (ls[j]'(by omega)).length ≤ 1099511627776 := by rw [← HT.out]; omega
          clear hle hle2 ht
          go_wp2_with (at_builtin; refine wpList_append_sl rfl (.tmp 28) (.tmp 29) 27 rfl 5 i0 (.int .u8 0) 1 Tryz.underlying27 hi hz0 hz1 hz2 rfl A' _ c' _ rfl HV Ai _ ci _ rfl hrow (bvs_one _) (by unfold maxLen; omega) (by omega) ?_; intro A2 c2 w2 HV2 HO2 HB2)
          go_roundw
          case rel =>
            refine ⟨j + 1, A2, c2, by omega, by go_num, by rw [HT.out], ?_, HO.trans HO2 (fun x hx => .inr (HB x hx)), fun x hx => ?_⟩
            · rw [HT.out, HC.out, bvs_append]; exact HV2
            · rcases HB2 x hx with h | h
              · exact HB x h
              · have := HO.size; omega
          case measure => simp [intOf]; omega
        · obtain rfl : j = k := by omega
          go_wp2
          go_ret
          exact ⟨A', c', by rw [← HF.out]; rfl, by rw [← HF.out, ← cat_all ls (k := j) (by omega)]; exact HV, HO, HB⟩
theorem join_one (w : World) (A : Option Addr) (c m : Nat) (q : List UInt8) (hlen : q.length = m) (hs : Sl w A m (bvs q)) (hm : m ≤ 1000000000000) :
    Calls Tryz.prog 137 #[.slice (some ⟨w.heap.size, 0, none⟩) 1 1] (w.alloc (.cells #[.slice A m c] 27)) (fun e w' => Fresh w q e w' ∧ w.heap.size < w'.heap.size) := by
  subst hlen
  have hfl : [q].flatten = q := by simp
  have h := join_any (some ⟨w.heap.size, 0, none⟩) 1 1 [q] (w.alloc (.cells #[.slice A q.length c] 27)) (Rw.one (Bk.new _ _ _) (hs.alloc _)) (by omega) (by rw [hfl]; omega)
  rw [hfl] at h
  refine h.mono fun e w' hh => ?_
  obtain ⟨P, cp, he, hv, ho, hb⟩ := hh
  exact ⟨⟨P, cp, he, hv, ((Only.refl _ _).alloc _).then ho, fun k hk => by have := hb k hk; rw [World.size_alloc] at this; omega⟩, by have := ho.size; rw [World.size_alloc] at this; omega⟩
end Go.Proofs.YtgnilldcfpgpaaaGreatDoor
namespace Go.Proofs.YtgnilldcfpgpaaaGreatDoor
open Go.RowKit
structure Rd (w : World) (g kb : Nat) (A : Option Addr) (c : Nat) (bad : Bool) (l : List UInt8) : Prop where
  bk : Bk w g 204 #[.slice A l.length c, .bool bad]
  sl : Sl w A l.length (bvs l)
  cap : l.length ≤ c
  at_ : ∀ ad, A = some ad → ad.block = kb
  ne : g ≠ kb
  lt : kb < w.heap.size
  err : bad = true → l = []
  small : l.length ≤ 1000000000000
section
variable {w w' : World} {g kb : Nat} {A : Option Addr} {c : Nat} {bad : Bool} {l : List UInt8}
theorem Rd.only {rs : List Nat} (h : Rd w g kb A c bad l) (o : Only rs w w') (hg : g ∉ rs) (hk : kb ∉ rs) : Rd w' g kb A c bad l :=
  ⟨h.bk.only o hg, h.sl.only o (fun ad e => by rw [h.at_ ad e]; exact hk), h.cap, h.at_, h.ne, Nat.lt_of_lt_of_le h.lt o.size, h.err, h.small⟩
theorem Rd.keep (h : Rd w g kb A c bad l) (o : Only [] w w') : Rd w' g kb A c bad l := h.only o (fun hm => by cases hm) (fun hm => by cases hm)
theorem Rd.cell0 (h : Rd w g kb A c bad l) : w.cell? ⟨g, 0, none⟩ = some (.slice A l.length c) := by rw [h.bk.cell]; rfl
theorem Rd.cell1 (h : Rd w g kb A c bad l) : w.cell? ⟨g, 1, none⟩ = some (.bool bad) := by rw [h.bk.cell]; rfl
theorem Rd.erred (h : Rd w g kb A c bad l) : Rd ((w.setCell ⟨g, 0, none⟩ (.slice none 0 0)).setCell ⟨g, 1, none⟩ (.bool true)) g kb none 0 true [] :=
  ⟨by simpa using (h.bk.set 0 (.slice none 0 0)).set 1 (.bool true), Sl.none_, Nat.le_refl _, (fun _ e => by cases e), h.ne, by simpa [World.setCell] using h.lt, fun _ => rfl, Nat.zero_le _⟩
theorem Rd.moved (h : Rd w g kb A c false l) {k : Nat} (hk : k ≤ l.length) :
    Rd (w.setCell ⟨g, 0, none⟩ (.slice (if c = k then A else A.map (·.add k)) (l.length - k) (c - k))) g kb (if c = k then A else A.map (·.add k)) (c - k) false (l.drop k) := by
  have hl : (l.drop k).length = l.length - k := List.length_drop
  have hA : ∀ ad, (if c = k then A else A.map (·.add k)) = some ad → ad.block = kb := by
    intro ad e
    split at e
    · exact h.at_ ad e
    · cases A with
      | none => cases e
      | some a =>
        simp only [Option.map_some, Option.some.injEq] at e
        subst e
        rw [add_block]
        exact h.at_ a rfl
  have hcut := h.sl.cut (cap := c) hk h.cap
  rw [bvs_drop] at hcut
  refine ⟨?_, ?_, by have := h.cap; omega, hA, h.ne, by simpa [World.setCell] using h.lt, (fun e => by cases e), by have := h.small; omega⟩
  · rw [hl]
    simpa using h.bk.set 0 (.slice (if c = k then A else A.map (·.add k)) (l.length - k) (c - k))
  · rw [hl]
    exact hcut.only (rs := [g]) ((Only.refl _ _).setCell (.inl (by simp)) _) (fun ad e hm => by
      simp at hm
      exact h.ne (hm.symm.trans (hA ad e)))
end
def TookNum (w : World) (g kb : Nat) (v : Nat) (bad' : Bool) (l' : List UInt8) (e : Ending) (w' : World) : Prop :=
  e = .returned (.int .i64 (v : Int)) ∧ ∃ A' c', Rd w' g kb A' c' bad' l' ∧ Only [g] w w'
def TookRow (w : World) (g kb : Nat) (p : List UInt8) (bad' : Bool) (l' : List UInt8) (e : Ending) (w' : World) : Prop :=
  ∃ P cp A' c', e = .returned (.slice P p.length cp) ∧ Own w' 5 P p.length cp (bvs p) ∧ (∀ k ∈ blks P, w.heap.size ≤ k) ∧ Rd w' g kb A' c' bad' l' ∧ Only [g] w w'
set_option maxRecDepth 100000 in
theorem good_any {w : World} {g kb : Nat} {A : Option Addr} {c : Nat} {bad : Bool} {l : List UInt8} (h : Rd w g kb A c bad l) :
    Calls Tryz.prog 70 #[.pointer (some ⟨g, 0, none⟩)] w fun e w' => e = .returned (.bool (!bad)) ∧ w = w' := by
  have h1 := h.cell1
  go_enter Tryz.func70, Tryz.ntmps70
  go_wp2
  go_ret
  exact ⟨rfl, rfl⟩
set_option maxRecDepth 100000 in
theorem left_any {w : World} {g kb : Nat} {A : Option Addr} {c : Nat} {bad : Bool} {l : List UInt8} (h : Rd w g kb A c bad l) :
    Calls Tryz.prog 140 #[.pointer (some ⟨g, 0, none⟩)] w fun e w' => e = .returned (.int .i64 (l.length : Int)) ∧ w = w' := by
  have h0 := h.cell0
  go_enter Tryz.func140, Tryz.ntmps140
  go_wp2
  go_ret
  exact ⟨rfl, rfl⟩
set_option maxRecDepth 100000 in
theorem bad_any {w : World} {g kb : Nat} {A : Option Addr} {c : Nat} {bad : Bool} {l : List UInt8} (h : Rd w g kb A c bad l) :
    Calls Tryz.prog 69 #[.pointer (some ⟨g, 0, none⟩)] w fun e w' => e = .returned (.tuple #[]) ∧ Rd w' g kb none 0 true [] ∧ Only [g] w w' := by
  have h0 := h.cell0
  have h1 := h.cell1
  have f0 := h.bk.free 0
  have f1 := h.bk.free 1
  go_enter Tryz.func69, Tryz.ntmps69
  go_wp2
  go_end0
  exact ⟨rfl, h.erred, ((Only.refl _ _).setCell (.inl (by simp)) _).setCell (.inl (by simp)) _⟩
set_option maxRecDepth 100000 in
theorem whole_any {w : World} {g kb : Nat} {A : Option Addr} {c : Nat} {bad : Bool} {l : List UInt8} (h : Rd w g kb A c bad l) :
    Calls Tryz.prog 73 #[.pointer (some ⟨g, 0, none⟩)] w fun e w' => e = .returned (.bool (!bad && decide (l = []))) ∧ w = w' := by
  cases bad
  · cases l with
    | nil =>
      go_enter Tryz.func73, Tryz.ntmps73
      go_wp2_with (first | (go_at_call 70; refine (good_any h).mono ?_; rintro e w' ⟨rfl, rfl⟩) | (go_at_call 140; refine (left_any h).mono ?_; rintro e w' ⟨rfl, rfl⟩))
      go_ret
      exact ⟨rfl, rfl⟩
    | cons b r =>
      have hx : (((b :: r).length : Int) == 0) = false := by rw [beq_eq_false_iff_ne, List.length_cons]; omega
      generalize hm : (b :: r).length = m at hx
      have HL := Lib.hid (left_any h)
      rw [hm] at HL
      have hd : Hid (decide (b :: r = []) = false) := by show _ = _; simp
      clear hm
      go_enter Tryz.func73, Tryz.ntmps73
      go_wp2_with (first | (go_at_call 70; refine (good_any h).mono ?_; rintro e w' ⟨rfl, rfl⟩) | (go_at_call 140; refine HL.out.mono ?_; rintro e w' ⟨rfl, rfl⟩))
      go_ret
      exact ⟨by rw [hd.out]; rfl, rfl⟩
  · go_enter Tryz.func73, Tryz.ntmps73
    go_wp2_with (first | (go_at_call 70; refine (good_any h).mono ?_; rintro e w' ⟨rfl, rfl⟩))
    go_ret
    exact ⟨rfl, rfl⟩
end Go.Proofs.YtgnilldcfpgpaaaGreatDoor
namespace Go.Proofs.YtgnilldcfpgpaaaGreatDoor
open Go.RowKit
theorem Own.pre {w : World} {t : TypeId} {A : Option Addr} {n c : Nat} {xs : List Value} (h : Own w t A n c xs) {k : Nat} (hk : k ≤ n) : Own w t A k c (xs.take k) := by
  have hl := h.len
  refine ⟨by rw [List.length_take]; omega, ?_⟩
  rcases h.2 with ⟨hv, h0⟩ | ⟨g, cap, cur, hv, hb, hg, hc, hm, hs, ht⟩
  · simp only [Value.slice.injEq] at hv
    obtain ⟨rfl, _, rfl⟩ := hv
    left
    exact ⟨by rw [show k = 0 from by omega], by omega⟩
  · right
    simp only [Value.slice.injEq] at hv
    obtain ⟨rfl, _, rfl⟩ := hv
    refine ⟨g, c, cur, rfl, hb, hg, by omega, hm, hs, ?_⟩
    rw [← ht, List.take_take, Nat.min_eq_left (by omega), Nat.mul_one]
theorem Own.apart {w : World} {t t' : TypeId} {A A' : Option Addr} {n n' c c' : Nat} {xs xs' : List Value} (h : Own w t A n c xs) (h' : Own w t' A' n' c' xs') (hne : t ≠ t') : ∀ x ∈ blks A, x ∉ blks A' := by
  intro x hx hm
  obtain ⟨u, hu⟩ := h.bk hx
  obtain ⟨v, hv⟩ := h'.bk hm
  exact hu.ne hv hne rfl
end Go.Proofs.YtgnilldcfpgpaaaGreatDoor
namespace Go.Proofs.YtgnilldcfpgpaaaGreatDoor
open Go.RowKit
def ivs (vs : List Int) : List Value := vs.map (Value.int .i64)
theorem ivs_get (vs : List Int) (k : Nat) (h : k < vs.length) : (ivs vs)[k]? = some (.int .i64 vs[k]) := by simp [ivs, h]
@[simp] theorem ivs_length (vs : List Int) : (ivs vs).length = vs.length := by simp [ivs]
def Fits (vs : List Int) : Prop := ∀ v ∈ vs, -9223372036854775808 ≤ v ∧ v ≤ 9223372036854775807
theorem Fits.at_ {vs : List Int} (h : Fits vs) (k : Nat) (hk : k < vs.length) : -9223372036854775808 ≤ vs[k] ∧ vs[k] ≤ 9223372036854775807 := h _ (List.getElem_mem hk)
end Go.Proofs.YtgnilldcfpgpaaaGreatDoor
