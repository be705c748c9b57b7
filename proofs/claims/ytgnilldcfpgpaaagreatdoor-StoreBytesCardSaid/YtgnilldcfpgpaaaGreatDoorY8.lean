/-
  Texts of the seat, laid one behind the other: Shelf DWords DClone DLeaf DCut DPut.
-/
import Derived.Shelf.LaysM
import Derived.Shelf.Strconv.Clone
import Derived.Shelf.SlIter.Nil
import Derived.Shelf.SortM.Plain
import Derived.Shelf.SortM.SortNone
import Derived.Ground.GgzProg
import Derived.Ground.SlgmProg
import Derived.Test.YtgnilldcfpgpaaaGreatDoorProg
import Derived.Test.YtgnilldcfpgpaaaGreatDoorY6
import Derived.Test.YtgnilldcfpgpaaaGreatDoorY7
import Derived.Test.YtgnilldcfpgpaaaGreatDoorY1
import Derived.Maps.OwnSet
import Derived.Maps.RangeWalk
import Derived.WalkKit
import Derived.Lib.SliceRun
import Derived.Handy
import Derived.Deep.DeepMust
import Derived.Test.YtgnilldcfpgpaaaGreatDoorY4
import Derived.Deep.QuietTactic
import Derived.BigQuiet
import Derived.IntWalk
import Derived.RegionTactic
import Derived.ChangeAlike
import Derived.Carry
import Derived.Deep.RegionHeld3
namespace Go.Proofs
open Go.Shelf
def Tryz.laysM316_ren : Go.Shelf.Ren := ⟨fun | 316 => 250 | n => n, fun | 9 => 9 | 3 => 3 | 4 => 4 | 37 => 27 | 0 => 0 | 127 => 305 | 5 => 5 | n => n, fun | n => n⟩
theorem Tryz.laysM316 : Go.Proofs.LaysM.n316 Tryz.prog Tryz.laysM316_ren := {
  mixed := by kernel_rfl
  f316 := Tryz.func250.trans (congrArg some (by kernel_rfl))
  t0 := Tryz.underlying0
  a0 := Tryz.isAgg0
  z0 := Tryz.sizeOf0
  v0 := Tryz.zeroValue0
  t3 := Tryz.underlying3
  a3 := Tryz.isAgg3
  z3 := Tryz.sizeOf3
  v3 := Tryz.zeroValue3
  t4 := Tryz.underlying4
  a4 := Tryz.isAgg4
  z4 := Tryz.sizeOf4
  v4 := Tryz.zeroValue4
  t9 := Tryz.underlying9
  a9 := Tryz.isAgg9
  z9 := Tryz.sizeOf9
  v9 := Tryz.zeroValue9
  t37 := Tryz.underlying27
  a37 := Tryz.isAgg27
  z37 := Tryz.sizeOf27
  v37 := Tryz.zeroValue27
  t127 := Tryz.underlying305
  a127 := Tryz.isAgg305
  z127 := Tryz.sizeOf305
  v127 := Tryz.zeroValue305
  t5 := Tryz.underlying5
  a5 := Tryz.isAgg5
  z5 := Tryz.sizeOf5
  v5 := Tryz.zeroValue5
  i0 := by kernel_rfl
  i3 := by kernel_rfl
  i4 := by kernel_rfl
  i5 := by kernel_rfl
  i9 := by kernel_rfl
  i37 := by kernel_rfl
  i127 := by kernel_rfl }
open Go.RowKit in
theorem Tryz.stringslite_Clone (s : ByteArray) (w : World) (hlim : s.size ≤ 281474976710656) :
    Calls Tryz.prog 250 #[.string s] w fun e w' => e = .returned (.string s) ∧ Below w.heap.size w w' := Any.stringslite_Clone Tryz.laysM316 s w hlim
end Go.Proofs
namespace Go.Proofs.YtgnilldcfpgpaaaGreatDoor
open Go.RowKit Go.Maps
structure Fc where
  f : Fl
  blk : Nat
  A : Option Addr
  cap : Nat
def ptrElem (v : Value) : Option (DataW Unit × List MemPlace) :=
  match v with
  | .pointer none => some (.nil, [])
  | .pointer (some ⟨b, 0, none⟩) => some (.lit (.int .i64 b), [])
  | _ => none
theorem ptrElem_nil : ptrElem (.pointer none) = some (.nil, []) := rfl
theorem ptrElem_some (b : Nat) : ptrElem (.pointer (some ⟨b, 0, none⟩)) = some (.lit (.int .i64 b), []) := rfl
theorem ptrElem_nil_inv {v : Value} {ps : List MemPlace} (h : ptrElem v = some (.nil, ps)) : v = .pointer none := by
  unfold ptrElem at h
  split at h <;> simp_all
theorem ptrElem_some_inv {v : Value} {ps : List MemPlace} {b : Nat} (h : ptrElem v = some (.lit (.int .i64 b), ps)) : v = .pointer (some ⟨b, 0, none⟩) := by
  unfold ptrElem at h
  split at h
  · simp at h
  · rename_i b'
    simp only [Option.some.injEq, Prod.mk.injEq, DataW.lit.injEq, Lit.int.injEq, true_and] at h
    have : b' = b := by omega
    rw [this]
  · cases h
def ent (c : Fc) : Lit × DataW Unit := (keyLit c.f.name, .lit (.int .i64 c.blk))
def Dm (cs : List Fc) : DataW Unit := .map (cs.map ent)
def findC (cs : List Fc) (s : ByteArray) : Option Fc := cs.find? fun c => decide (c.f.name = s)
def delC (cs : List Fc) (s : ByteArray) : List Fc := cs.filter fun c => !decide (c.f.name = s)
def insC (c : Fc) : List Fc → List Fc
  | [] => [c]
  | g :: r => if bef c.f.name g.f.name then c :: g :: r else g :: insC c r
theorem map_findC (cs : List Fc) (s : ByteArray) : (findC cs s).map (·.f) = get (cs.map (·.f)) s := by
  unfold findC get
  rw [List.find?_map]
  rfl
theorem map_delC (cs : List Fc) (s : ByteArray) : (delC cs s).map (·.f) = del (cs.map (·.f)) s := by
  unfold delC del
  rw [List.filter_map]
  rfl
theorem map_insC (c : Fc) : ∀ cs : List Fc, (insC c cs).map (·.f) = ins c.f (cs.map (·.f))
  | [] => rfl
  | g :: r => by
    unfold insC ins
    simp only [List.map_cons]
    split
    · rfl
    · rw [List.map_cons, map_insC c r]
theorem findC_some {cs : List Fc} {s : ByteArray} {c : Fc} (h : findC cs s = some c) : c ∈ cs ∧ c.f.name = s := ⟨List.mem_of_find?_eq_some h, by have := List.find?_some h; simpa using this⟩
theorem findC_none {cs : List Fc} {s : ByteArray} : findC cs s = none ↔ ∀ c ∈ cs, c.f.name ≠ s := by unfold findC; simp
theorem atKey_dm (cs : List Fc) (s : ByteArray) (z : DataW Unit) : (Dm cs).atKey (keyLit s) z = match findC cs s with | some c => .lit (.int .i64 c.blk) | none => z := by
  unfold Dm DataW.atKey findC
  simp only []
  rw [List.find?_map]
  have : ((fun p : Lit × DataW Unit => p.1.sameKey (keyLit s)) ∘ ent) = fun c : Fc => decide (c.f.name = s) := by
    funext c
    exact same_key _ _
  rw [this]
  cases List.find? (fun c : Fc => decide (c.f.name = s)) cs <;> rfl
theorem size_dm (cs : List Fc) : Maps.size (Dm cs) = cs.length := by simp [Dm, Maps.size]
theorem del_dm (cs : List Fc) (s : ByteArray) : (Dm cs).del (keyLit s) = Dm (delC cs s) := by
  show DataW.map ((cs.map ent).filter fun p => !p.1.sameKey (keyLit s)) = DataW.map ((delC cs s).map ent)
  rw [List.filter_map]
  unfold delC
  congr 2
  congr 1
  funext c
  show (!(keyLit c.f.name).sameKey (keyLit s)) = _
  rw [same_key]
theorem insert_dm (c : Fc) : ∀ cs : List Fc, DataW.insert (ent c) (cs.map ent) = (insC c cs).map ent
  | [] => rfl
  | g :: r => by
    unfold insC
    simp only [List.map_cons]
    unfold DataW.insert
    have : (ent c).1.before (ent g).1 = bef c.f.name g.f.name := before_key _ _
    rw [this]
    split
    · rfl
    · rw [List.map_cons, insert_dm c r]
theorem put_dm (c : Fc) (cs : List Fc) (h : findC cs c.f.name = none) : (Dm cs).put (keyLit c.f.name) (.lit (.int .i64 c.blk)) = Dm (insC c cs) := by
  show DataW.map (DataW.insert (keyLit c.f.name, .lit (.int .i64 c.blk)) ((cs.map ent).filter fun p => !p.1.sameKey (keyLit c.f.name))) = _
  have hf : ((cs.map ent).filter fun p => !p.1.sameKey (keyLit c.f.name)) = cs.map ent := by
    rw [List.filter_eq_self]
    intro p hp
    obtain ⟨x, hx, rfl⟩ := List.mem_map.1 hp
    have hn := findC_none.1 h x hx
    show (!(keyLit x.f.name).sameKey (keyLit c.f.name)) = true
    rw [same_key]
    simp [hn]
  rw [hf]
  exact congrArg DataW.map (insert_dm c cs)
theorem mem_insC {c g : Fc} : ∀ {cs : List Fc}, g ∈ insC c cs ↔ g = c ∨ g ∈ cs
  | [] => by simp [insC]
  | h :: r => by
    unfold insC
    split
    · simp
    · simp only [List.mem_cons, mem_insC (cs := r)]
      constructor
      · rintro (h | h | h)
        · exact .inr (.inl h)
        · exact .inl h
        · exact .inr (.inr h)
      · rintro (h | h | h)
        · exact .inr (.inl h)
        · exact .inl h
        · exact .inr (.inr h)
theorem perm_insC (c : Fc) : ∀ cs : List Fc, (insC c cs).Perm (c :: cs)
  | [] => List.Perm.refl _
  | g :: r => by
    unfold insC
    split
    · exact List.Perm.refl _
    · exact ((perm_insC c r).cons g).trans (List.Perm.swap _ _ _)
section
variable {w w' : World} {m n : Nat} {D : DataW Unit} {R : Value → Option (DataW Unit × List MemPlace)} {P : Program} {k : TypeId} {rs : List Nat}
theorem map_only (h : w.ownsMap P k R m n D) (o : Only rs w w') (hn : m ∉ rs) : w'.ownsMap P k R m n D := by
  have hlt := h.lt
  obtain ⟨es, clock, hb, r⟩ := h
  exact ⟨es, clock, (o.block m hlt hn).trans hb, r⟩
theorem map_tight (h : w.ownsMap P k R m n D) : w.ownsMap P k R m (Maps.size D) D := by
  obtain ⟨es, clock, hb, F, _, hD⟩ := h
  refine ⟨es, clock, hb, F, ?_, hD⟩
  rw [hD]
  simp [Maps.size, length_sorted]
theorem map_ne {g : Nat} {t : TypeId} {cs : Array Value} (h : w.ownsMap P k R m n D) (hg : Bk w g t cs) : m ≠ g := by
  rintro rfl
  obtain ⟨es, clock, hb, _⟩ := h
  unfold Bk at hg
  rw [hb] at hg
  cases hg
theorem map_own {t : TypeId} {A : Option Addr} {j c : Nat} {xs : List Value} (h : w.ownsMap P k R m n D) (hg : Own w t A j c xs) : m ∉ blks A := by
  intro hm
  obtain ⟨cur, hc⟩ := hg.bk hm
  exact map_ne h hc rfl
end
def MapIs (w : World) (mb : Option Nat) (cs : List Fc) : Prop :=
  match mb with
  | none => cs = []
  | some m => w.ownsMap Tryz.prog 9 ptrElem m cs.length (Dm cs)
def FileIs (w : World) (c : Fc) : Prop :=
  Bk w c.blk 118 #[.slice c.A c.f.data.length c.cap, .int .i64 c.f.lasts] ∧ Own w 5 c.A c.f.data.length c.cap (bvs c.f.data)
structure Dk (w : World) (d room u : Nat) (fz : Bool) (lf : Nat) (mb : Option Nat) (cs : List Fc) : Prop where
  bk : Bk w d 112 #[.int .i64 room, .int .i64 u, .map mb, .bool fz, .int .i64 lf]
  map : MapIs w mb cs
  file : ∀ c ∈ cs, FileIs w c
  good : Good (cs.map (·.f))
  nb : (cs.map (·.blk)).Nodup
  na : (cs.flatMap fun c => blks c.A).Nodup
  room' : room ≤ 1073741824
  u' : u ≤ 1073741824
  lf' : lf ≤ 9223372036854775807
  big : ∀ c ∈ cs, c.f.data.length ≤ 1073741824
def fpt (d : Nat) (mb : Option Nat) (cs : List Fc) : List Nat := d :: (mb.toList ++ (cs.map (·.blk) ++ cs.flatMap fun c => blks c.A))
section
variable {w w' w1 : World} {d room u lf : Nat} {fz : Bool} {mb : Option Nat} {cs p q : List Fc} {c : Fc} {rs : List Nat}
theorem mem_fpt {x : Nat} : x ∈ fpt d mb cs ↔ x = d ∨ mb = some x ∨ (∃ c ∈ cs, x = c.blk) ∨ ∃ c ∈ cs, x ∈ blks c.A := by
  unfold fpt
  simp only [List.mem_cons, List.mem_append, Option.mem_toList, List.mem_map, List.mem_flatMap]
  constructor
  · rintro (h | h | ⟨c, h, e⟩ | h)
    · exact .inl h
    · exact .inr (.inl h)
    · exact .inr (.inr (.inl ⟨c, h, e.symm⟩))
    · exact .inr (.inr (.inr h))
  · rintro (h | h | ⟨c, h, e⟩ | h)
    · exact .inl h
    · exact .inr (.inl h)
    · exact .inr (.inr (.inl ⟨c, h, e.symm⟩))
    · exact .inr (.inr (.inr h))
theorem FileIs.only (h : FileIs w c) (o : Only rs w w') (h1 : c.blk ∉ rs) (h2 : ∀ x ∈ blks c.A, x ∉ rs) : FileIs w' c := ⟨h.1.only o h1, h.2.only o h2⟩
theorem MapIs.only (h : MapIs w mb cs) (o : Only rs w w') (h1 : ∀ m, mb = some m → m ∉ rs) : MapIs w' mb cs := by
  cases mb with
  | none => exact h
  | some m => exact map_only h o (h1 m rfl)
theorem Dk.only (h : Dk w d room u fz lf mb cs) (o : Only rs w w') (hd : ∀ x ∈ fpt d mb cs, x ∉ rs) : Dk w' d room u fz lf mb cs :=
  { h with
    bk := h.bk.only o (hd _ (mem_fpt.2 (.inl rfl)))
    map := h.map.only o fun _ e => hd _ (mem_fpt.2 (.inr (.inl e)))
    file := fun c hc => (h.file c hc).only o (hd _ (mem_fpt.2 (.inr (.inr (.inl ⟨c, hc, rfl⟩))))) fun _ hx => hd _ (mem_fpt.2 (.inr (.inr (.inr ⟨c, hc, hx⟩)))) }
theorem Dk.keep (h : Dk w d room u fz lf mb cs) (o : Only [] w w') : Dk w' d room u fz lf mb cs := h.only o fun _ _ hm => by cases hm
theorem Dk.lt (h : Dk w d room u fz lf mb cs) {x : Nat} (hx : x ∈ fpt d mb cs) : x < w.heap.size := by
  rcases mem_fpt.1 hx with rfl | rfl | ⟨c, hc, rfl⟩ | ⟨c, hc, hx⟩
  · exact h.bk.lt
  · exact World.ownsMap.lt h.map
  · exact (h.file c hc).1.lt
  · exact (h.file c hc).2.lt hx
theorem Dk.d_blk (h : Dk w d room u fz lf mb cs) (hc : c ∈ cs) : c.blk ≠ d := (h.file c hc).1.ne h.bk (by decide)
theorem Dk.d_row (h : Dk w d room u fz lf mb cs) (hc : c ∈ cs) : d ∉ blks c.A := (h.file c hc).2.ne h.bk (by decide)
theorem Dk.d_map (h : Dk w d room u fz lf mb cs) {m : Nat} (e : mb = some m) : m ≠ d := by subst e; exact map_ne h.map h.bk
theorem Dk.m_blk (h : Dk w d room u fz lf mb cs) {m : Nat} (e : mb = some m) (hc : c ∈ cs) : c.blk ≠ m := by subst e; exact (map_ne h.map (h.file c hc).1).symm
theorem Dk.m_row (h : Dk w d room u fz lf mb cs) {m : Nat} (e : mb = some m) (hc : c ∈ cs) : m ∉ blks c.A := by subst e; exact map_own h.map (h.file c hc).2
theorem Dk.blk_row (h : Dk w d room u fz lf mb cs) {c' : Fc} (hc : c ∈ cs) (hc' : c' ∈ cs) : c.blk ∉ blks c'.A := (h.file c' hc').2.ne (h.file c hc).1 (by decide)
theorem Dk.cell (h : Dk w d room u fz lf mb cs) : w.cell? ⟨d, 0, none⟩ = some (.int .i64 room) ∧ w.cell? ⟨d, 1, none⟩ = some (.int .i64 u) ∧ w.cell? ⟨d, 2, none⟩ = some (.map mb) ∧ w.cell? ⟨d, 3, none⟩ = some (.bool fz) ∧ w.cell? ⟨d, 4, none⟩ = some (.int .i64 lf) :=
  ⟨h.bk.cell 0, h.bk.cell 1, h.bk.cell 2, h.bk.cell 3, h.bk.cell 4⟩
theorem Dk.fcell (h : Dk w d room u fz lf mb cs) (hc : c ∈ cs) : w.cell? ⟨c.blk, 0, none⟩ = some (.slice c.A c.f.data.length c.cap) ∧ w.cell? ⟨c.blk, 1, none⟩ = some (.int .i64 c.f.lasts) := ⟨(h.file c hc).1.cell 0, (h.file c hc).1.cell 1⟩
theorem Dk.lasts (h : Dk w d room u fz lf mb cs) (hc : c ∈ cs) : c.f.lasts ≤ c.f.data.length := h.good.lasts _ (List.mem_map_of_mem hc)
theorem Dk.setD (h : Dk w d room u fz lf mb cs) (i : Nat) (v : Value) {room' u' lf' : Nat} {fz' : Bool} {mb' : Option Nat}
    (hs : (#[.int .i64 room, .int .i64 u, .map mb, .bool fz, .int .i64 lf] : Array Value).setIfInBounds i v = #[.int .i64 room', .int .i64 u', .map mb', .bool fz', .int .i64 lf'])
    (hm : MapIs w mb' cs) (h1 : room' ≤ 1073741824) (h2 : u' ≤ 1073741824) (h3 : lf' ≤ 9223372036854775807) : Dk (w.setCell ⟨d, i, none⟩ v) d room' u' fz' lf' mb' cs := by
  have o : Only [d] w (w.setCell ⟨d, i, none⟩ v) := (Only.refl _ _).setCell (.inl (by simp)) v
  refine { h with bk := by have := h.bk.set i v; rwa [hs] at this, map := hm.only o fun m e hx => ?_, file := fun c hc => (h.file c hc).only o (by simpa using h.d_blk hc) fun x hx hm => ?_, room' := h1, u' := h2, lf' := h3 }
  · simp only [List.mem_singleton] at hx
    subst hx e
    exact map_ne hm h.bk rfl
  · simp only [List.mem_singleton] at hm
    subst hm
    exact h.d_row hc hx
theorem Dk.setUsed (h : Dk w d room u fz lf mb cs) (u' : Nat) (h2 : u' ≤ 1073741824) : Dk (w.setCell ⟨d, 1, none⟩ (.int .i64 u')) d room u' fz lf mb cs :=
  h.setD 1 _ rfl h.map h.room' h2 h.lf'
theorem Dk.setFused (h : Dk w d room u fz lf mb cs) (b : Bool) : Dk (w.setCell ⟨d, 3, none⟩ (.bool b)) d room u b lf mb cs :=
  h.setD 3 _ rfl h.map h.room' h.u' h.lf'
theorem Dk.setLeft (h : Dk w d room u fz lf mb cs) (k : Nat) (h2 : k ≤ 9223372036854775807) : Dk (w.setCell ⟨d, 4, none⟩ (.int .i64 k)) d room u fz k mb cs :=
  h.setD 4 _ rfl h.map h.room' h.u' h2
theorem good_swap (h : Good ((p ++ c :: q).map (·.f))) {g : Fl} (hn : g.name = c.f.name) (hl : g.lasts ≤ g.data.length) : Good ((p.map (·.f)) ++ g :: q.map (·.f)) := by
  rw [List.map_append, List.map_cons] at h
  refine ⟨?_, by have := h.len; simpa using this, fun f hf => ?_, fun f hf => ?_⟩
  · have hr := h.rise
    rw [List.pairwise_append, List.pairwise_cons] at hr ⊢
    obtain ⟨h1, ⟨h2, h3⟩, h4⟩ := hr
    refine ⟨h1, ⟨fun x hx => by rw [hn]; exact h2 x hx, h3⟩, fun x hx y hy => ?_⟩
    rcases List.mem_cons.1 hy with rfl | hy
    · rw [hn]; exact h4 x hx _ (by simp)
    · exact h4 x hx y (by simp [hy])
  · rcases List.mem_append.1 hf with hf | hf
    · exact h.names f (by simp [hf])
    · rcases List.mem_cons.1 hf with rfl | hf
      · rw [hn]; exact h.names c.f (by simp)
      · exact h.names f (by simp [hf])
  · rcases List.mem_append.1 hf with hf | hf
    · exact h.lasts f (by simp [hf])
    · rcases List.mem_cons.1 hf with rfl | hf
      · exact hl
      · exact h.lasts f (by simp [hf])
theorem flatMap_sub {α β : Type} {l l' : List α} (h : l.Sublist l') (g : α → List β) : (l.flatMap g).Sublist (l'.flatMap g) := by
  induction h with
  | slnil => exact List.Sublist.refl _
  | cons a _ ih => rw [List.flatMap_cons]; exact ih.trans (List.sublist_append_right _ _)
  | cons_cons a _ ih => rw [List.flatMap_cons, List.flatMap_cons]; exact List.Sublist.append (List.Sublist.refl _) ih
theorem nodup_mid {α : Type} {a b m m' : List α} (h : (a ++ (m ++ b)).Nodup) (h' : m'.Nodup) (hn : ∀ x ∈ m', x ∈ m ∨ (x ∉ a ∧ x ∉ b)) : (a ++ (m' ++ b)).Nodup := by
  rw [List.nodup_append, List.nodup_append] at *
  obtain ⟨h1, ⟨h2, h3, h4⟩, h5⟩ := h
  refine ⟨h1, ⟨h', h3, fun x hx y hy e => ?_⟩, fun x hx y hy e => ?_⟩
  · subst e
    rcases hn x hx with h | h
    · exact h4 x h x hy rfl
    · exact h.2 hy
  · subst e
    rcases List.mem_append.1 hy with hy | hy
    · rcases hn x hy with h | h
      · exact h5 x hx x (by simp [h]) rfl
      · exact h.1 hx
    · exact h5 x hx x (by simp [hy]) rfl
theorem Own.nodup {w : World} {t : TypeId} {A : Option Addr} {n c : Nat} {xs : List Value} (_ : Own w t A n c xs) : (blks A).Nodup := by cases A <;> simp
theorem Dk.setData (h : Dk w d room u fz lf mb (p ++ c :: q)) (o : Only (blks c.A) w w1) {A' : Option Addr} {cap' : Nat} {data' : List UInt8} (hv : Own w1 5 A' data'.length cap' (bvs data'))
    (hb : ∀ x ∈ blks A', x ∈ blks c.A ∨ w.heap.size ≤ x) (hl : c.f.lasts ≤ data'.length) (hbig : data'.length ≤ 1073741824) :
    Dk (w1.setCell ⟨c.blk, 0, none⟩ (.slice A' data'.length cap')) d room u fz lf mb (p ++ { f := { c.f with data := data' }, blk := c.blk, A := A', cap := cap' } :: q) := by
  have hc : c ∈ p ++ c :: q := by simp
  have o2 : Only (c.blk :: blks c.A) w (w1.setCell ⟨c.blk, 0, none⟩ (.slice A' data'.length cap')) := (o.mono fun x hx => .inl (by simp [hx])).setCell (.inl (by simp)) _
  have hbk1 := (h.file c hc).1.only o (h.blk_row hc hc)
  have hother : ∀ c' ∈ p ++ q, FileIs (w1.setCell ⟨c.blk, 0, none⟩ (.slice A' data'.length cap')) c' := by
    intro c' hc'
    have hm : c' ∈ p ++ c :: q := by
      rcases List.mem_append.1 hc' with h1 | h1 <;> simp [h1]
    have hnb : c'.blk ≠ c.blk := by
      have := h.nb
      rw [List.map_append, List.map_cons] at this
      have hp := (List.perm_middle.nodup_iff).1 this
      rw [List.nodup_cons] at hp
      intro e
      apply hp.1
      rw [← List.map_append, ← e]
      exact List.mem_map_of_mem hc'
    have hna : ∀ x ∈ blks c'.A, x ∉ blks c.A := by
      have := h.na
      rw [List.flatMap_append, List.flatMap_cons] at this
      rw [List.nodup_append, List.nodup_append] at this
      obtain ⟨_, ⟨_, _, h4⟩, h5⟩ := this
      intro x hx hx'
      rcases List.mem_append.1 hc' with h1 | h1
      · exact h5 x (List.mem_flatMap.2 ⟨c', h1, hx⟩) x (by simp [hx']) rfl
      · exact h4 x hx' x (List.mem_flatMap.2 ⟨c', h1, hx⟩) rfl
    refine (h.file c' hm).only o2 (fun hx => ?_) fun x hx hm' => ?_
    · rcases List.mem_cons.1 hx with e | hx
      · exact hnb e
      · exact h.blk_row hm hc hx
    · rcases List.mem_cons.1 hm' with rfl | hm'
      · exact h.blk_row hc hm hx
      · exact hna x hx hm'
  refine { bk := h.bk.only o2 (fun hx => ?_), map := ?_, file := fun c' hc' => ?_, good := ?_, nb := ?_, na := ?_, room' := h.room', u' := h.u', lf' := h.lf', big := fun c' hc' => ?_ }
  · rcases List.mem_cons.1 hx with e | hx
    · exact h.d_blk hc e.symm
    · exact h.d_row hc hx
  · have hm := h.map.only o2 fun m e hx => by
      rcases List.mem_cons.1 hx with e' | hx
      · exact h.m_blk e hc e'.symm
      · exact h.m_row e hc hx
    cases mb with
    | none => simp [MapIs] at hm
    | some m =>
      unfold MapIs at hm ⊢
      simp only [] at hm ⊢
      have e : Dm (p ++ c :: q) = Dm (p ++ { f := { c.f with data := data' }, blk := c.blk, A := A', cap := cap' } :: q) := by simp [Dm, ent]
      rw [← e]
      simpa using hm
  · rcases List.mem_append.1 hc' with h1 | h1
    · exact hother c' (by simp [h1])
    · rcases List.mem_cons.1 h1 with rfl | h1
      · refine ⟨by have := hbk1.set 0 (.slice A' data'.length cap'); simpa using this, hv.setFar (fun hx => ?_) _⟩
        rcases hb _ hx with hx | hx
        · exact h.blk_row hc hc hx
        · exact Nat.not_lt.2 hx (h.file c hc).1.lt
      · exact hother c' (by simp [h1])
  · have := good_swap h.good (g := { c.f with data := data' }) rfl hl
    simpa using this
  · have := h.nb
    simpa using this
  · have hna := h.na
    simp only [List.flatMap_append, List.flatMap_cons] at hna ⊢
    refine nodup_mid hna hv.nodup fun x hx => ?_
    rcases hb x hx with h1 | h1
    · exact .inl h1
    · refine .inr ⟨fun hm => ?_, fun hm => ?_⟩
      · obtain ⟨c', hc', hx'⟩ := List.mem_flatMap.1 hm
        have := (h.file c' (by simp [hc'])).2.lt hx'
        omega
      · obtain ⟨c', hc', hx'⟩ := List.mem_flatMap.1 hm
        have := (h.file c' (by simp [hc'])).2.lt hx'
        omega
  · rcases List.mem_append.1 hc' with h1 | h1
    · exact h.big c' (by simp [h1])
    · rcases List.mem_cons.1 h1 with rfl | h1
      · exact hbig
      · exact h.big c' (by simp [h1])
theorem Dk.setLasts (h : Dk w d room u fz lf mb (p ++ c :: q)) (n : Nat) (hl : n ≤ c.f.data.length) :
    Dk (w.setCell ⟨c.blk, 1, none⟩ (.int .i64 n)) d room u fz lf mb (p ++ { f := { c.f with lasts := n }, blk := c.blk, A := c.A, cap := c.cap } :: q) := by
  have hc : c ∈ p ++ c :: q := by simp
  have o2 : Only [c.blk] w (w.setCell ⟨c.blk, 1, none⟩ (.int .i64 n)) := (Only.refl _ _).setCell (.inl (by simp)) _
  have hother : ∀ c' ∈ p ++ q, FileIs (w.setCell ⟨c.blk, 1, none⟩ (.int .i64 n)) c' := by
    intro c' hc'
    have hm : c' ∈ p ++ c :: q := by
      rcases List.mem_append.1 hc' with h1 | h1 <;> simp [h1]
    have hnb : c'.blk ≠ c.blk := by
      have := h.nb
      rw [List.map_append, List.map_cons] at this
      have hp := (List.perm_middle.nodup_iff).1 this
      rw [List.nodup_cons] at hp
      intro e
      apply hp.1
      rw [← List.map_append, ← e]
      exact List.mem_map_of_mem hc'
    refine (h.file c' hm).only o2 (by simpa using hnb) fun x hx hm' => ?_
    simp only [List.mem_singleton] at hm'
    subst hm'
    exact h.blk_row hc hm hx
  refine { bk := h.bk.only o2 (by simpa using (h.d_blk hc).symm), map := ?_, file := fun c' hc' => ?_, good := ?_, nb := ?_, na := ?_, room' := h.room', u' := h.u', lf' := h.lf', big := fun c' hc' => ?_ }
  · have hm := h.map.only o2 fun m e hx => by
      simp only [List.mem_singleton] at hx
      exact h.m_blk e hc hx.symm
    cases mb with
    | none => simp [MapIs] at hm
    | some m =>
      unfold MapIs at hm ⊢
      simp only [] at hm ⊢
      have e : Dm (p ++ c :: q) = Dm (p ++ { f := { c.f with lasts := n }, blk := c.blk, A := c.A, cap := c.cap } :: q) := by simp [Dm, ent]
      rw [← e]
      simpa using hm
  · rcases List.mem_append.1 hc' with h1 | h1
    · exact hother c' (by simp [h1])
    · rcases List.mem_cons.1 h1 with rfl | h1
      · exact ⟨by have := (h.file c hc).1.set 1 (.int .i64 n); simpa using this, (h.file c hc).2.setFar (fun hx => h.blk_row hc hc hx) _⟩
      · exact hother c' (by simp [h1])
  · have := good_swap h.good (g := { c.f with lasts := n }) rfl hl
    simpa using this
  · have := h.nb
    simpa using this
  · have := h.na
    simpa using this
  · rcases List.mem_append.1 hc' with h1 | h1
    · exact h.big c' (by simp [h1])
    · rcases List.mem_cons.1 h1 with rfl | h1
      · exact h.big c hc
      · exact h.big c' (by simp [h1])
theorem Dk.dropFile {m : Nat} (h : Dk w d room u fz lf (some m) cs) (s : ByteArray) (ho : w'.ownsMap Tryz.prog 9 ptrElem m cs.length ((Dm cs).del (keyLit s))) (ht : w.mapTurned w' m) : Dk w' d room u fz lf (some m) (delC cs s) := by
  have o := Only.of_turned ht
  have hsub : ∀ c ∈ delC cs s, c ∈ cs := fun c hc => (List.mem_filter.1 hc).1
  refine { bk := h.bk.only o (by simpa using (h.d_map rfl).symm), map := ?_, file := fun c hc => (h.file c (hsub c hc)).only o (by simpa using h.m_blk rfl (hsub c hc)) (fun x hx hm => ?_), good := ?_, nb := ?_, na := ?_, room' := h.room', u' := h.u', lf' := h.lf', big := fun c hc => h.big c (hsub c hc) }
  · rw [del_dm] at ho
    have := map_tight ho
    rw [size_dm] at this
    exact this
  · simp only [List.mem_singleton] at hm
    subst hm
    exact h.m_row rfl (hsub c hc) hx
  · rw [map_delC]
    have g := h.good
    exact ⟨g.rise.filter _, Nat.le_trans (List.length_filter_le _ _) g.len, fun f hf => g.names f (mem_del.1 hf).1, fun f hf => g.lasts f (mem_del.1 hf).1⟩
  · exact h.nb.sublist (List.filter_sublist.map _)
  · exact h.na.sublist (flatMap_sub List.filter_sublist _)
theorem Dk.addFile {m : Nat} (h : Dk w d room u fz lf (some m) cs) (hn : findC cs c.f.name = none) (ho : w'.ownsMap Tryz.prog 9 ptrElem m (cs.length + 1) ((Dm cs).put (keyLit c.f.name) (.lit (.int .i64 c.blk)))) (ht : w.mapTurned w' m)
    (hf : FileIs w c) (h1 : c.blk ∉ cs.map (·.blk)) (h2 : ∀ x ∈ blks c.A, x ∉ cs.flatMap fun c => blks c.A) (hlen : cs.length < 4096) (hs : c.f.name.size ≤ 64) (hl : c.f.lasts ≤ c.f.data.length) (hbig : c.f.data.length ≤ 1073741824) :
    Dk w' d room u fz lf (some m) (insC c cs) := by
  have o := Only.of_turned ht
  have hfile : ∀ x : Fc, FileIs w x → FileIs w' x := fun x hx => hx.only o (by simpa using (map_ne h.map hx.1).symm) fun y hy hm => by
    simp only [List.mem_singleton] at hm
    subst hm
    exact map_own h.map hx.2 hy
  refine { bk := h.bk.only o (by simpa using (h.d_map rfl).symm), map := ?_, file := fun x hx => ?_, good := ?_, nb := ?_, na := ?_, room' := h.room', u' := h.u', lf' := h.lf', big := fun x hx => ?_ }
  · rw [put_dm c cs hn] at ho
    have := map_tight ho
    rw [size_dm] at this
    exact this
  · rcases mem_insC.1 hx with rfl | hx
    · exact hfile x hf
    · exact hfile x (h.file x hx)
  · rw [map_insC]
    have g := h.good
    refine ⟨rise_ins g.rise fun x hx => ?_, ?_, fun x hx => ?_, fun x hx => ?_⟩
    · obtain ⟨y, hy, rfl⟩ := List.mem_map.1 hx
      exact findC_none.1 hn y hy
    · rw [length_ins, List.length_map]; omega
    · rcases mem_ins.1 hx with rfl | hx
      · exact hs
      · exact g.names x hx
    · rcases mem_ins.1 hx with rfl | hx
      · exact hl
      · exact g.lasts x hx
  · have hp := (perm_insC c cs).map (·.blk)
    rw [hp.nodup_iff, List.map_cons, List.nodup_cons]
    exact ⟨h1, h.nb⟩
  · have hp := (perm_insC c cs).flatMap_right fun c => blks c.A
    rw [hp.nodup_iff, List.flatMap_cons, List.nodup_append]
    exact ⟨hf.2.nodup, h.na, fun x hx y hy e => h2 x hx (e ▸ hy)⟩
  · rcases mem_insC.1 hx with rfl | hx
    · exact hbig
    · exact h.big x hx
end
def Disk (w : World) (d : Nat) (F : List Nat) (S : Dst) : Prop :=
  ∃ lf mb cs, Dk w d S.room (used S.fs) S.fuse.isSome lf mb cs ∧ cs.map (·.f) = S.fs ∧ (∀ k, S.fuse = some k → lf = k) ∧ used S.fs ≤ S.room ∧ F = fpt d mb cs
section
variable {w w' : World} {d : Nat} {F rs : List Nat} {S : Dst}
theorem Disk.only (h : Disk w d F S) (o : Only rs w w') (hd : ∀ x ∈ F, x ∉ rs) : Disk w' d F S := by
  obtain ⟨lf, mb, cs, hk, h1, h2, h3, rfl⟩ := h
  exact ⟨lf, mb, cs, hk.only o hd, h1, h2, h3, rfl⟩
theorem Disk.keep (h : Disk w d F S) (o : Only [] w w') : Disk w' d F S := h.only o fun _ _ hm => by cases hm
theorem Disk.lt (h : Disk w d F S) {x : Nat} (hx : x ∈ F) : x < w.heap.size := by
  obtain ⟨lf, mb, cs, hk, h1, h2, h3, rfl⟩ := h
  exact hk.lt hx
theorem Disk.good (h : Disk w d F S) : Good S.fs ∧ S.room ≤ 1073741824 ∧ used S.fs ≤ S.room := by
  obtain ⟨lf, mb, cs, hk, h1, h2, h3, rfl⟩ := h
  exact ⟨h1 ▸ hk.good, hk.room', h3⟩
end
def Did (d : Nat) (F : List Nat) (S' : Dst) (v : Value) (w : World) (e : Ending) (w' : World) : Prop :=
  e = .returned v ∧ ∃ F', Disk w' d F' S' ∧ Only F w w' ∧ ∀ x ∈ F', x ∈ F ∨ w.heap.size ≤ x
end Go.Proofs.YtgnilldcfpgpaaaGreatDoor
namespace Go.Proofs.YtgnilldcfpgpaaaGreatDoor
open Go.RowKit Go.Maps
set_option maxRecDepth 100000 in
theorem clone_any (A : Option Addr) (n c : Nat) (l : List UInt8) (w : World) (hs : Sl w A n (bvs l)) (hn : n ≤ 1000000000000) :
    Calls Tryz.prog 98 #[.slice A n c] w (Fresh w l) := by
  obtain ⟨i0, hi, hz0, hz1, hz2⟩ := info_parts infoByte
  have hl : l.length = n := by simpa using hs.len
  cases A with
  | none =>
    have h0 : n = 0 := by
      rcases Nat.eq_zero_or_pos n with h0 | h0
      · exact h0
      · obtain ⟨ad, e, _⟩ := hs.2 h0
        cases e
    subst h0
    obtain rfl : l = [] := List.eq_nil_of_length_eq_zero hl
    clear hl hs
    have hnil : ∀ W, (binOp .eql 27 (.slice none 0 c) (.slice none 0 0)).run Tryz.prog W = .ok (.bool true) W := fun W => Lib.run_eql_slice_nil W _ _ _ _ _ _ _ Tryz.underlying27
    go_enter Tryz.func98, Tryz.ntmps98
    go_wp2
    go_ret
    exact ⟨none, 0, rfl, Own.nil _ _, Only.refl _ _, fun _ h => by cases h⟩
  | some ad =>
    have ho0 : Own (w.alloc (.cells #[] 5)) 5 (some ⟨w.heap.size, 0, none⟩) 0 0 [] := World.ownsRow_lit w #[] 0 (Nat.zero_le _) (Nat.zero_le _) rfl
    have HL := Lib.hid hl
    clear hl
    have hnil : ∀ W, (binOp .eql 27 (.slice (some ad) n c) (.slice none 0 0)).run Tryz.prog W = .ok (.bool false) W := fun W => Lib.run_eql_slice_nil W _ _ _ _ _ _ _ Tryz.underlying27
    go_enter Tryz.func98, Tryz.ntmps98
    go_wp2_with (at_builtin; refine wpList_append_sl rfl (.tmp 5) (.tmp 6) 27 rfl 5 i0 (.int .u8 0) 1 Tryz.underlying27 hi hz0 hz1 hz2 rfl _ _ _ _ rfl ho0 (some ad) n c _ rfl (hs.alloc _) (bvs_one _) (by unfold maxLen; omega) (by omega) ?_; intro A1 c1 w1 HV1 HO1 HB1; rw [List.nil_append] at HV1; rw [Nat.zero_add] at HV1)
    go_ret
    have z1 : ∀ k ∈ blks A1, w.heap.size ≤ k := fun k hk => by
      rcases HB1 k hk with h1 | h1
      · simp at h1; omega
      · simp at h1; omega
    have P1 : Only [] w w1 := ((Only.refl [] w).alloc _).trans HO1 (fun x hx => .inr (by simp at hx; omega))
    refine ⟨A1, c1, ?_, ?_, P1, z1⟩
    · rw [HL.out]; rfl
    · rw [HL.out]; exact HV1
theorem sclone_any (s : ByteArray) (w : World) (hs : s.size ≤ 281474976710656) : Calls Tryz.prog 230 #[.string s] w fun e w' => e = .returned (.string s) ∧ Only [] w w' := by
  have HC := Tryz.stringslite_Clone s w hs
  go_enter Tryz.func230, Tryz.ntmps230
  go_wp2_with (go_at_call 250; refine HC.mono ?_; rintro e w1 ⟨rfl, hb⟩)
  go_ret
  exact ⟨rfl, Only.of_below hb⟩
end Go.Proofs.YtgnilldcfpgpaaaGreatDoor
namespace Go.Proofs.YtgnilldcfpgpaaaGreatDoor
open Go.RowKit Go.Maps
def errD (fz : Bool) (lf : Nat) (ss : List ByteArray) : Nat := if fz = true ∧ lf = 0 then 9 else if ss.all okName then 0 else 1
theorem errB_errD {S : Dst} {lf : Nat} (h : ∀ k, S.fuse = some k → lf = k) (ss : List ByteArray) : errB S ss = errD S.fuse.isSome lf ss := by
  unfold errB errD
  cases hS : S.fuse with
  | none => simp
  | some k =>
    have := h k hS
    subst this
    simp
theorem ok_true {s : ByteArray} (h1 : 1 ≤ s.size) (h2 : s.size ≤ 64) : okName s = true := by simp [okName, h1, h2]
theorem ok_false {s : ByteArray} (h : ¬ (1 ≤ s.size ∧ s.size ≤ 64)) : okName s = false := by unfold okName; exact decide_eq_false h
theorem all_take {ss : List ByteArray} {k : Nat} (hk : k < ss.length) (h : ∀ s ∈ ss.take k, okName s = true) (h' : okName ss[k] = true) : ∀ s ∈ ss.take (k + 1), okName s = true := by
  intro s hs
  rw [List.take_succ_eq_append_getElem hk] at hs
  rcases List.mem_append.1 hs with h1 | h1
  · exact h s h1
  · simp at h1
    rw [h1]
    exact h'
section
variable {w : World} {d room u lf : Nat} {fz : Bool} {mb : Option Nat} {cs : List Fc}
theorem begin_any (h : Dk w d room u fz lf mb cs) (A : Option Addr) (n c : Nat) (ss : List ByteArray) (hs : Sl w A n (ss.map Value.string)) (hn : n ≤ 4611686018427387904) :
    Calls Tryz.prog 202 #[.pointer (some ⟨d, 0, none⟩), .slice A n c] w fun e w' => e = .returned (.int .i64 (errD fz lf ss : Nat)) ∧ w = w' := by
  obtain ⟨_, _, _, c3, c4⟩ := h.cell
  have hl : ss.length = n := by simpa using hs.len
  by_cases hd : fz = true ∧ lf = 0
  · have he : errD fz lf ss = 9 := if_pos hd
    rw [he]
    obtain ⟨rfl, rfl⟩ := hd
    clear he h
    go_enter Tryz.func202, Tryz.ntmps202
    go_wp2
    go_ret
    exact ⟨rfl, rfl⟩
  · have he : errD fz lf ss = if ss.all okName then 0 else 1 := if_neg hd
    rw [he]
    have hfz : fz = false ∨ (fz = true ∧ ((lf : Int) == 0) = false) := by
      cases fz
      · exact .inl rfl
      · refine .inr ⟨rfl, ?_⟩
        rw [beq_eq_false_iff_ne]
        intro e
        exact hd ⟨rfl, by omega⟩
    clear he hd h
    obtain ⟨E, hE⟩ : ∃ E, E = if ss.all okName then 0 else 1 := ⟨_, rfl⟩
    rw [← hE]
    have HE := Lib.hid hE
    clear hE
    rcases hfz with rfl | ⟨rfl, hlf⟩
    all_goals
      go_enter Tryz.func202, Tryz.ntmps202
      go_wp2
      go_loop [22] (fun i => ∃ k : Nat, k ≤ n ∧ i = .int .i64 k ∧ Hid (∀ s ∈ ss.take k, okName s = true)) (fun i => n - (intOf i).toNat)
      case atStart => exact ⟨0, Nat.zero_le _, rfl, fun s hs => by simp at hs⟩
      case round =>
        obtain ⟨k, hk, rfl, HK⟩ := hrel
        by_cases hlt : k < n
        · obtain ⟨ad, v, rfl, hv, hcell⟩ := hs.at_ hlt
          have hkl : k < ss.length := by omega
          obtain ⟨s, hsd⟩ : ∃ s, s = ss[k]'hkl := ⟨_, rfl⟩
          have hv' : v = .string s := by
            rw [List.getElem?_map, List.getElem?_eq_getElem hkl] at hv
            rw [hsd]
            simpa using hv.symm
          subst hv'
          have HS := Lib.hid hsd
          clear hv hsd
          by_cases h1 : 1 ≤ s.size
          · by_cases h2 : s.size ≤ 64
            · have HK' : Hid (∀ s ∈ ss.take (k + 1), okName s = true) := all_take hkl HK.out (by rw [← HS.out]; exact ok_true h1 h2)
              go_wp2
              go_round
              case rel => exact ⟨k + 1, by omega, by go_num, HK'⟩
              case measure => simp [intOf]; omega
            · have h2' : (64 : Int) < (s.size : Int) := by omega
              have HB : Hid (E = 1) := by
                show E = 1
                rw [HE.out, if_neg]
                intro ha
                rw [List.all_eq_true] at ha
                have := ha s (by rw [HS.out]; exact List.getElem_mem _)
                rw [ok_false (by omega)] at this
                cases this
              go_wp2
              go_ret
              exact ⟨by rw [HB.out]; rfl, rfl⟩
          · have h1' : (s.size : Int) < 1 := by omega
            have HB : Hid (E = 1) := by
              show E = 1
              rw [HE.out, if_neg]
              intro ha
              rw [List.all_eq_true] at ha
              have := ha s (by rw [HS.out]; exact List.getElem_mem _)
              rw [ok_false (by omega)] at this
              cases this
            go_wp2
            go_ret
            exact ⟨by rw [HB.out]; rfl, rfl⟩
        · have HB : Hid (E = 0) := by
            show E = 0
            have := HK.out
            rw [List.take_of_length_le (by omega)] at this
            rw [HE.out, if_pos (List.all_eq_true.2 this)]
          go_wp2
          go_ret
          exact ⟨by rw [HB.out]; rfl, rfl⟩
theorem begin_nil (w : World) (A : Option Addr) (n c : Nat) : Calls Tryz.prog 202 #[.pointer none, .slice A n c] w fun e w' => e = .returned (.int .i64 1) ∧ w = w' := by
  go_enter Tryz.func202, Tryz.ntmps202
  go_wp2
  go_ret
  exact ⟨rfl, rfl⟩
theorem done_any (hk0 : Dk w d room u fz lf mb cs) (hf : fz = true → lf ≠ 0) :
    Calls Tryz.prog 205 #[.pointer (some ⟨d, 0, none⟩)] w fun e w' => e = .returned (.tuple #[]) ∧ Dk w' d room u fz (if fz then lf - 1 else lf) mb cs ∧ Only [d] w w' := by
  obtain ⟨_, _, _, c3, c4⟩ := hk0.cell
  have f4 := hk0.bk.free 4
  cases fz
  · go_enter Tryz.func205, Tryz.ntmps205
    go_wp2
    go_end0
    exact ⟨rfl, hk0, Only.refl _ _⟩
  · have hlf := hf rfl
    have b := hk0.lf'
    obtain ⟨k, rfl⟩ : ∃ k, lf = k + 1 := ⟨lf - 1, by omega⟩
    have hk := hk0.setLeft k (by omega)
    have hx : ((k + 1 : Nat) : Int) - 1 = (k : Int) := by omega
    have hx0 : ((k + 1 : Nat) : Int) = (k : Int) + 1 := by omega
    rw [hx0] at c4
    have hx1 : (k : Int) + 1 - 1 = (k : Int) := by omega
    clear hx hx0 hlf hf
    have HK := Lib.hid hk
    clear hk hk0
    go_enter Tryz.func205, Tryz.ntmps205
    go_wp2
    go_end0
    exact ⟨rfl, HK.out, (Only.refl _ _).setCell (.inl (by simp)) _⟩
theorem zero_ptr (w : World) : (zeroValue 116).run Tryz.prog w = .ok (.pointer none) w := by kernel_rfl
theorem look_none (hm : MapIs w mb cs) {s : ByteArray} (hs : s.size ≤ maxLen) (hc : findC cs s = none) : (Instr.lookup 110 (.map mb) (.string s) false).run Tryz.prog w = .ok (.pointer none) w := by
  have hk := key_of s hs
  cases mb with
  | none => simpa using Maps.look_nil false keyed Tryz.underlying110 (zero_ptr w) hk
  | some m =>
    obtain ⟨v, ps, hr, hv⟩ := World.ownsMap.lookup hm keyed Tryz.underlying110 (zero_ptr w) ptrElem_nil hk
    rw [atKey_dm, hc] at hv
    rw [hr, ptrElem_nil_inv hv]
theorem look_hit (hm : MapIs w mb cs) {s : ByteArray} (hs : s.size ≤ maxLen) {c : Fc} (hc : findC cs s = some c) : (Instr.lookup 110 (.map mb) (.string s) false).run Tryz.prog w = .ok (.pointer (some ⟨c.blk, 0, none⟩)) w := by
  have hk := key_of s hs
  cases mb with
  | none =>
    have : cs = [] := hm
    subst this
    cases hc
  | some m =>
    obtain ⟨v, ps, hr, hv⟩ := World.ownsMap.lookup hm keyed Tryz.underlying110 (zero_ptr w) ptrElem_nil hk
    rw [atKey_dm, hc] at hv
    rw [hr, ptrElem_some_inv hv]
theorem sl_name (w : World) (s : ByteArray) : Sl (w.alloc (.cells #[.string s] 9)) (some ⟨w.heap.size, 0, none⟩) 1 ([s].map Value.string) := Sl.of_new w #[.string s] _ _
theorem errD_one {s : ByteArray} (h : errD fz lf [s] = 0) : 1 ≤ s.size ∧ s.size ≤ 64 ∧ (fz = true → lf ≠ 0) := by
  unfold errD at h
  split at h
  · cases h
  · rename_i hn
    split at h
    · rename_i ha
      simp [okName] at ha
      exact ⟨ha.1, ha.2, fun h1 h2 => hn ⟨h1, h2⟩⟩
    · cases h
theorem find_err (hk : Dk w d room u fz lf mb cs) (s : ByteArray) {r : Nat} (hr : errD fz lf [s] = r) (h0 : r ≠ 0) :
    Calls Tryz.prog 231 #[.pointer (some ⟨d, 0, none⟩), .string s] w fun e w' => e = .returned (.tuple #[.pointer none, .int .i64 r]) ∧ Only [] w w' := by
  have HB := begin_any (hk.keep ((Only.refl [] w).alloc (.cells #[.string s] 9))) (some ⟨w.heap.size, 0, none⟩) 1 1 [s] (sl_name w s) (by omega)
  rw [hr] at HB
  have hrb : ((r : Int) != 0) = true := by rw [bne_iff_ne]; omega
  clear hr hk
  go_enter Tryz.func231, Tryz.ntmps231
  go_wp2_with (go_at_call 202; refine HB.mono ?_; rintro e w1 ⟨rfl, rfl⟩)
  go_ret2
  exact ⟨rfl, (Only.refl _ _).alloc _⟩
set_option maxRecDepth 100000 in
theorem find_none (hk : Dk w d room u fz lf mb cs) (s : ByteArray) (hr : errD fz lf [s] = 0) (hc : findC cs s = none) :
    Calls Tryz.prog 231 #[.pointer (some ⟨d, 0, none⟩), .string s] w fun e w' => e = .returned (.tuple #[.pointer none, .int .i64 7]) ∧ Only [] w w' := by
  have hk1 := hk.keep ((Only.refl [] w).alloc (.cells #[.string s] 9))
  have HB := begin_any hk1 (some ⟨w.heap.size, 0, none⟩) 1 1 [s] (sl_name w s) (by omega)
  rw [hr] at HB
  have hl := look_none hk1.map (by have := (errD_one hr).2.1; unfold maxLen; omega) hc
  obtain ⟨_, _, c2, _, _⟩ := hk.cell
  have hd := hk.bk.lt
  clear hr hk hk1 hc
  go_enter Tryz.func231, Tryz.ntmps231
  go_wp2_with (go_at_call 202; refine HB.mono ?_; rintro e w1 ⟨rfl, rfl⟩)
  go_ret2
  exact ⟨rfl, (Only.refl _ _).alloc _⟩
set_option maxRecDepth 100000 in
theorem find_hit (hk : Dk w d room u fz lf mb cs) (s : ByteArray) (hr : errD fz lf [s] = 0) {c : Fc} (hc : findC cs s = some c) :
    Calls Tryz.prog 231 #[.pointer (some ⟨d, 0, none⟩), .string s] w fun e w' => e = .returned (.tuple #[.pointer (some ⟨c.blk, 0, none⟩), .int .i64 0]) ∧ Only [] w w' := by
  have hk1 := hk.keep ((Only.refl [] w).alloc (.cells #[.string s] 9))
  have HB := begin_any hk1 (some ⟨w.heap.size, 0, none⟩) 1 1 [s] (sl_name w s) (by omega)
  rw [hr] at HB
  have hl := look_hit hk1.map (by have := (errD_one hr).2.1; unfold maxLen; omega) hc
  obtain ⟨_, _, c2, _, _⟩ := hk.cell
  have hd := hk.bk.lt
  clear hr hk hk1 hc
  go_enter Tryz.func231, Tryz.ntmps231
  go_wp2_with (go_at_call 202; refine HB.mono ?_; rintro e w1 ⟨rfl, rfl⟩)
  go_ret2
  exact ⟨rfl, (Only.refl _ _).alloc _⟩
theorem find_nil (w : World) (s : ByteArray) : Calls Tryz.prog 231 #[.pointer none, .string s] w fun e w' => e = .returned (.tuple #[.pointer none, .int .i64 1]) ∧ Only [] w w' := by
  have HB := begin_nil (w.alloc (.cells #[.string s] 9)) (some ⟨w.heap.size, 0, none⟩) 1 1
  go_enter Tryz.func231, Tryz.ntmps231
  go_wp2_with (go_at_call 202; refine HB.mono ?_; rintro e w1 ⟨rfl, rfl⟩)
  go_ret2
  exact ⟨rfl, (Only.refl _ _).alloc _⟩
set_option maxRecDepth 100000 in
theorem fits_any (hk : Dk w d room u fz lf mb cs) (hu : u ≤ room) (A : Option Addr) (n c : Nat) (ls : List (List UInt8)) (hr : Rw w A n ls) (hn : n ≤ 4611686018427387904) (B : Bool) (hB : B = decide (u + ls.flatten.length ≤ room)) :
    Calls Tryz.prog 203 #[.pointer (some ⟨d, 0, none⟩), .slice A n c] w (Quiet w (.bool B)) := by
  obtain ⟨c0, c1, _, _, _⟩ := hk.cell
  have b0 := hk.room'
  have hlen := hr.len
  have HB := Lib.hid hB
  clear hB hk
  have hx : IntKind.i64.wrap ((room : Int) - u) = (room : Int) - u := IntWalk.i64_in _ (by omega)
  obtain ⟨fr0, hfr⟩ : ∃ fr0 : Nat, (room : Int) - u = fr0 := ⟨room - u, by omega⟩
  rw [hfr] at hx
  have h0 : fr0 + catLen ls 0 + u = room := by rw [catLen_zero]; omega
  have H0 := Lib.hid h0
  clear h0
  have hb : fr0 ≤ 1073741824 := by omega
  go_enter Tryz.func203, Tryz.ntmps203
  go_wp2
  go_quiet (fail)
  have HF := Lib.hid hfr
  clear hx hfr
  go_wp2
  go_loopw [19, 5] (fun i t wr => ∃ k fr : Nat, k ≤ n ∧ i = .int .i64 k ∧ t = .int .i64 fr ∧ Hid (fr + catLen ls k + u = room) ∧ fr ≤ 1073741824 ∧ ∃ m, wr = w.drewN m) (fun i _ _ => n - (intOf i).toNat)
  case atStart => exact ⟨0, fr0, Nat.zero_le _, rfl, rfl, H0, hb, _, rfl⟩
  case round =>
    obtain ⟨k, fr, hk, rfl, rfl, HS, hfb, m0, rfl⟩ := hrel
    by_cases hlt : k < n
    · obtain ⟨ad, Ai, ci, rfl, hcell, _⟩ := hr.at_ hlt (by omega)
      have hsucc := catLen_succ ls k (by omega)
      have hle := catLen_le ls (k + 1)
      obtain ⟨m, hm⟩ : ∃ m, m = (ls[k]'(by omega)).length := ⟨_, rfl⟩
      rw [← hm] at hcell hsucc
      have HC := Lib.hid hsucc
      have HL := Lib.hid hle
      clear hsucc hle hm
      by_cases hgt : fr < m
      · have hgt' : (fr : Int) < (m : Int) := by omega
        have hF : Hid (B = false) := by
          show B = false
          rw [HB.out, decide_eq_false_iff_not]
          have h1 := HS.out
          have h2 := HC.out
          have h3 := HL.out
          omega
        go_wp2
        go_ret
        exact ⟨by rw [hF.out]; rfl, _, rfl⟩
      · have hgt' : (m : Int) ≤ (fr : Int) := by omega
        obtain ⟨fr', hfr'⟩ : ∃ fr', fr = m + fr' := ⟨fr - m, by omega⟩
        have HS' : Hid (fr' + catLen ls (k + 1) + u = room) := by
          show _ = _
          have h1 := HS.out
          have h2 := HC.out
          omega
        have hsub : ((fr : Int) - (m : Int)) = (fr' : Int) := by omega
        have hb' : fr' ≤ 1073741824 := by omega
        have HSub := Lib.hid hsub
        clear hsub hfr'
        go_wp2
        go_roundw
        case rel => exact ⟨k + 1, fr', by omega, by go_num, by rw [HSub.out], HS', hb', _, rfl⟩
        case measure => simp [intOf]; omega
    · have hT : Hid (B = true) := by
        show B = true
        rw [HB.out, decide_eq_true_iff]
        have h1 := HS.out
        rw [catLen_all ls (by omega)] at h1
        omega
      go_wp2
      go_ret
      exact ⟨by rw [hT.out]; rfl, _, rfl⟩
end
end Go.Proofs.YtgnilldcfpgpaaaGreatDoor
namespace Go.Proofs.YtgnilldcfpgpaaaGreatDoor
open Go.RowKit Go.Maps
section
variable {w : World} {d room u lf : Nat} {fz : Bool} {mb : Option Nat} {p q : List Fc}
theorem Dk.drew {cs : List Fc} (h : Dk w d room u fz lf mb cs) : Dk w.drew d room u fz lf mb cs := h.keep ((Only.refl _ _).drew)
set_option maxRecDepth 100000 in
theorem cut_any {c : Fc} (h : Dk w d room u fz lf mb (p ++ c :: q)) (n : Nat) (hn : n ≤ c.f.data.length) (hu : c.f.data.length ≤ u + n) :
    Calls Tryz.prog 51 #[.pointer (some ⟨d, 0, none⟩), .pointer (some ⟨c.blk, 0, none⟩), .int .i64 n] w fun e w' => e = .returned (.tuple #[]) ∧
      ∃ A' cap', Dk w' d room (u + n - c.f.data.length) fz lf mb (p ++ { f := cutF n c.f, blk := c.blk, A := A', cap := cap' } :: q) ∧ Only (d :: c.blk :: blks c.A) w w' ∧ ∀ x ∈ blks A', x ∈ blks c.A ∨ w.heap.size ≤ x := by
  obtain ⟨⟨nm, data, la⟩, b, A, cap⟩ := c
  dsimp only at *
  have hm : ∀ x : Fc, x ∈ p ++ x :: q := fun x => by simp
  have hdb : b ≠ d := h.d_blk (hm _)
  have hbig := h.big _ (hm _)
  have hla := h.lasts (hm _)
  have hb9 := h.u'
  have f1 := h.bk.free 1
  obtain ⟨_, c1, _⟩ := h.cell
  obtain ⟨e0, _⟩ := h.fcell (hm _)
  dsimp only at e0 hbig hla
  obtain ⟨a, ha⟩ : ∃ a, a = data.length := ⟨_, rfl⟩
  rw [← ha] at e0 hbig hla hn hu ⊢
  have HA := Lib.hid ha
  clear ha
  obtain ⟨u2, hu2⟩ : ∃ u2 : Nat, u2 = u + n - a := ⟨_, rfl⟩
  rw [← hu2]
  have hz2 : u2 ≤ 1073741824 := by omega
  have HU : Hid ((u : Int) - ((a : Int) - (n : Int)) = (u2 : Int)) := by show _ = _; omega
  have h1 := (h.setUsed u2 hz2).drew
  have O1 : Only [d] w (w.setCell ⟨d, 1, none⟩ (.int .i64 u2)).drew := ((Only.refl _ _).setCell (.inl (by simp)) _).drew
  have hbz := (h.file _ (hm _)).1.lt
  dsimp only at hbz
  have HH := Lib.hid h
  clear hu2 h
  go_enter Tryz.func51, Tryz.ntmps51
  go_wp2
  go_region
  rw [HU.out]
  generalize (w.setCell ⟨d, 1, none⟩ (.int .i64 u2)).drew = w1 at h1 O1 ⊢
  clear e0 c1 f1 HU
  -- the lasting ones, and the row cut off
  obtain ⟨e0, e1⟩ := h1.fcell (hm _)
  have g0 := (h1.file _ (hm _)).1.free 0
  have g1 := (h1.file _ (hm _)).1.free 1
  have hown := (h1.file _ (hm _)).2
  dsimp only at e0 e1 g0 g1 hown
  rw [← HA.out] at e0 hown
  have hcap := hown.cap
  have hncap : n ≤ cap := by omega
  obtain ⟨l, hl⟩ : ∃ l, l = data.take n := ⟨_, rfl⟩
  have hln : l.length = n := by rw [hl, List.length_take, ← HA.out]; omega
  obtain ⟨la2, hla2⟩ : ∃ la2, la2 = min la n := ⟨_, rfl⟩
  have hml : min (la : Int) (n : Int) = (la2 : Int) := by omega
  have h2 := h1.setLasts la2 (by dsimp only; have := HA.out; omega)
  dsimp only at h2
  have V2 : Own (w1.setCell ⟨b, 1, none⟩ (.int .i64 la2)) 5 A l.length cap (bvs l) := by
    have h3 := (h2.file _ (hm _)).2.pre (k := n) (by dsimp only; have := HA.out; omega)
    rw [bvs_take, ← hl] at h3
    rw [hln]
    exact h3
  have h3 := h2.setData (Only.refl _ _) V2 (fun x hx => .inl hx) (by dsimp only; omega) (by omega)
  have HLA := Lib.hid hla2
  clear hla2
  have HV3 := (h3.file _ (hm _)).2
  dsimp only at h3 HV3
  have O3 : Only [d, b] w ((w1.setCell ⟨b, 1, none⟩ (.int .i64 la2)).setCell ⟨b, 0, none⟩ (.slice A l.length cap)) := ((O1.mono (fun x hx => .inl (by simp at hx; simp [hx]))).setCell (.inl (by simp)) _).setCell (.inl (by simp)) _
  rw [hln] at h3 O3 HV3
  have HL := Lib.hid hl
  have HN := Lib.hid hln
  have HO3 := O3
  clear hl hln V2 h2 h1 O1
  have HC := Lib.hid (clone_any A n cap l _ HV3.sl (by omega))
  clear hown HV3
  go_wp2_with (go_at_call 98; refine HC.out.mono ?_; rintro e w4 ⟨A4, c4, rfl, V4, O4, B4⟩; have h4 := h3.keep O4; have e4 := (h4.fcell (hm _)).1; have g4 := (h4.file _ (hm _)).1.free 0; dsimp only at e4 g4)
  · go_end0
    refine ⟨rfl, A4, c4, ?_, ?_, fun x hx => ?_⟩
    · have h5 := h3.setData (O4.mono (fun _ hx => by cases hx)) V4 (fun x hx => .inr (B4 x hx)) (by dsimp only; rw [HN.out, HLA.out]; omega) (by rw [HN.out]; omega)
      dsimp only at h5
      unfold cutF
      dsimp only
      rw [← HL.out, ← HLA.out]
      exact h5
    · exact ((O3.then O4).setCell (.inl (by simp)) _).mono (fun x hx => .inl (by simp at hx; rcases hx with rfl | rfl <;> simp))
    · have := B4 x hx
      have hz := O3.size
      exact .inr (by omega)
  · go_end0
    refine ⟨rfl, A, cap, ?_, ?_, fun x hx => .inl hx⟩
    · unfold cutF
      dsimp only
      rw [← HL.out, ← HLA.out]
      exact h3
    · exact O3.mono (fun x hx => .inl (by simp at hx; rcases hx with rfl | rfl <;> simp))
end
end Go.Proofs.YtgnilldcfpgpaaaGreatDoor
namespace Go.Proofs.YtgnilldcfpgpaaaGreatDoor
open Go.RowKit Go.Maps
section
variable {w : World} {d room u lf : Nat} {fz : Bool} {mb : Option Nat} {cs : List Fc}
set_option maxRecDepth 100000 in
theorem drop_hit (h : Dk w d room u fz lf mb cs) (s : ByteArray) (hs : s.size ≤ 64) {c : Fc} (hc : findC cs s = some c) (hu : c.f.data.length ≤ u) :
    Calls Tryz.prog 232 #[.pointer (some ⟨d, 0, none⟩), .string s] w fun e w' => e = .returned (.tuple #[]) ∧ Dk w' d room (u - c.f.data.length) fz lf mb (delC cs s) ∧ Only (d :: mb.toList) w w' := by
  have hm := (findC_some hc).1
  cases mb with
  | none =>
    have : cs = [] := h.map
    subst this
    cases hc
  | some m =>
    have hl := look_hit h.map (by unfold maxLen; omega) hc
    obtain ⟨_, c1, c2, _, _⟩ := h.cell
    obtain ⟨e0, _⟩ := h.fcell hm
    have f1 := h.bk.free 1
    have hdb := h.d_blk hm
    have hbig := h.big _ hm
    have hb9 := h.u'
    have hmd : m ≠ d := h.d_map rfl
    obtain ⟨a, ha⟩ : ∃ a, a = c.f.data.length := ⟨_, rfl⟩
    rw [← ha] at e0 hbig hu ⊢
    obtain ⟨u2, hu2⟩ : ∃ u2 : Nat, u2 = u - a := ⟨_, rfl⟩
    rw [← hu2]
    have HU : Hid ((u : Int) - (a : Int) = (u2 : Int)) := by show _ = _; omega
    have h1 := (h.setUsed u2 (by omega)).drew
    have O1 : Only [d] w (w.setCell ⟨d, 1, none⟩ (.int .i64 u2)).drew := ((Only.refl _ _).setCell (.inl (by simp)) _).drew
    generalize c.blk = b at *
    have hkey := key_of s (by unfold maxLen; omega)
    clear ha hu2 h hc hm
    go_enter Tryz.func232, Tryz.ntmps232
    go_wp2
    go_region
    rw [HU.out]
    generalize (w.setCell ⟨d, 1, none⟩ (.int .i64 u2)).drew = w1 at h1 O1 ⊢
    obtain ⟨_, _, c2', _, _⟩ := h1.cell
    have hmap : w1.ownsMap Tryz.prog 9 ptrElem m cs.length (Dm cs) := h1.map
    go_wp2_with (at_delete; refine wpList_delete_own _ rfl _ _ 110 9 rfl 116 keyed Tryz.underlying110 ptrElem m cs.length (Dm cs) rfl hmap _ (keyLit s) rfl hkey ?_; intro w2 hown2 hturn2)
    go_end0
    exact ⟨rfl, h1.dropFile s hown2 hturn2, (O1.mono (fun x hx => .inl (by simp at hx; simp [hx]))).trans (Only.of_turned hturn2) (fun x hx => .inl (by simp at hx; simp [hx]))⟩
theorem equalIn_map (W : World) (k : Nat) (mb : Option Nat) : (Op.equalIn (k + 1) 110 (.map mb) (.map none)).run Tryz.prog W = .ok mb.isNone W := by
  cases mb <;> simp [Op.equalIn, run_underlying Tryz.underlying110]
theorem eql_map (W : World) (mb : Option Nat) : (binOp .eql 110 (.map mb) (.map none)).run Tryz.prog W = .ok (.bool mb.isNone) W := by
  simp only [binOp]
  simp [Op.equal, Op.maxDepth, equalIn_map W 9999 mb]
set_option maxRecDepth 100000 in
theorem put_any (h : Dk w d room u fz lf mb cs) {c : Fc} (hf : FileIs w c) (hn : findC cs c.f.name = none) (h1 : c.blk ∉ cs.map (·.blk)) (h2 : ∀ x ∈ blks c.A, x ∉ cs.flatMap fun c => blks c.A) (hlen : cs.length < 4096) (hs : c.f.name.size ≤ 64)
    (hl : c.f.lasts ≤ c.f.data.length) (hbig : c.f.data.length ≤ 1073741824) :
    Calls Tryz.prog 204 #[.pointer (some ⟨d, 0, none⟩), .string c.f.name, .pointer (some ⟨c.blk, 0, none⟩)] w fun e w' => e = .returned (.tuple #[]) ∧
      ∃ mb', Dk w' d room u fz lf mb' (insC c cs) ∧ Only (d :: mb.toList) w w' ∧ ∀ m, mb' = some m → mb = some m ∨ w.heap.size ≤ m := by
  have hmm := @run_makeMap Tryz.prog
  have hq0 : ∀ W, (binOp .eql 110 (.map none) (.map none)).run Tryz.prog W = .ok (.bool true) W := fun W => eql_map W none
  have hq1 : ∀ W m, (binOp .eql 110 (.map (some m)) (.map none)).run Tryz.prog W = .ok (.bool false) W := fun W m => eql_map W (some m)
  have hkey := key_of c.f.name (by unfold maxLen; omega)
  obtain ⟨_, _, c2, _, _⟩ := h.cell
  have f2 := h.bk.free 2
  have hdz := h.bk.lt
  obtain ⟨s, hsn⟩ : ∃ s, s = c.f.name := ⟨_, rfl⟩
  obtain ⟨b, hb⟩ : ∃ b, b = c.blk := ⟨_, rfl⟩
  rw [← hsn] at hs hkey ⊢
  rw [← hb]
  have HS := Lib.hid hsn
  have HB := Lib.hid hb
  clear hsn hb
  cases mb with
  | none =>
    have hcs : cs = [] := h.map
    subst hcs
    have H1 : Dk ((w.setCell ⟨d, 2, none⟩ (.map (some w.heap.size))).alloc (.map #[] 0)) d room u fz lf (some w.heap.size) [] := by
      have := (h.keep ((Only.refl [] w).alloc (.map #[] 0))).setD 2 (.map (some w.heap.size)) (mb' := some w.heap.size) rfl (World.ownsMap_made w _ _ _) h.room' h.u' h.lf'
      rwa [World.setCell_alloc_past _ _ _ _ hdz] at this
    have O1 : Only [d] w ((w.setCell ⟨d, 2, none⟩ (.map (some w.heap.size))).alloc (.map #[] 0)) := ((Only.refl _ _).setCell (.inl (by simp)) _).alloc _
    have hf1 : FileIs ((w.setCell ⟨d, 2, none⟩ (.map (some w.heap.size))).alloc (.map #[] 0)) c := hf.only O1 (by simpa using hf.1.ne h.bk (by decide)) (fun x hx hm => by
      simp only [List.mem_singleton] at hm
      subst hm
      exact hf.2.ne h.bk (by decide) hx)
    clear h hf
    go_enter Tryz.func204, Tryz.ntmps204
    go_wp2
    generalize hW : (w.setCell ⟨d, 2, none⟩ (.map (some w.heap.size))).alloc (.map #[] 0) = w1 at *
    generalize hG : w.heap.size = g at *
    have HGE : Hid (w.heap.size ≤ g) := by show _ ≤ _; omega
    clear hW hG c2 f2 hdz
    have HCL := Lib.hid (fun W => sclone_any s W (by omega))
    have HST := Lib.hid (fun (W : World) (hm : W.ownsMap Tryz.prog 9 ptrElem g 0 (Dm [])) => World.ownsMap.store hm keyed Tryz.underlying110 (by decide) hkey (ptrElem_some b))
    obtain ⟨_, _, c2, _, _⟩ := H1.cell
    have HH1 := Lib.hid H1
    have HF1 := Lib.hid hf1
    clear H1 hf1
    go_region_held3 (fun w' => w'.cell? ⟨d, 2, none⟩ = some (.map (some g))) (first | go_keep | exact c22 | exact c33)
      ((go_at_call 230; refine (HCL.out _).mono ?_; rintro e w2 ⟨rfl, O2⟩; have H2 := HH1.out.drew.keep O2; obtain ⟨_, _, c22, _, _⟩ := H2.cell; obtain ⟨w3, hrun, own3, turn3⟩ := HST.out _ H2.map; have c33 := (Only.of_turned turn3).cellSome c22 (by simpa using (H2.d_map rfl).symm)))
    go_wp2
    go_end0
    refine ⟨rfl, some g, ?_, ((O1.drew.then O2).trans (Only.of_turned turn3) (fun x hx => by simp at hx; subst hx; exact .inr HGE.out)).mono (fun x hx => .inl (by simpa using hx)), fun m' e => .inr (by injection e with e; have := HGE.out; omega)⟩
    rw [HS.out, HB.out] at own3
    exact H2.addFile hn own3 turn3 ((HF1.out.only (((Only.refl [] _).drew).then O2) (by simp) (fun _ _ hm => by cases hm))) h1 h2 hlen (by rw [← HS.out]; exact hs) hl hbig
  | some m =>
    have hf1 := hf
    have H1 := h
    clear h hf
    go_enter Tryz.func204, Tryz.ntmps204
    go_wp2
    have HCL := Lib.hid (fun W => sclone_any s W (by omega))
    have HST := Lib.hid (fun (W : World) (hm : W.ownsMap Tryz.prog 9 ptrElem m cs.length (Dm cs)) => World.ownsMap.store hm keyed Tryz.underlying110 (by unfold maxLen; omega) hkey (ptrElem_some b))
    have HH1 := Lib.hid H1
    have HF1 := Lib.hid hf1
    clear H1 hf1 hq0 hq1 hmm
    go_region_held3 (fun w' => w'.cell? ⟨d, 2, none⟩ = some (.map (some m))) (first | go_keep | exact c22 | exact c33)
      ((go_at_call 230; refine (HCL.out _).mono ?_; rintro e w2 ⟨rfl, O2⟩; have H2 := HH1.out.drew.keep O2; obtain ⟨_, _, c22, _, _⟩ := H2.cell; obtain ⟨w3, hrun, own3, turn3⟩ := HST.out _ H2.map; have c33 := (Only.of_turned turn3).cellSome c22 (by simpa using (H2.d_map rfl).symm)))
    go_wp2
    go_end0
    refine ⟨rfl, some m, ?_, (((Only.refl [] _).drew.then O2).mono (ss := d :: [m]) (fun x hx => by cases hx)).trans (Only.of_turned turn3) (fun x hx => .inl (by simp at hx; simp [hx])), fun m' e => .inl e⟩
    rw [HS.out, HB.out] at own3
    exact H2.addFile hn own3 turn3 ((HF1.out.only (((Only.refl [] _).drew).then O2) (by simp) (fun _ _ hm => by cases hm))) h1 h2 hlen (by rw [← HS.out]; exact hs) hl hbig
end
end Go.Proofs.YtgnilldcfpgpaaaGreatDoor
