/-
  Words for a disk in memory: a struct of five cells, a map of pointers, a block of two cells and a row of bytes for each file.
-/
import Derived.Test.YtblggoneifmoeaaDoorDMath
import Derived.Test.YtblggoneifmoeaaDoorRowsOf
import Derived.Test.YtblggoneifmoeaaDoorOwnMore
import Derived.Maps.OwnSet
import Derived.Maps.RangeWalk
namespace Go.Proofs.YtblggoneifmoeaaDoor
open Go.RowKit Go.Maps

/-- A file as it lies: what it is, its block, its row. -/
structure Fc where
  f : Fl
  blk : Nat
  A : Option Addr
  cap : Nat

/-- How a pointer to a block's head reads. -/
def ptrElem (v : Value) : Option (DataW Unit × List MemPlace) :=
  match v with
  | .pointer none => some (.nil, [])
  | .pointer (some ⟨b, 0, none⟩) => some (.lit (.int .i64 b), [])
  | _ => none
theorem ptrElem_nil : ptrElem (.pointer none) = some (.nil, []) := rfl
theorem ptrElem_some (b : Nat) : ptrElem (.pointer (some ⟨b, 0, none⟩)) = some (.lit (.int .i64 b), []) := rfl
theorem ptrElem_nil_inv {v : Value} {ps : List MemPlace} (h : ptrElem v = some (.nil, ps)) : v = .pointer none := by
  unfold ptrElem at h
  split at h <;> simp_all
theorem ptrElem_some_inv {v : Value} {ps : List MemPlace} {b : Nat} (h : ptrElem v = some (.lit (.int .i64 b), ps)) : v = .pointer (some ⟨b, 0, none⟩) := by
  unfold ptrElem at h
  split at h
  · simp at h
  · rename_i b'
    simp only [Option.some.injEq, Prod.mk.injEq, DataW.lit.injEq, Lit.int.injEq, true_and] at h
    have : b' = b := by omega
    rw [this]
  · cases h
theorem ptrElem_inv {v : Value} {y : DataW Unit × List MemPlace} (h : ptrElem v = some y) : ∃ b : Option Nat, v = .pointer (b.map fun b => ⟨b, 0, none⟩) := by
  unfold ptrElem at h
  split at h
  · exact ⟨none, rfl⟩
  · rename_i b'
    exact ⟨some b', rfl⟩
  · cases h

/-! ### The map's datum -/
def keyLit (s : ByteArray) : Lit := .string s.data.toList
def ent (c : Fc) : Lit × DataW Unit := (keyLit c.f.name, .lit (.int .i64 c.blk))
def Dm (cs : List Fc) : DataW Unit := .map (cs.map ent)
def findC (cs : List Fc) (s : ByteArray) : Option Fc := cs.find? fun c => decide (c.f.name = s)
def delC (cs : List Fc) (s : ByteArray) : List Fc := cs.filter fun c => !decide (c.f.name = s)
def insC (c : Fc) : List Fc → List Fc
  | [] => [c]
  | g :: r => if bef c.f.name g.f.name then c :: g :: r else g :: insC c r
theorem keyed : Keyed Tryd.prog 9 := string_keyed Tryd.underlying9
theorem key_of (s : ByteArray) (h : s.size ≤ maxLen) : keyOf Tryd.prog 9 (.string s) = some (keyLit s) := WideMaps.keyOf_string_mk Tryd.underlying9 h
theorem same_key (a b : ByteArray) : (keyLit a).sameKey (keyLit b) = decide (a = b) := by
  rw [Bool.eq_iff_iff]
  simp only [keyLit, Lit.sameKey, beq_iff_eq, decide_eq_true_iff]
  exact ⟨name_ext, fun h => by rw [h]⟩
theorem before_key (a b : ByteArray) : (keyLit a).before (keyLit b) = bef a b := by rw [bef_eq]; rfl
theorem keyLit_inj {a b : ByteArray} (h : keyLit a = keyLit b) : a = b := name_ext (by unfold keyLit at h; injection h)
theorem map_findC (cs : List Fc) (s : ByteArray) : (findC cs s).map (·.f) = get (cs.map (·.f)) s := by
  unfold findC get
  rw [List.find?_map]
  rfl
theorem map_delC (cs : List Fc) (s : ByteArray) : (delC cs s).map (·.f) = del (cs.map (·.f)) s := by
  unfold delC del
  rw [List.filter_map]
  rfl
theorem map_insC (c : Fc) : ∀ cs : List Fc, (insC c cs).map (·.f) = ins c.f (cs.map (·.f))
  | [] => rfl
  | g :: r => by
    unfold insC ins
    simp only [List.map_cons]
    split
    · rfl
    · rw [List.map_cons, map_insC c r]
theorem findC_some {cs : List Fc} {s : ByteArray} {c : Fc} (h : findC cs s = some c) : c ∈ cs ∧ c.f.name = s := ⟨List.mem_of_find?_eq_some h, by have := List.find?_some h; simpa using this⟩
theorem findC_none {cs : List Fc} {s : ByteArray} : findC cs s = none ↔ ∀ c ∈ cs, c.f.name ≠ s := by unfold findC; simp
theorem atKey_dm (cs : List Fc) (s : ByteArray) (z : DataW Unit) : (Dm cs).atKey (keyLit s) z = match findC cs s with | some c => .lit (.int .i64 c.blk) | none => z := by
  unfold Dm DataW.atKey findC
  simp only []
  rw [List.find?_map]
  have : ((fun p : Lit × DataW Unit => p.1.sameKey (keyLit s)) ∘ ent) = fun c : Fc => decide (c.f.name = s) := by
    funext c
    exact same_key _ _
  rw [this]
  cases List.find? (fun c : Fc => decide (c.f.name = s)) cs <;> rfl
theorem size_dm (cs : List Fc) : Maps.size (Dm cs) = cs.length := by simp [Dm, Maps.size]
theorem keys_dm (cs : List Fc) : strKeys (Dm cs) = cs.map fun c => c.f.name.data.toList := by
  unfold Dm strKeys
  simp only [List.map_map]
  rfl
theorem del_dm (cs : List Fc) (s : ByteArray) : (Dm cs).del (keyLit s) = Dm (delC cs s) := by
  show DataW.map ((cs.map ent).filter fun p => !p.1.sameKey (keyLit s)) = DataW.map ((delC cs s).map ent)
  rw [List.filter_map]
  unfold delC
  congr 2
  congr 1
  funext c
  show (!(keyLit c.f.name).sameKey (keyLit s)) = _
  rw [same_key]
theorem insert_dm (c : Fc) : ∀ cs : List Fc, DataW.insert (ent c) (cs.map ent) = (insC c cs).map ent
  | [] => rfl
  | g :: r => by
    unfold insC
    simp only [List.map_cons]
    unfold DataW.insert
    have : (ent c).1.before (ent g).1 = bef c.f.name g.f.name := before_key _ _
    rw [this]
    split
    · rfl
    · rw [List.map_cons, insert_dm c r]
theorem put_dm (c : Fc) (cs : List Fc) (h : findC cs c.f.name = none) : (Dm cs).put (keyLit c.f.name) (.lit (.int .i64 c.blk)) = Dm (insC c cs) := by
  show DataW.map (DataW.insert (keyLit c.f.name, .lit (.int .i64 c.blk)) ((cs.map ent).filter fun p => !p.1.sameKey (keyLit c.f.name))) = _
  have hf : ((cs.map ent).filter fun p => !p.1.sameKey (keyLit c.f.name)) = cs.map ent := by
    rw [List.filter_eq_self]
    intro p hp
    obtain ⟨x, hx, rfl⟩ := List.mem_map.1 hp
    have hn := findC_none.1 h x hx
    show (!(keyLit x.f.name).sameKey (keyLit c.f.name)) = true
    rw [same_key]
    simp [hn]
  rw [hf]
  exact congrArg DataW.map (insert_dm c cs)
theorem mem_insC {c g : Fc} : ∀ {cs : List Fc}, g ∈ insC c cs ↔ g = c ∨ g ∈ cs
  | [] => by simp [insC]
  | h :: r => by
    unfold insC
    split
    · simp
    · simp only [List.mem_cons, mem_insC (cs := r)]
      constructor
      · rintro (h | h | h)
        · exact .inr (.inl h)
        · exact .inl h
        · exact .inr (.inr h)
      · rintro (h | h | h)
        · exact .inr (.inl h)
        · exact .inl h
        · exact .inr (.inr h)
theorem perm_insC (c : Fc) : ∀ cs : List Fc, (insC c cs).Perm (c :: cs)
  | [] => List.Perm.refl _
  | g :: r => by
    unfold insC
    split
    · exact List.Perm.refl _
    · exact ((perm_insC c r).cons g).trans (List.Perm.swap _ _ _)
theorem length_insC (c : Fc) (cs : List Fc) : (insC c cs).length = cs.length + 1 := (perm_insC c cs).length_eq

/-! ### A map in a world of which some blocks have turned; a row under a map's turn -/
section
variable {w w' : World} {m n : Nat} {D : DataW Unit} {R : Value → Option (DataW Unit × List MemPlace)} {P : Program} {k : TypeId} {rs : List Nat}
theorem map_only (h : w.ownsMap P k R m n D) (o : Only rs w w') (hn : m ∉ rs) : w'.ownsMap P k R m n D := by
  have hlt := h.lt
  obtain ⟨es, clock, hb, r⟩ := h
  exact ⟨es, clock, (o.block m hlt hn).trans hb, r⟩
theorem map_tight (h : w.ownsMap P k R m n D) : w.ownsMap P k R m (Maps.size D) D := by
  obtain ⟨es, clock, hb, F, _, hD⟩ := h
  refine ⟨es, clock, hb, F, ?_, hD⟩
  rw [hD]
  simp [Maps.size, length_sorted]
theorem map_ne {g : Nat} {t : TypeId} {cs : Array Value} (h : w.ownsMap P k R m n D) (hg : Bk w g t cs) : m ≠ g := by
  rintro rfl
  obtain ⟨es, clock, hb, _⟩ := h
  unfold Bk at hg
  rw [hb] at hg
  cases hg
theorem map_own {t : TypeId} {A : Option Addr} {j c : Nat} {xs : List Value} (h : w.ownsMap P k R m n D) (hg : Own w t A j c xs) : m ∉ blks A := by
  intro hm
  obtain ⟨cur, hc⟩ := hg.bk hm
  exact map_ne h hc rfl
theorem Only.of_turned (h : w.mapTurned w' m) : Only [m] w w' := by
  have := Only.of_grown h.grown
  simpa using this
end

/-! ### The disk -/
def MapIs (w : World) (mb : Option Nat) (cs : List Fc) : Prop :=
  match mb with
  | none => cs = []
  | some m => w.ownsMap Tryd.prog 9 ptrElem m cs.length (Dm cs)
def FileIs (w : World) (c : Fc) : Prop :=
  Bk w c.blk 64 #[.slice c.A c.f.data.length c.cap, .int .i64 c.f.lasts] ∧ Own w 5 c.A c.f.data.length c.cap (bvs c.f.data)
structure Dk (w : World) (d room u : Nat) (fz : Bool) (lf : Nat) (mb : Option Nat) (cs : List Fc) : Prop where
  bk : Bk w d 53 #[.int .i64 room, .int .i64 u, .map mb, .bool fz, .int .i64 lf]
  map : MapIs w mb cs
  file : ∀ c ∈ cs, FileIs w c
  good : Good (cs.map (·.f))
  nb : (cs.map (·.blk)).Nodup
  na : (cs.flatMap fun c => blks c.A).Nodup
  room' : room ≤ 1073741824
  u' : u ≤ 1073741824
  lf' : lf ≤ 9223372036854775807
  big : ∀ c ∈ cs, c.f.data.length ≤ 1073741824
/-- The blocks in which a disk lies. -/
def fpt (d : Nat) (mb : Option Nat) (cs : List Fc) : List Nat := d :: (mb.toList ++ (cs.map (·.blk) ++ cs.flatMap fun c => blks c.A))

section
variable {w w' w1 : World} {d room u lf : Nat} {fz : Bool} {mb : Option Nat} {cs p q : List Fc} {c : Fc} {rs : List Nat}
theorem mem_fpt {x : Nat} : x ∈ fpt d mb cs ↔ x = d ∨ mb = some x ∨ (∃ c ∈ cs, x = c.blk) ∨ ∃ c ∈ cs, x ∈ blks c.A := by
  unfold fpt
  simp only [List.mem_cons, List.mem_append, Option.mem_toList, List.mem_map, List.mem_flatMap]
  constructor
  · rintro (h | h | ⟨c, h, e⟩ | h)
    · exact .inl h
    · exact .inr (.inl h)
    · exact .inr (.inr (.inl ⟨c, h, e.symm⟩))
    · exact .inr (.inr (.inr h))
  · rintro (h | h | ⟨c, h, e⟩ | h)
    · exact .inl h
    · exact .inr (.inl h)
    · exact .inr (.inr (.inl ⟨c, h, e.symm⟩))
    · exact .inr (.inr (.inr h))
theorem FileIs.only (h : FileIs w c) (o : Only rs w w') (h1 : c.blk ∉ rs) (h2 : ∀ x ∈ blks c.A, x ∉ rs) : FileIs w' c := ⟨h.1.only o h1, h.2.only o h2⟩
theorem MapIs.only (h : MapIs w mb cs) (o : Only rs w w') (h1 : ∀ m, mb = some m → m ∉ rs) : MapIs w' mb cs := by
  cases mb with
  | none => exact h
  | some m => exact map_only h o (h1 m rfl)
theorem Dk.only (h : Dk w d room u fz lf mb cs) (o : Only rs w w') (hd : ∀ x ∈ fpt d mb cs, x ∉ rs) : Dk w' d room u fz lf mb cs :=
  { h with
    bk := h.bk.only o (hd _ (mem_fpt.2 (.inl rfl)))
    map := h.map.only o fun _ e => hd _ (mem_fpt.2 (.inr (.inl e)))
    file := fun c hc => (h.file c hc).only o (hd _ (mem_fpt.2 (.inr (.inr (.inl ⟨c, hc, rfl⟩))))) fun _ hx => hd _ (mem_fpt.2 (.inr (.inr (.inr ⟨c, hc, hx⟩)))) }
theorem Dk.keep (h : Dk w d room u fz lf mb cs) (o : Only [] w w') : Dk w' d room u fz lf mb cs := h.only o fun _ _ hm => by cases hm
theorem Dk.lt (h : Dk w d room u fz lf mb cs) {x : Nat} (hx : x ∈ fpt d mb cs) : x < w.heap.size := by
  rcases mem_fpt.1 hx with rfl | rfl | ⟨c, hc, rfl⟩ | ⟨c, hc, hx⟩
  · exact h.bk.lt
  · exact World.ownsMap.lt h.map
  · exact (h.file c hc).1.lt
  · exact (h.file c hc).2.lt hx
/-- The disk's own block, apart from all else. -/
theorem Dk.d_blk (h : Dk w d room u fz lf mb cs) (hc : c ∈ cs) : c.blk ≠ d := (h.file c hc).1.ne h.bk (by decide)
theorem Dk.d_row (h : Dk w d room u fz lf mb cs) (hc : c ∈ cs) : d ∉ blks c.A := (h.file c hc).2.ne h.bk (by decide)
theorem Dk.d_map (h : Dk w d room u fz lf mb cs) {m : Nat} (e : mb = some m) : m ≠ d := by subst e; exact map_ne h.map h.bk
theorem Dk.m_blk (h : Dk w d room u fz lf mb cs) {m : Nat} (e : mb = some m) (hc : c ∈ cs) : c.blk ≠ m := by subst e; exact (map_ne h.map (h.file c hc).1).symm
theorem Dk.m_row (h : Dk w d room u fz lf mb cs) {m : Nat} (e : mb = some m) (hc : c ∈ cs) : m ∉ blks c.A := by subst e; exact map_own h.map (h.file c hc).2
theorem Dk.blk_row (h : Dk w d room u fz lf mb cs) {c' : Fc} (hc : c ∈ cs) (hc' : c' ∈ cs) : c.blk ∉ blks c'.A := (h.file c' hc').2.ne (h.file c hc).1 (by decide)
theorem Dk.cell (h : Dk w d room u fz lf mb cs) : w.cell? ⟨d, 0, none⟩ = some (.int .i64 room) ∧ w.cell? ⟨d, 1, none⟩ = some (.int .i64 u) ∧ w.cell? ⟨d, 2, none⟩ = some (.map mb) ∧ w.cell? ⟨d, 3, none⟩ = some (.bool fz) ∧ w.cell? ⟨d, 4, none⟩ = some (.int .i64 lf) :=
  ⟨h.bk.cell 0, h.bk.cell 1, h.bk.cell 2, h.bk.cell 3, h.bk.cell 4⟩
theorem Dk.fcell (h : Dk w d room u fz lf mb cs) (hc : c ∈ cs) : w.cell? ⟨c.blk, 0, none⟩ = some (.slice c.A c.f.data.length c.cap) ∧ w.cell? ⟨c.blk, 1, none⟩ = some (.int .i64 c.f.lasts) := ⟨(h.file c hc).1.cell 0, (h.file c hc).1.cell 1⟩
theorem Dk.lasts (h : Dk w d room u fz lf mb cs) (hc : c ∈ cs) : c.f.lasts ≤ c.f.data.length := h.good.lasts _ (List.mem_map_of_mem hc)

/-- A store into the disk's own block. -/
theorem Dk.setD (h : Dk w d room u fz lf mb cs) (i : Nat) (v : Value) {room' u' lf' : Nat} {fz' : Bool} {mb' : Option Nat}
    (hs : (#[.int .i64 room, .int .i64 u, .map mb, .bool fz, .int .i64 lf] : Array Value).setIfInBounds i v = #[.int .i64 room', .int .i64 u', .map mb', .bool fz', .int .i64 lf'])
    (hm : MapIs w mb' cs) (h1 : room' ≤ 1073741824) (h2 : u' ≤ 1073741824) (h3 : lf' ≤ 9223372036854775807) : Dk (w.setCell ⟨d, i, none⟩ v) d room' u' fz' lf' mb' cs := by
  have o : Only [d] w (w.setCell ⟨d, i, none⟩ v) := (Only.refl _ _).setCell (.inl (by simp)) v
  refine { h with bk := by have := h.bk.set i v; rwa [hs] at this, map := hm.only o fun m e hx => ?_, file := fun c hc => (h.file c hc).only o (by simpa using h.d_blk hc) fun x hx hm => ?_, room' := h1, u' := h2, lf' := h3 }
  · simp only [List.mem_singleton] at hx
    subst hx e
    exact map_ne hm h.bk rfl
  · simp only [List.mem_singleton] at hm
    subst hm
    exact h.d_row hc hx
theorem Dk.setUsed (h : Dk w d room u fz lf mb cs) (u' : Nat) (h2 : u' ≤ 1073741824) : Dk (w.setCell ⟨d, 1, none⟩ (.int .i64 u')) d room u' fz lf mb cs :=
  h.setD 1 _ rfl h.map h.room' h2 h.lf'
theorem Dk.setFused (h : Dk w d room u fz lf mb cs) (b : Bool) : Dk (w.setCell ⟨d, 3, none⟩ (.bool b)) d room u b lf mb cs :=
  h.setD 3 _ rfl h.map h.room' h.u' h.lf'
theorem Dk.setLeft (h : Dk w d room u fz lf mb cs) (k : Nat) (h2 : k ≤ 9223372036854775807) : Dk (w.setCell ⟨d, 4, none⟩ (.int .i64 k)) d room u fz k mb cs :=
  h.setD 4 _ rfl h.map h.room' h.u' h2

theorem good_swap (h : Good ((p ++ c :: q).map (·.f))) {g : Fl} (hn : g.name = c.f.name) (hl : g.lasts ≤ g.data.length) : Good ((p.map (·.f)) ++ g :: q.map (·.f)) := by
  rw [List.map_append, List.map_cons] at h
  refine ⟨?_, by have := h.len; simpa using this, fun f hf => ?_, fun f hf => ?_⟩
  · have hr := h.rise
    rw [List.pairwise_append, List.pairwise_cons] at hr ⊢
    obtain ⟨h1, ⟨h2, h3⟩, h4⟩ := hr
    refine ⟨h1, ⟨fun x hx => by rw [hn]; exact h2 x hx, h3⟩, fun x hx y hy => ?_⟩
    rcases List.mem_cons.1 hy with rfl | hy
    · rw [hn]; exact h4 x hx _ (by simp)
    · exact h4 x hx y (by simp [hy])
  · rcases List.mem_append.1 hf with hf | hf
    · exact h.names f (by simp [hf])
    · rcases List.mem_cons.1 hf with rfl | hf
      · rw [hn]; exact h.names c.f (by simp)
      · exact h.names f (by simp [hf])
  · rcases List.mem_append.1 hf with hf | hf
    · exact h.lasts f (by simp [hf])
    · rcases List.mem_cons.1 hf with rfl | hf
      · exact hl
      · exact h.lasts f (by simp [hf])
theorem flatMap_sub {α β : Type} {l l' : List α} (h : l.Sublist l') (g : α → List β) : (l.flatMap g).Sublist (l'.flatMap g) := by
  induction h with
  | slnil => exact List.Sublist.refl _
  | cons a _ ih => rw [List.flatMap_cons]; exact ih.trans (List.sublist_append_right _ _)
  | cons_cons a _ ih => rw [List.flatMap_cons, List.flatMap_cons]; exact List.Sublist.append (List.Sublist.refl _) ih
theorem nodup_mid {α : Type} {a b m m' : List α} (h : (a ++ (m ++ b)).Nodup) (h' : m'.Nodup) (hn : ∀ x ∈ m', x ∈ m ∨ (x ∉ a ∧ x ∉ b)) : (a ++ (m' ++ b)).Nodup := by
  rw [List.nodup_append, List.nodup_append] at *
  obtain ⟨h1, ⟨h2, h3, h4⟩, h5⟩ := h
  refine ⟨h1, ⟨h', h3, fun x hx y hy e => ?_⟩, fun x hx y hy e => ?_⟩
  · subst e
    rcases hn x hx with h | h
    · exact h4 x h x hy rfl
    · exact h.2 hy
  · subst e
    rcases List.mem_append.1 hy with hy | hy
    · rcases hn x hy with h | h
      · exact h5 x hx x (by simp [h]) rfl
      · exact h.1 hx
    · exact h5 x hx x (by simp [hy]) rfl
theorem Own.nodup {w : World} {t : TypeId} {A : Option Addr} {n c : Nat} {xs : List Value} (_ : Own w t A n c xs) : (blks A).Nodup := by cases A <;> simp

/-- A file gets another row of bytes: what went before may have turned the old row alone. -/
theorem Dk.setData (h : Dk w d room u fz lf mb (p ++ c :: q)) (o : Only (blks c.A) w w1) {A' : Option Addr} {cap' : Nat} {data' : List UInt8} (hv : Own w1 5 A' data'.length cap' (bvs data'))
    (hb : ∀ x ∈ blks A', x ∈ blks c.A ∨ w.heap.size ≤ x) (hl : c.f.lasts ≤ data'.length) (hbig : data'.length ≤ 1073741824) :
    Dk (w1.setCell ⟨c.blk, 0, none⟩ (.slice A' data'.length cap')) d room u fz lf mb (p ++ { f := { c.f with data := data' }, blk := c.blk, A := A', cap := cap' } :: q) := by
  have hc : c ∈ p ++ c :: q := by simp
  have o2 : Only (c.blk :: blks c.A) w (w1.setCell ⟨c.blk, 0, none⟩ (.slice A' data'.length cap')) := (o.mono fun x hx => .inl (by simp [hx])).setCell (.inl (by simp)) _
  have hbk1 := (h.file c hc).1.only o (h.blk_row hc hc)
  have hother : ∀ c' ∈ p ++ q, FileIs (w1.setCell ⟨c.blk, 0, none⟩ (.slice A' data'.length cap')) c' := by
    intro c' hc'
    have hm : c' ∈ p ++ c :: q := by
      rcases List.mem_append.1 hc' with h1 | h1 <;> simp [h1]
    have hnb : c'.blk ≠ c.blk := by
      have := h.nb
      rw [List.map_append, List.map_cons] at this
      have hp := (List.perm_middle.nodup_iff).1 this
      rw [List.nodup_cons] at hp
      intro e
      apply hp.1
      rw [← List.map_append, ← e]
      exact List.mem_map_of_mem hc'
    have hna : ∀ x ∈ blks c'.A, x ∉ blks c.A := by
      have := h.na
      rw [List.flatMap_append, List.flatMap_cons] at this
      rw [List.nodup_append, List.nodup_append] at this
      obtain ⟨_, ⟨_, _, h4⟩, h5⟩ := this
      intro x hx hx'
      rcases List.mem_append.1 hc' with h1 | h1
      · exact h5 x (List.mem_flatMap.2 ⟨c', h1, hx⟩) x (by simp [hx']) rfl
      · exact h4 x hx' x (List.mem_flatMap.2 ⟨c', h1, hx⟩) rfl
    refine (h.file c' hm).only o2 (fun hx => ?_) fun x hx hm' => ?_
    · rcases List.mem_cons.1 hx with e | hx
      · exact hnb e
      · exact h.blk_row hm hc hx
    · rcases List.mem_cons.1 hm' with rfl | hm'
      · exact h.blk_row hc hm hx
      · exact hna x hx hm'
  refine { bk := h.bk.only o2 (fun hx => ?_), map := ?_, file := fun c' hc' => ?_, good := ?_, nb := ?_, na := ?_, room' := h.room', u' := h.u', lf' := h.lf', big := fun c' hc' => ?_ }
  · rcases List.mem_cons.1 hx with e | hx
    · exact h.d_blk hc e.symm
    · exact h.d_row hc hx
  · have hm := h.map.only o2 fun m e hx => by
      rcases List.mem_cons.1 hx with e' | hx
      · exact h.m_blk e hc e'.symm
      · exact h.m_row e hc hx
    cases mb with
    | none => simp [MapIs] at hm
    | some m =>
      unfold MapIs at hm ⊢
      simp only [] at hm ⊢
      have e : Dm (p ++ c :: q) = Dm (p ++ { f := { c.f with data := data' }, blk := c.blk, A := A', cap := cap' } :: q) := by simp [Dm, ent]
      rw [← e]
      simpa using hm
  · rcases List.mem_append.1 hc' with h1 | h1
    · exact hother c' (by simp [h1])
    · rcases List.mem_cons.1 h1 with rfl | h1
      · refine ⟨by have := hbk1.set 0 (.slice A' data'.length cap'); simpa using this, hv.setFar (fun hx => ?_) _⟩
        rcases hb _ hx with hx | hx
        · exact h.blk_row hc hc hx
        · exact Nat.not_lt.2 hx (h.file c hc).1.lt
      · exact hother c' (by simp [h1])
  · have := good_swap h.good (g := { c.f with data := data' }) rfl hl
    simpa using this
  · have := h.nb
    simpa using this
  · have hna := h.na
    simp only [List.flatMap_append, List.flatMap_cons] at hna ⊢
    refine nodup_mid hna hv.nodup fun x hx => ?_
    rcases hb x hx with h1 | h1
    · exact .inl h1
    · refine .inr ⟨fun hm => ?_, fun hm => ?_⟩
      · obtain ⟨c', hc', hx'⟩ := List.mem_flatMap.1 hm
        have := (h.file c' (by simp [hc'])).2.lt hx'
        omega
      · obtain ⟨c', hc', hx'⟩ := List.mem_flatMap.1 hm
        have := (h.file c' (by simp [hc'])).2.lt hx'
        omega
  · rcases List.mem_append.1 hc' with h1 | h1
    · exact h.big c' (by simp [h1])
    · rcases List.mem_cons.1 h1 with rfl | h1
      · exact hbig
      · exact h.big c' (by simp [h1])

/-- Another number of a file's bytes last. -/
theorem Dk.setLasts (h : Dk w d room u fz lf mb (p ++ c :: q)) (n : Nat) (hl : n ≤ c.f.data.length) :
    Dk (w.setCell ⟨c.blk, 1, none⟩ (.int .i64 n)) d room u fz lf mb (p ++ { f := { c.f with lasts := n }, blk := c.blk, A := c.A, cap := c.cap } :: q) := by
  have hc : c ∈ p ++ c :: q := by simp
  have o2 : Only [c.blk] w (w.setCell ⟨c.blk, 1, none⟩ (.int .i64 n)) := (Only.refl _ _).setCell (.inl (by simp)) _
  have hother : ∀ c' ∈ p ++ q, FileIs (w.setCell ⟨c.blk, 1, none⟩ (.int .i64 n)) c' := by
    intro c' hc'
    have hm : c' ∈ p ++ c :: q := by
      rcases List.mem_append.1 hc' with h1 | h1 <;> simp [h1]
    have hnb : c'.blk ≠ c.blk := by
      have := h.nb
      rw [List.map_append, List.map_cons] at this
      have hp := (List.perm_middle.nodup_iff).1 this
      rw [List.nodup_cons] at hp
      intro e
      apply hp.1
      rw [← List.map_append, ← e]
      exact List.mem_map_of_mem hc'
    refine (h.file c' hm).only o2 (by simpa using hnb) fun x hx hm' => ?_
    simp only [List.mem_singleton] at hm'
    subst hm'
    exact h.blk_row hc hm hx
  refine { bk := h.bk.only o2 (by simpa using (h.d_blk hc).symm), map := ?_, file := fun c' hc' => ?_, good := ?_, nb := ?_, na := ?_, room' := h.room', u' := h.u', lf' := h.lf', big := fun c' hc' => ?_ }
  · have hm := h.map.only o2 fun m e hx => by
      simp only [List.mem_singleton] at hx
      exact h.m_blk e hc hx.symm
    cases mb with
    | none => simp [MapIs] at hm
    | some m =>
      unfold MapIs at hm ⊢
      simp only [] at hm ⊢
      have e : Dm (p ++ c :: q) = Dm (p ++ { f := { c.f with lasts := n }, blk := c.blk, A := c.A, cap := c.cap } :: q) := by simp [Dm, ent]
      rw [← e]
      simpa using hm
  · rcases List.mem_append.1 hc' with h1 | h1
    · exact hother c' (by simp [h1])
    · rcases List.mem_cons.1 h1 with rfl | h1
      · exact ⟨by have := (h.file c hc).1.set 1 (.int .i64 n); simpa using this, (h.file c hc).2.setFar (fun hx => h.blk_row hc hc hx) _⟩
      · exact hother c' (by simp [h1])
  · have := good_swap h.good (g := { c.f with lasts := n }) rfl hl
    simpa using this
  · have := h.nb
    simpa using this
  · have := h.na
    simpa using this
  · rcases List.mem_append.1 hc' with h1 | h1
    · exact h.big c' (by simp [h1])
    · rcases List.mem_cons.1 h1 with rfl | h1
      · exact h.big c hc
      · exact h.big c' (by simp [h1])

/-- A file is gone from the map. -/
theorem Dk.dropFile {m : Nat} (h : Dk w d room u fz lf (some m) cs) (s : ByteArray) (ho : w'.ownsMap Tryd.prog 9 ptrElem m cs.length ((Dm cs).del (keyLit s))) (ht : w.mapTurned w' m) : Dk w' d room u fz lf (some m) (delC cs s) := by
  have o := Only.of_turned ht
  have hsub : ∀ c ∈ delC cs s, c ∈ cs := fun c hc => (List.mem_filter.1 hc).1
  refine { bk := h.bk.only o (by simpa using (h.d_map rfl).symm), map := ?_, file := fun c hc => (h.file c (hsub c hc)).only o (by simpa using h.m_blk rfl (hsub c hc)) (fun x hx hm => ?_), good := ?_, nb := ?_, na := ?_, room' := h.room', u' := h.u', lf' := h.lf', big := fun c hc => h.big c (hsub c hc) }
  · rw [del_dm] at ho
    have := map_tight ho
    rw [size_dm] at this
    exact this
  · simp only [List.mem_singleton] at hm
    subst hm
    exact h.m_row rfl (hsub c hc) hx
  · rw [map_delC]
    have g := h.good
    exact ⟨g.rise.filter _, Nat.le_trans (List.length_filter_le _ _) g.len, fun f hf => g.names f (mem_del.1 hf).1, fun f hf => g.lasts f (mem_del.1 hf).1⟩
  · exact h.nb.sublist (List.filter_sublist.map _)
  · exact h.na.sublist (flatMap_sub List.filter_sublist _)

/-- A file comes in. -/
theorem Dk.addFile {m : Nat} (h : Dk w d room u fz lf (some m) cs) (hn : findC cs c.f.name = none) (ho : w'.ownsMap Tryd.prog 9 ptrElem m (cs.length + 1) ((Dm cs).put (keyLit c.f.name) (.lit (.int .i64 c.blk)))) (ht : w.mapTurned w' m)
    (hf : FileIs w c) (h1 : c.blk ∉ cs.map (·.blk)) (h2 : ∀ x ∈ blks c.A, x ∉ cs.flatMap fun c => blks c.A) (hlen : cs.length < 4096) (hs : c.f.name.size ≤ 64) (hl : c.f.lasts ≤ c.f.data.length) (hbig : c.f.data.length ≤ 1073741824) :
    Dk w' d room u fz lf (some m) (insC c cs) := by
  have o := Only.of_turned ht
  have hfile : ∀ x : Fc, FileIs w x → FileIs w' x := fun x hx => hx.only o (by simpa using (map_ne h.map hx.1).symm) fun y hy hm => by
    simp only [List.mem_singleton] at hm
    subst hm
    exact map_own h.map hx.2 hy
  refine { bk := h.bk.only o (by simpa using (h.d_map rfl).symm), map := ?_, file := fun x hx => ?_, good := ?_, nb := ?_, na := ?_, room' := h.room', u' := h.u', lf' := h.lf', big := fun x hx => ?_ }
  · rw [put_dm c cs hn] at ho
    have := map_tight ho
    rw [size_dm] at this
    exact this
  · rcases mem_insC.1 hx with rfl | hx
    · exact hfile x hf
    · exact hfile x (h.file x hx)
  · rw [map_insC]
    have g := h.good
    refine ⟨rise_ins g.rise fun x hx => ?_, ?_, fun x hx => ?_, fun x hx => ?_⟩
    · obtain ⟨y, hy, rfl⟩ := List.mem_map.1 hx
      exact findC_none.1 hn y hy
    · rw [length_ins, List.length_map]; omega
    · rcases mem_ins.1 hx with rfl | hx
      · exact hs
      · exact g.names x hx
    · rcases mem_ins.1 hx with rfl | hx
      · exact hl
      · exact g.lasts x hx
  · have hp := (perm_insC c cs).map (·.blk)
    rw [hp.nodup_iff, List.map_cons, List.nodup_cons]
    exact ⟨h1, h.nb⟩
  · have hp := (perm_insC c cs).flatMap_right fun c => blks c.A
    rw [hp.nodup_iff, List.flatMap_cons, List.nodup_append]
    exact ⟨hf.2.nodup, h.na, fun x hx y hy e => h2 x hx (e ▸ hy)⟩
  · rcases mem_insC.1 hx with rfl | hx
    · exact hbig
    · exact h.big x hx
end

/-! ### A disk as its callers see it -/
def Disk (w : World) (d : Nat) (F : List Nat) (S : St) : Prop :=
  ∃ lf mb cs, Dk w d S.room (used S.fs) S.fuse.isSome lf mb cs ∧ cs.map (·.f) = S.fs ∧ (∀ k, S.fuse = some k → lf = k) ∧ used S.fs ≤ S.room ∧ F = fpt d mb cs
section
variable {w w' : World} {d : Nat} {F rs : List Nat} {S : St}
theorem Disk.only (h : Disk w d F S) (o : Only rs w w') (hd : ∀ x ∈ F, x ∉ rs) : Disk w' d F S := by
  obtain ⟨lf, mb, cs, hk, h1, h2, h3, rfl⟩ := h
  exact ⟨lf, mb, cs, hk.only o hd, h1, h2, h3, rfl⟩
theorem Disk.keep (h : Disk w d F S) (o : Only [] w w') : Disk w' d F S := h.only o fun _ _ hm => by cases hm
theorem Disk.lt (h : Disk w d F S) {x : Nat} (hx : x ∈ F) : x < w.heap.size := by
  obtain ⟨lf, mb, cs, hk, h1, h2, h3, rfl⟩ := h
  exact hk.lt hx
theorem Disk.good (h : Disk w d F S) : Good S.fs ∧ S.room ≤ 1073741824 ∧ used S.fs ≤ S.room := by
  obtain ⟨lf, mb, cs, hk, h1, h2, h3, rfl⟩ := h
  exact ⟨h1 ▸ hk.good, hk.room', h3⟩
theorem Disk.d_mem (h : Disk w d F S) : d ∈ F := by
  obtain ⟨lf, mb, cs, hk, h1, h2, h3, rfl⟩ := h
  exact mem_fpt.2 (.inl rfl)
end
/-- The call has left the disk with S', answered v, and turned nothing but the disk. -/
def Did (d : Nat) (F : List Nat) (S' : St) (v : Value) (w : World) (e : Ending) (w' : World) : Prop :=
  e = .returned v ∧ ∃ F', Disk w' d F' S' ∧ Only F w w' ∧ ∀ x ∈ F', x ∈ F ∨ w.heap.size ≤ x
end Go.Proofs.YtblggoneifmoeaaDoor
