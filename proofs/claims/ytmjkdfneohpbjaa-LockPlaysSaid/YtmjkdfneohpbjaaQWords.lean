/-
  Words for a Locks in memory: a struct of two maps; what a call has done to it.
-/
import Derived.Test.YtmjkdfneohpbjaaQKv
namespace Go.Proofs.Ytmjkdfneohpbjaa
open Go.RowKit Go.Maps

/-- Where it lies. -/
def fpL (g : Nat) (hb db : Option Nat) : List Nat := g :: (hb.toList ++ db.toList)
structure Lk (w : World) (g : Nat) (hb db : Option Nat) (l : List Hd) (ds : List Du) : Prop where
  bk : Bk w g 45 #[.map hb, .map db]
  hv : HvIs w hb l
  iv : IvIs w db ds
  nd : (fpL g hb db).Nodup
/-- The Locks in block g, all of it in the blocks F, means: who has what, who is due when. -/
def Lock (w : World) (g : Nat) (F : List Nat) (l : List Hd) (ds : List Du) : Prop := ∃ hb db, Lk w g hb db l ds ∧ F = fpL g hb db
section
variable {w w' : World} {g : Nat} {hb db : Option Nat} {l : List Hd} {ds : List Du} {rs F : List Nat}
theorem Lk.lt (h : Lk w g hb db l ds) : ∀ k ∈ fpL g hb db, k < w.heap.size := by
  intro k hk
  unfold fpL at hk
  rcases List.mem_cons.1 hk with rfl | hk
  · exact h.bk.lt
  · rcases List.mem_append.1 hk with hk | hk
    · cases hb with
      | none => cases hk
      | some m => simp at hk; subst hk; exact KvAt.lt h.hv
    · cases db with
      | none => cases hk
      | some m => simp at hk; subst hk; exact IvAt.lt h.iv
theorem Lk.only (h : Lk w g hb db l ds) (o : Only rs w w') (hn : ∀ k ∈ fpL g hb db, k ∉ rs) : Lk w' g hb db l ds :=
  ⟨h.bk.only o (hn g (by simp [fpL])), KvIs.only h.hv o (fun m e => hn m (by simp [fpL, e])), h.iv.only o (fun m e => hn m (by simp [fpL, e])), h.nd⟩
theorem Lk.keep (h : Lk w g hb db l ds) (o : Only [] w w') : Lk w' g hb db l ds := h.only o (fun _ _ hm => nomatch hm)
theorem Lock.only (h : Lock w g F l ds) (o : Only rs w w') (hn : ∀ k ∈ F, k ∉ rs) : Lock w' g F l ds := by
  obtain ⟨hb, db, h, rfl⟩ := h
  exact ⟨hb, db, h.only o hn, rfl⟩
theorem Lock.keep (h : Lock w g F l ds) (o : Only [] w w') : Lock w' g F l ds := h.only o (fun _ _ hm => nomatch hm)
theorem Lock.lt (h : Lock w g F l ds) : ∀ k ∈ F, k < w.heap.size := by
  obtain ⟨hb, db, h, rfl⟩ := h
  exact h.lt
theorem Lock.g_mem (h : Lock w g F l ds) : g ∈ F := by
  obtain ⟨hb, db, h, rfl⟩ := h
  simp [fpL]
end
/-- A call has answered v; the Locks means what is told; of what was there it alone has turned. -/
def Lkd (w : World) (g : Nat) (F : List Nat) (v : Value) (l : List Hd) (ds : List Du) (e : Ending) (w' : World) : Prop :=
  e = .returned v ∧ ∃ F', Lock w' g F' l ds ∧ Only F w w' ∧ ∀ k ∈ F', k ∈ F ∨ w.heap.size ≤ k

/-- Take's answer, and what is there behind it. -/
def takeB (l : List Hd) (u : ByteArray) (c : Int) : Bool := match holdL l u with
  | some d => decide (d = c)
  | none => true
def takeL (l : List Hd) (u : ByteArray) (c : Int) : List Hd := match holdL l u with
  | some _ => l
  | none => putL Prod.fst (u, c) l
def freeL (l : List Hd) (c : Int) : List Hd := l.filter fun p => !decide (p.2 = c)
/-- All that are due. -/
def dueL (ds : List Du) (now : Int) : List Int := (ds.filter fun p => decide (p.2 ≤ now)).map Prod.fst
theorem length_takeL (l : List Hd) (u : ByteArray) (c : Int) : (takeL l u c).length ≤ l.length + 1 := by
  unfold takeL
  split
  · omega
  · exact length_putL
theorem length_freeL (l : List Hd) (c : Int) : (freeL l c).length ≤ l.length := List.length_filter_le _ _
theorem length_delI (l : List Du) (k : Int) : (delI l k).length ≤ l.length := List.length_filter_le _ _
theorem length_insI (x : Du) : ∀ l : List Du, (insI x l).length = l.length + 1
  | [] => rfl
  | g :: r => by
    unfold insI
    split
    · rfl
    · rw [List.length_cons, length_insI x r, List.length_cons]
theorem length_putI (x : Du) (l : List Du) : (putI x l).length ≤ l.length + 1 := by
  unfold putI
  rw [length_insI]
  have := length_delI l x.1
  omega
theorem length_dueL (ds : List Du) (now : Int) : (dueL ds now).length ≤ ds.length := by
  unfold dueL
  rw [List.length_map]
  exact List.length_filter_le _ _
end Go.Proofs.Ytmjkdfneohpbjaa
