/-
  line's words: an object (the code's or the document's) that means a state; what its calls hand back.
-/
import Derived.Test.YtiekhgignmbaeaaChecked
import Derived.Test.YtiekhgignmbaeaaLMath
import Derived.Test.YtiekhgignmbaeaaGro
import Derived.Test.YtiekhgignmbaeaaRowsOf
namespace Go.Proofs.Ytiekhgignmbaeaa
open Go.RowKit

/-- The cells of line.Lines (false) and of the document's Lines (true). -/
def ltype : Bool → TypeId
  | false => 54
  | true => 29
def lcells (r : Bool) (v : Value) (drop want : Bool) (k : Int) : Array Value :=
  match r with
  | false => #[v, .bool drop, .bool want, .int .i64 k]
  | true => #[v, .bool want, .int .i64 k, .bool drop]

/-- At g lies an object that means s; its bytes lie in the blocks F. -/
def Ln (r : Bool) (w : World) (g : Nat) (F : List Nat) (s : LS) : Prop :=
  ∃ A c k, Bk w g (ltype r) (lcells r (.slice A s.b.length c) s.drop s.lit.isSome k) ∧ Gro w A s.b.length c (bvs s.b) ∧ (∀ m : Nat, s.lit = some m → k = (m : Int)) ∧ blks A = F ∧ g ∉ F ∧ s.b.length ≤ 4096
section
variable {r : Bool} {w w' : World} {g : Nat} {F rs : List Nat} {s : LS}
theorem Ln.lt (h : Ln r w g F s) : g < w.heap.size := by obtain ⟨_, _, _, h1, _⟩ := h; exact h1.lt
theorem Ln.flt (h : Ln r w g F s) : ∀ k ∈ F, k < w.heap.size := by obtain ⟨_, _, _, _, h1, _, rfl, _, _⟩ := h; exact h1.lt
theorem Ln.ne (h : Ln r w g F s) : g ∉ F := by obtain ⟨_, _, _, _, _, _, _, h1, _⟩ := h; exact h1
theorem Ln.only (h : Ln r w g F s) (o : Only rs w w') (hg : g ∉ rs) (hF : ∀ k ∈ F, k ∉ rs) : Ln r w' g F s := by
  obtain ⟨A, c, k, h1, h2, h3, rfl, h5, h6⟩ := h
  exact ⟨A, c, k, h1.only o hg, h2.only o hF, h3, rfl, h5, h6⟩
theorem Ln.keep (h : Ln r w g F s) (o : Only [] w w') : Ln r w' g F s := h.only o (fun hm => by cases hm) (fun _ _ hm => by cases hm)
theorem Ln.len (h : Ln r w g F s) : s.b.length ≤ 4096 := by obtain ⟨_, _, _, _, _, _, _, _, h1⟩ := h; exact h1
end

/-- Its bytes are others now. -/
theorem ln_stored {r : Bool} {w : World} {g : Nat} {v : Value} {A : Option Addr} {n c : Nat} {b : List UInt8} {d : Bool} {t : Option Nat} {k : Int} (hb : Bk w g (ltype r) (lcells r v d t.isSome k)) (hG : Gro w A n c (bvs b)) (hk : ∀ m : Nat, t = some m → k = (m : Int)) (hg : g ∉ blks A) (hl : n ≤ 4096) :
    Ln r (w.setCell ⟨g, 0, none⟩ (.slice A n c)) g (blks A) ⟨b, d, t⟩ := by
  have hn : b.length = n := by simpa using hG.len
  subst hn
  refine ⟨A, c, k, ?_, hG.only (rs := [g]) ((Only.refl _ _).setCell (.inl (by simp)) _) (fun x hx hm => by simp at hm; subst hm; exact hg hx), hk, rfl, hg, hl⟩
  have := hb.set 0 (.slice A b.length c)
  cases r
  · simpa [lcells] using this
  · simpa [lcells] using this

/-- A call that changed the object: it means s' now. -/
def Turned (r : Bool) (w : World) (g : Nat) (F : List Nat) (s' : LS) (v : Value) (e : Ending) (w' : World) : Prop :=
  ∃ F', e = .returned v ∧ Ln r w' g F' s' ∧ Only (g :: F) w w' ∧ ∀ k ∈ F', k ∈ F ∨ w.heap.size ≤ k
/-- What Next hands back: an event, its data in new memory. -/
def Spoke (r : Bool) (w : World) (g : Nat) (F : List Nat) (s' : LS) (x : Option Ev) (e : Ending) (w' : World) : Prop :=
  ∃ A c F', e = .returned (.tuple #[.agg #[.int .i64 (evKind x : Int), .slice A (evData x).length c], .bool x.isSome]) ∧ Sl w' A (evData x).length (bvs (evData x)) ∧ (∀ k ∈ blks A, w.heap.size ≤ k ∧ k < w'.heap.size) ∧
    Ln r w' g F' s' ∧ Only (g :: F) w w' ∧ ∀ k ∈ F', k ∈ F

end Go.Proofs.Ytiekhgignmbaeaa
