/-
  ints as values.
-/
import Derived.Test.YtmjkdfneohpbjaaOwnMore
namespace Go.Proofs.Ytmjkdfneohpbjaa
open Go.RowKit

def ivs (vs : List Int) : List Value := vs.map (Value.int .i64)
theorem ivs_get (vs : List Int) (k : Nat) (h : k < vs.length) : (ivs vs)[k]? = some (.int .i64 vs[k]) := by simp [ivs, h]
@[simp] theorem ivs_length (vs : List Int) : (ivs vs).length = vs.length := by simp [ivs]
theorem ivs_append (a b : List Int) : ivs (a ++ b) = ivs a ++ ivs b := by simp [ivs]
theorem ivs_one (l : List Int) : ∀ u ∈ ivs l, u.oneCell' = true := by
  intro u hu
  simp only [ivs, List.mem_map] at hu
  obtain ⟨b, _, rfl⟩ := hu
  rfl
def Fits (vs : List Int) : Prop := ∀ v ∈ vs, -9223372036854775808 ≤ v ∧ v ≤ 9223372036854775807
theorem Fits.at_ {vs : List Int} (h : Fits vs) (k : Nat) (hk : k < vs.length) : -9223372036854775808 ≤ vs[k] ∧ vs[k] ≤ 9223372036854775807 := h _ (List.getElem_mem hk)
/-- One int in a block of its own. -/
theorem sl_int (w : World) (t : TypeId) (E : Int) : Sl (w.alloc (.cells #[.int .i64 E] t)) (some ⟨w.heap.size, 0, none⟩) 1 (ivs [E]) := Sl.of_bk (Bk.new w t #[.int .i64 E])
end Go.Proofs.Ytmjkdfneohpbjaa
