/-
  Texts as keys of maps.
-/
import Derived.Test.YtmjkdfneohpbjaaDMath
import Derived.Test.YtmjkdfneohpbjaaRows
import Derived.Test.YtmjkdfneohpbjaaAppend
import Derived.Maps.OwnSet
import Derived.Maps.RangeWalk
namespace Go.Proofs.Ytmjkdfneohpbjaa
open Go.RowKit Go.Maps

def keyLit (s : ByteArray) : Lit := .string s.data.toList
theorem keyed : Keyed Try.prog 9 := string_keyed Try.underlying9
theorem key_of (s : ByteArray) (h : s.size ≤ maxLen) : keyOf Try.prog 9 (.string s) = some (keyLit s) := WideMaps.keyOf_string_mk Try.underlying9 h
theorem same_key (a b : ByteArray) : (keyLit a).sameKey (keyLit b) = decide (a = b) := by
  rw [Bool.eq_iff_iff]
  simp only [keyLit, Lit.sameKey, beq_iff_eq, decide_eq_true_iff]
  exact ⟨name_ext, fun h => by rw [h]⟩
theorem before_key (a b : ByteArray) : (keyLit a).before (keyLit b) = bef a b := by rw [bef_eq]; rfl
theorem keyLit_inj {a b : ByteArray} (h : keyLit a = keyLit b) : a = b := name_ext (by unfold keyLit at h; injection h)
section
variable {w w' : World} {m : Nat}
theorem Only.of_turned (h : w.mapTurned w' m) : Only [m] w w' := by
  have := Only.of_grown h.grown
  simpa using this
end
end Go.Proofs.Ytmjkdfneohpbjaa
