/-
  disk's Truncate and Rename.
-/
import Derived.Test.YtmommkggjiillaaDoorDEach
namespace Go.Proofs.YtmommkggjiillaaDoor
open Go.RowKit Go.Maps

section
variable {S : St} {s : ByteArray} {n : Int}
theorem errT_err {r : Nat} (h : errF S s = r) (h0 : r ≠ 0) : errT S s n = r := by unfold errT; rw [h, if_pos h0]
theorem errT_bad (h : errF S s = 0) {f : Fl} (hg : get S.fs s = some f) (hn : n < 0 ∨ (f.data.length : Int) < n) : errT S s n = 1 := by unfold errT; rw [h, if_neg (by omega), hg]; simp [hn]
theorem errT_ok (h : errF S s = 0) {f : Fl} (hg : get S.fs s = some f) (hn : ¬ (n < 0 ∨ (f.data.length : Int) < n)) : errT S s n = 0 := by unfold errT; rw [h, if_neg (by omega), hg]; simp only [if_neg hn]
theorem truncS_same {r : Nat} (h : errT S s n = r) (h0 : r ≠ 0) : truncS S s n = S := by unfold truncS; rw [h, if_neg h0]
theorem truncS_ok (h : errT S s n = 0) : truncS S s n = tick { S with fs := upd S.fs s (cutF n.toNat) } := by unfold truncS; rw [h, if_pos rfl]
end

end Go.Proofs.YtmommkggjiillaaDoor
