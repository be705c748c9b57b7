/-
  The walks of held, of wave's Fourths and the reference's.
-/
import Derived.Test.YthaodlegpjedoaaWPoly
import Derived.Test.YthaodlegpjedoaaRows
import Derived.StillTailTactics
namespace Go.Proofs.Ythaodlegpjedoaa
open Go.RowKit

theorem infoInt' : (Try.prog.info? 3).map (fun i => (i.zero, i.size, i.bytes)) = some (some (.int .i64 0), 1, 8) := by kernel_rfl

/-- The law's numbers, held. -/
def heldL (l : List Int) : List Int := l.map (fun x => x.tmod 1048576)
theorem tmod_bd (y : Int) : -1048576 < y.tmod 1048576 ∧ y.tmod 1048576 < 1048576 := by
  rcases Int.le_total 0 y with h | h
  · rw [Int.tmod_eq_emod_of_nonneg h]
    omega
  · have e : y = -(-y) := by omega
    rw [e, Int.neg_tmod, Int.tmod_eq_emod_of_nonneg (by omega)]
    omega
@[simp] theorem heldL_length (l : List Int) : (heldL l).length = l.length := by simp [heldL]
theorem heldL_small (l : List Int) : ∀ x ∈ heldL l, -1048576 < x ∧ x < 1048576 := by
  intro x hx
  simp only [heldL, List.mem_map] at hx
  obtain ⟨y, _, rfl⟩ := hx
  exact tmod_bd y
theorem heldL_take {l : List Int} {k : Nat} (h : k < l.length) : heldL (l.take (k + 1)) = heldL (l.take k) ++ [(l.getD k 0).tmod 1048576] := by
  unfold heldL
  rw [List.take_succ_eq_append_getElem h, List.map_append]
  congr 1
  simp [List.getD, h]

/-- A new row of ints. -/
def Ints (w : World) (n : Nat) (l : List Int) (e : Ending) (w' : World) : Prop :=
  ∃ A c, e = .returned (.slice A n c) ∧ Own w' 3 A n c (ivs l) ∧ Only [] w w' ∧ ∀ x ∈ blks A, w.heap.size ≤ x

/-- The sum of the numbers whose place is r, modulo 4. -/
def fr (l : List Int) (r : Nat) : Nat → Int
  | 0 => 0
  | k + 1 => if k % 4 = r then fr l r k + l.getD k 0 else fr l r k
def frs (l : List Int) (k : Nat) : Array Value := #[.int .i64 (fr l 0 k), .int .i64 (fr l 1 k), .int .i64 (fr l 2 k), .int .i64 (fr l 3 k)]
theorem getD_small {l : List Int} (h : ∀ x ∈ l, -1048576 < x ∧ x < 1048576) (k : Nat) : -1048576 < l.getD k 0 ∧ l.getD k 0 < 1048576 := by
  by_cases hk : k < l.length
  · rw [show l.getD k 0 = l[k] by simp [List.getD, hk]]
    exact h _ (List.getElem_mem hk)
  · rw [List.getD_eq_getElem?_getD, List.getElem?_eq_none (by omega)]
    simp
theorem fr_bd {l : List Int} (h : ∀ x ∈ l, -1048576 < x ∧ x < 1048576) (r : Nat) : ∀ k : Nat, -((k : Int) * 1048576) ≤ fr l r k ∧ fr l r k ≤ (k : Int) * 1048576
  | 0 => by simp [fr]
  | k + 1 => by
    have h1 := fr_bd h r k
    have h2 := getD_small h k
    simp only [fr]
    split <;> omega
theorem frs_at (l : List Int) (k : Nat) {r : Nat} (h : r < 4) : (frs l k)[r]? = some (.int .i64 (fr l r k)) := by
  rcases (show r = 0 ∨ r = 1 ∨ r = 2 ∨ r = 3 by omega) with rfl | rfl | rfl | rfl <;> rfl
theorem frs_set (l : List Int) (k : Nat) {r : Nat} (h : k % 4 = r) : (frs l k).setIfInBounds r (.int .i64 (fr l r k + l.getD k 0)) = frs l (k + 1) := by
  rcases (show r = 0 ∨ r = 1 ∨ r = 2 ∨ r = 3 by omega) with rfl | rfl | rfl | rfl <;> simp [frs, fr, h]

end Go.Proofs.Ythaodlegpjedoaa
