/-
  The document's Low and Same.
-/
import Derived.Test.YtakehogenioobaaDoorHLeaf
import Derived.Lib.ConvBytes
namespace Go.Proofs.YtakehogenioobaaDoor
open Go.RowKit Go.Instr

/-- Cells that read as bytes, and may be written. -/
def Cg (w : World) (g : Nat) (l : List UInt8) : Prop := ∀ j (h : j < l.length), w.cell? ⟨g, j, none⟩ = some (bv l[j]) ∧ w.frozen? ⟨g, j, none⟩ = false
theorem Cg.set {w : World} {g : Nat} {l : List UInt8} (h : Cg w g l) {k : Nat} (hk : k < l.length) (y : UInt8) : Cg (w.setCell ⟨g, k, none⟩ (bv y)) g (l.set k y) := by
  intro j hj
  rw [List.length_set] at hj
  refine ⟨?_, by rw [World.frozen?_setCell]; exact (h j hj).2⟩
  by_cases e : k = j
  · subst e
    rw [List.getElem_set_self]
    exact World.cell?_setCell_same' _ _ _ (by rw [(h k hk).1]; rfl)
  · rw [List.getElem_set_ne e]
    rw [World.cell?_setCell_other _ _ _ _ (by intro h2; cases h2; exact e rfl)]
    exact (h j hj).1
theorem Cg.sl {w : World} {g : Nat} {l : List UInt8} (h : Cg w g l) : Sl w (some ⟨g, 0, none⟩) l.length (bvs l) :=
  ⟨by simp, fun _ => ⟨_, rfl, fun j u hu => by
    have hj : j < l.length := by have := (List.getElem?_eq_some_iff.1 hu).1; simpa using this
    rw [bvs_get l j hj] at hu
    rw [add_none, Nat.zero_add, (h j hj).1, hu]⟩⟩
/-- '[]byte(s)' of a text. -/
theorem conv_bytes (s : ByteArray) (w : World) : ∃ w' c, (convert 9 24 (.string s)).run Tryd.prog w = .ok (.slice (some ⟨w.heap.size, 0, none⟩) s.size c) w' ∧ Cg w' w.heap.size s.data.toList ∧ Only [] w w' := by
  refine ⟨_, _, Lib.run_convert_string_bytes (P := Tryd.prog) w 9 24 5 s Tryd.underlying9 Tryd.underlying24 Tryd.underlying5, ?_, ?_⟩
  · intro j hj
    have hj' : j < s.size := by simpa using hj
    refine ⟨?_, ?_⟩
    · rw [Lib.bytesWorld_cell w 5 s j hj', List.getD_eq_getElem?_getD, List.getElem?_eq_getElem hj]
      rfl
    · have hn := Lib.bytesWorld_at_new w 5 s
      have hsz : s.size ≤ (Lib.bytesCells w 5 s).size := by simp [Lib.bytesCells]
      unfold World.frozen?
      rw [hn]
      simp
      omega
  · exact ⟨rfl, rfl, rfl, by rw [Lib.bytesWorld_size]; omega, fun k hk _ => Lib.bytesWorld_at_old w _ s k hk⟩

def lowK (l : List UInt8) (k : Nat) : List UInt8 := (l.take k).map low ++ l.drop k
theorem lowK_len (l : List UInt8) (k : Nat) : (lowK l k).length = l.length := by unfold lowK; simp; omega
theorem lowK_at {l : List UInt8} {k : Nat} (h : k < l.length) (h' : k < (lowK l k).length) : (lowK l k)[k] = l[k] := by
  have e : (lowK l k)[k]? = l[k]? := by
    unfold lowK
    rw [List.getElem?_append_right (by simp; omega), show k - ((l.take k).map low).length = 0 by simp; omega, List.getElem?_drop]
    simp
  rw [List.getElem?_eq_getElem h', List.getElem?_eq_getElem h] at e
  exact Option.some.inj e
theorem lowK_set {l : List UInt8} {k : Nat} (h : k < l.length) : (lowK l k).set k (low l[k]) = lowK l (k + 1) := by
  unfold lowK
  rw [List.set_append_right _ _ (by simp; omega), List.take_succ_eq_append_getElem h, List.map_append, List.append_assoc]
  congr 1
  rw [List.drop_eq_getElem_cons h, show k - ((l.take k).map low).length = 0 by simp; omega]
  rfl
theorem lowK_same {l : List UInt8} {k : Nat} (h : k < l.length) (hx : low l[k] = l[k]) : lowK l (k + 1) = lowK l k := by
  rw [← lowK_set h, hx]
  have h' : k < (lowK l k).length := by rw [lowK_len]; exact h
  conv => lhs; rw [← lowK_at h h']
  exact List.set_getElem_self h'
theorem lowK_all (l : List UInt8) {k : Nat} (h : l.length ≤ k) : lowK l k = lows l := by
  unfold lowK
  rw [List.take_of_length_le h, List.drop_of_length_le h]
  simp [lows]

end Go.Proofs.YtakehogenioobaaDoor
