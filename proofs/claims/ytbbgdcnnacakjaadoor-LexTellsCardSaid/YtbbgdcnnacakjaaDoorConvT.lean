/-
  Texts laid as bytes that may be appended to; sums of texts.
-/
import Derived.Test.YtbbgdcnnacakjaaDoorBt
import Derived.Test.YtbbgdcnnacakjaaDoorStr
import Derived.Test.YtbbgdcnnacakjaaDoorGro
import Derived.Test.YtbbgdcnnacakjaaDoorRowsOf
import Derived.Lib.ConvBytes
import Derived.Lib.SlBytesConst
namespace Go.Proofs.YtbbgdcnnacakjaaDoor
open Go.RowKit Go.Instr

/-- The bytes of a text, laid anew: they may be appended to. -/
theorem conv_gro (s : ByteArray) (hs : s.size ≤ 1048576) (w : World) : ∃ w' c, (convert 9 32 (.string s)).run Tryd.prog w = .ok (.slice (some ⟨w.heap.size, 0, none⟩) s.size c) w' ∧ Gro w' (some ⟨w.heap.size, 0, none⟩) s.size c (bvs s.data.toList) ∧ Only [] w w' := by
  have hge := grownCap_ge w s.size 0 5
  have hmx := grownCap_le_maxLen w s.size 0 5 (by unfold maxLen; omega)
  have hnew := Lib.bytesWorld_at_new w 5 s
  have hsz : (Lib.bytesCells w 5 s).size = grownCap w s.size 0 5 := by
    unfold Lib.bytesCells
    rw [Array.size_append, Array.size_map, Array.size_replicate]
    have : s.data.size = s.size := rfl
    omega
  refine ⟨_, _, Lib.run_convert_string_bytes (P := Tryd.prog) w 9 32 5 s Tryd.underlying9 Tryd.underlying32 Tryd.underlying5, ?_, ?_⟩
  · refine ⟨by simp, hge, hmx, fun k hk => ?_, fun _ => ⟨w.heap.size, 0, rfl, fun j u hu => ?_, fun j hj => ⟨?_, ?_⟩⟩⟩
    · simp at hk
      subst hk
      rw [Lib.bytesWorld_size]
      omega
    · have hj : j < s.data.toList.length := by
        have := (List.getElem?_eq_some_iff.1 hu).1
        rwa [bvs_length] at this
      rw [bvs_get _ j hj] at hu
      rw [Nat.zero_add, Lib.bytesWorld_cell w 5 s j (by simpa using hj), List.getD_eq_getElem?_getD, List.getElem?_eq_getElem hj, ← hu]
      rfl
    · rw [Nat.zero_add]
      simp only [World.cell?, hnew]
      rw [Array.getElem?_eq_getElem (by omega)]
      rfl
    · rw [Nat.zero_add]
      simp only [World.frozen?, hnew, hsz]
      simp
      omega
  · exact ⟨rfl, rfl, rfl, by rw [Lib.bytesWorld_size]; omega, fun k hk _ => Lib.bytesWorld_at_old w _ s k hk⟩
theorem Gro.bt {w : World} {A : Option Addr} {n c : Nat} {l : List UInt8} (h : Gro w A n c (bvs l)) : Bt w A n c l :=
  ⟨h.sl, h.cap, by have := h.max; unfold maxLen at this; omega, fun e => by
    rcases Nat.eq_zero_or_pos c with h0 | h0
    · exact h0
    · obtain ⟨g, o, e2, _⟩ := h.at_ h0
      rw [e] at e2
      cases e2⟩
/-- A sum of two texts, as an equation for every world. -/
theorem add_eq (a b : ByteArray) (h : a.size + b.size ≤ 1048576) : ∃ c : ByteArray, c.data.toList = a.data.toList ++ b.data.toList ∧ c.size = a.size + b.size ∧ ∀ W, (Op.stringOp .add a b).run Tryd.prog W = .ok (.string c) W :=
  ⟨a ++ b, by rw [ByteArray.data_append, Array.toList_append], by simp [ByteArray.size_append], fun W => run_string_add_sum (P := Tryd.prog) (w := W) a b (by omega)⟩
/-- '[]byte("..")' of a constant text: it may be appended to. -/
theorem gro_const (w : World) (C : Array Value) (l : List UInt8) (n : Nat) (fr : Nat × Nat) (hC : C.toList = bvs l) (hn : C.size = n) (hfr : n ≤ fr.1) (hm : n ≤ maxLen) : Gro (w.alloc (.cells C 5 fr)) (some ⟨w.heap.size, 0, none⟩) n n (bvs l) := by
  have hl : (bvs l).length = n := by rw [← hC, ← hn]; simp
  refine ⟨hl, Nat.le_refl _, hm, fun k hk => by simp at hk; subst hk; simp, fun _ => ⟨w.heap.size, 0, rfl, fun j u hu => ?_, fun j hj => ⟨?_, ?_⟩⟩⟩
  · rw [Nat.zero_add, World.cell?_alloc_mark]
    rw [← hC] at hu
    simpa using hu
  · rw [Nat.zero_add, World.cell?_alloc_mark, Array.getElem?_eq_getElem (by omega)]
    rfl
  · rw [Nat.zero_add]
    have h0 := heap_alloc_new w (.cells C 5 fr)
    unfold World.frozen?
    rw [h0]
    simp
    omega

end Go.Proofs.YtbbgdcnnacakjaaDoor
