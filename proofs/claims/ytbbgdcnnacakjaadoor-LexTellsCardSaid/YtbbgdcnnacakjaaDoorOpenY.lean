/-
  The arguments opened (lex): rows of bytes with their rooms, texts.
-/
import Derived.Test.YtbbgdcnnacakjaaDoorOpenR
import Derived.Test.YtbbgdcnnacakjaaDoorBt
import Derived.Deep.Strs
namespace Go.Proofs.YtbbgdcnnacakjaaDoor
open Go.ChangeShapes Go.WideShapes Go.ChangeAt Go.RowKit Go.Deep

theorem cellsStrT : Tryd.prog.cellsOf 9 = 1 := by kernel_rfl
theorem bytesStrT : Tryd.prog.bytesOf 9 = 16 := by kernel_rfl
def strs (ls : List ByteArray) : List Value := ls.map Value.string
@[simp] theorem strs_length (ls : List ByteArray) : (strs ls).length = ls.length := by simp [strs]
section
variable {H : Type} {enc : TypeId × Value → H} {W : World}
set_option maxRecDepth 100000 in
theorem open_texts {r : Reach} {b : Nat} {v : Value} {d : DataW H} {p : List MemPlace} (hv : Value.okWide Tryd.prog W r b 37 v) (h : DataW.Trod enc Tryd.prog W 0 (fun _ => true) true 37 v d p) :
    ∃ A n c ls, v = .slice A n c ∧ Sl W A n (strs ls) ∧ n ≤ c ∧ (A = none → c = 0) ∧ (∀ R, (∀ m ∈ DataW.weights Tryd.prog 37 d, m ≤ R) → n * 16 ≤ R ∧ ∀ s ∈ ls, s.size ≤ R) := by
  obtain ⟨A, n, c, rfl⟩ := okWide_slice Tryd.underlying37 hv
  obtain ⟨fuel, hf⟩ := h
  rcases open_strs Tryd.underlying37 Tryd.underlying9 cellsStrT hf with ⟨hcs, _⟩ | ⟨a, len, cap, m, Sx, hcs, _, hl, hm, hmm, hx, hr⟩
  · simp [Value.cells] at hcs
    obtain ⟨rfl, rfl, rfl⟩ := hcs
    exact ⟨none, 0, 0, [], rfl, Sl.none_, Nat.zero_le _, fun _ => rfl, fun R _ => ⟨Nat.zero_le _, fun _ h => (by cases h)⟩⟩
  · simp [Value.cells] at hcs
    obtain ⟨rfl, rfl, rfl⟩ := hcs
    simp only [if_true] at hmm
    subst hmm
    refine ⟨some a, n, m, (List.range n).map Sx, rfl, ⟨by simp [strs], fun _ => ⟨a, rfl, fun j u hu => ?_⟩⟩, hl, (fun h => by cases h), fun R hR => ?_⟩
    · have hj : j < n := by simpa [strs] using (List.getElem?_eq_some_iff.1 hu).1
      rw [(hr j (by omega)).1]
      simp [strs, hj] at hu
      rw [hu]
    · injection hx with hx _
      have hw : ∀ x, x ∈ DataW.weights Tryd.prog 37 d ↔ x ∈ ((((List.range n).map fun i => (DataW.lit (.string (Sx i).data.toList) : DataW H)).length + ((List.range (m - n)).map fun j => (DataW.lit (.string (Sx (n + j)).data.toList) : DataW H)).length) * Tryd.prog.bytesOf 9 :: (DataW.weightsAll Tryd.prog 9 ((List.range n).map fun i => (DataW.lit (.string (Sx i).data.toList) : DataW H)) ++ DataW.weightsAll Tryd.prog 9 ((List.range (m - n)).map fun j => (DataW.lit (.string (Sx (n + j)).data.toList) : DataW H)))) := by
        intro x
        rw [hx]
        simp only [DataW.weights, Tryd.underlying37]
      refine ⟨?_, fun s hs => ?_⟩
      · have := hR _ ((hw _).2 List.mem_cons_self)
        simp only [List.length_map, List.length_range, bytesStrT] at this
        omega
      · obtain ⟨i, hi, rfl⟩ := List.mem_map.1 hs
        have hi' := List.mem_range.1 hi
        have := hR (Sx i).data.toList.length ((hw _).2 (List.mem_cons_of_mem _ (List.mem_append_left _ (mem_weightsAll (d := .lit (.string (Sx i).data.toList)) (List.mem_map.2 ⟨i, List.mem_range.2 hi', rfl⟩) (by simp [DataW.weights])))))
        rwa [← Lib.size_eq] at this
set_option maxRecDepth 100000 in
theorem open_rowsb {r : Reach} {b : Nat} {v : Value} {d : DataW H} {p : List MemPlace} (hv : Value.okWide Tryd.prog W r b 22 v) (h : DataW.Trod enc Tryd.prog W 0 (fun _ => true) true 22 v d p) :
    ∃ A n c ls, v = .slice A n c ∧ Rb W A n ls ∧ n ≤ c ∧ c ≤ maxLen ∧ Weighs d c ∧ ∀ R, (∀ m ∈ DataW.weights Tryd.prog 22 d, m ≤ R) → ∀ l ∈ ls, l.length ≤ R := by
  obtain ⟨A, n, c, rfl⟩ := okWide_slice Tryd.underlying22 hv
  obtain ⟨fuel, hf⟩ := h
  rcases open_int_rows Tryd.underlying22 Tryd.underlying32 Tryd.underlying5 cellsBytes cellsByte hf with ⟨hcs, _⟩ | ⟨a, len, cap, B, L, C, Z, hcs, _, hl, hm, hx, hr⟩
  · simp [Value.cells] at hcs
    obtain ⟨rfl, rfl, rfl⟩ := hcs
    exact ⟨none, 0, 0, [], rfl, Rb.none_, Nat.zero_le _, Nat.zero_le _, fun R _ => Nat.zero_le _, fun _ _ _ h => (by cases h)⟩
  · simp [Value.cells] at hcs
    obtain ⟨rfl, rfl, rfl⟩ := hcs
    have hrow : ∀ i, i < n → Bt W (B i) (L i) (C i) (toBytes ((Z i).take (L i))) ∧ (toBytes ((Z i).take (L i))).length = L i := by
      intro i hi
      obtain ⟨_, h2, h3, h4, h5, h6, h7⟩ := hr i (by omega)
      refine ⟨⟨toBytes_sl h2 h4 h5 (fun hpos => ?_), h2, by unfold maxLen at h3; omega, h6⟩, by rw [toBytes_length, List.length_take]; omega⟩
      cases hB : B i with
      | none => have := h6 hB; omega
      | some ad => exact ⟨ad, rfl, fun j hj => (h7 ad hB).2 j hj⟩
    refine ⟨some a, n, c, (List.range n).map fun i => toBytes ((Z i).take (L i)), rfl, ⟨by simp, (List.range n).map fun i => .slice (B i) (L i) (C i), ⟨by simp, fun _ => ⟨a, rfl, fun j u hu => ?_⟩⟩, fun i l hi => ?_⟩, hl, hm, fun R hR => ?_, fun R hR l hl' => ?_⟩
    · have hj : j < n := by simpa using (List.getElem?_eq_some_iff.1 hu).1
      rw [(hr j (by omega)).1]
      simp [hj] at hu
      rw [hu]
    · have hi' : i < n := by simpa using (List.getElem?_eq_some_iff.1 hi).1
      simp [hi'] at hi
      subst hi
      obtain ⟨h1, h2⟩ := hrow i hi'
      refine ⟨B i, C i, ?_, ?_⟩
      · rw [h2]
        simp [hi']
      · rw [h2]
        exact h1
    · injection hx with hx _
      have := hR _ _ hx
      simp only [List.length_map, List.length_range] at this
      omega
    · simp only [List.mem_map, List.mem_range] at hl'
      obtain ⟨i, hi, rfl⟩ := hl'
      rw [(hrow i hi).2]
      obtain ⟨_, h2, _, h4, _, h6, _⟩ := hr i (by omega)
      injection hx with hx _
      cases hB : B i with
      | none => have := h6 hB; omega
      | some ad =>
        have hw : (L i + (C i - L i)) * 1 ∈ DataW.weights Tryd.prog 22 d := by
          rw [hx]
          simp only [DataW.weights, Tryd.underlying22]
          refine List.mem_cons_of_mem _ (List.mem_append_left _ (mem_weightsAll (d := intRow .u8 (B i) (L i) (Z i)) (List.mem_map_of_mem (List.mem_range.2 hi)) ?_))
          rw [hB]
          simp only [intRow, DataW.weights, Tryd.underlying32, lits, List.length_map, List.length_take, List.length_drop, bytesByte, h4]
          rw [Nat.min_eq_left h2]
          exact List.mem_cons_self
        have := hR _ hw
        omega
end
end Go.Proofs.YtbbgdcnnacakjaaDoor
