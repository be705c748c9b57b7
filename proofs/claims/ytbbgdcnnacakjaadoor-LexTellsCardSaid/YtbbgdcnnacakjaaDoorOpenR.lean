/-
  Rows of bytes opened, beside what OpenH opens.
-/
import Derived.Test.YtbbgdcnnacakjaaDoorOpenH
import Derived.Test.YtbbgdcnnacakjaaDoorRowsOf
namespace Go.Proofs.YtbbgdcnnacakjaaDoor
open Go.ChangeShapes Go.WideShapes Go.ChangeAt Go.RowKit Go.Deep

theorem bytesByte : Tryd.prog.bytesOf 5 = 1 := by kernel_rfl
theorem bytesBytes : Tryd.prog.bytesOf 32 = 24 := by kernel_rfl
theorem cellsBytes : Tryd.prog.cellsOf 32 = 1 := by kernel_rfl
section
variable {H : Type} {enc : TypeId × Value → H} {W : World}
/-- A slice's length and capacity, as its datum's weight bounds them. -/
def Weighs (d : DataW H) (c : Nat) : Prop := ∀ R, (∀ e s, d = .slice e s → e.length + s.length ≤ R) → c ≤ R
theorem mem_weightsAll {P : Program} {e : TypeId} {d : DataW H} {m : Nat} : ∀ {l : List (DataW H)}, d ∈ l → m ∈ d.weights P e → m ∈ DataW.weightsAll P e l
  | x :: l, hd, hm => by
    simp only [DataW.weightsAll, List.mem_append]
    rcases List.mem_cons.1 hd with rfl | hd
    · exact .inl hm
    · exact .inr (mem_weightsAll hd hm)
set_option maxRecDepth 100000 in
theorem open_rows {r : Reach} {b : Nat} {v : Value} {d : DataW H} {p : List MemPlace} (hv : Value.okWide Tryd.prog W r b 22 v) (h : DataW.Trod enc Tryd.prog W 0 (fun _ => true) true 22 v d p) :
    ∃ A n c ls, v = .slice A n c ∧ Rw W A n ls ∧ n ≤ c ∧ Weighs d c ∧ ∀ R, (∀ m ∈ DataW.weights Tryd.prog 22 d, m ≤ R) → ∀ l ∈ ls, l.length ≤ R := by
  obtain ⟨A, n, c, rfl⟩ := okWide_slice Tryd.underlying22 hv
  obtain ⟨fuel, hf⟩ := h
  rcases open_int_rows Tryd.underlying22 Tryd.underlying32 Tryd.underlying5 cellsBytes cellsByte hf with ⟨hcs, _⟩ | ⟨a, len, cap, B, L, C, Z, hcs, _, hl, hm, hx, hr⟩
  · simp [Value.cells] at hcs
    obtain ⟨rfl, rfl, rfl⟩ := hcs
    exact ⟨none, 0, 0, [], rfl, Rw.none_, Nat.zero_le _, fun R _ => Nat.zero_le _, fun _ _ _ h => (by cases h)⟩
  · simp [Value.cells] at hcs
    obtain ⟨rfl, rfl, rfl⟩ := hcs
    have hrow : ∀ i, i < n → Sl W (B i) (L i) (bvs (toBytes ((Z i).take (L i)))) ∧ (toBytes ((Z i).take (L i))).length = L i := by
      intro i hi
      obtain ⟨_, h2, h3, h4, h5, h6, h7⟩ := hr i (by omega)
      refine ⟨toBytes_sl h2 h4 h5 (fun hpos => ?_), by rw [toBytes_length, List.length_take]; omega⟩
      cases hB : B i with
      | none => have := h6 hB; omega
      | some ad => exact ⟨ad, rfl, fun j hj => (h7 ad hB).2 j hj⟩
    refine ⟨some a, n, c, (List.range n).map fun i => toBytes ((Z i).take (L i)), rfl, ⟨by simp, (List.range n).map fun i => .slice (B i) (L i) (C i), ⟨by simp, fun _ => ⟨a, rfl, fun j u hu => ?_⟩⟩, fun i l hi => ?_⟩, hl, fun R hR => ?_, fun R hR l hl' => ?_⟩
    · have hj : j < n := by simpa using (List.getElem?_eq_some_iff.1 hu).1
      rw [(hr j (by omega)).1]
      simp [hj] at hu
      rw [hu]
    · have hi' : i < n := by simpa using (List.getElem?_eq_some_iff.1 hi).1
      simp [hi'] at hi
      subst hi
      obtain ⟨h1, h2⟩ := hrow i hi'
      refine ⟨B i, C i, ?_, ?_⟩
      · rw [h2]
        simp [hi']
      · rw [h2]
        exact h1
    · injection hx with hx _
      have := hR _ _ hx
      simp only [List.length_map, List.length_range] at this
      omega
    · simp only [List.mem_map, List.mem_range] at hl'
      obtain ⟨i, hi, rfl⟩ := hl'
      rw [(hrow i hi).2]
      obtain ⟨_, h2, _, h4, _, h6, _⟩ := hr i (by omega)
      injection hx with hx _
      cases hB : B i with
      | none => have := h6 hB; omega
      | some ad =>
        have hw : (L i + (C i - L i)) * 1 ∈ DataW.weights Tryd.prog 22 d := by
          rw [hx]
          simp only [DataW.weights, Tryd.underlying22]
          refine List.mem_cons_of_mem _ (List.mem_append_left _ (mem_weightsAll (d := intRow .u8 (B i) (L i) (Z i)) (List.mem_map_of_mem (List.mem_range.2 hi)) ?_))
          rw [hB]
          simp only [intRow, DataW.weights, Tryd.underlying32, lits, List.length_map, List.length_take, List.length_drop, bytesByte, h4]
          rw [Nat.min_eq_left h2]
          exact List.mem_cons_self
        have := hR _ hw
        omega
end
end Go.Proofs.YtbbgdcnnacakjaaDoor
