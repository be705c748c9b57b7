/-
  The arguments opened (mark): numbers, texts, slices of texts.
-/
import Derived.Test.YtamekbpmbmggoaaDoorFrameH
import Derived.Test.YtamekbpmbmggoaaDoorAParse
import Derived.ChangeMaps5
import Derived.Deep.Strs
import Derived.SizedLaws
namespace Go.Proofs.YtamekbpmbmggoaaDoor
open Go.ChangeShapes Go.WideShapes Go.ChangeAt Go.RowKit Go.Deep

theorem bytesStr : Tryd.prog.bytesOf 9 = 16 := by kernel_rfl
section
variable {H : Type} {enc : TypeId × Value → H} {W : World}
theorem mem_weightsAll {P : Program} {e : TypeId} {d : DataW H} {m : Nat} : ∀ {l : List (DataW H)}, d ∈ l → m ∈ d.weights P e → m ∈ DataW.weightsAll P e l
  | x :: l, hd, hm => by
    simp only [DataW.weightsAll, List.mem_append]
    rcases List.mem_cons.1 hd with rfl | hd
    · exact .inl hm
    · exact .inr (mem_weightsAll hd hm)
set_option maxRecDepth 100000 in
theorem open_texts {r : Reach} {b : Nat} {v : Value} {d : DataW H} {p : List MemPlace} (hv : Value.okWide Tryd.prog W r b 22 v) (h : DataW.Trod enc Tryd.prog W 0 (fun _ => true) true 22 v d p) :
    ∃ A n c ls, v = .slice A n c ∧ Sl W A n (strs ls) ∧ n ≤ c ∧ (A = none → c = 0) ∧ (∀ R, (∀ m ∈ DataW.weights Tryd.prog 22 d, m ≤ R) → n * 16 ≤ R ∧ ∀ s ∈ ls, s.size ≤ R) := by
  obtain ⟨A, n, c, rfl⟩ := okWide_slice Tryd.underlying22 hv
  obtain ⟨fuel, hf⟩ := h
  rcases open_strs Tryd.underlying22 Tryd.underlying9 cellsStr hf with ⟨hcs, _⟩ | ⟨a, len, cap, m, Sx, hcs, _, hl, hm, hmm, hx, hr⟩
  · simp [Value.cells] at hcs
    obtain ⟨rfl, rfl, rfl⟩ := hcs
    exact ⟨none, 0, 0, [], rfl, Sl.none_, Nat.zero_le _, fun _ => rfl, fun R _ => ⟨Nat.zero_le _, fun _ h => (by cases h)⟩⟩
  · simp [Value.cells] at hcs
    obtain ⟨rfl, rfl, rfl⟩ := hcs
    simp only [if_true] at hmm
    subst hmm
    refine ⟨some a, n, m, (List.range n).map Sx, rfl, ⟨by simp [strs], fun _ => ⟨a, rfl, fun j u hu => ?_⟩⟩, hl, (fun h => by cases h), fun R hR => ?_⟩
    · have hj : j < n := by simpa [strs] using (List.getElem?_eq_some_iff.1 hu).1
      rw [(hr j (by omega)).1]
      simp [strs, hj] at hu
      rw [hu]
    · injection hx with hx _
      have hw : ∀ x, x ∈ DataW.weights Tryd.prog 22 d ↔ x ∈ ((((List.range n).map fun i => (DataW.lit (.string (Sx i).data.toList) : DataW H)).length + ((List.range (m - n)).map fun j => (DataW.lit (.string (Sx (n + j)).data.toList) : DataW H)).length) * Tryd.prog.bytesOf 9 :: (DataW.weightsAll Tryd.prog 9 ((List.range n).map fun i => (DataW.lit (.string (Sx i).data.toList) : DataW H)) ++ DataW.weightsAll Tryd.prog 9 ((List.range (m - n)).map fun j => (DataW.lit (.string (Sx (n + j)).data.toList) : DataW H)))) := by
        intro x
        rw [hx]
        simp only [DataW.weights, Tryd.underlying22]
      refine ⟨?_, fun s hs => ?_⟩
      · have := hR _ ((hw _).2 List.mem_cons_self)
        simp only [List.length_map, List.length_range, bytesStr] at this
        omega
      · obtain ⟨i, hi, rfl⟩ := List.mem_map.1 hs
        have hi' := List.mem_range.1 hi
        have := hR (Sx i).data.toList.length ((hw _).2 (List.mem_cons_of_mem _ (List.mem_append_left _ (mem_weightsAll (d := .lit (.string (Sx i).data.toList)) (List.mem_map.2 ⟨i, List.mem_range.2 hi', rfl⟩) (by simp [DataW.weights])))))
        rwa [← Lib.size_eq] at this
set_option maxRecDepth 100000 in
theorem open_num {r : Reach} {b : Nat} {v : Value} {d : DataW H} {p : List MemPlace} (hv : Value.okWide Tryd.prog W r b 3 v) (h : DataW.Trod enc Tryd.prog W 0 (fun _ => true) true 3 v d p) :
    ∃ x : Int, v = .int .i64 x ∧ -9223372036854775808 ≤ x ∧ x ≤ 9223372036854775807 := by
  obtain ⟨x, rfl, _, _, wx⟩ := open_int Tryd.underlying3 hv h
  exact ⟨x, rfl, (int_bounds wx).1, (int_bounds wx).2⟩
set_option maxRecDepth 100000 in
theorem open_text {r : Reach} {b : Nat} {v : Value} {d : DataW H} {p : List MemPlace} (hv : Value.okWide Tryd.prog W r b 9 v) (h : DataW.Trod enc Tryd.prog W 0 (fun _ => true) true 9 v d p) :
    ∃ s : ByteArray, v = .string s ∧ d = .lit (.string s.data.toList) ∧ s.size ≤ maxLen := by
  obtain ⟨s, rfl, rfl, _, hs⟩ := ChangeMaps.open_string Tryd.underlying9 hv h
  exact ⟨s, rfl, rfl, hs⟩
end

/-- There is an input that fits: the witness of a row whose listed variables hold slices (the world's shape in one pass). -/
theorem witness_zip {H : Type} {enc : TypeId × Value → H} {C : Checked} {os : Os} {f : FuncId} {fn : Func} {s : OpenSpec} {conds : List PathCond} {apart : Bool} {laid : List (String × DataW Unit)} (modest : Bool) (w0 : World) (args : Array Value) (hos : w0.os = os)
    (hv : (w0.forCall (fun _ _ => 0) ⟨#[], args, []⟩).variablesZipB C.prog = true)
    (hr : ((w0.forCall (fun _ _ => 0) ⟨#[], args, []⟩).heap.toList.drop C.prog.globals.size).take ((begin C.prog (fun _ _ => 0) default).world.heap.size - C.prog.globals.size) =
      (begin C.prog (fun _ _ => 0) default).world.heap.toList.drop C.prog.globals.size)
    (hok : Input.okWideB C.prog (w0.forCall (fun _ _ => 0) ⟨#[], args, []⟩) f ⟨#[], args, []⟩ = true)
    (hrow : s.preRow enc C.prog fn conds apart laid (w0.forCall (fun _ _ => 0) ⟨#[], args, []⟩).memory args) :
    ∃ (w : World) (tape : Tape) (i : Input), w.os = os ∧ (w.forCall tape i).Shaped C.prog ∧ i.vars = [] ∧ Input.okWide C.prog (w.forCall tape i) .any w.heap.size f i ∧
      s.preRow enc C.prog fn conds apart laid (w.forCall tape i).memory i.args ∧ ({ modest := modest } : Assume).holds C.prog (lone (Frame.enter C.prog f i.args .normal) [] (w.forCall tape i)) :=
  ⟨w0, fun _ _ => 0, ⟨#[], args, []⟩, hos, World.shaped_of_ZipB hv hr, (Input.okWide_of_okWideB (base := 0) hok).1, (Input.okWide_of_okWideB hok).2, hrow, by
    simp only [Assume.holds]
    exact ⟨by simp, by simp, fun _ => Modest.zero, by simp, by simp⟩⟩
end Go.Proofs.YtamekbpmbmggoaaDoor
