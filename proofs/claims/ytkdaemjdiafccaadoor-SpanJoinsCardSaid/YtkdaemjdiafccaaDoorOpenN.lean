/-
  The arguments opened (span): numbers, texts, slices of ranges.
-/
import Derived.Test.YtkdaemjdiafccaaDoorFrameH
import Derived.Test.YtkdaemjdiafccaaDoorNKnown
import Derived.ChangeMaps5
import Derived.SizedLaws
import Derived.Deep.Slices
import Derived.Deep.Fields
import Derived.ChangeSame
namespace Go.Proofs.YtkdaemjdiafccaaDoor
open Go.ChangeShapes Go.WideShapes Go.ChangeAt Go.RowKit Go.Deep

theorem oneRg : ∃ f0 f1, Tryd.prog.underlying 35 = some (.struct #[f0, f1]) ∧ f0.type = 3 ∧ f1.type = 3 ∧ oneCellFields Tryd.prog #[f0, f1] = true := ⟨_, _, Tryd.underlying35, rfl, rfl, by kernel_rfl⟩
theorem cellsRg : Tryd.prog.cellsOf 35 = 2 := by kernel_rfl
section
variable {H : Type} {enc : TypeId × Value → H} {W : World}
set_option maxRecDepth 100000 in
/-- One range read. -/
theorem rg_read {fuel i : Nat} {ad : Addr} {cs : List Value} {D : DataW H} {Pl : List MemPlace} (hc : W.cells? 0 (ad.add (i * 2)) 2 = some cs) (h : DataW.trod enc Tryd.prog W 0 (fun _ => true) true fuel 35 cs = some (D, Pl)) :
    ∃ r : Rg, W.cell? (ad.add (i * 2)) = some (.int .i64 r.1) ∧ W.cell? (nxt (ad.add (i * 2))) = some (.int .i64 r.2) := by
  obtain ⟨f0, f1, hu, t0, t1, hone⟩ := oneRg
  obtain ⟨ys, n', _, hy, hlen, hyl, hf⟩ := DataW.trod_struct hu h
  obtain ⟨_, hcl, hat⟩ := World.cells?_some hc
  obtain ⟨o0, k0⟩ := hone_of hone 0 f0 rfl
  obtain ⟨o1, k1⟩ := hone_of hone 1 f1 rfl
  match cs, hcl with
  | [v0, v1], _ =>
    have h0 := hf 0 f0 rfl
    have h1 := hf 1 f1 rfl
    rw [o0, k0, t0] at h0
    rw [o1, k1, t1] at h1
    match ys, hyl with
    | [y0, y1], _ =>
      obtain ⟨z0, e0, _, _⟩ := DataW.trod_int Tryd.underlying3 (show DataW.trod enc Tryd.prog W 0 (fun _ => true) true n' 3 [v0] = some y0 from h0)
      obtain ⟨z1, e1, _, _⟩ := DataW.trod_int Tryd.underlying3 (show DataW.trod enc Tryd.prog W 0 (fun _ => true) true n' 3 [v1] = some y1 from h1)
      simp only [List.cons.injEq, and_true] at e0 e1
      subst e0 e1
      have c0 := hat 0 (by omega)
      have c1 := hat 1 (by omega)
      rw [add_zero] at c0
      refine ⟨(z0, z1), c0, ?_⟩
      have e : (ad.add (i * 2)).add 1 = nxt (ad.add (i * 2)) := by simp [Addr.add, nxt]
      rw [e] at c1
      exact c1
set_option maxRecDepth 100000 in
theorem open_rgs {r : Reach} {b : Nat} {v : Value} {d : DataW H} {p : List MemPlace} (hv : Value.okWide Tryd.prog W r b 22 v) (h : DataW.Trod enc Tryd.prog W 0 (fun _ => true) true 22 v d p) :
    ∃ A n c l, v = .slice A n c ∧ Rs W A n l ∧ n ≤ c ∧ c ≤ maxLen := by
  obtain ⟨A, n, c, rfl⟩ := okWide_slice Tryd.underlying22 hv
  obtain ⟨fuel, hf⟩ := h
  rcases open_slice Tryd.underlying22 hf with ⟨hcs, _⟩ | ⟨a, len, cap, m, n', D, Pl, hcs, _, hl, hm, hmm, hx, hi⟩
  · simp [Value.cells] at hcs
    obtain ⟨rfl, rfl, rfl⟩ := hcs
    exact ⟨none, 0, 0, [], rfl, Rs.nil _ _, Nat.zero_le _, Nat.zero_le _⟩
  · simp [Value.cells] at hcs
    obtain ⟨rfl, rfl, rfl⟩ := hcs
    simp only [if_true] at hmm
    subst hmm
    rw [cellsRg] at hi
    have key : ∀ i, i < n → ∃ x : Rg, W.cell? (a.add (i * 2)) = some (.int .i64 x.1) ∧ W.cell? (nxt (a.add (i * 2))) = some (.int .i64 x.2) := fun i hin => by
      obtain ⟨cs', h1, h2⟩ := hi i (by omega)
      exact rg_read h1 h2
    have pick : ∃ X : Nat → Rg, ∀ i, i < n → W.cell? (a.add (i * 2)) = some (.int .i64 (X i).1) ∧ W.cell? (nxt (a.add (i * 2))) = some (.int .i64 (X i).2) :=
      ⟨fun i => if h : i < n then (key i h).choose else (0, 0), fun i h => by simp only [dif_pos h]; exact (key i h).choose_spec⟩
    obtain ⟨X, hX⟩ := pick
    refine ⟨some a, n, m, (List.range n).map X, rfl, ⟨by simp, fun _ => ⟨a, rfl, fun i x hi' => ?_⟩⟩, hl, hm⟩
    have hin : i < n := by simpa using (List.getElem?_eq_some_iff.1 hi').1
    simp [hin] at hi'
    subst hi'
    exact hX i hin
set_option maxRecDepth 100000 in
theorem open_num {r : Reach} {b : Nat} {v : Value} {d : DataW H} {p : List MemPlace} (hv : Value.okWide Tryd.prog W r b 3 v) (h : DataW.Trod enc Tryd.prog W 0 (fun _ => true) true 3 v d p) :
    ∃ x : Int, v = .int .i64 x ∧ -9223372036854775808 ≤ x ∧ x ≤ 9223372036854775807 := by
  obtain ⟨x, rfl, _, _, wx⟩ := open_int Tryd.underlying3 hv h
  exact ⟨x, rfl, (int_bounds wx).1, (int_bounds wx).2⟩
set_option maxRecDepth 100000 in
theorem open_text {r : Reach} {b : Nat} {v : Value} {d : DataW H} {p : List MemPlace} (hv : Value.okWide Tryd.prog W r b 9 v) (h : DataW.Trod enc Tryd.prog W 0 (fun _ => true) true 9 v d p) :
    ∃ s : ByteArray, v = .string s ∧ d = .lit (.string s.data.toList) ∧ s.size ≤ maxLen := by
  obtain ⟨s, rfl, rfl, _, hs⟩ := ChangeMaps.open_string Tryd.underlying9 hv h
  exact ⟨s, rfl, rfl, hs⟩
end

/-- There is an input that fits: the witness of a row whose listed variables hold anything (the world's shape in one pass). -/
theorem witness_zip {H : Type} {enc : TypeId × Value → H} {C : Checked} {os : Os} {f : FuncId} {fn : Func} {s : OpenSpec} {conds : List PathCond} {apart : Bool} {laid : List (String × DataW Unit)} (modest : Bool) (w0 : World) (args : Array Value) (hos : w0.os = os)
    (hv : (w0.forCall (fun _ _ => 0) ⟨#[], args, []⟩).variablesZipB C.prog = true)
    (hr : ((w0.forCall (fun _ _ => 0) ⟨#[], args, []⟩).heap.toList.drop C.prog.globals.size).take ((begin C.prog (fun _ _ => 0) default).world.heap.size - C.prog.globals.size) =
      (begin C.prog (fun _ _ => 0) default).world.heap.toList.drop C.prog.globals.size)
    (hok : Input.okWideB C.prog (w0.forCall (fun _ _ => 0) ⟨#[], args, []⟩) f ⟨#[], args, []⟩ = true)
    (hrow : s.preRow enc C.prog fn conds apart laid (w0.forCall (fun _ _ => 0) ⟨#[], args, []⟩).memory args) :
    ∃ (w : World) (tape : Tape) (i : Input), w.os = os ∧ (w.forCall tape i).Shaped C.prog ∧ i.vars = [] ∧ Input.okWide C.prog (w.forCall tape i) .any w.heap.size f i ∧
      s.preRow enc C.prog fn conds apart laid (w.forCall tape i).memory i.args ∧ ({ modest := modest } : Assume).holds C.prog (lone (Frame.enter C.prog f i.args .normal) [] (w.forCall tape i)) :=
  ⟨w0, fun _ _ => 0, ⟨#[], args, []⟩, hos, World.shaped_of_ZipB hv hr, (Input.okWide_of_okWideB (base := 0) hok).1, (Input.okWide_of_okWideB hok).2, hrow, by
    simp only [Assume.holds]
    exact ⟨by simp, by simp, fun _ => Modest.zero, by simp, by simp⟩⟩
end Go.Proofs.YtkdaemjdiafccaaDoor
