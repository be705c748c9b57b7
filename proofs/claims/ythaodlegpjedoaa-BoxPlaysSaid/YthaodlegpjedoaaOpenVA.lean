/-
  The argument []Act opened: structs of six cells (four numbers, a slice of numbers, bytes).
-/
import Derived.Test.YthaodlegpjedoaaOpenV
import Derived.Test.YthaodlegpjedoaaVAct
namespace Go.Proofs.Ythaodlegpjedoaa
open Go.Joins Go.ChangeShapes Go.WideShapes Go.ChangeAt Go.RowKit Go.Deep

theorem oneAct : ∃ f0 f1 f2 f3 f4 f5, Try.prog.underlying 31 = some (.struct #[f0, f1, f2, f3, f4, f5]) ∧ f0.type = 3 ∧ f1.type = 3 ∧ f2.type = 3 ∧ f3.type = 3 ∧ f4.type = 28 ∧ f5.type = 29 ∧ oneCellFields Try.prog #[f0, f1, f2, f3, f4, f5] = true :=
  ⟨_, _, _, _, _, _, Try.underlying31, rfl, rfl, rfl, rfl, rfl, rfl, by kernel_rfl⟩
theorem cellsAct : Try.prog.cellsOf 31 = 6 := by kernel_rfl
theorem bytesAct : Try.prog.bytesOf 31 = 80 := by kernel_rfl

section
variable {H : Type} {enc : TypeId × Value → H} {W : World}
set_option maxRecDepth 100000 in
/-- One act read. -/
theorem vact_read {fuel i : Nat} {ad : Addr} {cs : List Value} {D : DataW H} {Pl : List MemPlace} (hc : W.cells? 0 (ad.add (i * 6)) 6 = some cs) (h : DataW.trod enc Try.prog W 0 (fun _ => true) true fuel 31 cs = some (D, Pl)) :
    ∃ (a : VAc) (Au : Option Addr) (cu : Nat) (Ab : Option Addr) (cb : Nat), AcAt W (ad.add (i * 6)) a Au cu Ab cb ∧ ∀ R, (∀ x ∈ DataW.weights Try.prog 31 D, x ≤ R) → a.uids.length ≤ R ∧ a.body.length ≤ R := by
  obtain ⟨f0, f1, f2, f3, f4, f5, hu, t0, t1, t2, t3, t4, t5, hone⟩ := oneAct
  obtain ⟨ys, n', _, hy, hlen, hyl, hf⟩ := DataW.trod_struct hu h
  obtain ⟨_, hcl, hat⟩ := World.cells?_some hc
  obtain ⟨o0, k0⟩ := hone_of hone 0 f0 rfl
  obtain ⟨o1, k1⟩ := hone_of hone 1 f1 rfl
  obtain ⟨o2, k2⟩ := hone_of hone 2 f2 rfl
  obtain ⟨o3, k3⟩ := hone_of hone 3 f3 rfl
  obtain ⟨o4, k4⟩ := hone_of hone 4 f4 rfl
  obtain ⟨o5, k5⟩ := hone_of hone 5 f5 rfl
  match cs, hcl with
  | [v0, v1, v2, v3, v4, v5], _ =>
    have h0 := hf 0 f0 rfl
    have h1 := hf 1 f1 rfl
    have h2 := hf 2 f2 rfl
    have h3 := hf 3 f3 rfl
    have h4 := hf 4 f4 rfl
    have h5 := hf 5 f5 rfl
    rw [o0, k0, t0] at h0
    rw [o1, k1, t1] at h1
    rw [o2, k2, t2] at h2
    rw [o3, k3, t3] at h3
    rw [o4, k4, t4] at h4
    rw [o5, k5, t5] at h5
    match ys, hyl with
    | [y0, y1, y2, y3, y4, y5], _ =>
      simp only [Prod.mk.injEq] at hy
      obtain ⟨rfl, _⟩ := hy
      obtain ⟨z0, e0, _, _⟩ := DataW.trod_int Try.underlying3 (show DataW.trod enc Try.prog W 0 (fun _ => true) true n' 3 [v0] = some y0 from h0)
      obtain ⟨z1, e1, _, _⟩ := DataW.trod_int Try.underlying3 (show DataW.trod enc Try.prog W 0 (fun _ => true) true n' 3 [v1] = some y1 from h1)
      obtain ⟨z2, e2, _, _⟩ := DataW.trod_int Try.underlying3 (show DataW.trod enc Try.prog W 0 (fun _ => true) true n' 3 [v2] = some y2 from h2)
      obtain ⟨z3, e3, _, _⟩ := DataW.trod_int Try.underlying3 (show DataW.trod enc Try.prog W 0 (fun _ => true) true n' 3 [v3] = some y3 from h3)
      simp only [List.cons.injEq, and_true] at e0 e1 e2 e3
      subst e0 e1 e2 e3
      obtain ⟨Au, cu, us, rfl, hsu, hbu⟩ := ints_in (show DataW.trod enc Try.prog W 0 (fun _ => true) true n' 28 [v4] = some y4 from h4)
      obtain ⟨Ab, cb, b, rfl, hsb, hbb⟩ := bytes_in (show DataW.trod enc Try.prog W 0 (fun _ => true) true n' 29 [v5] = some y5 from h5)
      have c0 := hat 0 (by omega)
      have c1 := hat 1 (by omega)
      have c2 := hat 2 (by omega)
      have c3 := hat 3 (by omega)
      have c4 := hat 4 (by omega)
      have c5 := hat 5 (by omega)
      rw [Go.Deep.add_add] at c0 c1 c2 c3 c4 c5
      refine ⟨⟨z0, z1, z2, z3, us, b⟩, Au, cu, Ab, cb, ⟨c0, by rw [add_field]; exact c1, by rw [add_field]; exact c2, by rw [add_field]; exact c3, by rw [add_field]; exact c4, by rw [add_field]; exact c5, hsu, hsb⟩, fun R hR => ⟨hbu R fun m hm => hR m ?_, hbb R fun m hm => hR m ?_⟩⟩
      · simp only [DataW.weights, hu, List.map_cons, List.map_nil, DataW.weightsEach, t0, t1, t2, t3, t4, t5, List.mem_append]
        exact .inr (.inr (.inr (.inr (.inl hm))))
      · simp only [DataW.weights, hu, List.map_cons, List.map_nil, DataW.weightsEach, t0, t1, t2, t3, t4, t5, List.mem_append]
        exact .inr (.inr (.inr (.inr (.inr (.inl hm)))))
set_option maxRecDepth 100000 in
theorem open_acts {r : Reach} {b : Nat} {v : Value} {d : DataW H} {p : List MemPlace} (hv : Value.okWide Try.prog W r b 22 v) (h : DataW.Trod enc Try.prog W 0 (fun _ => true) true 22 v d p) :
    ∃ A n c l, v = .slice A n c ∧ VActs W A n l ∧ n ≤ c ∧ Weighs d c ∧ ∀ R, (∀ m ∈ DataW.weights Try.prog 22 d, m ≤ R) → ∀ a ∈ l, a.uids.length ≤ R ∧ a.body.length ≤ R := by
  obtain ⟨A, n, c, rfl⟩ := okWide_slice Try.underlying22 hv
  obtain ⟨fuel, hf⟩ := h
  rcases open_slice Try.underlying22 hf with ⟨hcs, _⟩ | ⟨a, len, cap, m, n', D, Pl, hcs, _, hl, hm, hmm, hx, hi⟩
  · simp [Value.cells] at hcs
    obtain ⟨rfl, rfl, rfl⟩ := hcs
    exact ⟨none, 0, 0, [], rfl, ⟨rfl, fun h => absurd h (by omega)⟩, Nat.zero_le _, fun R _ => Nat.zero_le _, fun _ _ _ h => nomatch h⟩
  · simp [Value.cells] at hcs
    obtain ⟨rfl, rfl, rfl⟩ := hcs
    simp only [if_true] at hmm
    subst hmm
    rw [cellsAct] at hi
    have key : ∀ i, i < n → ∃ x : VAc, (∃ Au cu Ab cb, AcAt W (a.add (i * 6)) x Au cu Ab cb) ∧ ∀ R, (∀ m ∈ DataW.weights Try.prog 31 (D i), m ≤ R) → x.uids.length ≤ R ∧ x.body.length ≤ R := fun i hin => by
      obtain ⟨cs', h1, h2⟩ := hi i (by omega)
      obtain ⟨x, Au, cu, Ab, cb, q, r⟩ := vact_read h1 h2
      exact ⟨x, ⟨Au, cu, Ab, cb, q⟩, r⟩
    have pick : ∃ X : Nat → VAc, ∀ i, i < n → (∃ Au cu Ab cb, AcAt W (a.add (i * 6)) (X i) Au cu Ab cb) ∧ ∀ R, (∀ m ∈ DataW.weights Try.prog 31 (D i), m ≤ R) → (X i).uids.length ≤ R ∧ (X i).body.length ≤ R :=
      ⟨fun i => if h : i < n then (key i h).choose else ⟨0, 0, 0, 0, [], []⟩, fun i h => by simp only [dif_pos h]; exact (key i h).choose_spec⟩
    obtain ⟨X, hX⟩ := pick
    injection hx with hx _
    refine ⟨some a, n, m, (List.range n).map X, rfl, ⟨by simp, fun _ => ⟨a, rfl, fun i x hi' => ?_⟩⟩, hl, fun R hR => ?_, fun R hR x hx' => ?_⟩
    · have hin : i < n := by simpa using (List.getElem?_eq_some_iff.1 hi').1
      simp [hin] at hi'
      subst hi'
      exact (hX i hin).1
    · have := hR _ _ hx
      simp only [List.length_map, List.length_range] at this
      omega
    · simp only [List.mem_map, List.mem_range] at hx'
      obtain ⟨i, hin, rfl⟩ := hx'
      refine (hX i hin).2 R fun k hk => hR k ?_
      rw [hx]
      simp only [DataW.weights, Try.underlying22]
      exact List.mem_cons_of_mem _ (List.mem_append_left _ (weightsAll_mem (List.mem_map_of_mem (List.mem_range.2 hin)) hk))
end
end Go.Proofs.Ythaodlegpjedoaa
