/-
  The argument []Act opened: structs of three cells (a number, bytes, a number).
-/
import Derived.Test.YtiekhgignmbaeaaOpenP
import Derived.Deep.Slices
import Derived.Deep.Fields
import Derived.ChangeSame
namespace Go.Proofs.Ytiekhgignmbaeaa
open Go.ChangeShapes Go.WideShapes Go.ChangeAt Go.RowKit Go.Deep

structure LAct where
  kind : Int
  b : List UInt8
  n : Int
/-- The cells of the act that begins at 'ad.add (i * 3)'. -/
def ActAt (w : World) (ad : Addr) (i : Nat) (a : LAct) : Prop :=
  ∃ Ab cb, w.cell? (ad.add (i * 3)) = some (.int .i64 a.kind) ∧ w.cell? (ad.add (i * 3 + 1)) = some (.slice Ab a.b.length cb) ∧ w.cell? (ad.add (i * 3 + 2)) = some (.int .i64 a.n) ∧ Sl w Ab a.b.length (bvs a.b)
def Acts (w : World) (A : Option Addr) (n : Nat) (l : List LAct) : Prop := l.length = n ∧ (0 < n → ∃ ad, A = some ad ∧ ∀ i a, l[i]? = some a → ActAt w ad i a)

theorem oneAct : ∃ f0 f1 f2, Try.prog.underlying 31 = some (.struct #[f0, f1, f2]) ∧ f0.type = 3 ∧ f1.type = 27 ∧ f2.type = 3 ∧ oneCellFields Try.prog #[f0, f1, f2] = true := ⟨_, _, _, Try.underlying31, rfl, rfl, rfl, by kernel_rfl⟩
theorem cellsAct : Try.prog.cellsOf 31 = 3 := by kernel_rfl
theorem bytesAct : Try.prog.bytesOf 31 = 40 := by kernel_rfl

section
variable {H : Type} {enc : TypeId × Value → H} {W : World}
set_option maxRecDepth 100000 in
/-- One act read. -/
theorem act_read {fuel i : Nat} {ad : Addr} {cs : List Value} {D : DataW H} {Pl : List MemPlace} (hc : W.cells? 0 (ad.add (i * 3)) 3 = some cs) (h : DataW.trod enc Try.prog W 0 (fun _ => true) true fuel 31 cs = some (D, Pl)) :
    ∃ a : LAct, ActAt W ad i a ∧ ∀ R, (∀ m ∈ DataW.weights Try.prog 31 D, m ≤ R) → a.b.length ≤ R := by
  obtain ⟨f0, f1, f2, hu, t0, t1, t2, hone⟩ := oneAct
  obtain ⟨ys, n', _, hy, hlen, hyl, hf⟩ := DataW.trod_struct hu h
  obtain ⟨_, hcl, hat⟩ := World.cells?_some hc
  obtain ⟨o0, k0⟩ := hone_of hone 0 f0 rfl
  obtain ⟨o1, k1⟩ := hone_of hone 1 f1 rfl
  obtain ⟨o2, k2⟩ := hone_of hone 2 f2 rfl
  match cs, hcl with
  | [v0, v1, v2], _ =>
    have h0 := hf 0 f0 rfl
    have h1 := hf 1 f1 rfl
    have h2 := hf 2 f2 rfl
    rw [o0, k0, t0] at h0
    rw [o1, k1, t1] at h1
    rw [o2, k2, t2] at h2
    match ys, hyl with
    | [y0, y1, y2], _ =>
      simp only [Prod.mk.injEq] at hy
      obtain ⟨rfl, _⟩ := hy
      obtain ⟨z0, e0, _, _⟩ := DataW.trod_int Try.underlying3 (show DataW.trod enc Try.prog W 0 (fun _ => true) true n' 3 [v0] = some y0 from h0)
      obtain ⟨z2, e2, _, _⟩ := DataW.trod_int Try.underlying3 (show DataW.trod enc Try.prog W 0 (fun _ => true) true n' 3 [v2] = some y2 from h2)
      simp only [List.cons.injEq, and_true] at e0 e2
      subst e0 e2
      have c0 := hat 0 (by omega)
      have c1 := hat 1 (by omega)
      have c2 := hat 2 (by omega)
      rw [Go.Deep.add_add] at c0 c1 c2
      have hwt : ∀ R, (∀ m ∈ DataW.weights Try.prog 31 (DataW.agg (List.map (fun x => x.fst) [y0, y1, y2])), m ≤ R) → ∀ m ∈ DataW.weights Try.prog 27 y1.1, m ≤ R := by
        intro R hR m hm
        refine hR m ?_
        simp only [DataW.weights, hu, List.map_cons, List.map_nil, DataW.weightsEach, t0, t1, t2, List.mem_append]
        exact .inr (.inl hm)
      have h1' : DataW.trod enc Try.prog W 0 (fun _ => true) true n' 27 [v1] = some y1 := h1
      rcases open_ints Try.underlying27 Try.underlying5 cellsByte h1' with ⟨hv, _⟩ | ⟨a, len, cap, zs, hv, _, hl, hm, hz, hx, hcell, hw⟩
      · simp only [List.cons.injEq, and_true] at hv
        subst hv
        exact ⟨⟨z0, [], z2⟩, ⟨none, 0, c0, c1, c2, Sl.none_⟩, fun R _ => Nat.zero_le _⟩
      · simp only [List.cons.injEq, and_true] at hv
        subst hv
        simp only [if_true] at hz
        have hs : Sl W (some a) len (bvs (toBytes (zs.take len))) := toBytes_sl hl hz hw (fun _ => ⟨a, rfl, fun i hi => hcell i (by omega)⟩)
        have hlen2 : (toBytes (zs.take len)).length = len := by rw [toBytes_length, List.length_take]; omega
        refine ⟨⟨z0, toBytes (zs.take len), z2⟩, ⟨some a, cap, c0, ?_, c2, ?_⟩, fun R hR => ?_⟩
        · rw [hlen2]; exact c1
        · rw [hlen2]; exact hs
        · have h3 := hwt R hR
          rw [hx] at h3
          simp only [DataW.weights, Try.underlying27, lits, List.length_map, List.length_take, List.length_drop, bytesByte, hz] at h3
          have := h3 _ List.mem_cons_self
          rw [hlen2]
          omega

theorem weightsAll_mem {P : Program} {e : TypeId} {d : DataW H} {m : Nat} : ∀ {l : List (DataW H)}, d ∈ l → m ∈ DataW.weights P e d → m ∈ DataW.weightsAll P e l
  | x :: l, hd, hm => by
    simp only [DataW.weightsAll, List.mem_append]
    rcases List.mem_cons.1 hd with rfl | hd
    · exact .inl hm
    · exact .inr (weightsAll_mem hd hm)
set_option maxRecDepth 100000 in
theorem open_acts {r : Reach} {b : Nat} {v : Value} {d : DataW H} {p : List MemPlace} (hv : Value.okWide Try.prog W r b 22 v) (h : DataW.Trod enc Try.prog W 0 (fun _ => true) true 22 v d p) :
    ∃ A n c l, v = .slice A n c ∧ Acts W A n l ∧ n ≤ c ∧ Weighs d c ∧ ∀ R, (∀ m ∈ DataW.weights Try.prog 22 d, m ≤ R) → ∀ a ∈ l, a.b.length ≤ R := by
  obtain ⟨A, n, c, rfl⟩ := okWide_slice Try.underlying22 hv
  obtain ⟨fuel, hf⟩ := h
  rcases open_slice Try.underlying22 hf with ⟨hcs, _⟩ | ⟨a, len, cap, m, n', D, Pl, hcs, _, hl, hm, hmm, hx, hi⟩
  · simp [Value.cells] at hcs
    obtain ⟨rfl, rfl, rfl⟩ := hcs
    exact ⟨none, 0, 0, [], rfl, ⟨rfl, fun h => absurd h (by omega)⟩, Nat.zero_le _, fun R _ => Nat.zero_le _, fun _ _ _ h => nomatch h⟩
  · simp [Value.cells] at hcs
    obtain ⟨rfl, rfl, rfl⟩ := hcs
    simp only [if_true] at hmm
    subst hmm
    rw [cellsAct] at hi
    have key : ∀ i, i < n → ∃ x : LAct, ActAt W a i x ∧ ∀ R, (∀ m ∈ DataW.weights Try.prog 31 (D i), m ≤ R) → x.b.length ≤ R := fun i hin => by
      obtain ⟨cs', h1, h2⟩ := hi i (by omega)
      exact act_read h1 h2
    have pick : ∃ X : Nat → LAct, ∀ i, i < n → ActAt W a i (X i) ∧ ∀ R, (∀ m ∈ DataW.weights Try.prog 31 (D i), m ≤ R) → (X i).b.length ≤ R :=
      ⟨fun i => if h : i < n then (key i h).choose else ⟨0, [], 0⟩, fun i h => by simp only [dif_pos h]; exact (key i h).choose_spec⟩
    obtain ⟨X, hX⟩ := pick
    injection hx with hx _
    refine ⟨some a, n, m, (List.range n).map X, rfl, ⟨by simp, fun _ => ⟨a, rfl, fun i x hi' => ?_⟩⟩, hl, fun R hR => ?_, fun R hR x hx' => ?_⟩
    · have hin : i < n := by simpa using (List.getElem?_eq_some_iff.1 hi').1
      simp [hin] at hi'
      subst hi'
      exact (hX i hin).1
    · have := hR _ _ hx
      simp only [List.length_map, List.length_range] at this
      omega
    · simp only [List.mem_map, List.mem_range] at hx'
      obtain ⟨i, hin, rfl⟩ := hx'
      refine (hX i hin).2 R fun k hk => hR k ?_
      rw [hx]
      simp only [DataW.weights, Try.underlying22]
      exact List.mem_cons_of_mem _ (List.mem_append_left _ (weightsAll_mem (List.mem_map_of_mem (List.mem_range.2 hin)) hk))
end
end Go.Proofs.Ytiekhgignmbaeaa
