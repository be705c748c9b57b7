/-
  The argument []Act opened: structs of five cells (a number, a text, three numbers); long.
-/
import Derived.Test.YtmjkdfneohpbjaaOpenP
import Derived.Test.YtmjkdfneohpbjaaInts
import Derived.Deep.Slices
import Derived.Deep.Fields
import Derived.ChangeSame
namespace Go.Proofs.Ytmjkdfneohpbjaa
open Go.ChangeShapes Go.WideShapes Go.ChangeAt Go.RowKit Go.Deep

structure QAct where
  kind : Int
  user : ByteArray
  conn : Int
  now : Int
  lim : Int
def QAct.wf (a : QAct) : Prop := -9223372036854775808 ≤ a.conn ∧ a.conn ≤ 9223372036854775807
def actQ (a : QAct) : Value := .agg #[.int .i64 a.kind, .string a.user, .int .i64 a.conn, .int .i64 a.now, .int .i64 a.lim]
/-- The cells of the act that begins at 'ad.add (i * 5)'. -/
def ActQAt (w : World) (ad : Addr) (i : Nat) (a : QAct) : Prop :=
  w.cell? (ad.add (i * 5)) = some (.int .i64 a.kind) ∧ w.cell? (ad.add (i * 5 + 1)) = some (.string a.user) ∧ w.cell? (ad.add (i * 5 + 2)) = some (.int .i64 a.conn) ∧ w.cell? (ad.add (i * 5 + 3)) = some (.int .i64 a.now) ∧ w.cell? (ad.add (i * 5 + 4)) = some (.int .i64 a.lim) ∧ a.wf
def ActsQ (w : World) (A : Option Addr) (n : Nat) (l : List QAct) : Prop := l.length = n ∧ (0 < n → ∃ ad, A = some ad ∧ ∀ i a, l[i]? = some a → ActQAt w ad i a)

theorem oneActQ : ∃ f0 f1 f2 f3 f4, Try.prog.underlying 32 = some (.struct #[f0, f1, f2, f3, f4]) ∧ f0.type = 3 ∧ f1.type = 9 ∧ f2.type = 3 ∧ f3.type = 3 ∧ f4.type = 3 ∧ oneCellFields Try.prog #[f0, f1, f2, f3, f4] = true := ⟨_, _, _, _, _, Try.underlying32, rfl, rfl, rfl, rfl, rfl, by kernel_rfl⟩
theorem cellsAct : Try.prog.cellsOf 32 = 5 := by kernel_rfl
theorem bytesAct : Try.prog.bytesOf 32 = 48 := by kernel_rfl

section
variable {H : Type} {enc : TypeId × Value → H} {W : World}
set_option maxRecDepth 100000 in
/-- One act read. -/
theorem actQ_read {fuel i : Nat} {ad : Addr} {cs : List Value} {D : DataW H} {Pl : List MemPlace} (hc : W.cells? 0 (ad.add (i * 5)) 5 = some cs) (h : DataW.trod enc Try.prog W 0 (fun _ => true) true fuel 32 cs = some (D, Pl)) :
    ∃ a : QAct, ActQAt W ad i a ∧ ∀ R, (∀ m ∈ DataW.weights Try.prog 32 D, m ≤ R) → a.user.size ≤ R := by
  obtain ⟨f0, f1, f2, f3, f4, hu, t0, t1, t2, t3, t4, hone⟩ := oneActQ
  obtain ⟨ys, n', _, hy, hlen, hyl, hf⟩ := DataW.trod_struct hu h
  obtain ⟨_, hcl, hat⟩ := World.cells?_some hc
  obtain ⟨o0, k0⟩ := hone_of hone 0 f0 rfl
  obtain ⟨o1, k1⟩ := hone_of hone 1 f1 rfl
  obtain ⟨o2, k2⟩ := hone_of hone 2 f2 rfl
  obtain ⟨o3, k3⟩ := hone_of hone 3 f3 rfl
  obtain ⟨o4, k4⟩ := hone_of hone 4 f4 rfl
  match cs, hcl with
  | [v0, v1, v2, v3, v4], _ =>
    have h0 := hf 0 f0 rfl
    have h1 := hf 1 f1 rfl
    have h2 := hf 2 f2 rfl
    have h3 := hf 3 f3 rfl
    have h4 := hf 4 f4 rfl
    rw [o0, k0, t0] at h0
    rw [o1, k1, t1] at h1
    rw [o2, k2, t2] at h2
    rw [o3, k3, t3] at h3
    rw [o4, k4, t4] at h4
    match ys, hyl with
    | [y0, y1, y2, y3, y4], _ =>
      simp only [Prod.mk.injEq] at hy
      obtain ⟨rfl, _⟩ := hy
      obtain ⟨z0, e0, _, _⟩ := DataW.trod_int Try.underlying3 (show DataW.trod enc Try.prog W 0 (fun _ => true) true n' 3 [v0] = some y0 from h0)
      obtain ⟨s1, e1, e1', _⟩ := DataW.trod_string Try.underlying9 (show DataW.trod enc Try.prog W 0 (fun _ => true) true n' 9 [v1] = some y1 from h1)
      obtain ⟨z2, e2, _, hz2⟩ := DataW.trod_int Try.underlying3 (show DataW.trod enc Try.prog W 0 (fun _ => true) true n' 3 [v2] = some y2 from h2)
      obtain ⟨z3, e3, _, _⟩ := DataW.trod_int Try.underlying3 (show DataW.trod enc Try.prog W 0 (fun _ => true) true n' 3 [v3] = some y3 from h3)
      obtain ⟨z4, e4, _, _⟩ := DataW.trod_int Try.underlying3 (show DataW.trod enc Try.prog W 0 (fun _ => true) true n' 3 [v4] = some y4 from h4)
      simp only [List.cons.injEq, and_true] at e0 e1 e2 e3 e4
      subst e0 e1 e2 e3 e4
      have c0 := hat 0 (by omega)
      have c1 := hat 1 (by omega)
      have c2 := hat 2 (by omega)
      have c3 := hat 3 (by omega)
      have c4 := hat 4 (by omega)
      rw [Go.Deep.add_add] at c0 c1 c2 c3 c4
      refine ⟨⟨z0, s1, z2, z3, z4⟩, ⟨c0, c1, c2, c3, c4, bounds_i64 hz2⟩, fun R hR => ?_⟩
      have hm : s1.data.toList.length ∈ DataW.weights Try.prog 32 (DataW.agg (List.map (fun x => x.fst) [y0, y1, y2, y3, y4])) := by
        rw [e1']
        simp only [DataW.weights, hu, List.map_cons, List.map_nil, DataW.weightsEach, t0, t1, t2, t3, t4, List.mem_append]
        exact .inr (.inl (by simp))
      have := hR _ hm
      simpa using this
theorem weightsAll_memQ {P : Program} {e : TypeId} {d : DataW H} {m : Nat} : ∀ {l : List (DataW H)}, d ∈ l → m ∈ DataW.weights P e d → m ∈ DataW.weightsAll P e l
  | x :: l, hd, hm => by
    simp only [DataW.weightsAll, List.mem_append]
    rcases List.mem_cons.1 hd with rfl | hd
    · exact .inl hm
    · exact .inr (weightsAll_memQ hd hm)
set_option maxRecDepth 100000 in
theorem open_acts {r : Reach} {b : Nat} {v : Value} {d : DataW H} {p : List MemPlace} (hv : Value.okWide Try.prog W r b 22 v) (h : DataW.Trod enc Try.prog W 0 (fun _ => true) true 22 v d p) :
    ∃ A n c l, v = .slice A n c ∧ ActsQ W A n l ∧ n ≤ c ∧ Weighs d c ∧ ∀ R, (∀ m ∈ DataW.weights Try.prog 22 d, m ≤ R) → ∀ a ∈ l, a.user.size ≤ R := by
  obtain ⟨A, n, c, rfl⟩ := okWide_slice Try.underlying22 hv
  obtain ⟨fuel, hf⟩ := h
  rcases open_slice Try.underlying22 hf with ⟨hcs, _⟩ | ⟨a, len, cap, m, n', D, Pl, hcs, _, hl, hm, hmm, hx, hi⟩
  · simp [Value.cells] at hcs
    obtain ⟨rfl, rfl, rfl⟩ := hcs
    exact ⟨none, 0, 0, [], rfl, ⟨rfl, fun h => absurd h (by omega)⟩, Nat.zero_le _, fun R _ => Nat.zero_le _, fun _ _ _ h => nomatch h⟩
  · simp [Value.cells] at hcs
    obtain ⟨rfl, rfl, rfl⟩ := hcs
    simp only [if_true] at hmm
    subst hmm
    rw [cellsAct] at hi
    have key : ∀ i, i < n → ∃ x : QAct, ActQAt W a i x ∧ ∀ R, (∀ m ∈ DataW.weights Try.prog 32 (D i), m ≤ R) → x.user.size ≤ R := fun i hin => by
      obtain ⟨cs', h1, h2⟩ := hi i (by omega)
      exact actQ_read h1 h2
    have pick : ∃ X : Nat → QAct, ∀ i, i < n → ActQAt W a i (X i) ∧ ∀ R, (∀ m ∈ DataW.weights Try.prog 32 (D i), m ≤ R) → (X i).user.size ≤ R :=
      ⟨fun i => if h : i < n then (key i h).choose else ⟨0, ⟨#[]⟩, 0, 0, 0⟩, fun i h => by simp only [dif_pos h]; exact (key i h).choose_spec⟩
    obtain ⟨X, hX⟩ := pick
    injection hx with hx _
    refine ⟨some a, n, m, (List.range n).map X, rfl, ⟨by simp, fun _ => ⟨a, rfl, fun i x hi' => ?_⟩⟩, hl, fun R hR => ?_, fun R hR x hx' => ?_⟩
    · have hin : i < n := by simpa using (List.getElem?_eq_some_iff.1 hi').1
      simp [hin] at hi'
      subst hi'
      exact (hX i hin).1
    · have := hR _ _ hx
      simp only [List.length_map, List.length_range] at this
      omega
    · simp only [List.mem_map, List.mem_range] at hx'
      obtain ⟨i, hin, rfl⟩ := hx'
      refine (hX i hin).2 R fun k hk => hR k ?_
      rw [hx]
      simp only [DataW.weights, Try.underlying22]
      exact List.mem_cons_of_mem _ (List.mem_append_left _ (weightsAll_memQ (List.mem_map_of_mem (List.mem_range.2 hin)) hk))
end
end Go.Proofs.Ytmjkdfneohpbjaa
