/-
  The arguments opened: mailboxes (structs of four cells with a slice of messages), acts (structs of six cells with two slices).
-/
import Derived.Test.YthaodlegpjedoaaOpenP
import Derived.Test.YthaodlegpjedoaaVKnown
import Derived.Deep.Slices
import Derived.Deep.Fields
import Derived.ChangeSame
import Derived.Lib.SmallJoins
namespace Go.Proofs.Ythaodlegpjedoaa
open Go.Joins Go.ChangeShapes Go.WideShapes Go.ChangeAt Go.RowKit Go.Deep

theorem oneMg : ∃ f0 f1 f2 f3, Try.prog.underlying 62 = some (.struct #[f0, f1, f2, f3]) ∧ f0.type = 3 ∧ f1.type = 3 ∧ f2.type = 3 ∧ f3.type = 29 ∧ oneCellFields Try.prog #[f0, f1, f2, f3] = true := ⟨_, _, _, _, Try.underlying62, rfl, rfl, rfl, rfl, by kernel_rfl⟩
theorem cellsMg : Try.prog.cellsOf 62 = 4 := by kernel_rfl
theorem bytesMg : Try.prog.bytesOf 62 = 48 := by kernel_rfl
theorem oneBx : ∃ f0 f1 f2 f3, Try.prog.underlying 26 = some (.struct #[f0, f1, f2, f3]) ∧ f0.type = 9 ∧ f1.type = 3 ∧ f2.type = 3 ∧ f3.type = 24 ∧ oneCellFields Try.prog #[f0, f1, f2, f3] = true := ⟨_, _, _, _, Try.underlying26, rfl, rfl, rfl, rfl, by kernel_rfl⟩
theorem bytesInt : Try.prog.bytesOf 3 = 8 := by kernel_rfl
theorem cellsBx : Try.prog.cellsOf 26 = 4 := by kernel_rfl

section
variable {H : Type} {enc : TypeId × Value → H} {W : World}
/-- A slice of bytes inside something read. -/
theorem bytes_in {n' : Nat} {v1 : Value} {y1 : DataW H × List MemPlace} (h1' : DataW.trod enc Try.prog W 0 (fun _ => true) true n' 29 [v1] = some y1) :
    ∃ (A : Option Addr) (c : Nat) (b : List UInt8), v1 = .slice A b.length c ∧ Sl W A b.length (bvs b) ∧ ∀ R, (∀ m ∈ DataW.weights Try.prog 29 y1.1, m ≤ R) → b.length ≤ R := by
  rcases open_ints Try.underlying29 Try.underlying5 cellsByte h1' with ⟨hv, _⟩ | ⟨a, len, cap, zs, hv, _, hl, hm, hz, hx, hcell, hw⟩
  · simp only [List.cons.injEq, and_true] at hv
    subst hv
    exact ⟨none, 0, [], rfl, Sl.none_, fun R _ => Nat.zero_le _⟩
  · simp only [List.cons.injEq, and_true] at hv
    subst hv
    simp only [if_true] at hz
    have hs : Sl W (some a) len (bvs (toBytes (zs.take len))) := toBytes_sl hl hz hw (fun _ => ⟨a, rfl, fun i hi => hcell i (by omega)⟩)
    have hlen2 : (toBytes (zs.take len)).length = len := by rw [toBytes_length, List.length_take]; omega
    refine ⟨some a, cap, toBytes (zs.take len), by rw [hlen2], by rw [hlen2]; exact hs, fun R h3 => ?_⟩
    rw [hx] at h3
    simp only [DataW.weights, Try.underlying29, lits, List.length_map, List.length_take, List.length_drop, bytesByte, hz] at h3
    have := h3 _ List.mem_cons_self
    rw [hlen2]
    omega
/-- A slice of numbers inside something read. -/
theorem ints_in {n' : Nat} {v1 : Value} {y1 : DataW H × List MemPlace} (h1' : DataW.trod enc Try.prog W 0 (fun _ => true) true n' 28 [v1] = some y1) :
    ∃ (A : Option Addr) (c : Nat) (b : List Int), v1 = .slice A b.length c ∧ Sl W A b.length (ivs b) ∧ ∀ R, (∀ m ∈ DataW.weights Try.prog 28 y1.1, m ≤ R) → b.length ≤ R := by
  rcases open_ints Try.underlying28 Try.underlying3 cellsInt h1' with ⟨hv, _⟩ | ⟨a, len, cap, zs, hv, _, hl, hm, hz, hx, hcell, hw⟩
  · simp only [List.cons.injEq, and_true] at hv
    subst hv
    exact ⟨none, 0, [], rfl, Sl.none_, fun R _ => Nat.zero_le _⟩
  · simp only [List.cons.injEq, and_true] at hv
    subst hv
    simp only [if_true] at hz
    have hlen2 : (zs.take len).length = len := by rw [List.length_take]; omega
    refine ⟨some a, cap, zs.take len, by rw [hlen2], ?_, fun R h3 => ?_⟩
    · rw [hlen2]
      refine ⟨by simp [hlen2], fun _ => ⟨a, rfl, fun j u hu => ?_⟩⟩
      have hj : j < len := by
        have := (List.getElem?_eq_some_iff.1 hu).1
        rw [ivs_length, hlen2] at this
        exact this
      rw [ivs_get _ _ (by omega)] at hu
      rw [hcell j (by omega), ← hu]
      simp [List.getD, show j < zs.length by omega]
    · rw [hx] at h3
      simp only [DataW.weights, Try.underlying28, lits, List.length_map, List.length_take, List.length_drop, bytesInt, hz] at h3
      have := h3 _ List.mem_cons_self
      rw [hlen2]
      omega
set_option maxRecDepth 100000 in
theorem open_nums {r : Reach} {b : Nat} {v : Value} {d : DataW H} {p : List MemPlace} (hv : Value.okWide Try.prog W r b 28 v) (h : DataW.Trod enc Try.prog W 0 (fun _ => true) true 28 v d p) :
    ∃ A n c vs, v = .slice A n c ∧ Sl W A n (ivs vs) ∧ Fits vs ∧ n ≤ c ∧ Weighs d c := by
  obtain ⟨A, n, c, rfl⟩ := okWide_slice Try.underlying28 hv
  obtain ⟨fuel, hf⟩ := h
  rcases open_ints Try.underlying28 Try.underlying3 cellsInt hf with ⟨hcs, _⟩ | ⟨a, len, cap, zs, hcs, _, hl, hm, hz, hx, hcell, hw⟩
  · simp [Value.cells] at hcs
    obtain ⟨rfl, rfl, rfl⟩ := hcs
    exact ⟨none, 0, 0, [], rfl, Sl.none_, fun _ h => (by cases h), Nat.zero_le _, fun R _ => Nat.zero_le _⟩
  · simp [Value.cells] at hcs
    obtain ⟨rfl, rfl, rfl⟩ := hcs
    simp only [if_true] at hz
    refine ⟨some a, n, c, zs.take n, rfl, ⟨by rw [ivs_length, List.length_take]; omega, fun _ => ⟨a, rfl, fun j u hu => ?_⟩⟩, fun z hz => int_bounds (hw z (List.mem_of_mem_take hz)), hl, fun R hR => ?_⟩
    rotate_left
    · injection hx with hx _
      have := hR _ _ hx
      simp only [lits, List.length_map, List.length_take, List.length_drop] at this
      omega
    have hj : j < n := by
      have := (List.getElem?_eq_some_iff.1 hu).1
      rw [ivs_length, List.length_take] at this
      omega
    have hz' : j < zs.length := by omega
    rw [hcell j (by omega)]
    rw [ivs_get _ _ (by rw [List.length_take]; omega)] at hu
    rw [← hu]
    simp [List.getD, hz']
set_option maxRecDepth 100000 in
/-- One message read. -/
theorem mg_read {fuel i : Nat} {ad : Addr} {cs : List Value} {D : DataW H} {Pl : List MemPlace} (hc : W.cells? 0 (ad.add (i * 4)) 4 = some cs) (h : DataW.trod enc Try.prog W 0 (fun _ => true) true fuel 62 cs = some (D, Pl)) :
    ∃ (m : Mg) (Ab : Option Addr) (cb : Nat), W.cell? (ad.add (i * 4)) = some (.int .i64 m.uid) ∧ W.cell? (ad.add (i * 4 + 1)) = some (.int .i64 m.flags) ∧ W.cell? (ad.add (i * 4 + 2)) = some (.int .i64 m.date) ∧ W.cell? (ad.add (i * 4 + 3)) = some (.slice Ab m.body.length cb) ∧ Sl W Ab m.body.length (bvs m.body) ∧
      ∀ R, (∀ x ∈ DataW.weights Try.prog 62 D, x ≤ R) → m.body.length ≤ R := by
  obtain ⟨f0, f1, f2, f3, hu, t0, t1, t2, t3, hone⟩ := oneMg
  obtain ⟨ys, n', _, hy, hlen, hyl, hf⟩ := DataW.trod_struct hu h
  obtain ⟨_, hcl, hat⟩ := World.cells?_some hc
  obtain ⟨o0, k0⟩ := hone_of hone 0 f0 rfl
  obtain ⟨o1, k1⟩ := hone_of hone 1 f1 rfl
  obtain ⟨o2, k2⟩ := hone_of hone 2 f2 rfl
  obtain ⟨o3, k3⟩ := hone_of hone 3 f3 rfl
  match cs, hcl with
  | [v0, v1, v2, v3], _ =>
    have h0 := hf 0 f0 rfl
    have h1 := hf 1 f1 rfl
    have h2 := hf 2 f2 rfl
    have h3 := hf 3 f3 rfl
    rw [o0, k0, t0] at h0
    rw [o1, k1, t1] at h1
    rw [o2, k2, t2] at h2
    rw [o3, k3, t3] at h3
    match ys, hyl with
    | [y0, y1, y2, y3], _ =>
      simp only [Prod.mk.injEq] at hy
      obtain ⟨rfl, _⟩ := hy
      obtain ⟨z0, e0, _, _⟩ := DataW.trod_int Try.underlying3 (show DataW.trod enc Try.prog W 0 (fun _ => true) true n' 3 [v0] = some y0 from h0)
      obtain ⟨z1, e1, _, _⟩ := DataW.trod_int Try.underlying3 (show DataW.trod enc Try.prog W 0 (fun _ => true) true n' 3 [v1] = some y1 from h1)
      obtain ⟨z2, e2, _, _⟩ := DataW.trod_int Try.underlying3 (show DataW.trod enc Try.prog W 0 (fun _ => true) true n' 3 [v2] = some y2 from h2)
      simp only [List.cons.injEq, and_true] at e0 e1 e2
      subst e0 e1 e2
      obtain ⟨A, c, b, rfl, hs, hb⟩ := bytes_in (show DataW.trod enc Try.prog W 0 (fun _ => true) true n' 29 [v3] = some y3 from h3)
      have c0 := hat 0 (by omega)
      have c1 := hat 1 (by omega)
      have c2 := hat 2 (by omega)
      have c3 := hat 3 (by omega)
      rw [Go.Deep.add_add] at c0 c1 c2 c3
      refine ⟨⟨z0, z1, z2, b⟩, A, c, c0, c1, c2, c3, hs, fun R hR => hb R fun m hm => hR m ?_⟩
      simp only [DataW.weights, hu, List.map_cons, List.map_nil, DataW.weightsEach, t0, t1, t2, t3, List.mem_append]
      exact .inr (.inr (.inr (.inl hm)))
theorem weightsAll_mem {P : Program} {e : TypeId} {d : DataW H} {m : Nat} : ∀ {l : List (DataW H)}, d ∈ l → m ∈ DataW.weights P e d → m ∈ DataW.weightsAll P e l
  | x :: l, hd, hm => by
    simp only [DataW.weightsAll, List.mem_append]
    rcases List.mem_cons.1 hd with rfl | hd
    · exact .inl hm
    · exact .inr (weightsAll_mem hd hm)
set_option maxRecDepth 100000 in
/-- A slice of messages inside something read. -/
theorem msgs_in {n' : Nat} {v1 : Value} {y1 : DataW H × List MemPlace} (h1' : DataW.trod enc Try.prog W 0 (fun _ => true) true n' 24 [v1] = some y1) :
    ∃ (A : Option Addr) (c : Nat) (l : List Mg), v1 = .slice A l.length c ∧ Ms AnyB W A l.length l ∧ ∀ R, (∀ m ∈ DataW.weights Try.prog 24 y1.1, m ≤ R) → l.length ≤ R := by
  rcases open_slice Try.underlying24 h1' with ⟨hcs, _⟩ | ⟨a, len, cap, m, n', D, Pl, hcs, _, hl, hm, hmm, hx, hi⟩
  · simp only [List.cons.injEq, and_true] at hcs
    subst hcs
    exact ⟨none, 0, [], rfl, Ms.nil _ _ _, fun _ _ => Nat.zero_le _⟩
  · simp only [List.cons.injEq, and_true] at hcs
    subst hcs
    simp only [if_true] at hmm
    subst hmm
    rw [cellsMg] at hi
    have key : ∀ i, i < len → ∃ (q : Mg × Option Addr × Nat), W.cell? (a.add (i * 4)) = some (.int .i64 q.1.uid) ∧ W.cell? (a.add (i * 4 + 1)) = some (.int .i64 q.1.flags) ∧ W.cell? (a.add (i * 4 + 2)) = some (.int .i64 q.1.date) ∧ W.cell? (a.add (i * 4 + 3)) = some (.slice q.2.1 q.1.body.length q.2.2) ∧ Sl W q.2.1 q.1.body.length (bvs q.1.body) := fun i hin => by
      obtain ⟨cs', h1, h2⟩ := hi i (by omega)
      obtain ⟨m, Ab, cb, c0, c1, c2, c3, hs, _⟩ := mg_read h1 h2
      exact ⟨(m, Ab, cb), c0, c1, c2, c3, hs⟩
    obtain ⟨X, hX⟩ : ∃ X : Nat → Mg × Option Addr × Nat, ∀ i, i < len → W.cell? (a.add (i * 4)) = some (.int .i64 (X i).1.uid) ∧ W.cell? (a.add (i * 4 + 1)) = some (.int .i64 (X i).1.flags) ∧ W.cell? (a.add (i * 4 + 2)) = some (.int .i64 (X i).1.date) ∧ W.cell? (a.add (i * 4 + 3)) = some (.slice (X i).2.1 (X i).1.body.length (X i).2.2) ∧ Sl W (X i).2.1 (X i).1.body.length (bvs (X i).1.body) :=
      ⟨fun i => if h : i < len then (key i h).choose else (⟨0, 0, 0, []⟩, none, 0), fun i h => by simp only [dif_pos h]; exact (key i h).choose_spec⟩
    have hlen : ((List.range len).map fun i => (X i).1).length = len := by simp
    let vs : Nat → Value := fun j => if j % 4 = 0 then .int .i64 (X (j / 4)).1.uid else if j % 4 = 1 then .int .i64 (X (j / 4)).1.flags else if j % 4 = 2 then .int .i64 (X (j / 4)).1.date else .slice (X (j / 4)).2.1 (X (j / 4)).1.body.length (X (j / 4)).2.2
    have hvs : ∀ i, vs (i * 4) = .int .i64 (X i).1.uid ∧ vs (i * 4 + 1) = .int .i64 (X i).1.flags ∧ vs (i * 4 + 2) = .int .i64 (X i).1.date ∧ vs (i * 4 + 3) = .slice (X i).2.1 (X i).1.body.length (X i).2.2 := fun i => by
      refine ⟨?_, ?_, ?_, ?_⟩
      · show (if (i * 4) % 4 = 0 then _ else _) = _; rw [if_pos (by omega), show i * 4 / 4 = i by omega]
      · show (if (i * 4 + 1) % 4 = 0 then _ else if (i * 4 + 1) % 4 = 1 then _ else _) = _; rw [if_neg (by omega), if_pos (by omega), show (i * 4 + 1) / 4 = i by omega]
      · show (if (i * 4 + 2) % 4 = 0 then _ else if (i * 4 + 2) % 4 = 1 then _ else if (i * 4 + 2) % 4 = 2 then _ else _) = _; rw [if_neg (by omega), if_neg (by omega), if_pos (by omega), show (i * 4 + 2) / 4 = i by omega]
      · show (if (i * 4 + 3) % 4 = 0 then _ else if (i * 4 + 3) % 4 = 1 then _ else if (i * 4 + 3) % 4 = 2 then _ else _) = _; rw [if_neg (by omega), if_neg (by omega), if_neg (by omega), show (i * 4 + 3) / 4 = i by omega]
    have hget : ∀ j, j < len * 4 → ((List.range (len * 4)).map vs)[j]? = some (vs j) := fun j hj => by simp [hj]
    refine ⟨some a, m, (List.range len).map fun i => (X i).1, by rw [hlen], ⟨rfl, (List.range (len * 4)).map vs, by simp, fun _ => ⟨a, rfl, trivial, fun j u hu => ?_⟩, fun i q hq => ?_⟩, fun R hR => ?_⟩
    · have hj : j < len * 4 := by
        have := (List.getElem?_eq_some_iff.1 hu).1
        simpa using this
      rw [hget j hj] at hu
      injection hu with hu
      subst hu
      obtain ⟨x0, x1, x2, x3, _⟩ := hX (j / 4) (by omega)
      obtain ⟨e0, e1, e2, e3⟩ := hvs (j / 4)
      rcases (by omega : j = j / 4 * 4 ∨ j = j / 4 * 4 + 1 ∨ j = j / 4 * 4 + 2 ∨ j = j / 4 * 4 + 3) with e | e | e | e
      · rw [e, e0]; exact x0
      · rw [e, e1]; exact x1
      · rw [e, e2]; exact x2
      · rw [e, e3]; exact x3
    · have hin : i < len := by simpa using (List.getElem?_eq_some_iff.1 hq).1
      simp [hin] at hq
      subst hq
      obtain ⟨x0, x1, x2, x3, x4⟩ := hX i hin
      obtain ⟨e0, e1, e2, e3⟩ := hvs i
      exact ⟨(X i).2.1, (X i).2.2, by rw [hget _ (by omega), e0], by rw [hget _ (by omega), e1], by rw [hget _ (by omega), e2], by rw [hget _ (by omega), e3], x4, fun _ _ _ => trivial⟩
    · rw [hlen]
      rw [hx] at hR
      simp only [DataW.weights, Try.underlying24, List.length_map, List.length_range, bytesMg] at hR
      have := hR _ List.mem_cons_self
      omega
set_option maxRecDepth 100000 in
/-- A mailbox read. -/
theorem open_box {r : Reach} {b0 : Nat} {v : Value} {d : DataW H} {p : List MemPlace} (hv : Value.okWide Try.prog W r b0 26 v) (h : DataW.Trod enc Try.prog W 0 (fun _ => true) true 26 v d p) :
    ∃ (b : Bx) (A : Option Addr) (c : Nat), v = bxv b A c ∧ Ms AnyB W A b.l.length b.l ∧ ∀ R, (∀ m ∈ DataW.weights Try.prog 26 d, m ≤ R) → b.l.length ≤ R ∧ b.name.length ≤ R := by
  obtain ⟨f0, f1, f2, f3, hu, t0, t1, t2, t3, hone⟩ := oneBx
  obtain ⟨v0, v1, v2, v3, y0, y1, y2, y3, n, rfl, rfl, _, h0, h1, h2, h3⟩ := open_agg4 hu hone cellsBx hv h
  rw [t0] at h0
  rw [t1] at h1
  rw [t2] at h2
  rw [t3] at h3
  obtain ⟨s, hs, hy0, _⟩ := DataW.trod_string Try.underlying9 h0
  obtain ⟨z1, e1, _, _⟩ := DataW.trod_int Try.underlying3 h1
  obtain ⟨z2, e2, _, _⟩ := DataW.trod_int Try.underlying3 h2
  simp only [List.cons.injEq, and_true] at hs e1 e2
  subst hs e1 e2
  obtain ⟨A, c, l, rfl, hM, hW⟩ := msgs_in h3
  refine ⟨⟨s.data.toList, z1, z2, l⟩, A, c, by unfold bxv; rw [St_data], hM, fun R hR => ⟨hW R fun m hm => hR m ?_, ?_⟩⟩
  · simp only [DataW.weights, hu, List.map_cons, List.map_nil, DataW.weightsEach, t0, t1, t2, t3, List.mem_append]
    exact .inr (.inr (.inr (.inl hm)))
  · have := hR s.data.toList.length (by
      subst hy0
      simp only [DataW.weights, hu, List.map_cons, List.map_nil, DataW.weightsEach, t0, t1, t2, t3, List.mem_append]
      exact .inl (by simp))
    exact this
end
end Go.Proofs.Ythaodlegpjedoaa
