import Derived.Test.YthaodlegpjedoaaFrameP
import Derived.Test.YthaodlegpjedoaaRowsOf
import Derived.ChangeMaps5
import Derived.Deep.Matrix
import Derived.SizedLaws
import Derived.Test.YthaodlegpjedoaaVKnown
import Derived.Deep.Slices
import Derived.Deep.Fields
import Derived.ChangeSame
import Derived.Lib.SmallJoins
/-
  The arguments opened: bytes, ints, rows of bytes, texts, flags.
-/
namespace Go.Proofs.Ythaodlegpjedoaa
open Go.ChangeShapes Go.WideShapes Go.ChangeAt Go.RowKit Go.Deep

theorem bytesByte : Try.prog.bytesOf 5 = 1 := by kernel_rfl
theorem bytesBytes : Try.prog.bytesOf 29 = 24 := by kernel_rfl
theorem cellsByte : Try.prog.cellsOf 5 = 1 := by kernel_rfl
theorem cellsInt : Try.prog.cellsOf 3 = 1 := by kernel_rfl
theorem cellsBytes : Try.prog.cellsOf 29 = 1 := by kernel_rfl

/-- Whole numbers of a byte's range as bytes. -/
def toBytes (zs : List Int) : List UInt8 := zs.map fun z => UInt8.ofNat z.toNat
theorem toBytes_length (zs : List Int) : (toBytes zs).length = zs.length := by simp [toBytes]
theorem byte_wf {z : Int} (h : (Lit.int .u8 z).wf = true) : 0 ≤ z ∧ z < 256 := by
  simp [Lit.wf, IntKind.min, IntKind.max, IntKind.signed, IntKind.bits] at h
  omega
theorem toBytes_sl {w : World} {A : Option Addr} {n m : Nat} {zs : List Int} (hm : n ≤ m) (hz : zs.length = m) (hw : ∀ z ∈ zs, (Lit.int .u8 z).wf = true)
    (hc : 0 < n → ∃ ad, A = some ad ∧ ∀ i, i < m → w.cell? (ad.add i) = some (.int .u8 (zs.getD i 0))) : Sl w A n (bvs (toBytes (zs.take n))) := by
  have hl : (toBytes (zs.take n)).length = n := by rw [toBytes_length, List.length_take]; omega
  refine ⟨by rw [bvs_length, hl], fun hn => ?_⟩
  obtain ⟨ad, e, hcell⟩ := hc hn
  refine ⟨ad, e, fun j u hu => ?_⟩
  have hj : j < n := by
    have := (List.getElem?_eq_some_iff.1 hu).1
    rw [bvs_length, hl] at this
    exact this
  rw [hcell j (by omega)]
  rw [bvs_get _ _ (by omega)] at hu
  have hz' : j < zs.length := by omega
  have hg : zs.getD j 0 = zs[j] := by simp [List.getD, hz']
  have hb := byte_wf (hw _ (List.getElem_mem hz'))
  have he : (toBytes (zs.take n))[j]'(by omega) = UInt8.ofNat (zs[j]).toNat := by simp [toBytes]
  rw [he] at hu
  rw [← hu, hg]
  unfold bv
  rw [UInt8.toNat_ofNat']
  congr 2
  omega

section
variable {H : Type} {enc : TypeId × Value → H} {W : World}
/-- A slice's length and capacity, as its datum's weight bounds them. -/
def Weighs (d : DataW H) (c : Nat) : Prop := ∀ R, (∀ e s, d = .slice e s → e.length + s.length ≤ R) → c ≤ R
set_option maxRecDepth 100000 in
theorem open_bytes {r : Reach} {b : Nat} {v : Value} {d : DataW H} {p : List MemPlace} (hv : Value.okWide Try.prog W r b 29 v) (h : DataW.Trod enc Try.prog W 0 (fun _ => true) true 29 v d p) :
    ∃ A n c l, v = .slice A n c ∧ Sl W A n (bvs l) ∧ n ≤ c ∧ Weighs d c := by
  obtain ⟨A, n, c, rfl⟩ := okWide_slice Try.underlying29 hv
  obtain ⟨fuel, hf⟩ := h
  rcases open_ints Try.underlying29 Try.underlying5 cellsByte hf with ⟨hcs, _⟩ | ⟨a, len, cap, zs, hcs, _, hl, hm, hz, hx, hcell, hw⟩
  · simp [Value.cells] at hcs
    obtain ⟨rfl, rfl, rfl⟩ := hcs
    exact ⟨none, 0, 0, [], rfl, Sl.none_, Nat.zero_le _, fun R _ => Nat.zero_le _⟩
  · simp [Value.cells] at hcs
    obtain ⟨rfl, rfl, rfl⟩ := hcs
    simp only [if_true] at hz
    refine ⟨some a, n, c, _, rfl, toBytes_sl hl hz hw (fun _ => ⟨a, rfl, fun i hi => hcell i (by omega)⟩), hl, fun R hR => ?_⟩
    injection hx with hx _
    have := hR _ _ hx
    simp only [lits, List.length_map, List.length_take, List.length_drop] at this
    omega
theorem mem_weightsAll {P : Program} {e : TypeId} {d : DataW H} {m : Nat} : ∀ {l : List (DataW H)}, d ∈ l → m ∈ d.weights P e → m ∈ DataW.weightsAll P e l
  | x :: l, hd, hm => by
    simp only [DataW.weightsAll, List.mem_append]
    rcases List.mem_cons.1 hd with rfl | hd
    · exact .inl hm
    · exact .inr (mem_weightsAll hd hm)
set_option maxRecDepth 100000 in
theorem open_rows {r : Reach} {b : Nat} {v : Value} {d : DataW H} {p : List MemPlace} (hv : Value.okWide Try.prog W r b 103 v) (h : DataW.Trod enc Try.prog W 0 (fun _ => true) true 103 v d p) :
    ∃ A n c ls, v = .slice A n c ∧ Rw W A n ls ∧ n ≤ c ∧ Weighs d c ∧ ∀ R, (∀ m ∈ DataW.weights Try.prog 103 d, m ≤ R) → ∀ l ∈ ls, l.length ≤ R := by
  obtain ⟨A, n, c, rfl⟩ := okWide_slice Try.underlying103 hv
  obtain ⟨fuel, hf⟩ := h
  rcases open_int_rows Try.underlying103 Try.underlying29 Try.underlying5 cellsBytes cellsByte hf with ⟨hcs, _⟩ | ⟨a, len, cap, B, L, C, Z, hcs, _, hl, hm, hx, hr⟩
  · simp [Value.cells] at hcs
    obtain ⟨rfl, rfl, rfl⟩ := hcs
    exact ⟨none, 0, 0, [], rfl, Rw.none_, Nat.zero_le _, fun R _ => Nat.zero_le _, fun _ _ _ h => (by cases h)⟩
  · simp [Value.cells] at hcs
    obtain ⟨rfl, rfl, rfl⟩ := hcs
    have hrow : ∀ i, i < n → Sl W (B i) (L i) (bvs (toBytes ((Z i).take (L i)))) ∧ (toBytes ((Z i).take (L i))).length = L i := by
      intro i hi
      obtain ⟨_, h2, h3, h4, h5, h6, h7⟩ := hr i (by omega)
      refine ⟨toBytes_sl h2 h4 h5 (fun hpos => ?_), by rw [toBytes_length, List.length_take]; omega⟩
      cases hB : B i with
      | none => have := h6 hB; omega
      | some ad => exact ⟨ad, rfl, fun j hj => (h7 ad hB).2 j hj⟩
    refine ⟨some a, n, c, (List.range n).map fun i => toBytes ((Z i).take (L i)), rfl, ⟨by simp, (List.range n).map fun i => .slice (B i) (L i) (C i), ⟨by simp, fun _ => ⟨a, rfl, fun j u hu => ?_⟩⟩, fun i l hi => ?_⟩, hl, fun R hR => ?_, fun R hR l hl' => ?_⟩
    · have hj : j < n := by simpa using (List.getElem?_eq_some_iff.1 hu).1
      rw [(hr j (by omega)).1]
      simp [hj] at hu
      rw [hu]
    · have hi' : i < n := by simpa using (List.getElem?_eq_some_iff.1 hi).1
      simp [hi'] at hi
      subst hi
      obtain ⟨h1, h2⟩ := hrow i hi'
      refine ⟨B i, C i, ?_, ?_⟩
      · rw [h2]
        simp [hi']
      · rw [h2]
        exact h1
    · injection hx with hx _
      have := hR _ _ hx
      simp only [List.length_map, List.length_range] at this
      omega
    · simp only [List.mem_map, List.mem_range] at hl'
      obtain ⟨i, hi, rfl⟩ := hl'
      rw [(hrow i hi).2]
      obtain ⟨_, h2, _, h4, _, h6, _⟩ := hr i (by omega)
      injection hx with hx _
      cases hB : B i with
      | none => have := h6 hB; omega
      | some ad =>
        have hw : (L i + (C i - L i)) * 1 ∈ DataW.weights Try.prog 103 d := by
          rw [hx]
          simp only [DataW.weights, Try.underlying103]
          refine List.mem_cons_of_mem _ (List.mem_append_left _ (mem_weightsAll (d := intRow .u8 (B i) (L i) (Z i)) (List.mem_map_of_mem (List.mem_range.2 hi)) ?_))
          rw [hB]
          simp only [intRow, DataW.weights, Try.underlying29, lits, List.length_map, List.length_take, List.length_drop, bytesByte, h4]
          rw [Nat.min_eq_left h2]
          exact List.mem_cons_self
        have := hR _ hw
        omega
set_option maxRecDepth 100000 in
theorem open_byte {r : Reach} {b : Nat} {v : Value} {d : DataW H} {p : List MemPlace} (hv : Value.okWide Try.prog W r b 5 v) (h : DataW.Trod enc Try.prog W 0 (fun _ => true) true 5 v d p) :
    ∃ x : UInt8, v = bv x := by
  obtain ⟨x, rfl, _, _, wx⟩ := open_int Try.underlying5 hv h
  have := byte_wf wx
  refine ⟨UInt8.ofNat x.toNat, ?_⟩
  unfold bv
  rw [UInt8.toNat_ofNat']
  congr 1
  omega
set_option maxRecDepth 100000 in
theorem open_num {r : Reach} {b : Nat} {v : Value} {d : DataW H} {p : List MemPlace} (hv : Value.okWide Try.prog W r b 3 v) (h : DataW.Trod enc Try.prog W 0 (fun _ => true) true 3 v d p) :
    ∃ x : Int, v = .int .i64 x ∧ -9223372036854775808 ≤ x ∧ x ≤ 9223372036854775807 := by
  obtain ⟨x, rfl, _, _, wx⟩ := open_int Try.underlying3 hv h
  exact ⟨x, rfl, (int_bounds wx).1, (int_bounds wx).2⟩
set_option maxRecDepth 100000 in
theorem open_text {r : Reach} {b : Nat} {v : Value} {d : DataW H} {p : List MemPlace} (hv : Value.okWide Try.prog W r b 9 v) (h : DataW.Trod enc Try.prog W 0 (fun _ => true) true 9 v d p) :
    ∃ s : ByteArray, v = .string s ∧ d = .lit (.string s.data.toList) ∧ s.size ≤ maxLen := by
  obtain ⟨s, rfl, rfl, _, hs⟩ := ChangeMaps.open_string Try.underlying9 hv h
  exact ⟨s, rfl, rfl, hs⟩
set_option maxRecDepth 100000 in
theorem open_flag {r : Reach} {b : Nat} {v : Value} {d : DataW H} {p : List MemPlace} (hv : Value.okWide Try.prog W r b 4 v) (h : DataW.Trod enc Try.prog W 0 (fun _ => true) true 4 v d p) : ∃ x : Bool, v = .bool x := by
  obtain ⟨x, rfl, _⟩ := open_bool Try.underlying4 hv h
  exact ⟨x, rfl⟩
end
end Go.Proofs.Ythaodlegpjedoaa
/-
  The arguments opened: mailboxes (structs of four cells with a slice of messages), acts (structs of six cells with two slices).
-/
namespace Go.Proofs.Ythaodlegpjedoaa
open Go.Joins Go.ChangeShapes Go.WideShapes Go.ChangeAt Go.RowKit Go.Deep

theorem oneMg : ∃ f0 f1 f2 f3, Try.prog.underlying 62 = some (.struct #[f0, f1, f2, f3]) ∧ f0.type = 3 ∧ f1.type = 3 ∧ f2.type = 3 ∧ f3.type = 29 ∧ oneCellFields Try.prog #[f0, f1, f2, f3] = true := ⟨_, _, _, _, Try.underlying62, rfl, rfl, rfl, rfl, by kernel_rfl⟩
theorem cellsMg : Try.prog.cellsOf 62 = 4 := by kernel_rfl
theorem bytesMg : Try.prog.bytesOf 62 = 48 := by kernel_rfl
theorem oneBx : ∃ f0 f1 f2 f3, Try.prog.underlying 26 = some (.struct #[f0, f1, f2, f3]) ∧ f0.type = 9 ∧ f1.type = 3 ∧ f2.type = 3 ∧ f3.type = 24 ∧ oneCellFields Try.prog #[f0, f1, f2, f3] = true := ⟨_, _, _, _, Try.underlying26, rfl, rfl, rfl, rfl, by kernel_rfl⟩
theorem bytesInt : Try.prog.bytesOf 3 = 8 := by kernel_rfl
theorem cellsBx : Try.prog.cellsOf 26 = 4 := by kernel_rfl

section
variable {H : Type} {enc : TypeId × Value → H} {W : World}
/-- A slice of bytes inside something read. -/
theorem bytes_in {n' : Nat} {v1 : Value} {y1 : DataW H × List MemPlace} (h1' : DataW.trod enc Try.prog W 0 (fun _ => true) true n' 29 [v1] = some y1) :
    ∃ (A : Option Addr) (c : Nat) (b : List UInt8), v1 = .slice A b.length c ∧ Sl W A b.length (bvs b) ∧ ∀ R, (∀ m ∈ DataW.weights Try.prog 29 y1.1, m ≤ R) → b.length ≤ R := by
  rcases open_ints Try.underlying29 Try.underlying5 cellsByte h1' with ⟨hv, _⟩ | ⟨a, len, cap, zs, hv, _, hl, hm, hz, hx, hcell, hw⟩
  · simp only [List.cons.injEq, and_true] at hv
    subst hv
    exact ⟨none, 0, [], rfl, Sl.none_, fun R _ => Nat.zero_le _⟩
  · simp only [List.cons.injEq, and_true] at hv
    subst hv
    simp only [if_true] at hz
    have hs : Sl W (some a) len (bvs (toBytes (zs.take len))) := toBytes_sl hl hz hw (fun _ => ⟨a, rfl, fun i hi => hcell i (by omega)⟩)
    have hlen2 : (toBytes (zs.take len)).length = len := by rw [toBytes_length, List.length_take]; omega
    refine ⟨some a, cap, toBytes (zs.take len), by rw [hlen2], by rw [hlen2]; exact hs, fun R h3 => ?_⟩
    rw [hx] at h3
    simp only [DataW.weights, Try.underlying29, lits, List.length_map, List.length_take, List.length_drop, bytesByte, hz] at h3
    have := h3 _ List.mem_cons_self
    rw [hlen2]
    omega
/-- A slice of numbers inside something read. -/
theorem ints_in {n' : Nat} {v1 : Value} {y1 : DataW H × List MemPlace} (h1' : DataW.trod enc Try.prog W 0 (fun _ => true) true n' 28 [v1] = some y1) :
    ∃ (A : Option Addr) (c : Nat) (b : List Int), v1 = .slice A b.length c ∧ Sl W A b.length (ivs b) ∧ ∀ R, (∀ m ∈ DataW.weights Try.prog 28 y1.1, m ≤ R) → b.length ≤ R := by
  rcases open_ints Try.underlying28 Try.underlying3 cellsInt h1' with ⟨hv, _⟩ | ⟨a, len, cap, zs, hv, _, hl, hm, hz, hx, hcell, hw⟩
  · simp only [List.cons.injEq, and_true] at hv
    subst hv
    exact ⟨none, 0, [], rfl, Sl.none_, fun R _ => Nat.zero_le _⟩
  · simp only [List.cons.injEq, and_true] at hv
    subst hv
    simp only [if_true] at hz
    have hlen2 : (zs.take len).length = len := by rw [List.length_take]; omega
    refine ⟨some a, cap, zs.take len, by rw [hlen2], ?_, fun R h3 => ?_⟩
    · rw [hlen2]
      refine ⟨by simp [hlen2], fun _ => ⟨a, rfl, fun j u hu => ?_⟩⟩
      have hj : j < len := by
        have := (List.getElem?_eq_some_iff.1 hu).1
        rw [ivs_length, hlen2] at this
        exact this
      rw [ivs_get _ _ (by omega)] at hu
      rw [hcell j (by omega), ← hu]
      simp [List.getD, show j < zs.length by omega]
    · rw [hx] at h3
      simp only [DataW.weights, Try.underlying28, lits, List.length_map, List.length_take, List.length_drop, bytesInt, hz] at h3
      have := h3 _ List.mem_cons_self
      rw [hlen2]
      omega
set_option maxRecDepth 100000 in
theorem open_nums {r : Reach} {b : Nat} {v : Value} {d : DataW H} {p : List MemPlace} (hv : Value.okWide Try.prog W r b 28 v) (h : DataW.Trod enc Try.prog W 0 (fun _ => true) true 28 v d p) :
    ∃ A n c vs, v = .slice A n c ∧ Sl W A n (ivs vs) ∧ Fits vs ∧ n ≤ c ∧ Weighs d c := by
  obtain ⟨A, n, c, rfl⟩ := okWide_slice Try.underlying28 hv
  obtain ⟨fuel, hf⟩ := h
  rcases open_ints Try.underlying28 Try.underlying3 cellsInt hf with ⟨hcs, _⟩ | ⟨a, len, cap, zs, hcs, _, hl, hm, hz, hx, hcell, hw⟩
  · simp [Value.cells] at hcs
    obtain ⟨rfl, rfl, rfl⟩ := hcs
    exact ⟨none, 0, 0, [], rfl, Sl.none_, fun _ h => (by cases h), Nat.zero_le _, fun R _ => Nat.zero_le _⟩
  · simp [Value.cells] at hcs
    obtain ⟨rfl, rfl, rfl⟩ := hcs
    simp only [if_true] at hz
    refine ⟨some a, n, c, zs.take n, rfl, ⟨by rw [ivs_length, List.length_take]; omega, fun _ => ⟨a, rfl, fun j u hu => ?_⟩⟩, fun z hz => int_bounds (hw z (List.mem_of_mem_take hz)), hl, fun R hR => ?_⟩
    rotate_left
    · injection hx with hx _
      have := hR _ _ hx
      simp only [lits, List.length_map, List.length_take, List.length_drop] at this
      omega
    have hj : j < n := by
      have := (List.getElem?_eq_some_iff.1 hu).1
      rw [ivs_length, List.length_take] at this
      omega
    have hz' : j < zs.length := by omega
    rw [hcell j (by omega)]
    rw [ivs_get _ _ (by rw [List.length_take]; omega)] at hu
    rw [← hu]
    simp [List.getD, hz']
set_option maxRecDepth 100000 in
/-- One message read. -/
theorem mg_read {fuel i : Nat} {ad : Addr} {cs : List Value} {D : DataW H} {Pl : List MemPlace} (hc : W.cells? 0 (ad.add (i * 4)) 4 = some cs) (h : DataW.trod enc Try.prog W 0 (fun _ => true) true fuel 62 cs = some (D, Pl)) :
    ∃ (m : Mg) (Ab : Option Addr) (cb : Nat), W.cell? (ad.add (i * 4)) = some (.int .i64 m.uid) ∧ W.cell? (ad.add (i * 4 + 1)) = some (.int .i64 m.flags) ∧ W.cell? (ad.add (i * 4 + 2)) = some (.int .i64 m.date) ∧ W.cell? (ad.add (i * 4 + 3)) = some (.slice Ab m.body.length cb) ∧ Sl W Ab m.body.length (bvs m.body) ∧
      ∀ R, (∀ x ∈ DataW.weights Try.prog 62 D, x ≤ R) → m.body.length ≤ R := by
  obtain ⟨f0, f1, f2, f3, hu, t0, t1, t2, t3, hone⟩ := oneMg
  obtain ⟨ys, n', _, hy, hlen, hyl, hf⟩ := DataW.trod_struct hu h
  obtain ⟨_, hcl, hat⟩ := World.cells?_some hc
  obtain ⟨o0, k0⟩ := hone_of hone 0 f0 rfl
  obtain ⟨o1, k1⟩ := hone_of hone 1 f1 rfl
  obtain ⟨o2, k2⟩ := hone_of hone 2 f2 rfl
  obtain ⟨o3, k3⟩ := hone_of hone 3 f3 rfl
  match cs, hcl with
  | [v0, v1, v2, v3], _ =>
    have h0 := hf 0 f0 rfl
    have h1 := hf 1 f1 rfl
    have h2 := hf 2 f2 rfl
    have h3 := hf 3 f3 rfl
    rw [o0, k0, t0] at h0
    rw [o1, k1, t1] at h1
    rw [o2, k2, t2] at h2
    rw [o3, k3, t3] at h3
    match ys, hyl with
    | [y0, y1, y2, y3], _ =>
      simp only [Prod.mk.injEq] at hy
      obtain ⟨rfl, _⟩ := hy
      obtain ⟨z0, e0, _, _⟩ := DataW.trod_int Try.underlying3 (show DataW.trod enc Try.prog W 0 (fun _ => true) true n' 3 [v0] = some y0 from h0)
      obtain ⟨z1, e1, _, _⟩ := DataW.trod_int Try.underlying3 (show DataW.trod enc Try.prog W 0 (fun _ => true) true n' 3 [v1] = some y1 from h1)
      obtain ⟨z2, e2, _, _⟩ := DataW.trod_int Try.underlying3 (show DataW.trod enc Try.prog W 0 (fun _ => true) true n' 3 [v2] = some y2 from h2)
      simp only [List.cons.injEq, and_true] at e0 e1 e2
      subst e0 e1 e2
      obtain ⟨A, c, b, rfl, hs, hb⟩ := bytes_in (show DataW.trod enc Try.prog W 0 (fun _ => true) true n' 29 [v3] = some y3 from h3)
      have c0 := hat 0 (by omega)
      have c1 := hat 1 (by omega)
      have c2 := hat 2 (by omega)
      have c3 := hat 3 (by omega)
      rw [Go.Deep.add_add] at c0 c1 c2 c3
      refine ⟨⟨z0, z1, z2, b⟩, A, c, c0, c1, c2, c3, hs, fun R hR => hb R fun m hm => hR m ?_⟩
      simp only [DataW.weights, hu, List.map_cons, List.map_nil, DataW.weightsEach, t0, t1, t2, t3, List.mem_append]
      exact .inr (.inr (.inr (.inl hm)))
theorem weightsAll_mem {P : Program} {e : TypeId} {d : DataW H} {m : Nat} : ∀ {l : List (DataW H)}, d ∈ l → m ∈ DataW.weights P e d → m ∈ DataW.weightsAll P e l
  | x :: l, hd, hm => by
    simp only [DataW.weightsAll, List.mem_append]
    rcases List.mem_cons.1 hd with rfl | hd
    · exact .inl hm
    · exact .inr (weightsAll_mem hd hm)
set_option maxRecDepth 100000 in
/-- A slice of messages inside something read. -/
theorem msgs_in {n' : Nat} {v1 : Value} {y1 : DataW H × List MemPlace} (h1' : DataW.trod enc Try.prog W 0 (fun _ => true) true n' 24 [v1] = some y1) :
    ∃ (A : Option Addr) (c : Nat) (l : List Mg), v1 = .slice A l.length c ∧ Ms AnyB W A l.length l ∧ ∀ R, (∀ m ∈ DataW.weights Try.prog 24 y1.1, m ≤ R) → l.length ≤ R := by
  rcases open_slice Try.underlying24 h1' with ⟨hcs, _⟩ | ⟨a, len, cap, m, n', D, Pl, hcs, _, hl, hm, hmm, hx, hi⟩
  · simp only [List.cons.injEq, and_true] at hcs
    subst hcs
    exact ⟨none, 0, [], rfl, Ms.nil _ _ _, fun _ _ => Nat.zero_le _⟩
  · simp only [List.cons.injEq, and_true] at hcs
    subst hcs
    simp only [if_true] at hmm
    subst hmm
    rw [cellsMg] at hi
    have key : ∀ i, i < len → ∃ (q : Mg × Option Addr × Nat), W.cell? (a.add (i * 4)) = some (.int .i64 q.1.uid) ∧ W.cell? (a.add (i * 4 + 1)) = some (.int .i64 q.1.flags) ∧ W.cell? (a.add (i * 4 + 2)) = some (.int .i64 q.1.date) ∧ W.cell? (a.add (i * 4 + 3)) = some (.slice q.2.1 q.1.body.length q.2.2) ∧ Sl W q.2.1 q.1.body.length (bvs q.1.body) := fun i hin => by
      obtain ⟨cs', h1, h2⟩ := hi i (by omega)
      obtain ⟨m, Ab, cb, c0, c1, c2, c3, hs, _⟩ := mg_read h1 h2
      exact ⟨(m, Ab, cb), c0, c1, c2, c3, hs⟩
    obtain ⟨X, hX⟩ : ∃ X : Nat → Mg × Option Addr × Nat, ∀ i, i < len → W.cell? (a.add (i * 4)) = some (.int .i64 (X i).1.uid) ∧ W.cell? (a.add (i * 4 + 1)) = some (.int .i64 (X i).1.flags) ∧ W.cell? (a.add (i * 4 + 2)) = some (.int .i64 (X i).1.date) ∧ W.cell? (a.add (i * 4 + 3)) = some (.slice (X i).2.1 (X i).1.body.length (X i).2.2) ∧ Sl W (X i).2.1 (X i).1.body.length (bvs (X i).1.body) :=
      ⟨fun i => if h : i < len then (key i h).choose else (⟨0, 0, 0, []⟩, none, 0), fun i h => by simp only [dif_pos h]; exact (key i h).choose_spec⟩
    have hlen : ((List.range len).map fun i => (X i).1).length = len := by simp
    let vs : Nat → Value := fun j => if j % 4 = 0 then .int .i64 (X (j / 4)).1.uid else if j % 4 = 1 then .int .i64 (X (j / 4)).1.flags else if j % 4 = 2 then .int .i64 (X (j / 4)).1.date else .slice (X (j / 4)).2.1 (X (j / 4)).1.body.length (X (j / 4)).2.2
    have hvs : ∀ i, vs (i * 4) = .int .i64 (X i).1.uid ∧ vs (i * 4 + 1) = .int .i64 (X i).1.flags ∧ vs (i * 4 + 2) = .int .i64 (X i).1.date ∧ vs (i * 4 + 3) = .slice (X i).2.1 (X i).1.body.length (X i).2.2 := fun i => by
      refine ⟨?_, ?_, ?_, ?_⟩
      · show (if (i * 4) % 4 = 0 then _ else _) = _; rw [if_pos (by omega), show i * 4 / 4 = i by omega]
      · show (if (i * 4 + 1) % 4 = 0 then _ else if (i * 4 + 1) % 4 = 1 then _ else _) = _; rw [if_neg (by omega), if_pos (by omega), show (i * 4 + 1) / 4 = i by omega]
      · show (if (i * 4 + 2) % 4 = 0 then _ else if (i * 4 + 2) % 4 = 1 then _ else if (i * 4 + 2) % 4 = 2 then _ else _) = _; rw [if_neg (by omega), if_neg (by omega), if_pos (by omega), show (i * 4 + 2) / 4 = i by omega]
      · show (if (i * 4 + 3) % 4 = 0 then _ else if (i * 4 + 3) % 4 = 1 then _ else if (i * 4 + 3) % 4 = 2 then _ else _) = _; rw [if_neg (by omega), if_neg (by omega), if_neg (by omega), show (i * 4 + 3) / 4 = i by omega]
    have hget : ∀ j, j < len * 4 → ((List.range (len * 4)).map vs)[j]? = some (vs j) := fun j hj => by simp [hj]
    refine ⟨some a, m, (List.range len).map fun i => (X i).1, by rw [hlen], ⟨rfl, (List.range (len * 4)).map vs, by simp, fun _ => ⟨a, rfl, trivial, fun j u hu => ?_⟩, fun i q hq => ?_⟩, fun R hR => ?_⟩
    · have hj : j < len * 4 := by
        have := (List.getElem?_eq_some_iff.1 hu).1
        simpa using this
      rw [hget j hj] at hu
      injection hu with hu
      subst hu
      obtain ⟨x0, x1, x2, x3, _⟩ := hX (j / 4) (by omega)
      obtain ⟨e0, e1, e2, e3⟩ := hvs (j / 4)
      rcases (by omega : j = j / 4 * 4 ∨ j = j / 4 * 4 + 1 ∨ j = j / 4 * 4 + 2 ∨ j = j / 4 * 4 + 3) with e | e | e | e
      · rw [e, e0]; exact x0
      · rw [e, e1]; exact x1
      · rw [e, e2]; exact x2
      · rw [e, e3]; exact x3
    · have hin : i < len := by simpa using (List.getElem?_eq_some_iff.1 hq).1
      simp [hin] at hq
      subst hq
      obtain ⟨x0, x1, x2, x3, x4⟩ := hX i hin
      obtain ⟨e0, e1, e2, e3⟩ := hvs i
      exact ⟨(X i).2.1, (X i).2.2, by rw [hget _ (by omega), e0], by rw [hget _ (by omega), e1], by rw [hget _ (by omega), e2], by rw [hget _ (by omega), e3], x4, fun _ _ _ => trivial⟩
    · rw [hlen]
      rw [hx] at hR
      simp only [DataW.weights, Try.underlying24, List.length_map, List.length_range, bytesMg] at hR
      have := hR _ List.mem_cons_self
      omega
set_option maxRecDepth 100000 in
/-- A mailbox read. -/
theorem open_box {r : Reach} {b0 : Nat} {v : Value} {d : DataW H} {p : List MemPlace} (hv : Value.okWide Try.prog W r b0 26 v) (h : DataW.Trod enc Try.prog W 0 (fun _ => true) true 26 v d p) :
    ∃ (b : Bx) (A : Option Addr) (c : Nat), v = bxv b A c ∧ Ms AnyB W A b.l.length b.l ∧ ∀ R, (∀ m ∈ DataW.weights Try.prog 26 d, m ≤ R) → b.l.length ≤ R ∧ b.name.length ≤ R := by
  obtain ⟨f0, f1, f2, f3, hu, t0, t1, t2, t3, hone⟩ := oneBx
  obtain ⟨v0, v1, v2, v3, y0, y1, y2, y3, n, rfl, rfl, _, h0, h1, h2, h3⟩ := open_agg4 hu hone cellsBx hv h
  rw [t0] at h0
  rw [t1] at h1
  rw [t2] at h2
  rw [t3] at h3
  obtain ⟨s, hs, hy0, _⟩ := DataW.trod_string Try.underlying9 h0
  obtain ⟨z1, e1, _, _⟩ := DataW.trod_int Try.underlying3 h1
  obtain ⟨z2, e2, _, _⟩ := DataW.trod_int Try.underlying3 h2
  simp only [List.cons.injEq, and_true] at hs e1 e2
  subst hs e1 e2
  obtain ⟨A, c, l, rfl, hM, hW⟩ := msgs_in h3
  refine ⟨⟨s.data.toList, z1, z2, l⟩, A, c, by unfold bxv; rw [St_data], hM, fun R hR => ⟨hW R fun m hm => hR m ?_, ?_⟩⟩
  · simp only [DataW.weights, hu, List.map_cons, List.map_nil, DataW.weightsEach, t0, t1, t2, t3, List.mem_append]
    exact .inr (.inr (.inr (.inl hm)))
  · have := hR s.data.toList.length (by
      subst hy0
      simp only [DataW.weights, hu, List.map_cons, List.map_nil, DataW.weightsEach, t0, t1, t2, t3, List.mem_append]
      exact .inl (by simp))
    exact this
end
end Go.Proofs.Ythaodlegpjedoaa
/-
  Bytes opened, with the block that they lie in.
-/
namespace Go.Proofs.Ythaodlegpjedoaa
open Go.Joins Go.ChangeShapes Go.WideShapes Go.ChangeAt Go.RowKit Go.Deep

section
variable {H : Type} {enc : TypeId × Value → H} {W : World}
set_option maxRecDepth 100000 in
/-- Bytes open, and their block is there. -/
theorem open_bytesb {r : Reach} {b : Nat} {v : Value} {d : DataW H} {p : List MemPlace} (hv : Value.okWide Try.prog W r b 29 v) (h : DataW.Trod enc Try.prog W 0 (fun _ => true) true 29 v d p) :
    ∃ A n c l, v = .slice A n c ∧ Sl W A n (bvs l) ∧ n ≤ c ∧ Weighs d c ∧ ∀ x ∈ blks A, x < W.heap.size := by
  obtain ⟨A, n, c, l, rfl, h1, h2, h3⟩ := open_bytes hv h
  refine ⟨A, n, c, l, rfl, h1, h2, h3, fun x hx => ?_⟩
  cases A with
  | none => cases hx
  | some a =>
    simp only [Value.okWide, Try.underlying29, Cell.okWide, Cell.ok, World.has] at hv
    obtain ⟨_, _, _, _, row, cells, hs, _⟩ := hv
    rw [blks_some, List.mem_singleton] at hx
    subst hx
    unfold World.shape? at hs
    exact Decidable.byContradiction fun hge => by
      rw [Array.getElem?_eq_none (by omega)] at hs
      cases hs
end
end Go.Proofs.Ythaodlegpjedoaa
