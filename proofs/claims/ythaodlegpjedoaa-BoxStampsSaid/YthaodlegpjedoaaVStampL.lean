/-
  The law BoxStamps.
-/
import Derived.Test.YthaodlegpjedoaaVStamp
import Derived.Test.YthaodlegpjedoaaVGone
import Derived.Test.YthaodlegpjedoaaVGoneL
import Derived.Test.YthaodlegpjedoaaVRefAdd0
import Derived.Test.YthaodlegpjedoaaInv
import Derived.Test.YthaodlegpjedoaaRel
import Derived.Test.YthaodlegpjedoaaRelOps
namespace Go.Proofs.Ythaodlegpjedoaa
open Go.RowKit Go.Instr

theorem stamp_w53 {l : List Mg} (hs : ∀ m ∈ l, -1048576 < m.uid ∧ m.uid < 1048576) (hn : l.length ≤ 8000) {x y : Int} (h : stampI l = (x, y)) : W53 x ∧ W53 y := by
  unfold stampI at h
  rw [pol_i] at h
  have hss : ∀ z ∈ l.map Mg.uid, -1048576 < z ∧ z < 1048576 := fun z hz => by obtain ⟨m, hm, rfl⟩ := List.mem_map.1 hz; exact hs m hm
  have b0 := fr_w53 hss 0 l.length hn
  have b1 := fr_w53 hss 1 l.length hn
  have b2 := fr_w53 hss 2 l.length hn
  have b3 := fr_w53 hss 3 l.length hn
  injection h with hx hy
  subst hx hy
  exact ⟨w53 (by omega) (by omega), w53 (by omega) (by omega)⟩
/-- Both, their answers named. -/
theorem stamp_as {S : Nat → Prop} {w : World} {s : List UInt8} {v nx : Int} {l : List Mg} {n c : Nat} {A : Option Addr} (hl : l.length = n) (h : Ms S w A n l) (hn : n ≤ 1000) (hs : ∀ m ∈ l, -1048576 < m.uid ∧ m.uid < 1048576) (x y : Int) (hxy : stampI l = (x, y)) :
    Calls Try.prog 30 #[.agg #[.string (St s), .int .i64 v, .int .i64 nx, .slice A n c]] w fun e w' => e = .returned (.complex .f64 (FI x) (FI y)) ∧ Only [] w w' := by
  subst hl
  exact Stamp_any ⟨s, v, nx, l⟩ h hn hs x y hxy
theorem refStamp_as {S : Nat → Prop} {w : World} {s : List UInt8} {v nx : Int} {l : List Mg} {n c : Nat} {A : Option Addr} (hl : l.length = n) (h : Ms S w A n l) (hn : n ≤ 1000) (hs : ∀ m ∈ l, -1048576 < m.uid ∧ m.uid < 1048576) (x y : Int) (hxy : stampI l = (x, y)) :
    Calls Try.prog 29 #[.agg #[.string (St s), .int .i64 v, .int .i64 nx, .slice A n c]] w fun e w' => e = .returned (.agg #[.int .i64 x, .int .i64 y]) ∧ Only [] w w' := by
  subst hl
  exact refStamp_any ⟨s, v, nx, l⟩ h hn hs x y hxy
/-- What always holds in the law's drawn region: two numbers are computed and laid in two new blocks. -/
def gcv (x y : Int) : Array Value := #[.int .i64 x, .int .i64 y]
def ptr (g : Nat) : Value := .pointer (some ⟨g, 0, none⟩)
def StI (w5 : World) (vb vc : Value) (x1 y1 x2 y2 : Int) (L : Nat → Bool) (vs : Nat → Value) (w : World) : Prop :=
  Only [] w5 w ∧ ((L 0 = true → vs 0 = vb) ∧ (L 1 = true → vs 1 = .agg (gcv x1 y1)) ∧ (L 2 = true → vs 2 = vc) ∧ (L 3 = true → vs 3 = .agg (gcv x2 y2))) ∧
    (L 4 = true → ∃ g, vs 4 = ptr g ∧ w5.heap.size ≤ g ∧ Bk w g 52 (if L 6 = true then gcv x1 y1 else gcv 0 0)) ∧
    (L 5 = true → ∃ g, vs 5 = ptr g ∧ w5.heap.size ≤ g ∧ Bk w g 52 (if L 7 = true then gcv x2 y2 else gcv 0 0)) ∧
    (L 4 = true → L 5 = true → vs 4 ≠ vs 5) ∧ (L 6 = true → L 4 = true) ∧ (L 7 = true → L 5 = true)
section
variable {w5 w w' : World} {vb vc : Value} {x1 y1 x2 y2 : Int} {L : Nat → Bool} {vs : Nat → Value}
theorem StI.s0 (h : StI w5 vb vc x1 y1 x2 y2 L vs w) : StI w5 vb vc x1 y1 x2 y2 (updN L 0 true) (updN vs 0 vb) w := by
  obtain ⟨o, ⟨h0, h1, h2, h3⟩, h4, h5, h6, h7, h8⟩ := h
  refine ⟨o, ⟨?_, ?_, ?_, ?_⟩, ?_, ?_, ?_, ?_, ?_⟩ <;> first | (simp [updN]; done) | (simp [updN]; assumption)
theorem StI.s2 (h : StI w5 vb vc x1 y1 x2 y2 L vs w) : StI w5 vb vc x1 y1 x2 y2 (updN L 2 true) (updN vs 2 vc) w := by
  obtain ⟨o, ⟨h0, h1, h2, h3⟩, h4, h5, h6, h7, h8⟩ := h
  refine ⟨o, ⟨?_, ?_, ?_, ?_⟩, ?_, ?_, ?_, ?_, ?_⟩ <;> first | (simp [updN]; done) | (simp [updN]; assumption)
theorem StI.keep (h : StI w5 vb vc x1 y1 x2 y2 L vs w) (o' : Only [] w w') : StI w5 vb vc x1 y1 x2 y2 L vs w' := by
  obtain ⟨o, h3, h4, h5, h6, h7, h8⟩ := h
  exact ⟨o.then o', h3, fun hl => by obtain ⟨g, e, hg, hb⟩ := h4 hl; exact ⟨g, e, hg, hb.only o' (by simp)⟩, fun hl => by obtain ⟨g, e, hg, hb⟩ := h5 hl; exact ⟨g, e, hg, hb.only o' (by simp)⟩, h6, h7, h8⟩
theorem StI.s1 (h : StI w5 vb vc x1 y1 x2 y2 L vs w) : StI w5 vb vc x1 y1 x2 y2 (updN L 1 true) (updN vs 1 (.agg (gcv x1 y1))) w := by
  obtain ⟨o, ⟨h0, h1, h2, h3⟩, h4, h5, h6, h7, h8⟩ := h
  refine ⟨o, ⟨?_, ?_, ?_, ?_⟩, ?_, ?_, ?_, ?_, ?_⟩ <;> first | (simp [updN]; done) | (simp [updN]; assumption)
theorem StI.s3 (h : StI w5 vb vc x1 y1 x2 y2 L vs w) : StI w5 vb vc x1 y1 x2 y2 (updN L 3 true) (updN vs 3 (.agg (gcv x2 y2))) w := by
  obtain ⟨o, ⟨h0, h1, h2, h3⟩, h4, h5, h6, h7, h8⟩ := h
  refine ⟨o, ⟨?_, ?_, ?_, ?_⟩, ?_, ?_, ?_, ?_, ?_⟩ <;> first | (simp [updN]; done) | (simp [updN]; assumption)
theorem StI.s4 (h : StI w5 vb vc x1 y1 x2 y2 L vs w) (hL : L 4 = false) : StI w5 vb vc x1 y1 x2 y2 (updN L 4 true) (updN vs 4 (ptr w.heap.size)) (w.alloc (.cells (gcv 0 0) 52)) := by
  have hsz := h.1.size
  have hb := Bk.new w 52 (gcv 0 0)
  have hlt : ∀ g, L 5 = true → vs 5 = ptr g → g < w.heap.size := fun g hl e => by
    obtain ⟨g', e', _, hb'⟩ := h.2.2.2.1 hl
    rw [e] at e'
    injection e' with e'
    injection e' with e'
    injection e' with e'
    subst e'
    exact hb'.lt
  obtain ⟨o, ⟨h0, h1, h2, h3⟩, h4, h5, h6, h7, h8⟩ := h.keep ((Only.refl [] w).alloc (.cells (gcv 0 0) 52))
  have h6f : L 6 = false := by
    cases e : L 6 with
    | false => rfl
    | true => rw [h7 e] at hL; cases hL
  refine ⟨o, ⟨?_, ?_, ?_, ?_⟩, ?_, ?_, ?_, ?_, ?_⟩
  · first | (simp [updN]; done) | (simp [updN]; assumption)
  · first | (simp [updN]; done) | (simp [updN]; assumption)
  · first | (simp [updN]; done) | (simp [updN]; assumption)
  · first | (simp [updN]; done) | (simp [updN]; assumption)
  · intro _
    refine ⟨w.heap.size, by simp [updN], hsz, ?_⟩
    simpa [updN, h6f] using hb
  · first | (simp [updN]; done) | (simp [updN]; assumption)
  · intro _ hl
    have hl' : L 5 = true := by simpa [updN] using hl
    obtain ⟨g, e, _, _⟩ := h5 hl'
    have := hlt g hl' e
    simp [updN]
    rw [e]
    unfold ptr
    intro hh
    injection hh with hh
    injection hh with hh
    injection hh with hh
    omega
  · first | (simp [updN]; done) | (simp [updN]; assumption)
  · first | (simp [updN]; done) | (simp [updN]; assumption)
theorem StI.s5 (h : StI w5 vb vc x1 y1 x2 y2 L vs w) (hL : L 5 = false) : StI w5 vb vc x1 y1 x2 y2 (updN L 5 true) (updN vs 5 (ptr w.heap.size)) (w.alloc (.cells (gcv 0 0) 52)) := by
  have hsz := h.1.size
  have hb := Bk.new w 52 (gcv 0 0)
  have hlt : ∀ g, L 4 = true → vs 4 = ptr g → g < w.heap.size := fun g hl e => by
    obtain ⟨g', e', _, hb'⟩ := h.2.2.1 hl
    rw [e] at e'
    injection e' with e'
    injection e' with e'
    injection e' with e'
    subst e'
    exact hb'.lt
  obtain ⟨o, ⟨h0, h1, h2, h3⟩, h4, h5, h6, h7, h8⟩ := h.keep ((Only.refl [] w).alloc (.cells (gcv 0 0) 52))
  have h6f : L 7 = false := by
    cases e : L 7 with
    | false => rfl
    | true => rw [h8 e] at hL; cases hL
  refine ⟨o, ⟨?_, ?_, ?_, ?_⟩, ?_, ?_, ?_, ?_, ?_⟩
  · first | (simp [updN]; done) | (simp [updN]; assumption)
  · first | (simp [updN]; done) | (simp [updN]; assumption)
  · first | (simp [updN]; done) | (simp [updN]; assumption)
  · first | (simp [updN]; done) | (simp [updN]; assumption)
  · first | (simp [updN]; done) | (simp [updN]; assumption)
  · intro _
    refine ⟨w.heap.size, by simp [updN], hsz, ?_⟩
    simpa [updN, h6f] using hb
  · intro hl _
    have hl' : L 4 = true := by simpa [updN] using hl
    obtain ⟨g, e, _, _⟩ := h4 hl'
    have := hlt g hl' e
    simp [updN]
    rw [e]
    unfold ptr
    intro hh
    injection hh with hh
    injection hh with hh
    injection hh with hh
    omega
  · first | (simp [updN]; done) | (simp [updN]; assumption)
  · first | (simp [updN]; done) | (simp [updN]; assumption)
theorem StI.s6 (h : StI w5 vb vc x1 y1 x2 y2 L vs w) {g : Nat} (hl : L 4 = true) (hv : vs 4 = ptr g) :
    StI w5 vb vc x1 y1 x2 y2 (updN L 6 true) (updN vs 6 undef) ((w.setCell ⟨g, 0, none⟩ (.int .i64 x1)).setCell ⟨g, 1, none⟩ (.int .i64 y1)) := by
  obtain ⟨o, ⟨h0, h1, h2, h3⟩, h4, h5, h6, h7, h8⟩ := h
  obtain ⟨g', e', hg, hb⟩ := h4 hl
  rw [hv] at e'
  injection e' with e'
  injection e' with e'
  injection e' with e'
  subst e'
  have hs : Bk ((w.setCell ⟨g, 0, none⟩ (.int .i64 x1)).setCell ⟨g, 1, none⟩ (.int .i64 y1)) g 52 (gcv x1 y1) := by
    have := (hb.set 0 (.int .i64 x1)).set 1 (.int .i64 y1)
    cases e : L 6 <;> simpa [e, gcv] using this
  have ho : Only [g] w ((w.setCell ⟨g, 0, none⟩ (.int .i64 x1)).setCell ⟨g, 1, none⟩ (.int .i64 y1)) := ((Only.refl [g] w).setCell (.inl (by simp)) _).setCell (.inl (by simp)) _
  refine ⟨o.trans ho (fun q hq => .inr (by simp at hq; omega)), ⟨?_, ?_, ?_, ?_⟩, ?_, ?_, ?_, ?_, ?_⟩
  · first | (simp [updN]; done) | (simp [updN]; assumption)
  · first | (simp [updN]; done) | (simp [updN]; assumption)
  · first | (simp [updN]; done) | (simp [updN]; assumption)
  · first | (simp [updN]; done) | (simp [updN]; assumption)
  · intro _
    exact ⟨g, by simpa [updN] using hv, hg, by simpa [updN] using hs⟩
  · intro hl5
    have hl5' : L 5 = true := by simpa [updN] using hl5
    obtain ⟨g2, e2, hg2, hb2⟩ := h5 hl5'
    have hne : g2 ≠ g := fun e => h6 hl hl5' (by rw [hv, e2, e])
    refine ⟨g2, by simpa [updN] using e2, hg2, ?_⟩
    have := hb2.only ho (by simpa using hne)
    simpa [updN] using this
  · first | (simp [updN]; done) | (simp [updN]; assumption)
  · intro _
    simpa [updN] using hl
  · first | (simp [updN]; done) | (simp [updN]; assumption)
theorem StI.s7 (h : StI w5 vb vc x1 y1 x2 y2 L vs w) {g : Nat} (hl : L 5 = true) (hv : vs 5 = ptr g) :
    StI w5 vb vc x1 y1 x2 y2 (updN L 7 true) (updN vs 7 undef) ((w.setCell ⟨g, 0, none⟩ (.int .i64 x2)).setCell ⟨g, 1, none⟩ (.int .i64 y2)) := by
  obtain ⟨o, ⟨h0, h1, h2, h3⟩, h4, h5, h6, h7, h8⟩ := h
  obtain ⟨g', e', hg, hb⟩ := h5 hl
  rw [hv] at e'
  injection e' with e'
  injection e' with e'
  injection e' with e'
  subst e'
  have hs : Bk ((w.setCell ⟨g, 0, none⟩ (.int .i64 x2)).setCell ⟨g, 1, none⟩ (.int .i64 y2)) g 52 (gcv x2 y2) := by
    have := (hb.set 0 (.int .i64 x2)).set 1 (.int .i64 y2)
    cases e : L 7 <;> simpa [e, gcv] using this
  have ho : Only [g] w ((w.setCell ⟨g, 0, none⟩ (.int .i64 x2)).setCell ⟨g, 1, none⟩ (.int .i64 y2)) := ((Only.refl [g] w).setCell (.inl (by simp)) _).setCell (.inl (by simp)) _
  refine ⟨o.trans ho (fun q hq => .inr (by simp at hq; omega)), ⟨?_, ?_, ?_, ?_⟩, ?_, ?_, ?_, ?_, ?_⟩
  · first | (simp [updN]; done) | (simp [updN]; assumption)
  · first | (simp [updN]; done) | (simp [updN]; assumption)
  · first | (simp [updN]; done) | (simp [updN]; assumption)
  · first | (simp [updN]; done) | (simp [updN]; assumption)
  · intro hl5
    have hl5' : L 4 = true := by simpa [updN] using hl5
    obtain ⟨g2, e2, hg2, hb2⟩ := h4 hl5'
    have hne : g2 ≠ g := fun e => h6 hl5' hl (by rw [hv, e2, e])
    refine ⟨g2, by simpa [updN] using e2, hg2, ?_⟩
    have := hb2.only ho (by simpa using hne)
    simpa [updN] using this
  · intro _
    exact ⟨g, by simpa [updN] using hv, hg, by simpa [updN] using hs⟩
  · first | (simp [updN]; done) | (simp [updN]; assumption)
  · first | (simp [updN]; done) | (simp [updN]; assumption)
  · intro _
    simpa [updN] using hl
theorem StI.b4 (h : StI w5 vb vc x1 y1 x2 y2 L vs w) (hl : L 4 = true) : ∃ g, vs 4 = ptr g ∧ ∃ a b, Bk w g 52 #[a, b] := by
  obtain ⟨g, e, _, hb⟩ := h.2.2.1 hl
  refine ⟨g, e, ?_⟩
  cases hh : L 6 with
  | false => exact ⟨_, _, by simpa [hh, gcv] using hb⟩
  | true => exact ⟨_, _, by simpa [hh, gcv] using hb⟩
theorem StI.b5 (h : StI w5 vb vc x1 y1 x2 y2 L vs w) (hl : L 5 = true) : ∃ g, vs 5 = ptr g ∧ ∃ a b, Bk w g 52 #[a, b] := by
  obtain ⟨g, e, _, hb⟩ := h.2.2.2.1 hl
  refine ⟨g, e, ?_⟩
  cases hh : L 7 with
  | false => exact ⟨_, _, by simpa [hh, gcv] using hb⟩
  | true => exact ⟨_, _, by simpa [hh, gcv] using hb⟩
end
set_option maxRecDepth 100000 in
set_option maxHeartbeats 8000000 in
theorem stamps_any {w : World} (b : Bx) {A : Option Addr} {c : Nat} (h : Ms AnyB w A b.l.length b.l) (hn : b.l.length ≤ 140737488351232) (hnm : b.name.length ≤ 140737488351232) (U : Option Addr) (nu cu : Nat) (us : List Int) (hU : Sl w U nu (ivs us)) (hnu : nu ≤ 140737488351232) :
    Calls Try.prog 6 #[bxv b A c, .slice U nu cu] w fun e w' => e = .returned (.bool true) ∧ Only [] w w' := by
  have cL := fun (W : World) (o : Only [] w W) => large_any b (c := c) (h.keep o) (by omega)
  have cI := fun (W : World) (o : Only [] w W) => refIs_any b (c := c) (h.keep o) (by omega) (by omega)
  obtain ⟨p, hp⟩ : ∃ p, isB b = p := ⟨_, rfl⟩
  rw [hp] at cI
  obtain ⟨s, v, x, l⟩ := b
  obtain ⟨n, hl⟩ : ∃ n, l.length = n := ⟨_, rfl⟩
  simp only at h hn hnm
  simp only [bxv_eq hl] at cL cI ⊢
  rw [hl] at h hn
  have hO0 : Only [] w (w.alloc (.cells #[.string (St s), .int .i64 v, .int .i64 x, .slice A n c] 26)) := (Only.refl _ _).alloc _
  have HCL := Lib.hid cL
  have HCI := Lib.hid cI
  obtain ⟨lc, hlc⟩ : ∃ lc, stayL us l = lc := ⟨_, rfl⟩
  obtain ⟨gl, hgl⟩ : ∃ gl, goneL us l = gl := ⟨_, rfl⟩
  obtain ⟨nc, hnc⟩ : ∃ nc, lc.length = nc := ⟨_, rfl⟩
  obtain ⟨ng, hng⟩ : ∃ ng, gl.length = ng := ⟨_, rfl⟩
  have hpart := part_len us l
  rw [hlc, hgl, hnc, hng, hl] at hpart
  have hsub : ∀ m ∈ lc, m ∈ l := fun m hm => by rw [← hlc] at hm; exact (List.mem_filter.1 hm).1
  obtain ⟨x1, y1, h1⟩ : ∃ x1 y1, stampI l = (x1, y1) := ⟨_, _, rfl⟩
  obtain ⟨x2, y2, h2⟩ : ∃ x2 y2, stampI lc = (x2, y2) := ⟨_, _, rfl⟩
  have HCE := Lib.hid (fun (W : World) (o : Only [] w W) (hb1 : n ≤ 1000000) (hb2 : ∀ m ∈ l, m.body.length ≤ 1000000) => exp_as (S := AnyB) (s := s) (v := v) (x := x) (c := c) hl (h.keep o) hb1 hb2 (fun _ _ => trivial) U nu cu us (hU.keep o) (by omega) hlc hgl hnc hng)
  have HPB := Lib.hid (fun (W : World) (o : Only [] w W) (hb1 : n ≤ 1000) (hs : ∀ m ∈ l, -1048576 < m.uid ∧ m.uid < 1048576) => stamp_as (s := s) (v := v) (nx := x) (c := c) hl (h.keep o) hb1 hs x1 y1 h1)
  have HRB := Lib.hid (fun (W : World) (o : Only [] w W) (hb1 : n ≤ 1000) (hs : ∀ m ∈ l, -1048576 < m.uid ∧ m.uid < 1048576) => refStamp_as (s := s) (v := v) (nx := x) (c := c) hl (h.keep o) hb1 hs x1 y1 h1)
  have HPC := Lib.hid (fun (W : World) (Ac : Option Addr) (cc : Nat) (hM : Ms AnyB W Ac nc lc) (hb1 : nc ≤ 1000) (hs : ∀ m ∈ lc, -1048576 < m.uid ∧ m.uid < 1048576) => stamp_as (s := s) (v := v) (nx := x) (c := cc) hnc hM hb1 hs x2 y2 h2)
  have HRC := Lib.hid (fun (W : World) (Ac : Option Addr) (cc : Nat) (hM : Ms AnyB W Ac nc lc) (hb1 : nc ≤ 1000) (hs : ∀ m ∈ lc, -1048576 < m.uid ∧ m.uid < 1048576) => refStamp_as (s := s) (v := v) (nx := x) (c := cc) hnc hM hb1 hs x2 y2 h2)
  have HW1 := Lib.hid (fun (hs : ∀ m ∈ l, -1048576 < m.uid ∧ m.uid < 1048576) (hn : l.length ≤ 8000) => stamp_w53 hs hn h1)
  have HW2 := Lib.hid (fun (hs : ∀ m ∈ lc, -1048576 < m.uid ∧ m.uid < 1048576) (hn : lc.length ≤ 8000) => stamp_w53 hs hn h2)
  have HL := Lib.hid hl
  have HNC := Lib.hid hnc
  have HP := Lib.hid hp
  have HKN := Lib.hid known_any
  have HSUB := Lib.hid hsub
  have B0 := Lib.hid (Bk.new w 26 #[.string (St s), .int .i64 v, .int .i64 x, .slice A n c])
  obtain ⟨t, ht⟩ : ∃ t, St s = t := ⟨_, rfl⟩
  rw [ht] at HCL HCI HCE B0 hO0 HPB HRB HPC HRC ⊢
  clear cL cI h hU hl ht hnm hp hlc hgl hnc hng h1 h2 hsub
  by_cases h60 : 60 < nu ∨ p = false
  · have h60' : (60 : Int) < (nu : Int) ∨ p = false := h60.imp (fun h => by omega) id
    go_enter Try.func6, Try.ntmps6
    go_wp2_with fail
    refine (HCL.out _ hO0).mono ?_
    rintro e w2 ⟨B, rfl, O2⟩
    obtain ⟨c0, c1, c2, c3⟩ := bk_four (B0.out.only O2 (by simp))
    cases B
    · cases p
      · go_wp2_with (go_at_call 15; go_must (with_reducible refine (HCI.out _ (hO0.then O2)).mono ?_); rintro e w3 ⟨rfl, O3⟩)
        go_ret
        exact ⟨rfl, (hO0.then O2).then O3⟩
      · have h7 : (60 : Int) < (nu : Int) := by rcases h60' with h | h; exact h; cases h
        go_wp2_with (go_at_call 15; go_must (with_reducible refine (HCI.out _ (hO0.then O2)).mono ?_); rintro e w3 ⟨rfl, O3⟩)
        go_ret
        exact ⟨rfl, (hO0.then O2).then O3⟩
    · go_wp2
      go_ret
      exact ⟨rfl, hO0.then O2⟩
  have hp1 : p = true := by cases p; exact absurd (.inr rfl) h60; rfl
  subst hp1
  have h7 : ¬ (60 : Int) < (nu : Int) := by omega
  have hB := HP.out
  rw [isB_iff] at hB
  obtain ⟨_, _, hB3, hB4, hB5⟩ := hB
  simp only at hB3 hB4 hB5
  rw [HL.out] at hB4
  have hu1 : ∀ m ∈ l, -1048576 < m.uid ∧ m.uid < 1048576 := fun m hm => by have := rises_at hB5 hm; omega
  have hu2 : ∀ m ∈ lc, -1048576 < m.uid ∧ m.uid < 1048576 := fun m hm => hu1 m (HSUB.out m hm)
  have HEX := Lib.hid (fun W o => HCE.out W o (by omega) (fun m hm => by have := rises_at hB5 hm; omega))
  replace HPB := Lib.hid (fun W o => HPB.out W o (by omega) hu1)
  replace HRB := Lib.hid (fun W o => HRB.out W o (by omega) hu1)
  replace HPC := Lib.hid (fun W Ac cc hM => HPC.out W Ac cc hM (by omega) hu2)
  replace HRC := Lib.hid (fun W Ac cc hM => HRC.out W Ac cc hM (by omega) hu2)
  have hw1 := HW1.out hu1 (by rw [HL.out]; omega)
  have hw2 := HW2.out hu2 (by rw [HNC.out]; omega)
  have o1 := Lib.hid (eq_FI hw1.1)
  have o2 := Lib.hid (eq_FI hw1.2)
  have o3 := Lib.hid (eq_FI hw2.1)
  have o4 := Lib.hid (eq_FI hw2.2)
  clear hB5 HCE h60 HW1 HW2 hw1 hw2 hu1 hu2 hB3
  go_enter Try.func6, Try.ntmps6
  go_wp2_with fail
  refine (HCL.out _ hO0).mono ?_
  rintro e w2 ⟨B, rfl, O2⟩
  obtain ⟨c0, c1, c2, c3⟩ := bk_four (B0.out.only O2 (by simp))
  cases B
  case true =>
    go_wp2
    go_ret
    exact ⟨rfl, hO0.then O2⟩
  go_wp2_with (first
    | (go_at_call 15; go_must (with_reducible refine (HCI.out _ (hO0.then O2)).mono ?_); rintro e w3 ⟨rfl, O3⟩; obtain ⟨d0, d1, d2, d3⟩ := bk_four (B0.out.only (O2.then O3) (by simp)))
    | (go_at_call 28; with_reducible refine (HEX.out _ ((hO0.then O2).then O3)).mono ?_; rintro e w4 ⟨Ac, cc, Ag, cg, rfl, MC, SG, BG, O4⟩; have B4 := B0.out.only ((O2.then O3).then O4) (by simp); have hlt4 := B4.lt; obtain ⟨e0, e1, e2, e3⟩ := bk_four B4))
  have BB := Lib.hid (B4.alloc (.cells #[.string t, .int .i64 v, .int .i64 x, .slice Ac nc cc] 26))
  have BC := Lib.hid (Bk.new w4 26 #[.string t, .int .i64 v, .int .i64 x, .slice Ac nc cc])
  have MC5 := Lib.hid (MC.keep ((Only.refl [] w4).alloc (.cells #[.string t, .int .i64 v, .int .i64 x, .slice Ac nc cc] 26)))
  have Q5 := Lib.hid ((((hO0.then O2).then O3).then O4).alloc (.cells #[.string t, .int .i64 v, .int .i64 x, .slice Ac nc cc] 26))
  clear MC SG BG O4 O3 O2 c0 c1 c2 c3 d0 d1 d2 d3 e0 e1 e2 e3 HEX HCI HCL
  generalize w4.alloc (.cells #[.string t, .int .i64 v, .int .i64 x, .slice Ac nc cc] 26) = w5 at *
  generalize w4.heap.size = gc at *
  generalize w.heap.size = gb at *
  clear B4 hlt4 B0
  replace HPB := Lib.hid (fun W (o : Only [] w5 W) => HPB.out W (Q5.out.then o))
  replace HRB := Lib.hid (fun W (o : Only [] w5 W) => HRB.out W (Q5.out.then o))
  replace HPC := Lib.hid (fun W (o : Only [] w5 W) => HPC.out W Ac cc (MC5.out.keep o))
  replace HRC := Lib.hid (fun W (o : Only [] w5 W) => HRC.out W Ac cc (MC5.out.keep o))
  refine wp_region_inv (StI w5 (.agg #[.string t, .int .i64 v, .int .i64 x, .slice A n c]) (.agg #[.string t, .int .i64 v, .int .i64 x, .slice Ac nc cc]) x1 y1 x2 y2) (by kernel_rfl) (by kernel_rfl) (fun vs => ⟨(Only.refl [] w5).drew, ⟨(by simp), (by simp), (by simp), (by simp)⟩, (by simp), (by simp), (by simp), (by simp), (by simp)⟩) (fun vs => ?_)
  refine ⟨fun L wS hI _ _ => ?_, ?_⟩
  · obtain ⟨c0, c1, c2, c3⟩ := bk_four (BB.out.only hI.1 (by simp))
    refine .inl ⟨rfl, gives_value (u := .agg #[.string t, .int .i64 v, .int .i64 x, .slice A n c]) (w' := wS) ?_ hI.s0 trivial⟩
    first | (go_simp; done) | (go_simp; with_reducible rfl)
  try simp only [Act.put, List.setIfInBounds_toArray, List.set_cons_zero, List.set_cons_succ]
  refine ⟨fun L wS hI _ hw => ?_, ?_⟩
  · have e := hI.2.1.1 (hw 0 (by kernel_rfl))
    refine .inl ⟨rfl, gives_call (f := 29) (args := #[vs 0]) ?_ ?_⟩
    · first | (go_simp; done) | (go_simp; with_reducible rfl)
    · rw [e]
      exact (HRB.out wS hI.1).mono fun e w' he => ⟨_, he.1, (hI.keep he.2).s1, trivial⟩
  try simp only [Act.put, List.setIfInBounds_toArray, List.set_cons_zero, List.set_cons_succ]
  refine ⟨fun L wS hI _ _ => ?_, ?_⟩
  · obtain ⟨d0, d1, d2, d3⟩ := bk_four (BC.out.only hI.1 (by simp))
    refine .inl ⟨rfl, gives_value (u := .agg #[.string t, .int .i64 v, .int .i64 x, .slice Ac nc cc]) (w' := wS) ?_ hI.s2 trivial⟩
    first | (go_simp; done) | (go_simp; with_reducible rfl)
  try simp only [Act.put, List.setIfInBounds_toArray, List.set_cons_zero, List.set_cons_succ]
  refine ⟨fun L wS hI _ hw => ?_, ?_⟩
  · have e := hI.2.1.2.2.1 (hw 2 (by kernel_rfl))
    refine .inl ⟨rfl, gives_call (f := 29) (args := #[vs 2]) ?_ ?_⟩
    · first | (go_simp; done) | (go_simp; with_reducible rfl)
    · rw [e]
      exact (HRC.out wS hI.1).mono fun e w' he => ⟨_, he.1, (hI.keep he.2).s3, trivial⟩
  try simp only [Act.put, List.setIfInBounds_toArray, List.set_cons_zero, List.set_cons_succ]
  refine ⟨fun L wS hI hL _ => ?_, ?_⟩
  · refine .inl ⟨rfl, gives_value (u := ptr wS.heap.size) (w' := wS.alloc (.cells (gcv 0 0) 52)) ?_ (hI.s4 hL) trivial⟩
    show _ = Result.ok (Next.value (.pointer (some ⟨wS.heap.size, 0, none⟩))) (wS.alloc (.cells #[.int .i64 0, .int .i64 0] 52))
    first | (go_simp; done) | (go_simp; with_reducible rfl)
  try simp only [Act.put, List.setIfInBounds_toArray, List.set_cons_zero, List.set_cons_succ]
  refine ⟨fun L wS hI hL _ => ?_, ?_⟩
  · refine .inl ⟨rfl, gives_value (u := ptr wS.heap.size) (w' := wS.alloc (.cells (gcv 0 0) 52)) ?_ (hI.s5 hL) trivial⟩
    show _ = Result.ok (Next.value (.pointer (some ⟨wS.heap.size, 0, none⟩))) (wS.alloc (.cells #[.int .i64 0, .int .i64 0] 52))
    first | (go_simp; done) | (go_simp; with_reducible rfl)
  try simp only [Act.put, List.setIfInBounds_toArray, List.set_cons_zero, List.set_cons_succ]
  refine ⟨fun L wS hI _ hw => ?_, ?_⟩
  · have e1 := hI.2.1.2.1 (hw 1 (by kernel_rfl))
    have hl := hw 4 (by kernel_rfl)
    obtain ⟨g, e4, z0, z1, hb⟩ := hI.b4 hl
    refine .inl ⟨rfl, gives_skip ?_ (hI.s6 hl e4) trivial⟩
    rw [e1, e4]
    have k0 := hb.cell 0
    have k1 := hb.cell 1
    have f0 := hb.free 0
    have f1 := hb.free 1
    have hg := hb.lt
    simp at k0 k1
    unfold ptr gcv
    go_simp
  try simp only [Act.put]
  refine ⟨fun L wS hI _ hw => ?_, ?_⟩
  · have e1 := hI.2.1.2.2.2 (hw 3 (by kernel_rfl))
    have hl := hw 5 (by kernel_rfl)
    obtain ⟨g, e4, z0, z1, hb⟩ := hI.b5 hl
    refine .inl ⟨rfl, gives_skip ?_ (hI.s7 hl e4) trivial⟩
    rw [e1, e4]
    have k0 := hb.cell 0
    have k1 := hb.cell 1
    have f0 := hb.free 0
    have f1 := hb.free 1
    have hg := hb.lt
    simp at k0 k1
    unfold ptr gcv
    go_simp
  try simp only [Act.put]
  intro L w7 hall hI
  obtain ⟨hO7, ⟨hv0, hv1, hv2, hv3⟩, h4, h5, _, _, _⟩ := hI
  obtain ⟨g7, hv4, hg7, hb7⟩ := h4 (hall 4 (by decide))
  obtain ⟨g8, hv5, hg8, hb8⟩ := h5 (hall 5 (by decide))
  rw [if_pos (hall 6 (by decide))] at hb7
  rw [if_pos (hall 7 (by decide))] at hb8
  rw [hv0 (hall 0 (by decide)), hv1 (hall 1 (by decide)), hv2 (hall 2 (by decide)), hv3 (hall 3 (by decide)), hv4, hv5]
  clear hv0 hv1 hv2 hv3 hv4 hv5 h4 h5 hall
  unfold ptr
  obtain ⟨c0, c1, c2, c3⟩ := bk_four (BB.out.only hO7 (by simp))
  obtain ⟨d0, d1, d2, d3⟩ := bk_four (BC.out.only hO7 (by simp))
  have z0 : w7.cell? ⟨g7, 0, none⟩ = some (.int .i64 x1) := by rw [hb7.cell]; rfl
  have z1 : w7.cell? ⟨g7, 1, none⟩ = some (.int .i64 y1) := by rw [hb7.cell]; rfl
  have z2 : w7.cell? ⟨g8, 0, none⟩ = some (.int .i64 x2) := by rw [hb8.cell]; rfl
  have z3 : w7.cell? ⟨g8, 1, none⟩ = some (.int .i64 y2) := by rw [hb8.cell]; rfl
  replace HPB := Lib.hid (fun W (o : Only [] w7 W) => HPB.out W (hO7.then o))
  replace HPC := Lib.hid (fun W (o : Only [] w7 W) => HPC.out W (hO7.then o))
  have HO7 := Lib.hid (Q5.out.then hO7)
  clear hb7 hb8 hg7 hg8 hO7
  go_wp2_with fail
  apply region_only (by kernel_rfl) (by kernel_rfl)
  apply rel_val (hrf := Tk_refl)
  case hw => rfl
  case hy => intro wS hN hF; have hO := hN.pre (by kernel_rfl); have q0 := hO.cellSome c0 (by simp); have q1 := hO.cellSome c1 (by simp); have q2 := hO.cellSome c2 (by simp); have q3 := hO.cellSome c3 (by simp); first | (go_simp; done) | (go_simp; with_reducible rfl)
  case' hk => skip
  try simp only [Act.put, List.setIfInBounds_toArray, List.set_cons_zero, List.set_cons_succ]
  apply rel_call (v := .complex .f64 (FI x1) (FI y1)) (f := 30) (args := #[.agg #[.string t, .int .i64 v, .int .i64 x, .slice A n c]])
  case hw => rfl
  case hy => intro wS hN hF; go_simp
  case hc => intro wS hN hF; exact call_only (HPB.out wS ((Only.refl [] _).drew.then (hN.pre (by kernel_rfl))))
  case' hk => skip
  try simp only [Act.put, List.setIfInBounds_toArray, List.set_cons_zero, List.set_cons_succ]
  apply rel_val (hrf := Tk_refl)
  case hw => rfl
  case hy => intro wS hN hF; skip; first | (go_simp; done) | (go_simp; with_reducible rfl)
  case' hk => skip
  try simp only [Act.put, List.setIfInBounds_toArray, List.set_cons_zero, List.set_cons_succ]
  apply rel_val (hrf := Tk_refl)
  case hw => rfl
  case hy => intro wS hN hF; have hO := hN.pre (by kernel_rfl); have q0 := hO.cellSome z0 (by simp); first | (go_simp; done) | (go_simp; with_reducible rfl)
  case' hk => skip
  try simp only [Act.put, List.setIfInBounds_toArray, List.set_cons_zero, List.set_cons_succ]
  apply rel_val (hrf := Tk_refl)
  case hw => rfl
  case hy => intro wS hN hF; skip; first | (go_simp; done) | (go_simp; with_reducible rfl)
  case' hk => skip
  try simp only [Act.put, List.setIfInBounds_toArray, List.set_cons_zero, List.set_cons_succ]
  apply rel_val (hrf := Tk_refl)
  case hw => rfl
  case hy => intro wS hN hF; skip; first | (go_simp; done) | (go_simp; with_reducible rfl)
  case' hk => skip
  try simp only [Act.put, List.setIfInBounds_toArray, List.set_cons_zero, List.set_cons_succ]
  apply rel_val (hrf := Tk_refl)
  case hw => rfl
  case hy => intro wS hN hF; have hO := hN.pre (by kernel_rfl); have q0 := hO.cellSome z1 (by simp); first | (go_simp; done) | (go_simp; with_reducible rfl)
  case' hk => skip
  try simp only [Act.put, List.setIfInBounds_toArray, List.set_cons_zero, List.set_cons_succ]
  apply rel_val (hrf := Tk_refl)
  case hw => rfl
  case hy => intro wS hN hF; skip; first | (go_simp; done) | (go_simp; with_reducible rfl)
  case' hk => skip
  try simp only [Act.put, List.setIfInBounds_toArray, List.set_cons_zero, List.set_cons_succ]
  apply rel_val (hrf := Tk_refl)
  case hw => rfl
  case hy => intro wS hN hF; skip; first | (go_simp; done) | (go_simp; with_reducible rfl)
  case' hk => skip
  try simp only [Act.put, List.setIfInBounds_toArray, List.set_cons_zero, List.set_cons_succ]
  apply rel_val (v := .bool true) (hrf := Tk_refl)
  case hw => rfl
  case hy =>
    intro wS hN hF
    have q1 := o1.out; have q2 := o2.out
    go_simp
  case' hk => skip
  try simp only [Act.put, List.setIfInBounds_toArray, List.set_cons_zero, List.set_cons_succ]
  apply rel_val (hrf := Tk_refl)
  case hw => rfl
  case hy => intro wS hN hF; skip; first | (go_simp; done) | (go_simp; with_reducible rfl)
  case' hk => skip
  try simp only [Act.put, List.setIfInBounds_toArray, List.set_cons_zero, List.set_cons_succ]
  apply rel_val (hrf := Tk_refl)
  case hw => rfl
  case hy => intro wS hN hF; have hO := hN.pre (by kernel_rfl); have q0 := hO.cellSome d0 (by simp); have q1 := hO.cellSome d1 (by simp); have q2 := hO.cellSome d2 (by simp); have q3 := hO.cellSome d3 (by simp); first | (go_simp; done) | (go_simp; with_reducible rfl)
  case' hk => skip
  try simp only [Act.put, List.setIfInBounds_toArray, List.set_cons_zero, List.set_cons_succ]
  apply rel_call (v := .complex .f64 (FI x2) (FI y2)) (f := 30) (args := #[.agg #[.string t, .int .i64 v, .int .i64 x, .slice Ac nc cc]])
  case hw => rfl
  case hy => intro wS hN hF; go_simp
  case hc => intro wS hN hF; exact call_only (HPC.out wS ((Only.refl [] _).drew.then (hN.pre (by kernel_rfl))))
  case' hk => skip
  try simp only [Act.put, List.setIfInBounds_toArray, List.set_cons_zero, List.set_cons_succ]
  apply rel_val (hrf := Tk_refl)
  case hw => rfl
  case hy => intro wS hN hF; skip; first | (go_simp; done) | (go_simp; with_reducible rfl)
  case' hk => skip
  try simp only [Act.put, List.setIfInBounds_toArray, List.set_cons_zero, List.set_cons_succ]
  apply rel_val (hrf := Tk_refl)
  case hw => rfl
  case hy => intro wS hN hF; have hO := hN.pre (by kernel_rfl); have q0 := hO.cellSome z2 (by simp); first | (go_simp; done) | (go_simp; with_reducible rfl)
  case' hk => skip
  try simp only [Act.put, List.setIfInBounds_toArray, List.set_cons_zero, List.set_cons_succ]
  apply rel_val (hrf := Tk_refl)
  case hw => rfl
  case hy => intro wS hN hF; skip; first | (go_simp; done) | (go_simp; with_reducible rfl)
  case' hk => skip
  try simp only [Act.put, List.setIfInBounds_toArray, List.set_cons_zero, List.set_cons_succ]
  apply rel_val (hrf := Tk_refl)
  case hw => rfl
  case hy => intro wS hN hF; skip; first | (go_simp; done) | (go_simp; with_reducible rfl)
  case' hk => skip
  try simp only [Act.put, List.setIfInBounds_toArray, List.set_cons_zero, List.set_cons_succ]
  apply rel_val (hrf := Tk_refl)
  case hw => rfl
  case hy => intro wS hN hF; have hO := hN.pre (by kernel_rfl); have q0 := hO.cellSome z3 (by simp); first | (go_simp; done) | (go_simp; with_reducible rfl)
  case' hk => skip
  try simp only [Act.put, List.setIfInBounds_toArray, List.set_cons_zero, List.set_cons_succ]
  apply rel_val (hrf := Tk_refl)
  case hw => rfl
  case hy => intro wS hN hF; skip; first | (go_simp; done) | (go_simp; with_reducible rfl)
  case' hk => skip
  try simp only [Act.put, List.setIfInBounds_toArray, List.set_cons_zero, List.set_cons_succ]
  apply rel_val (hrf := Tk_refl)
  case hw => rfl
  case hy => intro wS hN hF; skip; first | (go_simp; done) | (go_simp; with_reducible rfl)
  case' hk => skip
  try simp only [Act.put, List.setIfInBounds_toArray, List.set_cons_zero, List.set_cons_succ]
  apply rel_val (v := .bool true) (hrf := Tk_refl)
  case hw => rfl
  case hy =>
    intro wS hN hF
    have q1 := o3.out; have q2 := o4.out
    go_simp
  case' hk => skip
  try simp only [Act.put, List.setIfInBounds_toArray, List.set_cons_zero, List.set_cons_succ]
  apply rel_val (v := .bool true) (hrf := Tk_refl)
  case hw => rfl
  case hy =>
    intro wS hN hF
    go_simp
  case' hk => skip
  try simp only [Act.put, List.setIfInBounds_toArray, List.set_cons_zero, List.set_cons_succ]
  apply rel_val (hrf := Tk_refl)
  case hw => rfl
  case hy => intro wS hN hF; skip; first | (go_simp; done) | (go_simp; with_reducible rfl)
  case' hk => skip
  try simp only [Act.put, List.setIfInBounds_toArray, List.set_cons_zero, List.set_cons_succ]
  apply rel_call (v := .bool true) (f := 18) (args := #[])
  case hw => rfl
  case hy => intro wS hN hF; go_simp
  case hc => intro wS hN hF; exact call_only (HKN.out wS)
  case' hk => skip
  try simp only [Act.put, List.setIfInBounds_toArray, List.set_cons_zero, List.set_cons_succ]
  apply rel_val (v := .bool true) (hrf := Tk_refl)
  case hw => rfl
  case hy =>
    intro wS hN hF
    go_simp
  case' hk => skip
  try simp only [Act.put, List.setIfInBounds_toArray, List.set_cons_zero, List.set_cons_succ]
  apply rel_val (v := .bool true) (hrf := Tk_refl)
  case hw => rfl
  case hy =>
    intro wS hN hF
    go_simp
  case' hk => skip
  try simp only [Act.put, List.setIfInBounds_toArray, List.set_cons_zero, List.set_cons_succ]
  refine rel_end ?_
  intro wS hO2 hF
  clear hF
  go_wp2_with fail
  go_ret
  exact ⟨rfl, (HO7.out.drew).then hO2.only⟩

end Go.Proofs.Ythaodlegpjedoaa
