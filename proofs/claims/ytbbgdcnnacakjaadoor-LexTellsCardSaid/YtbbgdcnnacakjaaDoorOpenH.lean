/-
  The arguments opened (head): bytes with the room that they say they have, numbers, texts.
-/
import Derived.Test.YtbbgdcnnacakjaaDoorFrameH
import Derived.Test.YtbbgdcnnacakjaaDoorBt
import Derived.ChangeMaps5
import Derived.Deep.Matrix
import Derived.SizedLaws
namespace Go.Proofs.YtbbgdcnnacakjaaDoor
open Go.ChangeShapes Go.WideShapes Go.ChangeAt Go.RowKit Go.Deep

theorem cellsByte : Tryd.prog.cellsOf 5 = 1 := by kernel_rfl

/-- Whole numbers of a byte's range as bytes. -/
def toBytes (zs : List Int) : List UInt8 := zs.map fun z => UInt8.ofNat z.toNat
theorem toBytes_length (zs : List Int) : (toBytes zs).length = zs.length := by simp [toBytes]
theorem byte_wf {z : Int} (h : (Lit.int .u8 z).wf = true) : 0 ≤ z ∧ z < 256 := by
  simp [Lit.wf, IntKind.min, IntKind.max, IntKind.signed, IntKind.bits] at h
  omega
theorem toBytes_sl {w : World} {A : Option Addr} {n m : Nat} {zs : List Int} (hm : n ≤ m) (hz : zs.length = m) (hw : ∀ z ∈ zs, (Lit.int .u8 z).wf = true)
    (hc : 0 < n → ∃ ad, A = some ad ∧ ∀ i, i < m → w.cell? (ad.add i) = some (.int .u8 (zs.getD i 0))) : Sl w A n (bvs (toBytes (zs.take n))) := by
  have hl : (toBytes (zs.take n)).length = n := by rw [toBytes_length, List.length_take]; omega
  refine ⟨by rw [bvs_length, hl], fun hn => ?_⟩
  obtain ⟨ad, e, hcell⟩ := hc hn
  refine ⟨ad, e, fun j u hu => ?_⟩
  have hj : j < n := by
    have := (List.getElem?_eq_some_iff.1 hu).1
    rw [bvs_length, hl] at this
    exact this
  rw [hcell j (by omega)]
  rw [bvs_get _ _ (by omega)] at hu
  have hz' : j < zs.length := by omega
  have hg : zs.getD j 0 = zs[j] := by simp [List.getD, hz']
  have hb := byte_wf (hw _ (List.getElem_mem hz'))
  have he : (toBytes (zs.take n))[j]'(by omega) = UInt8.ofNat (zs[j]).toNat := by simp [toBytes]
  rw [he] at hu
  rw [← hu, hg]
  unfold bv
  rw [UInt8.toNat_ofNat']
  congr 2
  omega

section
variable {H : Type} {enc : TypeId × Value → H} {W : World}
set_option maxRecDepth 100000 in
theorem open_bytes {r : Reach} {b : Nat} {v : Value} {d : DataW H} {p : List MemPlace} (hv : Value.okWide Tryd.prog W r b 32 v) (h : DataW.Trod enc Tryd.prog W 0 (fun _ => true) true 32 v d p) :
    ∃ A n c l, v = .slice A n c ∧ Bt W A n c l ∧ ∀ x ∈ blks A, x < W.heap.size := by
  obtain ⟨A, n, c, rfl⟩ := okWide_slice Tryd.underlying32 hv
  obtain ⟨fuel, hf⟩ := h
  rcases open_ints Tryd.underlying32 Tryd.underlying5 cellsByte hf with ⟨hcs, _⟩ | ⟨a, len, cap, zs, hcs, _, hl, hm, hz, hx, hcell, hw⟩
  · simp [Value.cells] at hcs
    obtain ⟨rfl, rfl, rfl⟩ := hcs
    exact ⟨none, 0, 0, [], rfl, Bt.none_ _, fun _ hx => nomatch hx⟩
  · simp [Value.cells] at hcs
    obtain ⟨rfl, rfl, rfl⟩ := hcs
    simp only [if_true] at hz
    refine ⟨some a, n, c, _, rfl, ⟨toBytes_sl hl hz hw (fun _ => ⟨a, rfl, fun i hi => hcell i (by omega)⟩), hl, by unfold maxLen at hm; omega, fun e => nomatch e⟩, fun x hx => ?_⟩
    simp only [Value.okWide, Tryd.underlying32, Cell.okWide, Cell.ok, World.has] at hv
    obtain ⟨_, _, _, _, row, cells, hs, _⟩ := hv
    rw [blks_some, List.mem_singleton] at hx
    subst hx
    unfold World.shape? at hs
    exact Decidable.byContradiction fun hge => by
      rw [Array.getElem?_eq_none (by omega)] at hs
      cases hs
set_option maxRecDepth 100000 in
theorem open_byte {r : Reach} {b : Nat} {v : Value} {d : DataW H} {p : List MemPlace} (hv : Value.okWide Tryd.prog W r b 5 v) (h : DataW.Trod enc Tryd.prog W 0 (fun _ => true) true 5 v d p) :
    ∃ x : UInt8, v = bv x := by
  obtain ⟨x, rfl, _, _, wx⟩ := open_int Tryd.underlying5 hv h
  have := byte_wf wx
  refine ⟨UInt8.ofNat x.toNat, ?_⟩
  unfold bv
  rw [UInt8.toNat_ofNat']
  congr 1
  omega
set_option maxRecDepth 100000 in
theorem open_num {r : Reach} {b : Nat} {v : Value} {d : DataW H} {p : List MemPlace} (hv : Value.okWide Tryd.prog W r b 3 v) (h : DataW.Trod enc Tryd.prog W 0 (fun _ => true) true 3 v d p) :
    ∃ x : Int, v = .int .i64 x ∧ -9223372036854775808 ≤ x ∧ x ≤ 9223372036854775807 := by
  obtain ⟨x, rfl, _, _, wx⟩ := open_int Tryd.underlying3 hv h
  exact ⟨x, rfl, (int_bounds wx).1, (int_bounds wx).2⟩
set_option maxRecDepth 100000 in
theorem open_text {r : Reach} {b : Nat} {v : Value} {d : DataW H} {p : List MemPlace} (hv : Value.okWide Tryd.prog W r b 9 v) (h : DataW.Trod enc Tryd.prog W 0 (fun _ => true) true 9 v d p) :
    ∃ s : ByteArray, v = .string s ∧ d = .lit (.string s.data.toList) ∧ s.size ≤ maxLen := by
  obtain ⟨s, rfl, rfl, _, hs⟩ := ChangeMaps.open_string Tryd.underlying9 hv h
  exact ⟨s, rfl, rfl, hs⟩
set_option maxRecDepth 100000 in
theorem open_flag {r : Reach} {b : Nat} {v : Value} {d : DataW H} {p : List MemPlace} (hv : Value.okWide Tryd.prog W r b 4 v) (h : DataW.Trod enc Tryd.prog W 0 (fun _ => true) true 4 v d p) : ∃ x : Bool, v = .bool x := by
  obtain ⟨x, rfl, _⟩ := open_bool Tryd.underlying4 hv h
  exact ⟨x, rfl⟩
end
end Go.Proofs.YtbbgdcnnacakjaaDoor
