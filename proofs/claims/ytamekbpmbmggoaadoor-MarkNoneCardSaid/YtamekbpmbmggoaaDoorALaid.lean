/-
  mark: what the listed variables hold: the words of the flags; the tables of the folding.
-/
import Derived.Test.YtamekbpmbmggoaaDoorAMath
import Derived.Test.YtamekbpmbmggoaaDoorRows
import Derived.Lib.LaidTab
import Derived.OpenShut
import Derived.ChangeSame
import Derived.ChangeArms
namespace Go.Proofs.YtamekbpmbmggoaaDoor
open Go.ChangeShapes Go.WideShapes

/-- The next letter that folds to this one, of the first 128. -/
def ascF (c : Nat) : Nat := if 65 ≤ c ∧ c ≤ 90 then c + 32 else if c = 107 then 8490 else if c = 115 then 383 else if 97 ≤ c ∧ c ≤ 122 then c - 32 else c
/-- The rows of the further table that a search for 383 meets. -/
def orbE : Nat → Option (Nat × Nat)
  | 5 => some (197, 229)
  | 8 => some (304, 304)
  | 9 => some (305, 305)
  | 10 => some (383, 83)
  | 11 => some (452, 453)
  | 23 => some (837, 921)
  | 47 => some (966, 981)
  | _ => none
structure Laid (w : World) : Prop where
  nam : ∀ i < 5, w.cell? ⟨0, i * 2, none⟩ = some (.int .i64 ((2 ^ i : Nat) : Int)) ∧ w.cell? ⟨0, i * 2 + 1, none⟩ = some (.string (St (nm i)))
  asc : ∀ c < 128, w.cell? ⟨1, c, none⟩ = some (.int .u16 ((ascF c : Nat) : Int))
  orb : ∃ ad cap, w.cell? ⟨2, 0, none⟩ = some (.slice (some ad) 94 cap) ∧ ∀ i a b, orbE i = some (a, b) → w.cell? (ad.add (i * 2)) = some (.int .u16 (a : Int)) ∧ w.cell? ((ad.add (i * 2)).add 1) = some (.int .u16 (b : Int))
theorem Laid.only {w w' : World} (h : Laid w) (o : Only [] w w') : Laid w' := by
  have k : ∀ {p v}, w.cell? p = some v → w'.cell? p = some v := fun hc => o.cellSome hc (fun hm => nomatch hm)
  obtain ⟨ad, cap, h1, h2⟩ := h.orb
  exact ⟨fun i hi => ⟨k (h.nam i hi).1, k (h.nam i hi).2⟩, fun c hc => k (h.asc c hc), ad, cap, k h1, fun i a b e => ⟨k (h2 i a b e).1, k (h2 i a b e).2⟩⟩

section
variable {H : Type} {enc : TypeId × Value → H} {P : Program} {w : World} {base : Nat} {spare : Nat → Bool} {held : Bool}
/-- A struct of two fields of a cell each. -/
theorem trod_pair {t : TypeId} {f0 f1 : Field} {fuel : Nat} {cs : List Value} {d0 d1 : DataW H} {p : List MemPlace} (ht : P.underlying t = some (.struct #[f0, f1])) (hc : P.cellsOf t = 2)
    (o0 : f0.offset = 0) (o1 : f1.offset = 1) (c0 : P.cellsOf f0.type = 1) (c1 : P.cellsOf f1.type = 1) (h : DataW.trod enc P w base spare held fuel t cs = some (.agg [d0, d1], p)) :
    ∃ v0 v1 n p0 p1, cs = [v0, v1] ∧ DataW.trod enc P w base spare held n f0.type [v0] = some (d0, p0) ∧ DataW.trod enc P w base spare held n f1.type [v1] = some (d1, p1) := by
  obtain ⟨y0, y1, n, e, hl, h0, h1⟩ := trod_struct2 ht h
  rw [hc] at hl
  rw [o0, c0] at h0
  rw [o1, c1] at h1
  match cs, hl with
  | [v0, v1], _ =>
    simp only [Prod.mk.injEq, DataW.agg.injEq, List.cons.injEq, and_true] at e
    obtain ⟨⟨rfl, rfl⟩, _⟩ := e
    exact ⟨v0, v1, n, y0.2, y1.2, rfl, h0, h1⟩
end

theorem gNames : Tryd.prog.globalNamed "letterbox/mark.names" = some 0 := by kernel_rfl
theorem gNamesT : (Tryd.prog.globals[0]?).map (·.type) = some 39 := by kernel_rfl
theorem gAsc : Tryd.prog.globalNamed "unicode.asciiFold" = some 1 := by kernel_rfl
theorem gAscT : (Tryd.prog.globals[1]?).map (·.type) = some 57 := by kernel_rfl
theorem gOrb : Tryd.prog.globalNamed "unicode.caseOrbit" = some 2 := by kernel_rfl
theorem gOrbT : (Tryd.prog.globals[2]?).map (·.type) = some 58 := by kernel_rfl
theorem cellsAsc : Tryd.prog.cellsOf 57 = 128 := by kernel_rfl
theorem cellsU16 : Tryd.prog.cellsOf 56 = 1 := by kernel_rfl
theorem cellsInt : Tryd.prog.cellsOf 3 = 1 := by kernel_rfl
theorem cellsStr : Tryd.prog.cellsOf 9 = 1 := by kernel_rfl
theorem cellsPair : Tryd.prog.cellsOf 60 = 2 := by kernel_rfl
theorem cellsName : Tryd.prog.cellsOf 38 = 2 := by kernel_rfl
theorem cellsNames : Tryd.prog.cellsOf 39 = 10 := by kernel_rfl
theorem ascTab {H : Type} : (Rows.laid_unicode_asciiFold : DataW H) = Lib.tabData .u16 ((List.range 128).map fun c => ((ascF c : Nat) : Int)) := by rfl
def nmData {H : Type} (i : Nat) : DataW H := .agg [.lit (.int .i64 ((2 ^ i : Nat) : Int)), .lit (.string (nm i))]
theorem namesTab {H : Type} : (Rows.laid_letterbox_mark_names : DataW H) = .agg ((List.range 5).map nmData) := by rfl
def orbData {H : Type} : List (DataW H) := match Rows.laid_unicode_caseOrbit with | .slice es _ => es | _ => []
theorem orbTab {H : Type} : (Rows.laid_unicode_caseOrbit : DataW H) = .slice orbData [] := by rfl
theorem orbLen {H : Type} : (orbData : List (DataW H)).length = 94 := by rfl
theorem orbAt {H : Type} (i a b : Nat) (h : orbE i = some (a, b)) : (orbData : List (DataW H))[i]? = some (.agg [.lit (.int .u16 (a : Int)), .lit (.int .u16 (b : Int))]) := by
  unfold orbE at h
  split at h
  all_goals first | (cases h; kernel_rfl) | (cases h; done)

theorem noHandles : (Rows.markNoneRow.laid.all fun x => x.2.handleName?.isNone) = true := by kernel_rfl
theorem laidMet_of_H {laid : List (String × DataW Unit)} {w : World} (h : (laid.all fun x => x.2.handleName?.isNone) = true) (hm : laidMetH Tryd.prog laid w) : laidMet Tryd.prog laid w := by
  have e : (laid.filter fun x => x.2.handleName?.isSome) = [] := by
    rw [List.filter_eq_nil_iff]
    intro x hx hs
    have h2 := List.all_eq_true.1 h x hx
    simp only [Option.isNone_iff_eq_none] at h2
    rw [h2] at hs
    cases hs
  unfold laidMetH at hm
  rw [e] at hm
  exact hm
theorem laid_of {W : World} (h : laidMetH Tryd.prog Rows.markNoneRow.laid W) : Laid W := by
  replace h := laidMet_of_H noHandles h
  obtain ⟨ps, h, _⟩ := h
  obtain ⟨_, _, _, _, _, _, _, _, _, _, h, _⟩ := h
  obtain ⟨g1, t1, cs1, fuel1, p1, q1, a1, b1, c1, d1, h, _⟩ := h
  obtain ⟨g2, t2, cs2, fuel2, p2, q2, a2, b2, c2, d2, h, _⟩ := h
  obtain ⟨g3, t3, cs3, fuel3, p3, q3, a3, b3, c3, d3, _⟩ := h
  obtain rfl := Option.some.inj (gAsc.symm.trans a1)
  obtain rfl := Option.some.inj (gAscT.symm.trans b1)
  obtain rfl := Option.some.inj (gOrb.symm.trans a2)
  obtain rfl := Option.some.inj (gOrbT.symm.trans b2)
  obtain rfl := Option.some.inj (gNames.symm.trans a3)
  obtain rfl := Option.some.inj (gNamesT.symm.trans b3)
  refine ⟨fun i hi => ?_, fun c hc => ?_, ?_⟩
  · rw [namesTab] at d3
    obtain ⟨xs, m, rfl, hx, hl, hxl, hel⟩ := DataW.trod_array Tryd.underlying39 d3
    rw [cellsNames] at hl
    have he := hel i hi
    rw [cellsName] at he
    obtain ⟨y, hy⟩ : ∃ y, xs[i]? = some y := ⟨xs[i]'(by omega), List.getElem?_eq_getElem (by omega)⟩
    have hy1 : y.1 = nmData i := by
      have e := congrArg (·[i]?) (DataW.agg.inj (congrArg Prod.fst hx))
      simpa [hy, hi] using e.symm
    rw [hy, show y = (nmData i, y.2) by rw [← hy1]] at he
    obtain ⟨v0, v1, n, r0, r1, hcs, e0, e1⟩ := trod_pair Tryd.underlying38 cellsName rfl rfl cellsInt cellsStr he
    obtain ⟨z, hz, hz2, _⟩ := DataW.trod_int Tryd.underlying3 e0
    obtain ⟨s, hs, hs2, _⟩ := DataW.trod_string Tryd.underlying9 e1
    simp only [Prod.mk.injEq, DataW.lit.injEq, Lit.int.injEq, Lit.string.injEq, true_and] at hz2 hs2
    injection hz with hz _
    injection hs with hs _
    have k0 : cs3.toList[i * 2]? = some v0 := by
      have := congrArg (·[0]?) hcs
      simpa [List.getElem?_take, List.getElem?_drop] using this
    have k1 : cs3.toList[i * 2 + 1]? = some v1 := by
      have := congrArg (·[1]?) hcs
      simpa [List.getElem?_take, List.getElem?_drop] using this
    refine ⟨?_, ?_⟩
    · rw [World.var?_cell gNames c3 (i * 2), ← Array.getElem?_toList, k0, hz, ← hz2.1]
    · rw [World.var?_cell gNames c3 (i * 2 + 1), ← Array.getElem?_toList, k1, hs, hs2.1]
  · rw [ascTab] at d1
    have hcs := Lib.cells_of_tab Tryd.underlying57 Tryd.underlying56 cellsU16 cellsAsc d1
    rw [World.var?_cell gAsc c1 c, ← Array.getElem?_toList, hcs]
    simp [hc]
  · rw [orbTab] at d2
    rcases DataW.trod_slice Tryd.underlying58 d2 with ⟨_, hx⟩ | ⟨ad, len, cap, el, rs, m, rfl, hcs, hx, _, _, _, hel, helem, _⟩
    · cases hx
    have e0 := congrArg Prod.fst hx
    simp only [DataW.slice.injEq] at e0
    obtain ⟨eE, _⟩ := e0
    have hlen : len = 94 := by
      have := congrArg List.length eE
      rw [orbLen, List.length_map] at this
      omega
    subst hlen
    refine ⟨ad, cap, ?_, fun i a b hi => ?_⟩
    · rw [World.var?_cell gOrb c2 0, ← Array.getElem?_toList, hcs]
      rfl
    · have ho := orbAt (H := Unit) i a b hi
      have hi94 : i < 94 := by
        have := (List.getElem?_eq_some_iff.1 ho).1
        rwa [orbLen] at this
      have he := helem i hi94
      rw [cellsPair] at he
      obtain ⟨y, hy⟩ : ∃ y, el[i]? = some y := ⟨el[i]'(by omega), List.getElem?_eq_getElem (by omega)⟩
      rw [hy] at he
      obtain ⟨ce, hce, hte⟩ := Option.bind_eq_some_iff.1 he
      have hy1 : y.1 = .agg [.lit (.int .u16 (a : Int)), .lit (.int .u16 (b : Int))] := by
        have e := congrArg (·[i]?) eE
        rw [ho] at e
        simpa [hy] using e.symm
      rw [show y = (.agg [.lit (.int .u16 (a : Int)), .lit (.int .u16 (b : Int))], y.2) by rw [← hy1]] at hte
      obtain ⟨v0, v1, n, r0, r1, hcs1, e0, e1⟩ := trod_pair Tryd.underlying60 cellsPair rfl rfl cellsU16 cellsU16 hte
      obtain ⟨z0, hz0, hz02, _⟩ := DataW.trod_int Tryd.underlying56 e0
      obtain ⟨z1, hz1, hz12, _⟩ := DataW.trod_int Tryd.underlying56 e1
      simp only [Prod.mk.injEq, DataW.lit.injEq, Lit.int.injEq, true_and] at hz02 hz12
      injection hz0 with hz0 _
      injection hz1 with hz1 _
      obtain ⟨_, _, hcc⟩ := World.cells?_some hce
      have k0 := hcc 0 (by omega)
      have k1 := hcc 1 (by omega)
      rw [hcs1] at k0 k1
      rw [add_zero] at k0
      refine ⟨?_, ?_⟩
      · rw [k0, hz02.1, ← hz0]; rfl
      · rw [k1, hz12.1, ← hz1]; rfl
end Go.Proofs.YtamekbpmbmggoaaDoor
