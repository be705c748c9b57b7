/-
  Encode and Add, their answers in named parts.
-/
import Derived.Test.YthaodlegpjedoaaVRefEnc
import Derived.Test.YthaodlegpjedoaaVUids0
namespace Go.Proofs.Ythaodlegpjedoaa
open Go.RowKit Go.Instr

/-- Encode and Add, their answers in named parts. -/
theorem enc_as {S : Nat → Prop} {w : World} {s : List UInt8} {v x : Int} {l : List Mg} {n ne c : Nat} {A : Option Addr} {eb : List UInt8} (hB : isB ⟨s, v, x, l⟩ = true) (hl : l.length = n) (h : Ms S w A n l) (hn : n ≤ 140737488355328) (hnm : s.length ≤ 140737488355328) (he : encB ⟨s, v, x, l⟩ = eb) (hne : eb.length = ne) :
    Calls Try.prog 21 #[.agg #[.string (St s), .int .i64 v, .int .i64 x, .slice A n c]] w fun e w' => ∃ A' c', e = .returned (.tuple #[.slice A' ne c', .int .i64 0]) ∧ Own w' 5 A' ne c' (bvs eb) ∧ Only [] w w' ∧ ∀ k ∈ blks A', w.heap.size ≤ k := by
  subst hl
  have := refEncode_any (S := S) (w := w) ⟨s, v, x, l⟩ (A := A) (c := c) h hn hnm
  refine this.mono fun e w' hh => ?_
  unfold EncR at hh
  rw [he, hne] at hh
  rcases hh with ⟨_, A', c', e1, e2, e3, e4⟩ | ⟨h1, _⟩
  · exact ⟨A', c', e1, e2, e3, e4⟩
  · rw [hB] at h1; cases h1
theorem add_as {S : Nat → Prop} {w : World} {s : List UInt8} {v x x' u q : Int} {l l' : List Mg} {n n' c : Nat} {A : Option Addr} (hB : isB ⟨s, v, x, l⟩ = true) (hl : l.length = n) (h : Ms S w A n l) (hS : ∀ y, w.heap.size ≤ y → S y) (f d : Int) (P : Option Addr) (m cp : Nat) (p : List UInt8) (hp : Sl w P m (bvs p))
    (hb : addB ⟨s, v, x, l⟩ f d p = ⟨s, v, x', l'⟩) (hn : l'.length = n') (hu : addU ⟨s, v, x, l⟩ f d p.length = u) (hq : addE ⟨s, v, x, l⟩ f d p.length = q) :
    Calls Try.prog 31 #[.agg #[.string (St s), .int .i64 v, .int .i64 x, .slice A n c], .int .i64 f, .int .i64 d, .slice P m cp] w fun e w' =>
      ∃ A' c', e = .returned (.tuple #[.agg #[.string (St s), .int .i64 v, .int .i64 x', .slice A' n' c'], .int .i64 u, .int .i64 q]) ∧ Ms S w' A' n' l' ∧ Only [] w w' := by
  subst hl hn hu hq
  have hB2 := hB
  rw [isB_iff] at hB2
  obtain ⟨_, _, h3, h4, h5⟩ := hB2
  simp only at h3 h4 h5
  refine (Add_any (S := S) (w := w) ⟨s, v, x, l⟩ (A := A) (c := c) h (by show l.length ≤ _; omega) (fun m hm => by have := rises_at h5 hm; omega) (by show 0 ≤ x; omega) hS f d P m cp p hp).mono fun e w' hh => ?_
  obtain ⟨A', c', e1, e2, e3⟩ := hh
  rw [hb] at e1 e2
  exact ⟨A', c', e1, e2, e3⟩
end Go.Proofs.Ythaodlegpjedoaa
