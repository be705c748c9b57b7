/-
  What BoxUIDs says: that a mailbox may be lasts; the parts of what Add, Expunge, Is and Same answer.
-/
import Derived.Test.YthaodlegpjedoaaVGone
import Derived.Test.YthaodlegpjedoaaVSame
import Derived.Test.YthaodlegpjedoaaVCall
import Derived.Test.YthaodlegpjedoaaVAct
import Derived.Test.YthaodlegpjedoaaVIs4
namespace Go.Proofs.Ythaodlegpjedoaa
open Go.RowKit Go.Instr

theorem rises_mono {a b : Int} (h : a ≤ b) : ∀ (l : List Mg) (last : Int), rises a last l = true → rises b last l = true
  | [], _, _ => rfl
  | m :: r, last, hr => by
    simp only [rises, Bool.and_eq_true] at hr ⊢
    obtain ⟨h1, h2⟩ := hr
    refine ⟨?_, rises_mono h r _ h2⟩
    rw [mgOk_iff] at h1 ⊢
    omega
theorem lastU_lt {next : Int} {l : List Mg} (h : rises next 0 l = true) (hl : l ≠ []) : lastU l l.length < next := by
  obtain ⟨k, hk⟩ : ∃ k, l.length = k + 1 := ⟨l.length - 1, by have := List.length_pos_iff.2 hl; omega⟩
  rw [hk]
  simp only [lastU]
  rw [List.getElem?_eq_getElem (show k < l.length by omega)]
  exact (rises_drop next l 0 k (by omega) h).2.2.1
theorem addE_zero {b : Bx} {f d : Int} {n : Nat} (h : addE b f d n = 0) : markOk f d = true ∧ n ≤ 1200 ∧ b.l.length < 24 ∧ b.next < 1048576 := by
  unfold addE at h
  split at h
  · cases h
  · rename_i h1
    split at h
    · cases h
    · split at h
      · cases h
      · split at h
        · cases h
        · exact ⟨by simpa using h1, by omega, by omega, by omega⟩
theorem isB_add {b : Bx} (h : isB b = true) (f d : Int) (p : List UInt8) : isB (addB b f d p) = true := by
  unfold addB
  split
  · rename_i he
    obtain ⟨h1, h2, h3, h4⟩ := addE_zero he
    rw [isB_iff] at h ⊢
    obtain ⟨g1, g2, g3, g4, g5⟩ := h
    refine ⟨g1, g2, ⟨by show 1 ≤ b.next + 1; omega, by show b.next + 1 ≤ 1048576; omega⟩, by show (b.l ++ [_]).length ≤ 24; rw [List.length_append]; simp; omega, ?_⟩
    show rises (b.next + 1) 0 (b.l ++ [⟨b.next, f, d, p⟩]) = true
    rw [rises_snoc, Bool.and_eq_true]
    refine ⟨rises_mono (by omega) _ _ g5, ?_⟩
    rw [mgOk_iff]
    rw [markOk_iff] at h1
    refine ⟨?_, by show b.next < b.next + 1; omega, h1, h2⟩
    show _ < b.next
    split
    · omega
    · rename_i hl
      exact lastU_lt g5 hl
  · exact h
/-- The box of the law. -/
def ub (x : Int) (l : List Mg) : Bx := ⟨[97], 1, x, l⟩
theorem isB_small {x : Int} {l : List Mg} (h : isB (ub x l) = true) : l.length ≤ 24 ∧ (∀ m ∈ l, m.body.length ≤ 1000000) ∧ 1 ≤ x ∧ x ≤ 1048576 := by
  rw [isB_iff] at h
  obtain ⟨_, _, g3, g4, g5⟩ := h
  exact ⟨g4, fun m hm => by have := rises_at g5 hm; omega, g3.1, g3.2⟩
theorem u_add {S : Nat → Prop} {w : World} {x x' u q : Int} {l l' : List Mg} {n n' c : Nat} {A : Option Addr} (hB : isB (ub x l) = true) (hl : l.length = n) (h : Ms S w A n l) (hS : ∀ y, w.heap.size ≤ y → S y) (f d : Int) (P : Option Addr) (m cp : Nat) (p : List UInt8) (hp : Sl w P m (bvs p))
    (hb : addB (ub x l) f d p = ub x' l') (hn : l'.length = n') (hu : addU (ub x l) f d p.length = u) (hq : addE (ub x l) f d p.length = q) :
    Calls Try.prog 31 #[.agg #[.string ⟨#[97]⟩, .int .i64 1, .int .i64 x, .slice A n c], .int .i64 f, .int .i64 d, .slice P m cp] w fun e w' =>
      ∃ A' c', e = .returned (.tuple #[.agg #[.string ⟨#[97]⟩, .int .i64 1, .int .i64 x', .slice A' n' c'], .int .i64 u, .int .i64 q]) ∧ Ms S w' A' n' l' ∧ Only [] w w' := by
  subst hl hn hu hq
  obtain ⟨h1, h2, h3, _⟩ := isB_small hB
  refine (Add_any (S := S) (w := w) (ub x l) (A := A) (c := c) h (by show l.length ≤ _; omega) h2 (by show 0 ≤ x; omega) hS f d P m cp p hp).mono fun e w' hh => ?_
  obtain ⟨A', c', e1, e2, e3⟩ := hh
  rw [hb] at e1 e2
  exact ⟨A', c', e1, e2, e3⟩
theorem u_is {S : Nat → Prop} {w : World} {x : Int} {l : List Mg} {n c : Nat} {A : Option Addr} (hB : isB (ub x l) = true) (hl : l.length = n) (h : Ms S w A n l) :
    Calls Try.prog 15 #[.agg #[.string ⟨#[97]⟩, .int .i64 1, .int .i64 x, .slice A n c]] w fun e w' => e = .returned (.bool true) ∧ Only [] w w' := by
  subst hl
  have hs := isB_small hB
  have := refIs_any (S := S) (w := w) (ub x l) (A := A) (c := c) h (by show l.length ≤ _; omega) (by show ([97] : List UInt8).length ≤ _; decide)
  rw [hB] at this
  exact this
theorem u_same {S S' : Nat → Prop} {w : World} {x : Int} {l : List Mg} {n c c2 : Nat} {A A2 : Option Addr} (hn : n ≤ 1000000) (hl : l.length = n) (h : Ms S w A n l) (h2 : Ms S' w A2 n l) :
    Calls Try.prog 17 #[.agg #[.string ⟨#[97]⟩, .int .i64 1, .int .i64 x, .slice A n c], .agg #[.string ⟨#[97]⟩, .int .i64 1, .int .i64 x, .slice A2 n c2]] w fun e w' => e = .returned (.bool true) ∧ Only [] w w' := by
  subst hl
  have := refSame_any (S := S) (S' := S') (w := w) (ub x l) (ub x l) (A1 := A) (A2 := A2) (e1 := c) (e2 := c2) h h2 (by show l.length ≤ _; omega) (by show l.length ≤ _; omega)
  have e : sameB (ub x l) (ub x l) = true := decide_eq_true rfl
  rw [e] at this
  exact this
theorem u_exp {S : Nat → Prop} {w : World} {x : Int} {l lc : List Mg} {n nc c : Nat} {A : Option Addr} (hB : isB (ub x l) = true) (hl : l.length = n) (h : Ms S w A n l) (hS : ∀ y, w.heap.size ≤ y → S y) (U : Option Addr) (nu cu : Nat) (us : List Int) (hU : Sl w U nu (ivs us)) (hnu : nu ≤ 140737488355328)
    (h1 : stayL us l = lc) (h3 : lc.length = nc) :
    Calls Try.prog 28 #[.agg #[.string ⟨#[97]⟩, .int .i64 1, .int .i64 x, .slice A n c], .slice U nu cu] w fun e w' =>
      ∃ A' c' Ag ng cg, e = .returned (.tuple #[.agg #[.string ⟨#[97]⟩, .int .i64 1, .int .i64 x, .slice A' nc c'], .slice Ag ng cg]) ∧ Ms S w' A' nc lc ∧ Only [] w w' := by
  obtain ⟨h4, h5, _⟩ := isB_small hB
  refine (exp_as (S := S) (w := w) (s := [97]) (v := 1) (x := x) (c := c) hl h (by omega) h5 hS U nu cu us hU hnu h1 rfl h3 rfl).mono fun e w' hh => ?_
  obtain ⟨A', c', Ag, cg, e1, e2, _, _, e3⟩ := hh
  exact ⟨A', c', Ag, _, cg, e1, e2, e3⟩
end Go.Proofs.Ythaodlegpjedoaa
