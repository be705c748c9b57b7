/-
  Rows of bytes of the call's own, or of new memory. Plain theorems: nothing of the program stands here but the types.
-/
import Derived.Test.YtbbgdcnnacakjaaDoorBt
import Derived.Test.YtbbgdcnnacakjaaDoorRowsOf
import Derived.Test.YtbbgdcnnacakjaaDoorOwnMore
namespace Go.Proofs.YtbbgdcnnacakjaaDoor
open Go.RowKit

section
variable {w w' : World} {A : Option Addr} {n c : Nat} {l : List UInt8}
/-- What is said of a row. -/
abbrev Row := World → Option Addr → Nat → List UInt8 → Prop
def Steady (R : Row) : Prop := ∀ (w w' : World) (rs : List Nat) (A : Option Addr) (c : Nat) (l : List UInt8), R w A c l → Only rs w w' → (∀ x ∈ blks A, x ∉ rs) → R w' A c l
def rBt : Row := fun w A c l => Bt w A l.length c l
def rOwn : Row := fun w A c l => Own w 5 A l.length c (bvs l)
theorem rBt_steady : Steady rBt := fun _ _ _ _ _ _ h o hd => Bt.only h o hd
theorem rOwn_steady : Steady rOwn := fun _ _ _ _ _ _ h o hd => Own.only h o hd
/-- Rows of bytes: the outer slice the call's own, from block `base` on; each row's blocks of the kind S, none of them the outer one's. -/
def Rz (R : Row) (S : Nat → Prop) (base : Nat) (w : World) (A : Option Addr) (n c : Nat) (ls : List (List UInt8)) : Prop :=
  ∃ vs, Own w 32 A n c vs ∧ ls.length = n ∧ (∀ x ∈ blks A, base ≤ x) ∧ ∀ (i : Nat) (l : List UInt8), ls[i]? = some l → ∃ Ai ci, vs[i]? = some (.slice Ai l.length ci) ∧ R w Ai ci l ∧ ∀ x ∈ blks Ai, S x ∧ x < w.heap.size ∧ x ∉ blks A
variable {R : Row} {S S2 : Nat → Prop} {base : Nat} {ls : List (List UInt8)}
theorem Rz.nil (R : Row) (S : Nat → Prop) (base : Nat) (w : World) : Rz R S base w none 0 0 [] := ⟨[], Own.nil _ _, rfl, (fun _ hx => nomatch hx), fun i l h => by simp at h⟩
theorem Rz.len (h : Rz R S base w A n c ls) : ls.length = n := h.choose_spec.2.1
theorem Rz.only (hR : Steady R) {rs : List Nat} (h : Rz R S base w A n c ls) (o : Only rs w w') (hA : ∀ x, base ≤ x → x ∉ rs) (hS : ∀ x, S x → x ∉ rs) : Rz R S base w' A n c ls := by
  obtain ⟨vs, h1, h2, h4, h3⟩ := h
  refine ⟨vs, h1.only o (fun x hx => hA x (h4 x hx)), h2, h4, fun i l hi => ?_⟩
  obtain ⟨Ai, ci, e1, e2, e3⟩ := h3 i l hi
  exact ⟨Ai, ci, e1, hR _ _ _ _ _ _ e2 o (fun x hx => hS x (e3 x hx).1), fun x hx => ⟨(e3 x hx).1, Nat.lt_of_lt_of_le (e3 x hx).2.1 o.size, (e3 x hx).2.2⟩⟩
theorem Rz.only' (hR : Steady R) {rs : List Nat} (h : Rz R S base w A n c ls) (o : Only rs w w') (hA : ∀ x ∈ blks A, x ∉ rs) (hS : ∀ x, S x → x ∉ rs) : Rz R S base w' A n c ls := by
  obtain ⟨vs, h1, h2, h4, h3⟩ := h
  refine ⟨vs, h1.only o hA, h2, h4, fun i l hi => ?_⟩
  obtain ⟨Ai, ci, e1, e2, e3⟩ := h3 i l hi
  exact ⟨Ai, ci, e1, hR _ _ _ _ _ _ e2 o (fun x hx => hS x (e3 x hx).1), fun x hx => ⟨(e3 x hx).1, Nat.lt_of_lt_of_le (e3 x hx).2.1 o.size, (e3 x hx).2.2⟩⟩
theorem own_apart {t t' : TypeId} {A2 : Option Addr} {n2 c2 : Nat} {xs xs2 : List Value} (h : Own w t A n c xs) (h2 : Own w t' A2 n2 c2 xs2) (hne : t ≠ t') : ∀ x ∈ blks A, x ∉ blks A2 := fun x hx hm => by
  obtain ⟨c1, h3⟩ := h.bk hx
  obtain ⟨c2, h4⟩ := h2.bk hm
  exact h3.ne h4 hne rfl
theorem Rz.keep (hR : Steady R) (h : Rz R S base w A n c ls) (o : Only [] w w') : Rz R S base w' A n c ls := h.only hR o (fun _ _ hm => nomatch hm) (fun _ _ hm => nomatch hm)
theorem Rz.mono {base2 : Nat} (h : Rz R S base w A n c ls) (hb : base2 ≤ base) (hS : ∀ x, S x → S2 x) : Rz R S2 base2 w A n c ls := by
  obtain ⟨vs, h1, h2, h4, h3⟩ := h
  refine ⟨vs, h1, h2, fun x hx => Nat.le_trans hb (h4 x hx), fun i l hi => ?_⟩
  obtain ⟨Ai, ci, e1, e2, e3⟩ := h3 i l hi
  exact ⟨Ai, ci, e1, e2, fun x hx => ⟨hS x (e3 x hx).1, (e3 x hx).2⟩⟩
theorem Rz.at_ (h : Rz R S base w A n c ls) {k : Nat} (hk : k < n) (hk' : k < ls.length) : ∃ g Ai ci, A = some ⟨g, 0, none⟩ ∧ w.cell? ⟨g, k, none⟩ = some (.slice Ai ls[k].length ci) ∧ R w Ai ci ls[k] ∧ ∀ x ∈ blks Ai, S x ∧ x < w.heap.size ∧ x ≠ g := by
  obtain ⟨vs, h1, h2, h4, h3⟩ := h
  obtain ⟨ad, u, rfl, hu, hc⟩ := h1.sl.at_ hk
  obtain ⟨g, rfl⟩ := h1.addr rfl
  obtain ⟨Ai, ci, e1, e2, e3⟩ := h3 k ls[k] (List.getElem?_eq_getElem hk')
  rw [hu] at e1
  injection e1 with e1
  subst e1
  exact ⟨g, Ai, ci, rfl, by rwa [add_none, Nat.zero_add] at hc, e2, fun x hx => ⟨(e3 x hx).1, (e3 x hx).2.1, fun h => (e3 x hx).2.2 (by simp [h])⟩⟩
/-- One more row. -/
theorem rz_push (hR : Steady R) {A' : Option Addr} {c' : Nat} {vs : List Value} {Ai : Option Addr} {ci : Nat} {l : List UInt8} (hb : base ≤ w.heap.size)
    (hown : Own w 32 A n c vs) (hl : ls.length = n) (hA : ∀ x ∈ blks A, base ≤ x) (hr : ∀ (i : Nat) (l : List UInt8), ls[i]? = some l → ∃ Ai ci, vs[i]? = some (.slice Ai l.length ci) ∧ R w Ai ci l ∧ ∀ x ∈ blks Ai, S x ∧ x < w.heap.size ∧ x ∉ blks A)
    (h : Own w' 32 A' (n + 1) c' (vs ++ [.slice Ai l.length ci])) (o : Only (blks A) w w') (hA' : ∀ k ∈ blks A', k ∈ blks A ∨ w.heap.size ≤ k) (hi : R w Ai ci l) (hi2 : ∀ x ∈ blks Ai, S x ∧ x < w.heap.size ∧ x ∉ blks A) : Rz R S base w' A' (n + 1) c' (ls ++ [l]) := by
  have hvl := hown.len
  have far : ∀ x, x < w.heap.size → x ∉ blks A → x ∉ blks A' := fun x h1 h2 h3 => by
    rcases hA' x h3 with h4 | h4
    · exact h2 h4
    · omega
  refine ⟨_, h, by simp [hl], fun x hx => ?_, fun i m hm => ?_⟩
  · rcases hA' x hx with h4 | h4
    · exact hA x h4
    · omega
  · rcases Nat.lt_or_ge i n with hlt | hge
    · rw [List.getElem?_append_left (by omega)] at hm
      obtain ⟨A2, c2, e1, e2, e3⟩ := hr i m hm
      exact ⟨A2, c2, by rw [List.getElem?_append_left (by omega)]; exact e1, hR _ _ _ _ _ _ e2 o (fun x hx => (e3 x hx).2.2), fun x hx => ⟨(e3 x hx).1, Nat.lt_of_lt_of_le (e3 x hx).2.1 o.size, far x (e3 x hx).2.1 (e3 x hx).2.2⟩⟩
    · rw [List.getElem?_append_right (by omega)] at hm
      have hi0 : i - ls.length = 0 := by
        have := (List.getElem?_eq_some_iff.1 hm).1
        simp at this
        omega
      rw [hi0] at hm
      simp at hm
      subst hm
      exact ⟨Ai, ci, by rw [List.getElem?_append_right (by omega), show i - vs.length = 0 by omega]; rfl, hR _ _ _ _ _ _ hi o (fun x hx => (hi2 x hx).2.2), fun x hx => ⟨(hi2 x hx).1, Nat.lt_of_lt_of_le (hi2 x hx).2.1 o.size, far x (hi2 x hx).2.1 (hi2 x hx).2.2⟩⟩
theorem Rz.rb (h : Rz rBt S base w A n c ls) : Rb w A n ls := by
  obtain ⟨vs, h1, h2, _, h3⟩ := h
  exact ⟨h2, vs, h1.sl, fun i l hi => by obtain ⟨Ai, ci, e1, e2, _⟩ := h3 i l hi; exact ⟨Ai, ci, e1, e2⟩⟩
end
end Go.Proofs.YtbbgdcnnacakjaaDoor
