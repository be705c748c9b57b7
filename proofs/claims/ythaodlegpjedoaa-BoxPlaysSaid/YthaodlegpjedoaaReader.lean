/-
  octet.Reader: its methods.
-/
import Derived.Test.YthaodlegpjedoaaFirst
import Derived.Test.YthaodlegpjedoaaJoin
namespace Go.Proofs.Ythaodlegpjedoaa
open Go.RowKit

/-- The Reader in block g has the bytes l left, in block kb; whether it erred. -/
structure Rd (w : World) (g kb : Nat) (A : Option Addr) (c : Nat) (bad : Bool) (l : List UInt8) : Prop where
  bk : Bk w g 109 #[.slice A l.length c, .bool bad]
  sl : Sl w A l.length (bvs l)
  cap : l.length ≤ c
  at_ : ∀ ad, A = some ad → ad.block = kb
  ne : g ≠ kb
  lt : kb < w.heap.size
  err : bad = true → l = []
  small : l.length ≤ 1000000000000
section
variable {w w' : World} {g kb : Nat} {A : Option Addr} {c : Nat} {bad : Bool} {l : List UInt8}
theorem Rd.only {rs : List Nat} (h : Rd w g kb A c bad l) (o : Only rs w w') (hg : g ∉ rs) (hk : kb ∉ rs) : Rd w' g kb A c bad l :=
  ⟨h.bk.only o hg, h.sl.only o (fun ad e => by rw [h.at_ ad e]; exact hk), h.cap, h.at_, h.ne, Nat.lt_of_lt_of_le h.lt o.size, h.err, h.small⟩
theorem Rd.keep (h : Rd w g kb A c bad l) (o : Only [] w w') : Rd w' g kb A c bad l := h.only o (fun hm => by cases hm) (fun hm => by cases hm)
theorem Rd.cell0 (h : Rd w g kb A c bad l) : w.cell? ⟨g, 0, none⟩ = some (.slice A l.length c) := by rw [h.bk.cell]; rfl
theorem Rd.cell1 (h : Rd w g kb A c bad l) : w.cell? ⟨g, 1, none⟩ = some (.bool bad) := by rw [h.bk.cell]; rfl
theorem Rd.erred (h : Rd w g kb A c bad l) : Rd ((w.setCell ⟨g, 0, none⟩ (.slice none 0 0)).setCell ⟨g, 1, none⟩ (.bool true)) g kb none 0 true [] :=
  ⟨by simpa using (h.bk.set 0 (.slice none 0 0)).set 1 (.bool true), Sl.none_, Nat.le_refl _, (fun _ e => by cases e), h.ne, by simpa [World.setCell] using h.lt, fun _ => rfl, Nat.zero_le _⟩
/-- The rest moves on by k bytes. -/
theorem Rd.moved (h : Rd w g kb A c false l) {k : Nat} (hk : k ≤ l.length) :
    Rd (w.setCell ⟨g, 0, none⟩ (.slice (if c = k then A else A.map (·.add k)) (l.length - k) (c - k))) g kb (if c = k then A else A.map (·.add k)) (c - k) false (l.drop k) := by
  have hl : (l.drop k).length = l.length - k := List.length_drop
  have hA : ∀ ad, (if c = k then A else A.map (·.add k)) = some ad → ad.block = kb := by
    intro ad e
    split at e
    · exact h.at_ ad e
    · cases A with
      | none => cases e
      | some a =>
        simp only [Option.map_some, Option.some.injEq] at e
        subst e
        rw [add_block]
        exact h.at_ a rfl
  have hcut := h.sl.cut (cap := c) hk h.cap
  rw [bvs_drop] at hcut
  refine ⟨?_, ?_, by have := h.cap; omega, hA, h.ne, by simpa [World.setCell] using h.lt, (fun e => by cases e), by have := h.small; omega⟩
  · rw [hl]
    simpa using h.bk.set 0 (.slice (if c = k then A else A.map (·.add k)) (l.length - k) (c - k))
  · rw [hl]
    exact hcut.only (rs := [g]) ((Only.refl _ _).setCell (.inl (by simp)) _) (fun ad e hm => by
      simp at hm
      exact h.ne (hm.symm.trans (hA ad e)))
end

def TookNum (w : World) (g kb : Nat) (v : Nat) (bad' : Bool) (l' : List UInt8) (e : Ending) (w' : World) : Prop :=
  e = .returned (.int .i64 (v : Int)) ∧ ∃ A' c', Rd w' g kb A' c' bad' l' ∧ Only [g] w w'
def TookRow (w : World) (g kb : Nat) (p : List UInt8) (bad' : Bool) (l' : List UInt8) (e : Ending) (w' : World) : Prop :=
  ∃ P cp A' c', e = .returned (.slice P p.length cp) ∧ Own w' 5 P p.length cp (bvs p) ∧ (∀ k ∈ blks P, w.heap.size ≤ k) ∧ Rd w' g kb A' c' bad' l' ∧ Only [g] w w'

set_option maxRecDepth 100000 in
theorem good_any {w : World} {g kb : Nat} {A : Option Addr} {c : Nat} {bad : Bool} {l : List UInt8} (h : Rd w g kb A c bad l) :
    Calls Try.prog 49 #[.pointer (some ⟨g, 0, none⟩)] w fun e w' => e = .returned (.bool (!bad)) ∧ w = w' := by
  have h1 := h.cell1
  go_enter Try.func49, Try.ntmps49
  go_wp2
  go_ret
  exact ⟨rfl, rfl⟩
set_option maxRecDepth 100000 in
theorem good_nil (w : World) : Calls Try.prog 49 #[.pointer none] w fun e w' => e = .returned (.bool false) ∧ w = w' := by
  go_enter Try.func49, Try.ntmps49
  go_wp2
  go_ret
  exact ⟨rfl, rfl⟩
set_option maxRecDepth 100000 in
theorem left_any {w : World} {g kb : Nat} {A : Option Addr} {c : Nat} {bad : Bool} {l : List UInt8} (h : Rd w g kb A c bad l) :
    Calls Try.prog 78 #[.pointer (some ⟨g, 0, none⟩)] w fun e w' => e = .returned (.int .i64 (l.length : Int)) ∧ w = w' := by
  have h0 := h.cell0
  go_enter Try.func78, Try.ntmps78
  go_wp2
  go_ret
  exact ⟨rfl, rfl⟩
set_option maxRecDepth 100000 in
theorem left_nil (w : World) : Calls Try.prog 78 #[.pointer none] w fun e w' => e = .returned (.int .i64 0) ∧ w = w' := by
  go_enter Try.func78, Try.ntmps78
  go_wp2
  go_ret
  exact ⟨rfl, rfl⟩
set_option maxRecDepth 100000 in
theorem bad_any {w : World} {g kb : Nat} {A : Option Addr} {c : Nat} {bad : Bool} {l : List UInt8} (h : Rd w g kb A c bad l) :
    Calls Try.prog 48 #[.pointer (some ⟨g, 0, none⟩)] w fun e w' => e = .returned (.tuple #[]) ∧ Rd w' g kb none 0 true [] ∧ Only [g] w w' := by
  have h0 := h.cell0
  have h1 := h.cell1
  have f0 := h.bk.free 0
  have f1 := h.bk.free 1
  go_enter Try.func48, Try.ntmps48
  go_wp2
  go_end0
  exact ⟨rfl, h.erred, ((Only.refl _ _).setCell (.inl (by simp)) _).setCell (.inl (by simp)) _⟩
set_option maxRecDepth 100000 in
theorem rbad_nil (w : World) : Calls Try.prog 48 #[.pointer none] w fun e w' => e = .returned (.tuple #[]) ∧ w = w' := by
  go_enter Try.func48, Try.ntmps48
  go_wp2
  go_returns
  exact ⟨rfl, rfl⟩
set_option maxRecDepth 100000 in
theorem whole_any {w : World} {g kb : Nat} {A : Option Addr} {c : Nat} {bad : Bool} {l : List UInt8} (h : Rd w g kb A c bad l) :
    Calls Try.prog 51 #[.pointer (some ⟨g, 0, none⟩)] w fun e w' => e = .returned (.bool (!bad && decide (l = []))) ∧ w = w' := by
  cases bad
  · cases l with
    | nil =>
      go_enter Try.func51, Try.ntmps51
      go_wp2_with (first | (go_at_call 49; refine (good_any h).mono ?_; rintro e w' ⟨rfl, rfl⟩) | (go_at_call 78; refine (left_any h).mono ?_; rintro e w' ⟨rfl, rfl⟩))
      go_ret
      exact ⟨rfl, rfl⟩
    | cons b r =>
      have hx : (((b :: r).length : Int) == 0) = false := by rw [beq_eq_false_iff_ne, List.length_cons]; omega
      generalize hm : (b :: r).length = m at hx
      have HL := Lib.hid (left_any h)
      rw [hm] at HL
      have hd : Hid (decide (b :: r = []) = false) := by show _ = _; simp
      clear hm
      go_enter Try.func51, Try.ntmps51
      go_wp2_with (first | (go_at_call 49; refine (good_any h).mono ?_; rintro e w' ⟨rfl, rfl⟩) | (go_at_call 78; refine HL.out.mono ?_; rintro e w' ⟨rfl, rfl⟩))
      go_ret
      exact ⟨by rw [hd.out]; rfl, rfl⟩
  · go_enter Try.func51, Try.ntmps51
    go_wp2_with (first | (go_at_call 49; refine (good_any h).mono ?_; rintro e w' ⟨rfl, rfl⟩))
    go_ret
    exact ⟨rfl, rfl⟩
set_option maxRecDepth 100000 in
theorem whole_nil (w : World) : Calls Try.prog 51 #[.pointer none] w fun e w' => e = .returned (.bool false) ∧ w = w' := by
  go_enter Try.func51, Try.ntmps51
  go_wp2_with (first | (go_at_call 49; refine (good_nil _).mono ?_; rintro e w' ⟨rfl, rfl⟩))
  go_ret
  exact ⟨rfl, rfl⟩
end Go.Proofs.Ythaodlegpjedoaa
