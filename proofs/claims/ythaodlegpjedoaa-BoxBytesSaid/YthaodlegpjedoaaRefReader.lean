/-
  The reference's Reader: its methods.
-/
import Derived.Test.YthaodlegpjedoaaReader3
import Derived.Test.YthaodlegpjedoaaRefEnc
namespace Go.Proofs.Ythaodlegpjedoaa
open Go.RowKit

/-- The reference's Reader in block g has the bytes l left, in block kb; whether it erred. -/
structure Rr (w : World) (g kb : Nat) (A : Option Addr) (c : Nat) (bad : Bool) (l : List UInt8) : Prop where
  bk : Bk w g 85 #[.slice A l.length c, .bool bad]
  sl : Sl w A l.length (bvs l)
  cap : l.length ≤ c
  at_ : ∀ ad, A = some ad → ad.block = kb
  ne : g ≠ kb
  lt : kb < w.heap.size
  err : bad = true → l = []
  small : l.length ≤ 1000000000000
section
variable {w w' : World} {g kb : Nat} {A : Option Addr} {c : Nat} {bad : Bool} {l : List UInt8}
theorem Rr.only {rs : List Nat} (h : Rr w g kb A c bad l) (o : Only rs w w') (hg : g ∉ rs) (hk : kb ∉ rs) : Rr w' g kb A c bad l :=
  ⟨h.bk.only o hg, h.sl.only o (fun ad e => by rw [h.at_ ad e]; exact hk), h.cap, h.at_, h.ne, Nat.lt_of_lt_of_le h.lt o.size, h.err, h.small⟩
theorem Rr.keep (h : Rr w g kb A c bad l) (o : Only [] w w') : Rr w' g kb A c bad l := h.only o (fun hm => by cases hm) (fun hm => by cases hm)
theorem Rr.cell0 (h : Rr w g kb A c bad l) : w.cell? ⟨g, 0, none⟩ = some (.slice A l.length c) := by rw [h.bk.cell]; rfl
theorem Rr.cell1 (h : Rr w g kb A c bad l) : w.cell? ⟨g, 1, none⟩ = some (.bool bad) := by rw [h.bk.cell]; rfl
theorem Rr.erred (h : Rr w g kb A c bad l) : Rr ((w.setCell ⟨g, 1, none⟩ (.bool true)).setCell ⟨g, 0, none⟩ (.slice none 0 0)) g kb none 0 true [] :=
  ⟨by simpa using (h.bk.set 1 (.bool true)).set 0 (.slice none 0 0), Sl.none_, Nat.le_refl _, (fun _ e => by cases e), h.ne, by simpa [World.setCell] using h.lt, fun _ => rfl, Nat.zero_le _⟩
/-- The rest moves on by k bytes. -/
theorem Rr.moved (h : Rr w g kb A c false l) {k : Nat} (hk : k ≤ l.length) :
    Rr (w.setCell ⟨g, 0, none⟩ (.slice (if c = k then A else A.map (·.add k)) (l.length - k) (c - k))) g kb (if c = k then A else A.map (·.add k)) (c - k) false (l.drop k) := by
  have hl : (l.drop k).length = l.length - k := List.length_drop
  have hA : ∀ ad, (if c = k then A else A.map (·.add k)) = some ad → ad.block = kb := by
    intro ad e
    split at e
    · exact h.at_ ad e
    · cases A with
      | none => cases e
      | some a =>
        simp only [Option.map_some, Option.some.injEq] at e
        subst e
        rw [add_block]
        exact h.at_ a rfl
  have hcut := h.sl.cut (cap := c) hk h.cap
  rw [bvs_drop] at hcut
  refine ⟨?_, ?_, by have := h.cap; omega, hA, h.ne, by simpa [World.setCell] using h.lt, (fun e => by cases e), by have := h.small; omega⟩
  · rw [hl]
    simpa using h.bk.set 0 (.slice (if c = k then A else A.map (·.add k)) (l.length - k) (c - k))
  · rw [hl]
    exact hcut.only (rs := [g]) ((Only.refl _ _).setCell (.inl (by simp)) _) (fun ad e hm => by
      simp at hm
      exact h.ne (hm.symm.trans (hA ad e)))
end

def TookNumR (w : World) (g kb : Nat) (v : Nat) (bad' : Bool) (l' : List UInt8) (e : Ending) (w' : World) : Prop :=
  e = .returned (.int .i64 (v : Int)) ∧ ∃ A' c', Rr w' g kb A' c' bad' l' ∧ Only [g] w w'
def TookRowR (w : World) (g kb : Nat) (p : List UInt8) (bad' : Bool) (l' : List UInt8) (e : Ending) (w' : World) : Prop :=
  ∃ P cp A' c', e = .returned (.slice P p.length cp) ∧ Own w' 5 P p.length cp (bvs p) ∧ (∀ k ∈ blks P, w.heap.size ≤ k) ∧ Rr w' g kb A' c' bad' l' ∧ Only [g] w w'

set_option maxRecDepth 100000 in
theorem refWhole_any {w : World} {g kb : Nat} {A : Option Addr} {c : Nat} {bad : Bool} {l : List UInt8} (h : Rr w g kb A c bad l) :
    Calls Try.prog 54 #[.pointer (some ⟨g, 0, none⟩)] w fun e w' => e = .returned (.bool (!bad && decide (l = []))) ∧ w = w' := by
  have h0 := h.cell0
  have h1 := h.cell1
  cases bad
  · cases l with
    | nil =>
      go_enter Try.func54, Try.ntmps54
      go_wp2
      go_ret
      exact ⟨rfl, rfl⟩
    | cons b r =>
      have hx : (((b :: r).length : Int) == 0) = false := by rw [beq_eq_false_iff_ne, List.length_cons]; omega
      have hd : Hid (decide (b :: r = []) = false) := by show _ = _; simp
      generalize hm : (b :: r).length = m at hx h0
      clear hm h
      go_enter Try.func54, Try.ntmps54
      go_wp2
      go_ret
      exact ⟨by rw [hd.out]; rfl, rfl⟩
  · go_enter Try.func54, Try.ntmps54
    go_wp2
    go_ret
    exact ⟨rfl, rfl⟩
set_option maxRecDepth 100000 in
theorem refBad_any {w : World} {g kb : Nat} {A : Option Addr} {c : Nat} {bad : Bool} {l : List UInt8} (h : Rr w g kb A c bad l) :
    Calls Try.prog 80 #[.pointer (some ⟨g, 0, none⟩)] w fun e w' => e = .returned (.tuple #[]) ∧ Rr w' g kb none 0 true [] ∧ Only [g] w w' := by
  have h0 := h.cell0
  have h1 := h.cell1
  have f0 := h.bk.free 0
  have f1 := h.bk.free 1
  go_enter Try.func80, Try.ntmps80
  go_wp2
  go_end0
  exact ⟨rfl, h.erred, ((Only.refl _ _).setCell (.inl (by simp)) _).setCell (.inl (by simp)) _⟩

set_option maxHeartbeats 800000 in
set_option maxRecDepth 100000 in
theorem refRaw_any {w : World} {g kb : Nat} {A : Option Addr} {c : Nat} {bad : Bool} {l : List UInt8} (n : Int) (h : Rr w g kb A c bad l) :
    Calls Try.prog 79 #[.pointer (some ⟨g, 0, none⟩), .int .i64 n] w (TookRowR w g kb (rawRow bad l n) (rawBad bad l n) (rawRest bad l n)) := by
  have hc0 := h.cell0
  have hc1 := h.cell1
  by_cases hout : n < 0 ∨ (l.length : Int) < n
  · have hb : rawBad bad l n = true := by
      unfold rawBad
      rcases hout with ho | ho <;> simp [ho]
    have HB := Lib.hid hb
    have HZ := Lib.hid (raw_of_bad hb)
    clear hb
    by_cases hneg : n < 0
    · clear hout
      go_enter Try.func79, Try.ntmps79
      go_wp2_with (first
        | (go_at_call 80; go_must (refine (refBad_any h).mono ?_); rintro e w1 ⟨rfl, HR, HO⟩; have k1 := HR.cell1))
      go_ret
      rw [HZ.out.1, HB.out, HZ.out.2]
      exact ⟨none, 0, none, 0, rfl, Own.nil _ _, fun k hk => (by cases hk), HR, HO⟩
    · have hbig : (l.length : Int) < n := by omega
      clear hout
      go_enter Try.func79, Try.ntmps79
      go_wp2_with (first
        | (go_at_call 80; go_must (refine (refBad_any h).mono ?_); rintro e w1 ⟨rfl, HR, HO⟩; have k1 := HR.cell1))
      go_ret
      rw [HZ.out.1, HB.out, HZ.out.2]
      exact ⟨none, 0, none, 0, rfl, Own.nil _ _, fun k hk => (by cases hk), HR, HO⟩
  · have h0 : 0 ≤ n := by omega
    obtain ⟨m, rfl⟩ := Int.eq_ofNat_of_zero_le h0
    have hml : m ≤ l.length := by omega
    cases bad
    · have hb : rawBad false l (m : Int) = false := by
        unfold rawBad
        simp
        omega
      have HB := Lib.hid hb
      have hz := raw_of_good hb
      rw [Int.toNat_natCast] at hz
      have HZ := Lib.hid hz
      have hsm := h.small
      have hcp := h.cap
      have hlen : (l.take m).length = m := by rw [List.length_take]; omega
      have hpre := h.sl.pre hml
      rw [bvs_take] at hpre
      obtain ⟨i0, hi, hz0, hz1, hz2⟩ := info_parts infoByte
      have ho0 : Own (w.alloc (.cells #[] 5)) 5 (some ⟨w.heap.size, 0, none⟩) 0 0 [] := World.ownsRow_lit w #[] 0 (Nat.zero_le _) (Nat.zero_le _) rfl
      generalize hq : l.take m = q at *
      have HQ := Lib.hid hlen
      have hglt := h.bk.lt
      have HRr := Lib.hid h
      clear hb hz hout hlen hq
      go_enter Try.func79, Try.ntmps79
      go_wp2_with (first
        | (at_builtin; go_must (refine wpList_append_sl rfl (.tmp 23) (.tmp 29) 29 rfl 5 i0 (.int .u8 0) 1 Try.underlying29 hi hz0 hz1 hz2 rfl _ _ _ _ rfl ho0 A m c _ rfl (hpre.alloc _) (bvs_one _) (by unfold maxLen; omega) (by omega) ?_); intro P cp w1 HV HO1 HB1; rw [List.nil_append] at HV; rw [Nat.zero_add] at HV; have HO : Only [] w w1 := ((Only.refl [] w).alloc _).trans HO1 (fun x hx => .inr (by simp at hx; omega)); have k0 := (h.keep HO).cell0; have z0 := (h.keep HO).bk.free 0))
      all_goals go_ret
      all_goals
        have hR1 := HRr.out.keep HO
        have HM := hR1.moved hml
        have HBk : ∀ k ∈ blks P, w.heap.size ≤ k := fun k hk => by
          rcases HB1 k hk with h1 | h1
          · simp at h1; omega
          · simp at h1; omega
        have ho := fun x => (HO.mono (ss := [g]) (fun _ hx => by cases hx)).setCell (p := ⟨g, 0, none⟩) (.inl (by simp)) x
        have HV2 := fun x => HV.setFar (p := ⟨g, 0, none⟩) (HV.ne hR1.bk (by decide)) x
        rw [HZ.out.1, HB.out, HZ.out.2]
        first
          | (rw [if_neg (by assumption)] at HM; exact ⟨P, cp, _, _, by rw [HQ.out]; rfl, by rw [HQ.out]; exact HV2 _, HBk, HM, ho _⟩)
          | (rw [if_pos (by assumption), show c - m = 0 from by omega] at HM; exact ⟨P, cp, _, _, by rw [HQ.out]; rfl, by rw [HQ.out]; exact HV2 _, HBk, HM, ho _⟩)
    · have hl := h.err rfl
      subst hl
      obtain rfl : m = 0 := by simpa using hml
      have HZ : Hid (rawRow true [] ((0 : Nat) : Int) = [] ∧ rawBad true [] ((0 : Nat) : Int) = true ∧ rawRest true [] ((0 : Nat) : Int) = []) := by
        show _ ∧ _
        simp [rawRow, rawBad, rawRest]
      clear hout h0 hml
      go_enter Try.func79, Try.ntmps79
      go_wp2
      go_ret
      rw [HZ.out.1, HZ.out.2.1, HZ.out.2.2]
      exact ⟨none, 0, A, c, rfl, Own.nil _ _, fun k hk => (by cases hk), h, Only.refl _ _⟩
end Go.Proofs.Ythaodlegpjedoaa
