/-
  octet.Reader: Num, Raw, Bytes, NewReader; the nil Reader.
-/
import Derived.Test.YthaodlegpjedoaaReader
import Derived.Test.YthaodlegpjedoaaWriter
namespace Go.Proofs.Ythaodlegpjedoaa
open Go.RowKit
attribute [local go_sem ↓] Go.wp_at_zero Go.wp_at_succ

/-- What Num takes. -/
def takeV (bad : Bool) (l : List UInt8) : Nat := if bad then 0 else decV l
def takeBad (bad : Bool) (l : List UInt8) : Bool := bad || decide (decN l = 0)
def takeRest (bad : Bool) (l : List UInt8) : List UInt8 := if takeBad bad l then [] else l.drop (decN l)

theorem decV_zero {l : List UInt8} (h : decN l = 0) : decV l = 0 := by
  have := dec_none_of h
  simp [decV, this]

set_option maxHeartbeats 800000 in
set_option maxRecDepth 100000 in
theorem num_any {w : World} {g kb : Nat} {A : Option Addr} {c : Nat} {bad : Bool} {l : List UInt8} (h : Rd w g kb A c bad l) :
    Calls Try.prog 77 #[.pointer (some ⟨g, 0, none⟩)] w (TookNum w g kb (takeV bad l) (takeBad bad l) (takeRest bad l)) := by
  cases bad
  · have h0 := h.cell0
    have f0 := h.bk.free 0
    have hsm := h.small
    have hcp := h.cap
    have hdn := decN_le l
    have hdv := decV_le l
    by_cases hz : decN l = 0
    · have HZ : Hid (takeV false l = 0 ∧ takeBad false l = true ∧ takeRest false l = []) := by
        show _ ∧ _
        simp [takeV, takeBad, takeRest, hz, decV_zero hz]
      have HF := Lib.hid (firstNumber_any A l.length c l w h.sl (by omega))
      rw [hz] at HF
      clear hz hdn
      go_enter Try.func77, Try.ntmps77
      go_wp2_with (first
        | (go_at_call 49; go_must (refine (good_any h).mono ?_); rintro e w' ⟨rfl, rfl⟩)
        | (go_at_call 86; go_must (refine HF.out.mono ?_); rintro e w' ⟨rfl, rfl⟩)
        | (go_at_call 48; go_must (refine (bad_any h).mono ?_); rintro e w' ⟨rfl, HR, HO⟩))
      go_ret
      rw [HZ.out.1, HZ.out.2.1, HZ.out.2.2]
      exact ⟨rfl, none, 0, HR, HO⟩
    · have HZ : Hid (takeV false l = decV l ∧ takeBad false l = false ∧ takeRest false l = l.drop (decN l)) := by
        show _ ∧ _
        simp [takeV, takeBad, takeRest, hz]
      have HF := Lib.hid (firstNumber_any A l.length c l w h.sl (by omega))
      have HM := Lib.hid (h.moved hdn)
      generalize hn : decN l = n at *
      generalize hv : decV l = v at *
      have hx : ((n : Int) == 0) = false := by rw [beq_eq_false_iff_ne]; omega
      have hnc : n ≤ c := by omega
      clear hz hn hv
      go_enter Try.func77, Try.ntmps77
      go_wp2_with (first
        | (go_at_call 49; go_must (refine (good_any h).mono ?_); rintro e w' ⟨rfl, rfl⟩)
        | (go_at_call 86; go_must (refine HF.out.mono ?_); rintro e w' ⟨rfl, rfl⟩))
      all_goals go_ret
      all_goals
        have hm := HM.out
        rw [HZ.out.1, HZ.out.2.1, HZ.out.2.2]
        have ho := fun x => (Only.refl [g] w).setCell (p := ⟨g, 0, none⟩) (.inl (by simp)) x
        first
          | (rw [if_neg (by assumption)] at hm; exact ⟨rfl, _, _, hm, ho _⟩)
          | (rw [if_pos (by assumption), show c - n = 0 from by omega] at hm; exact ⟨rfl, _, _, hm, ho _⟩)
  · have hl := h.err rfl
    subst hl
    have HZ : Hid (takeV true [] = 0 ∧ takeBad true [] = true ∧ takeRest true [] = []) := by
      show _ ∧ _
      simp [takeV, takeBad, takeRest]
    go_enter Try.func77, Try.ntmps77
    go_wp2_with (first
        | (go_at_call 49; go_must (refine (good_any h).mono ?_); rintro e w' ⟨rfl, rfl⟩))
    go_ret
    rw [HZ.out.1, HZ.out.2.1, HZ.out.2.2]
    exact ⟨rfl, A, c, h, Only.refl _ _⟩
/-- What Raw takes. -/
def rawBad (bad : Bool) (l : List UInt8) (n : Int) : Bool := bad || decide (n < 0) || decide ((l.length : Int) < n)
def rawRow (bad : Bool) (l : List UInt8) (n : Int) : List UInt8 := if rawBad bad l n then [] else l.take n.toNat
def rawRest (bad : Bool) (l : List UInt8) (n : Int) : List UInt8 := if rawBad bad l n then [] else l.drop n.toNat
theorem raw_of_bad {bad : Bool} {l : List UInt8} {n : Int} (h : rawBad bad l n = true) : rawRow bad l n = [] ∧ rawRest bad l n = [] := by
  simp [rawRow, rawRest, h]
theorem raw_of_good {bad : Bool} {l : List UInt8} {n : Int} (h : rawBad bad l n = false) : rawRow bad l n = l.take n.toNat ∧ rawRest bad l n = l.drop n.toNat := by
  simp [rawRow, rawRest, h]

set_option maxHeartbeats 800000 in
set_option maxRecDepth 100000 in
theorem rraw_any {w : World} {g kb : Nat} {A : Option Addr} {c : Nat} {bad : Bool} {l : List UInt8} (n : Int) (h : Rd w g kb A c bad l) :
    Calls Try.prog 76 #[.pointer (some ⟨g, 0, none⟩), .int .i64 n] w (TookRow w g kb (rawRow bad l n) (rawBad bad l n) (rawRest bad l n)) := by
  by_cases hout : n < 0 ∨ (l.length : Int) < n
  · have hb : rawBad bad l n = true := by
      unfold rawBad
      rcases hout with ho | ho <;> simp [ho]
    have HB := Lib.hid hb
    have HZ := Lib.hid (raw_of_bad hb)
    clear hb
    by_cases hneg : n < 0
    · clear hout
      go_enter Try.func76, Try.ntmps76
      go_wp2_with (first
        | (go_at_call 48; go_must (refine (bad_any h).mono ?_); rintro e w1 ⟨rfl, HR, HO⟩)
        | (go_at_call 49; go_must (refine (good_any HR).mono ?_); rintro e w' ⟨rfl, rfl⟩))
      go_ret
      rw [HZ.out.1, HB.out, HZ.out.2]
      exact ⟨none, 0, none, 0, rfl, Own.nil _ _, fun k hk => (by cases hk), HR, HO⟩
    · have hbig : (l.length : Int) < n := by omega
      clear hout
      go_enter Try.func76, Try.ntmps76
      go_wp2_with (first
        | (go_at_call 78; go_must (refine (left_any h).mono ?_); rintro e w' ⟨rfl, rfl⟩)
        | (go_at_call 48; go_must (refine (bad_any h).mono ?_); rintro e w1 ⟨rfl, HR, HO⟩)
        | (go_at_call 49; go_must (refine (good_any HR).mono ?_); rintro e w' ⟨rfl, rfl⟩))
      go_ret
      rw [HZ.out.1, HB.out, HZ.out.2]
      exact ⟨none, 0, none, 0, rfl, Own.nil _ _, fun k hk => (by cases hk), HR, HO⟩
  · have h0 : 0 ≤ n := by omega
    obtain ⟨m, rfl⟩ := Int.eq_ofNat_of_zero_le h0
    have hml : m ≤ l.length := by omega
    cases bad
    · have hb : rawBad false l (m : Int) = false := by
        unfold rawBad
        simp
        omega
      have HB := Lib.hid hb
      have hz := raw_of_good hb
      rw [Int.toNat_natCast] at hz
      have HZ := Lib.hid hz
      have hsm := h.small
      have hcp := h.cap
      have hc0 := h.cell0
      have hlen : (l.take m).length = m := by rw [List.length_take]; omega
      have hpre := h.sl.pre hml
      rw [bvs_take] at hpre
      have HPre := Lib.hid hpre
      clear hb hz hpre hout
      go_enter Try.func76, Try.ntmps76
      go_wp2_with (first
        | (go_at_call 78; go_must (refine (left_any h).mono ?_); rintro e w' ⟨rfl, rfl⟩)
        | (go_at_call 49; go_must (refine (good_any h).mono ?_); rintro e w' ⟨rfl, rfl⟩))
      refine (join_one w A c m _ hlen HPre.out (by omega)).mono ?_
      rintro e w1 ⟨⟨P, cp, rfl, HV, HO, HB1⟩, _⟩
      have hR1 := h.keep HO
      have k0 := hR1.cell0
      have z0 := hR1.bk.free 0
      have HM := Lib.hid (hR1.moved hml)
      have ho := Lib.hid (fun x => (HO.mono (ss := [g]) (fun _ hx => by cases hx)).setCell (p := ⟨g, 0, none⟩) (.inl (by simp)) x)
      have HV2 := Lib.hid (fun x => HV.setFar (p := ⟨g, 0, none⟩) (HV.ne hR1.bk (by decide)) x)
      clear hc0
      rw [hlen] at HV2 ⊢
      go_wp2
      all_goals go_ret
      all_goals
        have hm := HM.out
        rw [HZ.out.1, HB.out, HZ.out.2]
        first
          | (rw [if_neg (by assumption)] at hm; exact ⟨P, cp, _, _, by rw [hlen]; rfl, by rw [hlen]; exact HV2.out _, HB1, hm, ho.out _⟩)
          | (rw [if_pos (by assumption), show c - m = 0 from by omega] at hm; exact ⟨P, cp, _, _, by rw [hlen]; rfl, by rw [hlen]; exact HV2.out _, HB1, hm, ho.out _⟩)
    · have hl := h.err rfl
      subst hl
      obtain rfl : m = 0 := by simpa using hml
      have HZ : Hid (rawRow true [] ((0 : Nat) : Int) = [] ∧ rawBad true [] ((0 : Nat) : Int) = true ∧ rawRest true [] ((0 : Nat) : Int) = []) := by
        show _ ∧ _
        simp [rawRow, rawBad, rawRest]
      clear hout h0 hml
      go_enter Try.func76, Try.ntmps76
      go_wp2_with (first
        | (go_at_call 78; go_must (refine (left_any h).mono ?_); rintro e w' ⟨rfl, rfl⟩)
        | (go_at_call 49; go_must (refine (good_any h).mono ?_); rintro e w' ⟨rfl, rfl⟩))
      go_ret
      rw [HZ.out.1, HZ.out.2.1, HZ.out.2.2]
      exact ⟨none, 0, A, c, rfl, Own.nil _ _, fun k hk => (by cases hk), h, Only.refl _ _⟩
end Go.Proofs.Ythaodlegpjedoaa
