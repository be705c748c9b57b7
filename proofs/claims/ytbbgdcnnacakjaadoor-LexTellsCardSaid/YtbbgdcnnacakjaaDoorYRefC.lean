/-
  The document's special and cut.
-/
import Derived.Test.YtbbgdcnnacakjaaDoorYRefW
namespace Go.Proofs.YtbbgdcnnacakjaaDoor
open Go.RowKit Go.Instr

set_option maxRecDepth 100000 in
set_option maxHeartbeats 4000000 in
theorem special_any {w : World} {v : UInt8} {X : Int} (hX : X = (v.toNat : Int)) : Calls Tryd.prog 49 #[.int .u8 X] w fun e w' => e = .returned (.bool (endsB v)) ∧ w = w' := by
  have hex : ∀ {y : UInt8} {Y : Nat}, y.toNat = Y → X = (Y : Int) → v = y := fun h1 h2 => UInt8.toNat_inj.1 (by omega)
  have hne : ∀ {y : UInt8} {Y : Nat}, y.toNat = Y → ¬ X = (Y : Int) → v ≠ y := fun h1 h2 h => h2 (by rw [hX, h, h1])
  by_cases h1 : X = ((32 : Nat) : Int)
  · obtain rfl := hex (y := 32) rfl h1
    have HE : endsB 32 = true := by decide
    obtain rfl : X = 32 := h1
    clear hX hex hne
    go_enter Tryd.func49, Tryd.ntmps49
    go_wp2_with fail
    go_ret
    exact ⟨by rw [HE]; rfl, rfl⟩
  by_cases h2 : X = ((40 : Nat) : Int)
  · obtain rfl := hex (y := 40) rfl h2
    have HE : endsB 40 = true := by decide
    obtain rfl : X = 40 := h2
    clear hX h1 hex hne
    go_enter Tryd.func49, Tryd.ntmps49
    go_wp2_with fail
    go_ret
    exact ⟨by rw [HE]; rfl, rfl⟩
  by_cases h3 : X = ((41 : Nat) : Int)
  · obtain rfl := hex (y := 41) rfl h3
    have HE : endsB 41 = true := by decide
    obtain rfl : X = 41 := h3
    clear hX h1 h2 hex hne
    go_enter Tryd.func49, Tryd.ntmps49
    go_wp2_with fail
    go_ret
    exact ⟨by rw [HE]; rfl, rfl⟩
  by_cases h4 : X = ((34 : Nat) : Int)
  · obtain rfl := hex (y := 34) rfl h4
    have HE : endsB 34 = true := by decide
    obtain rfl : X = 34 := h4
    clear hX h1 h2 h3 hex hne
    go_enter Tryd.func49, Tryd.ntmps49
    go_wp2_with fail
    go_ret
    exact ⟨by rw [HE]; rfl, rfl⟩
  have HE : endsB v = false := by
    have a1 := hne (y := 32) rfl h1
    have a2 := hne (y := 40) rfl h2
    have a3 := hne (y := 41) rfl h3
    have a4 := hne (y := 34) rfl h4
    simp [endsB, a1, a2, a3, a4]
  have b1 : (X == 32) = false := by rw [beq_eq_false_iff_ne]; exact h1
  have b2 : (X == 40) = false := by rw [beq_eq_false_iff_ne]; exact h2
  have b3 : (X == 41) = false := by rw [beq_eq_false_iff_ne]; exact h3
  have b4 : (X == 34) = false := by rw [beq_eq_false_iff_ne]; exact h4
  clear hX h1 h2 h3 h4 hex hne
  go_enter Tryd.func49, Tryd.ntmps49
  go_wp2_with fail
  go_ret
  exact ⟨by rw [HE]; rfl, rfl⟩

theorem cut_place {l a : List UInt8} {m : Nat} (hc : cutL l = some (a, m)) : ∃ (h : a.length < l.length), l[a.length] = 123 ∧ ∀ (j : Nat) (hj : j < l.length), a.length < j → l[j] ≠ 123 := by
  unfold cutL at hc
  split at hc
  case isFalse => cases hc
  case isTrue h125 =>
    split at hc
    · cases hc
    · rename_i i hi
      split at hc
      · cases hc
      · simp only [Option.some.injEq, Prod.mk.injEq] at hc
        obtain ⟨rfl, _⟩ := hc
        have hil := lastI_lt hi
        obtain ⟨h1, h2⟩ := lastI_spec hi
        have e : (l.dropLast.take i).length = i := by rw [List.length_take]; omega
        rw [List.length_dropLast] at hil
        have hil' : i < l.length := by omega
        have key : ∃ (h : i < l.length), l[i] = 123 ∧ ∀ (j : Nat) (hj : j < l.length), i < j → l[j] ≠ 123 := by
          refine ⟨hil', by rw [← h1, List.getElem_dropLast], fun j hj hij => ?_⟩
          by_cases hjl : j < l.length - 1
          · have := h2 j (by rw [List.length_dropLast]; exact hjl) hij
            rwa [List.getElem_dropLast] at this
          · obtain rfl : j = l.length - 1 := by omega
            rw [List.getLast?_eq_getElem?, List.getElem?_eq_getElem hj] at h125
            injection h125 with h125
            rw [h125]
            decide
        simpa only [e] using key
section
variable {w : World} {A : Option Addr} {n c : Nat} {l : List UInt8}
set_option maxRecDepth 100000 in
set_option maxHeartbeats 4000000 in
theorem refCut_any (hs : Bt w A n c l) (hn : n ≤ 140737488355000) {a : List UInt8} {m : Nat} (hc : cutL l = some (a, m)) : Calls Tryd.prog 24 #[.slice A n c] w fun e w' => e = .returned (.slice A a.length c) ∧ w = w' := by
  have hl := hs.len
  have HS := Lib.hid hs
  have HL := Lib.hid hl
  obtain ⟨hil, h123, hbh⟩ := cut_place hc
  obtain ⟨i, hi⟩ : ∃ i, a.length = i := ⟨_, rfl⟩
  simp only [hi] at hil h123 hbh ⊢
  have H123 := Lib.hid h123
  have HBH := Lib.hid hbh
  obtain ⟨p, rfl⟩ : ∃ p, n = p + 1 := ⟨n - 1, by omega⟩
  have hip : i ≤ p := by omega
  clear hs hl hc h123 hbh
  go_enter Tryd.func24, Tryd.ntmps24
  go_wp2_with fail
  go_loopw [3] (fun iv wr => w = wr ∧ ∃ (k : Nat) (X : Int), iv = .int .i64 X ∧ X = (k : Int) ∧ i ≤ k ∧ k ≤ p) (fun iv _ => (intOf iv).toNat)
  case atStart => exact ⟨rfl, p, _, rfl, by omega, by omega, by omega⟩
  case round =>
    obtain ⟨rfl, k, X, rfl, hX, hik, hkp⟩ := hrel
    obtain rfl : X = (k : Int) := hX
    have hkl : k < l.length := by rw [HL.out]; omega
    obtain ⟨ad, u, rfl, hu, ha⟩ := HS.out.sl.at_ (k := k) (by omega)
    rw [bvs_get l k hkl] at hu
    injection hu with hu
    subst hu
    have ha1 : (k : Int) < ((p + 1 : Nat) : Int) := by omega
    have ha2 : k < p + 1 := by omega
    by_cases hki : k = i
    · subst hki
      rw [H123.out] at ha
      have ha' : w.cell? (ad.add k) = some (.int .u8 123) := ha
      have hpre := ybt_pre HS.out (k := k) (by omega)
      clear ha
      go_wp2_with fail
      go_ret
      exact ⟨rfl, rfl⟩
    · have hne := HBH.out k hkl (by omega)
      unfold bv at ha
      obtain ⟨v, hv⟩ : ∃ v, l[k] = v := ⟨_, rfl⟩
      rw [hv] at ha hne
      obtain ⟨q, hq⟩ : ∃ q, v.toNat = q := ⟨_, rfl⟩
      rw [hq] at ha
      have hb : ((q : Int) != 123) = true := by rw [bne_iff_ne]; intro e; exact hne (UInt8.toNat_inj.1 (by rw [hq]; show q = 123; omega))
      have HR : Hid (∃ (k2 : Nat) (X : Int), Value.int .i64 ((k : Int) - 1) = .int .i64 X ∧ X = (k2 : Int) ∧ i ≤ k2 ∧ k2 ≤ p) := ⟨k - 1, _, rfl, by omega, by omega, by omega⟩
      have HM : Hid ((intOf (.int .i64 ((k : Int) - 1))).toNat < (intOf (.int .i64 (k : Int))).toNat) := by
        show ((k : Int) - 1).toNat < (k : Int).toNat
        omega
      clear hv hq hne
      go_wp2_with fail
      exact ⟨⟨trivial, HR.out⟩, HM.out⟩
end
end Go.Proofs.YtbbgdcnnacakjaaDoor
