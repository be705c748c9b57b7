/-
  The document's atom.
-/
import Derived.Test.YtbbgdcnnacakjaaDoorYRefC
namespace Go.Proofs.YtbbgdcnnacakjaaDoor
open Go.RowKit Go.Instr

def atomD : Bool → List UInt8 → Option Nat
  | deep, [] => if deep = true then none else some 0
  | deep, c :: r =>
    if deep = false ∧ endsB c = true then some 0
    else if foreignB c = true then none
    else (atomD (if c = 91 then true else if c = 93 then false else deep) r).map (· + 1)
theorem atomD_eq : ∀ (l : List UInt8) (deep : Bool), atomD deep l = (atomN deep l).bind fun n => if (l.take n).any foreignB = true then none else some n
  | [], deep => by
    unfold atomD atomN
    cases deep <;> rfl
  | c :: r, deep => by
    unfold atomD atomN
    split
    · rfl
    · rw [atomD_eq r _]
      generalize (if c = 91 then true else if c = 93 then false else deep) = d
      cases atomN d r with
      | none => cases foreignB c <;> rfl
      | some m =>
        simp only [Option.map_some, Option.bind_some, List.take_succ_cons, List.any_cons]
        by_cases hf : foreignB c = true <;> by_cases h2 : (r.take m).any foreignB = true <;> simp [hf, h2]
def atI (k : Nat) (o : Option Nat) : Int := match o with
  | none => -1
  | some m => ((k + m : Nat) : Int)
theorem atI_map (k : Nat) (o : Option Nat) : atI k (o.map (· + 1)) = atI (k + 1) o := by
  cases o with
  | none => rfl
  | some m => show ((k + (m + 1) : Nat) : Int) = ((k + 1 + m : Nat) : Int); omega
section
variable {w : World} {A : Option Addr} {n c : Nat} {l : List UInt8}
set_option maxRecDepth 100000 in
set_option maxHeartbeats 4000000 in
theorem refAtom_any (hs : Bt w A n c l) (hn : n ≤ 140737488355000) {k0 : Nat} (hk0 : k0 ≤ n) : Calls Tryd.prog 39 #[.slice A n c, .int .i64 (k0 : Int)] w fun e w' => e = .returned (.int .i64 (atI k0 (atomD false (l.drop k0)))) ∧ w = w' := by
  have hl := hs.len
  have HS := Lib.hid hs
  have HL := Lib.hid hl
  obtain ⟨V, hV⟩ : ∃ V, atI k0 (atomD false (l.drop k0)) = V := ⟨_, rfl⟩
  have HV := Lib.hid hV
  rw [hV]
  clear hs hl hV
  go_enter Tryd.func39, Tryd.ntmps39
  go_wp2_with fail
  go_loopw [1, 5] (fun iv dv wr => w = wr ∧ ∃ (k : Nat) (b : Bool), iv = .int .i64 (k : Int) ∧ dv = .bool b ∧ k ≤ n ∧ Hid (V = atI k (atomD b (l.drop k)))) (fun iv _ _ => n - (intOf iv).toNat)
  case atStart => exact ⟨rfl, k0, false, rfl, rfl, hk0, by show _ = _; rw [HV.out]⟩
  case round =>
    obtain ⟨rfl, k, b, rfl, rfl, hk, HE⟩ := hrel
    by_cases hkn : k = n
    · subst hkn
      rw [List.drop_of_length_le (by rw [HL.out]; exact Nat.le_refl _)] at HE
      have hkk : ¬ (k : Int) < (k : Int) := by omega
      clear hk
      cases b with
      | true =>
        have HR : Hid (V = -1) := by show _ = _; rw [HE.out]; rfl
        clear HE
        go_wp2_with fail
        go_ret
        exact ⟨by rw [HR.out]; rfl, rfl⟩
      | false =>
        have HR : Hid (V = (k : Int)) := by show _ = _; rw [HE.out]; rfl
        clear HE
        go_wp2_with fail
        go_ret
        exact ⟨by rw [HR.out]; rfl, rfl⟩
    · have hlt : k < n := by omega
      have hlt' : (k : Int) < (n : Int) := by omega
      have hkl : k < l.length := by rw [HL.out]; exact hlt
      rw [List.drop_eq_getElem_cons hkl] at HE
      obtain ⟨ad, u, rfl, hu, ha⟩ := HS.out.sl.at_ (k := k) hlt
      rw [bvs_get l k hkl] at hu
      injection hu with hu
      subst hu
      unfold bv at ha
      obtain ⟨v, hv⟩ : ∃ v, l[k] = v := ⟨_, rfl⟩
      rw [hv] at ha HE
      have hspc := special_any (w := w) (v := v) (X := ((v.toNat : Nat) : Int)) rfl
      obtain ⟨q, hq⟩ : ∃ q, v.toNat = q := ⟨_, rfl⟩
      have hq8 : q < 256 := by rw [← hq]; exact byte_lt _
      rw [hq] at ha hspc
      by_cases hend : b = false ∧ endsB v = true
      · obtain ⟨rfl, he⟩ := hend
        rw [he] at hspc
        have HR : Hid (V = (k : Int)) := by show _ = _; rw [HE.out, atomD, if_pos ⟨rfl, he⟩]; rfl
        have HSP := Lib.hid hspc
        clear HE hv hq hspc he
        go_wp2_with (go_at_call 49; with_reducible refine HSP.out.mono ?_; rintro e w2 ⟨rfl, rfl⟩)
        go_ret
        exact ⟨by rw [HR.out]; rfl, rfl⟩
      · have HE2 : Hid (V = atI k (if foreignB v = true then none else (atomD (if v = 91 then true else if v = 93 then false else b) (l.drop (k + 1))).map (· + 1))) := by
          show _ = _; rw [HE.out, atomD, if_neg hend]
        clear HE
        by_cases hf : foreignB v = true
        · have HR : Hid (V = -1) := by show _ = _; rw [HE2.out, if_pos hf]; rfl
          have hqo : q < 32 ∨ 126 < q := by
            unfold foreignB at hf
            rw [hq] at hf
            simpa using hf
          cases b with
          | true =>
            rcases hqo with hqo | hqo
            · have hb1 : (q : Int) < 32 := by omega
              clear HE2 hv hq hspc hend hf hqo
              go_wp2_with fail
              go_ret
              exact ⟨by rw [HR.out]; rfl, rfl⟩
            · have hb1 : ¬ (q : Int) < 32 := by omega
              have hb2 : (126 : Int) < (q : Int) := by omega
              clear HE2 hv hq hspc hend hf hqo
              go_wp2_with fail
              go_ret
              exact ⟨by rw [HR.out]; rfl, rfl⟩
          | false =>
            have he : endsB v = false := by cases h : endsB v; rfl; exact absurd ⟨rfl, h⟩ hend
            rw [he] at hspc
            have HSP := Lib.hid hspc
            rcases hqo with hqo | hqo
            · have hb1 : (q : Int) < 32 := by omega
              clear HE2 hv hq hspc hend hf hqo he
              go_wp2_with (go_at_call 49; with_reducible refine HSP.out.mono ?_; rintro e w2 ⟨rfl, rfl⟩)
              go_ret
              exact ⟨by rw [HR.out]; rfl, rfl⟩
            · have hb1 : ¬ (q : Int) < 32 := by omega
              have hb2 : (126 : Int) < (q : Int) := by omega
              clear HE2 hv hq hspc hend hf hqo he
              go_wp2_with (go_at_call 49; with_reducible refine HSP.out.mono ?_; rintro e w2 ⟨rfl, rfl⟩)
              go_ret
              exact ⟨by rw [HR.out]; rfl, rfl⟩
        · have hqo : 32 ≤ q ∧ q ≤ 126 := by
            unfold foreignB at hf
            rw [hq] at hf
            simp at hf
            omega
          have hb1 : ¬ (q : Int) < 32 := by omega
          have hb2 : ¬ (126 : Int) < (q : Int) := by omega
          obtain ⟨b2, hb2e⟩ : ∃ b2, (if v = 91 then true else if v = 93 then false else b) = b2 := ⟨_, rfl⟩
          rw [if_neg hf, hb2e, atI_map] at HE2
          have HR : Hid (∃ (k2 : Nat) (b3 : Bool), Value.int .i64 ((k : Int) + 1) = .int .i64 (k2 : Int) ∧ Value.bool b2 = .bool b3 ∧ k2 ≤ n ∧ Hid (V = atI k2 (atomD b3 (l.drop k2)))) := ⟨k + 1, b2, by simp, rfl, by omega, HE2.out⟩
          have HM : Hid (n - (intOf (.int .i64 ((k : Int) + 1))).toNat < n - (intOf (.int .i64 (k : Int))).toNat) := by
            show n - ((k : Int) + 1).toNat < n - (k : Int).toNat
            omega
          by_cases h91 : v = 91
          · subst h91
            obtain rfl : q = 91 := hq.symm
            have hq91 : ((91 : Nat) : Int) = 91 := rfl
            rw [hq91] at ha hspc
            obtain rfl : b2 = true := hb2e.symm
            cases b with
            | true =>
              clear HE2 hq hspc hend hf hqo hb2e hv hb1 hb2 hq91 hq8
              go_wp2_with fail
              exact ⟨⟨trivial, HR.out⟩, HM.out⟩
            | false =>
              have he : endsB 91 = false := by decide
              rw [he] at hspc
              have HSP := Lib.hid hspc
              clear HE2 hq hspc hend hf hqo hb2e hv he hb1 hb2 hq91 hq8
              go_wp2_with (go_at_call 49; with_reducible refine HSP.out.mono ?_; rintro e w2 ⟨rfl, rfl⟩)
              exact ⟨⟨trivial, HR.out⟩, HM.out⟩
          · by_cases h93 : v = 93
            · subst h93
              obtain rfl : q = 93 := hq.symm
              have hq93 : ((93 : Nat) : Int) = 93 := rfl
              rw [hq93] at ha hspc
              obtain rfl : b2 = false := hb2e.symm
              cases b with
              | true =>
                clear HE2 hq hspc hend hf hqo hb2e hv hb1 hb2 hq93 hq8 h91
                go_wp2_with fail
                exact ⟨⟨trivial, HR.out⟩, HM.out⟩
              | false =>
                have he : endsB 93 = false := by decide
                rw [he] at hspc
                have HSP := Lib.hid hspc
                clear HE2 hq hspc hend hf hqo hb2e hv he hb1 hb2 hq93 hq8 h91
                go_wp2_with (go_at_call 49; with_reducible refine HSP.out.mono ?_; rintro e w2 ⟨rfl, rfl⟩)
                exact ⟨⟨trivial, HR.out⟩, HM.out⟩
            · have hc1 : ((q : Int) == 91) = false := by rw [beq_eq_false_iff_ne]; intro e; exact h91 (UInt8.toNat_inj.1 (by rw [hq]; show q = 91; omega))
              have hc2 : ((q : Int) == 93) = false := by rw [beq_eq_false_iff_ne]; intro e; exact h93 (UInt8.toNat_inj.1 (by rw [hq]; show q = 93; omega))
              rw [if_neg h91, if_neg h93] at hb2e
              subst hb2e
              cases b with
              | true =>
                clear HE2 hq hspc hend hf hqo hv h91 h93
                go_wp2_with fail
                exact ⟨⟨trivial, HR.out⟩, HM.out⟩
              | false =>
                have he : endsB v = false := by cases h : endsB v; rfl; exact absurd ⟨rfl, h⟩ hend
                rw [he] at hspc
                have HSP := Lib.hid hspc
                clear HE2 hq hspc hend hf hqo hv h91 h93 he
                go_wp2_with (go_at_call 49; with_reducible refine HSP.out.mono ?_; rintro e w2 ⟨rfl, rfl⟩)
                exact ⟨⟨trivial, HR.out⟩, HM.out⟩
end
end Go.Proofs.YtbbgdcnnacakjaaDoor
