/-
  The document's Has of sets.
-/
import Derived.Test.YtkdaemjdiafccaaDoorNRefOk
namespace Go.Proofs.YtkdaemjdiafccaaDoor
open Go.RowKit Go.Instr

/-- One range, as the document asks it: the four ways. -/
theorem hasR_ways (n last : Int) (r : Rg) : (min (endV r.1 last) (endV r.2 last) ≤ n ∧ n ≤ max (endV r.1 last) (endV r.2 last) ∧ hasR n last r = true) ∨ (¬ min (endV r.1 last) (endV r.2 last) ≤ n ∧ hasR n last r = false) ∨ (min (endV r.1 last) (endV r.2 last) ≤ n ∧ ¬ n ≤ max (endV r.1 last) (endV r.2 last) ∧ hasR n last r = false) := by
  unfold hasR
  by_cases h1 : min (endV r.1 last) (endV r.2 last) ≤ n
  · by_cases h2 : n ≤ max (endV r.1 last) (endV r.2 last)
    · exact .inl ⟨h1, h2, by rw [decide_eq_true h1, decide_eq_true h2]; rfl⟩
    · exact .inr (.inr ⟨h1, h2, by rw [decide_eq_false h2, Bool.and_false]⟩)
  · exact .inr (.inl ⟨h1, by rw [decide_eq_false h1]; rfl⟩)
theorem endV_cases (a last : Int) : ((a == 1073741824) = true ∧ endV a last = last) ∨ ((a == 1073741824) = false ∧ endV a last = a) := by
  unfold endV
  by_cases h : a = 1073741824
  · exact .inl ⟨by simp [h], if_pos h⟩
  · exact .inr ⟨by simp [h], if_neg h⟩
set_option maxHeartbeats 4000000 in
set_option maxRecDepth 100000 in
theorem refHas_any {w : World} {A : Option Addr} {n c : Nat} {l : List Rg} (hs : Rs w A n l) (hn : n ≤ 140737488355328) (x last : Int) :
    Calls Tryd.prog 15 #[.slice A n c, .int .i64 x, .int .i64 last] w fun e w' => e = .returned (.bool (hasL l x last)) ∧ Only [] w w' := by
  have hl := hs.len
  have hE : hasL l x last = (decide (1 ≤ x) && l.any (hasR x last)) := rfl
  obtain ⟨q, hq⟩ : ∃ q, hasL l x last = q := ⟨_, rfl⟩
  rw [hq] at hE ⊢
  have HQ := Lib.hid hE
  have HS := Lib.hid hs
  have HLN := Lib.hid hl
  clear hE hs hl hq
  go_enter Tryd.func15, Tryd.ntmps15
  go_wp2
  go_loopw [7] (fun iv wr => Only [] w wr ∧ ∃ k : Nat, iv = .int .i64 (k : Int) ∧ k ≤ n ∧ Hid (q = (decide (1 ≤ x) && (l.drop k).any (hasR x last)))) (fun iv _ => n - (intOf iv).toNat)
  case atStart => exact ⟨Only.refl _ _, 0, rfl, by omega, HQ.out⟩
  case round =>
    obtain ⟨hO, k, rfl, hk, HK⟩ := hrel
    by_cases hlt : k < n
    · have hlt' : (k : Int) < (n : Int) := by omega
      have hkl : k < l.length := by rw [HLN.out]; exact hlt
      obtain ⟨ad, rfl, c1, c2⟩ := (HS.out.keep hO).at_ hlt hkl
      have hhit := any_hit (p := hasR x last) hkl
      have hmiss := any_miss (p := hasR x last) hkl
      obtain ⟨r, hr⟩ : ∃ r, l[k] = r := ⟨_, rfl⟩
      rw [hr] at c1 c2 hhit hmiss
      obtain ⟨a, b⟩ := r
      simp only [nxt] at c1 c2 hhit hmiss
      have hways := hasR_ways x last (a, b)
      simp only at hways
      have HW := Lib.hid (IntWalk.wrap64_in ((k : Int) + 1) (by omega))
      have HM : Hid (n - (intOf (.int .i64 ((k : Int) + 1))).toNat < n - (intOf (.int .i64 (k : Int))).toNat) := by
        show _ < _
        simp [intOf]
        omega
      have HYES : Hid (1 ≤ x → hasR x last (a, b) = true → q = true) := fun h1 h2 => by rw [HK.out, hhit h2, decide_eq_true h1]; rfl
      have HNO : Hid (hasR x last (a, b) = false → ∃ k' : Nat, Value.int .i64 ((k : Int) + 1) = .int .i64 (k' : Int) ∧ k' ≤ n ∧ Hid (q = (decide (1 ≤ x) && (l.drop k').any (hasR x last)))) :=
        fun h => ⟨k + 1, by simp, by omega, by show _ = _; rw [HK.out, hmiss h]⟩
      have HNX : Hid (¬ 1 ≤ x → ∃ k' : Nat, Value.int .i64 ((k : Int) + 1) = .int .i64 (k' : Int) ∧ k' ≤ n ∧ Hid (q = (decide (1 ≤ x) && (l.drop k').any (hasR x last)))) :=
        fun h => ⟨k + 1, by simp, by omega, by show _ = _; rw [HK.out, decide_eq_false h]; rfl⟩
      generalize hasR x last (a, b) = R at hways HYES HNO
      clear hr hhit hmiss
      rcases endV_cases a last with ⟨ea, va⟩ | ⟨ea, va⟩
      · rcases endV_cases b last with ⟨eb, vb⟩ | ⟨eb, vb⟩
        · rw [va, vb, show min last last = last by simp, show max last last = last by simp] at hways
          clear va vb
          by_cases hx : 1 ≤ x
          · rcases hways with ⟨w1, w2, w3⟩ | ⟨w1, w3⟩ | ⟨w1, w2, w3⟩
            · have HE := Lib.hid (HYES.out hx w3)
              clear HYES HNO HNX w3
              go_wp2_with fail
              go_quiet (fail)
              go_wp2_with fail
              go_ret
              exact ⟨by rw [HE.out]; rfl, hO.drewN _⟩
            · have HR := Lib.hid (HNO.out w3)
              clear HYES HNO HNX w3
              go_wp2_with fail
              go_quiet (fail)
              have O2 := hO.drewN nq
              clear hO c1 c2
              generalize wr.drewN nq = wq at *
              clear hn hk hlt hkl
              go_wp2_with fail
              rw [HW.out]
              exact ⟨⟨O2, HR.out⟩, HM.out⟩
            · have HR := Lib.hid (HNO.out w3)
              clear HYES HNO HNX w3
              go_wp2_with fail
              go_quiet (fail)
              have O2 := hO.drewN nq
              clear hO c1 c2
              generalize wr.drewN nq = wq at *
              clear hn hk hlt hkl
              go_wp2_with fail
              rw [HW.out]
              exact ⟨⟨O2, HR.out⟩, HM.out⟩
          · have HR := Lib.hid (HNX.out hx)
            clear HYES HNO HNX hways
            go_wp2_with fail
            go_quiet (fail)
            have O2 := hO.drewN nq
            clear hO c1 c2
            generalize wr.drewN nq = wq at *
            clear hn hk hlt hkl
            go_wp2_with fail
            rw [HW.out]
            exact ⟨⟨O2, HR.out⟩, HM.out⟩
        · rw [va, vb] at hways
          clear va vb
          obtain ⟨mn, hmn⟩ : ∃ m, min last b = m := ⟨_, rfl⟩
          obtain ⟨mx, hmx⟩ : ∃ m, max last b = m := ⟨_, rfl⟩
          rw [hmn, hmx] at hways
          by_cases hx : 1 ≤ x
          · rcases hways with ⟨w1, w2, w3⟩ | ⟨w1, w3⟩ | ⟨w1, w2, w3⟩
            · have HE := Lib.hid (HYES.out hx w3)
              clear HYES HNO HNX w3
              go_wp2_with fail
              go_quiet (fail)
              go_wp2_with fail
              go_ret
              exact ⟨by rw [HE.out]; rfl, hO.drewN _⟩
            · have HR := Lib.hid (HNO.out w3)
              clear HYES HNO HNX w3
              go_wp2_with fail
              go_quiet (fail)
              have O2 := hO.drewN nq
              clear hO c1 c2
              generalize wr.drewN nq = wq at *
              clear hn hk hlt hkl
              go_wp2_with fail
              rw [HW.out]
              exact ⟨⟨O2, HR.out⟩, HM.out⟩
            · have HR := Lib.hid (HNO.out w3)
              clear HYES HNO HNX w3
              go_wp2_with fail
              go_quiet (fail)
              have O2 := hO.drewN nq
              clear hO c1 c2
              generalize wr.drewN nq = wq at *
              clear hn hk hlt hkl
              go_wp2_with fail
              rw [HW.out]
              exact ⟨⟨O2, HR.out⟩, HM.out⟩
          · have HR := Lib.hid (HNX.out hx)
            clear HYES HNO HNX hways
            go_wp2_with fail
            go_quiet (fail)
            have O2 := hO.drewN nq
            clear hO c1 c2
            generalize wr.drewN nq = wq at *
            clear hn hk hlt hkl
            go_wp2_with fail
            rw [HW.out]
            exact ⟨⟨O2, HR.out⟩, HM.out⟩
      · rcases endV_cases b last with ⟨eb, vb⟩ | ⟨eb, vb⟩
        · rw [va, vb] at hways
          clear va vb
          obtain ⟨mn, hmn⟩ : ∃ m, min a last = m := ⟨_, rfl⟩
          obtain ⟨mx, hmx⟩ : ∃ m, max a last = m := ⟨_, rfl⟩
          rw [hmn, hmx] at hways
          by_cases hx : 1 ≤ x
          · rcases hways with ⟨w1, w2, w3⟩ | ⟨w1, w3⟩ | ⟨w1, w2, w3⟩
            · have HE := Lib.hid (HYES.out hx w3)
              clear HYES HNO HNX w3
              go_wp2_with fail
              go_quiet (fail)
              go_wp2_with fail
              go_ret
              exact ⟨by rw [HE.out]; rfl, hO.drewN _⟩
            · have HR := Lib.hid (HNO.out w3)
              clear HYES HNO HNX w3
              go_wp2_with fail
              go_quiet (fail)
              have O2 := hO.drewN nq
              clear hO c1 c2
              generalize wr.drewN nq = wq at *
              clear hn hk hlt hkl
              go_wp2_with fail
              rw [HW.out]
              exact ⟨⟨O2, HR.out⟩, HM.out⟩
            · have HR := Lib.hid (HNO.out w3)
              clear HYES HNO HNX w3
              go_wp2_with fail
              go_quiet (fail)
              have O2 := hO.drewN nq
              clear hO c1 c2
              generalize wr.drewN nq = wq at *
              clear hn hk hlt hkl
              go_wp2_with fail
              rw [HW.out]
              exact ⟨⟨O2, HR.out⟩, HM.out⟩
          · have HR := Lib.hid (HNX.out hx)
            clear HYES HNO HNX hways
            go_wp2_with fail
            go_quiet (fail)
            have O2 := hO.drewN nq
            clear hO c1 c2
            generalize wr.drewN nq = wq at *
            clear hn hk hlt hkl
            go_wp2_with fail
            rw [HW.out]
            exact ⟨⟨O2, HR.out⟩, HM.out⟩
        · rw [va, vb] at hways
          clear va vb
          obtain ⟨mn, hmn⟩ : ∃ m, min a b = m := ⟨_, rfl⟩
          obtain ⟨mx, hmx⟩ : ∃ m, max a b = m := ⟨_, rfl⟩
          rw [hmn, hmx] at hways
          by_cases hx : 1 ≤ x
          · rcases hways with ⟨w1, w2, w3⟩ | ⟨w1, w3⟩ | ⟨w1, w2, w3⟩
            · have HE := Lib.hid (HYES.out hx w3)
              clear HYES HNO HNX w3
              go_wp2_with fail
              go_quiet (fail)
              go_wp2_with fail
              go_ret
              exact ⟨by rw [HE.out]; rfl, hO.drewN _⟩
            · have HR := Lib.hid (HNO.out w3)
              clear HYES HNO HNX w3
              go_wp2_with fail
              go_quiet (fail)
              have O2 := hO.drewN nq
              clear hO c1 c2
              generalize wr.drewN nq = wq at *
              clear hn hk hlt hkl
              go_wp2_with fail
              rw [HW.out]
              exact ⟨⟨O2, HR.out⟩, HM.out⟩
            · have HR := Lib.hid (HNO.out w3)
              clear HYES HNO HNX w3
              go_wp2_with fail
              go_quiet (fail)
              have O2 := hO.drewN nq
              clear hO c1 c2
              generalize wr.drewN nq = wq at *
              clear hn hk hlt hkl
              go_wp2_with fail
              rw [HW.out]
              exact ⟨⟨O2, HR.out⟩, HM.out⟩
          · have HR := Lib.hid (HNX.out hx)
            clear HYES HNO HNX hways
            go_wp2_with fail
            go_quiet (fail)
            have O2 := hO.drewN nq
            clear hO c1 c2
            generalize wr.drewN nq = wq at *
            clear hn hk hlt hkl
            go_wp2_with fail
            rw [HW.out]
            exact ⟨⟨O2, HR.out⟩, HM.out⟩
    · obtain rfl : k = n := by omega
      have HE : Hid (q = false) := by
        show _ = _
        rw [HK.out, List.drop_of_length_le (by rw [HLN.out]; exact Nat.le_refl _)]
        simp
      clear hn hlt
      go_wp2
      go_ret
      exact ⟨by rw [HE.out]; rfl, hO⟩
end Go.Proofs.YtkdaemjdiafccaaDoor
