/-
  The document's Wants, cut, special.
-/
import Derived.Test.YtbbgdcnnacakjaaDoorYLex
namespace Go.Proofs.YtbbgdcnnacakjaaDoor
open Go.RowKit Go.Instr

theorem lastI_some {x : UInt8} : ∀ {l : List UInt8}, x ∈ l → ∃ k, lastI x l = some k
  | d :: r, hx => by
    unfold lastI
    cases hk : lastI x r with
    | some k => exact ⟨k + 1, rfl⟩
    | none =>
      rcases List.mem_cons.1 hx with rfl | hx
      · exact ⟨0, if_pos rfl⟩
      · obtain ⟨k, hk2⟩ := lastI_some hx
        rw [hk] at hk2
        cases hk2
theorem lastI_spec {x : UInt8} : ∀ {l : List UInt8} {i : Nat} (h : lastI x l = some i), l[i]'(lastI_lt h) = x ∧ ∀ (j : Nat) (hj : j < l.length), i < j → l[j] ≠ x
  | c :: r, i, h => by
    have h0 := h
    unfold lastI at h
    cases hr : lastI x r with
    | none =>
      rw [hr] at h
      simp only at h
      split at h
      · rename_i hc
        injection h with h
        subst h
        refine ⟨by simpa using hc, fun j hj hij => ?_⟩
        obtain ⟨m, rfl⟩ : ∃ m, j = m + 1 := ⟨j - 1, by omega⟩
        simp only [List.getElem_cons_succ]
        intro e
        have hm : m < r.length := by simpa using hj
        have := lastI_some (l := r) (x := x) (by rw [← e]; exact List.getElem_mem hm)
        obtain ⟨k, hk⟩ := this
        rw [hr] at hk
        cases hk
      · cases h
    | some k =>
      rw [hr] at h
      injection h with h
      subst h
      obtain ⟨h1, h2⟩ := lastI_spec hr
      refine ⟨by simpa using h1, fun j hj hij => ?_⟩
      obtain ⟨m, rfl⟩ : ∃ m, j = m + 1 := ⟨j - 1, by omega⟩
      simp only [List.getElem_cons_succ]
      exact h2 m (by simpa using hj) (by omega)
/-- What is wanted, once the place ahead of the last digits is known. -/
theorem want_at {l : List UInt8} (h125 : l.getLast? = some 125) {a : Nat} (ha : a < l.dropLast.length) (hn : isDig l.dropLast[a] = false) (hd : ∀ (j : Nat) (hj : j < l.dropLast.length), a < j → isDig l.dropLast[j] = true) :
    wantL l = if l.dropLast[a] = 123 then numD (l.dropLast.drop (a + 1)) else none := by
  unfold wantL cutL
  rw [if_pos h125]
  have hdig : isDig 123 = false := by decide
  by_cases h : l.dropLast[a] = 123
  · rw [if_pos h, lastI_at ha h (fun j hj haj e => by have := hd j hj haj; rw [e, hdig] at this; cases this)]
    simp only
    cases numD (l.dropLast.drop (a + 1)) <;> rfl
  · rw [if_neg h]
    cases hi : lastI 123 l.dropLast with
    | none => rfl
    | some i =>
      obtain ⟨h1, h2⟩ := lastI_spec hi
      have hil := lastI_lt hi
      have hia : i < a := by
        rcases Nat.lt_trichotomy i a with h3 | h3 | h3
        · exact h3
        · subst h3; exact absurd h1 h
        · have := hd i hil h3; rw [h1, hdig] at this; cases this
      simp only
      have hno : numD (l.dropLast.drop (i + 1)) = none := by
        unfold numD
        have : (l.dropLast.drop (i + 1)).all isDig = false := by
          rw [List.all_eq_false]
          refine ⟨l.dropLast[a], ?_, by rw [hn]; simp⟩
          have e : l.dropLast[a] = (l.dropLast.drop (i + 1))[a - (i + 1)]'(by rw [List.length_drop]; omega) := by
            rw [List.getElem_drop]
            congr 1
            omega
          rw [e]
          exact List.getElem_mem _
        rw [this]
        simp
      rw [hno]
      rfl
theorem want_digs {l : List UInt8} (hd : ∀ (j : Nat) (hj : j < l.dropLast.length), isDig l.dropLast[j] = true) : wantL l = none := by
  unfold wantL cutL
  split
  · rw [lastI_none (fun j hj e => by have := hd j hj; rw [e] at this; revert this; decide)]
    rfl
  · rfl
theorem want_short {l : List UInt8} (h : l.length < 3) : wantL l = none := by
  unfold wantL cutL
  split
  · split
    · rfl
    · rename_i i hi
      have := lastI_lt hi
      rw [List.length_dropLast] at this
      have hn : numD (l.dropLast.drop (i + 1)) = none := by
        unfold numD
        rw [if_pos (by rw [List.length_drop, List.length_dropLast]; omega)]
      rw [hn]
      rfl
  · rfl
section
variable {w : World} {A : Option Addr} {n c : Nat} {l : List UInt8}
theorem getLast_at (hn : l.length = n) (h0 : 0 < n) : l.getLast? = some (l[n - 1]'(by omega)) := by
  subst hn
  rw [List.getLast?_eq_getElem?]
  exact List.getElem?_eq_getElem (by omega)
set_option maxRecDepth 100000 in
set_option maxHeartbeats 4000000 in
theorem refWants_any (hs : Bt w A n c l) (hn : n ≤ 140737488355000) : Calls Tryd.prog 13 #[.slice A n c] w fun e w' => e = .returned (numO (wantL l)) ∧ w = w' := by
  have hl := hs.len
  have HS := Lib.hid hs
  have HL := Lib.hid hl
  obtain ⟨V, hV⟩ : ∃ V, numO (wantL l) = V := ⟨_, rfl⟩
  have HV := Lib.hid hV
  rw [hV]
  clear hs hl hV
  by_cases h3 : n < 3
  · have h3' : (n : Int) < 3 := by omega
    have HE : Hid (V = .tuple #[.int .i64 0, .bool false]) := by show _ = _; rw [← HV.out, want_short (by rw [HL.out]; exact h3)]; rfl
    go_enter Tryd.func13, Tryd.ntmps13
    go_wp2_with fail
    go_ret2
    exact ⟨by rw [HE.out]; rfl, rfl⟩
  have h3' : ¬ (n : Int) < 3 := by omega
  obtain ⟨m, rfl⟩ : ∃ m, n = m + 1 := ⟨n - 1, by omega⟩
  obtain ⟨ad, u, rfl, hu, hc⟩ := HS.out.sl.at_ (k := m) (by omega)
  have hml : m < l.length := by rw [HL.out]; omega
  rw [bvs_get l m hml] at hu
  injection hu with hu
  subst hu
  obtain ⟨z, hz⟩ : ∃ z, l[m] = z := ⟨_, rfl⟩
  rw [hz] at hc
  unfold bv at hc
  obtain ⟨y, hy⟩ : ∃ y, z.toNat = y := ⟨_, rfl⟩
  rw [hy] at hc
  have hgl := getLast_at HL.out (by omega)
  simp only [Nat.add_sub_cancel] at hgl
  rw [hz] at hgl
  have hm1 : ((m + 1 : Nat) : Int) - 1 = (m : Int) := by omega
  have hmm : (m : Int) < ((m + 1 : Nat) : Int) := by omega
  have hmm' : m < m + 1 := by omega
  by_cases h125 : y = 125
  case neg =>
    have hb : ((y : Int) != 125) = true := by rw [bne_iff_ne]; omega
    have HE : Hid (V = .tuple #[.int .i64 0, .bool false]) := by
      show _ = _
      rw [← HV.out]
      have : wantL l = none := by
        unfold wantL cutL
        rw [if_neg (by rw [hgl]; intro e; injection e with e; exact h125 (by rw [← hy, e]; rfl))]
        rfl
      rw [this]
      rfl
    clear hy hz hgl h125
    go_enter Tryd.func13, Tryd.ntmps13
    go_wp2_with fail
    go_ret2
    exact ⟨by rw [HE.out]; rfl, rfl⟩
  case pos =>
    have hb : ((y : Int) != 125) = false := by rw [bne_eq_false_iff_eq, h125]; rfl
    have h125' : l.getLast? = some 125 := by rw [hgl]; congr 1; exact UInt8.toNat_inj.1 (by rw [hy, h125]; rfl)
    have H125 := Lib.hid h125'
    have hdl : l.dropLast.length = m := by rw [List.length_dropLast, HL.out]; omega
    have hdg : ∀ (j : Nat) (h : j < l.dropLast.length) (h2 : j < l.length), l.dropLast[j] = l[j] := fun j h h2 => List.getElem_dropLast h
    have HDL := Lib.hid hdl
    have HDG := Lib.hid hdg
    clear hy hz hgl h125 h125' hdl hdg
    go_enter Tryd.func13, Tryd.ntmps13
    go_wp2_with fail
    go_loopw [4] (fun iv wr => w = wr ∧ ∃ (k : Nat) (X : Int), iv = .int .i64 X ∧ X = (k : Int) - 1 ∧ k ≤ m ∧ Hid (∀ (j : Nat) (hj : j < l.dropLast.length), k ≤ j → isDig l.dropLast[j] = true)) (fun iv _ => (intOf iv + 1).toNat)
    case atStart => exact ⟨rfl, m, _, rfl, by omega, by omega, fun j hj hk => absurd hj (by rw [HDL.out]; omega)⟩
    case round =>
      obtain ⟨rfl, k, X, rfl, hX, hk, HD⟩ := hrel
      cases k with
      | zero =>
        obtain rfl : X = -1 := by rw [hX]; rfl
        have HE : Hid (V = .tuple #[.int .i64 0, .bool false]) := by
          show _ = _
          rw [← HV.out, want_digs (fun j hj => HD.out j hj (Nat.zero_le _))]
          rfl
        clear hX HD
        go_wp2_with fail
        go_ret2
        exact ⟨by rw [HE.out]; rfl, rfl⟩
      | succ a =>
        obtain rfl : X = (a : Int) := by rw [hX]; omega
        have ham : a < m := by omega
        have hadl : a < l.dropLast.length := by rw [HDL.out]; exact ham
        have hal : a < l.length := by rw [HL.out]; omega
        obtain ⟨ad', u', e', hu', ha⟩ := HS.out.sl.at_ (k := a) (by omega)
        injection e' with e'
        subst e'
        rw [bvs_get l a hal] at hu'
        injection hu' with hu'
        subst hu'
        have hda := HDG.out a hadl hal
        obtain ⟨v, hv⟩ : ∃ v, l[a] = v := ⟨_, rfl⟩
        rw [hv] at ha hda
        unfold bv at ha
        obtain ⟨q, hq⟩ : ∃ q, v.toNat = q := ⟨_, rfl⟩
        have hq8 : q < 256 := by rw [← hq]; exact byte_lt _
        rw [hq] at ha
        have ha1 : (a : Int) < ((m + 1 : Nat) : Int) := by omega
        have ha2 : a < m + 1 := by omega
        by_cases hdig : isDig v = true
        · have hq1 : 48 ≤ q ∧ q ≤ 57 := by
            simp only [isDig, Bool.and_eq_true, decide_eq_true_eq] at hdig
            omega
          have hq2 : (48 : Int) ≤ (q : Int) := by omega
          have hq3 : (q : Int) ≤ 57 := by omega
          have HR : Hid (∃ (k : Nat) (X : Int), Value.int .i64 ((a : Int) - 1) = .int .i64 X ∧ X = (k : Int) - 1 ∧ k ≤ m ∧ Hid (∀ (j : Nat) (hj : j < l.dropLast.length), k ≤ j → isDig l.dropLast[j] = true)) :=
            ⟨a, _, rfl, rfl, by omega, fun j hj haj => by
              rcases Nat.eq_or_lt_of_le haj with h | h
              · subst h; rw [hda]; exact hdig
              · exact HD.out j hj h⟩
          have HM : Hid ((intOf (.int .i64 ((a : Int) - 1)) + 1).toNat < (intOf (.int .i64 (a : Int)) + 1).toNat) := by
            show ((a : Int) - 1 + 1).toNat < ((a : Int) + 1).toNat
            omega
          clear hX HD hq1 hdig hq hv hda
          go_wp2_with fail
          exact ⟨⟨trivial, HR.out⟩, HM.out⟩
        · have hnd : isDig v = false := by simpa using hdig
          have hqo : q < 48 ∨ 57 < q := by
            unfold isDig at hnd
            rw [hq] at hnd
            by_cases h1 : q < 48
            · exact .inl h1
            · right
              rw [decide_eq_true (p := 48 ≤ q) (by omega)] at hnd
              simp at hnd
              omega
          have hwa := want_at H125.out hadl (by rw [hda]; exact hnd) (fun j hj haj => HD.out j hj haj)
          rw [hda] at hwa
          obtain ⟨dl, hdl0⟩ : ∃ dl, m - 1 - a = dl := ⟨_, rfl⟩
          have hdn : ((m + 1 : Nat) : Int) - 2 - (a : Int) = (dl : Int) := by omega
          have hdm : (m : Int) - 1 - (a : Int) = (dl : Int) := by omega
          have hD : (l.dropLast.drop (a + 1)).length = dl := by rw [List.length_drop, HDL.out]; omega
          by_cases h123 : q = 123
          case neg =>
            have hb3 : ((q : Int) != 123) = true := by rw [bne_iff_ne]; omega
            have HE : Hid (V = .tuple #[.int .i64 0, .bool false]) := by
              show _ = _
              rw [← HV.out, hwa, if_neg (by intro e; exact h123 (by rw [← hq, e]; rfl))]
              rfl
            clear hX HD hdig hq hv hda hnd hwa hdl0 hD h123
            rcases hqo with hqo | hqo
            · have hqo' : (q : Int) < 48 := by omega
              go_wp2_with fail
              go_ret2
              exact ⟨by rw [HE.out]; rfl, rfl⟩
            · have hqo' : (57 : Int) < (q : Int) := by omega
              have hqo2 : (48 : Int) ≤ (q : Int) := by omega
              go_wp2_with fail
              go_ret2
              exact ⟨by rw [HE.out]; rfl, rfl⟩
          case pos =>
            subst h123
            rw [if_pos (UInt8.toNat_inj.1 (by rw [hq]; rfl))] at hwa
            have e123 : ((123 : Nat) : Int) = 123 := rfl
            rw [e123] at ha
            obtain ⟨D, hDD⟩ : ∃ D, l.dropLast.drop (a + 1) = D := ⟨_, rfl⟩
            rw [hDD] at hwa hD
            have hall : D.all isDig = true := by
              rw [List.all_eq_true]
              intro x hx
              rw [← hDD] at hx
              obtain ⟨j, hj, rfl⟩ := List.getElem_of_mem hx
              rw [List.getElem_drop]
              exact HD.out _ (by rw [List.length_drop] at hj; omega) (by omega)
            by_cases hd1 : dl < 1
            · have hd1' : (dl : Int) < 1 := by omega
              have HE : Hid (V = .tuple #[.int .i64 0, .bool false]) := by
                show _ = _
                rw [← HV.out, hwa]
                unfold numD
                rw [if_pos (by rw [hD]; exact hd1)]
                rfl
              clear hX HD hdig hq hv hda hnd hwa hdl0 hD hDD hall hqo
              go_wp2_with fail
              go_ret2
              exact ⟨by rw [HE.out]; rfl, rfl⟩
            · have hd1' : ¬ (dl : Int) < 1 := by omega
              by_cases hd7 : 7 < dl
              · have hd7' : (7 : Int) < (dl : Int) := by omega
                have HE : Hid (V = .tuple #[.int .i64 0, .bool false]) := by
                  show _ = _
                  rw [← HV.out, hwa]
                  unfold numD
                  rw [if_neg (by rw [hD]; exact hd1), if_pos (by rw [hD]; exact hd7)]
                  rfl
                clear hX HD hdig hq hv hda hnd hwa hdl0 hD hDD hall hqo
                go_wp2_with fail
                go_ret2
                exact ⟨by rw [HE.out]; rfl, rfl⟩
              · have hd7' : ¬ (7 : Int) < (dl : Int) := by omega
                have HE : Hid (V = .tuple #[.int .i64 (dv 0 D : Nat), .bool true]) := by
                  show _ = _
                  rw [← HV.out, hwa]
                  unfold numD
                  rw [if_neg (by rw [hD]; exact hd1), if_neg (by rw [hD]; exact hd7), if_pos hall]
                  rfl
                have HALL := Lib.hid hall
                have HDDD := Lib.hid hDD
                have HDLN := Lib.hid hD
                have HDL0 := Lib.hid hdl0
                have hm1' : ((m + 1 : Nat) : Int) - 1 = (m : Int) := by omega
                clear hX HD hdig hq hv hda hnd hwa hdl0 hD hDD hall hqo
                go_wp2_with fail
                go_loopw [6, 7] (fun vv iv wr => w = wr ∧ ∃ (k Z p : Nat), vv = .int .i64 (Z : Int) ∧ iv = .int .i64 (p : Int) ∧ p = a + 1 + k ∧ k ≤ dl ∧ Hid (Z = dv 0 (D.take k))) (fun _ iv _ => m - (intOf iv).toNat)
                case atStart => exact ⟨rfl, 0, 0, a + 1, rfl, by simp, rfl, by omega, by show 0 = dv 0 (D.take 0); rw [List.take_zero]; rfl⟩
                case round =>
                  obtain ⟨rfl, k, Z, p, rfl, rfl, hp, hkd, HZ⟩ := hrel
                  have hdl0 := HDL0.out
                  by_cases hlt : k < dl
                  · have hpm : p < m := by omega
                    have hpm' : (p : Int) < (m : Int) := by omega
                    have hp1 : (p : Int) < ((m + 1 : Nat) : Int) := by omega
                    have hp2 : p < m + 1 := by omega
                    have hpl : p < l.length := by rw [HL.out]; omega
                    obtain ⟨ad', u', e', hu', hb2⟩ := HS.out.sl.at_ (k := p) (by omega)
                    injection e' with e'
                    subst e'
                    rw [bvs_get l p hpl] at hu'
                    injection hu' with hu'
                    subst hu'
                    have hkD : k < D.length := by rw [HDLN.out]; exact hlt
                    have hlp : l[p] = D[k] := by
                      have h1 := HDG.out p (by rw [HDL.out]; exact hpm) hpl
                      rw [← h1]
                      have hdd := HDDD.out
                      subst hdd
                      rw [List.getElem_drop]
                      congr 1
                    have hdig : isDig D[k] = true := List.all_eq_true.1 HALL.out _ (List.getElem_mem hkD)
                    have hZ : Z < 10000000 := by
                      have h := dv_lt (D.take k) 0 (by rw [List.all_eq_true]; exact fun x hx => List.all_eq_true.1 HALL.out x (List.mem_of_mem_take hx))
                      rw [← HZ.out, List.length_take] at h
                      have h2 : 10 ^ min k D.length ≤ 10 ^ 7 := Nat.pow_le_pow_right (by omega) (by omega)
                      omega
                    have hstep : dv 0 (D.take (k + 1)) = stp Z D[k] := by
                      rw [List.take_succ_eq_append_getElem hkD, dv_snoc, HZ.out]
                    obtain ⟨v2, hv2⟩ : ∃ v2, D[k] = v2 := ⟨_, rfl⟩
                    rw [hlp, hv2] at hb2
                    rw [hv2] at hdig hstep
                    unfold bv at hb2
                    obtain ⟨q, hq⟩ : ∃ q, v2.toNat = q := ⟨_, rfl⟩
                    have hq8b : q < 256 := by rw [← hq]; exact byte_lt _
                    rw [hq] at hb2
                    have hq1 : 48 ≤ q ∧ q ≤ 57 := by
                      simp only [isDig, Bool.and_eq_true, decide_eq_true_eq] at hdig
                      omega
                    have hq2 : (48 : Int) ≤ (q : Int) := by omega
                    have hq3 : (q : Int) ≤ 57 := by omega
                    have HR : Hid (∃ (k2 Z2 p2 : Nat), Value.int .i64 (10 * (Z : Int) + (q : Int) - 48) = .int .i64 (Z2 : Int) ∧ Value.int .i64 ((p : Int) + 1) = .int .i64 (p2 : Int) ∧ p2 = a + 1 + k2 ∧ k2 ≤ dl ∧ Hid (Z2 = dv 0 (D.take k2))) := by
                      refine ⟨k + 1, dv 0 (D.take (k + 1)), p + 1, ?_, by simp, by omega, by omega, rfl⟩
                      rw [hstep]
                      unfold stp
                      rw [hq]
                      congr 1
                      omega
                    have HM : Hid (m - (intOf (.int .i64 ((p : Int) + 1))).toNat < m - (intOf (.int .i64 (p : Int))).toNat) := by
                      show m - ((p : Int) + 1).toNat < m - (p : Int).toNat
                      omega
                    clear hdig hstep hlp hv2 hq hq1 hdl0 hkD hp
                    go_wp2_with fail
                    exact ⟨⟨trivial, HR.out⟩, HM.out⟩
                  · obtain rfl : k = dl := by omega
                    have hpm : p = m := by omega
                    have hpm' : ¬ (p : Int) < (m : Int) := by omega
                    have HE2 : Hid (V = .tuple #[.int .i64 (Z : Int), .bool true]) := by
                      show _ = _
                      rw [HE.out, HZ.out, List.take_of_length_le (by rw [HDLN.out]; exact Nat.le_refl _)]
                    clear hpm hp hdl0
                    go_wp2_with fail
                    go_ret2
                    exact ⟨by rw [HE2.out]; rfl, rfl⟩
end
end Go.Proofs.YtbbgdcnnacakjaaDoor
