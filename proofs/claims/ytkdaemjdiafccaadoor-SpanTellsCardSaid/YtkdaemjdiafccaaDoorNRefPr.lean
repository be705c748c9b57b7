/-
  The document's Print of sets.
-/
import Derived.Test.YtkdaemjdiafccaaDoorNDec
import Derived.Test.YtkdaemjdiafccaaDoorNRefOk
namespace Go.Proofs.YtkdaemjdiafccaaDoor
open Go.RowKit Go.Instr

/-- The first k ranges as a text. -/
def jk (l : List Rg) (k : Nat) : List UInt8 := Lib.join ((l.map rngT).take k) [44]
theorem jk_zero (l : List Rg) : jk l 0 = [] := rfl
theorem join_snoc : ∀ (ts : List (List UInt8)) (t : List UInt8), ts ≠ [] → Lib.join (ts ++ [t]) [44] = Lib.join ts [44] ++ [44] ++ t
  | [], _, h => absurd rfl h
  | [x], t, _ => by rw [List.singleton_append, join_two, Lib.join_one, Lib.join_one]; simp
  | x :: y :: r, t, _ => by
    rw [List.cons_append, List.cons_append, join_two, ← List.cons_append, join_snoc (y :: r) t (by simp), join_two]
    simp
theorem jk_succ {l : List Rg} {k : Nat} (h : k < l.length) : jk l (k + 1) = if k = 0 then rngT l[k] else jk l k ++ [44] ++ rngT l[k] := by
  unfold jk
  rw [List.take_succ_eq_append_getElem (by simpa using h), List.getElem_map]
  by_cases h0 : k = 0
  · subst h0
    rw [if_pos rfl, List.take_zero, List.nil_append, Lib.join_one]
  · rw [if_neg h0, join_snoc]
    intro e
    have := congrArg List.length e
    rw [List.length_take, List.length_map, List.length_nil] at this
    omega
theorem jk_all {l : List Rg} {n : Nat} (h : l.length = n) (hok : okS l = true) : jk l n = prL l := by
  unfold jk prL
  rw [if_pos hok, List.take_of_length_le (by simp; omega)]
theorem jk_le {l : List Rg} (hok : ∀ r ∈ l, okR r = true) : ∀ k, k ≤ l.length → (jk l k).length ≤ 16 * k := by
  intro k
  induction k with
  | zero => intro _; simp [jk_zero]
  | succ k ih =>
    intro h
    have h1 := ih (by omega)
    have h2 := (rngT_back (hok l[k] (List.getElem_mem (by omega)))).2.2
    rw [jk_succ (by omega)]
    split
    · omega
    · simp only [List.length_append, List.length_singleton]
      omega
set_option maxHeartbeats 4000000 in
set_option maxRecDepth 100000 in
theorem refPrint_any {w : World} {A : Option Addr} {n c : Nat} {l : List Rg} (hs : Rs w A n l) (hn : n ≤ 140737488355328) :
    Calls Tryd.prog 13 #[.slice A n c] w fun e w' => e = .returned (.string (St (prL l))) ∧ Only [] w w' := by
  have cM := refIs_any (c := c) hs hn
  have hln := hs.len
  cases hok : okS l with
  | false =>
    rw [hok] at cM
    have HE : Hid (St (prL l) = ⟨#[]⟩) := by
      show _ = _
      unfold prL
      rw [hok]
      rfl
    rw [HE.out]
    clear HE hok hs hln
    go_enter Tryd.func13, Tryd.ntmps13
    go_wp2_with (go_at_call 18; with_reducible refine cM.mono ?_; rintro e w2 ⟨rfl, O2⟩)
    go_ret
    exact ⟨rfl, O2⟩
  | true =>
    rw [hok] at cM
    have HP : Hid (jk l n = prL l) := jk_all hln hok
    have hk2 := hok
    simp only [okS, Bool.and_eq_true, decide_eq_true_eq] at hk2
    have HOK : Hid (∀ r ∈ l, okR r = true) := fun r hr => List.all_eq_true.1 hk2.2 r hr
    have hn16 : n ≤ 16 := by omega
    have HS := Lib.hid hs
    have HLN := Lib.hid hln
    clear hok hk2 hs hln hn
    have hn := hn16
    clear hn16
    go_enter Tryd.func13, Tryd.ntmps13
    go_wp2_with (go_at_call 18; with_reducible refine cM.mono ?_; rintro e w1 ⟨rfl, O1⟩)
    go_loopw [3, 4] (fun sv iv wr => Only [] w wr ∧ ∃ k : Nat, sv = .string (St (jk l k)) ∧ iv = .int .i64 (k : Int) ∧ k ≤ n) (fun _ iv _ => n - (intOf iv).toNat)
    case atStart => exact ⟨O1, 0, rfl, rfl, by omega⟩
    case round =>
      clear O1 cM
      obtain ⟨hO, k, rfl, rfl, hk⟩ := hrel
      by_cases hlt : k < n
      · have hlt' : (k : Int) < (n : Int) := by omega
        have hkl : k < l.length := by rw [HLN.out]; exact hlt
        obtain ⟨ad, rfl, c1, c2⟩ := (HS.out.keep hO).at_ hlt hkl
        have hcc : ∀ W, Only [] wr W → W.cell? (ad.add (k * 2)) = some (.int .i64 l[k].1) ∧ W.cell? (nxt (ad.add (k * 2))) = some (.int .i64 l[k].2) := fun W o => by
          obtain ⟨ad', e, d1, d2⟩ := (HS.out.keep (hO.then o)).at_ hlt hkl
          injection e with e
          subst e
          exact ⟨d1, d2⟩
        have hok := HOK.out l[k] (List.getElem_mem hkl)
        have hJl := jk_le HOK.out k (by omega)
        obtain ⟨r, hr⟩ : ∃ r, l[k] = r := ⟨_, rfl⟩
        rw [hr] at c1 c2 hok hcc
        obtain ⟨a, b⟩ := r
        simp only [nxt] at c1 c2 hcc
        have HC := Lib.hid hcc
        simp only [okR, Bool.and_eq_true] at hok
        have hla := (numT_back hok.1).2.2.2
        have hlb := (numT_back hok.2).2.2.2
        have cA := fun W => refDigits_any a hok.1 W
        have cB := fun W => refDigits_any b hok.2 W
        have HW := Lib.hid (IntWalk.wrap64_in ((k : Int) + 1) (by omega))
        have HM : Hid (n - (intOf (.int .i64 ((k : Int) + 1))).toNat < n - (intOf (.int .i64 (k : Int))).toNat) := by
          show _ < _
          simp [intOf]
          omega
        have HKN : Hid (k + 1 ≤ n) := hlt
        have hJn : ∃ J, jk l k = J := ⟨_, rfl⟩
        have hnx : ∃ NX, jk l (k + 1) = NX := ⟨_, rfl⟩
        obtain ⟨J, hJ⟩ := hJn
        have HJ := Lib.hid hJ
        rw [hJ] at hJl ⊢
        clear hok hcc hJ hnx
        by_cases hk0 : k = 0
        · by_cases hab : a = b
          · have hne : (b != a) = false := by rw [hab]; simp
            have HE : Hid (jk l (k + 1) = J ++ numT a) := by
              show _ = _
              rw [jk_succ hkl, hr, HJ.out, if_pos hk0]
              unfold rngT
              rw [if_pos hab]
              have hJ0 : J = [] := by rw [← HJ.out, hk0]; exact jk_zero l
              rw [hJ0]
              rfl
            have hs0 := add_txt J (numT a) (J ++ numT a) rfl (by simp only [List.length_append]; omega)
            obtain ⟨tJ, htJ⟩ : ∃ t, St J = t := ⟨_, rfl⟩
            obtain ⟨ta, hta⟩ : ∃ t, St (numT a) = t := ⟨_, rfl⟩
            obtain ⟨t0, ht0⟩ : ∃ t, St (J ++ numT a) = t := ⟨_, rfl⟩
            rw [htJ, hta, ht0] at hs0
            rw [htJ]
            have HZ : Hid (t0 = St (jk l (k + 1))) := by
              show _ = _
              rw [← ht0, HE.out]
            rw [hta] at cA
            clear HE htJ hta ht0 hr hkl hab hla hlb hJl cB
            have hkz : ¬ (0 : Int) < (k : Int) := by omega
            clear hk0
            go_wp2_with (go_at_call 26; with_reducible refine (cA _).mono ?_; rintro e w2 ⟨rfl, O2⟩; obtain ⟨d1, d2⟩ := HC.out _ O2)
            go_quiet (fail)
            have O3 := O2.drewN nq
            clear d1 d2 c1 c2 O2
            generalize w2.drewN nq = w3 at *
            obtain ⟨d1, d2⟩ := HC.out _ O3
            clear hn hk hlt
            go_wp2_with fail
            try rw [HW.out]
            exact ⟨⟨hO.then O3, k + 1, by rw [HZ.out], by simp, HKN.out⟩, HM.out⟩
          · have hne : (b != a) = true := by simp; exact fun h => hab h.symm
            have HE : Hid (jk l (k + 1) = (J ++ numT a ++ [58]) ++ numT b) := by
              show _ = _
              rw [jk_succ hkl, hr, HJ.out, if_pos hk0]
              unfold rngT
              rw [if_neg hab]
              have hJ0 : J = [] := by rw [← HJ.out, hk0]; exact jk_zero l
              rw [hJ0]
              simp [List.append_assoc]
            have hs0 := add_txt J (numT a) (J ++ numT a) rfl (by simp only [List.length_append]; omega)
            have hs1 := add_txt (J ++ numT a) ([58]) ((J ++ numT a) ++ [58]) rfl (by simp only [List.length_append, List.length_cons, List.length_nil]; omega)
            have hs2 := add_txt ((J ++ numT a) ++ [58]) (numT b) (((J ++ numT a) ++ [58]) ++ numT b) rfl (by simp only [List.length_append, List.length_cons, List.length_nil]; omega)
            obtain ⟨tJ, htJ⟩ : ∃ t, St J = t := ⟨_, rfl⟩
            obtain ⟨ta, hta⟩ : ∃ t, St (numT a) = t := ⟨_, rfl⟩
            obtain ⟨tb, htb⟩ : ∃ t, St (numT b) = t := ⟨_, rfl⟩
            obtain ⟨t0, ht0⟩ : ∃ t, St (J ++ numT a) = t := ⟨_, rfl⟩
            obtain ⟨t1, ht1⟩ : ∃ t, St ((J ++ numT a) ++ [58]) = t := ⟨_, rfl⟩
            obtain ⟨t2, ht2⟩ : ∃ t, St (((J ++ numT a) ++ [58]) ++ numT b) = t := ⟨_, rfl⟩
            rw [htJ, hta, ht0] at hs0
            rw [ht0, ht1] at hs1
            rw [ht1, htb, ht2] at hs2
            rw [htJ]
            have HZ : Hid (t2 = St (jk l (k + 1))) := by
              show _ = _
              rw [← ht2, HE.out]
            rw [hta] at cA
            rw [htb] at cB
            clear HE htJ hta htb ht0 ht1 ht2 hr hkl hab hla hlb hJl
            have hkz : ¬ (0 : Int) < (k : Int) := by omega
            clear hk0
            go_wp2_with (go_at_call 26; with_reducible refine (cA _).mono ?_; rintro e w2 ⟨rfl, O2⟩; obtain ⟨d1, d2⟩ := HC.out _ O2)
            go_quiet (fail)
            have O3 := O2.drewN nq
            clear d1 d2 c1 c2 O2
            generalize w2.drewN nq = w3 at *
            obtain ⟨d1, d2⟩ := HC.out _ O3
            go_wp2_with (go_at_call 26; with_reducible refine (cB _).mono ?_; rintro e w4 ⟨rfl, O4⟩; clear hn hk hlt d1 d2 hlt')
            try rw [HW.out]
            exact ⟨⟨(hO.then O3).then O4, k + 1, by rw [HZ.out], by simp, HKN.out⟩, HM.out⟩
        · by_cases hab : a = b
          · have hne : (b != a) = false := by rw [hab]; simp
            have HE : Hid (jk l (k + 1) = (J ++ [44]) ++ numT a) := by
              show _ = _
              rw [jk_succ hkl, hr, HJ.out, if_neg hk0]
              unfold rngT
              rw [if_pos hab]
            have hs0 := add_txt J ([44]) (J ++ [44]) rfl (by simp only [List.length_append, List.length_cons, List.length_nil]; omega)
            have hs1 := add_txt (J ++ [44]) (numT a) ((J ++ [44]) ++ numT a) rfl (by simp only [List.length_append, List.length_cons, List.length_nil]; omega)
            obtain ⟨tJ, htJ⟩ : ∃ t, St J = t := ⟨_, rfl⟩
            obtain ⟨ta, hta⟩ : ∃ t, St (numT a) = t := ⟨_, rfl⟩
            obtain ⟨t0, ht0⟩ : ∃ t, St (J ++ [44]) = t := ⟨_, rfl⟩
            obtain ⟨t1, ht1⟩ : ∃ t, St ((J ++ [44]) ++ numT a) = t := ⟨_, rfl⟩
            rw [htJ, ht0] at hs0
            rw [ht0, hta, ht1] at hs1
            rw [htJ]
            have HZ : Hid (t1 = St (jk l (k + 1))) := by
              show _ = _
              rw [← ht1, HE.out]
            rw [hta] at cA
            clear HE htJ hta ht0 ht1 hr hkl hab hla hlb hJl cB
            have hkz : (0 : Int) < (k : Int) := by omega
            clear hk0
            go_wp2_with (go_at_call 26; with_reducible refine (cA _).mono ?_; rintro e w2 ⟨rfl, O2⟩; obtain ⟨d1, d2⟩ := HC.out _ O2)
            go_quiet (fail)
            have O3 := O2.drewN nq
            clear d1 d2 c1 c2 O2
            generalize w2.drewN nq = w3 at *
            obtain ⟨d1, d2⟩ := HC.out _ O3
            clear hn hk hlt
            go_wp2_with fail
            try rw [HW.out]
            exact ⟨⟨hO.then O3, k + 1, by rw [HZ.out], by simp, HKN.out⟩, HM.out⟩
          · have hne : (b != a) = true := by simp; exact fun h => hab h.symm
            have HE : Hid (jk l (k + 1) = ((J ++ [44]) ++ numT a ++ [58]) ++ numT b) := by
              show _ = _
              rw [jk_succ hkl, hr, HJ.out, if_neg hk0]
              unfold rngT
              rw [if_neg hab]
              simp [List.append_assoc]
            have hs0 := add_txt J ([44]) (J ++ [44]) rfl (by simp only [List.length_append, List.length_cons, List.length_nil]; omega)
            have hs1 := add_txt (J ++ [44]) (numT a) ((J ++ [44]) ++ numT a) rfl (by simp only [List.length_append, List.length_cons, List.length_nil]; omega)
            have hs2 := add_txt ((J ++ [44]) ++ numT a) ([58]) (((J ++ [44]) ++ numT a) ++ [58]) rfl (by simp only [List.length_append, List.length_cons, List.length_nil]; omega)
            have hs3 := add_txt (((J ++ [44]) ++ numT a) ++ [58]) (numT b) ((((J ++ [44]) ++ numT a) ++ [58]) ++ numT b) rfl (by simp only [List.length_append, List.length_cons, List.length_nil]; omega)
            obtain ⟨tJ, htJ⟩ : ∃ t, St J = t := ⟨_, rfl⟩
            obtain ⟨ta, hta⟩ : ∃ t, St (numT a) = t := ⟨_, rfl⟩
            obtain ⟨tb, htb⟩ : ∃ t, St (numT b) = t := ⟨_, rfl⟩
            obtain ⟨t0, ht0⟩ : ∃ t, St (J ++ [44]) = t := ⟨_, rfl⟩
            obtain ⟨t1, ht1⟩ : ∃ t, St ((J ++ [44]) ++ numT a) = t := ⟨_, rfl⟩
            obtain ⟨t2, ht2⟩ : ∃ t, St (((J ++ [44]) ++ numT a) ++ [58]) = t := ⟨_, rfl⟩
            obtain ⟨t3, ht3⟩ : ∃ t, St ((((J ++ [44]) ++ numT a) ++ [58]) ++ numT b) = t := ⟨_, rfl⟩
            rw [htJ, ht0] at hs0
            rw [ht0, hta, ht1] at hs1
            rw [ht1, ht2] at hs2
            rw [ht2, htb, ht3] at hs3
            rw [htJ]
            have HZ : Hid (t3 = St (jk l (k + 1))) := by
              show _ = _
              rw [← ht3, HE.out]
            rw [hta] at cA
            rw [htb] at cB
            clear HE htJ hta htb ht0 ht1 ht2 ht3 hr hkl hab hla hlb hJl
            have hkz : (0 : Int) < (k : Int) := by omega
            clear hk0
            go_wp2_with (go_at_call 26; with_reducible refine (cA _).mono ?_; rintro e w2 ⟨rfl, O2⟩; obtain ⟨d1, d2⟩ := HC.out _ O2)
            go_quiet (fail)
            have O3 := O2.drewN nq
            clear d1 d2 c1 c2 O2
            generalize w2.drewN nq = w3 at *
            obtain ⟨d1, d2⟩ := HC.out _ O3
            go_wp2_with (go_at_call 26; with_reducible refine (cB _).mono ?_; rintro e w4 ⟨rfl, O4⟩; clear hn hk hlt d1 d2 hlt')
            try rw [HW.out]
            exact ⟨⟨(hO.then O3).then O4, k + 1, by rw [HZ.out], by simp, HKN.out⟩, HM.out⟩
      · obtain rfl : k = n := by omega
        rw [HP.out]
        obtain ⟨t, ht⟩ : ∃ t, St (prL l) = t := ⟨_, rfl⟩
        have HT := Lib.hid ht
        rw [ht]
        clear ht hlt
        go_wp2
        go_ret
        exact ⟨by rw [HT.out]; rfl, hO⟩
end Go.Proofs.YtkdaemjdiafccaaDoor
