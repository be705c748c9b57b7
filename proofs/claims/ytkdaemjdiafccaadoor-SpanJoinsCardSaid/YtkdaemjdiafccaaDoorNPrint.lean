/-
  span.Print.
-/
import Derived.Test.YtkdaemjdiafccaaDoorNTxt
import Derived.Test.YtkdaemjdiafccaaDoorNOk
namespace Go.Proofs.YtkdaemjdiafccaaDoor
open Go.RowKit Go.Instr

theorem okN_bounds {n : Int} (h : okN n = true) : -9223372036854775808 ≤ n ∧ n ≤ 9223372036854775807 := by
  simp only [okN, Bool.or_eq_true, Bool.and_eq_true, decide_eq_true_eq, beq_iff_eq] at h
  omega
set_option maxHeartbeats 1000000 in
set_option maxRecDepth 100000 in
theorem rangeText_any {w : World} (hL : Laid w) (a b : Int) (hok : okR (a, b) = true) : Calls Tryd.prog 24 #[.agg #[.int .i64 a, .int .i64 b]] w fun e w' => e = .returned (.string (St (rngT (a, b)))) ∧ Only [] w w' := by
  have hok2 := hok
  simp only [okR, Bool.and_eq_true] at hok2
  obtain ⟨ha1, ha2⟩ := okN_bounds hok2.1
  obtain ⟨hb1, hb2⟩ := okN_bounds hok2.2
  have la := (numT_back hok2.1).2.2.2
  have lb := (numT_back hok2.2).2.2.2
  have cA : ∀ W, Only [] w W → Calls Tryd.prog 35 #[.int .i64 a] W fun e w' => e = .returned (.string (St (numT a))) ∧ Only [] W w' := fun W o => numberText_any (hL.only o) a ha1 ha2
  have cB : ∀ W, Only [] w W → Calls Tryd.prog 35 #[.int .i64 b] W fun e w' => e = .returned (.string (St (numT b))) ∧ Only [] W w' := fun W o => numberText_any (hL.only o) b hb1 hb2
  clear hL hok hok2 ha1 ha2 hb1 hb2
  by_cases hab : a = b
  · subst hab
    have HE : Hid (St (rngT (a, a)) = St (numT a)) := by
      show _ = _
      unfold rngT
      rw [if_pos rfl]
    rw [HE.out]
    obtain ⟨ta, hta⟩ : ∃ t, St (numT a) = t := ⟨_, rfl⟩
    rw [hta] at cA ⊢
    have o0 : Only [] w (w.alloc (.cells #[.int .i64 a, .int .i64 a] 35)) := (Only.refl _ _).alloc _
    have hc := cA _ o0
    clear cA cB HE hta la lb
    go_enter Tryd.func24, Tryd.ntmps24
    go_wp2_with (go_at_call 35; with_reducible refine hc.mono ?_; rintro e w2 ⟨rfl, O2⟩)
    go_ret
    exact ⟨rfl, o0.then O2⟩
  · have hne : (a == b) = false := beq_eq_false_iff_ne.2 hab
    have HE : Hid (St (rngT (a, b)) = St ((numT a ++ [58]) ++ numT b)) := by
      show _ = _
      unfold rngT
      rw [if_neg hab, List.append_assoc]
      rfl
    rw [HE.out]
    have hs1 := add_txt (numT a) [58] _ rfl (by rw [List.length_append, List.length_singleton]; omega)
    have hs2 := add_txt (numT a ++ [58]) (numT b) _ rfl (by rw [List.length_append, List.length_append, List.length_singleton]; omega)
    obtain ⟨ta, hta⟩ : ∃ t, St (numT a) = t := ⟨_, rfl⟩
    obtain ⟨tb, htb⟩ : ∃ t, St (numT b) = t := ⟨_, rfl⟩
    obtain ⟨tac, htac⟩ : ∃ t, St (numT a ++ [58]) = t := ⟨_, rfl⟩
    obtain ⟨tr, htr⟩ : ∃ t, St ((numT a ++ [58]) ++ numT b) = t := ⟨_, rfl⟩
    rw [hta] at cA hs1
    rw [htb] at cB hs2
    rw [htac] at hs1 hs2
    rw [htr] at hs2 ⊢
    obtain ⟨g, hg⟩ : ∃ g, w.heap.size = g := ⟨_, rfl⟩
    obtain ⟨W0, hW0⟩ : ∃ W0, w.alloc (.cells #[.int .i64 a, .int .i64 b] 35) = W0 := ⟨_, rfl⟩
    have hB0 := Bk.new w 35 #[.int .i64 a, .int .i64 b]
    have o0 : Only [] w W0 := by rw [← hW0]; exact (Only.refl _ _).alloc _
    rw [hW0, hg] at hB0
    have c0 : W0.drew.cell? ⟨g, 0, none⟩ = some (.int .i64 a) := by rw [hB0.drew.cell]; rfl
    have c1 : W0.drew.cell? ⟨g, 1, none⟩ = some (.int .i64 b) := by rw [hB0.drew.cell]; rfl
    have HA : Hid (∀ W, Only [] W0.drew W → Calls Tryd.prog 35 #[.int .i64 a] W fun e w' => e = .returned (.string ta) ∧ Only [] W w') := fun W o => cA W (o0.drew.then o)
    have HB : Hid (∀ W, Only [] W0.drew W → Calls Tryd.prog 35 #[.int .i64 b] W fun e w' => e = .returned (.string tb) ∧ Only [] W w') := fun W o => cB W (o0.drew.then o)
    have HW0 := Lib.hid hW0
    have HG := Lib.hid hg
    clear cA cB HE hta htb htac htr la lb hab hB0 hW0 hg
    go_enter Tryd.func24, Tryd.ntmps24
    go_wp2_with fail
    rw [HW0.out, HG.out]
    apply region_only (by kernel_rfl) (by kernel_rfl)
    apply rel_val (hrf := Tk_refl)
    case hw => rfl
    case hy => intro wS hN hF; skip; first | (go_simp; done) | (go_simp; with_reducible rfl)
    case' hk => skip
    try simp only [Act.put, List.setIfInBounds_toArray, List.set_cons_zero, List.set_cons_succ]
    apply rel_val (hrf := Tk_refl)
    case hw => rfl
    case hy => intro wS hN hF; have hq := (hN.pre (by kernel_rfl)).cellSome (p := ⟨g, 0, none⟩) c0 (fun hm => nomatch hm); first | (go_simp; done) | (go_simp; with_reducible rfl)
    case' hk => skip
    try simp only [Act.put, List.setIfInBounds_toArray, List.set_cons_zero, List.set_cons_succ]
    apply rel_call (v := .string ta) (f := 35) (args := #[.int .i64 a])
    case hw => rfl
    case hy => intro wS hN hF; go_simp
    case hc => intro wS hN hF; exact call_only (HA.out wS (hN.pre (by kernel_rfl)))
    case' hk => skip
    try simp only [Act.put, List.setIfInBounds_toArray, List.set_cons_zero, List.set_cons_succ]
    apply rel_val (v := .string tac) (hrf := Tk_refl)
    case hw => rfl
    case hy =>
      intro wS hN hF
      have hq := hs1 wS; go_simp
    case' hk => skip
    try simp only [Act.put, List.setIfInBounds_toArray, List.set_cons_zero, List.set_cons_succ]
    apply rel_val (hrf := Tk_refl)
    case hw => rfl
    case hy => intro wS hN hF; skip; first | (go_simp; done) | (go_simp; with_reducible rfl)
    case' hk => skip
    try simp only [Act.put, List.setIfInBounds_toArray, List.set_cons_zero, List.set_cons_succ]
    apply rel_val (hrf := Tk_refl)
    case hw => rfl
    case hy => intro wS hN hF; have hq := (hN.pre (by kernel_rfl)).cellSome (p := ⟨g, 1, none⟩) c1 (fun hm => nomatch hm); first | (go_simp; done) | (go_simp; with_reducible rfl)
    case' hk => skip
    try simp only [Act.put, List.setIfInBounds_toArray, List.set_cons_zero, List.set_cons_succ]
    apply rel_call (v := .string tb) (f := 35) (args := #[.int .i64 b])
    case hw => rfl
    case hy => intro wS hN hF; go_simp
    case hc => intro wS hN hF; exact call_only (HB.out wS (hN.pre (by kernel_rfl)))
    case' hk => skip
    try simp only [Act.put, List.setIfInBounds_toArray, List.set_cons_zero, List.set_cons_succ]
    apply rel_val (v := .string tr) (hrf := Tk_refl)
    case hw => rfl
    case hy =>
      intro wS hN hF
      have hq := hs2 wS; go_simp
    case' hk => skip
    try simp only [Act.put, List.setIfInBounds_toArray, List.set_cons_zero, List.set_cons_succ]
    apply rel_val (hrf := Tk_refl)
    case hw => rfl
    case hy => intro wS hN hF; skip; first | (go_simp; done) | (go_simp; with_reducible rfl)
    case' hk => skip
    try simp only [Act.put, List.setIfInBounds_toArray, List.set_cons_zero, List.set_cons_succ]
    refine rel_end ?_
    intro wS hO2 hF2
    clear hF2
    have hO3 := Lib.hid (o0.drew.then hO2.only)
    go_wp2
    go_ret
    exact ⟨rfl, hO3.out⟩

set_option maxHeartbeats 1000000 in
set_option maxRecDepth 100000 in
theorem Print_any {w : World} (hL : Laid w) {A : Option Addr} {n c : Nat} {l : List Rg} (hs : Rs w A n l) (hn : n ≤ 140737488355328) :
    Calls Tryd.prog 12 #[.slice A n c] w fun e w' => e = .returned (.string (St (prL l))) ∧ Only [] w w' := by
  have cM := mayBe_any (c := c) hs hn
  have hln := hs.len
  cases hok : okS l with
  | false =>
    rw [hok] at cM
    have HE : Hid (St (prL l) = ⟨#[]⟩) := by
      show _ = _
      unfold prL
      rw [hok]
      rfl
    rw [HE.out]
    clear HE hok hs hL hln
    go_enter Tryd.func12, Tryd.ntmps12
    go_wp2_with (go_at_call 23; with_reducible refine cM.mono ?_; rintro e w2 ⟨rfl, O2⟩)
    go_ret
    exact ⟨rfl, O2⟩
  | true =>
    rw [hok] at cM
    have hlen := prL_le l
    have HP : Hid (prL l = Lib.join (l.map rngT) [44]) := by
      show _ = _
      unfold prL
      rw [if_pos hok]
    have hk2 := hok
    simp only [okS, Bool.and_eq_true, decide_eq_true_eq] at hk2
    have HOK : Hid (∀ r ∈ l, okR r = true) := fun r hr => List.all_eq_true.1 hk2.2 r hr
    have hn16 : n ≤ 16 := by omega
    have hn1 : 1 ≤ n := by omega
    have HS := Lib.hid hs
    have HL := Lib.hid hL
    have HLN := Lib.hid hln
    have HLEN := Lib.hid hlen
    obtain ⟨p, hp⟩ : ∃ p, prL l = p := ⟨_, rfl⟩
    rw [hp] at HP HLEN ⊢
    obtain ⟨t, ht⟩ : ∃ t, St p = t := ⟨_, rfl⟩
    rw [ht]
    have HT := Lib.hid ht
    clear ht hok hk2 hs hL hln hlen hn hp
    go_enter Tryd.func12, Tryd.ntmps12
    go_wp2_with (go_at_call 23; with_reducible refine cM.mono ?_; rintro e w1 ⟨rfl, O1⟩; obtain ⟨w2, hmk, V2, O2⟩ := make_txt w1 n (by omega); replace V2 := Lib.hid V2; replace O2 := Lib.hid (O1.then O2); replace O1 := Lib.hid O1)
    obtain ⟨g, hg⟩ : ∃ g, w1.heap.size = g := ⟨_, rfl⟩
    have hwg : Hid (w.heap.size ≤ g) := by show _ ≤ _; rw [← hg]; exact O1.out.size
    rw [hg] at V2 ⊢
    clear hmk hg
    go_loopw [14] (fun iv wr => Only [] w wr ∧ ∃ k : Nat, iv = .int .i64 (k : Int) ∧ k ≤ n ∧ Hid (Own wr 9 (some ⟨g, 0, none⟩) n n (tvs ((l.map rngT).take k ++ List.replicate (n - k) [])))) (fun iv _ => n - (intOf iv).toNat)
    case atStart => exact ⟨O2.out, 0, rfl, by omega, by rw [List.take_zero, List.nil_append]; exact V2.out⟩
    case round =>
      obtain ⟨hO, k, rfl, hk, HK⟩ := hrel
      by_cases hlt : k < n
      · have hlt' : (k : Int) < (n : Int) := by omega
        have hkl : k < l.length := by rw [HLN.out]; exact hlt
        have hkt : k < (l.map rngT).length := by simpa using hkl
        obtain ⟨ad, rfl, c1, c2⟩ := (HS.out.keep hO).at_ hlt hkl
        have hnext := set_next (ts := l.map rngT) (by simpa using HLN.out) hlt hkt
        rw [List.getElem_map] at hnext
        have hok := HOK.out l[k] (List.getElem_mem hkl)
        obtain ⟨r, hr⟩ : ∃ r, l[k] = r := ⟨_, rfl⟩
        rw [hr] at c1 c2 hnext hok
        obtain ⟨a, b⟩ := r
        simp only [nxt] at c1 c2
        have o1 : Only [] wr (wr.alloc (.cells #[.int .i64 a, .int .i64 b] 35)) := (Only.refl _ _).alloc _
        have cR := rangeText_any (HL.out.only (hO.then o1)) a b hok
        obtain ⟨tx, htx⟩ : ∃ t, St (rngT (a, b)) = t := ⟨_, rfl⟩
        rw [htx] at cR hnext
        have HM : Hid (n - (intOf (.int .i64 ((k : Int) + 1))).toNat < n - (intOf (.int .i64 (k : Int))).toNat) := by
          show _ < _
          simp [intOf]
          omega
        have HNX := Lib.hid hnext
        clear hr hnext hok htx hkt hkl
        go_wp2_with (go_at_call 24; with_reducible refine cR.mono ?_; rintro e w3 ⟨rfl, O3⟩; have hV3 := (HK.out.alloc (.cells #[.int .i64 a, .int .i64 b] 35)).keep O3; obtain ⟨hcl, hfz⟩ : (∃ u, w3.cell? ⟨g, k, none⟩ = some u) ∧ w3.frozen? ⟨g, k, none⟩ = false := (⟨by obtain ⟨ad', u, e1, _, e3⟩ := hV3.sl.at_ hlt; injection e1 with e1; subst e1; rw [add_none, Nat.zero_add] at e3; exact ⟨u, e3⟩, hV3.free k⟩); obtain ⟨u, hu⟩ := hcl; replace hV3 := Lib.hid hV3)
        have hV4 := hV3.out.stored k (.string tx)
        rw [HNX.out] at hV4
        exact ⟨⟨((hO.then o1).then O3).setCell (.inr hwg.out) _, k + 1, by simp, by omega, hV4⟩, HM.out⟩
      · obtain rfl : k = n := by omega
        have hV := HK.out
        rw [List.take_of_length_le (by rw [List.length_map, HLN.out]; exact Nat.le_refl _), Nat.sub_self, List.replicate_zero, List.append_nil] at hV
        have cJ := join_txt hV (by omega) ⟨#[44]⟩ (by rw [show (⟨#[44]⟩ : ByteArray).data.toList = [44] from rfl, ← HP.out]; have := HLEN.out; omega)
        rw [show (⟨#[44]⟩ : ByteArray).data.toList = [44] from rfl, ← HP.out] at cJ
        rw [HT.out] at cJ
        clear hV hlt
        go_wp2_with (go_at_call 25; with_reducible refine cJ.mono ?_; rintro e w3 ⟨rfl, O3⟩)
        go_ret
        exact ⟨rfl, hO.then O3⟩
end Go.Proofs.YtkdaemjdiafccaaDoor
