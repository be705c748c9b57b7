/-
  Texts of the seat, laid one behind the other: CIs CIsC.
-/
import Derived.Test.YtgnilldcfpgpaaaGreatDoorY4
import Derived.Test.YtgnilldcfpgpaaaGreatDoorY3
import Derived.Test.YtgnilldcfpgpaaaGreatDoorY1
namespace Go.Proofs.YtgnilldcfpgpaaaGreatDoor
open Go.RowKit Go.Instr
set_option maxRecDepth 100000 in
theorem in14_any (n a b : Int) (w : World) : Calls Tryz.prog 79 #[.int .i64 n, .int .i64 a, .int .i64 b] w fun e w' => e = .returned (.bool (inR n a b)) ∧ w = w' := by
  obtain ⟨q, hq⟩ : ∃ q, inR n a b = q := ⟨_, rfl⟩
  rw [hq]
  by_cases h1 : a ≤ n
  · by_cases h2 : n ≤ b
    · have HQ : Hid (q = true) := by show _ = _; rw [← hq]; unfold inR; simp [h1, h2]
      clear hq
      go_enter Tryz.func79, Tryz.ntmps79
      go_wp2
      go_ret
      exact ⟨by rw [HQ.out]; rfl, rfl⟩
    · have HQ : Hid (q = false) := by show _ = _; rw [← hq]; unfold inR; simp [h2]
      clear hq
      go_enter Tryz.func79, Tryz.ntmps79
      go_wp2
      go_ret
      exact ⟨by rw [HQ.out]; rfl, rfl⟩
  · have HQ : Hid (q = false) := by show _ = _; rw [← hq]; unfold inR; simp [h1]
    clear hq
    go_enter Tryz.func79, Tryz.ntmps79
    go_wp2
    go_ret
    exact ⟨by rw [HQ.out]; rfl, rfl⟩
theorem allp_take_succ {s : List UInt8} {k : Nat} (h : k < s.length) : (s.take (k + 1)).all okp = ((s.take k).all okp && okp s[k]) := by
  rw [List.take_succ_eq_append_getElem h, List.all_append]
  simp
theorem allp_bad {s : List UInt8} {k : Nat} (h : k < s.length) (hb : okp s[k] = false) : s.all okp = false := by
  rw [List.all_eq_false]
  exact ⟨s[k], List.getElem_mem h, by rw [hb]; simp⟩
set_option maxRecDepth 100000 in
set_option maxHeartbeats 1000000 in
theorem pass_any (s : List UInt8) (w : World) (hn : s.length ≤ 140737488355328) : Calls Tryz.prog 77 #[.string (St s)] w fun e w' => e = .returned (.bool (passOk s)) ∧ w = w' := by
  obtain ⟨q, hq⟩ : ∃ q, passOk s = q := ⟨_, rfl⟩
  rw [hq]
  have hs := St_size s
  have HQ := Lib.hid hq
  have hix : ∀ (k : Nat) (hk : k < s.length) (W : World), (Instr.index 9 (.string (St s)) (.int .i64 (k : Int))).run Tryz.prog W = .ok (.int .u8 ((s[k]).toNat : Int)) W := fun k hk W => by
    have hk' : k < (St s).size := by omega
    rw [run_index_string W 9 (St s) .i64 (k : Int) Tryz.underlying9, dif_pos ⟨by omega, by omega⟩]
    simp [ByteArray.getElem_eq_getElem_data]
  have HIX := Lib.hid hix
  have HSZ := Lib.hid hs
  clear hix hs hq
  generalize ht : St s = t at *
  clear ht
  go_enter Tryz.func77, Tryz.ntmps77
  go_wp2
  go_loop [3] (fun i => ∃ k : Nat, i = .int .i64 (k : Int) ∧ k ≤ s.length ∧ Hid ((s.take k).all okp = true)) (fun i => s.length - (intOf i).toNat)
  case atStart => exact ⟨0, rfl, Nat.zero_le _, by show _ = _; simp⟩
  case round =>
    obtain ⟨k, rfl, hk, HA⟩ := hrel
    have hz : (t.size : Int) = (s.length : Int) := by rw [HSZ.out]
    by_cases hlt : k < s.length
    · have hlt' : (k : Int) < (s.length : Int) := by omega
      have hx := HIX.out k hlt
      have hsuc := allp_take_succ hlt
      have hbad := allp_bad hlt
      obtain ⟨y, hy⟩ : ∃ y, s[k] = y := ⟨_, rfl⟩
      rw [hy] at hx hsuc hbad
      have hyb := y.toNat_lt
      have hok : okp y = true ↔ 33 ≤ y.toNat ∧ y.toNat ≤ 126 := by simp [okp]
      have good : okp y = true → Hid (∃ k' : Nat, Value.int .i64 ((k : Int) + 1) = .int .i64 (k' : Int) ∧ k' ≤ s.length ∧ Hid ((s.take k').all okp = true)) := fun h => ⟨k + 1, by simp, by omega, by show _ = _; rw [hsuc, HA.out, h]; rfl⟩
      have bad : ¬ (33 ≤ y.toNat ∧ y.toNat ≤ 126) → Hid (q = false) := fun h => by
        show _ = _
        rw [← HQ.out]
        have hb : okp y = false := by rw [Bool.eq_false_iff]; exact fun e => h (hok.1 e)
        unfold passOk
        rw [hbad hb, Bool.and_false]
      have HM : Hid (s.length - (intOf (.int .i64 ((k : Int) + 1))).toNat < s.length - (intOf (.int .i64 (k : Int))).toNat) := by
        show _ < _
        simp [intOf]
        omega
      have hkb : (k : Int) + 1 ≤ 140737488355328 := by omega
      generalize y.toNat = x at *
      rw [hok] at good
      clear hok hsuc hbad hy
      rcases (by omega : x < 33 ∨ (33 ≤ x ∧ x ≤ 126) ∨ 126 < x) with h | h | h
      · have HB := bad (by omega)
        have i1 : (x : Int) < 33 := by omega
        clear good bad h
        go_wp2
        go_ret
        exact ⟨by rw [HB.out]; rfl, rfl⟩
      · have HR := good (by omega)
        have i1 : ¬ (x : Int) < 33 := by omega
        have i2 : ¬ (126 : Int) < (x : Int) := by omega
        clear good bad h
        go_wp2
        exact ⟨HR.out, HM.out⟩
      · have HB := bad (by omega)
        have i1 : ¬ (x : Int) < 33 := by omega
        have i2 : (126 : Int) < (x : Int) := by omega
        clear good bad h
        go_wp2
        go_ret
        exact ⟨by rw [HB.out]; rfl, rfl⟩
    · obtain rfl : k = s.length := by omega
      have HE : Hid (q = (decide (1 ≤ s.length) && decide (s.length ≤ 12))) := by
        show _ = _
        rw [← HQ.out]
        unfold passOk
        have := HA.out
        rw [List.take_length] at this
        rw [this, Bool.and_true]
      by_cases h1 : (1 : Int) ≤ (s.length : Int)
      · by_cases h2 : (s.length : Int) ≤ 12
        · have e1 : (decide (1 ≤ s.length) && decide (s.length ≤ 12)) = true := by simp; omega
          rw [e1] at HE
          go_wp2
          go_ret
          exact ⟨by rw [HE.out]; rfl, rfl⟩
        · have e1 : (decide (1 ≤ s.length) && decide (s.length ≤ 12)) = false := by simp; omega
          rw [e1] at HE
          go_wp2
          go_ret
          exact ⟨by rw [HE.out]; rfl, rfl⟩
      · have e1 : (decide (1 ≤ s.length) && decide (s.length ≤ 12)) = false := by simp; omega
        rw [e1] at HE
        go_wp2
        go_ret
        exact ⟨by rw [HE.out]; rfl, rfl⟩
theorem ups_snoc : ∀ (l : List Int) (last u : Int), ups last (l ++ [u]) = (ups last l && (decide (l.getLast?.getD last < u) && decide (u ≤ 1048576)))
  | [], last, u => by rw [List.nil_append]; simp only [ups, Bool.and_true, Bool.true_and]; rfl
  | x :: r, last, u => by
    rw [List.cons_append, ups, ups, ups_snoc r x u, List.getLast?_cons]
    simp only [Option.getD_some, Bool.and_assoc]
theorem ups_pre : ∀ (l m : List Int) (last : Int), ups last (l ++ m) = true → ups last l = true
  | [], _, _, _ => rfl
  | x :: r, m, last, h => by
    rw [List.cons_append, ups] at h
    rw [ups]
    simp only [Bool.and_eq_true] at h ⊢
    exact ⟨h.1, ups_pre r m x h.2⟩
theorem ups_take {l : List Int} {k : Nat} (h : k < l.length) (hp : ups 0 (l.take k) = true) : ups 0 (l.take (k + 1)) = (inR l[k] 1 1048576 && (decide (k = 0) || decide (l[k - 1]'(by omega) < l[k]))) := by
  rw [List.take_succ_eq_append_getElem h, ups_snoc, hp, Bool.true_and]
  by_cases h0 : k = 0
  · subst h0
    simp [inR]
    by_cases h1 : (0 : Int) < l[0]
    · have : (1 : Int) ≤ l[0] := by omega
      simp [h1, this]
    · have : ¬ (1 : Int) ≤ l[0] := by omega
      simp [h1, this]
  · have hlast : (l.take k).getLast?.getD 0 = l[k - 1]'(by omega) := by
      rw [List.getLast?_eq_getElem?, List.length_take, Nat.min_eq_left (by omega), List.getElem?_take_of_lt (by omega), List.getElem?_eq_getElem (by omega)]
      rfl
    rw [hlast]
    have hpos : 0 < l[k - 1]'(by omega) := by
      have hm : l[k - 1]'(by omega) ∈ l.take k := by
        rw [List.mem_take_iff_getElem]
        exact ⟨k - 1, by omega, rfl⟩
      exact (ups_at hp _ hm).1
    unfold inR
    rw [decide_eq_false h0, Bool.false_or]
    by_cases h1 : l[k - 1]'(by omega) < l[k]
    · have : (1 : Int) ≤ l[k] := by omega
      simp [h1, this]
    · simp [h1]
theorem ups_bad {l : List Int} {k : Nat} (hb : ups 0 (l.take k) = false) : uidsOk l = false := by
  unfold uidsOk
  cases e : ups 0 l with
  | false => rfl
  | true =>
    have := ups_pre (l.take k) (l.drop k) 0 (by rw [List.take_append_drop]; exact e)
    rw [hb] at this
    cases this
theorem sl_int_at {w : World} {A : Option Addr} {n : Nat} {us : List Int} (h : Sl w A n (ivs us)) {k : Nat} (hk : k < n) (hk' : k < us.length) : ∃ ad, A = some ad ∧ w.cell? (ad.add k) = some (.int .i64 us[k]) := by
  obtain ⟨ad, u, e, hu, hc⟩ := h.at_ hk
  rw [ivs_get _ _ hk'] at hu
  injection hu with hu
  subst hu
  exact ⟨ad, e, hc⟩
set_option maxRecDepth 100000 in
set_option maxHeartbeats 4000000 in
theorem uids_any {w : World} {A : Option Addr} {n c : Nat} {l : List Int} (h : Sl w A n (ivs l)) (hn : n ≤ 140737488355328) :
    Calls Tryz.prog 78 #[.slice A n c] w fun e w' => e = .returned (.bool (uidsOk l)) ∧ Only [] w w' := by
  have HS := Lib.hid h
  have HL : Hid (l.length = n) := by show _ = _; simpa using h.len
  obtain ⟨q, hq⟩ : ∃ q, uidsOk l = q := ⟨_, rfl⟩
  rw [hq]
  have HQ := Lib.hid hq
  clear h hq
  go_enter Tryz.func78, Tryz.ntmps78
  go_wp2
  go_loopw [3] (fun iv wr => Only [] w wr ∧ ∃ k : Nat, iv = .int .i64 (k : Int) ∧ k ≤ n ∧ k ≤ 25 ∧ Hid (ups 0 (l.take k) = true)) (fun iv _ => 25 - (intOf iv).toNat)
  case atStart => exact ⟨Only.refl _ _, 0, rfl, Nat.zero_le _, by omega, rfl⟩
  case round =>
    obtain ⟨hO, k, rfl, hk, hk25, HU⟩ := hrel
    have HOO := Lib.hid hO
    by_cases hgo : k < n ∧ k ≤ 24
    · obtain ⟨hlt, h24⟩ := hgo
      have hlt' : (k : Int) < (n : Int) := by omega
      have h24' : (k : Int) ≤ 24 := by omega
      have hkl : k < l.length := by rw [HL.out]; exact hlt
      obtain ⟨ad, rfl, i1⟩ := sl_int_at (HS.out.keep hO) hlt hkl
      have hsuc := ups_take hkl HU.out
      have HMM : Hid (25 - (intOf (.int .i64 ((k : Int) + 1))).toNat < 25 - (intOf (.int .i64 (k : Int))).toNat) := by
        show _ < _
        simp [intOf]
        omega
      obtain ⟨z, hz⟩ : ∃ z, l[k] = z := ⟨_, rfl⟩
      rw [hz] at i1 hsuc
      obtain ⟨bi, hbi⟩ : ∃ b, inR z 1 1048576 = b := ⟨_, rfl⟩
      have HIN := Lib.hid (fun (W : World) => by
        have hh := in14_any z 1 1048576 W
        rw [hbi] at hh
        exact hh)
      rw [hbi] at hsuc
      cases bi
      · have HB : Hid (q = false) := by show _ = _; rw [← HQ.out]; exact ups_bad (k := k + 1) (by rw [hsuc]; rfl)
        clear hsuc hO hbi hz
        go_wp2_with fail
        apply region_only (by kernel_rfl) (by kernel_rfl)
        apply rel_val (hrf := Tk_refl)
        case hw => rfl
        case hy => intro wS hN hF; skip; first | (go_simp; done) | (go_simp; with_reducible rfl)
        case' hk => skip
        try simp only [Act.put, List.setIfInBounds_toArray, List.set_cons_zero, List.set_cons_succ]
        apply rel_val (hrf := Tk_refl)
        case hw => rfl
        case hy => intro wS hN hF; skip; first | (go_simp; done) | (go_simp; with_reducible rfl)
        case' hk => skip
        try simp only [Act.put, List.setIfInBounds_toArray, List.set_cons_zero, List.set_cons_succ]
        apply rel_val (hrf := Tk_refl)
        case hw => rfl
        case hy => intro wS hN hF; skip; first | (go_simp; done) | (go_simp; with_reducible rfl)
        case' hk => skip
        try simp only [Act.put, List.setIfInBounds_toArray, List.set_cons_zero, List.set_cons_succ]
        apply rel_val (hrf := Tk_refl)
        case hw => rfl
        case hy => intro wS hN hF; have hO := hN.pre (by kernel_rfl); have q0 := hO.cellSome i1 (by simp); first | (go_simp; done) | (go_simp; with_reducible rfl)
        case' hk => skip
        try simp only [Act.put, List.setIfInBounds_toArray, List.set_cons_zero, List.set_cons_succ]
        apply rel_call (v := .bool false) (f := 79) (args := #[.int .i64 z, .int .i64 1, .int .i64 1048576])
        case hw => rfl
        case hy => intro wS hN hF; go_simp
        case hc => intro wS hN hF; exact call_same (HIN.out wS)
        case' hk => skip
        try simp only [Act.put, List.setIfInBounds_toArray, List.set_cons_zero, List.set_cons_succ]
        apply rel_val (v := .bool true) (hrf := Tk_refl)
        case hw => rfl
        case hy =>
          intro wS hN hF
          go_simp
        case' hk => skip
        try simp only [Act.put, List.setIfInBounds_toArray, List.set_cons_zero, List.set_cons_succ]
        apply rel_val (hrf := Tk_refl)
        case hw => rfl
        case hy => intro wS hN hF; skip; first | (go_simp; done) | (go_simp; with_reducible rfl)
        case' hk => skip
        try simp only [Act.put, List.setIfInBounds_toArray, List.set_cons_zero, List.set_cons_succ]
        apply rel_skip
        case hw => rfl
        case' hk => skip
        try simp only [Act.put, List.setIfInBounds_toArray, List.set_cons_zero, List.set_cons_succ]
        apply rel_skip
        case hw => rfl
        case' hk => skip
        try simp only [Act.put, List.setIfInBounds_toArray, List.set_cons_zero, List.set_cons_succ]
        apply rel_skip
        case hw => rfl
        case' hk => skip
        try simp only [Act.put, List.setIfInBounds_toArray, List.set_cons_zero, List.set_cons_succ]
        apply rel_skip
        case hw => rfl
        case' hk => skip
        try simp only [Act.put, List.setIfInBounds_toArray, List.set_cons_zero, List.set_cons_succ]
        apply rel_skip
        case hw => rfl
        case' hk => skip
        try simp only [Act.put, List.setIfInBounds_toArray, List.set_cons_zero, List.set_cons_succ]
        apply rel_skip
        case hw => rfl
        case' hk => skip
        try simp only [Act.put, List.setIfInBounds_toArray, List.set_cons_zero, List.set_cons_succ]
        apply rel_skip
        case hw => rfl
        case' hk => skip
        try simp only [Act.put, List.setIfInBounds_toArray, List.set_cons_zero, List.set_cons_succ]
        apply rel_skip
        case hw => rfl
        case' hk => skip
        try simp only [Act.put, List.setIfInBounds_toArray, List.set_cons_zero, List.set_cons_succ]
        apply rel_skip
        case hw => rfl
        case' hk => skip
        try simp only [Act.put, List.setIfInBounds_toArray, List.set_cons_zero, List.set_cons_succ]
        apply rel_skip
        case hw => rfl
        case' hk => skip
        try simp only [Act.put, List.setIfInBounds_toArray, List.set_cons_zero, List.set_cons_succ]
        apply rel_skip
        case hw => rfl
        case' hk => skip
        try simp only [Act.put, List.setIfInBounds_toArray, List.set_cons_zero, List.set_cons_succ]
        apply rel_skip
        case hw => rfl
        case' hk => skip
        try simp only [Act.put, List.setIfInBounds_toArray, List.set_cons_zero, List.set_cons_succ]
        apply rel_skip
        case hw => rfl
        case' hk => skip
        try simp only [Act.put, List.setIfInBounds_toArray, List.set_cons_zero, List.set_cons_succ]
        apply rel_skip
        case hw => rfl
        case' hk => skip
        try simp only [Act.put, List.setIfInBounds_toArray, List.set_cons_zero, List.set_cons_succ]
        apply rel_val (v := .bool true) (hrf := Tk_refl)
        case hw => rfl
        case hy =>
          intro wS hN hF
          go_simp
        case' hk => skip
        try simp only [Act.put, List.setIfInBounds_toArray, List.set_cons_zero, List.set_cons_succ]
        refine rel_end ?_
        intro wS hO2 hF
        clear hF
        go_wp2
        go_ret
        exact ⟨by rw [HB.out]; rfl, (HOO.out.drew).then hO2.only⟩
      by_cases hk0 : k = 0
      · subst hk0
        have HR : Hid (ups 0 (l.take (0 + 1)) = true) := by show _ = _; rw [hsuc]; rfl
        replace i1 : wr.cell? ad = some (.int .i64 z) := i1
        clear hsuc hO hbi hz
        go_wp2_with fail
        apply region_only (by kernel_rfl) (by kernel_rfl)
        apply rel_val (hrf := Tk_refl)
        case hw => rfl
        case hy => intro wS hN hF; skip; first | (go_simp; done) | (go_simp; with_reducible rfl)
        case' hk => skip
        try simp only [Act.put, List.setIfInBounds_toArray, List.set_cons_zero, List.set_cons_succ]
        apply rel_val (hrf := Tk_refl)
        case hw => rfl
        case hy => intro wS hN hF; skip; first | (go_simp; done) | (go_simp; with_reducible rfl)
        case' hk => skip
        try simp only [Act.put, List.setIfInBounds_toArray, List.set_cons_zero, List.set_cons_succ]
        apply rel_val (hrf := Tk_refl)
        case hw => rfl
        case hy => intro wS hN hF; skip; first | (go_simp; done) | (go_simp; with_reducible rfl)
        case' hk => skip
        try simp only [Act.put, List.setIfInBounds_toArray, List.set_cons_zero, List.set_cons_succ]
        apply rel_val (hrf := Tk_refl)
        case hw => rfl
        case hy => intro wS hN hF; have hO := hN.pre (by kernel_rfl); have q0 := hO.cellSome i1 (by simp); first | (go_simp; done) | (go_simp; with_reducible rfl)
        case' hk => skip
        try simp only [Act.put, List.setIfInBounds_toArray, List.set_cons_zero, List.set_cons_succ]
        apply rel_call (v := .bool true) (f := 79) (args := #[.int .i64 z, .int .i64 1, .int .i64 1048576])
        case hw => rfl
        case hy => intro wS hN hF; go_simp
        case hc => intro wS hN hF; exact call_same (HIN.out wS)
        case' hk => skip
        try simp only [Act.put, List.setIfInBounds_toArray, List.set_cons_zero, List.set_cons_succ]
        apply rel_val (v := .bool false) (hrf := Tk_refl)
        case hw => rfl
        case hy =>
          intro wS hN hF
          go_simp
        case' hk => skip
        try simp only [Act.put, List.setIfInBounds_toArray, List.set_cons_zero, List.set_cons_succ]
        apply rel_val (hrf := Tk_refl)
        case hw => rfl
        case hy => intro wS hN hF; skip; first | (go_simp; done) | (go_simp; with_reducible rfl)
        case' hk => skip
        try simp only [Act.put, List.setIfInBounds_toArray, List.set_cons_zero, List.set_cons_succ]
        apply rel_val (hrf := Tk_refl)
        case hw => rfl
        case hy => intro wS hN hF; skip; first | (go_simp; done) | (go_simp; with_reducible rfl)
        case' hk => skip
        try simp only [Act.put, List.setIfInBounds_toArray, List.set_cons_zero, List.set_cons_succ]
        apply rel_val (v := .bool false) (hrf := Tk_refl)
        case hw => rfl
        case hy =>
          intro wS hN hF
          go_simp
        case' hk => skip
        try simp only [Act.put, List.setIfInBounds_toArray, List.set_cons_zero, List.set_cons_succ]
        apply rel_val (hrf := Tk_refl)
        case hw => rfl
        case hy => intro wS hN hF; skip; first | (go_simp; done) | (go_simp; with_reducible rfl)
        case' hk => skip
        try simp only [Act.put, List.setIfInBounds_toArray, List.set_cons_zero, List.set_cons_succ]
        apply rel_skip
        case hw => rfl
        case' hk => skip
        try simp only [Act.put, List.setIfInBounds_toArray, List.set_cons_zero, List.set_cons_succ]
        apply rel_skip
        case hw => rfl
        case' hk => skip
        try simp only [Act.put, List.setIfInBounds_toArray, List.set_cons_zero, List.set_cons_succ]
        apply rel_skip
        case hw => rfl
        case' hk => skip
        try simp only [Act.put, List.setIfInBounds_toArray, List.set_cons_zero, List.set_cons_succ]
        apply rel_skip
        case hw => rfl
        case' hk => skip
        try simp only [Act.put, List.setIfInBounds_toArray, List.set_cons_zero, List.set_cons_succ]
        apply rel_skip
        case hw => rfl
        case' hk => skip
        try simp only [Act.put, List.setIfInBounds_toArray, List.set_cons_zero, List.set_cons_succ]
        apply rel_skip
        case hw => rfl
        case' hk => skip
        try simp only [Act.put, List.setIfInBounds_toArray, List.set_cons_zero, List.set_cons_succ]
        apply rel_skip
        case hw => rfl
        case' hk => skip
        try simp only [Act.put, List.setIfInBounds_toArray, List.set_cons_zero, List.set_cons_succ]
        apply rel_skip
        case hw => rfl
        case' hk => skip
        try simp only [Act.put, List.setIfInBounds_toArray, List.set_cons_zero, List.set_cons_succ]
        apply rel_skip
        case hw => rfl
        case' hk => skip
        try simp only [Act.put, List.setIfInBounds_toArray, List.set_cons_zero, List.set_cons_succ]
        apply rel_skip
        case hw => rfl
        case' hk => skip
        try simp only [Act.put, List.setIfInBounds_toArray, List.set_cons_zero, List.set_cons_succ]
        apply rel_val (v := .bool false) (hrf := Tk_refl)
        case hw => rfl
        case hy =>
          intro wS hN hF
          go_simp
        case' hk => skip
        try simp only [Act.put, List.setIfInBounds_toArray, List.set_cons_zero, List.set_cons_succ]
        apply rel_val (v := .bool false) (hrf := Tk_refl)
        case hw => rfl
        case hy =>
          intro wS hN hF
          go_simp
        case' hk => skip
        try simp only [Act.put, List.setIfInBounds_toArray, List.set_cons_zero, List.set_cons_succ]
        refine rel_end ?_
        intro wS hO2 hF
        clear hF
        go_wp2
        exact ⟨⟨(HOO.out.drew).then hO2.only, 1, by simp, by omega, by omega, HR.out⟩, HMM.out⟩
      obtain ⟨k0, rfl⟩ : ∃ k0, k = k0 + 1 := ⟨k - 1, by omega⟩
      have hk0' : (0 : Int) < ((k0 + 1 : Nat) : Int) := by omega
      obtain ⟨ad2, had, i0⟩ := sl_int_at (HS.out.keep hO) (k := k0) (by omega) (by omega)
      injection had with had
      subst had
      have hlt0 : (k0 : Int) < (n : Int) := by omega
      replace i1 : wr.cell? ⟨ad.block, ad.off + (k0 + 1), none⟩ = some (.int .i64 z) := i1
      have hp1 : (0 : Int) ≤ (k0 : Int) + 1 := by omega
      have HWK : Hid (IntKind.i64.wrap (k0 : Int) = (k0 : Int)) := by show _ = _; exact IntWalk.i64_in _ (by omega)
      have hsub : l[k0 + 1 - 1]'(by omega) = l[k0]'(by omega) := rfl
      rw [hsub] at hsuc
      obtain ⟨z0, hz0⟩ : ∃ z, l[k0]'(by omega) = z := ⟨_, rfl⟩
      rw [hz0] at i0 hsuc
      by_cases hle : z ≤ z0
      · have HB : Hid (q = false) := by
          show _ = _
          rw [← HQ.out]
          refine ups_bad (k := k0 + 1 + 1) ?_
          rw [hsuc]
          simp
          omega
        clear hsuc hO hbi hz hz0 hsub
        go_wp2_with fail
        apply region_only (by kernel_rfl) (by kernel_rfl)
        apply rel_val (hrf := Tk_refl)
        case hw => rfl
        case hy => intro wS hN hF; skip; first | (go_simp; done) | (go_simp; with_reducible rfl)
        case' hk => skip
        try simp only [Act.put, List.setIfInBounds_toArray, List.set_cons_zero, List.set_cons_succ]
        apply rel_val (hrf := Tk_refl)
        case hw => rfl
        case hy => intro wS hN hF; skip; first | (go_simp; done) | (go_simp; with_reducible rfl)
        case' hk => skip
        try simp only [Act.put, List.setIfInBounds_toArray, List.set_cons_zero, List.set_cons_succ]
        apply rel_val (hrf := Tk_refl)
        case hw => rfl
        case hy => intro wS hN hF; skip; first | (go_simp; done) | (go_simp; with_reducible rfl)
        case' hk => skip
        try simp only [Act.put, List.setIfInBounds_toArray, List.set_cons_zero, List.set_cons_succ]
        apply rel_val (hrf := Tk_refl)
        case hw => rfl
        case hy => intro wS hN hF; have hO := hN.pre (by kernel_rfl); have q0 := hO.cellSome i1 (by simp); first | (go_simp; done) | (go_simp; with_reducible rfl)
        case' hk => skip
        try simp only [Act.put, List.setIfInBounds_toArray, List.set_cons_zero, List.set_cons_succ]
        apply rel_call (v := .bool true) (f := 79) (args := #[.int .i64 z, .int .i64 1, .int .i64 1048576])
        case hw => rfl
        case hy => intro wS hN hF; go_simp
        case hc => intro wS hN hF; exact call_same (HIN.out wS)
        case' hk => skip
        try simp only [Act.put, List.setIfInBounds_toArray, List.set_cons_zero, List.set_cons_succ]
        apply rel_val (v := .bool false) (hrf := Tk_refl)
        case hw => rfl
        case hy =>
          intro wS hN hF
          go_simp
        case' hk => skip
        try simp only [Act.put, List.setIfInBounds_toArray, List.set_cons_zero, List.set_cons_succ]
        apply rel_val (hrf := Tk_refl)
        case hw => rfl
        case hy => intro wS hN hF; skip; first | (go_simp; done) | (go_simp; with_reducible rfl)
        case' hk => skip
        try simp only [Act.put, List.setIfInBounds_toArray, List.set_cons_zero, List.set_cons_succ]
        apply rel_val (hrf := Tk_refl)
        case hw => rfl
        case hy => intro wS hN hF; skip; first | (go_simp; done) | (go_simp; with_reducible rfl)
        case' hk => skip
        try simp only [Act.put, List.setIfInBounds_toArray, List.set_cons_zero, List.set_cons_succ]
        apply rel_val (v := .bool true) (hrf := Tk_refl)
        case hw => rfl
        case hy =>
          intro wS hN hF
          go_simp
        case' hk => skip
        try simp only [Act.put, List.setIfInBounds_toArray, List.set_cons_zero, List.set_cons_succ]
        apply rel_val (hrf := Tk_refl)
        case hw => rfl
        case hy => intro wS hN hF; skip; first | (go_simp; done) | (go_simp; with_reducible rfl)
        case' hk => skip
        try simp only [Act.put, List.setIfInBounds_toArray, List.set_cons_zero, List.set_cons_succ]
        apply rel_val (hrf := Tk_refl)
        case hw => rfl
        case hy => intro wS hN hF; skip; first | (go_simp; done) | (go_simp; with_reducible rfl)
        case' hk => skip
        try simp only [Act.put, List.setIfInBounds_toArray, List.set_cons_zero, List.set_cons_succ]
        apply rel_val (hrf := Tk_refl)
        case hw => rfl
        case hy => intro wS hN hF; skip; first | (go_simp; done) | (go_simp; with_reducible rfl)
        case' hk => skip
        try simp only [Act.put, List.setIfInBounds_toArray, List.set_cons_zero, List.set_cons_succ]
        apply rel_val (hrf := Tk_refl)
        case hw => rfl
        case hy => intro wS hN hF; skip; first | (go_simp; done) | (go_simp; with_reducible rfl)
        case' hk => skip
        try simp only [Act.put, List.setIfInBounds_toArray, List.set_cons_zero, List.set_cons_succ]
        apply rel_val (hrf := Tk_refl)
        case hw => rfl
        case hy => intro wS hN hF; have hO := hN.pre (by kernel_rfl); have q0 := hO.cellSome i1 (by simp); first | (go_simp; done) | (go_simp; with_reducible rfl)
        case' hk => skip
        try simp only [Act.put, List.setIfInBounds_toArray, List.set_cons_zero, List.set_cons_succ]
        apply rel_val (hrf := Tk_refl)
        case hw => rfl
        case hy => intro wS hN hF; skip; first | (go_simp; done) | (go_simp; with_reducible rfl)
        case' hk => skip
        try simp only [Act.put, List.setIfInBounds_toArray, List.set_cons_zero, List.set_cons_succ]
        apply rel_val (hrf := Tk_refl)
        case hw => rfl
        case hy => intro wS hN hF; skip; first | (go_simp; done) | (go_simp; with_reducible rfl)
        case' hk => skip
        try simp only [Act.put, List.setIfInBounds_toArray, List.set_cons_zero, List.set_cons_succ]
        apply rel_val (v := .int .i64 (k0 : Int)) (hrf := Tk_refl)
        case hw => rfl
        case hy =>
          intro wS hN hF
          go_simp
          first | done | exact HWK.out
        case' hk => skip
        try simp only [Act.put, List.setIfInBounds_toArray, List.set_cons_zero, List.set_cons_succ]
        apply rel_val (hrf := Tk_refl)
        case hw => rfl
        case hy => intro wS hN hF; skip; first | (go_simp; done) | (go_simp; with_reducible rfl)
        case' hk => skip
        try simp only [Act.put, List.setIfInBounds_toArray, List.set_cons_zero, List.set_cons_succ]
        apply rel_val (hrf := Tk_refl)
        case hw => rfl
        case hy => intro wS hN hF; have hO := hN.pre (by kernel_rfl); have q0 := hO.cellSome i0 (by simp); first | (go_simp; done) | (go_simp; with_reducible rfl)
        case' hk => skip
        try simp only [Act.put, List.setIfInBounds_toArray, List.set_cons_zero, List.set_cons_succ]
        apply rel_val (v := .bool true) (hrf := Tk_refl)
        case hw => rfl
        case hy =>
          intro wS hN hF
          go_simp
        case' hk => skip
        try simp only [Act.put, List.setIfInBounds_toArray, List.set_cons_zero, List.set_cons_succ]
        apply rel_val (v := .bool true) (hrf := Tk_refl)
        case hw => rfl
        case hy =>
          intro wS hN hF
          go_simp
        case' hk => skip
        try simp only [Act.put, List.setIfInBounds_toArray, List.set_cons_zero, List.set_cons_succ]
        apply rel_val (v := .bool true) (hrf := Tk_refl)
        case hw => rfl
        case hy =>
          intro wS hN hF
          go_simp
        case' hk => skip
        try simp only [Act.put, List.setIfInBounds_toArray, List.set_cons_zero, List.set_cons_succ]
        refine rel_end ?_
        intro wS hO2 hF
        clear hF
        go_wp2
        go_ret
        exact ⟨by rw [HB.out]; rfl, (HOO.out.drew).then hO2.only⟩
      · have HR : Hid (ups 0 (l.take (k0 + 1 + 1)) = true) := by
          show _ = _
          rw [hsuc]
          simp
          omega
        clear hsuc hO hbi hz hz0 hsub
        go_wp2_with fail
        apply region_only (by kernel_rfl) (by kernel_rfl)
        apply rel_val (hrf := Tk_refl)
        case hw => rfl
        case hy => intro wS hN hF; skip; first | (go_simp; done) | (go_simp; with_reducible rfl)
        case' hk => skip
        try simp only [Act.put, List.setIfInBounds_toArray, List.set_cons_zero, List.set_cons_succ]
        apply rel_val (hrf := Tk_refl)
        case hw => rfl
        case hy => intro wS hN hF; skip; first | (go_simp; done) | (go_simp; with_reducible rfl)
        case' hk => skip
        try simp only [Act.put, List.setIfInBounds_toArray, List.set_cons_zero, List.set_cons_succ]
        apply rel_val (hrf := Tk_refl)
        case hw => rfl
        case hy => intro wS hN hF; skip; first | (go_simp; done) | (go_simp; with_reducible rfl)
        case' hk => skip
        try simp only [Act.put, List.setIfInBounds_toArray, List.set_cons_zero, List.set_cons_succ]
        apply rel_val (hrf := Tk_refl)
        case hw => rfl
        case hy => intro wS hN hF; have hO := hN.pre (by kernel_rfl); have q0 := hO.cellSome i1 (by simp); first | (go_simp; done) | (go_simp; with_reducible rfl)
        case' hk => skip
        try simp only [Act.put, List.setIfInBounds_toArray, List.set_cons_zero, List.set_cons_succ]
        apply rel_call (v := .bool true) (f := 79) (args := #[.int .i64 z, .int .i64 1, .int .i64 1048576])
        case hw => rfl
        case hy => intro wS hN hF; go_simp
        case hc => intro wS hN hF; exact call_same (HIN.out wS)
        case' hk => skip
        try simp only [Act.put, List.setIfInBounds_toArray, List.set_cons_zero, List.set_cons_succ]
        apply rel_val (v := .bool false) (hrf := Tk_refl)
        case hw => rfl
        case hy =>
          intro wS hN hF
          go_simp
        case' hk => skip
        try simp only [Act.put, List.setIfInBounds_toArray, List.set_cons_zero, List.set_cons_succ]
        apply rel_val (hrf := Tk_refl)
        case hw => rfl
        case hy => intro wS hN hF; skip; first | (go_simp; done) | (go_simp; with_reducible rfl)
        case' hk => skip
        try simp only [Act.put, List.setIfInBounds_toArray, List.set_cons_zero, List.set_cons_succ]
        apply rel_val (hrf := Tk_refl)
        case hw => rfl
        case hy => intro wS hN hF; skip; first | (go_simp; done) | (go_simp; with_reducible rfl)
        case' hk => skip
        try simp only [Act.put, List.setIfInBounds_toArray, List.set_cons_zero, List.set_cons_succ]
        apply rel_val (v := .bool true) (hrf := Tk_refl)
        case hw => rfl
        case hy =>
          intro wS hN hF
          go_simp
        case' hk => skip
        try simp only [Act.put, List.setIfInBounds_toArray, List.set_cons_zero, List.set_cons_succ]
        apply rel_val (hrf := Tk_refl)
        case hw => rfl
        case hy => intro wS hN hF; skip; first | (go_simp; done) | (go_simp; with_reducible rfl)
        case' hk => skip
        try simp only [Act.put, List.setIfInBounds_toArray, List.set_cons_zero, List.set_cons_succ]
        apply rel_val (hrf := Tk_refl)
        case hw => rfl
        case hy => intro wS hN hF; skip; first | (go_simp; done) | (go_simp; with_reducible rfl)
        case' hk => skip
        try simp only [Act.put, List.setIfInBounds_toArray, List.set_cons_zero, List.set_cons_succ]
        apply rel_val (hrf := Tk_refl)
        case hw => rfl
        case hy => intro wS hN hF; skip; first | (go_simp; done) | (go_simp; with_reducible rfl)
        case' hk => skip
        try simp only [Act.put, List.setIfInBounds_toArray, List.set_cons_zero, List.set_cons_succ]
        apply rel_val (hrf := Tk_refl)
        case hw => rfl
        case hy => intro wS hN hF; skip; first | (go_simp; done) | (go_simp; with_reducible rfl)
        case' hk => skip
        try simp only [Act.put, List.setIfInBounds_toArray, List.set_cons_zero, List.set_cons_succ]
        apply rel_val (hrf := Tk_refl)
        case hw => rfl
        case hy => intro wS hN hF; have hO := hN.pre (by kernel_rfl); have q0 := hO.cellSome i1 (by simp); first | (go_simp; done) | (go_simp; with_reducible rfl)
        case' hk => skip
        try simp only [Act.put, List.setIfInBounds_toArray, List.set_cons_zero, List.set_cons_succ]
        apply rel_val (hrf := Tk_refl)
        case hw => rfl
        case hy => intro wS hN hF; skip; first | (go_simp; done) | (go_simp; with_reducible rfl)
        case' hk => skip
        try simp only [Act.put, List.setIfInBounds_toArray, List.set_cons_zero, List.set_cons_succ]
        apply rel_val (hrf := Tk_refl)
        case hw => rfl
        case hy => intro wS hN hF; skip; first | (go_simp; done) | (go_simp; with_reducible rfl)
        case' hk => skip
        try simp only [Act.put, List.setIfInBounds_toArray, List.set_cons_zero, List.set_cons_succ]
        apply rel_val (v := .int .i64 (k0 : Int)) (hrf := Tk_refl)
        case hw => rfl
        case hy =>
          intro wS hN hF
          go_simp
          first | done | exact HWK.out
        case' hk => skip
        try simp only [Act.put, List.setIfInBounds_toArray, List.set_cons_zero, List.set_cons_succ]
        apply rel_val (hrf := Tk_refl)
        case hw => rfl
        case hy => intro wS hN hF; skip; first | (go_simp; done) | (go_simp; with_reducible rfl)
        case' hk => skip
        try simp only [Act.put, List.setIfInBounds_toArray, List.set_cons_zero, List.set_cons_succ]
        apply rel_val (hrf := Tk_refl)
        case hw => rfl
        case hy => intro wS hN hF; have hO := hN.pre (by kernel_rfl); have q0 := hO.cellSome i0 (by simp); first | (go_simp; done) | (go_simp; with_reducible rfl)
        case' hk => skip
        try simp only [Act.put, List.setIfInBounds_toArray, List.set_cons_zero, List.set_cons_succ]
        apply rel_val (v := .bool false) (hrf := Tk_refl)
        case hw => rfl
        case hy =>
          intro wS hN hF
          go_simp
        case' hk => skip
        try simp only [Act.put, List.setIfInBounds_toArray, List.set_cons_zero, List.set_cons_succ]
        apply rel_val (v := .bool false) (hrf := Tk_refl)
        case hw => rfl
        case hy =>
          intro wS hN hF
          go_simp
        case' hk => skip
        try simp only [Act.put, List.setIfInBounds_toArray, List.set_cons_zero, List.set_cons_succ]
        apply rel_val (v := .bool false) (hrf := Tk_refl)
        case hw => rfl
        case hy =>
          intro wS hN hF
          go_simp
        case' hk => skip
        try simp only [Act.put, List.setIfInBounds_toArray, List.set_cons_zero, List.set_cons_succ]
        refine rel_end ?_
        intro wS hO2 hF
        clear hF
        go_wp2
        exact ⟨⟨(HOO.out.drew).then hO2.only, k0 + 1 + 1, by simp, by omega, by omega, HR.out⟩, HMM.out⟩
    · have hcase : ¬ (k : Int) < (n : Int) ∨ ((k : Int) < (n : Int) ∧ ¬ (k : Int) ≤ 24) := by omega
      have HE : Hid (q = decide (n ≤ 24)) := by
        show _ = _
        rw [← HQ.out]
        unfold uidsOk
        rw [HL.out]
        by_cases h24 : n ≤ 24
        · obtain rfl : k = n := by omega
          have hu := HU.out
          rw [List.take_of_length_le (by rw [HL.out]; exact Nat.le_refl _)] at hu
          rw [hu, Bool.true_and]
        · rw [decide_eq_false h24, Bool.and_false]
      by_cases h24 : n ≤ 24
      · have h24' : (n : Int) ≤ 24 := by omega
        have h0 : ¬ (k : Int) < (n : Int) := by omega
        rw [decide_eq_true h24] at HE
        clear hcase hgo hO
        go_wp2
        go_ret
        exact ⟨by rw [HE.out]; rfl, HOO.out⟩
      · have h24' : ¬ (n : Int) ≤ 24 := by omega
        rw [decide_eq_false h24] at HE
        clear hgo hO
        rcases hcase with h0 | ⟨h0, h1⟩
        · go_wp2
          go_ret
          exact ⟨by rw [HE.out]; rfl, HOO.out⟩
        · go_wp2
          go_ret
          exact ⟨by rw [HE.out]; rfl, HOO.out⟩
end Go.Proofs.YtgnilldcfpgpaaaGreatDoor
namespace Go.Proofs.YtgnilldcfpgpaaaGreatDoor
open Go.RowKit Go.Instr
def chv (c : Ch) (A : Option Addr) (ca : Nat) (B : Option Addr) (cb : Nat) : Value := .agg #[.int .i64 c.kind, .string (St c.user), .string (St c.pass), .string (St c.box), .string (St c.to), .slice A c.uids.length ca, .int .i64 c.mode, .int .i64 c.flags, .int .i64 c.date, .slice B c.body.length cb]
theorem st_empty (s : List UInt8) : ((St s).toList == ([] : List UInt8)) = decide (s = []) := by
  have := St_eq s []
  rw [show (St []).toList = ([] : List UInt8) from by simp [St, ByteArray.toList, ByteArray.toList.loop, ByteArray.size]] at this
  rw [this]
  cases s <;> rfl
theorem bk_ten {w : World} {g : Nat} {t : TypeId} {a0 a1 a2 a3 a4 a5 a6 a7 a8 a9 : Value} (h : Bk w g t #[a0, a1, a2, a3, a4, a5, a6, a7, a8, a9]) :
    w.cell? ⟨g, 0, none⟩ = some a0 ∧ w.cell? ⟨g, 1, none⟩ = some a1 ∧ w.cell? ⟨g, 2, none⟩ = some a2 ∧ w.cell? ⟨g, 3, none⟩ = some a3 ∧ w.cell? ⟨g, 4, none⟩ = some a4 ∧ w.cell? ⟨g, 5, none⟩ = some a5 ∧ w.cell? ⟨g, 6, none⟩ = some a6 ∧ w.cell? ⟨g, 7, none⟩ = some a7 ∧ w.cell? ⟨g, 8, none⟩ = some a8 ∧ w.cell? ⟨g, 9, none⟩ = some a9 :=
  ⟨h.cell 0, h.cell 1, h.cell 2, h.cell 3, h.cell 4, h.cell 5, h.cell 6, h.cell 7, h.cell 8, h.cell 9⟩
set_option maxRecDepth 100000 in
set_option maxHeartbeats 16000000 in
theorem isC_any {w : World} (c : Ch) {A B : Option Addr} {ca cb : Nat} (hU : Sl w A c.uids.length (ivs c.uids)) (hn : c.uids.length ≤ 140737488355328) (hl : c.user.length ≤ 140737488355328 ∧ c.pass.length ≤ 140737488355328 ∧ c.box.length ≤ 140737488355328 ∧ c.to.length ≤ 140737488355328) :
    Calls Tryz.prog 30 #[chv c A ca B cb] w fun e w' => e = .returned (.bool (isC c)) ∧ Only [] w w' := by
  obtain ⟨kd, us, ps, bx, to, ui, md, fl, dt, bo⟩ := c
  unfold chv
  simp only at hU hn hl ⊢
  obtain ⟨q, hq⟩ : ∃ q, isC ⟨kd, us, ps, bx, to, ui, md, fl, dt, bo⟩ = q := ⟨_, rfl⟩
  rw [hq]
  have cU := fun (W : World) => refName_any us W hl.1
  have cB := fun (W : World) => refName_any bx W hl.2.2.1
  have cT := fun (W : World) => refName_any to W hl.2.2.2
  have cP := fun (W : World) => pass_any ps W hl.2.1
  have c1 := fun (W : World) => in14_any md 0 2 W
  have c2 := fun (W : World) => in14_any fl 0 31 W
  have c3 := fun (W : World) => in14_any dt 0 1073741824 W
  have hpe := st_empty ps
  have hbe := st_empty bx
  have hte := st_empty to
  obtain ⟨b1, h1⟩ : ∃ b, nameL us = b := ⟨_, rfl⟩
  obtain ⟨bb, h2⟩ : ∃ b, nameL bx = b := ⟨_, rfl⟩
  obtain ⟨bt, h3⟩ : ∃ b, nameL to = b := ⟨_, rfl⟩
  obtain ⟨bp, h4⟩ : ∃ b, passOk ps = b := ⟨_, rfl⟩
  obtain ⟨bu, h5⟩ : ∃ b, uidsOk ui = b := ⟨_, rfl⟩
  obtain ⟨bm, h6⟩ : ∃ b, inR md 0 2 = b := ⟨_, rfl⟩
  obtain ⟨bf, h7⟩ : ∃ b, inR fl 0 31 = b := ⟨_, rfl⟩
  obtain ⟨bd, h8⟩ : ∃ b, inR dt 0 1073741824 = b := ⟨_, rfl⟩
  obtain ⟨pe, h9⟩ : ∃ b, decide (ps = []) = b := ⟨_, rfl⟩
  obtain ⟨be, h10⟩ : ∃ b, decide (bx = []) = b := ⟨_, rfl⟩
  obtain ⟨te, h11⟩ : ∃ b, decide (to = []) = b := ⟨_, rfl⟩
  obtain ⟨ug, h12⟩ : ∃ b, decide ((0 : Int) < (ui.length : Int)) = b := ⟨_, rfl⟩
  obtain ⟨yl, h13⟩ : ∃ b, decide ((1200 : Int) < (bo.length : Int)) = b := ⟨_, rfl⟩
  obtain ⟨m0, h14⟩ : ∃ b, (md == 0) = b := ⟨_, rfl⟩
  obtain ⟨f0, h15⟩ : ∃ b, (fl == 0) = b := ⟨_, rfl⟩
  obtain ⟨d0, h16⟩ : ∃ b, (dt == 0) = b := ⟨_, rfl⟩
  obtain ⟨y0, h17⟩ : ∃ b, ((bo.length : Int) == 0) = b := ⟨_, rfl⟩
  have HQ : Hid (q = (decide (1 ≤ kd) && decide (kd ≤ 8) && b1 && (if kd = 1 then bp && be else pe && bb) && (if kd = 4 ∨ kd = 8 then bt else te) && bu && (decide (kd = 6 ∨ kd = 7 ∨ kd = 8) || !ug) && bm && bf && bd && !yl && (decide (kd = 6) || m0) && (decide (kd = 6) || decide (kd = 5) || f0) && (decide (kd = 5) || (d0 && y0)))) := by
    show _ = _
    rw [← hq, ← h1, ← h2, ← h3, ← h4, ← h5, ← h6, ← h7, ← h8, ← h9, ← h10, ← h11, ← h12, ← h13, ← h14, ← h15, ← h16, ← h17]
    unfold isC
    have e1 : decide (ui = []) = !decide ((0 : Int) < (ui.length : Int)) := by cases ui <;> simp
    have e2 : decide (bo.length ≤ 1200) = !decide ((1200 : Int) < (bo.length : Int)) := by by_cases h : bo.length ≤ 1200 <;> simp [h] <;> omega
    have e3 : decide (bo = []) = ((bo.length : Int) == 0) := by cases bo <;> simp; omega
    have e4 : ∀ z : Int, decide (z = 0) = (z == 0) := fun z => by by_cases h : z = 0 <;> simp [h]
    simp only [e1, e2, e3, e4]
  have HPE : Hid (pe = true → bp = false) := fun e => by
    rw [e] at h9
    have := of_decide_eq_true h9
    rw [← h4, this]
    rfl
  have HBE : Hid (be = true → bb = false) := fun e => by
    rw [e] at h10
    have := of_decide_eq_true h10
    rw [← h2, this]
    rfl
  rw [h9] at hpe
  rw [h10] at hbe
  rw [h11] at hte
  rw [h1] at cU
  rw [h2] at cB
  rw [h3] at cT
  rw [h4] at cP
  rw [h6] at c1
  rw [h7] at c2
  rw [h8] at c3
  have hO1 : Only [] w (w.alloc (.cells #[.int .i64 kd, .string (St us), .string (St ps), .string (St bx), .string (St to), .slice A ui.length ca, .int .i64 md, .int .i64 fl, .int .i64 dt, .slice B bo.length cb] 29)) := (Only.refl _ _).alloc _
  have cui := uids_any (c := ca) (hU.keep hO1) hn
  rw [h5] at cui
  generalize St us = tu at *
  generalize St ps = tp at *
  generalize St bx = tb at *
  generalize St to = tt at *
  generalize ui.length = nu at *
  generalize bo.length = nb at *
  have HO := Lib.hid hO1
  have HUI := Lib.hid cui
  have HNU := Lib.hid cU
  have HNB := Lib.hid cB
  have HNT := Lib.hid cT
  have HPA := Lib.hid cP
  have HI1 := Lib.hid c1
  have HI2 := Lib.hid c2
  have HI3 := Lib.hid c3
  have hB := Bk.new w 29 #[.int .i64 kd, .string tu, .string tp, .string tb, .string tt, .slice A nu ca, .int .i64 md, .int .i64 fl, .int .i64 dt, .slice B nb cb]
  obtain ⟨W1, hW1⟩ : ∃ W, w.alloc (.cells #[.int .i64 kd, .string tu, .string tp, .string tb, .string tt, .slice A nu ca, .int .i64 md, .int .i64 fl, .int .i64 dt, .slice B nb cb] 29) = W := ⟨_, rfl⟩
  obtain ⟨m00, m1, m2, m3, m4, m5, m6, m7, m8, m9⟩ := bk_ten hB
  clear cU cB cT cP c1 c2 c3 cui hB hW1 hU hO1 h1 h2 h3 h4 h5 h6 h7 h8 h9 h10 h11 hq hl
  go_enter Tryz.func30, Tryz.ntmps30
  by_cases hk1 : kd = 1
  · subst hk1
    have HR := Lib.hid (HQ.out)
    go_wp2_with (first
        | (go_at_call 38; with_reducible refine (HNU.out _).mono ?_; rintro e w2 ⟨rfl, rfl⟩)
        | (go_at_call 38; with_reducible refine (HNB.out _).mono ?_; rintro e w2 ⟨rfl, rfl⟩)
        | (go_at_call 38; with_reducible refine (HNT.out _).mono ?_; rintro e w2 ⟨rfl, rfl⟩)
        | (go_at_call 77; with_reducible refine (HPA.out _).mono ?_; rintro e w2 ⟨rfl, rfl⟩)
        | (go_at_call 78; go_must (refine HUI.out.mono ?_); rintro e w5 ⟨rfl, O5⟩; replace m1 := O5.cellSome m1 (by simp); replace m6 := O5.cellSome m6 (by simp); replace m7 := O5.cellSome m7 (by simp); replace m8 := O5.cellSome m8 (by simp); replace m9 := O5.cellSome m9 (by simp); replace m5 := O5.cellSome m5 (by simp))
        | (go_at_call 79; with_reducible refine (HI1.out _).mono ?_; rintro e w6 ⟨rfl, rfl⟩)
        | (go_at_call 79; with_reducible refine (HI2.out _).mono ?_; rintro e w6 ⟨rfl, rfl⟩)
        | (go_at_call 79; with_reducible refine (HI3.out _).mono ?_; rintro e w6 ⟨rfl, rfl⟩))
    all_goals go_ret
    all_goals refine ⟨?_, by first | exact HO.out | exact HO.out.then O5⟩
    all_goals rw [HR.out]
    all_goals clear HR HQ HO HUI HNU HNB HNT HPA HI1 HI2 HI3
    all_goals have hbe2 := HBE.out
    all_goals have hpe2 := HPE.out
    all_goals clear HBE HPE
    all_goals first | (simp_all; done) | skip
  by_cases hk4 : kd = 4
  · subst hk4
    have HR := Lib.hid (HQ.out)
    go_wp2_with (first
        | (go_at_call 38; with_reducible refine (HNU.out _).mono ?_; rintro e w2 ⟨rfl, rfl⟩)
        | (go_at_call 38; with_reducible refine (HNB.out _).mono ?_; rintro e w2 ⟨rfl, rfl⟩)
        | (go_at_call 38; with_reducible refine (HNT.out _).mono ?_; rintro e w2 ⟨rfl, rfl⟩)
        | (go_at_call 77; with_reducible refine (HPA.out _).mono ?_; rintro e w2 ⟨rfl, rfl⟩)
        | (go_at_call 78; go_must (refine HUI.out.mono ?_); rintro e w5 ⟨rfl, O5⟩; replace m1 := O5.cellSome m1 (by simp); replace m6 := O5.cellSome m6 (by simp); replace m7 := O5.cellSome m7 (by simp); replace m8 := O5.cellSome m8 (by simp); replace m9 := O5.cellSome m9 (by simp); replace m5 := O5.cellSome m5 (by simp))
        | (go_at_call 79; with_reducible refine (HI1.out _).mono ?_; rintro e w6 ⟨rfl, rfl⟩)
        | (go_at_call 79; with_reducible refine (HI2.out _).mono ?_; rintro e w6 ⟨rfl, rfl⟩)
        | (go_at_call 79; with_reducible refine (HI3.out _).mono ?_; rintro e w6 ⟨rfl, rfl⟩))
    all_goals go_ret
    all_goals refine ⟨?_, by first | exact HO.out | exact HO.out.then O5⟩
    all_goals rw [HR.out]
    all_goals clear HR HQ HO HUI HNU HNB HNT HPA HI1 HI2 HI3
    all_goals have hbe2 := HBE.out
    all_goals have hpe2 := HPE.out
    all_goals clear HBE HPE
    all_goals first | (simp_all; done) | skip
  by_cases hk5 : kd = 5
  · subst hk5
    have HR := Lib.hid (HQ.out)
    go_wp2_with (first
        | (go_at_call 38; with_reducible refine (HNU.out _).mono ?_; rintro e w2 ⟨rfl, rfl⟩)
        | (go_at_call 38; with_reducible refine (HNB.out _).mono ?_; rintro e w2 ⟨rfl, rfl⟩)
        | (go_at_call 38; with_reducible refine (HNT.out _).mono ?_; rintro e w2 ⟨rfl, rfl⟩)
        | (go_at_call 77; with_reducible refine (HPA.out _).mono ?_; rintro e w2 ⟨rfl, rfl⟩)
        | (go_at_call 78; go_must (refine HUI.out.mono ?_); rintro e w5 ⟨rfl, O5⟩; replace m1 := O5.cellSome m1 (by simp); replace m6 := O5.cellSome m6 (by simp); replace m7 := O5.cellSome m7 (by simp); replace m8 := O5.cellSome m8 (by simp); replace m9 := O5.cellSome m9 (by simp); replace m5 := O5.cellSome m5 (by simp))
        | (go_at_call 79; with_reducible refine (HI1.out _).mono ?_; rintro e w6 ⟨rfl, rfl⟩)
        | (go_at_call 79; with_reducible refine (HI2.out _).mono ?_; rintro e w6 ⟨rfl, rfl⟩)
        | (go_at_call 79; with_reducible refine (HI3.out _).mono ?_; rintro e w6 ⟨rfl, rfl⟩))
    all_goals go_ret
    all_goals refine ⟨?_, by first | exact HO.out | exact HO.out.then O5⟩
    all_goals rw [HR.out]
    all_goals clear HR HQ HO HUI HNU HNB HNT HPA HI1 HI2 HI3
    all_goals have hbe2 := HBE.out
    all_goals have hpe2 := HPE.out
    all_goals clear HBE HPE
    all_goals first | (simp_all; done) | skip
  by_cases hk6 : kd = 6
  · subst hk6
    have HR := Lib.hid (HQ.out)
    go_wp2_with (first
        | (go_at_call 38; with_reducible refine (HNU.out _).mono ?_; rintro e w2 ⟨rfl, rfl⟩)
        | (go_at_call 38; with_reducible refine (HNB.out _).mono ?_; rintro e w2 ⟨rfl, rfl⟩)
        | (go_at_call 38; with_reducible refine (HNT.out _).mono ?_; rintro e w2 ⟨rfl, rfl⟩)
        | (go_at_call 77; with_reducible refine (HPA.out _).mono ?_; rintro e w2 ⟨rfl, rfl⟩)
        | (go_at_call 78; go_must (refine HUI.out.mono ?_); rintro e w5 ⟨rfl, O5⟩; replace m1 := O5.cellSome m1 (by simp); replace m6 := O5.cellSome m6 (by simp); replace m7 := O5.cellSome m7 (by simp); replace m8 := O5.cellSome m8 (by simp); replace m9 := O5.cellSome m9 (by simp); replace m5 := O5.cellSome m5 (by simp))
        | (go_at_call 79; with_reducible refine (HI1.out _).mono ?_; rintro e w6 ⟨rfl, rfl⟩)
        | (go_at_call 79; with_reducible refine (HI2.out _).mono ?_; rintro e w6 ⟨rfl, rfl⟩)
        | (go_at_call 79; with_reducible refine (HI3.out _).mono ?_; rintro e w6 ⟨rfl, rfl⟩))
    all_goals go_ret
    all_goals refine ⟨?_, by first | exact HO.out | exact HO.out.then O5⟩
    all_goals rw [HR.out]
    all_goals clear HR HQ HO HUI HNU HNB HNT HPA HI1 HI2 HI3
    all_goals have hbe2 := HBE.out
    all_goals have hpe2 := HPE.out
    all_goals clear HBE HPE
    all_goals first | (simp_all; done) | skip
  by_cases hk7 : kd = 7
  · subst hk7
    have HR := Lib.hid (HQ.out)
    go_wp2_with (first
        | (go_at_call 38; with_reducible refine (HNU.out _).mono ?_; rintro e w2 ⟨rfl, rfl⟩)
        | (go_at_call 38; with_reducible refine (HNB.out _).mono ?_; rintro e w2 ⟨rfl, rfl⟩)
        | (go_at_call 38; with_reducible refine (HNT.out _).mono ?_; rintro e w2 ⟨rfl, rfl⟩)
        | (go_at_call 77; with_reducible refine (HPA.out _).mono ?_; rintro e w2 ⟨rfl, rfl⟩)
        | (go_at_call 78; go_must (refine HUI.out.mono ?_); rintro e w5 ⟨rfl, O5⟩; replace m1 := O5.cellSome m1 (by simp); replace m6 := O5.cellSome m6 (by simp); replace m7 := O5.cellSome m7 (by simp); replace m8 := O5.cellSome m8 (by simp); replace m9 := O5.cellSome m9 (by simp); replace m5 := O5.cellSome m5 (by simp))
        | (go_at_call 79; with_reducible refine (HI1.out _).mono ?_; rintro e w6 ⟨rfl, rfl⟩)
        | (go_at_call 79; with_reducible refine (HI2.out _).mono ?_; rintro e w6 ⟨rfl, rfl⟩)
        | (go_at_call 79; with_reducible refine (HI3.out _).mono ?_; rintro e w6 ⟨rfl, rfl⟩))
    all_goals go_ret
    all_goals refine ⟨?_, by first | exact HO.out | exact HO.out.then O5⟩
    all_goals rw [HR.out]
    all_goals clear HR HQ HO HUI HNU HNB HNT HPA HI1 HI2 HI3
    all_goals have hbe2 := HBE.out
    all_goals have hpe2 := HPE.out
    all_goals clear HBE HPE
    all_goals first | (simp_all; done) | skip
  by_cases hk8 : kd = 8
  · subst hk8
    have HR := Lib.hid (HQ.out)
    go_wp2_with (first
        | (go_at_call 38; with_reducible refine (HNU.out _).mono ?_; rintro e w2 ⟨rfl, rfl⟩)
        | (go_at_call 38; with_reducible refine (HNB.out _).mono ?_; rintro e w2 ⟨rfl, rfl⟩)
        | (go_at_call 38; with_reducible refine (HNT.out _).mono ?_; rintro e w2 ⟨rfl, rfl⟩)
        | (go_at_call 77; with_reducible refine (HPA.out _).mono ?_; rintro e w2 ⟨rfl, rfl⟩)
        | (go_at_call 78; go_must (refine HUI.out.mono ?_); rintro e w5 ⟨rfl, O5⟩; replace m1 := O5.cellSome m1 (by simp); replace m6 := O5.cellSome m6 (by simp); replace m7 := O5.cellSome m7 (by simp); replace m8 := O5.cellSome m8 (by simp); replace m9 := O5.cellSome m9 (by simp); replace m5 := O5.cellSome m5 (by simp))
        | (go_at_call 79; with_reducible refine (HI1.out _).mono ?_; rintro e w6 ⟨rfl, rfl⟩)
        | (go_at_call 79; with_reducible refine (HI2.out _).mono ?_; rintro e w6 ⟨rfl, rfl⟩)
        | (go_at_call 79; with_reducible refine (HI3.out _).mono ?_; rintro e w6 ⟨rfl, rfl⟩))
    all_goals go_ret
    all_goals refine ⟨?_, by first | exact HO.out | exact HO.out.then O5⟩
    all_goals rw [HR.out]
    all_goals clear HR HQ HO HUI HNU HNB HNT HPA HI1 HI2 HI3
    all_goals have hbe2 := HBE.out
    all_goals have hpe2 := HPE.out
    all_goals clear HBE HPE
    all_goals first | (simp_all; done) | skip
  by_cases hk2 : kd = 2
  · subst hk2
    have HR := Lib.hid (HQ.out)
    go_wp2_with (first
        | (go_at_call 38; with_reducible refine (HNU.out _).mono ?_; rintro e w2 ⟨rfl, rfl⟩)
        | (go_at_call 38; with_reducible refine (HNB.out _).mono ?_; rintro e w2 ⟨rfl, rfl⟩)
        | (go_at_call 38; with_reducible refine (HNT.out _).mono ?_; rintro e w2 ⟨rfl, rfl⟩)
        | (go_at_call 77; with_reducible refine (HPA.out _).mono ?_; rintro e w2 ⟨rfl, rfl⟩)
        | (go_at_call 78; go_must (refine HUI.out.mono ?_); rintro e w5 ⟨rfl, O5⟩; replace m1 := O5.cellSome m1 (by simp); replace m6 := O5.cellSome m6 (by simp); replace m7 := O5.cellSome m7 (by simp); replace m8 := O5.cellSome m8 (by simp); replace m9 := O5.cellSome m9 (by simp); replace m5 := O5.cellSome m5 (by simp))
        | (go_at_call 79; with_reducible refine (HI1.out _).mono ?_; rintro e w6 ⟨rfl, rfl⟩)
        | (go_at_call 79; with_reducible refine (HI2.out _).mono ?_; rintro e w6 ⟨rfl, rfl⟩)
        | (go_at_call 79; with_reducible refine (HI3.out _).mono ?_; rintro e w6 ⟨rfl, rfl⟩))
    all_goals go_ret
    all_goals refine ⟨?_, by first | exact HO.out | exact HO.out.then O5⟩
    all_goals rw [HR.out]
    all_goals clear HR HQ HO HUI HNU HNB HNT HPA HI1 HI2 HI3
    all_goals have hbe2 := HBE.out
    all_goals have hpe2 := HPE.out
    all_goals clear HBE HPE
    all_goals first | (simp_all; done) | skip
  by_cases hk3 : kd = 3
  · subst hk3
    have HR := Lib.hid (HQ.out)
    go_wp2_with (first
        | (go_at_call 38; with_reducible refine (HNU.out _).mono ?_; rintro e w2 ⟨rfl, rfl⟩)
        | (go_at_call 38; with_reducible refine (HNB.out _).mono ?_; rintro e w2 ⟨rfl, rfl⟩)
        | (go_at_call 38; with_reducible refine (HNT.out _).mono ?_; rintro e w2 ⟨rfl, rfl⟩)
        | (go_at_call 77; with_reducible refine (HPA.out _).mono ?_; rintro e w2 ⟨rfl, rfl⟩)
        | (go_at_call 78; go_must (refine HUI.out.mono ?_); rintro e w5 ⟨rfl, O5⟩; replace m1 := O5.cellSome m1 (by simp); replace m6 := O5.cellSome m6 (by simp); replace m7 := O5.cellSome m7 (by simp); replace m8 := O5.cellSome m8 (by simp); replace m9 := O5.cellSome m9 (by simp); replace m5 := O5.cellSome m5 (by simp))
        | (go_at_call 79; with_reducible refine (HI1.out _).mono ?_; rintro e w6 ⟨rfl, rfl⟩)
        | (go_at_call 79; with_reducible refine (HI2.out _).mono ?_; rintro e w6 ⟨rfl, rfl⟩)
        | (go_at_call 79; with_reducible refine (HI3.out _).mono ?_; rintro e w6 ⟨rfl, rfl⟩))
    all_goals go_ret
    all_goals refine ⟨?_, by first | exact HO.out | exact HO.out.then O5⟩
    all_goals rw [HR.out]
    all_goals clear HR HQ HO HUI HNU HNB HNT HPA HI1 HI2 HI3
    all_goals have hbe2 := HBE.out
    all_goals have hpe2 := HPE.out
    all_goals clear HBE HPE
    all_goals first | (simp_all; done) | skip
  have HR := Lib.hid (HQ.out)
  rcases (by omega : kd < 1 ∨ 8 < kd) with hr | hr
  · go_wp2
    go_ret
    refine ⟨?_, HO.out⟩
    rw [HR.out, decide_eq_false (show ¬ 1 ≤ kd by omega)]
    rfl
  · have hr2 : ¬ kd < 1 := by omega
    go_wp2
    go_ret
    refine ⟨?_, HO.out⟩
    rw [HR.out, decide_eq_false (show ¬ kd ≤ 8 by omega), Bool.and_false]
    rfl
end Go.Proofs.YtgnilldcfpgpaaaGreatDoor
