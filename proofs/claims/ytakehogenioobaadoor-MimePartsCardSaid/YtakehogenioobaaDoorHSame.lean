/-
  head.Same.
-/
import Derived.Test.YtakehogenioobaaDoorHLeaf
import Derived.Test.YtakehogenioobaaDoorRel
namespace Go.Proofs.YtakehogenioobaaDoor
open Go.RowKit Go.Instr

theorem lows_take {a b : List UInt8} {k : Nat} (h : k < a.length) (h' : k < b.length) (e : lows (a.take k) = lows (b.take k)) (e2 : low a[k] = low b[k]) : lows (a.take (k + 1)) = lows (b.take (k + 1)) := by
  rw [List.take_succ_eq_append_getElem h, List.take_succ_eq_append_getElem h']
  unfold lows at e ⊢
  rw [List.map_append, List.map_append, e]
  simp [e2]
theorem lows_ne {a b : List UInt8} {k : Nat} (h : k < a.length) (h' : k < b.length) (e2 : low a[k] ≠ low b[k]) : lows a ≠ lows b := by
  intro e
  have h1 : (lows a)[k]? = (lows b)[k]? := by rw [e]
  unfold lows at h1
  rw [List.getElem?_map, List.getElem?_map, List.getElem?_eq_getElem h, List.getElem?_eq_getElem h'] at h1
  exact e2 (Option.some.inj h1)
theorem text_at' (s : ByteArray) {k : Nat} (_h : k < s.size) (h' : k < s.data.toList.length) : s[k] = s.data.toList[k] := rfl

set_option maxRecDepth 100000 in
set_option maxHeartbeats 1000000 in
theorem Same_any (a b : ByteArray) (ha : a.size ≤ 4096) (_ : b.size ≤ 4096) (w : World) : Calls Tryd.prog 30 #[.string a, .string b] w fun e w' => e = .returned (.bool (sameT a.data.toList b.data.toList)) ∧ Only [] w w' := by
  obtain ⟨r, hr⟩ : ∃ r, sameT a.data.toList b.data.toList = r := ⟨_, rfl⟩
  rw [hr]
  have hal : a.data.toList.length = a.size := by simp
  have hbl : b.data.toList.length = b.size := by simp
  by_cases hsz : a.size = b.size
  · have hsz' : ((a.size : Int) == (b.size : Int)) = true := by rw [beq_iff_eq]; omega
    have HR := Lib.hid hr
    have HA := Lib.hid hal
    have HB := Lib.hid hbl
    have HZ := Lib.hid hsz
    clear hr hal hbl hsz
    go_enter Tryd.func30, Tryd.ntmps30
    go_wp2
    go_loopw [13] (fun i wr => ∃ k : Nat, k ≤ a.size ∧ i = .int .i64 (k : Int) ∧ Hid (lows (a.data.toList.take k) = lows (b.data.toList.take k)) ∧ Only [] w wr) (fun i _ => a.size - (intOf i).toNat)
    case atStart => exact ⟨0, Nat.zero_le _, rfl, rfl, Only.refl _ _⟩
    case round =>
      obtain ⟨k, hk, rfl, HT, hO⟩ := hrel
      by_cases hlt : k < a.size
      · have hlt' : (k : Int) < (a.size : Int) := by omega
        have hkb : k < b.size := by rw [← HZ.out]; exact hlt
        have hkb' : (k : Int) < (b.size : Int) := by omega
        have hka1 : k < a.data.toList.length := by rw [HA.out]; exact hlt
        have hkb1 : k < b.data.toList.length := by rw [HB.out]; exact hkb
        by_cases hx : low a[k] = low b[k]
        · have HT2 : Hid (lows (a.data.toList.take (k + 1)) = lows (b.data.toList.take (k + 1))) := lows_take hka1 hkb1 HT.out hx
          have hxb : (((low a[k]).toNat : Int) == ((low b[k]).toNat : Int)) = true := by rw [hx]; simp
          clear hx
          go_wp2_with fail
          apply region_only (by kernel_rfl) (by kernel_rfl)
          apply rel_val (hrf := Tk_refl)
          case hw => rfl
          case hy => intro wS hN hF; skip; first | (go_simp; done) | (go_simp; with_reducible rfl)
          case' hk => skip
          try simp only [Act.put, List.setIfInBounds_toArray, List.set_cons_zero, List.set_cons_succ]
          apply rel_val (hrf := Tk_refl)
          case hw => rfl
          case hy => intro wS hN hF; skip; first | (go_simp; done) | (go_simp; with_reducible rfl)
          case' hk => skip
          try simp only [Act.put, List.setIfInBounds_toArray, List.set_cons_zero, List.set_cons_succ]
          apply rel_val (v := .int .u8 (a[k].toNat : Int)) (hrf := Tk_refl)
          case hw => rfl
          case hy =>
            intro wS hN hF
            go_simp
          case' hk => skip
          try simp only [Act.put, List.setIfInBounds_toArray, List.set_cons_zero, List.set_cons_succ]
          apply rel_call (v := .int .u8 ((low a[k]).toNat : Int)) (f := 49) (args := #[.int .u8 (a[k].toNat : Int)])
          case hw => rfl
          case hy => intro wS hN hF; go_simp
          case hc => intro wS hN hF; exact call_same (small_any _ wS)
          case' hk => skip
          try simp only [Act.put, List.setIfInBounds_toArray, List.set_cons_zero, List.set_cons_succ]
          apply rel_val (hrf := Tk_refl)
          case hw => rfl
          case hy => intro wS hN hF; skip; first | (go_simp; done) | (go_simp; with_reducible rfl)
          case' hk => skip
          try simp only [Act.put, List.setIfInBounds_toArray, List.set_cons_zero, List.set_cons_succ]
          apply rel_val (hrf := Tk_refl)
          case hw => rfl
          case hy => intro wS hN hF; skip; first | (go_simp; done) | (go_simp; with_reducible rfl)
          case' hk => skip
          try simp only [Act.put, List.setIfInBounds_toArray, List.set_cons_zero, List.set_cons_succ]
          apply rel_val (v := .int .u8 (b[k].toNat : Int)) (hrf := Tk_refl)
          case hw => rfl
          case hy =>
            intro wS hN hF
            go_simp
          case' hk => skip
          try simp only [Act.put, List.setIfInBounds_toArray, List.set_cons_zero, List.set_cons_succ]
          apply rel_call (v := .int .u8 ((low b[k]).toNat : Int)) (f := 49) (args := #[.int .u8 (b[k].toNat : Int)])
          case hw => rfl
          case hy => intro wS hN hF; go_simp
          case hc => intro wS hN hF; exact call_same (small_any _ wS)
          case' hk => skip
          try simp only [Act.put, List.setIfInBounds_toArray, List.set_cons_zero, List.set_cons_succ]
          apply rel_val (hrf := Tk_refl)
          case hw => rfl
          case hy => intro wS hN hF; skip; first | (go_simp; done) | (go_simp; with_reducible rfl)
          case' hk => skip
          try simp only [Act.put, List.setIfInBounds_toArray, List.set_cons_zero, List.set_cons_succ]
          refine rel_end ?_
          intro wS hO2 hF
          clear hF
          go_wp2
          go_roundw
          case rel => exact ⟨k + 1, by omega, by go_num, HT2, hO.drew.then hO2.only⟩
          case measure => simp [intOf]; omega
        · have HT2 : Hid (r = false) := by
            show _ = _
            rw [← HR.out]
            exact beq_eq_false_iff_ne.2 (lows_ne hka1 hkb1 hx)
          have hxb : (((low a[k]).toNat : Int) == ((low b[k]).toNat : Int)) = false := by rw [beq_eq_false_iff_ne]; intro h; exact hx (UInt8.toNat_inj.1 (by omega))
          clear hx
          go_wp2_with fail
          apply region_only (by kernel_rfl) (by kernel_rfl)
          apply rel_val (hrf := Tk_refl)
          case hw => rfl
          case hy => intro wS hN hF; skip; first | (go_simp; done) | (go_simp; with_reducible rfl)
          case' hk => skip
          try simp only [Act.put, List.setIfInBounds_toArray, List.set_cons_zero, List.set_cons_succ]
          apply rel_val (hrf := Tk_refl)
          case hw => rfl
          case hy => intro wS hN hF; skip; first | (go_simp; done) | (go_simp; with_reducible rfl)
          case' hk => skip
          try simp only [Act.put, List.setIfInBounds_toArray, List.set_cons_zero, List.set_cons_succ]
          apply rel_val (v := .int .u8 (a[k].toNat : Int)) (hrf := Tk_refl)
          case hw => rfl
          case hy =>
            intro wS hN hF
            go_simp
          case' hk => skip
          try simp only [Act.put, List.setIfInBounds_toArray, List.set_cons_zero, List.set_cons_succ]
          apply rel_call (v := .int .u8 ((low a[k]).toNat : Int)) (f := 49) (args := #[.int .u8 (a[k].toNat : Int)])
          case hw => rfl
          case hy => intro wS hN hF; go_simp
          case hc => intro wS hN hF; exact call_same (small_any _ wS)
          case' hk => skip
          try simp only [Act.put, List.setIfInBounds_toArray, List.set_cons_zero, List.set_cons_succ]
          apply rel_val (hrf := Tk_refl)
          case hw => rfl
          case hy => intro wS hN hF; skip; first | (go_simp; done) | (go_simp; with_reducible rfl)
          case' hk => skip
          try simp only [Act.put, List.setIfInBounds_toArray, List.set_cons_zero, List.set_cons_succ]
          apply rel_val (hrf := Tk_refl)
          case hw => rfl
          case hy => intro wS hN hF; skip; first | (go_simp; done) | (go_simp; with_reducible rfl)
          case' hk => skip
          try simp only [Act.put, List.setIfInBounds_toArray, List.set_cons_zero, List.set_cons_succ]
          apply rel_val (v := .int .u8 (b[k].toNat : Int)) (hrf := Tk_refl)
          case hw => rfl
          case hy =>
            intro wS hN hF
            go_simp
          case' hk => skip
          try simp only [Act.put, List.setIfInBounds_toArray, List.set_cons_zero, List.set_cons_succ]
          apply rel_call (v := .int .u8 ((low b[k]).toNat : Int)) (f := 49) (args := #[.int .u8 (b[k].toNat : Int)])
          case hw => rfl
          case hy => intro wS hN hF; go_simp
          case hc => intro wS hN hF; exact call_same (small_any _ wS)
          case' hk => skip
          try simp only [Act.put, List.setIfInBounds_toArray, List.set_cons_zero, List.set_cons_succ]
          apply rel_val (hrf := Tk_refl)
          case hw => rfl
          case hy => intro wS hN hF; skip; first | (go_simp; done) | (go_simp; with_reducible rfl)
          case' hk => skip
          try simp only [Act.put, List.setIfInBounds_toArray, List.set_cons_zero, List.set_cons_succ]
          refine rel_end ?_
          intro wS hO2 hF
          clear hF
          go_wp2
          go_ret
          exact ⟨by rw [HT2.out]; rfl, hO.drew.then hO2.only⟩
      · obtain rfl : k = a.size := by omega
        have HT2 : Hid (r = true) := by
          show _ = _
          have h := HT.out
          rw [List.take_of_length_le (by rw [HA.out]; exact Nat.le_refl _), List.take_of_length_le (by rw [HB.out, HZ.out]; exact Nat.le_refl _)] at h
          rw [← HR.out]
          exact beq_iff_eq.2 h
        go_wp2
        go_ret
        exact ⟨by rw [HT2.out]; rfl, hO⟩
  · have hsz' : ((a.size : Int) == (b.size : Int)) = false := by rw [beq_eq_false_iff_ne]; omega
    obtain rfl : r = false := by
      rw [← hr]
      refine beq_eq_false_iff_ne.2 (fun h => hsz ?_)
      have := congrArg List.length h
      simpa [lows, hal, hbl] using this
    clear hr hsz hal hbl
    go_enter Tryd.func30, Tryd.ntmps30
    go_wp2
    go_ret
    exact ⟨rfl, Only.refl _ _⟩
end Go.Proofs.YtakehogenioobaaDoor
