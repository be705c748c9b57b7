/-
  The walk of the law LineCounts.
-/
import Derived.Test.YtiekhgignmbaeaaLAll
import Derived.Test.YtiekhgignmbaeaaLRefC
namespace Go.Proofs.Ytiekhgignmbaeaa
open Go.RowKit Go.Instr

/-- The line that ends at k is the next one of those that are told. -/
theorem counts_step {b : List UInt8} {fr k r : Nat} (h : (evs b).drop r = evs (b.drop fr)) (hno : ∀ x ∈ (b.drop fr).take (k - fr), x ≠ 10) (hf : fr ≤ k) (hk : k < b.length) (h10 : b[k] = 10) :
    ∃ hr : r < (evs b).length, (evs b)[r] = evOf false ((b.drop fr).take (k - fr)) ∧ (evs b).drop (r + 1) = evs (b.drop (k + 1)) := by
  have hsplit : b.drop fr = (b.drop fr).take (k - fr) ++ 10 :: b.drop (k + 1) := by
    have h1 := List.take_append_drop (k - fr) (b.drop fr)
    rw [List.drop_drop, show fr + (k - fr) = k by omega, List.drop_eq_getElem_cons hk, h10] at h1
    exact h1.symm
  have hl : ((b.drop fr).take (k - fr)).length = k - fr := by rw [List.length_take, List.length_drop]; omega
  have hn : nl (b.drop fr) = k - fr := by
    rw [hsplit, nl_append _ _ hno, nl_cons, if_pos rfl, hl]
    omega
  have hlt : nl (b.drop fr) < (b.drop fr).length := by rw [hn, List.length_drop]; omega
  rw [evs_cons hlt, hn, List.drop_drop, show fr + (k - fr + 1) = k + 1 by omega] at h
  have hr : r < (evs b).length := by
    have := congrArg List.length h
    rw [List.length_drop, List.length_cons] at this
    omega
  rw [List.drop_eq_getElem_cons hr] at h
  injection h with h1 h2
  exact ⟨hr, h1, h2⟩
theorem counts_end {b : List UInt8} {fr r : Nat} (h : (evs b).drop r = evs (b.drop fr)) (hno : ∀ x ∈ (b.drop fr).take (b.length - fr), x ≠ 10) (hr : r ≤ (evs b).length) : r = (evs b).length := by
  rw [show b.length - fr = (b.drop fr).length by rw [List.length_drop], List.take_length] at hno
  have he : evs (b.drop fr) = [] := evs_none (by rw [nl_none hno]; omega)
  rw [he] at h
  have := congrArg List.length h
  rw [List.length_drop, List.length_nil] at this
  omega
/-- 'tr' of a line by the byte that stands last. -/
theorem tr_by (q : List UInt8) : (q.length = 0 ∧ (tr q).length = 0) ∨ (∃ i, ∃ hi : i < q.length, q.length = i + 1 ∧ q[i]'hi = 13 ∧ (tr q).length = i) ∨ (∃ i, ∃ hi : i < q.length, q.length = i + 1 ∧ q[i]'hi ≠ 13 ∧ (tr q).length = i + 1) := by
  rcases Nat.eq_zero_or_pos q.length with h0 | h0
  · obtain rfl : q = [] := List.eq_nil_of_length_eq_zero h0
    exact .inl ⟨rfl, rfl⟩
  · by_cases h : q[q.length - 1]'(by omega) = 13
    · exact .inr (.inl ⟨q.length - 1, by omega, by omega, h, tr_some h0 h⟩)
    · exact .inr (.inr ⟨q.length - 1, by omega, by omega, h, by rw [tr_none h0 h]; omega⟩)

set_option maxRecDepth 100000 in
set_option maxHeartbeats 8000000 in
theorem counts_any (A0 : Option Addr) (n0 c0 : Nat) (b : List UInt8) (w : World) (hb : Sl w A0 n0 (bvs b)) (hc0 : n0 ≤ c0) :
    Calls Try.prog 8 #[.slice A0 n0 c0] w fun e w' => e = .returned (.bool true) ∧ Only [] w w' := by
  by_cases hbig : 4096 < n0
  · have hbig' : (4096 : Int) < (n0 : Int) := by omega
    go_enter Try.func8, Try.ntmps8
    go_wp2
    go_ret
    exact ⟨rfl, Only.refl _ _⟩
  · have hb1 : n0 ≤ 4096 := by omega
    have hb1' : (n0 : Int) ≤ 4096 := by omega
    have HB := Lib.hid hb
    have HBL : Hid (b.length = n0) := by show _ = _; simpa using hb.len
    clear hb hbig
    go_enter Try.func8, Try.ntmps8
    go_wp2_with (first
      | (go_at_call 21; (with_reducible refine (HX.out).mono ?_); clear HX; rintro e w6 ⟨A6, n6, c6, rfl, E6, O6, h6, P6⟩
         have Q6 := own_step O1 O6 (fun x hx => P1 x (by simpa using hx)))
      | (go_at_call 11; (with_reducible refine (new_g w).mono ?_); rintro e w1 ⟨g, rfl, L1, O1, P1⟩
         have HX := Lib.hid (all_any [] (fun _ hx => nomatch hx) L1 A0 n0 c0 b (HB.out.keep O1) hc0 hb1 (fun hp k hk => by have h1 := HB.out.lt hp; have h2 := P1 g (by simp); cases A0 with | none => cases hk | some a => (simp at hk; have := h1 a rfl; omega)) none 0 0 [] Sl.none_ (by omega) (fun hp => by omega))))
    have HL := Lib.hid E6.len
    have HE6 := Lib.hid E6
    have HQ6 := Lib.hid Q6
    have hn6 : (n6 : Int) ≤ 4096 := by have := HBL.out; omega
    clear E6 O6 O1 L1 P1 P6 h6 Q6
    go_loopw [5, 6, 7] (fun cn cf ci wr => ∃ r fr k : Nat, k ≤ n0 ∧ ci = .int .i64 (k : Int) ∧ fr ≤ k ∧ cf = .int .i64 (fr : Int) ∧ r ≤ n6 ∧ cn = .int .i64 (r : Int) ∧ Only [] w6 wr ∧ Hid ((evs b).drop r = evs (b.drop fr)) ∧ Hid (∀ x ∈ (b.drop fr).take (k - fr), x ≠ 10)) (fun _ _ ci _ => n0 - (intOf ci).toNat)
    case atStart => exact ⟨0, 0, 0, Nat.zero_le _, rfl, Nat.le_refl _, rfl, Nat.zero_le _, rfl, Only.refl _ _, rfl, fun x hx => by simp at hx⟩
    case round =>
      obtain ⟨r, fr, k, hk, rfl, hfk, rfl, hr, rfl, QR, HD, HNO⟩ := hrel
      by_cases hlt : k < n0
      · have hlt' : (k : Int) < (n0 : Int) := by omega
        have hkb : k < b.length := by rw [HBL.out]; exact hlt
        have hbr := (HB.out.keep HQ6.out).keep QR
        obtain ⟨ad, u, hA, hu, hcell⟩ := hbr.at_ hlt
        rw [bvs_get b k hkb] at hu
        injection hu with hu
        subst hu
        subst hA
        unfold bv at hcell
        by_cases h10 : b[k] = 10
        · obtain ⟨hre, hev, hnx⟩ := counts_step HD.out HNO.out hfk hkb h10
          obtain ⟨q, hq⟩ : ∃ q, q = (b.drop fr).take (k - fr) := ⟨_, rfl⟩
          rw [← hq] at hev
          have hql : q.length = k - fr := by rw [hq, List.length_take, List.length_drop]; omega
          have hsq := (hbr.cut (k := fr) (cap := c0) (by omega) hc0).pre (k := k - fr) (by omega)
          rw [bvs_drop, bvs_take, ← hq, if_neg (by omega)] at hsq
          obtain ⟨ad2, had2⟩ : ∃ ad2, ad.add fr = ad2 := ⟨_, rfl⟩
          simp only [Option.map_some, had2] at hsq
          obtain ⟨bb, hA6, A7, c7, p0, p1, V7⟩ := (HE6.out.keep QR).at_ r hre
          subst hA6
          rw [hev] at p0 p1 V7
          rw [Nat.mul_comm 2 r] at p0 p1
          have hr6 : (r : Int) < (n6 : Int) := by have := HL.out; omega
          have hr6n : r < n6 := by omega
          have hfk' : (fr : Int) ≤ (k : Int) := by omega
          have hkc : (k : Int) ≤ (c0 : Int) := by omega
          have hkcn : k ≤ c0 := by omega
          have hten : ((b[k].toNat : Nat) : Int) = 10 := by rw [h10]; rfl
          rw [hten] at hcell
          have HNX := Lib.hid hnx
          have HQ := Lib.hid hq
          have hfc : ¬ c0 = fr := by omega
          clear hten hnx hq hev h10 HD HNO hbr hre
          rcases tr_by q with ⟨hqz, hT⟩ | ⟨i, hi, hqi, hx, hT⟩ | ⟨i, hi, hqi, hx, hT⟩
          · have hD : k - fr = 0 := by rw [← hql]; exact hqz
            rw [hD] at hsq
            have V2 : Sl wr (some ad2) 0 (bvs (tr q)) := by
              have h1 := hsq.pre (k := 0) (by omega)
              rw [bvs_take] at h1
              rw [tr_pre, hT]
              exact h1
            have hev2 : evOf false q = ⟨1, tr q⟩ := by unfold evOf; rw [if_neg (by rw [hT]; first | (simp; done) | (simp; omega))]
            rw [hev2] at p0 p1 V7
            simp only [hT] at p1 V7
            obtain ⟨d, hd⟩ : ∃ d, d = tr q := ⟨_, rfl⟩
            rw [← hd] at V2 V7
            clear hd
            have p0' : wr.cell? ⟨bb, r * 2, none⟩ = some (.int .i64 1) := p0
            clear p0
            have p0 := p0'
            clear p0' hT hev2 hql hsq hqz
            go_wp2_with fail
            apply region_only (by kernel_rfl) (by kernel_rfl)
            apply rel_val (hrf := Tk_refl)
            case hw => rfl
            case hy => intro wS hN hF; skip; first | (go_simp; done) | (go_simp; with_reducible rfl)
            case' hk => skip
            try simp only [Act.put, List.setIfInBounds_toArray, List.set_cons_zero, List.set_cons_succ]
            apply rel_val (hrf := Tk_refl)
            case hw => rfl
            case hy => intro wS hN hF; skip; first | (go_simp; done) | (go_simp; with_reducible rfl)
            case' hk => skip
            try simp only [Act.put, List.setIfInBounds_toArray, List.set_cons_zero, List.set_cons_succ]
            apply rel_val (hrf := Tk_refl)
            case hw => rfl
            case hy => intro wS hN hF; skip; first | (go_simp; done) | (go_simp; with_reducible rfl)
            case' hk => skip
            try simp only [Act.put, List.setIfInBounds_toArray, List.set_cons_zero, List.set_cons_succ]
            apply rel_val (v := .bool false) (hrf := Tk_refl)
            case hw => rfl
            case hy =>
              intro wS hN hF
              go_simp
            case' hk => skip
            try simp only [Act.put, List.setIfInBounds_toArray, List.set_cons_zero, List.set_cons_succ]
            apply rel_val (hrf := Tk_refl)
            case hw => rfl
            case hy => intro wS hN hF; skip; first | (go_simp; done) | (go_simp; with_reducible rfl)
            case' hk => skip
            try simp only [Act.put, List.setIfInBounds_toArray, List.set_cons_zero, List.set_cons_succ]
            apply rel_val (hrf := Tk_refl)
            case hw => rfl
            case hy => intro wS hN hF; skip; first | (go_simp; done) | (go_simp; with_reducible rfl)
            case' hk => skip
            try simp only [Act.put, List.setIfInBounds_toArray, List.set_cons_zero, List.set_cons_succ]
            apply rel_val (hrf := Tk_refl)
            case hw => rfl
            case hy => intro wS hN hF; skip; first | (go_simp; done) | (go_simp; with_reducible rfl)
            case' hk => skip
            try simp only [Act.put, List.setIfInBounds_toArray, List.set_cons_zero, List.set_cons_succ]
            apply rel_val (hrf := Tk_refl)
            case hw => rfl
            case hy => intro wS hN hF; skip; first | (go_simp; done) | (go_simp; with_reducible rfl)
            case' hk => skip
            try simp only [Act.put, List.setIfInBounds_toArray, List.set_cons_zero, List.set_cons_succ]
            apply rel_val (hrf := Tk_refl)
            case hw => rfl
            case hy => intro wS hN hF; skip; first | (go_simp; done) | (go_simp; with_reducible rfl)
            case' hk => skip
            try simp only [Act.put, List.setIfInBounds_toArray, List.set_cons_zero, List.set_cons_succ]
            apply rel_val (hrf := Tk_refl)
            case hw => rfl
            case hy => intro wS hN hF; have hO := hN.pre (by kernel_rfl); have h0 := hO.cellSome (p := ⟨bb, r * 2, none⟩) p0 (fun hm => nomatch hm); first | (go_simp; done) | (go_simp; with_reducible rfl)
            case' hk => skip
            try simp only [Act.put, List.setIfInBounds_toArray, List.set_cons_zero, List.set_cons_succ]
            apply rel_val (v := .bool false) (hrf := Tk_refl)
            case hw => rfl
            case hy =>
              intro wS hN hF
              go_simp
            case' hk => skip
            try simp only [Act.put, List.setIfInBounds_toArray, List.set_cons_zero, List.set_cons_succ]
            apply rel_val (hrf := Tk_refl)
            case hw => rfl
            case hy => intro wS hN hF; skip; first | (go_simp; done) | (go_simp; with_reducible rfl)
            case' hk => skip
            try simp only [Act.put, List.setIfInBounds_toArray, List.set_cons_zero, List.set_cons_succ]
            apply rel_val (hrf := Tk_refl)
            case hw => rfl
            case hy => intro wS hN hF; skip; first | (go_simp; done) | (go_simp; with_reducible rfl)
            case' hk => skip
            try simp only [Act.put, List.setIfInBounds_toArray, List.set_cons_zero, List.set_cons_succ]
            apply rel_val (v := .bool false) (hrf := Tk_refl)
            case hw => rfl
            case hy =>
              intro wS hN hF
              go_simp
            case' hk => skip
            try simp only [Act.put, List.setIfInBounds_toArray, List.set_cons_zero, List.set_cons_succ]
            apply rel_val (v := .bool false) (hrf := Tk_refl)
            case hw => rfl
            case hy =>
              intro wS hN hF
              go_simp
            case' hk => skip
            try simp only [Act.put, List.setIfInBounds_toArray, List.set_cons_zero, List.set_cons_succ]
            apply rel_val (v := .bool false) (hrf := Tk_refl)
            case hw => rfl
            case hy =>
              intro wS hN hF
              go_simp
            case' hk => skip
            try simp only [Act.put, List.setIfInBounds_toArray, List.set_cons_zero, List.set_cons_succ]
            apply rel_val (hrf := Tk_refl)
            case hw => rfl
            case hy => intro wS hN hF; skip; first | (go_simp; done) | (go_simp; with_reducible rfl)
            case' hk => skip
            try simp only [Act.put, List.setIfInBounds_toArray, List.set_cons_zero, List.set_cons_succ]
            apply rel_val (hrf := Tk_refl)
            case hw => rfl
            case hy => intro wS hN hF; skip; first | (go_simp; done) | (go_simp; with_reducible rfl)
            case' hk => skip
            try simp only [Act.put, List.setIfInBounds_toArray, List.set_cons_zero, List.set_cons_succ]
            apply rel_val (hrf := Tk_refl)
            case hw => rfl
            case hy => intro wS hN hF; skip; first | (go_simp; done) | (go_simp; with_reducible rfl)
            case' hk => skip
            try simp only [Act.put, List.setIfInBounds_toArray, List.set_cons_zero, List.set_cons_succ]
            apply rel_val (hrf := Tk_refl)
            case hw => rfl
            case hy => intro wS hN hF; skip; first | (go_simp; done) | (go_simp; with_reducible rfl)
            case' hk => skip
            try simp only [Act.put, List.setIfInBounds_toArray, List.set_cons_zero, List.set_cons_succ]
            apply rel_val (hrf := Tk_refl)
            case hw => rfl
            case hy => intro wS hN hF; skip; first | (go_simp; done) | (go_simp; with_reducible rfl)
            case' hk => skip
            try simp only [Act.put, List.setIfInBounds_toArray, List.set_cons_zero, List.set_cons_succ]
            apply rel_val (hrf := Tk_refl)
            case hw => rfl
            case hy => intro wS hN hF; have hO := hN.pre (by kernel_rfl); have h0 := hO.cellSome (p := ⟨bb, r * 2, none⟩) p0 (fun hm => nomatch hm); first | (go_simp; done) | (go_simp; with_reducible rfl)
            case' hk => skip
            try simp only [Act.put, List.setIfInBounds_toArray, List.set_cons_zero, List.set_cons_succ]
            apply rel_val (v := .bool true) (hrf := Tk_refl)
            case hw => rfl
            case hy =>
              intro wS hN hF
              go_simp
            case' hk => skip
            try simp only [Act.put, List.setIfInBounds_toArray, List.set_cons_zero, List.set_cons_succ]
            apply rel_val (hrf := Tk_refl)
            case hw => rfl
            case hy => intro wS hN hF; skip; first | (go_simp; done) | (go_simp; with_reducible rfl)
            case' hk => skip
            try simp only [Act.put, List.setIfInBounds_toArray, List.set_cons_zero, List.set_cons_succ]
            apply rel_val (hrf := Tk_refl)
            case hw => rfl
            case hy => intro wS hN hF; skip; first | (go_simp; done) | (go_simp; with_reducible rfl)
            case' hk => skip
            try simp only [Act.put, List.setIfInBounds_toArray, List.set_cons_zero, List.set_cons_succ]
            apply rel_val (hrf := Tk_refl)
            case hw => rfl
            case hy => intro wS hN hF; skip; first | (go_simp; done) | (go_simp; with_reducible rfl)
            case' hk => skip
            try simp only [Act.put, List.setIfInBounds_toArray, List.set_cons_zero, List.set_cons_succ]
            apply rel_val (hrf := Tk_refl)
            case hw => rfl
            case hy => intro wS hN hF; skip; first | (go_simp; done) | (go_simp; with_reducible rfl)
            case' hk => skip
            try simp only [Act.put, List.setIfInBounds_toArray, List.set_cons_zero, List.set_cons_succ]
            apply rel_val (hrf := Tk_refl)
            case hw => rfl
            case hy => intro wS hN hF; skip; first | (go_simp; done) | (go_simp; with_reducible rfl)
            case' hk => skip
            try simp only [Act.put, List.setIfInBounds_toArray, List.set_cons_zero, List.set_cons_succ]
            apply rel_val (hrf := Tk_refl)
            case hw => rfl
            case hy => intro wS hN hF; have hO := hN.pre (by kernel_rfl); have h1 := hO.cellSome (p := ⟨bb, r * 2 + 1, none⟩) p1 (fun hm => nomatch hm); first | (go_simp; done) | (go_simp; with_reducible rfl)
            case' hk => skip
            try simp only [Act.put, List.setIfInBounds_toArray, List.set_cons_zero, List.set_cons_succ]
            apply rel_val (hrf := Tk_refl)
            case hw => rfl
            case hy => intro wS hN hF; have hcv := str_of (V7.keep ((Only.refl [] _).drew.then (hN.pre (by kernel_rfl)))) c7; first | (go_simp; done) | (go_simp; with_reducible rfl)
            case' hk => skip
            try simp only [Act.put, List.setIfInBounds_toArray, List.set_cons_zero, List.set_cons_succ]
            apply rel_val (hrf := Tk_refl)
            case hw => rfl
            case hy => intro wS hN hF; skip; first | (go_simp; done) | (go_simp; with_reducible rfl)
            case' hk => skip
            try simp only [Act.put, List.setIfInBounds_toArray, List.set_cons_zero, List.set_cons_succ]
            apply rel_val (hrf := Tk_refl)
            case hw => rfl
            case hy => intro wS hN hF; have hcv := str_of (V2.keep ((Only.refl [] _).drew.then (hN.pre (by kernel_rfl)))) (c0 - fr); first | (go_simp; done) | (go_simp; with_reducible rfl)
            case' hk => skip
            try simp only [Act.put, List.setIfInBounds_toArray, List.set_cons_zero, List.set_cons_succ]
            apply rel_val (v := .bool false) (hrf := Tk_refl)
            case hw => rfl
            case hy =>
              intro wS hN hF
              go_simp
            case' hk => skip
            try simp only [Act.put, List.setIfInBounds_toArray, List.set_cons_zero, List.set_cons_succ]
            apply rel_val (v := .bool false) (hrf := Tk_refl)
            case hw => rfl
            case hy =>
              intro wS hN hF
              go_simp
            case' hk => skip
            try simp only [Act.put, List.setIfInBounds_toArray, List.set_cons_zero, List.set_cons_succ]
            apply rel_val (v := .bool false) (hrf := Tk_refl)
            case hw => rfl
            case hy =>
              intro wS hN hF
              go_simp
            case' hk => skip
            try simp only [Act.put, List.setIfInBounds_toArray, List.set_cons_zero, List.set_cons_succ]
            refine rel_end ?_
            intro wS hO hF
            clear hF
            go_wp2
            go_roundw
            case rel => exact ⟨r + 1, k + 1, k + 1, by omega, by go_num, Nat.le_refl _, by go_num, by omega, by go_num, QR.drew.then hO.only, HNX.out, fun x hx => by simp at hx⟩
            case measure => simp [intOf]; omega
          · by_cases hlong : (300 : Int) < (i : Int)
            · have hD : k - fr = i + 1 := by rw [← hql]; exact hqi
              rw [hD] at hsq
              have hcx : wr.cell? (ad2.add i) = some (.int .u8 ((q[i].toNat : Nat) : Int)) := by
                obtain ⟨ad3, e3, hc3⟩ := hsq.2 (by omega)
                injection e3 with e3
                subst e3
                exact hc3 i _ (bvs_get q i hi)
              have hxv : ((q[i].toNat : Nat) : Int) = 13 := by rw [hx]; rfl
              rw [hxv] at hcx
              have V2 : Sl wr (some ad2) i (bvs (tr q)) := by
                have h1 := hsq.pre (k := i) (by omega)
                rw [bvs_take] at h1
                rw [tr_pre, hT]
                exact h1
              have hev2 : evOf false q = ⟨2, []⟩ := by unfold evOf; rw [if_pos (.inr (by omega))]
              rw [hev2] at p0 p1 V7
              simp only [List.length_nil] at p1 V7
              have p0' : wr.cell? ⟨bb, r * 2, none⟩ = some (.int .i64 2) := p0
              clear p0
              have p0 := p0'
              clear p0' hT hev2 hql hsq hqi hx hxv
              go_wp2_with fail
              apply region_only (by kernel_rfl) (by kernel_rfl)
              apply rel_val (hrf := Tk_refl)
              case hw => rfl
              case hy => intro wS hN hF; skip; first | (go_simp; done) | (go_simp; with_reducible rfl)
              case' hk => skip
              try simp only [Act.put, List.setIfInBounds_toArray, List.set_cons_zero, List.set_cons_succ]
              apply rel_val (hrf := Tk_refl)
              case hw => rfl
              case hy => intro wS hN hF; skip; first | (go_simp; done) | (go_simp; with_reducible rfl)
              case' hk => skip
              try simp only [Act.put, List.setIfInBounds_toArray, List.set_cons_zero, List.set_cons_succ]
              apply rel_val (hrf := Tk_refl)
              case hw => rfl
              case hy => intro wS hN hF; skip; first | (go_simp; done) | (go_simp; with_reducible rfl)
              case' hk => skip
              try simp only [Act.put, List.setIfInBounds_toArray, List.set_cons_zero, List.set_cons_succ]
              apply rel_val (v := .bool false) (hrf := Tk_refl)
              case hw => rfl
              case hy =>
                intro wS hN hF
                go_simp
              case' hk => skip
              try simp only [Act.put, List.setIfInBounds_toArray, List.set_cons_zero, List.set_cons_succ]
              apply rel_val (hrf := Tk_refl)
              case hw => rfl
              case hy => intro wS hN hF; skip; first | (go_simp; done) | (go_simp; with_reducible rfl)
              case' hk => skip
              try simp only [Act.put, List.setIfInBounds_toArray, List.set_cons_zero, List.set_cons_succ]
              apply rel_val (hrf := Tk_refl)
              case hw => rfl
              case hy => intro wS hN hF; skip; first | (go_simp; done) | (go_simp; with_reducible rfl)
              case' hk => skip
              try simp only [Act.put, List.setIfInBounds_toArray, List.set_cons_zero, List.set_cons_succ]
              apply rel_val (hrf := Tk_refl)
              case hw => rfl
              case hy => intro wS hN hF; skip; first | (go_simp; done) | (go_simp; with_reducible rfl)
              case' hk => skip
              try simp only [Act.put, List.setIfInBounds_toArray, List.set_cons_zero, List.set_cons_succ]
              apply rel_val (hrf := Tk_refl)
              case hw => rfl
              case hy => intro wS hN hF; skip; first | (go_simp; done) | (go_simp; with_reducible rfl)
              case' hk => skip
              try simp only [Act.put, List.setIfInBounds_toArray, List.set_cons_zero, List.set_cons_succ]
              apply rel_val (hrf := Tk_refl)
              case hw => rfl
              case hy => intro wS hN hF; skip; first | (go_simp; done) | (go_simp; with_reducible rfl)
              case' hk => skip
              try simp only [Act.put, List.setIfInBounds_toArray, List.set_cons_zero, List.set_cons_succ]
              apply rel_val (hrf := Tk_refl)
              case hw => rfl
              case hy => intro wS hN hF; have hO := hN.pre (by kernel_rfl); have h0 := hO.cellSome (p := ⟨bb, r * 2, none⟩) p0 (fun hm => nomatch hm); first | (go_simp; done) | (go_simp; with_reducible rfl)
              case' hk => skip
              try simp only [Act.put, List.setIfInBounds_toArray, List.set_cons_zero, List.set_cons_succ]
              apply rel_val (v := .bool true) (hrf := Tk_refl)
              case hw => rfl
              case hy =>
                intro wS hN hF
                go_simp
              case' hk => skip
              try simp only [Act.put, List.setIfInBounds_toArray, List.set_cons_zero, List.set_cons_succ]
              apply rel_val (hrf := Tk_refl)
              case hw => rfl
              case hy => intro wS hN hF; skip; first | (go_simp; done) | (go_simp; with_reducible rfl)
              case' hk => skip
              try simp only [Act.put, List.setIfInBounds_toArray, List.set_cons_zero, List.set_cons_succ]
              apply rel_val (hrf := Tk_refl)
              case hw => rfl
              case hy => intro wS hN hF; skip; first | (go_simp; done) | (go_simp; with_reducible rfl)
              case' hk => skip
              try simp only [Act.put, List.setIfInBounds_toArray, List.set_cons_zero, List.set_cons_succ]
              apply rel_val (v := .bool true) (hrf := Tk_refl)
              case hw => rfl
              case hy =>
                intro wS hN hF
                go_simp
              case' hk => skip
              try simp only [Act.put, List.setIfInBounds_toArray, List.set_cons_zero, List.set_cons_succ]
              apply rel_val (v := .bool false) (hrf := Tk_refl)
              case hw => rfl
              case hy =>
                intro wS hN hF
                go_simp
              case' hk => skip
              try simp only [Act.put, List.setIfInBounds_toArray, List.set_cons_zero, List.set_cons_succ]
              apply rel_val (v := .bool false) (hrf := Tk_refl)
              case hw => rfl
              case hy =>
                intro wS hN hF
                go_simp
              case' hk => skip
              try simp only [Act.put, List.setIfInBounds_toArray, List.set_cons_zero, List.set_cons_succ]
              apply rel_val (hrf := Tk_refl)
              case hw => rfl
              case hy => intro wS hN hF; skip; first | (go_simp; done) | (go_simp; with_reducible rfl)
              case' hk => skip
              try simp only [Act.put, List.setIfInBounds_toArray, List.set_cons_zero, List.set_cons_succ]
              apply rel_val (hrf := Tk_refl)
              case hw => rfl
              case hy => intro wS hN hF; skip; first | (go_simp; done) | (go_simp; with_reducible rfl)
              case' hk => skip
              try simp only [Act.put, List.setIfInBounds_toArray, List.set_cons_zero, List.set_cons_succ]
              apply rel_val (hrf := Tk_refl)
              case hw => rfl
              case hy => intro wS hN hF; skip; first | (go_simp; done) | (go_simp; with_reducible rfl)
              case' hk => skip
              try simp only [Act.put, List.setIfInBounds_toArray, List.set_cons_zero, List.set_cons_succ]
              apply rel_val (hrf := Tk_refl)
              case hw => rfl
              case hy => intro wS hN hF; skip; first | (go_simp; done) | (go_simp; with_reducible rfl)
              case' hk => skip
              try simp only [Act.put, List.setIfInBounds_toArray, List.set_cons_zero, List.set_cons_succ]
              apply rel_val (hrf := Tk_refl)
              case hw => rfl
              case hy => intro wS hN hF; skip; first | (go_simp; done) | (go_simp; with_reducible rfl)
              case' hk => skip
              try simp only [Act.put, List.setIfInBounds_toArray, List.set_cons_zero, List.set_cons_succ]
              apply rel_val (hrf := Tk_refl)
              case hw => rfl
              case hy => intro wS hN hF; have hO := hN.pre (by kernel_rfl); have h0 := hO.cellSome (p := ⟨bb, r * 2, none⟩) p0 (fun hm => nomatch hm); first | (go_simp; done) | (go_simp; with_reducible rfl)
              case' hk => skip
              try simp only [Act.put, List.setIfInBounds_toArray, List.set_cons_zero, List.set_cons_succ]
              apply rel_val (v := .bool false) (hrf := Tk_refl)
              case hw => rfl
              case hy =>
                intro wS hN hF
                go_simp
              case' hk => skip
              try simp only [Act.put, List.setIfInBounds_toArray, List.set_cons_zero, List.set_cons_succ]
              apply rel_val (hrf := Tk_refl)
              case hw => rfl
              case hy => intro wS hN hF; skip; first | (go_simp; done) | (go_simp; with_reducible rfl)
              case' hk => skip
              try simp only [Act.put, List.setIfInBounds_toArray, List.set_cons_zero, List.set_cons_succ]
              apply rel_skip
              case hw => rfl
              case' hk => skip
              try simp only [Act.put, List.setIfInBounds_toArray, List.set_cons_zero, List.set_cons_succ]
              apply rel_skip
              case hw => rfl
              case' hk => skip
              try simp only [Act.put, List.setIfInBounds_toArray, List.set_cons_zero, List.set_cons_succ]
              apply rel_skip
              case hw => rfl
              case' hk => skip
              try simp only [Act.put, List.setIfInBounds_toArray, List.set_cons_zero, List.set_cons_succ]
              apply rel_skip
              case hw => rfl
              case' hk => skip
              try simp only [Act.put, List.setIfInBounds_toArray, List.set_cons_zero, List.set_cons_succ]
              apply rel_skip
              case hw => rfl
              case' hk => skip
              try simp only [Act.put, List.setIfInBounds_toArray, List.set_cons_zero, List.set_cons_succ]
              apply rel_skip
              case hw => rfl
              case' hk => skip
              try simp only [Act.put, List.setIfInBounds_toArray, List.set_cons_zero, List.set_cons_succ]
              apply rel_skip
              case hw => rfl
              case' hk => skip
              try simp only [Act.put, List.setIfInBounds_toArray, List.set_cons_zero, List.set_cons_succ]
              apply rel_skip
              case hw => rfl
              case' hk => skip
              try simp only [Act.put, List.setIfInBounds_toArray, List.set_cons_zero, List.set_cons_succ]
              apply rel_skip
              case hw => rfl
              case' hk => skip
              try simp only [Act.put, List.setIfInBounds_toArray, List.set_cons_zero, List.set_cons_succ]
              apply rel_val (v := .bool false) (hrf := Tk_refl)
              case hw => rfl
              case hy =>
                intro wS hN hF
                go_simp
              case' hk => skip
              try simp only [Act.put, List.setIfInBounds_toArray, List.set_cons_zero, List.set_cons_succ]
              apply rel_val (v := .bool false) (hrf := Tk_refl)
              case hw => rfl
              case hy =>
                intro wS hN hF
                go_simp
              case' hk => skip
              try simp only [Act.put, List.setIfInBounds_toArray, List.set_cons_zero, List.set_cons_succ]
              refine rel_end ?_
              intro wS hO hF
              clear hF
              go_wp2
              go_roundw
              case rel => exact ⟨r + 1, k + 1, k + 1, by omega, by go_num, Nat.le_refl _, by go_num, by omega, by go_num, QR.drew.then hO.only, HNX.out, fun x hx => by simp at hx⟩
              case measure => simp [intOf]; omega
            · have hshort : (i : Int) ≤ 300 := by omega
              have hD : k - fr = i + 1 := by rw [← hql]; exact hqi
              rw [hD] at hsq
              have hcx : wr.cell? (ad2.add i) = some (.int .u8 ((q[i].toNat : Nat) : Int)) := by
                obtain ⟨ad3, e3, hc3⟩ := hsq.2 (by omega)
                injection e3 with e3
                subst e3
                exact hc3 i _ (bvs_get q i hi)
              have hxv : ((q[i].toNat : Nat) : Int) = 13 := by rw [hx]; rfl
              rw [hxv] at hcx
              have V2 : Sl wr (some ad2) i (bvs (tr q)) := by
                have h1 := hsq.pre (k := i) (by omega)
                rw [bvs_take] at h1
                rw [tr_pre, hT]
                exact h1
              have hev2 : evOf false q = ⟨1, tr q⟩ := by unfold evOf; rw [if_neg (by rw [hT]; first | (simp; done) | (simp; omega))]
              rw [hev2] at p0 p1 V7
              simp only [hT] at p1 V7
              obtain ⟨d, hd⟩ : ∃ d, d = tr q := ⟨_, rfl⟩
              rw [← hd] at V2 V7
              clear hd
              have p0' : wr.cell? ⟨bb, r * 2, none⟩ = some (.int .i64 1) := p0
              clear p0
              have p0 := p0'
              clear p0' hT hev2 hql hsq hqi hx hxv
              go_wp2_with fail
              apply region_only (by kernel_rfl) (by kernel_rfl)
              apply rel_val (hrf := Tk_refl)
              case hw => rfl
              case hy => intro wS hN hF; skip; first | (go_simp; done) | (go_simp; with_reducible rfl)
              case' hk => skip
              try simp only [Act.put, List.setIfInBounds_toArray, List.set_cons_zero, List.set_cons_succ]
              apply rel_val (hrf := Tk_refl)
              case hw => rfl
              case hy => intro wS hN hF; skip; first | (go_simp; done) | (go_simp; with_reducible rfl)
              case' hk => skip
              try simp only [Act.put, List.setIfInBounds_toArray, List.set_cons_zero, List.set_cons_succ]
              apply rel_val (hrf := Tk_refl)
              case hw => rfl
              case hy => intro wS hN hF; skip; first | (go_simp; done) | (go_simp; with_reducible rfl)
              case' hk => skip
              try simp only [Act.put, List.setIfInBounds_toArray, List.set_cons_zero, List.set_cons_succ]
              apply rel_val (v := .bool false) (hrf := Tk_refl)
              case hw => rfl
              case hy =>
                intro wS hN hF
                go_simp
              case' hk => skip
              try simp only [Act.put, List.setIfInBounds_toArray, List.set_cons_zero, List.set_cons_succ]
              apply rel_val (hrf := Tk_refl)
              case hw => rfl
              case hy => intro wS hN hF; skip; first | (go_simp; done) | (go_simp; with_reducible rfl)
              case' hk => skip
              try simp only [Act.put, List.setIfInBounds_toArray, List.set_cons_zero, List.set_cons_succ]
              apply rel_val (hrf := Tk_refl)
              case hw => rfl
              case hy => intro wS hN hF; skip; first | (go_simp; done) | (go_simp; with_reducible rfl)
              case' hk => skip
              try simp only [Act.put, List.setIfInBounds_toArray, List.set_cons_zero, List.set_cons_succ]
              apply rel_val (hrf := Tk_refl)
              case hw => rfl
              case hy => intro wS hN hF; skip; first | (go_simp; done) | (go_simp; with_reducible rfl)
              case' hk => skip
              try simp only [Act.put, List.setIfInBounds_toArray, List.set_cons_zero, List.set_cons_succ]
              apply rel_val (hrf := Tk_refl)
              case hw => rfl
              case hy => intro wS hN hF; skip; first | (go_simp; done) | (go_simp; with_reducible rfl)
              case' hk => skip
              try simp only [Act.put, List.setIfInBounds_toArray, List.set_cons_zero, List.set_cons_succ]
              apply rel_val (hrf := Tk_refl)
              case hw => rfl
              case hy => intro wS hN hF; skip; first | (go_simp; done) | (go_simp; with_reducible rfl)
              case' hk => skip
              try simp only [Act.put, List.setIfInBounds_toArray, List.set_cons_zero, List.set_cons_succ]
              apply rel_val (hrf := Tk_refl)
              case hw => rfl
              case hy => intro wS hN hF; have hO := hN.pre (by kernel_rfl); have h0 := hO.cellSome (p := ⟨bb, r * 2, none⟩) p0 (fun hm => nomatch hm); first | (go_simp; done) | (go_simp; with_reducible rfl)
              case' hk => skip
              try simp only [Act.put, List.setIfInBounds_toArray, List.set_cons_zero, List.set_cons_succ]
              apply rel_val (v := .bool false) (hrf := Tk_refl)
              case hw => rfl
              case hy =>
                intro wS hN hF
                go_simp
              case' hk => skip
              try simp only [Act.put, List.setIfInBounds_toArray, List.set_cons_zero, List.set_cons_succ]
              apply rel_val (hrf := Tk_refl)
              case hw => rfl
              case hy => intro wS hN hF; skip; first | (go_simp; done) | (go_simp; with_reducible rfl)
              case' hk => skip
              try simp only [Act.put, List.setIfInBounds_toArray, List.set_cons_zero, List.set_cons_succ]
              apply rel_val (hrf := Tk_refl)
              case hw => rfl
              case hy => intro wS hN hF; skip; first | (go_simp; done) | (go_simp; with_reducible rfl)
              case' hk => skip
              try simp only [Act.put, List.setIfInBounds_toArray, List.set_cons_zero, List.set_cons_succ]
              apply rel_val (v := .bool false) (hrf := Tk_refl)
              case hw => rfl
              case hy =>
                intro wS hN hF
                go_simp
              case' hk => skip
              try simp only [Act.put, List.setIfInBounds_toArray, List.set_cons_zero, List.set_cons_succ]
              apply rel_val (v := .bool false) (hrf := Tk_refl)
              case hw => rfl
              case hy =>
                intro wS hN hF
                go_simp
              case' hk => skip
              try simp only [Act.put, List.setIfInBounds_toArray, List.set_cons_zero, List.set_cons_succ]
              apply rel_val (v := .bool false) (hrf := Tk_refl)
              case hw => rfl
              case hy =>
                intro wS hN hF
                go_simp
              case' hk => skip
              try simp only [Act.put, List.setIfInBounds_toArray, List.set_cons_zero, List.set_cons_succ]
              apply rel_val (hrf := Tk_refl)
              case hw => rfl
              case hy => intro wS hN hF; skip; first | (go_simp; done) | (go_simp; with_reducible rfl)
              case' hk => skip
              try simp only [Act.put, List.setIfInBounds_toArray, List.set_cons_zero, List.set_cons_succ]
              apply rel_val (hrf := Tk_refl)
              case hw => rfl
              case hy => intro wS hN hF; skip; first | (go_simp; done) | (go_simp; with_reducible rfl)
              case' hk => skip
              try simp only [Act.put, List.setIfInBounds_toArray, List.set_cons_zero, List.set_cons_succ]
              apply rel_val (hrf := Tk_refl)
              case hw => rfl
              case hy => intro wS hN hF; skip; first | (go_simp; done) | (go_simp; with_reducible rfl)
              case' hk => skip
              try simp only [Act.put, List.setIfInBounds_toArray, List.set_cons_zero, List.set_cons_succ]
              apply rel_val (hrf := Tk_refl)
              case hw => rfl
              case hy => intro wS hN hF; skip; first | (go_simp; done) | (go_simp; with_reducible rfl)
              case' hk => skip
              try simp only [Act.put, List.setIfInBounds_toArray, List.set_cons_zero, List.set_cons_succ]
              apply rel_val (hrf := Tk_refl)
              case hw => rfl
              case hy => intro wS hN hF; skip; first | (go_simp; done) | (go_simp; with_reducible rfl)
              case' hk => skip
              try simp only [Act.put, List.setIfInBounds_toArray, List.set_cons_zero, List.set_cons_succ]
              apply rel_val (hrf := Tk_refl)
              case hw => rfl
              case hy => intro wS hN hF; have hO := hN.pre (by kernel_rfl); have h0 := hO.cellSome (p := ⟨bb, r * 2, none⟩) p0 (fun hm => nomatch hm); first | (go_simp; done) | (go_simp; with_reducible rfl)
              case' hk => skip
              try simp only [Act.put, List.setIfInBounds_toArray, List.set_cons_zero, List.set_cons_succ]
              apply rel_val (v := .bool true) (hrf := Tk_refl)
              case hw => rfl
              case hy =>
                intro wS hN hF
                go_simp
              case' hk => skip
              try simp only [Act.put, List.setIfInBounds_toArray, List.set_cons_zero, List.set_cons_succ]
              apply rel_val (hrf := Tk_refl)
              case hw => rfl
              case hy => intro wS hN hF; skip; first | (go_simp; done) | (go_simp; with_reducible rfl)
              case' hk => skip
              try simp only [Act.put, List.setIfInBounds_toArray, List.set_cons_zero, List.set_cons_succ]
              apply rel_val (hrf := Tk_refl)
              case hw => rfl
              case hy => intro wS hN hF; skip; first | (go_simp; done) | (go_simp; with_reducible rfl)
              case' hk => skip
              try simp only [Act.put, List.setIfInBounds_toArray, List.set_cons_zero, List.set_cons_succ]
              apply rel_val (hrf := Tk_refl)
              case hw => rfl
              case hy => intro wS hN hF; skip; first | (go_simp; done) | (go_simp; with_reducible rfl)
              case' hk => skip
              try simp only [Act.put, List.setIfInBounds_toArray, List.set_cons_zero, List.set_cons_succ]
              apply rel_val (hrf := Tk_refl)
              case hw => rfl
              case hy => intro wS hN hF; skip; first | (go_simp; done) | (go_simp; with_reducible rfl)
              case' hk => skip
              try simp only [Act.put, List.setIfInBounds_toArray, List.set_cons_zero, List.set_cons_succ]
              apply rel_val (hrf := Tk_refl)
              case hw => rfl
              case hy => intro wS hN hF; skip; first | (go_simp; done) | (go_simp; with_reducible rfl)
              case' hk => skip
              try simp only [Act.put, List.setIfInBounds_toArray, List.set_cons_zero, List.set_cons_succ]
              apply rel_val (hrf := Tk_refl)
              case hw => rfl
              case hy => intro wS hN hF; have hO := hN.pre (by kernel_rfl); have h1 := hO.cellSome (p := ⟨bb, r * 2 + 1, none⟩) p1 (fun hm => nomatch hm); first | (go_simp; done) | (go_simp; with_reducible rfl)
              case' hk => skip
              try simp only [Act.put, List.setIfInBounds_toArray, List.set_cons_zero, List.set_cons_succ]
              apply rel_val (hrf := Tk_refl)
              case hw => rfl
              case hy => intro wS hN hF; have hcv := str_of (V7.keep ((Only.refl [] _).drew.then (hN.pre (by kernel_rfl)))) c7; first | (go_simp; done) | (go_simp; with_reducible rfl)
              case' hk => skip
              try simp only [Act.put, List.setIfInBounds_toArray, List.set_cons_zero, List.set_cons_succ]
              apply rel_val (hrf := Tk_refl)
              case hw => rfl
              case hy => intro wS hN hF; skip; first | (go_simp; done) | (go_simp; with_reducible rfl)
              case' hk => skip
              try simp only [Act.put, List.setIfInBounds_toArray, List.set_cons_zero, List.set_cons_succ]
              apply rel_val (hrf := Tk_refl)
              case hw => rfl
              case hy => intro wS hN hF; have hcv := str_of (V2.keep ((Only.refl [] _).drew.then (hN.pre (by kernel_rfl)))) (c0 - fr); first | (go_simp; done) | (go_simp; with_reducible rfl)
              case' hk => skip
              try simp only [Act.put, List.setIfInBounds_toArray, List.set_cons_zero, List.set_cons_succ]
              apply rel_val (v := .bool false) (hrf := Tk_refl)
              case hw => rfl
              case hy =>
                intro wS hN hF
                go_simp
              case' hk => skip
              try simp only [Act.put, List.setIfInBounds_toArray, List.set_cons_zero, List.set_cons_succ]
              apply rel_val (v := .bool false) (hrf := Tk_refl)
              case hw => rfl
              case hy =>
                intro wS hN hF
                go_simp
              case' hk => skip
              try simp only [Act.put, List.setIfInBounds_toArray, List.set_cons_zero, List.set_cons_succ]
              apply rel_val (v := .bool false) (hrf := Tk_refl)
              case hw => rfl
              case hy =>
                intro wS hN hF
                go_simp
              case' hk => skip
              try simp only [Act.put, List.setIfInBounds_toArray, List.set_cons_zero, List.set_cons_succ]
              refine rel_end ?_
              intro wS hO hF
              clear hF
              go_wp2
              go_roundw
              case rel => exact ⟨r + 1, k + 1, k + 1, by omega, by go_num, Nat.le_refl _, by go_num, by omega, by go_num, QR.drew.then hO.only, HNX.out, fun x hx => by simp at hx⟩
              case measure => simp [intOf]; omega
          · by_cases hlong : (300 : Int) < ((i : Int) + 1)
            · have hD : k - fr = i + 1 := by rw [← hql]; exact hqi
              rw [hD] at hsq
              have hcx : wr.cell? (ad2.add i) = some (.int .u8 ((q[i].toNat : Nat) : Int)) := by
                obtain ⟨ad3, e3, hc3⟩ := hsq.2 (by omega)
                injection e3 with e3
                subst e3
                exact hc3 i _ (bvs_get q i hi)
              have hxv : ((q[i].toNat : Nat) : Int) ≠ 13 := fun e => hx (UInt8.toNat_inj.1 (by show _ = 13; omega))
              generalize hyy : ((q[i].toNat : Nat) : Int) = yy at hcx hxv
              have hyb : (yy == 13) = false := by rw [beq_eq_false_iff_ne]; exact hxv
              clear hyy hxv
              have V2 : Sl wr (some ad2) (i + 1) (bvs (tr q)) := by
                have h1 := hsq.pre (k := (i + 1)) (by omega)
                rw [bvs_take] at h1
                rw [tr_pre, hT]
                exact h1
              have hev2 : evOf false q = ⟨2, []⟩ := by unfold evOf; rw [if_pos (.inr (by omega))]
              rw [hev2] at p0 p1 V7
              simp only [List.length_nil] at p1 V7
              have p0' : wr.cell? ⟨bb, r * 2, none⟩ = some (.int .i64 2) := p0
              clear p0
              have p0 := p0'
              clear p0' hT hev2 hql hsq hqi hx
              go_wp2_with fail
              apply region_only (by kernel_rfl) (by kernel_rfl)
              apply rel_val (hrf := Tk_refl)
              case hw => rfl
              case hy => intro wS hN hF; skip; first | (go_simp; done) | (go_simp; with_reducible rfl)
              case' hk => skip
              try simp only [Act.put, List.setIfInBounds_toArray, List.set_cons_zero, List.set_cons_succ]
              apply rel_val (hrf := Tk_refl)
              case hw => rfl
              case hy => intro wS hN hF; skip; first | (go_simp; done) | (go_simp; with_reducible rfl)
              case' hk => skip
              try simp only [Act.put, List.setIfInBounds_toArray, List.set_cons_zero, List.set_cons_succ]
              apply rel_val (hrf := Tk_refl)
              case hw => rfl
              case hy => intro wS hN hF; skip; first | (go_simp; done) | (go_simp; with_reducible rfl)
              case' hk => skip
              try simp only [Act.put, List.setIfInBounds_toArray, List.set_cons_zero, List.set_cons_succ]
              apply rel_val (v := .bool false) (hrf := Tk_refl)
              case hw => rfl
              case hy =>
                intro wS hN hF
                go_simp
              case' hk => skip
              try simp only [Act.put, List.setIfInBounds_toArray, List.set_cons_zero, List.set_cons_succ]
              apply rel_val (hrf := Tk_refl)
              case hw => rfl
              case hy => intro wS hN hF; skip; first | (go_simp; done) | (go_simp; with_reducible rfl)
              case' hk => skip
              try simp only [Act.put, List.setIfInBounds_toArray, List.set_cons_zero, List.set_cons_succ]
              apply rel_val (hrf := Tk_refl)
              case hw => rfl
              case hy => intro wS hN hF; skip; first | (go_simp; done) | (go_simp; with_reducible rfl)
              case' hk => skip
              try simp only [Act.put, List.setIfInBounds_toArray, List.set_cons_zero, List.set_cons_succ]
              apply rel_val (hrf := Tk_refl)
              case hw => rfl
              case hy => intro wS hN hF; skip; first | (go_simp; done) | (go_simp; with_reducible rfl)
              case' hk => skip
              try simp only [Act.put, List.setIfInBounds_toArray, List.set_cons_zero, List.set_cons_succ]
              apply rel_val (hrf := Tk_refl)
              case hw => rfl
              case hy => intro wS hN hF; skip; first | (go_simp; done) | (go_simp; with_reducible rfl)
              case' hk => skip
              try simp only [Act.put, List.setIfInBounds_toArray, List.set_cons_zero, List.set_cons_succ]
              apply rel_val (hrf := Tk_refl)
              case hw => rfl
              case hy => intro wS hN hF; skip; first | (go_simp; done) | (go_simp; with_reducible rfl)
              case' hk => skip
              try simp only [Act.put, List.setIfInBounds_toArray, List.set_cons_zero, List.set_cons_succ]
              apply rel_val (hrf := Tk_refl)
              case hw => rfl
              case hy => intro wS hN hF; have hO := hN.pre (by kernel_rfl); have h0 := hO.cellSome (p := ⟨bb, r * 2, none⟩) p0 (fun hm => nomatch hm); first | (go_simp; done) | (go_simp; with_reducible rfl)
              case' hk => skip
              try simp only [Act.put, List.setIfInBounds_toArray, List.set_cons_zero, List.set_cons_succ]
              apply rel_val (v := .bool true) (hrf := Tk_refl)
              case hw => rfl
              case hy =>
                intro wS hN hF
                go_simp
              case' hk => skip
              try simp only [Act.put, List.setIfInBounds_toArray, List.set_cons_zero, List.set_cons_succ]
              apply rel_val (hrf := Tk_refl)
              case hw => rfl
              case hy => intro wS hN hF; skip; first | (go_simp; done) | (go_simp; with_reducible rfl)
              case' hk => skip
              try simp only [Act.put, List.setIfInBounds_toArray, List.set_cons_zero, List.set_cons_succ]
              apply rel_val (hrf := Tk_refl)
              case hw => rfl
              case hy => intro wS hN hF; skip; first | (go_simp; done) | (go_simp; with_reducible rfl)
              case' hk => skip
              try simp only [Act.put, List.setIfInBounds_toArray, List.set_cons_zero, List.set_cons_succ]
              apply rel_val (v := .bool true) (hrf := Tk_refl)
              case hw => rfl
              case hy =>
                intro wS hN hF
                go_simp
              case' hk => skip
              try simp only [Act.put, List.setIfInBounds_toArray, List.set_cons_zero, List.set_cons_succ]
              apply rel_val (v := .bool false) (hrf := Tk_refl)
              case hw => rfl
              case hy =>
                intro wS hN hF
                go_simp
              case' hk => skip
              try simp only [Act.put, List.setIfInBounds_toArray, List.set_cons_zero, List.set_cons_succ]
              apply rel_val (v := .bool false) (hrf := Tk_refl)
              case hw => rfl
              case hy =>
                intro wS hN hF
                go_simp
              case' hk => skip
              try simp only [Act.put, List.setIfInBounds_toArray, List.set_cons_zero, List.set_cons_succ]
              apply rel_val (hrf := Tk_refl)
              case hw => rfl
              case hy => intro wS hN hF; skip; first | (go_simp; done) | (go_simp; with_reducible rfl)
              case' hk => skip
              try simp only [Act.put, List.setIfInBounds_toArray, List.set_cons_zero, List.set_cons_succ]
              apply rel_val (hrf := Tk_refl)
              case hw => rfl
              case hy => intro wS hN hF; skip; first | (go_simp; done) | (go_simp; with_reducible rfl)
              case' hk => skip
              try simp only [Act.put, List.setIfInBounds_toArray, List.set_cons_zero, List.set_cons_succ]
              apply rel_val (hrf := Tk_refl)
              case hw => rfl
              case hy => intro wS hN hF; skip; first | (go_simp; done) | (go_simp; with_reducible rfl)
              case' hk => skip
              try simp only [Act.put, List.setIfInBounds_toArray, List.set_cons_zero, List.set_cons_succ]
              apply rel_val (hrf := Tk_refl)
              case hw => rfl
              case hy => intro wS hN hF; skip; first | (go_simp; done) | (go_simp; with_reducible rfl)
              case' hk => skip
              try simp only [Act.put, List.setIfInBounds_toArray, List.set_cons_zero, List.set_cons_succ]
              apply rel_val (hrf := Tk_refl)
              case hw => rfl
              case hy => intro wS hN hF; skip; first | (go_simp; done) | (go_simp; with_reducible rfl)
              case' hk => skip
              try simp only [Act.put, List.setIfInBounds_toArray, List.set_cons_zero, List.set_cons_succ]
              apply rel_val (hrf := Tk_refl)
              case hw => rfl
              case hy => intro wS hN hF; have hO := hN.pre (by kernel_rfl); have h0 := hO.cellSome (p := ⟨bb, r * 2, none⟩) p0 (fun hm => nomatch hm); first | (go_simp; done) | (go_simp; with_reducible rfl)
              case' hk => skip
              try simp only [Act.put, List.setIfInBounds_toArray, List.set_cons_zero, List.set_cons_succ]
              apply rel_val (v := .bool false) (hrf := Tk_refl)
              case hw => rfl
              case hy =>
                intro wS hN hF
                go_simp
              case' hk => skip
              try simp only [Act.put, List.setIfInBounds_toArray, List.set_cons_zero, List.set_cons_succ]
              apply rel_val (hrf := Tk_refl)
              case hw => rfl
              case hy => intro wS hN hF; skip; first | (go_simp; done) | (go_simp; with_reducible rfl)
              case' hk => skip
              try simp only [Act.put, List.setIfInBounds_toArray, List.set_cons_zero, List.set_cons_succ]
              apply rel_skip
              case hw => rfl
              case' hk => skip
              try simp only [Act.put, List.setIfInBounds_toArray, List.set_cons_zero, List.set_cons_succ]
              apply rel_skip
              case hw => rfl
              case' hk => skip
              try simp only [Act.put, List.setIfInBounds_toArray, List.set_cons_zero, List.set_cons_succ]
              apply rel_skip
              case hw => rfl
              case' hk => skip
              try simp only [Act.put, List.setIfInBounds_toArray, List.set_cons_zero, List.set_cons_succ]
              apply rel_skip
              case hw => rfl
              case' hk => skip
              try simp only [Act.put, List.setIfInBounds_toArray, List.set_cons_zero, List.set_cons_succ]
              apply rel_skip
              case hw => rfl
              case' hk => skip
              try simp only [Act.put, List.setIfInBounds_toArray, List.set_cons_zero, List.set_cons_succ]
              apply rel_skip
              case hw => rfl
              case' hk => skip
              try simp only [Act.put, List.setIfInBounds_toArray, List.set_cons_zero, List.set_cons_succ]
              apply rel_skip
              case hw => rfl
              case' hk => skip
              try simp only [Act.put, List.setIfInBounds_toArray, List.set_cons_zero, List.set_cons_succ]
              apply rel_skip
              case hw => rfl
              case' hk => skip
              try simp only [Act.put, List.setIfInBounds_toArray, List.set_cons_zero, List.set_cons_succ]
              apply rel_skip
              case hw => rfl
              case' hk => skip
              try simp only [Act.put, List.setIfInBounds_toArray, List.set_cons_zero, List.set_cons_succ]
              apply rel_val (v := .bool false) (hrf := Tk_refl)
              case hw => rfl
              case hy =>
                intro wS hN hF
                go_simp
              case' hk => skip
              try simp only [Act.put, List.setIfInBounds_toArray, List.set_cons_zero, List.set_cons_succ]
              apply rel_val (v := .bool false) (hrf := Tk_refl)
              case hw => rfl
              case hy =>
                intro wS hN hF
                go_simp
              case' hk => skip
              try simp only [Act.put, List.setIfInBounds_toArray, List.set_cons_zero, List.set_cons_succ]
              refine rel_end ?_
              intro wS hO hF
              clear hF
              go_wp2
              go_roundw
              case rel => exact ⟨r + 1, k + 1, k + 1, by omega, by go_num, Nat.le_refl _, by go_num, by omega, by go_num, QR.drew.then hO.only, HNX.out, fun x hx => by simp at hx⟩
              case measure => simp [intOf]; omega
            · have hshort : ((i : Int) + 1) ≤ 300 := by omega
              have hD : k - fr = i + 1 := by rw [← hql]; exact hqi
              rw [hD] at hsq
              have hcx : wr.cell? (ad2.add i) = some (.int .u8 ((q[i].toNat : Nat) : Int)) := by
                obtain ⟨ad3, e3, hc3⟩ := hsq.2 (by omega)
                injection e3 with e3
                subst e3
                exact hc3 i _ (bvs_get q i hi)
              have hxv : ((q[i].toNat : Nat) : Int) ≠ 13 := fun e => hx (UInt8.toNat_inj.1 (by show _ = 13; omega))
              generalize hyy : ((q[i].toNat : Nat) : Int) = yy at hcx hxv
              have hyb : (yy == 13) = false := by rw [beq_eq_false_iff_ne]; exact hxv
              clear hyy hxv
              have V2 : Sl wr (some ad2) (i + 1) (bvs (tr q)) := by
                have h1 := hsq.pre (k := (i + 1)) (by omega)
                rw [bvs_take] at h1
                rw [tr_pre, hT]
                exact h1
              have hev2 : evOf false q = ⟨1, tr q⟩ := by unfold evOf; rw [if_neg (by rw [hT]; first | (simp; done) | (simp; omega))]
              rw [hev2] at p0 p1 V7
              simp only [hT] at p1 V7
              obtain ⟨d, hd⟩ : ∃ d, d = tr q := ⟨_, rfl⟩
              rw [← hd] at V2 V7
              clear hd
              have p0' : wr.cell? ⟨bb, r * 2, none⟩ = some (.int .i64 1) := p0
              clear p0
              have p0 := p0'
              clear p0' hT hev2 hql hsq hqi hx
              go_wp2_with fail
              apply region_only (by kernel_rfl) (by kernel_rfl)
              apply rel_val (hrf := Tk_refl)
              case hw => rfl
              case hy => intro wS hN hF; skip; first | (go_simp; done) | (go_simp; with_reducible rfl)
              case' hk => skip
              try simp only [Act.put, List.setIfInBounds_toArray, List.set_cons_zero, List.set_cons_succ]
              apply rel_val (hrf := Tk_refl)
              case hw => rfl
              case hy => intro wS hN hF; skip; first | (go_simp; done) | (go_simp; with_reducible rfl)
              case' hk => skip
              try simp only [Act.put, List.setIfInBounds_toArray, List.set_cons_zero, List.set_cons_succ]
              apply rel_val (hrf := Tk_refl)
              case hw => rfl
              case hy => intro wS hN hF; skip; first | (go_simp; done) | (go_simp; with_reducible rfl)
              case' hk => skip
              try simp only [Act.put, List.setIfInBounds_toArray, List.set_cons_zero, List.set_cons_succ]
              apply rel_val (v := .bool false) (hrf := Tk_refl)
              case hw => rfl
              case hy =>
                intro wS hN hF
                go_simp
              case' hk => skip
              try simp only [Act.put, List.setIfInBounds_toArray, List.set_cons_zero, List.set_cons_succ]
              apply rel_val (hrf := Tk_refl)
              case hw => rfl
              case hy => intro wS hN hF; skip; first | (go_simp; done) | (go_simp; with_reducible rfl)
              case' hk => skip
              try simp only [Act.put, List.setIfInBounds_toArray, List.set_cons_zero, List.set_cons_succ]
              apply rel_val (hrf := Tk_refl)
              case hw => rfl
              case hy => intro wS hN hF; skip; first | (go_simp; done) | (go_simp; with_reducible rfl)
              case' hk => skip
              try simp only [Act.put, List.setIfInBounds_toArray, List.set_cons_zero, List.set_cons_succ]
              apply rel_val (hrf := Tk_refl)
              case hw => rfl
              case hy => intro wS hN hF; skip; first | (go_simp; done) | (go_simp; with_reducible rfl)
              case' hk => skip
              try simp only [Act.put, List.setIfInBounds_toArray, List.set_cons_zero, List.set_cons_succ]
              apply rel_val (hrf := Tk_refl)
              case hw => rfl
              case hy => intro wS hN hF; skip; first | (go_simp; done) | (go_simp; with_reducible rfl)
              case' hk => skip
              try simp only [Act.put, List.setIfInBounds_toArray, List.set_cons_zero, List.set_cons_succ]
              apply rel_val (hrf := Tk_refl)
              case hw => rfl
              case hy => intro wS hN hF; skip; first | (go_simp; done) | (go_simp; with_reducible rfl)
              case' hk => skip
              try simp only [Act.put, List.setIfInBounds_toArray, List.set_cons_zero, List.set_cons_succ]
              apply rel_val (hrf := Tk_refl)
              case hw => rfl
              case hy => intro wS hN hF; have hO := hN.pre (by kernel_rfl); have h0 := hO.cellSome (p := ⟨bb, r * 2, none⟩) p0 (fun hm => nomatch hm); first | (go_simp; done) | (go_simp; with_reducible rfl)
              case' hk => skip
              try simp only [Act.put, List.setIfInBounds_toArray, List.set_cons_zero, List.set_cons_succ]
              apply rel_val (v := .bool false) (hrf := Tk_refl)
              case hw => rfl
              case hy =>
                intro wS hN hF
                go_simp
              case' hk => skip
              try simp only [Act.put, List.setIfInBounds_toArray, List.set_cons_zero, List.set_cons_succ]
              apply rel_val (hrf := Tk_refl)
              case hw => rfl
              case hy => intro wS hN hF; skip; first | (go_simp; done) | (go_simp; with_reducible rfl)
              case' hk => skip
              try simp only [Act.put, List.setIfInBounds_toArray, List.set_cons_zero, List.set_cons_succ]
              apply rel_val (hrf := Tk_refl)
              case hw => rfl
              case hy => intro wS hN hF; skip; first | (go_simp; done) | (go_simp; with_reducible rfl)
              case' hk => skip
              try simp only [Act.put, List.setIfInBounds_toArray, List.set_cons_zero, List.set_cons_succ]
              apply rel_val (v := .bool false) (hrf := Tk_refl)
              case hw => rfl
              case hy =>
                intro wS hN hF
                go_simp
              case' hk => skip
              try simp only [Act.put, List.setIfInBounds_toArray, List.set_cons_zero, List.set_cons_succ]
              apply rel_val (v := .bool false) (hrf := Tk_refl)
              case hw => rfl
              case hy =>
                intro wS hN hF
                go_simp
              case' hk => skip
              try simp only [Act.put, List.setIfInBounds_toArray, List.set_cons_zero, List.set_cons_succ]
              apply rel_val (v := .bool false) (hrf := Tk_refl)
              case hw => rfl
              case hy =>
                intro wS hN hF
                go_simp
              case' hk => skip
              try simp only [Act.put, List.setIfInBounds_toArray, List.set_cons_zero, List.set_cons_succ]
              apply rel_val (hrf := Tk_refl)
              case hw => rfl
              case hy => intro wS hN hF; skip; first | (go_simp; done) | (go_simp; with_reducible rfl)
              case' hk => skip
              try simp only [Act.put, List.setIfInBounds_toArray, List.set_cons_zero, List.set_cons_succ]
              apply rel_val (hrf := Tk_refl)
              case hw => rfl
              case hy => intro wS hN hF; skip; first | (go_simp; done) | (go_simp; with_reducible rfl)
              case' hk => skip
              try simp only [Act.put, List.setIfInBounds_toArray, List.set_cons_zero, List.set_cons_succ]
              apply rel_val (hrf := Tk_refl)
              case hw => rfl
              case hy => intro wS hN hF; skip; first | (go_simp; done) | (go_simp; with_reducible rfl)
              case' hk => skip
              try simp only [Act.put, List.setIfInBounds_toArray, List.set_cons_zero, List.set_cons_succ]
              apply rel_val (hrf := Tk_refl)
              case hw => rfl
              case hy => intro wS hN hF; skip; first | (go_simp; done) | (go_simp; with_reducible rfl)
              case' hk => skip
              try simp only [Act.put, List.setIfInBounds_toArray, List.set_cons_zero, List.set_cons_succ]
              apply rel_val (hrf := Tk_refl)
              case hw => rfl
              case hy => intro wS hN hF; skip; first | (go_simp; done) | (go_simp; with_reducible rfl)
              case' hk => skip
              try simp only [Act.put, List.setIfInBounds_toArray, List.set_cons_zero, List.set_cons_succ]
              apply rel_val (hrf := Tk_refl)
              case hw => rfl
              case hy => intro wS hN hF; have hO := hN.pre (by kernel_rfl); have h0 := hO.cellSome (p := ⟨bb, r * 2, none⟩) p0 (fun hm => nomatch hm); first | (go_simp; done) | (go_simp; with_reducible rfl)
              case' hk => skip
              try simp only [Act.put, List.setIfInBounds_toArray, List.set_cons_zero, List.set_cons_succ]
              apply rel_val (v := .bool true) (hrf := Tk_refl)
              case hw => rfl
              case hy =>
                intro wS hN hF
                go_simp
              case' hk => skip
              try simp only [Act.put, List.setIfInBounds_toArray, List.set_cons_zero, List.set_cons_succ]
              apply rel_val (hrf := Tk_refl)
              case hw => rfl
              case hy => intro wS hN hF; skip; first | (go_simp; done) | (go_simp; with_reducible rfl)
              case' hk => skip
              try simp only [Act.put, List.setIfInBounds_toArray, List.set_cons_zero, List.set_cons_succ]
              apply rel_val (hrf := Tk_refl)
              case hw => rfl
              case hy => intro wS hN hF; skip; first | (go_simp; done) | (go_simp; with_reducible rfl)
              case' hk => skip
              try simp only [Act.put, List.setIfInBounds_toArray, List.set_cons_zero, List.set_cons_succ]
              apply rel_val (hrf := Tk_refl)
              case hw => rfl
              case hy => intro wS hN hF; skip; first | (go_simp; done) | (go_simp; with_reducible rfl)
              case' hk => skip
              try simp only [Act.put, List.setIfInBounds_toArray, List.set_cons_zero, List.set_cons_succ]
              apply rel_val (hrf := Tk_refl)
              case hw => rfl
              case hy => intro wS hN hF; skip; first | (go_simp; done) | (go_simp; with_reducible rfl)
              case' hk => skip
              try simp only [Act.put, List.setIfInBounds_toArray, List.set_cons_zero, List.set_cons_succ]
              apply rel_val (hrf := Tk_refl)
              case hw => rfl
              case hy => intro wS hN hF; skip; first | (go_simp; done) | (go_simp; with_reducible rfl)
              case' hk => skip
              try simp only [Act.put, List.setIfInBounds_toArray, List.set_cons_zero, List.set_cons_succ]
              apply rel_val (hrf := Tk_refl)
              case hw => rfl
              case hy => intro wS hN hF; have hO := hN.pre (by kernel_rfl); have h1 := hO.cellSome (p := ⟨bb, r * 2 + 1, none⟩) p1 (fun hm => nomatch hm); first | (go_simp; done) | (go_simp; with_reducible rfl)
              case' hk => skip
              try simp only [Act.put, List.setIfInBounds_toArray, List.set_cons_zero, List.set_cons_succ]
              apply rel_val (hrf := Tk_refl)
              case hw => rfl
              case hy => intro wS hN hF; have hcv := str_of (V7.keep ((Only.refl [] _).drew.then (hN.pre (by kernel_rfl)))) c7; first | (go_simp; done) | (go_simp; with_reducible rfl)
              case' hk => skip
              try simp only [Act.put, List.setIfInBounds_toArray, List.set_cons_zero, List.set_cons_succ]
              apply rel_val (hrf := Tk_refl)
              case hw => rfl
              case hy => intro wS hN hF; skip; first | (go_simp; done) | (go_simp; with_reducible rfl)
              case' hk => skip
              try simp only [Act.put, List.setIfInBounds_toArray, List.set_cons_zero, List.set_cons_succ]
              apply rel_val (hrf := Tk_refl)
              case hw => rfl
              case hy => intro wS hN hF; have hcv := str_of (V2.keep ((Only.refl [] _).drew.then (hN.pre (by kernel_rfl)))) (c0 - fr); first | (go_simp; done) | (go_simp; with_reducible rfl)
              case' hk => skip
              try simp only [Act.put, List.setIfInBounds_toArray, List.set_cons_zero, List.set_cons_succ]
              apply rel_val (v := .bool false) (hrf := Tk_refl)
              case hw => rfl
              case hy =>
                intro wS hN hF
                go_simp
              case' hk => skip
              try simp only [Act.put, List.setIfInBounds_toArray, List.set_cons_zero, List.set_cons_succ]
              apply rel_val (v := .bool false) (hrf := Tk_refl)
              case hw => rfl
              case hy =>
                intro wS hN hF
                go_simp
              case' hk => skip
              try simp only [Act.put, List.setIfInBounds_toArray, List.set_cons_zero, List.set_cons_succ]
              apply rel_val (v := .bool false) (hrf := Tk_refl)
              case hw => rfl
              case hy =>
                intro wS hN hF
                go_simp
              case' hk => skip
              try simp only [Act.put, List.setIfInBounds_toArray, List.set_cons_zero, List.set_cons_succ]
              refine rel_end ?_
              intro wS hO hF
              clear hF
              go_wp2
              go_roundw
              case rel => exact ⟨r + 1, k + 1, k + 1, by omega, by go_num, Nat.le_refl _, by go_num, by omega, by go_num, QR.drew.then hO.only, HNX.out, fun x hx => by simp at hx⟩
              case measure => simp [intOf]; omega
        · have hne : ((b[k].toNat : Nat) : Int) ≠ 10 := fun e => h10 (UInt8.toNat_inj.1 (by show _ = 10; omega))
          have hno2 : Hid (∀ x ∈ (b.drop fr).take (k + 1 - fr), x ≠ 10) := by
            intro x hx
            have hkl : k - fr < (b.drop fr).length := by rw [List.length_drop]; omega
            rw [show k + 1 - fr = k - fr + 1 by omega, List.take_succ_eq_append_getElem hkl] at hx
            rcases List.mem_append.1 hx with hx | hx
            · exact HNO.out x hx
            · simp only [List.mem_singleton] at hx
              rw [hx, List.getElem_drop]
              have e : fr + (k - fr) = k := by omega
              simp only [e]
              exact h10
          generalize hyy : ((b[k].toNat : Nat) : Int) = y at hcell hne
          have hy1 : (y == 10) = false := by rw [beq_eq_false_iff_ne]; exact hne
          clear hyy hne h10 hbr
          go_wp2
          go_roundw
          case rel => exact ⟨r, fr, k + 1, by omega, by go_num, by omega, rfl, hr, rfl, QR, HD.out, hno2⟩
          case measure => simp [intOf]; omega
      · have hkn : k = n0 := by omega
        have hlt' : ¬ (k : Int) < (n0 : Int) := by omega
        have hre : r = n6 := by
          have h1 := HNO.out
          rw [hkn, ← HBL.out] at h1
          rw [← HL.out]
          exact counts_end HD.out h1 (by rw [HL.out]; exact hr)
        subst hre
        clear hkn
        go_wp2_with (go_at_call 20; (with_reducible refine (known_any _).mono ?_); rintro e w9 ⟨rfl, O9⟩)
        go_ret
        exact ⟨rfl, (HQ6.out.then QR).then O9⟩
end Go.Proofs.Ytiekhgignmbaeaa
