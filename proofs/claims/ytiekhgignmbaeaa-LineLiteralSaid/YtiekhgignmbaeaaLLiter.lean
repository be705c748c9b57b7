/-
  The walk of the law LineLiteral.
-/
import Derived.Test.YtiekhgignmbaeaaLWants
namespace Go.Proofs.Ytiekhgignmbaeaa
open Go.RowKit Go.Instr

theorem low16 (n : Int) : bits .and .i64 n 65535 = n % 65536 := by
  have h6 : (BitVec.ofInt 64 65535).toNat = 2 ^ 16 - 1 := by decide
  have key : (BitVec.ofInt 64 n &&& BitVec.ofInt 64 65535).toNat = (n % ((2 ^ 64 : Nat) : Int)).toNat % 2 ^ 16 := by
    rw [BitVec.toNat_and, BitVec.toNat_ofInt, h6, Nat.and_two_pow_sub_one_eq_mod]
  show IntKind.i64.wrap ((BitVec.ofInt 64 n &&& BitVec.ofInt 64 65535).toNat : Nat) = n % 65536
  rw [key, IntKind.wrap_i64]
  omega
/-- The states of the law: a literal of n bytes is wanted, p is fed in two pieces. -/
theorem lit_fed (p : List UInt8) (n k : Nat) (hp : p.length ≤ 4096) : feedE ⟨[], false, some n⟩ (p.take k) = 0 ∧ feedS ⟨[], false, some n⟩ (p.take k) = ⟨p.take k, false, some n⟩ := by
  unfold feedE feedS
  simp only [List.length_nil, Nat.add_zero]
  have h : (p.take k).length ≤ 4096 := by rw [List.length_take]; omega
  rw [if_pos h, if_pos h]
  exact ⟨rfl, rfl⟩
theorem lit_next (x : List UInt8) (n : Nat) (h : n ≤ x.length) : nextR ⟨x, false, some n⟩ = some ⟨3, x.take n⟩ ∧ nextS ⟨x, false, some n⟩ = ⟨x.drop n, false, none⟩ := by
  unfold nextR nextS
  simp only
  rw [if_neg (by omega), if_neg (by omega)]
  exact ⟨rfl, rfl⟩
theorem lit_wait (x : List UInt8) (n : Nat) (h : x.length < n) : nextR ⟨x, false, some n⟩ = none ∧ nextS ⟨x, false, some n⟩ = ⟨x, false, some n⟩ := by
  unfold nextR nextS
  simp only
  rw [if_pos h, if_pos h]
  exact ⟨rfl, rfl⟩
theorem feed_more (s : LS) (x : List UInt8) (h : x.length + s.b.length ≤ 4096) : feedE s x = 0 ∧ feedS s x = ⟨s.b ++ x, s.drop, s.lit⟩ := by
  unfold feedE feedS
  rw [if_pos h, if_pos h]
  exact ⟨rfl, rfl⟩

/-- A block that was made behind the object's is none of it, now and later. -/
theorem far_new {w : World} {g x : Nat} {F : List Nat} {s : LS} (h : Ln false w g F s) (hx : w.heap.size ≤ x) : x ∉ g :: F := fun hm => by
  rcases List.mem_cons.1 hm with e | e
  · have := h.lt; omega
  · have := h.flt x e; omega
theorem far_step {w : World} {g x : Nat} {F F' : List Nat} (h : x ∉ g :: F) (hx : x < w.heap.size) (B : ∀ k ∈ F', k ∈ F ∨ w.heap.size ≤ k) : x ∉ g :: F' := fun hm => by
  rcases List.mem_cons.1 hm with e | e
  · exact h (by simp [e])
  · rcases B x e with h1 | h1
    · exact h (by simp [h1])
    · omega

set_option maxRecDepth 100000 in
set_option maxHeartbeats 8000000 in
theorem literal_any (A0 : Option Addr) (n0 c0 : Nat) (b : List UInt8) (A1 : Option Addr) (m c1 : Nat) (t : List UInt8) (cut : Int) (w : World) (hb : Sl w A0 n0 (bvs b)) (ht : Sl w A1 m (bvs t)) (hb0 : n0 ≤ 140737488351232) (ht0 : m ≤ 140737488351232) :
    Calls Try.prog 6 #[.slice A0 n0 c0, .slice A1 m c1, .int .i64 cut] w fun e w' => e = .returned (.bool true) ∧ Only [] w w' := by
  obtain ⟨i0, hi, hz0, hz1, hz2⟩ := info_parts infoByte
  by_cases hbig : n0 ≤ 1200 ∧ m ≤ 200
  · obtain ⟨h1, h2⟩ := hbig
    have h1' : (n0 : Int) ≤ 1200 := by omega
    have h2' : (m : Int) ≤ 200 := by omega
    have HB := Lib.hid hb
    have HTL : Hid (t.length = m) := by show _ = _; simpa using ht.len
    have HBL : Hid (b.length = n0) := by show _ = _; simpa using hb.len
    have HW := Lib.hid (fun (W : World) (g : Nat) (h : Ln false W g [] K0) => want_as (n := (n0 : Int)) (e := 0) (s' := ⟨[], false, some n0⟩) h (by unfold wantE; rw [if_pos (by omega)]) (by unfold wantS; rw [if_pos (by omega)]; rfl))
    clear hb
    go_enter Try.func6, Try.ntmps6
    go_wp2_with (first
      | (go_at_call 17; (with_reducible refine (HW.out w1 g L1).mono ?_); clear HW; rintro e w5 ⟨F5, rfl, L5, O5, B5⟩; have Q5 := own_step O1 O5 P1; have P5 := fp_step O1 P1 B5)
      | (go_at_call 11; (with_reducible refine (new_g w).mono ?_); rintro e w1 ⟨g, rfl, L1, O1, P1⟩))
    have htq := Lib.hid (ht.keep Q5)
    have HQ5 := Lib.hid Q5
    have HP5 := Lib.hid P5
    have HL5 := Lib.hid L5
    clear O1 P1 L1 O5 B5
    go_loop [8] (fun i => ∃ k : Nat, k ≤ m ∧ i = .int .i64 k ∧ Hid (∀ x ∈ t.take k, x ≠ 10 ∧ x ≠ 13)) (fun i => m - (intOf i).toNat)
    case atStart => exact ⟨0, Nat.zero_le _, rfl, fun x hx => by simp at hx⟩
    case round =>
      obtain ⟨k, hk, rfl, HK⟩ := hrel
      by_cases hlt : k < m
      · have hkl : k < t.length := by have := HTL.out; omega
        obtain ⟨ad, u, rfl, hu, hcell⟩ := htq.out.at_ hlt
        rw [bvs_get t k hkl] at hu
        injection hu with hu
        subst hu
        have hlt' : (k : Int) < (m : Int) := by omega
        obtain ⟨x, hx⟩ : ∃ x, x = t[k] := ⟨_, rfl⟩
        rw [← hx] at hcell
        unfold bv at hcell
        have HX := Lib.hid hx
        clear hx
        by_cases h10 : x = 10
        · have hy : ((x.toNat : Nat) : Int) = 10 := by rw [h10]; rfl
          rw [hy] at hcell
          clear hy
          go_wp2
          go_ret
          exact ⟨rfl, HQ5.out⟩
        · have hy : ((x.toNat : Nat) : Int) ≠ 10 := fun e => h10 (UInt8.toNat_inj.1 (by show _ = 10; omega))
          by_cases h13 : x = 13
          · have hy13 : ((x.toNat : Nat) : Int) = 13 := by rw [h13]; rfl
            rw [hy13] at hcell
            clear hy13 hy
            go_wp2
            go_ret
            exact ⟨rfl, HQ5.out⟩
          · have hy13 : ((x.toNat : Nat) : Int) ≠ 13 := fun e => h13 (UInt8.toNat_inj.1 (by show _ = 13; omega))
            generalize hyy : ((x.toNat : Nat) : Int) = y at hcell hy hy13
            clear hyy
            have hy1 : (y == 10) = false := by rw [beq_eq_false_iff_ne]; exact hy
            have hy2 : (y == 13) = false := by rw [beq_eq_false_iff_ne]; exact hy13
            clear hy hy13
            have HN : Hid (∀ x ∈ t.take (k + 1), x ≠ 10 ∧ x ≠ 13) := by
              intro z hz
              rw [List.take_succ_eq_append_getElem hkl] at hz
              rcases List.mem_append.1 hz with hz | hz
              · exact HK.out z hz
              · simp at hz
                rw [hz, ← HX.out]
                exact ⟨h10, h13⟩
            clear HK h10 h13
            go_wp2
            refine ⟨⟨k + 1, by omega, by go_num, HN⟩, ?_⟩
            simp [intOf]
            omega
      · obtain rfl : k = m := by omega
        have hall : ∀ x ∈ t, x ≠ 10 ∧ x ≠ 13 := by
          have h1 := HK.out
          rw [← HTL.out, List.take_length] at h1
          exact h1
        clear HK
        have HALL := Lib.hid hall
        have HTT := Lib.hid ht
        obtain ⟨kk, hkk0⟩ : ∃ kk : Nat, kk = (cut % 65536 % ((n0 : Int) + (k : Int) + 1)).toNat := ⟨_, rfl⟩
        have hkb1 : 0 ≤ cut % 65536 % ((n0 : Int) + (k : Int) + 1) := Int.emod_nonneg _ (by omega)
        have hkb2 : cut % 65536 % ((n0 : Int) + (k : Int) + 1) < (n0 : Int) + (k : Int) + 1 := Int.emod_lt_of_pos _ (by omega)
        have hkk : cut % 65536 % ((n0 : Int) + (k : Int) + 1) = (kk : Int) := by omega
        have hkl : kk ≤ n0 + k := by omega
        clear hkk0 hkb1 hkb2
        have hand := low16 cut
        obtain ⟨p, hp⟩ : ∃ p, b ++ t ++ [10] = p := ⟨_, rfl⟩
        have HPP := Lib.hid hp
        have hbl := HBL.out
        have htl := HTL.out
        have hpl : p.length = n0 + k + 1 := by rw [← hp]; simp [hbl, htl]; omega
        have hpb : p.take n0 = b := by rw [← hp, List.append_assoc, ← hbl, List.take_left]
        have hpd : p.drop n0 = t ++ [10] := by rw [← hp, List.append_assoc, ← hbl, List.drop_left]
        obtain ⟨f1, f2⟩ := lit_fed p n0 kk (by omega)
        obtain ⟨l1, l2⟩ := line_one t [] (fun x hx => (HALL.out x hx).1) (fun x hx => (HALL.out x hx).2) (by omega)
        have HF1 := Lib.hid (fun (W : World) (h : Ln false W g F5 ⟨[], false, some n0⟩) (A : Option Addr) (c : Nat) (hx : Sl W A kk (bvs (p.take kk))) => feed_as h A kk c hx f1 f2)
        have HN2 := Lib.hid (fun (W : World) (F : List Nat) (h : Ln false W g F ⟨t ++ [10], false, none⟩) => next_as (k := 1) (n := k) (d := t) (b := true) h l1 l2 rfl rfl htl rfl)
        have hdl : (p.drop kk).length = n0 + k + 1 - kk := by rw [List.length_drop, hpl]
        have htk : (p.take kk).length = kk := by rw [List.length_take, hpl]; omega
        by_cases hge : n0 ≤ kk
        · have hge' : (n0 : Int) ≤ (kk : Int) := by omega
          obtain ⟨a1, a2⟩ := lit_next (p.take kk) n0 (by omega)
          rw [List.take_take, Nat.min_eq_left hge, hpb] at a1
          obtain ⟨b1, b2⟩ := feed_more ⟨(p.take kk).drop n0, false, none⟩ (p.drop kk) (by simp only [List.length_drop, htk, hpl]; omega)
          have e3 : (p.take kk).drop n0 ++ p.drop kk = t ++ [10] := by
            rw [← hpd]
            conv => rhs; rw [← List.take_append_drop kk p]
            rw [List.drop_append_of_le_length (by omega)]
          simp only [e3] at b2
          have HN1 := Lib.hid (fun (W : World) (F : List Nat) (h : Ln false W g F ⟨p.take kk, false, some n0⟩) => next_as (k := 3) (n := n0) (d := b) (b := true) h a1 a2 rfl rfl hbl rfl)
          have HF2 := Lib.hid (fun (W : World) (F : List Nat) (h : Ln false W g F ⟨(p.take kk).drop n0, false, none⟩) (A : Option Addr) (c : Nat) (hx : Sl W A (n0 + k + 1 - kk) (bvs (p.drop kk))) => feed_as h A _ c hx b1 b2)
          clear a1 a2 b1 b2 e3 f1 f2 l1 l2 hp hbl htl hpl hpb hpd hdl htk hall HALL
          go_wp2_with (first
          | (go_at_call 20; (with_reducible refine (known_any _).mono ?_); rintro e w11 ⟨rfl, O11⟩)
          | (go_at_call 14; (with_reducible refine (HN2.out w9 F9 L9).mono ?_); clear HN2; rintro e w10 ⟨A10, c10, F10, rfl, V10, B10, L10, O10, S10⟩
             have Q10 := own_step Q9 O10 P9
             have E10 := (E9.only O10 hw8).alloc (.cells #[.int .i64 1, .slice A10 k c10] 36)
             have e0 : (w10.alloc (.cells #[.int .i64 1, .slice A10 k c10] 36)).cell? ⟨w8.heap.size, 0, none⟩ = some (.int .i64 3) := (by rw [E10.cell]; rfl)
             have e1 : (w10.alloc (.cells #[.int .i64 1, .slice A10 k c10] 36)).cell? ⟨w8.heap.size, 1, none⟩ = some (.slice A8 n0 c8) := (by rw [E10.cell]; rfl)
             have hce := str_of ((V9.only O10 (fun ad e => by subst e; exact hA8 ad.block (by simp))).alloc (.cells #[.int .i64 1, .slice A10 k c10] 36)) c8
             have hcb := str_of (HB.out.keep (Q10.alloc (.cells #[.int .i64 1, .slice A10 k c10] 36))) c0
             have hcf := str_of (V10.alloc (.cells #[.int .i64 1, .slice A10 k c10] 36)) c10
             have hct := str_of (HTT.out.keep (Q10.alloc (.cells #[.int .i64 1, .slice A10 k c10] 36))) c1)
          | (go_at_call 12; (with_reducible refine (HF2.out (w8.alloc (.cells #[.int .i64 3, .slice A8 n0 c8] 36)) F8 L8a A6' (c6 - kk) V8p).mono ?_); clear HF2; rintro e w9 ⟨F9, rfl, L9, O9, B9⟩
             have Q9 := own_step (Q8.alloc _) O9 P8
             have P9 := fp_step (Q8.alloc _) P8 B9
             have hz78 := O8.size
             have E9 := (Bk.new w8 36 #[.int .i64 3, .slice A8 n0 c8]).only O9 (fun hm => by have := hF8 _ hm; omega)
             have hw8 : w8.heap.size ∉ g :: F9 := (fun hm => by rcases List.mem_cons.1 hm with h | h; (have := hF8 g (by simp); omega); rcases B9 _ h with h | h; (have := hF8 _ (List.mem_cons_of_mem _ h); omega); (rw [World.size_alloc] at h; omega))
             have hA8 : ∀ x ∈ blks A8, x ∉ g :: F9 := (fun x hx hm => by have h0 := B8 x hx; rcases List.mem_cons.1 hm with h | h; (have := hF8 g (by simp); omega); rcases B9 _ h with h | h; (have := hF8 _ (List.mem_cons_of_mem _ h); omega); (simp at h; omega))
             have V9 := (V8.alloc (.cells #[.int .i64 3, .slice A8 n0 c8] 36)).only O9 (fun ad e hm => by subst e; have h0 := B8 ad.block (by simp); have := hF8 _ hm; omega))
          | (go_at_call 14; (with_reducible refine (HN1.out w7 F7 L7).mono ?_); clear HN1; rintro e w8 ⟨A8, c8, F8, rfl, V8, B8, L8, O8, S8⟩
             have Q8 := own_step Q7 O8 P7
             have P8 := fp_sub P7 S8
             have L8a := L8.keep ((Only.refl [] w8).alloc (.cells #[.int .i64 3, .slice A8 n0 c8] 36))
             have V8p : Sl (w8.alloc (.cells #[.int .i64 3, .slice A8 n0 c8] 36)) A6' (n0 + k + 1 - kk) (bvs (p.drop kk)) := (V7.only O8 (fun ad e => by have h := hA7 ad.block (by rw [← HBL6.out, e]; simp); exact h.2)).alloc _
             have hF8 : ∀ x ∈ g :: F8, x < w7.heap.size := (fun x hx => by rcases List.mem_cons.1 hx with rfl | h; exact L7.lt; exact L7.flt x (S8 x h)))
          | (go_at_call 12; (with_reducible refine (HF1.out w6 L6 A6 c6 HPRE6.out).mono ?_); clear HF1; rintro e w7 ⟨F7, rfl, L7, O7, B7⟩
             have Q7 := own_step Q6 O7 HP5.out
             have P7 := fp_step Q6 HP5.out B7
             have hA7 : ∀ x ∈ blks A6, x < w7.heap.size ∧ x ∉ g :: F7 := (fun x hx => ⟨Nat.lt_of_lt_of_le (hlt6 x hx) O7.size, far_step (far_new HL5.out (hB6 x hx)) (hlt6 x hx) B7⟩)
             have V7 : Sl w7 A6' (n0 + k + 1 - kk) (bvs (p.drop kk)) := HCUT6.out.only O7 (fun ad e => by have h := hB6 ad.block (by rw [← HBL6.out, e]; simp); exact far_new HL5.out h))
          | (at_builtin; refine wpList_append_sl rfl (.tmp 55) (.tmp 56) 27 rfl 5 i0 (.int .u8 0) 1 Try.underlying27 hi hz0 hz1 hz2 rfl A62 (n0 + k) c62 _ rfl (HV62.alloc _) (some ⟨w62.heap.size, 0, none⟩) 1 1 (bvs [10]) rfl (Sl.of_new w62 #[.int .u8 10] _ _) (bvs_one _) (by unfold maxLen; omega) (by omega) ?_; intro A6 c6 w6 HV6 HO6 HB6
             have hB6 : ∀ x ∈ blks A6, w5.heap.size ≤ x := (fun x hx => by rcases HB6 x hx with h | h; exact hB62 x h; (have := QQ62.size; simp at h; omega))
             have QQ6 : Only [] w5 w6 := own_step (QQ62.alloc _) HO6 hB62
             have hc6 := HV6.cap
             have hk6 : (kk : Int) ≤ (c6 : Int) := (by omega)
             have hn6 : ((n0 : Int) + (k : Int) + 1) ≤ (c6 : Int) := (by omega)
             have hkn6 : (kk : Int) ≤ (n0 : Int) + (k : Int) + 1 := (by omega)
             rw [← bvs_append, ← bvs_append, HPP.out] at HV6
             have hlt6 : ∀ x ∈ blks A6, x < w6.heap.size := (fun x hx => HV6.lt hx)
             have hcut6 := HV6.sl.cut (k := kk) (cap := c6) (by omega) hc6
             obtain ⟨A6', hA6'⟩ : ∃ A', Option.map (fun x => x.add kk) A6 = A' := ⟨_, rfl⟩
             have hbl6 := blks_cut A6 c6 kk
             rw [if_neg (by omega), hA6'] at hcut6 hbl6
             rw [bvs_drop] at hcut6
             have HBL6 := Lib.hid hbl6
             have HCUT6 := Lib.hid hcut6
             have hpre6 := HV6.sl.pre (k := kk) (by omega)
             rw [bvs_take] at hpre6
             have HPRE6 := Lib.hid hpre6
             have L6 := HL5.out.keep QQ6
             have Q6 := HQ5.out.then QQ6
             clear hbl6 hcut6 hpre6)
          | (at_builtin; refine wpList_append_sl rfl (.tmp 53) (.tmp 54) 27 rfl 5 i0 (.int .u8 0) 1 Try.underlying27 hi hz0 hz1 hz2 rfl A61 n0 c61 _ rfl HV61 A1 k c1 (bvs t) rfl (htq.out.keep QQ61) (bvs_one _) (by unfold maxLen; omega) (by omega) ?_; intro A62 c62 w62 HV62 HO62 HB62
             have hB62 : ∀ x ∈ blks A62, w5.heap.size ≤ x := (fun x hx => by rcases HB62 x hx with h | h; exact hB61 x h; (have := QQ61.size; omega))
             have QQ62 : Only [] w5 w62 := own_step QQ61 HO62 hB61)
          | (at_builtin; refine wpList_append_sl rfl (.tmp 51) (.tmp 52) 27 rfl 5 i0 (.int .u8 0) 1 Try.underlying27 hi hz0 hz1 hz2 rfl _ _ _ _ rfl (World.ownsRow_lit w5 #[] 0 (Nat.zero_le _) (Nat.zero_le _) rfl) A0 n0 c0 _ rfl (HB.out.keep (HQ5.out.alloc _)) (bvs_one _) (by unfold maxLen; omega) (by omega) ?_; intro A61 c61 w61 HV61 HO61 HB61
             rw [Array.toList_empty, List.nil_append] at HV61
             rw [Nat.zero_add] at HV61
             have hB61 : ∀ x ∈ blks A61, w5.heap.size ≤ x := (fun x hx => by rcases HB61 x hx with h | h; (simp at h; omega); (simp at h; omega))
             have QQ61 : Only [] w5 w61 := ((Only.refl [] w5).alloc _).trans HO61 (fun x hx => .inr (by simp at hx; omega))))
          go_ret
          exact ⟨rfl, (Q10.alloc _).then O11⟩
        · have hge' : (kk : Int) < (n0 : Int) := by omega
          obtain ⟨a1, a2⟩ := lit_wait (p.take kk) n0 (by omega)
          obtain ⟨b1, b2⟩ := feed_more ⟨p.take kk, false, some n0⟩ (p.drop kk) (by simp only [List.length_drop, htk, hpl]; omega)
          simp only [List.take_append_drop] at b2
          obtain ⟨d1, d2⟩ := lit_next p n0 (by omega)
          rw [hpb] at d1
          rw [hpd] at d2
          have HN1 := Lib.hid (fun (W : World) (F : List Nat) (h : Ln false W g F ⟨p.take kk, false, some n0⟩) => next_as (k := 0) (n := 0) (d := []) (b := false) h a1 a2 rfl rfl rfl rfl)
          have HF2 := Lib.hid (fun (W : World) (F : List Nat) (h : Ln false W g F ⟨p.take kk, false, some n0⟩) (A : Option Addr) (c : Nat) (hx : Sl W A (n0 + k + 1 - kk) (bvs (p.drop kk))) => feed_as h A _ c hx b1 b2)
          have HN3 := Lib.hid (fun (W : World) (F : List Nat) (h : Ln false W g F ⟨p, false, some n0⟩) => next_as (k := 3) (n := n0) (d := b) (b := true) h d1 d2 rfl rfl hbl rfl)
          clear a1 a2 b1 b2 d1 d2 f1 f2 l1 l2 hp hbl htl hpl hpb hpd hdl htk hall HALL
          go_wp2_with (first
          | (go_at_call 20; (with_reducible refine (known_any _).mono ?_); rintro e w13 ⟨rfl, O13⟩)
          | (go_at_call 14; (with_reducible refine (HN2.out ((w10.setCell ⟨w8.heap.size, 0, none⟩ (.int .i64 3)).setCell ⟨w8.heap.size, 1, none⟩ (.slice A10 n0 c10)) F10 L11).mono ?_); clear HN2; rintro e w12 ⟨A12, c12, F12, rfl, V12, B12, L12, O12, S12⟩
             have Q12 := own_step Q11 O12 P10
             have E12 := (E11.only O12 hw10).alloc (.cells #[.int .i64 1, .slice A12 k c12] 36)
             have e0 : (w12.alloc (.cells #[.int .i64 1, .slice A12 k c12] 36)).cell? ⟨w8.heap.size, 0, none⟩ = some (.int .i64 3) := (by rw [E12.cell]; rfl)
             have e1 : (w12.alloc (.cells #[.int .i64 1, .slice A12 k c12] 36)).cell? ⟨w8.heap.size, 1, none⟩ = some (.slice A10 n0 c10) := (by rw [E12.cell]; rfl)
             have hce := str_of ((V11.only O12 (fun ad e => by subst e; exact hA10 ad.block (by simp))).alloc (.cells #[.int .i64 1, .slice A12 k c12] 36)) c10
             have hcb := str_of (HB.out.keep (Q12.alloc (.cells #[.int .i64 1, .slice A12 k c12] 36))) c0
             have hcf := str_of (V12.alloc (.cells #[.int .i64 1, .slice A12 k c12] 36)) c12
             have hct := str_of (HTT.out.keep (Q12.alloc (.cells #[.int .i64 1, .slice A12 k c12] 36))) c1)
          | (go_at_call 14; (with_reducible refine (HN3.out w9 F9 L9).mono ?_); clear HN3; rintro e w10 ⟨A10, c10, F10, rfl, V10, B10, L10, O10, S10⟩
             have Q10 := own_step Q9 O10 P9
             have P10 := fp_sub P9 S10
             have E10 := E9.only O10 hw8
             have r0 : w10.cell? ⟨w8.heap.size, 0, none⟩ = some (.int .i64 0) := (by rw [E10.cell]; rfl)
             have r1 : w10.cell? ⟨w8.heap.size, 1, none⟩ = some (.slice A8 0 c8) := (by rw [E10.cell]; rfl)
             have t0 := E10.free 0
             have t1 := E10.free 1
             have hz9 := O9.size
             have hw10 : w8.heap.size ∉ g :: F10 := (fun hm => hw8 (by rcases List.mem_cons.1 hm with h | h; simp [h]; exact List.mem_cons_of_mem _ (S10 _ h)))
             have hA10 : ∀ x ∈ blks A10, x ∉ g :: F10 := (fun x hx hm => by have h0 := (B10 x hx).1; rcases List.mem_cons.1 hm with h | h; (have := L9.lt; omega); (have := L9.flt x (S10 x h); omega))
             have OE : Only [w8.heap.size] w10 ((w10.setCell ⟨w8.heap.size, 0, none⟩ (.int .i64 3)).setCell ⟨w8.heap.size, 1, none⟩ (.slice A10 n0 c10)) := (((Only.refl _ _).setCell (.inl (by simp)) _).setCell (.inl (by simp)) _)
             have E11 := (E10.set 0 (.int .i64 3)).set 1 (.slice A10 n0 c10)
             have L11 := L10.only OE (fun hm => by simp at hm; exact hw10 (by simp [hm])) (fun x hx hm => by simp at hm; subst hm; exact hw10 (List.mem_cons_of_mem _ hx))
             have V11 := V10.only OE (fun ad e hm => by subst e; have h0 := (B10 ad.block (by simp)).1; simp at hm; rw [World.size_alloc] at hz9; omega)
             have Q11 : Only [] w ((w10.setCell ⟨w8.heap.size, 0, none⟩ (.int .i64 3)).setCell ⟨w8.heap.size, 1, none⟩ (.slice A10 n0 c10)) := ((Q10.setCell (.inr Q8.size) _).setCell (.inr Q8.size) _))
          | (go_at_call 12; (with_reducible refine (HF2.out (w8.alloc (.cells #[.int .i64 0, .slice A8 0 c8] 36)) F8 L8a A6' (c6 - kk) V8p).mono ?_); clear HF2; rintro e w9 ⟨F9, rfl, L9, O9, B9⟩
             have Q9 := own_step (Q8.alloc _) O9 P8
             have P9 := fp_step (Q8.alloc _) P8 B9
             have hz78 := O8.size
             have E9 := (Bk.new w8 36 #[.int .i64 0, .slice A8 0 c8]).only O9 (fun hm => by have := hF8 _ hm; omega)
             have hw8 : w8.heap.size ∉ g :: F9 := (fun hm => by rcases List.mem_cons.1 hm with h | h; (have := hF8 g (by simp); omega); rcases B9 _ h with h | h; (have := hF8 _ (List.mem_cons_of_mem _ h); omega); (rw [World.size_alloc] at h; omega))
             have hA8 : ∀ x ∈ blks A8, x ∉ g :: F9 := (fun x hx hm => by have h0 := B8 x hx; rcases List.mem_cons.1 hm with h | h; (have := hF8 g (by simp); omega); rcases B9 _ h with h | h; (have := hF8 _ (List.mem_cons_of_mem _ h); omega); (simp at h; omega))
             have V9 := (V8.alloc (.cells #[.int .i64 0, .slice A8 0 c8] 36)).only O9 (fun ad e hm => by subst e; have h0 := B8 ad.block (by simp); have := hF8 _ hm; omega))
          | (go_at_call 14; (with_reducible refine (HN1.out w7 F7 L7).mono ?_); clear HN1; rintro e w8 ⟨A8, c8, F8, rfl, V8, B8, L8, O8, S8⟩
             have Q8 := own_step Q7 O8 P7
             have P8 := fp_sub P7 S8
             have L8a := L8.keep ((Only.refl [] w8).alloc (.cells #[.int .i64 0, .slice A8 0 c8] 36))
             have V8p : Sl (w8.alloc (.cells #[.int .i64 0, .slice A8 0 c8] 36)) A6' (n0 + k + 1 - kk) (bvs (p.drop kk)) := (V7.only O8 (fun ad e => by have h := hA7 ad.block (by rw [← HBL6.out, e]; simp); exact h.2)).alloc _
             have hF8 : ∀ x ∈ g :: F8, x < w7.heap.size := (fun x hx => by rcases List.mem_cons.1 hx with rfl | h; exact L7.lt; exact L7.flt x (S8 x h)))
          | (go_at_call 12; (with_reducible refine (HF1.out w6 L6 A6 c6 HPRE6.out).mono ?_); clear HF1; rintro e w7 ⟨F7, rfl, L7, O7, B7⟩
             have Q7 := own_step Q6 O7 HP5.out
             have P7 := fp_step Q6 HP5.out B7
             have hA7 : ∀ x ∈ blks A6, x < w7.heap.size ∧ x ∉ g :: F7 := (fun x hx => ⟨Nat.lt_of_lt_of_le (hlt6 x hx) O7.size, far_step (far_new HL5.out (hB6 x hx)) (hlt6 x hx) B7⟩)
             have V7 : Sl w7 A6' (n0 + k + 1 - kk) (bvs (p.drop kk)) := HCUT6.out.only O7 (fun ad e => by have h := hB6 ad.block (by rw [← HBL6.out, e]; simp); exact far_new HL5.out h))
          | (at_builtin; refine wpList_append_sl rfl (.tmp 55) (.tmp 56) 27 rfl 5 i0 (.int .u8 0) 1 Try.underlying27 hi hz0 hz1 hz2 rfl A62 (n0 + k) c62 _ rfl (HV62.alloc _) (some ⟨w62.heap.size, 0, none⟩) 1 1 (bvs [10]) rfl (Sl.of_new w62 #[.int .u8 10] _ _) (bvs_one _) (by unfold maxLen; omega) (by omega) ?_; intro A6 c6 w6 HV6 HO6 HB6
             have hB6 : ∀ x ∈ blks A6, w5.heap.size ≤ x := (fun x hx => by rcases HB6 x hx with h | h; exact hB62 x h; (have := QQ62.size; simp at h; omega))
             have QQ6 : Only [] w5 w6 := own_step (QQ62.alloc _) HO6 hB62
             have hc6 := HV6.cap
             have hk6 : (kk : Int) ≤ (c6 : Int) := (by omega)
             have hn6 : ((n0 : Int) + (k : Int) + 1) ≤ (c6 : Int) := (by omega)
             have hkn6 : (kk : Int) ≤ (n0 : Int) + (k : Int) + 1 := (by omega)
             rw [← bvs_append, ← bvs_append, HPP.out] at HV6
             have hlt6 : ∀ x ∈ blks A6, x < w6.heap.size := (fun x hx => HV6.lt hx)
             have hcut6 := HV6.sl.cut (k := kk) (cap := c6) (by omega) hc6
             obtain ⟨A6', hA6'⟩ : ∃ A', Option.map (fun x => x.add kk) A6 = A' := ⟨_, rfl⟩
             have hbl6 := blks_cut A6 c6 kk
             rw [if_neg (by omega), hA6'] at hcut6 hbl6
             rw [bvs_drop] at hcut6
             have HBL6 := Lib.hid hbl6
             have HCUT6 := Lib.hid hcut6
             have hpre6 := HV6.sl.pre (k := kk) (by omega)
             rw [bvs_take] at hpre6
             have HPRE6 := Lib.hid hpre6
             have L6 := HL5.out.keep QQ6
             have Q6 := HQ5.out.then QQ6
             clear hbl6 hcut6 hpre6)
          | (at_builtin; refine wpList_append_sl rfl (.tmp 53) (.tmp 54) 27 rfl 5 i0 (.int .u8 0) 1 Try.underlying27 hi hz0 hz1 hz2 rfl A61 n0 c61 _ rfl HV61 A1 k c1 (bvs t) rfl (htq.out.keep QQ61) (bvs_one _) (by unfold maxLen; omega) (by omega) ?_; intro A62 c62 w62 HV62 HO62 HB62
             have hB62 : ∀ x ∈ blks A62, w5.heap.size ≤ x := (fun x hx => by rcases HB62 x hx with h | h; exact hB61 x h; (have := QQ61.size; omega))
             have QQ62 : Only [] w5 w62 := own_step QQ61 HO62 hB61)
          | (at_builtin; refine wpList_append_sl rfl (.tmp 51) (.tmp 52) 27 rfl 5 i0 (.int .u8 0) 1 Try.underlying27 hi hz0 hz1 hz2 rfl _ _ _ _ rfl (World.ownsRow_lit w5 #[] 0 (Nat.zero_le _) (Nat.zero_le _) rfl) A0 n0 c0 _ rfl (HB.out.keep (HQ5.out.alloc _)) (bvs_one _) (by unfold maxLen; omega) (by omega) ?_; intro A61 c61 w61 HV61 HO61 HB61
             rw [Array.toList_empty, List.nil_append] at HV61
             rw [Nat.zero_add] at HV61
             have hB61 : ∀ x ∈ blks A61, w5.heap.size ≤ x := (fun x hx => by rcases HB61 x hx with h | h; (simp at h; omega); (simp at h; omega))
             have QQ61 : Only [] w5 w61 := ((Only.refl [] w5).alloc _).trans HO61 (fun x hx => .inr (by simp at hx; omega))))
          go_ret
          exact ⟨rfl, (Q12.alloc _).then O13⟩
  · have hbig' : (1200 : Int) < (n0 : Int) ∨ ((n0 : Int) ≤ 1200 ∧ (200 : Int) < (m : Int)) := by omega
    clear hbig
    rcases hbig' with h1 | ⟨h1, h2⟩
    all_goals
      go_enter Try.func6, Try.ntmps6
      go_wp2
      go_ret
      exact ⟨rfl, Only.refl _ _⟩
end Go.Proofs.Ytiekhgignmbaeaa
