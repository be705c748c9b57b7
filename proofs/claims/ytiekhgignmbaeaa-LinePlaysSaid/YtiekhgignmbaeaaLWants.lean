/-
  The walk of the law LineWants.
-/
import Derived.Test.YtiekhgignmbaeaaLKnown2
namespace Go.Proofs.Ytiekhgignmbaeaa
open Go.RowKit Go.Instr

theorem tr_clean {b : List UInt8} (h : ∀ x ∈ b, x ≠ 13) : tr b = b := by
  unfold tr Lib.trimSuffix
  rw [if_neg]
  intro hs
  unfold Lib.hasSuffix at hs
  rw [List.isSuffixOf_iff_suffix] at hs
  obtain ⟨d, hd⟩ := hs
  exact h 13 (by rw [← hd]; simp) rfl
/-- A line is told, what follows it waits. -/
theorem line_one (b t : List UInt8) (h10 : ∀ x ∈ b, x ≠ 10) (h13 : ∀ x ∈ b, x ≠ 13) (hl : b.length ≤ 300) : nextR ⟨b ++ 10 :: t, false, none⟩ = some ⟨1, b⟩ ∧ nextS ⟨b ++ 10 :: t, false, none⟩ = ⟨t, false, none⟩ := by
  have hn : nl (b ++ 10 :: t) = b.length := by rw [nl_append _ _ h10, nl_cons]; simp
  have hlt : nl (b ++ 10 :: t) < (b ++ 10 :: t).length := by rw [hn, List.length_append, List.length_cons]; omega
  have ht : (b ++ 10 :: t).take b.length = b := List.take_left
  constructor
  · unfold nextR
    show (if nl (b ++ 10 :: t) < (b ++ 10 :: t).length then some (evOf false ((b ++ 10 :: t).take (nl (b ++ 10 :: t)))) else none) = _
    rw [if_pos hlt, hn, ht]
    unfold evOf
    rw [tr_clean h13, if_neg (by simp; omega)]
  · unfold nextS
    show (if nl (b ++ 10 :: t) < (b ++ 10 :: t).length then (⟨(b ++ 10 :: t).drop (nl (b ++ 10 :: t) + 1), false, none⟩ : LS) else _) = _
    rw [if_pos hlt, hn]
    simp
theorem feed_new (x : List UInt8) (h : x.length ≤ 4096) : feedE K0 x = 0 ∧ feedS K0 x = ⟨x, false, none⟩ := by
  unfold feedE feedS K0
  simp only [List.length_nil, Nat.add_zero]
  rw [if_pos h, if_pos h]
  exact ⟨rfl, rfl⟩
theorem want_as {w : World} {g : Nat} {F : List Nat} {s s' : LS} {e : Nat} {n : Int} (h : Ln false w g F s) (he : wantE n = e) (hs : wantS s n = s') : Calls Try.prog 17 #[.pointer (some ⟨g, 0, none⟩), .int .i64 n] w (Turned false w g F s' (.int .i64 (e : Nat))) := by
  subst he hs
  exact Want_any h n

set_option maxRecDepth 100000 in
set_option maxHeartbeats 4000000 in
theorem wants_any (n : Int) (A : Option Addr) (m c : Nat) (b : List UInt8) (w : World) (hb : Sl w A m (bvs b)) (hmx : m ≤ 140737488351232) :
    Calls Try.prog 9 #[.int .i64 n, .slice A m c] w fun e w' => e = .returned (.bool true) ∧ Only [] w w' := by
  obtain ⟨i0, hi, hz0, hz1, hz2⟩ := info_parts infoByte
  by_cases hbig : 200 < m
  · have hbig' : (200 : Int) < (m : Int) := by omega
    go_enter Try.func9, Try.ntmps9
    go_wp2
    go_ret
    exact ⟨rfl, Only.refl _ _⟩
  · have hbig' : (m : Int) ≤ 200 := by omega
    have HL : Hid (b.length = m) := by show _ = _; simpa using hb.len
    clear hbig
    go_enter Try.func9, Try.ntmps9
    go_wp2
    go_loop [5] (fun i => ∃ k : Nat, k ≤ m ∧ i = .int .i64 k ∧ Hid (∀ x ∈ b.take k, x ≠ 10 ∧ x ≠ 13)) (fun i => m - (intOf i).toNat)
    case atStart => exact ⟨0, Nat.zero_le _, rfl, fun x hx => by simp at hx⟩
    case round =>
      obtain ⟨k, hk, rfl, HK⟩ := hrel
      by_cases hlt : k < m
      · have hkl : k < b.length := by have := HL.out; omega
        obtain ⟨ad, u, rfl, hu, hcell⟩ := hb.at_ hlt
        rw [bvs_get b k hkl] at hu
        injection hu with hu
        subst hu
        have hlt' : (k : Int) < (m : Int) := by omega
        obtain ⟨x, hx⟩ : ∃ x, x = b[k] := ⟨_, rfl⟩
        rw [← hx] at hcell
        unfold bv at hcell
        have HX := Lib.hid hx
        clear hx
        by_cases h10 : x = 10
        · have hy : ((x.toNat : Nat) : Int) = 10 := by rw [h10]; rfl
          rw [hy] at hcell
          clear hy
          go_wp2
          go_ret
          exact ⟨rfl, Only.refl _ _⟩
        · have hy : ((x.toNat : Nat) : Int) ≠ 10 := fun e => h10 (UInt8.toNat_inj.1 (by show _ = 10; omega))
          by_cases h13 : x = 13
          · have hy13 : ((x.toNat : Nat) : Int) = 13 := by rw [h13]; rfl
            rw [hy13] at hcell
            clear hy13 hy
            go_wp2
            go_ret
            exact ⟨rfl, Only.refl _ _⟩
          · have hy13 : ((x.toNat : Nat) : Int) ≠ 13 := fun e => h13 (UInt8.toNat_inj.1 (by show _ = 13; omega))
            generalize hyy : ((x.toNat : Nat) : Int) = y at hcell hy hy13
            clear hyy
            have hy1 : (y == 10) = false := by rw [beq_eq_false_iff_ne]; exact hy
            have hy2 : (y == 13) = false := by rw [beq_eq_false_iff_ne]; exact hy13
            clear hy hy13
            have HN : Hid (∀ x ∈ b.take (k + 1), x ≠ 10 ∧ x ≠ 13) := by
              intro z hz
              rw [List.take_succ_eq_append_getElem hkl] at hz
              rcases List.mem_append.1 hz with hz | hz
              · exact HK.out z hz
              · simp at hz
                rw [hz, ← HX.out]
                exact ⟨h10, h13⟩
            clear HK h10 h13
            go_wp2
            refine ⟨⟨k + 1, by omega, by go_num, HN⟩, ?_⟩
            simp [intOf]
            omega
      · obtain rfl : k = m := by omega
        have hall : ∀ x ∈ b, x ≠ 10 ∧ x ≠ 13 := by
          have h1 := HK.out
          rw [← HL.out, List.take_length] at h1
          exact h1
        clear HK
        by_cases hn : 0 ≤ n ∧ n ≤ 1200
        · obtain ⟨hn0, hn1⟩ := hn
          have HW := Lib.hid (fun (W : World) (g : Nat) (h : Ln false W g [] K0) => want_as (n := n) (e := 0) h (by unfold wantE; rw [if_pos ⟨hn0, hn1⟩]) rfl)
          go_wp2_with (first
            | (go_at_call 20; (with_reducible refine (known_any _).mono ?_); rintro e w9 ⟨rfl, O9⟩)
            | (go_at_call 17; (with_reducible refine (HW.out w4 g L4).mono ?_); clear HW; rintro e w5 ⟨F5, rfl, L5, O5, B5⟩)
            | (go_at_call 11; (with_reducible refine (new_g _).mono ?_); rintro e w4 ⟨g, rfl, L4, O4, P4⟩))
          go_ret
          exact ⟨rfl, (own_step O4 O5 P4).then O9⟩
        · have hl3 : b.length ≤ 300 := by have := HL.out; omega
          obtain ⟨e1, e2⟩ := line_one b [] (fun x hx => (hall x hx).1) (fun x hx => (hall x hx).2) hl3
          obtain ⟨f1, f2⟩ := feed_new (b ++ [10]) (by rw [List.length_append, List.length_singleton]; omega)
          have HW := Lib.hid (fun (W : World) (g : Nat) (h : Ln false W g [] K0) => want_as (n := n) (e := 1) (s' := K0) h (by unfold wantE; rw [if_neg hn]) (by unfold wantS; rw [if_neg hn]))
          have HF := Lib.hid (fun (W : World) (g : Nat) (F : List Nat) (h : Ln false W g F K0) (A : Option Addr) (c : Nat) (hx : Sl W A (k + 1) (bvs b ++ bvs [10])) => feed_as h A (k + 1) c (by rw [bvs_append]; exact hx) f1 f2)
          have HN := Lib.hid (fun (W : World) (g : Nat) (F : List Nat) (h : Ln false W g F ⟨b ++ [10], false, none⟩) => next_as (k := 1) (n := k) (d := b) (b := true) h e1 e2 rfl rfl HL.out rfl)
          have hn' : n < 0 ∨ (0 ≤ n ∧ 1200 < n) := by omega
          clear hn e1 e2 f1 f2 hl3 hall
          rcases hn' with hn0 | ⟨hn0, hn1⟩
          all_goals
            go_wp2_with (first
              | (go_at_call 20; (with_reducible refine (known_any _).mono ?_); rintro e w9 ⟨rfl, O9⟩)
              | (go_at_call 14; (with_reducible refine (HN.out w7 g F7 L7).mono ?_); clear HN
                 rintro e w8 ⟨A8, c8, F8, rfl, V8, B8, L8, O8, S8⟩
                 have Q8 := own_step Q7 O8 P7
                 have hcv := str_of (V8.alloc (.cells #[.int .i64 1, .slice A8 k c8] 36)) c8
                 have hcb := str_of (hb.keep (Q8.alloc (.cells #[.int .i64 1, .slice A8 k c8] 36))) c)
              | (go_at_call 12; (with_reducible refine (HF.out w6 g F5 (L5.keep (QQ6)) A6 c6 HV6.sl).mono ?_); clear HF; rintro e w7 ⟨F7, rfl, L7, O7, B7⟩; have Q7 := own_step Q6 O7 P5; have P7 := fp_step Q6 P5 B7)
              | (at_builtin; refine wpList_append_sl rfl (.tmp 53) (.tmp 54) 27 rfl 5 i0 (.int .u8 0) 1 Try.underlying27 hi hz0 hz1 hz2 rfl A61 k c61 _ rfl (HV61.alloc _) (some ⟨w61.heap.size, 0, none⟩) 1 1 (bvs [10]) rfl (Sl.of_new w61 #[.int .u8 10] _ _) (bvs_one _) (by unfold maxLen; omega) (by omega) ?_; intro A6 c6 w6 HV6 HO6 HB6
                 have QQ6 : Only [] w5 w6 := (QQ61.alloc _).trans HO6 (fun x hx => .inr (by rcases HB61 x hx with h | h; (simp at h; omega); (simp at h; omega)))
                 have Q6 := Q5.then QQ6)
              | (at_builtin; refine wpList_append_sl rfl (.tmp 51) (.tmp 52) 27 rfl 5 i0 (.int .u8 0) 1 Try.underlying27 hi hz0 hz1 hz2 rfl _ _ _ _ rfl (World.ownsRow_lit w5 #[] 0 (Nat.zero_le _) (Nat.zero_le _) rfl) A k c _ rfl (hb.keep (Q5.alloc _)) (bvs_one _) (by unfold maxLen; omega) (by omega) ?_; intro A61 c61 w61 HV61 HO61 HB61
                 rw [Array.toList_empty, List.nil_append] at HV61
                 rw [Nat.zero_add] at HV61
                 have QQ61 : Only [] w5 w61 := ((Only.refl [] w5).alloc _).trans HO61 (fun x hx => .inr (by simp at hx; omega)))
              | (go_at_call 17; (with_reducible refine (HW.out w4 g L4).mono ?_); clear HW; rintro e w5 ⟨F5, rfl, L5, O5, B5⟩; have Q5 := own_step O4 O5 P4; have P5 := fp_step O4 P4 B5)
              | (go_at_call 11; (with_reducible refine (new_g _).mono ?_); rintro e w4 ⟨g, rfl, L4, O4, P4⟩))
            go_ret
            exact ⟨rfl, (Q8.alloc _).then O9⟩
end Go.Proofs.Ytiekhgignmbaeaa
