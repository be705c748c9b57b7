/-
  The reference's Reader.Num.
-/
import Derived.Test.YthaodlegpjedoaaRefReader
namespace Go.Proofs.Ythaodlegpjedoaa
open Go.RowKit

theorem take_of_none {l : List UInt8} (h : dec l = none) : takeV false l = 0 ∧ takeBad false l = true ∧ takeRest false l = [] := by
  have hn : decN l = 0 := by simp [decN, h]
  have hb : takeBad false l = true := by simp [takeBad, hn]
  exact ⟨by simp [takeV, decV, h], hb, by simp [takeRest, hb]⟩
theorem take_of_some {l : List UInt8} {v n : Nat} (h : dec l = some (v, n)) (hn : 0 < n) : takeV false l = v ∧ takeBad false l = false ∧ takeRest false l = l.drop n := by
  have h1 : decN l = n := by simp [decN, h]
  have hb : takeBad false l = false := by
    unfold takeBad
    rw [h1, Bool.false_or, decide_eq_false_iff_not]
    omega
  exact ⟨by simp [takeV, decV, h], hb, by simp [takeRest, hb, h1]⟩

/-- Seven digits more, behind those that are there, in 64 bits. -/
theorem or64_digits (acc y k : Nat) (hk : k ≤ 9) (ha : acc < 128 ^ k) (hy : y * 128 ^ k < 18446744073709551616) : bits .or .u64 (acc : Int) (IntKind.u64.wrap ((y : Int) * 2 ^ (7 * k))) = ((acc + y * 128 ^ k : Nat) : Int) := by
  have hp : (128 : Nat) ^ k = 2 ^ (7 * k) := by rw [Nat.pow_mul]
  have hle : (2 : Nat) ^ (7 * k) ≤ 2 ^ 63 := Nat.pow_le_pow_right (by omega) (by omega)
  have hc : ((y : Int) * 2 ^ (7 * k)) = ((y * 2 ^ (7 * k) : Nat) : Int) := by rw [Int.natCast_mul, Int.natCast_pow]; rfl
  rw [hp] at ha hy ⊢
  rw [hc, IntWalk.u64_in _ (by omega), u64_or_nat acc _ (by omega) (by omega), Nat.or_comm, nat_join (7 * k) _ acc (Nat.mul_mod_left _ _) ha, Nat.add_comm]

set_option maxRecDepth 100000 in
set_option maxHeartbeats 4000000 in
theorem refRNum_any {w : World} {g kb : Nat} {A : Option Addr} {c : Nat} {bad : Bool} {l : List UInt8} (h : Rr w g kb A c bad l) :
    Calls Try.prog 53 #[.pointer (some ⟨g, 0, none⟩)] w (TookNumR w g kb (takeV bad l) (takeBad bad l) (takeRest bad l)) := by
  cases bad
  · have hsm := h.small
    go_enter Try.func53, Try.ntmps53
    go_wp2_with fail
    go_loopw [3, 4] (fun v i wr => ∃ (k acc : Nat) (A' : Option Addr) (c' : Nat), k ≤ 9 ∧ i = .int .i64 k ∧ v = .int .u64 acc ∧ acc < 128 ^ k ∧ Rr wr g kb A' c' false (l.drop k) ∧ Hid (dec l = decF k acc (l.drop k)) ∧ Only [g] w wr) (fun _ i _ => 10 - (intOf i).toNat)
    case atStart => exact ⟨0, 0, A, c, by omega, rfl, rfl, by omega, h, rfl, Only.refl _ _⟩
    case round =>
      obtain ⟨k, acc, A', c', hk9, rfl, rfl, hacc, HR, HD, HO⟩ := hrel
      have HRaw := refRaw_any 1 HR
      cases hd : l.drop k with
      | nil =>
        rw [hd] at HR HRaw HD
        have hb : rawBad false ([] : List UInt8) 1 = true := rfl
        obtain ⟨r1, r2⟩ := raw_of_bad hb
        rw [r1, r2, hb] at HRaw
        have HRw := Lib.hid HRaw
        have hnone : dec l = none := by rw [HD.out]; unfold decF; rfl
        have HT := Lib.hid (take_of_none hnone)
        clear HRaw HD hd hb r1 r2 hnone
        go_wp2_with fail
        refine HRw.out.mono ?_
        rintro e w1 ⟨P, cp, A2, c2, rfl, VP, BP, R2, O1⟩
        have k1 := R2.cell1
        go_wp2_with fail
        go_ret
        rw [HT.out.1, HT.out.2.1, HT.out.2.2]
        exact ⟨rfl, A2, c2, R2, HO.trans O1 (fun x hx => .inl hx)⟩
      | cons b rest =>
        rw [hd] at HR HRaw HD
        have hrest : rest = l.drop (k + 1) := by
          have := congrArg List.tail hd
          simpa [List.tail_drop] using this.symm
        have hb : rawBad false (b :: rest) 1 = false := by
          unfold rawBad
          simp
          omega
        obtain ⟨r1, r2⟩ := raw_of_good hb
        rw [show (1 : Int).toNat = 1 from rfl, List.take_succ_cons, List.take_zero] at r1
        rw [show (1 : Int).toNat = 1 from rfl, List.drop_succ_cons, List.drop_zero] at r2
        rw [r1, r2, hb] at HRaw
        have HRw := Lib.hid HRaw
        have hx256 := byte_lt b
        have HD' := HD.out
        unfold decF at HD'
        have HRest := Lib.hid hrest
        clear HRaw HD hd hb r1 r2 hrest
        have step : ∀ (P : Option Addr) (cp : Nat) (w1 : World), Own w1 5 P 1 cp (bvs [b]) → ∃ ad, P = some ad ∧ w1.cell? ad = some (.int .u8 (b.toNat : Int)) := by
          intro P cp w1 V
          obtain ⟨ad, u, rfl, hu, hc⟩ := V.sl.at_ (k := 0) (by omega)
          rw [bvs_get _ _ (by simp)] at hu
          injection hu with hu
          subst hu
          rw [add_zero] at hc
          exact ⟨ad, rfl, hc⟩
        have Step := Lib.hid step
        clear step
        go_wp2_with fail
        refine HRw.out.mono ?_
        rintro e w1 ⟨P, cp, A2, c2, rfl, VP, BP, R2, O1⟩
        have HO1 := HO.trans O1 (fun x hx => .inl hx)
        have k1 := R2.cell1
        obtain ⟨ad, rfl, hcell⟩ := Step.out P cp w1 VP
        generalize b.toNat = x at *
        have hbad := Lib.hid (fun (W : World) (hW : Rr W g kb A2 c2 false rest) => refBad_any hW)
        have R2' := Lib.hid R2
        by_cases h9 : k = 9
        · rw [if_pos h9] at HD'
          have HT := Lib.hid (take_of_none HD')
          have e9 : ((k : Int) == 9) = true := by rw [beq_iff_eq]; omega
          have hk0 : 0 < k := by omega
          have ea := u8_low7 x hx256
          have hpw : (128 : Nat) ^ k = 9223372036854775808 := by rw [h9]
          clear HD' HRw HRest Step
          by_cases hx127 : 127 < x
          · clear h9 hpw ea
            go_wp2_with (go_at_call 80; go_must (refine (hbad.out _ R2'.out).mono ?_); rintro e w2 ⟨rfl, R3, O3⟩)
            go_ret
            rw [HT.out.1, HT.out.2.1, HT.out.2.2]
            exact ⟨rfl, none, 0, R3, HO1.trans O3 (fun x hx => .inl hx)⟩
          · by_cases hx1 : 1 < x
            · clear h9 hpw ea
              go_wp2_with (go_at_call 80; go_must (refine (hbad.out _ R2'.out).mono ?_); rintro e w2 ⟨rfl, R3, O3⟩)
              go_ret
              rw [HT.out.1, HT.out.2.1, HT.out.2.2]
              exact ⟨rfl, none, 0, R3, HO1.trans O3 (fun x hx => .inl hx)⟩
            · have ea' : bits .and .u8 (x : Int) 127 = (x : Int) := by rw [ea]; omega
              have eo := or64_digits acc x k (by omega) hacc (by rw [hpw]; omega)
              obtain ⟨y, hy⟩ : ∃ y, y = acc + x * 128 ^ k := ⟨_, rfl⟩
              rw [← hy] at eo
              rw [hpw] at hy hacc
              by_cases hx0 : x = 0
              · have hxx : ((x : Int) == 0) = true := by rw [beq_iff_eq]; omega
                clear h9 hpw ea hx0 hy
                go_wp2_with (go_at_call 80; go_must (refine (hbad.out _ R2'.out).mono ?_); rintro e w2 ⟨rfl, R3, O3⟩)
                go_ret
                rw [HT.out.1, HT.out.2.1, HT.out.2.2]
                exact ⟨rfl, none, 0, R3, HO1.trans O3 (fun x hx => .inl hx)⟩
              · have hxx : ((x : Int) == 0) = false := by rw [beq_eq_false_iff_ne]; omega
                have hyb : 4611686018427387904 < y := by omega
                clear h9 hpw ea hx0 hy
                go_wp2_with (go_at_call 80; go_must (refine (hbad.out _ R2'.out).mono ?_); rintro e w2 ⟨rfl, R3, O3⟩)
                go_ret
                rw [HT.out.1, HT.out.2.1, HT.out.2.2]
                exact ⟨rfl, none, 0, R3, HO1.trans O3 (fun x hx => .inl hx)⟩
        · have hk8 : k ≤ 8 := by omega
          rw [if_neg h9] at HD'
          have e9 : ((k : Int) == 9) = false := by rw [beq_eq_false_iff_ne]; omega
          have hle9 : (128 : Nat) ^ k ≤ 128 ^ 8 := Nat.pow_le_pow_right (by omega) hk8
          have hmul : x % 128 * 128 ^ k ≤ 127 * 128 ^ k := Nat.mul_le_mul_right _ (by omega)
          have eo := or64_digits acc (x % 128) k (by omega) hacc (by omega)
          have ea := u8_low7 x hx256
          have hlt : acc + x % 128 * 128 ^ k < 128 ^ (k + 1) := by rw [Nat.pow_succ]; omega
          by_cases hx : x < 128
          · rw [if_pos hx] at HD'
            have hxm : x % 128 = x := Nat.mod_eq_of_lt hx
            have ea' : bits .and .u8 (x : Int) 127 = (x : Int) := by rw [ea]; omega
            rw [hxm] at eo hlt hmul
            obtain ⟨y, hy⟩ : ∃ y, y = acc + x * 128 ^ k := ⟨_, rfl⟩
            rw [← hy] at eo hlt HD'
            have hy63 : y < 9223372036854775808 := by
              have : (128 : Nat) ^ (k + 1) ≤ 128 ^ 9 := Nat.pow_le_pow_right (by omega) (by omega)
              omega
            by_cases hbd : (x = 0 ∧ 0 < k) ∨ 4611686018427387904 < y
            · rw [if_pos hbd] at HD'
              have HT := Lib.hid (take_of_none HD')
              by_cases hz : x = 0 ∧ 0 < k
              · have hxx : ((x : Int) == 0) = true := by rw [beq_iff_eq]; omega
                have hk0 : 0 < k := hz.2
                clear HD' HRw HRest Step hle9 hmul ea hxm hbd hz hy hlt h9 hacc
                go_wp2_with (go_at_call 80; go_must (refine (hbad.out _ R2'.out).mono ?_); rintro e w2 ⟨rfl, R3, O3⟩)
                go_ret
                rw [HT.out.1, HT.out.2.1, HT.out.2.2]
                exact ⟨rfl, none, 0, R3, HO1.trans O3 (fun x hx => .inl hx)⟩
              · have hyb : 4611686018427387904 < y := by omega
                by_cases hk0 : 0 < k
                · have hxx : ((x : Int) == 0) = false := by rw [beq_eq_false_iff_ne]; omega
                  clear HD' HRw HRest Step hle9 hmul ea hxm hbd hz hy hlt h9 hacc
                  go_wp2_with (go_at_call 80; go_must (refine (hbad.out _ R2'.out).mono ?_); rintro e w2 ⟨rfl, R3, O3⟩)
                  go_ret
                  rw [HT.out.1, HT.out.2.1, HT.out.2.2]
                  exact ⟨rfl, none, 0, R3, HO1.trans O3 (fun x hx => .inl hx)⟩
                · clear HD' HRw HRest Step hle9 hmul ea hxm hbd hz hy hlt h9 hacc
                  go_wp2_with (go_at_call 80; go_must (refine (hbad.out _ R2'.out).mono ?_); rintro e w2 ⟨rfl, R3, O3⟩)
                  go_ret
                  rw [HT.out.1, HT.out.2.1, HT.out.2.2]
                  exact ⟨rfl, none, 0, R3, HO1.trans O3 (fun x hx => .inl hx)⟩
            · rw [if_neg hbd] at HD'
              have HT := Lib.hid (take_of_some HD' (by omega))
              have hyb : y ≤ 4611686018427387904 := by omega
              by_cases hk0 : 0 < k
              · have hxx : ((x : Int) == 0) = false := by rw [beq_eq_false_iff_ne]; omega
                clear HD' HRw Step hle9 hmul ea hxm hbd hy hlt h9 hacc
                go_wp2_with fail
                go_ret
                rw [HT.out.1, HT.out.2.1, HT.out.2.2, ← HRest.out]
                exact ⟨rfl, A2, c2, R2'.out, HO1⟩
              · clear HD' HRw Step hle9 hmul ea hxm hbd hy hlt h9 hacc
                go_wp2_with fail
                go_ret
                rw [HT.out.1, HT.out.2.1, HT.out.2.2, ← HRest.out]
                exact ⟨rfl, A2, c2, R2'.out, HO1⟩
          · rw [if_neg hx] at HD'
            obtain ⟨y, hy⟩ : ∃ y, y = acc + x % 128 * 128 ^ k := ⟨_, rfl⟩
            rw [← hy] at eo hlt HD'
            have eo' : bits .or .u64 (acc : Int) (IntKind.u64.wrap ((x : Int) % 128 * 2 ^ (7 * k))) = (y : Int) := by simpa using eo
            have HN := Lib.hid HD'
            clear HD' HRw Step hle9 hmul eo hy h9
            go_wp2_with fail
            go_roundw
            case rel => exact ⟨k + 1, y, A2, c2, by omega, by go_num, rfl, hlt, by rw [← HRest.out]; exact R2'.out, by show _ = _; rw [← HRest.out]; exact HN.out, HO1⟩
            case measure => simp [intOf]; omega
  · have hl := h.err rfl
    subst hl
    have HRaw := refRaw_any 1 h
    have hb : rawBad true ([] : List UInt8) 1 = true := rfl
    obtain ⟨r1, r2⟩ := raw_of_bad hb
    rw [r1, r2, hb] at HRaw
    have HRw := Lib.hid HRaw
    have HT : Hid (takeV true [] = 0 ∧ takeBad true [] = true ∧ takeRest true [] = []) := ⟨rfl, rfl, rfl⟩
    clear HRaw hb r1 r2
    go_enter Try.func53, Try.ntmps53
    go_wp2_with fail
    go_loopw [3, 4] (fun v i wr => v = .int .u64 0 ∧ i = .int .i64 0 ∧ wr = w) (fun _ i _ => 10 - (intOf i).toNat)
    case atStart => exact ⟨rfl, rfl, rfl⟩
    case round =>
      obtain ⟨rfl, rfl, rfl⟩ := hrel
      go_wp2_with fail
      refine HRw.out.mono ?_
      rintro e w1 ⟨P, cp, A2, c2, rfl, VP, BP, R2, O1⟩
      have k1 := R2.cell1
      go_wp2_with fail
      go_ret
      rw [HT.out.1, HT.out.2.1, HT.out.2.2]
      exact ⟨rfl, A2, c2, R2, O1⟩
end Go.Proofs.Ythaodlegpjedoaa
