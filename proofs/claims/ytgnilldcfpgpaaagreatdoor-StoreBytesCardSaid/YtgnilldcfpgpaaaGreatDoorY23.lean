/-
  Texts of the seat, laid one behind the other: RefNum Takes0 CDecI SDecI.
-/
import Derived.Test.YtgnilldcfpgpaaaGreatDoorY22
import Derived.Test.YtgnilldcfpgpaaaGreatDoorY12
import Derived.Test.YtgnilldcfpgpaaaGreatDoorY3
import Derived.Test.YtgnilldcfpgpaaaGreatDoorY14
import Derived.Test.YtgnilldcfpgpaaaGreatDoorY13
import Derived.Test.YtgnilldcfpgpaaaGreatDoorY7
import Derived.Test.YtgnilldcfpgpaaaGreatDoorY11
import Derived.Test.YtgnilldcfpgpaaaGreatDoorY6
namespace Go.Proofs.YtgnilldcfpgpaaaGreatDoor
open Go.RowKit
theorem take_of_none {l : List UInt8} (h : dec l = none) : takeV false l = 0 ∧ takeBad false l = true ∧ takeRest false l = [] := by
  have hn : decN l = 0 := by simp [decN, h]
  have hb : takeBad false l = true := by simp [takeBad, hn]
  exact ⟨by simp [takeV, decV, h], hb, by simp [takeRest, hb]⟩
theorem take_of_some {l : List UInt8} {v n : Nat} (h : dec l = some (v, n)) (hn : 0 < n) : takeV false l = v ∧ takeBad false l = false ∧ takeRest false l = l.drop n := by
  have h1 : decN l = n := by simp [decN, h]
  have hb : takeBad false l = false := by
    unfold takeBad
    rw [h1, Bool.false_or, decide_eq_false_iff_not]
    omega
  exact ⟨by simp [takeV, decV, h], hb, by simp [takeRest, hb, h1]⟩
theorem or64_digits (acc y k : Nat) (hk : k ≤ 9) (ha : acc < 128 ^ k) (hy : y * 128 ^ k < 18446744073709551616) : bits .or .u64 (acc : Int) (IntKind.u64.wrap ((y : Int) * 2 ^ (7 * k))) = ((acc + y * 128 ^ k : Nat) : Int) := by
  have hp : (128 : Nat) ^ k = 2 ^ (7 * k) := by rw [Nat.pow_mul]
  have hle : (2 : Nat) ^ (7 * k) ≤ 2 ^ 63 := Nat.pow_le_pow_right (by omega) (by omega)
  have hc : ((y : Int) * 2 ^ (7 * k)) = ((y * 2 ^ (7 * k) : Nat) : Int) := by rw [Int.natCast_mul, Int.natCast_pow]; rfl
  rw [hp] at ha hy ⊢
  rw [hc, IntWalk.u64_in _ (by omega), u64_or_nat acc _ (by omega) (by omega), Nat.or_comm, nat_join (7 * k) _ acc (Nat.mul_mod_left _ _) ha, Nat.add_comm]
set_option maxRecDepth 100000 in
set_option maxHeartbeats 4000000 in
theorem refRNum_any {w : World} {g kb : Nat} {A : Option Addr} {c : Nat} {bad : Bool} {l : List UInt8} (h : Rr w g kb A c bad l) :
    Calls Tryz.prog 74 #[.pointer (some ⟨g, 0, none⟩)] w (TookNumR w g kb (takeV bad l) (takeBad bad l) (takeRest bad l)) := by
  cases bad
  · have hsm := h.small
    go_enter Tryz.func74, Tryz.ntmps74
    go_wp2_with fail
    go_loopw [3, 4] (fun v i wr => ∃ (k acc : Nat) (A' : Option Addr) (c' : Nat), k ≤ 9 ∧ i = .int .i64 k ∧ v = .int .u64 acc ∧ acc < 128 ^ k ∧ Rr wr g kb A' c' false (l.drop k) ∧ Hid (dec l = decF k acc (l.drop k)) ∧ Only [g] w wr) (fun _ i _ => 10 - (intOf i).toNat)
    case atStart => exact ⟨0, 0, A, c, by omega, rfl, rfl, by omega, h, rfl, Only.refl _ _⟩
    case round =>
      obtain ⟨k, acc, A', c', hk9, rfl, rfl, hacc, HR, HD, HO⟩ := hrel
      have HRaw := refRaw_any 1 HR
      cases hd : l.drop k with
      | nil =>
        rw [hd] at HR HRaw HD
        have hb : rawBad false ([] : List UInt8) 1 = true := rfl
        obtain ⟨r1, r2⟩ := raw_of_bad hb
        rw [r1, r2, hb] at HRaw
        have HRw := Lib.hid HRaw
        have hnone : dec l = none := by rw [HD.out]; unfold decF; rfl
        have HT := Lib.hid (take_of_none hnone)
        clear HRaw HD hd hb r1 r2 hnone
        go_wp2_with fail
        refine HRw.out.mono ?_
        rintro e w1 ⟨P, cp, A2, c2, rfl, VP, BP, R2, O1⟩
        have k1 := R2.cell1
        go_wp2_with fail
        go_ret
        rw [HT.out.1, HT.out.2.1, HT.out.2.2]
        exact ⟨rfl, A2, c2, R2, HO.trans O1 (fun x hx => .inl hx)⟩
      | cons b rest =>
        rw [hd] at HR HRaw HD
        have hrest : rest = l.drop (k + 1) := by
          have := congrArg List.tail hd
          simpa [List.tail_drop] using this.symm
        have hb : rawBad false (b :: rest) 1 = false := by
          unfold rawBad
          simp
          omega
        obtain ⟨r1, r2⟩ := raw_of_good hb
        rw [show (1 : Int).toNat = 1 from rfl, List.take_succ_cons, List.take_zero] at r1
        rw [show (1 : Int).toNat = 1 from rfl, List.drop_succ_cons, List.drop_zero] at r2
        rw [r1, r2, hb] at HRaw
        have HRw := Lib.hid HRaw
        have hx256 := byte_lt b
        have HD' := HD.out
        unfold decF at HD'
        have HRest := Lib.hid hrest
        clear HRaw HD hd hb r1 r2 hrest
        have step : ∀ (P : Option Addr) (cp : Nat) (w1 : World), Own w1 5 P 1 cp (bvs [b]) → ∃ ad, P = some ad ∧ w1.cell? ad = some (.int .u8 (b.toNat : Int)) := by
          intro P cp w1 V
          obtain ⟨ad, u, rfl, hu, hc⟩ := V.sl.at_ (k := 0) (by omega)
          rw [bvs_get _ _ (by simp)] at hu
          injection hu with hu
          subst hu
          rw [add_zero] at hc
          exact ⟨ad, rfl, hc⟩
        have Step := Lib.hid step
        clear step
        go_wp2_with fail
        refine HRw.out.mono ?_
        rintro e w1 ⟨P, cp, A2, c2, rfl, VP, BP, R2, O1⟩
        have HO1 := HO.trans O1 (fun x hx => .inl hx)
        have k1 := R2.cell1
        obtain ⟨ad, rfl, hcell⟩ := Step.out P cp w1 VP
        generalize b.toNat = x at *
        have hbad := Lib.hid (fun (W : World) (hW : Rr W g kb A2 c2 false rest) => refBad_any hW)
        have R2' := Lib.hid R2
        by_cases h9 : k = 9
        · rw [if_pos h9] at HD'
          have HT := Lib.hid (take_of_none HD')
          have e9 : ((k : Int) == 9) = true := by rw [beq_iff_eq]; omega
          have hk0 : 0 < k := by omega
          have ea := u8_low7 x hx256
          have hpw : (128 : Nat) ^ k = 9223372036854775808 := by rw [h9]
          clear HD' HRw HRest Step
          by_cases hx127 : 127 < x
          · clear h9 hpw ea
            go_wp2_with (go_at_call 142; go_must (refine (hbad.out _ R2'.out).mono ?_); rintro e w2 ⟨rfl, R3, O3⟩)
            go_ret
            rw [HT.out.1, HT.out.2.1, HT.out.2.2]
            exact ⟨rfl, none, 0, R3, HO1.trans O3 (fun x hx => .inl hx)⟩
          · by_cases hx1 : 1 < x
            · clear h9 hpw ea
              go_wp2_with (go_at_call 142; go_must (refine (hbad.out _ R2'.out).mono ?_); rintro e w2 ⟨rfl, R3, O3⟩)
              go_ret
              rw [HT.out.1, HT.out.2.1, HT.out.2.2]
              exact ⟨rfl, none, 0, R3, HO1.trans O3 (fun x hx => .inl hx)⟩
            · have ea' : bits .and .u8 (x : Int) 127 = (x : Int) := by rw [ea]; omega
              have eo := or64_digits acc x k (by omega) hacc (by rw [hpw]; omega)
              obtain ⟨y, hy⟩ : ∃ y, y = acc + x * 128 ^ k := ⟨_, rfl⟩
              rw [← hy] at eo
              rw [hpw] at hy hacc
              by_cases hx0 : x = 0
              · have hxx : ((x : Int) == 0) = true := by rw [beq_iff_eq]; omega
                clear h9 hpw ea hx0 hy
                go_wp2_with (go_at_call 142; go_must (refine (hbad.out _ R2'.out).mono ?_); rintro e w2 ⟨rfl, R3, O3⟩)
                go_ret
                rw [HT.out.1, HT.out.2.1, HT.out.2.2]
                exact ⟨rfl, none, 0, R3, HO1.trans O3 (fun x hx => .inl hx)⟩
              · have hxx : ((x : Int) == 0) = false := by rw [beq_eq_false_iff_ne]; omega
                have hyb : 4611686018427387904 < y := by omega
                clear h9 hpw ea hx0 hy
                go_wp2_with (go_at_call 142; go_must (refine (hbad.out _ R2'.out).mono ?_); rintro e w2 ⟨rfl, R3, O3⟩)
                go_ret
                rw [HT.out.1, HT.out.2.1, HT.out.2.2]
                exact ⟨rfl, none, 0, R3, HO1.trans O3 (fun x hx => .inl hx)⟩
        · have hk8 : k ≤ 8 := by omega
          rw [if_neg h9] at HD'
          have e9 : ((k : Int) == 9) = false := by rw [beq_eq_false_iff_ne]; omega
          have hle9 : (128 : Nat) ^ k ≤ 128 ^ 8 := Nat.pow_le_pow_right (by omega) hk8
          have hmul : x % 128 * 128 ^ k ≤ 127 * 128 ^ k := Nat.mul_le_mul_right _ (by omega)
          have eo := or64_digits acc (x % 128) k (by omega) hacc (by omega)
          have ea := u8_low7 x hx256
          have hlt : acc + x % 128 * 128 ^ k < 128 ^ (k + 1) := by rw [Nat.pow_succ]; omega
          by_cases hx : x < 128
          · rw [if_pos hx] at HD'
            have hxm : x % 128 = x := Nat.mod_eq_of_lt hx
            have ea' : bits .and .u8 (x : Int) 127 = (x : Int) := by rw [ea]; omega
            rw [hxm] at eo hlt hmul
            obtain ⟨y, hy⟩ : ∃ y, y = acc + x * 128 ^ k := ⟨_, rfl⟩
            rw [← hy] at eo hlt HD'
            have hy63 : y < 9223372036854775808 := by
              have : (128 : Nat) ^ (k + 1) ≤ 128 ^ 9 := Nat.pow_le_pow_right (by omega) (by omega)
              omega
            by_cases hbd : (x = 0 ∧ 0 < k) ∨ 4611686018427387904 < y
            · rw [if_pos hbd] at HD'
              have HT := Lib.hid (take_of_none HD')
              by_cases hz : x = 0 ∧ 0 < k
              · have hxx : ((x : Int) == 0) = true := by rw [beq_iff_eq]; omega
                have hk0 : 0 < k := hz.2
                clear HD' HRw HRest Step hle9 hmul ea hxm hbd hz hy hlt h9 hacc
                go_wp2_with (go_at_call 142; go_must (refine (hbad.out _ R2'.out).mono ?_); rintro e w2 ⟨rfl, R3, O3⟩)
                go_ret
                rw [HT.out.1, HT.out.2.1, HT.out.2.2]
                exact ⟨rfl, none, 0, R3, HO1.trans O3 (fun x hx => .inl hx)⟩
              · have hyb : 4611686018427387904 < y := by omega
                by_cases hk0 : 0 < k
                · have hxx : ((x : Int) == 0) = false := by rw [beq_eq_false_iff_ne]; omega
                  clear HD' HRw HRest Step hle9 hmul ea hxm hbd hz hy hlt h9 hacc
                  go_wp2_with (go_at_call 142; go_must (refine (hbad.out _ R2'.out).mono ?_); rintro e w2 ⟨rfl, R3, O3⟩)
                  go_ret
                  rw [HT.out.1, HT.out.2.1, HT.out.2.2]
                  exact ⟨rfl, none, 0, R3, HO1.trans O3 (fun x hx => .inl hx)⟩
                · clear HD' HRw HRest Step hle9 hmul ea hxm hbd hz hy hlt h9 hacc
                  go_wp2_with (go_at_call 142; go_must (refine (hbad.out _ R2'.out).mono ?_); rintro e w2 ⟨rfl, R3, O3⟩)
                  go_ret
                  rw [HT.out.1, HT.out.2.1, HT.out.2.2]
                  exact ⟨rfl, none, 0, R3, HO1.trans O3 (fun x hx => .inl hx)⟩
            · rw [if_neg hbd] at HD'
              have HT := Lib.hid (take_of_some HD' (by omega))
              have hyb : y ≤ 4611686018427387904 := by omega
              by_cases hk0 : 0 < k
              · have hxx : ((x : Int) == 0) = false := by rw [beq_eq_false_iff_ne]; omega
                clear HD' HRw Step hle9 hmul ea hxm hbd hy hlt h9 hacc
                go_wp2_with fail
                go_ret
                rw [HT.out.1, HT.out.2.1, HT.out.2.2, ← HRest.out]
                exact ⟨rfl, A2, c2, R2'.out, HO1⟩
              · clear HD' HRw Step hle9 hmul ea hxm hbd hy hlt h9 hacc
                go_wp2_with fail
                go_ret
                rw [HT.out.1, HT.out.2.1, HT.out.2.2, ← HRest.out]
                exact ⟨rfl, A2, c2, R2'.out, HO1⟩
          · rw [if_neg hx] at HD'
            obtain ⟨y, hy⟩ : ∃ y, y = acc + x % 128 * 128 ^ k := ⟨_, rfl⟩
            rw [← hy] at eo hlt HD'
            have eo' : bits .or .u64 (acc : Int) (IntKind.u64.wrap ((x : Int) % 128 * 2 ^ (7 * k))) = (y : Int) := by simpa using eo
            have HN := Lib.hid HD'
            clear HD' HRw Step hle9 hmul eo hy h9
            go_wp2_with fail
            go_roundw
            case rel => exact ⟨k + 1, y, A2, c2, by omega, by go_num, rfl, hlt, by rw [← HRest.out]; exact R2'.out, by show _ = _; rw [← HRest.out]; exact HN.out, HO1⟩
            case measure => simp [intOf]; omega
  · have hl := h.err rfl
    subst hl
    have HRaw := refRaw_any 1 h
    have hb : rawBad true ([] : List UInt8) 1 = true := rfl
    obtain ⟨r1, r2⟩ := raw_of_bad hb
    rw [r1, r2, hb] at HRaw
    have HRw := Lib.hid HRaw
    have HT : Hid (takeV true [] = 0 ∧ takeBad true [] = true ∧ takeRest true [] = []) := ⟨rfl, rfl, rfl⟩
    clear HRaw hb r1 r2
    go_enter Tryz.func74, Tryz.ntmps74
    go_wp2_with fail
    go_loopw [3, 4] (fun v i wr => v = .int .u64 0 ∧ i = .int .i64 0 ∧ wr = w) (fun _ i _ => 10 - (intOf i).toNat)
    case atStart => exact ⟨rfl, rfl, rfl⟩
    case round =>
      obtain ⟨rfl, rfl, rfl⟩ := hrel
      go_wp2_with fail
      refine HRw.out.mono ?_
      rintro e w1 ⟨P, cp, A2, c2, rfl, VP, BP, R2, O1⟩
      have k1 := R2.cell1
      go_wp2_with fail
      go_ret
      rw [HT.out.1, HT.out.2.1, HT.out.2.2]
      exact ⟨rfl, A2, c2, R2, O1⟩
end Go.Proofs.YtgnilldcfpgpaaaGreatDoor
namespace Go.Proofs.YtgnilldcfpgpaaaGreatDoor
open Go.RowKit
theorem row_of_bad {bad : Bool} {l : List UInt8} (h : takeBad bad l = true) : rowTook bad l = [] ∧ rowBad bad l = true ∧ rowRest bad l = [] := by
  have hb : rawBad (takeBad bad l) (takeRest bad l) (takeV bad l) = true := by unfold rawBad; rw [h]; rfl
  obtain ⟨g1, g2⟩ := raw_of_bad hb
  exact ⟨g1, hb, g2⟩
set_option maxRecDepth 100000 in
theorem refRBytes_any {w : World} {g kb : Nat} {A : Option Addr} {c : Nat} {bad : Bool} {l : List UInt8} (h : Rr w g kb A c bad l) :
    Calls Tryz.prog 75 #[.pointer (some ⟨g, 0, none⟩)] w (TookRowR w g kb (rowTook bad l) (rowBad bad l) (rowRest bad l)) := by
  have HN := Lib.hid (refRNum_any h)
  cases hb : takeBad bad l with
  | true =>
    have HZ := Lib.hid (row_of_bad hb)
    rw [hb] at HN
    clear hb
    go_enter Tryz.func75, Tryz.ntmps75
    go_wp2_with fail
    refine HN.out.mono ?_
    rintro e w1 ⟨rfl, A1, c1, R1, O1⟩
    have k1 := R1.cell1
    have hl := R1.err rfl
    rw [hl] at R1
    go_wp2_with fail
    go_ret
    rw [HZ.out.1, HZ.out.2.1, HZ.out.2.2]
    exact ⟨none, 0, A1, c1, rfl, Own.nil _ _, fun k hk => (by cases hk), R1, O1⟩
  | false =>
    have HB := Lib.hid hb
    rw [hb] at HN
    have HRw := Lib.hid (fun (W : World) (A1 : Option Addr) (c1 : Nat) (hW : Rr W g kb A1 c1 false (takeRest bad l)) => refRaw_any (takeV bad l : Int) hW)
    clear hb
    go_enter Tryz.func75, Tryz.ntmps75
    go_wp2_with fail
    refine HN.out.mono ?_
    rintro e w1 ⟨rfl, A1, c1, R1, O1⟩
    have k1 := R1.cell1
    go_wp2_with fail
    refine (HRw.out w1 A1 c1 R1).mono ?_
    rintro e w2 ⟨P, cp, A2, c2, rfl, V2, B2, R2, O2⟩
    go_wp2_with fail
    go_ret
    unfold rowTook rowBad rowRest
    rw [HB.out]
    exact ⟨P, cp, A2, c2, rfl, V2, fun k hk => Nat.le_trans O1.size (B2 k hk), R2, O1.trans O2 (fun x hx => .inl hx)⟩
end Go.Proofs.YtgnilldcfpgpaaaGreatDoor
namespace Go.Proofs.YtgnilldcfpgpaaaGreatDoor
open Go.RowKit Go.Instr
theorem inv_load2 {P : Program} {ops : Array Oper} {I : (Nat → Bool) → (Nat → Value) → World → Prop} {Q : Exit → Act → World → Prop} {vs : Nat → Value} {pl : List (Option Value)} {o : Oper} {l : List Oper} {k : Nat} {a : Act} (v : Value) (hw : Region.wanted o (yielded ops a.tmps) = true) (hI : ∀ L w, I L vs w → I (updN L k true) vs w) (hy : ∀ L w, I L vs w → L k = false → (execOp a.eval o).run P w = .ok (.value v) w)
    (hk : inv2Walk P ops I Q vs pl l (k + 1) (a.put o.dst v)) : inv2Walk P ops I Q vs (some v :: pl) (o :: l) k a :=
  ⟨fun L w h hl _ => .inl ⟨hw, gives_value (hy L w h hl) ⟨rfl, hI L w h⟩ trivial⟩, hk⟩
def DecN (w0 : World) (g kb pb : Nat) (cs : Value → Array Value) (Ar : Option Addr) (cr : Nat) (s : RS) (A : Option Addr) (k c : Nat) (l : List Int) (v : Int) (L : Nat → Bool) (vs : Nat → Value) (w : World) : Prop :=
  Only (g :: pb :: blks A) w0 w ∧ ((L 4 = true → L 3 = true) ∧ (L 5 = true → L 1 = true ∧ L 4 = true) ∧ (L 7 = true → L 5 = true)) ∧
  ((L 3 = false → Rr w g kb Ar cr s.1 s.2) ∧ (L 3 = true → vs 3 = .int .i64 v ∧ ∃ A' c', Rr w g kb A' c' (tk s).1 (tk s).2)) ∧
  (L 7 = false → Bk w pb 29 (cs (.slice A k c))) ∧
  (L 5 = false → Own w 3 A k c (ivs l) ∧ (L 4 = true → ∃ k4, vs 4 = .slice (some ⟨k4, 0, none⟩) 1 1 ∧ Bk w k4 3 #[.int .i64 v])) ∧
  (L 5 = true → ∃ A' c', vs 5 = .slice A' (k + 1) c' ∧ Own w 3 A' (k + 1) c' (ivs (l ++ [v])) ∧ (∀ y ∈ blks A', y ∈ blks A ∨ w0.heap.size ≤ y) ∧ (L 7 = true → Bk w pb 29 (cs (.slice A' (k + 1) c'))))
section
variable {w0 w w' : World} {g kb pb : Nat} {cs : Value → Array Value} {Ar : Option Addr} {cr : Nat} {s : RS} {A : Option Addr} {k c : Nat} {l : List Int} {v : Int} {L : Nat → Bool} {vs : Nat → Value}
theorem DecN.start (h1 : Rr w0 g kb Ar cr s.1 s.2) (h2 : Bk w0 pb 29 (cs (.slice A k c))) (h3 : Own w0 3 A k c (ivs l)) (vs : Nat → Value) : DecN w0 g kb pb cs Ar cr s A k c l v (fun _ => false) vs w0.drew := by
  have o : Only [] w0 w0.drew := (Only.refl [] w0).drew
  exact ⟨(Only.refl _ w0).drew, ⟨(fun e => by cases e), (fun e => by cases e), fun e => by cases e⟩, ⟨fun _ => h1.keep o, fun e => by cases e⟩, fun _ => h2.only o (by simp), fun _ => ⟨h3.keep o, fun e => by cases e⟩, fun e => by cases e⟩
theorem DecN.pure {j : Nat} (h : DecN w0 g kb pb cs Ar cr s A k c l v L vs w) (hj : 3 ≠ j ∧ 4 ≠ j ∧ 5 ≠ j ∧ 7 ≠ j) : DecN w0 g kb pb cs Ar cr s A k c l v (updN L j true) vs w := by
  obtain ⟨h0, ⟨a, b, d⟩, h2, h3, h4, h5⟩ := h
  unfold DecN
  simp only [updN_ne _ _ hj.1, updN_ne _ _ hj.2.1, updN_ne _ _ hj.2.2.1, updN_ne _ _ hj.2.2.2]
  refine ⟨h0, ⟨a, fun e => ⟨?_, (b e).2⟩, d⟩, h2, h3, h4, h5⟩
  by_cases hj1 : j = 1
  · subst hj1
    exact updN_self _ _ _
  · rw [updN_ne _ _ (fun e => hj1 e.symm)]
    exact (b e).1
theorem DecN.load (h : DecN w0 g kb pb cs Ar cr s A k c l v L vs w) (hL : L 1 = false) : Bk w pb 29 (cs (.slice A k c)) := by
  refine h.2.2.2.1 ?_
  cases e : L 7 with
  | false => rfl
  | true =>
    have := (h.2.1.2.1 (h.2.1.2.2 e)).1
    rw [hL] at this
    cases this
theorem DecN.no (h : DecN w0 g kb pb cs Ar cr s A k c l v L vs w) : (L 3 = false → L 4 = false) ∧ (L 4 = false → L 5 = false) ∧ (L 5 = false → L 7 = false) :=
  ⟨no_of h.2.1.1, no_of (fun e => (h.2.1.2.1 e).2), no_of h.2.1.2.2⟩
theorem DecN.took {e : Ending} (h : DecN w0 g kb pb cs Ar cr s A k c l v L vs w) (hL : L 3 = false) (hp : pb ≠ g) (ht : TookNumR w g kb (takeV s.1 s.2) (takeBad s.1 s.2) (takeRest s.1 s.2) e w') (hv : tv s = v) : ∃ u, e = .returned u ∧ DecN w0 g kb pb cs Ar cr s A k c l v (updN L 3 true) (updN vs 3 u) w' := by
  obtain ⟨e1, A', c', e4, e5⟩ := ht
  have l4 := h.no.1 hL
  have l5 := h.no.2.1 l4
  have l7 := h.no.2.2 l5
  have hr := h.2.2.1.1 hL
  obtain ⟨h0, ⟨a, b, d⟩, h2, h3, h4, h5⟩ := h
  refine ⟨_, e1, ?_⟩
  unfold DecN
  simp only [updN_self, updN_ne _ _ (show (1 : Nat) ≠ 3 by decide), updN_ne _ _ (show (4 : Nat) ≠ 3 by decide), updN_ne _ _ (show (5 : Nat) ≠ 3 by decide), updN_ne _ _ (show (7 : Nat) ≠ 3 by decide)]
  refine ⟨h0.trans e5 (fun y hy => .inl (by simp at hy; simp [hy])), ⟨fun _ => trivial, b, d⟩, ⟨(fun e => by cases e), fun _ => ⟨by rw [← hv]; rfl, A', c', e4⟩⟩, fun e => (h3 e).only e5 (by simpa using hp), fun e => ⟨(h4 e).1.only e5 (fun y hy => ?_), fun e => by rw [l4] at e; cases e⟩, fun e => by rw [l5] at e; cases e⟩
  obtain ⟨cu, q⟩ := (h4 e).1.bk hy
  simpa using q.ne hr.bk (by decide)
theorem DecN.laid (h : DecN w0 g kb pb cs Ar cr s A k c l v L vs w) (hL : L 4 = false) (h3t : L 3 = true) : vs 3 = .int .i64 v ∧ DecN w0 g kb pb cs Ar cr s A k c l v (updN L 4 true) (updN vs 4 (.slice (some ⟨w.heap.size, 0, none⟩) 1 1)) (w.alloc (.cells #[.int .i64 v] 3)) := by
  have l5 := h.no.2.1 hL
  obtain ⟨h0, ⟨a, b, d⟩, h2, h3, h4, h5⟩ := h
  have o : Only [] w (w.alloc (.cells #[.int .i64 v] 3)) := (Only.refl [] w).alloc _
  refine ⟨(h2.2 h3t).1, ?_⟩
  unfold DecN
  simp only [updN_self, updN_ne _ _ (show (1 : Nat) ≠ 4 by decide), updN_ne _ _ (show (3 : Nat) ≠ 4 by decide), updN_ne _ _ (show (5 : Nat) ≠ 4 by decide), updN_ne _ _ (show (7 : Nat) ≠ 4 by decide)]
  exact ⟨h0.then o, ⟨fun _ => h3t, (fun e => by rw [l5] at e; cases e), d⟩, ⟨(fun e => by rw [h3t] at e; cases e), fun e => by obtain ⟨q, A', c', r⟩ := h2.2 e; exact ⟨q, A', c', r.keep o⟩⟩, fun e => (h3 e).only o (by simp), fun e => ⟨(h4 e).1.keep o, fun _ => ⟨_, rfl, Bk.new w _ _⟩⟩, fun e => by rw [l5] at e; cases e⟩
theorem DecN.more {A' : Option Addr} {c' : Nat} (h : DecN w0 g kb pb cs Ar cr s A k c l v L vs w) (hL : L 5 = false) (h1t : L 1 = true) (h4t : L 4 = true) (hkb : kb ∉ blks A) (o : Only (blks A) w w') (hM : Own w' 3 A' (k + 1) c' (ivs (l ++ [v]))) (hf : ∀ y ∈ blks A', y ∈ blks A ∨ w.heap.size ≤ y) :
    DecN w0 g kb pb cs Ar cr s A k c l v (updN L 5 true) (updN vs 5 (.slice A' (k + 1) c')) w' := by
  have l7 := h.no.2.2 hL
  have h3t := h.2.1.1 h4t
  have hz := h.1.size
  obtain ⟨h0, ⟨a, b, d⟩, h2, h3, h4, h5⟩ := h
  have hO := (h4 hL).1
  have hgA : ∀ {p : Nat} {t : TypeId} {cc : Array Value}, Bk w p t cc → t ≠ 3 → p ∉ blks A := fun hb ht hm => by
    obtain ⟨cu, q⟩ := hO.bk hm
    exact hb.ne q ht rfl
  unfold DecN
  simp only [updN_self, updN_ne _ _ (show (1 : Nat) ≠ 5 by decide), updN_ne _ _ (show (3 : Nat) ≠ 5 by decide), updN_ne _ _ (show (4 : Nat) ≠ 5 by decide), updN_ne _ _ (show (7 : Nat) ≠ 5 by decide)]
  refine ⟨h0.trans o (fun y hy => .inl (by simp [hy])), ⟨a, fun _ => ⟨h1t, h4t⟩, fun _ => trivial⟩, ⟨(fun e => by rw [h3t] at e; cases e), fun e => ?_⟩, fun e => (h3 e).only o (hgA (h3 e) (by decide)), (fun e => by cases e), fun _ => ⟨A', c', rfl, hM, fun y hy => (hf y hy).imp id (fun q => by omega), fun e => by rw [l7] at e; cases e⟩⟩
  obtain ⟨q, A2, c2, r⟩ := h2.2 e
  exact ⟨q, A2, c2, r.only o (hgA r.bk (by decide)) hkb⟩
theorem DecN.store (h : DecN w0 g kb pb cs Ar cr s A k c l v L vs w) (hL : L 7 = false) (h5t : L 5 = true) (hpg : pb ≠ g) (hpk : pb ≠ kb) (hcs : ∀ a b, (cs a).setIfInBounds 5 b = cs b) {u : Value} :
    ∃ A' c', vs 5 = .slice A' (k + 1) c' ∧ Bk w pb 29 (cs (.slice A k c)) ∧ DecN w0 g kb pb cs Ar cr s A k c l v (updN L 7 true) (updN vs 7 u) (w.setCell ⟨pb, 5, none⟩ (.slice A' (k + 1) c')) := by
  have h3t := h.2.1.1 (h.2.1.2.1 h5t).2
  obtain ⟨h0, ⟨a, b, d⟩, h2, h3, h4, h5⟩ := h
  obtain ⟨A', c', e1, e2, e3, _⟩ := h5 h5t
  have o : Only [pb] w (w.setCell ⟨pb, 5, none⟩ (.slice A' (k + 1) c')) := (Only.refl [pb] w).setCell (.inl (by simp)) _
  refine ⟨A', c', e1, h3 hL, ?_⟩
  unfold DecN
  simp only [updN_self, updN_ne _ _ (show (1 : Nat) ≠ 7 by decide), updN_ne _ _ (show (3 : Nat) ≠ 7 by decide), updN_ne _ _ (show (4 : Nat) ≠ 7 by decide), updN_ne _ _ (show (5 : Nat) ≠ 7 by decide)]
  refine ⟨h0.trans o (fun y hy => .inl (by simp at hy; simp [hy])), ⟨a, b, fun _ => h5t⟩, ⟨(fun e => by rw [h3t] at e; cases e), fun e => ?_⟩, (fun e => by cases e), (fun e => by rw [h5t] at e; cases e), fun _ => ⟨A', c', e1, e2.only o (fun y hy => ?_), e3, fun _ => by rw [← hcs (.slice A k c)]; exact (h3 hL).set 5 _⟩⟩
  · obtain ⟨q, A2, c2, r⟩ := h2.2 e
    exact ⟨q, A2, c2, r.only o (by simpa using hpg.symm) (by simpa using hpk.symm)⟩
  · obtain ⟨cu, q⟩ := e2.bk hy
    simpa using q.ne (h3 hL) (by decide)
theorem DecN.end_ (h : DecN w0 g kb pb cs Ar cr s A k c l v L vs w) (h3 : L 3 = true) (h5 : L 5 = true) (h7 : L 7 = true) :
    ∃ A' c' A2 c2, vs 5 = .slice A' (k + 1) c' ∧ Rr w g kb A2 c2 (tk s).1 (tk s).2 ∧ Bk w pb 29 (cs (.slice A' (k + 1) c')) ∧ Own w 3 A' (k + 1) c' (ivs (l ++ [v])) ∧ (∀ y ∈ blks A', y ∈ blks A ∨ w0.heap.size ≤ y) ∧ Only (g :: pb :: blks A) w0 w := by
  obtain ⟨_, A2, c2, r⟩ := h.2.2.1.2 h3
  obtain ⟨A', c', e1, e2, e3, e4⟩ := h.2.2.2.2.2 h5
  exact ⟨A', c', A2, c2, e1, r, e4 h7, e2, e3, h.1⟩
end
def zeroC : Array Value := #[.int .i64 0, .string ⟨#[]⟩, .string ⟨#[]⟩, .string ⟨#[]⟩, .string ⟨#[]⟩, .slice none 0 0, .int .i64 0, .int .i64 0, .int .i64 0, .slice none 0 0]
structure RC (w : World) (g kb pb : Nat) (cs : Array Value) (A : Option Addr) (k c : Nat) (l : List Int) (s : RS) (W : World) : Prop where
  rd : ∃ Ar cr, Rr W g kb Ar cr s.1 s.2
  bx : Bk W pb 29 cs
  ul : Own W 3 A k c (ivs l)
  uf : ∀ y ∈ blks A, w.heap.size < y
  xc : Bk W w.heap.size 29 zeroC
  on : Only [] w W
  ap : pb ≠ g ∧ kb ≤ w.heap.size ∧ w.heap.size < g ∧ w.heap.size < pb
section
variable {w : World} {g kb pb : Nat} {cs : Array Value} {A : Option Addr} {k c : Nat} {l : List Int} {s s' : RS} {W W' : World}
theorem RC.step (h : RC w g kb pb cs A k c l s W) (o : Only [g] W W') (hr : ∃ Ar cr, Rr W' g kb Ar cr s'.1 s'.2) : RC w g kb pb cs A k c l s' W' := by
  have ha := h.ap
  obtain ⟨Ar, cr, r⟩ := h.rd
  refine ⟨hr, h.bx.only o (by simpa using ha.1), h.ul.only o (fun y hy => ?_), h.uf, h.xc.only o (by simp; omega), h.on.trans o (fun y hy => .inr (by simp at hy; omega)), ha⟩
  obtain ⟨cu, q⟩ := h.ul.bk hy
  simpa using q.ne r.bk (by decide)
theorem RC.set (h : RC w g kb pb cs A k c l s W) (i : Nat) (u : Value) : RC w g kb pb (cs.setIfInBounds i u) A k c l s (W.setCell ⟨pb, i, none⟩ u) := by
  have o : Only [pb] W (W.setCell ⟨pb, i, none⟩ u) := (Only.refl [pb] W).setCell (.inl (by simp)) _
  have ha := h.ap
  obtain ⟨Ar, cr, r⟩ := h.rd
  refine ⟨⟨Ar, cr, r.only o (by simpa using ha.1.symm) (by simp; omega)⟩, h.bx.set i u, h.ul.only o (fun y hy => ?_), h.uf, h.xc.only o (by simp; omega), h.on.setCell (.inr (Nat.le_of_lt ha.2.2.2)) _, ha⟩
  obtain ⟨cu, q⟩ := h.ul.bk hy
  simpa using q.ne h.bx (by decide)
theorem RC.num (h : RC w g kb pb cs A k c l s W) {z : Int} (hz : tv s = z) (hs : tk s = s') : Calls Tryz.prog 74 #[.pointer (some ⟨g, 0, none⟩)] W fun e w' => e = .returned (.int .i64 z) ∧ RC w g kb pb cs A k c l s' w' ∧ Only [g] W w' := by
  obtain ⟨Ar, cr, r⟩ := h.rd
  subst hz hs
  exact (refRNum_any r).mono fun e w' ⟨e1, A', c', r', o⟩ => ⟨e1, h.step (s' := tk s) o ⟨A', c', r'⟩, o⟩
theorem RC.row (h : RC w g kb pb cs A k c l s W) {y : List UInt8} {z : Nat} (hy : rv s = y) (hz : y.length = z) (hs : rk s = s') : Calls Tryz.prog 75 #[.pointer (some ⟨g, 0, none⟩)] W fun e w' =>
    ∃ P cp, e = .returned (.slice P z cp) ∧ Own w' 5 P z cp (bvs y) ∧ (∀ k ∈ blks P, W.heap.size ≤ k) ∧ RC w g kb pb cs A k c l s' w' ∧ Only [g] W w' := by
  obtain ⟨Ar, cr, r⟩ := h.rd
  subst hz hy hs
  exact (refRBytes_any r).mono fun e w' ⟨P, cp, A', c', e1, v1, f1, r', o⟩ => ⟨P, cp, e1, v1, f1, h.step (s' := rk s) o ⟨A', c', r'⟩, o⟩
end
end Go.Proofs.YtgnilldcfpgpaaaGreatDoor
namespace Go.Proofs.YtgnilldcfpgpaaaGreatDoor
open Go.RowKit Go.Instr
set_option maxRecDepth 100000 in
set_option maxHeartbeats 2000000 in
theorem rnums1_any {w : World} {g kb s b o : Nat} {x : Int} {A : Option Addr} {c : Nat} {r : RS} (h : Rd w g kb A c r.1 r.2) (hs : Bk w s 144 #[.pointer (some ⟨b, o, none⟩)]) (hc : w.cell? ⟨b, o, none⟩ = some (.int .i64 x)) (hf : w.frozen? ⟨b, o, none⟩ = false) (hbg : b ≠ g) :
    Calls Tryz.prog 67 #[.pointer (some ⟨g, 0, none⟩), .slice (some ⟨s, 0, none⟩) 1 1] w fun e w' => e = .returned (.tuple #[]) ∧ ∃ W A' c', w' = W.setCell ⟨b, o, none⟩ (.int .i64 (tv r)) ∧ Rd W g kb A' c' (tk r).1 (tk r).2 ∧ Only [g] w W := by
  have hsg : s ≠ g := hs.ne h.bk (by decide)
  have HS := Lib.hid hs
  have HR0 := Lib.hid h
  have HC := Lib.hid hc
  have HF := Lib.hid hf
  clear hs h hc hf
  go_enter Tryz.func67, Tryz.ntmps67
  go_wp2
  go_loopw [9] (fun i wr => (i = .int .i64 0 ∧ Hid (wr = w)) ∨ (i = .int .i64 1 ∧ Hid (∃ W A' c', wr = W.setCell ⟨b, o, none⟩ (.int .i64 (tv r)) ∧ Rd W g kb A' c' (tk r).1 (tk r).2 ∧ Only [g] w W))) (fun i _ => 1 - (intOf i).toNat)
  case atStart => exact .inl ⟨rfl, rfl⟩
  case round =>
    rcases hrel with ⟨rfl, HW⟩ | ⟨rfl, HW⟩
    · obtain rfl := HW.out
      have s0 : wr.cell? ⟨s, 0, none⟩ = some (.pointer (some ⟨b, o, none⟩)) := by rw [HS.out.cell]; rfl
      have HNm := Lib.hid (num_any HR0.out)
      go_wp2_with fail
      refine HNm.out.mono ?_
      rintro e w1 ⟨rfl, A1, c1, R1, O1⟩
      have ca := (O1.cell (p := ⟨b, o, none⟩) (block_lt_of_cell HC.out) (by simpa using hbg)).trans HC.out
      have cf := (O1.frozen (p := ⟨b, o, none⟩) (block_lt_of_cell HC.out) (by simpa using hbg)).trans HF.out
      have hlt := block_lt_of_cell ca
      simp only at hlt
      have HQ : Hid (∃ W A' c', w1.setCell ⟨b, o, none⟩ (.int .i64 (tv r)) = W.setCell ⟨b, o, none⟩ (.int .i64 (tv r)) ∧ Rd W g kb A' c' (tk r).1 (tk r).2 ∧ Only [g] wr W) := ⟨w1, A1, c1, rfl, R1, O1⟩
      clear R1 O1
      go_wp2_with fail
      go_roundw
      case rel => exact .inr ⟨by go_num, HQ.out⟩
      case measure => simp [intOf]
    · go_wp2_with fail
      go_end0
      exact ⟨rfl, HW.out⟩
structure RB (w : World) (g kb pb pn : Nat) (cs : Array Value) (A : Option Addr) (k c : Nat) (l : List Int) (cn : Int) (W : World) : Prop where
  bx : Bk W pb 29 cs
  ul : Own W 3 A k c (ivs l)
  uf : ∀ y ∈ blks A, w.heap.size < y
  nn : Bk W pn 3 #[.int .i64 cn]
  nu : pn ∉ blks A
  xc : Bk W w.heap.size 29 zeroC
  on : Only [] w W
  ap : pb ≠ g ∧ pb ≠ kb ∧ pn ≠ g ∧ pn ≠ kb ∧ kb ∉ blks A ∧ w.heap.size < g ∧ w.heap.size < kb ∧ w.heap.size < pb ∧ w.heap.size < pn ∧ g ∉ blks A
structure RP (w : World) (g kb pb pn : Nat) (cs : Array Value) (A : Option Addr) (k c : Nat) (l : List Int) (cn : Int) (s : RS) (W : World) : Prop where
  rd : ∃ Ar cr, Rd W g kb Ar cr s.1 s.2
  rb : RB w g kb pb pn cs A k c l cn W
section
variable {w : World} {g kb pb pn : Nat} {cs : Array Value} {A : Option Addr} {k c : Nat} {l : List Int} {cn : Int} {s s' : RS} {W W' : World}
theorem RB.step (h : RB w g kb pb pn cs A k c l cn W) (o : Only [g] W W') : RB w g kb pb pn cs A k c l cn W' := by
  have ha := h.ap
  refine ⟨h.bx.only o (by simpa using ha.1), h.ul.only o (fun y hy => ?_), h.uf, h.nn.only o (by simpa using ha.2.2.1), h.nu, h.xc.only o (by simp; omega), h.on.trans o (fun y hy => .inr (by simp at hy; omega)), ha⟩
  simp
  rintro rfl
  exact ha.2.2.2.2.2.2.2.2.2 hy
theorem RB.set (h : RB w g kb pb pn cs A k c l cn W) (i : Nat) (u : Value) : RB w g kb pb pn (cs.setIfInBounds i u) A k c l cn (W.setCell ⟨pb, i, none⟩ u) := by
  have o : Only [pb] W (W.setCell ⟨pb, i, none⟩ u) := (Only.refl [pb] W).setCell (.inl (by simp)) _
  have ha := h.ap
  refine ⟨h.bx.set i u, h.ul.only o (fun y hy => ?_), h.uf, h.nn.only o (by simpa using h.nn.ne h.bx (by decide)), h.nu, h.xc.only o (by simp; omega), h.on.setCell (.inr (Nat.le_of_lt ha.2.2.2.2.2.2.2.1)) _, ha⟩
  obtain ⟨cu, q⟩ := h.ul.bk hy
  simpa using q.ne h.bx (by decide)
theorem RB.keep (h : RB w g kb pb pn cs A k c l cn W) (o : Only [] W W') : RB w g kb pb pn cs A k c l cn W' := h.step (o.mono (fun _ hx => nomatch hx))
theorem RP.keep (h : RP w g kb pb pn cs A k c l cn s W) (o : Only [] W W') : RP w g kb pb pn cs A k c l cn s W' := by
  obtain ⟨⟨Ar, cr, r⟩, b⟩ := h
  exact ⟨⟨Ar, cr, r.keep o⟩, b.keep o⟩
theorem RP.set (h : RP w g kb pb pn cs A k c l cn s W) (i : Nat) (u : Value) : RP w g kb pb pn (cs.setIfInBounds i u) A k c l cn s (W.setCell ⟨pb, i, none⟩ u) := by
  have o : Only [pb] W (W.setCell ⟨pb, i, none⟩ u) := (Only.refl [pb] W).setCell (.inl (by simp)) _
  obtain ⟨⟨Ar, cr, r⟩, b⟩ := h
  exact ⟨⟨Ar, cr, r.only o (by simpa using b.ap.1.symm) (by simpa using b.ap.2.1.symm)⟩, b.set i u⟩
theorem RP.num1 (h : RP w g kb pb pn cs A k c l cn s W) (i : Nat) {x z : Int} (hi : cs[i]? = some (.int .i64 x)) (hz : tv s = z) (hs : tk s = s') : Calls Tryz.prog 67 #[.pointer (some ⟨g, 0, none⟩), .slice (some ⟨W.heap.size, 0, none⟩) 1 1] (W.alloc (.cells #[.pointer (some ⟨pb, i, none⟩)] 144)) fun e w' =>
    e = .returned (.tuple #[]) ∧ RP w g kb pb pn (cs.setIfInBounds i (.int .i64 z)) A k c l cn s' w' := by
  have o1 : Only [] W (W.alloc (.cells #[.pointer (some ⟨pb, i, none⟩)] 144)) := (Only.refl [] W).alloc _
  obtain ⟨⟨Ar, cr, r⟩, b⟩ := h
  have b1 := b.keep o1
  refine (rnums1_any (r.keep o1) (Bk.new W _ _) ((b1.bx.cell i).trans hi) (b1.bx.free i) b.ap.1).mono fun e w' ⟨e1, W1, A1, c1, e2, r1, o2⟩ => ?_
  subst e2 hz hs
  exact ⟨e1, (show RP w g kb pb pn cs A k c l cn (tk s) W1 from ⟨⟨A1, c1, r1⟩, b1.step o2⟩).set i _⟩
theorem RP.count (h : RP w g kb pb pn cs A k c l cn s W) {z : Int} (hz : tv s = z) (hs : tk s = s') : Calls Tryz.prog 67 #[.pointer (some ⟨g, 0, none⟩), .slice (some ⟨W.heap.size, 0, none⟩) 1 1] (W.alloc (.cells #[.pointer (some ⟨pn, 0, none⟩)] 144)) fun e w' =>
    e = .returned (.tuple #[]) ∧ RP w g kb pb pn cs A k c l z s' w' := by
  have o1 : Only [] W (W.alloc (.cells #[.pointer (some ⟨pn, 0, none⟩)] 144)) := (Only.refl [] W).alloc _
  obtain ⟨⟨Ar, cr, r⟩, b⟩ := h
  have b1 := b.keep o1
  refine (rnums1_any (r.keep o1) (Bk.new W _ _) (b1.nn.cell 0) (b1.nn.free 0) b.ap.2.2.1).mono fun e w' ⟨e1, W1, A1, c1, e2, r1, o2⟩ => ?_
  subst e2 hz hs
  have b2 := b1.step o2
  have o3 : Only [pn] W1 (W1.setCell ⟨pn, 0, none⟩ (.int .i64 (tv s))) := (Only.refl [pn] W1).setCell (.inl (by simp)) _
  have ha := b.ap
  refine ⟨e1, ⟨A1, c1, r1.only o3 (by simpa using ha.2.2.1.symm) (by simpa using ha.2.2.2.1.symm)⟩, ⟨b2.bx.only o3 (by simpa using (b2.nn.ne b2.bx (by decide)).symm), b2.ul.only o3 (fun y hy => ?_), b.uf, by simpa using b2.nn.set 0 (.int .i64 (tv s)), b.nu, b2.xc.only o3 (by simp; omega), b2.on.setCell (.inr (Nat.le_of_lt ha.2.2.2.2.2.2.2.2.1)) _, ha⟩⟩
  simp
  rintro rfl
  exact b.nu hy
theorem RP.row (h : RP w g kb pb pn cs A k c l cn s W) {y : List UInt8} {z : Nat} (hy : rv s = y) (hz : y.length = z) (hs : rk s = s') : Calls Tryz.prog 72 #[.pointer (some ⟨g, 0, none⟩)] W fun e w' =>
    ∃ P cp, e = .returned (.slice P z cp) ∧ Own w' 5 P z cp (bvs y) ∧ (∀ k ∈ blks P, W.heap.size ≤ k) ∧ RP w g kb pb pn cs A k c l cn s' w' := by
  obtain ⟨⟨Ar, cr, r⟩, b⟩ := h
  subst hz hy hs
  exact (rbytes_any r).mono fun e w' ⟨P, cp, A', c', e1, v1, f1, r', o⟩ => ⟨P, cp, e1, v1, f1, ⟨A', c', r'⟩, b.step o⟩
def FCh (w : World) (g kb pb pn : Nat) (f : Int → Int → Int → Array Value) (A : Option Addr) (k c : Nat) (l : List Int) (cn m fl d : Int) : Nat → World → Prop
  | 0, W => RB w g kb pb pn (f 0 0 0) A k c l cn W
  | 1, W => RB w g kb pb pn (f m 0 0) A k c l cn W
  | 2, W => RB w g kb pb pn (f m fl 0) A k c l cn W
  | _, W => RB w g kb pb pn (f m fl d) A k c l cn W
theorem RP.nums3 {f : Int → Int → Int → Array Value} (h : RP w g kb pb pn (f 0 0 0) A k c l cn s W) {m fl d : Int} {q1 q2 q3 : RS} (hf : ∀ a b c, (f a b c)[6]? = some (.int .i64 a) ∧ (f a b c)[7]? = some (.int .i64 b) ∧ (f a b c)[8]? = some (.int .i64 c)) (g6 : ∀ a b c z, (f a b c).setIfInBounds 6 (.int .i64 z) = f z b c) (g7 : ∀ a b c z, (f a b c).setIfInBounds 7 (.int .i64 z) = f a z c) (g8 : ∀ a b c z, (f a b c).setIfInBounds 8 (.int .i64 z) = f a b z)
    (h1 : tv s = m) (e1 : tk s = q1) (h2 : tv q1 = fl) (e2 : tk q1 = q2) (h3 : tv q2 = d) (e3 : tk q2 = q3) :
    Calls Tryz.prog 67 #[.pointer (some ⟨g, 0, none⟩), .slice (some ⟨W.heap.size, 0, none⟩) 3 3] (W.alloc (.cells #[.pointer (some ⟨pb, 6, none⟩), .pointer (some ⟨pb, 7, none⟩), .pointer (some ⟨pb, 8, none⟩)] 144)) fun e w' =>
      e = .returned (.tuple #[]) ∧ RP w g kb pb pn (f m fl d) A k c l cn q3 w' := by
  have o1 : Only [] W (W.alloc (.cells #[.pointer (some ⟨pb, 6, none⟩), .pointer (some ⟨pb, 7, none⟩), .pointer (some ⟨pb, 8, none⟩)] 144)) := (Only.refl [] W).alloc _
  obtain ⟨⟨Ar, cr, r⟩, b⟩ := h
  subst h1 e1 h2 e2 h3 e3
  have lb := b.bx.lt
  refine (rnumsF_any (r := s) [pb] (FCh w g kb pb pn f A k c l cn (tv s) (tv (tk s)) (tv (tk (tk s)))) (r.keep o1) (Bk.new W _ _) ⟨by simp, by simp, by simp⟩ (by simpa using b.ap.1.symm) (by simpa using b.ap.2.1.symm) (by simp; omega) (b.keep o1) (fun j W W' o hF => ?_) (fun W hF => ⟨⟨_, (hF.bx.cell 6).trans (hf _ _ _).1⟩, hF.bx.free 6, ?_⟩) (fun W hF => ⟨⟨_, (hF.bx.cell 7).trans (hf _ _ _).2.1⟩, hF.bx.free 7, ?_⟩) (fun W hF => ⟨⟨_, (hF.bx.cell 8).trans (hf _ _ _).2.2⟩, hF.bx.free 8, ?_⟩)).mono fun e w' ⟨h1, A', c', h2, h3, h4⟩ => ⟨h1, ⟨A', c', h2⟩, h3⟩
  · match j, hF with
    | 0, hF => exact RB.step hF o
    | 1, hF => exact RB.step hF o
    | 2, hF => exact RB.step hF o
    | n + 3, hF => exact RB.step hF o
  · have := RB.set hF 6 (.int .i64 (tv s))
    rwa [g6] at this
  · have := RB.set hF 7 (.int .i64 (tv (tk s)))
    rwa [g7] at this
  · have := RB.set hF 8 (.int .i64 (tv (tk (tk s))))
    rwa [g8] at this
theorem RP.txt (h : RP w g kb pb pn cs A k c l cn s W) {y : List UInt8} {t : ByteArray} (hy : rv s = y) (ht : St y = t) (hs : rk s = s') : Calls Tryz.prog 68 #[.pointer (some ⟨g, 0, none⟩)] W fun e w' =>
    e = .returned (.string t) ∧ RP w g kb pb pn cs A k c l cn s' w' := by
  obtain ⟨z, hz⟩ : ∃ z, y.length = z := ⟨_, rfl⟩
  have HR := Lib.hid (h.row hy hz hs)
  have HC := Lib.hid (fun (V : World) (A' : Option Addr) (c' : Nat) (hs : Sl V A' z (bvs y)) => by
    have hh := str_at hs c'
    rw [ht] at hh
    exact hh)
  clear h hy hz hs ht
  go_enter Tryz.func68, Tryz.ntmps68
  go_wp2_with (go_at_call 72; go_must (refine HR.out.mono ?_); rintro e w2 ⟨P, cp, rfl, V2, F2, R2⟩; have cv := HC.out w2 P cp V2.sl)
  go_ret
  exact ⟨rfl, R2⟩
end
def chN (pb : Nat) (W : World) : Nat := match W.cell? ⟨pb, 5, none⟩ with
  | some (.slice _ n _) => n
  | _ => 0
def DecP (w0 : World) (g kb pb : Nat) (cs : Value → Array Value) (Ar : Option Addr) (cr : Nat) (s : RS) (A : Option Addr) (k c : Nat) (l : List Int) (v : Int) (L : Nat → Bool) (vs : Nat → Value) (w : World) : Prop :=
  Only (g :: pb :: blks A) w0 w ∧ ((L 4 = true → L 3 = true) ∧ (L 5 = true → L 1 = true ∧ L 4 = true) ∧ (L 7 = true → L 5 = true)) ∧
  ((L 3 = false → Rd w g kb Ar cr s.1 s.2) ∧ (L 3 = true → vs 3 = .int .i64 v ∧ ∃ A' c', Rd w g kb A' c' (tk s).1 (tk s).2)) ∧
  (L 7 = false → Bk w pb 29 (cs (.slice A k c))) ∧
  (L 5 = false → Own w 3 A k c (ivs l) ∧ (L 4 = true → ∃ k4, vs 4 = .slice (some ⟨k4, 0, none⟩) 1 1 ∧ Bk w k4 3 #[.int .i64 v])) ∧
  (L 5 = true → ∃ A' c', vs 5 = .slice A' (k + 1) c' ∧ Own w 3 A' (k + 1) c' (ivs (l ++ [v])) ∧ (∀ y ∈ blks A', y ∈ blks A ∨ w0.heap.size ≤ y) ∧ (L 7 = true → Bk w pb 29 (cs (.slice A' (k + 1) c'))))
section
variable {w0 w w' : World} {g kb pb : Nat} {cs : Value → Array Value} {Ar : Option Addr} {cr : Nat} {s : RS} {A : Option Addr} {k c : Nat} {l : List Int} {v : Int} {L : Nat → Bool} {vs : Nat → Value}
theorem DecP.start (h1 : Rd w0 g kb Ar cr s.1 s.2) (h2 : Bk w0 pb 29 (cs (.slice A k c))) (h3 : Own w0 3 A k c (ivs l)) (vs : Nat → Value) : DecP w0 g kb pb cs Ar cr s A k c l v (fun _ => false) vs w0.drew := by
  have o : Only [] w0 w0.drew := (Only.refl [] w0).drew
  exact ⟨(Only.refl _ w0).drew, ⟨(fun e => by cases e), (fun e => by cases e), fun e => by cases e⟩, ⟨fun _ => h1.keep o, fun e => by cases e⟩, fun _ => h2.only o (by simp), fun _ => ⟨h3.keep o, fun e => by cases e⟩, fun e => by cases e⟩
theorem DecP.pure {j : Nat} (h : DecP w0 g kb pb cs Ar cr s A k c l v L vs w) (hj : 3 ≠ j ∧ 4 ≠ j ∧ 5 ≠ j ∧ 7 ≠ j) : DecP w0 g kb pb cs Ar cr s A k c l v (updN L j true) vs w := by
  obtain ⟨h0, ⟨a, b, d⟩, h2, h3, h4, h5⟩ := h
  unfold DecP
  simp only [updN_ne _ _ hj.1, updN_ne _ _ hj.2.1, updN_ne _ _ hj.2.2.1, updN_ne _ _ hj.2.2.2]
  refine ⟨h0, ⟨a, fun e => ⟨?_, (b e).2⟩, d⟩, h2, h3, h4, h5⟩
  by_cases hj1 : j = 1
  · subst hj1
    exact updN_self _ _ _
  · rw [updN_ne _ _ (fun e => hj1 e.symm)]
    exact (b e).1
theorem DecP.load (h : DecP w0 g kb pb cs Ar cr s A k c l v L vs w) (hL : L 1 = false) : Bk w pb 29 (cs (.slice A k c)) := by
  refine h.2.2.2.1 ?_
  cases e : L 7 with
  | false => rfl
  | true =>
    have := (h.2.1.2.1 (h.2.1.2.2 e)).1
    rw [hL] at this
    cases this
theorem DecP.no (h : DecP w0 g kb pb cs Ar cr s A k c l v L vs w) : (L 3 = false → L 4 = false) ∧ (L 4 = false → L 5 = false) ∧ (L 5 = false → L 7 = false) :=
  ⟨no_of h.2.1.1, no_of (fun e => (h.2.1.2.1 e).2), no_of h.2.1.2.2⟩
theorem DecP.took {e : Ending} (h : DecP w0 g kb pb cs Ar cr s A k c l v L vs w) (hL : L 3 = false) (hp : pb ≠ g) (ht : TookNum w g kb (takeV s.1 s.2) (takeBad s.1 s.2) (takeRest s.1 s.2) e w') (hv : tv s = v) : ∃ u, e = .returned u ∧ DecP w0 g kb pb cs Ar cr s A k c l v (updN L 3 true) (updN vs 3 u) w' := by
  obtain ⟨e1, A', c', e4, e5⟩ := ht
  have l4 := h.no.1 hL
  have l5 := h.no.2.1 l4
  have l7 := h.no.2.2 l5
  have hr := h.2.2.1.1 hL
  obtain ⟨h0, ⟨a, b, d⟩, h2, h3, h4, h5⟩ := h
  refine ⟨_, e1, ?_⟩
  unfold DecP
  simp only [updN_self, updN_ne _ _ (show (1 : Nat) ≠ 3 by decide), updN_ne _ _ (show (4 : Nat) ≠ 3 by decide), updN_ne _ _ (show (5 : Nat) ≠ 3 by decide), updN_ne _ _ (show (7 : Nat) ≠ 3 by decide)]
  refine ⟨h0.trans e5 (fun y hy => .inl (by simp at hy; simp [hy])), ⟨fun _ => trivial, b, d⟩, ⟨(fun e => by cases e), fun _ => ⟨by rw [← hv]; rfl, A', c', e4⟩⟩, fun e => (h3 e).only e5 (by simpa using hp), fun e => ⟨(h4 e).1.only e5 (fun y hy => ?_), fun e => by rw [l4] at e; cases e⟩, fun e => by rw [l5] at e; cases e⟩
  obtain ⟨cu, q⟩ := (h4 e).1.bk hy
  simpa using q.ne hr.bk (by decide)
theorem DecP.laid (h : DecP w0 g kb pb cs Ar cr s A k c l v L vs w) (hL : L 4 = false) (h3t : L 3 = true) : vs 3 = .int .i64 v ∧ DecP w0 g kb pb cs Ar cr s A k c l v (updN L 4 true) (updN vs 4 (.slice (some ⟨w.heap.size, 0, none⟩) 1 1)) (w.alloc (.cells #[.int .i64 v] 3)) := by
  have l5 := h.no.2.1 hL
  obtain ⟨h0, ⟨a, b, d⟩, h2, h3, h4, h5⟩ := h
  have o : Only [] w (w.alloc (.cells #[.int .i64 v] 3)) := (Only.refl [] w).alloc _
  refine ⟨(h2.2 h3t).1, ?_⟩
  unfold DecP
  simp only [updN_self, updN_ne _ _ (show (1 : Nat) ≠ 4 by decide), updN_ne _ _ (show (3 : Nat) ≠ 4 by decide), updN_ne _ _ (show (5 : Nat) ≠ 4 by decide), updN_ne _ _ (show (7 : Nat) ≠ 4 by decide)]
  exact ⟨h0.then o, ⟨fun _ => h3t, (fun e => by rw [l5] at e; cases e), d⟩, ⟨(fun e => by rw [h3t] at e; cases e), fun e => by obtain ⟨q, A', c', r⟩ := h2.2 e; exact ⟨q, A', c', r.keep o⟩⟩, fun e => (h3 e).only o (by simp), fun e => ⟨(h4 e).1.keep o, fun _ => ⟨_, rfl, Bk.new w _ _⟩⟩, fun e => by rw [l5] at e; cases e⟩
theorem DecP.more {A' : Option Addr} {c' : Nat} (h : DecP w0 g kb pb cs Ar cr s A k c l v L vs w) (hL : L 5 = false) (h1t : L 1 = true) (h4t : L 4 = true) (hkb : kb ∉ blks A) (o : Only (blks A) w w') (hM : Own w' 3 A' (k + 1) c' (ivs (l ++ [v]))) (hf : ∀ y ∈ blks A', y ∈ blks A ∨ w.heap.size ≤ y) :
    DecP w0 g kb pb cs Ar cr s A k c l v (updN L 5 true) (updN vs 5 (.slice A' (k + 1) c')) w' := by
  have l7 := h.no.2.2 hL
  have h3t := h.2.1.1 h4t
  have hz := h.1.size
  obtain ⟨h0, ⟨a, b, d⟩, h2, h3, h4, h5⟩ := h
  have hO := (h4 hL).1
  have hgA : ∀ {p : Nat} {t : TypeId} {cc : Array Value}, Bk w p t cc → t ≠ 3 → p ∉ blks A := fun hb ht hm => by
    obtain ⟨cu, q⟩ := hO.bk hm
    exact hb.ne q ht rfl
  unfold DecP
  simp only [updN_self, updN_ne _ _ (show (1 : Nat) ≠ 5 by decide), updN_ne _ _ (show (3 : Nat) ≠ 5 by decide), updN_ne _ _ (show (4 : Nat) ≠ 5 by decide), updN_ne _ _ (show (7 : Nat) ≠ 5 by decide)]
  refine ⟨h0.trans o (fun y hy => .inl (by simp [hy])), ⟨a, fun _ => ⟨h1t, h4t⟩, fun _ => trivial⟩, ⟨(fun e => by rw [h3t] at e; cases e), fun e => ?_⟩, fun e => (h3 e).only o (hgA (h3 e) (by decide)), (fun e => by cases e), fun _ => ⟨A', c', rfl, hM, fun y hy => (hf y hy).imp id (fun q => by omega), fun e => by rw [l7] at e; cases e⟩⟩
  obtain ⟨q, A2, c2, r⟩ := h2.2 e
  exact ⟨q, A2, c2, r.only o (hgA r.bk (by decide)) hkb⟩
theorem DecP.store (h : DecP w0 g kb pb cs Ar cr s A k c l v L vs w) (hL : L 7 = false) (h5t : L 5 = true) (hpg : pb ≠ g) (hpk : pb ≠ kb) (hcs : ∀ a b, (cs a).setIfInBounds 5 b = cs b) {u : Value} :
    ∃ A' c', vs 5 = .slice A' (k + 1) c' ∧ Bk w pb 29 (cs (.slice A k c)) ∧ DecP w0 g kb pb cs Ar cr s A k c l v (updN L 7 true) (updN vs 7 u) (w.setCell ⟨pb, 5, none⟩ (.slice A' (k + 1) c')) := by
  have h3t := h.2.1.1 (h.2.1.2.1 h5t).2
  obtain ⟨h0, ⟨a, b, d⟩, h2, h3, h4, h5⟩ := h
  obtain ⟨A', c', e1, e2, e3, _⟩ := h5 h5t
  have o : Only [pb] w (w.setCell ⟨pb, 5, none⟩ (.slice A' (k + 1) c')) := (Only.refl [pb] w).setCell (.inl (by simp)) _
  refine ⟨A', c', e1, h3 hL, ?_⟩
  unfold DecP
  simp only [updN_self, updN_ne _ _ (show (1 : Nat) ≠ 7 by decide), updN_ne _ _ (show (3 : Nat) ≠ 7 by decide), updN_ne _ _ (show (4 : Nat) ≠ 7 by decide), updN_ne _ _ (show (5 : Nat) ≠ 7 by decide)]
  refine ⟨h0.trans o (fun y hy => .inl (by simp at hy; simp [hy])), ⟨a, b, fun _ => h5t⟩, ⟨(fun e => by rw [h3t] at e; cases e), fun e => ?_⟩, (fun e => by cases e), (fun e => by rw [h5t] at e; cases e), fun _ => ⟨A', c', e1, e2.only o (fun y hy => ?_), e3, fun _ => by rw [← hcs (.slice A k c)]; exact (h3 hL).set 5 _⟩⟩
  · obtain ⟨q, A2, c2, r⟩ := h2.2 e
    exact ⟨q, A2, c2, r.only o (by simpa using hpg.symm) (by simpa using hpk.symm)⟩
  · obtain ⟨cu, q⟩ := e2.bk hy
    simpa using q.ne (h3 hL) (by decide)
theorem DecP.end_ (h : DecP w0 g kb pb cs Ar cr s A k c l v L vs w) (h3 : L 3 = true) (h5 : L 5 = true) (h7 : L 7 = true) :
    ∃ A' c' A2 c2, vs 5 = .slice A' (k + 1) c' ∧ Rd w g kb A2 c2 (tk s).1 (tk s).2 ∧ Bk w pb 29 (cs (.slice A' (k + 1) c')) ∧ Own w 3 A' (k + 1) c' (ivs (l ++ [v])) ∧ (∀ y ∈ blks A', y ∈ blks A ∨ w0.heap.size ≤ y) ∧ Only (g :: pb :: blks A) w0 w := by
  obtain ⟨_, A2, c2, r⟩ := h.2.2.1.2 h3
  obtain ⟨A', c', e1, e2, e3, e4⟩ := h.2.2.2.2.2 h5
  exact ⟨A', c', A2, c2, e1, r, e4 h7, e2, e3, h.1⟩
end
end Go.Proofs.YtgnilldcfpgpaaaGreatDoor
