/-
  lex.number: digits as a number.
-/
import Derived.Test.YtbbgdcnnacakjaaDoorYLast
namespace Go.Proofs.YtbbgdcnnacakjaaDoor
open Go.RowKit Go.Instr

theorem ydig_yes {c : UInt8} (h1 : 48 ≤ c.toNat) (h2 : c.toNat ≤ 57) : isDig c = true := by simp [isDig, h1, h2]
theorem ydig_no {c : UInt8} (h : c.toNat < 48 ∨ 57 < c.toNat) : isDig c = false := by
  unfold isDig
  rcases h with h | h
  · rw [decide_eq_false (by omega)]; rfl
  · rw [decide_eq_false (p := c.toNat ≤ 57) (by omega)]; simp
theorem ytake_dig {l : List UInt8} {k : Nat} (h : k < l.length) (ha : (l.take k).all isDig = true) (hd : isDig l[k] = true) : (l.take (k + 1)).all isDig = true ∧ dv 0 (l.take (k + 1)) = stp (dv 0 (l.take k)) l[k] := by
  have e : l.take (k + 1) = l.take k ++ [l[k]] := by rw [List.take_succ_eq_append_getElem h]
  rw [e, dv_snoc, List.all_append, ha]
  simp [hd]
theorem not_all {l : List UInt8} {k : Nat} (h : k < l.length) (hd : isDig l[k] = false) : l.all isDig = false := by
  rw [List.all_eq_false]
  exact ⟨l[k], List.getElem_mem h, by rw [hd]; simp⟩
/-- What is answered of a number of this kind. -/
def numO (o : Option Nat) : Value := match o with
  | none => .tuple #[.int .i64 0, .bool false]
  | some n => .tuple #[.int .i64 (n : Int), .bool true]
set_option maxRecDepth 100000 in
theorem lnumber_any {w : World} {A : Option Addr} {n c : Nat} {l : List UInt8} (hs : Bt w A n c l) : Calls Tryd.prog 29 #[.slice A n c] w fun e w' => e = .returned (numO (numD l)) ∧ w = w' := by
  have hl := hs.len
  have HS := Lib.hid hs
  have HL := Lib.hid hl
  obtain ⟨V, hV⟩ : ∃ V, numO (numD l) = V := ⟨_, rfl⟩
  have HV := Lib.hid hV
  rw [hV]
  clear hs hl hV
  by_cases h1 : n < 1
  · have HE : Hid (V = .tuple #[.int .i64 0, .bool false]) := by
      show _ = _
      rw [← HV.out]
      unfold numD
      rw [if_pos (by rw [HL.out]; exact h1)]
      rfl
    have h1' : (n : Int) < 1 := by omega
    go_enter Tryd.func29, Tryd.ntmps29
    go_wp2
    go_ret2
    exact ⟨by rw [HE.out]; rfl, rfl⟩
  · have h1' : (1 : Int) ≤ (n : Int) := by omega
    by_cases h7 : 7 < n
    · have HE : Hid (V = .tuple #[.int .i64 0, .bool false]) := by
        show _ = _
        rw [← HV.out]
        unfold numD
        rw [if_neg (by rw [HL.out]; exact h1), if_pos (by rw [HL.out]; exact h7)]
        rfl
      have h7' : (7 : Int) < (n : Int) := by omega
      go_enter Tryd.func29, Tryd.ntmps29
      go_wp2
      go_ret2
      exact ⟨by rw [HE.out]; rfl, rfl⟩
    · have h7' : (n : Int) ≤ 7 := by omega
      have HVV : Hid (V = numO (if l.all isDig = true then some (dv 0 l) else none)) := by
        show _ = _
        rw [← HV.out]
        unfold numD
        rw [if_neg (by rw [HL.out]; exact h1), if_neg (by rw [HL.out]; exact h7)]
      go_enter Tryd.func29, Tryd.ntmps29
      go_wp2
      go_loop [4, 17] (fun nv iv => ∃ (k Z : Nat), nv = .int .i64 (Z : Int) ∧ iv = .int .i64 (k : Int) ∧ k ≤ n ∧ Hid (Z = dv 0 (l.take k) ∧ (l.take k).all isDig = true)) (fun _ iv => n - (intOf iv).toNat)
      case atStart => exact ⟨0, 0, rfl, rfl, by omega, by rw [List.take_zero]; exact (dv_nil 0).symm, by rw [List.take_zero]; rfl⟩
      case round =>
        obtain ⟨k, Z, rfl, rfl, hk, HK⟩ := hrel
        by_cases hlt : k < n
        · have hlt' : (k : Int) < (n : Int) := by omega
          have hkl : k < l.length := by rw [HL.out]; omega
          obtain ⟨ad, u, rfl, hu, hc⟩ := HS.out.sl.at_ hlt
          rw [bvs_get l k hkl] at hu
          injection hu with hu
          subst hu
          obtain ⟨x, hx⟩ : ∃ x, l[k] = x := ⟨_, rfl⟩
          rw [hx] at hc
          have hZ : Z < 10000000 := by
            have h := dv_lt (l.take k) 0 HK.out.2
            rw [← HK.out.1, List.length_take] at h
            have h2 : 10 ^ min k l.length ≤ 10 ^ 7 := Nat.pow_le_pow_right (by omega) (by omega)
            omega
          unfold bv at hc
          obtain ⟨y, hy⟩ : ∃ y : Nat, x.toNat = y := ⟨_, rfl⟩
          have hy256 : y < 256 := by rw [← hy]; exact byte_lt _
          rw [hy] at hc
          by_cases hA : 48 ≤ y
          · have hA' : (48 : Int) ≤ (y : Int) := by omega
            by_cases hB : y ≤ 57
            · have hB' : (y : Int) ≤ 57 := by omega
              obtain ⟨k1, k2⟩ := ytake_dig hkl HK.out.2 (by rw [hx]; exact ydig_yes (by omega) (by omega))
              have HR : Hid (∃ (k' Z' : Nat), Value.int .i64 (10 * (Z : Int) + ((y : Int) - 48)) = .int .i64 (Z' : Int) ∧ Value.int .i64 ((k : Int) + 1) = .int .i64 (k' : Int) ∧ k' ≤ n ∧ Hid (Z' = dv 0 (l.take k') ∧ (l.take k').all isDig = true)) := by
                refine ⟨k + 1, dv 0 (l.take (k + 1)), ?_, by simp, by omega, rfl, k1⟩
                rw [k2, ← HK.out.1, hx]
                unfold stp
                rw [hy]
                congr 1
                omega
              have HM : Hid (n - (intOf (.int .i64 ((k : Int) + 1))).toNat < n - (intOf (.int .i64 (k : Int))).toNat) := by
                show n - ((k : Int) + 1).toNat < n - (k : Int).toNat
                omega
              clear hx hy k1 k2
              go_wp2
              exact ⟨HR.out, HM.out⟩
            · have hB' : (57 : Int) < (y : Int) := by omega
              have HE : Hid (V = .tuple #[.int .i64 0, .bool false]) := by
                show _ = _
                rw [HVV.out, not_all hkl (by rw [hx]; exact ydig_no (by omega))]
                rfl
              clear hx hy
              go_wp2
              go_ret2
              exact ⟨by rw [HE.out]; rfl, rfl⟩
          · have hA' : (y : Int) < 48 := by omega
            have HE : Hid (V = .tuple #[.int .i64 0, .bool false]) := by
              show _ = _
              rw [HVV.out, not_all hkl (by rw [hx]; exact ydig_no (by omega))]
              rfl
            clear hx hy
            go_wp2
            go_ret2
            exact ⟨by rw [HE.out]; rfl, rfl⟩
        · obtain rfl : k = n := by omega
          have HE : Hid (V = .tuple #[.int .i64 (Z : Int), .bool true]) := by
            show _ = _
            have h := HK.out
            rw [List.take_of_length_le (by rw [HL.out]; omega)] at h
            rw [HVV.out, if_pos h.2, h.1]
            rfl
          go_wp2
          go_ret2
          exact ⟨by rw [HE.out]; rfl, rfl⟩
end Go.Proofs.YtbbgdcnnacakjaaDoor
