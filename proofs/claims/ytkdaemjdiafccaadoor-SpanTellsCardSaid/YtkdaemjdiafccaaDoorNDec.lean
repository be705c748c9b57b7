/-
  The document's numbers as texts.
-/
import Derived.Test.YtkdaemjdiafccaaDoorNTxt
import Derived.Test.YtkdaemjdiafccaaDoorBits
namespace Go.Proofs.YtkdaemjdiafccaaDoor
open Go.RowKit Go.Instr

set_option maxRecDepth 100000 in
theorem dec_base (u : Nat) (h : u < 10) (w : World) : Calls Tryd.prog 39 #[.int .i64 (u : Int)] w fun e w' => e = .returned (.string (St (Lib.decDigits u))) ∧ Only [] w w' := by
  have h10 : (u : Int) < 10 := by omega
  have hd : Lib.decDigits u = [UInt8.ofNat (48 + u)] := Lib.decDigits_one h
  rw [hd]
  have hcv := run_str_sl (P := Tryd.prog) 53 9 5 _ 1 1 [UInt8.ofNat (48 + u)] Tryd.underlying53 Tryd.underlying5 Tryd.underlying9 (sl_one w 5 (48 + (u : Int)) (UInt8.ofNat (48 + u)) (by rw [dig_of h]; omega))
  obtain ⟨t, ht⟩ : ∃ t, St [UInt8.ofNat (48 + u)] = t := ⟨_, rfl⟩
  rw [ht] at hcv ⊢
  have hm : (48 + (u : Int)) % 256 = 48 + (u : Int) := by omega
  clear hd ht h
  go_enter Tryd.func39, Tryd.ntmps39
  go_wp2
  go_ret
  exact ⟨rfl, (Only.refl _ _).alloc _⟩
set_option maxRecDepth 100000 in
theorem Dec_any : ∀ (u : Nat), u ≤ 9999999 → ∀ (w : World), Calls Tryd.prog 39 #[.int .i64 (u : Int)] w fun e w' => e = .returned (.string (St (Lib.decDigits u))) ∧ Only [] w w' := by
  intro u
  induction u using Nat.strongRecOn with
  | _ u ih =>
    intro hu w
    by_cases h : u < 10
    · exact dec_base u h w
    · have hd : Lib.decDigits u = Lib.decDigits (u / 10) ++ Lib.decDigits (u % 10) := by
        rw [Lib.decDigits, dif_neg h, Lib.decDigits_one (show u % 10 < 10 by omega)]
      have cA := fun W => ih (u / 10) (by omega) (by omega) W
      have cB := fun W => ih (u % 10) (by omega) (by omega) W
      have l1 := dec_len (u := u) (by omega) hu
      have hsum := add_txt (Lib.decDigits (u / 10)) (Lib.decDigits (u % 10)) _ hd.symm (by omega)
      obtain ⟨ta, hta⟩ : ∃ t, St (Lib.decDigits (u / 10)) = t := ⟨_, rfl⟩
      obtain ⟨tb, htb⟩ : ∃ t, St (Lib.decDigits (u % 10)) = t := ⟨_, rfl⟩
      obtain ⟨tr, htr⟩ : ∃ t, St (Lib.decDigits u) = t := ⟨_, rfl⟩
      rw [hta] at cA hsum
      rw [htb] at cB hsum
      rw [htr] at hsum ⊢
      have hq : (u : Int).tdiv 10 = ((u / 10 : Nat) : Int) := rfl
      have hr : (u : Int).tmod 10 = ((u % 10 : Nat) : Int) := rfl
      obtain ⟨x, hx⟩ : ∃ x : Nat, u / 10 = x := ⟨_, rfl⟩
      obtain ⟨y, hy⟩ : ∃ y : Nat, u % 10 = y := ⟨_, rfl⟩
      rw [hx] at hq cA
      rw [hy] at hr cB
      have hxb : x ≤ 9999999 := by omega
      have h10 : ¬ (u : Int) < 10 := by omega
      clear ih hd hta htb htr l1 hx hy h
      go_enter Tryd.func39, Tryd.ntmps39
      go_wp2_with first
        | (go_at_call 39; with_reducible refine (cA _).mono ?_; rintro e w2 ⟨rfl, O2⟩)
        | (go_at_call 39; with_reducible refine (cB _).mono ?_; rintro e w3 ⟨rfl, O3⟩)
      go_ret
      exact ⟨rfl, O2.then O3⟩
theorem refDigits_any (n : Int) (h : okN n = true) (w : World) : Calls Tryd.prog 26 #[.int .i64 n] w fun e w' => e = .returned (.string (St (numT n))) ∧ Only [] w w' := by
  rcases okN_cases n with ⟨_, hk⟩ | ⟨h1, h2, hk⟩ | ⟨_, _, hk⟩ | rfl
  · rw [hk] at h; cases h
  · obtain ⟨u, rfl⟩ : ∃ u : Nat, n = u := ⟨n.toNat, by omega⟩
    have hE : numT (u : Int) = Lib.decDigits u := by
      unfold numT Lib.itoa
      rw [if_neg (by omega), if_neg (by omega)]
      rfl
    have cD := fun W => Dec_any u (by omega) W
    rw [hE]
    obtain ⟨t, ht⟩ : ∃ t, St (Lib.decDigits u) = t := ⟨_, rfl⟩
    rw [ht] at cD ⊢
    have hne : ((u : Int) == 1073741824) = false := by rw [beq_eq_false_iff_ne]; omega
    clear hE ht h hk
    go_enter Tryd.func26, Tryd.ntmps26
    go_wp2_with (go_at_call 39; with_reducible refine (cD _).mono ?_; rintro e w2 ⟨rfl, O2⟩)
    go_ret
    exact ⟨rfl, O2⟩
  · rw [hk] at h; cases h
  · go_enter Tryd.func26, Tryd.ntmps26
    go_wp2
    go_ret
    exact ⟨rfl, Only.refl _ _⟩
end Go.Proofs.YtkdaemjdiafccaaDoor
