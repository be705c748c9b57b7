/-
  The laws' dec: a number in digits.
-/
import Derived.Test.YtbbgdcnnacakjaaDoorYKnown
import Derived.Test.YtbbgdcnnacakjaaDoorConvT
namespace Go.Proofs.YtbbgdcnnacakjaaDoor
open Go.RowKit Go.Instr

def decD (n : Nat) : List UInt8 := if n < 10 then [UInt8.ofNat (48 + n)] else decD (n / 10) ++ [UInt8.ofNat (48 + n % 10)]
theorem decD_small {n : Nat} (h : n < 10) : decD n = [UInt8.ofNat (48 + n)] := by
  rw [decD, if_pos h]
theorem decD_more {n : Nat} (h : ¬ n < 10) : decD n = decD (n / 10) ++ decD (n % 10) := by
  rw [decD_small (n := n % 10) (by omega)]
  conv => lhs; rw [decD]
  rw [if_neg h]
theorem dig_nat {k : Nat} (h : k < 10) : (UInt8.ofNat (48 + k)).toNat = 48 + k := by
  rw [UInt8.toNat_ofNat']
  omega
theorem decD_all (n : Nat) : (decD n).all isDig = true := by
  induction n using Nat.strongRecOn with
  | _ n ih =>
    rw [decD]
    split
    · rename_i h
      simp only [List.all_cons, List.all_nil, Bool.and_true]
      exact ydig_yes (by rw [dig_nat h]; omega) (by rw [dig_nat h]; omega)
    · rename_i h
      rw [List.all_append, ih (n / 10) (by omega)]
      simp only [List.all_cons, List.all_nil, Bool.and_true, Bool.true_and]
      exact ydig_yes (by rw [dig_nat (by omega)]; omega) (by rw [dig_nat (by omega)]; omega)
theorem decD_val (n : Nat) : dv 0 (decD n) = n := by
  induction n using Nat.strongRecOn with
  | _ n ih =>
    rw [decD]
    split
    · rename_i h
      rw [dv_cons, dv_nil]
      unfold stp
      rw [dig_nat h]
      omega
    · rename_i h
      rw [dv_snoc, ih (n / 10) (by omega)]
      unfold stp
      rw [dig_nat (by omega)]
      omega
theorem decD_len (n : Nat) : ∀ k, 1 ≤ k → n < 10 ^ k → (decD n).length ≤ k := by
  induction n using Nat.strongRecOn with
  | _ n ih =>
    intro k hk hn
    rw [decD]
    split
    · simpa using hk
    · rename_i h
      rw [List.length_append]
      match k, hk with
      | 1, _ => omega
      | k + 2, _ =>
        have := ih (n / 10) (by omega) (k + 1) (by omega) (by rw [Nat.pow_succ] at hn; omega)
        simp only [List.length_cons, List.length_nil]
        omega
theorem decD_pos (n : Nat) : 1 ≤ (decD n).length := by
  rw [decD]
  split <;> simp
theorem decD_19 {n : Nat} (h : n ≤ 9223372036854775807) : (decD n).length ≤ 19 := decD_len n 19 (by omega) (by omega)
set_option maxRecDepth 100000 in
theorem dec_any (n : Nat) : ∀ (w : World), n ≤ 9223372036854775807 → Calls Tryd.prog 19 #[.int .i64 (n : Int)] w fun e w' => ∃ t : ByteArray, e = .returned (.string t) ∧ Hid (t.data.toList = decD n) ∧ Only [] w w' := by
  induction n using Nat.strongRecOn with
  | _ n ih =>
    intro w hn
    by_cases h : n < 10
    · have h' : (n : Int) < 10 := by omega
      have HD := Lib.hid (decD_small h)
      have hE : IntKind.u8.wrap (48 + (n : Int)) = ((UInt8.ofNat (48 + n)).toNat : Int) := by rw [dig_nat h, IntKind.wrap_u8']; omega
      have hcv := run_str_sl (P := Tryd.prog) (w := w.alloc (.cells #[bv (UInt8.ofNat (48 + n))] 5)) 32 9 5 (some ⟨w.heap.size, 0, none⟩) 1 1 [UInt8.ofNat (48 + n)] Tryd.underlying32 Tryd.underlying5 Tryd.underlying9 (Sl.of_bk (Bk.new w 5 #[bv (UInt8.ofNat (48 + n))]))
      unfold bv at hcv
      obtain ⟨t, ht⟩ : ∃ t, St [UInt8.ofNat (48 + n)] = t := ⟨_, rfl⟩
      rw [ht] at hcv
      rw [← hE] at hcv
      have HT := Lib.hid ht
      clear ht ih
      have e9 : IntKind.u8.wrap (48 + (n : Int)) = 48 + (n : Int) := by rw [IntKind.wrap_u8']; omega
      rw [e9] at hcv
      clear hE
      go_enter Tryd.func19, Tryd.ntmps19
      go_wp2_with fail
      go_ret
      exact ⟨t, rfl, by show _ = _; rw [← HT.out, HD.out], (Only.refl _ _).alloc _⟩
    · have h' : ¬ (n : Int) < 10 := by omega
      have HD := Lib.hid (decD_more h)
      have hq := ih (n / 10) (by omega)
      have hr := ih (n % 10) (by omega)
      have eq1 : (n : Int).tdiv 10 = ((n / 10 : Nat) : Int) := by rw [Int.tdiv_eq_ediv_of_nonneg (by omega)]; omega
      have er1 : (n : Int).tmod 10 = ((n % 10 : Nat) : Int) := by rw [Int.tmod_eq_emod_of_nonneg (by omega)]; omega
      obtain ⟨q, hq0⟩ : ∃ q, n / 10 = q := ⟨_, rfl⟩
      obtain ⟨r, hr0⟩ : ∃ r, n % 10 = r := ⟨_, rfl⟩
      rw [hq0] at hq eq1 HD
      rw [hr0] at hr er1 HD
      have hq2 : q ≤ 922337203685477580 := by omega
      have hr2 : r ≤ 9 := by omega
      have HQ := Lib.hid (fun W => hq W (by omega))
      have HR := Lib.hid (fun W => hr W (by omega))
      have eq2 : (n : Int) / 10 = (q : Int) := by omega
      have er2 : (n : Int) % 10 = (r : Int) := by omega
      clear ih hq hr hq0 hr0
      go_enter Tryd.func19, Tryd.ntmps19
      go_wp2_with first
        | (go_at_call 19; (with_reducible refine (HQ.out _).mono ?_); rintro e w2 ⟨t1, rfl, H1, O1⟩; clear HQ; have l1 : t1.size ≤ 19 := (by have := decD_19 (n := q) (by omega); rw [← H1.out] at this; simpa using this))
        | (go_at_call 19; (with_reducible refine (HR.out _).mono ?_); rintro e w3 ⟨t2, rfl, H2, O2⟩; clear HR; have l2 : t2.size ≤ 19 := (by have := decD_19 (n := r) (by omega); rw [← H2.out] at this; simpa using this); obtain ⟨t3, H3, l3, hadd⟩ := add_eq t1 t2 (by omega))
      go_ret
      exact ⟨t3, rfl, by show _ = _; rw [H3, H1.out, H2.out, HD.out], O1.then O2⟩
end Go.Proofs.YtbbgdcnnacakjaaDoor
