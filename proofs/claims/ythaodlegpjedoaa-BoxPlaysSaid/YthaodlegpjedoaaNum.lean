/-
  Plain mathematics of numbers as bytes: nothing of the program stands here.
-/
namespace Go.Proofs.Ythaodlegpjedoaa

/-- A number from 0 on as bytes: seven digits a byte, the lowest first. -/
def enc (v : Nat) : List UInt8 := if v < 128 then [UInt8.ofNat v] else UInt8.ofNat (v % 128 + 128) :: enc (v / 128)
termination_by v
decreasing_by omega

theorem enc_small {v : Nat} (h : v < 128) : enc v = [UInt8.ofNat v] := by rw [enc, if_pos h]
theorem enc_more {v : Nat} (h : ¬ v < 128) : enc v = UInt8.ofNat (v % 128 + 128) :: enc (v / 128) := by rw [enc, if_neg h]

/-- What is laid for a number. -/
def clamp (v : Int) : Nat := if v < 0 then 0 else if 4611686018427387904 < v then 4611686018427387904 else v.toNat
theorem clamp_neg {v : Int} (h : v < 0) : clamp v = 0 := by rw [clamp, if_pos h]
theorem clamp_big {v : Int} (h : 4611686018427387904 < v) : clamp v = 4611686018427387904 := by
  have : ¬ v < 0 := by omega
  rw [clamp, if_neg this, if_pos h]
theorem clamp_mid {v : Int} (h0 : 0 ≤ v) (h : v ≤ 4611686018427387904) : clamp v = v.toNat := by
  rw [clamp, if_neg (by omega), if_neg (by omega)]
theorem clamp_le (v : Int) : clamp v ≤ 4611686018427387904 := by unfold clamp; split <;> (try split) <;> omega

theorem enc_len_pos (v : Nat) : 0 < (enc v).length := by
  rw [enc]; split <;> simp
theorem enc_len (k : Nat) : ∀ v : Nat, v < 128 ^ (k + 1) → (enc v).length ≤ k + 1 := by
  induction k with
  | zero => intro v h; rw [enc_small (by omega)]; simp
  | succ k ih =>
    intro v h
    by_cases hv : v < 128
    · rw [enc_small hv]; simp
    · rw [enc_more hv, List.length_cons]
      have : v / 128 < 128 ^ (k + 1) := by
        rw [Nat.div_lt_iff_lt_mul (by omega)]
        calc v < 128 ^ (k + 1 + 1) := h
          _ = 128 ^ (k + 1) * 128 := by rw [Nat.pow_succ]
      have := ih _ this
      omega
theorem enc_len9 {v : Nat} (h : v ≤ 4611686018427387904) : (enc v).length ≤ 9 := enc_len 8 v (by omega)

/-- How many bytes follow the first one. -/
def restLen (x : Nat) : Nat := if x = 0 then 0 else (enc x).length
theorem enc_len_rest (v : Nat) : (enc v).length = 1 + restLen (v / 128) := by
  unfold restLen
  by_cases h : v < 128
  · rw [enc_small h, if_pos (by omega)]; rfl
  · rw [enc_more h, if_neg (by omega), List.length_cons]; omega
theorem restLen_pos {x : Nat} (h : 0 < x) : restLen x = 1 + restLen (x / 128) := by
  rw [← enc_len_rest]
  unfold restLen
  rw [if_neg (by omega)]
theorem restLen_zero : restLen 0 = 0 := rfl
/-- The last byte of a number from 1 on is none of 0. -/
theorem enc_last : ∀ (n v : Nat), v ≤ n → 1 ≤ v → ∃ b : UInt8, (enc v)[(enc v).length - 1]? = some b ∧ b.toNat ≠ 0 := by
  intro n
  induction n with
  | zero => intro v h h1; omega
  | succ n ih =>
    intro v h h1
    by_cases hv : v < 128
    · rw [enc_small hv]
      refine ⟨UInt8.ofNat v, rfl, ?_⟩
      rw [UInt8.toNat_ofNat']
      omega
    · obtain ⟨b, hb, hn⟩ := ih (v / 128) (by omega) (by omega)
      refine ⟨b, ?_, hn⟩
      have hp := enc_len_pos (v / 128)
      rw [enc_more hv, List.length_cons, List.getElem?_cons, if_neg (by omega)]
      simpa using hb

end Go.Proofs.Ythaodlegpjedoaa
