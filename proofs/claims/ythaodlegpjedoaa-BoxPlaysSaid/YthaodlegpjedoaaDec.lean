/-
  Plain mathematics: the number that bytes begin with. Nothing of the program stands here.
-/
import Derived.Test.YthaodlegpjedoaaNum
namespace Go.Proofs.Ythaodlegpjedoaa

/-- The number whose byte number i stands first, what came ahead being acc; and how many bytes it has in all. -/
def decF : Nat → Nat → List UInt8 → Option (Nat × Nat)
  | _, _, [] => none
  | i, acc, b :: r =>
    if i = 9 then none
    else if b.toNat < 128 then (if (b.toNat = 0 ∧ 0 < i) ∨ 4611686018427387904 < acc + b.toNat * 128 ^ i then none else some (acc + b.toNat * 128 ^ i, i + 1))
    else decF (i + 1) (acc + b.toNat % 128 * 128 ^ i) r
def dec (l : List UInt8) : Option (Nat × Nat) := decF 0 0 l
def decV (l : List UInt8) : Nat := ((dec l).getD (0, 0)).1
def decN (l : List UInt8) : Nat := ((dec l).getD (0, 0)).2

theorem decF_bound : ∀ (l : List UInt8) (i acc v n : Nat), decF i acc l = some (v, n) → v ≤ 4611686018427387904 ∧ i < n ∧ n ≤ i + l.length := by
  intro l
  induction l with
  | nil => intro i acc v n h; simp [decF] at h
  | cons b r ih =>
    intro i acc v n h
    unfold decF at h
    split at h
    · cases h
    · split at h
      · split at h
        · cases h
        · rename_i h3
          simp only [Option.some.injEq, Prod.mk.injEq] at h
          obtain ⟨rfl, rfl⟩ := h
          simp only [List.length_cons]
          omega
      · have := ih _ _ _ _ h
        simp only [List.length_cons]
        omega
theorem decV_le (l : List UInt8) : decV l ≤ 4611686018427387904 := by
  unfold decV
  cases h : dec l with
  | none => simp
  | some p =>
    obtain ⟨v, n⟩ := p
    exact (decF_bound _ _ _ _ _ h).1
theorem decN_le (l : List UInt8) : decN l ≤ l.length := by
  unfold decN
  cases h : dec l with
  | none => simp
  | some p =>
    obtain ⟨v, n⟩ := p
    have := (decF_bound _ _ _ _ _ h).2.2
    simpa using this
theorem dec_none_of {l : List UInt8} (h : decN l = 0) : dec l = none := by
  unfold decN at h
  cases e : dec l with
  | none => rfl
  | some p =>
    obtain ⟨v, n⟩ := p
    rw [e] at h
    have := (decF_bound _ _ _ _ _ e).2.1
    simp at h
    omega
theorem dec_some_of {l : List UInt8} (h : decN l ≠ 0) : dec l = some (decV l, decN l) := by
  unfold decN decV at *
  cases e : dec l with
  | none => rw [e] at h; simp at h
  | some p => rfl

/-- What is laid is taken as it was. -/
theorem decF_enc (r : List UInt8) : ∀ (n v i acc : Nat), v ≤ n → acc + v * 128 ^ i ≤ 4611686018427387904 → i + (enc v).length ≤ 9 → (v = 0 → i = 0) →
    decF i acc (enc v ++ r) = some (acc + v * 128 ^ i, i + (enc v).length) := by
  intro n
  induction n with
  | zero =>
    intro v i acc hv hb hl h0
    obtain rfl : v = 0 := by omega
    obtain rfl : i = 0 := h0 rfl
    rw [enc_small (by omega)]
    show decF 0 acc (UInt8.ofNat 0 :: r) = _
    unfold decF
    simp
    simp at hb
    omega
  | succ n ih =>
    intro v i acc hv hb hl h0
    by_cases hs : v < 128
    · rw [enc_small hs] at hl ⊢
      have ht : (UInt8.ofNat v).toNat = v := by rw [UInt8.toNat_ofNat']; omega
      show decF i acc (UInt8.ofNat v :: r) = _
      unfold decF
      simp only [List.length_singleton] at hl ⊢
      rw [if_neg (by omega), ht, if_pos hs, if_neg (by omega)]
    · rw [enc_more hs] at hl ⊢
      have ht : (UInt8.ofNat (v % 128 + 128)).toNat = v % 128 + 128 := by rw [UInt8.toNat_ofNat']; omega
      show decF i acc (UInt8.ofNat (v % 128 + 128) :: (enc (v / 128) ++ r)) = _
      simp only [List.length_cons] at hl ⊢
      have hp := enc_len_pos (v / 128)
      unfold decF
      rw [if_neg (by omega), ht, if_neg (by omega)]
      have hm : (v % 128 + 128) % 128 = v % 128 := by omega
      have hx : acc + v % 128 * 128 ^ i + v / 128 * 128 ^ (i + 1) = acc + v * 128 ^ i := by
        have h1 : v * 128 ^ i = (v % 128 + 128 * (v / 128)) * 128 ^ i := by rw [Nat.mod_add_div]
        rw [h1, Nat.pow_succ, Nat.add_mul, Nat.add_assoc, Nat.mul_comm 128 (v / 128), Nat.mul_assoc (v / 128), Nat.mul_comm 128 (128 ^ i)]
      rw [hm, ih (v / 128) (i + 1) _ (by omega) (by rw [hx]; exact hb) (by omega) (by omega), hx]
      congr 2
      omega
theorem dec_enc (v : Nat) (r : List UInt8) (h : v ≤ 4611686018427387904) : dec (enc v ++ r) = some (v, (enc v).length) := by
  have := decF_enc r v v 0 0 (Nat.le_refl _) (by simpa using h) (by have := enc_len9 h; omega) (fun _ => rfl)
  simpa [dec] using this
end Go.Proofs.Ythaodlegpjedoaa
