/-
  Plain mathematics of bytes as letters (base64): nothing of the program stands here.
-/
import Derived.Lib.Bytealg
namespace Go.Proofs.Ytjfahkbhhpcnnaa

/-- The letters, by their numbers. -/
def abc : List UInt8 := [65, 66, 67, 68, 69, 70, 71, 72, 73, 74, 75, 76, 77, 78, 79, 80, 81, 82, 83, 84, 85, 86, 87, 88, 89, 90, 97, 98, 99, 100, 101, 102, 103, 104, 105, 106, 107, 108, 109, 110, 111, 112, 113, 114, 115, 116, 117, 118, 119, 120, 121, 122, 48, 49, 50, 51, 52, 53, 54, 55, 56, 57, 43, 47]
theorem abc_length : abc.length = 64 := rfl
def lt (k : Nat) : UInt8 := abc.getD k 0
/-- A byte's number; none: it is no letter. -/
def nx (c : UInt8) : Option Nat := if Lib.indexByte abc c = -1 then none else some (Lib.indexByte abc c).toNat

theorem abc_all : ∀ n < 256, Lib.indexByte abc (UInt8.ofNat n) = -1 ∨ (0 ≤ Lib.indexByte abc (UInt8.ofNat n) ∧ Lib.indexByte abc (UInt8.ofNat n) < 64 ∧ lt (Lib.indexByte abc (UInt8.ofNat n)).toNat = UInt8.ofNat n) := by decide +kernel
theorem ix_cases (c : UInt8) : (Lib.indexByte abc c = -1 ∧ nx c = none) ∨ ∃ k : Nat, k < 64 ∧ Lib.indexByte abc c = (k : Int) ∧ nx c = some k ∧ lt k = c := by
  have h := abc_all c.toNat c.toNat_lt
  rw [UInt8.ofNat_toNat] at h
  rcases h with h | ⟨h0, h1, h2⟩
  · exact .inl ⟨h, by rw [nx, if_pos h]⟩
  · refine .inr ⟨(Lib.indexByte abc c).toNat, by omega, by omega, ?_, h2⟩
    rw [nx, if_neg (by omega)]
theorem nx_lt_all : ∀ k < 64, nx (lt k) = some k := by decide +kernel
theorem nx_lt {k : Nat} (h : k < 64) : nx (lt k) = some k := nx_lt_all k h
theorem lt_pad_all : ∀ k < 64, lt k ≠ 61 := by decide +kernel
theorem lt_pad {k : Nat} (h : k < 64) : lt k ≠ 61 := lt_pad_all k h
theorem nx_pad : nx 61 = none := by decide +kernel
theorem nx_some {c : UInt8} {k : Nat} (h : nx c = some k) : k < 64 ∧ lt k = c := by
  rcases ix_cases c with ⟨_, h1⟩ | ⟨j, h1, _, h2, h3⟩
  · rw [h1] at h; cases h
  · rw [h2] at h; injection h with h; subst h; exact ⟨h1, h3⟩

/-! ### Bytes as letters -/
def l0 (a : UInt8) : UInt8 := lt (a.toNat / 4)
def l1 (a b : UInt8) : UInt8 := lt (a.toNat % 4 * 16 + b.toNat / 16)
def l2 (b c : UInt8) : UInt8 := lt (b.toNat % 16 * 4 + c.toNat / 64)
def l3 (c : UInt8) : UInt8 := lt (c.toNat % 64)

def enc64 : List UInt8 → List UInt8
  | [] => []
  | [a] => [l0 a, l1 a 0, 61, 61]
  | [a, b] => [l0 a, l1 a b, l2 b 0, 61]
  | a :: b :: c :: r => l0 a :: l1 a b :: l2 b c :: l3 c :: enc64 r

/-- The letters without those that are not there. -/
def body : List UInt8 → List UInt8
  | [] => []
  | [a] => [l0 a, l1 a 0]
  | [a, b] => [l0 a, l1 a b, l2 b 0]
  | a :: b :: c :: r => l0 a :: l1 a b :: l2 b c :: l3 c :: body r
def pads (n : Nat) : List UInt8 := if n % 3 = 0 then [] else if n % 3 = 1 then [61, 61] else [61]

theorem pads_next (n : Nat) : pads (n + 3) = pads n := by unfold pads; rw [Nat.add_mod_right]
theorem enc_body : ∀ b : List UInt8, enc64 b = body b ++ pads b.length
  | [] => rfl
  | [_] => rfl
  | [_, _] => rfl
  | a :: b :: c :: r => by
    have h := enc_body r
    simp only [enc64, body, List.length_cons, List.cons_append]
    rw [pads_next, ← h]
theorem enc_length : ∀ b : List UInt8, (enc64 b).length = (b.length + 2) / 3 * 4
  | [] => rfl
  | [_] => by simp [enc64]
  | [_, _] => by simp [enc64]
  | a :: b :: c :: r => by
    have h := enc_length r
    simp only [enc64, List.length_cons]
    omega
theorem body_length : ∀ b : List UInt8, (body b).length = b.length / 3 * 4 + (if b.length % 3 = 0 then 0 else b.length % 3 + 1)
  | [] => rfl
  | [_] => by simp [body]
  | [_, _] => by simp [body]
  | a :: b :: c :: r => by
    have h := body_length r
    simp only [body, List.length_cons]
    rw [h]
    split <;> split <;> omega

theorem n0 (a : UInt8) : a.toNat / 4 < 64 := by have := a.toNat_lt; omega
theorem n1 (a b : UInt8) : a.toNat % 4 * 16 + b.toNat / 16 < 64 := by have := b.toNat_lt; omega
theorem n2 (b c : UInt8) : b.toNat % 16 * 4 + c.toNat / 64 < 64 := by have := c.toNat_lt; omega
theorem n3 (c : UInt8) : c.toNat % 64 < 64 := by omega
theorem x0 (a : UInt8) : nx (l0 a) = some (a.toNat / 4) := nx_lt (n0 a)
theorem x1 (a b : UInt8) : nx (l1 a b) = some (a.toNat % 4 * 16 + b.toNat / 16) := nx_lt (n1 a b)
theorem x2 (b c : UInt8) : nx (l2 b c) = some (b.toNat % 16 * 4 + c.toNat / 64) := nx_lt (n2 b c)
theorem x3 (c : UInt8) : nx (l3 c) = some (c.toNat % 64) := nx_lt (n3 c)

theorem body_pad : ∀ (b : List UInt8) (c : UInt8), c ∈ body b → c ≠ 61
  | [], c, h => by cases h
  | [a], c, h => by
    simp only [body, List.mem_cons, List.not_mem_nil, or_false] at h
    rcases h with rfl | rfl
    · exact lt_pad (n0 a)
    · exact lt_pad (n1 a 0)
  | [a, b], c, h => by
    simp only [body, List.mem_cons, List.not_mem_nil, or_false] at h
    rcases h with rfl | rfl | rfl
    · exact lt_pad (n0 a)
    · exact lt_pad (n1 a b)
    · exact lt_pad (n2 b 0)
  | a :: b :: d :: r, c, h => by
    simp only [body, List.mem_cons] at h
    rcases h with rfl | rfl | rfl | rfl | h
    · exact lt_pad (n0 a)
    · exact lt_pad (n1 a b)
    · exact lt_pad (n2 b d)
    · exact lt_pad (n3 d)
    · exact body_pad r c h

/-! ### Letters as bytes, as the code goes -/
/-- The 24 bits of a group, noughts for what it lacks; none, if one is no letter. -/
def bitsL : List UInt8 → Nat → Nat → Option Nat
  | [], _, acc => some acc
  | c :: r, place, acc => (nx c).bind fun k => bitsL r (place + 1) (acc + k * 2 ^ (18 - 6 * place))
def bitsG (g : List UInt8) : Option Nat := bitsL g 0 0
/-- A group's bytes, or none. -/
def group (g : List UInt8) : Option (List UInt8) :=
  (bitsG g).bind fun n => if n % 2 ^ (8 * (4 - g.length)) = 0 then some ([UInt8.ofNat (n / 65536 % 256), UInt8.ofNat (n / 256 % 256), UInt8.ofNat (n % 256)].take (g.length - 1)) else none
def decG : List UInt8 → Option (List UInt8)
  | a :: b :: c :: d :: r => (group [a, b, c, d]).bind fun x => (decG r).map (x ++ ·)
  | [] => some []
  | g => group g

theorem bits2 (a b : UInt8) : bitsG [a, b] = (nx a).bind fun i => (nx b).bind fun j => some (i * 262144 + j * 4096) := by
  unfold bitsG bitsL bitsL bitsL
  cases nx a <;> cases nx b <;> simp
theorem bits3 (a b c : UInt8) : bitsG [a, b, c] = (nx a).bind fun i => (nx b).bind fun j => (nx c).bind fun k => some (i * 262144 + j * 4096 + k * 64) := by
  unfold bitsG bitsL bitsL bitsL bitsL
  cases nx a <;> cases nx b <;> cases nx c <;> simp
theorem bits4 (a b c d : UInt8) : bitsG [a, b, c, d] = (nx a).bind fun i => (nx b).bind fun j => (nx c).bind fun k => (nx d).bind fun m => some (i * 262144 + j * 4096 + k * 64 + m) := by
  unfold bitsG bitsL bitsL bitsL bitsL bitsL
  cases nx a <;> cases nx b <;> cases nx c <;> cases nx d <;> simp

theorem ofNat_self (a : UInt8) {n : Nat} (h : n = a.toNat) : UInt8.ofNat n = a := by rw [h, UInt8.ofNat_toNat]
theorem toNat_ofNat {n : Nat} (h : n < 256) : (UInt8.ofNat n).toNat = n := by rw [UInt8.toNat_ofNat']; omega

theorem group_if {n k : Nat} {g : List UInt8} (h : bitsG g = some n) (hk : g.length = k) : group g = if n % 2 ^ (8 * (4 - k)) = 0 then some ([UInt8.ofNat (n / 65536 % 256), UInt8.ofNat (n / 256 % 256), UInt8.ofNat (n % 256)].take (k - 1)) else none := by
  unfold group
  rw [h, hk]
  rfl
theorem group_none {g : List UInt8} (h : bitsG g = none) : group g = none := by
  unfold group
  rw [h]
  rfl
theorem zero_toNat : (0 : UInt8).toNat = 0 := rfl
theorem group1 (a : UInt8) : group [l0 a, l1 a 0] = some [a] := by
  have ha := a.toNat_lt
  have hb : bitsG [l0 a, l1 a 0] = some (a.toNat / 4 * 262144 + (a.toNat % 4 * 16 + 0 / 16) * 4096) := by rw [bits2, x0, x1, zero_toNat]; rfl
  rw [group_if hb (k := 2) rfl, if_pos (by omega)]
  show some [_] = some [a]
  rw [ofNat_self a (by omega)]
theorem group2 (a b : UInt8) : group [l0 a, l1 a b, l2 b 0] = some [a, b] := by
  have ha := a.toNat_lt
  have hb := b.toNat_lt
  have h : bitsG [l0 a, l1 a b, l2 b 0] = some (a.toNat / 4 * 262144 + (a.toNat % 4 * 16 + b.toNat / 16) * 4096 + (b.toNat % 16 * 4 + 0 / 64) * 64) := by rw [bits3, x0, x1, x2, zero_toNat]; rfl
  rw [group_if h (k := 3) rfl, if_pos (by omega)]
  show some [_, _] = some [a, b]
  rw [ofNat_self a (by omega), ofNat_self b (by omega)]
theorem group3 (a b c : UInt8) : group [l0 a, l1 a b, l2 b c, l3 c] = some [a, b, c] := by
  have ha := a.toNat_lt
  have hb := b.toNat_lt
  have hc := c.toNat_lt
  have h : bitsG [l0 a, l1 a b, l2 b c, l3 c] = some (a.toNat / 4 * 262144 + (a.toNat % 4 * 16 + b.toNat / 16) * 4096 + (b.toNat % 16 * 4 + c.toNat / 64) * 64 + c.toNat % 64) := by rw [bits4, x0, x1, x2, x3]; rfl
  rw [group_if h (k := 4) rfl, if_pos (by omega)]
  show some [_, _, _] = some [a, b, c]
  rw [ofNat_self a (by omega), ofNat_self b (by omega), ofNat_self c (by omega)]

theorem dec_body : ∀ b : List UInt8, decG (body b) = some b
  | [] => rfl
  | [a] => by simp only [body, decG]; exact group1 a
  | [a, b] => by simp only [body, decG]; exact group2 a b
  | a :: b :: c :: r => by
    simp only [body, decG]
    rw [group3, dec_body r]
    rfl

theorem group_two {a b : UInt8} {x : List UInt8} (h : group [a, b] = some x) : ∃ u, x = [u] ∧ a = l0 u ∧ b = l1 u 0 := by
  cases ha : nx a with
  | none => rw [group_none (by rw [bits2, ha]; rfl)] at h; cases h
  | some i =>
    cases hb : nx b with
    | none => rw [group_none (by rw [bits2, ha, hb]; rfl)] at h; cases h
    | some j =>
      obtain ⟨hi, ei⟩ := nx_some ha
      obtain ⟨hj, ej⟩ := nx_some hb
      rw [group_if (n := i * 262144 + j * 4096) (k := 2) (by rw [bits2, ha, hb]; rfl) rfl] at h
      split at h
      · rename_i hz
        injection h with h
        refine ⟨_, h.symm, ?_, ?_⟩
        · rw [l0, toNat_ofNat (by omega), ← ei]; congr 1; omega
        · rw [l1, toNat_ofNat (by omega), ← ej, zero_toNat]; congr 1; omega
      · cases h
theorem group_three {a b c : UInt8} {x : List UInt8} (h : group [a, b, c] = some x) : ∃ u v, x = [u, v] ∧ a = l0 u ∧ b = l1 u v ∧ c = l2 v 0 := by
  cases ha : nx a with
  | none => rw [group_none (by rw [bits3, ha]; rfl)] at h; cases h
  | some i =>
    cases hb : nx b with
    | none => rw [group_none (by rw [bits3, ha, hb]; rfl)] at h; cases h
    | some j =>
      cases hc : nx c with
      | none => rw [group_none (by rw [bits3, ha, hb, hc]; rfl)] at h; cases h
      | some k =>
        obtain ⟨hi, ei⟩ := nx_some ha
        obtain ⟨hj, ej⟩ := nx_some hb
        obtain ⟨hk, ek⟩ := nx_some hc
        rw [group_if (n := i * 262144 + j * 4096 + k * 64) (k := 3) (by rw [bits3, ha, hb, hc]; rfl) rfl] at h
        split at h
        · rename_i hz
          injection h with h
          refine ⟨_, _, h.symm, ?_, ?_, ?_⟩
          · rw [l0, toNat_ofNat (by omega), ← ei]; congr 1; omega
          · rw [l1, toNat_ofNat (by omega), toNat_ofNat (by omega), ← ej]; congr 1; omega
          · rw [l2, toNat_ofNat (by omega), ← ek, zero_toNat]; congr 1; omega
        · cases h
theorem group_four {a b c d : UInt8} {x : List UInt8} (h : group [a, b, c, d] = some x) : ∃ u v y, x = [u, v, y] ∧ a = l0 u ∧ b = l1 u v ∧ c = l2 v y ∧ d = l3 y := by
  cases ha : nx a with
  | none => rw [group_none (by rw [bits4, ha]; rfl)] at h; cases h
  | some i =>
    cases hb : nx b with
    | none => rw [group_none (by rw [bits4, ha, hb]; rfl)] at h; cases h
    | some j =>
      cases hc : nx c with
      | none => rw [group_none (by rw [bits4, ha, hb, hc]; rfl)] at h; cases h
      | some k =>
        cases hd : nx d with
        | none => rw [group_none (by rw [bits4, ha, hb, hc, hd]; rfl)] at h; cases h
        | some m =>
          obtain ⟨hi, ei⟩ := nx_some ha
          obtain ⟨hj, ej⟩ := nx_some hb
          obtain ⟨hk, ek⟩ := nx_some hc
          obtain ⟨hm, em⟩ := nx_some hd
          rw [group_if (n := i * 262144 + j * 4096 + k * 64 + m) (k := 4) (by rw [bits4, ha, hb, hc, hd]; rfl) rfl] at h
          split at h
          · rename_i hz
            injection h with h
            refine ⟨_, _, _, h.symm, ?_, ?_, ?_, ?_⟩
            · rw [l0, toNat_ofNat (by omega), ← ei]; congr 1; omega
            · rw [l1, toNat_ofNat (by omega), toNat_ofNat (by omega), ← ej]; congr 1; omega
            · rw [l2, toNat_ofNat (by omega), toNat_ofNat (by omega), ← ek]; congr 1; omega
            · rw [l3, toNat_ofNat (by omega), ← em]; congr 1; omega
          · cases h
/-- What is told is the body of what is told. -/
theorem body_dec : ∀ (r b : List UInt8), r.length % 4 ≠ 1 → decG r = some b → body b = r
  | [], b, _, h => by simp only [decG, Option.some.injEq] at h; subst h; rfl
  | [_], _, h, _ => by simp at h
  | [a, b], x, _, h => by
    simp only [decG] at h
    obtain ⟨u, rfl, rfl, rfl⟩ := group_two h
    rfl
  | [a, b, c], x, _, h => by
    simp only [decG] at h
    obtain ⟨u, v, rfl, rfl, rfl, rfl⟩ := group_three h
    rfl
  | a :: b :: c :: d :: r, x, h1, h => by
    simp only [decG] at h
    cases hg : group [a, b, c, d] with
    | none => rw [hg] at h; simp at h
    | some y =>
      rw [hg] at h
      cases hr : decG r with
      | none => rw [hr] at h; simp at h
      | some z =>
        rw [hr] at h
        simp only [Option.bind_some, Option.map_some, Option.some.injEq] at h
        obtain ⟨u, v, t, rfl, rfl, rfl, rfl, rfl⟩ := group_four hg
        subst h
        have := body_dec r z (by simp only [List.length_cons] at h1; omega) hr
        simp only [List.cons_append, List.nil_append, body]
        rw [this]

/-- A text without one last '='. -/
def trim1 (s : List UInt8) : List UInt8 := Lib.trimSuffix s [61]
theorem trim1_hit (s : List UInt8) : trim1 (s ++ [61]) = s := by
  unfold trim1 Lib.trimSuffix Lib.hasSuffix
  rw [if_pos (by simp [List.isSuffixOf_iff_suffix])]
  simp
theorem trim1_miss {s : List UInt8} (h : ∀ c, s.getLast? = some c → c ≠ 61) : trim1 s = s := by
  unfold trim1 Lib.trimSuffix Lib.hasSuffix
  rw [if_neg]
  intro hs
  rw [List.isSuffixOf_iff_suffix] at hs
  obtain ⟨t, rfl⟩ := hs
  exact h 61 (by simp) rfl
theorem trim1_cases (s : List UInt8) : s = trim1 s ++ [61] ∨ (trim1 s = s ∧ ∀ c, s.getLast? = some c → c ≠ 61) := by
  by_cases h : [61] <:+ s
  · obtain ⟨t, rfl⟩ := h
    rw [trim1_hit]
    exact .inl rfl
  · have h' : ∀ c, s.getLast? = some c → c ≠ 61 := by
      rintro c hc rfl
      obtain ⟨t, rfl⟩ := List.getLast?_eq_some_iff.1 hc
      exact h ⟨t, rfl⟩
    exact .inr ⟨trim1_miss h', h'⟩
def rest2 (s : List UInt8) : List UInt8 := trim1 (trim1 s)
/-- Letters as bytes. -/
def dec64 (s : List UInt8) : Option (List UInt8) := if s.length % 4 = 0 then decG (rest2 s) else none

theorem last_body (b : List UInt8) : ∀ c, (body b).getLast? = some c → c ≠ 61 := fun c h => body_pad b c (List.mem_of_getLast? h)
theorem rest_enc (b : List UInt8) : rest2 (enc64 b) = body b := by
  have hl := trim1_miss (last_body b)
  rw [enc_body]
  unfold rest2 pads
  split
  · rw [List.append_nil, hl, hl]
  · split
    · rw [show [(61 : UInt8), 61] = [61] ++ [61] from rfl, ← List.append_assoc, trim1_hit, trim1_hit]
    · rw [trim1_hit, hl]
theorem dec_enc (b : List UInt8) : dec64 (enc64 b) = some b := by
  unfold dec64
  rw [if_pos (by rw [enc_length]; omega), rest_enc, dec_body]
theorem enc_dec {s b : List UInt8} (h : dec64 s = some b) : enc64 b = s := by
  unfold dec64 at h
  split at h
  · rename_i h4
    have key : ∀ r p, s = r ++ p → (p = [] ∨ p = [61] ∨ p = [61, 61]) → decG r = some b → enc64 b = s := by
      rintro r p rfl hp hr
      have hb := body_dec r b (by
        rw [List.length_append] at h4
        rcases hp with rfl | rfl | rfl <;> simp at h4 <;> omega) hr
      have hn := body_length b
      rw [enc_body, hb]
      congr 1
      rw [hb] at hn
      rw [List.length_append] at h4
      unfold pads
      rcases hp with rfl | rfl | rfl
      · simp only [List.length_nil] at h4
        rw [if_pos]
        split at hn <;> omega
      · simp only [List.length_cons, List.length_nil] at h4
        rw [if_neg, if_neg]
        all_goals (split at hn <;> omega)
      · simp only [List.length_cons, List.length_nil] at h4
        rw [if_neg, if_pos]
        all_goals (split at hn <;> omega)
    unfold rest2 at h
    rcases trim1_cases s with h1 | ⟨h1, _⟩
    · rcases trim1_cases (trim1 s) with h2 | ⟨h2, _⟩
      · exact key _ [61, 61] (by rw [h2] at h1; simpa using h1) (.inr (.inr rfl)) h
      · rw [h2] at h
        exact key _ [61] h1 (.inr (.inl rfl)) h
    · rw [h1, h1] at h
      exact key s [] (by simp) (.inl rfl) h
  · cases h
theorem dec_iff {s b : List UInt8} : dec64 s = some b ↔ enc64 b = s := ⟨enc_dec, fun h => by rw [← h]; exact dec_enc b⟩

theorem enc_join : ∀ a b : List UInt8, a.length % 3 = 0 → enc64 (a ++ b) = enc64 a ++ enc64 b
  | [], b, _ => rfl
  | [_], _, h => by simp at h
  | [_, _], _, h => by simp at h
  | x :: y :: z :: r, b, h => by
    have := enc_join r b (by simp only [List.length_cons] at h; omega)
    simp only [List.cons_append, enc64]
    rw [this]
theorem enc_take (b : List UInt8) (j : Nat) (h : 3 * j ≤ b.length) : (enc64 b).take (4 * j) = enc64 (b.take (3 * j)) := by
  have hl : (b.take (3 * j)).length = 3 * j := by rw [List.length_take]; omega
  have e : enc64 b = enc64 (b.take (3 * j)) ++ enc64 (b.drop (3 * j)) := by
    rw [← enc_join _ _ (by rw [hl]; omega), List.take_append_drop]
  rw [e, List.take_left' (by rw [enc_length, hl]; omega)]
theorem dec_length {s : List UInt8} (h : s.length % 4 ≠ 0) : dec64 s = none := by rw [dec64, if_neg h]
theorem dec_bits (b : UInt8) (left : Nat) (h : left < 16) : dec64 [l0 b, lt (b.toNat % 4 * 16 + left), 61, 61] = if left = 0 then some [b] else none := by
  split
  · rename_i h0
    subst h0
    exact dec_enc [b]
  · rename_i h0
    cases hd : dec64 [l0 b, lt (b.toNat % 4 * 16 + left), 61, 61] with
    | none => rfl
    | some x =>
      exfalso
      have e := enc_dec hd
      have hb := b.toNat_lt
      match x, e with
      | [], e => simp [enc64] at e
      | [u], e =>
        simp only [enc64, List.cons.injEq, and_true] at e
        have e1 := nx_lt (k := b.toNat % 4 * 16 + left) (by omega)
        rw [← e.2, x1] at e1
        injection e1 with e1
        have hz : (0 : UInt8).toNat = 0 := rfl
        rw [hz] at e1
        omega
      | [u, v], e =>
        simp only [enc64, List.cons.injEq, and_true] at e
        exact lt_pad (n2 v 0) e.2.2
      | u :: v :: y :: r, e =>
        simp only [enc64, List.cons.injEq] at e
        exact lt_pad (n2 v y) e.2.2.1

/-! ### Letters as bytes, as the document's answer goes -/
def nn (c : UInt8) : Nat := (nx c).getD 0
def candG : List UInt8 → List UInt8
  | a :: b :: c :: d :: r =>
    let n := ((nn a * 64 + nn b) * 64 + nn c) * 64 + nn d
    UInt8.ofNat (n / 65536 % 256) :: UInt8.ofNat (n / 256 % 256) :: UInt8.ofNat (n % 256) :: candG r
  | _ => []
/-- One byte less for each last '=', two at most. -/
def candC : List UInt8 → List UInt8 → List UInt8
  | [], b => b
  | c :: t, b => if c = 61 ∧ 0 < b.length then candC t b.dropLast else b
def cand (s : List UInt8) : List UInt8 := candC (s.reverse.take 2) (candG s)

theorem nn_lt {k : Nat} (h : k < 64) : nn (lt k) = k := by rw [nn, nx_lt h]; rfl
theorem y0 (a : UInt8) : nn (l0 a) = a.toNat / 4 := nn_lt (n0 a)
theorem y1 (a b : UInt8) : nn (l1 a b) = a.toNat % 4 * 16 + b.toNat / 16 := nn_lt (n1 a b)
theorem y2 (b c : UInt8) : nn (l2 b c) = b.toNat % 16 * 4 + c.toNat / 64 := nn_lt (n2 b c)
theorem y3 (c : UInt8) : nn (l3 c) = c.toNat % 64 := nn_lt (n3 c)
theorem nn_pad : nn 61 = 0 := by rw [nn, nx_pad]; rfl
/-- What the groups of letters give: the bytes, and a nought for each that lacks. -/
theorem cand_groups : ∀ b : List UInt8, candG (enc64 b) = b ++ List.replicate (pads b.length).length 0
  | [] => rfl
  | [a] => by
    have ha := a.toNat_lt
    have hz : (0 : UInt8).toNat = 0 := rfl
    simp only [enc64, candG, y0, y1, nn_pad, hz]
    show _ = [a, 0, 0]
    simp only [List.cons.injEq, and_true]
    exact ⟨ofNat_self a (by omega), ofNat_self 0 (by rw [hz]; omega), ofNat_self 0 (by rw [hz]; omega)⟩
  | [a, b] => by
    have ha := a.toNat_lt
    have hb := b.toNat_lt
    have hz : (0 : UInt8).toNat = 0 := rfl
    simp only [enc64, candG, y0, y1, y2, nn_pad, hz]
    show _ = [a, b, 0]
    simp only [List.cons.injEq, and_true]
    exact ⟨ofNat_self a (by omega), ofNat_self b (by omega), ofNat_self 0 (by rw [hz]; omega)⟩
  | a :: b :: c :: r => by
    have ha := a.toNat_lt
    have hb := b.toNat_lt
    have hc := c.toNat_lt
    simp only [enc64, candG, y0, y1, y2, y3, List.length_cons, pads_next, List.cons_append]
    rw [cand_groups r]
    simp only [List.cons.injEq, and_true]
    exact ⟨ofNat_self a (by omega), ofNat_self b (by omega), ofNat_self c (by omega)⟩
theorem cand_enc (b : List UInt8) : cand (enc64 b) = b := by
  unfold cand
  rw [cand_groups, enc_body]
  unfold pads
  split
  · simp only [List.append_nil, List.length_nil, List.replicate_zero]
    cases hr : (body b).reverse with
    | nil => rfl
    | cons c t =>
      have hc : c ≠ 61 := body_pad b c (by rw [← List.mem_reverse, hr]; simp)
      simp only [List.take_succ_cons, candC]
      rw [if_neg (fun h => hc h.1)]
  · split
    · have e : (body b ++ [61, 61]).reverse.take 2 = [61, 61] := by simp
      rw [e]
      show candC [61, 61] (b ++ [0, 0]) = b
      have e2 : (b ++ [0, 0] : List UInt8).dropLast = b ++ [0] := by rw [show b ++ [0, 0] = (b ++ [0]) ++ [0] by simp, List.dropLast_concat]
      simp only [candC, e2, List.dropLast_concat]
      rw [if_pos ⟨trivial, by simp⟩, if_pos ⟨trivial, by simp⟩]
    · have e : ∃ t, (body b ++ [61]).reverse.take 2 = 61 :: t ∧ ∀ c ∈ t, c ≠ 61 := by
        refine ⟨(body b).reverse.take 1, by simp, fun c hc => body_pad b c ?_⟩
        have := List.mem_of_mem_take hc
        simpa using this
      obtain ⟨t, e, ht⟩ := e
      rw [e]
      show candC (61 :: t) (b ++ [0]) = b
      simp only [candC, List.dropLast_concat]
      rw [if_pos ⟨trivial, by simp⟩]
      cases t with
      | nil => rfl
      | cons c t =>
        simp only [candC]
        rw [if_neg (fun h => ht c (by simp) h.1)]
/-- The document's answer and the code's are one. -/
def refDec (s : List UInt8) : Option (List UInt8) := if enc64 (cand s) = s then some (cand s) else none
theorem ref_dec (s : List UInt8) : refDec s = dec64 s := by
  unfold refDec
  cases h : dec64 s with
  | none =>
    rw [if_neg]
    intro he
    rw [dec_iff.2 he] at h
    cases h
  | some b =>
    have he := enc_dec h
    subst he
    rw [cand_enc, if_pos rfl]
end Go.Proofs.Ytjfahkbhhpcnnaa
