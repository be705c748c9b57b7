/-
  lex's mathematics: what a line wants, a command's tokens, a quoted text. Nothing of the program stands here.
-/
import Derived.Test.YtbbgdcnnacakjaaDoorNMath
namespace Go.Proofs.YtbbgdcnnacakjaaDoor

/-! ### Digits, and how many bytes a line wants -/
def numD (l : List UInt8) : Option Nat := if l.length < 1 then none else if 7 < l.length then none else if l.all isDig = true then some (dv 0 l) else none
/-- Where a byte stands last. -/
def lastI (x : UInt8) : List UInt8 → Option Nat
  | [] => none
  | c :: r => match lastI x r with
    | some i => some (i + 1)
    | none => if c = x then some 0 else none
theorem lastI_none {x : UInt8} : ∀ {l : List UInt8}, (∀ (j : Nat) (hj : j < l.length), l[j] ≠ x) → lastI x l = none
  | [], _ => rfl
  | c :: r, h => by
    unfold lastI
    rw [lastI_none (l := r) (fun j hj => by have := h (j + 1) (by simp; omega); simpa using this)]
    exact if_neg (by have := h 0 (by simp); simpa using this)
theorem lastI_at {x : UInt8} : ∀ {l : List UInt8} {i : Nat} (hi : i < l.length), l[i] = x → (∀ (j : Nat) (hj : j < l.length), i < j → l[j] ≠ x) → lastI x l = some i
  | c :: r, 0, _, hx, h => by
    unfold lastI
    rw [lastI_none (l := r) (fun j hj => by have := h (j + 1) (by simp; omega) (by omega); simpa using this)]
    exact if_pos (by simpa using hx)
  | c :: r, i + 1, hi, hx, h => by
    unfold lastI
    rw [lastI_at (l := r) (i := i) (by simpa using hi) (by simpa using hx) (fun j hj hij => by have := h (j + 1) (by simp; omega) (by omega); simpa using this)]
theorem lastI_lt {x : UInt8} : ∀ {l : List UInt8} {i : Nat}, lastI x l = some i → i < l.length
  | [], _, h => by cases h
  | c :: r, i, h => by
    unfold lastI at h
    split at h
    · rename_i k hk
      injection h with h
      have := lastI_lt hk
      simp
      omega
    · split at h
      · injection h with h
        subst h
        simp
      · cases h
/-- What stands ahead of how many bytes a line wants, and that number. -/
def cutL (l : List UInt8) : Option (List UInt8 × Nat) :=
  if l.getLast? = some 125 then
    match lastI 123 l.dropLast with
    | none => none
    | some i => match numD (l.dropLast.drop (i + 1)) with
      | none => none
      | some n => some (l.dropLast.take i, n)
  else none
def wantL (l : List UInt8) : Option Nat := (cutL l).map (·.2)
def aheadL (l : List UInt8) : List UInt8 := ((cutL l).map (·.1)).getD []

/-! ### Tokens -/
/-- A token: its kind and its text. -/
abbrev Tkn := Int × List UInt8
def foreignB (c : UInt8) : Bool := decide (c.toNat < 32) || decide (126 < c.toNat)
def endsB (c : UInt8) : Bool := decide (c = 32 ∨ c = 40 ∨ c = 41 ∨ c = 34)
def trimL (l : List UInt8) : List UInt8 := l.dropWhile (fun c => c == 32)
/-- The string whose beginning stands ahead of bytes; what stands behind its end. -/
def textL : List UInt8 → Option (List UInt8 × List UInt8)
  | [] => none
  | c :: r =>
    if c = 34 then some ([], r)
    else if c = 92 then match r with
      | [] => none
      | d :: r' => if d = 34 ∨ d = 92 then (textL r').map fun p => (d :: p.1, p.2) else none
    else (textL r).map fun p => (c :: p.1, p.2)
/-- An atom's length; within brackets or not. -/
def atomN : Bool → List UInt8 → Option Nat
  | deep, [] => if deep = true then none else some 0
  | deep, c :: r =>
    if deep = false ∧ endsB c = true then some 0
    else (atomN (if c = 91 then true else if c = 93 then false else deep) r).map (· + 1)
/-- The token that bytes begin with, and what stands behind it. -/
def tokL : List UInt8 → Option (Tkn × List UInt8)
  | [] => none
  | c :: r =>
    if c = 40 then some ((3, []), r)
    else if c = 41 then some ((4, []), r)
    else if c = 34 then match textL r with
      | none => none
      | some (t, q) => if t.any foreignB = true then none else some ((2, t), q)
    else match atomN false (c :: r) with
      | none => none
      | some n => if ((c :: r).take n).any foreignB = true then none else some ((1, (c :: r).take n), (c :: r).drop n)
/-- The tokens of a line's bytes, behind others; an error. -/
def lineF : Nat → List Tkn → List UInt8 → Except Int (List Tkn)
  | 0, _, _ => .error 3
  | k + 1, T, l => match trimL l with
    | [] => .ok T
    | c :: r => if T.length = 64 then .error 5 else match tokL (c :: r) with
      | none => .error 3
      | some (t, q) => lineF k (T ++ [t]) q
def lineL (T : List Tkn) (l : List UInt8) : Except Int (List Tkn) := lineF (l.length + 1) T l
/-- What comes behind a line: literals, each with the line behind it. -/
def litsL : List Tkn → List (List UInt8 × List UInt8) → Except Int (List Tkn)
  | T, [] => .ok T
  | T, (b, l) :: ps => if T.length = 64 then .error 5 else match lineL (T ++ [(2, b)]) l with
    | .error e => .error e
    | .ok T' => litsL T' ps
/-- Lines and literals by turns, each literal as long as its line wants. -/
def fitL : List (List UInt8) → List (List UInt8) → Bool
  | [_], [] => true
  | l :: ls, b :: bs => decide (wantL l = some b.length) && fitL ls bs
  | _, _ => false
/-- The lines as they are looked at: without what they want, but the last. -/
def laidL : List (List UInt8) → List (List UInt8) → List (List UInt8)
  | l :: ls, _ :: bs => aheadL l :: laidL ls bs
  | ls, [] => ls
  | [], _ => []
def lexL (lines lits : List (List UInt8)) : Except Int (List Tkn) :=
  if fitL lines lits = true then match laidL lines lits with
    | [] => .error 3
    | l :: ls => match lineL [] l with
      | .error e => .error e
      | .ok T => litsL T (lits.zip ls)
  else .error 3
/-- A text as a string. -/
def quoteL (s : List UInt8) : List UInt8 := 34 :: (s.flatMap fun c => if c = 34 ∨ c = 92 then [92, c] else [c]) ++ [34]

/-! ### Lengths -/
theorem textL_len : ∀ (n : Nat) {l t q : List UInt8}, l.length ≤ n → textL l = some (t, q) → t.length + q.length + 1 ≤ l.length
  | n, [], _, _, _, h => by unfold textL at h; cases h
  | 0, c :: r, _, _, hn, _ => by simp at hn
  | n + 1, c :: r, t, q, hn, h => by
    simp only [List.length_cons] at hn ⊢
    unfold textL at h
    split at h
    · simp only [Option.some.injEq, Prod.mk.injEq] at h
      obtain ⟨rfl, rfl⟩ := h
      simp
    · split at h
      · split at h
        · cases h
        · rename_i d r'
          split at h
          · simp only [Option.map_eq_some_iff] at h
            obtain ⟨⟨t', q'⟩, h1, h2⟩ := h
            simp only [Prod.mk.injEq] at h2
            obtain ⟨rfl, rfl⟩ := h2
            simp only [List.length_cons] at hn ⊢
            have := textL_len n (by omega) h1
            omega
          · cases h
      · simp only [Option.map_eq_some_iff] at h
        obtain ⟨⟨t', q'⟩, h1, h2⟩ := h
        simp only [Prod.mk.injEq] at h2
        obtain ⟨rfl, rfl⟩ := h2
        have := textL_len n (by omega) h1
        simp only [List.length_cons]
        omega
theorem atomN_le : ∀ {l : List UInt8} {deep : Bool} {n : Nat}, atomN deep l = some n → n ≤ l.length
  | [], deep, n, h => by
    unfold atomN at h
    split at h
    · cases h
    · injection h with h; subst h; simp
  | c :: r, deep, n, h => by
    unfold atomN at h
    split at h
    · injection h with h; subst h; simp
    · simp only [Option.map_eq_some_iff] at h
      obtain ⟨m, h1, rfl⟩ := h
      have := atomN_le h1
      simp
      omega
theorem atomN_pos {c : UInt8} {r : List UInt8} {n : Nat} (hc : endsB c = false) (h : atomN false (c :: r) = some n) : 1 ≤ n := by
  unfold atomN at h
  rw [if_neg (by rw [hc]; simp)] at h
  simp only [Option.map_eq_some_iff] at h
  obtain ⟨m, _, rfl⟩ := h
  omega
theorem trimL_cons {l : List UInt8} {c : UInt8} {r : List UInt8} (h : trimL l = c :: r) : c ≠ 32 := by
  have := dw_head _ l h
  simpa using this
theorem trimL_len (l : List UInt8) : (trimL l).length ≤ l.length := by
  unfold trimL
  exact (List.dropWhile_suffix _).length_le
theorem tokL_len {l : List UInt8} {t : Tkn} {q : List UInt8} (h32 : l.head? ≠ some 32) (h : tokL l = some (t, q)) : q.length + 1 ≤ l.length ∧ t.2.length ≤ l.length := by
  cases l with
  | nil => cases h
  | cons c r =>
    rw [tokL] at h
    split at h
    · simp only [Option.some.injEq, Prod.mk.injEq] at h
      obtain ⟨rfl, rfl⟩ := h
      simp
    · split at h
      · simp only [Option.some.injEq, Prod.mk.injEq] at h
        obtain ⟨rfl, rfl⟩ := h
        simp
      · split at h
        · split at h
          · cases h
          · rename_i t' q' ht
            split at h
            · cases h
            · simp only [Option.some.injEq, Prod.mk.injEq] at h
              obtain ⟨rfl, rfl⟩ := h
              have := textL_len _ (Nat.le_refl _) ht
              simp only [List.length_cons]
              omega
        · rename_i h1 h2 h3
          have hc : endsB c = false := by
            unfold endsB
            simp at h32
            simp [h1, h2, h3, h32]
          split at h
          · cases h
          · rename_i n hn
            split at h
            · cases h
            · simp only [Option.some.injEq, Prod.mk.injEq] at h
              obtain ⟨rfl, rfl⟩ := h
              have h1 := atomN_pos hc hn
              have h2 := atomN_le hn
              rw [List.length_drop, List.length_take]
              simp only [List.length_cons] at h2 ⊢
              omega
/-- Enough rounds are enough. -/
theorem lineF_more : ∀ (k : Nat) {l : List UInt8} (T : List Tkn) (m : Nat), l.length < k → k ≤ m → lineF m T l = lineF k T l
  | 0, l, T, m, h, _ => by omega
  | k + 1, l, T, 0, h, hm => by omega
  | k + 1, l, T, m + 1, h, hm => by
    unfold lineF
    cases ht : trimL l with
    | nil => rfl
    | cons c r =>
      simp only
      split
      · rfl
      · cases hk : tokL (c :: r) with
        | none => rfl
        | some p =>
          obtain ⟨t, q⟩ := p
          simp only
          have h1 := (tokL_len (by have := trimL_cons ht; simpa using this) hk).1
          have h2 := trimL_len l
          rw [ht] at h2
          exact lineF_more k _ m (by omega) (by omega)
theorem lineL_nil {T : List Tkn} {l : List UInt8} (h : trimL l = []) : lineL T l = .ok T := by
  unfold lineL lineF
  rw [h]
theorem lineL_long {T : List Tkn} {l : List UInt8} {c : UInt8} {r : List UInt8} (h : trimL l = c :: r) (hT : T.length = 64) : lineL T l = .error 5 := by
  unfold lineL lineF
  rw [h]
  exact if_pos hT
theorem lineL_bad {T : List Tkn} {l : List UInt8} {c : UInt8} {r : List UInt8} (h : trimL l = c :: r) (hT : T.length ≠ 64) (hk : tokL (c :: r) = none) : lineL T l = .error 3 := by
  unfold lineL lineF
  rw [h]
  simp only
  rw [if_neg hT, hk]
theorem lineL_tok {T : List Tkn} {l : List UInt8} {c : UInt8} {r : List UInt8} {t : Tkn} {q : List UInt8} (h : trimL l = c :: r) (hT : T.length ≠ 64) (hk : tokL (c :: r) = some (t, q)) : lineL T l = lineL (T ++ [t]) q := by
  have h1 := (tokL_len (by have := trimL_cons h; simpa using this) hk).1
  have h2 := trimL_len l
  rw [h] at h2
  unfold lineL
  rw [← lineF_more (q.length + 1) (T ++ [t]) l.length (by omega) (by omega)]
  conv => lhs; unfold lineF
  rw [h]
  simp only
  rw [if_neg hT, hk]
end Go.Proofs.YtbbgdcnnacakjaaDoor
