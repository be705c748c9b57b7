/-
  Quoted texts with blanks between: the plain part of LexQuotes.
-/
import Derived.Test.YtbbgdcnnacakjaaDoorYQuote
namespace Go.Proofs.YtbbgdcnnacakjaaDoor

def escL (s : List UInt8) : List UInt8 := s.flatMap fun c => if c = 34 ∨ c = 92 then [92, c] else [c]
theorem escL_cons (c : UInt8) (s : List UInt8) : escL (c :: s) = (if c = 34 ∨ c = 92 then [92, c] else [c]) ++ escL s := by simp [escL]
theorem quote_esc (s : List UInt8) : quoteL s = 34 :: (escL s ++ [34]) := rfl
theorem text_esc_all (s r : List UInt8) : textL (escL s ++ 34 :: r) = some (s, r) := by
  induction s with
  | nil => exact text_end r
  | cons c s ih =>
    rw [escL_cons]
    by_cases h : c = 34 ∨ c = 92
    · rw [if_pos h]
      show textL (92 :: c :: (escL s ++ 34 :: r)) = _
      rw [text_esc, if_pos (by unfold escB; exact decide_eq_true h), ih]
      rfl
    · rw [if_neg h]
      show textL (c :: (escL s ++ 34 :: r)) = _
      rw [text_one (fun e => h (.inl e)) (fun e => h (.inr e)), ih]
      rfl
theorem tok_quote {s : List UInt8} (hp : plainL s = true) (r : List UInt8) : tokL (quoteL s ++ r) = some ((2, s), r) := by
  rw [quote_esc, List.cons_append, List.append_assoc, List.singleton_append, tok_text, text_esc_all]
  unfold tokF
  simp only [Option.map_some]
  have : s.any foreignB = false := by unfold plainL at hp; simpa using hp
  rw [this]
  simp
/-- Texts, each behind a blank, as strings. -/
def catQ (l : List (List UInt8)) : List UInt8 := l.flatMap fun s => 32 :: quoteL s
theorem catQ_cons (s : List UInt8) (l : List (List UInt8)) : catQ (s :: l) = 32 :: (quoteL s ++ catQ l) := by simp [catQ]
theorem catQ_snoc (l : List (List UInt8)) (s : List UInt8) : catQ (l ++ [s]) = catQ l ++ [32] ++ quoteL s := by simp [catQ]
theorem line_quotes : ∀ (l : List (List UInt8)) (T : List Tkn), (∀ s ∈ l, plainL s = true) → T.length + l.length ≤ 64 → lineL T (catQ l) = .ok (T ++ l.map fun s => (2, s))
  | [], T, _, _ => by
    show lineL T [] = _
    rw [lineL_nil rfl]
    simp
  | s :: l, T, h, hT => by
    rw [catQ_cons]
    simp only [List.length_cons] at hT
    have e1 : lineL T (32 :: (quoteL s ++ catQ l)) = lineL T (quoteL s ++ catQ l) := lineL_blank 1 T _
    have hq := tok_quote (h s (by simp)) (catQ l)
    have hcons : ∃ r, quoteL s ++ catQ l = 34 :: r := ⟨_, rfl⟩
    obtain ⟨r, hr⟩ := hcons
    rw [hr] at hq
    rw [e1, hr, lineL_tok (trim_one (by decide)) (by omega) hq, line_quotes l _ (fun x hx => h x (by simp [hx])) (by rw [List.length_append]; simp; omega)]
    simp
end Go.Proofs.YtbbgdcnnacakjaaDoor
