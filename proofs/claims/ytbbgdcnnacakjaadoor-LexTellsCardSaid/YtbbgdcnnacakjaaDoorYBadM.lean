/-
  Bytes that may not stand in a line are refused behind words and blanks: the plain part of LexBad.
-/
import Derived.Test.YtbbgdcnnacakjaaDoorYWant
namespace Go.Proofs.YtbbgdcnnacakjaaDoor

def wordB (c : UInt8) : Bool := decide (97 ≤ c.toNat) && decide (c.toNat ≤ 122)
def calmB (c : UInt8) : Bool := wordB c || decide (c = 32)
theorem word_nat {c : UInt8} (h : wordB c = true) : 97 ≤ c.toNat ∧ c.toNat ≤ 122 := by simpa [wordB] using h
theorem word_ne {c : UInt8} (h : wordB c = true) (x : UInt8) (hx : x.toNat < 97 ∨ 122 < x.toNat) : c ≠ x := fun e => by
  have := word_nat h
  rw [e] at this
  omega
theorem word_ends {c : UInt8} (h : wordB c = true) : endsB c = false := by
  unfold endsB
  exact decide_eq_false (by
    rintro (e | e | e | e)
    · exact word_ne h 32 (by decide) e
    · exact word_ne h 40 (by decide) e
    · exact word_ne h 41 (by decide) e
    · exact word_ne h 34 (by decide) e)
theorem atom_word : ∀ (w r : List UInt8), w.all wordB = true → atomN false (w ++ r) = (atomN false r).map (· + w.length)
  | [], r, _ => by cases h : atomN false r <;> simp [h]
  | c :: w, r, h => by
    simp only [List.all_cons, Bool.and_eq_true] at h
    rw [List.cons_append, atom_one (word_ends h.1) (word_ne h.1 91 (by decide)), atom_word w r h.2, map_add, List.length_cons, Nat.add_comm]
theorem word_calm {w : List UInt8} (h : w.all wordB = true) : w.any foreignB = false := by
  rw [List.any_eq_false]
  intro x hx
  have h1 := word_nat (List.all_eq_true.1 h x hx)
  unfold foreignB
  simp
  omega
theorem tok_word {c : UInt8} {w r : List UInt8} (h : (c :: w).all wordB = true) (hr : atomN false r = some 0) : tokL ((c :: w) ++ r) = some ((1, c :: w), r) := by
  have hc : wordB c = true := by simp only [List.all_cons, Bool.and_eq_true] at h; exact h.1
  have ha := atom_word (c :: w) r h
  rw [hr] at ha
  simp only [Option.map_some, Nat.zero_add] at ha
  rw [List.cons_append] at ha ⊢
  rw [tok_atom _ (word_ne hc 40 (by decide)) (word_ne hc 41 (by decide)) (word_ne hc 34 (by decide)), ha]
  simp only [Option.map_some]
  have e1 : (c :: (w ++ r)).take (c :: w).length = c :: w := by rw [← List.cons_append, List.take_left]
  have e2 : (c :: (w ++ r)).drop (c :: w).length = r := by rw [← List.cons_append, List.drop_left]
  rw [e1, e2]
  unfold tokF
  simp only
  rw [word_calm h]
  simp
theorem trim_app {l z : List UInt8} (hz : trimL z = z) : trimL (l ++ z) = trimL l ++ z := by
  induction l with
  | nil => simpa [trimL] using hz
  | cons c r ih =>
    unfold trimL at ih ⊢
    rw [List.cons_append, List.dropWhile_cons, List.dropWhile_cons]
    split
    · exact ih
    · rfl
/-- Behind words and blanks what is bad is refused. -/
theorem words_bad {z : List UInt8} {y : UInt8} {z' : List UInt8} (hz0 : z = y :: z') (hz : trimL z = z) (h : ∀ w : List UInt8, w.all wordB = true → tokL (w ++ z) = none ∨ (w ≠ [] ∧ tokL (w ++ z) = some ((1, w), z) ∧ tokL z = none)) :
    ∀ (n : Nat) (l : List UInt8) (T : List Tkn), l.length ≤ n → l.all calmB = true → T.length + l.length < 63 → lineL T (l ++ z) = .error 3 := by
  intro n
  induction n with
  | zero =>
    intro l T hl _ hT
    obtain rfl : l = [] := List.eq_nil_of_length_eq_zero (by omega)
    simp only [List.length_nil] at hT
    rcases h [] rfl with h1 | ⟨h1, _⟩
    · rw [List.nil_append] at h1 ⊢
      rw [hz0] at hz h1 ⊢
      exact lineL_bad hz (by omega) h1
    · exact absurd rfl h1
  | succ n ih =>
    intro l T hl hc hT
    have htr := trim_app (l := l) hz
    have htl := trimL_len l
    have hca : (trimL l).all calmB = true := by
      rw [List.all_eq_true] at hc ⊢
      exact fun x hx => hc x ((List.dropWhile_suffix _).subset hx)
    cases hk : trimL l with
    | nil =>
      rw [hk, List.nil_append] at htr
      rcases h [] rfl with h1 | ⟨h1, _⟩
      · rw [List.nil_append] at h1
        rw [hz0] at htr h1 ⊢
        exact lineL_bad htr (by omega) h1
      · exact absurd rfl h1
    | cons c r =>
      rw [hk] at htr htl hca
      have h32 := trimL_cons hk
      have hcw : wordB c = true := by
        simp only [List.all_cons, Bool.and_eq_true] at hca
        have := hca.1
        unfold calmB at this
        simpa [h32] using this
      obtain ⟨w, r2, hwr, hw, hr2⟩ : ∃ w r2, r = w ++ r2 ∧ w.all wordB = true ∧ (r2 = [] ∨ ∃ r3, r2 = 32 :: r3) := by
        refine ⟨r.takeWhile wordB, r.dropWhile wordB, List.takeWhile_append_dropWhile.symm, ?_, ?_⟩
        · rw [List.all_eq_true]
          intro x hx
          exact List.all_eq_true.1 (List.all_takeWhile (p := wordB) (l := r)) x hx
        · cases hd : r.dropWhile wordB with
          | nil => exact .inl rfl
          | cons d r3 =>
            right
            have hn := dw_head _ r hd
            have hm : d ∈ r := (List.dropWhile_suffix wordB).subset (by rw [hd]; simp)
            simp only [List.all_cons, Bool.and_eq_true] at hca
            have := List.all_eq_true.1 hca.2 d hm
            unfold calmB at this
            rw [hn] at this
            have : d = 32 := by simpa using this
            exact ⟨r3, by rw [this]⟩
      have hcw2 : (c :: w).all wordB = true := by simp only [List.all_cons, Bool.and_eq_true]; exact ⟨hcw, hw⟩
      have hrl : r.length = w.length + r2.length := by rw [hwr, List.length_append]
      simp only [List.length_cons] at htl
      rcases hr2 with rfl | ⟨r3, rfl⟩
      · rw [List.append_nil] at hwr
        subst hwr
        rw [List.cons_append] at htr
        rcases h (c :: r) hcw2 with h1 | ⟨_, h1, h2⟩
        · rw [List.cons_append] at h1
          exact lineL_bad htr (by omega) h1
        · rw [List.cons_append] at h1
          rw [lineL_tok htr (by omega) h1]
          rw [hz0] at hz h2 ⊢
          exact lineL_bad hz (by rw [List.length_append]; simp; omega) h2
      · have ht : tokL (c :: (r ++ z)) = some ((1, c :: w), 32 :: r3 ++ z) := by
          have := tok_word (r := 32 :: r3 ++ z) hcw2 (by rw [List.cons_append]; exact atom_ends (by decide))
          rw [hwr]
          simpa using this
        rw [List.cons_append] at htr
        rw [lineL_tok htr (by omega) ht]
        refine ih (32 :: r3) _ (by simp only [List.length_cons] at hrl ⊢; omega) ?_ (by rw [List.length_append]; simp only [List.length_cons, List.length_nil] at hrl ⊢; omega)
        simp only [List.all_cons, Bool.and_eq_true] at hca
        rw [List.all_eq_true]
        intro x hx
        exact List.all_eq_true.1 hca.2 x (by rw [hwr]; simp only [List.mem_append]; exact .inr hx)
theorem foreign_ne {c : UInt8} (h : foreignB c = true) (x : UInt8) (hx : 32 ≤ x.toNat ∧ x.toNat ≤ 126) : c ≠ x := fun e => by
  unfold foreignB at h
  rw [e] at h
  simp at h
  omega
theorem atom_foreign {c : UInt8} (h : foreignB c = true) : atomN false [c] = some 1 := by
  have he : endsB c = false := by
    unfold endsB
    exact decide_eq_false (by
      rintro (e | e | e | e)
      · exact foreign_ne h 32 (by decide) e
      · exact foreign_ne h 40 (by decide) e
      · exact foreign_ne h 41 (by decide) e
      · exact foreign_ne h 34 (by decide) e)
  rw [atom_one he (foreign_ne h 91 (by decide)), atom_nil]
  rfl
theorem trim_one {c : UInt8} {r : List UInt8} (h : c ≠ 32) : trimL (c :: r) = c :: r := by
  unfold trimL
  rw [List.dropWhile_cons, if_neg (by simpa using h)]
theorem lex_one (l : List UInt8) : lexL [l] [] = lineL [] l := by
  unfold lexL
  rw [if_pos (show fitL [l] [] = true from rfl)]
  show (match lineL [] l with | Except.error e => Except.error e | Except.ok T => litsL T _) = _
  cases lineL [] l <;> rfl
/-- A byte that may not be, behind words and blanks. -/
theorem bad_one {c : UInt8} (h : foreignB c = true) {l : List UInt8} (hl : l.all calmB = true) (hn : l.length ≤ 60) : lexL [l ++ [c]] [] = .error 3 := by
  have hline : lineL [] (l ++ [c]) = .error 3 := by
    refine words_bad (z := [c]) (y := c) (z' := []) rfl (trim_one (foreign_ne h 32 (by decide))) (fun w hw => .inl ?_) l.length l [] (Nat.le_refl _) hl (by simp; omega)
    have hat := atom_word w [c] hw
    rw [atom_foreign h] at hat
    simp only [Option.map_some] at hat
    obtain ⟨x, q, hx⟩ : ∃ x q, w ++ [c] = x :: q := by
      cases w with
      | nil => exact ⟨c, [], rfl⟩
      | cons a b => exact ⟨a, b ++ [c], rfl⟩
    have hxne : ∀ y : UInt8, 32 ≤ y.toNat ∧ y.toNat < 97 → x ≠ y := fun y hy => by
      cases w with
      | nil =>
        injection hx with h1 _
        rw [← h1]
        exact foreign_ne h y (by omega)
      | cons a b =>
        injection hx with h1 _
        rw [← h1]
        simp only [List.all_cons, Bool.and_eq_true] at hw
        exact word_ne hw.1 y (.inl hy.2)
    rw [hx] at hat ⊢
    rw [tok_atom _ (hxne 40 (by decide)) (hxne 41 (by decide)) (hxne 34 (by decide)), hat]
    simp only [Option.map_some]
    rw [← hx, List.take_of_length_le (by simp; omega)]
    unfold tokF
    simp only
    rw [if_pos (by rw [List.any_append]; simp [h])]
  rw [lex_one, hline]
/-- A byte that may not be, in a string. -/
theorem bad_two {c : UInt8} (h : foreignB c = true) {l : List UInt8} (hl : l.all calmB = true) (hn : l.length ≤ 60) : lexL [l ++ [34, c, 34]] [] = .error 3 := by
  have htk : tokL [34, c, 34] = none := by
    rw [tok_text, text_one (foreign_ne h 34 (by decide)) (foreign_ne h 92 (by decide)), text_end]
    unfold tokF
    simp [h]
  have hline : lineL [] (l ++ [34, c, 34]) = .error 3 := by
    refine words_bad (z := [34, c, 34]) (y := 34) (z' := [c, 34]) rfl (trim_one (by decide)) (fun w hw => ?_) l.length l [] (Nat.le_refl _) hl (by simp; omega)
    cases w with
    | nil => exact .inl htk
    | cons a b => exact .inr ⟨by simp, tok_word hw (atom_ends (by decide)), htk⟩
  rw [lex_one, hline]
theorem bad_three (c : UInt8) : lexL [[123, 49, 125], []] [[c]] = .ok [(2, [c])] := by rfl
end Go.Proofs.YtbbgdcnnacakjaaDoor
