/-
  Literals between other tokens: the plain part of LexLiterals; the laws' long.
-/
import Derived.Test.YtbbgdcnnacakjaaDoorYQuotesM
namespace Go.Proofs.YtbbgdcnnacakjaaDoor
open Go.RowKit Go.Instr

def endB5 : List UInt8 := [40, 101, 110, 100, 41]
def endT : List Tkn := [(3, []), (1, [101, 110, 100]), (4, [])]
def litLine (b : List UInt8) : List UInt8 := [119, 32] ++ 123 :: decD b.length ++ [125]
def litLines (bs : List (List UInt8)) : List (List UInt8) := bs.map litLine ++ [endB5]
def litToks (bs : List (List UInt8)) : List Tkn := bs.flatMap fun b => [(1, [119]), (2, b)]
theorem litCut {b : List UInt8} (h : b.length ≤ 9999999) : cutL (litLine b) = some ([119, 32], b.length) := by
  have hd := decD_all b.length
  unfold litLine
  rw [cut_form (dig_ne hd 123 (by decide))]
  unfold numD
  rw [if_neg (by have := decD_pos b.length; omega), if_neg (by have := decD_len b.length 7 (by omega) (by omega); omega), if_pos hd, decD_val]
  rfl
theorem litFit : ∀ {bs : List (List UInt8)}, (∀ b ∈ bs, b.length ≤ 9999999) → fitL (litLines bs) bs = true
  | [], _ => rfl
  | b :: bs, h => by
    have e : litLines (b :: bs) = litLine b :: litLines bs := rfl
    rw [e, fitL]
    have : wantL (litLine b) = some b.length := by unfold wantL; rw [litCut (h b (by simp))]; rfl
    rw [decide_eq_true this, Bool.true_and]
    exact litFit (fun x hx => h x (by simp [hx]))
def hdE (bs : List (List UInt8)) : List UInt8 := match bs with
  | [] => endB5
  | _ :: _ => [119, 32]
def tlE (bs : List (List UInt8)) : List (List UInt8) := match bs with
  | [] => []
  | _ :: bs => hdE bs :: tlE bs
theorem litLaid : ∀ {bs : List (List UInt8)}, (∀ b ∈ bs, b.length ≤ 9999999) → laidL (litLines bs) bs = hdE bs :: tlE bs
  | [], _ => rfl
  | b :: bs, h => by
    show aheadL (litLine b) :: laidL (litLines bs) bs = [119, 32] :: hdE bs :: tlE bs
    rw [litLaid (fun x hx => h x (by simp [hx]))]
    unfold aheadL
    rw [litCut (h b (by simp))]
    rfl
theorem line_end {T : List Tkn} (hT : T.length ≤ 61) : lineL T endB5 = .ok (T ++ endT) := by
  have h1 : trimL endB5 = 40 :: [101, 110, 100, 41] := rfl
  have t1 : tokL (40 :: [101, 110, 100, 41]) = some ((3, []), [101, 110, 100, 41]) := rfl
  have h2 : trimL [101, 110, 100, 41] = 101 :: [110, 100, 41] := rfl
  have t2 : tokL (101 :: [110, 100, 41]) = some ((1, [101, 110, 100]), [41]) := by decide +kernel
  have h3 : trimL [41] = 41 :: [] := rfl
  have t3 : tokL (41 :: []) = some ((4, []), []) := rfl
  rw [lineL_tok h1 (by omega) t1, lineL_tok h2 (by rw [List.length_append]; simp; omega) t2, lineL_tok h3 (by rw [List.length_append, List.length_append]; simp; omega) t3, lineL_nil rfl]
  simp [endT]
theorem line_w {T : List Tkn} (hT : T.length ≤ 61) : lineL T [119, 32] = .ok (T ++ [(1, [119])]) := by
  have h1 : trimL [119, 32] = 119 :: [32] := rfl
  have t1 : tokL (119 :: [32]) = some ((1, [119]), [32]) := by decide +kernel
  rw [lineL_tok h1 (by omega) t1, lineL_nil rfl]
theorem litsL_cons (T : List Tkn) (b l : List UInt8) (ps : List (List UInt8 × List UInt8)) : litsL T ((b, l) :: ps) = if T.length = 64 then .error 5 else contL (lineL (T ++ [(2, b)]) l) ps := by
  rw [litsL]
  split
  · rfl
  · cases lineL (T ++ [(2, b)]) l <;> rfl
theorem litAll : ∀ (bs : List (List UInt8)) (T : List Tkn), T.length + 2 * bs.length + 3 ≤ 64 → contL (lineL T (hdE bs)) (bs.zip (tlE bs)) = .ok (T ++ litToks bs ++ endT)
  | [], T, h => by
    show contL (lineL T endB5) [] = _
    rw [line_end (by simp at h; omega)]
    simp [contL, litsL, litToks]
  | b :: bs, T, h => by
    simp only [List.length_cons] at h
    show contL (lineL T [119, 32]) ((b, hdE bs) :: bs.zip (tlE bs)) = _
    rw [line_w (by omega)]
    show litsL (T ++ [(1, [119])]) ((b, hdE bs) :: bs.zip (tlE bs)) = _
    rw [litsL_cons, if_neg (by rw [List.length_append]; simp; omega)]
    have ih := litAll bs (T ++ [(1, [119])] ++ [(2, b)]) (by rw [List.length_append, List.length_append]; simp; omega)
    rw [ih]
    simp [litToks]
theorem lex_lits {bs : List (List UInt8)} (h : ∀ b ∈ bs, b.length ≤ 9999999) (hn : bs.length ≤ 30) : lexL (litLines bs) bs = .ok (litToks bs ++ endT) := by
  have := litAll bs [] (by simp; omega)
  unfold lexL
  rw [if_pos (litFit h), litLaid h]
  simp only
  rw [List.nil_append] at this
  rw [← this]
  cases lineL [] (hdE bs) <;> rfl
theorem litLines_len (bs : List (List UInt8)) : (litLines bs).length = bs.length + 1 := by simp [litLines]
theorem lex_bad_lit {bs : List (List UInt8)} (h : ∀ b ∈ bs, b.length ≤ 9999999) {k : Nat} (hk : k < bs.length) (x : UInt8) : lexL (litLines bs) (bs.set k (bs[k] ++ [x])) = .error 3 := by
  have hf : fitL (litLines bs) (bs.set k (bs[k] ++ [x])) = false := by
    cases hf : fitL (litLines bs) (bs.set k (bs[k] ++ [x])) with
    | false => rfl
    | true =>
      have h1 : k < (litLines bs).length := by rw [litLines_len]; omega
      have h2 : k < (bs.set k (bs[k] ++ [x])).length := by simpa using hk
      have hw := fit_want hf h1 h2
      have hg := fit_want (litFit h) h1 hk
      rw [hg] at hw
      simp at hw
  unfold lexL
  rw [hf]
  rfl
theorem lex_more_lits (bs : List (List UInt8)) (x : List UInt8) : lexL (litLines bs) (bs ++ [x]) = .error 3 := by
  have hf : fitL (litLines bs) (bs ++ [x]) = false := fit_not (by rw [litLines_len]; simp)
  unfold lexL
  rw [hf]
  rfl
theorem litToks_at : ∀ {bs : List (List UInt8)} {k : Nat} (h : k < bs.length), (litToks bs)[2 * k]? = some (1, [119]) ∧ (litToks bs)[2 * k + 1]? = some (2, bs[k])
  | b :: bs, 0, _ => ⟨rfl, rfl⟩
  | b :: bs, k + 1, h => by
    have := litToks_at (bs := bs) (k := k) (by simpa using h)
    have e : 2 * (k + 1) = 2 * k + 1 + 1 := by omega
    have hc : litToks (b :: bs) = (1, [119]) :: (2, b) :: litToks bs := rfl
    rw [hc, e]
    simpa using this
theorem litToks_len (bs : List (List UInt8)) : (litToks bs).length = 2 * bs.length := by
  induction bs with
  | nil => rfl
  | cons b bs ih =>
    have hc : litToks (b :: bs) = (1, [119]) :: (2, b) :: litToks bs := rfl
    rw [hc]
    simp [ih]
    omega

/-! ### long -/
def totL (ls : List (List UInt8)) : Nat := match ls with
  | [] => 0
  | l :: ls => 1 + l.length + totL ls
theorem totL_snoc (ls : List (List UInt8)) (l : List UInt8) : totL (ls ++ [l]) = totL ls + 1 + l.length := by
  induction ls with
  | nil => simp [totL]
  | cons a ls ih => simp only [List.cons_append, totL, ih]; omega
theorem totL_mem {ls : List (List UInt8)} {l : List UInt8} (h : l ∈ ls) : 1 + l.length ≤ totL ls := by
  induction ls with
  | nil => cases h
  | cons a ls ih =>
    simp only [totL]
    rcases List.mem_cons.1 h with rfl | h
    · omega
    · have := ih h; omega
theorem totL_len (ls : List (List UInt8)) : ls.length ≤ totL ls := by
  induction ls with
  | nil => simp [totL]
  | cons a ls ih => simp only [totL, List.length_cons]; omega
section
variable {w : World} {A : Option Addr} {n c : Nat} {ls : List (List UInt8)}
set_option maxRecDepth 100000 in
/-- Where there are at most so many rows, long tells their sum. -/
theorem long_few (hs : Rb w A n ls) (hn : n ≤ 4000) (hl : ∀ l ∈ ls, l.length ≤ 140737488355000) : Calls Tryd.prog 9 #[.slice A n c] w fun e w' => e = .returned (.bool (decide (4000 < (totL ls : Int)))) ∧ w = w' := by
  have HS := Lib.hid hs
  have HNL := Lib.hid hs.len
  have HL := Lib.hid hl
  clear hs hl
  go_enter Tryd.func9, Tryd.ntmps9
  go_wp2_with fail
  go_loopw [3, 4] (fun nv iv wr => w = wr ∧ ∃ (k S : Nat), nv = .int .i64 (S : Int) ∧ iv = .int .i64 (k : Int) ∧ k ≤ n ∧ S ≤ 140737488355001 * k ∧ Hid (S = totL (ls.take k))) (fun _ iv _ => n - (intOf iv).toNat)
  case atStart => exact ⟨rfl, 0, 0, rfl, rfl, by omega, by omega, by show _ = totL (ls.take 0); rw [List.take_zero]; rfl⟩
  case round =>
    obtain ⟨rfl, k, S, rfl, rfl, hk, hS, HT⟩ := hrel
    by_cases hlt : k < n
    · have hlt' : (k : Int) < (n : Int) := by omega
      have hkl : k < ls.length := by rw [HNL.out]; exact hlt
      obtain ⟨ad, Ai, ci, rfl, c1, b1⟩ := HS.out.at_ hlt hkl
      have hlen := HL.out _ (List.getElem_mem hkl)
      have HT2 : Hid (totL (ls.take (k + 1)) = S + 1 + ls[k].length) := by
        show _ = _
        rw [List.take_succ_eq_append_getElem hkl, totL_snoc, HT.out]
      obtain ⟨x, hx⟩ : ∃ x, ls[k].length = x := ⟨_, rfl⟩
      rw [hx] at c1 hlen HT2
      have HM : Hid (n - (intOf (.int .i64 ((k : Int) + 1))).toNat < n - (intOf (.int .i64 (k : Int))).toNat) := by
        show n - ((k : Int) + 1).toNat < n - (k : Int).toNat
        omega
      have HR : Hid (∃ (k' S' : Nat), Value.int .i64 ((S : Int) + 1 + (x : Int)) = .int .i64 (S' : Int) ∧ Value.int .i64 ((k : Int) + 1) = .int .i64 (k' : Int) ∧ k' ≤ n ∧ S' ≤ 140737488355001 * k' ∧ Hid (S' = totL (ls.take k'))) := by
        refine ⟨k + 1, S + 1 + x, by congr 1, by simp, by omega, by omega, HT2.out.symm⟩
      clear b1 hx
      go_wp2_with fail
      exact ⟨⟨trivial, HR.out⟩, HM.out⟩
    · obtain rfl : k = n := by omega
      have HE : Hid (S = totL ls) := by
        show _ = _
        rw [HT.out, List.take_of_length_le (by rw [HNL.out]; exact Nat.le_refl _)]
      go_wp2_with fail
      go_ret
      exact ⟨by rw [← HE.out]; rfl, rfl⟩
set_option maxRecDepth 100000 in
/-- However many there are, long tells something. -/
theorem long_any (hs : Rb w A n ls) (hn : n ≤ 140737488355000) : Calls Tryd.prog 9 #[.slice A n c] w fun e w' => (∃ b : Bool, e = .returned (.bool b)) ∧ w = w' := by
  have HS := Lib.hid hs
  have HNL := Lib.hid hs.len
  clear hs
  go_enter Tryd.func9, Tryd.ntmps9
  go_wp2_with fail
  go_loopw [3, 4] (fun nv iv wr => w = wr ∧ ∃ (k : Nat) (S : Int), nv = .int .i64 S ∧ iv = .int .i64 (k : Int) ∧ k ≤ n) (fun _ iv _ => n - (intOf iv).toNat)
  case atStart => exact ⟨rfl, 0, 0, rfl, rfl, by omega⟩
  case round =>
    obtain ⟨rfl, k, S, rfl, rfl, hk⟩ := hrel
    by_cases hlt : k < n
    · have hlt' : (k : Int) < (n : Int) := by omega
      have hkl : k < ls.length := by rw [HNL.out]; exact hlt
      obtain ⟨ad, Ai, ci, rfl, c1, b1⟩ := HS.out.at_ hlt hkl
      obtain ⟨x, hx⟩ : ∃ x, ls[k].length = x := ⟨_, rfl⟩
      rw [hx] at c1
      have hki : (k : Int) + 1 ≤ 140737488355000 := by omega
      have HM : Hid (n - (intOf (.int .i64 ((k : Int) + 1))).toNat < n - (intOf (.int .i64 (k : Int))).toNat) := by
        show n - ((k : Int) + 1).toNat < n - (k : Int).toNat
        omega
      have HR : Hid (∃ k' : Nat, Value.int .i64 ((k : Int) + 1) = .int .i64 (k' : Int) ∧ k' ≤ n) := ⟨k + 1, by simp, by omega⟩
      clear b1 hx
      go_wp2_with fail
      obtain ⟨k', h1, h2⟩ := HR.out
      exact ⟨⟨trivial, k', _, rfl, h1, h2⟩, HM.out⟩
    · obtain rfl : k = n := by omega
      go_wp2_with fail
      go_ret
      exact ⟨⟨_, rfl⟩, rfl⟩
end
end Go.Proofs.YtbbgdcnnacakjaaDoor
