/-
  head's mathematics: the lines of bytes, their texts, the head, fields, what is sent. Nothing of the program stands here.
-/
import Derived.Test.YtakehogenioobaaDoorLMath
import Derived.Lib.SlTrimSet
namespace Go.Proofs.YtakehogenioobaaDoor

/-- The lines of bytes, each with its end. -/
def lns : List UInt8 → List (List UInt8)
  | [] => []
  | x :: t => if x = 10 then [x] :: lns t else match lns t with
    | [] => [[x]]
    | l :: r => (x :: l) :: r
theorem lns_nil : lns [] = [] := rfl
theorem lns_step : ∀ (b : List UInt8), b ≠ [] → lns b = b.take (nl b + 1) :: lns (b.drop (nl b + 1))
  | [], h => absurd rfl h
  | [x], _ => by
    by_cases h : x = 10
    · subst h; rfl
    · simp [lns, h, nl]
  | x :: y :: t, _ => by
    by_cases h : x = 10
    · subst h; rw [nl_cons, if_pos rfl]; simp [lns]
    · rw [nl_cons, if_neg h]
      have := lns_step (y :: t) (by simp)
      rw [lns, if_neg h, this]
      simp
theorem lns_flat : ∀ b : List UInt8, (lns b).flatten = b
  | [] => rfl
  | x :: t => by
    have ih := lns_flat t
    rw [lns]
    split
    · simp [ih]
    · split
      · rename_i h; rw [h] at ih; simp at ih; simp [← ih]
      · rename_i h; rw [h] at ih; simpa using ih

/-- Lines that are lines: each but the last one ends with its one 0A. -/
def Good : List (List UInt8) → Prop
  | [] => True
  | l :: r => (∃ d : List UInt8, (∀ x ∈ d, x ≠ 10) ∧ (l = d ++ [10] ∨ (l = d ∧ d ≠ [] ∧ r = []))) ∧ Good r
theorem lns_line {d : List UInt8} (hd : ∀ x ∈ d, x ≠ 10) (b : List UInt8) : lns (d ++ 10 :: b) = (d ++ [10]) :: lns b := by
  induction d with
  | nil => simp [lns]
  | cons x d ih =>
    rw [List.cons_append, lns, if_neg (hd x (by simp)), ih (fun y hy => hd y (by simp [hy]))]
    rfl
theorem lns_last {d : List UInt8} (hd : ∀ x ∈ d, x ≠ 10) (hne : d ≠ []) : lns d = [d] := by
  induction d with
  | nil => exact absurd rfl hne
  | cons x d ih =>
    rw [lns, if_neg (hd x (by simp))]
    by_cases h : d = []
    · subst h; rfl
    · rw [ih (fun y hy => hd y (by simp [hy])) h]
theorem lns_good : ∀ b : List UInt8, Good (lns b)
  | [] => trivial
  | x :: t => by
    have ih := lns_good t
    rw [lns]
    split
    · rename_i h; subst h; exact ⟨⟨[], by simp, .inl rfl⟩, ih⟩
    · rename_i h
      split
      · exact ⟨⟨[x], by simpa using h, .inr ⟨rfl, by simp, rfl⟩⟩, trivial⟩
      · rename_i l r hl
        rw [hl] at ih
        obtain ⟨⟨d, hd, hl2⟩, hr⟩ := ih
        refine ⟨⟨x :: d, ?_, ?_⟩, hr⟩
        · intro y hy
          rcases List.mem_cons.1 hy with rfl | hy
          · exact h
          · exact hd y hy
        · rcases hl2 with rfl | ⟨rfl, hn, rfl⟩
          · exact .inl rfl
          · exact .inr ⟨rfl, by simp, rfl⟩
theorem lns_of_good : ∀ {ls : List (List UInt8)}, Good ls → lns ls.flatten = ls
  | [], _ => rfl
  | l :: r, h => by
    obtain ⟨⟨d, hd, hl⟩, hr⟩ := h
    rw [List.flatten_cons]
    rcases hl with rfl | ⟨rfl, hn, rfl⟩
    · rw [List.append_assoc, List.singleton_append, lns_line hd, lns_of_good hr]
    · rw [List.flatten_nil, List.append_nil, lns_last hd hn]
theorem Good.drop : ∀ {ls : List (List UInt8)} (k : Nat), Good ls → Good (ls.drop k)
  | _, 0, h => by simpa using h
  | [], _ + 1, _ => by simp [Good]
  | _ :: _, k + 1, h => by simpa using Good.drop k h.2
theorem Good.take : ∀ {ls : List (List UInt8)} (k : Nat), Good ls → Good (ls.take k)
  | _, 0, _ => by simp [Good]
  | [], _ + 1, _ => by simp [Good]
  | l :: r, k + 1, h => by
    rw [List.take_succ_cons]
    obtain ⟨⟨d, hd, hl⟩, hr⟩ := h
    refine ⟨⟨d, hd, ?_⟩, hr.take k⟩
    rcases hl with rfl | ⟨rfl, hn, rfl⟩
    · exact .inl rfl
    · exact .inr ⟨rfl, hn, by simp⟩
/-- Lines that end, all of them. -/
def Full (ls : List (List UInt8)) : Prop := ∀ l ∈ ls, ∃ d : List UInt8, (∀ x ∈ d, x ≠ 10) ∧ l = d ++ [10]
theorem lns_full : ∀ {ls : List (List UInt8)}, Full ls → ∀ b, lns (ls.flatten ++ b) = ls ++ lns b
  | [], _, _ => rfl
  | l :: r, h, b => by
    obtain ⟨d, hd, rfl⟩ := h l (by simp)
    rw [List.flatten_cons, List.append_assoc, List.append_assoc, List.singleton_append, lns_line hd, lns_full (fun m hm => h m (by simp [hm]))]
    rfl
theorem lns_full' {ls : List (List UInt8)} (h : Full ls) : lns ls.flatten = ls := by
  have := lns_full h []
  simpa [lns_nil] using this

/-- The first k lines' bytes, and what is behind them. -/
theorem take_flat (ls : List (List UInt8)) (k : Nat) : ls.flatten.take (ls.take k).flatten.length = (ls.take k).flatten := by
  conv => lhs; rw [show ls.flatten = (ls.take k).flatten ++ (ls.drop k).flatten by rw [← List.flatten_append, List.take_append_drop]]
  exact List.take_left' rfl
theorem drop_flat (ls : List (List UInt8)) (k : Nat) : ls.flatten.drop (ls.take k).flatten.length = (ls.drop k).flatten := by
  conv => lhs; rw [show ls.flatten = (ls.take k).flatten ++ (ls.drop k).flatten by rw [← List.flatten_append, List.take_append_drop]]
  exact List.drop_left' rfl
theorem take_lns (b : List UInt8) (k : Nat) : b.take ((lns b).take k).flatten.length = ((lns b).take k).flatten := by
  have := take_flat (lns b) k
  rwa [lns_flat] at this
theorem drop_lns (b : List UInt8) (k : Nat) : b.drop ((lns b).take k).flatten.length = ((lns b).drop k).flatten := by
  have := drop_flat (lns b) k
  rwa [lns_flat] at this
theorem lns_take (b : List UInt8) (k : Nat) : lns ((lns b).take k).flatten = (lns b).take k := lns_of_good ((lns_good b).take k)
theorem lns_drop (b : List UInt8) (k : Nat) : lns ((lns b).drop k).flatten = (lns b).drop k := lns_of_good ((lns_good b).drop k)
theorem take_flat_le (b : List UInt8) (k : Nat) : ((lns b).take k).flatten.length ≤ b.length := by
  have h := congrArg List.length (lns_flat b)
  rw [← List.take_append_drop k (lns b), List.flatten_append, List.length_append] at h
  omega
theorem lns_ne {b l : List UInt8} (h : l ∈ lns b) : l ≠ [] := by
  have hg := lns_good b
  generalize lns b = ls at h hg
  induction ls with
  | nil => cases h
  | cons m r ih =>
    obtain ⟨⟨d, _, hl⟩, hr⟩ := hg
    rcases List.mem_cons.1 h with rfl | h
    · rcases hl with rfl | ⟨rfl, hn, _⟩
      · simp
      · exact hn
    · exact ih h hr
theorem lns_len (b : List UInt8) : (lns b).length ≤ b.length := by
  have h1 : ∀ ls : List (List UInt8), (∀ l ∈ ls, l ≠ []) → ls.length ≤ ls.flatten.length := by
    intro ls
    induction ls with
    | nil => intro _; simp
    | cons l r ih =>
      intro h
      have := ih (fun m hm => h m (by simp [hm]))
      have h2 : 0 < l.length := List.length_pos_iff.2 (h l (by simp))
      rw [List.flatten_cons, List.length_append, List.length_cons]
      omega
  have := h1 (lns b) (fun l hl => lns_ne hl)
  rwa [lns_flat] at this

/-- A line's text. -/
def tx (l : List UInt8) : List UInt8 := tr (Lib.trimSuffix l [10])
theorem trimSuffix_snoc (d : List UInt8) (x : UInt8) : Lib.trimSuffix (d ++ [x]) [x] = d := by
  unfold Lib.trimSuffix Lib.hasSuffix
  rw [if_pos (by simp)]
  simp
theorem trimSuffix_not {d : List UInt8} {x : UInt8} (h : ∀ y, d.getLast? = some y → y ≠ x) : Lib.trimSuffix d [x] = d := by
  unfold Lib.trimSuffix Lib.hasSuffix
  rw [if_neg]
  intro hs
  obtain ⟨p, hp⟩ := List.isSuffixOf_iff_suffix.1 hs
  exact h x (by rw [← hp]; simp) rfl
theorem tr_prefix (l : List UInt8) : ∃ k, tr l = l.take k := by
  unfold tr Lib.trimSuffix
  split
  · exact ⟨_, rfl⟩
  · exact ⟨l.length, by simp⟩
theorem tx_prefix (l : List UInt8) : ∃ k, tx l = l.take k := by
  unfold tx
  obtain ⟨k, hk⟩ := tr_prefix (Lib.trimSuffix l [10])
  rw [hk]
  unfold Lib.trimSuffix
  split
  · exact ⟨_, List.take_take ..⟩
  · exact ⟨k, rfl⟩
theorem tx_len (l : List UInt8) : (tx l).length ≤ l.length := by
  obtain ⟨k, hk⟩ := tx_prefix l
  rw [hk, List.length_take]; omega
theorem tx_line {d : List UInt8} : tx (d ++ [10]) = tr d := by unfold tx; rw [trimSuffix_snoc]
theorem tx_crlf {d : List UInt8} : tx (d ++ [13, 10]) = d := by
  have : d ++ [13, 10] = (d ++ [13]) ++ [10] := by simp
  rw [this, tx_line]
  unfold tr
  exact trimSuffix_snoc d 13
theorem tx_no10 {b l : List UInt8} (h : l ∈ lns b) : ∀ x ∈ tx l, x ≠ 10 := by
  have hg := lns_good b
  generalize lns b = ls at h hg
  induction ls with
  | nil => cases h
  | cons m r ih =>
    obtain ⟨⟨d, hd, hl⟩, hr⟩ := hg
    rcases List.mem_cons.1 h with rfl | h
    · rcases hl with rfl | ⟨rfl, hn, _⟩
      · rw [tx_line]
        obtain ⟨k, hk⟩ := tr_prefix d
        rw [hk]
        intro x hx
        exact hd x (List.mem_of_mem_take hx)
      · obtain ⟨k, hk⟩ := tx_prefix l
        rw [hk]
        intro x hx
        exact hd x (List.mem_of_mem_take hx)
    · exact ih h hr

/-- How many lines the head has; how many bytes. -/
def hk : List (List UInt8) → Nat
  | [] => 0
  | l :: r => if tx l = [] then 1 else hk r + 1
theorem hk_le : ∀ ls, hk ls ≤ ls.length
  | [] => Nat.le_refl _
  | l :: r => by
    have := hk_le r
    rw [hk]
    split
    · rw [List.length_cons]; omega
    · rw [List.length_cons]; omega
theorem hk_ne : ∀ (ls : List (List UInt8)) (i : Nat) (l : List UInt8), i + 1 < hk ls → ls[i]? = some l → tx l ≠ []
  | [], i, l, h, _ => by rw [hk] at h; omega
  | m :: r, i, l, h, hi => by
    rw [hk] at h
    split at h
    · omega
    · rename_i hm
      cases i with
      | zero => simp at hi; subst hi; exact hm
      | succ i => exact hk_ne r i l (by omega) (by simpa using hi)
theorem hk_last : ∀ (ls : List (List UInt8)), hk ls = ls.length ∨ ∃ l, ls[hk ls - 1]? = some l ∧ tx l = [] ∧ 0 < hk ls
  | [] => .inl rfl
  | m :: r => by
    rw [hk]
    split
    · rename_i hm; exact .inr ⟨m, by simp, hm, by omega⟩
    · rcases hk_last r with h | ⟨l, h1, h2, h3⟩
      · exact .inl (by rw [h, List.length_cons])
      · refine .inr ⟨l, ?_, h2, by omega⟩
        rw [show hk r + 1 - 1 = (hk r - 1) + 1 by omega, List.getElem?_cons_succ]
        exact h1
/-- The head's lines. -/
def hls (b : List UInt8) : List (List UInt8) := (lns b).take (hk (lns b))
def hd (b : List UInt8) : Nat := (hls b).flatten.length
theorem hd_le (b : List UInt8) : hd b ≤ b.length := take_flat_le b _
theorem head_eq (b : List UInt8) : b.take (hd b) = (hls b).flatten := take_lns b _
theorem body_eq (b : List UInt8) : b.drop (hd b) = ((lns b).drop (hk (lns b))).flatten := drop_lns b _
theorem lns_head (b : List UInt8) : lns (b.take (hd b)) = hls b := by rw [head_eq]; exact lns_take b _
theorem lns_body (b : List UInt8) : lns (b.drop (hd b)) = (lns b).drop (hk (lns b)) := by rw [body_eq]; exact lns_drop b _
def topLen (b : List UInt8) (n : Int) : Nat := hd b + ((lns (b.drop (hd b))).take n.toNat).flatten.length
theorem topLen_le (b : List UInt8) (n : Int) : topLen b n ≤ b.length := by
  have h1 := take_flat_le (b.drop (hd b)) n.toNat
  have h2 := hd_le b
  rw [List.length_drop] at h1
  unfold topLen
  omega

/-- As it is sent. -/
def dotted (t : List UInt8) : List UInt8 := if t.head? = some 46 then 46 :: t else t
def sentOf (l : List UInt8) : List UInt8 := dotted (tx l) ++ [13, 10]
def stuff (b : List UInt8) : List UInt8 := ((lns b).map sentOf).flatten ++ [46, 13, 10]

/-- Without blanks at both ends. -/
def isB (x : UInt8) : Bool := ([32, 9] : List UInt8).contains x
def trimB (l : List UInt8) : List UInt8 := Lib.trimS l [32, 9]
def dropR (l : List UInt8) : List UInt8 := (l.reverse.dropWhile isB).reverse
theorem dropR_cons (x : UInt8) (l : List UInt8) : dropR (x :: l) = if dropR l = [] then (if isB x = true then [] else [x]) else x :: dropR l := by
  unfold dropR
  rw [List.reverse_cons, List.dropWhile_append]
  by_cases h : List.dropWhile isB l.reverse = []
  · rw [h]
    simp only [List.isEmpty_nil, if_true, List.reverse_nil]
    rw [List.dropWhile_cons, List.dropWhile_nil]
    split <;> rfl
  · have h2 : (List.dropWhile isB l.reverse).isEmpty = false := by
      cases hd : List.dropWhile isB l.reverse with
      | nil => exact absurd hd h
      | cons => rfl
    rw [h2, if_neg (by decide), if_neg (by simpa using h)]
    simp
/-- From the left first, or from the right first: it is one. -/
theorem trim_swap (l : List UInt8) : dropR (l.dropWhile isB) = trimB l := by
  show dropR (l.dropWhile isB) = (dropR l).dropWhile isB
  induction l with
  | nil => rfl
  | cons x l ih =>
    rw [List.dropWhile_cons]
    by_cases hx : isB x = true
    · rw [if_pos hx, ih, dropR_cons]
      by_cases h : dropR l = []
      · rw [if_pos h, if_pos hx, h]
      · rw [if_neg h, List.dropWhile_cons, if_pos hx]
    · rw [if_neg hx, dropR_cons]
      by_cases h : dropR l = []
      · rw [if_pos h, if_neg hx, List.dropWhile_cons, if_neg hx]
      · rw [if_neg h, List.dropWhile_cons, if_neg hx]
theorem trimB_len (l : List UInt8) : (trimB l).length ≤ l.length := by
  unfold trimB Lib.trimS Lib.trimLeftS Lib.trimRightS
  refine Nat.le_trans (List.dropWhile_suffix _).length_le ?_
  rw [List.length_reverse]
  refine Nat.le_trans (List.dropWhile_suffix _).length_le ?_
  rw [List.length_reverse]
  exact Nat.le_refl _
def begB (t : List UInt8) : Bool := match t with
  | [] => false
  | x :: _ => isB x
/-- Ahead of the first ':', and behind it. -/
def cln (l : List UInt8) : Nat := l.findIdx (· == 58)
def fieldOf (t : List UInt8) : Option (List UInt8 × List UInt8) := if cln t < t.length then some (trimB (t.take (cln t)), trimB (t.drop (cln t + 1))) else none
/-- The fields of texts, behind one that is under way. -/
def fl : Option (List UInt8 × List UInt8) → List (List UInt8) → List (List UInt8 × List UInt8)
  | st, [] => st.toList
  | st, t :: r => if begB t = true then fl (st.map fun p => (p.1, p.2 ++ 32 :: trimB t)) r else st.toList ++ fl (fieldOf t) r
def flds (b : List UInt8) : List (List UInt8 × List UInt8) := fl none ((hls b).map tx)
def low (x : UInt8) : UInt8 := if 65 ≤ x ∧ x ≤ 90 then x + 32 else x
def lows (l : List UInt8) : List UInt8 := l.map low
def sameT (a b : List UInt8) : Bool := lows a == lows b
def getF (b name : List UInt8) : Option (List UInt8) := ((flds b).find? fun p => sameT p.1 name).map (·.2)
end Go.Proofs.YtakehogenioobaaDoor
