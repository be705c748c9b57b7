/-
  Plain mathematics of records: a number in four bytes, a record, what is wrong with bytes, all records from the beginning on. Nothing of the program stands here.
-/
import Derived.Test.YtblggoneifmoeaaDoorCrc
namespace Go.Proofs.YtblggoneifmoeaaDoor

theorem sumOf_lt (l : List UInt8) : sumOf l < 4294967296 := by unfold sumOf; omega

/-- A number in four bytes, the lowest first; the way back. -/
def four (v : Nat) : List UInt8 := [UInt8.ofNat (v % 256), UInt8.ofNat (v / 256 % 256), UInt8.ofNat (v / 65536 % 256), UInt8.ofNat (v / 16777216 % 256)]
def from4 : List UInt8 → Nat
  | a :: b :: c :: d :: _ => a.toNat + 256 * b.toNat + 65536 * c.toNat + 16777216 * d.toNat
  | _ => 0
theorem four_len (v : Nat) : (four v).length = 4 := rfl
theorem from4_lt (l : List UInt8) : from4 l < 4294967296 := by
  match l with
  | [] | [_] | [_, _] | [_, _, _] => simp [from4]
  | a :: b :: c :: d :: _ =>
    have := a.toNat_lt
    have := b.toNat_lt
    have := c.toNat_lt
    have := d.toNat_lt
    simp only [from4]
    omega
theorem ofNat_toNat {x : Nat} (h : x < 256) : (UInt8.ofNat x).toNat = x := by rw [UInt8.toNat_ofNat']; omega
theorem from4_four (v : Nat) (hv : v < 4294967296) (l : List UInt8) : from4 (four v ++ l) = v := by
  simp only [four, List.cons_append, List.nil_append, from4]
  rw [ofNat_toNat (by omega), ofNat_toNat (by omega), ofNat_toNat (by omega), ofNat_toNat (by omega)]
  omega
theorem from4_take (l : List UInt8) : from4 (l.take 4) = from4 l := by
  match l with
  | [] | [_] | [_, _] | [_, _, _] => rfl
  | _ :: _ :: _ :: _ :: _ => rfl
theorem from4_append (p q : List UInt8) (h : 4 ≤ p.length) : from4 (p ++ q) = from4 p := by
  rw [← from4_take (p ++ q), ← from4_take p, List.take_append_of_le_length h]
theorem from4_inj {p q : List UInt8} (hp : p.length = 4) (hq : q.length = 4) (h : from4 p = from4 q) : p = q := by
  match p, q, hp, hq with
  | [a, b, c, d], [a', b', c', d'], _, _ =>
    have := a.toNat_lt
    have := b.toNat_lt
    have := c.toNat_lt
    have := d.toNat_lt
    have := a'.toNat_lt
    have := b'.toNat_lt
    have := c'.toNat_lt
    have := d'.toNat_lt
    simp only [from4] at h
    rw [UInt8.toNat_inj.1 (show a.toNat = a'.toNat by omega), UInt8.toNat_inj.1 (show b.toNat = b'.toNat by omega), UInt8.toNat_inj.1 (show c.toNat = c'.toNat by omega), UInt8.toNat_inj.1 (show d.toNat = d'.toNat by omega)]

/-- The head of a record; the record. -/
def heading (n : Nat) : List UInt8 := four n ++ four (sumOf (four n))
def record (p : List UInt8) : List UInt8 := heading p.length ++ p ++ four (sumOf (heading p.length ++ p))
theorem heading_len (n : Nat) : (heading n).length = 8 := rfl
theorem record_len (p : List UInt8) : (record p).length = 12 + p.length := by
  unfold record
  rw [List.length_append, List.length_append, heading_len, four_len]
  omega

/-- What is wrong with the record that bytes begin with (0: nothing), what it holds, how many bytes it has. -/
def bad (b : List UInt8) : Nat :=
  if b.length < 8 then 2
  else if sumOf (b.take 4) ≠ from4 (b.drop 4) then 4
  else if 1048576 < from4 b then 5
  else if b.length < 12 + from4 b then 2
  else if sumOf (b.take (8 + from4 b)) ≠ from4 (b.drop (8 + from4 b)) then 4
  else 0
def body (b : List UInt8) : List UInt8 := if bad b = 0 then (b.drop 8).take (from4 b) else []
def size (b : List UInt8) : Nat := if bad b = 0 then 12 + from4 b else 0
theorem bad_0 {b : List UInt8} (h : b.length < 8) : bad b = 2 := by rw [bad, if_pos h]
theorem bad_1 {b : List UInt8} (h : ¬ b.length < 8) (h1 : sumOf (b.take 4) ≠ from4 (b.drop 4)) : bad b = 4 := by rw [bad, if_neg h, if_pos h1]
theorem bad_2 {b : List UInt8} (h : ¬ b.length < 8) (h1 : sumOf (b.take 4) = from4 (b.drop 4)) (h2 : 1048576 < from4 b) : bad b = 5 := by rw [bad, if_neg h, if_neg (fun n => n h1), if_pos h2]
theorem bad_3 {b : List UInt8} (h : ¬ b.length < 8) (h1 : sumOf (b.take 4) = from4 (b.drop 4)) (h2 : ¬ 1048576 < from4 b) (h3 : b.length < 12 + from4 b) : bad b = 2 := by
  rw [bad, if_neg h, if_neg (fun n => n h1), if_neg h2, if_pos h3]
theorem bad_4 {b : List UInt8} (h : ¬ b.length < 8) (h1 : sumOf (b.take 4) = from4 (b.drop 4)) (h2 : ¬ 1048576 < from4 b) (h3 : ¬ b.length < 12 + from4 b) (h4 : sumOf (b.take (8 + from4 b)) ≠ from4 (b.drop (8 + from4 b))) : bad b = 4 := by
  rw [bad, if_neg h, if_neg (fun n => n h1), if_neg h2, if_neg h3, if_pos h4]
theorem bad_5 {b : List UInt8} (h : ¬ b.length < 8) (h1 : sumOf (b.take 4) = from4 (b.drop 4)) (h2 : ¬ 1048576 < from4 b) (h3 : ¬ b.length < 12 + from4 b) (h4 : sumOf (b.take (8 + from4 b)) = from4 (b.drop (8 + from4 b))) : bad b = 0 := by
  rw [bad, if_neg h, if_neg (fun n => n h1), if_neg h2, if_neg h3, if_neg (fun n => n h4)]
theorem bad_le (b : List UInt8) : bad b ≤ 5 := by
  unfold bad
  split
  · omega
  split
  · omega
  split
  · omega
  split
  · omega
  split <;> omega
theorem size_pos {b : List UInt8} (h : bad b = 0) : 12 ≤ size b ∧ size b ≤ b.length ∧ size b = 12 + (body b).length := by
  have hs : size b = 12 + from4 b := by rw [size, if_pos h]
  have hb : body b = (b.drop 8).take (from4 b) := by rw [body, if_pos h]
  have hl : ¬ b.length < 12 + from4 b := by
    intro hl
    unfold bad at h
    rw [if_pos hl] at h
    split at h
    · omega
    · split at h
      · omega
      · split at h <;> omega
  rw [hs, hb, List.length_take, List.length_drop]
  omega
theorem body_bad {b : List UInt8} (h : bad b ≠ 0) : body b = [] := by rw [body, if_neg h]
theorem size_bad {b : List UInt8} (h : bad b ≠ 0) : size b = 0 := by rw [size, if_neg h]

/-- What is wrong with bytes that are to be just one record, and what they hold. -/
def oneBad (b : List UInt8) : Nat := if bad b = 0 then (if size b < b.length then 3 else 0) else bad b
def oneBody (b : List UInt8) : List UInt8 := if oneBad b = 0 then body b else []
theorem one_0 {b : List UInt8} (h : bad b ≠ 0) : oneBad b = bad b ∧ oneBody b = [] := by
  have e : oneBad b = bad b := by rw [oneBad, if_neg h]
  exact ⟨e, by rw [oneBody, e, if_neg h]⟩
theorem one_1 {b : List UInt8} (h : bad b = 0) (hs : size b < b.length) : oneBad b = 3 ∧ oneBody b = [] := by
  have e : oneBad b = 3 := by rw [oneBad, if_pos h, if_pos hs]
  exact ⟨e, by rw [oneBody, e, if_neg (by omega)]⟩
theorem one_2 {b : List UInt8} (h : bad b = 0) (hs : ¬ size b < b.length) : oneBad b = 0 ∧ oneBody b = body b := by
  have e : oneBad b = 0 := by rw [oneBad, if_pos h, if_neg hs]
  exact ⟨e, by rw [oneBody, e, if_pos rfl]⟩
/-- The parts of a record, whatever stands behind. -/
theorem record_at (p q : List UInt8) : (record p ++ q).take 4 = four p.length ∧ (record p ++ q).drop 4 = four (sumOf (four p.length)) ++ (p ++ (four (sumOf (heading p.length ++ p)) ++ q)) ∧
    (record p ++ q).drop 8 = p ++ (four (sumOf (heading p.length ++ p)) ++ q) ∧ (record p ++ q).take (8 + p.length) = heading p.length ++ p ∧ (record p ++ q).drop (8 + p.length) = four (sumOf (heading p.length ++ p)) ++ q := by
  have e : record p ++ q = four p.length ++ (four (sumOf (four p.length)) ++ (p ++ (four (sumOf (heading p.length ++ p)) ++ q))) := by
    simp only [record, heading, List.append_assoc]
  have e2 : record p ++ q = (heading p.length ++ p) ++ (four (sumOf (heading p.length ++ p)) ++ q) := by
    simp only [record, List.append_assoc]
  have l1 : (four p.length).length = 4 := rfl
  have l2 : (heading p.length ++ p).length = 8 + p.length := by rw [List.length_append, heading_len]
  have e3 : record p ++ q = heading p.length ++ (p ++ (four (sumOf (heading p.length ++ p)) ++ q)) := by rw [e2, List.append_assoc]
  refine ⟨?_, ?_, ?_, ?_, ?_⟩
  · rw [e]; exact List.take_left' l1
  · rw [e]; exact List.drop_left' l1
  · rw [e3]; exact List.drop_left' (heading_len _)
  · rw [e2, ← l2]; exact List.take_left
  · rw [e2, ← l2]; exact List.drop_left
theorem record_from (p q : List UInt8) (hp : p.length ≤ 1048576) : from4 (record p ++ q) = p.length := by
  have e : record p ++ q = four p.length ++ (four (sumOf (four p.length)) ++ (p ++ (four (sumOf (heading p.length ++ p)) ++ q))) := by
    simp only [record, heading, List.append_assoc]
  rw [e, from4_four _ (by omega)]
theorem record_good (p q : List UInt8) (hp : p.length ≤ 1048576) : bad (record p ++ q) = 0 ∧ body (record p ++ q) = p ∧ size (record p ++ q) = 12 + p.length := by
  obtain ⟨a1, a2, a3, a4, a5⟩ := record_at p q
  have hf := record_from p q hp
  have hl : (record p ++ q).length = 12 + p.length + q.length := by rw [List.length_append, record_len]
  have h0 : bad (record p ++ q) = 0 := by
    refine bad_5 (by omega) ?_ (by omega) (by omega) ?_
    · rw [a1, a2, from4_four _ (sumOf_lt _)]
    · rw [hf, a4, a5, from4_four _ (sumOf_lt _)]
  refine ⟨h0, ?_, ?_⟩
  · rw [body, if_pos h0, hf, a3]
    exact List.take_left
  · rw [size, if_pos h0, hf]
/-- A record that is cut short is none. -/
theorem record_torn (p : List UInt8) (hp : p.length ≤ 1048576) (k : Nat) (hk : k < 12 + p.length) : bad ((record p).take k) ≠ 0 := by
  have hl : ((record p).take k).length = k := by rw [List.length_take, record_len]; omega
  by_cases h8 : k < 8
  · rw [bad_0 (by omega)]; omega
  · obtain ⟨a1, a2, _⟩ := record_at p []
    rw [List.append_nil] at a1 a2
    have hf := record_from p [] hp
    rw [List.append_nil] at hf
    have e1 : ((record p).take k).take 4 = four p.length := by rw [List.take_take, Nat.min_eq_left (by omega), a1]
    have e4 : from4 ((record p).take k) = p.length := by
      rw [← from4_take, List.take_take, Nat.min_eq_left (by omega), from4_take, hf]
    have e2 : from4 (((record p).take k).drop 4) = sumOf (four p.length) := by
      have hd : ((record p).take k).drop 4 = ((record p).drop 4).take (k - 4) := by rw [List.drop_take]
      rw [hd, ← from4_take, List.take_take, Nat.min_eq_left (by omega), from4_take, a2, from4_four _ (sumOf_lt _)]
    rw [bad_3 (by omega) (by rw [e1, e2]) (by omega) (by omega)]
    omega
/-- A record of which one byte is another one is none, whatever stands behind. -/
theorem record_spoilt (p q : List UInt8) (hp : p.length ≤ 1048576) (i : Nat) (hi : i < 12 + p.length) (x : UInt8) (hx : (record p)[i]? ≠ some x) : bad ((record p).set i x ++ q) ≠ 0 := by
  have hlr : (record p).length = 12 + p.length := record_len p
  have hl : ((record p).set i x ++ q).length = 12 + p.length + q.length := by rw [List.length_append, List.length_set, hlr]
  obtain ⟨a1, a2, a3, a4, a5⟩ := record_at p []
  rw [List.append_nil] at a1 a2 a3 a4 a5
  rw [List.append_nil] at a5
  have hf := record_from p [] hp
  rw [List.append_nil] at hf
  have hne : (record p).set i x ≠ record p := by
    intro e
    have h := congrArg (fun l : List UInt8 => l[i]?) e
    simp only [List.getElem?_set, if_true] at h
    rw [if_pos (by omega)] at h
    exact hx h.symm
  have hsum : ∀ k, i < k → k ≤ 12 + p.length → sumOf (((record p).set i x).take k) ≠ sumOf ((record p).take k) := by
    intro k hik hk
    have hlk : ((record p).take k).length = k := by rw [List.length_take]; omega
    have hik' : i < ((record p).take k).length := by omega
    have hst : ((record p).set i x).take k = ((record p).take k).set i x := by rw [List.take_set]
    have hgi : ((record p).take k)[i] ≠ x := by
      intro e
      apply hx
      rw [← e, List.getElem_take]
      exact List.getElem?_eq_getElem _
    rw [hst, List.set_eq_take_append_cons_drop, if_pos hik']
    have hself : (record p).take k = ((record p).take k).take i ++ ((record p).take k)[i] :: ((record p).take k).drop (i + 1) := by
      rw [← List.drop_eq_getElem_cons hik', List.take_append_drop]
    intro e
    rw [hself] at e
    rw [← hself] at e
    have hs := sum_ne (((record p).take k).take i) (((record p).take k).drop (i + 1)) x (((record p).take k)[i]) (fun e => hgi e.symm)
    rw [← hself] at hs
    exact hs e
  have hT : ∀ k, k ≤ 12 + p.length → ((record p).set i x ++ q).take k = ((record p).set i x).take k := by
    intro k hk
    exact List.take_append_of_le_length (by rw [List.length_set]; omega)
  have hD : ∀ k, k + 4 ≤ 12 + p.length → from4 (((record p).set i x ++ q).drop k) = from4 (((record p).set i x).drop k) := by
    intro k hk
    rw [List.drop_append_of_le_length (by rw [List.length_set]; omega), from4_append _ _ (by rw [List.length_drop, List.length_set]; omega)]
  have hsame : ∀ k, k ≤ i → ((record p).set i x).take k = (record p).take k := by
    intro k hk
    rw [List.take_set, List.set_eq_of_length_le (by rw [List.length_take]; omega)]
  have hback : ∀ k, i < k → ((record p).set i x).drop k = (record p).drop k := by
    intro k hk
    rw [List.drop_set, if_pos hk]
  have hword : ∀ k, k ≤ i → i < k + 4 → k + 4 ≤ 12 + p.length → from4 (((record p).set i x).drop k) ≠ from4 ((record p).drop k) := by
    intro k hki hik hk e
    rw [← from4_take, ← from4_take ((record p).drop k)] at e
    have h4 := from4_inj (by rw [List.length_take, List.length_drop, List.length_set]; omega) (by rw [List.length_take, List.length_drop]; omega) e
    have h := congrArg (fun l : List UInt8 => l[i - k]?) h4
    simp only [List.getElem?_take, List.getElem?_drop] at h
    rw [if_pos (by omega), if_pos (by omega), show k + (i - k) = i from by omega] at h
    simp only [List.getElem?_set, if_true] at h
    rw [if_pos (by omega)] at h
    exact hx h.symm
  have s4 : sumOf (four p.length) = from4 ((record p).drop 4) := by rw [a2, from4_four _ (sumOf_lt _)]
  have s8 : sumOf ((record p).take (8 + p.length)) = from4 ((record p).drop (8 + p.length)) := by
    rw [a4, a5, ← List.append_nil (four _), from4_four _ (sumOf_lt _)]
  by_cases c1 : i < 4
  · rw [bad_1 (by omega) (by
      rw [hT 4 (by omega), hD 4 (by omega), hback 4 c1, ← s4, ← a1]
      exact hsum 4 c1 (by omega))]
    omega
  · by_cases c2 : i < 8
    · rw [bad_1 (by omega) (by
        rw [hT 4 (by omega), hD 4 (by omega), hsame 4 (by omega), a1, s4]
        exact fun e => hword 4 (by omega) (by omega) (by omega) e.symm)]
      omega
    · have hn : from4 ((record p).set i x ++ q) = p.length := by
        have h0 := hD 0 (by omega)
        rw [List.drop_zero, List.drop_zero] at h0
        rw [h0, ← from4_take, hsame 4 (by omega), from4_take, hf]
      have h1 : sumOf (((record p).set i x ++ q).take 4) = from4 (((record p).set i x ++ q).drop 4) := by
        rw [hT 4 (by omega), hD 4 (by omega), hsame 4 (by omega), a1, s4]
        rw [← from4_take, ← from4_take (((record p).set i x).drop 4), List.take_drop, List.take_drop, hsame _ (by omega)]
      by_cases c3 : i < 8 + p.length
      · rw [bad_4 (by omega) h1 (by omega) (by omega) (by
          rw [hn, hT _ (by omega), hD _ (by omega), hback _ c3, ← s8]
          exact hsum _ c3 (by omega))]
        omega
      · rw [bad_4 (by omega) h1 (by omega) (by omega) (by
          rw [hn, hT _ (by omega), hD _ (by omega), hsame _ (by omega), s8]
          exact fun e => hword (8 + p.length) (by omega) (by omega) (by omega) e.symm)]
        omega

/-- All records from the beginning on, and how many bytes they have. -/
def scan (b : List UInt8) : List (List UInt8) × Nat :=
  if h : bad b = 0 then
    have : (b.drop (size b)).length < b.length := by have := size_pos h; rw [List.length_drop]; omega
    (body b :: (scan (b.drop (size b))).1, size b + (scan (b.drop (size b))).2)
  else ([], 0)
termination_by b.length
decreasing_by all_goals (have := size_pos h; simp only [List.length_drop]; omega)
theorem scan_good {b : List UInt8} (h : bad b = 0) : scan b = (body b :: (scan (b.drop (size b))).1, size b + (scan (b.drop (size b))).2) := by rw [scan, dif_pos h]
theorem scan_bad {b : List UInt8} (h : bad b ≠ 0) : scan b = ([], 0) := by rw [scan, dif_neg h]
theorem scan_le : ∀ (n : Nat) (b : List UInt8), b.length ≤ n → (scan b).2 ≤ b.length ∧ 12 * (scan b).1.length + (scan b).1.flatten.length = (scan b).2 := by
  intro n
  induction n with
  | zero =>
    intro b hb
    rw [scan_bad (by rw [bad_0 (by omega)]; omega)]
    simp
  | succ n ih =>
    intro b hb
    by_cases h : bad b = 0
    · have hs := size_pos h
      have hi := ih (b.drop (size b)) (by rw [List.length_drop]; omega)
      rw [scan_good h]
      rw [List.length_drop] at hi
      simp only [List.length_cons, List.flatten_cons, List.length_append]
      omega
    · rw [scan_bad h]
      simp
theorem scan_record (p q : List UInt8) (hp : p.length ≤ 1048576) : scan (record p ++ q) = (p :: (scan q).1, 12 + p.length + (scan q).2) := by
  obtain ⟨h0, hb, hs⟩ := record_good p q hp
  have hd : (record p ++ q).drop (12 + p.length) = q := by rw [← record_len p]; exact List.drop_left
  rw [scan_good h0, hb, hs, hd]
/-- Records, one behind the other. -/
def records (ls : List (List UInt8)) : List UInt8 := (ls.map record).flatten
theorem records_cons (l : List UInt8) (ls : List (List UInt8)) : records (l :: ls) = record l ++ records ls := by simp [records]
theorem records_append (a b : List (List UInt8)) : records (a ++ b) = records a ++ records b := by simp [records]
theorem scan_records (ls : List (List UInt8)) (q : List UInt8) (hl : ∀ l ∈ ls, l.length ≤ 1048576) : scan (records ls ++ q) = (ls ++ (scan q).1, (records ls).length + (scan q).2) := by
  induction ls with
  | nil => simp [records]
  | cons l ls ih =>
    rw [records_cons, List.append_assoc, scan_record _ _ (hl l (by simp)), ih (fun x hx => hl x (by simp [hx])), List.length_append, record_len]
    simp only [List.cons_append, Prod.mk.injEq, true_and]
    omega
end Go.Proofs.YtblggoneifmoeaaDoor
