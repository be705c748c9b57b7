/-
  mime's mathematics: kinds, boundaries, parts, sections, counts. Nothing of the program stands here.
-/
import Derived.Test.YtakehogenioobaaDoorHLib
namespace Go.Proofs.YtakehogenioobaaDoor

/-- The pieces of a text between each ';'. -/
def pcs : List UInt8 → List (List UInt8)
  | [] => [[]]
  | x :: t => if x = 59 then [] :: pcs t else match pcs t with
    | [] => [[x]]
    | l :: r => (x :: l) :: r
theorem pcs_step : ∀ b : List UInt8, pcs b = if fi 59 b < b.length then b.take (fi 59 b) :: pcs (b.drop (fi 59 b + 1)) else [b]
  | [] => rfl
  | x :: t => by
    rw [pcs, fi_cons]
    by_cases h : x = 59
    · rw [if_pos h, if_pos h, if_pos (by simp)]; simp
    · rw [if_neg h, if_neg h, pcs_step t]
      by_cases h2 : fi 59 t < t.length
      · rw [if_pos h2, if_pos (by rw [List.length_cons]; omega)]; simp
      · rw [if_neg h2, if_neg (by rw [List.length_cons]; omega)]
theorem fi_none {x : UInt8} : ∀ {p : List UInt8}, (∀ y ∈ p, y ≠ x) → fi x p = p.length
  | [], _ => rfl
  | y :: p, h => by rw [fi_cons, if_neg (h y (by simp)), fi_none (fun z hz => h z (by simp [hz])), List.length_cons]
theorem fi_app {x : UInt8} : ∀ {p : List UInt8} (r : List UInt8), (∀ y ∈ p, y ≠ x) → fi x (p ++ x :: r) = p.length
  | [], r, _ => by rw [List.nil_append, fi_cons, if_pos rfl]; rfl
  | y :: p, r, h => by
    rw [List.cons_append, fi_cons, if_neg (h y (by simp)), fi_app r (fun z hz => h z (by simp [hz])), List.length_cons]
theorem pcs_one {b : List UInt8} (h : ∀ y ∈ b, y ≠ 59) : pcs b = [b] := by
  rw [pcs_step, fi_none h, if_neg (by omega)]
theorem pcs_ne (b : List UInt8) : pcs b ≠ [] := by
  rw [pcs_step]
  split <;> simp

/-- Without one '"' at its beginning and one at its end, if it has both. -/
def bare (v : List UInt8) : List UInt8 := if 2 ≤ v.length ∧ Lib.hasPrefix v [34] = true ∧ Lib.hasSuffix v [34] = true then (v.take (v.length - 1)).drop 1 else v
def bdN : List UInt8 := [98, 111, 117, 110, 100, 97, 114, 121]
def ctN : List UInt8 := [67, 111, 110, 116, 101, 110, 116, 45, 84, 121, 112, 101]
def txN : List UInt8 := [116, 101, 120, 116]
def plN : List UInt8 := [112, 108, 97, 105, 110]
def muN : List UInt8 := [109, 117, 108, 116, 105, 112, 97, 114, 116]
def isBd (t : List UInt8) : Bool := decide (fi 61 t < t.length) && sameT (trimB (t.take (fi 61 t))) bdN
def bnds : List (List UInt8) → List UInt8
  | [] => []
  | t :: r => if isBd t = true then bare (trimB (t.drop (fi 61 t + 1))) else bnds r
def mnOf (k : List UInt8) : List UInt8 := if k.take (fi 47 k) = [] ∨ k.drop (fi 47 k + 1) = [] then txN else k.take (fi 47 k)
def sbOf (k : List UInt8) : List UInt8 := if k.take (fi 47 k) = [] ∨ k.drop (fi 47 k + 1) = [] then plN else k.drop (fi 47 k + 1)
def knOf (v : List UInt8) : List UInt8 := lows (trimB (v.take (fi 59 v)))
def bdOf (v : List UInt8) : List UInt8 := bnds (pcs (v.drop (fi 59 v + 1)))
def vlOf (b : List UInt8) : List UInt8 := (getF b ctN).getD []
def tyM (b : List UInt8) : List UInt8 := mnOf (knOf (vlOf b))
def tyS (b : List UInt8) : List UInt8 := sbOf (knOf (vlOf b))
def tyB (b : List UInt8) : List UInt8 := bdOf (vlOf b)

/-- How long a part is, of lines: the last one's end is not of it. -/
def pl (x : List UInt8) : Nat := if Lib.hasSuffix x [10] = true then (tx x).length else x.length
def prt (b : List UInt8) (f t : Nat) : Nat × Nat := (f, f + pl ((b.take t).drop f))
/-- Within a part that begins at f, the next line at a; k are closed. -/
def pin (b m : List UInt8) : Nat → Nat → Nat → List (List UInt8) → List (Nat × Nat)
  | f, a, _, [] => [prt b f a]
  | f, a, k, l :: r => if tx l = m ∧ k + 1 < 16 then prt b f a :: pin b m (a + l.length) (a + l.length) (k + 1) r
    else if tx l = m ++ [45, 45] then [prt b f a] else pin b m f (a + l.length) k r
/-- Ahead of the first mark. -/
def pout (b m : List UInt8) : Nat → List (List UInt8) → List (Nat × Nat)
  | _, [] => []
  | a, l :: r => if tx l = m ++ [45, 45] then [] else if tx l = m then pin b m (a + l.length) (a + l.length) 0 r else pout b m (a + l.length) r
def mkOf (b : List UInt8) : List UInt8 := [45, 45] ++ tyB b
def parts (b : List UInt8) : List (Nat × Nat) := if tyM b ≠ muN ∨ tyB b = [] then [] else pout b (mkOf b) (hd b) (lns (b.drop (hd b)))
def subB (b : List UInt8) (p : Nat × Nat) : List UInt8 := (b.take p.2).drop p.1
def sec : List Int → List UInt8 → Option (List UInt8)
  | [], b => some b
  | n :: r, b => if parts b = [] ∧ n = 1 ∧ r = [] then some (b.drop (hd b)) else if n < 1 ∨ ((parts b).length : Int) < n then none else sec r (subB b ((parts b).getD (n.toNat - 1) (0, 0)))
def cnt : Nat → List UInt8 → Nat
  | 0, _ => 1
  | d + 1, b => if parts b = [] then 1 else ((parts b).map fun p => cnt d (subB b p)).sum

/-- Parts one behind the other, from lo on, up to N. -/
def Ord (N : Nat) : Nat → List (Nat × Nat) → Prop
  | _, [] => True
  | lo, p :: r => lo ≤ p.1 ∧ p.1 ≤ p.2 ∧ p.2 ≤ N ∧ Ord N p.2 r
theorem Ord.low {N lo lo' : Nat} {ps : List (Nat × Nat)} (h : Ord N lo ps) (hl : lo' ≤ lo) : Ord N lo' ps := by
  cases ps with
  | nil => trivial
  | cons p r => exact ⟨Nat.le_trans hl h.1, h.2⟩
theorem Ord.get {N : Nat} : ∀ {ps : List (Nat × Nat)} {lo : Nat}, Ord N lo ps → ∀ {i : Nat} {p : Nat × Nat}, ps[i]? = some p → lo ≤ p.1 ∧ p.1 ≤ p.2 ∧ p.2 ≤ N
  | [], _, _, i, p, h => by simp at h
  | q :: r, lo, h, i, p, hi => by
    cases i with
    | zero => simp at hi; subst hi; exact ⟨h.1, h.2.1, h.2.2.1⟩
    | succ i =>
      have := Ord.get h.2.2.2 (i := i) (p := p) (by simpa using hi)
      have := h.1; have := h.2.1
      omega
theorem Ord.step {N : Nat} : ∀ {ps : List (Nat × Nat)} {lo : Nat}, Ord N lo ps → ∀ {i : Nat} {p q : Nat × Nat}, ps[i]? = some p → ps[i + 1]? = some q → p.2 ≤ q.1
  | [], _, _, i, p, _, h, _ => by simp at h
  | a :: r, lo, h, i, p, q, hi, hj => by
    cases i with
    | zero => simp at hi; subst hi; exact (Ord.get h.2.2.2 (i := 0) (p := q) (by simpa using hj)).1
    | succ i => exact Ord.step h.2.2.2 (i := i) (by simpa using hi) (by simpa using hj)
theorem pl_le (x : List UInt8) : pl x ≤ x.length := by
  unfold pl
  split
  · exact tx_len x
  · exact Nat.le_refl _
theorem prt_le (b : List UInt8) {f t : Nat} (h : f ≤ t) : f ≤ (prt b f t).2 ∧ (prt b f t).2 ≤ t := by
  have h1 := pl_le ((b.take t).drop f)
  rw [List.length_drop, List.length_take] at h1
  unfold prt
  exact ⟨Nat.le_add_right _ _, by simp only []; omega⟩
theorem pin_ord (b m : List UInt8) (N : Nat) : ∀ (ls : List (List UInt8)) (f a k : Nat), f ≤ a → a + ls.flatten.length ≤ N → Ord N f (pin b m f a k ls)
  | [], f, a, k, h, hN => by
    have := prt_le b h
    rw [pin]
    exact ⟨Nat.le_refl _, this.1, by simp at hN; omega, trivial⟩
  | l :: r, f, a, k, h, hN => by
    have h1 := prt_le b h
    rw [List.flatten_cons, List.length_append] at hN
    rw [pin]
    split
    · exact ⟨Nat.le_refl _, h1.1, by omega, (pin_ord b m N r _ _ (k + 1) (Nat.le_refl _) (by omega)).low (by omega)⟩
    · split
      · exact ⟨Nat.le_refl _, h1.1, by omega, trivial⟩
      · exact pin_ord b m N r f _ k (by omega) (by omega)
theorem pout_ord (b m : List UInt8) (N : Nat) : ∀ (ls : List (List UInt8)) (a : Nat), a + ls.flatten.length ≤ N → Ord N a (pout b m a ls)
  | [], _, _ => trivial
  | l :: r, a, hN => by
    rw [List.flatten_cons, List.length_append] at hN
    rw [pout]
    split
    · trivial
    · split
      · exact (pin_ord b m N r _ _ 0 (Nat.le_refl _) (by omega)).low (by omega)
      · exact (pout_ord b m N r _ (by omega)).low (by omega)
theorem parts_ord (b : List UInt8) : Ord b.length 0 (parts b) := by
  unfold parts
  split
  · trivial
  · refine (pout_ord b _ b.length _ _ ?_).low (Nat.zero_le _)
    have := hd_le b
    rw [lns_flat, List.length_drop]
    omega
theorem pin_ne (b m : List UInt8) : ∀ (ls : List (List UInt8)) (f a k : Nat), pin b m f a k ls ≠ []
  | [], f, a, k => by rw [pin]; simp
  | l :: r, f, a, k => by
    rw [pin]
    split
    · simp
    · split
      · simp
      · exact pin_ne b m r f _ k
theorem pin_most (b m : List UInt8) : ∀ (ls : List (List UInt8)) (f a k : Nat), k < 16 → k + (pin b m f a k ls).length ≤ 16
  | [], f, a, k, h => by rw [pin]; simp; omega
  | l :: r, f, a, k, h => by
    rw [pin]
    split
    · rename_i h2
      have := pin_most b m r (a + l.length) (a + l.length) (k + 1) h2.2
      rw [List.length_cons]; omega
    · split
      · simp; omega
      · exact pin_most b m r f _ k h
theorem pout_most (b m : List UInt8) : ∀ (ls : List (List UInt8)) (a : Nat), (pout b m a ls).length ≤ 16
  | [], _ => by rw [pout]; simp
  | l :: r, a => by
    rw [pout]
    split
    · simp
    · split
      · have := pin_most b m r (a + l.length) (a + l.length) 0 (by omega); omega
      · exact pout_most b m r _
theorem parts_most (b : List UInt8) : (parts b).length ≤ 16 := by
  unfold parts
  split
  · simp
  · exact pout_most b _ _ _
theorem subB_len (b : List UInt8) (p : Nat × Nat) : (subB b p).length ≤ b.length := by
  unfold subB
  rw [List.length_drop, List.length_take]
  omega
theorem sum_le {l : List Nat} {m : Nat} (h : ∀ x ∈ l, x ≤ m) : l.sum ≤ l.length * m := by
  induction l with
  | nil => simp
  | cons x r ih =>
    have h1 := h x (by simp)
    have h2 := ih (fun y hy => h y (by simp [hy]))
    rw [List.sum_cons, List.length_cons, Nat.succ_mul]
    omega
theorem cnt_le : ∀ (d : Nat) (b : List UInt8), cnt d b ≤ 16 ^ d
  | 0, _ => by simp [cnt]
  | d + 1, b => by
    rw [cnt]
    split
    · exact Nat.one_le_pow _ _ (by omega)
    · refine Nat.le_trans (sum_le (m := 16 ^ d) fun x hx => ?_) ?_
      · obtain ⟨p, _, rfl⟩ := List.mem_map.1 hx
        exact cnt_le d _
      · rw [List.length_map, Nat.pow_succ, Nat.mul_comm]
        exact Nat.mul_le_mul_left _ (parts_most b)
theorem cnt_pos : ∀ (d : Nat) (b : List UInt8), 1 ≤ cnt d b
  | 0, _ => by simp [cnt]
  | d + 1, b => by
    rw [cnt]
    split
    · exact Nat.le_refl _
    · rename_i h
      cases hp : parts b with
      | nil => exact absurd hp h
      | cons p r =>
        rw [List.map_cons, List.sum_cons]
        have := cnt_pos d (subB b p)
        omega

/- A head of one line, an empty line behind it. -/
section
variable {d rest : List UInt8}
def oneH (d rest : List UInt8) : List UInt8 := d ++ ([13, 10, 13, 10] ++ rest)
theorem end_full {t : List UInt8} (ht : ∀ x ∈ t, x ≠ 10) : ∃ d : List UInt8, (∀ x ∈ d, x ≠ 10) ∧ t ++ [13, 10] = d ++ [10] := ⟨t ++ [13], fun x hx => by
  rcases List.mem_append.1 hx with hx | hx
  · exact ht x hx
  · rw [List.mem_singleton.1 hx]; decide, by simp⟩
theorem oneH_eq (d rest : List UInt8) : oneH d rest = ([d ++ [13, 10], [] ++ [13, 10]] : List (List UInt8)).flatten ++ rest := by simp [oneH]
theorem oneH_lns (h : ∀ x ∈ d, x ≠ 10) (rest : List UInt8) : lns (oneH d rest) = [d ++ [13, 10], [] ++ [13, 10]] ++ lns rest := by
  rw [oneH_eq]
  refine lns_full (fun l hl => ?_) rest
  simp only [List.mem_cons, List.mem_nil_iff, or_false] at hl
  rcases hl with rfl | rfl
  · exact end_full h
  · exact end_full (fun x hx => nomatch hx)
theorem oneH_hk (h : ∀ x ∈ d, x ≠ 10) (hne : d ≠ []) (rest : List UInt8) : hk (lns (oneH d rest)) = 2 := by
  rw [oneH_lns h]
  simp only [List.cons_append, List.nil_append]
  rw [hk, if_neg (by rw [tx_crlf]; exact hne), hk, if_pos (by decide)]
theorem oneH_hls (h : ∀ x ∈ d, x ≠ 10) (hne : d ≠ []) (rest : List UInt8) : hls (oneH d rest) = [d ++ [13, 10], [] ++ [13, 10]] := by
  unfold hls
  rw [oneH_hk h hne, oneH_lns h]
  exact List.take_left' rfl
theorem oneH_hd (h : ∀ x ∈ d, x ≠ 10) (hne : d ≠ []) (rest : List UInt8) : hd (oneH d rest) = d.length + 4 := by
  unfold hd
  rw [oneH_hls h hne]
  simp
theorem oneH_body (h : ∀ x ∈ d, x ≠ 10) (hne : d ≠ []) (rest : List UInt8) : (oneH d rest).drop (hd (oneH d rest)) = rest := by
  rw [oneH_hd h hne]
  unfold oneH
  rw [← List.append_assoc]
  exact List.drop_left' (by simp)
theorem oneH_flds (h : ∀ x ∈ d, x ≠ 10) (hne : d ≠ []) (hb : begB d = false) (rest : List UInt8) : flds (oneH d rest) = (fieldOf d).toList := by
  unfold flds
  rw [oneH_hls h hne]
  simp only [List.map_cons, List.map_nil, tx_crlf]
  rw [fl, if_neg (by rw [hb]; decide), fl, if_neg (by decide), show fieldOf [] = none by decide, fl]
  simp
theorem oneH_get (h : ∀ x ∈ d, x ≠ 10) (hne : d ≠ []) (hb : begB d = false) {nm v : List UInt8} (hf : fieldOf d = some (nm, v)) (hs : sameT nm ctN = true) (rest : List UInt8) : vlOf (oneH d rest) = v := by
  unfold vlOf getF
  rw [oneH_flds h hne hb, hf]
  simp [hs]
theorem parts_empty (rest : List UInt8) : parts (13 :: 10 :: rest) = [] ∧ hd (13 :: 10 :: rest) = 2 := by
  have e : (13 :: 10 :: rest : List UInt8) = ([[] ++ [13, 10]] : List (List UInt8)).flatten ++ rest := by simp
  have hl : lns (13 :: 10 :: rest) = [[] ++ [13, 10]] ++ lns rest := by
    rw [e]
    refine lns_full (fun l hl => ?_) rest
    rw [List.mem_singleton.1 hl]
    exact end_full (fun x hx => nomatch hx)
  have hh : hls (13 :: 10 :: rest) = [[13, 10]] := by
    unfold hls
    rw [hl]
    simp only [List.cons_append, List.nil_append]
    rw [hk, if_pos (by decide)]
    rfl
  have hv : vlOf (13 :: 10 :: rest) = [] := by
    unfold vlOf getF flds
    rw [hh]
    decide
  refine ⟨?_, by unfold hd; rw [hh]; rfl⟩
  unfold parts tyM
  rw [hv, if_pos (.inl (by decide))]
end

/-- Blanks at neither end. -/
theorem trim_lead (l : List UInt8) : trimB (32 :: l) = trimB l := by
  rw [← trim_swap, ← trim_swap, List.dropWhile_cons, if_pos (by decide)]
theorem dw_ends {l : List UInt8} (h : begB l = false) : l.dropWhile isB = l := by
  cases l with
  | nil => rfl
  | cons x r => rw [List.dropWhile_cons, if_neg (by rw [show isB x = false from h]; decide)]
theorem trim_ends {l : List UInt8} (h1 : begB l = false) (h2 : begB l.reverse = false) : trimB l = l := by
  rw [← trim_swap, dw_ends h1]
  unfold dropR
  rw [dw_ends h2, List.reverse_reverse]
theorem dw_id {l : List UInt8} (h : ∀ x ∈ l, isB x = false) : begB l = false := by
  cases l with
  | nil => rfl
  | cons x r => exact h x (by simp)
theorem trim_id {l : List UInt8} (h : ∀ x ∈ l, isB x = false) : trimB l = l := trim_ends (dw_id h) (dw_id fun x hx => h x (List.mem_reverse.1 hx))
theorem field_app {p : List UInt8} (r : List UInt8) (h : ∀ y ∈ p, y ≠ 58) : fieldOf (p ++ 58 :: r) = some (trimB p, trimB r) := by
  unfold fieldOf
  rw [show cln (p ++ 58 :: r) = p.length from fi_app r h, if_pos (by simp), List.take_left, ← List.drop_drop, List.drop_left]
  rfl
end Go.Proofs.YtakehogenioobaaDoor
