/-
  box: mailboxes as plain data. Nothing of the program stands here.
-/
import Derived.Test.YthaodlegpjedoaaReader3
import Derived.Test.YthaodlegpjedoaaWriter2
import Derived.Test.YthaodlegpjedoaaAApply
namespace Go.Proofs.Ythaodlegpjedoaa

structure Mg where
  uid : Int
  flags : Int
  date : Int
  body : List UInt8
structure Bx where
  name : List UInt8
  val : Int
  next : Int
  l : List Mg
instance : DecidableEq Mg := fun a b =>
  if h : a.uid = b.uid ∧ a.flags = b.flags ∧ a.date = b.date ∧ a.body = b.body then isTrue (by cases a; cases b; simp_all) else isFalse (by rintro rfl; simp at h)
instance : DecidableEq Bx := fun a b =>
  if h : a.name = b.name ∧ a.val = b.val ∧ a.next = b.next ∧ a.l = b.l then isTrue (by cases a; cases b; simp_all) else isFalse (by rintro rfl; simp at h)

/-! ### What may be -/
def okc (c : UInt8) : Bool := (decide (97 ≤ c.toNat) && decide (c.toNat ≤ 122)) || (decide (48 ≤ c.toNat) && decide (c.toNat ≤ 57))
def nameL (s : List UInt8) : Bool := decide (1 ≤ s.length) && decide (s.length ≤ 12) && s.all okc
def inR (n a b : Int) : Bool := decide (a ≤ n) && decide (n ≤ b)
def markOk (f d : Int) : Bool := inR f 0 31 && inR d 0 1073741824
def mgOk (last next : Int) (m : Mg) : Bool := decide (last < m.uid) && decide (m.uid < next) && markOk m.flags m.date && decide (m.body.length ≤ 1200)
def rises (next : Int) : Int → List Mg → Bool
  | _, [] => true
  | last, m :: r => mgOk last next m && rises next m.uid r
def isB (b : Bx) : Bool := nameL b.name && inR b.val 1 1048576 && inR b.next 1 1048576 && decide (b.l.length ≤ 24) && rises b.next 0 b.l

theorem inR_iff {n a b : Int} : inR n a b = true ↔ a ≤ n ∧ n ≤ b := by simp [inR]
theorem markOk_iff {f d : Int} : markOk f d = true ↔ (0 ≤ f ∧ f ≤ 31) ∧ 0 ≤ d ∧ d ≤ 1073741824 := by simp [markOk, inR_iff]
theorem mgOk_iff {last next : Int} {m : Mg} : mgOk last next m = true ↔ last < m.uid ∧ m.uid < next ∧ ((0 ≤ m.flags ∧ m.flags ≤ 31) ∧ 0 ≤ m.date ∧ m.date ≤ 1073741824) ∧ m.body.length ≤ 1200 := by
  simp [mgOk, markOk_iff, and_assoc]
theorem isB_iff {b : Bx} : isB b = true ↔ nameL b.name = true ∧ (1 ≤ b.val ∧ b.val ≤ 1048576) ∧ (1 ≤ b.next ∧ b.next ≤ 1048576) ∧ b.l.length ≤ 24 ∧ rises b.next 0 b.l = true := by
  simp [isB, inR_iff, and_assoc]
/-- The last UID of the first k. -/
def lastU (l : List Mg) : Nat → Int
  | 0 => 0
  | k + 1 => match l[k]? with
    | some m => m.uid
    | none => 0
theorem rises_drop (next : Int) : ∀ (l : List Mg) (last : Int) (k : Nat) (h : k < l.length), rises next last l = true → rises next l[k].uid (l.drop (k + 1)) = true ∧ last < l[k].uid ∧ l[k].uid < next ∧ ((0 ≤ l[k].flags ∧ l[k].flags ≤ 31) ∧ 0 ≤ l[k].date ∧ l[k].date ≤ 1073741824) ∧ l[k].body.length ≤ 1200
  | m :: r, last, 0, _, h => by
    simp only [rises, Bool.and_eq_true] at h
    obtain ⟨h1, h2⟩ := h
    rw [mgOk_iff] at h1
    exact ⟨h2, h1⟩
  | m :: r, last, k + 1, hk, h => by
    simp only [rises, Bool.and_eq_true] at h
    obtain ⟨h1, h2⟩ := h
    rw [mgOk_iff] at h1
    have := rises_drop next r m.uid k (by simpa using hk) h2
    refine ⟨this.1, ?_, this.2.2⟩
    have := this.2.1
    simp only [List.getElem_cons_succ]
    omega
theorem rises_at {next last : Int} {l : List Mg} (h : rises next last l = true) {m : Mg} (hm : m ∈ l) : last < m.uid ∧ m.uid < next ∧ ((0 ≤ m.flags ∧ m.flags ≤ 31) ∧ 0 ≤ m.date ∧ m.date ≤ 1073741824) ∧ m.body.length ≤ 1200 := by
  obtain ⟨k, hk, rfl⟩ := List.mem_iff_getElem.1 hm
  exact (rises_drop next l last k hk h).2
theorem rises_snoc (next : Int) : ∀ (l : List Mg) (last : Int) (m : Mg), rises next last (l ++ [m]) = (rises next last l && mgOk (if l = [] then last else lastU l l.length) next m)
  | [], last, m => by simp [rises]
  | x :: r, last, m => by
    rw [List.cons_append, rises, rises_snoc next r x.uid m, rises, Bool.and_assoc]
    congr 3
    cases r with
    | nil => simp [lastU]
    | cons y t => simp [lastU]
/-- Of a list that rises each part that is left rises. -/
theorem rises_filter (next : Int) (p : Mg → Bool) : ∀ (l : List Mg) (last : Int), rises next last l = true → rises next last (l.filter p) = true
  | [], _, _ => rfl
  | m :: r, last, h => by
    simp only [rises, Bool.and_eq_true] at h
    obtain ⟨h1, h2⟩ := h
    have ih := rises_filter next p r m.uid h2
    rw [List.filter_cons]
    split
    · simp only [rises, Bool.and_eq_true]
      exact ⟨h1, ih⟩
    · clear h2
      rw [mgOk_iff] at h1
      revert ih
      generalize r.filter p = t
      intro ih
      cases t with
      | nil => rfl
      | cons y t =>
        simp only [rises, Bool.and_eq_true] at ih ⊢
        obtain ⟨h3, h4⟩ := ih
        refine ⟨?_, h4⟩
        rw [mgOk_iff] at h3 ⊢
        omega
/-- What stands ahead of a place has lesser UIDs. -/
theorem rises_lt {next last : Int} {l : List Mg} (h : rises next last l = true) {i j : Nat} (hij : i < j) (hj : j < l.length) : l[i].uid < l[j].uid := by
  have h1 := (rises_drop next l last i (by omega) h).1
  have hk : j - (i + 1) < (l.drop (i + 1)).length := by rw [List.length_drop]; omega
  have := (rises_drop next _ _ (j - (i + 1)) hk h1).2.1
  rw [List.getElem_drop] at this
  have e : i + 1 + (j - (i + 1)) = j := by omega
  simp only [e] at this
  exact this

/-! ### What is done -/
def newB (name : List UInt8) (val : Int) : Bx := ⟨name, val, 1, []⟩
def addE (b : Bx) (f d : Int) (n : Nat) : Int := if markOk f d = false then 1 else if 1200 < n then 5 else if 24 ≤ b.l.length then 6 else if 1048576 ≤ b.next then 10 else 0
def addB (b : Bx) (f d : Int) (p : List UInt8) : Bx := if addE b f d p.length = 0 then ⟨b.name, b.val, b.next + 1, b.l ++ [⟨b.next, f, d, p⟩]⟩ else b
def addU (b : Bx) (f d : Int) (n : Nat) : Int := if addE b f d n = 0 then b.next else 0
def posU (u : Int) (l : List Mg) : Nat := (l.takeWhile fun m => m.uid != u).length
def findI (l : List Mg) (u : Int) : Int := if posU u l < l.length then (posU u l : Int) else -1
def hasU (us : List Int) (u : Int) : Bool := us.contains u
def markM (us : List Int) (mode f : Int) (m : Mg) : Mg := if hasU us m.uid then { m with flags := applyV mode m.flags f } else m
def turns (us : List Int) (mode f : Int) (m : Mg) : Bool := (markM us mode f m).flags != m.flags
def markN (us : List Int) (mode f : Int) (l : List Mg) : Nat := (l.filter (turns us mode f)).length
def markB (b : Bx) (us : List Int) (mode f : Int) : Bx := { b with l := b.l.map (markM us mode f) }
def stayL (us : List Int) (l : List Mg) : List Mg := l.filter fun m => !hasU us m.uid
def goneL (us : List Int) (l : List Mg) : List Int := (l.filter fun m => hasU us m.uid).map Mg.uid
def expB (b : Bx) (us : List Int) : Bx := { b with l := stayL us b.l }

theorem markN_succ {us : List Int} {mode f : Int} {l : List Mg} {k : Nat} (h : k < l.length) : markN us mode f (l.take (k + 1)) = markN us mode f (l.take k) + (if turns us mode f l[k] then 1 else 0) := by
  unfold markN
  rw [List.take_succ_eq_append_getElem h, List.filter_append, List.length_append]
  congr 1
  cases e : turns us mode f l[k] <;> simp [e]
theorem markN_le (us : List Int) (mode f : Int) (l : List Mg) : markN us mode f l ≤ l.length := List.length_filter_le _ _
theorem posU_le (u : Int) (l : List Mg) : posU u l ≤ l.length := List.Sublist.length_le (List.takeWhile_sublist _)
theorem posU_hit {u : Int} : ∀ {l : List Mg} {k : Nat} (h : k < l.length), (∀ j (hj : j < k), l[j].uid ≠ u) → l[k].uid = u → posU u l = k
  | m :: r, 0, _, _, he => by
    have he : m.uid = u := he
    simp [posU, he]
  | m :: r, k + 1, hk, hne, he => by
    have h0 := hne 0 (by omega)
    have h0 : m.uid ≠ u := h0
    have := posU_hit (l := r) (k := k) (by simpa using hk) (fun j hj => hne (j + 1) (by omega)) he
    unfold posU at this ⊢
    rw [List.takeWhile_cons, if_pos (by simpa using h0), List.length_cons, this]
theorem posU_none {u : Int} : ∀ {l : List Mg}, (∀ m ∈ l, m.uid ≠ u) → posU u l = l.length
  | [], _ => rfl
  | m :: r, h => by
    have := posU_none (l := r) (u := u) (fun x hx => h x (by simp [hx]))
    unfold posU at this ⊢
    rw [List.takeWhile_cons, if_pos (by simpa using h m (by simp)), List.length_cons, this, List.length_cons]
theorem findI_hit {u : Int} {l : List Mg} {k : Nat} (h : k < l.length) (h1 : ∀ j (hj : j < k), l[j].uid ≠ u) (h2 : l[k].uid = u) : findI l u = (k : Int) := by
  unfold findI
  rw [posU_hit h h1 h2, if_pos h]
theorem findI_none {u : Int} {l : List Mg} (h : ∀ m ∈ l, m.uid ≠ u) : findI l u = -1 := by
  unfold findI
  rw [posU_none h, if_neg (by omega)]
theorem filter_succ {α : Type} {p : α → Bool} {l : List α} {k : Nat} (h : k < l.length) : (l.take (k + 1)).filter p = (l.take k).filter p ++ (if p l[k] then [l[k]] else []) := by
  rw [List.take_succ_eq_append_getElem h, List.filter_append]
  congr 1
  cases e : p l[k] <;> simp [e]
theorem isB_exp {b : Bx} (h : isB b = true) (us : List Int) : isB (expB b us) = true := by
  rw [isB_iff] at h ⊢
  obtain ⟨h1, h2, h3, h4, h5⟩ := h
  exact ⟨h1, h2, h3, Nat.le_trans (List.length_filter_le _ _) h4, rises_filter _ _ _ _ h5⟩

/-! ### Bytes -/
def encM (m : Mg) : List UInt8 := encs [m.uid, m.flags, m.date] ++ rowEnc m.body
def encMs (l : List Mg) : List UInt8 := (l.map encM).flatten
def encB (b : Bx) : List UInt8 := rowEnc b.name ++ encs [b.val, b.next, (b.l.length : Int)] ++ encMs b.l
theorem encMs_succ {l : List Mg} {k : Nat} (h : k < l.length) : encMs (l.take (k + 1)) = encMs (l.take k) ++ encM l[k] := by
  unfold encMs
  rw [List.take_succ_eq_append_getElem h, List.map_append, List.flatten_append]
  simp
theorem encMs_cons (m : Mg) (l : List Mg) : encMs (m :: l) = encM m ++ encMs l := by simp [encMs]

/-- A number that is taken has one form. -/
theorem decF_form : ∀ (l : List UInt8) (i acc v n : Nat), decF i acc l = some (v, n) → ∃ x, v = acc + x * 128 ^ i ∧ i < n ∧ l.take (n - i) = enc x ∧ (x = 0 → i = 0) := by
  intro l
  induction l with
  | nil => intro i acc v n h; simp [decF] at h
  | cons b r ih =>
    intro i acc v n h
    have hb := b.toNat_lt
    unfold decF at h
    split at h
    · cases h
    · split at h
      · rename_i hs
        split at h
        · cases h
        · rename_i h3
          simp only [Option.some.injEq, Prod.mk.injEq] at h
          obtain ⟨rfl, rfl⟩ := h
          refine ⟨b.toNat, rfl, by omega, ?_, fun h0 => by omega⟩
          rw [show i + 1 - i = 1 by omega, enc_small hs, List.take_succ_cons, List.take_zero, UInt8.ofNat_toNat]
      · rename_i hs
        obtain ⟨x, h1, h2, h3, h4⟩ := ih _ _ _ _ h
        have hx : x ≠ 0 := fun h0 => by have := h4 h0; omega
        refine ⟨b.toNat % 128 + 128 * x, ?_, by omega, ?_, fun h0 => by omega⟩
        · rw [h1, Nat.pow_succ, Nat.add_mul, Nat.add_assoc, Nat.mul_comm (128 ^ i) 128, ← Nat.mul_assoc, Nat.mul_comm x 128]
        · rw [show n - i = (n - (i + 1)) + 1 by omega, List.take_succ_cons, h3, enc_more (v := b.toNat % 128 + 128 * x) (by omega)]
          have e1 : (b.toNat % 128 + 128 * x) % 128 = b.toNat % 128 := by omega
          have e2 : (b.toNat % 128 + 128 * x) / 128 = x := by omega
          have e3 : b.toNat % 128 + 128 = b.toNat := by omega
          rw [e1, e2, e3, UInt8.ofNat_toNat]
theorem take_form {l : List UInt8} (h : takeBad false l = false) : l = enc (takeV false l) ++ takeRest false l ∧ takeV false l ≤ 4611686018427387904 := by
  have hn : decN l ≠ 0 := by
    unfold takeBad at h
    simpa using h
  obtain ⟨x, h1, h2, h3, _⟩ := decF_form l 0 0 (decV l) (decN l) (dec_some_of hn)
  have e : decV l = x := by omega
  refine ⟨?_, by unfold takeV; exact decV_le l⟩
  unfold takeV takeRest
  rw [h]
  simp only [Bool.false_eq_true, if_false]
  rw [e, ← h3]
  exact (List.take_append_drop _ _).symm
theorem row_form {l : List UInt8} (h : rowBad false l = false) : l = rowEnc (rowTook false l) ++ rowRest false l := by
  unfold rowBad at h
  have hb : takeBad false l = false := by
    unfold rawBad at h
    simp only [Bool.or_eq_false_iff] at h
    exact h.1.1
  obtain ⟨h1, _⟩ := take_form hb
  rw [hb] at h
  obtain ⟨k1, k2⟩ := raw_of_good h
  have hlen : takeV false l ≤ (takeRest false l).length := by
    unfold rawBad at h
    simp only [Bool.or_eq_false_iff, decide_eq_false_iff_not] at h
    omega
  unfold rowTook rowRest rowEnc
  rw [hb, k1, k2, Int.toNat_natCast, List.length_take, Nat.min_eq_left hlen, List.append_assoc, List.take_append_drop]
  exact h1
theorem take_back (k : Nat) (r : List UInt8) (h : k ≤ 4611686018427387904) : takeV false (enc k ++ r) = k ∧ takeBad false (enc k ++ r) = false ∧ takeRest false (enc k ++ r) = r := by
  have hd := dec_enc k r h
  have hv : decV (enc k ++ r) = k := by unfold decV; rw [hd]; rfl
  have hn : decN (enc k ++ r) = (enc k).length := by unfold decN; rw [hd]; rfl
  have hp := enc_len_pos k
  have hb : takeBad false (enc k ++ r) = false := by
    unfold takeBad
    rw [hn]
    simp only [Bool.false_or, decide_eq_false_iff_not]
    omega
  refine ⟨by unfold takeV; simpa using hv, hb, ?_⟩
  unfold takeRest
  rw [hb, hn]
  simp
theorem row_back (p r : List UInt8) (h : p.length ≤ 4611686018427387904) : rowTook false (rowEnc p ++ r) = p ∧ rowBad false (rowEnc p ++ r) = false ∧ rowRest false (rowEnc p ++ r) = r := by
  unfold rowEnc
  rw [List.append_assoc]
  obtain ⟨b1, b2, b3⟩ := take_back p.length (p ++ r) h
  have hbad : rawBad false (p ++ r) (p.length : Int) = false := by unfold rawBad; simp; omega
  obtain ⟨c1, c2⟩ := raw_of_good hbad
  refine ⟨?_, ?_, ?_⟩
  · unfold rowTook; rw [b1, b2, b3, c1]; simp
  · unfold rowBad; rw [b1, b2, b3, hbad]
  · unfold rowRest; rw [b1, b2, b3, c2]; simp
theorem take_of_bad : takeV true [] = 0 ∧ takeBad true [] = true ∧ takeRest true [] = [] := by simp [takeV, takeBad, takeRest]

/-! ### Three numbers; a message; so many messages -/
/-- What a Reader has: whether it erred, what is left. -/
abbrev RS := Bool × List UInt8
def tk (s : RS) : RS := (takeBad s.1 s.2, takeRest s.1 s.2)
def tv (s : RS) : Int := (takeV s.1 s.2 : Int)
def rk (s : RS) : RS := (rowBad s.1 s.2, rowRest s.1 s.2)
def rv (s : RS) : List UInt8 := rowTook s.1 s.2
def takeM (s : RS) : Mg := ⟨tv s, tv (tk s), tv (tk (tk s)), rv (tk (tk (tk s)))⟩
def restM (s : RS) : RS := rk (tk (tk (tk s)))
def takeL : Nat → RS → List Mg
  | 0, _ => []
  | k + 1, s => if s.1 then [] else takeM s :: takeL k (restM s)
def restL : Nat → RS → RS
  | 0, s => s
  | k + 1, s => if s.1 then s else restL k (restM s)
theorem tk_bad {s : RS} (h : (tk s).1 = false) : s.1 = false := by
  unfold tk takeBad at h
  simp only [Bool.or_eq_false_iff] at h
  exact h.1
theorem rk_bad {s : RS} (h : (rk s).1 = false) : s.1 = false := by
  unfold rk rowBad rawBad takeBad at h
  simp only [Bool.or_eq_false_iff] at h
  exact h.1.1.1
theorem restM_bad {s : RS} (h : (restM s).1 = false) : s.1 = false := tk_bad (tk_bad (tk_bad (rk_bad h)))
theorem restL_bad : ∀ {k : Nat} {s : RS}, (restL k s).1 = false → s.1 = false
  | 0, _, h => h
  | k + 1, s, h => by
    cases e : s.1
    · rfl
    · unfold restL at h; rw [e, if_pos rfl, e] at h; cases h
theorem takeL_len : ∀ {k : Nat} {s : RS}, (restL k s).1 = false → (takeL k s).length = k
  | 0, _, _ => rfl
  | k + 1, s, h => by
    have hs := restL_bad h
    unfold restL at h
    unfold takeL
    rw [hs] at h ⊢
    simp only [Bool.false_eq_true, if_false] at h ⊢
    rw [List.length_cons, takeL_len h]
theorem takeL_le : ∀ (k : Nat) (s : RS), (takeL k s).length ≤ k
  | 0, _ => Nat.le_refl _
  | k + 1, s => by
    unfold takeL
    split
    · exact Nat.zero_le _
    · rw [List.length_cons]
      have := takeL_le k (restM s)
      omega
theorem tk_form {s : RS} (h : (tk s).1 = false) : s.2 = enc (clamp (tv s)) ++ (tk s).2 := by
  have hs := tk_bad h
  obtain ⟨b, l⟩ := s
  simp only at hs
  subst hs
  obtain ⟨h1, h2⟩ := take_form (l := l) h
  show l = enc (clamp (takeV false l : Int)) ++ takeRest false l
  rw [clamp_mid (by omega) (by omega), Int.toNat_natCast]
  exact h1
theorem rk_form {s : RS} (h : (rk s).1 = false) : s.2 = rowEnc (rv s) ++ (rk s).2 := by
  have hs := rk_bad h
  obtain ⟨b, l⟩ := s
  simp only at hs
  subst hs
  exact row_form (l := l) h
theorem encs3 (a b c : Int) : encs [a, b, c] = enc (clamp a) ++ (enc (clamp b) ++ enc (clamp c)) := by simp [encs]
theorem restM_form {s : RS} (h : (restM s).1 = false) : s.2 = encM (takeM s) ++ (restM s).2 := by
  have h3 := rk_bad (s := tk (tk (tk s))) h
  have h2 := tk_bad h3
  have h1 := tk_bad h2
  have e4 := rk_form (s := tk (tk (tk s))) h
  have e3 := tk_form h3
  have e2 := tk_form h2
  have e1 := tk_form h1
  show s.2 = (encs [tv s, tv (tk s), tv (tk (tk s))] ++ rowEnc (rv (tk (tk (tk s))))) ++ (rk (tk (tk (tk s)))).2
  rw [encs3, List.append_assoc, List.append_assoc, List.append_assoc, ← e4, ← e3, ← e2, ← e1]
theorem restL_form : ∀ {k : Nat} {s : RS}, (restL k s).1 = false → s.2 = encMs (takeL k s) ++ (restL k s).2
  | 0, _, _ => rfl
  | k + 1, s, h => by
    have hs := restL_bad h
    unfold restL at h ⊢
    unfold takeL
    rw [hs] at h ⊢
    simp only [Bool.false_eq_true, if_false] at h ⊢
    rw [encMs_cons, List.append_assoc, ← restL_form h]
    exact restM_form (restL_bad h)
theorem tk_back (v : Int) (r : List UInt8) : tv (false, enc (clamp v) ++ r) = (clamp v : Int) ∧ tk (false, enc (clamp v) ++ r) = (false, r) := by
  obtain ⟨h1, h2, h3⟩ := take_back (clamp v) r (clamp_le v)
  exact ⟨by show ((takeV false _ : Nat) : Int) = _; rw [h1], by show (takeBad false _, takeRest false _) = _; rw [h2, h3]⟩
theorem restM_back {m : Mg} (r : List UInt8) (h1 : 0 ≤ m.uid ∧ m.uid ≤ 4611686018427387904) (h2 : 0 ≤ m.flags ∧ m.flags ≤ 4611686018427387904) (h3 : 0 ≤ m.date ∧ m.date ≤ 4611686018427387904) (h4 : m.body.length ≤ 4611686018427387904) :
    takeM (false, encM m ++ r) = m ∧ restM (false, encM m ++ r) = (false, r) := by
  have e : encM m ++ r = enc (clamp m.uid) ++ (enc (clamp m.flags) ++ (enc (clamp m.date) ++ (rowEnc m.body ++ r))) := by
    unfold encM
    rw [encs3]
    simp
  rw [e]
  obtain ⟨a1, a2⟩ := tk_back m.uid (enc (clamp m.flags) ++ (enc (clamp m.date) ++ (rowEnc m.body ++ r)))
  obtain ⟨b1, b2⟩ := tk_back m.flags (enc (clamp m.date) ++ (rowEnc m.body ++ r))
  obtain ⟨c1, c2⟩ := tk_back m.date (rowEnc m.body ++ r)
  obtain ⟨d1, d2, d3⟩ := row_back m.body r h4
  have q : ∀ x : Int, 0 ≤ x ∧ x ≤ 4611686018427387904 → (clamp x : Int) = x := fun x hx => by rw [clamp_mid hx.1 hx.2]; omega
  refine ⟨?_, ?_⟩
  · unfold takeM
    rw [a1, a2, b1, b2, c1, c2, q _ h1, q _ h2, q _ h3]
    show (⟨m.uid, m.flags, m.date, rowTook false (rowEnc m.body ++ r)⟩ : Mg) = m
    rw [d1]
  · unfold restM
    rw [a2, b2, c2]
    show (rowBad false (rowEnc m.body ++ r), rowRest false (rowEnc m.body ++ r)) = _
    rw [d2, d3]
theorem restL_back : ∀ (l : List Mg) (r : List UInt8), (∀ m ∈ l, (0 ≤ m.uid ∧ m.uid ≤ 4611686018427387904) ∧ (0 ≤ m.flags ∧ m.flags ≤ 4611686018427387904) ∧ (0 ≤ m.date ∧ m.date ≤ 4611686018427387904) ∧ m.body.length ≤ 4611686018427387904) →
    takeL l.length (false, encMs l ++ r) = l ∧ restL l.length (false, encMs l ++ r) = (false, r)
  | [], _, _ => ⟨rfl, rfl⟩
  | m :: l, r, h => by
    obtain ⟨h1, h2, h3, h4⟩ := h m (by simp)
    obtain ⟨a1, a2⟩ := restM_back (m := m) (encMs l ++ r) h1 h2 h3 h4
    obtain ⟨b1, b2⟩ := restL_back l r (fun x hx => h x (by simp [hx]))
    rw [encMs_cons, List.append_assoc, List.length_cons]
    refine ⟨?_, ?_⟩
    · unfold takeL
      simp only [Bool.false_eq_true, if_false]
      rw [a1, a2, b1]
    · unfold restL
      simp only [Bool.false_eq_true, if_false]
      rw [a2, b2]

/-! ### All of it -/
def hd (p : List UInt8) : RS := rk (false, p)
def cnt (p : List UInt8) : Int := tv (tk (tk (hd p)))
def body0 (p : List UInt8) : RS := tk (tk (tk (hd p)))
def boxOf (p : List UInt8) (k : Nat) : Bx := ⟨rv (false, p), tv (hd p), tv (tk (hd p)), takeL k (body0 p)⟩
def wholeS (s : RS) : Bool := !s.1 && decide (s.2 = [])
def decO (p : List UInt8) : Option Bx :=
  if 24 < cnt p then none else if wholeS (restL (cnt p).toNat (body0 p)) && isB (boxOf p (cnt p).toNat) then some (boxOf p (cnt p).toNat) else none
theorem cnt_pos (p : List UInt8) : 0 ≤ cnt p := by unfold cnt tv; omega
theorem boxOf_form {p : List UInt8} {k : Nat} (hk : cnt p = (k : Int)) (h : wholeS (restL k (body0 p)) = true) : p = encB (boxOf p k) := by
  unfold wholeS at h
  simp only [Bool.and_eq_true, Bool.not_eq_true', decide_eq_true_eq] at h
  obtain ⟨h1, h2⟩ := h
  have e4 := restL_form h1
  have hl := takeL_len h1
  rw [h2, List.append_nil] at e4
  have b3 : (tk (tk (tk (hd p)))).1 = false := restL_bad h1
  have b2 := tk_bad b3
  have b1 := tk_bad b2
  have b0 : (rk (false, p)).1 = false := tk_bad b1
  have e3 := tk_form b3
  have e2 := tk_form b2
  have e1 := tk_form b1
  have e0 := rk_form b0
  unfold encB boxOf
  simp only
  rw [hl, encs3, ← hk, List.append_assoc, List.append_assoc, List.append_assoc, ← e4]
  show p = rowEnc (rv (false, p)) ++ (enc (clamp (tv (hd p))) ++ (enc (clamp (tv (tk (hd p)))) ++ (enc (clamp (tv (tk (tk (hd p))))) ++ (tk (tk (tk (hd p)))).2)))
  rw [← e3, ← e2, ← e1]
  exact e0
theorem decO_back {b : Bx} (h : isB b = true) : decO (encB b) = some b := by
  have h' := h
  rw [isB_iff] at h'
  obtain ⟨h1, h2, h3, h4, h5⟩ := h'
  have hn : b.name.length ≤ 12 := by
    unfold nameL at h1
    simp only [Bool.and_eq_true, decide_eq_true_eq] at h1
    exact h1.1.2
  have e : encB b = rowEnc b.name ++ (enc (clamp b.val) ++ (enc (clamp b.next) ++ (enc (clamp (b.l.length : Int)) ++ (encMs b.l ++ [])))) := by
    unfold encB
    rw [encs3]
    simp
  obtain ⟨d1, d2, d3⟩ := row_back b.name (enc (clamp b.val) ++ (enc (clamp b.next) ++ (enc (clamp (b.l.length : Int)) ++ (encMs b.l ++ [])))) (by omega)
  obtain ⟨a1, a2⟩ := tk_back b.val (enc (clamp b.next) ++ (enc (clamp (b.l.length : Int)) ++ (encMs b.l ++ [])))
  obtain ⟨b1, b2⟩ := tk_back b.next (enc (clamp (b.l.length : Int)) ++ (encMs b.l ++ []))
  obtain ⟨c1, c2⟩ := tk_back (b.l.length : Int) (encMs b.l ++ [])
  obtain ⟨g1, g2⟩ := restL_back b.l [] (fun m hm => by have := rises_at h5 hm; omega)
  have q : ∀ x : Int, 0 ≤ x ∧ x ≤ 4611686018427387904 → (clamp x : Int) = x := fun x hx => by rw [clamp_mid hx.1 hx.2]; omega
  have hhd : hd (encB b) = (false, enc (clamp b.val) ++ (enc (clamp b.next) ++ (enc (clamp (b.l.length : Int)) ++ (encMs b.l ++ [])))) := by
    rw [e]
    show (rowBad false _, rowRest false _) = _
    rw [d2, d3]
  have hc : cnt (encB b) = (b.l.length : Int) := by
    unfold cnt
    rw [hhd, a2, b2, c1, q _ (by omega)]
  have hb0 : body0 (encB b) = (false, encMs b.l ++ []) := by
    unfold body0
    rw [hhd, a2, b2, c2]
  have hbx : boxOf (encB b) b.l.length = b := by
    unfold boxOf
    rw [hb0, g1, hhd, a2, a1, b1, q _ (by omega), q _ (by omega)]
    have : rv (false, encB b) = b.name := by rw [e]; exact d1
    rw [this]
  unfold decO
  rw [hc, Int.toNat_natCast, if_neg (by omega), hb0, g2, hbx, h]
  rfl
/-- What the document's Decode tells is the same. -/
def decR (p : List UInt8) : Option Bx :=
  if wholeS (restL (min (cnt p).toNat 25) (body0 p)) && isB (boxOf p (min (cnt p).toNat 25)) && decide (encB (boxOf p (min (cnt p).toNat 25)) = p) then some (boxOf p (min (cnt p).toNat 25)) else none
theorem decR_eq (p : List UInt8) : decR p = decO p := by
  have h0 := cnt_pos p
  unfold decR decO
  by_cases h : 24 < cnt p
  · rw [if_pos h, Nat.min_eq_right (by omega)]
    cases hw : wholeS (restL 25 (body0 p)) with
    | false => rfl
    | true =>
      have h1 : (restL 25 (body0 p)).1 = false := by
        unfold wholeS at hw
        simp only [Bool.and_eq_true, Bool.not_eq_true'] at hw
        exact hw.1
      have : isB (boxOf p 25) = false := by
        cases hb : isB (boxOf p 25) with
        | false => rfl
        | true =>
          rw [isB_iff] at hb
          have h2 : (takeL 25 (body0 p)).length ≤ 24 := hb.2.2.2.1
          rw [takeL_len h1] at h2
          omega
      rw [this]
      rfl
  · rw [if_neg h, Nat.min_eq_left (by omega)]
    cases hw : wholeS (restL (cnt p).toNat (body0 p)) with
    | false => rfl
    | true =>
      have := boxOf_form (k := (cnt p).toNat) (by omega) hw
      have hd : decide (encB (boxOf p (cnt p).toNat) = p) = true := decide_eq_true this.symm
      rw [hd, Bool.and_true]
theorem encM_len {m : Mg} (h : m.body.length ≤ 1000000000) : (encM m).length ≤ m.body.length + 36 := by
  unfold encM rowEnc
  have h1 := encsLen_le [m.uid, m.flags, m.date]
  have h2 := enc_len9 (v := m.body.length) (by omega)
  unfold encsLen at h1
  rw [List.length_append, List.length_append]
  simp only [List.length_cons, List.length_nil] at h1
  omega
end Go.Proofs.Ythaodlegpjedoaa
