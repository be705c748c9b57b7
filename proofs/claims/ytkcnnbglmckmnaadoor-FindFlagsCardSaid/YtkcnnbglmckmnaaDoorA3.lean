/-
  Texts of the seat, laid one behind the other: ZMath ZMath2 ZMath3 LMath HMath Shelf ShelfT.
-/
import Derived.Test.YtkcnnbglmckmnaaDoorA2
import Derived.Lib.Bytealg
import Derived.Lib.IndexLaws
import Derived.Lib.Strings
import Derived.Lib.SlTrimSet
import Derived.Shelf.Small.Utf8
import Derived.Shelf.Small.Strs
import Derived.Shelf.Small.Wraps
import Derived.Shelf.Strings.Search1
import Derived.Shelf.Strings.Search2
import Derived.Shelf.Strings.Search3
import Derived.Shelf.LaysM
import Derived.Shelf.Strings.Shaped
import Derived.Shelf.Strings.Prefix
import Derived.Shelf.Bytes.SlIndexSmall
import Derived.Shelf.Bytes.SlIndexAt
import Derived.Shelf.Bytes.SlSearch0
import Derived.Shelf.Bytes.SlSearch1
import Derived.Shelf.Bytes.SlSearch2
import Derived.Shelf.Bytes.SlIndexWhole
import Derived.Ground.SlbCloneProg
import Derived.Shelf.Bytes.SlClone
import Derived.Shelf.Bytes.SlSmallAll
import Derived.Shelf.Bytes.SlEqualAll
import Derived.Ground.SlbtProg
import Derived.Shelf.Bytes.SlCut
import Derived.Shelf.Bytes.Small
import Derived.Shelf.Bytes.IndexByte
import Derived.Test.YtkcnnbglmckmnaaDoorProg
import Derived.Ground.SlbvProg
import Derived.Ground.NamesProg
import Derived.Shelf.Bytes.SlTrim
import Derived.Shelf.Strings.SlTrimAscii
namespace Go.Proofs.YtkcnnbglmckmnaaDoor
inductive Ky where
  | mk (kind n : Int) (name text : List UInt8) (set : List (Int × Int)) (kids : List Ky) : Ky
def Ky.none : Ky := .mk 0 0 [] [] [] []
def Ky.kind : Ky → Int
  | .mk k _ _ _ _ _ => k
def Ky.n : Ky → Int
  | .mk _ n _ _ _ _ => n
def Ky.name : Ky → List UInt8
  | .mk _ _ s _ _ _ => s
def Ky.text : Ky → List UInt8
  | .mk _ _ _ t _ _ => t
def Ky.set : Ky → List (Int × Int)
  | .mk _ _ _ _ s _ => s
def Ky.kids : Ky → List Ky
  | .mk _ _ _ _ _ l => l
theorem Ky.kids_lt {k y : Ky} (h : y ∈ k.kids) : SizeOf.sizeOf y < SizeOf.sizeOf k := by
  cases k with
  | mk a b c d e l =>
    have h1 : SizeOf.sizeOf y < SizeOf.sizeOf l := List.sizeOf_lt_of_mem h
    simp only [Ky.mk.sizeOf_spec]
    omega
def lowB (x : UInt8) : UInt8 := if 65 ≤ x ∧ x ≤ 90 then x + 32 else x
def lowT (l : List UInt8) : List UInt8 := l.map lowB
def seenW : List UInt8 := [115, 101, 101, 110]
def answeredW : List UInt8 := [97, 110, 115, 119, 101, 114, 101, 100]
def flaggedW : List UInt8 := [102, 108, 97, 103, 103, 101, 100]
def deletedW : List UInt8 := [100, 101, 108, 101, 116, 101, 100]
def draftW : List UInt8 := [100, 114, 97, 102, 116]
def unW : List UInt8 := [117, 110]
def allW : List UInt8 := [97, 108, 108]
def largerW : List UInt8 := [108, 97, 114, 103, 101, 114]
def smallerW : List UInt8 := [115, 109, 97, 108, 108, 101, 114]
def textW : List UInt8 := [116, 101, 120, 116]
def subjectW : List UInt8 := [115, 117, 98, 106, 101, 99, 116]
def fromW : List UInt8 := [102, 114, 111, 109]
def toW : List UInt8 := [116, 111]
def uidW : List UInt8 := [117, 105, 100]
def notW : List UInt8 := [110, 111, 116]
def orW : List UInt8 := [111, 114]
def flagN (s : List UInt8) : Int := if s = seenW then 1 else if s = answeredW then 2 else if s = flaggedW then 4 else if s = deletedW then 8 else if s = draftW then 16 else 0
def unF (s : List UInt8) : Int := if s.take 2 = unW then flagN (s.drop 2) else 0
section
variable (ps : List UInt8 → Option (List (Int × Int)))
def kidsK (key : List Tkn → Option (Ky × List Tkn)) : Nat → List Tkn → Option (List Ky × List Tkn)
  | 0, _ => none
  | _ + 1, [] => none
  | f + 1, t :: r => if t.1 = 4 then some ([], r) else match key (t :: r) with
    | none => none
    | some (k, q) => (kidsK key f q).map fun p => (k :: p.1, p.2)
def topK (key : List Tkn → Option (Ky × List Tkn)) : Nat → List Tkn → Option (List Ky)
  | 0, _ => none
  | _ + 1, [] => some []
  | f + 1, t :: r => match key (t :: r) with
    | none => none
    | some (k, q) => (topK key f q).map (k :: ·)
def wordArg : List Tkn → Option (List UInt8 × List Tkn)
  | [] => none
  | t :: r => if t.1 = 1 ∨ t.1 = 2 then some (t.2, r) else none
def atomArg : List Tkn → Option (List UInt8 × List Tkn)
  | [] => none
  | t :: r => if t.1 = 1 then some (t.2, r) else none
def numArg (kind : Int) (r : List Tkn) : Option (Ky × List Tkn) := (atomArg r).bind fun p => (numD p.1).map fun n => (.mk kind (n : Int) [] [] [] [], p.2)
def textArg (kind : Int) (name : List UInt8) (r : List Tkn) : Option (Ky × List Tkn) := (wordArg r).map fun p => (.mk kind 0 name p.1 [] [], p.2)
def setArg (r : List Tkn) : Option (Ky × List Tkn) := (atomArg r).bind fun p => (ps p.1).map fun l => (.mk 8 0 [] [] l [], p.2)
def wordK (key : List Tkn → Option (Ky × List Tkn)) (raw : List UInt8) (r : List Tkn) : Option (Ky × List Tkn) :=
  let s := lowT raw
  if s = allW then some (.mk 1 0 [] [] [] [], r)
  else if s = largerW then numArg 3 r
  else if s = smallerW then numArg 4 r
  else if s = textW then textArg 5 [] r
  else if s = subjectW ∨ s = fromW ∨ s = toW then textArg 6 s r
  else if s = uidW then setArg ps r
  else if s = notW then (key r).map fun p => (.mk 9 0 [] [] [] [p.1], p.2)
  else if s = orW then (key r).bind fun p => (key p.2).map fun q => (.mk 10 0 [] [] [] [p.1, q.1], q.2)
  else if flagN s ≠ 0 then some (.mk 2 (flagN s) [] [] [] [], r)
  else if unF s ≠ 0 then some (.mk 9 0 [] [] [] [.mk 2 (unF s) [] [] [] []], r)
  else (ps raw).map fun l => (.mk 7 0 [] [] l [], r)
def keyD : Nat → List Tkn → Option (Ky × List Tkn)
  | 0, _ => none
  | _ + 1, [] => none
  | d + 1, t :: r =>
    if t.1 = 1 then wordK ps (keyD d) t.2 r
    else if t.1 = 3 then (kidsK (keyD d) (r.length + 1) r).bind fun p => if p.1 = [] then none else some (.mk 11 0 [] [] [] p.1, p.2)
    else none
def parseK (l : List Tkn) : Option Ky := (topK (keyD ps 5) (l.length + 1) l).bind fun p => if p = [] then none else some (.mk 11 0 [] [] [] p)
theorem kidsK_len {key : List Tkn → Option (Ky × List Tkn)} (hk : ∀ l k q, key l = some (k, q) → q.length < l.length) : ∀ (f : Nat) {l : List Tkn} {ks : List Ky} {q : List Tkn}, kidsK key f l = some (ks, q) → q.length < l.length
  | 0, _, _, _, h => by unfold kidsK at h; cases h
  | f + 1, [], _, _, h => by unfold kidsK at h; cases h
  | f + 1, t :: r, ks, q, h => by
    unfold kidsK at h
    split at h
    · simp only [Option.some.injEq, Prod.mk.injEq] at h
      rw [← h.2]
      simp
    · split at h
      · cases h
      · rename_i k q' hq
        simp only [Option.map_eq_some_iff] at h
        obtain ⟨⟨a, b⟩, h1, h2⟩ := h
        simp only [Prod.mk.injEq] at h2
        have h3 := kidsK_len hk f h1
        have h4 := hk _ _ _ hq
        rw [← h2.2]
        omega
theorem atomArg_len {l : List Tkn} {s : List UInt8} {q : List Tkn} (h : atomArg l = some (s, q)) : q.length < l.length := by
  cases l with
  | nil => cases h
  | cons t r =>
    unfold atomArg at h
    simp only at h
    by_cases ht : t.1 = 1
    · rw [if_pos ht] at h
      injection h with h
      injection h with h1 h2
      rw [← h2]
      simp
    · rw [if_neg ht] at h
      cases h
theorem wordArg_len {l : List Tkn} {s : List UInt8} {q : List Tkn} (h : wordArg l = some (s, q)) : q.length < l.length := by
  cases l with
  | nil => cases h
  | cons t r =>
    unfold wordArg at h
    simp only at h
    by_cases ht : t.1 = 1 ∨ t.1 = 2
    · rw [if_pos ht] at h
      injection h with h
      injection h with h1 h2
      rw [← h2]
      simp
    · rw [if_neg ht] at h
      cases h
theorem wordK_len {key : List Tkn → Option (Ky × List Tkn)} (hk : ∀ l k q, key l = some (k, q) → q.length < l.length) {raw : List UInt8} {r : List Tkn} {k : Ky} {q : List Tkn} (h : wordK ps key raw r = some (k, q)) : q.length ≤ r.length := by
  unfold wordK at h
  simp only at h
  repeat' split at h
  all_goals first
    | (simp only [Option.some.injEq, Prod.mk.injEq] at h; rw [← h.2]; exact Nat.le_refl _)
    | (unfold numArg at h
       simp only [Option.bind_eq_some_iff, Option.map_eq_some_iff, Prod.mk.injEq] at h
       obtain ⟨⟨a, b⟩, h1, n, _, _, h2⟩ := h
       have := atomArg_len h1
       rw [← h2]
       simp only
       omega)
    | (unfold textArg at h
       simp only [Option.map_eq_some_iff, Prod.mk.injEq] at h
       obtain ⟨⟨a, b⟩, h1, _, h2⟩ := h
       have := wordArg_len h1
       rw [← h2]
       simp only
       omega)
    | (unfold setArg at h
       simp only [Option.bind_eq_some_iff, Option.map_eq_some_iff, Prod.mk.injEq] at h
       obtain ⟨⟨a, b⟩, h1, n, _, _, h2⟩ := h
       have := atomArg_len h1
       rw [← h2]
       simp only
       omega)
    | (simp only [Option.bind_eq_some_iff, Option.map_eq_some_iff, Prod.mk.injEq] at h
       obtain ⟨⟨a, b⟩, h1, ⟨c, d⟩, h3, _, h2⟩ := h
       have := hk _ _ _ h1
       have := hk _ _ _ h3
       rw [← h2]
       simp only at *
       omega)
    | (simp only [Option.map_eq_some_iff, Prod.mk.injEq] at h
       obtain ⟨⟨a, b⟩, h1, _, h2⟩ := h
       have := hk _ _ _ h1
       rw [← h2]
       simp only
       omega)
    | (simp only [Option.map_eq_some_iff, Prod.mk.injEq] at h
       obtain ⟨a, h1, _, h2⟩ := h
       rw [← h2]
       exact Nat.le_refl _)
theorem keyD_len : ∀ (d : Nat) {l : List Tkn} {k : Ky} {q : List Tkn}, keyD ps d l = some (k, q) → q.length < l.length
  | 0, _, _, _, h => by unfold keyD at h; cases h
  | d + 1, [], _, _, h => by unfold keyD at h; cases h
  | d + 1, t :: r, k, q, h => by
    unfold keyD at h
    split at h
    · have := wordK_len ps (fun l k q => keyD_len d) h
      simp only [List.length_cons]
      omega
    · split at h
      · simp only [Option.bind_eq_some_iff] at h
        obtain ⟨⟨a, b⟩, h1, h2⟩ := h
        have h3 := kidsK_len (fun l k q => keyD_len d) _ h1
        simp only at h2
        split at h2
        · cases h2
        · simp only [Option.some.injEq, Prod.mk.injEq] at h2
          rw [← h2.2]
          simp only [List.length_cons]
          omega
      · cases h
end
section
variable (fl : Int → Bool) (len : Int) (tx : List UInt8 → Bool) (fd : List UInt8 → List UInt8 → Bool) (pl ui : List (Int × Int) → Bool)
mutual
def matchK : Ky → Bool
  | .mk kind n name text set kids =>
    if kind = 1 then true
    else if kind = 2 then fl n
    else if kind = 3 then decide (n < len)
    else if kind = 4 then decide (len < n)
    else if kind = 5 then tx text
    else if kind = 6 then fd name text
    else if kind = 7 then pl set
    else if kind = 8 then ui set
    else if kind = 9 then firstNot kids
    else if kind = 10 then someOf 2 kids
    else if kind = 11 then allOf kids
    else false
def firstNot : List Ky → Bool
  | [] => false
  | k :: _ => !matchK k
def someOf : Nat → List Ky → Bool
  | _, [] => false
  | 0, _ :: _ => false
  | n + 1, k :: r => matchK k || someOf n r
def allOf : List Ky → Bool
  | [] => true
  | k :: r => matchK k && allOf r
end
end
end Go.Proofs.YtkcnnbglmckmnaaDoor
namespace Go.Proofs.YtkcnnbglmckmnaaDoor
section
variable (ps : List UInt8 → Option (List (Int × Int)))
theorem keyD_nil (d : Nat) : keyD ps d [] = none := by cases d <;> rfl
theorem keyD_atom (d : Nat) (a : List UInt8) (r : List Tkn) : keyD ps (d + 1) ((1, a) :: r) = wordK ps (keyD ps d) a r := by
  rw [keyD, if_pos rfl]
def oneK (a : List UInt8) : Option Ky := (wordK ps (fun _ => none) a []).map (·.1)
theorem wordK_nil (d : Nat) (a : List UInt8) : wordK ps (keyD ps d) a [] = wordK ps (fun _ => none) a [] := by
  simp only [wordK, keyD_nil]
  rfl
theorem oneK_nil {a : List UInt8} {k : Ky} (h : oneK ps a = some k) : wordK ps (fun _ => none) a [] = some (k, []) := by
  unfold oneK at h
  simp only [Option.map_eq_some_iff] at h
  obtain ⟨⟨k', q⟩, h1, h2⟩ := h
  have := wordK_len ps (key := fun _ => none) (fun l k q h => by cases h) h1
  simp only [List.length_nil, Nat.le_zero_eq, List.length_eq_zero_iff] at this
  simp only at h2
  rw [h1, this, h2]
theorem oneK_any {a : List UInt8} {k : Ky} (h : oneK ps a = some k) (key : List Tkn → Option (Ky × List Tkn)) (r : List Tkn) : wordK ps key a r = some (k, r) := by
  have h0 := oneK_nil ps h
  unfold wordK at h0 ⊢
  simp only at h0 ⊢
  by_cases h1 : lowT a = allW
  · rw [if_pos h1] at h0 ⊢
    simp only [Option.some.injEq, Prod.mk.injEq, and_true] at h0 ⊢
    exact h0
  rw [if_neg h1] at h0 ⊢
  by_cases h2 : lowT a = largerW
  · rw [if_pos h2] at h0; simp [numArg, atomArg] at h0
  rw [if_neg h2] at h0 ⊢
  by_cases h3 : lowT a = smallerW
  · rw [if_pos h3] at h0; simp [numArg, atomArg] at h0
  rw [if_neg h3] at h0 ⊢
  by_cases h4 : lowT a = textW
  · rw [if_pos h4] at h0; simp [textArg, wordArg] at h0
  rw [if_neg h4] at h0 ⊢
  by_cases h5 : lowT a = subjectW ∨ lowT a = fromW ∨ lowT a = toW
  · rw [if_pos h5] at h0; simp [textArg, wordArg] at h0
  rw [if_neg h5] at h0 ⊢
  by_cases h6 : lowT a = uidW
  · rw [if_pos h6] at h0; simp [setArg, atomArg] at h0
  rw [if_neg h6] at h0 ⊢
  by_cases h7 : lowT a = notW
  · rw [if_pos h7] at h0; simp at h0
  rw [if_neg h7] at h0 ⊢
  by_cases h8 : lowT a = orW
  · rw [if_pos h8] at h0; simp at h0
  rw [if_neg h8] at h0 ⊢
  by_cases h9 : flagN (lowT a) ≠ 0
  · rw [if_pos h9] at h0 ⊢
    simp only [Option.some.injEq, Prod.mk.injEq, and_true] at h0 ⊢
    exact h0
  rw [if_neg h9] at h0 ⊢
  by_cases h10 : unF (lowT a) ≠ 0
  · rw [if_pos h10] at h0 ⊢
    simp only [Option.some.injEq, Prod.mk.injEq, and_true] at h0 ⊢
    exact h0
  rw [if_neg h10] at h0 ⊢
  simp only [Option.map_eq_some_iff, Prod.mk.injEq, and_true] at h0 ⊢
  exact h0
def andK (l : List Ky) : Ky := .mk 11 0 [] [] [] l
def notK (k : Ky) : Ky := .mk 9 0 [] [] [] [k]
def flagK (n : Int) : Ky := .mk 2 n [] [] [] []
theorem parse_some {l : List Tkn} {k : Ky} (h : keyD ps 5 l = some (k, [])) : parseK ps l = some (andK [k]) := by
  cases l with
  | nil => rw [keyD_nil] at h; cases h
  | cons t r =>
    unfold parseK
    rw [topK, h]
    rfl
theorem parse_none {l : List Tkn} (h : keyD ps 5 l = none) : parseK ps l = none := by
  cases l with
  | nil => rfl
  | cons t r =>
    unfold parseK
    rw [topK, h]
    rfl
theorem parse_one (a : List UInt8) : parseK ps [(1, a)] = (oneK ps a).map fun k => andK [k] := by
  cases h : oneK ps a with
  | none =>
    refine parse_none ps ?_
    rw [keyD_atom, wordK_nil]
    unfold oneK at h
    simpa using h
  | some k =>
    refine parse_some ps ?_
    rw [keyD_atom, wordK_nil]
    exact oneK_nil ps h
theorem word_not (key : List Tkn → Option (Ky × List Tkn)) (r : List Tkn) : wordK ps key notW r = (key r).map fun p => (notK p.1, p.2) := by
  unfold wordK
  have e : lowT notW = notW := by decide
  simp only [e]
  rw [if_neg (by decide), if_neg (by decide), if_neg (by decide), if_neg (by decide), if_neg (by decide), if_neg (by decide), if_pos trivial]
  rfl
theorem parse_two {a b : List UInt8} {k y : Ky} (h : oneK ps a = some k) (h2 : oneK ps b = some y) : parseK ps [(1, a), (1, b)] = some (andK [k, y]) := by
  unfold parseK
  rw [topK, keyD_atom, oneK_any ps h]
  simp only
  show ((topK (keyD ps 5) 2 [(1, b)]).map _).bind _ = _
  rw [topK, keyD_atom, oneK_any ps h2]
  rfl
theorem keyD_open (d : Nat) (r : List Tkn) : keyD ps (d + 1) ((3, []) :: r) = (kidsK (keyD ps d) (r.length + 1) r).bind fun p => if p.1 = [] then none else some (andK p.1, p.2) := by
  rw [keyD, if_neg (by decide), if_pos rfl]
  rfl
def nestN : Nat → Ky → Ky
  | 0, k => k
  | n + 1, k => notK (nestN n k)
def nestA : Nat → Ky → Ky
  | 0, k => k
  | n + 1, k => andK [nestA n k]
theorem keyD_nots {a : List UInt8} {k : Ky} (h : oneK ps a = some k) (r : List Tkn) : ∀ (n d : Nat), keyD ps d (List.replicate n (1, notW) ++ (1, a) :: r) = if n < d then some (nestN n k, r) else none
  | _, 0 => by simp [keyD]
  | 0, d + 1 => by
    rw [List.replicate_zero, List.nil_append, keyD_atom, oneK_any ps h, if_pos (by omega)]
    rfl
  | n + 1, d + 1 => by
    rw [List.replicate_succ, List.cons_append, keyD_atom, word_not, keyD_nots h r n d]
    by_cases hn : n < d
    · rw [if_pos hn, if_pos (by omega)]; rfl
    · rw [if_neg hn, if_neg (by omega)]; rfl
theorem keyD_ins {a : List UInt8} {k : Ky} (h : oneK ps a = some k) : ∀ (n d : Nat) (r : List Tkn), keyD ps d (List.replicate n (3, []) ++ (1, a) :: (List.replicate n (4, []) ++ r)) = if n < d then some (nestA n k, r) else none
  | _, 0, _ => by simp [keyD]
  | 0, d + 1, r => by
    rw [List.replicate_zero, List.replicate_zero, List.nil_append, List.nil_append, keyD_atom, oneK_any ps h, if_pos (by omega)]
    rfl
  | n + 1, d + 1, r => by
    have e : List.replicate (n + 1) ((4, []) : Tkn) ++ r = List.replicate n (4, []) ++ ((4, []) :: r) := by
      rw [List.replicate_succ', List.append_assoc]
      rfl
    rw [e, List.replicate_succ, List.cons_append, keyD_open]
    have hne : ∃ t s, List.replicate n ((3, []) : Tkn) ++ (1, a) :: (List.replicate n (4, []) ++ ((4, []) :: r)) = t :: s ∧ t.1 ≠ 4 := by
      cases n with
      | zero => exact ⟨_, _, rfl, show (1 : Int) ≠ 4 by decide⟩
      | succ n => exact ⟨_, _, rfl, by decide⟩
    have hk := keyD_ins h n d ((4, []) :: r)
    obtain ⟨t, s, hts, ht⟩ := hne
    rw [hts] at hk ⊢
    rw [kidsK, if_neg ht, hk]
    by_cases hn : n < d
    · rw [if_pos hn, if_pos (by omega)]
      simp only
      have hs : ∃ f, (t :: s).length = f + 1 := ⟨s.length, rfl⟩
      obtain ⟨f, hf⟩ := hs
      rw [hf, kidsK, if_pos rfl]
      rfl
    · rw [if_neg hn, if_neg (by omega)]
      rfl
theorem seen_one : oneK ps seenW = some (flagK 1) := by
  unfold oneK wordK
  have e : lowT seenW = seenW := by decide
  simp only [e]
  rw [if_neg (by decide), if_neg (by decide), if_neg (by decide), if_neg (by decide), if_neg (by decide), if_neg (by decide), if_neg (by decide), if_neg (by decide), if_pos (by decide)]
  rfl
end
section
variable (fl : Int → Bool) (len : Int) (tx : List UInt8 → Bool) (fd : List UInt8 → List UInt8 → Bool) (pl ui : List (Int × Int) → Bool)
theorem match_and (l : List Ky) : matchK fl len tx fd pl ui (andK l) = allOf fl len tx fd pl ui l := by
  unfold andK
  rw [matchK]
  rfl
theorem match_one (k : Ky) : matchK fl len tx fd pl ui (andK [k]) = matchK fl len tx fd pl ui k := by
  rw [match_and, allOf, allOf, Bool.and_true]
theorem match_not (k : Ky) : matchK fl len tx fd pl ui (notK k) = !matchK fl len tx fd pl ui k := by
  unfold notK
  rw [matchK]
  simp only [firstNot]
  rfl
theorem match_flag (n : Int) : matchK fl len tx fd pl ui (flagK n) = fl n := by
  unfold flagK
  rw [matchK]
  rfl
theorem match_nestA (k : Ky) : ∀ n, matchK fl len tx fd pl ui (nestA n k) = matchK fl len tx fd pl ui k
  | 0 => rfl
  | n + 1 => by rw [nestA, match_one, match_nestA k n]
theorem match_nestN (k : Ky) : ∀ n, matchK fl len tx fd pl ui (nestN n k) = if n % 2 = 0 then matchK fl len tx fd pl ui k else !matchK fl len tx fd pl ui k
  | 0 => rfl
  | n + 1 => by
    rw [nestN, match_not, match_nestN k n]
    by_cases h : n % 2 = 0
    · rw [if_pos h, if_neg (by omega)]
    · rw [if_neg h, if_pos (by omega), Bool.not_not]
end
end Go.Proofs.YtkcnnbglmckmnaaDoor
namespace Go.Proofs.YtkcnnbglmckmnaaDoor
def moreT : List Tkn → Bool
  | [] => false
  | t :: _ => decide (t.1 ≠ 4)
def allK (key : List Tkn → Option (Ky × List Tkn)) : Nat → List Tkn → Option (List Ky × List Tkn)
  | 0, _ => none
  | f + 1, T => match key T with
    | none => none
    | some (k, q) => if moreT q = true then (allK key f q).map fun p => (k :: p.1, p.2) else some ([k], q)
def shutK (o : Option (List Ky × List Tkn)) : Option (List Ky × List Tkn) := o.bind fun p => match p.2 with
  | [] => none
  | t :: r => if t.1 = 4 then some (p.1, r) else none
def endK (o : Option (List Ky × List Tkn)) : Option (List Ky) := o.bind fun p => if p.2 = [] then some p.1 else none
section
variable {key : List Tkn → Option (Ky × List Tkn)}
theorem allK_ne : ∀ {f : Nat} {T : List Tkn} {p : List Ky × List Tkn}, allK key f T = some p → p.1 ≠ []
  | 0, _, _, h => by cases h
  | f + 1, T, p, h => by
    rw [allK] at h
    split at h
    · cases h
    · split at h
      · simp only [Option.map_eq_some_iff] at h
        obtain ⟨_, _, rfl⟩ := h
        simp
      · injection h with h
        rw [← h]
        simp
theorem kids_all (hlen : ∀ l k q, key l = some (k, q) → q.length < l.length) : ∀ {f : Nat} {t : Tkn} {r : List Tkn}, t.1 ≠ 4 → (t :: r).length < f → kidsK key f (t :: r) = shutK (allK key f (t :: r))
  | 0, _, _, _, hf => by omega
  | f + 1, t, r, ht, hf => by
    rw [kidsK, if_neg ht, allK]
    cases hk : key (t :: r) with
    | none => rfl
    | some p =>
      obtain ⟨k, q⟩ := p
      have hq := hlen _ _ _ hk
      simp only
      cases q with
      | nil =>
        rw [if_neg (by simp [moreT])]
        cases f with
        | zero => rfl
        | succ f => rfl
      | cons t' r' =>
        by_cases h4 : t'.1 = 4
        · rw [if_neg (by simp [moreT, h4])]
          obtain ⟨f', rfl⟩ : ∃ f', f = f' + 1 := ⟨f - 1, by simp at hf; omega⟩
          rw [kidsK, if_pos h4]
          show _ = (match (t' :: r' : List Tkn) with | [] => none | t :: r => if t.1 = 4 then some ([k], r) else none)
          simp only
          rw [if_pos h4]
          rfl
        · rw [if_pos (by simp [moreT, h4]), kids_all hlen h4 (by omega)]
          cases allK key f (t' :: r') with
          | none => rfl
          | some p =>
            obtain ⟨a, b⟩ := p
            cases b with
            | nil => rfl
            | cons t2 r2 =>
              show Option.map _ (if t2.1 = 4 then some (a, r2) else none) = if t2.1 = 4 then some (k :: a, r2) else none
              split <;> rfl
theorem top_all (hlen : ∀ l k q, key l = some (k, q) → q.length < l.length) (h4 : ∀ t r, t.1 = 4 → key (t :: r) = none) : ∀ {f : Nat} {t : Tkn} {r : List Tkn}, (t :: r).length < f → topK key f (t :: r) = endK (allK key f (t :: r))
  | 0, _, _, hf => by omega
  | f + 1, t, r, hf => by
    rw [topK, allK]
    cases hk : key (t :: r) with
    | none => rfl
    | some p =>
      obtain ⟨k, q⟩ := p
      have hq := hlen _ _ _ hk
      obtain ⟨f', rfl⟩ : ∃ f', f = f' + 1 := ⟨f - 1, by simp at hf; omega⟩
      simp only
      cases q with
      | nil =>
        rw [if_neg (by simp [moreT])]
        rfl
      | cons t' r' =>
        by_cases h : t'.1 = 4
        · rw [if_neg (by simp [moreT, h]), topK, h4 _ _ h]
          rfl
        · rw [if_pos (by simp [moreT, h]), top_all hlen h4 (by omega)]
          cases allK key (f' + 1) (t' :: r') with
          | none => rfl
          | some p =>
            obtain ⟨a, b⟩ := p
            show Option.map _ (if b = [] then some a else none) = if b = [] then some (k :: a) else none
            split <;> rfl
end
section
variable (ps : List UInt8 → Option (List (Int × Int)))
theorem keyD_four (d : Nat) (t : Tkn) (r : List Tkn) (h : t.1 = 4) : keyD ps d (t :: r) = none := by
  cases d with
  | zero => rfl
  | succ d => rw [keyD, if_neg (by omega), if_neg (by omega)]
theorem inner_all (d : Nat) (r : List Tkn) : ((kidsK (keyD ps d) (r.length + 1) r).bind fun p => if p.1 = [] then none else some (Ky.mk 11 0 [] [] [] p.1, p.2)) = (shutK (allK (keyD ps d) (r.length + 1) r)).map fun p => (andK p.1, p.2) := by
  have hlen : ∀ l k q, keyD ps d l = some (k, q) → q.length < l.length := fun l k q h => keyD_len ps d h
  cases r with
  | nil =>
    rw [kidsK, allK, keyD_nil]
    rfl
  | cons t r =>
    by_cases h : t.1 = 4
    · rw [kidsK, if_pos h, allK, keyD_four ps d t r h]
      rfl
    · rw [kids_all hlen h (by omega)]
      cases hA : allK (keyD ps d) ((t :: r).length + 1) (t :: r) with
      | none => rfl
      | some p =>
        have hne := allK_ne hA
        obtain ⟨a, b⟩ := p
        cases b with
        | nil => rfl
        | cons t2 r2 =>
          show Option.bind (if t2.1 = 4 then some (a, r2) else none) _ = Option.map _ (if t2.1 = 4 then some (a, r2) else none)
          split
          · show (if a = [] then none else some (Ky.mk 11 0 [] [] [] a, r2)) = _
            rw [if_neg hne]
            rfl
          · rfl
theorem parse_all (l : List Tkn) : parseK ps l = (endK (allK (keyD ps 5) (l.length + 1) l)).map andK := by
  have hlen : ∀ l k q, keyD ps 5 l = some (k, q) → q.length < l.length := fun l k q h => keyD_len ps 5 h
  unfold parseK
  cases l with
  | nil =>
    rw [topK, allK, keyD_nil]
    rfl
  | cons t r =>
    rw [top_all hlen (keyD_four ps 5) (by omega)]
    cases hA : allK (keyD ps 5) ((t :: r).length + 1) (t :: r) with
    | none => rfl
    | some p =>
      have hne := allK_ne hA
      obtain ⟨a, b⟩ := p
      show Option.bind (if b = [] then some a else none) _ = Option.map _ (if b = [] then some a else none)
      split
      · show (if a = [] then none else some (Ky.mk 11 0 [] [] [] a)) = _
        rw [if_neg hne]
        rfl
      · rfl
end
theorem flag_un {s : List UInt8} (h : s.take 2 = unW) : flagN s = 0 := by
  unfold flagN
  have key : ∀ m : List UInt8, m.take 2 ≠ unW → s ≠ m := fun m hm e => hm (by rw [← e]; exact h)
  rw [if_neg (key _ (by decide)), if_neg (key _ (by decide)), if_neg (key _ (by decide)), if_neg (key _ (by decide)), if_neg (key _ (by decide))]
def kidsN (key : List Tkn → Option (Ky × List Tkn)) : Nat → List Tkn → Option (List Ky × List Tkn)
  | 0, T => some ([], T)
  | n + 1, T => match key T with
    | none => none
    | some (k, q) => (kidsN key n q).map fun p => (k :: p.1, p.2)
end Go.Proofs.YtkcnnbglmckmnaaDoor
namespace Go.Proofs.YtkcnnbglmckmnaaDoor
def nl (l : List UInt8) : Nat := l.findIdx (· == 10)
theorem nl_le (l : List UInt8) : nl l ≤ l.length := List.findIdx_le_length
theorem nl_cons (x : UInt8) (l : List UInt8) : nl (x :: l) = if x = 10 then 0 else nl l + 1 := by
  unfold nl
  rw [List.findIdx_cons]
  by_cases h : x = 10
  · subst h; simp
  · have : (x == 10) = false := by rw [beq_eq_false_iff_ne]; exact h
    rw [this, if_neg h]
    rfl
theorem index_nl : ∀ l : List UInt8, Lib.indexByte l 10 = if nl l < l.length then (nl l : Int) else -1
  | [] => rfl
  | x :: l => by
    rw [Lib.indexByte, index_nl l, nl_cons]
    by_cases h : x = 10
    · subst h; simp
    · have h' : (x == 10) = false := by rw [beq_eq_false_iff_ne]; exact h
      rw [if_neg (by rw [h']; decide), if_neg h]
      by_cases h2 : nl l < l.length
      · have e1 : ((nl l : Int) == -1) = false := by rw [beq_eq_false_iff_ne]; omega
        simp only [h2, if_true, e1]
        rw [if_neg (by decide), if_pos (by rw [List.length_cons]; omega)]
        rfl
      · simp only [h2, if_false]
        rw [if_pos (by decide), if_neg (by rw [List.length_cons]; omega)]
theorem nl_at {l : List UInt8} (h : nl l < l.length) : l[nl l]'h = 10 := by
  have := List.findIdx_getElem (p := (· == (10 : UInt8))) (xs := l) (w := h)
  exact beq_iff_eq.1 this
theorem nl_before {l : List UInt8} {k : Nat} (hk : k < nl l) (h : k < l.length) : l[k]'h ≠ 10 := by
  have := List.not_of_lt_findIdx (p := (· == (10 : UInt8))) (xs := l) (i := k) hk
  simpa using this
def tr (l : List UInt8) : List UInt8 := Lib.trimSuffix l [13]
end Go.Proofs.YtkcnnbglmckmnaaDoor
namespace Go.Proofs.YtkcnnbglmckmnaaDoor
def lns : List UInt8 → List (List UInt8)
  | [] => []
  | x :: t => if x = 10 then [x] :: lns t else match lns t with
    | [] => [[x]]
    | l :: r => (x :: l) :: r
theorem lns_step : ∀ (b : List UInt8), b ≠ [] → lns b = b.take (nl b + 1) :: lns (b.drop (nl b + 1))
  | [], h => absurd rfl h
  | [x], _ => by
    by_cases h : x = 10
    · subst h; rfl
    · simp [lns, h, nl]
  | x :: y :: t, _ => by
    by_cases h : x = 10
    · subst h; rw [nl_cons, if_pos rfl]; simp [lns]
    · rw [nl_cons, if_neg h]
      have := lns_step (y :: t) (by simp)
      rw [lns, if_neg h, this]
      simp
theorem lns_flat : ∀ b : List UInt8, (lns b).flatten = b
  | [] => rfl
  | x :: t => by
    have ih := lns_flat t
    rw [lns]
    split
    · simp [ih]
    · split
      · rename_i h; rw [h] at ih; simp at ih; simp [← ih]
      · rename_i h; rw [h] at ih; simpa using ih
def Good : List (List UInt8) → Prop
  | [] => True
  | l :: r => (∃ d : List UInt8, (∀ x ∈ d, x ≠ 10) ∧ (l = d ++ [10] ∨ (l = d ∧ d ≠ [] ∧ r = []))) ∧ Good r
theorem lns_line {d : List UInt8} (hd : ∀ x ∈ d, x ≠ 10) (b : List UInt8) : lns (d ++ 10 :: b) = (d ++ [10]) :: lns b := by
  induction d with
  | nil => simp [lns]
  | cons x d ih =>
    rw [List.cons_append, lns, if_neg (hd x (by simp)), ih (fun y hy => hd y (by simp [hy]))]
    rfl
theorem lns_last {d : List UInt8} (hd : ∀ x ∈ d, x ≠ 10) (hne : d ≠ []) : lns d = [d] := by
  induction d with
  | nil => exact absurd rfl hne
  | cons x d ih =>
    rw [lns, if_neg (hd x (by simp))]
    by_cases h : d = []
    · subst h; rfl
    · rw [ih (fun y hy => hd y (by simp [hy])) h]
theorem lns_good : ∀ b : List UInt8, Good (lns b)
  | [] => trivial
  | x :: t => by
    have ih := lns_good t
    rw [lns]
    split
    · rename_i h; subst h; exact ⟨⟨[], by simp, .inl rfl⟩, ih⟩
    · rename_i h
      split
      · exact ⟨⟨[x], by simpa using h, .inr ⟨rfl, by simp, rfl⟩⟩, trivial⟩
      · rename_i l r hl
        rw [hl] at ih
        obtain ⟨⟨d, hd, hl2⟩, hr⟩ := ih
        refine ⟨⟨x :: d, ?_, ?_⟩, hr⟩
        · intro y hy
          rcases List.mem_cons.1 hy with rfl | hy
          · exact h
          · exact hd y hy
        · rcases hl2 with rfl | ⟨rfl, hn, rfl⟩
          · exact .inl rfl
          · exact .inr ⟨rfl, by simp, rfl⟩
theorem lns_of_good : ∀ {ls : List (List UInt8)}, Good ls → lns ls.flatten = ls
  | [], _ => rfl
  | l :: r, h => by
    obtain ⟨⟨d, hd, hl⟩, hr⟩ := h
    rw [List.flatten_cons]
    rcases hl with rfl | ⟨rfl, hn, rfl⟩
    · rw [List.append_assoc, List.singleton_append, lns_line hd, lns_of_good hr]
    · rw [List.flatten_nil, List.append_nil, lns_last hd hn]
theorem Good.drop : ∀ {ls : List (List UInt8)} (k : Nat), Good ls → Good (ls.drop k)
  | _, 0, h => by simpa using h
  | [], _ + 1, _ => by simp [Good]
  | _ :: _, k + 1, h => by simpa using Good.drop k h.2
theorem Good.take : ∀ {ls : List (List UInt8)} (k : Nat), Good ls → Good (ls.take k)
  | _, 0, _ => by simp [Good]
  | [], _ + 1, _ => by simp [Good]
  | l :: r, k + 1, h => by
    rw [List.take_succ_cons]
    obtain ⟨⟨d, hd, hl⟩, hr⟩ := h
    refine ⟨⟨d, hd, ?_⟩, hr.take k⟩
    rcases hl with rfl | ⟨rfl, hn, rfl⟩
    · exact .inl rfl
    · exact .inr ⟨rfl, hn, by simp⟩
theorem take_flat (ls : List (List UInt8)) (k : Nat) : ls.flatten.take (ls.take k).flatten.length = (ls.take k).flatten := by
  conv => lhs; rw [show ls.flatten = (ls.take k).flatten ++ (ls.drop k).flatten by rw [← List.flatten_append, List.take_append_drop]]
  exact List.take_left' rfl
theorem take_lns (b : List UInt8) (k : Nat) : b.take ((lns b).take k).flatten.length = ((lns b).take k).flatten := by
  have := take_flat (lns b) k
  rwa [lns_flat] at this
theorem lns_take (b : List UInt8) (k : Nat) : lns ((lns b).take k).flatten = (lns b).take k := lns_of_good ((lns_good b).take k)
theorem lns_drop (b : List UInt8) (k : Nat) : lns ((lns b).drop k).flatten = (lns b).drop k := lns_of_good ((lns_good b).drop k)
theorem take_flat_le (b : List UInt8) (k : Nat) : ((lns b).take k).flatten.length ≤ b.length := by
  have h := congrArg List.length (lns_flat b)
  rw [← List.take_append_drop k (lns b), List.flatten_append, List.length_append] at h
  omega
theorem lns_ne {b l : List UInt8} (h : l ∈ lns b) : l ≠ [] := by
  have hg := lns_good b
  generalize lns b = ls at h hg
  induction ls with
  | nil => cases h
  | cons m r ih =>
    obtain ⟨⟨d, _, hl⟩, hr⟩ := hg
    rcases List.mem_cons.1 h with rfl | h
    · rcases hl with rfl | ⟨rfl, hn, _⟩
      · simp
      · exact hn
    · exact ih h hr
theorem lns_len (b : List UInt8) : (lns b).length ≤ b.length := by
  have h1 : ∀ ls : List (List UInt8), (∀ l ∈ ls, l ≠ []) → ls.length ≤ ls.flatten.length := by
    intro ls
    induction ls with
    | nil => intro _; simp
    | cons l r ih =>
      intro h
      have := ih (fun m hm => h m (by simp [hm]))
      have h2 : 0 < l.length := List.length_pos_iff.2 (h l (by simp))
      rw [List.flatten_cons, List.length_append, List.length_cons]
      omega
  have := h1 (lns b) (fun l hl => lns_ne hl)
  rwa [lns_flat] at this
def tx (l : List UInt8) : List UInt8 := tr (Lib.trimSuffix l [10])
theorem trimSuffix_snoc (d : List UInt8) (x : UInt8) : Lib.trimSuffix (d ++ [x]) [x] = d := by
  unfold Lib.trimSuffix Lib.hasSuffix
  rw [if_pos (by simp)]
  simp
theorem trimSuffix_not {d : List UInt8} {x : UInt8} (h : ∀ y, d.getLast? = some y → y ≠ x) : Lib.trimSuffix d [x] = d := by
  unfold Lib.trimSuffix Lib.hasSuffix
  rw [if_neg]
  intro hs
  obtain ⟨p, hp⟩ := List.isSuffixOf_iff_suffix.1 hs
  exact h x (by rw [← hp]; simp) rfl
theorem tr_prefix (l : List UInt8) : ∃ k, tr l = l.take k := by
  unfold tr Lib.trimSuffix
  split
  · exact ⟨_, rfl⟩
  · exact ⟨l.length, by simp⟩
theorem tx_prefix (l : List UInt8) : ∃ k, tx l = l.take k := by
  unfold tx
  obtain ⟨k, hk⟩ := tr_prefix (Lib.trimSuffix l [10])
  rw [hk]
  unfold Lib.trimSuffix
  split
  · exact ⟨_, List.take_take ..⟩
  · exact ⟨k, rfl⟩
theorem tx_len (l : List UInt8) : (tx l).length ≤ l.length := by
  obtain ⟨k, hk⟩ := tx_prefix l
  rw [hk, List.length_take]; omega
theorem tx_line {d : List UInt8} : tx (d ++ [10]) = tr d := by unfold tx; rw [trimSuffix_snoc]
def hk : List (List UInt8) → Nat
  | [] => 0
  | l :: r => if tx l = [] then 1 else hk r + 1
def hls (b : List UInt8) : List (List UInt8) := (lns b).take (hk (lns b))
def hd (b : List UInt8) : Nat := (hls b).flatten.length
theorem hd_le (b : List UInt8) : hd b ≤ b.length := take_flat_le b _
theorem head_eq (b : List UInt8) : b.take (hd b) = (hls b).flatten := take_lns b _
theorem lns_head (b : List UInt8) : lns (b.take (hd b)) = hls b := by rw [head_eq]; exact lns_take b _
def isB (x : UInt8) : Bool := ([32, 9] : List UInt8).contains x
def trimB (l : List UInt8) : List UInt8 := Lib.trimS l [32, 9]
def dropR (l : List UInt8) : List UInt8 := (l.reverse.dropWhile isB).reverse
theorem trimB_len (l : List UInt8) : (trimB l).length ≤ l.length := by
  unfold trimB Lib.trimS Lib.trimLeftS Lib.trimRightS
  refine Nat.le_trans (List.dropWhile_suffix _).length_le ?_
  rw [List.length_reverse]
  refine Nat.le_trans (List.dropWhile_suffix _).length_le ?_
  rw [List.length_reverse]
  exact Nat.le_refl _
def begB (t : List UInt8) : Bool := match t with
  | [] => false
  | x :: _ => isB x
def cln (l : List UInt8) : Nat := l.findIdx (· == 58)
def fieldOf (t : List UInt8) : Option (List UInt8 × List UInt8) := if cln t < t.length then some (trimB (t.take (cln t)), trimB (t.drop (cln t + 1))) else none
def fl : Option (List UInt8 × List UInt8) → List (List UInt8) → List (List UInt8 × List UInt8)
  | st, [] => st.toList
  | st, t :: r => if begB t = true then fl (st.map fun p => (p.1, p.2 ++ 32 :: trimB t)) r else st.toList ++ fl (fieldOf t) r
def flds (b : List UInt8) : List (List UInt8 × List UInt8) := fl none ((hls b).map tx)
def low (x : UInt8) : UInt8 := if 65 ≤ x ∧ x ≤ 90 then x + 32 else x
def lows (l : List UInt8) : List UInt8 := l.map low
def sameT (a b : List UInt8) : Bool := lows a == lows b
def getF (b name : List UInt8) : Option (List UInt8) := ((flds b).find? fun p => sameT p.1 name).map (·.2)
end Go.Proofs.YtkcnnbglmckmnaaDoor
namespace Go.Proofs
open Go.Shelf
def Tryd.lays137_ren : Go.Shelf.Ren := ⟨fun | 137 => 84 | 217 => 100 | 266 => 116 | n => n, fun | 9 => 9 | 5 => 5 | 3 => 3 | n => n, fun | n => n⟩
theorem Tryd.lays137 : Go.Proofs.Lays.n137 Tryd.prog Tryd.lays137_ren := {
  mixed := by kernel_rfl
  f137 := Tryd.func84.trans (congrArg some (by kernel_rfl))
  f217 := Tryd.func100.trans (congrArg some (by kernel_rfl))
  f266 := Tryd.func116.trans (congrArg some (by kernel_rfl))
  t3 := Tryd.underlying3
  a3 := Tryd.isAgg3
  z3 := Tryd.sizeOf3
  v3 := Tryd.zeroValue3
  t5 := Tryd.underlying5
  a5 := Tryd.isAgg5
  z5 := Tryd.sizeOf5
  v5 := Tryd.zeroValue5
  t9 := Tryd.underlying9
  a9 := Tryd.isAgg9
  z9 := Tryd.sizeOf9
  v9 := Tryd.zeroValue9 }
open Go.RowKit in
theorem Tryd.strings_IndexByte (s : ByteArray) (c : Int) (w : World) :
    Calls Tryd.prog 84 #[.string s, .int .u8 c] w fun e w' => e = .returned (.int .i64 (Lib.indexByte s.data.toList c.toNat.toUInt8)) ∧ w' = w := Any.strings_IndexByte Tryd.lays137 s c w
open Go.RowKit in
def Tryd.lays103_ren : Go.Shelf.Ren := ⟨fun | 103 => 77 | 210 => 98 | 206 => 115 | n => n, fun | 9 => 9 | 4 => 4 | 24 => 65 | 3 => 3 | n => n, fun | n => n⟩
theorem Tryd.lays103 : Go.Proofs.Lays.n103 Tryd.prog Tryd.lays103_ren := {
  mixed := by kernel_rfl
  f103 := Tryd.func77.trans (congrArg some (by kernel_rfl))
  f206 := Tryd.func115.trans (congrArg some (by kernel_rfl))
  f210 := Tryd.func98.trans (congrArg some (by kernel_rfl))
  t3 := Tryd.underlying3
  a3 := Tryd.isAgg3
  z3 := Tryd.sizeOf3
  v3 := Tryd.zeroValue3
  t4 := Tryd.underlying4
  a4 := Tryd.isAgg4
  z4 := Tryd.sizeOf4
  v4 := Tryd.zeroValue4
  t9 := Tryd.underlying9
  a9 := Tryd.isAgg9
  z9 := Tryd.sizeOf9
  v9 := Tryd.zeroValue9
  t24 := Tryd.underlying65
  a24 := Tryd.isAgg65
  z24 := Tryd.sizeOf65
  v24 := Tryd.zeroValue65 }
open Go.RowKit in
theorem Tryd.strings_CutPrefix (s p : ByteArray) (w : World) :
    Calls Tryd.prog 77 #[.string s, .string p] w fun e w' => e = .returned (.tuple #[.string ⟨(Lib.trimPrefix s.data.toList p.data.toList).toArray⟩, .bool (Lib.hasPrefix s.data.toList p.data.toList)]) ∧ w' = w := Any.strings_CutPrefix Tryd.lays103 s p w
open Go.RowKit Go.Lib in
open Go.RowKit Go.Lib in
open Go.RowKit Go.Lib in
open Go.RowKit Go.Lib in
def Tryd.lays219_ren : Go.Shelf.Ren := ⟨fun | 219 => 81 | 217 => 100 | 225 => 101 | 224 => 102 | 267 => 103 | 266 => 116 | 314 => 117 | n => n, fun | 9 => 9 | 3 => 3 | 4 => 4 | 5 => 5 | 46 => 48 | 146 => 137 | 51 => 136 | n => n, fun | 1 => 0 | n => n⟩
open Go.RowKit Go.Lib in
open Go.RowKit Go.Lib in
open Go.RowKit Go.Lib in
open Go.RowKit Go.Lib in
def Tryd.lays144_ren : Go.Shelf.Ren := ⟨fun | 144 => 39 | 143 => 59 | 219 => 81 | 217 => 100 | 225 => 101 | 224 => 102 | 267 => 103 | 266 => 116 | 314 => 117 | n => n, fun | 9 => 9 | 4 => 4 | 3 => 3 | 5 => 5 | 46 => 48 | 146 => 137 | 51 => 136 | n => n, fun | 1 => 0 | n => n⟩
theorem Tryd.lays144 : Go.Proofs.Lays.n144 Tryd.prog Tryd.lays144_ren := {
  mixed := by kernel_rfl
  f143 := Tryd.func59.trans (congrArg some (by kernel_rfl))
  f144 := Tryd.func39.trans (congrArg some (by kernel_rfl))
  f217 := Tryd.func100.trans (congrArg some (by kernel_rfl))
  f219 := Tryd.func81.trans (congrArg some (by kernel_rfl))
  f224 := Tryd.func102.trans (congrArg some (by kernel_rfl))
  f225 := Tryd.func101.trans (congrArg some (by kernel_rfl))
  f266 := Tryd.func116.trans (congrArg some (by kernel_rfl))
  f267 := Tryd.func103.trans (congrArg some (by kernel_rfl))
  f314 := Tryd.func117.trans (congrArg some (by kernel_rfl))
  t3 := Tryd.underlying3
  a3 := Tryd.isAgg3
  z3 := Tryd.sizeOf3
  v3 := Tryd.zeroValue3
  t4 := Tryd.underlying4
  a4 := Tryd.isAgg4
  z4 := Tryd.sizeOf4
  v4 := Tryd.zeroValue4
  t5 := Tryd.underlying5
  a5 := Tryd.isAgg5
  z5 := Tryd.sizeOf5
  v5 := Tryd.zeroValue5
  t9 := Tryd.underlying9
  a9 := Tryd.isAgg9
  z9 := Tryd.sizeOf9
  v9 := Tryd.zeroValue9
  t46 := Tryd.underlying48
  a46 := Tryd.isAgg48
  z46 := Tryd.sizeOf48
  v46 := Tryd.zeroValue48
  t51 := Tryd.underlying136
  a51 := Tryd.isAgg136
  z51 := Tryd.sizeOf136
  v51 := Tryd.zeroValue136
  t146 := Tryd.underlying137
  a146 := Tryd.isAgg137
  z146 := Tryd.sizeOf137
  v146 := Tryd.zeroValue137
  g1 := by kernel_rfl }
open Go.RowKit Go.Lib in
open Go.RowKit Go.Lib in
theorem Tryd.strings_Contains (s sub : ByteArray) (m : Int) (w : World) (hs : s.size < 4294967281) (hm : w.cell? ⟨0, 0, none⟩ = some (.int .i64 m)) :
    Calls Tryd.prog 39 #[.string s, .string sub] w fun e w' => e = .returned (.bool (Lib.contains s.data.toList sub.data.toList)) ∧ w' = w := Any.strings_Contains Tryd.lays144 s sub m w hs hm
open Go.RowKit Go.Lib in
open Go.RowKit Go.Lib in
def Tryd.laysM144_ren : Go.Shelf.Ren := ⟨fun | 144 => 39 | 143 => 59 | 219 => 81 | 217 => 100 | 225 => 101 | 224 => 102 | 267 => 103 | 266 => 116 | 314 => 117 | n => n, fun | 9 => 9 | 4 => 4 | 3 => 3 | 5 => 5 | 46 => 48 | 146 => 137 | 51 => 136 | n => n, fun | 1 => 0 | n => n⟩
theorem Tryd.laysM144 : Go.Proofs.LaysM.n144 Tryd.prog Tryd.laysM144_ren := {
  mixed := by kernel_rfl
  f143 := Tryd.func59.trans (congrArg some (by kernel_rfl))
  f144 := Tryd.func39.trans (congrArg some (by kernel_rfl))
  f217 := Tryd.func100.trans (congrArg some (by kernel_rfl))
  f219 := Tryd.func81.trans (congrArg some (by kernel_rfl))
  f224 := Tryd.func102.trans (congrArg some (by kernel_rfl))
  f225 := Tryd.func101.trans (congrArg some (by kernel_rfl))
  f266 := Tryd.func116.trans (congrArg some (by kernel_rfl))
  f267 := Tryd.func103.trans (congrArg some (by kernel_rfl))
  f314 := Tryd.func117.trans (congrArg some (by kernel_rfl))
  t3 := Tryd.underlying3
  a3 := Tryd.isAgg3
  z3 := Tryd.sizeOf3
  v3 := Tryd.zeroValue3
  t4 := Tryd.underlying4
  a4 := Tryd.isAgg4
  z4 := Tryd.sizeOf4
  v4 := Tryd.zeroValue4
  t5 := Tryd.underlying5
  a5 := Tryd.isAgg5
  z5 := Tryd.sizeOf5
  v5 := Tryd.zeroValue5
  t9 := Tryd.underlying9
  a9 := Tryd.isAgg9
  z9 := Tryd.sizeOf9
  v9 := Tryd.zeroValue9
  t46 := Tryd.underlying48
  a46 := Tryd.isAgg48
  z46 := Tryd.sizeOf48
  v46 := Tryd.zeroValue48
  t51 := Tryd.underlying136
  a51 := Tryd.isAgg136
  z51 := Tryd.sizeOf136
  v51 := Tryd.zeroValue136
  t146 := Tryd.underlying137
  a146 := Tryd.isAgg137
  z146 := Tryd.sizeOf137
  v146 := Tryd.zeroValue137
  g1 := by kernel_rfl
  i3 := by kernel_rfl
  i4 := by kernel_rfl
  i5 := by kernel_rfl
  i9 := by kernel_rfl
  i46 := by kernel_rfl
  i51 := by kernel_rfl
  i146 := by kernel_rfl
  m1 := by kernel_rfl
  s1_3 := fun w h => Go.Proofs.cell_of_shapedOpen_int (zero := #[.int .i64 0]) (t := 3) h (of_decide_eq_true (by kernel_rfl)) (by kernel_rfl) rfl (by kernel_rfl) (by kernel_rfl) Tryd.underlying3 }
open Go.RowKit Go.Lib in
open Go.RowKit Go.Lib in
def Tryd.lays185_ren : Go.Shelf.Ren := ⟨fun | 185 => 85 | 187 => 105 | 115 => 107 | 253 => 108 | 224 => 102 | 254 => 109 | 255 => 118 | 291 => 120 | n => n, fun | 37 => 35 | 3 => 3 | 4 => 4 | 0 => 0 | 5 => 5 | 46 => 48 | 9 => 9 | 146 => 137 | 51 => 136 | n => n, fun | 1 => 0 | n => n⟩
theorem Tryd.lays185 : Go.Proofs.Lays.n185 Tryd.prog Tryd.lays185_ren := {
  mixed := by kernel_rfl
  f115 := Tryd.func107.trans (congrArg some (by kernel_rfl))
  f185 := Tryd.func85.trans (congrArg some (by kernel_rfl))
  f187 := Tryd.func105.trans (congrArg some (by kernel_rfl))
  f224 := Tryd.func102.trans (congrArg some (by kernel_rfl))
  f253 := Tryd.func108.trans (congrArg some (by kernel_rfl))
  f254 := Tryd.func109.trans (congrArg some (by kernel_rfl))
  f255 := Tryd.func118.trans (congrArg some (by kernel_rfl))
  f291 := Tryd.func120.trans (congrArg some (by kernel_rfl))
  t0 := Tryd.underlying0
  a0 := Tryd.isAgg0
  z0 := Tryd.sizeOf0
  v0 := Tryd.zeroValue0
  t3 := Tryd.underlying3
  a3 := Tryd.isAgg3
  z3 := Tryd.sizeOf3
  v3 := Tryd.zeroValue3
  t4 := Tryd.underlying4
  a4 := Tryd.isAgg4
  z4 := Tryd.sizeOf4
  v4 := Tryd.zeroValue4
  t5 := Tryd.underlying5
  a5 := Tryd.isAgg5
  z5 := Tryd.sizeOf5
  v5 := Tryd.zeroValue5
  t9 := Tryd.underlying9
  a9 := Tryd.isAgg9
  z9 := Tryd.sizeOf9
  v9 := Tryd.zeroValue9
  t37 := Tryd.underlying35
  a37 := Tryd.isAgg35
  z37 := Tryd.sizeOf35
  v37 := Tryd.zeroValue35
  t46 := Tryd.underlying48
  a46 := Tryd.isAgg48
  z46 := Tryd.sizeOf48
  v46 := Tryd.zeroValue48
  t51 := Tryd.underlying136
  a51 := Tryd.isAgg136
  z51 := Tryd.sizeOf136
  v51 := Tryd.zeroValue136
  t146 := Tryd.underlying137
  a146 := Tryd.isAgg137
  z146 := Tryd.sizeOf137
  v146 := Tryd.zeroValue137
  g1 := by kernel_rfl }
open Go.RowKit Go.Lib in
open Go.RowKit Go.Lib in
theorem Tryd.bytes_Index_one_nil (b2 o2 d : Nat) (cv : Int) (w : World) (hc2 : w.cell? ⟨b2, o2, none⟩ = some (.int .u8 cv)) :
    Calls Tryd.prog 85 #[.slice none 0 0, .slice (some ⟨b2, o2, none⟩) 1 d] w fun e w' => e = .returned (.int .i64 (-1)) ∧ w' = w := Any.bytes_Index_one_nil Tryd.lays185 b2 o2 d cv w hc2
open Go.RowKit Go.Lib in
open Go.RowKit Go.Lib in
open Go.RowKit Go.Lib in
def Tryd.lays187_ren : Go.Shelf.Ren := ⟨fun | 187 => 105 | 255 => 118 | n => n, fun | 37 => 35 | 5 => 5 | 3 => 3 | n => n, fun | n => n⟩
theorem Tryd.lays187 : Go.Proofs.Lays.n187 Tryd.prog Tryd.lays187_ren := {
  mixed := by kernel_rfl
  f187 := Tryd.func105.trans (congrArg some (by kernel_rfl))
  f255 := Tryd.func118.trans (congrArg some (by kernel_rfl))
  t3 := Tryd.underlying3
  a3 := Tryd.isAgg3
  z3 := Tryd.sizeOf3
  v3 := Tryd.zeroValue3
  t5 := Tryd.underlying5
  a5 := Tryd.isAgg5
  z5 := Tryd.sizeOf5
  v5 := Tryd.zeroValue5
  t37 := Tryd.underlying35
  a37 := Tryd.isAgg35
  z37 := Tryd.sizeOf35
  v37 := Tryd.zeroValue35 }
open Go.RowKit Go.Lib in
theorem Tryd.bytes_IndexByte_at (a : Addr) (n c : Nat) (xs : List Int) (cv : Int) (w : World) (hx : xs.length = n) (hc : ∀ i, i < n → w.cell? (a.add i) = some (.int .u8 (xs.getD i 0))) :
    Calls Tryd.prog 105 #[.slice (some a) n c, .int .u8 cv] w fun e w' => e = .returned (.int .i64 (Lib.indexByte (Lib.bytesOf xs) cv.toNat.toUInt8)) ∧ w' = w := Any.bytes_IndexByte_at Tryd.lays187 a n c xs cv w hx hc
open Go.RowKit Go.Lib in
theorem Tryd.bytes_Index_one_at (a : Addr) (n c b2 o2 d : Nat) (xs : List Int) (cv : Int) (w : World) (hx : xs.length = n) (hc : ∀ i, i < n → w.cell? (a.add i) = some (.int .u8 (xs.getD i 0))) (hc2 : w.cell? ⟨b2, o2, none⟩ = some (.int .u8 cv)) :
    Calls Tryd.prog 85 #[.slice (some a) n c, .slice (some ⟨b2, o2, none⟩) 1 d] w fun e w' => e = .returned (.int .i64 (Lib.indexByte (Lib.bytesOf xs) cv.toNat.toUInt8)) ∧ w' = w := Any.bytes_Index_one_at Tryd.lays185 a n c b2 o2 d xs cv w hx hc hc2
open Go.Proofs Go.RowKit Go.Lib in
open Go.Proofs Go.RowKit Go.Lib in
open Go.RowKit Go.Lib in
open Go.RowKit Go.Lib in
open Go.RowKit Go.Lib in
open Go.Proofs Go.RowKit Go.Lib in
open Go.Proofs Go.RowKit Go.Lib in
open Go.Proofs Go.RowKit Go.Lib in
def Tryd.laysSlK4_ren : Go.Shelf.Ren := ⟨fun | 4 => 64 | n => n, fun | 22 => 35 | 4 => 4 | 5 => 5 | n => n, fun | n => n⟩
theorem Tryd.laysSlK4 : Go.Proofs.SlLaysK.n4 Tryd.prog Tryd.laysSlK4_ren := {
  mixed := by kernel_rfl
  f4 := Tryd.func64.trans (congrArg some (by kernel_rfl))
  t4 := Tryd.underlying4
  a4 := Tryd.isAgg4
  z4 := Tryd.sizeOf4
  v4 := Tryd.zeroValue4
  t22 := Tryd.underlying35
  a22 := Tryd.isAgg35
  z22 := Tryd.sizeOf35
  v22 := Tryd.zeroValue35
  t5 := Tryd.underlying5
  i5 := by kernel_rfl }
open Go.RowKit Go.Lib in
theorem Tryd.bytes_Clone_at (a : Addr) (n c : Nat) (xs : List Int) (w : World) (hx : xs.length = n) (hbig : n ≤ 140737488355328) (hc : ∀ i, i < n → w.cell? (a.add i) = some (.int .u8 (xs.getD i 0))) :
    Calls Tryd.prog 64 #[.slice (some a) n c] w fun e w' => ∃ v', e = .returned v' ∧ w'.ownsRow w.heap.size 5 1 v' n (xs.map (Value.int .u8)) ∧ v' ≠ .slice none 0 0 ∧ Below w.heap.size w w' := Any.bytes_Clone_at Tryd.laysSlK4 a n c xs w hx hbig hc
open Go.RowKit Go.Lib in
theorem Tryd.bytes_Clone_nil (n c : Nat) (w : World) :
    Calls Tryd.prog 64 #[.slice none n c] w fun e w' => e = .returned (.slice none 0 0) ∧ w' = w := Any.bytes_Clone_nil Tryd.laysSlK4 n c w
def Tryd.laysnb117_ren : Go.Shelf.Ren := ⟨fun | 117 => 119 | 115 => 107 | n => n, fun | 37 => 35 | 4 => 4 | 3 => 3 | 9 => 9 | 5 => 5 | n => n, fun | n => n⟩
def Tryd.laysnb140_ren : Go.Shelf.Ren := ⟨fun | 140 => 106 | 117 => 119 | 115 => 107 | n => n, fun | 37 => 35 | 4 => 4 | 3 => 3 | 9 => 9 | 5 => 5 | n => n, fun | n => n⟩
theorem Tryd.laysnb140 : Go.Proofs.Lays.nb140 Tryd.prog Tryd.laysnb140_ren := {
  mixed := by kernel_rfl
  f115 := Tryd.func107.trans (congrArg some (by kernel_rfl))
  f117 := Tryd.func119.trans (congrArg some (by kernel_rfl))
  f140 := Tryd.func106.trans (congrArg some (by kernel_rfl))
  t3 := Tryd.underlying3
  a3 := Tryd.isAgg3
  z3 := Tryd.sizeOf3
  v3 := Tryd.zeroValue3
  t4 := Tryd.underlying4
  a4 := Tryd.isAgg4
  z4 := Tryd.sizeOf4
  v4 := Tryd.zeroValue4
  t9 := Tryd.underlying9
  a9 := Tryd.isAgg9
  z9 := Tryd.sizeOf9
  v9 := Tryd.zeroValue9
  t37 := Tryd.underlying35
  a37 := Tryd.isAgg35
  z37 := Tryd.sizeOf35
  v37 := Tryd.zeroValue35
  t5 := Tryd.underlying5
  a5 := Tryd.isAgg5
  z5 := Tryd.sizeOf5
  v5 := Tryd.zeroValue5 }
theorem Tryd.bytes_TrimSuffix_all (p1 p2 : Option Addr) (n c m d : Nat) (xs ys : List Int) (w : World) (hx : xs.length = n) (hy : ys.length = m) (hnc : n ≤ c) (hbig : n ≤ 9223372036854775807) (h1 : Lib.BytesIn w p1 n xs) (h2 : Lib.BytesIn w p2 m ys) :
    Calls Tryd.prog 106 #[.slice p1 n c, .slice p2 m d] w fun e w' => e = .returned (Lib.trimSuffixV p1 n c xs ys) ∧ w' = w := Any.bytes_TrimSuffix_all Tryd.laysnb140 p1 p2 n c m d xs ys w hx hy hnc hbig h1 h2
def Tryd.laysSlT4_ren : Go.Shelf.Ren := ⟨fun | 4 => 63 | 5 => 85 | 6 => 105 | 7 => 107 | 8 => 108 | 9 => 102 | 10 => 109 | 11 => 118 | 12 => 120 | n => n, fun | 22 => 35 | 4 => 4 | 3 => 3 | 0 => 0 | 5 => 5 | 29 => 48 | 9 => 9 | 31 => 137 | 30 => 136 | n => n, fun | 0 => 0 | n => n⟩
theorem Tryd.laysSlT4 : Go.Proofs.SlLaysT.n4 Tryd.prog Tryd.laysSlT4_ren := {
  mixed := by kernel_rfl
  f4 := Tryd.func63.trans (congrArg some (by kernel_rfl))
  f5 := Tryd.func85.trans (congrArg some (by kernel_rfl))
  f6 := Tryd.func105.trans (congrArg some (by kernel_rfl))
  f7 := Tryd.func107.trans (congrArg some (by kernel_rfl))
  f8 := Tryd.func108.trans (congrArg some (by kernel_rfl))
  f9 := Tryd.func102.trans (congrArg some (by kernel_rfl))
  f10 := Tryd.func109.trans (congrArg some (by kernel_rfl))
  f11 := Tryd.func118.trans (congrArg some (by kernel_rfl))
  f12 := Tryd.func120.trans (congrArg some (by kernel_rfl))
  t0 := Tryd.underlying0
  a0 := Tryd.isAgg0
  z0 := Tryd.sizeOf0
  v0 := Tryd.zeroValue0
  t3 := Tryd.underlying3
  a3 := Tryd.isAgg3
  z3 := Tryd.sizeOf3
  v3 := Tryd.zeroValue3
  t4 := Tryd.underlying4
  a4 := Tryd.isAgg4
  z4 := Tryd.sizeOf4
  v4 := Tryd.zeroValue4
  t5 := Tryd.underlying5
  a5 := Tryd.isAgg5
  z5 := Tryd.sizeOf5
  v5 := Tryd.zeroValue5
  t9 := Tryd.underlying9
  a9 := Tryd.isAgg9
  z9 := Tryd.sizeOf9
  v9 := Tryd.zeroValue9
  t22 := Tryd.underlying35
  a22 := Tryd.isAgg35
  z22 := Tryd.sizeOf35
  v22 := Tryd.zeroValue35
  t29 := Tryd.underlying48
  a29 := Tryd.isAgg48
  z29 := Tryd.sizeOf48
  v29 := Tryd.zeroValue48
  t30 := Tryd.underlying136
  a30 := Tryd.isAgg136
  z30 := Tryd.sizeOf136
  v30 := Tryd.zeroValue136
  t31 := Tryd.underlying137
  a31 := Tryd.isAgg137
  z31 := Tryd.sizeOf137
  v31 := Tryd.zeroValue137
  g0 := by kernel_rfl }
theorem Tryd.bytes_Cut_of (p1 p2 : Option Addr) (n c1 k c2 : Nat) (i : Int) (w : World) (hcap : n ≤ c1) (hlo : -1 ≤ i) (hroom : 0 ≤ i → i + k ≤ n) (hn : n ≤ 4611686018427387904) (hidx : Calls Tryd.prog 85 #[.slice p1 n c1, .slice p2 k c2] w fun e w' => e = .returned (.int .i64 i) ∧ ∃ q, w' = w.drewN q) :
    Calls Tryd.prog 63 #[.slice p1 n c1, .slice p2 k c2] w fun e w' => e = .returned (Lib.cutV p1 n c1 k i) ∧ ∃ q, w' = w.drewN q := Any.bytes_Cut_of Tryd.laysSlT4 p1 p2 n c1 k c2 i w hcap hlo hroom hn hidx
end Go.Proofs
namespace Go.Proofs
open Go.Shelf
def Tryd.laysSlV6_ren : Go.Shelf.Ren := ⟨fun | 6 => 65 | 10 => 87 | 9 => 86 | 11 => 88 | 13 => 90 | 12 => 89 | 15 => 92 | 14 => 91 | 16 => 110 | 19 => 113 | 18 => 112 | 17 => 111 | 21 => 122 | 20 => 121 | n => n, fun | 22 => 35 | 9 => 9 | 3 => 3 | 4 => 4 | 5 => 5 | 28 => 118 | 27 => 117 | 0 => 0 | 31 => 121 | 21 => 21 | 33 => 131 | 36 => 140 | 37 => 48 | 40 => 143 | 39 => 142 | n => n, fun | 0 => 1 | 1 => 2 | n => n⟩
theorem Tryd.laysSlV6 : Go.Proofs.SlLaysV.n6 Tryd.prog Tryd.laysSlV6_ren := {
  mixed := by kernel_rfl
  f6 := Tryd.func65.trans (congrArg some (by kernel_rfl))
  f9 := Tryd.func86.trans (congrArg some (by kernel_rfl))
  f10 := Tryd.func87.trans (congrArg some (by kernel_rfl))
  f11 := Tryd.func88.trans (congrArg some (by kernel_rfl))
  f12 := Tryd.func89.trans (congrArg some (by kernel_rfl))
  f13 := Tryd.func90.trans (congrArg some (by kernel_rfl))
  f14 := Tryd.func91.trans (congrArg some (by kernel_rfl))
  f15 := Tryd.func92.trans (congrArg some (by kernel_rfl))
  f16 := Tryd.func110.trans (congrArg some (by kernel_rfl))
  f17 := Tryd.func111.trans (congrArg some (by kernel_rfl))
  f18 := Tryd.func112.trans (congrArg some (by kernel_rfl))
  f19 := Tryd.func113.trans (congrArg some (by kernel_rfl))
  f20 := Tryd.func121.trans (congrArg some (by kernel_rfl))
  f21 := Tryd.func122.trans (congrArg some (by kernel_rfl))
  t0 := Tryd.underlying0
  a0 := Tryd.isAgg0
  z0 := Tryd.sizeOf0
  v0 := Tryd.zeroValue0
  t3 := Tryd.underlying3
  a3 := Tryd.isAgg3
  z3 := Tryd.sizeOf3
  v3 := Tryd.zeroValue3
  t4 := Tryd.underlying4
  a4 := Tryd.isAgg4
  z4 := Tryd.sizeOf4
  v4 := Tryd.zeroValue4
  t5 := Tryd.underlying5
  a5 := Tryd.isAgg5
  z5 := Tryd.sizeOf5
  v5 := Tryd.zeroValue5
  t9 := Tryd.underlying9
  a9 := Tryd.isAgg9
  z9 := Tryd.sizeOf9
  v9 := Tryd.zeroValue9
  t21 := Tryd.underlying21
  a21 := Tryd.isAgg21
  z21 := Tryd.sizeOf21
  v21 := Tryd.zeroValue21
  t22 := Tryd.underlying35
  a22 := Tryd.isAgg35
  z22 := Tryd.sizeOf35
  v22 := Tryd.zeroValue35
  t27 := Tryd.underlying117
  a27 := Tryd.isAgg117
  z27 := Tryd.sizeOf117
  t28 := Tryd.underlying118
  a28 := Tryd.isAgg118
  z28 := Tryd.sizeOf118
  v28 := Tryd.zeroValue118
  t31 := Tryd.underlying121
  a31 := Tryd.isAgg121
  z31 := Tryd.sizeOf121
  v31 := Tryd.zeroValue121
  t33 := Tryd.underlying131
  a33 := Tryd.isAgg131
  z33 := Tryd.sizeOf131
  v33 := Tryd.zeroValue131
  t36 := Tryd.underlying140
  a36 := Tryd.isAgg140
  z36 := Tryd.sizeOf140
  t37 := Tryd.underlying48
  a37 := Tryd.isAgg48
  z37 := Tryd.sizeOf48
  v37 := Tryd.zeroValue48
  t39 := Tryd.underlying142
  a39 := Tryd.isAgg142
  z39 := Tryd.sizeOf142
  v39 := Tryd.zeroValue142
  t40 := Tryd.underlying143
  a40 := Tryd.isAgg143
  z40 := Tryd.sizeOf143
  v40 := Tryd.zeroValue143 }
open Go.RowKit Go.Lib in
theorem Tryd.bytes_Trim_laid (h27 : (Tryd.prog.info? 117).map (fun i => (i.zero, i.size)) = some (some (.agg (Array.replicate 256 (.bool false))), 256)) (p : Option Addr) (n c : Nat) (xs : List Int) (cutset : ByteArray) (w : World)
    (hx : xs.length = n) (hnc : n ≤ c) (hbig : c ≤ 9223372036854775807) (h1 : Lib.BytesIn w p n xs) (hr : ∀ x ∈ xs, 0 ≤ x ∧ x < 256) (hcs : cutset.size < 4294967281) (hascii : ∀ (j : Nat) b, cutset.data.toList[j]? = some b → b.toNat < 128) :
    Calls Tryd.prog 65 #[.slice p n c, .string cutset] w fun e w' => e = .returned (Lib.leftV p (Lib.trimRightS (Lib.bytesOf xs) cutset.data.toList).length c ((Lib.trimRightS (Lib.bytesOf xs) cutset.data.toList).length - (Lib.trimS (Lib.bytesOf xs) cutset.data.toList).length)) ∧ Below w.heap.size w w' := Any.bytes_Trim_laid Tryd.laysSlV6 h27 p n c xs cutset w hx hnc hbig h1 hr hcs hascii
end Go.Proofs
