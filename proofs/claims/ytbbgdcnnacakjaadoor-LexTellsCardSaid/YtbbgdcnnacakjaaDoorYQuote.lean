/-
  lex.Quote.
-/
import Derived.Test.YtbbgdcnnacakjaaDoorYPlain
namespace Go.Proofs.YtbbgdcnnacakjaaDoor
open Go.RowKit Go.Instr

def repB (x : UInt8) (new : List UInt8) (s : List UInt8) : List UInt8 := s.flatMap fun c => if c = x then new else [c]
theorem repB_cons (x : UInt8) (new : List UInt8) (c : UInt8) (s : List UInt8) : repB x new (c :: s) = (if c = x then new else [c]) ++ repB x new s := by simp [repB]
theorem replaceK_one (x : UInt8) (new : List UInt8) : ∀ s : List UInt8, Lib.replaceK [x] new (s.count x) s = repB x new s
  | [] => rfl
  | c :: r => by
    rw [repB_cons]
    by_cases h : c = x
    · subst h
      have hc : (c :: r).count c = r.count c + 1 := by simp
      have hi : Lib.index (c :: r) [c] = ((0 : Nat) : Int) := by simp [Lib.index, List.isPrefixOf]
      rw [hc, Lib.replaceK_hit [c] new _ (c :: r) 0 hi, if_pos rfl]
      simp only [List.take_zero, List.nil_append, Nat.zero_add, List.length_singleton, List.drop_succ_cons, List.drop_zero]
      rw [replaceK_one c new r]
    · have hc : (c :: r).count x = r.count x := by rw [List.count_cons, if_neg (by simpa using h)]; rfl
      rw [hc, if_neg h]
      have ih := replaceK_one x new r
      cases hk : r.count x with
      | zero =>
        rw [hk] at ih
        show c :: r = [c] ++ _
        rw [← ih]
        rfl
      | succ k =>
        rw [hk] at ih
        obtain ⟨i, hi⟩ := Lib.index_of_count (s := r) (old := [x]) (by rw [Lib.count_one, hk]; omega)
        have hi2 : Lib.index (c :: r) [x] = ((i + 1 : Nat) : Int) := by
          have hp : ([x] : List UInt8).isPrefixOf (c :: r) = false := by simp [List.isPrefixOf, Ne.symm h]
          have hm : ¬ (Lib.index r [x] == -1) = true := by simp; omega
          rw [Lib.index, if_neg (by rw [hp]; simp), if_neg hm, hi]
          simp
        rw [Lib.replaceK_hit [x] new k (c :: r) (i + 1) hi2, ← ih, Lib.replaceK_hit [x] new k r i hi]
        have e : i + 1 + [x].length = (i + [x].length) + 1 := by omega
        rw [e, List.drop_succ_cons, List.take_succ_cons]
        simp
theorem replace_one {x : UInt8} {new : List UInt8} (h : ([x] == new) = false) (s : List UInt8) : Lib.replaceAll s [x] new = repB x new s := by
  unfold Lib.replaceAll Lib.replace Lib.replaceNum
  rw [h, if_neg (by decide), if_pos (.inl (by decide)), Lib.count_one, replaceK_one]
theorem quote_two (s : List UInt8) : [34] ++ repB 34 [92, 34] (repB 92 [92, 92] s) ++ [34] = quoteL s := by
  have h : ∀ s : List UInt8, repB 34 [92, 34] (repB 92 [92, 92] s) = s.flatMap fun c => if c = 34 ∨ c = 92 then [92, c] else [c] := by
    intro s
    induction s with
    | nil => rfl
    | cons c r ih =>
      rw [repB_cons, List.flatMap_cons, ← ih]
      have ha : ∀ a b : List UInt8, repB 34 [92, 34] (a ++ b) = repB 34 [92, 34] a ++ repB 34 [92, 34] b := fun a b => by simp [repB]
      rw [ha]
      congr 1
      by_cases h1 : c = 92
      · subst h1; decide
      · rw [if_neg h1]
        by_cases h2 : c = 34
        · subst h2; decide
        · rw [if_neg (by simp [h1, h2])]
          simp [repB, h2]
  unfold quoteL
  rw [← h]
  rfl
theorem repB_len (x a b : UInt8) (s : List UInt8) : (repB x [a, b] s).length ≤ 2 * s.length := by
  induction s with
  | nil => simp [repB]
  | cons c r ih =>
    rw [repB_cons, List.length_append, List.length_cons]
    split <;> simp <;> omega
/-- The library's variable of how long a text may be that is looked for in one way: any number. -/
def MaxL (w : World) : Prop := ∃ m : Int, w.cell? ⟨0, 0, none⟩ = some (.int .i64 m)
theorem MaxL.keep {w w' : World} (h : MaxL w) (o : Only [] w w') : MaxL w' := by
  obtain ⟨m, hm⟩ := h
  exact ⟨m, o.cellSome hm (fun hx => nomatch hx)⟩
theorem maxL_of {w : World} (h : w.ShapedOpen Tryd.prog) : MaxL w := Tryd.laysM138.s1_3 w h
theorem replaceAll_any (s : ByteArray) (x a b : UInt8) (w : World) (hM : MaxL w) (hs : s.size ≤ 1048576) (h : ([x] == [a, b]) = false) :
    Calls Tryd.prog 26 #[.string s, .string ⟨#[x]⟩, .string ⟨#[a, b]⟩] w fun e w' => ∃ t : ByteArray, e = .returned (.string t) ∧ Hid (t.data.toList = repB x [a, b] s.data.toList) ∧ t.size ≤ 2 * s.size ∧ Only [] w w' := by
  obtain ⟨m, hm⟩ := hM
  have hc : Lib.countB s ⟨#[x]⟩ ≤ s.size := by
    have := Lib.countB_mul_le ⟨#[x]⟩ (Nat.le_refl 1) s.size s (Nat.le_refl _)
    have h1 : (ByteArray.mk #[x]).size = 1 := rfl
    rw [h1] at this
    omega
  refine (Tryd.strings_ReplaceAll s ⟨#[x]⟩ ⟨#[a, b]⟩ m w (by omega) hm (Nat.le_refl 1) (by
    have h2 : (ByteArray.mk #[a, b]).size = 2 := rfl
    rw [h2]; omega)).mono fun e w' he => ?_
  have hr : Lib.replaceAll s.data.toList (ByteArray.mk #[x]).data.toList (ByteArray.mk #[a, b]).data.toList = repB x [a, b] s.data.toList := replace_one h _
  rw [hr] at he
  refine ⟨_, he.1, by show _ = _; simp, ?_, Only.of_below he.2⟩
  have := repB_len x a b s.data.toList
  show (repB x [a, b] s.data.toList).toArray.size ≤ _
  simpa using this
set_option maxRecDepth 100000 in
theorem Quote_any (s : ByteArray) (w : World) (hM : MaxL w) (hs : s.size ≤ 200000) : Calls Tryd.prog 15 #[.string s] w fun e w' => ∃ t : ByteArray, e = .returned (.string t) ∧ Hid (t.data.toList = quoteL s.data.toList) ∧ t.size ≤ 4 * s.size + 2 ∧ Only [] w w' := by
  have H1 := Lib.hid (replaceAll_any s 92 92 92 w hM (by omega) (by decide))
  have HM := Lib.hid hM
  clear hM
  go_enter Tryd.func15, Tryd.ntmps15
  go_wp2_with first
    | (go_at_call 26; (with_reducible refine H1.out.mono ?_); rintro e w2 ⟨t1, rfl, E1, z1, O1⟩; clear H1; have H2 := Lib.hid (replaceAll_any t1 34 92 34 w2 (HM.out.keep O1) (by omega) (by decide)))
    | (go_at_call 26; (with_reducible refine H2.out.mono ?_); rintro e w3 ⟨t2, rfl, E2, z2, O2⟩; clear H2; obtain ⟨t3, e3, z3, hadd3⟩ := add_eq ⟨#[34]⟩ t2 (by show 1 + t2.size ≤ _; omega); have zz3 : t3.size = 1 + t2.size := z3; obtain ⟨t4, e4, z4, hadd4⟩ := add_eq t3 ⟨#[34]⟩ (by show t3.size + 1 ≤ _; omega); have zz4 : t4.size = t3.size + 1 := z4)
  go_ret
  refine ⟨t4, rfl, ?_, by omega, O1.then O2⟩
  show _ = _
  rw [e4, e3, E2.out, E1.out]
  exact quote_two s.data.toList
end Go.Proofs.YtbbgdcnnacakjaaDoor
