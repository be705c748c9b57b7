/-
  head.Lines.
-/
import Derived.Test.YtmameghebikjbaaDoorHLeaf
namespace Go.Proofs.YtmameghebikjbaaDoor
open Go.RowKit Go.Instr

theorem hasSuffix_one (l : List UInt8) (y : UInt8) : Lib.hasSuffix l [y] = (l.getLast? == some y) := by
  rcases List.eq_nil_or_concat l with rfl | ⟨p, x, rfl⟩
  · rfl
  · rw [List.concat_eq_append, List.getLast?_append]
    unfold Lib.hasSuffix
    by_cases h : x = y
    · subst h
      simp
    · have h1 : [y].isSuffixOf (p ++ [x]) = false := by
        rw [Bool.eq_false_iff]
        intro hs
        obtain ⟨q, hq⟩ := List.isSuffixOf_iff_suffix.1 hs
        have := congrArg List.getLast? hq
        simp at this
        exact h this.symm
      rw [h1]
      simp [h]
/-- One more, if the last line has no end. -/
def openB (l : List UInt8) : Nat := if l = [] then 0 else if l.getLast? = some 10 then 0 else 1
theorem lns_count : ∀ l : List UInt8, (lns l).length = l.count 10 + openB l
  | [] => rfl
  | x :: t => by
    have ih := lns_count t
    rw [lns]
    by_cases hx : x = 10
    · subst hx
      rw [if_pos rfl, List.length_cons, ih, List.count_cons_self]
      cases t with
      | nil => rfl
      | cons y r => simp [openB]; omega
    · rw [if_neg hx, List.count_cons_of_ne (by exact fun h => hx h)]
      cases t with
      | nil =>
        have : ¬ (some x = some (10 : UInt8)) := fun h => hx (Option.some.inj h)
        simp [lns, openB, hx]
      | cons y r =>
        have h1 : openB (x :: y :: r) = openB (y :: r) := by simp [openB]
        rw [h1, ← ih]
        have : lns (y :: r) ≠ [] := by rw [lns_step _ (by simp)]; simp
        cases hl : lns (y :: r) with
        | nil => exact absurd hl this
        | cons a b => rfl

section
variable {w : World} {A : Option Addr} {n c : Nat} {l : List UInt8}
set_option maxHeartbeats 1000000 in
theorem LinesN_any (hs : Bt w A n c l) (hbig : n ≤ 1048576) : Calls Tryd.prog 18 #[.slice A n c] w fun e w' => e = .returned (.int .i64 ((lns l).length : Nat)) ∧ Only [] w w' := by
  have hl := hs.len
  have hk0 := lns_count l
  have hk1 : l.count 10 ≤ l.length := List.count_le_length
  obtain ⟨q, hq⟩ : ∃ q, l.count 10 = q := ⟨_, rfl⟩
  obtain ⟨b, hb⟩ : ∃ b, Lib.hasSuffix l [10] = b := ⟨_, rfl⟩
  have c1 : ∀ b2 o2 d w1, Only [] w w1 → w1.cell? ⟨b2, o2, none⟩ = some (.int .u8 10) → Calls Tryd.prog 39 #[.slice A n c, .slice (some ⟨b2, o2, none⟩) 1 d] w1 fun e w' => e = .returned (.int .i64 (q : Nat)) ∧ w1 = w' := fun b2 o2 d w1 hO h => by
    have := count_any (hs.keep hO) b2 o2 d h
    rwa [hq] at this
  have c2 : ∀ b2 o2 d w1, Only [] w w1 → w1.cell? ⟨b2, o2, none⟩ = some (.int .u8 10) → Calls Tryd.prog 40 #[.slice A n c, .slice (some ⟨b2, o2, none⟩) 1 d] w1 fun e w' => e = .returned (.bool b) ∧ w1 = w' := fun b2 o2 d w1 hO h => by
    have := hasSuffix_any (hs.keep hO) b2 o2 d 10 h
    rwa [hb] at this
  have k0 := mark0 w (.int .u8 10)
  have k1 := mark1 w (.cells #[.int .u8 10] 5 (1, 2)) (.int .u8 10)
  have hO0 : Only [] w (w.alloc (.cells #[.int .u8 10] 5 (1, 2))) := (Only.refl _ _).alloc _
  have hO1 : Only [] w ((w.alloc (.cells #[.int .u8 10] 5 (1, 2))).alloc (.cells #[.int .u8 10] 5 (1, 2))) := hO0.alloc _
  rw [hasSuffix_one] at hb
  rw [hq] at hk0 hk1
  rcases Nat.eq_zero_or_pos n with h0 | h0
  · subst h0
    obtain rfl : l = [] := List.eq_nil_of_length_eq_zero hl
    have HE : Hid ((lns []).length = q) := by rw [show (lns []).length = q + openB [] from hk0]; rfl
    clear hk0 hq hb hl
    go_enter Tryd.func18, Tryd.ntmps18
    go_wp2_with (go_at_call 39; with_reducible refine (c1 _ _ _ _ hO0 (lit0 _ _ _ _)).mono ?_; rintro e w1 ⟨rfl, rfl⟩)
    go_ret
    exact ⟨by rw [HE.out]; rfl, hO0⟩
  · have h0' : (0 : Int) < (n : Int) := by omega
    have hne : l ≠ [] := fun h => by rw [h] at hl; simp at hl; omega
    have hq2 : (q : Int) ≤ 1048576 := by omega
    cases b with
    | true =>
      have HE : Hid ((lns l).length = q) := by
        show _ = _
        rw [hk0]
        unfold openB
        rw [if_neg hne, if_pos (beq_iff_eq.1 hb)]
        rfl
      clear hk0 hq hb hl hk1
      go_enter Tryd.func18, Tryd.ntmps18
      go_wp2_with first
        | (go_at_call 39; with_reducible refine (c1 _ _ _ _ hO0 (lit0 _ _ _ _)).mono ?_; rintro e w1 ⟨rfl, rfl⟩)
        | (go_at_call 40; with_reducible refine (c2 _ _ _ _ hO1 (lit1 _ _ _ _ _)).mono ?_; rintro e w1 ⟨rfl, rfl⟩)
      go_ret
      exact ⟨by rw [HE.out]; rfl, hO1⟩
    | false =>
      have HE : Hid ((lns l).length = q + 1) := by
        show _ = _
        rw [hk0]
        unfold openB
        rw [if_neg hne, if_neg (beq_eq_false_iff_ne.1 hb)]
      clear hk0 hq hb hl hk1
      go_enter Tryd.func18, Tryd.ntmps18
      go_wp2_with first
        | (go_at_call 39; with_reducible refine (c1 _ _ _ _ hO0 (lit0 _ _ _ _)).mono ?_; rintro e w1 ⟨rfl, rfl⟩)
        | (go_at_call 40; with_reducible refine (c2 _ _ _ _ hO1 (lit1 _ _ _ _ _)).mono ?_; rintro e w1 ⟨rfl, rfl⟩)
      go_ret
      exact ⟨by rw [HE.out]; rfl, hO1⟩
end
end Go.Proofs.YtmameghebikjbaaDoor
