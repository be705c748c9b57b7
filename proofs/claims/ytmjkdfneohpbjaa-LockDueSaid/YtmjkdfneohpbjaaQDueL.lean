/-
  The walk of the law LockDue.
-/
import Derived.Test.YtmjkdfneohpbjaaQKnown
namespace Go.Proofs.Ytmjkdfneohpbjaa
open Go.RowKit Go.Maps

theorem put_nil (x : Du) : putI x [] = [x] := rfl
theorem put_again (k a b : Int) : putI (k, b) [(k, a)] = [(k, b)] := by simp [putI, delI, insI]
theorem del_one (k a : Int) : delI [(k, a)] k = [] := by simp [delI]
theorem due_one_yes {k a now : Int} (h : a ≤ now) : dueL [(k, a)] now = [k] := by simp [dueL, h]
theorem due_one_no {k a now : Int} (h : ¬ a ≤ now) : dueL [(k, a)] now = [] := by simp [dueL, h]
theorem lo_forget_far {w w0 wr : World} {g : Nat} {l : List Hd} {ds ds' : List Du} (h : Lo w w0 g l ds) (o : Only [] w0 wr) {c : Int} (hc : -9223372036854775808 ≤ c ∧ c ≤ 9223372036854775807) (ht : delI ds c = ds') :
    Calls Try.prog 15 #[.pointer (some ⟨g, 0, none⟩), .int .i64 c] wr fun e w' => e = .returned (.tuple #[]) ∧ Lo w w' g l ds' ∧ ∃ rs, Only rs wr w' ∧ ∀ k ∈ rs, k < w0.heap.size := by
  obtain ⟨F, ⟨hb', db, L, rfl⟩, Q, P⟩ := h
  refine (forget_any (L.keep o) c hc).mono ?_
  intro e w' h
  rw [ht] at h
  have h2 := lo_step (Q.then o) P h
  obtain ⟨_, F', _, O, _⟩ := h
  exact ⟨h2.1, h2.2, _, O, L.lt⟩
set_option maxRecDepth 100000 in
set_option maxHeartbeats 4000000 in
theorem lockdue_any (x a b lim now : Int) (w : World) (hx : -9223372036854775808 ≤ x ∧ x ≤ 9223372036854775807) : Calls Try.prog 5 #[.int .i64 x, .int .i64 a, .int .i64 b, .int .i64 lim, .int .i64 now] w fun e w' => e = .returned (.bool true) ∧ Only [] w w' := by
  have hcase : a < 0 ∨ (¬ a < 0 ∧ a > 1073741824) ∨ (¬ a < 0 ∧ ¬ a > 1073741824 ∧ b < 0) ∨ (¬ a < 0 ∧ ¬ a > 1073741824 ∧ ¬ b < 0 ∧ b > 1073741824) ∨ (¬ a < 0 ∧ ¬ a > 1073741824 ∧ ¬ b < 0 ∧ ¬ b > 1073741824 ∧ lim < 0) ∨ (¬ a < 0 ∧ ¬ a > 1073741824 ∧ ¬ b < 0 ∧ ¬ b > 1073741824 ∧ ¬ lim < 0 ∧ lim > 1073741824) ∨
      (¬ a < 0 ∧ ¬ a > 1073741824 ∧ ¬ b < 0 ∧ ¬ b > 1073741824 ∧ ¬ lim < 0 ∧ ¬ lim > 1073741824 ∧ now < 0) ∨ (¬ a < 0 ∧ ¬ a > 1073741824 ∧ ¬ b < 0 ∧ ¬ b > 1073741824 ∧ ¬ lim < 0 ∧ ¬ lim > 1073741824 ∧ ¬ now < 0 ∧ now > 4294967296) ∨
      (¬ a < 0 ∧ ¬ a > 1073741824 ∧ ¬ b < 0 ∧ ¬ b > 1073741824 ∧ ¬ lim < 0 ∧ ¬ lim > 1073741824 ∧ ¬ now < 0 ∧ ¬ now > 4294967296) := by omega
  rcases hcase with h1 | ⟨h1, h2⟩ | ⟨h1, h2, h3⟩ | ⟨h1, h2, h3, h4⟩ | ⟨h1, h2, h3, h4, h5⟩ | ⟨h1, h2, h3, h4, h5, h6⟩ | ⟨h1, h2, h3, h4, h5, h6, h7⟩ | ⟨h1, h2, h3, h4, h5, h6, h7, h8⟩ | ⟨h1, h2, h3, h4, h5, h6, h7, h8⟩
  rotate_left 8
  · have n1 : 0 ≤ a ∧ a ≤ 1099511627776 := by omega
    have n2 : 0 ≤ b ∧ b ≤ 1099511627776 := by omega
    have n3 : 0 ≤ lim ∧ lim ≤ 1099511627776 := by omega
    have z1 : ([] : List Du).length ≤ 1000000 := by simp
    have z2 : ([(x, a + lim)] : List Du).length ≤ 1000000 := by simp
    have z3 : ([(x, b + lim)] : List Du).length ≤ 1000 := by simp
    have z4 : ([] : List Du).length ≤ 1000 := by simp
    have e1 := put_nil (x, a + lim)
    have e2 := put_again x (a + lim) (b + lim)
    have e3 := del_one x (b + lim)
    have e4 : dueL [] 1099511627776 = [] := rfl
    have l0 : ([] : List Int).length = 0 := rfl
    have l1 : ([x] : List Int).length = 1 := rfl
    have hw : IntKind.i64.wrap (b + lim) = b + lim := IntWalk.i64_in _ (by omega)
    by_cases hd : b + lim ≤ now
    · have e5 := due_one_yes (k := x) hd
      have hge : now ≥ b + lim := hd
      go_enter Try.func5, Try.ntmps5
      go_wp2_with (first
        | (go_at_call 8; (with_reducible refine (lo_new w).mono ?_); rintro e w1 ⟨g, rfl, L1⟩)
        | (go_at_call 13; (with_reducible refine (lo_touch L2 hx n2 n3 z2 e2).mono ?_); clear L2; rintro e w3 ⟨rfl, L3⟩)
        | (go_at_call 13; (with_reducible refine (lo_touch L1 hx n1 n3 z1 e1).mono ?_); clear L1; rintro e w2 ⟨rfl, L2⟩)
        | (go_at_call 17; (with_reducible refine (lo_due L5 z4 e4 l0).mono ?_); clear L5; rintro e w6 ⟨A6, c6, rfl, _, _, _, L6⟩)
        | (go_at_call 17; (with_reducible refine (lo_due L3 z3 e5 l1).mono ?_); rintro e w4 ⟨A4, c4, rfl, V4, O4, B4, L4⟩; clear L4)
        | (go_at_call 15; (with_reducible refine (lo_forget_far L3 O4 hx e3).mono ?_); clear L3; rintro e w5 ⟨rfl, L5, rs, O5, P5⟩; have V5 := own_only V4 O5 (fun k hk hm => by
            have h1 := P5 k hm
            have h2 := B4 k (by cases A4 with
              | none => cases hk
              | some a => simpa [Value.ownBlock] using hk.symm)
            omega); obtain ⟨ad5, u5, rfl, hu5, c5'⟩ := (Sl.of_own V5).at_ (k := 0) (by omega); simp only [ivs, List.map_cons, List.map_nil, List.getElem?_cons_zero, Option.some.injEq] at hu5; subst hu5; rw [add_zero] at c5')
        | (go_at_call 21; (with_reducible refine (lknown_any _).mono ?_); rintro e w7 ⟨rfl, O7⟩))
      go_ret
      exact ⟨rfl, L6.only.then O7⟩
    · have e5 := due_one_no (k := x) hd
      have HD := Lib.hid hd
      have hge : ¬ now ≥ b + lim := hd
      go_enter Try.func5, Try.ntmps5
      go_wp2_with (first
        | (go_at_call 8; (with_reducible refine (lo_new w).mono ?_); rintro e w1 ⟨g, rfl, L1⟩)
        | (go_at_call 13; (with_reducible refine (lo_touch L2 hx n2 n3 z2 e2).mono ?_); clear L2; rintro e w3 ⟨rfl, L3⟩)
        | (go_at_call 13; (with_reducible refine (lo_touch L1 hx n1 n3 z1 e1).mono ?_); clear L1; rintro e w2 ⟨rfl, L2⟩)
        | (go_at_call 17; (with_reducible refine (lo_due L5 z4 e4 l0).mono ?_); clear L5; rintro e w6 ⟨A6, c6, rfl, _, _, _, L6⟩)
        | (go_at_call 17; (with_reducible refine (lo_due L3 z3 e5 l0).mono ?_); rintro e w4 ⟨A4, c4, rfl, V4, O4, B4, L4⟩; clear L3)
        | (go_at_call 15; (with_reducible refine (lo_forget L4 hx e3).mono ?_); clear L4; rintro e w5 ⟨rfl, L5⟩)
        | (go_at_call 21; (with_reducible refine (lknown_any _).mono ?_); rintro e w7 ⟨rfl, O7⟩))
      go_ret
      refine ⟨?_, L6.only.then O7⟩
      show Ending.returned (.bool (!decide (b + lim ≤ now))) = _
      rw [decide_eq_false (by have := HD.out; omega)]
      rfl
  all_goals
    go_enter Try.func5, Try.ntmps5
    go_wp2
    go_ret
    exact ⟨rfl, Only.refl _ _⟩
end Go.Proofs.Ytmjkdfneohpbjaa
