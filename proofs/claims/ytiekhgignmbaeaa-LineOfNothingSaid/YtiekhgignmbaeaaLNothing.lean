/-
  The walk of the law LineOfNothing.
-/
import Derived.Test.YtiekhgignmbaeaaLKnown2
namespace Go.Proofs.Ytiekhgignmbaeaa
open Go.RowKit Go.Instr

/-- What the two Feeds answer, and how many bytes wait between. -/
theorem two_feeds (N M : Nat) : ∃ k e1 e2 : Nat, ∃ s2 : LS, feedE K0 (List.replicate N 0) = e1 ∧ feedS K0 (List.replicate N 0) = KZ k ∧ feedE (KZ k) (List.replicate M 0) = e2 ∧ feedS (KZ k) (List.replicate M 0) = s2 ∧
    ((N ≤ 4096 ∧ k = N ∧ e1 = 0) ∨ (4096 < N ∧ k = 0 ∧ e1 = 5)) ∧ ((M + k ≤ 4096 ∧ e2 = 0) ∨ (4096 < M + k ∧ e2 = 5)) := by
  have h0 : K0 = KZ 0 := rfl
  rw [h0]
  by_cases h1 : N + 0 ≤ 4096
  · obtain ⟨a1, a2⟩ := feed_fits 0 N h1
    by_cases h2 : M + (0 + N) ≤ 4096
    · obtain ⟨b1, b2⟩ := feed_fits (0 + N) M h2
      exact ⟨_, _, _, _, a1, a2, b1, b2, .inl ⟨by omega, by omega, rfl⟩, .inl ⟨h2, rfl⟩⟩
    · obtain ⟨b1, b2⟩ := feed_over (0 + N) M h2
      exact ⟨_, _, _, _, a1, a2, b1, b2, .inl ⟨by omega, by omega, rfl⟩, .inr ⟨by omega, rfl⟩⟩
  · obtain ⟨a1, a2⟩ := feed_over 0 N h1
    by_cases h2 : M + 0 ≤ 4096
    · obtain ⟨b1, b2⟩ := feed_fits 0 M h2
      exact ⟨_, _, _, _, a1, a2, b1, b2, .inr ⟨by omega, by omega, rfl⟩, .inl ⟨h2, rfl⟩⟩
    · obtain ⟨b1, b2⟩ := feed_over 0 M h2
      exact ⟨_, _, _, _, a1, a2, b1, b2, .inr ⟨by omega, by omega, rfl⟩, .inr ⟨by omega, rfl⟩⟩

set_option maxRecDepth 100000 in
set_option maxHeartbeats 4000000 in
theorem nothing_any (n m : Int) (w : World) : Calls Try.prog 7 #[.int .i64 n, .int .i64 m] w fun e w' => e = .returned (.bool true) ∧ Only [] w w' := by
  by_cases hr : 0 ≤ n ∧ n ≤ 6000 ∧ 0 ≤ m ∧ m ≤ 6000
  · obtain ⟨h1, h2, h3, h4⟩ := hr
    obtain ⟨N, rfl⟩ : ∃ N : Nat, n = (N : Int) := ⟨n.toNat, by omega⟩
    obtain ⟨M, rfl⟩ : ∃ M : Nat, m = (M : Int) := ⟨m.toNat, by omega⟩
    have hmk1 := fun W => make_zeros N (by omega) W
    have hmk2 := fun W => make_zeros M (by omega) W
    obtain ⟨k, e1, e2, s2, hf1, hf2, hf3, hf4, hc, hd⟩ := two_feeds N M
    have HF1 := Lib.hid (fun (W : World) (g : Nat) (h : Ln false W g [] K0) => feed_as (h.keep ((Only.refl [] W).alloc (.cells (zeros N) 5))) (some ⟨W.heap.size, 0, none⟩) N N (own_zeros W N (by unfold maxLen; omega)).sl hf1 hf2)
    have HF2 := Lib.hid (fun (W : World) (g : Nat) (F : List Nat) (h : Ln false W g F (KZ k)) => feed_as (h.keep ((Only.refl [] W).alloc (.cells (zeros M) 5))) (some ⟨W.heap.size, 0, none⟩) M M (own_zeros W M (by unfold maxLen; omega)).sl hf3 hf4)
    have HL := Lib.hid (fun (W : World) (g : Nat) (F : List Nat) (h : Ln false W g F (KZ k)) => Len_as h (k : Int) (by simp [KZ]))
    clear hf1 hf2 hf3 hf4
    have hc' : Hid (((N : Int) ≤ 4096 ∧ k = N ∧ e1 = 0) ∨ ((4096 : Int) < (N : Int) ∧ k = 0 ∧ e1 = 5)) := by
      rcases hc with ⟨h, h', h''⟩ | ⟨h, h', h''⟩
      · exact .inl ⟨by omega, h', h''⟩
      · exact .inr ⟨by omega, h', h''⟩
    have hd' : Hid (((M : Int) ≤ 4096 - (k : Int) ∧ e2 = 0) ∨ (4096 - (k : Int) < (M : Int) ∧ e2 = 5)) := by
      rcases hd with ⟨h, h'⟩ | ⟨h, h'⟩
      · exact .inl ⟨by omega, h'⟩
      · exact .inr ⟨by omega, h'⟩
    clear hc hd
    rcases hc'.out with ⟨hN, rfl, rfl⟩ | ⟨hN, rfl, rfl⟩
    all_goals rcases hd'.out with ⟨hM, rfl⟩ | ⟨hM, rfl⟩
    all_goals
      clear hc' hd'
      try (have hN0 : ((0 : Int) == (N : Int)) = false := by rw [beq_eq_false_iff_ne]; omega)
      try (have hNd : decide ((N : Int) ≤ 4096) = false := decide_eq_false (by omega))
      try (have hMd : decide ((M : Int) ≤ 4096 - (k : Int)) = false := decide_eq_false (by omega))
      try (have hMd0 : decide ((M : Int) ≤ 4096) = false := decide_eq_false (by omega))
      go_enter Try.func7, Try.ntmps7
      go_wp2_with (first
        | (go_at_call 20; (with_reducible refine (known_any _).mono ?_); rintro e w9 ⟨rfl, O9⟩)
        | (go_at_call 17; (with_reducible refine (Want_nil _ 1).mono ?_); rintro e w8 ⟨rfl, rfl⟩)
        | (go_at_call 12; (with_reducible refine (Feed_nil _ none 0 0).mono ?_); rintro e w8 ⟨rfl, rfl⟩)
        | (go_at_call 19; (with_reducible refine (Len_nil _).mono ?_); rintro e w8 ⟨rfl, rfl⟩)
        | (go_at_call 12; (with_reducible refine (HF2.out w5 g F5 L5).mono ?_); clear HF2; rintro e w7 ⟨F7, rfl, L7, O7, B7⟩)
        | (go_at_call 19; (with_reducible refine (HL.out w5 g F5 L5).mono ?_); clear HL; rintro e w6 ⟨rfl, rfl⟩)
        | (go_at_call 12; (with_reducible refine (HF1.out w4 g L4).mono ?_); clear HF1; rintro e w5 ⟨F5, rfl, L5, O5, B5⟩)
        | (go_at_call 11; (with_reducible refine (new_g _).mono ?_); rintro e w4 ⟨g, rfl, L4, O4, P4⟩)
        | (go_at_call 14; (with_reducible refine (Next_nil _).mono ?_); rintro e w2 ⟨rfl, O2⟩))
      go_ret
      have Q3 := O2.alloc (.cells #[.int .i64 0, .slice none 0 0] 36)
      have Q4 := Q3.then O4
      have P5 : ∀ x ∈ g :: ([] : List Nat), w.heap.size ≤ x := fun x hx => Nat.le_trans Q3.size (P4 x hx)
      have Q5 := own_step (Q4.alloc _) O5 P5
      have P6 := fp_step (Q4.alloc _) P5 B5
      have Q7 := own_step (Q5.alloc _) O7 P6
      exact ⟨rfl, Q7.then O9⟩
  · have hr' : n < 0 ∨ (0 ≤ n ∧ 6000 < n) ∨ (0 ≤ n ∧ n ≤ 6000 ∧ m < 0) ∨ (0 ≤ n ∧ n ≤ 6000 ∧ 0 ≤ m ∧ 6000 < m) := by omega
    clear hr
    rcases hr' with h1 | ⟨h1, h2⟩ | ⟨h1, h2, h3⟩ | ⟨h1, h2, h3, h4⟩
    all_goals
      go_enter Try.func7, Try.ntmps7
      go_wp2
      go_ret
      exact ⟨rfl, Only.refl _ _⟩
end Go.Proofs.Ytiekhgignmbaeaa
