/-
  lock: a Locks of one's own; known; the law of a nil Locks.
-/
import Derived.Test.YtmjkdfneohpbjaaQDueW
namespace Go.Proofs.Ytmjkdfneohpbjaa
open Go.RowKit Go.Maps

/-- A Locks that was made behind w; nothing of w has turned. -/
def Lo (w wr : World) (g : Nat) (l : List Hd) (ds : List Du) : Prop := ∃ F, Lock wr g F l ds ∧ Only [] w wr ∧ ∀ k ∈ F, w.heap.size ≤ k
theorem lo_step {w wr w' : World} {g : Nat} {F : List Nat} {v : Value} {l' : List Hd} {ds' : List Du} {e : Ending} (Q : Only [] w wr) (P : ∀ k ∈ F, w.heap.size ≤ k) (h : Lkd wr g F v l' ds' e w') : e = .returned v ∧ Lo w w' g l' ds' := by
  obtain ⟨he, F', L, O, B⟩ := h
  refine ⟨he, F', L, Q.trans O (fun x hx => .inr (P x hx)), fun k hk => ?_⟩
  rcases B k hk with h | h
  · exact P k h
  · exact Nat.le_trans Q.size h
section
variable {w wr : World} {g : Nat} {l l' : List Hd} {ds ds' : List Du}
theorem Lo.only (h : Lo w wr g l ds) : Only [] w wr := by
  obtain ⟨_, _, h, _⟩ := h
  exact h
theorem Lo.keep {w' : World} (h : Lo w wr g l ds) (o : Only [] wr w') : Lo w w' g l ds := by
  obtain ⟨F, h1, h2, h3⟩ := h
  exact ⟨F, h1.keep o, h2.then o, h3⟩
theorem lo_new (w : World) : Calls Try.prog 8 #[] w fun e w' => ∃ g, e = .returned (.pointer (some ⟨g, 0, none⟩)) ∧ Lo w w' g [] [] := by
  refine (lnew_any w).mono ?_
  rintro e w' ⟨rfl, L, O⟩
  exact ⟨_, rfl, _, ⟨none, none, L, rfl⟩, O, by simp [fpL]⟩
theorem lo_take (h : Lo w wr g l ds) {u : ByteArray} (hu : u.size ≤ 281474976710656) {c : Int} (hl : l.length ≤ 1000000) {b : Bool} (hb : takeB l u c = b) (ht : takeL l u c = l') :
    Calls Try.prog 9 #[.pointer (some ⟨g, 0, none⟩), .string u, .int .i64 c] wr fun e w' => e = .returned (.bool b) ∧ Lo w w' g l' ds := by
  obtain ⟨F, ⟨hb', db, L, rfl⟩, Q, P⟩ := h
  refine (take_any L u hu c hl).mono ?_
  intro e w' h
  rw [hb, ht] at h
  exact lo_step Q P h
theorem lo_touch (h : Lo w wr g l ds) {c now lim : Int} (hc : -9223372036854775808 ≤ c ∧ c ≤ 9223372036854775807) (hn : 0 ≤ now ∧ now ≤ 1099511627776) (hl : 0 ≤ lim ∧ lim ≤ 1099511627776) (hds : ds.length ≤ 1000000) (ht : putI (c, now + lim) ds = ds') :
    Calls Try.prog 13 #[.pointer (some ⟨g, 0, none⟩), .int .i64 c, .int .i64 now, .int .i64 lim] wr fun e w' => e = .returned (.tuple #[]) ∧ Lo w w' g l ds' := by
  obtain ⟨F, ⟨hb', db, L, rfl⟩, Q, P⟩ := h
  refine (touch_any L c now lim hc hn hl hds).mono ?_
  intro e w' h
  rw [ht] at h
  exact lo_step Q P h
theorem lo_forget (h : Lo w wr g l ds) {c : Int} (hc : -9223372036854775808 ≤ c ∧ c ≤ 9223372036854775807) (ht : delI ds c = ds') :
    Calls Try.prog 15 #[.pointer (some ⟨g, 0, none⟩), .int .i64 c] wr fun e w' => e = .returned (.tuple #[]) ∧ Lo w w' g l ds' := by
  obtain ⟨F, ⟨hb', db, L, rfl⟩, Q, P⟩ := h
  refine (forget_any L c hc).mono ?_
  intro e w' h
  rw [ht] at h
  exact lo_step Q P h
theorem lo_due (h : Lo w wr g l ds) {now : Int} (hds : ds.length ≤ 1000) {cs : List Int} (hcs : dueL ds now = cs) {n : Nat} (hn : cs.length = n) :
    Calls Try.prog 17 #[.pointer (some ⟨g, 0, none⟩), .int .i64 now] wr fun e w' => ∃ A c, e = .returned (.slice A n c) ∧ Own w' 3 A n c (ivs cs) ∧ Only [] wr w' ∧ (∀ k ∈ blks A, wr.heap.size ≤ k) ∧ Lo w w' g l ds := by
  have H := h
  obtain ⟨F, ⟨hb', db, L, rfl⟩, Q, P⟩ := h
  refine (due_any L now hds).mono ?_
  subst hn hcs
  rintro e w' ⟨A, c, rfl, h1, h2, h3⟩
  exact ⟨A, c, rfl, h1, h2, h3, H.keep h2⟩
end
theorem kt_1 : takeB [] ⟨#[97]⟩ 1 = true ∧ takeL [] ⟨#[97]⟩ 1 = [(⟨#[97]⟩, 1)] := ⟨by kernel_rfl, by kernel_rfl⟩
theorem kt_2 : takeB [(⟨#[97]⟩, 1)] ⟨#[97]⟩ 2 = false ∧ takeL [(⟨#[97]⟩, 1)] ⟨#[97]⟩ 2 = [(⟨#[97]⟩, 1)] := ⟨by kernel_rfl, by kernel_rfl⟩
theorem kt_3 : takeB [(⟨#[97]⟩, 1)] ⟨#[97]⟩ 1 = true ∧ takeL [(⟨#[97]⟩, 1)] ⟨#[97]⟩ 1 = [(⟨#[97]⟩, 1)] := ⟨by kernel_rfl, by kernel_rfl⟩
theorem kt_4 : takeB [(⟨#[97]⟩, 1)] ⟨#[98]⟩ 2 = true ∧ takeL [(⟨#[97]⟩, 1)] ⟨#[98]⟩ 2 = [(⟨#[97]⟩, 1), (⟨#[98]⟩, 2)] := ⟨by kernel_rfl, by kernel_rfl⟩
theorem len_one : ([((⟨#[97]⟩ : ByteArray), (1 : Int))] : List Hd).length ≤ 1000000 := by decide
theorem len_nil : ([] : List Hd).length ≤ 1000000 := by decide
set_option maxRecDepth 100000 in
set_option maxHeartbeats 2000000 in
theorem lknown_any (w : World) : Calls Try.prog 21 #[] w fun e w' => e = .returned (.bool true) ∧ Only [] w w' := by
  have ha : (⟨#[97]⟩ : ByteArray).size ≤ 281474976710656 := by decide
  have hb : (⟨#[98]⟩ : ByteArray).size ≤ 281474976710656 := by decide
  go_enter Try.func21, Try.ntmps21
  go_wp2_with (first
    | (go_at_call 8; (with_reducible refine (lo_new w).mono ?_); rintro e w1 ⟨g, rfl, L1⟩)
    | (go_at_call 9; (with_reducible refine (lo_take L4 hb len_one kt_4.1 kt_4.2).mono ?_); clear L4; rintro e w5 ⟨rfl, L5⟩)
    | (go_at_call 9; (with_reducible refine (lo_take L3 ha len_one kt_3.1 kt_3.2).mono ?_); clear L3; rintro e w4 ⟨rfl, L4⟩)
    | (go_at_call 9; (with_reducible refine (lo_take L2 ha len_one kt_2.1 kt_2.2).mono ?_); clear L2; rintro e w3 ⟨rfl, L3⟩)
    | (go_at_call 9; (with_reducible refine (lo_take L1 ha len_nil kt_1.1 kt_1.2).mono ?_); clear L1; rintro e w2 ⟨rfl, L2⟩))
  go_ret
  exact ⟨rfl, L5.only⟩
theorem due_none (n : Int) (w : World) : Calls Try.prog 17 #[.pointer none, .int .i64 n] w fun e w' => e = .returned (.slice none 0 0) ∧ w' = w := (due_nil n).mono fun _ _ ⟨a, b⟩ => ⟨a, b.symm⟩
set_option maxRecDepth 100000 in
set_option maxHeartbeats 2000000 in
theorem lnothing_any (u : ByteArray) (c : Int) (w : World) (hu : u.size ≤ 140737488355328) : Calls Try.prog 6 #[.string u, .int .i64 c] w fun e w' => e = .returned (.bool true) ∧ Only [] w w' := by
  by_cases h : 200 < u.size
  · have h2 : ((u.size : Nat) : Int) > 200 := by omega
    go_enter Try.func6, Try.ntmps6
    go_wp2
    go_ret
    exact ⟨rfl, Only.refl _ _⟩
  · have h2 : ¬ ((u.size : Nat) : Int) > 200 := by omega
    go_enter Try.func6, Try.ntmps6
    go_wp2_with (first
      | (go_at_call 11; (with_reducible refine (free_nil _).mono ?_); rintro e w1 ⟨rfl, O1⟩)
      | (go_at_call 13; (with_reducible refine (touch_nil _ _ _).mono ?_); rintro e w2 ⟨rfl, rfl⟩)
      | (go_at_call 15; (with_reducible refine (forget_nil _).mono ?_); rintro e w3 ⟨rfl, rfl⟩)
      | (go_at_call 19; (with_reducible refine (holder_nil _).mono ?_); rintro e w4 ⟨rfl, rfl⟩)
      | (go_at_call 9; (with_reducible refine (take_nil _ _).mono ?_); rintro e w5 ⟨rfl, rfl⟩)
      | (go_at_call 17; (with_reducible refine (due_nil _).mono ?_); rintro e w6 ⟨rfl, rfl⟩)
      | (go_at_call 21; (with_reducible refine (lknown_any _).mono ?_); rintro e w7 ⟨rfl, O7⟩))
    go_ret
    exact ⟨rfl, O1.then O7⟩
end Go.Proofs.Ytmjkdfneohpbjaa
