/-
  lock: the laws' long.
-/
import Derived.Test.YtmjkdfneohpbjaaQActs
import Derived.WalkKit
import Derived.Handy
import Derived.IntWalk
namespace Go.Proofs.Ytmjkdfneohpbjaa
open Go.RowKit

theorem ActsQ.keep {w w' : World} {A : Option Addr} {n : Nat} {l : List QAct} (h : ActsQ w A n l) (o : Only [] w w') : ActsQ w' A n l := by
  refine ⟨h.1, fun hn => ?_⟩
  obtain ⟨ad, e, hc⟩ := h.2 hn
  refine ⟨ad, e, fun i a hi => ?_⟩
  obtain ⟨c0, c1, c2, c3, c4, hw⟩ := hc i a hi
  exact ⟨o.cellSome c0 (fun hm => nomatch hm), o.cellSome c1 (fun hm => nomatch hm), o.cellSome c2 (fun hm => nomatch hm), o.cellSome c3 (fun hm => nomatch hm), o.cellSome c4 (fun hm => nomatch hm), hw⟩
/-- An act, its cells as the walk writes their addresses. -/
theorem ActsQ.at_ {w : World} {A : Option Addr} {n : Nat} {l : List QAct} (h : ActsQ w A n l) (i : Nat) (hi : i < l.length) : ∃ ad, A = some ad ∧ w.cell? (ad.add (i * 5)) = some (.int .i64 l[i].kind) ∧ w.cell? ⟨(ad.add (i * 5)).block, (ad.add (i * 5)).off + 1, none⟩ = some (.string l[i].user) ∧
    w.cell? ⟨(ad.add (i * 5)).block, (ad.add (i * 5)).off + 2, none⟩ = some (.int .i64 l[i].conn) ∧ w.cell? ⟨(ad.add (i * 5)).block, (ad.add (i * 5)).off + 3, none⟩ = some (.int .i64 l[i].now) ∧ w.cell? ⟨(ad.add (i * 5)).block, (ad.add (i * 5)).off + 4, none⟩ = some (.int .i64 l[i].lim) ∧ l[i].wf := by
  obtain ⟨ad, e, hc⟩ := h.2 (by have := h.1; omega)
  obtain ⟨c0, c1, c2, c3, c4, hw⟩ := hc i l[i] (List.getElem?_eq_getElem hi)
  refine ⟨ad, e, c0, ?_, ?_, ?_, ?_, hw⟩
  · rw [← c1, ← add_add]; rfl
  · rw [← c2, ← add_add]; rfl
  · rw [← c3, ← add_add]; rfl
  · rw [← c4, ← add_add]; rfl
def QAct.fair (a : QAct) : Prop := 0 ≤ a.now ∧ a.now ≤ 1099511627776 ∧ 0 ≤ a.lim ∧ a.lim ≤ 1099511627776
def LongQ (l : List QAct) (w : World) (e : Ending) (w' : World) : Prop := ∃ b, e = .returned (.bool b) ∧ w = w' ∧ (b = false → ∀ i a, i < 100 → l[i]? = some a → a.fair)
set_option maxRecDepth 100000 in
set_option maxHeartbeats 4000000 in
theorem long_q (A : Option Addr) (n c : Nat) (l : List QAct) (w : World) (hl : ActsQ w A n l) (hb : ∀ a ∈ l, a.user.size ≤ 140737488351232) (hn : n ≤ 4611686018427387904) : Calls Try.prog 7 #[.slice A n c] w (LongQ l w) := by
  have HLL := Lib.hid hl.1
  have HB := Lib.hid hb
  clear hb
  go_enter Try.func7, Try.ntmps7
  go_wp2
  go_loop [3, 4] (fun s i => ∃ k t : Nat, k ≤ n ∧ k ≤ 100 ∧ i = .int .i64 (k : Int) ∧ s = .int .i64 (t : Int) ∧ t ≤ 3000 ∧ Hid (∀ i a, i < k → l[i]? = some a → a.fair)) (fun _ i => n - (intOf i).toNat)
  case atStart => exact ⟨0, 0, Nat.zero_le _, by omega, rfl, rfl, by omega, fun i a hi => absurd hi (by omega)⟩
  case round =>
    obtain ⟨k, t, hk, hk1, rfl, rfl, ht, HF⟩ := hrel
    by_cases hlt : k < n ∧ k < 100
    · obtain ⟨hkn, hk100⟩ := hlt
      have h1 : (k : Int) < (n : Int) := by omega
      have h2 : (k : Int) < 100 := by omega
      have hkl : k < l.length := by rw [HLL.out]; exact hkn
      obtain ⟨ad, rfl, c0, c1, c2, c3, c4, _⟩ := hl.at_ k hkl
      have HFair : Hid (0 ≤ l[k].now ∧ l[k].now ≤ 1099511627776 ∧ 0 ≤ l[k].lim ∧ l[k].lim ≤ 1099511627776 → ∀ i a, i < k + 1 → l[i]? = some a → a.fair) := by
        intro hf i a hi ha
        rcases Nat.lt_succ_iff_lt_or_eq.1 hi with h | h
        · exact HF.out i a h ha
        · subst h
          rw [List.getElem?_eq_getElem hkl] at ha
          injection ha with ha
          rw [← ha]
          exact hf
      have hDb : l[k].user.size ≤ 140737488351232 := HB.out _ (List.getElem_mem hkl)
      generalize l[k].user = u at c1 hDb
      obtain ⟨D, hD⟩ : ∃ D, D = u.size := ⟨_, rfl⟩
      have hlen : (u.size : Int) = (D : Int) := by rw [hD]
      rw [← hD] at hDb
      generalize l[k].now = N at c3 HFair
      generalize l[k].lim = M at c4 HFair
      clear hD c0 c2
      have hways : 3000 < t + 1 + D ∨ (¬ 3000 < t + 1 + D ∧ N < 0) ∨ (¬ 3000 < t + 1 + D ∧ ¬ N < 0 ∧ N > 1099511627776) ∨ (¬ 3000 < t + 1 + D ∧ ¬ N < 0 ∧ ¬ N > 1099511627776 ∧ M < 0) ∨ (¬ 3000 < t + 1 + D ∧ ¬ N < 0 ∧ ¬ N > 1099511627776 ∧ ¬ M < 0 ∧ M > 1099511627776) ∨ (¬ 3000 < t + 1 + D ∧ ¬ N < 0 ∧ ¬ N > 1099511627776 ∧ ¬ M < 0 ∧ ¬ M > 1099511627776) := by omega
      rcases hways with g1 | ⟨g1, g2⟩ | ⟨g1, g2, g3⟩ | ⟨g1, g2, g3, g4⟩ | ⟨g1, g2, g3, g4, g5⟩ | ⟨g1, g2, g3, g4, g5⟩
      · have hbig' : (t : Int) + 1 + (D : Int) > 3000 := by omega
        go_wp2
        go_ret
        exact ⟨true, rfl, rfl, fun h => nomatch h⟩
      all_goals
        have hbig' : ¬ (t : Int) + 1 + (D : Int) > 3000 := by omega
      iterate 4
        · go_wp2
          go_ret
          exact ⟨true, rfl, rfl, fun h => nomatch h⟩
      go_wp2
      go_roundw
      case rel => exact ⟨k + 1, t + 1 + D, by omega, by omega, by go_num, by go_num, by omega, HFair.out ⟨by omega, by omega, by omega, by omega⟩⟩
      case measure => simp [intOf]; omega
    · have HEND : Hid (∀ i a, i < 100 → l[i]? = some a → a.fair) := by
        intro i a hi ha
        refine HF.out i a ?_ ha
        have := (List.getElem?_eq_some_iff.1 ha).1
        rw [HLL.out] at this
        omega
      have hlt' : k = 100 ∨ (k = n ∧ ¬ k = 100) := by omega
      rcases hlt' with h | ⟨h, h100⟩
      · subst h
        by_cases hn100 : 100 < n
        · have h1 : (100 : Int) < (n : Int) := by omega
          go_wp2
          go_ret
          exact ⟨false, rfl, rfl, fun _ => HEND.out⟩
        · have h1 : ¬ (100 : Int) < (n : Int) := by omega
          go_wp2
          go_ret
          exact ⟨false, rfl, rfl, fun _ => HEND.out⟩
      · have h1 : ¬ (k : Int) < (n : Int) := by omega
        go_wp2
        go_ret
        exact ⟨false, rfl, rfl, fun _ => HEND.out⟩
end Go.Proofs.Ytmjkdfneohpbjaa
