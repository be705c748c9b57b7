/-
  box: may a mailbox be? The program's and the document's.
-/
import Derived.Test.YthaodlegpjedoaaVIs2
namespace Go.Proofs.Ythaodlegpjedoaa
open Go.RowKit Go.Instr

theorem bxv_eq {s : List UInt8} {v x : Int} {l : List Mg} {n : Nat} (h : l.length = n) (A : Option Addr) (c : Nat) : bxv ⟨s, v, x, l⟩ A c = .agg #[.string (St s), .int .i64 v, .int .i64 x, .slice A n c] := by
  subst h
  rfl
/-- What is left of a list that is to rise. -/
theorem rises_at_k {next last : Int} {l : List Mg} {k : Nat} (h : k < l.length) : rises next last (l.drop k) = (mgOk last next l[k] && rises next l[k].uid (l.drop (k + 1))) := by
  rw [List.drop_eq_getElem_cons h, rises]
theorem bx_cells {w w2 : World} {t : TypeId} {a0 a1 a2 a3 : Value} (o : Only [] (w.alloc (.cells #[a0, a1, a2, a3] t)) w2) : Bk w2 w.heap.size t #[a0, a1, a2, a3] := (Bk.new w t #[a0, a1, a2, a3]).only o (fun h => nomatch h)
theorem bk_four {w : World} {g : Nat} {t : TypeId} {a0 a1 a2 a3 : Value} (h : Bk w g t #[a0, a1, a2, a3]) : w.cell? ⟨g, 0, none⟩ = some a0 ∧ w.cell? ⟨g, 1, none⟩ = some a1 ∧ w.cell? ⟨g, 2, none⟩ = some a2 ∧ w.cell? ⟨g, 3, none⟩ = some a3 :=
  ⟨by rw [h.cell]; rfl, by rw [h.cell]; rfl, by rw [h.cell]; rfl, by rw [h.cell]; rfl⟩
set_option maxRecDepth 100000 in
set_option maxHeartbeats 4000000 in
theorem Is_any {S : Nat → Prop} {w : World} (b : Bx) {A : Option Addr} {c : Nat} (h : Ms S w A b.l.length b.l) (hn : b.l.length ≤ 140737488355328) :
    Calls Try.prog 24 #[bxv b A c] w fun e w' => e = .returned (.bool (isB b)) ∧ Only [] w w' := by
  obtain ⟨s, v, x, l⟩ := b
  obtain ⟨n, hl⟩ : ∃ n, l.length = n := ⟨_, rfl⟩
  simp only at h hn
  rw [bxv_eq hl]
  rw [hl] at h hn
  obtain ⟨q, hq⟩ : ∃ q, isB ⟨s, v, x, l⟩ = q := ⟨_, rfl⟩
  rw [hq]
  have HS := Lib.hid h
  have HL := Lib.hid hl
  have hq' : q = (nameL s && inR v 1 1048576 && inR x 1 1048576 && decide (n ≤ 24) && rises x 0 l) := by rw [← hq]; unfold isB; simp only; rw [hl]
  have hO0 : Only [] w (w.alloc (.cells #[.string (St s), .int .i64 v, .int .i64 x, .slice A n c] 26)) := (Only.refl _ _).alloc _
  have HN := Lib.hid (Name_any s (w.alloc (.cells #[.string (St s), .int .i64 v, .int .i64 x, .slice A n c] 26)))
  have HC : Hid (∀ w2, Only [] (w.alloc (.cells #[.string (St s), .int .i64 v, .int .i64 x, .slice A n c] 26)) w2 → Bk w2 w.heap.size 26 #[.string (St s), .int .i64 v, .int .i64 x, .slice A n c]) := fun w2 o => bx_cells o
  clear h hl hq
  obtain ⟨p1, hp1⟩ : ∃ p, nameL s = p := ⟨_, rfl⟩
  obtain ⟨p2, hp2⟩ : ∃ p, inR v 1 1048576 = p := ⟨_, rfl⟩
  obtain ⟨p3, hp3⟩ : ∃ p, inR x 1 1048576 = p := ⟨_, rfl⟩
  rw [hp1, hp2, hp3] at hq'
  rw [hp1] at HN
  have m2 := fun W => mayNumber_any v W
  have m3 := fun W => mayNumber_any x W
  rw [hp2] at m2
  rw [hp3] at m3
  clear hp1 hp2 hp3
  generalize St s = t at *
  cases p1
  · have HQ := Lib.hid hq'
    clear hq' m2 m3
    go_enter Try.func24, Try.ntmps24
    go_wp2_with (go_at_call 26; with_reducible refine HN.out.mono ?_; rintro e w2 ⟨rfl, O2⟩)
    go_ret
    exact ⟨by rw [HQ.out]; rfl, hO0.then O2⟩
  · cases p2
    · have HQ := Lib.hid hq'
      clear hq' m3
      go_enter Try.func24, Try.ntmps24
      go_wp2_with (first
        | (go_at_call 26; with_reducible refine HN.out.mono ?_; rintro e w2 ⟨rfl, O2⟩; obtain ⟨c0, c1, c2, c3⟩ := bk_four (HC.out w2 O2))
        | (go_at_call 55; go_must (with_reducible refine (m2 _).mono ?_); rintro e w3 ⟨rfl, rfl⟩))
      go_ret
      exact ⟨by rw [HQ.out]; rfl, hO0.then O2⟩
    · cases p3
      · have HQ := Lib.hid hq'
        clear hq'
        go_enter Try.func24, Try.ntmps24
        go_wp2_with (first
          | (go_at_call 26; with_reducible refine HN.out.mono ?_; rintro e w2 ⟨rfl, O2⟩; obtain ⟨c0, c1, c2, c3⟩ := bk_four (HC.out w2 O2))
          | (go_at_call 55; go_must (first | (with_reducible refine (m2 _).mono ?_) | (with_reducible refine (m3 _).mono ?_)); rintro e w3 ⟨rfl, rfl⟩))
        go_ret
        exact ⟨by rw [HQ.out]; simp, hO0.then O2⟩
      · by_cases h24 : n ≤ 24
        · have hq2 : q = rises x 0 l := by rw [hq', decide_eq_true h24]; rfl
          have HQ := Lib.hid hq2
          have i24 : ¬ (24 : Int) < (n : Int) := by omega
          clear hq' hq2 hn
          go_enter Try.func24, Try.ntmps24
          go_wp2_with (first
            | (go_at_call 26; with_reducible refine HN.out.mono ?_; rintro e w2 ⟨rfl, O2⟩; obtain ⟨c0, c1, c2, c3⟩ := bk_four (HC.out w2 O2))
            | (go_at_call 55; go_must (first | (with_reducible refine (m2 _).mono ?_) | (with_reducible refine (m3 _).mono ?_)); rintro e w3 ⟨rfl, rfl⟩))
          clear m2 m3 HN
          have HB := Lib.hid (HC.out w2 O2)
          have hO2 := hO0.then O2
          clear HC c0 c1 c2 c3 O2 hO0
          have hg : w.heap.size < w2.heap.size := HB.out.lt
          generalize w.heap.size = g at HB hg ⊢
          go_loopw [3, 31] (fun lv iv wr => Only [] w2 wr ∧ ∃ (k : Nat) (L : Int), iv = .int .i64 (k : Int) ∧ lv = .int .i64 L ∧ k ≤ n ∧ Hid (rises x L (l.drop k) = rises x 0 l)) (fun _ iv _ => n - (intOf iv).toNat)
          case atStart => exact ⟨Only.refl _ _, 0, 0, rfl, rfl, Nat.zero_le _, rfl⟩
          case round =>
            obtain ⟨hO, k, L, rfl, rfl, hk, HK⟩ := hrel
            obtain ⟨c0, c1, c2, c3⟩ := bk_four (HB.out.only hO (fun hm => nomatch hm))
            have hgr : g < wr.heap.size := Nat.lt_of_lt_of_le hg hO.size
            by_cases hlt : k < n
            · have hlt' : (k : Int) < (n : Int) := by omega
              have hkl : k < l.length := by rw [HL.out]; exact hlt
              obtain ⟨ad, Ab, cb, rfl, _, hm⟩ := (HS.out.keep (hO2.then hO)).at_ hlt hkl
              obtain ⟨m0, m1, m2, m3, _, _⟩ := hm
              have hstep := rises_at_k (next := x) (last := L) hkl
              obtain ⟨m, hm⟩ : ∃ m, l[k] = m := ⟨_, rfl⟩
              rw [hm] at m0 m1 m2 m3 hstep
              clear hm
              obtain ⟨u, f, d, y⟩ := m
              simp only at m0 m1 m2 m3 hstep
              obtain ⟨z, hz⟩ : ∃ z, y.length = z := ⟨_, rfl⟩
              rw [hz] at m3
              have cM := fun W => mayMark_any f d W
              have hfin : ∀ p, mgOk L x ⟨u, f, d, y⟩ = p → Hid (q = (p && rises x u (l.drop (k + 1)))) := fun p hp => by
                show _ = _
                rw [HQ.out, ← HK.out, hstep, hp]
              have hok := fun h => hfin true (mgOk_iff.2 h)
              have hbad : ¬ _ → _ := fun h => hfin false (by rw [Bool.eq_false_iff]; exact fun e => h (mgOk_iff.1 e))
              simp only [hz] at hok hbad
              have hmk : markOk f d = true ↔ _ := markOk_iff
              clear hfin hz
              by_cases h1 : u ≤ L
              · have HE := hbad (by omega)
                clear hok hbad hstep hmk cM
                go_wp2
                go_ret
                exact ⟨by rw [HE.out]; rfl, (hO2.then hO).alloc _⟩
              · by_cases h2 : x ≤ u
                · have HE := hbad (by omega)
                  clear hok hbad hstep hmk cM
                  go_wp2
                  go_ret
                  exact ⟨by rw [HE.out]; rfl, (hO2.then hO).alloc _⟩
                · obtain ⟨p4, hp4⟩ : ∃ p, markOk f d = p := ⟨_, rfl⟩
                  rw [hp4] at cM hmk
                  clear hp4
                  cases p4
                  · have HE := hbad (fun h => by have := hmk.2 h.2.2.1; cases this)
                    clear hok hbad hstep hmk
                    go_wp2_with (go_at_call 56; go_must (with_reducible refine (cM _).mono ?_); rintro e w3 ⟨rfl, rfl⟩)
                    go_ret
                    exact ⟨by rw [HE.out]; rfl, (hO2.then hO).alloc _⟩
                  · have hmk' := hmk.1 rfl
                    by_cases h3 : z ≤ 1200
                    · have HE := hok ⟨by omega, by omega, hmk', h3⟩
                      have HR : Hid (rises x u (l.drop (k + 1)) = rises x 0 l) := by
                        show _ = _
                        rw [← HQ.out, HE.out, Bool.true_and]
                      have i3 : ¬ (1200 : Int) < (z : Int) := by omega
                      have HM : Hid (n - (intOf (.int .i64 ((k : Int) + 1))).toNat < n - (intOf (.int .i64 (k : Int))).toNat) := by
                        show _ < _
                        simp [intOf]
                        omega
                      have HRR : Hid (∃ (k' : Nat) (L' : Int), Value.int .i64 ((k : Int) + 1) = .int .i64 (k' : Int) ∧ Value.int .i64 u = .int .i64 L' ∧ k' ≤ n ∧ Hid (rises x L' (l.drop k') = rises x 0 l)) := ⟨k + 1, u, by simp, rfl, by omega, HR⟩
                      clear hok hbad hstep hmk hmk' HE HR
                      go_wp2_with (go_at_call 56; go_must (with_reducible refine (cM _).mono ?_); rintro e w3 ⟨rfl, rfl⟩)
                      exact ⟨⟨hO.alloc _, HRR.out⟩, HM.out⟩
                    · have HE := hbad (by omega)
                      have i3 : (1200 : Int) < (z : Int) := by omega
                      clear hok hbad hstep hmk hmk'
                      go_wp2_with (go_at_call 56; go_must (with_reducible refine (cM _).mono ?_); rintro e w3 ⟨rfl, rfl⟩)
                      go_ret
                      exact ⟨by rw [HE.out]; rfl, (hO2.then hO).alloc _⟩
            · obtain rfl : k = n := by omega
              have HE : Hid (q = true) := by
                show _ = _
                rw [HQ.out, ← HK.out, List.drop_of_length_le (by rw [HL.out]; exact Nat.le_refl _)]
                rfl
              go_wp2
              go_ret
              exact ⟨by rw [HE.out]; rfl, hO2.then hO⟩
        · have hq2 : q = false := by rw [hq', decide_eq_false h24]; simp
          have HQ := Lib.hid hq2
          have i24 : (24 : Int) < (n : Int) := by omega
          clear hq' hq2
          go_enter Try.func24, Try.ntmps24
          go_wp2_with (first
            | (go_at_call 26; with_reducible refine HN.out.mono ?_; rintro e w2 ⟨rfl, O2⟩; obtain ⟨c0, c1, c2, c3⟩ := bk_four (HC.out w2 O2))
            | (go_at_call 55; go_must (first | (with_reducible refine (m2 _).mono ?_) | (with_reducible refine (m3 _).mono ?_)); rintro e w3 ⟨rfl, rfl⟩))
          go_ret
          exact ⟨by rw [HQ.out]; rfl, hO0.then O2⟩
end Go.Proofs.Ythaodlegpjedoaa
