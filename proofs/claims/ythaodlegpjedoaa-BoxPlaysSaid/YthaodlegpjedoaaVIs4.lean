/-
  box: may a mailbox be? The document's.
-/
import Derived.Test.YthaodlegpjedoaaVIs3
namespace Go.Proofs.Ythaodlegpjedoaa
open Go.RowKit Go.Instr

set_option maxRecDepth 100000 in
set_option maxHeartbeats 4000000 in
theorem refIs_any {S : Nat → Prop} {w : World} (b : Bx) {A : Option Addr} {c : Nat} (h : Ms S w A b.l.length b.l) (hn : b.l.length ≤ 140737488355328) (hnm : b.name.length ≤ 140737488355328) :
    Calls Try.prog 15 #[bxv b A c] w fun e w' => e = .returned (.bool (isB b)) ∧ Only [] w w' := by
  obtain ⟨s, v, x, l⟩ := b
  obtain ⟨n, hl⟩ : ∃ n, l.length = n := ⟨_, rfl⟩
  simp only at h hn hnm
  rw [bxv_eq hl]
  rw [hl] at h hn
  obtain ⟨q, hq⟩ : ∃ q, isB ⟨s, v, x, l⟩ = q := ⟨_, rfl⟩
  rw [hq]
  have HS := Lib.hid h
  have HL := Lib.hid hl
  have hq' : q = (nameL s && inR v 1 1048576 && inR x 1 1048576 && decide (n ≤ 24) && rises x 0 l) := by rw [← hq]; unfold isB; simp only; rw [hl]
  have HQ := Lib.hid hq'
  have HN := Lib.hid (fun W => refName_any s W hnm)
  have B0 := Lib.hid (Bk.new w 26 #[.string (St s), .int .i64 v, .int .i64 x, .slice A n c])
  have hO0 : Only [] w (w.alloc (.cells #[.string (St s), .int .i64 v, .int .i64 x, .slice A n c] 26)) := (Only.refl _ _).alloc _
  clear h hl hq hq' hnm
  generalize St s = t at *
  go_enter Try.func15, Try.ntmps15
  go_wp2
  generalize hw0 : w.alloc (.cells #[.string t, .int .i64 v, .int .i64 x, .slice A n c] 26) = w2 at *
  have hg : w.heap.size < w2.heap.size := B0.out.lt
  clear hw0
  generalize w.heap.size = g at B0 hg ⊢
  -- what follows the loop
  go_loopw [3, 4] (fun lv iv wr => Only [] w2 wr ∧ ∃ (k : Nat) (L : Int), iv = .int .i64 (k : Int) ∧ lv = .int .i64 L ∧ k ≤ n ∧ Hid (rises x L (l.drop k) = rises x 0 l)) (fun _ iv _ => n - (intOf iv).toNat)
  case atStart => exact ⟨Only.refl _ _, 0, 0, rfl, rfl, Nat.zero_le _, rfl⟩
  case round =>
    obtain ⟨hO, k, L, rfl, rfl, hk, HK⟩ := hrel
    obtain ⟨c0, c1, c2, c3⟩ := bk_four (B0.out.only hO (fun hm => nomatch hm))
    have hgr : g < wr.heap.size := Nat.lt_of_lt_of_le hg hO.size
    by_cases hlt : k < n ∧ n ≤ 24
    · obtain ⟨hlt, h24⟩ := hlt
      have hlt' : (k : Int) < (n : Int) := by omega
      have i24 : (n : Int) ≤ 24 := by omega
      have hkl : k < l.length := by rw [HL.out]; exact hlt
      obtain ⟨ad, Ab, cb, rfl, _, hm⟩ := (HS.out.keep (hO0.then hO)).at_ hlt hkl
      obtain ⟨m0, m1, m2, m3, _, _⟩ := hm
      have hstep := rises_at_k (next := x) (last := L) hkl
      obtain ⟨m, hm⟩ : ∃ m, l[k] = m := ⟨_, rfl⟩
      rw [hm] at m0 m1 m2 m3 hstep
      clear hm
      obtain ⟨u, f, d, y⟩ := m
      simp only at m0 m1 m2 m3 hstep
      obtain ⟨z, hz⟩ : ∃ z, y.length = z := ⟨_, rfl⟩
      rw [hz] at m3
      have hbad0 : mgOk L x ⟨u, f, d, y⟩ = false → Hid (q = false) := fun hp => by
        show _ = _
        rw [HQ.out, ← HK.out, hstep, hp, Bool.false_and, Bool.and_false]
      have hok : mgOk L x ⟨u, f, d, y⟩ = true → Hid (rises x u (l.drop (k + 1)) = rises x 0 l) := fun hp => by
        show _ = _
        rw [← HK.out, hstep, hp, Bool.true_and]
      have hbad : ¬ _ → _ := fun h => hbad0 (by rw [Bool.eq_false_iff]; exact fun e => h (mgOk_iff.1 e))
      have hok := fun h => hok (mgOk_iff.2 h)
      simp only [hz] at hok hbad
      clear hbad0 hz
      have cF := fun W => in_any f 0 31 W
      have cD := fun W => in_any d 0 1073741824 W
      have hf : inR f 0 31 = true ↔ _ := inR_iff
      have hd : inR d 0 1073741824 = true ↔ _ := inR_iff
      obtain ⟨p4, hp4⟩ : ∃ p, inR f 0 31 = p := ⟨_, rfl⟩
      obtain ⟨p5, hp5⟩ : ∃ p, inR d 0 1073741824 = p := ⟨_, rfl⟩
      rw [hp4] at cF hf
      rw [hp5] at cD hd
      clear hp4 hp5
      by_cases h1 : u ≤ L
      · have HE := hbad (by omega)
        clear hok hbad hstep hf hd cF cD
        go_wp2
        go_ret
        exact ⟨by rw [HE.out]; rfl, (hO0.then hO).alloc _⟩
      · by_cases h2 : x ≤ u
        · have HE := hbad (by omega)
          clear hok hbad hstep hf hd cF cD
          go_wp2
          go_ret
          exact ⟨by rw [HE.out]; rfl, (hO0.then hO).alloc _⟩
        · cases p4
          · have HE := hbad (fun h => by have := hf.2 h.2.2.1.1; cases this)
            clear hok hbad hstep hf hd cD
            go_wp2_with (go_at_call 34; go_must (with_reducible refine (cF _).mono ?_); rintro e w3 ⟨rfl, rfl⟩)
            go_ret
            exact ⟨by rw [HE.out]; rfl, (hO0.then hO).alloc _⟩
          · cases p5
            · have HE := hbad (fun h => by have := hd.2 h.2.2.1.2; cases this)
              clear hok hbad hstep hf hd
              go_wp2_with (go_at_call 34; go_must (first | (with_reducible refine (cF _).mono ?_) | (with_reducible refine (cD _).mono ?_)); rintro e w3 ⟨rfl, rfl⟩)
              go_ret
              exact ⟨by rw [HE.out]; rfl, (hO0.then hO).alloc _⟩
            · have hf' := hf.1 rfl
              have hd' := hd.1 rfl
              by_cases h3 : z ≤ 1200
              · have HR := hok ⟨by omega, by omega, ⟨hf', hd'⟩, h3⟩
                have i3 : ¬ (1200 : Int) < (z : Int) := by omega
                have HM : Hid (n - (intOf (.int .i64 ((k : Int) + 1))).toNat < n - (intOf (.int .i64 (k : Int))).toNat) := by
                  show _ < _
                  simp [intOf]
                  omega
                have HRR : Hid (∃ (k' : Nat) (L' : Int), Value.int .i64 ((k : Int) + 1) = .int .i64 (k' : Int) ∧ Value.int .i64 u = .int .i64 L' ∧ k' ≤ n ∧ Hid (rises x L' (l.drop k') = rises x 0 l)) := ⟨k + 1, u, by simp, rfl, by omega, HR⟩
                clear hok hbad hstep hf hd hf' hd' HR
                go_wp2_with (go_at_call 34; go_must (first | (with_reducible refine (cF _).mono ?_) | (with_reducible refine (cD _).mono ?_)); rintro e w3 ⟨rfl, rfl⟩)
                exact ⟨⟨hO.alloc _, HRR.out⟩, HM.out⟩
              · have HE := hbad (by omega)
                have i3 : (1200 : Int) < (z : Int) := by omega
                clear hok hbad hstep hf hd hf' hd'
                go_wp2_with (go_at_call 34; go_must (first | (with_reducible refine (cF _).mono ?_) | (with_reducible refine (cD _).mono ?_)); rintro e w3 ⟨rfl, rfl⟩)
                go_ret
                exact ⟨by rw [HE.out]; rfl, (hO0.then hO).alloc _⟩
    · have HE : Hid (q = (nameL s && inR v 1 1048576 && inR x 1 1048576 && decide (n ≤ 24))) := by
        show _ = _
        rw [HQ.out]
        by_cases h24 : n ≤ 24
        · obtain rfl : k = n := by omega
          have : rises x 0 l = true := by
            rw [← HK.out, List.drop_of_length_le (by rw [HL.out]; exact Nat.le_refl _)]
            rfl
          rw [this, Bool.and_true]
        · rw [decide_eq_false h24]
          simp
      have hQ2 := hO0.then hO
      clear hO0 B0 HS hO
      have cV := fun W => in_any v 1 1048576 W
      have cX := fun W => in_any x 1 1048576 W
      have cN := HN.out
      have hE := HE.out
      obtain ⟨p1, hp1⟩ : ∃ p, nameL s = p := ⟨_, rfl⟩
      obtain ⟨p2, hp2⟩ : ∃ p, inR v 1 1048576 = p := ⟨_, rfl⟩
      obtain ⟨p3, hp3⟩ : ∃ p, inR x 1 1048576 = p := ⟨_, rfl⟩
      obtain ⟨p6, hp6⟩ : ∃ p, decide (n ≤ 24) = p := ⟨_, rfl⟩
      rw [hp1, hp2, hp3, hp6] at hE
      rw [hp1] at cN
      rw [hp2] at cV
      rw [hp3] at cX
      have HE2 := Lib.hid hE
      clear HE hE hp1 hp2 hp3 HQ HK HN
      have i6 : decide ((n : Int) ≤ 24) = p6 := by rw [← hp6]; simp; omega
      have hguard : (k < n → p6 = false) := fun h => by rw [← hp6]; exact decide_eq_false (by omega)
      by_cases hkn : k < n
      · have hkn' : (k : Int) < (n : Int) := by omega
        obtain rfl := hguard hkn
        have i7 : ¬ (n : Int) ≤ 24 := by simpa using i6
        clear hguard hp6 i6 hlt
        cases p1 <;> cases p2 <;> cases p3
        all_goals
          go_wp2_with (first
            | (go_at_call 27; with_reducible refine (cN _).mono ?_; rintro e w3 ⟨rfl, rfl⟩)
            | (go_at_call 34; go_must (first | (with_reducible refine (cV _).mono ?_) | (with_reducible refine (cX _).mono ?_)); rintro e w3 ⟨rfl, rfl⟩))
          go_ret
          exact ⟨by rw [HE2.out]; first | rfl | (show Ending.returned (.bool (decide ((n : Int) ≤ 24))) = _; rw [decide_eq_false (by omega)]; rfl) | (show Ending.returned (.bool (decide ((n : Int) ≤ 24))) = _; rw [decide_eq_true (by omega)]; rfl), hQ2⟩
      · have hkn' : ¬ (k : Int) < (n : Int) := by omega
        clear hguard hlt hp6
        cases p1 <;> cases p2 <;> cases p3 <;> cases p6
        all_goals
          simp only [decide_eq_true_eq, decide_eq_false_iff_not] at i6
          go_wp2_with (first
            | (go_at_call 27; with_reducible refine (cN _).mono ?_; rintro e w3 ⟨rfl, rfl⟩)
            | (go_at_call 34; go_must (first | (with_reducible refine (cV _).mono ?_) | (with_reducible refine (cX _).mono ?_)); rintro e w3 ⟨rfl, rfl⟩))
          go_ret
          exact ⟨by rw [HE2.out]; first | rfl | (show Ending.returned (.bool (decide ((n : Int) ≤ 24))) = _; rw [decide_eq_false (by omega)]; rfl) | (show Ending.returned (.bool (decide ((n : Int) ≤ 24))) = _; rw [decide_eq_true (by omega)]; rfl), hQ2⟩
end Go.Proofs.Ythaodlegpjedoaa
