/-
  lex.fit: do lines and literals stand by turns?
-/
import Derived.Test.YtbbgdcnnacakjaaDoorYCut
namespace Go.Proofs.YtbbgdcnnacakjaaDoor
open Go.RowKit Go.Instr

theorem fit_len : ∀ {ls bs : List (List UInt8)}, fitL ls bs = true → ls.length = bs.length + 1
  | [_], [], _ => rfl
  | _ :: ls, _ :: bs, h => by
    rw [fitL] at h
    simp only [Bool.and_eq_true] at h
    simp [fit_len h.2]
  | [], _, h => by simp [fitL] at h
  | _ :: _ :: _, [], h => by simp [fitL] at h
theorem fit_not {ls bs : List (List UInt8)} (h : ls.length ≠ bs.length + 1) : fitL ls bs = false := by
  cases hf : fitL ls bs with
  | false => rfl
  | true => exact absurd (fit_len hf) h
theorem fit_at {ls bs : List (List UInt8)} {k : Nat} (h1 : k < ls.length) (h2 : k < bs.length) : fitL (ls.drop k) (bs.drop k) = (decide (wantL ls[k] = some (bs[k]).length) && fitL (ls.drop (k + 1)) (bs.drop (k + 1))) := by
  rw [List.drop_eq_getElem_cons h1, List.drop_eq_getElem_cons h2]
  rw [fitL]
theorem fit_end {ls bs : List (List UInt8)} (h : ls.length = bs.length + 1) : fitL (ls.drop bs.length) (bs.drop bs.length) = true := by
  rw [List.drop_eq_getElem_cons (by omega), List.drop_of_length_le (i := bs.length + 1) (by omega), List.drop_of_length_le (Nat.le_refl _)]
  rfl
section
variable {w : World} {A B : Option Addr} {n c m d : Nat} {ls bs : List (List UInt8)}
set_option maxHeartbeats 1000000 in
set_option maxRecDepth 100000 in
theorem fit_any (hs : Rb w A n ls) (hb : Rb w B m bs) (hn : n ≤ 140737488355328) (hm : m ≤ 140737488355327) (hl : ∀ l ∈ ls, l.length ≤ 140737488355328) :
    Calls Tryd.prog 20 #[.slice A n c, .slice B m d] w fun e w' => e = .returned (.bool (fitL ls bs)) ∧ Only [] w w' := by
  have hnl := hs.len
  have hml := hb.len
  by_cases hnm : n = m + 1
  · obtain ⟨G, hG⟩ : ∃ G, fitL ls bs = G := ⟨_, rfl⟩
    have HG := Lib.hid hG
    rw [hG]
    have HS := Lib.hid hs
    have HB := Lib.hid hb
    have HNL := Lib.hid hnl
    have HML := Lib.hid hml
    have HL := Lib.hid hl
    have hne : ((n : Int) != (m : Int) + 1) = false := by rw [bne_eq_false_iff_eq]; omega
    have HNM := Lib.hid hnm
    clear hs hb hnl hml hl hG hnm
    go_enter Tryd.func20, Tryd.ntmps20
    go_wp2
    go_loopw [17] (fun iv wr => Only [] w wr ∧ ∃ k : Nat, iv = .int .i64 (k : Int) ∧ k ≤ m ∧ Hid (G = fitL (ls.drop k) (bs.drop k))) (fun iv _ => m - (intOf iv).toNat)
    case atStart => exact ⟨Only.refl _ _, 0, rfl, by omega, by show _ = _; rw [← HG.out]; rfl⟩
    case round =>
      obtain ⟨hO, k, rfl, hk, HK⟩ := hrel
      by_cases hlt : k < m
      · have hlt' : (k : Int) < (m : Int) := by omega
        have hkb : k < bs.length := by rw [HML.out]; exact hlt
        have hkl : k < ls.length := by rw [HNL.out, HNM.out]; omega
        have hkn : k < n := by rw [HNM.out]; omega
        have hkn' : (k : Int) < (n : Int) := by omega
        obtain ⟨ad, Ai, ci, rfl, c1, b1⟩ := (HS.out.keep hO).at_ hkn hkl
        obtain ⟨bd, Bi, di, rfl, c2, b2⟩ := (HB.out.keep hO).at_ hlt hkb
        have hW := Wants_any b1 (HL.out _ (List.getElem_mem hkl))
        have hfa := fit_at hkl hkb
        obtain ⟨a, ha⟩ : ∃ a, ls[k] = a := ⟨_, rfl⟩
        obtain ⟨b, hbb⟩ : ∃ b, bs[k] = b := ⟨_, rfl⟩
        rw [ha] at c1 b1 hW hfa
        rw [hbb] at c2 b2 hfa
        obtain ⟨x, hx⟩ : ∃ x, a.length = x := ⟨_, rfl⟩
        obtain ⟨y, hy⟩ : ∃ y, b.length = y := ⟨_, rfl⟩
        rw [hx] at c1 hW
        rw [hy] at c2 hfa
        have hki : (k : Int) + 1 ≤ 140737488355328 := by omega
        cases hw : wantL a with
        | none =>
          rw [hw] at hW hfa
          simp only [numO] at hW
          have HE : Hid (G = false) := by
            show _ = _
            rw [HK.out, hfa]
            rfl
          clear hfa hw ha hbb hx hy b1 b2
          go_wp2_with (go_at_call 12; with_reducible refine hW.mono ?_; rintro e w2 ⟨rfl, O2⟩)
          go_ret
          exact ⟨by rw [HE.out]; rfl, hO.then O2⟩
        | some z =>
          rw [hw] at hW hfa
          simp only [numO] at hW
          by_cases hzy : z = y
          · subst hzy
            have HR : Hid (∃ k' : Nat, Value.int .i64 ((k : Int) + 1) = .int .i64 (k' : Int) ∧ k' ≤ m ∧ Hid (G = fitL (ls.drop k') (bs.drop k'))) :=
              ⟨k + 1, by simp, by omega, by show _ = _; rw [HK.out, hfa]; simp⟩
            have HM : Hid (m - (intOf (.int .i64 ((k : Int) + 1))).toNat < m - (intOf (.int .i64 (k : Int))).toNat) := by
              show m - ((k : Int) + 1).toNat < m - (k : Int).toNat
              omega
            clear hfa hw ha hbb hx hy b1 b2
            go_wp2_with (go_at_call 12; with_reducible refine hW.mono ?_; rintro e w2 ⟨rfl, O2⟩)
            exact ⟨⟨hO.then O2, HR.out⟩, HM.out⟩
          · have hzb : ((z : Int) != (y : Int)) = true := by rw [bne_iff_ne]; omega
            have HE : Hid (G = false) := by
              show _ = _
              rw [HK.out, hfa, decide_eq_false (by intro h; injection h with h; exact hzy h)]
              rfl
            clear hfa hw ha hbb hx hy b1 b2 hzy
            go_wp2_with (go_at_call 12; with_reducible refine hW.mono ?_; rintro e w2 ⟨rfl, O2⟩)
            go_ret
            exact ⟨by rw [HE.out]; rfl, hO.then O2⟩
      · obtain rfl : k = m := by omega
        have HE : Hid (G = true) := by
          show _ = _
          rw [HK.out, ← HML.out]
          exact fit_end (by rw [HNL.out, HML.out, HNM.out])
        go_wp2
        go_ret
        exact ⟨by rw [HE.out]; rfl, hO⟩
  · have hne : ((n : Int) != (m : Int) + 1) = true := by rw [bne_iff_ne]; omega
    have HE : Hid (fitL ls bs = false) := fit_not (by omega)
    rw [HE.out]
    clear hs hb hnl hml hl hnm HE
    go_enter Tryd.func20, Tryd.ntmps20
    go_wp2
    go_ret
    exact ⟨rfl, Only.refl _ _⟩
end
end Go.Proofs.YtbbgdcnnacakjaaDoor
