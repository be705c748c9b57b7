/-
  The document's Is, Has, Same of sets.
-/
import Derived.Test.YtkdaemjdiafccaaDoorNOk
namespace Go.Proofs.YtkdaemjdiafccaaDoor
open Go.RowKit Go.Instr

theorem all_hit {l : List Rg} {p : Rg → Bool} {k : Nat} (h : k < l.length) (hx : p l[k] = true) : (l.drop k).all p = (l.drop (k + 1)).all p := by
  rw [List.drop_eq_getElem_cons h, List.all_cons, hx]; rfl
theorem all_miss {l : List Rg} {p : Rg → Bool} {k : Nat} (h : k < l.length) (hx : p l[k] = false) : (l.drop k).all p = false := by
  rw [List.drop_eq_getElem_cons h, List.all_cons, hx]; rfl
set_option maxRecDepth 100000 in
theorem refIs_any {w : World} {A : Option Addr} {n c : Nat} {l : List Rg} (hs : Rs w A n l) (hn : n ≤ 140737488355328) :
    Calls Tryd.prog 18 #[.slice A n c] w fun e w' => e = .returned (.bool (okS l)) ∧ Only [] w w' := by
  have hl := hs.len
  have hE : okS l = (decide (1 ≤ n) && decide (n ≤ 16) && l.all okR) := by rw [← hl]; rfl
  obtain ⟨q, hq⟩ : ∃ q, okS l = q := ⟨_, rfl⟩
  rw [hq] at hE ⊢
  have HQ := Lib.hid hE
  have HS := Lib.hid hs
  have HLN := Lib.hid hl
  clear hE hs hl hq
  go_enter Tryd.func18, Tryd.ntmps18
  go_wp2
  go_loopw [3] (fun iv wr => Only [] w wr ∧ ∃ k : Nat, iv = .int .i64 (k : Int) ∧ k ≤ n ∧ Hid ((l.drop k).all okR = l.all okR)) (fun iv _ => n - (intOf iv).toNat)
  case atStart => exact ⟨Only.refl _ _, 0, rfl, by omega, rfl⟩
  case round =>
    obtain ⟨hO, k, rfl, hk, HK⟩ := hrel
    by_cases hlt : k < n
    · have hlt' : (k : Int) < (n : Int) := by omega
      have hkl : k < l.length := by rw [HLN.out]; exact hlt
      obtain ⟨ad, rfl, c1, c2⟩ := (HS.out.keep hO).at_ hlt hkl
      have hhit := all_hit (p := okR) hkl
      have hmiss := all_miss (p := okR) hkl
      obtain ⟨r, hr⟩ : ∃ r, l[k] = r := ⟨_, rfl⟩
      rw [hr] at c1 c2 hhit hmiss
      obtain ⟨a, b⟩ := r
      simp only [nxt, show okR (a, b) = (okN a && okN b) from rfl] at c1 c2 hhit hmiss
      have ca := fun W => refIs1_any a W
      have cb := fun W => refIs1_any b W
      have hki : (k : Int) + 1 ≤ 140737488355328 := by omega
      generalize okN a = x at ca hhit hmiss
      generalize okN b = y at cb hhit hmiss
      have HM : Hid (n - (intOf (.int .i64 ((k : Int) + 1))).toNat < n - (intOf (.int .i64 (k : Int))).toNat) := by
        show _ < _
        simp [intOf]
        omega
      clear hr
      cases x
      · have HE : Hid (q = false) := by
          show _ = _
          rw [HQ.out, ← HK.out, hmiss rfl, Bool.and_false]
        clear hmiss hhit
        go_wp2_with (go_at_call 31; with_reducible refine (ca _).mono ?_; rintro e w2 ⟨rfl, rfl⟩)
        go_ret
        exact ⟨by rw [HE.out]; rfl, hO⟩
      · cases y
        · have HE : Hid (q = false) := by
            show _ = _
            rw [HQ.out, ← HK.out, hmiss rfl, Bool.and_false]
          clear hmiss hhit
          go_wp2_with first
            | (go_at_call 31; with_reducible refine (ca _).mono ?_; rintro e w2 ⟨rfl, rfl⟩)
            | (go_at_call 31; with_reducible refine (cb _).mono ?_; rintro e w2 ⟨rfl, rfl⟩)
          go_ret
          exact ⟨by rw [HE.out]; rfl, hO⟩
        · have HR : Hid (∃ k' : Nat, Value.int .i64 ((k : Int) + 1) = .int .i64 (k' : Int) ∧ k' ≤ n ∧ Hid ((l.drop k').all okR = l.all okR)) :=
            ⟨k + 1, by simp, by omega, by show _ = _; rw [← hhit rfl, HK.out]⟩
          clear hmiss hhit
          go_wp2_with first
            | (go_at_call 31; with_reducible refine (ca _).mono ?_; rintro e w2 ⟨rfl, rfl⟩)
            | (go_at_call 31; with_reducible refine (cb _).mono ?_; rintro e w2 ⟨rfl, rfl⟩)
          exact ⟨⟨hO, HR.out⟩, HM.out⟩
    · obtain rfl : k = n := by omega
      have HA : Hid (l.all okR = true) := by
        show _ = _
        rw [← HK.out, List.drop_of_length_le (by rw [HLN.out]; exact Nat.le_refl _)]
        rfl
      by_cases h1 : 1 ≤ k
      · have k1 : (k : Int) ≥ 1 := by omega
        have HE : Hid (q = decide ((k : Int) ≤ 16)) := by
          show _ = _
          rw [HQ.out, decide_eq_true h1, HA.out, Bool.true_and, Bool.and_true]
          exact decide_eq_decide.2 (by omega)
        clear hn hlt
        go_wp2
        go_ret
        exact ⟨by rw [HE.out]; rfl, hO⟩
      · have k1 : ¬ (k : Int) ≥ 1 := by omega
        have HE : Hid (q = false) := by
          show _ = _
          rw [HQ.out, decide_eq_false h1]
          rfl
        clear hn hlt
        go_wp2
        go_ret
        exact ⟨by rw [HE.out]; rfl, hO⟩
end Go.Proofs.YtkdaemjdiafccaaDoor
