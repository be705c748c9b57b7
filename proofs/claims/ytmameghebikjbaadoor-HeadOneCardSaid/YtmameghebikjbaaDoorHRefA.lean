/-
  The document's leaves of head: next, Text, blank, Colon, Trim.
-/
import Derived.Test.YtmameghebikjbaaDoorHLeaf
namespace Go.Proofs.YtmameghebikjbaaDoor
open Go.RowKit Go.Instr

section
variable {w : World} {A : Option Addr} {n c : Nat} {l : List UInt8}
theorem Bt.at_ (h : Bt w A n c l) {k : Nat} (hk : k < n) (hk' : k < l.length) : ∃ ad, A = some ad ∧ w.cell? (ad.add k) = some (.int .u8 (l[k].toNat : Int)) := by
  obtain ⟨ad, rfl, hc⟩ := h.sl.2 (by omega)
  exact ⟨ad, rfl, hc k _ (bvs_get l k hk')⟩

theorem refBlank_any (x : UInt8) (w : World) : Calls Tryd.prog 46 #[.int .u8 (x.toNat : Int)] w fun e w' => e = .returned (.bool (isB x)) ∧ w = w' := by
  obtain ⟨k, hk⟩ : ∃ k : Nat, x.toNat = k := ⟨_, rfl⟩
  have hB : isB x = (k == 32 || k == 9) := by
    show ([32, 9] : List UInt8).contains x = _
    rw [← hk]
    by_cases h1 : x = 32
    · subst h1; rfl
    · by_cases h2 : x = 9
      · subst h2; rfl
      · have e1 : ¬ x.toNat = 32 := fun h => h1 (UInt8.toNat_inj.1 (by rw [h]; rfl))
        have e2 : ¬ x.toNat = 9 := fun h => h2 (UInt8.toNat_inj.1 (by rw [h]; rfl))
        simp [h1, h2, e1, e2]
  rw [hB, hk]
  clear hB hk
  by_cases h1 : k = 32
  · subst h1
    go_enter Tryd.func46, Tryd.ntmps46
    go_wp2
    go_ret
    exact ⟨rfl, rfl⟩
  · have h1' : ((k : Int) == 32) = false := by rw [beq_eq_false_iff_ne]; omega
    by_cases h2 : k = 9
    · subst h2
      go_enter Tryd.func46, Tryd.ntmps46
      go_wp2
      go_ret
      exact ⟨rfl, rfl⟩
    · have h2' : ((k : Int) == 9) = false := by rw [beq_eq_false_iff_ne]; omega
      have e1 : (k == 32) = false := by rw [beq_eq_false_iff_ne]; exact h1
      have e2 : (k == 9) = false := by rw [beq_eq_false_iff_ne]; exact h2
      rw [e1, e2]
      clear h1 h2
      go_enter Tryd.func46, Tryd.ntmps46
      go_wp2
      go_ret
      exact ⟨rfl, rfl⟩

/-- Where the line that begins at a place ends. -/
def nx (l : List UInt8) (k : Nat) : Nat := min (k + nl (l.drop k) + 1) l.length
theorem nl_drop_hit {l : List UInt8} {k : Nat} (h : k < l.length) (hx : l[k] = 10) : nl (l.drop k) = 0 := by
  rw [List.drop_eq_getElem_cons h, nl_cons, if_pos hx]
theorem nl_drop_miss {l : List UInt8} {k : Nat} (h : k < l.length) (hx : l[k] ≠ 10) : nl (l.drop k) = nl (l.drop (k + 1)) + 1 := by
  rw [List.drop_eq_getElem_cons h, nl_cons, if_neg hx]
theorem refNext_any (hs : Bt w A n c l) (hbig : n ≤ 4096) (k : Nat) (hk : k ≤ n) : Calls Tryd.prog 35 #[.slice A n c, .int .i64 (k : Int)] w fun e w' => e = .returned (.int .i64 (nx l k : Nat)) ∧ w = w' := by
  have HL := Lib.hid hs.len
  have HA : Hid (∀ j (hj : j < n) (hj' : j < l.length), ∃ ad, A = some ad ∧ w.cell? (ad.add j) = some (.int .u8 (l[j].toNat : Int))) := fun j hj hj' => hs.at_ hj hj'
  clear hs
  go_enter Tryd.func35, Tryd.ntmps35
  go_wp2
  go_loop [1] (fun i => ∃ j : Nat, j ≤ n ∧ i = .int .i64 (j : Int) ∧ Hid (nx l j = nx l k)) (fun i => n - (intOf i).toNat)
  case atStart => exact ⟨k, hk, rfl, rfl⟩
  case round =>
    obtain ⟨j, hj, rfl, HN⟩ := hrel
    by_cases hlt : j < n
    · have hjl : j < l.length := by rw [HL.out]; exact hlt
      obtain ⟨ad, rfl, hc⟩ := HA.out j hlt hjl
      obtain ⟨y, hy⟩ : ∃ y : Nat, l[j].toNat = y := ⟨_, rfl⟩
      rw [hy] at hc
      by_cases h10 : y = 10
      · have hx : l[j] = 10 := UInt8.toNat_inj.1 (by rw [hy, h10]; rfl)
        have HE : Hid (nx l k = j + 1) := by
          show _ = _
          rw [← HN.out]
          unfold nx
          rw [nl_drop_hit hjl hx]
          omega
        have hj1 : (j : Int) + 1 ≤ (n : Int) := by omega
        have hyb : ((y : Int) == 10) = true := by rw [h10]; rfl
        clear hx hy h10
        go_wp2
        go_ret
        refine ⟨?_, rfl⟩
        rw [HE.out]
        show Ending.returned (.int .i64 _) = _
        congr 2
        omega
      · have hx : l[j] ≠ 10 := fun h => h10 (by rw [← hy, h]; rfl)
        have HE : Hid (nx l (j + 1) = nx l k) := by
          show _ = _
          rw [← HN.out]
          unfold nx
          rw [nl_drop_miss hjl hx]
          omega
        have hyb : ((y : Int) == 10) = false := by rw [beq_eq_false_iff_ne]; omega
        clear hx hy h10
        go_wp2
        go_round
        case rel => exact ⟨j + 1, by omega, by go_num, HE⟩
        case measure => simp [intOf]; omega
    · obtain rfl : j = n := by omega
      have HE : Hid (nx l k = j) := by
        show _ = _
        rw [← HN.out]
        unfold nx
        rw [HL.out]
        omega
      go_wp2
      go_ret
      refine ⟨?_, rfl⟩
      rw [HE.out]
      show Ending.returned (.int .i64 _) = _
      congr 2
      omega
end
end Go.Proofs.YtmameghebikjbaaDoor
