/-
  The walk of the reference's Poly.
-/
import Derived.Test.YtegmhdopkehgeaaWRef
namespace Go.Proofs.Ytegmhdopkehgeaa
open Go.RowKit

theorem bk_new_at {w : World} {k : Nat} (t : TypeId) (cs : Array Value) (h : k = w.heap.size) : Bk (w.alloc (.cells cs t)) k t cs := by subst h; exact Bk.new w t cs
def gv (x y : Int) : Array Value := #[.int .i64 x, .int .i64 y]

set_option maxRecDepth 100000 in
set_option maxHeartbeats 4000000 in
theorem refPoly_any (p q : Int) (A : Option Addr) (n cp : Nat) (l : List Int) (M : Nat) (C : Nat → Nat) (w : World) (hr : Sl w A n (ivs l)) (hB : Bnd p q l M C) (hn : n ≤ 8000) :
    Calls Try.prog 20 #[.agg #[.int .i64 p, .int .i64 q], .slice A n cp] w fun e w' => e = .returned (.agg #[.int .i64 (pol p q l n).1, .int .i64 (pol p q l n).2]) ∧ Only [] w w' := by
  have HL : Hid (l.length = n) := by have := hr.len; rw [ivs_length] at this; exact this
  go_enter Try.func20, Try.ntmps20
  go_wp2_with fail
  go_loopw [7] (fun i wr => ∃ k : Nat, k ≤ n ∧ i = .int .i64 (k : Nat) ∧ Bk wr w.heap.size 33 (gv p q) ∧ Bk wr (w.heap.size + 1) 33 (gv 0 0) ∧ Bk wr (w.heap.size + 1 + 1) 33 (gv (pol p q l k).1 (pol p q l k).2) ∧
    Bk wr (w.heap.size + 1 + 1 + 1) 33 (gv (pwr p q k).1 (pwr p q k).2) ∧ Only [] w wr) (fun i _ => n - (intOf i).toNat)
  case atStart =>
    exact ⟨0, Nat.zero_le _, rfl, (((Bk.new _ _ (gv p q)).alloc _).alloc _).alloc _, ((bk_new_at _ (gv 0 0) (by simp)).alloc _).alloc _, (bk_new_at _ (gv 0 0) (by simp)).alloc _, bk_new_at _ (gv 1 0) (by simp), ((((Only.refl [] w).alloc _).alloc _).alloc _).alloc _⟩
  case round =>
    obtain ⟨k, hk, rfl, H0, H1, H2, H3, HO⟩ := hrel
    by_cases hlt : k < n
    · have hkl : k < l.length := by rw [HL.out]; exact hlt
      obtain ⟨ad, rfl, hcell⟩ := ivs_at (hr.keep HO) hlt
      have hN := hB.next hkl
      have hP := hB.part hkl
      have hS := hB.sums (k := k) (by omega)
      have hS' := hB.sums (k := k + 1) (by omega)
      have HST : Hid (pol p q l (k + 1) = ((pol p q l k).1 + l.getD k 0 * (pwr p q k).1, (pol p q l k).2 + l.getD k 0 * (pwr p q k).2)) := rfl
      have HPW : Hid (pwr p q (k + 1) = ((pwr p q k).1 * p - (pwr p q k).2 * q, (pwr p q k).1 * q + (pwr p q k).2 * p)) := rfl
      rw [HST.out] at hS'
      generalize l.getD k 0 = z at *
      generalize (pol p q l k).1 = s1 at *
      generalize (pol p q l k).2 = s2 at *
      generalize (pwr p q k).1 = p1 at *
      generalize (pwr p q k).2 = p2 at *
      have t1 : IntKind.i64.wrap (z * p1) = z * p1 := IntWalk.i64_in _ (by have := hP.1.bd; omega)
      have t2 : IntKind.i64.wrap (z * p2) = z * p2 := IntWalk.i64_in _ (by have := hP.2.bd; omega)
      have t3 : IntKind.i64.wrap (s1 + z * p1) = s1 + z * p1 := IntWalk.i64_in _ (by have := hS'.1.bd; dsimp only at this; omega)
      have t4 : IntKind.i64.wrap (s2 + z * p2) = s2 + z * p2 := IntWalk.i64_in _ (by have := hS'.2.bd; dsimp only at this; omega)
      have u0 : (0 : Int) ≤ (k : Int) := by omega
      have u1 : (k : Int) < (n : Int) := by omega
      have c20 : wr.cell? ⟨w.heap.size + 1 + 1, 0, none⟩ = some (.int .i64 s1) := H2.cell 0
      have c21 : wr.cell? ⟨w.heap.size + 1 + 1, 1, none⟩ = some (.int .i64 s2) := H2.cell 1
      have c30 : wr.cell? ⟨w.heap.size + 1 + 1 + 1, 0, none⟩ = some (.int .i64 p1) := H3.cell 0
      have c31 : wr.cell? ⟨w.heap.size + 1 + 1 + 1, 1, none⟩ = some (.int .i64 p2) := H3.cell 1
      go_wp2_with fail
      go_still_tail 21, (by kernel_rfl)
      change wpList _ _ _ _ _ wr.drew
      clear t1 t2 t3 t4 c20 c21 c30 c31 hcell
      replace H0 : Bk wr.drew w.heap.size 33 (gv p q) := H0
      replace H1 : Bk wr.drew (w.heap.size + 1) 33 (gv 0 0) := H1
      replace H2 : Bk wr.drew (w.heap.size + 1 + 1) 33 (gv s1 s2) := H2
      replace H3 : Bk wr.drew (w.heap.size + 1 + 1 + 1) 33 (gv p1 p2) := H3
      replace HO := HO.drew
      generalize wr.drew = wd at *
      have c20 : wd.cell? ⟨w.heap.size + 1 + 1, 0, none⟩ = some (.int .i64 s1) := H2.cell 0
      have c21 : wd.cell? ⟨w.heap.size + 1 + 1, 1, none⟩ = some (.int .i64 s2) := H2.cell 1
      have f20 := H2.free 0
      have f21 := H2.free 1
      have c30 : wd.cell? ⟨w.heap.size + 1 + 1 + 1, 0, none⟩ = some (.int .i64 p1) := H3.cell 0
      have c31 : wd.cell? ⟨w.heap.size + 1 + 1 + 1, 1, none⟩ = some (.int .i64 p2) := H3.cell 1
      have c00 : wd.cell? ⟨w.heap.size, 0, none⟩ = some (.int .i64 p) := H0.cell 0
      have c01 : wd.cell? ⟨w.heap.size, 1, none⟩ = some (.int .i64 q) := H0.cell 1
      go_wp2_with fail
      clear c20 c21 f20 f21 c30 c31 c00 c01
      have far : ∀ x y : Nat, x < y → x ≠ y := fun x y h => by omega
      replace H2 : Bk ((wd.setCell ⟨w.heap.size + 1 + 1, 0, none⟩ (.int .i64 (s1 + z * p1))).setCell ⟨w.heap.size + 1 + 1, 1, none⟩ (.int .i64 (s2 + z * p2))) (w.heap.size + 1 + 1) 33 (gv (s1 + z * p1) (s2 + z * p2)) := (H2.set 0 _).set 1 _
      replace H0 := (H0.far (p := ⟨w.heap.size + 1 + 1, 0, none⟩) (by dsimp only; omega) (.int .i64 (s1 + z * p1))).far (p := ⟨w.heap.size + 1 + 1, 1, none⟩) (by dsimp only; omega) (.int .i64 (s2 + z * p2))
      replace H1 := (H1.far (p := ⟨w.heap.size + 1 + 1, 0, none⟩) (by dsimp only; omega) (.int .i64 (s1 + z * p1))).far (p := ⟨w.heap.size + 1 + 1, 1, none⟩) (by dsimp only; omega) (.int .i64 (s2 + z * p2))
      replace H3 := (H3.far (p := ⟨w.heap.size + 1 + 1, 0, none⟩) (by dsimp only; omega) (.int .i64 (s1 + z * p1))).far (p := ⟨w.heap.size + 1 + 1, 1, none⟩) (by dsimp only; omega) (.int .i64 (s2 + z * p2))
      replace HO := (HO.setCell (p := ⟨w.heap.size + 1 + 1, 0, none⟩) (.inr (by dsimp only; omega)) (.int .i64 (s1 + z * p1))).setCell (p := ⟨w.heap.size + 1 + 1, 1, none⟩) (.inr (by dsimp only; omega)) (.int .i64 (s2 + z * p2))
      generalize (wd.setCell ⟨w.heap.size + 1 + 1, 0, none⟩ (.int .i64 (s1 + z * p1))).setCell ⟨w.heap.size + 1 + 1, 1, none⟩ (.int .i64 (s2 + z * p2)) = we at *
      refine (refMul_any p1 p2 p q we hN.1 hN.2.1 hN.2.2.1 hN.2.2.2.1).mono ?_
      rintro e w4 ⟨rfl, HO4⟩
      replace H0 := H0.only HO4 (by simp)
      replace H1 := H1.only HO4 (by simp)
      replace H2 := H2.only HO4 (by simp)
      replace H3 := H3.only HO4 (by simp)
      replace HO := HO.then HO4
      have c30 : w4.cell? ⟨w.heap.size + 1 + 1 + 1, 0, none⟩ = some (.int .i64 p1) := H3.cell 0
      have c31 : w4.cell? ⟨w.heap.size + 1 + 1 + 1, 1, none⟩ = some (.int .i64 p2) := H3.cell 1
      have f30 := H3.free 0
      have f31 := H3.free 1
      clear HO4 far
      go_wp2
      go_roundw
      case rel =>
        refine ⟨k + 1, by omega, by go_num, (H0.far (by dsimp only; omega) _).far (by dsimp only; omega) _, (H1.far (by dsimp only; omega) _).far (by dsimp only; omega) _, ?_, ?_, (HO.setCell (.inr (by dsimp only; omega)) _).setCell (.inr (by dsimp only; omega)) _⟩
        · rw [HST.out]
          exact (H2.far (by dsimp only; omega) _).far (by dsimp only; omega) _
        · rw [HPW.out]
          exact (H3.set 0 _).set 1 _
      case measure => simp [intOf]; omega
    · have hkn : k = n := by omega
      subst hkn
      obtain ⟨s1, hs1⟩ : ∃ s1, (pol p q l k).1 = s1 := ⟨_, rfl⟩
      obtain ⟨s2, hs2⟩ : ∃ s2, (pol p q l k).2 = s2 := ⟨_, rfl⟩
      rw [hs1, hs2] at H2
      have HS1 := Lib.hid hs1
      have HS2 := Lib.hid hs2
      clear hs1 hs2
      have c20 : wr.cell? ⟨w.heap.size + 1 + 1, 0, none⟩ = some (.int .i64 s1) := H2.cell 0
      have c21 : wr.cell? ⟨w.heap.size + 1 + 1, 1, none⟩ = some (.int .i64 s2) := H2.cell 1
      have c10 : wr.cell? ⟨w.heap.size + 1, 0, none⟩ = some (.int .i64 0) := H1.cell 0
      have c11 : wr.cell? ⟨w.heap.size + 1, 1, none⟩ = some (.int .i64 0) := H1.cell 1
      have f10 := H1.free 0
      have f11 := H1.free 1
      go_wp2
      have HW : Bk ((wr.setCell ⟨w.heap.size + 1, 0, none⟩ (.int .i64 s1)).setCell ⟨w.heap.size + 1, 1, none⟩ (.int .i64 s2)) (w.heap.size + 1) 33 (gv s1 s2) := (H1.set 0 _).set 1 _
      have HOW : Only [] w ((wr.setCell ⟨w.heap.size + 1, 0, none⟩ (.int .i64 s1)).setCell ⟨w.heap.size + 1, 1, none⟩ (.int .i64 s2)) := (HO.setCell (.inr (by dsimp only; omega)) _).setCell (.inr (by dsimp only; omega)) _
      generalize (wr.setCell ⟨w.heap.size + 1, 0, none⟩ (.int .i64 s1)).setCell ⟨w.heap.size + 1, 1, none⟩ (.int .i64 s2) = W at *
      have d0 : W.cell? ⟨w.heap.size + 1, 0, none⟩ = some (.int .i64 s1) := HW.cell 0
      have d1 : W.cell? ⟨w.heap.size + 1, 1, none⟩ = some (.int .i64 s2) := HW.cell 1
      exact bodyPost_ret (v := .agg #[.int .i64 s1, .int .i64 s2]) (by simp [results, Try.results20, go_sem, d0, d1]) rfl ⟨by rw [HS1.out, HS2.out], HOW⟩
end Go.Proofs.Ytegmhdopkehgeaa
