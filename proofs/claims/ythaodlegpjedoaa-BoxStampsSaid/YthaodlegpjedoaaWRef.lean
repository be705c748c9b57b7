/-
  The walks of the reference's functions over a list: Fourths, Poly.
-/
import Derived.Test.YthaodlegpjedoaaWList
namespace Go.Proofs.Ythaodlegpjedoaa
open Go.RowKit

set_option maxRecDepth 100000 in
set_option maxHeartbeats 1600000 in
theorem refFourths_any (A : Option Addr) (n cp : Nat) (l : List Int) (w : World) (hr : Sl w A n (ivs l)) (hn : n ≤ 8000) (hs : ∀ x ∈ l, -1048576 < x ∧ x < 1048576) :
    Calls Try.prog 63 #[.slice A n cp] w fun e w' => e = .returned (.agg (frs l n)) ∧ Only [] w w' := by
  have HL : Hid (l.length = n) := by have := hr.len; rw [ivs_length] at this; exact this
  have hsm := Lib.hid hs
  clear hs
  go_enter Try.func63, Try.ntmps63
  go_wp2_with fail
  go_loopw [4] (fun i wr => ∃ k : Nat, k ≤ n ∧ i = .int .i64 (k : Nat) ∧ Bk wr (w.heap.size + 1) 94 (frs l k) ∧ Bk wr w.heap.size 94 (frs l 0) ∧ Only [] w wr) (fun i _ => n - (intOf i).toNat)
  case atStart => exact ⟨0, Nat.zero_le _, rfl, by have := Bk.new (w.alloc (.cells (frs l 0) 94)) 94 (frs l 0); rw [World.size_alloc] at this; exact this, (Bk.new w 94 (frs l 0)).alloc _, ((Only.refl [] w).alloc _).alloc _⟩
  case round =>
    obtain ⟨k, hk, rfl, H1, H0, HO⟩ := hrel
    by_cases hlt : k < n
    · obtain ⟨ad, rfl, hcell⟩ := ivs_at (hr.keep HO) hlt
      obtain ⟨r, hr4, hm⟩ : ∃ r, r < 4 ∧ k % 4 = r := ⟨k % 4, by omega, rfl⟩
      have HS := Lib.hid (frs_set l k hm)
      have hb := fr_bd hsm.out r k
      have hg := getD_small hsm.out k
      have hc1 := (H1.cell r).trans (frs_at l k hr4)
      have hf1 := H1.free r
      generalize l.getD k 0 = z at *
      generalize fr l r k = y at *
      have hmi : (k : Int) % 4 = (r : Int) := by omega
      have hr0 : (0 : Int) ≤ (r : Int) := by omega
      have hr1 : (r : Int) < 4 := by omega
      have hy0 : -9000000000000 ≤ y + z := by omega
      have hy1 : y + z ≤ 9000000000000 := by omega
      clear hm hb hg
      have t1 : (k : Int).tmod 4 = (r : Int) := by rw [Int.tmod_eq_emod_of_nonneg (by omega)]; exact hmi
      have t2 : IntKind.i64.wrap (y + z) = y + z := IntWalk.i64_in _ (by omega)
      have t3 : (0 : Int) ≤ (k : Int) := by omega
      have t4 : (k : Int) < (n : Int) := by omega
      go_wp2_with fail
      go_still_tail 12, (by kernel_rfl)
      change wpList _ _ _ _ _ wr.drew
      replace H1 : Bk wr.drew (w.heap.size + 1) 94 (frs l k) := H1
      replace H0 : Bk wr.drew w.heap.size 94 (frs l 0) := H0
      replace HO := HO.drew
      replace hc1 : wr.drew.cell? ⟨w.heap.size + 1, r, none⟩ = some (.int .i64 y) := hc1
      replace hf1 : wr.drew.frozen? ⟨w.heap.size + 1, r, none⟩ = false := hf1
      clear hcell t1 t2
      generalize wr.drew = wd at *
      go_wp2
      go_roundw
      case rel =>
        have e1 := H1.set r (.int .i64 (y + z))
        rw [HS.out] at e1
        exact ⟨k + 1, by omega, by go_num, e1, H0.far (by show w.heap.size ≠ w.heap.size + 1; omega) _, HO.setCell (.inr (by show w.heap.size ≤ w.heap.size + 1; omega)) _⟩
      case measure => simp [intOf]; omega
    · have hkn : k = n := by omega
      subst hkn
      have q0 : wr.cell? ⟨w.heap.size + 1, 0, none⟩ = some (.int .i64 (fr l 0 k)) := H1.cell 0
      have q1 : wr.cell? ⟨w.heap.size + 1, 1, none⟩ = some (.int .i64 (fr l 1 k)) := H1.cell 1
      have q2 : wr.cell? ⟨w.heap.size + 1, 2, none⟩ = some (.int .i64 (fr l 2 k)) := H1.cell 2
      have q3 : wr.cell? ⟨w.heap.size + 1, 3, none⟩ = some (.int .i64 (fr l 3 k)) := H1.cell 3
      have HF : Hid (frs l k = #[.int .i64 (fr l 0 k), .int .i64 (fr l 1 k), .int .i64 (fr l 2 k), .int .i64 (fr l 3 k)]) := rfl
      have p0 : wr.cell? ⟨w.heap.size, 0, none⟩ = some (.int .i64 0) := H0.cell 0
      have p1 : wr.cell? ⟨w.heap.size, 1, none⟩ = some (.int .i64 0) := H0.cell 1
      have p2 : wr.cell? ⟨w.heap.size, 2, none⟩ = some (.int .i64 0) := H0.cell 2
      have p3 : wr.cell? ⟨w.heap.size, 3, none⟩ = some (.int .i64 0) := H0.cell 3
      have f0 := H0.free 0
      have f1 := H0.free 1
      have f2 := H0.free 2
      have f3 := H0.free 3
      go_wp2
      have HW := (((H0.set 0 (.int .i64 (fr l 0 k))).set 1 (.int .i64 (fr l 1 k))).set 2 (.int .i64 (fr l 2 k))).set 3 (.int .i64 (fr l 3 k))
      have HOW : Only [] w ((((wr.setCell ⟨w.heap.size, 0, none⟩ (.int .i64 (fr l 0 k))).setCell ⟨w.heap.size, 1, none⟩ (.int .i64 (fr l 1 k))).setCell ⟨w.heap.size, 2, none⟩ (.int .i64 (fr l 2 k))).setCell ⟨w.heap.size, 3, none⟩ (.int .i64 (fr l 3 k))) :=
        (((HO.setCell (.inr (Nat.le_refl _)) _).setCell (.inr (Nat.le_refl _)) _).setCell (.inr (Nat.le_refl _)) _).setCell (.inr (Nat.le_refl _)) _
      generalize (((wr.setCell ⟨w.heap.size, 0, none⟩ (.int .i64 (fr l 0 k))).setCell ⟨w.heap.size, 1, none⟩ (.int .i64 (fr l 1 k))).setCell ⟨w.heap.size, 2, none⟩ (.int .i64 (fr l 2 k))).setCell ⟨w.heap.size, 3, none⟩ (.int .i64 (fr l 3 k)) = W at *
      have c0 : W.cell? ⟨w.heap.size, 0, none⟩ = some (.int .i64 (fr l 0 k)) := HW.cell 0
      have c1 : W.cell? ⟨w.heap.size, 1, none⟩ = some (.int .i64 (fr l 1 k)) := HW.cell 1
      have c2 : W.cell? ⟨w.heap.size, 2, none⟩ = some (.int .i64 (fr l 2 k)) := HW.cell 2
      have c3 : W.cell? ⟨w.heap.size, 3, none⟩ = some (.int .i64 (fr l 3 k)) := HW.cell 3
      exact bodyPost_ret (v := .agg (frs l k)) (by rw [HF.out]; simp [results, Try.results63, go_sem, c0, c1, c2, c3]) rfl ⟨rfl, HOW⟩
/-- The four sums, written out. -/
def Four (w : World) (l : List Int) (n : Nat) (e : Ending) (w' : World) : Prop := ∃ a b c d : Int, e = .returned (.agg #[.int .i64 a, .int .i64 b, .int .i64 c, .int .i64 d]) ∧ Hid (a = fr l 0 n ∧ b = fr l 1 n ∧ c = fr l 2 n ∧ d = fr l 3 n) ∧ Only [] w w'
theorem refFourths_ex (A : Option Addr) (n cp : Nat) (l : List Int) (w : World) (hr : Sl w A n (ivs l)) (hn : n ≤ 8000) (hs : ∀ x ∈ l, -1048576 < x ∧ x < 1048576) :
    Calls Try.prog 63 #[.slice A n cp] w (Four w l n) :=
  (refFourths_any A n cp l w hr hn hs).mono fun _ _ h => ⟨_, _, _, _, h.1, ⟨rfl, rfl, rfl, rfl⟩, h.2⟩
end Go.Proofs.Ythaodlegpjedoaa
