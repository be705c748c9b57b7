/-
  The walks of held, of wave's Fourths and the reference's.
-/
import Derived.Test.YtegmhdopkehgeaaWPoly
import Derived.Test.YtegmhdopkehgeaaRows
import Derived.StillTailTactics
namespace Go.Proofs.Ytegmhdopkehgeaa
open Go.RowKit

theorem infoInt' : (Try.prog.info? 3).map (fun i => (i.zero, i.size, i.bytes)) = some (some (.int .i64 0), 1, 8) := by kernel_rfl

/-- The law's numbers, held. -/
def heldL (l : List Int) : List Int := l.map (fun x => x.tmod 1048576)
theorem tmod_bd (y : Int) : -1048576 < y.tmod 1048576 ∧ y.tmod 1048576 < 1048576 := by
  rcases Int.le_total 0 y with h | h
  · rw [Int.tmod_eq_emod_of_nonneg h]
    omega
  · have e : y = -(-y) := by omega
    rw [e, Int.neg_tmod, Int.tmod_eq_emod_of_nonneg (by omega)]
    omega
@[simp] theorem heldL_length (l : List Int) : (heldL l).length = l.length := by simp [heldL]
theorem heldL_small (l : List Int) : ∀ x ∈ heldL l, -1048576 < x ∧ x < 1048576 := by
  intro x hx
  simp only [heldL, List.mem_map] at hx
  obtain ⟨y, _, rfl⟩ := hx
  exact tmod_bd y
theorem heldL_take {l : List Int} {k : Nat} (h : k < l.length) : heldL (l.take (k + 1)) = heldL (l.take k) ++ [(l.getD k 0).tmod 1048576] := by
  unfold heldL
  rw [List.take_succ_eq_append_getElem h, List.map_append]
  congr 1
  simp [List.getD, h]

/-- A new row of ints. -/
def Ints (w : World) (n : Nat) (l : List Int) (e : Ending) (w' : World) : Prop :=
  ∃ A c, e = .returned (.slice A n c) ∧ Own w' 3 A n c (ivs l) ∧ Only [] w w' ∧ ∀ x ∈ blks A, w.heap.size ≤ x

set_option maxHeartbeats 1600000 in
theorem held_any (A : Option Addr) (n cp : Nat) (l : List Int) (w : World) (hr : Sl w A n (ivs l)) (hn : n ≤ 8000) (hf : ∀ x ∈ l, -9223372036854775808 ≤ x ∧ x ≤ 9223372036854775807) :
    Calls Try.prog 9 #[.slice A n cp] w (Ints w n (heldL l)) := by
  obtain ⟨i0, hi, hz0, hz1, hz2⟩ := info_parts infoInt'
  have HL : Hid (l.length = n) := by have := hr.len; rw [ivs_length] at this; exact this
  have hfit := Lib.hid hf
  clear hf
  go_enter Try.func9, Try.ntmps9
  go_wp2_with fail
  go_loopw [3, 4] (fun m i wr => ∃ (k c : Nat) (A' : Option Addr), k ≤ n ∧ i = .int .i64 (k : Nat) ∧ m = .slice A' k c ∧ Own wr 3 A' k c (ivs (heldL (l.take k))) ∧ Only [] w wr ∧ ∀ x ∈ blks A', w.heap.size ≤ x) (fun _ i _ => n - (intOf i).toNat)
  case atStart => exact ⟨0, 0, none, Nat.zero_le _, rfl, rfl, by simpa [ivs, heldL] using Own.nil _ _, Only.refl [] _, by simp⟩
  case round =>
    obtain ⟨k, c, A', hk, rfl, rfl, HV, HO, HB⟩ := hrel
    by_cases hlt : k < n
    · have hkl : k < l.length := by rw [HL.out]; exact hlt
      obtain ⟨ad, rfl, hcell⟩ := ivs_at (hr.keep HO) hlt
      have HT := Lib.hid (heldL_take hkl)
      have hz : -9223372036854775808 ≤ l.getD k 0 ∧ l.getD k 0 ≤ 9223372036854775807 := by
        rw [show l.getD k 0 = l[k] by simp [List.getD, hkl]]
        exact hfit.out _ (List.getElem_mem hkl)
      generalize l.getD k 0 = z at *
      obtain ⟨hz1', hz2'⟩ := hz
      go_wp2_with (at_builtin; go_must (refine wpList_append_sl rfl (.tmp 11) (.tmp 17) 22 rfl 3 i0 (.int .i64 0) 8 Try.underlying22 hi hz0 hz1 hz2 rfl A' _ c _ rfl (HV.alloc _) _ 1 1 _ rfl (sl_int _ _ (z.tmod 1048576)) (ivs_one _) (by unfold maxLen; omega) (by omega) ?_); intro A2 c2 w2 HV2 HO2 HB2)
      rw [← ivs_append, ← HT.out] at HV2
      have HO2' : Only [] w w2 := (HO.alloc _).trans HO2 (fun x hx => .inr (HB x hx))
      have hsz := HO.size
      have HB2' : ∀ x ∈ blks A2, w.heap.size ≤ x := fun x hx => by
        rcases HB2 x hx with h1 | h1
        · exact HB x h1
        · rw [World.size_alloc] at h1; omega
      go_roundw
      case rel => exact ⟨k + 1, c2, A2, by omega, by go_num, by go_num, HV2, HO2', HB2'⟩
      case measure => simp [intOf]; omega
    · have hkn : k = n := by omega
      have HT : Hid (l.take k = l) := by show _ = _; rw [hkn, ← HL.out, List.take_length]
      rw [HT.out] at HV
      subst hkn
      go_wp2
      go_ret
      exact ⟨A', c, rfl, HV, HO, HB⟩

/-- The sum of the numbers whose place is r, modulo 4. -/
def fr (l : List Int) (r : Nat) : Nat → Int
  | 0 => 0
  | k + 1 => if k % 4 = r then fr l r k + l.getD k 0 else fr l r k
def frs (l : List Int) (k : Nat) : Array Value := #[.int .i64 (fr l 0 k), .int .i64 (fr l 1 k), .int .i64 (fr l 2 k), .int .i64 (fr l 3 k)]
theorem getD_small {l : List Int} (h : ∀ x ∈ l, -1048576 < x ∧ x < 1048576) (k : Nat) : -1048576 < l.getD k 0 ∧ l.getD k 0 < 1048576 := by
  by_cases hk : k < l.length
  · rw [show l.getD k 0 = l[k] by simp [List.getD, hk]]
    exact h _ (List.getElem_mem hk)
  · rw [List.getD_eq_getElem?_getD, List.getElem?_eq_none (by omega)]
    simp
theorem fr_bd {l : List Int} (h : ∀ x ∈ l, -1048576 < x ∧ x < 1048576) (r : Nat) : ∀ k : Nat, -((k : Int) * 1048576) ≤ fr l r k ∧ fr l r k ≤ (k : Int) * 1048576
  | 0 => by simp [fr]
  | k + 1 => by
    have h1 := fr_bd h r k
    have h2 := getD_small h k
    simp only [fr]
    split <;> omega
theorem frs_at (l : List Int) (k : Nat) {r : Nat} (h : r < 4) : (frs l k)[r]? = some (.int .i64 (fr l r k)) := by
  rcases (show r = 0 ∨ r = 1 ∨ r = 2 ∨ r = 3 by omega) with rfl | rfl | rfl | rfl <;> rfl
theorem frs_set (l : List Int) (k : Nat) {r : Nat} (h : k % 4 = r) : (frs l k).setIfInBounds r (.int .i64 (fr l r k + l.getD k 0)) = frs l (k + 1) := by
  rcases (show r = 0 ∨ r = 1 ∨ r = 2 ∨ r = 3 by omega) with rfl | rfl | rfl | rfl <;> simp [frs, fr, h]

set_option maxRecDepth 100000 in
set_option maxHeartbeats 1600000 in
theorem Fourths_any (A : Option Addr) (n cp : Nat) (l : List Int) (w : World) (hr : Sl w A n (ivs l)) (hn : n ≤ 8000) (hs : ∀ x ∈ l, -1048576 < x ∧ x < 1048576) :
    Calls Try.prog 12 #[.slice A n cp] w fun e w' => e = .returned (.agg (frs l n)) ∧ Only [] w w' := by
  have HL : Hid (l.length = n) := by have := hr.len; rw [ivs_length] at this; exact this
  have hsm := Lib.hid hs
  clear hs
  go_enter Try.func12, Try.ntmps12
  go_wp2_with fail
  go_loopw [8] (fun i wr => ∃ k : Nat, k ≤ n ∧ i = .int .i64 (k : Nat) ∧ Bk wr (w.heap.size + 1) 24 (frs l k) ∧ Bk wr w.heap.size 24 (frs l 0) ∧ Only [] w wr) (fun i _ => n - (intOf i).toNat)
  case atStart => exact ⟨0, Nat.zero_le _, rfl, by have := Bk.new (w.alloc (.cells (frs l 0) 24)) 24 (frs l 0); rw [World.size_alloc] at this; exact this, (Bk.new w 24 (frs l 0)).alloc _, ((Only.refl [] w).alloc _).alloc _⟩
  case round =>
    obtain ⟨k, hk, rfl, H1, H0, HO⟩ := hrel
    by_cases hlt : k < n
    · obtain ⟨ad, rfl, hcell⟩ := ivs_at (hr.keep HO) hlt
      obtain ⟨r, hr4, hm⟩ : ∃ r, r < 4 ∧ k % 4 = r := ⟨k % 4, by omega, rfl⟩
      have HS := Lib.hid (frs_set l k hm)
      have hb := fr_bd hsm.out r k
      have hg := getD_small hsm.out k
      have hc1 := (H1.cell r).trans (frs_at l k hr4)
      have hf1 := H1.free r
      generalize l.getD k 0 = z at *
      generalize fr l r k = y at *
      have hmi : (k : Int) % 4 = (r : Int) := by omega
      have hr0 : (0 : Int) ≤ (r : Int) := by omega
      have hr1 : (r : Int) < 4 := by omega
      have hy0 : -9000000000000 ≤ y + z := by omega
      have hy1 : y + z ≤ 9000000000000 := by omega
      clear hm hb hg
      go_wp2
      go_roundw
      case rel =>
        have e1 := H1.set r (.int .i64 (y + z))
        rw [HS.out] at e1
        exact ⟨k + 1, by omega, by go_num, e1, H0.far (by show w.heap.size ≠ w.heap.size + 1; omega) _, HO.setCell (.inr (by show w.heap.size ≤ w.heap.size + 1; omega)) _⟩
      case measure => simp [intOf]; omega
    · have hkn : k = n := by omega
      subst hkn
      have q0 : wr.cell? ⟨w.heap.size + 1, 0, none⟩ = some (.int .i64 (fr l 0 k)) := H1.cell 0
      have q1 : wr.cell? ⟨w.heap.size + 1, 1, none⟩ = some (.int .i64 (fr l 1 k)) := H1.cell 1
      have q2 : wr.cell? ⟨w.heap.size + 1, 2, none⟩ = some (.int .i64 (fr l 2 k)) := H1.cell 2
      have q3 : wr.cell? ⟨w.heap.size + 1, 3, none⟩ = some (.int .i64 (fr l 3 k)) := H1.cell 3
      have HF : Hid (frs l k = #[.int .i64 (fr l 0 k), .int .i64 (fr l 1 k), .int .i64 (fr l 2 k), .int .i64 (fr l 3 k)]) := rfl
      have p0 : wr.cell? ⟨w.heap.size, 0, none⟩ = some (.int .i64 0) := H0.cell 0
      have p1 : wr.cell? ⟨w.heap.size, 1, none⟩ = some (.int .i64 0) := H0.cell 1
      have p2 : wr.cell? ⟨w.heap.size, 2, none⟩ = some (.int .i64 0) := H0.cell 2
      have p3 : wr.cell? ⟨w.heap.size, 3, none⟩ = some (.int .i64 0) := H0.cell 3
      have f0 := H0.free 0
      have f1 := H0.free 1
      have f2 := H0.free 2
      have f3 := H0.free 3
      go_wp2
      have HW := (((H0.set 0 (.int .i64 (fr l 0 k))).set 1 (.int .i64 (fr l 1 k))).set 2 (.int .i64 (fr l 2 k))).set 3 (.int .i64 (fr l 3 k))
      have HOW : Only [] w ((((wr.setCell ⟨w.heap.size, 0, none⟩ (.int .i64 (fr l 0 k))).setCell ⟨w.heap.size, 1, none⟩ (.int .i64 (fr l 1 k))).setCell ⟨w.heap.size, 2, none⟩ (.int .i64 (fr l 2 k))).setCell ⟨w.heap.size, 3, none⟩ (.int .i64 (fr l 3 k))) :=
        (((HO.setCell (.inr (Nat.le_refl _)) _).setCell (.inr (Nat.le_refl _)) _).setCell (.inr (Nat.le_refl _)) _).setCell (.inr (Nat.le_refl _)) _
      generalize (((wr.setCell ⟨w.heap.size, 0, none⟩ (.int .i64 (fr l 0 k))).setCell ⟨w.heap.size, 1, none⟩ (.int .i64 (fr l 1 k))).setCell ⟨w.heap.size, 2, none⟩ (.int .i64 (fr l 2 k))).setCell ⟨w.heap.size, 3, none⟩ (.int .i64 (fr l 3 k)) = W at *
      have c0 : W.cell? ⟨w.heap.size, 0, none⟩ = some (.int .i64 (fr l 0 k)) := HW.cell 0
      have c1 : W.cell? ⟨w.heap.size, 1, none⟩ = some (.int .i64 (fr l 1 k)) := HW.cell 1
      have c2 : W.cell? ⟨w.heap.size, 2, none⟩ = some (.int .i64 (fr l 2 k)) := HW.cell 2
      have c3 : W.cell? ⟨w.heap.size, 3, none⟩ = some (.int .i64 (fr l 3 k)) := HW.cell 3
      exact bodyPost_ret (v := .agg (frs l k)) (by rw [HF.out]; simp [results, Try.results12, go_sem, c0, c1, c2, c3]) rfl ⟨rfl, HOW⟩
end Go.Proofs.Ytegmhdopkehgeaa
