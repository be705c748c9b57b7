/-
  The law's own sample (keep): known is true.
-/
import Derived.Test.YtmommkggjiillaaDoorKLaw
namespace Go.Proofs.YtmommkggjiillaaDoor
open Go.RowKit Go.Maps

def nameA : ByteArray := ⟨#[97]⟩
theorem calm_new (r : Nat) {n k : Nat} (h : n ≤ r) (hk : k ≤ 4096) : Calm ⟨r, [], none⟩ n k := ⟨rfl, by simpa [used] using h, by simpa using hk⟩

set_option maxRecDepth 100000 in
set_option maxHeartbeats 2000000 in
theorem known_any (w : World) (ht : Tab w) : Calls Tryd.prog 8 #[] w fun e w' => e = .returned (.bool true) ∧ Only [] w w' := by
  have kc := fun (w : World) (C : Array Value) (n c g : Nat) (hg : g = w.heap.size) => Joins.run_convert_bytes_const_at (P := Tryd.prog) w 32 5 C n c g hg Tryd.underlying32 Tryd.underlying5
  obtain ⟨S0, hS0⟩ : ∃ S0 : St, S0 = ⟨1000, [], none⟩ := ⟨_, rfl⟩
  have hc : Calm S0 (0 + (12 + [49, 50, 51].length)) (0 + 1) := by rw [hS0]; exact calm_new 1000 (by decide) (by decide)
  obtain ⟨e1, c1, _⟩ := save_calm (p := [49, 50, 51]) hc (s := nameA) (by kernel_rfl)
  have g1 := get_save e1
  obtain ⟨S1, hS1⟩ : ∃ S1, S1 = saveS S0 nameA [49, 50, 51] := ⟨_, rfl⟩
  rw [← hS1] at g1
  have g2 := get_crash (draw := 0) g1 rfl
  obtain ⟨S2, hS2⟩ : ∃ S2, S2 = crashS S1 0 := ⟨_, rfl⟩
  rw [← hS2] at g2
  obtain ⟨l1, l2⟩ := load_saved g2 (by decide)
  have HT := Lib.hid ht
  have HNEW := Lib.hid (new_any (w := w) 1000 (by omega))
  have HSAVE := Lib.hid (fun (W : World) (d : Nat) (F : List Nat) (D : Disk W d F S0) (A : Option Addr) (c : Nat) (hr : Rw W A 2 [[49, 50], [51]]) (ht : Tab W) => save_any D nameA A 2 c [[49, 50], [51]] [49, 50, 51] rfl hr ht (by decide) (by decide))
  have HCR := Lib.hid (fun (W : World) (d : Nat) (F : List Nat) (D : Disk W d F S1) => crash_any D 0 (by omega))
  have HLOAD := Lib.hid (fun (W : World) (d : Nat) (F : List Nat) (D : Disk W d F S2) (ht : Tab W) => load_any D nameA (by decide) ht)
  rw [← hS0] at HNEW
  rw [e1, ← hS1] at HSAVE
  rw [← hS2] at HCR
  rw [l1, l2] at HLOAD
  clear hS0 hc e1 c1 g1 hS1 g2 hS2 l1 l2 ht
  go_enter Tryd.func8, Tryd.ntmps8
  go_wp2_with (first
    | (go_at_call 15; refine (same_eq A6 (some ⟨w6.heap.size, 0, none⟩) 3 c6 3 3 [49, 50, 51] [49, 50, 51] _ rfl (V6.sl.alloc _) (Sl.of_new w6 #[.int .u8 49, .int .u8 50, .int .u8 51] _ _) (by omega)).mono ?_; rintro e w7 ⟨rfl, O7⟩)
    | (go_at_call 13; refine (HLOAD.out _ d F5 D5 (HT.out.keep Q5)).mono ?_; clear HLOAD; rintro e w6 ⟨A6, c6, rfl, V6, O6, B6⟩; have Q6 := Q5.then O6)
    | (go_at_call 18; refine (HCR.out _ d F2 D2).mono ?_; clear HCR; rintro e w5 ⟨rfl, F5, D5, O5, B5⟩; have Q5 := Q2.fresh O5 P2)
    | (go_at_call 11
       have OL : Only [] w1 _ := (((Only.refl [] w1).alloc (.cells #[.int .u8 49, .int .u8 50] 5 (2, 3))).alloc (.cells #[.int .u8 51] 5 (1, 2))).alloc (.cells #[.slice (some ⟨w1.heap.size, 0, none⟩) 2 2, .slice (some ⟨w1.heap.size + 1, 0, none⟩) 1 1] 32)
       refine (HSAVE.out _ d [d] (D1.keep OL) (some ⟨w1.heap.size + 1 + 1, 0, none⟩) 2 (rw_two_at ((sl_lit [49, 50] _ 2 _ _ rfl rfl rfl).alloc _) (sl_lit [51] _ 1 _ _ rfl rfl (by rw [World.size_alloc])) _ (by rw [World.size_alloc, World.size_alloc])) (HT.out.keep (O1.then OL))).mono ?_; clear HSAVE
       rintro e w2 ⟨rfl, F2, D2, O2, B2⟩
       have Q2 := (O1.then OL).fresh O2 B1
       have P2 := fresh_fp (O1.then OL) B1 B2
       clear OL)
    | (go_at_call 9; refine HNEW.out.mono ?_; clear HNEW; rintro e w1 ⟨d, rfl, D1, O1, hd⟩; have B1 : ∀ x ∈ [d], w.heap.size ≤ x := (fun x hx => by simp at hx; rw [hx]; exact hd)))
  go_ret
  exact ⟨rfl, (Q6.alloc _).then O7⟩
end Go.Proofs.YtmommkggjiillaaDoor
