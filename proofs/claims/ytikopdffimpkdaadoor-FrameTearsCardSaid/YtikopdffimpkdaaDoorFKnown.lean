/-
  The law's known: a record.
-/
import Derived.Test.YtikopdffimpkdaaDoorFLaw
namespace Go.Proofs.YtikopdffimpkdaaDoor
open Go.RowKit

theorem known_record : bad (record [120] ++ [1]) = 0 ∧ body (record [120] ++ [1]) = [120] ∧ size (record [120] ++ [1]) = 13 := record_good [120] [1] (by decide)

set_option maxHeartbeats 800000 in
theorem known_any (w : World) (ht : Tab w) : Calls Tryd.prog 13 #[] w fun e w' => e = .returned (.bool true) ∧ Only [] w w' := by
  obtain ⟨i0, hi, hz0, hz1, hz2⟩ := info_parts infoByte
  have HD := Lib.hid (fun (W : World) (A : Option Addr) (c : Nat) (hs : Sl W A 14 (bvs (record [120] ++ [1]))) (hT : Tab W) (hc : 14 ≤ c) => decode_any A 14 c (record [120] ++ [1]) W hs hT hc (by omega))
  rw [known_record.1, known_record.2.1, known_record.2.2] at HD
  have h13 : (record [120]).length = 13 := record_len [120]
  go_enter Tryd.func13, Tryd.ntmps13
  have kc := fun (w : World) (C : Array Value) (n c g : Nat) (hg : g = w.heap.size) => Joins.run_convert_bytes_const_at (P := Tryd.prog) w 23 5 C n c g hg Tryd.underlying23 Tryd.underlying5
  go_wp2_with fail
  have hs1 : Sl (w.alloc (.cells #[.int .u8 120] 5 (1, 2))) (some ⟨w.heap.size, 0, none⟩) 1 (bvs [120]) := Sl.of_new w #[.int .u8 120] _ _
  generalize hW1 : w.alloc (.cells #[.int .u8 120] 5 (1, 2)) = W1 at hs1 ⊢
  have z1 : W1.heap.size = w.heap.size + 1 := by rw [← hW1, World.size_alloc]
  have O1 : Only [] w W1 := by rw [← hW1]; exact (Only.refl _ _).alloc _
  rw [← z1]
  refine (encode_rows (some ⟨W1.heap.size, 0, none⟩) 1 1 [[120]] [120] _ (by simp) (Rw.one (Bk.new W1 _ _) (hs1.alloc _)) (ht.keep (O1.alloc _)) (by omega) (by decide)).mono ?_
  rintro e w2 ⟨A2, c2, rfl, V2, O2, B2⟩
  have O2' : Only [] w w2 := (O1.alloc _).then O2
  have B2' : ∀ k ∈ blks A2, w.heap.size ≤ k := fun k hk => by have := B2 k hk; rw [World.size_alloc] at this; omega
  rw [h13] at V2 ⊢
  clear O1 O2 B2 z1 hs1 hW1
  go_wp2_with (first
    | (at_builtin; refine wpList_append_sl rfl (.tmp 14) (.tmp 15) 23 rfl 5 i0 (.int .u8 0) 1 Tryd.underlying23 hi hz0 hz1 hz2 rfl A2 _ c2 _ rfl (V2.alloc _) _ 1 1 _ rfl (sl_one _ _ _ 1 rfl) (bvs_one _) (by unfold maxLen; omega) (by omega) ?_; intro A3 c3 w3 V3 O3 B3; rw [← bvs_append] at V3; have hc3 := V3.cap; have O3' : Only [] w w3 := (O2'.alloc _).trans O3 (fun x hx => .inr (B2' x hx)))
    | (go_at_call 11; refine (HD.out w3 A3 c3 V3.sl (ht.keep O3') hc3).mono ?_; rintro e w4 ⟨A4, c4, rfl, V4, O4, B4⟩; have O4' := O3'.then O4))
  refine (same_eq A4 (some ⟨w4.heap.size, 0, none⟩) 1 c4 1 1 [120] [120] _ rfl (V4.sl.alloc _) (Sl.of_new w4 #[.int .u8 120] _ _) (by omega)).mono ?_
  rintro e w5 ⟨rfl, O5⟩
  go_wp2
  go_ret
  exact ⟨rfl, (O4'.alloc _).then O5⟩
end Go.Proofs.YtikopdffimpkdaaDoor
