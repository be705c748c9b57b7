/-
  law's known: numbers, a row, a sum.
-/
import Derived.Test.YtecgmlifeljdeaaDoorWriter2
import Derived.Test.YtecgmlifeljdeaaDoorSum
import Derived.Lib.SlBytesConst
import Derived.Lib.SmallJoins
namespace Go.Proofs.YtecgmlifeljdeaaDoor
open Go.RowKit

theorem known_bytes : [] ++ encs [1, 300] ++ rowsEnc [[97]] = [1, 172, 2, 1, 97] := by
  have h1 : enc 1 = [1] := by rw [enc_small (by omega)]; rfl
  have h2 : enc 300 = [172, 2] := by rw [enc_more (by omega), enc_small (by omega)]; rfl
  have c1 : clamp 1 = 1 := rfl
  have c2 : clamp 300 = 300 := rfl
  simp [encs, rowsEnc, rowEnc, h1, h2, c1, c2]
theorem known_sum : sumOf [49, 50, 51, 52, 53, 54, 55, 56, 57] = 3421780262 := by decide +kernel

set_option maxHeartbeats 800000 in
theorem known_any (w : World) (ht : Tab w) : Calls Tryd.prog 20 #[] w fun e w' => e = .returned (.bool true) ∧ Only [] w w' := by
  go_enter Tryd.func20, Tryd.ntmps20
  have kc := fun (w : World) (C : Array Value) (n c g : Nat) (hg : g = w.heap.size) => Joins.run_convert_bytes_const_at (P := Tryd.prog) w 23 5 C n c g hg Tryd.underlying23 Tryd.underlying5
  go_wp2_with fail
  refine (wnums_any w.heap.size none 0 [] (some ⟨w.heap.size + 1, 0, none⟩) 2 2 [1, 300] _ (by exact (Wr.new w).keep ((Only.refl _ _).alloc _)) (by have h := Sl.of_bk (Bk.new (w.alloc (.cells #[.slice none 0 0] 25)) 3 #[.int .i64 1, .int .i64 300]); simpa [ivs] using h) (by intro v hv; simp at hv; omega) (by simp) (by omega) (by simp)).mono ?_
  rintro e w1 ⟨rfl, A1, c1, HW1, HO1, HB1⟩
  have HO1' : Only [] w w1 := (((Only.refl [] w).alloc _).alloc _).trans HO1 (by intro x hx; simp at hx; exact .inr (by omega))
  have hg1 : w.heap.size < w1.heap.size := HW1.lt
  have HA1 : ∀ k ∈ blks A1, w.heap.size ≤ k := fun k hk => by rcases HB1 k hk with h | h; cases h; simp at h; omega
  clear HO1 HB1
  go_wp2_with fail
  have hs1 : Sl (w1.alloc (.cells #[.int .u8 97] 5 (1, 2))) (some ⟨w1.heap.size, 0, none⟩) 1 (bvs [97]) := Sl.of_new w1 #[.int .u8 97] _ _
  refine (wbytes_any w.heap.size A1 c1 _ (some ⟨w1.heap.size + 1, 0, none⟩) 1 1 [[97]] _ (fun k => w1.heap.size ≤ k) (HW1.keep (((Only.refl _ _).alloc _).alloc _))
    (RwS.one (A := some ⟨w1.heap.size, 0, none⟩) (c := 1) (by have h := Bk.new (w1.alloc (.cells #[.int .u8 97] 5 (1, 2))) 23 #[.slice (some ⟨w1.heap.size, 0, none⟩) 1 1]; simpa using h) (hs1.alloc _) (by simp) (by simp))
    (by intro k hk hm; rcases List.mem_cons.1 hm with h | h; omega; have := HW1.2.lt h; omega) (by omega) (by decide +kernel)).mono ?_
  rintro e w2 ⟨rfl, A2, c2, HW2, HO2, HB2⟩
  rw [known_bytes] at HW2
  have HO2' : Only [] w w2 := ((HO1'.alloc _).alloc _).trans HO2 (by
    intro x hx
    rcases List.mem_cons.1 hx with h | h
    · exact .inr (by omega)
    · exact .inr (HA1 x h))
  go_wp2_with fail
  refine (out_any w.heap.size A2 c2 _ _ HW2 (by simp)).mono ?_
  rintro e w3 ⟨A3, c3, rfl, HV3, HO3, HB3⟩
  have HO3' : Only [] w w3 := HO2'.trans HO3 (fun _ hx => by cases hx)
  go_wp2_with fail
  refine (same_any A3 (some ⟨w3.heap.size, 0, none⟩) 5 c3 5 5 [1, 172, 2, 1, 97] [1, 172, 2, 1, 97] _ (HV3.sl.alloc _) (Sl.of_new w3 #[.int .u8 1, .int .u8 172, .int .u8 2, .int .u8 1, .int .u8 97] _ _) (by omega) (by omega)).mono ?_
  rintro e w4 ⟨he, HO4⟩
  rw [show decide (([1, 172, 2, 1, 97] : List UInt8) = [1, 172, 2, 1, 97]) = true from by decide] at he
  subst he
  have HO4' : Only [] w w4 := (HO3'.alloc _).trans HO4 (fun _ hx => by cases hx)
  clear hs1 HO2 HO3 HO4 HV3 HB3
  go_wp2_with fail
  obtain ⟨C1, hC1⟩ : ∃ C : Array Value, C = #[.int .u8 49, .int .u8 50, .int .u8 51, .int .u8 52] := ⟨_, rfl⟩
  obtain ⟨C2, hC2⟩ : ∃ C : Array Value, C = #[.int .u8 53, .int .u8 54, .int .u8 55, .int .u8 56, .int .u8 57] := ⟨_, rfl⟩
  rw [← hC1, ← hC2]
  have s1 : Sl (w4.alloc (.cells C1 5 (4, 5))) (some ⟨w4.heap.size, 0, none⟩) 4 (bvs [49, 50, 51, 52]) := by
    rw [hC1]
    exact Sl.of_new w4 _ _ _
  generalize hW1 : w4.alloc (.cells C1 5 (4, 5)) = W1 at s1 ⊢
  have z1 : W1.heap.size = w4.heap.size + 1 := by rw [← hW1, World.size_alloc]
  have s2 : Sl (W1.alloc (.cells C2 5 (5, 6))) (some ⟨w4.heap.size + 1, 0, none⟩) 5 (bvs [53, 54, 55, 56, 57]) := by
    rw [hC2, ← z1]
    exact Sl.of_new W1 _ _ _
  have s1' := s1.alloc (.cells C2 5 (5, 6))
  have HO5 : Only [] w (W1.alloc (.cells C2 5 (5, 6))) := by
    rw [← hW1]
    exact (HO4'.alloc _).alloc _
  clear s1
  generalize hW2 : W1.alloc (.cells C2 5 (5, 6)) = W2 at s1' s2 HO5 ⊢
  have z2 : w4.heap.size + 1 + 1 = W2.heap.size := by rw [← hW2, World.size_alloc, z1]
  rw [z2]
  clear hC1 hC2 hW1 hW2 kc
  refine (sum_any _ 2 2 [[49, 50, 51, 52], [53, 54, 55, 56, 57]] _ (Rw.two (A := some ⟨w4.heap.size, 0, none⟩) (c := 4) (A2 := some ⟨w4.heap.size + 1, 0, none⟩) (c2 := 5) (Bk.new W2 _ _) (s1'.alloc _) (s2.alloc _)) (ht.keep (HO5.alloc _)) (by omega) (by intro r hr; simp at hr; rcases hr with rfl | rfl <;> simp)).mono ?_
  rintro e w5 ⟨he, rfl⟩
  rw [show (([[49, 50, 51, 52], [53, 54, 55, 56, 57]] : List (List UInt8)).flatten) = [49, 50, 51, 52, 53, 54, 55, 56, 57] from rfl, known_sum] at he
  subst he
  clear z1 z2
  go_wp2
  go_ret
  exact ⟨rfl, HO5.alloc _⟩
end Go.Proofs.YtecgmlifeljdeaaDoor
