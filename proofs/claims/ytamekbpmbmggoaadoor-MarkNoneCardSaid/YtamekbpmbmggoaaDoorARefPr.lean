/-
  The document's Print.
-/
import Derived.Test.YtamekbpmbmggoaaDoorAPrint
import Derived.Test.YtamekbpmbmggoaaDoorAName
namespace Go.Proofs.YtamekbpmbmggoaaDoor
open Go.RowKit Go.Instr

theorem join_snoc (ls : List (List UInt8)) (x : List UInt8) (h : ls ≠ []) : Lib.join (ls ++ [x]) [32] = Lib.join ls [32] ++ [32] ++ x := by
  cases ls with
  | nil => exact absurd rfl h
  | cons y r => rw [List.cons_append, Lib.join_cons, Lib.join_cons]; simp [Lib.joinTail]
theorem join_ne (ls : List (List UInt8)) (h : ls ≠ []) (hl : ∀ l ∈ ls, l ≠ []) : Lib.join ls [32] ≠ [] := by
  cases ls with
  | nil => exact absurd rfl h
  | cons y r => rw [Lib.join_cons]; have := hl y (by simp); simp [this]
def textK (f : Int) (k : Nat) : List UInt8 := Lib.join (wordsK f k) [32]
theorem words_ne (f : Int) (k : Nat) : ∀ l ∈ wordsK f k, l ≠ [] := fun l hl e => by
  unfold wordsK at hl
  obtain ⟨j, _, rfl⟩ := List.mem_map.1 hl
  have := nm_len j
  rw [e] at this
  simp at this
theorem textK_zero (f : Int) : textK f 0 = [] := rfl
theorem textK_no (f : Int) (k : Nat) (h : bitK f k = false) : textK f (k + 1) = textK f k := by unfold textK; rw [wordsK_no f k h]
theorem textK_first (f : Int) (k : Nat) (h : bitK f k = true) (he : textK f k = []) : textK f (k + 1) = nm k := by
  have hw : wordsK f k = [] := Classical.byContradiction fun hn => join_ne _ hn (words_ne f k) he
  unfold textK
  rw [wordsK_yes f k h, hw]
  exact Lib.join_one _ _
theorem textK_more (f : Int) (k : Nat) (h : bitK f k = true) (he : textK f k ≠ []) : textK f (k + 1) = textK f k ++ [32] ++ nm k := by
  have hw : wordsK f k ≠ [] := fun hn => he (by unfold textK; rw [hn]; rfl)
  unfold textK
  rw [wordsK_yes f k h, join_snoc _ _ hw]
theorem textK_le (f : Int) (k : Nat) : (textK f k).length ≤ 10 * k := by
  have h := join_le (wordsK f k) (fun l hl => by
    unfold wordsK at hl
    obtain ⟨j, _, rfl⟩ := List.mem_map.1 hl
    exact (nm_len j).2)
  have := wordsK_len f k
  unfold textK
  omega
theorem i64_shr_bit (f : Int) (k : Nat) : (bits .and .i64 (f / ((2 ^ k : Nat) : Int)) 1 == 1) = bitK f k := by rw [i64_mask1]; rfl
theorem St_nil (l : List UInt8) : ((St l).toList == ([] : List UInt8)) = (l == []) := by rw [Lib.toList_data, St_list]

set_option maxHeartbeats 2000000 in
set_option maxRecDepth 100000 in
theorem refPrint_any (f : Int) (w : World) : Calls Tryd.prog 10 #[.int .i64 f] w fun e w' => e = .returned (.string (St (printL f))) ∧ Only [] w w' := by
  go_enter Tryd.func10, Tryd.ntmps10
  go_wp2
  go_loopw [3, 4] (fun sv v wr => Only [] w wr ∧ ∃ (K : Int) (k : Nat) (T : ByteArray), v = .int .i64 K ∧ K = (k : Int) ∧ k ≤ 5 ∧ sv = .string T ∧ T = St (textK f k)) (fun _ v _ => 5 - (intOf v).toNat)
  case atStart => exact ⟨Only.refl _ _, 0, 0, _, rfl, rfl, by omega, rfl, rfl⟩
  case round =>
    obtain ⟨hO, K, k, T, rfl, hK, hk, rfl, hT⟩ := hrel
    have HO := Lib.hid hO
    have HT := Lib.hid hT
    have hle := textK_le f k
    clear hO hT
    rcases (by omega : k = 0 ∨ k = 1 ∨ k = 2 ∨ k = 3 ∨ k = 4 ∨ k = 5) with rfl | rfl | rfl | rfl | rfl | rfl
    · obtain rfl : K = 0 := by omega
      clear hK hk
      have hbz : (bits .and .i64 f 1 == 1) = bitK f 0 := by rw [i64_mask1]; unfold bitK; simp
      cases hb : bitK f 0
      · rw [hb] at hbz
        have HR : Hid (∃ (K : Int) (k : Nat) (T' : ByteArray), Value.int .i64 1 = .int .i64 K ∧ K = (k : Int) ∧ k ≤ 5 ∧ Value.string T = .string T' ∧ T' = St (textK f k)) := ⟨1, 1, T, rfl, rfl, by omega, rfl, by rw [textK_no f 0 hb]; exact HT.out⟩
        clear hb hle
        go_wp2_with fail
        exact ⟨⟨HO.out, HR.out⟩, by simp [intOf]⟩
      · rw [hb] at hbz
        obtain ⟨q, hq⟩ : ∃ q, St (nm 0) = q := ⟨_, rfl⟩
        have HN : Hid (∀ W, Calls Tryd.prog 16 #[.int .i64 0] W fun e w' => e = .returned (.string q) ∧ Only [] W w') := fun W => by rw [← hq]; exact name_any 0 (by omega) W
        have hle2 := textK_le f 1
        by_cases he : textK f 0 = []
        · have hem : T.toList.isEmpty = true := by rw [HT.out, he, Lib.toList_data]; rfl
          have hadd : ∀ W, (Op.stringOp .add T q).run Tryd.prog W = .ok (.string (St (textK f 1))) W := fun W => by
            rw [HT.out, ← hq]
            exact run_add_str (textK f 0) (nm 0) (textK f 1) (by rw [textK_first f 0 hb he, he]; rfl) (by omega) W
          obtain ⟨T2, hT2⟩ : ∃ T2, St (textK f 1) = T2 := ⟨_, rfl⟩
          rw [hT2] at hadd
          have HT2 := Lib.hid hT2
          clear hb hle hle2 he hq hT2
          go_wp2_with (go_at_call 16; with_reducible refine (HN.out _).mono ?_; rintro e w3 ⟨rfl, hO3⟩)
          exact ⟨⟨HO.out.then hO3, 1, 1, T2, rfl, rfl, by omega, rfl, HT2.out.symm⟩, by simp [intOf]⟩
        · have hem : T.toList.isEmpty = false := by
            rw [HT.out, Lib.toList_data, St_list]
            cases h : textK f 0 with
            | nil => exact absurd h he
            | cons _ _ => rfl
          have hadd1 : ∀ W, (Op.stringOp .add T ⟨#[32]⟩).run Tryd.prog W = .ok (.string (St (textK f 0 ++ [32]))) W := fun W => by
            rw [HT.out]
            exact run_add_str (textK f 0) [32] _ rfl (by simp; omega) W
          have hadd : ∀ W, (Op.stringOp .add (St (textK f 0 ++ [32])) q).run Tryd.prog W = .ok (.string (St (textK f 1))) W := fun W => by
            rw [← hq]
            exact run_add_str (textK f 0 ++ [32]) (nm 0) (textK f 1) (by rw [textK_more f 0 hb he]) (by omega) W
          obtain ⟨T1, hT1⟩ : ∃ T1, St (textK f 0 ++ [32]) = T1 := ⟨_, rfl⟩
          obtain ⟨T2, hT2⟩ : ∃ T2, St (textK f 1) = T2 := ⟨_, rfl⟩
          rw [hT1] at hadd1 hadd
          rw [hT2] at hadd
          have HT2 := Lib.hid hT2
          clear hb hle hle2 he hq hT2 hT1
          go_wp2_with (go_at_call 16; with_reducible refine (HN.out _).mono ?_; rintro e w3 ⟨rfl, hO3⟩)
          exact ⟨⟨HO.out.then hO3, 1, 1, T2, rfl, rfl, by omega, rfl, HT2.out.symm⟩, by simp [intOf]⟩
    · obtain rfl : K = 1 := by omega
      clear hK hk
      have hbz : (bits .and .i64 (f / 2) 1 == 1) = bitK f 1 := i64_shr_bit f 1
      cases hb : bitK f 1
      · rw [hb] at hbz
        have HR : Hid (∃ (K : Int) (k : Nat) (T' : ByteArray), Value.int .i64 2 = .int .i64 K ∧ K = (k : Int) ∧ k ≤ 5 ∧ Value.string T = .string T' ∧ T' = St (textK f k)) := ⟨2, 2, T, rfl, rfl, by omega, rfl, by rw [textK_no f 1 hb]; exact HT.out⟩
        clear hb hle
        go_wp2_with fail
        exact ⟨⟨HO.out, HR.out⟩, by simp [intOf]⟩
      · rw [hb] at hbz
        obtain ⟨q, hq⟩ : ∃ q, St (nm 1) = q := ⟨_, rfl⟩
        have HN : Hid (∀ W, Calls Tryd.prog 16 #[.int .i64 1] W fun e w' => e = .returned (.string q) ∧ Only [] W w') := fun W => by rw [← hq]; exact name_any 1 (by omega) W
        have hle2 := textK_le f 2
        by_cases he : textK f 1 = []
        · have hem : T.toList.isEmpty = true := by rw [HT.out, he, Lib.toList_data]; rfl
          have hadd : ∀ W, (Op.stringOp .add T q).run Tryd.prog W = .ok (.string (St (textK f 2))) W := fun W => by
            rw [HT.out, ← hq]
            exact run_add_str (textK f 1) (nm 1) (textK f 2) (by rw [textK_first f 1 hb he, he]; rfl) (by omega) W
          obtain ⟨T2, hT2⟩ : ∃ T2, St (textK f 2) = T2 := ⟨_, rfl⟩
          rw [hT2] at hadd
          have HT2 := Lib.hid hT2
          clear hb hle hle2 he hq hT2
          go_wp2_with (go_at_call 16; with_reducible refine (HN.out _).mono ?_; rintro e w3 ⟨rfl, hO3⟩)
          exact ⟨⟨HO.out.then hO3, 2, 2, T2, rfl, rfl, by omega, rfl, HT2.out.symm⟩, by simp [intOf]⟩
        · have hem : T.toList.isEmpty = false := by
            rw [HT.out, Lib.toList_data, St_list]
            cases h : textK f 1 with
            | nil => exact absurd h he
            | cons _ _ => rfl
          have hadd1 : ∀ W, (Op.stringOp .add T ⟨#[32]⟩).run Tryd.prog W = .ok (.string (St (textK f 1 ++ [32]))) W := fun W => by
            rw [HT.out]
            exact run_add_str (textK f 1) [32] _ rfl (by simp; omega) W
          have hadd : ∀ W, (Op.stringOp .add (St (textK f 1 ++ [32])) q).run Tryd.prog W = .ok (.string (St (textK f 2))) W := fun W => by
            rw [← hq]
            exact run_add_str (textK f 1 ++ [32]) (nm 1) (textK f 2) (by rw [textK_more f 1 hb he]) (by omega) W
          obtain ⟨T1, hT1⟩ : ∃ T1, St (textK f 1 ++ [32]) = T1 := ⟨_, rfl⟩
          obtain ⟨T2, hT2⟩ : ∃ T2, St (textK f 2) = T2 := ⟨_, rfl⟩
          rw [hT1] at hadd1 hadd
          rw [hT2] at hadd
          have HT2 := Lib.hid hT2
          clear hb hle hle2 he hq hT2 hT1
          go_wp2_with (go_at_call 16; with_reducible refine (HN.out _).mono ?_; rintro e w3 ⟨rfl, hO3⟩)
          exact ⟨⟨HO.out.then hO3, 2, 2, T2, rfl, rfl, by omega, rfl, HT2.out.symm⟩, by simp [intOf]⟩
    · obtain rfl : K = 2 := by omega
      clear hK hk
      have hbz : (bits .and .i64 (f / 4) 1 == 1) = bitK f 2 := i64_shr_bit f 2
      cases hb : bitK f 2
      · rw [hb] at hbz
        have HR : Hid (∃ (K : Int) (k : Nat) (T' : ByteArray), Value.int .i64 3 = .int .i64 K ∧ K = (k : Int) ∧ k ≤ 5 ∧ Value.string T = .string T' ∧ T' = St (textK f k)) := ⟨3, 3, T, rfl, rfl, by omega, rfl, by rw [textK_no f 2 hb]; exact HT.out⟩
        clear hb hle
        go_wp2_with fail
        exact ⟨⟨HO.out, HR.out⟩, by simp [intOf]⟩
      · rw [hb] at hbz
        obtain ⟨q, hq⟩ : ∃ q, St (nm 2) = q := ⟨_, rfl⟩
        have HN : Hid (∀ W, Calls Tryd.prog 16 #[.int .i64 2] W fun e w' => e = .returned (.string q) ∧ Only [] W w') := fun W => by rw [← hq]; exact name_any 2 (by omega) W
        have hle2 := textK_le f 3
        by_cases he : textK f 2 = []
        · have hem : T.toList.isEmpty = true := by rw [HT.out, he, Lib.toList_data]; rfl
          have hadd : ∀ W, (Op.stringOp .add T q).run Tryd.prog W = .ok (.string (St (textK f 3))) W := fun W => by
            rw [HT.out, ← hq]
            exact run_add_str (textK f 2) (nm 2) (textK f 3) (by rw [textK_first f 2 hb he, he]; rfl) (by omega) W
          obtain ⟨T2, hT2⟩ : ∃ T2, St (textK f 3) = T2 := ⟨_, rfl⟩
          rw [hT2] at hadd
          have HT2 := Lib.hid hT2
          clear hb hle hle2 he hq hT2
          go_wp2_with (go_at_call 16; with_reducible refine (HN.out _).mono ?_; rintro e w3 ⟨rfl, hO3⟩)
          exact ⟨⟨HO.out.then hO3, 3, 3, T2, rfl, rfl, by omega, rfl, HT2.out.symm⟩, by simp [intOf]⟩
        · have hem : T.toList.isEmpty = false := by
            rw [HT.out, Lib.toList_data, St_list]
            cases h : textK f 2 with
            | nil => exact absurd h he
            | cons _ _ => rfl
          have hadd1 : ∀ W, (Op.stringOp .add T ⟨#[32]⟩).run Tryd.prog W = .ok (.string (St (textK f 2 ++ [32]))) W := fun W => by
            rw [HT.out]
            exact run_add_str (textK f 2) [32] _ rfl (by simp; omega) W
          have hadd : ∀ W, (Op.stringOp .add (St (textK f 2 ++ [32])) q).run Tryd.prog W = .ok (.string (St (textK f 3))) W := fun W => by
            rw [← hq]
            exact run_add_str (textK f 2 ++ [32]) (nm 2) (textK f 3) (by rw [textK_more f 2 hb he]) (by omega) W
          obtain ⟨T1, hT1⟩ : ∃ T1, St (textK f 2 ++ [32]) = T1 := ⟨_, rfl⟩
          obtain ⟨T2, hT2⟩ : ∃ T2, St (textK f 3) = T2 := ⟨_, rfl⟩
          rw [hT1] at hadd1 hadd
          rw [hT2] at hadd
          have HT2 := Lib.hid hT2
          clear hb hle hle2 he hq hT2 hT1
          go_wp2_with (go_at_call 16; with_reducible refine (HN.out _).mono ?_; rintro e w3 ⟨rfl, hO3⟩)
          exact ⟨⟨HO.out.then hO3, 3, 3, T2, rfl, rfl, by omega, rfl, HT2.out.symm⟩, by simp [intOf]⟩
    · obtain rfl : K = 3 := by omega
      clear hK hk
      have hbz : (bits .and .i64 (f / 8) 1 == 1) = bitK f 3 := i64_shr_bit f 3
      cases hb : bitK f 3
      · rw [hb] at hbz
        have HR : Hid (∃ (K : Int) (k : Nat) (T' : ByteArray), Value.int .i64 4 = .int .i64 K ∧ K = (k : Int) ∧ k ≤ 5 ∧ Value.string T = .string T' ∧ T' = St (textK f k)) := ⟨4, 4, T, rfl, rfl, by omega, rfl, by rw [textK_no f 3 hb]; exact HT.out⟩
        clear hb hle
        go_wp2_with fail
        exact ⟨⟨HO.out, HR.out⟩, by simp [intOf]⟩
      · rw [hb] at hbz
        obtain ⟨q, hq⟩ : ∃ q, St (nm 3) = q := ⟨_, rfl⟩
        have HN : Hid (∀ W, Calls Tryd.prog 16 #[.int .i64 3] W fun e w' => e = .returned (.string q) ∧ Only [] W w') := fun W => by rw [← hq]; exact name_any 3 (by omega) W
        have hle2 := textK_le f 4
        by_cases he : textK f 3 = []
        · have hem : T.toList.isEmpty = true := by rw [HT.out, he, Lib.toList_data]; rfl
          have hadd : ∀ W, (Op.stringOp .add T q).run Tryd.prog W = .ok (.string (St (textK f 4))) W := fun W => by
            rw [HT.out, ← hq]
            exact run_add_str (textK f 3) (nm 3) (textK f 4) (by rw [textK_first f 3 hb he, he]; rfl) (by omega) W
          obtain ⟨T2, hT2⟩ : ∃ T2, St (textK f 4) = T2 := ⟨_, rfl⟩
          rw [hT2] at hadd
          have HT2 := Lib.hid hT2
          clear hb hle hle2 he hq hT2
          go_wp2_with (go_at_call 16; with_reducible refine (HN.out _).mono ?_; rintro e w3 ⟨rfl, hO3⟩)
          exact ⟨⟨HO.out.then hO3, 4, 4, T2, rfl, rfl, by omega, rfl, HT2.out.symm⟩, by simp [intOf]⟩
        · have hem : T.toList.isEmpty = false := by
            rw [HT.out, Lib.toList_data, St_list]
            cases h : textK f 3 with
            | nil => exact absurd h he
            | cons _ _ => rfl
          have hadd1 : ∀ W, (Op.stringOp .add T ⟨#[32]⟩).run Tryd.prog W = .ok (.string (St (textK f 3 ++ [32]))) W := fun W => by
            rw [HT.out]
            exact run_add_str (textK f 3) [32] _ rfl (by simp; omega) W
          have hadd : ∀ W, (Op.stringOp .add (St (textK f 3 ++ [32])) q).run Tryd.prog W = .ok (.string (St (textK f 4))) W := fun W => by
            rw [← hq]
            exact run_add_str (textK f 3 ++ [32]) (nm 3) (textK f 4) (by rw [textK_more f 3 hb he]) (by omega) W
          obtain ⟨T1, hT1⟩ : ∃ T1, St (textK f 3 ++ [32]) = T1 := ⟨_, rfl⟩
          obtain ⟨T2, hT2⟩ : ∃ T2, St (textK f 4) = T2 := ⟨_, rfl⟩
          rw [hT1] at hadd1 hadd
          rw [hT2] at hadd
          have HT2 := Lib.hid hT2
          clear hb hle hle2 he hq hT2 hT1
          go_wp2_with (go_at_call 16; with_reducible refine (HN.out _).mono ?_; rintro e w3 ⟨rfl, hO3⟩)
          exact ⟨⟨HO.out.then hO3, 4, 4, T2, rfl, rfl, by omega, rfl, HT2.out.symm⟩, by simp [intOf]⟩
    · obtain rfl : K = 4 := by omega
      clear hK hk
      have hbz : (bits .and .i64 (f / 16) 1 == 1) = bitK f 4 := i64_shr_bit f 4
      cases hb : bitK f 4
      · rw [hb] at hbz
        have HR : Hid (∃ (K : Int) (k : Nat) (T' : ByteArray), Value.int .i64 5 = .int .i64 K ∧ K = (k : Int) ∧ k ≤ 5 ∧ Value.string T = .string T' ∧ T' = St (textK f k)) := ⟨5, 5, T, rfl, rfl, by omega, rfl, by rw [textK_no f 4 hb]; exact HT.out⟩
        clear hb hle
        go_wp2_with fail
        exact ⟨⟨HO.out, HR.out⟩, by simp [intOf]⟩
      · rw [hb] at hbz
        obtain ⟨q, hq⟩ : ∃ q, St (nm 4) = q := ⟨_, rfl⟩
        have HN : Hid (∀ W, Calls Tryd.prog 16 #[.int .i64 4] W fun e w' => e = .returned (.string q) ∧ Only [] W w') := fun W => by rw [← hq]; exact name_any 4 (by omega) W
        have hle2 := textK_le f 5
        by_cases he : textK f 4 = []
        · have hem : T.toList.isEmpty = true := by rw [HT.out, he, Lib.toList_data]; rfl
          have hadd : ∀ W, (Op.stringOp .add T q).run Tryd.prog W = .ok (.string (St (textK f 5))) W := fun W => by
            rw [HT.out, ← hq]
            exact run_add_str (textK f 4) (nm 4) (textK f 5) (by rw [textK_first f 4 hb he, he]; rfl) (by omega) W
          obtain ⟨T2, hT2⟩ : ∃ T2, St (textK f 5) = T2 := ⟨_, rfl⟩
          rw [hT2] at hadd
          have HT2 := Lib.hid hT2
          clear hb hle hle2 he hq hT2
          go_wp2_with (go_at_call 16; with_reducible refine (HN.out _).mono ?_; rintro e w3 ⟨rfl, hO3⟩)
          exact ⟨⟨HO.out.then hO3, 5, 5, T2, rfl, rfl, by omega, rfl, HT2.out.symm⟩, by simp [intOf]⟩
        · have hem : T.toList.isEmpty = false := by
            rw [HT.out, Lib.toList_data, St_list]
            cases h : textK f 4 with
            | nil => exact absurd h he
            | cons _ _ => rfl
          have hadd1 : ∀ W, (Op.stringOp .add T ⟨#[32]⟩).run Tryd.prog W = .ok (.string (St (textK f 4 ++ [32]))) W := fun W => by
            rw [HT.out]
            exact run_add_str (textK f 4) [32] _ rfl (by simp; omega) W
          have hadd : ∀ W, (Op.stringOp .add (St (textK f 4 ++ [32])) q).run Tryd.prog W = .ok (.string (St (textK f 5))) W := fun W => by
            rw [← hq]
            exact run_add_str (textK f 4 ++ [32]) (nm 4) (textK f 5) (by rw [textK_more f 4 hb he]) (by omega) W
          obtain ⟨T1, hT1⟩ : ∃ T1, St (textK f 4 ++ [32]) = T1 := ⟨_, rfl⟩
          obtain ⟨T2, hT2⟩ : ∃ T2, St (textK f 5) = T2 := ⟨_, rfl⟩
          rw [hT1] at hadd1 hadd
          rw [hT2] at hadd
          have HT2 := Lib.hid hT2
          clear hb hle hle2 he hq hT2 hT1
          go_wp2_with (go_at_call 16; with_reducible refine (HN.out _).mono ?_; rintro e w3 ⟨rfl, hO3⟩)
          exact ⟨⟨HO.out.then hO3, 5, 5, T2, rfl, rfl, by omega, rfl, HT2.out.symm⟩, by simp [intOf]⟩
    · obtain rfl : K = 5 := by omega
      clear hK hk
      have HP : Hid (printL f = 40 :: (textK f 5 ++ [41])) := rfl
      have h1 : ∀ W, (Op.stringOp .add ⟨#[40]⟩ T).run Tryd.prog W = .ok (.string (St (40 :: textK f 5))) W := fun W => by
        rw [HT.out]
        exact run_add_str [40] (textK f 5) (40 :: textK f 5) rfl (by simp; omega) W
      have h2 := fun W => run_add_str (40 :: textK f 5) [41] (40 :: (textK f 5 ++ [41])) rfl (by simp; omega) W
      obtain ⟨t2, ht2⟩ : ∃ t2, St (40 :: textK f 5) = t2 := ⟨_, rfl⟩
      obtain ⟨t3, ht3⟩ : ∃ t3, St (40 :: (textK f 5 ++ [41])) = t3 := ⟨_, rfl⟩
      have HT3 : Hid (St (printL f) = t3) := by show _ = _; rw [HP.out]; exact ht3
      rw [ht2] at h1 h2
      rw [ht3] at h2
      clear ht2 ht3 hle HP
      go_wp2
      go_ret
      exact ⟨by rw [HT3.out]; rfl, HO.out⟩
end Go.Proofs.YtamekbpmbmggoaaDoor
