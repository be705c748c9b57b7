/-
  mark: the flag of a word.
-/
import Derived.Test.YtamekbpmbmggoaaDoorAFold
namespace Go.Proofs.YtamekbpmbmggoaaDoor
open Go.RowKit Go.Instr

theorem sameT_ne {a b : List UInt8} (h : a.length ≠ b.length) : sameT a b = false := by
  cases e : sameT a b with
  | false => rfl
  | true => exact absurd (sameT_len e) h
/-- EqualFold against a word, as the walk meets it. -/
theorem fold_word (s q : ByteArray) (k : Nat) (hq : St (nm k) = q) (hz : s.size = q.size) {w : World} (hL : Laid w) : Calls Tryd.prog 18 #[.string s, .string q] w fun e w' => e = .returned (.bool (sameT s.data.toList (nm k))) ∧ Only [] w w' := by
  subst hq
  have hn := nm_len k
  have e : (St (nm k)).size = (nm k).length := St_size _
  have h := fold_any s (St (nm k)) hz (by omega) (by rw [St_list]; exact nm_plain k) hL
  rw [St_list] at h
  exact h

section
variable (b0 b1 b2 b3 b4 : ByteArray) (x0 x1 x2 x3 x4 : Int) (W : World)
theorem idx0 : (Instr.index 39 (.agg #[.int .i64 x0, .string b0, .int .i64 x1, .string b1, .int .i64 x2, .string b2, .int .i64 x3, .string b3, .int .i64 x4, .string b4]) (.int .i64 0)).run Tryd.prog W = .ok (.agg #[.int .i64 x0, .string b0]) W := by kernel_rfl
theorem idx1 : (Instr.index 39 (.agg #[.int .i64 x0, .string b0, .int .i64 x1, .string b1, .int .i64 x2, .string b2, .int .i64 x3, .string b3, .int .i64 x4, .string b4]) (.int .i64 1)).run Tryd.prog W = .ok (.agg #[.int .i64 x1, .string b1]) W := by kernel_rfl
theorem idx2 : (Instr.index 39 (.agg #[.int .i64 x0, .string b0, .int .i64 x1, .string b1, .int .i64 x2, .string b2, .int .i64 x3, .string b3, .int .i64 x4, .string b4]) (.int .i64 2)).run Tryd.prog W = .ok (.agg #[.int .i64 x2, .string b2]) W := by kernel_rfl
theorem idx3 : (Instr.index 39 (.agg #[.int .i64 x0, .string b0, .int .i64 x1, .string b1, .int .i64 x2, .string b2, .int .i64 x3, .string b3, .int .i64 x4, .string b4]) (.int .i64 3)).run Tryd.prog W = .ok (.agg #[.int .i64 x3, .string b3]) W := by kernel_rfl
theorem idx4 : (Instr.index 39 (.agg #[.int .i64 x0, .string b0, .int .i64 x1, .string b1, .int .i64 x2, .string b2, .int .i64 x3, .string b3, .int .i64 x4, .string b4]) (.int .i64 4)).run Tryd.prog W = .ok (.agg #[.int .i64 x4, .string b4]) W := by kernel_rfl
end

set_option maxRecDepth 100000 in
theorem flagOf_any (s : ByteArray) {w : World} (hL : Laid w) : Calls Tryd.prog 14 #[.string s] w fun e w' => e = .returned (.int .i64 ((flagL s.data.toList : Nat) : Int)) ∧ Only [] w w' := by
  obtain ⟨q0, hq0⟩ : ∃ q, St (nm 0) = q := ⟨_, rfl⟩
  have z0 : q0.size = 5 := by rw [← hq0, St_size]; rfl
  have a0 : w.cell? ⟨0, 0, none⟩ = some (.int .i64 1) := (hL.nam 0 (by omega)).1
  have b0 : w.cell? ⟨0, 1, none⟩ = some (.string q0) := by rw [← hq0]; exact (hL.nam 0 (by omega)).2
  have HQ0 := Lib.hid hq0
  clear hq0
  obtain ⟨q1, hq1⟩ : ∃ q, St (nm 1) = q := ⟨_, rfl⟩
  have z1 : q1.size = 9 := by rw [← hq1, St_size]; rfl
  have a1 : w.cell? ⟨0, 2, none⟩ = some (.int .i64 2) := (hL.nam 1 (by omega)).1
  have b1 : w.cell? ⟨0, 3, none⟩ = some (.string q1) := by rw [← hq1]; exact (hL.nam 1 (by omega)).2
  have HQ1 := Lib.hid hq1
  clear hq1
  obtain ⟨q2, hq2⟩ : ∃ q, St (nm 2) = q := ⟨_, rfl⟩
  have z2 : q2.size = 8 := by rw [← hq2, St_size]; rfl
  have a2 : w.cell? ⟨0, 4, none⟩ = some (.int .i64 4) := (hL.nam 2 (by omega)).1
  have b2 : w.cell? ⟨0, 5, none⟩ = some (.string q2) := by rw [← hq2]; exact (hL.nam 2 (by omega)).2
  have HQ2 := Lib.hid hq2
  clear hq2
  obtain ⟨q3, hq3⟩ : ∃ q, St (nm 3) = q := ⟨_, rfl⟩
  have z3 : q3.size = 8 := by rw [← hq3, St_size]; rfl
  have a3 : w.cell? ⟨0, 6, none⟩ = some (.int .i64 8) := (hL.nam 3 (by omega)).1
  have b3 : w.cell? ⟨0, 7, none⟩ = some (.string q3) := by rw [← hq3]; exact (hL.nam 3 (by omega)).2
  have HQ3 := Lib.hid hq3
  clear hq3
  obtain ⟨q4, hq4⟩ : ∃ q, St (nm 4) = q := ⟨_, rfl⟩
  have z4 : q4.size = 6 := by rw [← hq4, St_size]; rfl
  have a4 : w.cell? ⟨0, 8, none⟩ = some (.int .i64 16) := (hL.nam 4 (by omega)).1
  have b4 : w.cell? ⟨0, 9, none⟩ = some (.string q4) := by rw [← hq4]; exact (hL.nam 4 (by omega)).2
  have HQ4 := Lib.hid hq4
  clear hq4
  have HL := Lib.hid hL
  obtain ⟨F, hF⟩ : ∃ F, flagL s.data.toList = F := ⟨_, rfl⟩
  have HF := Lib.hid hF
  rw [hF]
  clear hF hL
  go_enter Tryd.func14, Tryd.ntmps14
  go_wp2
  clear a0 b0 a1 b1 a2 b2 a3 b3 a4 b4
  go_loopw [6] (fun v wr => Only [] w wr ∧ ∃ (K : Int) (k : Nat), v = .int .i64 K ∧ K = (k : Int) ∧ k ≤ 5 ∧ ∀ j < k, sameT s.data.toList (nm j) = false) (fun v _ => 5 - (intOf v).toNat)
  case atStart => exact ⟨Only.refl _ _, 0, 0, rfl, rfl, by omega, fun j h => absurd h (by omega)⟩
  case round =>
    obtain ⟨hO, K, k, rfl, hK, hk, hno⟩ := hrel
    have HNO := Lib.hid hno
    clear hno
    have hLr := HL.out.only hO
    have HLR := Lib.hid hLr
    clear hLr
    rcases (by omega : k = 0 ∨ k = 1 ∨ k = 2 ∨ k = 3 ∨ k = 4 ∨ k = 5) with rfl | rfl | rfl | rfl | rfl | rfl
    · obtain rfl : K = 0 := by omega
      clear hK
      have HI : Hid ((∃ (K : Int) (k : Nat), Value.int .i64 1 = .int .i64 K ∧ K = (k : Int) ∧ k ≤ 5 ∧ ∀ j < k, sameT s.data.toList (nm j) = false) ∨ sameT s.data.toList (nm 0) = true) := by
        show _ ∨ _
        cases hs : sameT s.data.toList (nm 0) with
        | true => exact .inr rfl
        | false => exact .inl ⟨1, 1, rfl, rfl, by omega, fun j hj => if h : j = 0 then h ▸ hs else HNO.out j (by omega)⟩
      have HNE : Hid (s.size ≠ q0.size → sameT s.data.toList (nm 0) = false) := fun h => sameT_ne (by rw [← Lib.size_eq, ← St_list (nm 0), HQ0.out, ← Lib.size_eq]; exact h)
      clear hk
      by_cases hz : s.size = 5
      · have hzi : (s.size : Int) = 5 := by omega
        have HZ : Hid (s.size = q0.size) := by show _ = _; omega
        clear hz
        have hix := idx0 q0 q1 q2 q3 q4 1 2 4 8 16
        cases hb : sameT s.data.toList (nm 0)
        all_goals
          have HB := Lib.hid hb
          clear hb
          go_wp2_with (go_at_call 18; with_reducible refine (fold_word s q0 0 HQ0.out HZ.out (HLR.out.only ((Only.refl _ _).alloc _))).mono ?_; rintro e w3 ⟨rfl, hO3⟩; rw [HB.out]; have hO4 : Only [] w w3 := (hO.alloc _).then hO3; have hc3 : w3.cell? ⟨wr.heap.size, 0, none⟩ = some (.int .i64 1) := (((Bk.new wr _ _).only hO3 (by simp)).cell 0).trans rfl)
        · exact ⟨⟨hO4, HI.out.resolve_right (by rw [HB.out]; simp)⟩, by simp [intOf]⟩
        · go_ret
          exact ⟨by rw [← HF.out, flagL_yes (k := 0) (by omega) HB.out]; rfl, hO4⟩
      · have hzi : ((s.size : Int) == 5) = false := beq_eq_false_iff_ne.2 (by omega)
        have HZ : Hid (s.size ≠ q0.size) := by show _ ≠ _; omega
        clear hz
        have hix := idx0 q0 q1 q2 q3 q4 1 2 4 8 16
        go_wp2_with fail
        exact ⟨⟨hO.alloc _, HI.out.resolve_right (by rw [HNE.out HZ.out]; simp)⟩, by simp [intOf]⟩
    · obtain rfl : K = 1 := by omega
      clear hK
      have HI : Hid ((∃ (K : Int) (k : Nat), Value.int .i64 2 = .int .i64 K ∧ K = (k : Int) ∧ k ≤ 5 ∧ ∀ j < k, sameT s.data.toList (nm j) = false) ∨ sameT s.data.toList (nm 1) = true) := by
        show _ ∨ _
        cases hs : sameT s.data.toList (nm 1) with
        | true => exact .inr rfl
        | false => exact .inl ⟨2, 2, rfl, rfl, by omega, fun j hj => if h : j = 1 then h ▸ hs else HNO.out j (by omega)⟩
      have HNE : Hid (s.size ≠ q1.size → sameT s.data.toList (nm 1) = false) := fun h => sameT_ne (by rw [← Lib.size_eq, ← St_list (nm 1), HQ1.out, ← Lib.size_eq]; exact h)
      clear hk
      by_cases hz : s.size = 9
      · have hzi : (s.size : Int) = 9 := by omega
        have HZ : Hid (s.size = q1.size) := by show _ = _; omega
        clear hz
        have hix := idx1 q0 q1 q2 q3 q4 1 2 4 8 16
        cases hb : sameT s.data.toList (nm 1)
        all_goals
          have HB := Lib.hid hb
          clear hb
          go_wp2_with (go_at_call 18; with_reducible refine (fold_word s q1 1 HQ1.out HZ.out (HLR.out.only ((Only.refl _ _).alloc _))).mono ?_; rintro e w3 ⟨rfl, hO3⟩; rw [HB.out]; have hO4 : Only [] w w3 := (hO.alloc _).then hO3; have hc3 : w3.cell? ⟨wr.heap.size, 0, none⟩ = some (.int .i64 2) := (((Bk.new wr _ _).only hO3 (by simp)).cell 0).trans rfl)
        · exact ⟨⟨hO4, HI.out.resolve_right (by rw [HB.out]; simp)⟩, by simp [intOf]⟩
        · go_ret
          exact ⟨by rw [← HF.out, flagL_yes (k := 1) (by omega) HB.out]; rfl, hO4⟩
      · have hzi : ((s.size : Int) == 9) = false := beq_eq_false_iff_ne.2 (by omega)
        have HZ : Hid (s.size ≠ q1.size) := by show _ ≠ _; omega
        clear hz
        have hix := idx1 q0 q1 q2 q3 q4 1 2 4 8 16
        go_wp2_with fail
        exact ⟨⟨hO.alloc _, HI.out.resolve_right (by rw [HNE.out HZ.out]; simp)⟩, by simp [intOf]⟩
    · obtain rfl : K = 2 := by omega
      clear hK
      have HI : Hid ((∃ (K : Int) (k : Nat), Value.int .i64 3 = .int .i64 K ∧ K = (k : Int) ∧ k ≤ 5 ∧ ∀ j < k, sameT s.data.toList (nm j) = false) ∨ sameT s.data.toList (nm 2) = true) := by
        show _ ∨ _
        cases hs : sameT s.data.toList (nm 2) with
        | true => exact .inr rfl
        | false => exact .inl ⟨3, 3, rfl, rfl, by omega, fun j hj => if h : j = 2 then h ▸ hs else HNO.out j (by omega)⟩
      have HNE : Hid (s.size ≠ q2.size → sameT s.data.toList (nm 2) = false) := fun h => sameT_ne (by rw [← Lib.size_eq, ← St_list (nm 2), HQ2.out, ← Lib.size_eq]; exact h)
      clear hk
      by_cases hz : s.size = 8
      · have hzi : (s.size : Int) = 8 := by omega
        have HZ : Hid (s.size = q2.size) := by show _ = _; omega
        clear hz
        have hix := idx2 q0 q1 q2 q3 q4 1 2 4 8 16
        cases hb : sameT s.data.toList (nm 2)
        all_goals
          have HB := Lib.hid hb
          clear hb
          go_wp2_with (go_at_call 18; with_reducible refine (fold_word s q2 2 HQ2.out HZ.out (HLR.out.only ((Only.refl _ _).alloc _))).mono ?_; rintro e w3 ⟨rfl, hO3⟩; rw [HB.out]; have hO4 : Only [] w w3 := (hO.alloc _).then hO3; have hc3 : w3.cell? ⟨wr.heap.size, 0, none⟩ = some (.int .i64 4) := (((Bk.new wr _ _).only hO3 (by simp)).cell 0).trans rfl)
        · exact ⟨⟨hO4, HI.out.resolve_right (by rw [HB.out]; simp)⟩, by simp [intOf]⟩
        · go_ret
          exact ⟨by rw [← HF.out, flagL_yes (k := 2) (by omega) HB.out]; rfl, hO4⟩
      · have hzi : ((s.size : Int) == 8) = false := beq_eq_false_iff_ne.2 (by omega)
        have HZ : Hid (s.size ≠ q2.size) := by show _ ≠ _; omega
        clear hz
        have hix := idx2 q0 q1 q2 q3 q4 1 2 4 8 16
        go_wp2_with fail
        exact ⟨⟨hO.alloc _, HI.out.resolve_right (by rw [HNE.out HZ.out]; simp)⟩, by simp [intOf]⟩
    · obtain rfl : K = 3 := by omega
      clear hK
      have HI : Hid ((∃ (K : Int) (k : Nat), Value.int .i64 4 = .int .i64 K ∧ K = (k : Int) ∧ k ≤ 5 ∧ ∀ j < k, sameT s.data.toList (nm j) = false) ∨ sameT s.data.toList (nm 3) = true) := by
        show _ ∨ _
        cases hs : sameT s.data.toList (nm 3) with
        | true => exact .inr rfl
        | false => exact .inl ⟨4, 4, rfl, rfl, by omega, fun j hj => if h : j = 3 then h ▸ hs else HNO.out j (by omega)⟩
      have HNE : Hid (s.size ≠ q3.size → sameT s.data.toList (nm 3) = false) := fun h => sameT_ne (by rw [← Lib.size_eq, ← St_list (nm 3), HQ3.out, ← Lib.size_eq]; exact h)
      clear hk
      by_cases hz : s.size = 8
      · have hzi : (s.size : Int) = 8 := by omega
        have HZ : Hid (s.size = q3.size) := by show _ = _; omega
        clear hz
        have hix := idx3 q0 q1 q2 q3 q4 1 2 4 8 16
        cases hb : sameT s.data.toList (nm 3)
        all_goals
          have HB := Lib.hid hb
          clear hb
          go_wp2_with (go_at_call 18; with_reducible refine (fold_word s q3 3 HQ3.out HZ.out (HLR.out.only ((Only.refl _ _).alloc _))).mono ?_; rintro e w3 ⟨rfl, hO3⟩; rw [HB.out]; have hO4 : Only [] w w3 := (hO.alloc _).then hO3; have hc3 : w3.cell? ⟨wr.heap.size, 0, none⟩ = some (.int .i64 8) := (((Bk.new wr _ _).only hO3 (by simp)).cell 0).trans rfl)
        · exact ⟨⟨hO4, HI.out.resolve_right (by rw [HB.out]; simp)⟩, by simp [intOf]⟩
        · go_ret
          exact ⟨by rw [← HF.out, flagL_yes (k := 3) (by omega) HB.out]; rfl, hO4⟩
      · have hzi : ((s.size : Int) == 8) = false := beq_eq_false_iff_ne.2 (by omega)
        have HZ : Hid (s.size ≠ q3.size) := by show _ ≠ _; omega
        clear hz
        have hix := idx3 q0 q1 q2 q3 q4 1 2 4 8 16
        go_wp2_with fail
        exact ⟨⟨hO.alloc _, HI.out.resolve_right (by rw [HNE.out HZ.out]; simp)⟩, by simp [intOf]⟩
    · obtain rfl : K = 4 := by omega
      clear hK
      have HI : Hid ((∃ (K : Int) (k : Nat), Value.int .i64 5 = .int .i64 K ∧ K = (k : Int) ∧ k ≤ 5 ∧ ∀ j < k, sameT s.data.toList (nm j) = false) ∨ sameT s.data.toList (nm 4) = true) := by
        show _ ∨ _
        cases hs : sameT s.data.toList (nm 4) with
        | true => exact .inr rfl
        | false => exact .inl ⟨5, 5, rfl, rfl, by omega, fun j hj => if h : j = 4 then h ▸ hs else HNO.out j (by omega)⟩
      have HNE : Hid (s.size ≠ q4.size → sameT s.data.toList (nm 4) = false) := fun h => sameT_ne (by rw [← Lib.size_eq, ← St_list (nm 4), HQ4.out, ← Lib.size_eq]; exact h)
      clear hk
      by_cases hz : s.size = 6
      · have hzi : (s.size : Int) = 6 := by omega
        have HZ : Hid (s.size = q4.size) := by show _ = _; omega
        clear hz
        have hix := idx4 q0 q1 q2 q3 q4 1 2 4 8 16
        cases hb : sameT s.data.toList (nm 4)
        all_goals
          have HB := Lib.hid hb
          clear hb
          go_wp2_with (go_at_call 18; with_reducible refine (fold_word s q4 4 HQ4.out HZ.out (HLR.out.only ((Only.refl _ _).alloc _))).mono ?_; rintro e w3 ⟨rfl, hO3⟩; rw [HB.out]; have hO4 : Only [] w w3 := (hO.alloc _).then hO3; have hc3 : w3.cell? ⟨wr.heap.size, 0, none⟩ = some (.int .i64 16) := (((Bk.new wr _ _).only hO3 (by simp)).cell 0).trans rfl)
        · exact ⟨⟨hO4, HI.out.resolve_right (by rw [HB.out]; simp)⟩, by simp [intOf]⟩
        · go_ret
          exact ⟨by rw [← HF.out, flagL_yes (k := 4) (by omega) HB.out]; rfl, hO4⟩
      · have hzi : ((s.size : Int) == 6) = false := beq_eq_false_iff_ne.2 (by omega)
        have HZ : Hid (s.size ≠ q4.size) := by show _ ≠ _; omega
        clear hz
        have hix := idx4 q0 q1 q2 q3 q4 1 2 4 8 16
        go_wp2_with fail
        exact ⟨⟨hO.alloc _, HI.out.resolve_right (by rw [HNE.out HZ.out]; simp)⟩, by simp [intOf]⟩
    · obtain rfl : K = 5 := by omega
      clear hK
      go_wp2
      go_ret
      exact ⟨by rw [← HF.out, flagL_no (fun k hk => HNO.out k hk)]; rfl, hO⟩
end Go.Proofs.YtamekbpmbmggoaaDoor
