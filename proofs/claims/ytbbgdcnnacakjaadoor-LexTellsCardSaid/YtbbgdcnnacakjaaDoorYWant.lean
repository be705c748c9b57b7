/-
  The walk of the law LexWant.
-/
import Derived.Test.YtbbgdcnnacakjaaDoorYDec
namespace Go.Proofs.YtbbgdcnnacakjaaDoor
open Go.RowKit Go.Instr

theorem last_form {x : UInt8} {p d : List UInt8} (h : ∀ y ∈ d, y ≠ x) : lastI x (p ++ x :: d) = some p.length := by
  refine lastI_at (by simp) (by simp) (fun j hj hij => ?_)
  rw [List.getElem_append_right (by omega)]
  obtain ⟨m, hm⟩ : ∃ m, j - p.length = m + 1 := ⟨j - p.length - 1, by omega⟩
  simp only [hm, List.getElem_cons_succ]
  exact h _ (List.getElem_mem _)
theorem cut_form {p d : List UInt8} (h : ∀ y ∈ d, y ≠ 123) : cutL (p ++ 123 :: d ++ [125]) = (numD d).map fun n => (p, n) := by
  unfold cutL
  rw [List.getLast?_append, List.getLast?_singleton, Option.some_or, if_pos rfl, List.dropLast_concat, last_form h]
  simp only
  have e : (p ++ 123 :: d).drop (p.length + 1) = d := by
    rw [List.drop_append, List.drop_of_length_le (by omega)]
    simp
  have e2 : (p ++ 123 :: d).take p.length = p := List.take_left
  rw [e, e2]
  cases numD d <;> rfl
theorem dig_ne {d : List UInt8} (h : d.all isDig = true) (x : UInt8) (hx : isDig x = false) : ∀ y ∈ d, y ≠ x := fun y hy e => by
  have := List.all_eq_true.1 h y hy
  rw [e, hx] at this
  cases this
theorem want_digits {p d : List UInt8} (h : d.all isDig = true) (h1 : 1 ≤ d.length) : wantL (p ++ 123 :: d ++ [125]) = if d.length ≤ 7 then some (dv 0 d) else none := by
  unfold wantL
  rw [cut_form (dig_ne h 123 (by decide))]
  unfold numD
  rw [if_neg (by omega)]
  by_cases h7 : d.length ≤ 7
  · rw [if_neg (by omega), if_pos h, if_pos h7]; rfl
  · rw [if_pos (by omega), if_neg h7]; rfl
theorem want_none {p : List UInt8} {x : UInt8} (hx : x ≠ 125) : wantL (p ++ [x]) = none := by
  unfold wantL cutL
  rw [List.getLast?_append, List.getLast?_singleton, Option.some_or, if_neg (by intro e; injection e with e; exact hx e)]
  rfl
def txS : Value → Nat
  | .string s => s.size
  | _ => 0
/-- A text of digits that has this value. -/
def DigS (n : Nat) (t : ByteArray) : Prop := t.data.toList.all isDig = true ∧ dv 0 t.data.toList = n ∧ 1 ≤ t.size
set_option maxRecDepth 100000 in
set_option maxHeartbeats 8000000 in
theorem lexwant_any (x y : Int) (s : ByteArray) (w : World) (hs : s.size ≤ 140737488351232) :
    Calls Tryd.prog 8 #[.int .i64 x, .int .i64 y, .string s] w fun e w' => e = .returned (.bool true) ∧ Only [] w w' := by
  by_cases h1 : x < 0
  · go_enter Tryd.func8, Tryd.ntmps8
    go_wp2_with fail
    go_ret
    exact ⟨rfl, Only.refl _ _⟩
  by_cases h2 : 9999999 < x
  · go_enter Tryd.func8, Tryd.ntmps8
    go_wp2_with fail
    go_ret
    exact ⟨rfl, Only.refl _ _⟩
  by_cases h3 : y < 0
  · go_enter Tryd.func8, Tryd.ntmps8
    go_wp2_with fail
    go_ret
    exact ⟨rfl, Only.refl _ _⟩
  by_cases h4 : 9 < y
  · go_enter Tryd.func8, Tryd.ntmps8
    go_wp2_with fail
    go_ret
    exact ⟨rfl, Only.refl _ _⟩
  by_cases h5 : 20 < s.size
  · have h5' : (20 : Int) < (s.size : Int) := by omega
    go_enter Tryd.func8, Tryd.ntmps8
    go_wp2_with fail
    go_ret
    exact ⟨rfl, Only.refl _ _⟩
  have h5' : ¬ (20 : Int) < (s.size : Int) := by omega
  obtain ⟨n, rfl⟩ : ∃ n : Nat, x = (n : Int) := ⟨x.toNat, by omega⟩
  obtain ⟨k, rfl⟩ : ∃ k : Nat, y = (k : Int) := ⟨y.toNat, by omega⟩
  have hn : n ≤ 9999999 := by omega
  have hk : k ≤ 9 := by omega
  have kc := fun (w : World) (C : Array Value) (n c : Nat) => Lib.run_convert_bytes_const (P := Tryd.prog) w 32 5 C n c Tryd.underlying32 Tryd.underlying5
  have HD := Lib.hid (dec_any n w (by omega))
  go_enter Tryd.func8, Tryd.ntmps8
  go_wp2_with (go_at_call 19; with_reducible refine HD.out.mono ?_; rintro e w2 ⟨t0, rfl, H0, O0⟩)
  have hd0 : DigS n t0 := by
    unfold DigS
    rw [H0.out]
    refine ⟨decD_all n, decD_val n, ?_⟩
    have := decD_pos n
    rw [← H0.out] at this
    simpa using this
  have hz0 : t0.size ≤ 9 := by
    have := decD_len n 7 (by omega) (by omega)
    rw [← H0.out] at this
    have : t0.size ≤ 7 := by simpa using this
    omega
  clear HD H0
  go_loopw [7] (fun v wr => wr = w2 ∧ ∃ t : ByteArray, v = .string t ∧ t.size ≤ 9 ∧ Hid (DigS n t)) (fun v _ => 9 - txS v)
  case atStart => exact ⟨rfl, t0, rfl, hz0, hd0⟩
  case round =>
    obtain ⟨rfl, t, rfl, hz, HT⟩ := hrel
    by_cases hlt : t.size < k
    · have hlt' : (t.size : Int) < (k : Int) := by omega
      obtain ⟨t1, h1a, h1b, hadd⟩ := add_eq ⟨#[48]⟩ t (by show 1 + t.size ≤ _; omega)
      have hsz : t1.size = 1 + t.size := h1b
      have HR : Hid (t1.size ≤ 9 ∧ Hid (DigS n t1)) := by
        refine ⟨by omega, ?_⟩
        show _ ∧ _ ∧ _
        obtain ⟨d1, d2, d3⟩ := HT.out
        rw [h1a]
        refine ⟨?_, ?_, by omega⟩
        · show (48 :: t.data.toList).all isDig = true
          rw [List.all_cons, d1]
          rfl
        · show dv 0 (48 :: t.data.toList) = n
          rw [dv_cons]
          exact d2
      have HM : Hid (9 - txS (.string t1) < 9 - txS (.string t)) := by
        show 9 - t1.size < 9 - t.size
        omega
      clear h1a h1b hsz
      go_wp2_with fail
      exact ⟨⟨trivial, t1, rfl, HR.out.1, HR.out.2⟩, HM.out⟩
    · have hlt' : ¬ (t.size : Int) < (k : Int) := by omega
      obtain ⟨d1, d2, d3⟩ := HT.out
      obtain ⟨u1, e1, z1, hadd1⟩ := add_eq ⟨#[97, 32, 123]⟩ t (by show 3 + t.size ≤ _; omega)
      have zz1 : u1.size = 3 + t.size := z1
      obtain ⟨u2, e2, z2, hadd2⟩ := add_eq u1 ⟨#[125]⟩ (by show u1.size + 1 ≤ _; omega)
      have zz2 : u2.size = u1.size + 1 := z2
      obtain ⟨u3, e3, z3, hadd3⟩ := add_eq u1 ⟨#[125, 120]⟩ (by show u1.size + 2 ≤ _; omega)
      have zz3 : u3.size = u1.size + 2 := z3
      have hw2 : wantL u2.data.toList = if t.data.toList.length ≤ 7 then some n else none := by
        rw [e2, e1]
        have := want_digits (p := [97, 32]) d1 (by simpa using d3)
        rw [d2] at this
        exact this
      have hw3 : wantL u3.data.toList = none := by
        rw [e3]
        show wantL (u1.data.toList ++ [125, 120]) = none
        have : u1.data.toList ++ [125, 120] = (u1.data.toList ++ [125]) ++ [120] := by simp
        rw [this]
        exact want_none (by decide)
      have htl : t.data.toList.length = t.size := by simp
      rw [htl] at hw2
      obtain ⟨w3, c3, hcv3, g3, O3⟩ := conv_gro u2 (by omega) wr
      have W3 := Lib.hid (Wants_any g3.bt (by omega))
      rw [hw2] at W3
      have C4 : Hid (∀ W, ∃ w' c, (convert 9 32 (.string u3)).run Tryd.prog W = .ok (.slice (some ⟨W.heap.size, 0, none⟩) u3.size c) w' ∧ Only [] W w' ∧ Hid (Calls Tryd.prog 12 #[.slice (some ⟨W.heap.size, 0, none⟩) u3.size c] w' fun e w'' => e = .returned (.tuple #[.int .i64 0, .bool false]) ∧ Only [] w' w'')) := fun W => by
        obtain ⟨w', c, h1, h2, h3⟩ := conv_gro u3 (by omega) W
        have := Wants_any h2.bt (by omega)
        rw [hw3] at this
        exact ⟨w', c, h1, h3, this⟩
      have W5 : Hid (∀ W, Calls Tryd.prog 12 #[.slice (some ⟨World.heap W |>.size, 0, none⟩) 4 4] (W.alloc (.cells #[.int .u8 97, .int .u8 32, .int .u8 123, .int .u8 125] 5 (4, 5))) fun e w' => e = .returned (.tuple #[.int .i64 0, .bool false]) ∧ Only [] (W.alloc (.cells #[.int .u8 97, .int .u8 32, .int .u8 123, .int .u8 125] 5 (4, 5))) w') := fun W => by
        have h := Wants_any (bt_lit W #[.int .u8 97, .int .u8 32, .int .u8 123, .int .u8 125] [97, 32, 123, 125] 4 (4, 5) rfl rfl (by decide)) (by decide)
        exact h
      have hz7 : (t.size : Int) ≤ 9 := by omega
      have HOO := Lib.hid (O0.then O3)
      clear d1 d2 d3 e1 e2 e3 hw2 hw3 htl g3 zz1 zz2 zz3 z1 z2 z3 HT O0
      by_cases h7 : t.size ≤ 7
      · have h7' : (t.size : Int) ≤ 7 := by omega
        rw [if_pos h7] at W3
        simp only [numO] at W3
        go_wp2_with first
          | (go_at_call 12; refine W3.out.mono ?_; clear W3; rintro e w4 ⟨rfl, O4⟩; obtain ⟨w5, c5, hcv5, O5, W6⟩ := C4.out w4)
          | (go_at_call 12; refine W6.out.mono ?_; clear W6; rintro e w6 ⟨rfl, O6⟩)
          | (go_at_call 12; refine (W5.out _).mono ?_; clear W5; rintro e w7 ⟨rfl, O7⟩)
          | (go_at_call 17; refine (known_any _).mono ?_; rintro e w8 ⟨rfl, O8⟩)
        go_ret
        exact ⟨rfl, ((((HOO.out.then O4).then O5).then O6).alloc _ |>.then O7).then O8⟩
      · have h7' : ¬ (t.size : Int) ≤ 7 := by omega
        rw [if_neg h7] at W3
        simp only [numO] at W3
        go_wp2_with first
          | (go_at_call 12; refine W3.out.mono ?_; clear W3; rintro e w4 ⟨rfl, O4⟩; obtain ⟨w5, c5, hcv5, O5, W6⟩ := C4.out w4)
          | (go_at_call 12; refine W6.out.mono ?_; clear W6; rintro e w6 ⟨rfl, O6⟩)
          | (go_at_call 12; refine (W5.out _).mono ?_; clear W5; rintro e w7 ⟨rfl, O7⟩)
          | (go_at_call 17; refine (known_any _).mono ?_; rintro e w8 ⟨rfl, O8⟩)
        go_ret
        exact ⟨by show Ending.returned (.bool (!decide ((t.size : Int) ≤ 7))) = _; rw [decide_eq_false (by omega)]; rfl, ((((HOO.out.then O4).then O5).then O6).alloc _ |>.then O7).then O8⟩
end Go.Proofs.YtbbgdcnnacakjaaDoor
