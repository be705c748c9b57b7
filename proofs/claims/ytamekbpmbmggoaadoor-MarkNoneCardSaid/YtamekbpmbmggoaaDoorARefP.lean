/-
  The document's Parse.
-/
import Derived.Test.YtamekbpmbmggoaaDoorAParse
import Derived.Test.YtamekbpmbmggoaaDoorAName
namespace Go.Proofs.YtamekbpmbmggoaaDoor
open Go.RowKit Go.Instr

/-- Has the word come among the first k names? -/
def hit (l : List UInt8) (k : Nat) : Bool := (List.range k).any fun j => sameT l (nm j)
theorem hit_zero (l : List UInt8) : hit l 0 = false := rfl
theorem hit_succ (l : List UInt8) (k : Nat) : hit l (k + 1) = (hit l k || sameT l (nm k)) := by simp [hit, List.range_succ]
theorem hit_five (l : List UInt8) : hit l 5 = !(flagL l == 0) := by
  cases h : hit l 5 with
  | false =>
    have hn : ∀ k < 5, sameT l (nm k) = false := fun k hk => by
      have := List.any_eq_false.1 h k (List.mem_range.2 hk)
      simpa using this
    rw [flagL_no hn]; rfl
  | true =>
    obtain ⟨k, hk, hs⟩ := List.any_eq_true.1 h
    have hk5 := List.mem_range.1 hk
    rw [flagL_yes hk5 hs]
    have := Nat.pow_pos (n := k) (show 0 < 2 by omega)
    simp
def fk (l : List UInt8) (f k : Nat) : Nat := if hit l k = true then f ||| flagL l else f
theorem fk_zero (l : List UInt8) (f : Nat) : fk l f 0 = f := rfl
theorem fk_yes (l : List UInt8) (f k : Nat) (hk : k < 5) (h : sameT l (nm k) = true) : fk l f k ||| 2 ^ k = fk l f (k + 1) := by
  unfold fk
  rw [hit_succ, h, Bool.or_true, if_pos rfl, ← flagL_yes hk h]
  split
  · rw [Nat.or_assoc, Nat.or_self]
  · rfl
theorem fk_no (l : List UInt8) (f k : Nat) (h : sameT l (nm k) = false) : fk l f (k + 1) = fk l f k := by
  unfold fk
  rw [hit_succ, h, Bool.or_false]
theorem fk_lt (l : List UInt8) (f k : Nat) (h : f < 32) : fk l f k < 32 := by
  unfold fk
  split
  · exact Nat.or_lt_two_pow (n := 5) h (flagL_lt l)
  · exact h

set_option maxHeartbeats 4000000 in
set_option maxRecDepth 100000 in
theorem refParse_any {w : World} {A : Option Addr} {n c : Nat} {ls : List ByteArray} (hS : Sl w A n (strs ls)) (hn : n ≤ 140737488355328) (hb : ∀ s ∈ ls, s.size ≤ 140737488355328) :
    Calls Tryd.prog 8 #[.slice A n c] w fun e w' => e = .returned (.tuple #[.int .i64 ((parseF (datas ls) : Nat) : Int), .int .i64 ((parseE (datas ls) : Nat) : Int)]) ∧ Only [] w w' := by
  have hln : ls.length = n := by simpa using hS.len
  have HS := Lib.hid hS
  have HLN := Lib.hid hln
  have HBG := Lib.hid hb
  clear hS hln hb
  go_enter Tryd.func8, Tryd.ntmps8
  go_wp2
  go_loopw [4, 5] (fun fv iv wr => Only [] w wr ∧ ∃ f i : Nat, fv = .int .i64 (f : Int) ∧ iv = .int .i64 (i : Int) ∧ i ≤ n ∧ f < 32 ∧ parseL ((datas ls).drop i) f = parseL (datas ls) 0) (fun _ iv _ => n - (intOf iv).toNat)
  case atStart => exact ⟨Only.refl _ _, 0, 0, rfl, rfl, by omega, by omega, rfl⟩
  case round =>
    obtain ⟨hO0, f, i, rfl, rfl, hi, hf, hp⟩ := hrel
    have HO0 := Lib.hid hO0
    by_cases hlt : i < n
    · have hlt' : (i : Int) < (n : Int) := by omega
      have hil : i < ls.length := by rw [HLN.out]; exact hlt
      obtain ⟨ad, rfl, hc0⟩ := strs_at HS.out hlt hil
      have HD := Lib.hid (datas_drop hil)
      have hsz := HBG.out ls[i] (List.getElem_mem hil)
      obtain ⟨s, hs⟩ : ∃ s, ls[i] = s := ⟨_, rfl⟩
      rw [hs] at hc0 HD hsz
      obtain ⟨l, hl⟩ : ∃ l, s.data.toList = l := ⟨_, rfl⟩
      have HLL := Lib.hid hl
      rw [hl] at HD
      have HC0 := Lib.hid hc0
      have HF := Lib.hid hf
      have HST : Hid (parseL (datas ls) 0 = if flagL l = 0 then none else parseL ((datas ls).drop (i + 1)) (f ||| flagL l)) := by
        show _ = _
        rw [← hp, HD.out]
        rfl
      have HSM : Hid (∀ k < 5, ∀ W, Calls Tryd.prog 15 #[.string s, .string (St (nm k))] W fun e w' => e = .returned (.bool (sameT l (nm k))) ∧ Only [] W w') := fun k hk W => by
        have h := refSame_any s (St (nm k)) hsz (by rw [St_size]; have := nm_len k; omega) W
        rwa [hl, St_list] at h
      have HI := Lib.hid hi
      have HLT := Lib.hid hlt
      have HNB := Lib.hid hn
      have hfz : Hid (fk l f 0 = f ∧ hit l 0 = false) := ⟨rfl, rfl⟩
      clear hl hs hp hi hlt hil hsz hc0 hf hO0 hn
      go_wp2
      go_loopw [4, 6, 7] (fun fv bv kv wr2 => Only [] w wr2 ∧ ∃ (F K : Int) (k : Nat), fv = .int .i64 F ∧ bv = .bool (hit l k) ∧ kv = .int .i64 K ∧ K = (k : Int) ∧ F = ((fk l f k : Nat) : Int) ∧ k ≤ 5) (fun _ _ kv _ => 5 - (intOf kv).toNat)
      case atStart => exact ⟨HO0.out, f, 0, 0, rfl, rfl, rfl, rfl, rfl, by omega⟩
      case round =>
        obtain ⟨hO, F, K, k, rfl, rfl, rfl, hK, hF, hk5⟩ := hrel
        have hfk := fk_lt l f k HF.out
        have hc := hO.cellSome HC0.out (fun h => nomatch h)
        have HFF := Lib.hid hF
        clear hF
        rcases (by omega : k = 0 ∨ k = 1 ∨ k = 2 ∨ k = 3 ∨ k = 4 ∨ k = 5) with rfl | rfl | rfl | rfl | rfl | rfl
        · obtain rfl : K = 0 := by omega
          clear hK hk5
          have HB0 := Lib.hid (HSM.out 0 (by omega))
          cases hb : sameT l (nm 0)
          · rw [hb] at HB0
            obtain ⟨b, hbb⟩ : ∃ b, b = false := ⟨_, rfl⟩
            have HB : Hid (∀ W, Calls Tryd.prog 15 #[.string s, .string (St (nm 0))] W fun e w' => e = .returned (.bool b) ∧ Only [] W w') := by rw [hbb]; exact HB0.out
            have HR : Hid (∃ (F' K' : Int) (k' : Nat), Value.int .i64 F = .int .i64 F' ∧ Value.bool (hit l 0) = .bool (hit l k') ∧ Value.int .i64 1 = .int .i64 K' ∧ K' = (k' : Int) ∧ F' = ((fk l f k' : Nat) : Int) ∧ k' ≤ 5) :=
              ⟨F, 1, 1, rfl, by rw [hit_succ l 0, hb, Bool.or_false], rfl, rfl, by rw [fk_no l f 0 hb]; exact HFF.out, by omega⟩
            clear hb HB0 hfk
            go_wp2_with fail
            apply region_only (by kernel_rfl) (by kernel_rfl)
            apply rel_val (hrf := Tk_refl)
            case hw => rfl
            case hy => intro wS hN hF; skip; first | (go_simp; done) | (go_simp; with_reducible rfl)
            case' hk => skip
            try simp only [Act.put, List.setIfInBounds_toArray, List.set_cons_zero, List.set_cons_succ]
            apply rel_val (hrf := Tk_refl)
            case hw => rfl
            case hy => intro wS hN hF; skip; first | (go_simp; done) | (go_simp; with_reducible rfl)
            case' hk => skip
            try simp only [Act.put, List.setIfInBounds_toArray, List.set_cons_zero, List.set_cons_succ]
            apply rel_val (hrf := Tk_refl)
            case hw => rfl
            case hy => intro wS hN hF; skip; first | (go_simp; done) | (go_simp; with_reducible rfl)
            case' hk => skip
            try simp only [Act.put, List.setIfInBounds_toArray, List.set_cons_zero, List.set_cons_succ]
            apply rel_val (v := .string s) (hrf := Tk_refl)
            case hw => rfl
            case hy =>
              intro wS hN hF
              have hc2 := (hN.pre (by kernel_rfl)).cellSome (p := ad.add i) hc (fun h => nomatch h)
              first | (go_simp; done) | (go_simp; with_reducible rfl)
            case' hk => skip
            try simp only [Act.put, List.setIfInBounds_toArray, List.set_cons_zero, List.set_cons_succ]
            apply rel_val (hrf := Tk_refl)
            case hw => rfl
            case hy => intro wS hN hF; skip; first | (go_simp; done) | (go_simp; with_reducible rfl)
            case' hk => skip
            try simp only [Act.put, List.setIfInBounds_toArray, List.set_cons_zero, List.set_cons_succ]
            apply rel_call (v := .string (St (nm 0))) (f := 16) (args := #[.int .i64 0])
            case hw => rfl
            case hy => intro wS hN hF; go_simp
            case hc => intro wS hN hF; exact call_only (name_any 0 (by omega) wS)
            case' hk => skip
            try simp only [Act.put, List.setIfInBounds_toArray, List.set_cons_zero, List.set_cons_succ]
            apply rel_call (v := .bool b) (f := 15) (args := #[.string s, .string (St (nm 0))])
            case hw => rfl
            case hy => intro wS hN hF; go_simp
            case hc => intro wS hN hF; exact call_only (HB.out wS)
            case' hk => skip
            try simp only [Act.put, List.setIfInBounds_toArray, List.set_cons_zero, List.set_cons_succ]
            refine rel_end ?_
            intro wS hO2 hF2
            clear hF2
            have hO3 := Lib.hid (hO.drew.then (hO2.only))
            subst hbb
            go_wp2
            exact ⟨⟨hO3.out, HR.out⟩, by simp [intOf]⟩
          · rw [hb] at HB0
            obtain ⟨b, hbb⟩ : ∃ b, b = true := ⟨_, rfl⟩
            have HB : Hid (∀ W, Calls Tryd.prog 15 #[.string s, .string (St (nm 0))] W fun e w' => e = .returned (.bool b) ∧ Only [] W w') := by rw [hbb]; exact HB0.out
            have hG : F = ((fk l f 0 : Nat) : Int) := HFF.out
            have hor : bits .or .i64 F 1 = ((fk l f 1 : Nat) : Int) := by
              rw [hG, ← fk_yes l f 0 (by omega) hb]
              exact i64_or_nat _ 1 (by omega) (by omega)
            obtain ⟨G, hGG⟩ : ∃ G : Int, ((fk l f 1 : Nat) : Int) = G := ⟨_, rfl⟩
            have HR : Hid (∃ (F' K' : Int) (k' : Nat), Value.int .i64 G = .int .i64 F' ∧ Value.bool true = .bool (hit l k') ∧ Value.int .i64 1 = .int .i64 K' ∧ K' = (k' : Int) ∧ F' = ((fk l f k' : Nat) : Int) ∧ k' ≤ 5) :=
              ⟨G, 1, 1, rfl, by rw [hit_succ l 0, hb, Bool.or_true], rfl, rfl, hGG.symm, by omega⟩
            rw [hGG] at hor
            clear hb HB0 hfk hG hGG
            go_wp2_with fail
            apply region_only (by kernel_rfl) (by kernel_rfl)
            apply rel_val (hrf := Tk_refl)
            case hw => rfl
            case hy => intro wS hN hF; skip; first | (go_simp; done) | (go_simp; with_reducible rfl)
            case' hk => skip
            try simp only [Act.put, List.setIfInBounds_toArray, List.set_cons_zero, List.set_cons_succ]
            apply rel_val (hrf := Tk_refl)
            case hw => rfl
            case hy => intro wS hN hF; skip; first | (go_simp; done) | (go_simp; with_reducible rfl)
            case' hk => skip
            try simp only [Act.put, List.setIfInBounds_toArray, List.set_cons_zero, List.set_cons_succ]
            apply rel_val (hrf := Tk_refl)
            case hw => rfl
            case hy => intro wS hN hF; skip; first | (go_simp; done) | (go_simp; with_reducible rfl)
            case' hk => skip
            try simp only [Act.put, List.setIfInBounds_toArray, List.set_cons_zero, List.set_cons_succ]
            apply rel_val (v := .string s) (hrf := Tk_refl)
            case hw => rfl
            case hy =>
              intro wS hN hF
              have hc2 := (hN.pre (by kernel_rfl)).cellSome (p := ad.add i) hc (fun h => nomatch h)
              first | (go_simp; done) | (go_simp; with_reducible rfl)
            case' hk => skip
            try simp only [Act.put, List.setIfInBounds_toArray, List.set_cons_zero, List.set_cons_succ]
            apply rel_val (hrf := Tk_refl)
            case hw => rfl
            case hy => intro wS hN hF; skip; first | (go_simp; done) | (go_simp; with_reducible rfl)
            case' hk => skip
            try simp only [Act.put, List.setIfInBounds_toArray, List.set_cons_zero, List.set_cons_succ]
            apply rel_call (v := .string (St (nm 0))) (f := 16) (args := #[.int .i64 0])
            case hw => rfl
            case hy => intro wS hN hF; go_simp
            case hc => intro wS hN hF; exact call_only (name_any 0 (by omega) wS)
            case' hk => skip
            try simp only [Act.put, List.setIfInBounds_toArray, List.set_cons_zero, List.set_cons_succ]
            apply rel_call (v := .bool b) (f := 15) (args := #[.string s, .string (St (nm 0))])
            case hw => rfl
            case hy => intro wS hN hF; go_simp
            case hc => intro wS hN hF; exact call_only (HB.out wS)
            case' hk => skip
            try simp only [Act.put, List.setIfInBounds_toArray, List.set_cons_zero, List.set_cons_succ]
            refine rel_end ?_
            intro wS hO2 hF2
            clear hF2
            have hO3 := Lib.hid (hO.drew.then (hO2.only))
            subst hbb
            go_wp2
            exact ⟨⟨hO3.out, HR.out⟩, by simp [intOf]⟩
        · obtain rfl : K = 1 := by omega
          clear hK hk5
          have HB0 := Lib.hid (HSM.out 1 (by omega))
          cases hb : sameT l (nm 1)
          · rw [hb] at HB0
            obtain ⟨b, hbb⟩ : ∃ b, b = false := ⟨_, rfl⟩
            have HB : Hid (∀ W, Calls Tryd.prog 15 #[.string s, .string (St (nm 1))] W fun e w' => e = .returned (.bool b) ∧ Only [] W w') := by rw [hbb]; exact HB0.out
            have HR : Hid (∃ (F' K' : Int) (k' : Nat), Value.int .i64 F = .int .i64 F' ∧ Value.bool (hit l 1) = .bool (hit l k') ∧ Value.int .i64 2 = .int .i64 K' ∧ K' = (k' : Int) ∧ F' = ((fk l f k' : Nat) : Int) ∧ k' ≤ 5) :=
              ⟨F, 2, 2, rfl, by rw [hit_succ l 1, hb, Bool.or_false], rfl, rfl, by rw [fk_no l f 1 hb]; exact HFF.out, by omega⟩
            clear hb HB0 hfk
            go_wp2_with fail
            apply region_only (by kernel_rfl) (by kernel_rfl)
            apply rel_val (hrf := Tk_refl)
            case hw => rfl
            case hy => intro wS hN hF; skip; first | (go_simp; done) | (go_simp; with_reducible rfl)
            case' hk => skip
            try simp only [Act.put, List.setIfInBounds_toArray, List.set_cons_zero, List.set_cons_succ]
            apply rel_val (hrf := Tk_refl)
            case hw => rfl
            case hy => intro wS hN hF; skip; first | (go_simp; done) | (go_simp; with_reducible rfl)
            case' hk => skip
            try simp only [Act.put, List.setIfInBounds_toArray, List.set_cons_zero, List.set_cons_succ]
            apply rel_val (hrf := Tk_refl)
            case hw => rfl
            case hy => intro wS hN hF; skip; first | (go_simp; done) | (go_simp; with_reducible rfl)
            case' hk => skip
            try simp only [Act.put, List.setIfInBounds_toArray, List.set_cons_zero, List.set_cons_succ]
            apply rel_val (v := .string s) (hrf := Tk_refl)
            case hw => rfl
            case hy =>
              intro wS hN hF
              have hc2 := (hN.pre (by kernel_rfl)).cellSome (p := ad.add i) hc (fun h => nomatch h)
              first | (go_simp; done) | (go_simp; with_reducible rfl)
            case' hk => skip
            try simp only [Act.put, List.setIfInBounds_toArray, List.set_cons_zero, List.set_cons_succ]
            apply rel_val (hrf := Tk_refl)
            case hw => rfl
            case hy => intro wS hN hF; skip; first | (go_simp; done) | (go_simp; with_reducible rfl)
            case' hk => skip
            try simp only [Act.put, List.setIfInBounds_toArray, List.set_cons_zero, List.set_cons_succ]
            apply rel_call (v := .string (St (nm 1))) (f := 16) (args := #[.int .i64 1])
            case hw => rfl
            case hy => intro wS hN hF; go_simp
            case hc => intro wS hN hF; exact call_only (name_any 1 (by omega) wS)
            case' hk => skip
            try simp only [Act.put, List.setIfInBounds_toArray, List.set_cons_zero, List.set_cons_succ]
            apply rel_call (v := .bool b) (f := 15) (args := #[.string s, .string (St (nm 1))])
            case hw => rfl
            case hy => intro wS hN hF; go_simp
            case hc => intro wS hN hF; exact call_only (HB.out wS)
            case' hk => skip
            try simp only [Act.put, List.setIfInBounds_toArray, List.set_cons_zero, List.set_cons_succ]
            refine rel_end ?_
            intro wS hO2 hF2
            clear hF2
            have hO3 := Lib.hid (hO.drew.then (hO2.only))
            subst hbb
            go_wp2
            exact ⟨⟨hO3.out, HR.out⟩, by simp [intOf]⟩
          · rw [hb] at HB0
            obtain ⟨b, hbb⟩ : ∃ b, b = true := ⟨_, rfl⟩
            have HB : Hid (∀ W, Calls Tryd.prog 15 #[.string s, .string (St (nm 1))] W fun e w' => e = .returned (.bool b) ∧ Only [] W w') := by rw [hbb]; exact HB0.out
            have hG : F = ((fk l f 1 : Nat) : Int) := HFF.out
            have hor : bits .or .i64 F 2 = ((fk l f 2 : Nat) : Int) := by
              rw [hG, ← fk_yes l f 1 (by omega) hb]
              exact i64_or_nat _ 2 (by omega) (by omega)
            obtain ⟨G, hGG⟩ : ∃ G : Int, ((fk l f 2 : Nat) : Int) = G := ⟨_, rfl⟩
            have HR : Hid (∃ (F' K' : Int) (k' : Nat), Value.int .i64 G = .int .i64 F' ∧ Value.bool true = .bool (hit l k') ∧ Value.int .i64 2 = .int .i64 K' ∧ K' = (k' : Int) ∧ F' = ((fk l f k' : Nat) : Int) ∧ k' ≤ 5) :=
              ⟨G, 2, 2, rfl, by rw [hit_succ l 1, hb, Bool.or_true], rfl, rfl, hGG.symm, by omega⟩
            rw [hGG] at hor
            clear hb HB0 hfk hG hGG
            go_wp2_with fail
            apply region_only (by kernel_rfl) (by kernel_rfl)
            apply rel_val (hrf := Tk_refl)
            case hw => rfl
            case hy => intro wS hN hF; skip; first | (go_simp; done) | (go_simp; with_reducible rfl)
            case' hk => skip
            try simp only [Act.put, List.setIfInBounds_toArray, List.set_cons_zero, List.set_cons_succ]
            apply rel_val (hrf := Tk_refl)
            case hw => rfl
            case hy => intro wS hN hF; skip; first | (go_simp; done) | (go_simp; with_reducible rfl)
            case' hk => skip
            try simp only [Act.put, List.setIfInBounds_toArray, List.set_cons_zero, List.set_cons_succ]
            apply rel_val (hrf := Tk_refl)
            case hw => rfl
            case hy => intro wS hN hF; skip; first | (go_simp; done) | (go_simp; with_reducible rfl)
            case' hk => skip
            try simp only [Act.put, List.setIfInBounds_toArray, List.set_cons_zero, List.set_cons_succ]
            apply rel_val (v := .string s) (hrf := Tk_refl)
            case hw => rfl
            case hy =>
              intro wS hN hF
              have hc2 := (hN.pre (by kernel_rfl)).cellSome (p := ad.add i) hc (fun h => nomatch h)
              first | (go_simp; done) | (go_simp; with_reducible rfl)
            case' hk => skip
            try simp only [Act.put, List.setIfInBounds_toArray, List.set_cons_zero, List.set_cons_succ]
            apply rel_val (hrf := Tk_refl)
            case hw => rfl
            case hy => intro wS hN hF; skip; first | (go_simp; done) | (go_simp; with_reducible rfl)
            case' hk => skip
            try simp only [Act.put, List.setIfInBounds_toArray, List.set_cons_zero, List.set_cons_succ]
            apply rel_call (v := .string (St (nm 1))) (f := 16) (args := #[.int .i64 1])
            case hw => rfl
            case hy => intro wS hN hF; go_simp
            case hc => intro wS hN hF; exact call_only (name_any 1 (by omega) wS)
            case' hk => skip
            try simp only [Act.put, List.setIfInBounds_toArray, List.set_cons_zero, List.set_cons_succ]
            apply rel_call (v := .bool b) (f := 15) (args := #[.string s, .string (St (nm 1))])
            case hw => rfl
            case hy => intro wS hN hF; go_simp
            case hc => intro wS hN hF; exact call_only (HB.out wS)
            case' hk => skip
            try simp only [Act.put, List.setIfInBounds_toArray, List.set_cons_zero, List.set_cons_succ]
            refine rel_end ?_
            intro wS hO2 hF2
            clear hF2
            have hO3 := Lib.hid (hO.drew.then (hO2.only))
            subst hbb
            go_wp2
            exact ⟨⟨hO3.out, HR.out⟩, by simp [intOf]⟩
        · obtain rfl : K = 2 := by omega
          clear hK hk5
          have HB0 := Lib.hid (HSM.out 2 (by omega))
          cases hb : sameT l (nm 2)
          · rw [hb] at HB0
            obtain ⟨b, hbb⟩ : ∃ b, b = false := ⟨_, rfl⟩
            have HB : Hid (∀ W, Calls Tryd.prog 15 #[.string s, .string (St (nm 2))] W fun e w' => e = .returned (.bool b) ∧ Only [] W w') := by rw [hbb]; exact HB0.out
            have HR : Hid (∃ (F' K' : Int) (k' : Nat), Value.int .i64 F = .int .i64 F' ∧ Value.bool (hit l 2) = .bool (hit l k') ∧ Value.int .i64 3 = .int .i64 K' ∧ K' = (k' : Int) ∧ F' = ((fk l f k' : Nat) : Int) ∧ k' ≤ 5) :=
              ⟨F, 3, 3, rfl, by rw [hit_succ l 2, hb, Bool.or_false], rfl, rfl, by rw [fk_no l f 2 hb]; exact HFF.out, by omega⟩
            clear hb HB0 hfk
            go_wp2_with fail
            apply region_only (by kernel_rfl) (by kernel_rfl)
            apply rel_val (hrf := Tk_refl)
            case hw => rfl
            case hy => intro wS hN hF; skip; first | (go_simp; done) | (go_simp; with_reducible rfl)
            case' hk => skip
            try simp only [Act.put, List.setIfInBounds_toArray, List.set_cons_zero, List.set_cons_succ]
            apply rel_val (hrf := Tk_refl)
            case hw => rfl
            case hy => intro wS hN hF; skip; first | (go_simp; done) | (go_simp; with_reducible rfl)
            case' hk => skip
            try simp only [Act.put, List.setIfInBounds_toArray, List.set_cons_zero, List.set_cons_succ]
            apply rel_val (hrf := Tk_refl)
            case hw => rfl
            case hy => intro wS hN hF; skip; first | (go_simp; done) | (go_simp; with_reducible rfl)
            case' hk => skip
            try simp only [Act.put, List.setIfInBounds_toArray, List.set_cons_zero, List.set_cons_succ]
            apply rel_val (v := .string s) (hrf := Tk_refl)
            case hw => rfl
            case hy =>
              intro wS hN hF
              have hc2 := (hN.pre (by kernel_rfl)).cellSome (p := ad.add i) hc (fun h => nomatch h)
              first | (go_simp; done) | (go_simp; with_reducible rfl)
            case' hk => skip
            try simp only [Act.put, List.setIfInBounds_toArray, List.set_cons_zero, List.set_cons_succ]
            apply rel_val (hrf := Tk_refl)
            case hw => rfl
            case hy => intro wS hN hF; skip; first | (go_simp; done) | (go_simp; with_reducible rfl)
            case' hk => skip
            try simp only [Act.put, List.setIfInBounds_toArray, List.set_cons_zero, List.set_cons_succ]
            apply rel_call (v := .string (St (nm 2))) (f := 16) (args := #[.int .i64 2])
            case hw => rfl
            case hy => intro wS hN hF; go_simp
            case hc => intro wS hN hF; exact call_only (name_any 2 (by omega) wS)
            case' hk => skip
            try simp only [Act.put, List.setIfInBounds_toArray, List.set_cons_zero, List.set_cons_succ]
            apply rel_call (v := .bool b) (f := 15) (args := #[.string s, .string (St (nm 2))])
            case hw => rfl
            case hy => intro wS hN hF; go_simp
            case hc => intro wS hN hF; exact call_only (HB.out wS)
            case' hk => skip
            try simp only [Act.put, List.setIfInBounds_toArray, List.set_cons_zero, List.set_cons_succ]
            refine rel_end ?_
            intro wS hO2 hF2
            clear hF2
            have hO3 := Lib.hid (hO.drew.then (hO2.only))
            subst hbb
            go_wp2
            exact ⟨⟨hO3.out, HR.out⟩, by simp [intOf]⟩
          · rw [hb] at HB0
            obtain ⟨b, hbb⟩ : ∃ b, b = true := ⟨_, rfl⟩
            have HB : Hid (∀ W, Calls Tryd.prog 15 #[.string s, .string (St (nm 2))] W fun e w' => e = .returned (.bool b) ∧ Only [] W w') := by rw [hbb]; exact HB0.out
            have hG : F = ((fk l f 2 : Nat) : Int) := HFF.out
            have hor : bits .or .i64 F 4 = ((fk l f 3 : Nat) : Int) := by
              rw [hG, ← fk_yes l f 2 (by omega) hb]
              exact i64_or_nat _ 4 (by omega) (by omega)
            obtain ⟨G, hGG⟩ : ∃ G : Int, ((fk l f 3 : Nat) : Int) = G := ⟨_, rfl⟩
            have HR : Hid (∃ (F' K' : Int) (k' : Nat), Value.int .i64 G = .int .i64 F' ∧ Value.bool true = .bool (hit l k') ∧ Value.int .i64 3 = .int .i64 K' ∧ K' = (k' : Int) ∧ F' = ((fk l f k' : Nat) : Int) ∧ k' ≤ 5) :=
              ⟨G, 3, 3, rfl, by rw [hit_succ l 2, hb, Bool.or_true], rfl, rfl, hGG.symm, by omega⟩
            rw [hGG] at hor
            clear hb HB0 hfk hG hGG
            go_wp2_with fail
            apply region_only (by kernel_rfl) (by kernel_rfl)
            apply rel_val (hrf := Tk_refl)
            case hw => rfl
            case hy => intro wS hN hF; skip; first | (go_simp; done) | (go_simp; with_reducible rfl)
            case' hk => skip
            try simp only [Act.put, List.setIfInBounds_toArray, List.set_cons_zero, List.set_cons_succ]
            apply rel_val (hrf := Tk_refl)
            case hw => rfl
            case hy => intro wS hN hF; skip; first | (go_simp; done) | (go_simp; with_reducible rfl)
            case' hk => skip
            try simp only [Act.put, List.setIfInBounds_toArray, List.set_cons_zero, List.set_cons_succ]
            apply rel_val (hrf := Tk_refl)
            case hw => rfl
            case hy => intro wS hN hF; skip; first | (go_simp; done) | (go_simp; with_reducible rfl)
            case' hk => skip
            try simp only [Act.put, List.setIfInBounds_toArray, List.set_cons_zero, List.set_cons_succ]
            apply rel_val (v := .string s) (hrf := Tk_refl)
            case hw => rfl
            case hy =>
              intro wS hN hF
              have hc2 := (hN.pre (by kernel_rfl)).cellSome (p := ad.add i) hc (fun h => nomatch h)
              first | (go_simp; done) | (go_simp; with_reducible rfl)
            case' hk => skip
            try simp only [Act.put, List.setIfInBounds_toArray, List.set_cons_zero, List.set_cons_succ]
            apply rel_val (hrf := Tk_refl)
            case hw => rfl
            case hy => intro wS hN hF; skip; first | (go_simp; done) | (go_simp; with_reducible rfl)
            case' hk => skip
            try simp only [Act.put, List.setIfInBounds_toArray, List.set_cons_zero, List.set_cons_succ]
            apply rel_call (v := .string (St (nm 2))) (f := 16) (args := #[.int .i64 2])
            case hw => rfl
            case hy => intro wS hN hF; go_simp
            case hc => intro wS hN hF; exact call_only (name_any 2 (by omega) wS)
            case' hk => skip
            try simp only [Act.put, List.setIfInBounds_toArray, List.set_cons_zero, List.set_cons_succ]
            apply rel_call (v := .bool b) (f := 15) (args := #[.string s, .string (St (nm 2))])
            case hw => rfl
            case hy => intro wS hN hF; go_simp
            case hc => intro wS hN hF; exact call_only (HB.out wS)
            case' hk => skip
            try simp only [Act.put, List.setIfInBounds_toArray, List.set_cons_zero, List.set_cons_succ]
            refine rel_end ?_
            intro wS hO2 hF2
            clear hF2
            have hO3 := Lib.hid (hO.drew.then (hO2.only))
            subst hbb
            go_wp2
            exact ⟨⟨hO3.out, HR.out⟩, by simp [intOf]⟩
        · obtain rfl : K = 3 := by omega
          clear hK hk5
          have HB0 := Lib.hid (HSM.out 3 (by omega))
          cases hb : sameT l (nm 3)
          · rw [hb] at HB0
            obtain ⟨b, hbb⟩ : ∃ b, b = false := ⟨_, rfl⟩
            have HB : Hid (∀ W, Calls Tryd.prog 15 #[.string s, .string (St (nm 3))] W fun e w' => e = .returned (.bool b) ∧ Only [] W w') := by rw [hbb]; exact HB0.out
            have HR : Hid (∃ (F' K' : Int) (k' : Nat), Value.int .i64 F = .int .i64 F' ∧ Value.bool (hit l 3) = .bool (hit l k') ∧ Value.int .i64 4 = .int .i64 K' ∧ K' = (k' : Int) ∧ F' = ((fk l f k' : Nat) : Int) ∧ k' ≤ 5) :=
              ⟨F, 4, 4, rfl, by rw [hit_succ l 3, hb, Bool.or_false], rfl, rfl, by rw [fk_no l f 3 hb]; exact HFF.out, by omega⟩
            clear hb HB0 hfk
            go_wp2_with fail
            apply region_only (by kernel_rfl) (by kernel_rfl)
            apply rel_val (hrf := Tk_refl)
            case hw => rfl
            case hy => intro wS hN hF; skip; first | (go_simp; done) | (go_simp; with_reducible rfl)
            case' hk => skip
            try simp only [Act.put, List.setIfInBounds_toArray, List.set_cons_zero, List.set_cons_succ]
            apply rel_val (hrf := Tk_refl)
            case hw => rfl
            case hy => intro wS hN hF; skip; first | (go_simp; done) | (go_simp; with_reducible rfl)
            case' hk => skip
            try simp only [Act.put, List.setIfInBounds_toArray, List.set_cons_zero, List.set_cons_succ]
            apply rel_val (hrf := Tk_refl)
            case hw => rfl
            case hy => intro wS hN hF; skip; first | (go_simp; done) | (go_simp; with_reducible rfl)
            case' hk => skip
            try simp only [Act.put, List.setIfInBounds_toArray, List.set_cons_zero, List.set_cons_succ]
            apply rel_val (v := .string s) (hrf := Tk_refl)
            case hw => rfl
            case hy =>
              intro wS hN hF
              have hc2 := (hN.pre (by kernel_rfl)).cellSome (p := ad.add i) hc (fun h => nomatch h)
              first | (go_simp; done) | (go_simp; with_reducible rfl)
            case' hk => skip
            try simp only [Act.put, List.setIfInBounds_toArray, List.set_cons_zero, List.set_cons_succ]
            apply rel_val (hrf := Tk_refl)
            case hw => rfl
            case hy => intro wS hN hF; skip; first | (go_simp; done) | (go_simp; with_reducible rfl)
            case' hk => skip
            try simp only [Act.put, List.setIfInBounds_toArray, List.set_cons_zero, List.set_cons_succ]
            apply rel_call (v := .string (St (nm 3))) (f := 16) (args := #[.int .i64 3])
            case hw => rfl
            case hy => intro wS hN hF; go_simp
            case hc => intro wS hN hF; exact call_only (name_any 3 (by omega) wS)
            case' hk => skip
            try simp only [Act.put, List.setIfInBounds_toArray, List.set_cons_zero, List.set_cons_succ]
            apply rel_call (v := .bool b) (f := 15) (args := #[.string s, .string (St (nm 3))])
            case hw => rfl
            case hy => intro wS hN hF; go_simp
            case hc => intro wS hN hF; exact call_only (HB.out wS)
            case' hk => skip
            try simp only [Act.put, List.setIfInBounds_toArray, List.set_cons_zero, List.set_cons_succ]
            refine rel_end ?_
            intro wS hO2 hF2
            clear hF2
            have hO3 := Lib.hid (hO.drew.then (hO2.only))
            subst hbb
            go_wp2
            exact ⟨⟨hO3.out, HR.out⟩, by simp [intOf]⟩
          · rw [hb] at HB0
            obtain ⟨b, hbb⟩ : ∃ b, b = true := ⟨_, rfl⟩
            have HB : Hid (∀ W, Calls Tryd.prog 15 #[.string s, .string (St (nm 3))] W fun e w' => e = .returned (.bool b) ∧ Only [] W w') := by rw [hbb]; exact HB0.out
            have hG : F = ((fk l f 3 : Nat) : Int) := HFF.out
            have hor : bits .or .i64 F 8 = ((fk l f 4 : Nat) : Int) := by
              rw [hG, ← fk_yes l f 3 (by omega) hb]
              exact i64_or_nat _ 8 (by omega) (by omega)
            obtain ⟨G, hGG⟩ : ∃ G : Int, ((fk l f 4 : Nat) : Int) = G := ⟨_, rfl⟩
            have HR : Hid (∃ (F' K' : Int) (k' : Nat), Value.int .i64 G = .int .i64 F' ∧ Value.bool true = .bool (hit l k') ∧ Value.int .i64 4 = .int .i64 K' ∧ K' = (k' : Int) ∧ F' = ((fk l f k' : Nat) : Int) ∧ k' ≤ 5) :=
              ⟨G, 4, 4, rfl, by rw [hit_succ l 3, hb, Bool.or_true], rfl, rfl, hGG.symm, by omega⟩
            rw [hGG] at hor
            clear hb HB0 hfk hG hGG
            go_wp2_with fail
            apply region_only (by kernel_rfl) (by kernel_rfl)
            apply rel_val (hrf := Tk_refl)
            case hw => rfl
            case hy => intro wS hN hF; skip; first | (go_simp; done) | (go_simp; with_reducible rfl)
            case' hk => skip
            try simp only [Act.put, List.setIfInBounds_toArray, List.set_cons_zero, List.set_cons_succ]
            apply rel_val (hrf := Tk_refl)
            case hw => rfl
            case hy => intro wS hN hF; skip; first | (go_simp; done) | (go_simp; with_reducible rfl)
            case' hk => skip
            try simp only [Act.put, List.setIfInBounds_toArray, List.set_cons_zero, List.set_cons_succ]
            apply rel_val (hrf := Tk_refl)
            case hw => rfl
            case hy => intro wS hN hF; skip; first | (go_simp; done) | (go_simp; with_reducible rfl)
            case' hk => skip
            try simp only [Act.put, List.setIfInBounds_toArray, List.set_cons_zero, List.set_cons_succ]
            apply rel_val (v := .string s) (hrf := Tk_refl)
            case hw => rfl
            case hy =>
              intro wS hN hF
              have hc2 := (hN.pre (by kernel_rfl)).cellSome (p := ad.add i) hc (fun h => nomatch h)
              first | (go_simp; done) | (go_simp; with_reducible rfl)
            case' hk => skip
            try simp only [Act.put, List.setIfInBounds_toArray, List.set_cons_zero, List.set_cons_succ]
            apply rel_val (hrf := Tk_refl)
            case hw => rfl
            case hy => intro wS hN hF; skip; first | (go_simp; done) | (go_simp; with_reducible rfl)
            case' hk => skip
            try simp only [Act.put, List.setIfInBounds_toArray, List.set_cons_zero, List.set_cons_succ]
            apply rel_call (v := .string (St (nm 3))) (f := 16) (args := #[.int .i64 3])
            case hw => rfl
            case hy => intro wS hN hF; go_simp
            case hc => intro wS hN hF; exact call_only (name_any 3 (by omega) wS)
            case' hk => skip
            try simp only [Act.put, List.setIfInBounds_toArray, List.set_cons_zero, List.set_cons_succ]
            apply rel_call (v := .bool b) (f := 15) (args := #[.string s, .string (St (nm 3))])
            case hw => rfl
            case hy => intro wS hN hF; go_simp
            case hc => intro wS hN hF; exact call_only (HB.out wS)
            case' hk => skip
            try simp only [Act.put, List.setIfInBounds_toArray, List.set_cons_zero, List.set_cons_succ]
            refine rel_end ?_
            intro wS hO2 hF2
            clear hF2
            have hO3 := Lib.hid (hO.drew.then (hO2.only))
            subst hbb
            go_wp2
            exact ⟨⟨hO3.out, HR.out⟩, by simp [intOf]⟩
        · obtain rfl : K = 4 := by omega
          clear hK hk5
          have HB0 := Lib.hid (HSM.out 4 (by omega))
          cases hb : sameT l (nm 4)
          · rw [hb] at HB0
            obtain ⟨b, hbb⟩ : ∃ b, b = false := ⟨_, rfl⟩
            have HB : Hid (∀ W, Calls Tryd.prog 15 #[.string s, .string (St (nm 4))] W fun e w' => e = .returned (.bool b) ∧ Only [] W w') := by rw [hbb]; exact HB0.out
            have HR : Hid (∃ (F' K' : Int) (k' : Nat), Value.int .i64 F = .int .i64 F' ∧ Value.bool (hit l 4) = .bool (hit l k') ∧ Value.int .i64 5 = .int .i64 K' ∧ K' = (k' : Int) ∧ F' = ((fk l f k' : Nat) : Int) ∧ k' ≤ 5) :=
              ⟨F, 5, 5, rfl, by rw [hit_succ l 4, hb, Bool.or_false], rfl, rfl, by rw [fk_no l f 4 hb]; exact HFF.out, by omega⟩
            clear hb HB0 hfk
            go_wp2_with fail
            apply region_only (by kernel_rfl) (by kernel_rfl)
            apply rel_val (hrf := Tk_refl)
            case hw => rfl
            case hy => intro wS hN hF; skip; first | (go_simp; done) | (go_simp; with_reducible rfl)
            case' hk => skip
            try simp only [Act.put, List.setIfInBounds_toArray, List.set_cons_zero, List.set_cons_succ]
            apply rel_val (hrf := Tk_refl)
            case hw => rfl
            case hy => intro wS hN hF; skip; first | (go_simp; done) | (go_simp; with_reducible rfl)
            case' hk => skip
            try simp only [Act.put, List.setIfInBounds_toArray, List.set_cons_zero, List.set_cons_succ]
            apply rel_val (hrf := Tk_refl)
            case hw => rfl
            case hy => intro wS hN hF; skip; first | (go_simp; done) | (go_simp; with_reducible rfl)
            case' hk => skip
            try simp only [Act.put, List.setIfInBounds_toArray, List.set_cons_zero, List.set_cons_succ]
            apply rel_val (v := .string s) (hrf := Tk_refl)
            case hw => rfl
            case hy =>
              intro wS hN hF
              have hc2 := (hN.pre (by kernel_rfl)).cellSome (p := ad.add i) hc (fun h => nomatch h)
              first | (go_simp; done) | (go_simp; with_reducible rfl)
            case' hk => skip
            try simp only [Act.put, List.setIfInBounds_toArray, List.set_cons_zero, List.set_cons_succ]
            apply rel_val (hrf := Tk_refl)
            case hw => rfl
            case hy => intro wS hN hF; skip; first | (go_simp; done) | (go_simp; with_reducible rfl)
            case' hk => skip
            try simp only [Act.put, List.setIfInBounds_toArray, List.set_cons_zero, List.set_cons_succ]
            apply rel_call (v := .string (St (nm 4))) (f := 16) (args := #[.int .i64 4])
            case hw => rfl
            case hy => intro wS hN hF; go_simp
            case hc => intro wS hN hF; exact call_only (name_any 4 (by omega) wS)
            case' hk => skip
            try simp only [Act.put, List.setIfInBounds_toArray, List.set_cons_zero, List.set_cons_succ]
            apply rel_call (v := .bool b) (f := 15) (args := #[.string s, .string (St (nm 4))])
            case hw => rfl
            case hy => intro wS hN hF; go_simp
            case hc => intro wS hN hF; exact call_only (HB.out wS)
            case' hk => skip
            try simp only [Act.put, List.setIfInBounds_toArray, List.set_cons_zero, List.set_cons_succ]
            refine rel_end ?_
            intro wS hO2 hF2
            clear hF2
            have hO3 := Lib.hid (hO.drew.then (hO2.only))
            subst hbb
            go_wp2
            exact ⟨⟨hO3.out, HR.out⟩, by simp [intOf]⟩
          · rw [hb] at HB0
            obtain ⟨b, hbb⟩ : ∃ b, b = true := ⟨_, rfl⟩
            have HB : Hid (∀ W, Calls Tryd.prog 15 #[.string s, .string (St (nm 4))] W fun e w' => e = .returned (.bool b) ∧ Only [] W w') := by rw [hbb]; exact HB0.out
            have hG : F = ((fk l f 4 : Nat) : Int) := HFF.out
            have hor : bits .or .i64 F 16 = ((fk l f 5 : Nat) : Int) := by
              rw [hG, ← fk_yes l f 4 (by omega) hb]
              exact i64_or_nat _ 16 (by omega) (by omega)
            obtain ⟨G, hGG⟩ : ∃ G : Int, ((fk l f 5 : Nat) : Int) = G := ⟨_, rfl⟩
            have HR : Hid (∃ (F' K' : Int) (k' : Nat), Value.int .i64 G = .int .i64 F' ∧ Value.bool true = .bool (hit l k') ∧ Value.int .i64 5 = .int .i64 K' ∧ K' = (k' : Int) ∧ F' = ((fk l f k' : Nat) : Int) ∧ k' ≤ 5) :=
              ⟨G, 5, 5, rfl, by rw [hit_succ l 4, hb, Bool.or_true], rfl, rfl, hGG.symm, by omega⟩
            rw [hGG] at hor
            clear hb HB0 hfk hG hGG
            go_wp2_with fail
            apply region_only (by kernel_rfl) (by kernel_rfl)
            apply rel_val (hrf := Tk_refl)
            case hw => rfl
            case hy => intro wS hN hF; skip; first | (go_simp; done) | (go_simp; with_reducible rfl)
            case' hk => skip
            try simp only [Act.put, List.setIfInBounds_toArray, List.set_cons_zero, List.set_cons_succ]
            apply rel_val (hrf := Tk_refl)
            case hw => rfl
            case hy => intro wS hN hF; skip; first | (go_simp; done) | (go_simp; with_reducible rfl)
            case' hk => skip
            try simp only [Act.put, List.setIfInBounds_toArray, List.set_cons_zero, List.set_cons_succ]
            apply rel_val (hrf := Tk_refl)
            case hw => rfl
            case hy => intro wS hN hF; skip; first | (go_simp; done) | (go_simp; with_reducible rfl)
            case' hk => skip
            try simp only [Act.put, List.setIfInBounds_toArray, List.set_cons_zero, List.set_cons_succ]
            apply rel_val (v := .string s) (hrf := Tk_refl)
            case hw => rfl
            case hy =>
              intro wS hN hF
              have hc2 := (hN.pre (by kernel_rfl)).cellSome (p := ad.add i) hc (fun h => nomatch h)
              first | (go_simp; done) | (go_simp; with_reducible rfl)
            case' hk => skip
            try simp only [Act.put, List.setIfInBounds_toArray, List.set_cons_zero, List.set_cons_succ]
            apply rel_val (hrf := Tk_refl)
            case hw => rfl
            case hy => intro wS hN hF; skip; first | (go_simp; done) | (go_simp; with_reducible rfl)
            case' hk => skip
            try simp only [Act.put, List.setIfInBounds_toArray, List.set_cons_zero, List.set_cons_succ]
            apply rel_call (v := .string (St (nm 4))) (f := 16) (args := #[.int .i64 4])
            case hw => rfl
            case hy => intro wS hN hF; go_simp
            case hc => intro wS hN hF; exact call_only (name_any 4 (by omega) wS)
            case' hk => skip
            try simp only [Act.put, List.setIfInBounds_toArray, List.set_cons_zero, List.set_cons_succ]
            apply rel_call (v := .bool b) (f := 15) (args := #[.string s, .string (St (nm 4))])
            case hw => rfl
            case hy => intro wS hN hF; go_simp
            case hc => intro wS hN hF; exact call_only (HB.out wS)
            case' hk => skip
            try simp only [Act.put, List.setIfInBounds_toArray, List.set_cons_zero, List.set_cons_succ]
            refine rel_end ?_
            intro wS hO2 hF2
            clear hF2
            have hO3 := Lib.hid (hO.drew.then (hO2.only))
            subst hbb
            go_wp2
            exact ⟨⟨hO3.out, HR.out⟩, by simp [intOf]⟩
        · obtain rfl : K = 5 := by omega
          clear hK hk5 hfk hc
          have h5 := hit_five l
          by_cases h0 : flagL l = 0
          · rw [h0] at h5
            have hh : hit l 5 = false := h5
            have HE : Hid (parseF (datas ls) = 0 ∧ parseE (datas ls) = 3) := by
              have h := HST.out
              rw [if_pos h0] at h
              exact ⟨by unfold parseF; rw [h]; rfl, by unfold parseE; rw [h]; rfl⟩
            clear h5 h0
            go_wp2
            go_ret2
            exact ⟨by rw [HE.out.1, HE.out.2]; rfl, hO⟩
          · have hh : hit l 5 = true := by rw [h5]; simp [h0]
            have hff : fk l f 5 = f ||| flagL l := by unfold fk; rw [if_pos hh]
            have hlt2 := fk_lt l f 5 HF.out
            have HR : Hid (∃ f' i' : Nat, Value.int .i64 F = .int .i64 (f' : Int) ∧ Value.int .i64 ((i : Int) + 1) = .int .i64 (i' : Int) ∧ i' ≤ n ∧ f' < 32 ∧ parseL ((datas ls).drop i') f' = parseL (datas ls) 0) := by
              refine ⟨fk l f 5, i + 1, by rw [HFF.out], by simp, by have := HLT.out; omega, hlt2, ?_⟩
              rw [HST.out, if_neg h0, hff]
            have HM : Hid (n - (intOf (.int .i64 ((i : Int) + 1))).toNat < n - (intOf (.int .i64 (i : Int))).toNat) := by
              show _ < _
              have := HLT.out
              simp [intOf]
              omega
            have hib : (i : Int) ≤ 140737488355328 := by have := HLT.out; have := HNB.out; omega
            clear h5 h0 hff hlt2
            go_wp2
            exact ⟨⟨hO, HR.out⟩, HM.out⟩
    · obtain rfl : i = n := by omega
      have HE : Hid (parseF (datas ls) = f ∧ parseE (datas ls) = 0) := by
        rw [datas_end (by rw [HLN.out]; exact Nat.le_refl _)] at hp
        exact ⟨by unfold parseF; rw [← hp]; rfl, by unfold parseE; rw [← hp]; rfl⟩
      clear hp hf hi hlt hn hO0
      go_wp2
      go_ret2
      exact ⟨by rw [HE.out.1, HE.out.2]; rfl, HO0.out⟩
end Go.Proofs.YtamekbpmbmggoaaDoor
