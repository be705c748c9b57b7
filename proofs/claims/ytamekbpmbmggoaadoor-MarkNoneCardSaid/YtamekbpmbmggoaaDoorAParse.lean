/-
  mark: words as flags.
-/
import Derived.Test.YtamekbpmbmggoaaDoorAFlag
namespace Go.Proofs.YtamekbpmbmggoaaDoor
open Go.RowKit Go.Instr

def strs (ls : List ByteArray) : List Value := ls.map Value.string
def datas (ls : List ByteArray) : List (List UInt8) := ls.map fun s => s.data.toList
@[simp] theorem strs_length (ls : List ByteArray) : (strs ls).length = ls.length := by simp [strs]
theorem strs_get {ls : List ByteArray} {k : Nat} (h : k < ls.length) : (strs ls)[k]? = some (.string ls[k]) := by simp [strs, h]
theorem datas_drop {ls : List ByteArray} {k : Nat} (h : k < ls.length) : (datas ls).drop k = ls[k].data.toList :: (datas ls).drop (k + 1) := by
  have h' : k < (datas ls).length := by simpa [datas] using h
  rw [List.drop_eq_getElem_cons h']
  simp [datas]
theorem datas_end {ls : List ByteArray} {k : Nat} (h : ls.length ≤ k) : (datas ls).drop k = [] := List.drop_of_length_le (by simpa [datas] using h)
/-- A text of a slice of texts, read. -/
theorem strs_at {w : World} {A : Option Addr} {n : Nat} {ls : List ByteArray} (h : Sl w A n (strs ls)) {k : Nat} (hk : k < n) (hl : k < ls.length) : ∃ ad, A = some ad ∧ w.cell? (ad.add k) = some (.string ls[k]) := by
  obtain ⟨ad, u, e, hu, hc⟩ := h.at_ hk
  rw [strs_get hl] at hu
  injection hu with hu
  exact ⟨ad, e, hu ▸ hc⟩

set_option maxRecDepth 100000 in
theorem Parse_any {w : World} {A : Option Addr} {n c : Nat} {ls : List ByteArray} (hS : Sl w A n (strs ls)) (hn : n ≤ 140737488355328) (hL : Laid w) :
    Calls Tryd.prog 7 #[.slice A n c] w fun e w' => e = .returned (.tuple #[.int .i64 ((parseF (datas ls) : Nat) : Int), .int .i64 ((parseE (datas ls) : Nat) : Int)]) ∧ Only [] w w' := by
  have hln : ls.length = n := by simpa using hS.len
  have HS := Lib.hid hS
  have HL := Lib.hid hL
  have HLN := Lib.hid hln
  clear hS hL hln
  go_enter Tryd.func7, Tryd.ntmps7
  go_wp2
  go_loopw [4, 10] (fun fv iv wr => Only [] w wr ∧ ∃ f k : Nat, fv = .int .i64 (f : Int) ∧ iv = .int .i64 (k : Int) ∧ k ≤ n ∧ f < 32 ∧ parseL ((datas ls).drop k) f = parseL (datas ls) 0) (fun _ iv _ => n - (intOf iv).toNat)
  case atStart => exact ⟨Only.refl _ _, 0, 0, rfl, rfl, by omega, by omega, rfl⟩
  case round =>
    obtain ⟨hO, f, k, rfl, rfl, hk, hf, hp⟩ := hrel
    by_cases hlt : k < n
    · have hlt' : (k : Int) < (n : Int) := by omega
      have hkl : k < ls.length := by rw [HLN.out]; exact hlt
      obtain ⟨ad, rfl, hc⟩ := strs_at (HS.out.keep hO) hlt hkl
      have HD := Lib.hid (datas_drop hkl)
      obtain ⟨s, hs⟩ : ∃ s, ls[k] = s := ⟨_, rfl⟩
      rw [hs] at hc HD
      have hfl := flagL_lt s.data.toList
      obtain ⟨x, hx⟩ : ∃ x, flagL s.data.toList = x := ⟨_, rfl⟩
      have HF : Hid (∀ W, Only [] w W → Calls Tryd.prog 14 #[.string s] W fun e w' => e = .returned (.int .i64 (x : Int)) ∧ Only [] W w') := fun W hW => by
        rw [← hx]
        exact flagOf_any s (HL.out.only hW)
      rw [hx] at hfl
      have hor := i64_or_nat f x (by omega) (by omega)
      have HST : Hid (parseL (datas ls) 0 = if x = 0 then none else parseL ((datas ls).drop (k + 1)) (f ||| x)) := by
        show _ = _
        rw [← hp, HD.out, ← hx]
        rfl
      have hlt2 : f ||| x < 32 := Nat.or_lt_two_pow (n := 5) hf hfl
      obtain ⟨g, hg⟩ : ∃ g, f ||| x = g := ⟨_, rfl⟩
      rw [hg] at hor hlt2 HST
      have hm : n - (k + 1) < n - k := by omega
      have hki : (k : Int) + 1 ≤ 140737488355328 := by omega
      by_cases hx0 : x = 0
      · subst hx0
        have HE : Hid (parseF (datas ls) = 0 ∧ parseE (datas ls) = 3) := by
          have h := HST.out
          rw [if_pos rfl] at h
          exact ⟨by unfold parseF; rw [h]; rfl, by unfold parseE; rw [h]; rfl⟩
        clear hg hx hs HD hp hor hlt2 HST hfl hlt hm hkl hf hk hn
        go_wp2_with (go_at_call 14; with_reducible refine (HF.out _ hO).mono ?_; rintro e w3 ⟨rfl, hO3⟩)
        go_ret2
        exact ⟨by rw [HE.out.1, HE.out.2]; rfl, hO.then hO3⟩
      · have hne : ((x : Int) == 0) = false := beq_eq_false_iff_ne.2 (by omega)
        have HR : Hid (∃ f' k' : Nat, Value.int .i64 (g : Int) = .int .i64 (f' : Int) ∧ Value.int .i64 ((k : Int) + 1) = .int .i64 (k' : Int) ∧ k' ≤ n ∧ f' < 32 ∧ parseL ((datas ls).drop k') f' = parseL (datas ls) 0) := by
          refine ⟨g, k + 1, rfl, by simp, by omega, hlt2, ?_⟩
          rw [HST.out, if_neg hx0]
        have HM : Hid (n - (intOf (.int .i64 ((k : Int) + 1))).toNat < n - (intOf (.int .i64 (k : Int))).toNat) := by
          show _ < _
          simp [intOf]
          omega
        clear hg hx hs HD hp hlt2 HST hfl hlt hm hkl hf hk hn hx0
        go_wp2_with (go_at_call 14; with_reducible refine (HF.out _ hO).mono ?_; rintro e w3 ⟨rfl, hO3⟩)
        exact ⟨⟨hO.then hO3, HR.out⟩, HM.out⟩
    · obtain rfl : k = n := by omega
      have HE : Hid (parseF (datas ls) = f ∧ parseE (datas ls) = 0) := by
        rw [datas_end (by rw [HLN.out]; exact Nat.le_refl _)] at hp
        exact ⟨by unfold parseF; rw [← hp]; rfl, by unfold parseE; rw [← hp]; rfl⟩
      clear hp hf hk hn hlt
      go_wp2
      go_ret2
      exact ⟨by rw [HE.out.1, HE.out.2]; rfl, hO⟩
end Go.Proofs.YtamekbpmbmggoaaDoor
