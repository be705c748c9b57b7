/-
  The walk of the law MarkBack.
-/
import Derived.Test.YtamekbpmbmggoaaDoorAKnown
namespace Go.Proofs.YtamekbpmbmggoaaDoor
open Go.RowKit Go.Instr

/-- What is gathered between blanks, as the law gathers it: the letters still to come, those since the last mark, the words so far. -/
def sc : List UInt8 → List UInt8 → List (List UInt8) → List (List UInt8)
  | [], _, ws => ws
  | c :: r, cur, ws => if c.toNat = 32 ∨ c.toNat = 41 then sc r [] (if cur = [] then ws else ws ++ [cur]) else sc r (cur ++ [c]) ws
def backB (f : Int) : Bool := decide (sc ((printL f).drop 1) [] [] = wordsL f) && parseF (wordsL f) == f.toNat && parseE (wordsL f) == 0 && decide (2 ≤ (printL f).length) && decide ((printL f).length ≤ 60)
theorem back_all : ∀ f < 32, backB ((f : Nat) : Int) = true := by decide +kernel

theorem sl_lit (w : World) (q : ByteArray) (t : TypeId) (fr : Nat × Nat) : Sl (w.alloc (.cells #[.string q] t fr)) (some ⟨w.heap.size, 0, none⟩) 1 [.string q] := Sl.of_new w #[.string q] t fr
theorem run_ix (s : ByteArray) (i : Nat) (I : Int) (hI : I = (i : Int)) (h : i < s.size) (y : Nat) (hy : (s[i]'h).toNat = y) (W : World) : (Instr.index 9 (.string s) (.int .i64 I)).run Tryd.prog W = .ok (.int .u8 (y : Int)) W := by
  subst hI hy
  rw [run_index_string W 9 s .i64 (i : Int) Tryd.underlying9, dif_pos ⟨by omega, by omega⟩]
  simp
theorem sc_mark {l : List UInt8} {i fm : Nat} {ws : List (List UInt8)} (hi : i < l.length) (hm : (l[i]).toNat = 32 ∨ (l[i]).toNat = 41) :
    sc (l.drop i) ((l.take i).drop fm) ws = sc (l.drop (i + 1)) ((l.take (i + 1)).drop (i + 1)) (if fm < i then ws ++ [(l.take i).drop fm] else ws) := by
  rw [List.drop_eq_getElem_cons hi, sc, if_pos hm, List.drop_of_length_le (by rw [List.length_take]; omega : (l.take (i + 1)).length ≤ i + 1)]
  by_cases h : fm < i
  · rw [if_pos h, if_neg (by intro e; have := congrArg List.length e; simp at this; omega)]
  · rw [if_neg h, if_pos (List.drop_of_length_le (by simp; omega))]
theorem sc_plain {l : List UInt8} {i fm : Nat} {ws : List (List UInt8)} (hi : i < l.length) (hf : fm ≤ i) (hm : ¬ ((l[i]).toNat = 32 ∨ (l[i]).toNat = 41)) :
    sc (l.drop i) ((l.take i).drop fm) ws = sc (l.drop (i + 1)) ((l.take (i + 1)).drop fm) ws := by
  rw [List.drop_eq_getElem_cons hi, sc, if_neg hm, ← List.take_append_getElem hi, List.drop_append_of_le_length (by simp; omega)]

set_option maxHeartbeats 2000000 in
set_option maxRecDepth 100000 in
theorem back_any (f : Int) {w : World} (hL : Laid w) : Calls Tryd.prog 4 #[.int .i64 f] w fun e w' => e = .returned (.bool true) ∧ Only [] w w' := by
  obtain ⟨i0, hi, hz0, hz1, hz2⟩ := infoStr_of
  have HL := Lib.hid hL
  clear hL
  by_cases hin : 0 ≤ f ∧ f ≤ 31
  · obtain ⟨h1, h2⟩ := hin
    have hall := back_all f.toNat (by omega)
    rw [Int.toNat_of_nonneg h1] at hall
    unfold backB at hall
    simp only [Bool.and_eq_true, decide_eq_true_eq, beq_iff_eq] at hall
    obtain ⟨⟨⟨⟨e1, e2⟩, e3⟩, e4⟩, e5⟩ := hall
    obtain ⟨l, hl⟩ : ∃ l, printL f = l := ⟨_, rfl⟩
    obtain ⟨s, hs⟩ : ∃ s, St l = s := ⟨_, rfl⟩
    have HPr : Hid (∀ W, Laid W → Calls Tryd.prog 9 #[.int .i64 f] W fun e w' => e = .returned (.string s) ∧ Only [] W w') := fun W hW => by
      rw [← hs, ← hl]
      exact Print_any f hW
    rw [hl] at e1 e4 e5
    have hsl : s.data.toList = l := by rw [← hs, St_list]
    have hsz : s.size = l.length := by rw [← hs, St_size]
    obtain ⟨n, hn⟩ : ∃ n, s.size = n := ⟨_, rfl⟩
    have hn2 : 2 ≤ n := by omega
    have hn60 : n ≤ 60 := by omega
    have hn2' : ¬ ((n : Int) < 2) := by omega
    have h1' : ¬ (f < 0) := by omega
    have h2' : ¬ (31 < f) := by omega
    have E1 := Lib.hid e1
    have HN := Lib.hid hn
    have HSL := Lib.hid hsl
    have HNL : Hid (l.length = n) := by show _ = _; omega
    have E2 : Hid (((parseF (wordsL f) : Nat) : Int) = f ∧ ((parseE (wordsL f) : Nat) : Int) = 0) := ⟨by omega, by omega⟩
    clear e1 e2 e3 e4 e5 hsz hsl hs hl h1 h2
    subst hn
    clear HN
    go_enter Tryd.func4, Tryd.ntmps4
    go_wp2_with (go_at_call 9; with_reducible refine (HPr.out _ HL.out).mono ?_; rintro e w2 ⟨rfl, hO2⟩)
    have HO2 := Lib.hid hO2
    clear hO2
    go_loopw [4, 5, 6] (fun wv fv iv wr => Only [] w wr ∧ ∃ (A : Option Addr) (m c : Nat) (ws : List (List UInt8)) (fm i : Nat), wv = .slice A m c ∧ fv = .int .i64 (fm : Int) ∧ iv = .int .i64 (i : Int) ∧ fm ≤ i ∧ i ≤ s.size ∧ m ≤ i ∧ sc (l.drop i) ((l.take i).drop fm) ws = sc (l.drop 1) [] [] ∧ Own wr 9 A m c (vals ws) ∧ (∀ x ∈ blks A, w.heap.size ≤ x)) (fun _ _ iv _ => s.size - (intOf iv).toNat)
    case atStart => exact ⟨HO2.out, none, 0, 0, [], 1, 1, rfl, rfl, rfl, Nat.le_refl _, by omega, by omega, by rw [List.drop_of_length_le (by rw [List.length_take]; omega : (l.take 1).length ≤ 1)], Own.nil _ _, fun x hx => nomatch hx⟩
    case round =>
      obtain ⟨hO, A, m, c, ws, fm, i, rfl, rfl, rfl, hfi, hin, hmi, hsc, hV, hfr⟩ := hrel
      have HO := Lib.hid hO
      have HV := Lib.hid hV
      have HFR := Lib.hid hfr
      have HSC := Lib.hid hsc
      clear hO hV hfr hsc
      by_cases hlt : i < s.size
      · have hlt' : (i : Int) < (s.size : Int) := by omega
        have hll : i < l.length := by rw [HNL.out]; exact hlt
        obtain ⟨y, hy⟩ : ∃ y, (s[i]'hlt).toNat = y := ⟨_, rfl⟩
        have hix := run_ix s i (i : Int) rfl hlt y hy
        have HY : Hid ((l[i]'hll).toNat = y) := by
          show _ = _
          rw [← hy]
          have := Lib.data_getElem? s i hlt
          rw [HSL.out, List.getElem?_eq_getElem hll] at this
          injection this with this
          rw [this]
        have hii : (i : Int) + 1 ≤ 140737488355328 := by omega
        have HM : Hid (s.size - (intOf (.int .i64 ((i : Int) + 1))).toNat < s.size - (intOf (.int .i64 (i : Int))).toNat) := by
          show _ < _
          simp [intOf]
          omega
        clear hy
        have HHLL : Hid (i < l.length) := hll
        by_cases hmk : y = 32 ∨ y = 41
        · have HMK : Hid ((l[i]'HHLL.out).toNat = 32 ∨ (l[i]'HHLL.out).toNat = 41) := by show _ ∨ _; rw [HY.out]; exact hmk
          by_cases hff : fm < i
          · have hff' : (fm : Int) < (i : Int) := by omega
            obtain ⟨q, hq⟩ : ∃ q, s.extract fm i = q := ⟨_, rfl⟩
            have hcut : ∀ W, (Instr.slice 9 (.string s) (some (.int .i64 (fm : Int))) (some (.int .i64 (i : Int))) none).run Tryd.prog W = .ok (.string q) W := by
              rw [← hq]
              exact run_cut_str (P := Tryd.prog) 9 Tryd.underlying9 s fm i (fm : Int) (i : Int) rfl rfl (by omega) (by omega)
            have HQ : Hid (St ((l.take i).drop fm) = q) := by
              show _ = _
              rw [← St_data q, ← hq, Lib.extract_data, HSL.out, List.drop_take]
            have HS2 : Hid (sc (l.drop (i + 1)) ((l.take (i + 1)).drop (i + 1)) (ws ++ [(l.take i).drop fm]) = sc (l.drop 1) [] []) := by
              have := sc_mark (fm := fm) (ws := ws) HHLL.out HMK.out
              rw [if_pos hff] at this
              exact this.symm.trans HSC.out
            clear hq HY HMK HSC hlt hll
            have HI := Lib.hid (show i < s.size by omega)
            have HMI := Lib.hid hmi
            have hm60 : m ≤ 60 := by omega
            clear hin hmi hff hfi
            rcases hmk with rfl | rfl
            · go_wp2_with (at_builtin; refine wpList_append_as rfl (.tmp 42) (.tmp 47) 22 rfl 9 i0 (.string ⟨#[]⟩) 16 Tryd.underlying22 hi hz0 hz1 hz2 rfl A m c _ rfl (HV.out.alloc _) _ 1 1 [.string q] rfl (sl_lit _ q _ _) (fun u hu => by simp at hu; subst hu; rfl) (by unfold maxLen; omega) (by omega) (m + 1) rfl (vals (ws ++ [(l.take i).drop fm])) (by rw [← vals_add, HQ.out]) ?_; intro A2 c2 w2 V2 O2 B2)
              exact ⟨⟨(HO.out.alloc _).trans O2 (fun x hx => .inr (HFR.out x hx)), A2, m + 1, c2, ws ++ [(l.take i).drop fm], i + 1, i + 1, rfl, by simp, by simp, Nat.le_refl _, HI.out, by have := HMI.out; omega, HS2.out, V2, fun x hx => by rcases B2 x hx with h | h; exact HFR.out x h; simp at h; have := HO.out.size; omega⟩, HM.out⟩
            · go_wp2_with (at_builtin; refine wpList_append_as rfl (.tmp 42) (.tmp 47) 22 rfl 9 i0 (.string ⟨#[]⟩) 16 Tryd.underlying22 hi hz0 hz1 hz2 rfl A m c _ rfl (HV.out.alloc _) _ 1 1 [.string q] rfl (sl_lit _ q _ _) (fun u hu => by simp at hu; subst hu; rfl) (by unfold maxLen; omega) (by omega) (m + 1) rfl (vals (ws ++ [(l.take i).drop fm])) (by rw [← vals_add, HQ.out]) ?_; intro A2 c2 w2 V2 O2 B2)
              exact ⟨⟨(HO.out.alloc _).trans O2 (fun x hx => .inr (HFR.out x hx)), A2, m + 1, c2, ws ++ [(l.take i).drop fm], i + 1, i + 1, rfl, by simp, by simp, Nat.le_refl _, HI.out, by have := HMI.out; omega, HS2.out, V2, fun x hx => by rcases B2 x hx with h | h; exact HFR.out x h; simp at h; have := HO.out.size; omega⟩, HM.out⟩
          · obtain rfl : fm = i := by omega
            have HS2 : Hid (sc (l.drop (fm + 1)) ((l.take (fm + 1)).drop (fm + 1)) ws = sc (l.drop 1) [] []) := by
              have := sc_mark (fm := fm) (ws := ws) HHLL.out HMK.out
              rw [if_neg hff] at this
              exact this.symm.trans HSC.out
            clear HY HMK HSC hlt hff hll
            have HI := Lib.hid (show fm < s.size by omega)
            have HMI := Lib.hid hmi
            clear hin hmi hfi
            rcases hmk with rfl | rfl
            · go_wp2_with fail
              exact ⟨⟨HO.out, A, m, c, ws, fm + 1, fm + 1, rfl, by simp, by simp, Nat.le_refl _, HI.out, by have := HMI.out; omega, HS2.out, HV.out, HFR.out⟩, HM.out⟩
            · go_wp2_with fail
              exact ⟨⟨HO.out, A, m, c, ws, fm + 1, fm + 1, rfl, by simp, by simp, Nat.le_refl _, HI.out, by have := HMI.out; omega, HS2.out, HV.out, HFR.out⟩, HM.out⟩
        · have HS2 : Hid (sc (l.drop (i + 1)) ((l.take (i + 1)).drop fm) ws = sc (l.drop 1) [] []) := by
            have := sc_plain (fm := fm) (ws := ws) HHLL.out hfi (by rw [HY.out]; exact hmk)
            exact this.symm.trans HSC.out
          have hy1 : ((y : Int) == 32) = false := by simp; omega
          have hy2 : ((y : Int) == 41) = false := by simp; omega
          have HI := Lib.hid hlt
          have HMI := Lib.hid hmi
          have HFI := Lib.hid hfi
          clear HY HSC hlt hin hmi hfi hmk hll
          go_wp2_with fail
          exact ⟨⟨HO.out, A, m, c, ws, fm, i + 1, rfl, rfl, by simp, by have := HFI.out; omega, HI.out, by have := HMI.out; omega, HS2.out, HV.out, HFR.out⟩, HM.out⟩
      · obtain rfl : i = s.size := by omega
        have hws : ws = wordsL f := by
          have := HSC.out
          rw [List.drop_of_length_le (by rw [HNL.out]; exact Nat.le_refl _), E1.out] at this
          exact this
        have HP : Hid (Calls Tryd.prog 7 #[.slice A m c] wr fun e w' => e = .returned (.tuple #[.int .i64 f, .int .i64 0]) ∧ Only [] wr w') := by
          have hS := HV.out.sl
          rw [vals_strs] at hS
          have h := Parse_any (c := c) hS (by omega) (HL.out.only HO.out)
          rw [datas_St, hws, E2.out.1, E2.out.2] at h
          exact h
        clear hws hin hmi hlt hfi
        go_wp2_with (first
          | (go_at_call 7; with_reducible refine HP.out.mono ?_; rintro e w3 ⟨rfl, hO3⟩)
          | (go_at_call 13; with_reducible refine (known_any (HL.out.only (HO.out.then hO3))).mono ?_; rintro e w4 ⟨rfl, hO4⟩))
        go_ret
        exact ⟨rfl, (HO.out.then hO3).then hO4⟩
  · go_enter Tryd.func4, Tryd.ntmps4
    go_wp2_with (go_at_call 13; with_reducible refine (known_any HL.out).mono ?_; rintro e w2 ⟨rfl, hO2⟩)
    all_goals first
      | (go_ret; exact ⟨rfl, hO2⟩)
      | (exfalso; omega)
end Go.Proofs.YtamekbpmbmggoaaDoor
