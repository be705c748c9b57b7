/-
  HeadOne: what the laid message means; a text's bytes as a slice that may grow.
-/
import Derived.Test.YtmameghebikjbaaDoorHTells
import Derived.Test.YtmameghebikjbaaDoorGro
namespace Go.Proofs.YtmameghebikjbaaDoor
open Go.RowKit Go.Instr

/-- A letter. -/
def isL (x : UInt8) : Prop := (65 ≤ x.toNat ∧ x.toNat ≤ 90) ∨ (97 ≤ x.toNat ∧ x.toNat ≤ 122)
theorem isL_ne {x y : UInt8} (h : isL x) (hy : ¬ isL y) : x ≠ y := fun e => hy (e ▸ h)
theorem isL_blank {x : UInt8} (h : isL x) : isB x = false := by
  have h1 : x ≠ 32 := isL_ne h (by unfold isL; decide)
  have h2 : x ≠ 9 := isL_ne h (by unfold isL; decide)
  unfold isB
  simp [h1, h2]
theorem dw_id {l : List UInt8} (h : ∀ x ∈ l, isB x = false) : l.dropWhile isB = l := by
  cases l with
  | nil => rfl
  | cons x r => rw [List.dropWhile_cons, if_neg (by rw [h x (by simp)]; decide)]
theorem trim_id {l : List UInt8} (h : ∀ x ∈ l, isB x = false) : trimB l = l := by
  rw [← trim_swap, dw_id h]
  unfold dropR
  rw [dw_id (fun x hx => h x (List.mem_reverse.1 hx)), List.reverse_reverse]
theorem trim_lead (l : List UInt8) : trimB (32 :: l) = trimB l := by
  rw [← trim_swap, ← trim_swap, List.dropWhile_cons, if_pos (by decide)]
theorem fi_app {x : UInt8} : ∀ {p : List UInt8} (r : List UInt8), (∀ y ∈ p, y ≠ x) → fi x (p ++ x :: r) = p.length
  | [], r, _ => by rw [List.nil_append, fi_cons, if_pos rfl]; rfl
  | y :: p, r, h => by
    rw [List.cons_append, fi_cons, if_neg (h y (by simp)), fi_app r (fun z hz => h z (by simp [hz])), List.length_cons]
theorem field_app {p : List UInt8} (r : List UInt8) (h : ∀ y ∈ p, y ≠ 58) : fieldOf (p ++ 58 :: r) = some (trimB p, trimB r) := by
  unfold fieldOf
  rw [show cln (p ++ 58 :: r) = p.length from fi_app r h, if_pos (by simp), List.take_left, ← List.drop_drop, List.drop_left]
  rfl
theorem low_low (x : UInt8) : low (low x) = low x := by
  by_cases h : 65 ≤ x ∧ x ≤ 90
  · have h2 : ¬ (65 ≤ x + 32 ∧ x + 32 ≤ 90) := by
      have h3 := h.1; have h4 := h.2
      rw [UInt8.le_iff_toNat_le] at h3 h4
      rintro ⟨h5, h6⟩
      rw [UInt8.le_iff_toNat_le] at h5 h6
      have e : (x + 32).toNat = (x.toNat + 32) % 256 := by rw [UInt8.toNat_add]; rfl
      have e1 : (65 : UInt8).toNat = 65 := rfl
      have e2 : (90 : UInt8).toNat = 90 := rfl
      omega
    unfold low
    rw [if_pos h, if_neg h2]
  · unfold low
    rw [if_neg h, if_neg h]
theorem lows_lows (l : List UInt8) : lows (lows l) = lows l := by
  unfold lows
  rw [List.map_map]
  exact List.map_congr_left fun x _ => low_low x

def oL1 (nm : List UInt8) : List UInt8 := (120 :: nm) ++ 58 :: [32, 110, 111]
def oL2 (nm val : List UInt8) : List UInt8 := nm ++ 58 :: 32 :: val
/-- The lines of the message that the law lays. -/
def oLs (nm val : List UInt8) : List (List UInt8) := [oL1 nm ++ [13, 10], oL2 nm val ++ [13, 10], [] ++ [13, 10]]
def oB (nm val bd : List UInt8) : List UInt8 := (oLs nm val).flatten ++ bd
section
variable {nm val bd : List UInt8} (hnm : ∀ x ∈ nm, isL x) (hval : ∀ x ∈ val, x ≠ 10)
include hnm hval
theorem one_full : Full (oLs nm val) := by
  have h13 : ∀ (t : List UInt8), (∀ x ∈ t, x ≠ 10) → ∃ d : List UInt8, (∀ x ∈ d, x ≠ 10) ∧ t ++ [13, 10] = d ++ [10] := fun t ht => ⟨t ++ [13], fun x hx => by
    rcases List.mem_append.1 hx with hx | hx
    · exact ht x hx
    · rw [List.mem_singleton.1 hx]; decide, by simp⟩
  have hn : ∀ x ∈ nm, x ≠ 10 := fun x hx => isL_ne (hnm x hx) (by unfold isL; decide)
  intro l hl
  unfold oLs at hl
  simp only [List.mem_cons, List.mem_nil_iff, or_false] at hl
  rcases hl with rfl | rfl | rfl
  · refine h13 _ fun x hx => ?_
    unfold oL1 at hx
    simp only [List.cons_append, List.mem_cons, List.mem_append, List.mem_nil_iff, or_false] at hx
    rcases hx with rfl | hx | rfl | rfl | rfl | rfl
    · decide
    · exact hn x hx
    all_goals decide
  · refine h13 _ fun x hx => ?_
    unfold oL2 at hx
    simp only [List.mem_cons, List.mem_append] at hx
    rcases hx with hx | rfl | rfl | hx
    · exact hn x hx
    · decide
    · decide
    · exact hval x hx
  · exact h13 _ fun x hx => nomatch hx
theorem one_lns : lns (oB nm val bd) = oLs nm val ++ lns bd := lns_full (one_full hnm hval) bd
theorem one_hk : hk (lns (oB nm val bd)) = 3 := by
  rw [one_lns hnm hval]
  unfold oLs
  simp only [List.cons_append, List.nil_append]
  have e1 : tx (oL1 nm ++ [13, 10]) ≠ [] := by rw [tx_crlf]; unfold oL1; simp
  have e2 : tx (oL2 nm val ++ [13, 10]) ≠ [] := by rw [tx_crlf]; unfold oL2; simp
  have e3 : tx ([13, 10] : List UInt8) = [] := by decide
  rw [hk, if_neg e1, hk, if_neg e2, hk, if_pos e3]
theorem one_hls : hls (oB nm val bd) = oLs nm val := by
  unfold hls
  rw [one_hk hnm hval, one_lns hnm hval]
  exact List.take_left' (show (oLs nm val).length = 3 from rfl)
theorem one_body : (oB nm val bd).drop (hd (oB nm val bd)) = bd := by
  rw [body_eq, one_hk hnm hval, one_lns hnm hval, List.drop_left' (show (oLs nm val).length = 3 from rfl), lns_flat]
theorem one_flds (hne : nm ≠ []) : flds (oB nm val bd) = [(120 :: nm, [110, 111]), (nm, trimB val)] := by
  have hc : ∀ x ∈ nm, x ≠ 58 := fun x hx => isL_ne (hnm x hx) (by unfold isL; decide)
  have b1 : begB (oL1 nm) = false := by unfold oL1; rfl
  have b2 : begB (oL2 nm val) = false := by
    cases nm with
    | nil => exact absurd rfl hne
    | cons x r => exact isL_blank (hnm x (by simp))
  have f1 : fieldOf (oL1 nm) = some (120 :: nm, [110, 111]) := by
    unfold oL1
    rw [field_app, trim_id (l := 120 :: nm)]
    · rfl
    · intro x hx
      rcases List.mem_cons.1 hx with rfl | hx
      · decide
      · exact isL_blank (hnm x hx)
    · intro x hx
      rcases List.mem_cons.1 hx with rfl | hx
      · decide
      · exact hc x hx
  have f2 : fieldOf (oL2 nm val) = some (nm, trimB val) := by
    unfold oL2
    rw [field_app _ hc, trim_id (fun x hx => isL_blank (hnm x hx)), trim_lead]
  have f3 : fieldOf [] = none := by decide
  unfold flds
  rw [one_hls hnm hval]
  unfold oLs
  simp only [List.map_cons, List.map_nil, tx_crlf]
  rw [fl_text b1, f1, fl_text b2, f2, fl_text (by rfl), f3, fl_nil]
  rfl
theorem one_get (hne : nm ≠ []) : getF (oB nm val bd) (lows nm) = some (trimB val) := by
  unfold getF
  rw [one_flds hnm hval hne]
  have h1 : sameT (120 :: nm) (lows nm) = false := by
    unfold sameT
    rw [beq_eq_false_iff_ne]
    intro h
    have := congrArg List.length h
    simp [lows] at this
  have h2 : sameT nm (lows nm) = true := by
    unfold sameT
    rw [lows_lows]
    simp
  rw [List.find?_cons, h1, List.find?_cons, h2]
  rfl
end
/-- The bytes of a text, laid anew: they may be appended to. -/
theorem conv_gro (s : ByteArray) (hs : s.size ≤ 4096) (w : World) : ∃ w' c, (convert 9 22 (.string s)).run Tryd.prog w = .ok (.slice (some ⟨w.heap.size, 0, none⟩) s.size c) w' ∧ Gro w' (some ⟨w.heap.size, 0, none⟩) s.size c (bvs s.data.toList) ∧ Only [] w w' := by
  have hge := grownCap_ge w s.size 0 5
  have hmx := grownCap_le_maxLen w s.size 0 5 (by unfold maxLen; omega)
  have hnew := Lib.bytesWorld_at_new w 5 s
  have hsz : (Lib.bytesCells w 5 s).size = grownCap w s.size 0 5 := by
    unfold Lib.bytesCells
    rw [Array.size_append, Array.size_map, Array.size_replicate]
    have : s.data.size = s.size := rfl
    omega
  refine ⟨_, _, Lib.run_convert_string_bytes (P := Tryd.prog) w 9 22 5 s Tryd.underlying9 Tryd.underlying22 Tryd.underlying5, ?_, ?_⟩
  · refine ⟨by simp, hge, hmx, fun k hk => ?_, fun _ => ⟨w.heap.size, 0, rfl, fun j u hu => ?_, fun j hj => ⟨?_, ?_⟩⟩⟩
    · simp at hk
      subst hk
      rw [Lib.bytesWorld_size]
      omega
    · have hj : j < s.data.toList.length := by
        have := (List.getElem?_eq_some_iff.1 hu).1
        rwa [bvs_length] at this
      rw [bvs_get _ j hj] at hu
      rw [Nat.zero_add, Lib.bytesWorld_cell w 5 s j (by simpa using hj), List.getD_eq_getElem?_getD, List.getElem?_eq_getElem hj, ← hu]
      rfl
    · rw [Nat.zero_add]
      simp only [World.cell?, hnew]
      rw [Array.getElem?_eq_getElem (by omega)]
      rfl
    · rw [Nat.zero_add]
      simp only [World.frozen?, hnew, hsz]
      simp
      omega
  · have := conv_bytes s w
    obtain ⟨w', c, h1, _, h3⟩ := this
    rw [Lib.run_convert_string_bytes (P := Tryd.prog) w 9 22 5 s Tryd.underlying9 Tryd.underlying22 Tryd.underlying5] at h1
    injection h1 with _ h1
    rw [h1]
    exact h3
theorem Gro.bt {w : World} {A : Option Addr} {n c : Nat} {l : List UInt8} (h : Gro w A n c (bvs l)) : Bt w A n c l :=
  ⟨h.sl, h.cap, by have := h.max; unfold maxLen at this; omega, fun e => by
    rcases Nat.eq_zero_or_pos c with h0 | h0
    · exact h0
    · obtain ⟨g, o, e2, _⟩ := h.at_ h0
      rw [e] at e2
      cases e2⟩
theorem add_txt (a b : List UInt8) (h : a.length + b.length ≤ 4096) (W : World) : (Op.stringOp .add (St a) (St b)).run Tryd.prog W = .ok (.string (St (a ++ b))) W := by
  have := run_string_add_sum (P := Tryd.prog) (w := W) (St a) (St b) (by rw [St_size, St_size]; omega)
  rwa [add_St] at this
end Go.Proofs.YtmameghebikjbaaDoor
