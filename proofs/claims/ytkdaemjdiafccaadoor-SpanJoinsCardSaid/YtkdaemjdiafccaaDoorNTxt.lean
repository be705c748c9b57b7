/-
  Slices of texts of the call's own: made, stored into, joined; the sum of two texts.
-/
import Derived.Test.YtkdaemjdiafccaaDoorNLeaf
import Derived.Test.YtkdaemjdiafccaaDoorOwnMore
import Derived.Laws.Concat
namespace Go.Proofs.YtkdaemjdiafccaaDoor
open Go.RowKit Go.Instr

def tvs (ls : List (List UInt8)) : List Value := ls.map fun l => .string (St l)
@[simp] theorem tvs_length (ls : List (List UInt8)) : (tvs ls).length = ls.length := by simp [tvs]
theorem infoTxt : (Tryd.prog.info? 9).map (fun i => (i.zero, i.size, i.bytes)) = some (some (.string ⟨#[]⟩), 1, 16) := by kernel_rfl
theorem tvs_back (ls : List (List UInt8)) : (ls.map St).map (fun s : ByteArray => s.data.toList) = ls := by
  rw [List.map_map]
  conv => rhs; rw [← List.map_id ls]
  exact List.map_congr_left fun l _ => by simp
/-- The library's Join of a slice of texts of the call's own. -/
theorem join_txt {w : World} {A : Option Addr} {n c : Nat} {ls : List (List UInt8)} (h : Own w 9 A n c (tvs ls)) (hn : n ≤ 4096) (sep : ByteArray) (hlen : (Lib.join ls sep.data.toList).length ≤ 140737488355328) :
    Calls Tryd.prog 25 #[.slice A n c, .string sep] w fun e w' => e = .returned (.string (St (Lib.join ls sep.data.toList))) ∧ Only [] w w' := by
  have hl : ls.length = n := by have := h.len; simpa [tvs] using this
  have hsl := h.sl
  rcases h.2 with ⟨he, h0⟩ | ⟨g, cap, cur, he, _, hh, hc, _⟩
  · injection he with h1 h2 h3
    subst h1 h3 h0
    obtain rfl : ls = [] := List.eq_nil_of_length_eq_zero hl
    exact (Tryd.strings_Join_none none 0 sep w).mono fun e w' ⟨h1, h2⟩ => ⟨h1, h2 ▸ Only.refl _ _⟩
  · injection he with h1 h2 h3
    subst h1 h3
    have hj := tvs_back ls
    have hx := Tryd.strings_Join g 0 c (ls.map St) sep w (fun j x hx => by
        have hjl : j < n := by have := (List.getElem?_eq_some_iff.1 hx).1; simpa [hl] using this
        obtain ⟨ad, u, e, hu, hcell⟩ := hsl.at_ hjl
        injection e with e
        subst e
        rw [add_none] at hcell
        rw [hcell, ← hu]
        simp only [tvs, List.getElem?_map] at hx ⊢
        cases hh : ls[j]? with
        | none => rw [hh] at hx; cases hx
        | some y => rw [hh] at hx; injection hx with hx; rw [← hx]; rfl)
      (lt_of_block hh) (by simp; omega) (by simp; omega) (by rw [hj]; exact hlen)
    rw [hj] at hx
    simp only [List.length_map, hl] at hx
    exact hx.mono fun e w' ⟨h1, h2⟩ => ⟨h1, Only.of_below h2⟩
theorem add_txt (x y z : List UInt8) (h : x ++ y = z) (hz : z.length ≤ 4096) (W : World) : (Op.stringOp .add (St x) (St y)).run Tryd.prog W = .ok (.string (St z)) W := by
  rw [run_string_add_sum W _ _ (by rw [St_size, St_size]; have := congrArg List.length h; simp at this; omega)]
  subst h
  congr 2
/-- make of n texts. -/
theorem make_txt (w : World) (n : Nat) (hn : n ≤ 1000) : ∃ w', (Instr.makeSlice 44 (.int .i64 (n : Int)) (.int .i64 (n : Int))).run Tryd.prog w = .ok (.slice (some ⟨w.heap.size, 0, none⟩) n n) w' ∧ Own w' 9 (some ⟨w.heap.size, 0, none⟩) n n (tvs (List.replicate n [])) ∧ Only [] w w' := by
  obtain ⟨i0, hi, hz0, hz1, hz2⟩ := info_parts infoTxt
  obtain ⟨w', h1, h2, h3⟩ := run_make_full (P := Tryd.prog) w 0 44 9 i0 _ 1 Tryd.underlying44 hi hz0 hz1 .i64 .i64 n (by rw [hz2]; omega) (by unfold maxLen; omega) (Nat.zero_le _)
  refine ⟨w', h1, ?_, by simpa using Only.of_grown h3⟩
  have e : (madeCells (Value.cells (.string ⟨#[]⟩)) (n * 1)).toList = tvs (List.replicate n []) := by
    rw [Nat.mul_one, show Value.cells (.string ⟨#[]⟩) = #[.string ⟨#[]⟩] from rfl, toList_madeCells_one]
    simp [tvs, St]
  rw [e] at h2
  exact h2
theorem set_next {ts : List (List UInt8)} {n k : Nat} (hn : ts.length = n) (hk : k < n) (hk' : k < ts.length) : (tvs (ts.take k ++ List.replicate (n - k) [])).set k (.string (St ts[k])) = tvs (ts.take (k + 1) ++ List.replicate (n - (k + 1)) []) := by
  have h1 : (ts.take k).length = k := by rw [List.length_take]; omega
  unfold tvs
  rw [List.map_append, List.set_append_right _ _ (by simp; omega), List.length_map, h1, Nat.sub_self, List.map_append, List.take_succ_eq_append_getElem hk', List.map_append, show n - k = (n - (k + 1)) + 1 by omega, List.replicate_succ, List.map_cons, List.set_cons_zero, List.append_assoc]
  rfl
end Go.Proofs.YtkdaemjdiafccaaDoor
