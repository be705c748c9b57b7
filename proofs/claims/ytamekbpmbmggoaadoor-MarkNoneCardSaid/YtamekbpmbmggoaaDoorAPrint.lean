/-
  mark: flags as a text.
-/
import Derived.Test.YtamekbpmbmggoaaDoorAFlag
import Derived.Test.YtamekbpmbmggoaaDoorAParse
import Derived.Test.YtamekbpmbmggoaaDoorShelf
import Derived.Laws.Concat
namespace Go.Proofs.YtamekbpmbmggoaaDoor
open Go.RowKit Go.Instr

section
variable {P : Program} {w : World}
theorem wpList_append_as {ops : Array Oper} {rest : List Oper} {o : Oper} {a : Act} {Q : Exit → Act → World → Prop} (hgd : o.guard = none) (s x : Operand) (t : TypeId)
    (ho : o.op = .call { callee := .builtin .append, args := #[s, x], argTypes := #[t, t] }) (e : TypeId) (i : TypeInfo) (z : Value) (bytes : Nat) (ht : P.underlying t = some (.slice e)) (hi : P.info? e = some i)
    (hz : i.zero = some z) (hsize : i.size = 1) (hby : i.bytes = bytes) (hzs : z.cells.size = 1) (A : Option Addr) (n c : Nat) (xs : List Value) (hs : a.eval s = .slice A n c) (hown : Own w e A n c xs)
    (A2 : Option Addr) (m c2 : Nat) (news : List Value) (hx : a.eval x = .slice A2 m c2) (hr : Sl w A2 m news) (h1 : ∀ u ∈ news, u.oneCell' = true) (h63 : n + m ≤ maxLen) (hbytes : (n + m) * bytes ≤ 140737488355328)
    (N : Nat) (hN : n + m = N) (L : List Value) (hL : xs ++ news = L)
    (h : ∀ A' c' w', Own w' e A' N c' L → Only (blks A) w w' → (∀ k ∈ blks A', k ∈ blks A ∨ w.heap.size ≤ k) → wpList P ops Q rest (a.put o.dst (.slice A' N c')) w') : wpList P ops Q (o :: rest) a w := by
  subst hN hL
  exact wpList_append_sl hgd s x t ho e i z bytes ht hi hz hsize hby hzs A n c xs hs hown A2 m c2 news hx hr h1 h63 hbytes h
end
theorem infoStr : (Tryd.prog.info? 9).map (fun i => (i.zero, i.size, i.bytes)) = some (some (.string ⟨#[]⟩), 1, 16) := by kernel_rfl
theorem infoStr_of : ∃ i, Tryd.prog.info? 9 = some i ∧ i.zero = some (.string ⟨#[]⟩) ∧ i.size = 1 ∧ i.bytes = 16 := by
  have h := infoStr
  obtain ⟨i, hi, he⟩ := Option.map_eq_some_iff.1 h
  simp only [Prod.mk.injEq] at he
  exact ⟨i, hi, he.1, he.2.1, he.2.2⟩
theorem sl_two (w : World) (X : Obj) (q : ByteArray) (t : TypeId) (fr : Nat × Nat) : Sl ((w.alloc X).alloc (.cells #[.string q] t fr)) (some ⟨w.heap.size + 1, 0, none⟩) 1 [.string q] := by
  have h := Sl.of_new (w.alloc X) #[.string q] t fr
  rw [World.size_alloc] at h
  exact h
def vals (ls : List (List UInt8)) : List Value := ls.map fun l => .string (St l)
theorem vals_strs (ls : List (List UInt8)) : vals ls = strs (ls.map St) := by simp [vals, strs]
theorem vals_add (ls : List (List UInt8)) (l : List UInt8) : vals ls ++ [.string (St l)] = vals (ls ++ [l]) := by simp [vals]
theorem datas_St (ls : List (List UInt8)) : datas (ls.map St) = ls := by
  unfold datas
  rw [List.map_map]
  conv => rhs; rw [← List.map_id ls]
  exact List.map_congr_left fun l _ => by simp
/-- The library's Join of a slice of texts of the call's own. -/
theorem join_own {w : World} {A : Option Addr} {n c : Nat} {ls : List (List UInt8)} (h : Own w 9 A n c (vals ls)) (hn : n ≤ 4096) (sep : ByteArray) (hlen : (Lib.join ls sep.data.toList).length ≤ 140737488355328) :
    Calls Tryd.prog 17 #[.slice A n c, .string sep] w fun e w' => e = .returned (.string (St (Lib.join ls sep.data.toList))) ∧ Only [] w w' := by
  have hl : ls.length = n := by have := h.len; simpa [vals] using this
  have hsl := h.sl
  rcases h.2 with ⟨he, h0⟩ | ⟨g, cap, cur, he, _, hh, hc, _⟩
  · injection he with h1 h2 h3
    subst h1 h3 h0
    obtain rfl : ls = [] := List.eq_nil_of_length_eq_zero hl
    exact (Tryd.strings_Join_none none 0 sep w).mono fun e w' ⟨h1, h2⟩ => ⟨h1, h2 ▸ Only.refl _ _⟩
  · injection he with h1 h2 h3
    subst h1 h3
    have hj : (ls.map St).map (fun s : ByteArray => s.data.toList) = ls := datas_St ls
    have hx := Tryd.strings_Join g 0 c (ls.map St) sep w (fun j x hx => by
        have hjl : j < n := by have := (List.getElem?_eq_some_iff.1 hx).1; simpa [hl] using this
        obtain ⟨ad, u, e, hu, hcell⟩ := hsl.at_ hjl
        injection e with e
        subst e
        rw [add_none] at hcell
        rw [hcell, ← hu, vals_strs, strs, List.getElem?_map, hx]
        rfl)
      (lt_of_block hh) (by simp; omega) (by simp; omega) (by rw [hj]; exact hlen)
    rw [hj] at hx
    simp only [List.length_map, hl] at hx
    exact hx.mono fun e w' ⟨h1, h2⟩ => ⟨h1, Only.of_below h2⟩
theorem run_add_str (x y z : List UInt8) (h : x ++ y = z) (hz : z.length ≤ 4096) (W : World) : (Op.stringOp .add (St x) (St y)).run Tryd.prog W = .ok (.string (St z)) W := by
  rw [run_string_add_sum W _ _ (by rw [St_size, St_size]; have := congrArg List.length h; simp at this; omega)]
  subst h
  congr 2
theorem join_le : ∀ (ls : List (List UInt8)), (∀ l ∈ ls, l.length ≤ 9) → (Lib.join ls [32]).length ≤ 10 * ls.length
  | [], _ => by simp [Lib.join_nil]
  | x :: r, h => by
    have hr : ∀ (r : List (List UInt8)), (∀ l ∈ r, l.length ≤ 9) → (Lib.joinTail [32] r).length ≤ 10 * r.length := by
      intro r
      induction r with
      | nil => intro _; simp [Lib.joinTail]
      | cons y r ih =>
        intro h
        have h1 := h y (by simp)
        have h2 := ih (fun l hl => h l (by simp [hl]))
        simp only [Lib.joinTail, List.map_cons, List.flatten_cons, List.length_append, List.length_cons, List.length_nil] at h2 ⊢
        omega
    rw [Lib.join_cons, List.length_append, List.length_cons]
    have h1 := h x (by simp)
    have h2 := hr r (fun l hl => h l (by simp [hl]))
    omega
theorem wordsL_le (f : Int) : (Lib.join (wordsL f) [32]).length ≤ 50 := by
  have h := join_le (wordsL f) (fun l hl => by
    unfold wordsL at hl
    obtain ⟨k, _, rfl⟩ := List.mem_map.1 hl
    exact (nm_len k).2)
  have h5 := wordsK_len f 5
  rw [wordsK_five] at h5
  omega

set_option maxRecDepth 100000 in
theorem Print_any (f : Int) {w : World} (hL : Laid w) : Calls Tryd.prog 9 #[.int .i64 f] w fun e w' => e = .returned (.string (St (printL f))) ∧ Only [] w w' := by
  obtain ⟨i0, hi, hz0, hz1, hz2⟩ := infoStr_of
  obtain ⟨q0, hq0⟩ : ∃ q, St (nm 0) = q := ⟨_, rfl⟩
  have a0 : w.cell? ⟨0, 0, none⟩ = some (.int .i64 1) := (hL.nam 0 (by omega)).1
  have b0 : w.cell? ⟨0, 1, none⟩ = some (.string q0) := by rw [← hq0]; exact (hL.nam 0 (by omega)).2
  have HQ0 := Lib.hid hq0
  clear hq0
  obtain ⟨q1, hq1⟩ : ∃ q, St (nm 1) = q := ⟨_, rfl⟩
  have a1 : w.cell? ⟨0, 2, none⟩ = some (.int .i64 2) := (hL.nam 1 (by omega)).1
  have b1 : w.cell? ⟨0, 3, none⟩ = some (.string q1) := by rw [← hq1]; exact (hL.nam 1 (by omega)).2
  have HQ1 := Lib.hid hq1
  clear hq1
  obtain ⟨q2, hq2⟩ : ∃ q, St (nm 2) = q := ⟨_, rfl⟩
  have a2 : w.cell? ⟨0, 4, none⟩ = some (.int .i64 4) := (hL.nam 2 (by omega)).1
  have b2 : w.cell? ⟨0, 5, none⟩ = some (.string q2) := by rw [← hq2]; exact (hL.nam 2 (by omega)).2
  have HQ2 := Lib.hid hq2
  clear hq2
  obtain ⟨q3, hq3⟩ : ∃ q, St (nm 3) = q := ⟨_, rfl⟩
  have a3 : w.cell? ⟨0, 6, none⟩ = some (.int .i64 8) := (hL.nam 3 (by omega)).1
  have b3 : w.cell? ⟨0, 7, none⟩ = some (.string q3) := by rw [← hq3]; exact (hL.nam 3 (by omega)).2
  have HQ3 := Lib.hid hq3
  clear hq3
  obtain ⟨q4, hq4⟩ : ∃ q, St (nm 4) = q := ⟨_, rfl⟩
  have a4 : w.cell? ⟨0, 8, none⟩ = some (.int .i64 16) := (hL.nam 4 (by omega)).1
  have b4 : w.cell? ⟨0, 9, none⟩ = some (.string q4) := by rw [← hq4]; exact (hL.nam 4 (by omega)).2
  have HQ4 := Lib.hid hq4
  clear hq4
  clear hL
  go_enter Tryd.func9, Tryd.ntmps9
  go_wp2
  clear a0 b0 a1 b1 a2 b2 a3 b3 a4 b4
  go_loopw [3, 7] (fun sv v wr => Only [] w wr ∧ ∃ (K : Int) (k : Nat) (A : Option Addr) (n c : Nat), v = .int .i64 K ∧ K = (k : Int) ∧ k ≤ 5 ∧ sv = .slice A n c ∧ n ≤ k ∧ Own wr 9 A n c (vals (wordsK f k)) ∧ (∀ x ∈ blks A, w.heap.size ≤ x)) (fun _ v _ => 5 - (intOf v).toNat)
  case atStart => exact ⟨Only.refl _ _, 0, 0, none, 0, 0, rfl, rfl, by omega, rfl, Nat.le_refl _, Own.nil _ _, fun x hx => nomatch hx⟩
  case round =>
    obtain ⟨hO, K, k, A, n, c, rfl, hK, hk, rfl, hn, hV, hfr⟩ := hrel
    have HO := Lib.hid hO
    have HV := Lib.hid hV
    have HFR := Lib.hid hfr
    clear hO hV hfr
    rcases (by omega : k = 0 ∨ k = 1 ∨ k = 2 ∨ k = 3 ∨ k = 4 ∨ k = 5) with rfl | rfl | rfl | rfl | rfl | rfl
    · obtain rfl : K = 0 := by omega
      clear hK hk
      have hbz := i64_bit_zero f 0 (by omega)
      simp only [Nat.reducePow] at hbz
      have hix := idx0 q0 q1 q2 q3 q4 1 2 4 8 16
      cases hb : bitK f 0
      · have hbz' : (bits .and .i64 f 1 == 0) = true := by have h := hbz; rw [hb] at h; exact h
        have HR : Hid (∃ (K : Int) (k : Nat) (A' : Option Addr) (n' c' : Nat), Value.int .i64 1 = .int .i64 K ∧ K = (k : Int) ∧ k ≤ 5 ∧ Value.slice A n c = .slice A' n' c' ∧ n' ≤ k ∧ Own (wr.alloc (.cells #[.int .i64 1, .string q0] 38)) 9 A' n' c' (vals (wordsK f k)) ∧ (∀ x ∈ blks A', w.heap.size ≤ x)) :=
          ⟨1, 1, A, n, c, rfl, rfl, by omega, rfl, by omega, by rw [wordsK_no f 0 hb]; exact HV.out.alloc _, HFR.out⟩
        clear hb hbz hn
        go_wp2_with fail
        exact ⟨⟨HO.out.alloc _, HR.out⟩, by simp [intOf]⟩
      · have hbz' : (bits .and .i64 f 1 == 0) = false := by have h := hbz; rw [hb] at h; exact h
        have HB := Lib.hid hb
        clear hb hbz
        go_wp2_with (at_builtin; refine wpList_append_as rfl (.tmp 15) (.tmp 18) 22 rfl 9 i0 (.string ⟨#[]⟩) 16 Tryd.underlying22 hi hz0 hz1 hz2 rfl A n c _ rfl ((HV.out.alloc _).alloc _) _ 1 1 [.string q0] rfl (sl_two _ _ q0 _ _) (fun u hu => by simp at hu; subst hu; rfl) (by unfold maxLen; omega) (by omega) (n + 1) rfl (vals (wordsK f 1)) (by rw [wordsK_yes f 0 HB.out, ← vals_add, HQ0.out]) ?_; intro A2 c2 w2 V2 O2 B2)
        exact ⟨⟨((HO.out.alloc _).alloc _).trans O2 (fun x hx => .inr (HFR.out x hx)), 1, 1, A2, n + 1, c2, rfl, rfl, by omega, rfl, by omega, V2, fun x hx => by rcases B2 x hx with h | h; exact HFR.out x h; simp at h; have := HO.out.size; omega⟩, by simp [intOf]⟩
    · obtain rfl : K = 1 := by omega
      clear hK hk
      have hbz := i64_bit_zero f 1 (by omega)
      simp only [Nat.reducePow] at hbz
      have hix := idx1 q0 q1 q2 q3 q4 1 2 4 8 16
      cases hb : bitK f 1
      · have hbz' : (bits .and .i64 f 2 == 0) = true := by have h := hbz; rw [hb] at h; exact h
        have HR : Hid (∃ (K : Int) (k : Nat) (A' : Option Addr) (n' c' : Nat), Value.int .i64 2 = .int .i64 K ∧ K = (k : Int) ∧ k ≤ 5 ∧ Value.slice A n c = .slice A' n' c' ∧ n' ≤ k ∧ Own (wr.alloc (.cells #[.int .i64 2, .string q1] 38)) 9 A' n' c' (vals (wordsK f k)) ∧ (∀ x ∈ blks A', w.heap.size ≤ x)) :=
          ⟨2, 2, A, n, c, rfl, rfl, by omega, rfl, by omega, by rw [wordsK_no f 1 hb]; exact HV.out.alloc _, HFR.out⟩
        clear hb hbz hn
        go_wp2_with fail
        exact ⟨⟨HO.out.alloc _, HR.out⟩, by simp [intOf]⟩
      · have hbz' : (bits .and .i64 f 2 == 0) = false := by have h := hbz; rw [hb] at h; exact h
        have HB := Lib.hid hb
        clear hb hbz
        go_wp2_with (at_builtin; refine wpList_append_as rfl (.tmp 15) (.tmp 18) 22 rfl 9 i0 (.string ⟨#[]⟩) 16 Tryd.underlying22 hi hz0 hz1 hz2 rfl A n c _ rfl ((HV.out.alloc _).alloc _) _ 1 1 [.string q1] rfl (sl_two _ _ q1 _ _) (fun u hu => by simp at hu; subst hu; rfl) (by unfold maxLen; omega) (by omega) (n + 1) rfl (vals (wordsK f 2)) (by rw [wordsK_yes f 1 HB.out, ← vals_add, HQ1.out]) ?_; intro A2 c2 w2 V2 O2 B2)
        exact ⟨⟨((HO.out.alloc _).alloc _).trans O2 (fun x hx => .inr (HFR.out x hx)), 2, 2, A2, n + 1, c2, rfl, rfl, by omega, rfl, by omega, V2, fun x hx => by rcases B2 x hx with h | h; exact HFR.out x h; simp at h; have := HO.out.size; omega⟩, by simp [intOf]⟩
    · obtain rfl : K = 2 := by omega
      clear hK hk
      have hbz := i64_bit_zero f 2 (by omega)
      simp only [Nat.reducePow] at hbz
      have hix := idx2 q0 q1 q2 q3 q4 1 2 4 8 16
      cases hb : bitK f 2
      · have hbz' : (bits .and .i64 f 4 == 0) = true := by have h := hbz; rw [hb] at h; exact h
        have HR : Hid (∃ (K : Int) (k : Nat) (A' : Option Addr) (n' c' : Nat), Value.int .i64 3 = .int .i64 K ∧ K = (k : Int) ∧ k ≤ 5 ∧ Value.slice A n c = .slice A' n' c' ∧ n' ≤ k ∧ Own (wr.alloc (.cells #[.int .i64 4, .string q2] 38)) 9 A' n' c' (vals (wordsK f k)) ∧ (∀ x ∈ blks A', w.heap.size ≤ x)) :=
          ⟨3, 3, A, n, c, rfl, rfl, by omega, rfl, by omega, by rw [wordsK_no f 2 hb]; exact HV.out.alloc _, HFR.out⟩
        clear hb hbz hn
        go_wp2_with fail
        exact ⟨⟨HO.out.alloc _, HR.out⟩, by simp [intOf]⟩
      · have hbz' : (bits .and .i64 f 4 == 0) = false := by have h := hbz; rw [hb] at h; exact h
        have HB := Lib.hid hb
        clear hb hbz
        go_wp2_with (at_builtin; refine wpList_append_as rfl (.tmp 15) (.tmp 18) 22 rfl 9 i0 (.string ⟨#[]⟩) 16 Tryd.underlying22 hi hz0 hz1 hz2 rfl A n c _ rfl ((HV.out.alloc _).alloc _) _ 1 1 [.string q2] rfl (sl_two _ _ q2 _ _) (fun u hu => by simp at hu; subst hu; rfl) (by unfold maxLen; omega) (by omega) (n + 1) rfl (vals (wordsK f 3)) (by rw [wordsK_yes f 2 HB.out, ← vals_add, HQ2.out]) ?_; intro A2 c2 w2 V2 O2 B2)
        exact ⟨⟨((HO.out.alloc _).alloc _).trans O2 (fun x hx => .inr (HFR.out x hx)), 3, 3, A2, n + 1, c2, rfl, rfl, by omega, rfl, by omega, V2, fun x hx => by rcases B2 x hx with h | h; exact HFR.out x h; simp at h; have := HO.out.size; omega⟩, by simp [intOf]⟩
    · obtain rfl : K = 3 := by omega
      clear hK hk
      have hbz := i64_bit_zero f 3 (by omega)
      simp only [Nat.reducePow] at hbz
      have hix := idx3 q0 q1 q2 q3 q4 1 2 4 8 16
      cases hb : bitK f 3
      · have hbz' : (bits .and .i64 f 8 == 0) = true := by have h := hbz; rw [hb] at h; exact h
        have HR : Hid (∃ (K : Int) (k : Nat) (A' : Option Addr) (n' c' : Nat), Value.int .i64 4 = .int .i64 K ∧ K = (k : Int) ∧ k ≤ 5 ∧ Value.slice A n c = .slice A' n' c' ∧ n' ≤ k ∧ Own (wr.alloc (.cells #[.int .i64 8, .string q3] 38)) 9 A' n' c' (vals (wordsK f k)) ∧ (∀ x ∈ blks A', w.heap.size ≤ x)) :=
          ⟨4, 4, A, n, c, rfl, rfl, by omega, rfl, by omega, by rw [wordsK_no f 3 hb]; exact HV.out.alloc _, HFR.out⟩
        clear hb hbz hn
        go_wp2_with fail
        exact ⟨⟨HO.out.alloc _, HR.out⟩, by simp [intOf]⟩
      · have hbz' : (bits .and .i64 f 8 == 0) = false := by have h := hbz; rw [hb] at h; exact h
        have HB := Lib.hid hb
        clear hb hbz
        go_wp2_with (at_builtin; refine wpList_append_as rfl (.tmp 15) (.tmp 18) 22 rfl 9 i0 (.string ⟨#[]⟩) 16 Tryd.underlying22 hi hz0 hz1 hz2 rfl A n c _ rfl ((HV.out.alloc _).alloc _) _ 1 1 [.string q3] rfl (sl_two _ _ q3 _ _) (fun u hu => by simp at hu; subst hu; rfl) (by unfold maxLen; omega) (by omega) (n + 1) rfl (vals (wordsK f 4)) (by rw [wordsK_yes f 3 HB.out, ← vals_add, HQ3.out]) ?_; intro A2 c2 w2 V2 O2 B2)
        exact ⟨⟨((HO.out.alloc _).alloc _).trans O2 (fun x hx => .inr (HFR.out x hx)), 4, 4, A2, n + 1, c2, rfl, rfl, by omega, rfl, by omega, V2, fun x hx => by rcases B2 x hx with h | h; exact HFR.out x h; simp at h; have := HO.out.size; omega⟩, by simp [intOf]⟩
    · obtain rfl : K = 4 := by omega
      clear hK hk
      have hbz := i64_bit_zero f 4 (by omega)
      simp only [Nat.reducePow] at hbz
      have hix := idx4 q0 q1 q2 q3 q4 1 2 4 8 16
      cases hb : bitK f 4
      · have hbz' : (bits .and .i64 f 16 == 0) = true := by have h := hbz; rw [hb] at h; exact h
        have HR : Hid (∃ (K : Int) (k : Nat) (A' : Option Addr) (n' c' : Nat), Value.int .i64 5 = .int .i64 K ∧ K = (k : Int) ∧ k ≤ 5 ∧ Value.slice A n c = .slice A' n' c' ∧ n' ≤ k ∧ Own (wr.alloc (.cells #[.int .i64 16, .string q4] 38)) 9 A' n' c' (vals (wordsK f k)) ∧ (∀ x ∈ blks A', w.heap.size ≤ x)) :=
          ⟨5, 5, A, n, c, rfl, rfl, by omega, rfl, by omega, by rw [wordsK_no f 4 hb]; exact HV.out.alloc _, HFR.out⟩
        clear hb hbz hn
        go_wp2_with fail
        exact ⟨⟨HO.out.alloc _, HR.out⟩, by simp [intOf]⟩
      · have hbz' : (bits .and .i64 f 16 == 0) = false := by have h := hbz; rw [hb] at h; exact h
        have HB := Lib.hid hb
        clear hb hbz
        go_wp2_with (at_builtin; refine wpList_append_as rfl (.tmp 15) (.tmp 18) 22 rfl 9 i0 (.string ⟨#[]⟩) 16 Tryd.underlying22 hi hz0 hz1 hz2 rfl A n c _ rfl ((HV.out.alloc _).alloc _) _ 1 1 [.string q4] rfl (sl_two _ _ q4 _ _) (fun u hu => by simp at hu; subst hu; rfl) (by unfold maxLen; omega) (by omega) (n + 1) rfl (vals (wordsK f 5)) (by rw [wordsK_yes f 4 HB.out, ← vals_add, HQ4.out]) ?_; intro A2 c2 w2 V2 O2 B2)
        exact ⟨⟨((HO.out.alloc _).alloc _).trans O2 (fun x hx => .inr (HFR.out x hx)), 5, 5, A2, n + 1, c2, rfl, rfl, by omega, rfl, by omega, V2, fun x hx => by rcases B2 x hx with h | h; exact HFR.out x h; simp at h; have := HO.out.size; omega⟩, by simp [intOf]⟩
    · obtain rfl : K = 5 := by omega
      have hle := wordsL_le f
      have hV := HV.out
      rw [wordsK_five] at hV
      have HP : Hid (printL f = 40 :: (Lib.join (wordsL f) [32] ++ [41])) := rfl
      obtain ⟨j, hj⟩ : ∃ j, Lib.join (wordsL f) [32] = j := ⟨_, rfl⟩
      have HJ : Hid (Calls Tryd.prog 17 #[.slice A n c, .string ⟨#[32]⟩] wr fun e w' => e = .returned (.string (St j)) ∧ Only [] wr w') := by
        have h := join_own hV (by omega) ⟨#[32]⟩ (by show (Lib.join (wordsL f) [32]).length ≤ _; omega)
        rw [← hj]
        exact h
      rw [hj] at hle HP
      have h1 := fun W => run_add_str [40] j (40 :: j) rfl (by simp; omega) W
      have h2 := fun W => run_add_str (40 :: j) [41] (40 :: (j ++ [41])) rfl (by simp; omega) W
      obtain ⟨t1, ht1⟩ : ∃ t1, St j = t1 := ⟨_, rfl⟩
      obtain ⟨t2, ht2⟩ : ∃ t2, St (40 :: j) = t2 := ⟨_, rfl⟩
      obtain ⟨t3, ht3⟩ : ∃ t3, St (40 :: (j ++ [41])) = t3 := ⟨_, rfl⟩
      have HT : Hid (St (printL f) = t3) := by show _ = _; rw [HP.out]; exact ht3
      rw [ht1] at h1 HJ
      rw [ht2] at h1 h2
      rw [ht3] at h2
      clear ht1 ht2 ht3 hj hle hV hK hk hn HP
      go_wp2_with (go_at_call 17; with_reducible refine HJ.out.mono ?_; rintro e w2 ⟨rfl, O2⟩)
      go_ret
      exact ⟨by rw [HT.out]; rfl, HO.out.then O2⟩
end Go.Proofs.YtamekbpmbmggoaaDoor
