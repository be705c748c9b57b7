/-
  The law SpanJoins: two texts of sets with a comma between are both sets, if they are not too many.
-/
import Derived.Test.YtkdaemjdiafccaaDoorNKnown
import Derived.Test.YtkdaemjdiafccaaDoorNSame
import Derived.Test.YtkdaemjdiafccaaDoorNTxt
namespace Go.Proofs.YtkdaemjdiafccaaDoor
open Go.RowKit Go.Instr

theorem prs_app (a b : List UInt8) (m : Nat) : prs m (a ++ 44 :: b) = match prs m a, prs m b with
    | some x, some y => if x.length + y.length ≤ m then some (x ++ y) else none
    | _, _ => none := by
  have la := cm_len a
  have lb := cm_len b
  unfold prs
  rw [cm_app, List.length_append, rgs_app]
  by_cases ha : (cm a).length ≤ m
  · by_cases hb : (cm b).length ≤ m
    · rw [if_pos ha, if_pos hb]
      cases hx : rgs (cm a) with
      | none => simp
      | some x =>
        cases hy : rgs (cm b) with
        | none => simp
        | some y =>
          have h1 := rgs_len _ _ hx
          have h2 := rgs_len _ _ hy
          simp only [h1, h2]
    · rw [if_neg hb, if_neg (by omega)]
      split
      · rename_i h
        cases h
      · rfl
  · rw [if_neg ha, if_neg (by omega)]
theorem ro_empty (w : World) : Ro (w.alloc (.cells #[] 35)) (some ⟨w.heap.size, 0, none⟩) 0 0 [] :=
  ⟨rfl, rfl, .inr ⟨w.heap.size, 0, #[], rfl, Nat.zero_le _, heap_alloc_new w _, Nat.le_refl _, Nat.zero_le _, rfl, rfl⟩⟩
/-- Ranges behind ranges, both of the call's own. -/
theorem run_append_ro {w : World} (ty : TypeId) (A : Option Addr) (n c : Nat) (l : List Rg) (h : Ro w A n c l) (B : Option Addr) (m d : Nat) (t : List Rg) (ht : Ro w B m d t) (hm : 0 < m) (hn : n ≤ 1000) (hm2 : m ≤ 1000) :
    ∃ A' c' w', (Builtin.append_ #[22, 22] ty #[.slice A n c, .slice B m d]).run Tryd.prog w = .ok (.slice A' (n + m) c') w' ∧ Ro w' A' (n + m) c' (l ++ t) ∧ Only (blks A) w w' ∧ ∀ k ∈ blks A', k ∈ blks A ∨ w.heap.size ≤ k := by
  obtain ⟨i0, hi, hz0, hz1, hz2⟩ := info_parts infoRg
  obtain ⟨h1, h2⟩ := h
  obtain ⟨t1, t2⟩ := ht
  obtain ⟨bb, cap, hv, _, _⟩ := t2.form (by omega)
  have hB : B = some ⟨bb, 0, none⟩ := by injection hv
  subst hB
  obtain ⟨v', w', hrun, r1, r2, _, r4⟩ := run_append_own_at (P := Tryd.prog) w 0 22 ty 35 i0 (.agg #[.int .i64 0, .int .i64 0]) 2 16 Tryd.underlying22 hi hz0 hz1 hz2 rfl (by omega) _ n (rvs l) h2 ⟨bb, 0, none⟩ m d (rvs t) (by rw [rvs_len, t1]) (fun j u hu => by
    have := t2.cells (g := bb) rfl j u hu
    rw [add_none] at this ⊢
    exact this) (fun u hu => by
    unfold rvs at hu
    obtain ⟨r, _, hu⟩ := List.mem_flatMap.1 hu
    simp at hu
    rcases hu with rfl | rfl <;> rfl) (by unfold maxLen; omega) (by omega) (Nat.zero_le _)
  have hform : ∃ A' c', v' = .slice A' (n + m) c' := by
    rcases r1.2 with ⟨_, h0⟩ | ⟨g, cap, cur, rfl, _⟩
    · omega
    · exact ⟨_, _, rfl⟩
  obtain ⟨A', c', rfl⟩ := hform
  refine ⟨A', c', w', hrun, ⟨by simp [h1, t1], by rw [rvs_append]; exact r1⟩, ?_, fun k hk => ?_⟩
  · have := Only.of_grown r2
    cases A with
    | none => simpa [Value.ownBlock] using this
    | some a => simpa [Value.ownBlock] using this
  · cases A' with
    | none => cases hk
    | some a' =>
      simp only [blks_some, List.mem_singleton] at hk
      subst hk
      rcases r4 with r4 | r4
      · left
        cases A with
        | none => simp [Value.ownBlock] at r4
        | some a => simp [Value.ownBlock] at r4; simp [r4]
      · right
        simp [Value.ownBlock] at r4
        omega
theorem wp_append_ro {o : Oper} {a : Act} {w : World} {K : Act → World → Prop} {Q : Exit → Act → World → Prop} (s x : Operand)
    (ho : o.op = .call { callee := .builtin .append, args := #[s, x], argTypes := #[22, 22] }) (A : Option Addr) (n c : Nat) (l : List Rg) (hs : a.eval s = .slice A n c) (h : Ro w A n c l) (B : Option Addr) (m d : Nat) (t : List Rg) (hx : a.eval x = .slice B m d) (ht : Ro w B m d t) (hm : 0 < m) (hn : n ≤ 1000) (hm2 : m ≤ 1000) (q : Nat) (hq : n + m = q)
    (hK : ∀ A' c' w', Ro w' A' q c' (l ++ t) → Only (blks A) w w' → (∀ k ∈ blks A', k ∈ blks A ∨ w.heap.size ≤ k) → K (a.put o.dst (.slice A' q c')) w') : o.wp Tryd.prog a w K Q := by
  subst hq
  obtain ⟨A', c', w', hrun, k1, k2, k3⟩ := run_append_ro o.type A n c l h B m d t ht hm hn hm2
  unfold Oper.wp execOp
  simp only [ho, resolve, invoke, builtin, Sem.run_bind, Sem.run_pure, Result.andThen_ok, List.map_toArray, List.map_cons, List.map_nil, hs, hx, hrun]
  exact hK A' c' w' k1 k2 k3
theorem wpList_append_ro {ops : Array Oper} {rest : List Oper} {o : Oper} {a : Act} {w : World} {Q : Exit → Act → World → Prop} (hwt : Region.wanted o (yielded ops a.tmps) = true) (s x : Operand)
    (ho : o.op = .call { callee := .builtin .append, args := #[s, x], argTypes := #[22, 22] }) (A : Option Addr) (n c : Nat) (l : List Rg) (hs : a.eval s = .slice A n c) (h : Ro w A n c l) (B : Option Addr) (m d : Nat) (t : List Rg) (hx : a.eval x = .slice B m d) (ht : Ro w B m d t) (hm : 0 < m) (hn : n ≤ 1000) (hm2 : m ≤ 1000) (q : Nat) (hq : n + m = q)
    (hK : ∀ A' c' w', Ro w' A' q c' (l ++ t) → Only (blks A) w w' → (∀ k ∈ blks A', k ∈ blks A ∨ w.heap.size ≤ k) → wpList Tryd.prog ops Q rest (a.put o.dst (.slice A' q c')) w') : wpList Tryd.prog ops Q (o :: rest) a w := by
  unfold wpList
  rw [if_pos hwt]
  exact .inl (wp_append_ro s x ho A n c l hs h B m d t hx ht hm hn hm2 q hq fun A' c' w' h1 h2 h3 => hK A' c' w' h1 h2 h3)
theorem Parse_none {l : List UInt8} (hl : l.length ≤ 1000) (h : prs 16 l = none) (W : World) : Calls Tryd.prog 9 #[.string (St l)] W fun e w' => ∃ A c, e = .returned (.tuple #[.slice A 0 c, .int .i64 3]) ∧ Only [] W w' := by
  have h1 := Parse_any (St l) W (by rw [St_size]; omega)
  rw [St_list, h] at h1
  exact h1.mono fun e w' ⟨A, c, k1, _, _, k4⟩ => ⟨A, c, k1, k4⟩
theorem Parse_some {l : List UInt8} (hl : l.length ≤ 1000) {x : List Rg} {n : Nat} (hn : x.length = n) (h : prs 16 l = some x) (W : World) : Calls Tryd.prog 9 #[.string (St l)] W fun e w' => ∃ A c, e = .returned (.tuple #[.slice A n c, .int .i64 0]) ∧ Hid (Ro w' A n c x) ∧ Only [] W w' := by
  subst hn
  have h1 := Parse_any (St l) W (by rw [St_size]; omega)
  rw [St_list, h] at h1
  exact h1.mono fun e w' ⟨A, c, k1, k2, _, k4⟩ => ⟨A, c, k1, k2, k4⟩
theorem Parse_what {l : List UInt8} (hl : l.length ≤ 1000) (W : World) : Calls Tryd.prog 9 #[.string (St l)] W fun e w' => ∃ (A : Option Addr) (n c : Nat) (E : Int), e = .returned (.tuple #[.slice A n c, .int .i64 E]) ∧ Only [] W w' :=
  (Parse_any (St l) W (by rw [St_size]; omega)).mono fun e w' ⟨A, c, k1, _, _, k4⟩ => ⟨A, _, c, _, k1, k4⟩
theorem sameL_own (l : List Rg) : sameL l l = true := by simp [sameL]
set_option maxHeartbeats 2000000 in
theorem Joins_any {w : World} (sa sb : ByteArray) (ha : sa.size ≤ 140737488351232) (hb : sb.size ≤ 140737488351232) (hL : Laid w) : Calls Tryd.prog 7 #[.string sa, .string sb] w fun e w' => e = .returned (.bool true) ∧ Only [] w w' := by
  by_cases h200 : 200 < sa.size + sb.size
  · have h200' : (200 : Int) < (sa.size : Int) + (sb.size : Int) := by omega
    clear hL
    go_enter Tryd.func7, Tryd.ntmps7
    go_wp2
    go_ret
    exact ⟨rfl, Only.refl _ _⟩
  · have HL := Lib.hid hL
    obtain ⟨la, rfl⟩ : ∃ la, sa = St la := ⟨_, (St_data sa).symm⟩
    obtain ⟨lb, rfl⟩ : ∃ lb, sb = St lb := ⟨_, (St_data sb).symm⟩
    have hsz : la.length + lb.length ≤ 200 := by rw [St_size, St_size] at h200; omega
    have h200' : ¬ (200 : Int) < ((St la).size : Int) + ((St lb).size : Int) := by omega
    have hs1 := add_txt la [44] _ rfl (by rw [List.length_append, List.length_singleton]; omega)
    have hs2 := add_txt (la ++ [44]) lb _ rfl (by rw [List.length_append, List.length_append, List.length_singleton]; omega)
    have hcat : (la ++ [44]) ++ lb = la ++ 44 :: lb := by simp
    have hZ := prs_app la lb 16
    have h4 : ((la ++ [44]) ++ lb).length ≤ 1000 := by rw [List.length_append, List.length_append, List.length_singleton]; omega
    have cA := fun W => Parse_what (l := la) (by omega) W
    have cB := fun W => Parse_what (l := lb) (by omega) W
    cases hX : prs 16 la with
    | none =>
      have cX := fun W => Parse_none (l := la) (by omega) hX W
      have cZ := fun W => Parse_none (l := (la ++ [44]) ++ lb) h4 (by rw [hcat, hZ, hX]) W
      generalize St la = ta at cX cZ hs1 hs2 h200 h200' ha cA
      generalize St lb = tb at cB hs2 h200 h200' hb
      generalize St (la ++ [44]) = t1 at hs1 hs2
      generalize St ((la ++ [44]) ++ lb) = t2 at hs2 cZ
      clear hX hZ hcat h4 hsz hL cA
      go_enter Tryd.func7, Tryd.ntmps7
      go_wp2_with first
        | (go_at_call 9; with_reducible refine (cX _).mono ?_; rintro e w1 ⟨A1, c1, rfl, O1⟩; clear cX)
        | (go_at_call 9; with_reducible refine (cB _).mono ?_; rintro e w2 ⟨A2, n2, c2, E2, rfl, O2⟩; replace O2 := O1.then O2; clear cB)
        | (go_at_call 9; with_reducible refine (cZ _).mono ?_; rintro e w3 ⟨A3, c3, rfl, O3⟩; replace O3 := O2.then O3; clear cZ)
        | (go_at_call 17; with_reducible refine (known_any (HL.out.only O3)).mono ?_; rintro e w4 ⟨rfl, O4⟩)
      go_ret
      exact ⟨rfl, O3.then O4⟩
    | some x =>
      obtain ⟨nx, hnx⟩ : ∃ n, x.length = n := ⟨_, rfl⟩
      have cX := fun W => Parse_some (l := la) (by omega) hnx hX W
      have lx := prs_len hX
      cases hY : prs 16 lb with
      | none =>
        have cY := fun W => Parse_none (l := lb) (by omega) hY W
        have cZ := fun W => Parse_none (l := (la ++ [44]) ++ lb) h4 (by rw [hcat, hZ, hX, hY]) W
        generalize St la = ta at cX cZ hs1 hs2 h200 h200' ha cA
        generalize St lb = tb at cY cB hs2 h200 h200' hb
        generalize St (la ++ [44]) = t1 at hs1 hs2
        generalize St ((la ++ [44]) ++ lb) = t2 at hs2 cZ
        clear hX hY hZ hcat h4 hsz hL cA cB lx hnx
        go_enter Tryd.func7, Tryd.ntmps7
        go_wp2_with first
          | (go_at_call 9; with_reducible refine (cX _).mono ?_; rintro e w1 ⟨A1, c1, rfl, V1, O1⟩; clear cX)
          | (go_at_call 9; with_reducible refine (cY _).mono ?_; rintro e w2 ⟨A2, c2, rfl, O2⟩; replace O2 := O1.then O2; clear cY)
          | (go_at_call 9; with_reducible refine (cZ _).mono ?_; rintro e w3 ⟨A3, c3, rfl, O3⟩; replace O3 := O2.then O3; clear cZ)
          | (go_at_call 17; with_reducible refine (known_any (HL.out.only O3)).mono ?_; rintro e w4 ⟨rfl, O4⟩)
        go_ret
        exact ⟨rfl, O3.then O4⟩
      | some y =>
        obtain ⟨ny, hny⟩ : ∃ n, y.length = n := ⟨_, rfl⟩
        have cY := fun W => Parse_some (l := lb) (by omega) hny hY W
        have ly := prs_len hY
        have hnx16 : nx ≤ 16 := by omega
        have hny16 : ny ≤ 16 := by omega
        have hx0 : 0 < nx := by omega
        have hy0 : 0 < ny := by omega
        by_cases h16 : nx + ny ≤ 16
        · have cZ := fun W => Parse_some (l := (la ++ [44]) ++ lb) h4 (n := nx + ny) (x := x ++ y) (by rw [List.length_append]; omega) (by rw [hcat, hZ, hX, hY]; simp only; rw [if_pos (by omega)]) W
          have hsm := sameL_own (x ++ y)
          have h16' : ¬ (16 : Int) < (nx : Int) + (ny : Int) := by omega
          obtain ⟨nz, hnz⟩ : ∃ n, nx + ny = n := ⟨_, rfl⟩
          rw [hnz] at cZ
          have HNZ := Lib.hid hnz
          have CS : ∀ (W : World) (A1 A2 : Option Addr) (c1 c2 : Nat), Ro W A1 nz c1 (x ++ y) → Ro W A2 nz c2 (x ++ y) → Calls Tryd.prog 16 #[.slice A1 nz c1, .slice A2 nz c2] W fun e w' => e = .returned (.bool true) ∧ Only [] W w' := fun W A1 A2 c1 c2 h1 h2 => by
            have := Same_any (c := c1) (d := c2) h1.reads h2.reads (by omega) (by omega)
            rwa [hsm] at this
          generalize St la = ta at cX cZ hs1 hs2 h200 h200' ha cA
          generalize St lb = tb at cY cB hs2 h200 h200' hb
          generalize St (la ++ [44]) = t1 at hs1 hs2
          generalize St ((la ++ [44]) ++ lb) = t2 at hs2 cZ
          clear hX hY hZ hcat h4 hsz hL cA cB lx ly hnx hny h16 hsm hnz
          go_enter Tryd.func7, Tryd.ntmps7
          go_wp2_with first
            | (go_at_call 9; with_reducible refine (cX _).mono ?_; rintro e w1 ⟨A1, c1, rfl, V1, O1⟩; clear cX)
            | (go_at_call 9; with_reducible refine (cY _).mono ?_; rintro e w2 ⟨A2, c2, rfl, V2, O2⟩; replace V1 := Lib.hid (V1.out.keep O2); replace O2 := O1.then O2; clear cY)
            | (go_at_call 9; with_reducible refine (cZ _).mono ?_; rintro e w3 ⟨A3, c3, rfl, V3, O3⟩; replace V1 := Lib.hid (V1.out.keep O3); replace V2 := Lib.hid (V2.out.keep O3); replace O3 := O2.then O3; clear cZ)
            | (at_builtin; refine wpList_append_ro rfl (.tmp 66) (.tmp 67) rfl (some ⟨w3.heap.size, 0, none⟩) 0 0 [] rfl (ro_empty w3) A1 nx c1 x rfl (V1.out.keep ((Only.refl _ _).alloc _)) hx0 (by omega) (by omega) nx (by omega) ?_; intro A4 c4 w4 V4 O4 B4)
            | (at_builtin; refine wpList_append_ro rfl (.tmp 68) (.tmp 69) rfl A4 nx c4 _ rfl V4 A2 ny c2 y rfl ((V2.out.keep ((Only.refl _ _).alloc _)).only O4 (fun z hz hm => by have := V2.out.lt hz; simp at hm; omega)) hy0 (by omega) (by omega) nz HNZ.out ?_; intro A5 c5 w5 V5 O5 B5)
            | (go_at_call 16; have OW : Only [] w3 w5 := (((Only.refl [] w3).alloc (.cells #[] 35)).trans O4 (fun z hz => .inr (by simp at hz; omega))).trans O5 (fun z hz => .inr (by rcases B4 z hz with h | h; simp at h; omega; rw [World.size_alloc] at h; omega)); have V5' : Ro w5 A5 nz c5 (x ++ y) := V5; have V3' := V3.out.keep OW; with_reducible refine (CS _ _ _ _ _ V3' V5').mono ?_; rintro e w6 ⟨rfl, O6⟩; replace O6 := (O3.then OW).then O6)
            | (go_at_call 17; with_reducible refine (known_any (HL.out.only O6)).mono ?_; rintro e w7 ⟨rfl, O7⟩)
          go_ret
          exact ⟨rfl, O6.then O7⟩
        · have cZ := fun W => Parse_none (l := (la ++ [44]) ++ lb) h4 (by rw [hcat, hZ, hX, hY]; simp only; rw [if_neg (by omega)]) W
          have h16' : (16 : Int) < (nx : Int) + (ny : Int) := by omega
          generalize St la = ta at cX cZ hs1 hs2 h200 h200' ha cA
          generalize St lb = tb at cY cB hs2 h200 h200' hb
          generalize St (la ++ [44]) = t1 at hs1 hs2
          generalize St ((la ++ [44]) ++ lb) = t2 at hs2 cZ
          clear hX hY hZ hcat h4 hsz hL cA cB lx ly hnx hny h16
          go_enter Tryd.func7, Tryd.ntmps7
          go_wp2_with first
            | (go_at_call 9; with_reducible refine (cX _).mono ?_; rintro e w1 ⟨A1, c1, rfl, V1, O1⟩; clear cX)
            | (go_at_call 9; with_reducible refine (cY _).mono ?_; rintro e w2 ⟨A2, c2, rfl, V2, O2⟩; replace O2 := O1.then O2; clear cY)
            | (go_at_call 9; with_reducible refine (cZ _).mono ?_; rintro e w3 ⟨A3, c3, rfl, O3⟩; replace O3 := O2.then O3; clear cZ)
            | (go_at_call 17; with_reducible refine (known_any (HL.out.only O3)).mono ?_; rintro e w4 ⟨rfl, O4⟩)
          go_ret
          exact ⟨rfl, O3.then O4⟩
end Go.Proofs.YtkdaemjdiafccaaDoor
