/-
  Are two sets one? span's (slices.Equal) and the document's.
-/
import Derived.Test.YtkdaemjdiafccaaDoorNRefOk
import Derived.Laws.StructEq
namespace Go.Proofs.YtkdaemjdiafccaaDoor
open Go.RowKit Go.Instr

theorem rgStruct : Tryd.prog.underlying 35 = some (.struct (Tryd.prog.fieldsOf 35)) := by kernel_rfl
theorem rgStood : Tryd.prog.stoodInHeld 35 = false := by kernel_rfl
theorem rgGuard : Tryd.prog.eqGuardType Tryd.prog.depth 35 = false := by kernel_rfl
theorem rgFields : ((Tryd.prog.fieldsOf 35).toList.map fun f => (f.type, f.offset, f.name == "_")) = [(3, 0, false), (3, 1, false)] := by kernel_rfl
theorem info_cells : (Tryd.prog.info? 3).map (·.size) = some 1 := by kernel_rfl
theorem rg_two : ∃ f0 f1, (Tryd.prog.fieldsOf 35).toList = [f0, f1] ∧ f0.type = 3 ∧ f0.offset = 0 ∧ (f0.name == "_") = false ∧ f1.type = 3 ∧ f1.offset = 1 ∧ (f1.name == "_") = false := by
  have h := rgFields
  generalize (Tryd.prog.fieldsOf 35).toList = l at h
  have hl : l.length = 2 := by simpa using congrArg List.length h
  match l, hl with
  | [f0, f1], _ =>
    simp only [List.map_cons, List.map_nil, List.cons.injEq, Prod.mk.injEq, and_true] at h
    exact ⟨f0, f1, rfl, h.1.1, h.1.2.1, h.1.2.2, h.2.1, h.2.2.1, h.2.2.2⟩
theorem eq_rg_in (dp : Nat) (a b c d : Int) (w : World) (h9 : ∀ x y : Int, (Op.equalIn dp 3 (.int .i64 x) (.int .i64 y)).run Tryd.prog w = .ok (x == y) w) :
    (Op.equalIn (dp + 1) 35 (.agg #[.int .i64 a, .int .i64 b]) (.agg #[.int .i64 c, .int .i64 d])).run Tryd.prog w = .ok (a == c && b == d) w := by
  obtain ⟨i, hi, hs⟩ := Option.map_eq_some_iff.1 info_cells
  obtain ⟨f0, f1, hf, t0, o0, n0, t1, o1, n1⟩ := rg_two
  rw [run_equalIn_agg _ _ _ _ _ rgStruct rgStood, hf]
  have n0' : f0.name ≠ "_" := by simpa using n0
  have n1' : f1.name ≠ "_" := by simpa using n1
  cases h1 : a == c <;> cases h2 : b == d <;> simp [Op.eqFields, n0', n1', t0, t1, o0, o1, go_sem, sizeOf, typeInfo, hi, hs, h9, h1, h2]
theorem run_neq_rg (a b c d : Int) (w : World) : (binOp .neq 35 (.agg #[.int .i64 a, .int .i64 b]) (.agg #[.int .i64 c, .int .i64 d])).run Tryd.prog w = .ok (.bool (!(a == c && b == d))) w := by
  rw [run_neq_struct, eq_rg_in 9999 a b c d w fun x y => run_equalIn_int (P := Tryd.prog) (w := w) 9998 3 .i64 .i64 x y Tryd.underlying3]
  rfl
theorem guard_rg (op : BinOp) (x y : Operand) (xs ys : Array Value) (w : World) : (eqGuard op 35 x y (.agg xs) (.agg ys)).run Tryd.prog w = .ok () w := run_eqGuard_agg w op _ x y xs ys rgGuard

def sameL (l m : List Rg) : Bool := l == m
theorem sameL_len {l m : List Rg} (h : l.length ≠ m.length) : sameL l m = false := by
  unfold sameL
  rw [beq_eq_false_iff_ne]
  intro e
  exact h (by rw [e])
theorem sameL_miss {l m : List Rg} {k : Nat} (h1 : k < l.length) (h2 : k < m.length) (hx : (l[k].1 == m[k].1 && l[k].2 == m[k].2) = false) : sameL l m = false := by
  unfold sameL
  rw [beq_eq_false_iff_ne]
  intro e
  subst e
  simp at hx
theorem sameL_step {l m : List Rg} {k : Nat} (h1 : k < l.length) (h2 : k < m.length) (hx : (l[k].1 == m[k].1 && l[k].2 == m[k].2) = true) (h : l.take k = m.take k) : l.take (k + 1) = m.take (k + 1) := by
  rw [List.take_succ_eq_append_getElem h1, List.take_succ_eq_append_getElem h2, h]
  simp only [Bool.and_eq_true, beq_iff_eq] at hx
  rw [Prod.ext hx.1 hx.2]
theorem sameL_all {l m : List Rg} {n : Nat} (h1 : l.length = n) (h2 : m.length = n) (h : l.take n = m.take n) : sameL l m = true := by
  rw [List.take_of_length_le (by omega), List.take_of_length_le (by omega)] at h
  unfold sameL
  simp [h]
set_option maxHeartbeats 1000000 in
set_option maxRecDepth 100000 in
theorem refSame_any {w : World} {A B : Option Addr} {n m c d : Nat} {l t : List Rg} (hs : Rs w A n l) (ht : Rs w B m t) (hn : n ≤ 140737488355328) (hm : m ≤ 140737488355328) :
    Calls Tryd.prog 11 #[.slice A n c, .slice B m d] w fun e w' => e = .returned (.bool (sameL l t)) ∧ Only [] w w' := by
  have hl := hs.len
  have hl2 := ht.len
  obtain ⟨q, hq⟩ : ∃ q, sameL l t = q := ⟨_, rfl⟩
  rw [hq]
  have HQ := Lib.hid hq
  have HS := Lib.hid hs
  have HT := Lib.hid ht
  have HL := Lib.hid hl
  have HL2 := Lib.hid hl2
  by_cases hnm : n = m
  · subst hnm
    clear hs ht hl hl2 hq hm
    go_enter Tryd.func11, Tryd.ntmps11
    go_wp2
    go_loopw [5] (fun iv wr => Only [] w wr ∧ ∃ k : Nat, iv = .int .i64 (k : Int) ∧ k ≤ n ∧ Hid (l.take k = t.take k)) (fun iv _ => n - (intOf iv).toNat)
    case atStart => exact ⟨Only.refl _ _, 0, rfl, by omega, rfl⟩
    case round =>
      obtain ⟨hO, k, rfl, hk, HK⟩ := hrel
      by_cases hlt : k < n
      · have hlt' : (k : Int) < (n : Int) := by omega
        have h0k : (0 : Int) ≤ (k : Int) := by omega
        have hk1 : k < l.length := by rw [HL.out]; exact hlt
        have hk2 : k < t.length := by rw [HL2.out]; exact hlt
        obtain ⟨ad, rfl, c1, c2⟩ := (HS.out.keep hO).at_ hlt hk1
        obtain ⟨ae, rfl, e1, e2⟩ := (HT.out.keep hO).at_ hlt hk2
        have hmiss := sameL_miss hk1 hk2
        have hstep := sameL_step hk1 hk2
        obtain ⟨r1, hr1⟩ : ∃ r, l[k] = r := ⟨_, rfl⟩
        obtain ⟨r2, hr2⟩ : ∃ r, t[k] = r := ⟨_, rfl⟩
        rw [hr1] at c1 c2 hmiss hstep
        rw [hr2] at e1 e2 hmiss hstep
        obtain ⟨a, b⟩ := r1
        obtain ⟨x, y⟩ := r2
        simp only [nxt] at c1 c2 e1 e2 hmiss hstep
        have hneq := run_neq_rg a b x y
        have hgd := guard_rg .neq
        have HW := Lib.hid (IntWalk.wrap64_in ((k : Int) + 1) (by omega))
        have HM : Hid (n - (intOf (.int .i64 ((k : Int) + 1))).toNat < n - (intOf (.int .i64 (k : Int))).toNat) := by
          show _ < _
          simp [intOf]
          omega
        obtain ⟨z, hz⟩ : ∃ z, (a == x && b == y) = z := ⟨_, rfl⟩
        rw [hz] at hneq hmiss hstep
        cases z
        · have HE : Hid (q = false) := by show _ = _; rw [← HQ.out]; exact hmiss rfl
          clear hmiss hstep hr1 hr2 hz
          go_wp2_with fail
          go_quiet (fail)
          go_wp2_with fail
          go_ret
          exact ⟨by rw [HE.out]; rfl, hO.drewN _⟩
        · have HR : Hid (∃ k' : Nat, Value.int .i64 ((k : Int) + 1) = .int .i64 (k' : Int) ∧ k' ≤ n ∧ Hid (l.take k' = t.take k')) := ⟨k + 1, by simp, by omega, hstep rfl HK.out⟩
          clear hmiss hstep hr1 hr2 hz
          go_wp2_with fail
          go_quiet (fail)
          have O2 := hO.drewN nq
          clear hO c1 c2 e1 e2 hneq hgd
          generalize wr.drewN nq = wq at *
          clear hn hk hlt hk1 hk2
          go_wp2_with fail
          rw [HW.out]
          exact ⟨⟨O2, HR.out⟩, HM.out⟩
      · obtain rfl : k = n := by omega
        have HE : Hid (q = true) := by
          show _ = _
          rw [← HQ.out]
          exact sameL_all HL.out HL2.out HK.out
        clear hn hlt
        go_wp2
        go_ret
        exact ⟨by rw [HE.out]; rfl, hO⟩
  · have HE : Hid (q = false) := by
      show _ = _
      rw [← HQ.out]
      exact sameL_len (by omega)
    have hne : ((n : Int) != (m : Int)) = true := by simp; omega
    clear hs ht hl hl2 hq hnm
    go_enter Tryd.func11, Tryd.ntmps11
    go_wp2
    go_ret
    exact ⟨by rw [HE.out]; rfl, Only.refl _ _⟩
set_option maxHeartbeats 1000000 in
set_option maxRecDepth 100000 in
theorem Equal_any {w : World} {A B : Option Addr} {n m c d : Nat} {l t : List Rg} (hs : Rs w A n l) (ht : Rs w B m t) (hn : n ≤ 140737488355328) (hm : m ≤ 140737488355328) :
    Calls Tryd.prog 30 #[.slice A n c, .slice B m d] w fun e w' => e = .returned (.bool (sameL l t)) ∧ Only [] w w' := by
  have hl := hs.len
  have hl2 := ht.len
  obtain ⟨q, hq⟩ : ∃ q, sameL l t = q := ⟨_, rfl⟩
  rw [hq]
  have HQ := Lib.hid hq
  have HS := Lib.hid hs
  have HT := Lib.hid ht
  have HL := Lib.hid hl
  have HL2 := Lib.hid hl2
  by_cases hnm : n = m
  · subst hnm
    clear hs ht hl hl2 hq hm
    go_enter Tryd.func30, Tryd.ntmps30
    go_wp2
    go_loopw [13] (fun iv wr => Only [] w wr ∧ ∃ k : Nat, iv = .int .i64 (k : Int) ∧ k ≤ n ∧ Hid (l.take k = t.take k)) (fun iv _ => n - (intOf iv).toNat)
    case atStart => exact ⟨Only.refl _ _, 0, rfl, by omega, rfl⟩
    case round =>
      obtain ⟨hO, k, rfl, hk, HK⟩ := hrel
      by_cases hlt : k < n
      · have hlt' : (k : Int) < (n : Int) := by omega
        have h0k : (0 : Int) ≤ (k : Int) := by omega
        have hk1 : k < l.length := by rw [HL.out]; exact hlt
        have hk2 : k < t.length := by rw [HL2.out]; exact hlt
        obtain ⟨ad, rfl, c1, c2⟩ := (HS.out.keep hO).at_ hlt hk1
        obtain ⟨ae, rfl, e1, e2⟩ := (HT.out.keep hO).at_ hlt hk2
        have hmiss := sameL_miss hk1 hk2
        have hstep := sameL_step hk1 hk2
        obtain ⟨r1, hr1⟩ : ∃ r, l[k] = r := ⟨_, rfl⟩
        obtain ⟨r2, hr2⟩ : ∃ r, t[k] = r := ⟨_, rfl⟩
        rw [hr1] at c1 c2 hmiss hstep
        rw [hr2] at e1 e2 hmiss hstep
        obtain ⟨a, b⟩ := r1
        obtain ⟨x, y⟩ := r2
        simp only [nxt] at c1 c2 e1 e2 hmiss hstep
        have hneq := run_neq_rg a b x y
        have hgd := guard_rg .neq
        have HW := Lib.hid (IntWalk.wrap64_in ((k : Int) + 1) (by omega))
        have HM : Hid (n - (intOf (.int .i64 ((k : Int) + 1))).toNat < n - (intOf (.int .i64 (k : Int))).toNat) := by
          show _ < _
          simp [intOf]
          omega
        obtain ⟨z, hz⟩ : ∃ z, (a == x && b == y) = z := ⟨_, rfl⟩
        rw [hz] at hneq hmiss hstep
        cases z
        · have HE : Hid (q = false) := by show _ = _; rw [← HQ.out]; exact hmiss rfl
          clear hmiss hstep hr1 hr2 hz
          go_wp2_with fail
          go_quiet (fail)
          go_wp2_with fail
          go_ret
          exact ⟨by rw [HE.out]; rfl, hO.drewN _⟩
        · have HR : Hid (∃ k' : Nat, Value.int .i64 ((k : Int) + 1) = .int .i64 (k' : Int) ∧ k' ≤ n ∧ Hid (l.take k' = t.take k')) := ⟨k + 1, by simp, by omega, hstep rfl HK.out⟩
          clear hmiss hstep hr1 hr2 hz
          go_wp2_with fail
          go_quiet (fail)
          have O2 := hO.drewN nq
          clear hO c1 c2 e1 e2 hneq hgd
          generalize wr.drewN nq = wq at *
          clear hn hk hlt hk1 hk2
          go_wp2_with fail
          rw [HW.out]
          exact ⟨⟨O2, HR.out⟩, HM.out⟩
      · obtain rfl : k = n := by omega
        have HE : Hid (q = true) := by
          show _ = _
          rw [← HQ.out]
          exact sameL_all HL.out HL2.out HK.out
        clear hn hlt
        go_wp2
        go_ret
        exact ⟨by rw [HE.out]; rfl, hO⟩
  · have HE : Hid (q = false) := by
      show _ = _
      rw [← HQ.out]
      exact sameL_len (by omega)
    have hne : ((n : Int) != (m : Int)) = true := by simp; omega
    clear hs ht hl hl2 hq hnm
    go_enter Tryd.func30, Tryd.ntmps30
    go_wp2
    go_ret
    exact ⟨by rw [HE.out]; rfl, Only.refl _ _⟩
theorem Same_any {w : World} {A B : Option Addr} {n m c d : Nat} {l t : List Rg} (hs : Rs w A n l) (ht : Rs w B m t) (hn : n ≤ 140737488355328) (hm : m ≤ 140737488355328) :
    Calls Tryd.prog 16 #[.slice A n c, .slice B m d] w fun e w' => e = .returned (.bool (sameL l t)) ∧ Only [] w w' := by
  have hE := Equal_any (c := c) (d := d) hs ht hn hm
  generalize sameL l t = q at hE ⊢
  clear hs ht
  go_enter Tryd.func16, Tryd.ntmps16
  go_wp2_with (go_at_call 30; with_reducible refine hE.mono ?_; rintro e w2 ⟨rfl, O2⟩)
  go_ret
  exact ⟨rfl, O2⟩
end Go.Proofs.YtkdaemjdiafccaaDoor
