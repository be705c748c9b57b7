/-
  line's nextLiteral.
-/
import Derived.Test.YtiekhgignmbaeaaLLeaf
import Derived.WalkKit
import Derived.Handy
import Derived.Deep.DeepMust
import Derived.Deep.QuietTactic
import Derived.BigQuiet
import Derived.Deep.RegionHeld3
import Derived.Deep.CutRange
import Derived.WalkLawsBesides
import Derived.ScopeJumps
import Derived.WalkMore
import Derived.IntWalk
namespace Go.Proofs.Ytiekhgignmbaeaa
open Go.RowKit Go.Instr

theorem infoEvent : (Try.prog.info? 36).map (·.size) = some 2 := by kernel_rfl
/-- A return of an event (in the result's cell) and whether there is one. -/
theorem ret_event {fn : Func} {R : Ending → World → Prop} {tmps : Array Value} {w : World} (hres : fn.results = #[.cell 2 36, .tmp 3]) (p : Nat) (k v : Value) (b : Bool) (h2 : tmps.getD 2 undef = .pointer (some ⟨p, 0, none⟩)) (h3 : tmps.getD 3 undef = .bool b)
    (hb : Bk w p 36 #[k, v]) (hR : R (.returned (.tuple #[.agg #[k, v], .bool b])) w) : bodyPost Try.prog fn R .ret { tmps := tmps, defers := [] } w := by
  refine bodyPost_ret (v := .tuple #[.agg #[k, v], .bool b]) ?_ rfl hR
  rw [results_cell_tmp hres]
  show ((asAddr (tmps.getD 2 undef)).run _ _).andThen _ = _
  rw [h2, h3]
  simp only [asAddr, Sem.run_pure, Result.andThen_ok]
  rw [run_loadVar_row (P := Try.prog) w p 36 36 #[k, v] (0, 0) _ hb Try.underlying36 rfl infoEvent]
  rfl

section
variable {w : World} {g : Nat} {F : List Nat} {s : LS}

set_option maxHeartbeats 2000000 in
theorem nextLiteral_any (h : Ln false w g F s) (m : Nat) (hm : s.lit = some m) : Calls Try.prog 22 #[.pointer (some ⟨g, 0, none⟩)] w (Spoke false w g F (nextS s) (nextR s)) := by
  have h0 := h
  obtain ⟨A, c, k, hb, hG, hk, rfl, hg, hl⟩ := h
  obtain rfl := hk m hm
  have c0 : w.cell? ⟨g, 0, none⟩ = some (.slice A s.b.length c) := by rw [hb.cell]; rfl
  have c3 : w.cell? ⟨g, 3, none⟩ = some (.int .i64 (m : Int)) := by rw [hb.cell]; rfl
  by_cases hlt : s.b.length < m
  · have e1 : nextS s = s := by unfold nextS; rw [hm]; simp [hlt]
    have e2 : nextR s = none := by unfold nextR; rw [hm]; simp [hlt]
    rw [e1, e2]
    have hlt' : (s.b.length : Int) < (m : Int) := by omega
    have H0 := Lib.hid h0
    have hN : Ln false (w.alloc (.cells #[.int .i64 0, .slice none 0 0] 36)) g (blks A) s := h0.keep ((Only.refl [] w).alloc _)
    obtain ⟨A', c', k', hb', _, hk', _⟩ := hN
    have c0' : (w.alloc (.cells #[.int .i64 0, .slice none 0 0] 36)).cell? ⟨g, 0, none⟩ = some (.slice A s.b.length c) := ((Only.refl [] w).alloc _).cellSome c0 (fun hm => nomatch hm)
    have c3' : (w.alloc (.cells #[.int .i64 0, .slice none 0 0] 36)).cell? ⟨g, 3, none⟩ = some (.int .i64 (m : Int)) := ((Only.refl [] w).alloc _).cellSome c3 (fun hm => nomatch hm)
    clear hb' hk' h0
    go_enter Try.func22, Try.ntmps22
    go_wp2
    go_quiet (fail)
    go_wp2
    exact ret_event (by kernel_rfl) w.heap.size (.int .i64 0) (.slice none 0 0) false rfl rfl ((((Bk.new w _ _).drewN nq).set 0 (.int .i64 0)).set 1 (.slice none 0 0)) ⟨none, 0, blks A, rfl, Sl.none_, (fun _ hk => nomatch hk), H0.out.keep ((((Only.refl [] w).alloc _).drewN nq).setCell (.inr (by simp)) _ |>.setCell (.inr (by simp)) _), ((((Only.refl _ w).alloc _).drewN nq).setCell (.inr (by simp)) _).setCell (.inr (by simp)) _, fun k hk => hk⟩
  · have e1 : nextS s = ⟨s.b.drop m, s.drop, none⟩ := by unfold nextS; rw [hm]; simp [hlt]
    have e2 : nextR s = some ⟨3, s.b.take m⟩ := by unfold nextR; rw [hm]; simp [hlt]
    rw [e1, e2]
    have hlt' : (m : Int) ≤ (s.b.length : Int) := by omega
    have hcap := hG.cap
    have hmc : (m : Int) ≤ (c : Int) := by omega
    have H0 := Lib.hid h0
    have hs := hG.sl.pre (k := m) (by omega)
    rw [bvs_take] at hs
    have HCL := Lib.hid (fun W (hW : Only [] w W) => clone_any c (hs.keep hW) (by omega))
    have O1 : Only [] w (w.alloc (.cells #[.int .i64 0, .slice none 0 0] 36)) := (Only.refl [] w).alloc _
    have c0' : (w.alloc (.cells #[.int .i64 0, .slice none 0 0] 36)).cell? ⟨g, 0, none⟩ = some (.slice A s.b.length c) := O1.cellSome c0 (fun hm => nomatch hm)
    have c3' : (w.alloc (.cells #[.int .i64 0, .slice none 0 0] 36)).cell? ⟨g, 3, none⟩ = some (.int .i64 (m : Int)) := O1.cellSome c3 (fun hm => nomatch hm)
    have hgl := hb.lt
    clear hb h0 hG hk hs O1
    go_enter Try.func22, Try.ntmps22
    go_wp2
    go_quiet (fail)
    go_upto_region 3 with fail
    go_cut [4] from 16 to 26 (fun s4 wx => ∃ (p : Nat) (A4 : Option Addr) (c4 : Nat), s4 = .pointer (some ⟨p, 0, none⟩) ∧ Bk wx p 36 #[.int .i64 3, .slice A4 m c4] ∧ Own wx 5 A4 m c4 (bvs (s.b.take m)) ∧ Only [] w wx ∧ Bk wx w.heap.size 36 #[.int .i64 0, .slice none 0 0] ∧ w.heap.size < p ∧ ∀ k ∈ blks A4, w.heap.size < k)
    case first =>
      go_region_held3 (fun w' => w'.cell? ⟨g, 0, none⟩ = some (.slice A s.b.length c) ∧ w'.cell? ⟨g, 3, none⟩ = some (.int .i64 (m : Int))) (first | go_keep | exact ⟨k0, k3⟩ | exact ⟨(((Only.refl [w.heap.size + 1] w4).setCell (.inl (by simp)) _).setCell (.inl (by simp)) _).cellSome k0 (by simp; omega), (((Only.refl [w.heap.size + 1] w4).setCell (.inl (by simp)) _).setCell (.inl (by simp)) _).cellSome k3 (by simp; omega)⟩)
        (first
          | (go_at_call 26; refine (HCL.out _ ?hO).mono ?_; (case hO => (repeat (first | (with_reducible exact Only.refl _ _) | (with_reducible refine Only.drewN ?_ _) | (with_reducible refine Only.drew ?_) | (with_reducible refine Only.alloc ?_ _)))); rintro e w4 ⟨A4, c4, rfl, V4, O4, B4⟩; have k0 : w4.cell? ⟨g, 0, none⟩ = some (.slice A s.b.length c) := (O4.cellSome (by first | exact c0' | exact ((Only.refl [] _).alloc _).cellSome c0' (by simp)) (by simp)); have k3 : w4.cell? ⟨g, 3, none⟩ = some (.int .i64 (m : Int)) := (O4.cellSome (by first | exact c3' | exact ((Only.refl [] _).alloc _).cellSome c3' (by simp)) (by simp)); (try (have hb4 : Bk w4 (w.heap.size + 1) 36 #[.int .i64 0, .slice none 0 0] := (Bk.only (by have := Bk.new ((w.alloc (.cells #[.int .i64 0, .slice none 0 0] 36)).drewN (nq + 1)) 36 #[.int .i64 0, .slice none 0 0]; simpa using this) O4 (fun hm => nomatch hm)); have j0 : w4.cell? ⟨w.heap.size + 1, 0, none⟩ = some (.int .i64 0) := (by rw [hb4.cell]; rfl); have j1 : w4.cell? ⟨w.heap.size + 1, 1, none⟩ = some (.slice none 0 0) := (by rw [hb4.cell]; rfl); have j2 := hb4.free 0; have j3 := hb4.free 1))))
      all_goals
        go_wp2_with fail
        have hz4 := O4.size
        simp at hz4
        have R4 : Bk w4 w.heap.size 36 #[.int .i64 0, .slice none 0 0] := Bk.only (w := w.alloc (.cells #[.int .i64 0, .slice none 0 0] 36)) (Bk.new w _ _) (by first | exact (((Only.refl [] _).drewN _).alloc _).then O4 | exact ((Only.refl [] _).drewN _).then O4) (by simp)
        have Q4 : Only [] w w4 := by first | exact ((((Only.refl [] w).alloc _).drewN _).alloc _).then O4 | exact (((Only.refl [] w).alloc _).drewN _).then O4
        have B5 : ∀ k ∈ blks A4, w.heap.size < k := fun k hk => by have := B4 k hk; simp at this; omega
        go_meet
        first
          | exact ⟨w4.heap.size, A4, c4, rfl, Bk.new _ _ _, V4.alloc _, Q4.alloc _, R4.alloc _, by omega, B5⟩
          | exact ⟨w.heap.size + 1, A4, c4, rfl, (hb4.set 0 (.int .i64 3)).set 1 (.slice A4 m c4), V4.only (rs := [w.heap.size + 1]) (((Only.refl _ _).setCell (.inl (by simp)) _).setCell (.inl (by simp)) _) (fun k hk hm => V4.ne hb4 (by decide) (by simp at hm; rw [← hm]; exact hk)), (Q4.setCell (.inr (by simp)) _).setCell (.inr (by simp)) _, R4.only (rs := [w.heap.size + 1]) (((Only.refl _ _).setCell (.inl (by simp)) _).setCell (.inl (by simp)) _) (by simp), by omega, B5⟩
    case rest =>
      obtain ⟨p, A4, c4, rfl, P, V, Q, R, hp, B5⟩ := hcut
      clear HCL c0' c3'
      have LW := H0.out.keep Q
      obtain ⟨A6, c6, k6, b6, _⟩ := LW
      have d3 : wc.cell? ⟨g, 3, none⟩ = some (.int .i64 (m : Int)) := Q.cellSome c3 (fun hm => nomatch hm)
      clear b6
      have HP := Lib.hid (pass_any (H0.out.keep Q) m (by omega))
      go_wp2_with (go_at_call 25; refine HP.out.mono ?_; rintro e w5 ⟨F5, rfl, L5, O5, S5⟩; have P5 := P.only O5 (by simp; omega); have R5 := R.only O5 (by simp; omega); have L5' := L5; obtain ⟨A7, c7, k7, b7, G7, K7, rfl, g7, l7⟩ := L5'; have f2 := b7.free 2; have f3 := b7.free 3; have q2 : w5.cell? ⟨g, 2, none⟩ = some (.bool s.lit.isSome) := (by rw [b7.cell]; rfl); have q3 : w5.cell? ⟨g, 3, none⟩ = some (.int .i64 k7) := (by rw [b7.cell]; rfl); have p0 : w5.cell? ⟨p, 0, none⟩ = some (.int .i64 3) := (by rw [P5.cell]; rfl); have p1 : w5.cell? ⟨p, 1, none⟩ = some (.slice A4 m c4) := (by rw [P5.cell]; rfl); have r0 : w5.cell? ⟨w.heap.size, 0, none⟩ = some (.int .i64 0) := (by rw [R5.cell]; rfl); have r1 : w5.cell? ⟨w.heap.size, 1, none⟩ = some (.slice none 0 0) := (by rw [R5.cell]; rfl); have t0 := R5.free 0; have t1 := R5.free 1; have hpg : ¬ p = g := (by omega); have hpr : ¬ w.heap.size = g := (by omega))
      have V5 := V.only O5 (fun k hk hm => by have := B5 k hk; simp at hm; omega)
      have OE : Only [g, w.heap.size] w5 ((((w5.setCell ⟨g, 2, none⟩ (.bool false)).setCell ⟨g, 3, none⟩ (.int .i64 0)).setCell ⟨w.heap.size, 0, none⟩ (.int .i64 3)).setCell ⟨w.heap.size, 1, none⟩ (.slice A4 m c4)) := ((((Only.refl _ _).setCell (.inl (by simp)) _).setCell (.inl (by simp)) _).setCell (.inl (by simp)) _).setCell (.inl (by simp)) _
      have hlen : (s.b.take m).length = m := by rw [List.length_take]; omega
      have hL : Ln false ((((w5.setCell ⟨g, 2, none⟩ (.bool false)).setCell ⟨g, 3, none⟩ (.int .i64 0)).setCell ⟨w.heap.size, 0, none⟩ (.int .i64 3)).setCell ⟨w.heap.size, 1, none⟩ (.slice A4 m c4)) g (blks A7) ⟨s.b.drop m, s.drop, none⟩ :=
        ⟨A7, c7, 0, (((b7.set 2 (.bool false)).set 3 (.int .i64 0)).far (by simp; omega) _).far (by simp; omega) _, G7.only OE (fun k hk hm => by
          have := H0.out.flt k (S5 k hk)
          simp only [List.mem_cons, List.not_mem_nil, or_false] at hm
          rcases hm with hm | hm
          · subst hm; exact g7 hk
          · omega), (by intro m hm; cases hm), rfl, g7, l7⟩
      refine ret_event (by kernel_rfl) w.heap.size (.int .i64 3) (.slice A4 m c4) true rfl rfl ((((R5.far (by simp; omega) _).far (by simp; omega) _).set 0 (.int .i64 3)).set 1 (.slice A4 m c4)) ⟨A4, c4, blks A7, by rw [show (evData (some ⟨3, s.b.take m⟩)).length = m from hlen]; rfl, ?_, fun k hk => ⟨by have := B5 k hk; omega, ?_⟩, hL, ?_, S5⟩
      · show Sl _ A4 (s.b.take m).length _
        rw [hlen]
        exact (V5.only OE (fun k hk hm => by
          have := B5 k hk
          simp only [List.mem_cons, List.not_mem_nil, or_false] at hm
          omega)).sl
      · exact Nat.lt_of_lt_of_le (V5.lt hk) OE.size
      · refine ((Q.mono (ss := g :: blks A) (fun _ hx => nomatch hx)).trans O5 (fun x hx => .inl ?_)).trans OE (fun x hx => ?_)
        · simp at hx
          simp [hx]
        · simp only [List.mem_cons, List.not_mem_nil, or_false] at hx
          rcases hx with rfl | rfl
          · exact .inl (by simp)
          · exact .inr (Nat.le_refl _)
end
end Go.Proofs.Ytiekhgignmbaeaa
