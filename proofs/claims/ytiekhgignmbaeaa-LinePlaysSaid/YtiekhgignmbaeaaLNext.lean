/-
  line's Next.
-/
import Derived.Test.YtiekhgignmbaeaaLLit
import Derived.Test.YtiekhgignmbaeaaGoto
import Derived.WalkKit
import Derived.Handy
import Derived.Deep.DeepMust
import Derived.WalkLawsBesides
import Derived.ScopeJumps
import Derived.WalkMore
import Derived.IntWalk
namespace Go.Proofs.Ytiekhgignmbaeaa
open Go.RowKit Go.Instr

theorem lit_cell (w : World) (E : Obj) (v : Value) (t : TypeId) (fr : Nat × Nat) : ((w.alloc E).alloc (.cells #[v] t fr)).cell? ⟨w.heap.size + 1, 0, none⟩ = some v := by
  have h := World.cell?_alloc_mark (w.alloc E) #[v] t fr 0
  rw [World.size_alloc] at h
  exact h
theorem cut_no {w : World} {A : Option Addr} {n c : Nat} {l : List UInt8} (h : Gro w A n c (bvs l)) (hbig : n ≤ 4096) (hn : ¬ nl l < n) (b2 o2 d : Nat) (h2 : w.cell? ⟨b2, o2, none⟩ = some (.int .u8 10)) :
    Calls Try.prog 23 #[.slice A n c, .slice (some ⟨b2, o2, none⟩) 1 d] w fun e w' => ∃ v, e = .returned (.tuple #[.slice A n c, v, .bool false]) ∧ Only [] w w' := by
  have hl : l.length = n := by simpa using h.len
  refine (cut_any h hbig b2 o2 d h2).mono fun e w' he => ?_
  have := nl_le l
  rw [show nl l = n by omega, decide_eq_false (by omega)] at he
  exact he
theorem cut_yes {w : World} {A : Option Addr} {n c : Nat} {l : List UInt8} (h : Gro w A n c (bvs l)) (hbig : n ≤ 4096) (hn : nl l < n) (b2 o2 d : Nat) (h2 : w.cell? ⟨b2, o2, none⟩ = some (.int .u8 10)) :
    Calls Try.prog 23 #[.slice A n c, .slice (some ⟨b2, o2, none⟩) 1 d] w fun e w' => ∃ v, e = .returned (.tuple #[.slice A (nl l) c, v, .bool true]) ∧ Only [] w w' := by
  have hl : l.length = n := by simpa using h.len
  refine (cut_any h hbig b2 o2 d h2).mono fun e w' he => ?_
  rw [decide_eq_true (by omega)] at he
  exact he

/-- How each way of Next ends: the event is stored into the result's cell. -/
theorem next_ret {r : Bool} {fn : Func} {tmps : Array Value} {w w2 : World} {g : Nat} {F F' : List Nat} {s' : LS} {x : Option Ev} {k0 v0 : Value} (hres : fn.results = #[.cell 2 36, .tmp 3]) (k : Int) (A2 : Option Addr) (n2 c2 : Nat) (hk : k = (evKind x : Int)) (hn : n2 = (evData x).length) (h2 : tmps.getD 2 undef = .pointer (some ⟨w.heap.size, 0, none⟩)) (h3 : tmps.getD 3 undef = .bool x.isSome)
    (R : Bk w2 w.heap.size 36 #[k0, v0]) (V : Sl w2 A2 n2 (bvs (evData x))) (B : ∀ k ∈ blks A2, w.heap.size < k ∧ k < w2.heap.size) (L : Ln r w2 g F' s') (O : Only (g :: F) w w2) (S : ∀ k ∈ F', k ∈ F) (hg : g < w.heap.size) (hF : ∀ k ∈ F, k < w.heap.size) :
    bodyPost Try.prog fn (Spoke r w g F s' x) .ret { tmps := tmps, defers := [] } ((w2.setCell ⟨w.heap.size, 0, none⟩ (.int .i64 k)).setCell ⟨w.heap.size, 1, none⟩ (.slice A2 n2 c2)) := by
  subst hk hn
  have OE : Only [w.heap.size] w2 ((w2.setCell ⟨w.heap.size, 0, none⟩ (.int .i64 (evKind x))).setCell ⟨w.heap.size, 1, none⟩ (.slice A2 (evData x).length c2)) := ((Only.refl _ _).setCell (.inl (by simp)) _).setCell (.inl (by simp)) _
  refine ret_event hres w.heap.size (.int .i64 (evKind x)) (.slice A2 (evData x).length c2) x.isSome h2 h3 ((R.set 0 _).set 1 _) ⟨A2, c2, F', rfl, V.only OE (fun ad e hm => ?_), fun k hk => ⟨by have := B k hk; omega, Nat.lt_of_lt_of_le (B k hk).2 OE.size⟩, L.only OE (fun hm => ?_) (fun k hk hm => ?_), O.trans OE (fun y hy => ?_), S⟩
  · subst e
    simp at hm
    have := B ad.block (by simp)
    omega
  · simp at hm; omega
  · simp at hm
    have := hF k (S k hk)
    omega
  · simp at hy
    exact .inr (by omega)

section
variable {w : World} {g : Nat} {F : List Nat} {s : LS}

theorem Next_nil (w : World) : Calls Try.prog 14 #[.pointer none] w fun e w' => e = .returned (.tuple #[.agg #[.int .i64 0, .slice none 0 0], .bool false]) ∧ Only [] w w' := by
  go_enter Try.func14, Try.ntmps14
  go_wp2_with fail
  refine wp_scope_straight ?_
  go_wp2_with fail
  rw [Exit.noGoto_ret]
  exact ret_event (by kernel_rfl) w.heap.size (.int .i64 0) (.slice none 0 0) false rfl rfl (Bk.new w _ _) ⟨rfl, (Only.refl _ w).alloc _⟩

theorem next_lit (h : Ln false w g F s) (m : Nat) (hm : s.lit = some m) : Calls Try.prog 14 #[.pointer (some ⟨g, 0, none⟩)] w (Spoke false w g F (nextS s) (nextR s)) := by
  have h0 := h
  obtain ⟨A, c, k, hb, hG, hk, rfl, hg, hl⟩ := h
  have O1 : Only [] w (w.alloc (.cells #[.int .i64 0, .slice none 0 0] 36)) := (Only.refl [] w).alloc _
  have c2 : (w.alloc (.cells #[.int .i64 0, .slice none 0 0] 36)).cell? ⟨g, 2, none⟩ = some (.bool true) := O1.cellSome (by rw [hb.cell, hm]; rfl) (fun hm => nomatch hm)
  have HN := Lib.hid (nextLiteral_any (h0.keep O1) m hm)
  have hgl := hb.lt
  clear hb hG hk
  go_enter Try.func14, Try.ntmps14
  go_wp2_with fail
  refine wp_scope_straight ?_
  go_wp2_with (go_at_call 22; refine HN.out.mono ?_; rintro e w2 ⟨A2, c2, F2, rfl, V2, B2, L2, O2, S2⟩; have R2 : Bk w2 w.heap.size 36 #[.int .i64 0, .slice none 0 0] := ((Bk.new w _ _).only O2 (by have hf := h0.flt; simp; exact ⟨by omega, fun hm => by have := hf _ hm; omega⟩)); have r0 : w2.cell? ⟨w.heap.size, 0, none⟩ = some (.int .i64 0) := (by rw [R2.cell]; rfl); have r1 : w2.cell? ⟨w.heap.size, 1, none⟩ = some (.slice none 0 0) := (by rw [R2.cell]; rfl); have t0 := R2.free 0; have t1 := R2.free 1)
  rw [Exit.noGoto_ret]
  exact next_ret (by kernel_rfl) _ A2 _ c2 rfl rfl rfl rfl R2 V2 (fun k hk => by have := B2 k hk; simp at this; omega) L2 (((Only.refl (g :: blks A) w).alloc _).trans O2 (fun x hx => .inl hx)) S2 hgl h0.flt

theorem next_wait (h : Ln false w g F s) (hm : s.lit = none) (hn : ¬ nl s.b < s.b.length) (hs : s.b.length ≤ 301) : Calls Try.prog 14 #[.pointer (some ⟨g, 0, none⟩)] w (Spoke false w g F (nextS s) (nextR s)) := by
  have kc := fun (w : World) (C : Array Value) (n c g : Nat) (hg : g = w.heap.size) => Joins.run_convert_bytes_const_at (P := Try.prog) w 27 5 C n c g hg Try.underlying27 Try.underlying5
  have e1 : nextS s = s := by unfold nextS; rw [hm]; simp [hn]; omega
  have e2 : nextR s = none := by unfold nextR; rw [hm]; simp [hn]
  rw [e1, e2]
  have h0 := Lib.hid h
  obtain ⟨A, c, k, hb, hG, hk, rfl, hg, hl⟩ := h
  have O1 : Only [] w (w.alloc (.cells #[.int .i64 0, .slice none 0 0] 36)) := (Only.refl [] w).alloc _
  have c2 : (w.alloc (.cells #[.int .i64 0, .slice none 0 0] 36)).cell? ⟨g, 2, none⟩ = some (.bool false) := O1.cellSome (by rw [hb.cell, hm]; rfl) (fun hm => nomatch hm)
  have c0 : (w.alloc (.cells #[.int .i64 0, .slice none 0 0] 36)).cell? ⟨g, 0, none⟩ = some (.slice A s.b.length c) := O1.cellSome (by rw [hb.cell]; rfl) (fun hm => nomatch hm)
  have hgl := hb.lt
  have hs' : (s.b.length : Int) ≤ 301 := by omega
  have HC := Lib.hid (fun W (hW : Only [] w W) => cut_no (hG.keep hW) hl hn)
  clear hb hG hk O1 e1 e2 hn hs
  go_enter Try.func14, Try.ntmps14
  go_wp2_with fail
  refine wp_scope_straight ?_
  go_wp2_with (go_at_call 23; refine (HC.out _ ?hO (w.heap.size + 1) 0 1 ?h2).mono ?_; (case hO => (repeat (first | (with_reducible exact Only.refl _ _) | (with_reducible refine Only.drewN ?_ _) | (with_reducible refine Only.drew ?_) | (with_reducible refine Only.alloc ?_ _)))); (case h2 => exact lit_cell _ _ _ _ _); rintro e w2 ⟨v2, rfl, O2⟩; have R2 : Bk w2 w.heap.size 36 #[.int .i64 0, .slice none 0 0] := (((Bk.new w _ _).alloc _).only O2 (by simp)); have r0 : w2.cell? ⟨w.heap.size, 0, none⟩ = some (.int .i64 0) := (by rw [R2.cell]; rfl); have r1 : w2.cell? ⟨w.heap.size, 1, none⟩ = some (.slice none 0 0) := (by rw [R2.cell]; rfl); have t0 := R2.free 0; have t1 := R2.free 1)
  rw [Exit.noGoto_ret]
  have Q2 : Only [] w w2 := (((Only.refl [] w).alloc _).alloc _).then O2
  exact next_ret (x := none) (by kernel_rfl) _ none _ 0 rfl rfl rfl rfl R2 Sl.none_ (fun k hk => nomatch hk) (h0.out.keep Q2) (Q2.mono (fun _ hx => nomatch hx)) (fun k hk => hk) hgl h0.out.flt
end
end Go.Proofs.Ytiekhgignmbaeaa
