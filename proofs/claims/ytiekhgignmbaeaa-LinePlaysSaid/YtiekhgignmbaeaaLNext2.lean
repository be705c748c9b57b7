/-
  line's Next: the ways that cut a line.
-/
import Derived.Test.YtiekhgignmbaeaaLNext
namespace Go.Proofs.Ytiekhgignmbaeaa
open Go.RowKit Go.Instr

theorem lit_one (w : World) (v : Value) (t : TypeId) (fr : Nat × Nat) : (w.alloc (.cells #[v] t fr)).cell? ⟨w.heap.size, 0, none⟩ = some v := by
  have h := World.cell?_alloc_mark w #[v] t fr 0
  exact h
theorem Bk.keep {w w' : World} {g : Nat} {t : TypeId} {cs : Array Value} (h : Bk w g t cs) (o : Only [] w w') : Bk w' g t cs := h.only o (fun hm => nomatch hm)
theorem tr_pre (l : List UInt8) : tr l = l.take (tr l).length := by
  unfold tr Lib.trimSuffix
  split
  · rw [List.length_take, List.length_singleton, Nat.min_eq_left (by omega)]
  · rw [List.take_length]
theorem ln_drop {w : World} {g : Nat} {F : List Nat} {s : LS} (h : Ln false w g F s) (d : Bool) : Ln false (w.setCell ⟨g, 1, none⟩ (.bool d)) g F ⟨s.b, d, s.lit⟩ := by
  obtain ⟨A, c, k, hb, hG, hk, rfl, hg, hl⟩ := h
  exact ⟨A, c, k, hb.set 1 (.bool d), hG.only (rs := [g]) ((Only.refl _ _).setCell (.inl (by simp)) _) (fun x hx hm => by simp at hm; subst hm; exact hg hx), hk, rfl, hg, hl⟩
theorem pass_as {w : World} {g : Nat} {F : List Nat} {s : LS} (h : Ln false w g F s) (k : Nat) (hk : k ≤ s.b.length) (K : Int) (hK : K = (k : Int)) : Calls Try.prog 25 #[.pointer (some ⟨g, 0, none⟩), .int .i64 K] w fun e w' => ∃ F', e = .returned (.tuple #[]) ∧ Ln false w' g F' ⟨s.b.drop k, s.drop, s.lit⟩ ∧ Only [g] w w' ∧ ∀ x ∈ F', x ∈ F := by
  subst hK
  exact pass_any h k hk

section
variable {w : World} {g : Nat} {F : List Nat} {s : LS}

theorem next_line (h : Ln false w g F s) (hm : s.lit = none) (hn : nl s.b < s.b.length) (hd : s.drop = false) (ht : (tr (s.b.take (nl s.b))).length ≤ 300) : Calls Try.prog 14 #[.pointer (some ⟨g, 0, none⟩)] w (Spoke false w g F (nextS s) (nextR s)) := by
  have kc := fun (w : World) (C : Array Value) (n c g : Nat) (hg : g = w.heap.size) => Joins.run_convert_bytes_const_at (P := Try.prog) w 27 5 C n c g hg Try.underlying27 Try.underlying5
  have e1 : nextS s = ⟨s.b.drop (nl s.b + 1), false, none⟩ := by unfold nextS; rw [hm]; simp [hn]
  have e2 : nextR s = some ⟨1, tr (s.b.take (nl s.b))⟩ := by unfold nextR evOf; rw [hm, hd]; simp [hn]; omega
  rw [e1, e2]
  have h0 := Lib.hid h
  obtain ⟨A, c, k, hb, hG, hk, rfl, hg, hl⟩ := h
  have O1 : Only [] w (w.alloc (.cells #[.int .i64 0, .slice none 0 0] 36)) := (Only.refl [] w).alloc _
  have c2 : (w.alloc (.cells #[.int .i64 0, .slice none 0 0] 36)).cell? ⟨g, 2, none⟩ = some (.bool false) := O1.cellSome (by rw [hb.cell, hm]; rfl) (fun hm => nomatch hm)
  have c0 : (w.alloc (.cells #[.int .i64 0, .slice none 0 0] 36)).cell? ⟨g, 0, none⟩ = some (.slice A s.b.length c) := O1.cellSome (by rw [hb.cell]; rfl) (fun hm => nomatch hm)
  have d1 : w.cell? ⟨g, 1, none⟩ = some (.bool s.drop) := by rw [hb.cell]; rfl
  have hgl := hb.lt
  have hcap := hG.cap
  have hs := hG.sl.pre (k := nl s.b) (by omega)
  rw [bvs_take] at hs
  have HC := Lib.hid (fun W (hW : Only [] w W) => cut_yes (hG.keep hW) hl hn)
  have HA : 0 < nl s.b → ∃ b o, A = some ⟨b, o, none⟩ := fun h => by obtain ⟨b, o, e, _⟩ := hG.at_ (by omega); exact ⟨b, o, e⟩
  have HT := Lib.hid (fun W (hW : Only [] w W) => trim_any (hs.keep hW) HA (by omega : nl s.b ≤ c) hG.max)
  have HP := Lib.hid (fun W (hW : Only [] w W) => pass_as (h0.out.keep hW) (nl s.b + 1) (by omega) ((nl s.b : Int) + 1) (by omega))
  obtain ⟨q, hq⟩ : ∃ q, q = s.b.take (nl s.b) := ⟨_, rfl⟩
  rw [← hq] at ht hs HT ⊢
  have hql : q.length = nl s.b := by rw [hq, List.length_take]; omega
  have htl := tr_len q
  have hs2 := hs.pre (k := (tr q).length) (by omega)
  rw [bvs_take, ← tr_pre] at hs2
  have HS := Lib.hid (fun W (hW : Only [g] w W) => clone_any c (hs2.only hW (fun ad e hm => by subst e; simp at hm; exact hg (by simp [hm]))) (by omega))
  have ht' : ((tr q).length : Int) ≤ 300 := by omega
  have hjb : (nl s.b : Int) ≤ 4096 := by omega
  rw [hd] at d1
  have hd2 := Lib.hid hd
  have hm2 := Lib.hid hm
  clear hb hG hk O1 e1 e2 hn hs hs2 hq hql htl HA ht hd hm
  go_enter Try.func14, Try.ntmps14
  go_wp2_with fail
  refine wp_scope_straight ?_
  go_wp2_with (first
    | (go_at_call 23; refine (HC.out _ ?hO (w.heap.size + 1) 0 1 ?h2).mono ?_; (case hO => (repeat (first | (with_reducible exact Only.refl _ _) | (with_reducible refine Only.drewN ?_ _) | (with_reducible refine Only.drew ?_) | (with_reducible refine Only.alloc ?_ _)))); (case h2 => exact lit_cell _ _ _ _ _); rintro e w2 ⟨v2, rfl, O2⟩; have Q2 : Only [] w w2 := ((((Only.refl [] w).alloc _).alloc _).then O2); have R2 : Bk (w2.alloc (.cells #[.int .u8 13] 5 (1, 2))) w.heap.size 36 #[.int .i64 0, .slice none 0 0] := ((((Bk.new w _ _).alloc _).only O2 (by simp)).alloc _); have c1 : (w2.alloc (.cells #[.int .u8 13] 5 (1, 2))).cell? ⟨g, 1, none⟩ = some (.bool false) := (Q2.alloc _).cellSome d1 (fun hm => nomatch hm))
    | (go_at_call 24; refine (HT.out _ ?hO w2.heap.size 0 1 ?h2).mono ?_; (case hO => exact Q2.alloc _); (case h2 => exact lit_one _ _ _ _); rintro e w3 ⟨rfl, rfl⟩)
    | (go_at_call 25; refine (HP.out _ (Q2.alloc _)).mono ?_; rintro e w5 ⟨F5, rfl, L5, O5, S5⟩; have Q5 : Only [g] w w5 := ((Q2.alloc _).mono (ss := [g]) (fun _ hx => nomatch hx)).trans O5 (fun x hx => .inl hx); have R5 := R2.only O5 (by simp; omega))
    | (go_at_call 26; refine (HS.out _ Q5).mono ?_; rintro e w6 ⟨A6, c6, rfl, V6, O6, B6⟩; have R6 := R5.keep O6; have r0 : w6.cell? ⟨w.heap.size, 0, none⟩ = some (.int .i64 0) := (by rw [R6.cell]; rfl); have r1 : w6.cell? ⟨w.heap.size, 1, none⟩ = some (.slice none 0 0) := (by rw [R6.cell]; rfl); have t0 := R6.free 0; have t1 := R6.free 1))
  rw [Exit.noGoto_ret]
  have hz := O5.size
  have L6 := L5.keep O6
  rw [hd2.out, hm2.out] at L6
  exact next_ret (x := some ⟨1, tr q⟩) (by kernel_rfl) _ A6 _ c6 rfl rfl rfl rfl R6 V6.sl (fun k hk => ⟨by have := B6 k hk; have := Q2.size; simp at hz; omega, V6.lt hk⟩) L6 ((Q5.mono (fun x hx => .inl (by simp at hx; simp [hx]))).then O6) S5 hgl h0.out.flt

def next_longJ (w : World) (g : Nat) (A : Option Addr) (c : Nat) (s : LS) (a' : Act) (w' : World) : Prop :=
  ∃ (u1 u5 u7 u8 u9 u10 u11 u12 u13 u14 u15 u16 u17 u18 u19 u20 u21 u22 u23 u24 u25 u26 u27 u28 u29 u30 u31 u32 u33 u34 u35 u36 u37 u38 u39 u40 u41 u42 u43 u44 u45 u46 u47 u48 u49 u50 u51 u52 u53 u54 u55 u56 u57 u58 u59 u60 u61 u62 u63 u64 u65 u66 u67 u68 u69 u70 u71 u72 u73 u74 u75 u76 u77 u78 u79 u80 : Value), a' = { tmps := #[.pointer (some ⟨g, 0, none⟩), u1, .pointer (some ⟨w.heap.size, 0, none⟩), .bool false, .slice A (nl s.b) c, u5, .bool true, u7, u8, u9, u10, u11, u12, u13, u14, u15, u16, u17, u18, u19, u20, u21, u22, u23, u24, u25, u26, u27, u28, u29, u30, u31, u32, u33, u34, u35, u36, u37, u38, u39, u40, u41, u42, u43, u44, u45, u46, u47, u48, u49, u50, u51, u52, u53, u54, u55, u56, u57, u58, u59, u60, u61, u62, u63, u64, u65, u66, u67, u68, u69, u70, u71, u72, u73, u74, u75, u76, u77, u78, u79, u80], defers := [] } ∧ Only [] w w' ∧ Bk w' w.heap.size 36 #[.int .i64 0, .slice none 0 0]
theorem next_long (h : Ln false w g F s) (hm : s.lit = none) (hn : nl s.b < s.b.length) (hd : s.drop = true ∨ 300 < (tr (s.b.take (nl s.b))).length) : Calls Try.prog 14 #[.pointer (some ⟨g, 0, none⟩)] w (Spoke false w g F (nextS s) (nextR s)) := by
  have kc := fun (w : World) (C : Array Value) (n c g : Nat) (hg : g = w.heap.size) => Joins.run_convert_bytes_const_at (P := Try.prog) w 27 5 C n c g hg Try.underlying27 Try.underlying5
  have e1 : nextS s = ⟨s.b.drop (nl s.b + 1), false, none⟩ := by unfold nextS; rw [hm]; simp [hn]
  have e2 : nextR s = some ⟨2, []⟩ := by unfold nextR evOf; rw [hm]; simp [hn]; exact fun h0 => (by rcases hd with h | h; (rw [h] at h0; cases h0); exact h)
  rw [e1, e2]
  have h0 := Lib.hid h
  obtain ⟨A, c, k, hb, hG, hk, rfl, hg, hl⟩ := h
  have O1 : Only [] w (w.alloc (.cells #[.int .i64 0, .slice none 0 0] 36)) := (Only.refl [] w).alloc _
  have c2 : (w.alloc (.cells #[.int .i64 0, .slice none 0 0] 36)).cell? ⟨g, 2, none⟩ = some (.bool false) := O1.cellSome (by rw [hb.cell, hm]; rfl) (fun hm => nomatch hm)
  have c0 : (w.alloc (.cells #[.int .i64 0, .slice none 0 0] 36)).cell? ⟨g, 0, none⟩ = some (.slice A s.b.length c) := O1.cellSome (by rw [hb.cell]; rfl) (fun hm => nomatch hm)
  have d1 : w.cell? ⟨g, 1, none⟩ = some (.bool s.drop) := by rw [hb.cell]; rfl
  have HB := Lib.hid hb
  have hgl := hb.lt
  have hcap := hG.cap
  have hnl := nl_le s.b
  have hs : Sl w A (s.b.take (nl s.b)).length (bvs (s.b.take (nl s.b))) := (by have h1 := hG.sl.pre (k := nl s.b) hnl; rw [bvs_take] at h1; rw [List.length_take, Nat.min_eq_left hnl]; exact h1)
  have HC := Lib.hid (fun W (hW : Only [] w W) => cut_yes (hG.keep hW) hl hn)
  have HA : 0 < (s.b.take (nl s.b)).length → ∃ b o, A = some ⟨b, o, none⟩ := fun h => by rw [List.length_take] at *; obtain ⟨b, o, e, _⟩ := hG.at_ (by omega); exact ⟨b, o, e⟩
  have HT0 := Lib.hid (fun W (hW : Only [] w W) => trim_any (hs.keep hW) HA (by rw [List.length_take] at *; omega : (s.b.take (nl s.b)).length ≤ c) hG.max)
  have HT : Hid (∀ W, Only [] w W → ∀ (b2 o2 d : Nat), W.cell? ⟨b2, o2, none⟩ = some (.int .u8 13) → Calls Try.prog 24 #[.slice A (nl s.b) c, .slice (some ⟨b2, o2, none⟩) 1 d] W fun e w' => e = .returned (.slice A (tr (s.b.take (nl s.b))).length c) ∧ W = w') := by
    have h := HT0.out
    rw [show (s.b.take (nl s.b)).length = nl s.b from by rw [List.length_take]; omega] at h
    exact h
  have HP := Lib.hid (fun W (hW : Only [] w W) => pass_as (ln_drop (h0.out.keep hW) false) (nl s.b + 1) (by show _ ≤ s.b.length; omega) ((nl s.b : Int) + 1) (by omega))
  have hjb : (nl s.b : Int) ≤ 4096 := by omega
  have hsb : (s.b.length : Int) ≤ 4096 := by omega
  have hm2 := Lib.hid hm
  clear hb hG hk O1 e1 e2 hn hs HA hm HT0 hcap
  obtain ⟨D, hD⟩ : ∃ D, D = s.drop := ⟨_, rfl⟩
  rw [← hD] at hd d1
  obtain ⟨T, hT⟩ : ∃ T, T = (tr (s.b.take (nl s.b))).length := ⟨_, rfl⟩
  rw [← hT] at hd HT
  have hT2 := tr_len (s.b.take (nl s.b))
  rw [List.length_take, ← hT] at hT2
  have hTb : (T : Int) ≤ 4096 := by omega
  have HD := Lib.hid hD
  clear hD hT hT2
  have hd2 : D = true ∨ (D = false ∧ (300 : Int) < (T : Int)) := by
    cases D
    · exact .inr ⟨rfl, by rcases hd with h | h; cases h; omega⟩
    · exact .inl rfl
  clear hd
  rcases hd2 with rfl | ⟨rfl, hT3⟩
  all_goals
    go_enter Try.func14, Try.ntmps14
    go_wp2_with fail
    refine wp_scope_back 0 (next_longJ w g A c s) (fun _ _ => 0) rfl ?pass ?first
    case first =>
      intro pass
      go_wp2_with (first
        | (go_at_call 23; refine (HC.out _ ?hO (w.heap.size + 1) 0 1 ?h2).mono ?_; (case hO => (repeat (first | (with_reducible exact Only.refl _ _) | (with_reducible refine Only.drewN ?_ _) | (with_reducible refine Only.drew ?_) | (with_reducible refine Only.alloc ?_ _)))); (case h2 => exact lit_cell _ _ _ _ _); rintro e w2 ⟨v2, rfl, O2⟩; have Q2 : Only [] w w2 := ((((Only.refl [] w).alloc _).alloc _).then O2); have R2 : Bk (w2.alloc (.cells #[.int .u8 13] 5 (1, 2))) w.heap.size 36 #[.int .i64 0, .slice none 0 0] := ((((Bk.new w _ _).alloc _).only O2 (by simp)).alloc _); have c1 := (Q2.alloc (.cells #[.int .u8 13] 5 (1, 2))).cellSome d1 (fun hm => nomatch hm))
        | (go_at_call 24; refine (HT.out _ ?hO w2.heap.size 0 1 ?h2).mono ?_; (case hO => exact Q2.alloc _); (case h2 => exact lit_one _ _ _ _); rintro e w3 ⟨rfl, rfl⟩))
      go_step3
      refine And.intro rfl (show next_longJ w g A c s _ _ from ⟨_, _, _, _, _, _, _, _, _, _, _, _, _, _, _, _, _, _, _, _, _, _, _, _, _, _, _, _, _, _, _, _, _, _, _, _, _, _, _, _, _, _, _, _, _, _, _, _, _, _, _, _, _, _, _, _, _, _, _, _, _, _, _, _, _, _, _, _, _, _, _, _, _, _, _, _, rfl, Q2.alloc _, R2⟩)
    case pass =>
      clear HC HT c2 c0
      rintro a' w' ⟨u1, u5, u7, u8, u9, u10, u11, u12, u13, u14, u15, u16, u17, u18, u19, u20, u21, u22, u23, u24, u25, u26, u27, u28, u29, u30, u31, u32, u33, u34, u35, u36, u37, u38, u39, u40, u41, u42, u43, u44, u45, u46, u47, u48, u49, u50, u51, u52, u53, u54, u55, u56, u57, u58, u59, u60, u61, u62, u63, u64, u65, u66, u67, u68, u69, u70, u71, u72, u73, u74, u75, u76, u77, u78, u79, u80, rfl, Q2, R2⟩
      have f1 : w'.frozen? ⟨g, 1, none⟩ = false := (HB.out.keep Q2).free 1
      have c1 := Q2.cellSome (p := ⟨g, 1, none⟩) d1 (fun hm => nomatch hm)
      have R3 := R2.far (p := ⟨g, 1, none⟩) (by simp; omega) (.bool false)
      have Q3 : Only [g] w (w'.setCell ⟨g, 1, none⟩ (.bool false)) := (Q2.mono (fun _ hx => nomatch hx)).setCell (.inl (by simp)) _
      go_wp2_with (go_at_call 25; refine (HP.out _ Q2).mono ?_; rintro e w5 ⟨F5, rfl, L5, O5, S5⟩; have Q5 : Only [g] w w5 := Q3.trans O5 (fun x hx => .inl hx); have R5 := R3.only O5 (by simp; omega); have r0 : w5.cell? ⟨w.heap.size, 0, none⟩ = some (.int .i64 0) := (by rw [R5.cell]; rfl); have r1 : w5.cell? ⟨w.heap.size, 1, none⟩ = some (.slice none 0 0) := (by rw [R5.cell]; rfl); have t0 := R5.free 0; have t1 := R5.free 1)
      simp only [Exit.jump]
      have L6 := L5
      simp only [hm2.out] at L6
      exact next_ret (x := some ⟨2, []⟩) (by kernel_rfl) _ none _ 0 rfl rfl rfl rfl R5 Sl.none_ (fun k hk => nomatch hk) L6 (Q5.mono (fun x hx => .inl (by simp at hx; simp [hx]))) S5 hgl h0.out.flt

def next_dropJ (w : World) (g : Nat) (A : Option Addr) (c : Nat) (s : LS) (a' : Act) (w' : World) : Prop :=
  ∃ (u1 u5 u7 u8 u9 u10 u11 u12 u13 u14 u15 u16 u17 u18 u19 u20 u21 u22 u23 u24 u25 u26 u27 u28 u29 u30 u31 u32 u33 u34 u35 u36 u37 u38 u39 u40 u41 u42 u43 u44 u45 u46 u47 u48 u49 u50 u51 u52 u53 u54 u55 u56 u57 u58 u59 u60 u61 u62 u63 u64 u65 u66 u67 u68 u69 u70 u71 u72 u73 u74 u75 u76 u77 u78 u79 u80 : Value), a' = { tmps := #[.pointer (some ⟨g, 0, none⟩), u1, .pointer (some ⟨w.heap.size, 0, none⟩), .bool false, .slice A s.b.length c, u5, .bool false, u7, u8, u9, u10, u11, u12, u13, u14, u15, u16, u17, u18, u19, u20, u21, u22, u23, u24, u25, u26, u27, u28, u29, u30, u31, u32, u33, u34, u35, u36, u37, u38, u39, u40, u41, u42, u43, u44, u45, u46, u47, u48, u49, u50, u51, u52, u53, u54, u55, u56, u57, u58, u59, u60, u61, u62, u63, u64, u65, u66, u67, u68, u69, u70, u71, u72, u73, u74, u75, u76, u77, u78, u79, u80], defers := [] } ∧ Only [] w w' ∧ Bk w' w.heap.size 36 #[.int .i64 0, .slice none 0 0]
theorem next_drop (h : Ln false w g F s) (hm : s.lit = none) (hn : ¬ nl s.b < s.b.length) (hs3 : 301 < s.b.length) : Calls Try.prog 14 #[.pointer (some ⟨g, 0, none⟩)] w (Spoke false w g F (nextS s) (nextR s)) := by
  have kc := fun (w : World) (C : Array Value) (n c g : Nat) (hg : g = w.heap.size) => Joins.run_convert_bytes_const_at (P := Try.prog) w 27 5 C n c g hg Try.underlying27 Try.underlying5
  have e1 : nextS s = ⟨[], true, none⟩ := by unfold nextS; rw [hm]; simp [hn]; omega
  have e2 : nextR s = none := by unfold nextR; rw [hm]; simp [hn]
  rw [e1, e2]
  have h0 := Lib.hid h
  obtain ⟨A, c, k, hb, hG, hk, rfl, hg, hl⟩ := h
  have O1 : Only [] w (w.alloc (.cells #[.int .i64 0, .slice none 0 0] 36)) := (Only.refl [] w).alloc _
  have c2 : (w.alloc (.cells #[.int .i64 0, .slice none 0 0] 36)).cell? ⟨g, 2, none⟩ = some (.bool false) := O1.cellSome (by rw [hb.cell, hm]; rfl) (fun hm => nomatch hm)
  have c0 : (w.alloc (.cells #[.int .i64 0, .slice none 0 0] 36)).cell? ⟨g, 0, none⟩ = some (.slice A s.b.length c) := O1.cellSome (by rw [hb.cell]; rfl) (fun hm => nomatch hm)
  have d1 : w.cell? ⟨g, 1, none⟩ = some (.bool s.drop) := by rw [hb.cell]; rfl
  have HB := Lib.hid hb
  have hgl := hb.lt
  have hcap := hG.cap
  have hnl := nl_le s.b
  have hs : Sl w A (s.b).length (bvs (s.b)) := hG.sl
  have HC := Lib.hid (fun W (hW : Only [] w W) => cut_no (hG.keep hW) hl hn)
  have HA : 0 < (s.b).length → ∃ b o, A = some ⟨b, o, none⟩ := fun h => by skip; obtain ⟨b, o, e, _⟩ := hG.at_ (by omega); exact ⟨b, o, e⟩
  have HT0 := Lib.hid (fun W (hW : Only [] w W) => trim_any (hs.keep hW) HA (by skip; omega : (s.b).length ≤ c) hG.max)
  have HT : Hid (∀ W, Only [] w W → ∀ (b2 o2 d : Nat), W.cell? ⟨b2, o2, none⟩ = some (.int .u8 13) → Calls Try.prog 24 #[.slice A s.b.length c, .slice (some ⟨b2, o2, none⟩) 1 d] W fun e w' => e = .returned (.slice A (tr (s.b)).length c) ∧ W = w') := by
    have h := HT0.out
    rw [show (s.b).length = s.b.length from by rfl] at h
    exact h
  have HP := Lib.hid (fun W (hW : Only [] w W) => pass_as (ln_drop (h0.out.keep hW) true) s.b.length (by show _ ≤ s.b.length; omega) (s.b.length : Int) (by omega))
  have hjb : (nl s.b : Int) ≤ 4096 := by omega
  have hsb : (s.b.length : Int) ≤ 4096 := by omega
  have hm2 := Lib.hid hm
  clear hb hG hk O1 e1 e2 hn hs HA hm HT0 hcap
  have hs4 : (301 : Int) < (s.b.length : Int) := by omega
  go_enter Try.func14, Try.ntmps14
  go_wp2_with fail
  refine wp_scope_back 0 (next_dropJ w g A c s) (fun _ _ => 0) rfl ?pass ?first
  case first =>
    intro pass
    go_wp2_with (first
      | (go_at_call 23; refine (HC.out _ ?hO (w.heap.size + 1) 0 1 ?h2).mono ?_; (case hO => (repeat (first | (with_reducible exact Only.refl _ _) | (with_reducible refine Only.drewN ?_ _) | (with_reducible refine Only.drew ?_) | (with_reducible refine Only.alloc ?_ _)))); (case h2 => exact lit_cell _ _ _ _ _); rintro e w2 ⟨v2, rfl, O2⟩; have Q2 : Only [] w w2 := ((((Only.refl [] w).alloc _).alloc _).then O2); have R2 : Bk (w2.alloc (.cells #[.int .u8 13] 5 (1, 2))) w.heap.size 36 #[.int .i64 0, .slice none 0 0] := ((((Bk.new w _ _).alloc _).only O2 (by simp)).alloc _); have c1 : (w2.alloc (.cells #[.int .u8 13] 5 (1, 2))).cell? ⟨g, 1, none⟩ = some (.bool s.drop) := (Q2.alloc _).cellSome d1 (fun hm => nomatch hm))
      | (go_at_call 24; refine (HT.out _ ?hO w2.heap.size 0 1 ?h2).mono ?_; (case hO => exact Q2.alloc _); (case h2 => exact lit_one _ _ _ _); rintro e w3 ⟨rfl, rfl⟩))
    go_step3
    refine And.intro rfl (show next_dropJ w g A c s _ _ from ⟨_, _, _, _, _, _, _, _, _, _, _, _, _, _, _, _, _, _, _, _, _, _, _, _, _, _, _, _, _, _, _, _, _, _, _, _, _, _, _, _, _, _, _, _, _, _, _, _, _, _, _, _, _, _, _, _, _, _, _, _, _, _, _, _, _, _, _, _, _, _, _, _, _, _, _, _, rfl, Q2.alloc _, R2⟩)
  case pass =>
    clear HC HT c2 c0
    rintro a' w' ⟨u1, u5, u7, u8, u9, u10, u11, u12, u13, u14, u15, u16, u17, u18, u19, u20, u21, u22, u23, u24, u25, u26, u27, u28, u29, u30, u31, u32, u33, u34, u35, u36, u37, u38, u39, u40, u41, u42, u43, u44, u45, u46, u47, u48, u49, u50, u51, u52, u53, u54, u55, u56, u57, u58, u59, u60, u61, u62, u63, u64, u65, u66, u67, u68, u69, u70, u71, u72, u73, u74, u75, u76, u77, u78, u79, u80, rfl, Q2, R2⟩
    have f1 : w'.frozen? ⟨g, 1, none⟩ = false := (HB.out.keep Q2).free 1
    have c1 := Q2.cellSome (p := ⟨g, 1, none⟩) d1 (fun hm => nomatch hm)
    have R3 := R2.far (p := ⟨g, 1, none⟩) (by simp; omega) (.bool true)
    have Q3 : Only [g] w (w'.setCell ⟨g, 1, none⟩ (.bool true)) := (Q2.mono (fun _ hx => nomatch hx)).setCell (.inl (by simp)) _
    go_wp2_with (go_at_call 25; refine (HP.out _ Q2).mono ?_; rintro e w5 ⟨F5, rfl, L5, O5, S5⟩; have Q5 : Only [g] w w5 := Q3.trans O5 (fun x hx => .inl hx); have R5 := R3.only O5 (by simp; omega); have r0 : w5.cell? ⟨w.heap.size, 0, none⟩ = some (.int .i64 0) := (by rw [R5.cell]; rfl); have r1 : w5.cell? ⟨w.heap.size, 1, none⟩ = some (.slice none 0 0) := (by rw [R5.cell]; rfl); have t0 := R5.free 0; have t1 := R5.free 1)
    simp only [Exit.jump]
    have L6 := L5
    simp only [hm2.out, List.drop_length] at L6
    exact next_ret (x := none) (by kernel_rfl) _ none _ 0 rfl rfl rfl rfl R5 Sl.none_ (fun k hk => nomatch hk) L6 (Q5.mono (fun x hx => .inl (by simp at hx; simp [hx]))) S5 hgl h0.out.flt
end
end Go.Proofs.Ytiekhgignmbaeaa
