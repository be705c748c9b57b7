/-
  box: Stamp, the program's and the reference's.
-/
import Derived.Test.YthaodlegpjedoaaVMem
import Derived.Test.YthaodlegpjedoaaVIs
import Derived.Test.YthaodlegpjedoaaWLaw
import Derived.Laws.MakeOwn
namespace Go.Proofs.Ythaodlegpjedoaa
open Go.RowKit Go.Instr

/-- k numbers of nought. -/
def izeros (k : Nat) : Array Value := Array.replicate k (.int .i64 0)
theorem make_izeros (k : Nat) (hk : k ≤ 1000) (W : World) :
    (Instr.makeSlice 28 (.int .i64 (k : Int)) (.int .i64 (k : Int))).run Try.prog W = .ok (.slice (some ⟨W.heap.size, 0, none⟩) k k) (W.alloc (.cells (izeros k) 3)) := by
  obtain ⟨i0, hi, hz0, hz1, hz2⟩ := info_parts infoInt
  have hr := run_make (P := Try.prog) W 28 3 i0 _ Try.underlying28 hi hz0 .i64 .i64 (k : Int) (k : Int) (by omega) (by omega) (by rw [hz2]; omega) (by omega)
  simp only [Int.toNat_natCast] at hr
  rw [hr]
  have : madeCells (Value.cells (.int .i64 0)) (k * i0.size) = izeros k := by
    rw [hz1, Nat.mul_one]
    unfold izeros madeCells
    apply Array.ext
    · simp
    · intro i h1 h2
      simp [Value.cells, Nat.mod_one]
  rw [this]
/-- The numbers of the first k messages, noughts behind them. -/
def uk (l : List Mg) (k : Nat) : Array Value := (ivs ((l.take k).map Mg.uid) ++ List.replicate (l.length - k) (Value.int .i64 0)).toArray
theorem uk_zero (l : List Mg) : uk l 0 = izeros l.length := by
  unfold uk izeros
  simp [ivs]
theorem uk_size (l : List Mg) {k : Nat} (h : k ≤ l.length) : (uk l k).size = l.length := by
  unfold uk
  simp [ivs]
  omega
theorem uk_succ {l : List Mg} {k : Nat} (h : k < l.length) : uk l (k + 1) = (uk l k).setIfInBounds k (.int .i64 l[k].uid) := by
  unfold uk
  have hl : (ivs ((l.take k).map Mg.uid)).length = k := by simp [ivs]; omega
  obtain ⟨q, hq⟩ : ∃ q, l.length - k = q + 1 := ⟨l.length - k - 1, by omega⟩
  rw [hq, show l.length - (k + 1) = q by omega, List.replicate_succ, List.take_succ_eq_append_getElem h, List.map_append, List.setIfInBounds_toArray, List.set_append_right _ _ (by omega), hl, Nat.sub_self]
  simp [ivs]
theorem uk_all (l : List Mg) : (uk l l.length).toList = ivs (l.map Mg.uid) := by
  unfold uk
  simp
/-- All numbers in one. -/
def stampI (l : List Mg) : Int × Int := pol 0 1 (l.map Mg.uid) l.length
set_option maxRecDepth 100000 in
set_option maxHeartbeats 4000000 in
theorem Stamp_any {S : Nat → Prop} {w : World} (b : Bx) {A : Option Addr} {c : Nat} (h : Ms S w A b.l.length b.l) (hn : b.l.length ≤ 1000) (hs : ∀ m ∈ b.l, -1048576 < m.uid ∧ m.uid < 1048576) (x y : Int) (hxy : stampI b.l = (x, y)) :
    Calls Try.prog 30 #[bxv b A c] w fun e w' => e = .returned (.complex .f64 (FI x) (FI y)) ∧ Only [] w w' := by
  obtain ⟨s, v, nx, l⟩ := b
  obtain ⟨n, hl⟩ : ∃ n, l.length = n := ⟨_, rfl⟩
  simp only at h hn hs hxy
  rw [bxv_eq hl]
  rw [hl] at h hn
  have hO1 : Only [] w (w.alloc (.cells #[.string (St s), .int .i64 v, .int .i64 nx, .slice A n c] 26)) := (Only.refl _ _).alloc _
  have B0 := Lib.hid (Bk.new w 26 #[.string (St s), .int .i64 v, .int .i64 nx, .slice A n c])
  have B1 := Bk.new (w.alloc (.cells #[.string (St s), .int .i64 v, .int .i64 nx, .slice A n c] 26)) 3 (izeros n)
  rw [World.size_alloc] at B1
  have HB0 := Lib.hid (B0.out.alloc (.cells (izeros n) 3))
  have HB1 := Lib.hid B1
  have HM := Lib.hid (h.lt.keep (hO1.alloc (.cells (izeros n) 3)))
  have HO := Lib.hid (hO1.alloc (.cells (izeros n) 3))
  have HL := Lib.hid hl
  have HS := Lib.hid hs
  have HXY := Lib.hid hxy
  have HMK := Lib.hid (make_izeros n hn)
  obtain ⟨c0, c1, c2, c3⟩ := bk_four B0.out
  obtain ⟨t, ht⟩ : ∃ t, St s = t := ⟨_, rfl⟩
  rw [ht] at HB0 HB1 HM HO B0 c0 c1 c2 c3 ⊢
  have hmk := HMK.out (w.alloc (.cells #[.string t, .int .i64 v, .int .i64 nx, .slice A n c] 26))
  rw [World.size_alloc] at hmk
  clear h hl hs hxy B1 hO1 ht
  go_enter Try.func30, Try.ntmps30
  go_wp2
  clear c0 c1 c2 c3 hmk B0 HMK
  generalize ((w.alloc (.cells #[.string t, .int .i64 v, .int .i64 nx, .slice A n c] 26)).alloc (.cells (izeros n) 3)) = w2 at *
  go_loopw [13] (fun iv wr => ∃ k : Nat, iv = .int .i64 (k : Int) ∧ k ≤ n ∧ Hid (Only [w.heap.size + 1] w2 wr ∧ Bk wr (w.heap.size + 1) 3 (uk l k))) (fun iv _ => n - (intOf iv).toNat)
  case atStart => exact ⟨0, rfl, Nat.zero_le _, Only.refl _ _, by rw [uk_zero, HL.out]; exact HB1.out⟩
  case round =>
    obtain ⟨k, rfl, hk, HK⟩ := hrel
    obtain ⟨hO, hB⟩ := HK.out
    by_cases hlt : k < n
    · have hlt' : (k : Int) < (n : Int) := by omega
      have hkl : k < l.length := by rw [HL.out]; exact hlt
      obtain ⟨ad, Ab, cb, rfl, _, hm⟩ := (HM.out.only hO (fun x hx hm => by simp at hm; omega)).at_ hlt hkl
      have HSU := Lib.hid (uk_succ hkl)
      generalize l[k] = m at hm HSU
      obtain ⟨u, f, d, y⟩ := m
      obtain ⟨a0, a1, a2, a3, _, _⟩ := hm
      simp only at a0 a1 a2 a3 HSU
      generalize y.length = z at a3
      have hks : k < (uk l k).size := by rw [uk_size l (by omega)]; exact hkl
      have B2 := hB.alloc (.cells #[.int .i64 u, .int .i64 f, .int .i64 d, .slice Ab z cb] 62)
      have gc := B2.cell k
      rw [Array.getElem?_eq_getElem hks] at gc
      generalize (uk l k)[k] = old at gc
      have gf := B2.free k
      have hlt2 : w.heap.size + 1 < wr.heap.size := hB.lt
      clear hB hO B2 hks
      go_wp2
      exact ⟨⟨k + 1, by simp, by omega, (HK.out.1.setCell (.inl (by simp)) _).alloc _, by rw [HSU.out]; exact (HK.out.2.set k _).alloc _⟩, by simp [intOf]; omega⟩
    · obtain rfl : k = n := by omega
      have hv : Sl wr (some ⟨w.heap.size + 1, 0, none⟩) k (ivs (l.map Mg.uid)) := by
        have h1 := Sl.of_bk hB
        have h2 := uk_size l (k := k) (by rw [HL.out]; exact Nat.le_refl _)
        rw [HL.out] at h2
        rw [h2] at h1
        have h3 := uk_all l
        rw [HL.out] at h3
        rw [h3] at h1
        exact h1
      have HT := Lib.hid (Turn_at (some ⟨w.heap.size + 1, 0, none⟩) k k (l.map Mg.uid) wr x y (by rw [List.length_map, HL.out]) (by omega) (fun z hz => by obtain ⟨m, hm, rfl⟩ := List.mem_map.1 hz; exact HS.out m hm) (by have := HXY.out; unfold stampI at this; rw [HL.out] at this; exact this) hv)
      have HO3 := Lib.hid (HO.out.trans hO (fun q hq => .inr (by simp at hq; omega)))
      clear hv hB hO HK
      go_wp2_with (go_at_call 64; with_reducible refine HT.out.mono ?_; rintro e w' ⟨rfl, rfl⟩)
      go_ret
      exact ⟨rfl, HO3.out⟩
/-! ### The reference's -/
theorem infoGauss : (Try.prog.info? 52).map (·.size) = some 2 := by kernel_rfl
theorem gauss_ret {fn : Func} {R : Ending → World → Prop} {tmps : Array Value} {w : World} {s : Nat} (hres : fn.results = #[.cell s 52]) (p : Nat) (x y : Int) (h2 : tmps.getD s undef = .pointer (some ⟨p, 0, none⟩))
    (hb : Bk w p 52 #[.int .i64 x, .int .i64 y]) (hR : R (.returned (.agg #[.int .i64 x, .int .i64 y])) w) : bodyPost Try.prog fn R .ret { tmps := tmps, defers := [] } w := by
  refine bodyPost_ret (v := .agg #[.int .i64 x, .int .i64 y]) ?_ rfl hR
  exact results_cell_row hres tmps w p 52 #[.int .i64 x, .int .i64 y] (0, 0) _ h2 hb Try.underlying52 rfl infoGauss
/-- The loop's relation. -/
def RsR (w1 : World) (l : List Mg) (k : Nat) (sv : Value) (wr : World) : Prop := ∃ As cs, sv = .slice As k cs ∧ Own wr 3 As k cs (ivs ((l.take k).map Mg.uid)) ∧ (∀ x ∈ blks As, w1.heap.size ≤ x) ∧ Only [] w1 wr
set_option maxRecDepth 100000 in
set_option maxHeartbeats 4000000 in
theorem refStamp_any {S : Nat → Prop} {w : World} (b : Bx) {A : Option Addr} {c : Nat} (h : Ms S w A b.l.length b.l) (hn : b.l.length ≤ 1000) (hs : ∀ m ∈ b.l, -1048576 < m.uid ∧ m.uid < 1048576) (x y : Int) (hxy : stampI b.l = (x, y)) :
    Calls Try.prog 29 #[bxv b A c] w fun e w' => e = .returned (.agg #[.int .i64 x, .int .i64 y]) ∧ Only [] w w' := by
  obtain ⟨s, v, nx, l⟩ := b
  obtain ⟨n, hl⟩ : ∃ n, l.length = n := ⟨_, rfl⟩
  simp only at h hn hs hxy
  rw [bxv_eq hl]
  rw [hl] at h hn
  obtain ⟨i0, hi, hz0, hz1, hz2⟩ := info_parts infoInt
  have hO1 : Only [] w (w.alloc (.cells #[.string (St s), .int .i64 v, .int .i64 nx, .slice A n c] 26)) := (Only.refl _ _).alloc _
  have B0 := (Bk.new w 26 #[.string (St s), .int .i64 v, .int .i64 nx, .slice A n c]).alloc (.cells #[.int .i64 0, .int .i64 0] 52)
  have B1 := Bk.new (w.alloc (.cells #[.string (St s), .int .i64 v, .int .i64 nx, .slice A n c] 26)) 52 #[.int .i64 0, .int .i64 0]
  rw [World.size_alloc] at B1
  have HB0 := Lib.hid B0
  have HB1 := Lib.hid B1
  have HM := Lib.hid (h.lt.keep (hO1.alloc (.cells #[.int .i64 0, .int .i64 0] 52)))
  have HO := Lib.hid (hO1.alloc (.cells #[.int .i64 0, .int .i64 0] 52))
  have HSZ : Hid (w.heap.size + 1 < ((w.alloc (.cells #[.string (St s), .int .i64 v, .int .i64 nx, .slice A n c] 26)).alloc (.cells #[.int .i64 0, .int .i64 0] 52)).heap.size) := by show _ < _; simp
  have HL := Lib.hid hl
  have HS := Lib.hid hs
  have HXY := Lib.hid hxy
  obtain ⟨t, ht⟩ : ∃ t, St s = t := ⟨_, rfl⟩
  rw [ht] at HB0 HB1 HM HO HSZ ⊢
  clear h hl hs hxy B0 B1 hO1 ht
  go_enter Try.func29, Try.ntmps29
  go_wp2
  generalize ((w.alloc (.cells #[.string t, .int .i64 v, .int .i64 nx, .slice A n c] 26)).alloc (.cells #[.int .i64 0, .int .i64 0] 52)) = w2 at *
  go_loopw [3, 4] (fun sv iv wr => ∃ k : Nat, iv = .int .i64 (k : Int) ∧ k ≤ n ∧ Hid (RsR w2 l k sv wr)) (fun _ iv _ => n - (intOf iv).toNat)
  case atStart => exact ⟨0, rfl, Nat.zero_le _, none, 0, rfl, Own.nil _ _, (fun _ h => nomatch h), Only.refl _ _⟩
  case round =>
    obtain ⟨k, rfl, hk, HK⟩ := hrel
    obtain ⟨As, cs, rfl, V, BS, O⟩ := HK.out
    obtain ⟨c0, c1, c2, c3⟩ := bk_four (HB0.out.only O (by simp))
    by_cases hlt : k < n
    · have hlt' : (k : Int) < (n : Int) := by omega
      have hkl : k < l.length := by rw [HL.out]; exact hlt
      obtain ⟨ad, Ab, cb, rfl, _, hm⟩ := (HM.out.keep O).at_ hlt hkl
      have HSU : Hid (ivs ((l.take (k + 1)).map Mg.uid) = ivs ((l.take k).map Mg.uid) ++ [.int .i64 l[k].uid]) := by
        show _ = _
        rw [List.take_succ_eq_append_getElem hkl, List.map_append]
        unfold ivs
        rw [List.map_append]
        rfl
      have a0 := hm.c0
      clear hm
      generalize l[k].uid = u at a0 HSU
      have HB3 := Lib.hid (Bk.new wr 3 #[.int .i64 u])
      have HV := Lib.hid V
      have HBS := Lib.hid BS
      have HOO := Lib.hid O
      clear V BS O HK c0 c1 c2
      go_wp2_with (refine wpList_append_sl rfl _ _ 28 rfl 3 i0 (.int .i64 0) 8 Try.underlying28 hi hz0 hz1 hz2 rfl As k cs (ivs ((l.take k).map Mg.uid)) rfl (HV.out.alloc _) _ 1 1 [.int .i64 u] rfl (Sl.of_bk HB3.out) (by intro q hq; simp at hq; subst hq; rfl) (by unfold maxLen; omega) (by omega) ?_; intro Ag' cg' w3 V3 O3 B3)
      exact ⟨⟨k + 1, by simp, by omega, Ag', cg', rfl, by rw [HSU.out]; exact V3, fun q hq => (B3 q hq).elim (HBS.out q) (fun hh => by have := HOO.out.size; simp at hh; omega), HOO.out.trans ((((Only.refl [] wr).alloc _).mono (by simp)).trans O3 (fun q hq => .inl hq)) (fun q hq => .inr (HBS.out q hq))⟩, by simp [intOf]; omega⟩
    · obtain rfl : k = n := by omega
      have hall : l.take k = l := List.take_of_length_le (by rw [HL.out]; exact Nat.le_refl _)
      rw [hall] at V
      have hss : ∀ z ∈ l.map Mg.uid, -1048576 < z ∧ z < 1048576 := fun z hz => by obtain ⟨m, hm, rfl⟩ := List.mem_map.1 hz; exact HS.out m hm
      have HF := Lib.hid (refFourths_ex As k cs (l.map Mg.uid) wr V.sl (by omega) hss)
      have HBD := Lib.hid (fun r => fr_w53 hss r k (by omega))
      have HP : Hid (pol 0 1 (l.map Mg.uid) k = (x, y)) := by
        have := HXY.out
        unfold stampI at this
        rw [HL.out] at this
        exact this
      have HO3 := Lib.hid O
      have HG := Lib.hid (HB1.out.only O (by simp))
      clear V BS O HK hss c0 c1 c2
      go_wp2_with (go_at_call 63; go_must (refine HF.out.mono ?_); rintro e w4 ⟨a, b, c', d, rfl, HFF, O4⟩; have G4 := HG.out.only O4 (by simp); have g0 := G4.cell 0; have g1 := G4.cell 1; have gf0 := G4.free 0; have gf1 := G4.free 1; have gl := G4.lt; simp at g0 g1)
      obtain ⟨f1, f2, f3, f4⟩ := HFF.out
      have hp := HP.out
      rw [pol_i, ← f1, ← f2, ← f3, ← f4] at hp
      injection hp with hx hy
      have b1 := HBD.out 0
      have b2 := HBD.out 1
      have b3 := HBD.out 2
      have b4 := HBD.out 3
      rw [← f1] at b1
      rw [← f2] at b2
      rw [← f3] at b3
      rw [← f4] at b4
      have t1 : wrap64 (a - c') = a - c' := IntWalk.wrap64_in _ (by omega)
      have t2 : wrap64 (b - d) = b - d := IntWalk.wrap64_in _ (by omega)
      subst hx hy
      rw [t1, t2]
      refine gauss_ret (s := 2) ?_ (w.heap.size + 1) (a - c') (b - d) ?_ ?_ ⟨rfl, ?_⟩
      · kernel_rfl
      · rfl
      · have := ((G4.set 0 (.int .i64 (a - c'))).set 1 (.int .i64 (b - d))).alloc (.cells #[.int .i64 a, .int .i64 b, .int .i64 c', .int .i64 d] 94)
        simpa using this
      · exact (((((HO.out.then HO3.out).then O4).setCell (p := ⟨w.heap.size + 1, 0, none⟩) (.inr (Nat.le_succ _)) _).setCell (p := ⟨w.heap.size + 1, 1, none⟩) (.inr (Nat.le_succ _)) _)).alloc _
end Go.Proofs.Ythaodlegpjedoaa
