/-
  line: New, Len, Want, pass, Feed; the document's Feed and Want; the laws' same.
-/
import Derived.Test.YtiekhgignmbaeaaLLib
import Derived.Test.YtiekhgignmbaeaaStr
import Derived.Lib.SmallJoins
import Derived.WalkKit
import Derived.Handy
import Derived.Deep.DeepMust
import Derived.WalkLawsBesides
import Derived.ScopeJumps
import Derived.WalkMore
import Derived.IntWalk
namespace Go.Proofs.Ytiekhgignmbaeaa
open Go.RowKit Go.Instr

section
variable {w : World} {g : Nat} {F : List Nat} {s : LS}

theorem new_any (w : World) : Calls Try.prog 11 #[] w fun e w' => e = .returned (.pointer (some ⟨w.heap.size, 0, none⟩)) ∧ Ln false w' w.heap.size [] ⟨[], false, none⟩ ∧ Only [] w w' ∧ w'.heap.size = w.heap.size + 1 := by
  go_enter Try.func11, Try.ntmps11
  go_wp2
  go_ret
  exact ⟨rfl, ⟨none, 0, 0, Bk.new w _ _, (Gro.nil w).alloc _, (by intro m hm; cases hm), rfl, (by simp), (by simp)⟩, (Only.refl _ _).alloc _, by simp⟩

theorem Len_any (h : Ln false w g F s) : Calls Try.prog 19 #[.pointer (some ⟨g, 0, none⟩)] w fun e w' => e = .returned (.int .i64 (s.b.length : Int)) ∧ w = w' := by
  obtain ⟨A, c, k, hb, _⟩ := h
  have c0 : w.cell? ⟨g, 0, none⟩ = some (.slice A s.b.length c) := by rw [hb.cell]; rfl
  clear hb
  go_enter Try.func19, Try.ntmps19
  go_wp2
  go_ret
  exact ⟨rfl, rfl⟩
theorem Len_nil (w : World) : Calls Try.prog 19 #[.pointer none] w fun e w' => e = .returned (.int .i64 0) ∧ w = w' := by
  go_enter Try.func19, Try.ntmps19
  go_wp2
  go_ret
  exact ⟨rfl, rfl⟩

theorem Want_any (h : Ln false w g F s) (n : Int) : Calls Try.prog 17 #[.pointer (some ⟨g, 0, none⟩), .int .i64 n] w (Turned false w g F (wantS s n) (.int .i64 (wantE n : Nat))) := by
  unfold wantS wantE
  by_cases hn : 0 ≤ n ∧ n ≤ 1200
  · rw [if_pos hn, if_pos hn]
    obtain ⟨h1, h2⟩ := hn
    obtain ⟨A, c, k, hb, hG, hk, rfl, hg, hl⟩ := h
    have f2 := hb.free 2
    have f3 := hb.free 3
    have c2 : w.cell? ⟨g, 2, none⟩ = some (.bool s.lit.isSome) := by rw [hb.cell]; rfl
    have c3 : w.cell? ⟨g, 3, none⟩ = some (.int .i64 k) := by rw [hb.cell]; rfl
    go_enter Try.func17, Try.ntmps17
    go_wp2
    go_ret
    have hO : Only [g] w ((w.setCell ⟨g, 2, none⟩ (.bool true)).setCell ⟨g, 3, none⟩ (.int .i64 n)) := ((Only.refl _ w).setCell (.inl (by simp)) _).setCell (.inl (by simp)) _
    refine ⟨_, rfl, ⟨A, c, n, (by simpa [lcells] using (hb.set 2 (.bool true)).set 3 (.int .i64 n)), hG.only hO (fun k hk hm => by simp at hm; subst hm; exact hg hk), fun m hm => ?_, rfl, hg, hl⟩, hO.mono (fun x hx => .inl (by simp at hx; simp [hx])), fun k hk => .inl hk⟩
    simp only [Option.some.injEq] at hm
    omega
  · rw [if_neg hn, if_neg hn]
    have hr : n < 0 ∨ (0 ≤ n ∧ 1200 < n) := by omega
    rcases hr with hr | ⟨hr0, hr⟩
    all_goals
      go_enter Try.func17, Try.ntmps17
      go_wp2
      go_ret
      exact ⟨F, rfl, h, Only.refl _ _, fun k hk => .inl hk⟩
theorem Want_nil (w : World) (n : Int) : Calls Try.prog 17 #[.pointer none, .int .i64 n] w fun e w' => e = .returned (.int .i64 1) ∧ w = w' := by
  go_enter Try.func17, Try.ntmps17
  go_wp2
  go_ret
  exact ⟨rfl, rfl⟩
theorem refWant_any (h : Ln true w g F s) (n : Int) : Calls Try.prog 18 #[.pointer (some ⟨g, 0, none⟩), .int .i64 n] w (Turned true w g F (wantS s n) (.int .i64 (wantE n : Nat))) := by
  unfold wantS wantE
  by_cases hn : 0 ≤ n ∧ n ≤ 1200
  · rw [if_pos hn, if_pos hn]
    obtain ⟨h1, h2⟩ := hn
    obtain ⟨A, c, k, hb, hG, hk, rfl, hg, hl⟩ := h
    have f1 := hb.free 1
    have f2 := hb.free 2
    have c1 : w.cell? ⟨g, 1, none⟩ = some (.bool s.lit.isSome) := by rw [hb.cell]; rfl
    have c2 : w.cell? ⟨g, 2, none⟩ = some (.int .i64 k) := by rw [hb.cell]; rfl
    go_enter Try.func18, Try.ntmps18
    go_wp2
    go_ret
    have hO : Only [g] w ((w.setCell ⟨g, 1, none⟩ (.bool true)).setCell ⟨g, 2, none⟩ (.int .i64 n)) := ((Only.refl _ w).setCell (.inl (by simp)) _).setCell (.inl (by simp)) _
    refine ⟨_, rfl, ⟨A, c, n, (by simpa [lcells] using (hb.set 1 (.bool true)).set 2 (.int .i64 n)), hG.only hO (fun k hk hm => by simp at hm; subst hm; exact hg hk), fun m hm => ?_, rfl, hg, hl⟩, hO.mono (fun x hx => .inl (by simp at hx; simp [hx])), fun k hk => .inl hk⟩
    simp only [Option.some.injEq] at hm
    omega
  · rw [if_neg hn, if_neg hn]
    have hr : n < 0 ∨ (0 ≤ n ∧ 1200 < n) := by omega
    rcases hr with hr | ⟨hr0, hr⟩
    all_goals
      go_enter Try.func18, Try.ntmps18
      go_wp2
      go_ret
      exact ⟨F, rfl, h, Only.refl _ _, fun k hk => .inl hk⟩

theorem pass_any (h : Ln false w g F s) (k : Nat) (hk : k ≤ s.b.length) : Calls Try.prog 25 #[.pointer (some ⟨g, 0, none⟩), .int .i64 k] w fun e w' => ∃ F', e = .returned (.tuple #[]) ∧ Ln false w' g F' ⟨s.b.drop k, s.drop, s.lit⟩ ∧ Only [g] w w' ∧ ∀ x ∈ F', x ∈ F := by
  obtain ⟨A, c, j, hb, hG, hj, rfl, hg, hl⟩ := h
  have f0 := hb.free 0
  have c0 : w.cell? ⟨g, 0, none⟩ = some (.slice A s.b.length c) := by rw [hb.cell]; rfl
  have hcap := hG.cap
  have hmax := hG.max
  have hk' : (k : Int) ≤ (s.b.length : Int) := by omega
  have hc' : (s.b.length : Int) ≤ (c : Int) := by omega
  go_enter Try.func25, Try.ntmps25
  go_wp2
  all_goals
    go_end0
    have hcut := hG.cut hk
    rw [bvs_drop] at hcut
  · rw [if_pos h, show c - k = 0 by omega] at hcut
    exact ⟨rfl, _, ln_stored hb hcut hj hg (by omega), (Only.refl _ _).setCell (.inl (by simp)) _, fun k hk => hk⟩
  · rw [if_neg h] at hcut
    have hbl : blks (A.map (·.add k)) = blks A := by have := blks_cut A c k; rwa [if_neg h] at this
    exact ⟨rfl, _, ln_stored hb hcut hj (by rw [hbl]; exact hg) (by omega), (Only.refl _ _).setCell (.inl (by simp)) _, fun k hk => by rwa [hbl] at hk⟩

theorem Feed_nil (w : World) (A2 : Option Addr) (m c2 : Nat) : Calls Try.prog 12 #[.pointer none, .slice A2 m c2] w fun e w' => e = .returned (.int .i64 1) ∧ w = w' := by
  go_enter Try.func12, Try.ntmps12
  go_wp2
  go_ret
  exact ⟨rfl, rfl⟩
theorem Feed_any (h : Ln false w g F s) (A2 : Option Addr) (m c2 : Nat) (x : List UInt8) (hx : Sl w A2 m (bvs x)) :
    Calls Try.prog 12 #[.pointer (some ⟨g, 0, none⟩), .slice A2 m c2] w (Turned false w g F (feedS s x) (.int .i64 (feedE s x : Nat))) := by
  obtain ⟨i0, hi, hz0, hz1, hz2⟩ := info_parts infoByte
  have hxl : x.length = m := by simpa using hx.len
  have hlen := h.len
  unfold feedE feedS
  by_cases hf : x.length + s.b.length ≤ 4096
  · rw [if_pos hf, if_pos hf]
    obtain ⟨A, c, j, hb, hG, hj, rfl, hg, hl⟩ := h
    have f0 := hb.free 0
    have c0 : w.cell? ⟨g, 0, none⟩ = some (.slice A s.b.length c) := by rw [hb.cell]; rfl
    have hf' : (m : Int) ≤ 4096 - (s.b.length : Int) := by omega
    have HX := Lib.hid hxl
    clear hxl hf
    go_enter Try.func12, Try.ntmps12
    go_wp2_with (at_builtin; go_must (refine wpList_append_gro rfl (.tmp 20) (.tmp 21) 27 rfl 5 i0 (.int .u8 0) 1 Try.underlying27 hi hz0 hz1 hz2 rfl A _ c _ rfl hG A2 m c2 _ rfl hx (bvs_one _) (by unfold maxLen; omega) (by omega) ?_); intro A3 c3 w3 HG3 HO3 HB3; have f3 := (hb.only HO3 hg).free 0; have c3' : w3.cell? ⟨g, 0, none⟩ = some (.slice A s.b.length c) := (HO3.cellSome c0 hg))
    go_ret
    rw [← bvs_append] at HG3
    have hg3 : g ∉ blks A3 := fun hm => by
      rcases HB3 g hm with h1 | h1
      · exact hg h1
      · have := hb.lt; omega
    exact ⟨_, rfl, ln_stored (hb.only HO3 hg) HG3 hj hg3 (by omega), (HO3.mono (fun x hx => .inl (by simp [hx]))).setCell (.inl (by simp)) _, fun k hk => (HB3 k hk).imp (fun h => h) (fun h => h)⟩
  · rw [if_neg hf, if_neg hf]
    obtain ⟨A, c, j, hb, hG, hj, rfl, hg, hl⟩ := h
    have c0 : w.cell? ⟨g, 0, none⟩ = some (.slice A s.b.length c) := by rw [hb.cell]; rfl
    have hf' : 4096 - (s.b.length : Int) < (m : Int) := by omega
    have HX := Lib.hid hxl
    clear hxl hf
    go_enter Try.func12, Try.ntmps12
    go_wp2
    go_ret
    exact ⟨_, rfl, ⟨A, c, j, hb, hG, hj, rfl, hg, hl⟩, Only.refl _ _, fun k hk => .inl hk⟩

theorem refFeed_any (h : Ln true w g F s) (A2 : Option Addr) (m c2 : Nat) (x : List UInt8) (hx : Sl w A2 m (bvs x)) :
    Calls Try.prog 13 #[.pointer (some ⟨g, 0, none⟩), .slice A2 m c2] w (Turned true w g F (feedS s x) (.int .i64 (feedE s x : Nat))) := by
  obtain ⟨i0, hi, hz0, hz1, hz2⟩ := info_parts infoByte
  have hxl : x.length = m := by simpa using hx.len
  have hlen := h.len
  unfold feedE feedS
  by_cases hf : x.length + s.b.length ≤ 4096
  · rw [if_pos hf, if_pos hf]
    obtain ⟨A, c, j, hb, hG, hj, rfl, hg, hl⟩ := h
    have f0 := hb.free 0
    have c0 : w.cell? ⟨g, 0, none⟩ = some (.slice A s.b.length c) := by rw [hb.cell]; rfl
    have hf' : (m : Int) ≤ 4096 - (s.b.length : Int) := by omega
    have HX := Lib.hid hxl
    clear hxl hf
    have ho0 : Own (w.alloc (.cells #[] 5)) 5 (some ⟨w.heap.size, 0, none⟩) 0 0 [] := World.ownsRow_lit w #[] 0 (Nat.zero_le _) (Nat.zero_le _) rfl
    have c0' : (w.alloc (.cells #[] 5)).cell? ⟨g, 0, none⟩ = some (.slice A s.b.length c) := ((Only.refl [] w).alloc _).cellSome c0 (fun hm => nomatch hm)
    go_enter Try.func13, Try.ntmps13
    go_wp2_with (first
      | (at_builtin; refine wpList_append_sl rfl (.tmp 15) (.tmp 19) 27 rfl 5 i0 (.int .u8 0) 1 Try.underlying27 hi hz0 hz1 hz2 rfl _ _ _ _ rfl ho0 A s.b.length c _ rfl (hG.sl.alloc _) (bvs_one _) (by unfold maxLen; omega) (by omega) ?_; intro A3 c3 w3 HV3 HO3 HB3; rw [List.nil_append] at HV3; rw [Nat.zero_add] at HV3; have Q3 : Only [] w w3 := ((Only.refl [] w).alloc _).trans HO3 (fun x hx => .inr (by simp at hx; omega)))
      | (at_builtin; refine wpList_append_sl rfl (.tmp 20) (.tmp 21) 27 rfl 5 i0 (.int .u8 0) 1 Try.underlying27 hi hz0 hz1 hz2 rfl A3 s.b.length c3 _ rfl HV3 A2 m c2 _ rfl (hx.keep Q3) (bvs_one _) (by unfold maxLen; omega) (by omega) ?_; intro A4 c4 w4 HV4 HO4 HB4; rw [← bvs_append] at HV4; have Q4 : Only [] w w4 := Q3.trans HO4 (fun x hx => .inr (by rcases HB3 x hx with h | h <;> simp at h <;> omega)); have f4 := (hb.only Q4 (fun hm => nomatch hm)).free 0; have c4' : w4.cell? ⟨g, 0, none⟩ = some (.slice A s.b.length c) := Q4.cellSome c0 (fun hm => nomatch hm)))
    go_ret
    have hB4 : ∀ k ∈ blks A4, w.heap.size ≤ k := fun k hk => by
      rcases HB4 k hk with h1 | h1
      · rcases HB3 k h1 with h2 | h2 <;> simp at h2 <;> omega
      · have := Q3.size; omega
    have hg4 : g ∉ blks A4 := fun hm => by
      have := hB4 g hm
      have := hb.lt; omega
    exact ⟨_, rfl, ln_stored (hb.only Q4 (fun hm => nomatch hm)) (Gro.of_own HV4) hj hg4 (by omega), (Q4.mono (fun x hx => nomatch hx)).setCell (.inl (by simp)) _, fun k hk => .inr (hB4 k hk)⟩
  · rw [if_neg hf, if_neg hf]
    obtain ⟨A, c, j, hb, hG, hj, rfl, hg, hl⟩ := h
    have c0 : w.cell? ⟨g, 0, none⟩ = some (.slice A s.b.length c) := by rw [hb.cell]; rfl
    have hf' : 4096 - (s.b.length : Int) < (m : Int) := by omega
    have HX := Lib.hid hxl
    clear hxl hf
    go_enter Try.func13, Try.ntmps13
    go_wp2
    go_ret
    exact ⟨_, rfl, ⟨A, c, j, hb, hG, hj, rfl, hg, hl⟩, Only.refl _ _, fun k hk => .inl hk⟩

theorem str_of {w : World} {A : Option Addr} {n : Nat} {l : List UInt8} (h : Sl w A n (bvs l)) (c : Nat) : (convert 27 9 (.slice A n c)).run Try.prog w = .ok (.string (St l)) w :=
  run_str_sl (P := Try.prog) 27 9 5 A n c l Try.underlying27 Try.underlying5 Try.underlying9 h

/-- Two events that are one. -/
theorem same_yes (k : Nat) (A1 A2 : Option Addr) (n c1 c2 : Nat) (l : List UInt8) (w : World) (h1 : Sl w A1 n (bvs l)) (h2 : Sl w A2 n (bvs l)) :
    Calls Try.prog 16 #[.agg #[.int .i64 (k : Int), .slice A1 n c1], .agg #[.int .i64 (k : Int), .slice A2 n c2]] w fun e w' => e = .returned (.bool true) ∧ Only [] w w' := by
  have hO : Only [] w ((w.alloc (.cells #[.int .i64 (k : Int), .slice A1 n c1] 36)).alloc (.cells #[.int .i64 (k : Int), .slice A2 n c2] 36)) := ((Only.refl _ w).alloc _).alloc _
  have e1 := str_of (h1.keep hO) c1
  have e2 := str_of (h2.keep hO) c2
  clear h1 h2
  go_enter Try.func16, Try.ntmps16
  go_wp2
  go_ret
  exact ⟨rfl, hO⟩
end
end Go.Proofs.Ytiekhgignmbaeaa
