/-
  The document's Next: a literal is wanted.
-/
import Derived.Test.YtiekhgignmbaeaaLNext2
import Derived.Deep.CutRange
namespace Go.Proofs.Ytiekhgignmbaeaa
open Go.RowKit Go.Instr

section
variable {w : World} {g : Nat} {F : List Nat} {s : LS}

theorem Next_any (h : Ln false w g F s) : Calls Try.prog 14 #[.pointer (some ⟨g, 0, none⟩)] w (Spoke false w g F (nextS s) (nextR s)) := by
  cases hm : s.lit with
  | some m => exact next_lit h m hm
  | none =>
    by_cases hn : nl s.b < s.b.length
    · by_cases hd : s.drop = true ∨ 300 < (tr (s.b.take (nl s.b))).length
      · exact next_long h hm hn hd
      · refine next_line h hm hn ?_ (by omega)
        cases hx : s.drop
        · rfl
        · exact absurd (.inl hx) hd
    · by_cases hs : 301 < s.b.length
      · exact next_drop h hm hn hs
      · exact next_wait h hm hn (by omega)

/-- The literal is taken out. -/
theorem ref_moved {W : World} {A A' : Option Addr} {n c n' c' : Nat} {b' : List UInt8} {d : Bool} {k : Int} (hb : Bk w g (ltype true) (lcells true (.slice A n c) d true k)) (Q : Only [] w W) (hG : Gro w A' n' c' (bvs b')) (hF : blks A' = F) (hg : g ∉ F) (hn : n' ≤ 4096) :
    Ln true ((W.setCell ⟨g, 0, none⟩ (.slice A' n' c')).setCell ⟨g, 1, none⟩ (.bool false)) g F ⟨b', d, none⟩ := by
  subst hF
  have hl : b'.length = n' := by simpa using hG.len
  subst hl
  have hO : Only [g] W ((W.setCell ⟨g, 0, none⟩ (.slice A' b'.length c')).setCell ⟨g, 1, none⟩ (.bool false)) := ((Only.refl _ _).setCell (.inl (by simp)) _).setCell (.inl (by simp)) _
  exact ⟨A', c', k, ((hb.keep Q).set 0 (.slice A' b'.length c')).set 1 (.bool false), (hG.keep Q).only hO (fun x hx hm => by simp at hm; subst hm; exact hg hx), (fun m hm => nomatch hm), rfl, hg, hn⟩
set_option maxHeartbeats 2000000 in
theorem ref_lit (h : Ln true w g F s) (m : Nat) (hm : s.lit = some m) : Calls Try.prog 15 #[.pointer (some ⟨g, 0, none⟩)] w (Spoke true w g F (nextS s) (nextR s)) := by
  obtain ⟨i0, hi, hz0, hz1, hz2⟩ := info_parts infoByte
  have h0 := Lib.hid h
  obtain ⟨A, c, k, hb, hG, hk, rfl, hg, hl⟩ := h
  obtain rfl := hk m hm
  have O1 : Only [] w (w.alloc (.cells #[.int .i64 0, .slice none 0 0] 36)) := (Only.refl [] w).alloc _
  have c0 : (w.alloc (.cells #[.int .i64 0, .slice none 0 0] 36)).cell? ⟨g, 0, none⟩ = some (.slice A s.b.length c) := O1.cellSome (by rw [hb.cell]; rfl) (fun hm => nomatch hm)
  have c1 : (w.alloc (.cells #[.int .i64 0, .slice none 0 0] 36)).cell? ⟨g, 1, none⟩ = some (.bool true) := O1.cellSome (by rw [hb.cell, hm]; rfl) (fun hm => nomatch hm)
  have c2 : (w.alloc (.cells #[.int .i64 0, .slice none 0 0] 36)).cell? ⟨g, 2, none⟩ = some (.int .i64 (m : Int)) := O1.cellSome (by rw [hb.cell]; rfl) (fun hm => nomatch hm)
  have hgl := hb.lt
  by_cases hlt : s.b.length < m
  · have e1 : nextS s = s := by unfold nextS; rw [hm]; simp [hlt]
    have e2 : nextR s = none := by unfold nextR; rw [hm]; simp [hlt]
    rw [e1, e2]
    have hlt' : (s.b.length : Int) < (m : Int) := by omega
    clear hb hG hk O1
    go_enter Try.func15, Try.ntmps15
    go_wp2
    go_quiet (fail)
    go_wp2
    have Q2 : Only [] w ((w.alloc (.cells #[.int .i64 0, .slice none 0 0] 36)).drewN nq) := ((Only.refl [] w).alloc _).drewN _
    exact next_ret (x := none) (by kernel_rfl) _ none _ 0 rfl rfl rfl rfl ((Bk.new w _ _).drewN nq) Sl.none_ (fun k hk => nomatch hk) (h0.out.keep Q2) (Q2.mono (fun _ hx => nomatch hx)) (fun k hk => hk) hgl h0.out.flt
  · have e1 : nextS s = ⟨s.b.drop m, s.drop, none⟩ := by unfold nextS; rw [hm]; simp [hlt]
    have e2 : nextR s = some ⟨3, s.b.take m⟩ := by unfold nextR; rw [hm]; simp [hlt]
    rw [e1, e2]
    have hlt' : (m : Int) ≤ (s.b.length : Int) := by omega
    have hcap := hG.cap
    have hmc : (m : Int) ≤ (c : Int) := by omega
    have hsc : (s.b.length : Int) ≤ (c : Int) := by omega
    have f0 := ((hb.only O1 (fun hm => nomatch hm)).free 0)
    have f1 := ((hb.only O1 (fun hm => nomatch hm)).free 1)
    have hs := hG.sl.pre (k := m) (by omega)
    rw [bvs_take] at hs
    have hcut := hG.cut (k := m) (by omega)
    have hbl := blks_cut A c m
    obtain ⟨A', hA'⟩ : ∃ A', (if c = m then A else Option.map (fun x => x.add m) A) = A' := ⟨_, rfl⟩
    rw [hA', bvs_drop] at hcut
    rw [hA'] at hbl
    have HB := Lib.hid hb
    have HG := Lib.hid hcut
    have HE := Lib.hid hbl
    clear hcut hbl
    have HK := Lib.hid hk
    clear hb hG hk O1
    go_enter Try.func15, Try.ntmps15
    go_wp2
    go_quiet (fail)
    go_wp2
    go_quiet (fail)
    go_upto_region 5 with fail
    go_cut [] from 32 to 46 (fun wx => Ln true wx g (blks A) ⟨s.b.drop m, s.drop, none⟩ ∧ Only (g :: blks A) w wx ∧ Bk wx w.heap.size 36 #[.int .i64 0, .slice none 0 0] ∧ Sl wx A m (bvs (s.b.take m)))
    case first =>
      go_region
      go_wp2_with fail
      go_meet
      have hb0 := HB.out
      rw [show s.lit.isSome = true by rw [hm]; rfl] at hb0
      have hne : ∀ x ∈ blks A, x ∉ [g] := fun x hx hm => by simp at hm; subst hm; exact hg hx
      refine ⟨ref_moved hb0 (((Only.refl [] w).alloc _).drewN _) HG.out HE.out hg (by omega), (((((Only.refl _ w).alloc _).drewN _).setCell (.inl (by simp)) _).setCell (.inl (by simp)) _), ((((Bk.new w _ _).drewN _).far (by simp; omega) _).far (by simp; omega) _), ?_⟩
      refine (hs.keep (((Only.refl [] w).alloc _).drewN _)).only (rs := [g]) (((Only.refl _ _).setCell (.inl (by simp)) _).setCell (.inl (by simp)) _) (fun ad e => ?_)
      subst e
      exact hne _ (by simp)
    case rest =>
      obtain ⟨L, Q, R, V⟩ := hcut
      have ho0 : Own (wc.alloc (.cells #[] 5)) 5 (some ⟨wc.heap.size, 0, none⟩) 0 0 [] := World.ownsRow_lit wc #[] 0 (Nat.zero_le _) (Nat.zero_le _) rfl
      go_wp2_with (at_builtin; go_must (refine wpList_append_sl rfl (.tmp 47) (.tmp 48) 27 rfl 5 i0 (.int .u8 0) 1 Try.underlying27 hi hz0 hz1 hz2 rfl _ _ _ _ rfl ho0 A m c _ rfl (V.alloc _) (bvs_one _) (by unfold maxLen; omega) (by omega) ?_); intro A3 c3 w3 HV3 HO3 HB3; rw [List.nil_append] at HV3; rw [Nat.zero_add] at HV3; have Q3 : Only [] wc w3 := ((Only.refl [] wc).alloc _).trans HO3 (fun x hx => .inr (by simp at hx; omega)); have R3 := R.keep Q3; have r0 : w3.cell? ⟨w.heap.size, 0, none⟩ = some (.int .i64 0) := (by rw [R3.cell]; rfl); have r1 : w3.cell? ⟨w.heap.size, 1, none⟩ = some (.slice none 0 0) := (by rw [R3.cell]; rfl); have t0 := R3.free 0; have t1 := R3.free 1)
      have hlen : (s.b.take m).length = m := by rw [List.length_take]; omega
      have hB3 : ∀ k ∈ blks A3, w.heap.size < k ∧ k < w3.heap.size := fun k hk => ⟨by
        have := R.lt
        rcases HB3 k hk with h1 | h1
        · simp at h1; omega
        · simp at h1; omega, HV3.lt hk⟩
      exact next_ret (x := some ⟨3, s.b.take m⟩) (by kernel_rfl) _ A3 _ c3 rfl hlen.symm rfl rfl R3 HV3.sl hB3 (L.keep Q3) (Q.then Q3) (fun k hk => hk) hgl h0.out.flt
end
end Go.Proofs.Ytiekhgignmbaeaa
