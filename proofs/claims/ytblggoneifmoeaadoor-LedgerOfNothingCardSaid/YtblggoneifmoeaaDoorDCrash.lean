/-
  disk's Crash.
-/
import Derived.Test.YtblggoneifmoeaaDoorDRange
namespace Go.Proofs.YtblggoneifmoeaaDoor
open Go.RowKit Go.Maps

theorem stay_le (draw : Int) (f : Fl) (h : f.lasts ≤ f.data.length) : f.lasts ≤ stay draw f ∧ stay draw f ≤ f.data.length := by
  unfold stay
  have := Nat.mod_lt (max draw 0).toNat (show 0 < f.data.length - f.lasts + 1 by omega)
  omega
/-- What the files are while a crash goes over them. -/
def half (draw : Int) (left : Lit → Bool) (c : Fc) : Fl := if left (keyLit c.f.name) then c.f else crashF draw c.f

section
variable {w : World} {d : Nat} {F : List Nat} {S : St}
theorem crash_nil (w : World) (n : Int) : Calls Tryd.prog 14 #[.pointer none, .int .i64 n] w fun e w' => e = .returned (.tuple #[]) ∧ w = w' := by
  go_enter Tryd.func14, Tryd.ntmps14
  go_wp2
  refine bodyPost_ret (results_none rfl _ _ _) rfl ?_
  exact ⟨rfl, rfl⟩

set_option maxRecDepth 100000 in
set_option maxHeartbeats 1000000 in
theorem crash_any (h : Disk w d F S) (draw : Int) (hdr : draw ≤ 9223372036854775807) : Calls Tryd.prog 14 #[.pointer (some ⟨d, 0, none⟩), .int .i64 draw] w (Did d F (crashS S draw) (.tuple #[]) w) := by
  obtain ⟨lf, mb, cs, hk, h1, h2, h3, rfl⟩ := h
  obtain ⟨_, _, c2, _, _⟩ := hk.cell
  have hlt := hk.bk.lt
  cases mb with
  | none =>
    have : cs = [] := hk.map
    subst this
    have hrg := run_range_nilMap (P := Tryd.prog) w 51 9 62 Tryd.underlying51
    have hnx : ∀ ty, (Instr.next (.pointer (some ⟨w.heap.size, 0, none⟩)) false ty).run Tryd.prog (w.alloc (.mapIter none 0 #[] 0)) = _ := fun ty => run_next_nilMap w ty 0 0 #[]
    have f3 := hk.bk.free 3
    have O1 : Only [] w (w.alloc (.mapIter none 0 #[] 0)) := (Only.refl _ _).alloc _
    have HK := Lib.hid hk
    have HI := Lib.hid (And.intro h1 (And.intro h2 h3))
    clear hk h1 h2 h3
    go_enter Tryd.func14, Tryd.ntmps14
    go_wp2
    refine wp_loop_rounds 1 ?_
    rw [rounds_succ]
    go_wp2
    go_end0
    have D2 := (HK.out.setFused false).keep ((Only.refl [] _).alloc (.mapIter none 0 #[] 0))
    have hfs : S.fs = [] := HI.out.1.symm
    refine did_mk rfl D2 rfl ?_ rfl ?_ (fun _ h => by cases h) HI.out.2.2 (((Only.refl _ _).setCell (.inl (by simp [fpt])) _).alloc _) (fun x hx => .inl hx)
    · simp [crashS, hfs]
    · simp [crashS, hfs]
  | some m =>
    have hmap : w.ownsMap Tryd.prog 9 ptrElem m cs.length (Dm cs) := hk.map
    go_enter Tryd.func14, Tryd.ntmps14
    go_wp2_with (at_range; refine wpList_range_own _ rfl _ 51 rfl 9 62 keyed Tryd.underlying51 ptrElem m cs.length (Dm cs) rfl hmap ?_; intro w0 hrg0 hg0 hs0)
    go_frame
    have O0 : Only [] w w0 := by simpa using Only.of_grown hg0
    have D0 := hk.keep O0
    obtain ⟨r, hr⟩ : ∃ r, r = w.heap.size := ⟨_, rfl⟩
    rw [← hr] at hrg0 ⊢
    have HR := Lib.hid hr
    have hstart : cs.map (·.f) = cs.map (half draw (has (Dm cs))) := List.map_congr_left fun c hc => by
      have : has (Dm cs) (keyLit c.f.name) = true := List.any_eq_true.2 ⟨ent c, List.mem_map_of_mem hc, by show (keyLit c.f.name).sameKey _ = true; rw [same_key]; simp⟩
      simp [half, this]
    have HS0 : Hid (cs.map (·.f) = cs.map (half draw (has (Dm cs)))) := hstart
    have HU0 : Hid (used S.fs = used (cs.map (·.f))) := by show _ = _; rw [h1]
    have HI := Lib.hid (And.intro h1 (And.intro h2 h3))
    have HK := Lib.hid hk
    clear hg0 hs0 hmap hk hr hstart h1 h2 h3 c2
    go_loopw [14] (fun _ wr => ∃ (left : Lit → Bool) (cnt : Nat) (csx : List Fc) (u : Nat), Rg wr m r cs.length (Dm cs) left cnt ∧ Dk wr d S.room u S.fuse.isSome lf (some m) csx ∧ Hid (csx.map (·.f) = cs.map (half draw left)) ∧ Hid (csx.map (·.blk) = cs.map (·.blk)) ∧
      Hid (u = used (csx.map (·.f))) ∧ u ≤ S.room ∧ Only (fpt d (some m) cs) w wr ∧ ∀ x ∈ fpt d (some m) csx, x ∈ fpt d (some m) cs ∨ w.heap.size ≤ x) (fun _ wr => wr.rangeLeft m r)
    case atStart => exact ⟨_, _, cs, _, hrg0, D0, HS0, rfl, HU0, HI.out.2.2, O0.mono (fun _ hx => by cases hx), fun x hx => .inl hx⟩
    case round =>
      obtain ⟨left, cnt, csx, u, hrg, D1, HF, HB, HU, hur, HO, HFP⟩ := hrel
      go_wp2_with (first
        | (at_next; refine wpList_next_disk rfl _ rfl rfl hrg ?_ ?_))
      · intro hl0
        have f3 := D1.bk.free 3
        obtain ⟨_, _, _, c3, _⟩ := D1.cell
        have D2 := D1.setFused false
        have HD2 := Lib.hid D2
        clear D2 D1 hrg
        have HL0 := Lib.hid hl0
        clear hl0
        go_wp2
        go_end0
        have hfs : csx.map (·.f) = (crashS S draw).fs := by
          rw [HF.out]
          show _ = S.fs.map (crashF draw)
          rw [← HI.out.1, List.map_map]
          exact List.map_congr_left fun c _ => by simp [half, HL0.out]
        exact did_mk rfl HD2.out rfl (by rw [← hfs, ← HU.out]) rfl hfs (fun _ h => by cases h) hur (HO.setCell (.inl (by simp [fpt])) _) HFP
      · intro c w1 cnt1 hc hlk hrg1 hcnt O1 hen
        have hrf := iter_fpt hrg D1
        have hcl := Lib.hid hrg.left_eq
        have D2 := D1.only O1 (fun x hx hm => by simp at hm; subst hm; exact hrf hx)
        obtain ⟨P, Q, Px, cx, Qx, hcs, rfl, hcf, hcb, hp1, hq1, hp2, hq2⟩ := split_map HF.out HB.out hc
        have hhalf : half draw left c = c.f := by simp [half, hlk]
        rw [hhalf] at hcf
        rw [← hcb, ← hcf] at hen
        have hmem : ∀ x : Fc, x ∈ Px ++ x :: Qx := fun x => by simp
        obtain ⟨e0, e1⟩ := D2.fcell (hmem cx)
        have hla := D2.lasts (hmem cx)
        have hbig := D2.big _ (hmem cx)
        have hst := stay_le draw cx.f hla
        obtain ⟨k, hkd⟩ : ∃ k, k = stay draw cx.f := ⟨_, rfl⟩
        obtain ⟨a, ha⟩ : ∃ a, a = cx.f.data.length := ⟨_, rfl⟩
        obtain ⟨la, hlad⟩ : ∃ la, la = cx.f.lasts := ⟨_, rfl⟩
        rw [← hkd, ← ha, ← hlad] at hst
        rw [← ha] at e0 hla hbig
        rw [← hlad] at e1 hla
        obtain ⟨oth, hoth⟩ : ∃ oth, a = la + oth := ⟨a - la, by omega⟩
        obtain ⟨dr, hdrd⟩ : ∃ dr : Nat, max draw 0 = (dr : Int) := ⟨(max draw 0).toNat, by omega⟩
        have hkv : k = la + dr % (oth + 1) := by
          rw [hkd]
          unfold stay
          rw [hdrd, ← ha, ← hlad]
          simp only [Int.toNat_natCast]
          congr 2
          omega
        have x1 : IntKind.i64.wrap ((a : Int) - (la : Int)) = (oth : Int) := by rw [IntWalk.i64_in _ (by omega)]; omega
        have b1 : (oth : Int) ≤ 1073741824 := by omega
        have HX := Lib.hid (And.intro hkv (And.intro hoth (And.intro hdrd (And.intro hkd (And.intro ha hlad)))))
        have HST := Lib.hid hst
        have HY := Lib.hid (And.intro hcs (And.intro hcf (And.intro hcb (And.intro hp1 (And.intro hq1 (And.intro hp2 hq2))))))
        clear hcs hcf hcb hp1 hq1 hp2 hq2
        clear hkv hoth hdrd hkd ha hlad hst hhalf hlk hrg
        go_wp2
        go_quiet (fail)
        clear x1
        go_wp2_with fail
        have D3 := D2.keep ((Only.refl [] w1).drewN nq)
        have hrg3 := ranges_only hrg1 ((Only.refl [] w1).drewN nq) (by simp) (by simp)
        have O3 := O1.drewN nq
        have e3 : (w1.drewN nq).cell? ⟨cx.blk, 1, none⟩ = some (.int .i64 la) := e1
        have hul : cx.f.data.length ≤ u := by rw [HU.out]; exact used_le (by simp)
        have hkl : k ≤ cx.f.data.length := by have := HST.out; have := HX.out.2.2.2.2.1; omega
        have HCUT := Lib.hid (fun (W : World) (O : Only [] (w1.drewN nq) W) => cut_any (D3.keep O) k hkl (by omega))
        have hmax : max draw 0 = (dr : Int) := HX.out.2.2.1
        obtain ⟨o1, ho1⟩ : ∃ o1, o1 = oth + 1 := ⟨_, rfl⟩
        obtain ⟨q, hq⟩ : ∃ q, q = dr % o1 := ⟨_, rfl⟩
        have y0 : ¬ o1 = 0 := by omega
        have y0' : ¬ (o1 : Int) = 0 := by omega
        have y1 : IntKind.i64.wrap ((oth : Int) + 1) = (o1 : Int) := by rw [IntWalk.i64_in _ (by omega)]; omega
        have y2 : (dr : Int).tmod (o1 : Int) = (q : Int) := by
          rw [Int.tmod_eq_emod_of_nonneg (by omega), hq]
          omega
        have y2' : (dr : Int) % (o1 : Int) = (q : Int) := by rw [hq]; omega
        have hkq : k = la + q := by rw [hq, ho1]; exact HX.out.1
        have y3 : IntKind.i64.wrap ((la : Int) + (q : Int)) = (k : Int) := by
          have h2 := HST.out
          rw [IntWalk.i64_in _ (by omega)]
          omega
        clear hq ho1 hkq
        have HLN := Lib.hid hul
        clear e0 e1 hul hkl D2 D1 hrg1
        generalize w1.drewN nq = w3 at *
        go_region_held3 (fun w' => w'.cell? ⟨cx.blk, 1, none⟩ = some (.int .i64 la)) (first | go_keep | exact e4)
          ((go_at_call 31; refine (HCUT.out _ ((Only.refl [] w3).drew)).mono ?_; rintro e w4 ⟨rfl, A4, cap4, D4, O4, B4⟩; have e4 : w4.cell? ⟨cx.blk, 1, none⟩ = some (.int .i64 la) := (by have := (D4.fcell (hmem _)).2; dsimp only [cutF] at this; rw [this]; have h1 := HX.out; have h2 := HST.out; congr 2; omega)))
        have hmx : cx ∈ Px ++ cx :: Qx := hmem cx
        have hmd : m ≠ d := D3.d_map rfl
        have hmb : cx.blk ≠ m := D3.m_blk rfl hmx
        have hmr : m ∉ blks cx.A := D3.m_row rfl hmx
        have hrf3 := iter_fpt hrg3 D3
        have hin : ∀ x ∈ d :: cx.blk :: blks cx.A, x ∈ fpt d (some m) (Px ++ cx :: Qx) := fun x hx => by
          rcases List.mem_cons.1 hx with rfl | hx
          · exact mem_fpt.2 (.inl rfl)
          · rcases List.mem_cons.1 hx with rfl | hx
            · exact mem_fpt.2 (.inr (.inr (.inl ⟨cx, hmx, rfl⟩)))
            · exact mem_fpt.2 (.inr (.inr (.inr ⟨cx, hmx, hx⟩)))
        have hl4 : (cx.f.data.take k).length = k := by rw [List.length_take]; have := HST.out; have := HX.out.2.2.2.2.1; omega
        have hm4 : (⟨cutF k cx.f, cx.blk, A4, cap4⟩ : Fc) ∈ Px ++ ⟨cutF k cx.f, cx.blk, A4, cap4⟩ :: Qx := hmem _
        obtain ⟨e5, _⟩ := D4.fcell hm4
        have g5 := (D4.file _ hm4).1.free 1
        dsimp only [cutF] at e5 g5
        rw [hl4] at e5
        have D5 := D4.setLasts k (by dsimp only [cutF]; rw [hl4]; exact Nat.le_refl _)
        have O5 : Only (d :: cx.blk :: blks cx.A) w3 (w4.setCell ⟨cx.blk, 1, none⟩ (.int .i64 k)) := (((Only.refl [] w3).drew.mono (fun _ hx => by cases hx)).trans O4 (fun x hx => .inl hx)).setCell (.inl (by simp)) _
        have hrg5 := ranges_only hrg3 O5 (by simp [hmd, hmr, Ne.symm hmb]) (fun hx => hrf3 (hin r hx))
        have HD5 := Lib.hid D5
        have HRG := Lib.hid hrg5
        have HL4 := Lib.hid hl4
        clear e3 e4 D3 D4 D5 hrg5 hmd hmb hmr y0 y0' y1 y2 y2' y3 hmax hl4 hm4 HCUT
        go_wp2
        go_roundw
        case rel =>
          refine ⟨_, cnt1, Px ++ { f := { cutF k cx.f with lasts := k }, blk := cx.blk, A := A4, cap := cap4 } :: Qx, u + k - cx.f.data.length, HRG.out, HD5.out, ?_, ?_, ?_, ?_, ?_, ?_⟩
          · obtain ⟨hcs, hcf, hcb, hp1, hq1, hp2, hq2⟩ := HY.out
            have hr := HK.out.good.rise
            rw [hcs, List.map_append, List.map_cons, List.pairwise_append, List.pairwise_cons] at hr
            have hpn : ∀ x ∈ P, (keyLit x.f.name).sameKey (keyLit c.f.name) = false := fun x hx => by
              rw [same_key, decide_eq_false_iff_not]
              exact bef_ne (hr.2.2 _ (List.mem_map_of_mem hx) _ (by simp))
            have hqn : ∀ x ∈ Q, (keyLit x.f.name).sameKey (keyLit c.f.name) = false := fun x hx => by
              rw [same_key, decide_eq_false_iff_not]
              exact (bef_ne (hr.2.1.1 _ (List.mem_map_of_mem hx))).symm
            show (Px ++ _ :: Qx).map (·.f) = cs.map (half draw fun z => left z && !z.sameKey (keyLit c.f.name))
            rw [hcs, List.map_append, List.map_append, List.map_cons, List.map_cons, hp1, hq1]
            congr 1
            · exact List.map_congr_left fun x hx => by simp [half, hpn x hx]
            · congr 1
              · have : half draw (fun z => left z && !z.sameKey (keyLit c.f.name)) c = crashF draw c.f := by
                  simp [half, same_key]
                rw [this, ← hcf]
                unfold crashF cutF
                rw [← HX.out.2.2.2.1]
              · exact List.map_congr_left fun x hx => by simp [half, hqn x hx]
          · obtain ⟨hcs, hcf, hcb, hp1, hq1, hp2, hq2⟩ := HY.out
            show (Px ++ _ :: Qx).map (·.blk) = cs.map (·.blk)
            rw [hcs, List.map_append, List.map_append, List.map_cons, List.map_cons, hp2, hq2, hcb]
          · show _ = _
            rw [HU.out]
            simp only [List.map_append, List.map_cons, used_append, used]
            have := HL4.out
            simp only [cutF]
            rw [this]
            omega
          · have h1 := HST.out
            have h2 := HX.out.2.2.2.2.1
            omega
          · have OR : Only (fpt d (some m) cs) w w3 := HO.trans O3 (fun x hx => .inr (by simp at hx; rw [hx, HR.out]; exact Nat.le_refl _))
            exact OR.trans O5 (fun x hx => HFP x (hin x hx))
          · refine fpt_swap HFP rfl (fun x hx => ?_)
            rcases B4 x hx with h | h
            · exact HFP x (hin x (by simp [h]))
            · have h2 := HO.size
              have h3 := O3.size
              have h4 : (World.drew w3).heap.size = w3.heap.size := rfl
              exact .inr (by omega)
        case measure => rw [HRG.out.left_eq, hcl.out]; omega
end
end Go.Proofs.YtblggoneifmoeaaDoor
