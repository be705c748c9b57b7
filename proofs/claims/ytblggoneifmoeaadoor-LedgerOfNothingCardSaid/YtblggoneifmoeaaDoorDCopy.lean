/-
  disk's Copy.
-/
import Derived.Test.YtblggoneifmoeaaDoorDCrash
namespace Go.Proofs.YtblggoneifmoeaaDoor
open Go.RowKit Go.Maps

/-- The files that are no longer to come. -/
def past (left : Lit → Bool) (fs : List Fl) : List Fl := fs.filter fun f => !left (keyLit f.name)
theorem past_step {left : Lit → Bool} {f : Fl} (hl : left (keyLit f.name) = true) : ∀ {fs : List Fl}, fs.Pairwise (fun f g => bef f.name g.name = true) → f ∈ fs → past (fun z => left z && !z.sameKey (keyLit f.name)) fs = ins f (past left fs)
  | [], _, hm => by cases hm
  | g :: r, hp, hm => by
    obtain ⟨h1, h2⟩ := List.pairwise_cons.1 hp
    by_cases e : g.name = f.name
    · have hfg : g = f := by
        rcases List.mem_cons.1 hm with h | h
        · exact h.symm
        · exact absurd e (bef_ne (h1 f h))
      subst hfg
      have hr : past (fun z => left z && !z.sameKey (keyLit g.name)) r = past left r := by
        unfold past
        refine List.filter_congr fun x hx => ?_
        have : (keyLit x.name).sameKey (keyLit g.name) = false := by rw [same_key, decide_eq_false_iff_not]; exact (bef_ne (h1 x hx)).symm
        simp [this]
      have hall : ∀ x ∈ past left r, bef g.name x.name = true := fun x hx => h1 x (List.mem_filter.1 hx).1
      have hins : ins g (past left r) = g :: past left r := by
        cases hpl : past left r with
        | nil => rfl
        | cons x t =>
          unfold ins
          rw [if_pos (hall x (by rw [hpl]; simp))]
      unfold past at hr hins ⊢
      rw [List.filter_cons, List.filter_cons, hr]
      simp only [same_key, decide_true, Bool.not_true, Bool.and_false, Bool.not_false, if_true, hl, Bool.false_eq_true, if_false]
      exact hins.symm
    · have hf : f ∈ r := by
        rcases List.mem_cons.1 hm with h | h
        · exact absurd (by rw [h]) e
        · exact h
      have ih := past_step hl h2 hf
      have hsk : (keyLit g.name).sameKey (keyLit f.name) = false := by rw [same_key, decide_eq_false_iff_not]; exact e
      have hb : bef f.name g.name = false := bef_asymm (h1 f hf)
      unfold past at ih ⊢
      rw [List.filter_cons, List.filter_cons, ih]
      simp only [hsk, Bool.not_false, Bool.and_true]
      cases hg : left (keyLit g.name)
      · simp only [Bool.not_false, if_true]
        rw [ins, hb]
        simp
      · simp
theorem past_all {left : Lit → Bool} (h : ∀ kl, left kl = false) (fs : List Fl) : past left fs = fs := by
  unfold past
  rw [List.filter_eq_self]
  intro x _
  simp [h]
theorem past_none {cs : List Fc} : past (has (Dm cs)) (cs.map (·.f)) = [] := by
  unfold past
  rw [List.filter_eq_nil_iff]
  intro x hx
  obtain ⟨c, hc, rfl⟩ := List.mem_map.1 hx
  have : has (Dm cs) (keyLit c.f.name) = true := List.any_eq_true.2 ⟨ent c, List.mem_map_of_mem hc, by show (keyLit c.f.name).sameKey _ = true; rw [same_key]; simp⟩
  simp [this]

theorem iter_other {w : World} {m r n cnt : Nat} {D : DataW Unit} {left : Lit → Bool} {d room u lf : Nat} {fz : Bool} {mb : Option Nat} {cs : List Fc} (h : Rg w m r n D left cnt) (hk : Dk w d room u fz lf mb cs) : r ∉ fpt d mb cs := by
  intro hx
  rcases mem_fpt.1 hx with e | e | ⟨c, hc, e⟩ | ⟨c, hc, hx⟩
  · exact iter_ne h hk.bk e
  · subst e
    obtain ⟨es, clock, since, seen, c0, _, _, _, _, hit, _⟩ := h
    obtain ⟨es2, clock2, hb, _⟩ := (show w.ownsMap _ _ _ r _ (Dm cs) from hk.map)
    rw [hit] at hb
    cases hb
  · exact iter_ne h (hk.file c hc).1 e
  · exact iter_own h (hk.file c hc).2 hx
/-- A disk with the same files, on its own. -/
def Copied (S : St) (w : World) (e : Ending) (w' : World) : Prop :=
  ∃ d' F', e = .returned (.pointer (some ⟨d', 0, none⟩)) ∧ Disk w' d' F' S ∧ Only [] w w' ∧ ∀ x ∈ F', w.heap.size ≤ x
section
variable {w : World} {d : Nat} {F : List Nat} {S : St}
theorem copy_nil (w : World) : Calls Tryd.prog 74 #[.pointer none] w fun e w' => e = .returned (.pointer none) ∧ w = w' := by
  go_enter Tryd.func74, Tryd.ntmps74
  go_wp2
  go_ret
  exact ⟨rfl, rfl⟩

set_option maxRecDepth 100000 in
set_option maxHeartbeats 1000000 in
theorem copy_any (h : Disk w d F S) : Calls Tryd.prog 74 #[.pointer (some ⟨d, 0, none⟩)] w (Copied (copyS S) w) := by
  obtain ⟨lf, mb, cs, hk, h1, h2, h3, rfl⟩ := h
  obtain ⟨c0, c1, c2, _, _⟩ := hk.cell
  have hlt := hk.bk.lt
  have hb0 := hk.room'
  have DN := (dk_new w S.room hb0 hk.u').drew
  have OA : Only [] w (w.alloc (.cells #[.int .i64 S.room, .int .i64 (used S.fs), .map none, .bool false, .int .i64 0] 53)).drew := ((Only.refl [] w).alloc _).drew
  have c2A : (w.alloc (.cells #[.int .i64 S.room, .int .i64 (used S.fs), .map none, .bool false, .int .i64 0] 53)).drew.cell? ⟨d, 2, none⟩ = some (.map mb) := (OA.cell hlt (by simp)).trans c2
  have HI := Lib.hid (And.intro h1 h3)
  have HK := Lib.hid hk
  clear hk h1 h2 h3
  go_enter Tryd.func74, Tryd.ntmps74
  go_wp2
  go_region
  obtain ⟨d2, hd2⟩ : ∃ d2, d2 = w.heap.size := ⟨_, rfl⟩
  rw [← hd2] at DN ⊢
  have HD2 := Lib.hid hd2
  generalize (w.alloc (.cells #[.int .i64 S.room, .int .i64 (used S.fs), .map none, .bool false, .int .i64 0] 53)).drew = w1 at DN OA c2A ⊢
  clear hd2 c0 c1 c2
  have hlt1 : d < w1.heap.size := Nat.lt_of_lt_of_le hlt OA.size
  cases mb with
  | none =>
    have hcs : cs = [] := HK.out.map
    subst hcs
    have hrg := run_range_nilMap (P := Tryd.prog) w1 51 9 62 Tryd.underlying51
    have hnx : ∀ ty, (Instr.next (.pointer (some ⟨w1.heap.size, 0, none⟩)) false ty).run Tryd.prog (w1.alloc (.mapIter none 0 #[] 0)) = _ := fun ty => run_next_nilMap w1 ty 0 0 #[]
    go_wp2
    refine wp_loop_rounds 1 ?_
    rw [rounds_succ]
    go_wp2
    go_ret
    have hfs : S.fs = [] := HI.out.1.symm
    have D2 := DN.keep ((Only.refl [] w1).alloc (.mapIter none 0 #[] 0))
    refine ⟨d2, [d2], rfl, ⟨0, none, [], D2, hfs.symm, fun _ h => (by cases h), HI.out.2, rfl⟩, OA.alloc _, fun x hx => ?_⟩
    simp at hx
    rw [hx, HD2.out]
    exact Nat.le_refl _
  | some m =>
    have hmap : w1.ownsMap Tryd.prog 9 ptrElem m cs.length (Dm cs) := (HK.out.keep OA).map
    have hmlt : m < w.heap.size := HK.out.lt (mem_fpt.2 (.inr (.inl rfl)))
    go_wp2_with (at_range; refine wpList_range_own _ rfl _ 51 rfl 9 62 keyed Tryd.underlying51 ptrElem m cs.length (Dm cs) rfl hmap ?_; intro w0 hrg0 hg0 hs0)
    go_frame
    have O0 : Only [] w1 w0 := by simpa using Only.of_grown hg0
    have D0 := DN.keep O0
    obtain ⟨r, hr⟩ : ∃ r, r = w1.heap.size := ⟨_, rfl⟩
    rw [← hr] at hrg0 ⊢
    have HR : Hid (w.heap.size ≤ r) := by show _ ≤ _; rw [hr]; exact OA.size
    have HS0 : Hid (([] : List Fc).map (·.f) = past (has (Dm cs)) S.fs) := by show _ = _; rw [← HI.out.1, past_none]; rfl
    have HF0 : Hid (∀ x ∈ fpt d2 none [], w.heap.size ≤ x) := fun x hx => by
      rcases mem_fpt.1 hx with rfl | e | ⟨c, hc, _⟩ | ⟨c, hc, _⟩
      · rw [HD2.out]; exact Nat.le_refl _
      · cases e
      · cases hc
      · cases hc
    have OW0 := OA.then O0
    clear hg0 hs0 hmap hr DN c2A
    go_loopw [23] (fun _ wr => ∃ (left : Lit → Bool) (cnt : Nat) (mb2 : Option Nat) (csx : List Fc), Rg wr m r cs.length (Dm cs) left cnt ∧ Dk wr d2 S.room (used S.fs) false 0 mb2 csx ∧ Hid (csx.map (·.f) = past left S.fs) ∧ Only [] w wr ∧ ∀ x ∈ fpt d2 mb2 csx, w.heap.size ≤ x) (fun _ wr => wr.rangeLeft m r)
    case atStart => exact ⟨_, _, none, [], hrg0, D0, HS0, OW0, HF0.out⟩
    case round =>
      obtain ⟨left, cnt, mb2, csx, hrg, N1, HF, HO, HFP⟩ := hrel
      go_wp2_with (first
        | (at_next; refine wpList_next_disk rfl _ rfl rfl hrg ?_ ?_))
      · intro hl0
        have HL0 := Lib.hid hl0
        clear hl0
        go_wp2
        go_ret
        have hfs : csx.map (·.f) = S.fs := by rw [HF.out, past_all HL0.out]
        exact ⟨d2, _, rfl, ⟨0, mb2, csx, N1, hfs, fun _ h => (by cases h), HI.out.2, rfl⟩, HO, HFP⟩
      · intro c w2 cnt1 hc hlk hrg1 hcnt O1 hen
        have hcl := Lib.hid hrg.left_eq
        have hmf : m ∉ fpt d2 mb2 csx := fun hx => by have := HFP m hx; omega
        have hrf := iter_other hrg N1
        have N2 := N1.only O1 (fun x hx hm => by simp at hm; subst hm; exact hrf hx)
        have HO2 : Only [] w w2 := HO.trans O1 (fun x hx => .inr (by simp at hx; rw [hx]; exact HR.out))
        have D2 := HK.out.keep HO2
        obtain ⟨e0, e1⟩ := D2.fcell hc
        have hown := (D2.file c hc).2
        have hbig := D2.big _ hc
        have hla := D2.lasts hc
        have hnm := D2.good.names _ (List.mem_map_of_mem hc)
        have hcf : c.f ∈ S.fs := by rw [← HI.out.1]; exact List.mem_map_of_mem hc
        have hrise : S.fs.Pairwise (fun f g => bef f.name g.name = true) := by rw [← HI.out.1]; exact HK.out.good.rise
        have hfn : findC csx c.f.name = none := findC_none.2 fun x hx e => by
          have hxm : x.f ∈ csx.map (·.f) := List.mem_map_of_mem hx
          rw [HF.out] at hxm
          have := (List.mem_filter.1 hxm).2
          rw [e, hlk] at this
          cases this
        have hlen : csx.length < 4096 := by
          have l1 : csx.length = (past left S.fs).length := by rw [← HF.out, List.length_map]
          have l2 : (past left S.fs).length < S.fs.length := by
            unfold past
            exact List.length_filter_lt_length_iff_exists.2 ⟨c.f, hcf, by simp [hlk]⟩
          have l3 := HK.out.good.len
          rw [HI.out.1] at l3
          omega
        have HPS : Hid (past (fun z => left z && !z.sameKey (keyLit c.f.name)) S.fs = ins c.f (past left S.fs)) := past_step hlk hrise hcf
        have HCL := Lib.hid (fun (W : World) (O : Only [] w2 W) => clone_any c.A c.f.data.length c.cap c.f.data W (hown.keep O).sl (by omega))
        have HPUT := Lib.hid (fun (W : World) (A4 : Option Addr) (c4 : Nat) (O : Only [] w2 W) (V : Own W 5 A4 c.f.data.length c4 (bvs c.f.data)) (B : ∀ k ∈ blks A4, w2.heap.size ≤ k) =>
          put_any ((N2.keep O).keep ((Only.refl [] W).alloc (.cells #[.slice A4 c.f.data.length c4, .int .i64 c.f.lasts] 64))) (c := ⟨c.f, W.heap.size, A4, c4⟩) ⟨Bk.new W _ _, V.alloc _⟩ hfn
            (fun hm => by
              obtain ⟨x, hx, e⟩ := List.mem_map.1 hm
              have := ((N2.keep O).file x hx).1.lt
              dsimp only at e
              omega)
            (fun x hx hm => by
              obtain ⟨y, hy, hxy⟩ := List.mem_flatMap.1 hm
              have h1 := (N2.file y hy).2.lt hxy
              have h2 := B x hx
              omega) hlen hnm hla hbig)
        dsimp only at HPUT
        have hbne : c.blk ≠ d2 := fun e => by have h1 := HK.out.lt (mem_fpt.2 (.inr (.inr (.inl ⟨c, hc, rfl⟩)))); have h2 := HFP d2 (mem_fpt.2 (.inl rfl)); omega
        have hbnm : ∀ x ∈ d2 :: mb2.toList, c.blk ≠ x := fun x hx e => by have h1 := HK.out.lt (mem_fpt.2 (.inr (.inr (.inl ⟨c, hc, rfl⟩)))); have h2 := HFP x (dmb_sub x hx); omega
        clear hown hfn hlen hrise hcf hnm hbig hla hrg hlk hc D2
        go_wp2_with fail
        go_region_held3 (fun w' => w'.cell? ⟨c.blk, 0, none⟩ = some (.slice c.A c.f.data.length c.cap) ∧ w'.cell? ⟨c.blk, 1, none⟩ = some (.int .i64 c.f.lasts)) (first | go_keep | exact ⟨k0, k1⟩ | exact ⟨j0, j1⟩)
          (first
            | (go_at_call 29; refine (HCL.out _ ((Only.refl [] w2).drew)).mono ?_; rintro e w4 ⟨A4, c4, rfl, V4, O4, B4⟩; have k0 := O4.cellSome (p := ⟨c.blk, 0, none⟩) e0 (by simp); have k1 := O4.cellSome (p := ⟨c.blk, 1, none⟩) e1 (by simp))
            | (go_at_call 62; refine (HPUT.out w4 A4 c4 (((Only.refl [] w2).drew).then O4) V4 B4).mono ?_; rintro e w6 ⟨rfl, mb6, N6, O6, M6⟩; have j0 := O6.cellSome (p := ⟨c.blk, 0, none⟩) (((Only.refl [] w4).alloc _).cellSome k0 (by simp)) (fun hm => hbnm _ hm rfl); have j1 := O6.cellSome (p := ⟨c.blk, 1, none⟩) (((Only.refl [] w4).alloc _).cellSome k1 (by simp)) (fun hm => hbnm _ hm rfl)))
        have OW4 := ((((Only.refl [] w2).drew).then O4).alloc (.cells #[.slice A4 c.f.data.length c4, .int .i64 c.f.lasts] 64))
        have HRG := Lib.hid (ranges_only (ranges_only hrg1 OW4 (by simp) (by simp)) O6 (fun hx => hmf (dmb_sub m hx)) (fun hx => hrf (dmb_sub r hx)))
        have hz2 := HO2.size
        have hz4 := OW4.size
        have HZ : Hid (w.heap.size ≤ w4.heap.size) := by
          show _ ≤ _
          have := (((Only.refl [] w2).drew).then O4).size
          omega
        clear e0 e1 k0 k1 j0 j1 hz4
        go_wp2
        go_roundw
        case rel =>
          refine ⟨_, cnt1, mb6, _, HRG.out, N6, ?_, (HO2.then OW4).trans O6 (fun x hx => .inr (HFP x (dmb_sub x hx))), fun x hx => ?_⟩
          · show _ = past _ _
            rw [map_insC, HPS.out, HF.out]
          · rcases mem_fpt.1 hx with rfl | e | ⟨y, hm, rfl⟩ | ⟨y, hm, hx2⟩
            · exact HFP _ (mem_fpt.2 (.inl rfl))
            · rcases M6 x e with e | e
              · exact HFP _ (mem_fpt.2 (.inr (.inl e)))
              · have := HZ.out
                rw [World.size_alloc] at e
                omega
            · rcases mem_insC.1 hm with rfl | hm
              · exact HZ.out
              · exact HFP _ (mem_fpt.2 (.inr (.inr (.inl ⟨y, hm, rfl⟩))))
            · rcases mem_insC.1 hm with rfl | hm
              · have h1 := B4 x hx2
                have h2 : (World.drew w2).heap.size = w2.heap.size := rfl
                omega
              · exact HFP _ (mem_fpt.2 (.inr (.inr (.inr ⟨y, hm, hx2⟩))))
        case measure => rw [HRG.out.left_eq, hcl.out]; omega
end
end Go.Proofs.YtblggoneifmoeaaDoor
