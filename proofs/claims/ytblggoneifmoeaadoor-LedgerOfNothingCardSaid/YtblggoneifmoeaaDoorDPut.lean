/-
  disk's drop and put: a file goes out of the map, a file comes in.
-/
import Derived.Test.YtblggoneifmoeaaDoorDCut
import Derived.Carry
import Derived.Deep.RegionHeld3
namespace Go.Proofs.YtblggoneifmoeaaDoor
open Go.RowKit Go.Maps

section
variable {w : World} {d room u lf : Nat} {fz : Bool} {mb : Option Nat} {cs : List Fc}

set_option maxRecDepth 100000 in
theorem drop_none (h : Dk w d room u fz lf mb cs) (s : ByteArray) (hs : s.size ≤ 64) (hc : findC cs s = none) :
    Calls Tryd.prog 67 #[.pointer (some ⟨d, 0, none⟩), .string s] w fun e w' => e = .returned (.tuple #[]) ∧ w = w' := by
  have hl := look_none h.map (by unfold maxLen; omega) hc
  obtain ⟨_, _, c2, _, _⟩ := h.cell
  clear h hc
  go_enter Tryd.func67, Tryd.ntmps67
  go_wp2
  go_end0
  exact ⟨rfl, rfl⟩

set_option maxRecDepth 100000 in
theorem drop_hit (h : Dk w d room u fz lf mb cs) (s : ByteArray) (hs : s.size ≤ 64) {c : Fc} (hc : findC cs s = some c) (hu : c.f.data.length ≤ u) :
    Calls Tryd.prog 67 #[.pointer (some ⟨d, 0, none⟩), .string s] w fun e w' => e = .returned (.tuple #[]) ∧ Dk w' d room (u - c.f.data.length) fz lf mb (delC cs s) ∧ Only (d :: mb.toList) w w' := by
  have hm := (findC_some hc).1
  cases mb with
  | none =>
    have : cs = [] := h.map
    subst this
    cases hc
  | some m =>
    have hl := look_hit h.map (by unfold maxLen; omega) hc
    obtain ⟨_, c1, c2, _, _⟩ := h.cell
    obtain ⟨e0, _⟩ := h.fcell hm
    have f1 := h.bk.free 1
    have hdb := h.d_blk hm
    have hbig := h.big _ hm
    have hb9 := h.u'
    have hmd : m ≠ d := h.d_map rfl
    obtain ⟨a, ha⟩ : ∃ a, a = c.f.data.length := ⟨_, rfl⟩
    rw [← ha] at e0 hbig hu ⊢
    obtain ⟨u2, hu2⟩ : ∃ u2 : Nat, u2 = u - a := ⟨_, rfl⟩
    rw [← hu2]
    have HU : Hid ((u : Int) - (a : Int) = (u2 : Int)) := by show _ = _; omega
    have h1 := (h.setUsed u2 (by omega)).drew
    have O1 : Only [d] w (w.setCell ⟨d, 1, none⟩ (.int .i64 u2)).drew := ((Only.refl _ _).setCell (.inl (by simp)) _).drew
    generalize c.blk = b at *
    have hkey := key_of s (by unfold maxLen; omega)
    clear ha hu2 h hc hm
    go_enter Tryd.func67, Tryd.ntmps67
    go_wp2
    go_region
    rw [HU.out]
    generalize (w.setCell ⟨d, 1, none⟩ (.int .i64 u2)).drew = w1 at h1 O1 ⊢
    obtain ⟨_, _, c2', _, _⟩ := h1.cell
    have hmap : w1.ownsMap Tryd.prog 9 ptrElem m cs.length (Dm cs) := h1.map
    go_wp2_with (at_delete; refine wpList_delete_own _ rfl _ _ 51 9 rfl 62 keyed Tryd.underlying51 ptrElem m cs.length (Dm cs) rfl hmap _ (keyLit s) rfl hkey ?_; intro w2 hown2 hturn2)
    go_end0
    exact ⟨rfl, h1.dropFile s hown2 hturn2, (O1.mono (fun x hx => .inl (by simp at hx; simp [hx]))).trans (Only.of_turned hturn2) (fun x hx => .inl (by simp at hx; simp [hx]))⟩

theorem equalIn_map (W : World) (k : Nat) (mb : Option Nat) : (Op.equalIn (k + 1) 51 (.map mb) (.map none)).run Tryd.prog W = .ok mb.isNone W := by
  cases mb <;> simp [Op.equalIn, run_underlying Tryd.underlying51]
theorem eql_map (W : World) (mb : Option Nat) : (binOp .eql 51 (.map mb) (.map none)).run Tryd.prog W = .ok (.bool mb.isNone) W := by
  simp only [binOp]
  simp [Op.equal, Op.maxDepth, equalIn_map W 9999 mb]

set_option maxRecDepth 100000 in
theorem put_any (h : Dk w d room u fz lf mb cs) {c : Fc} (hf : FileIs w c) (hn : findC cs c.f.name = none) (h1 : c.blk ∉ cs.map (·.blk)) (h2 : ∀ x ∈ blks c.A, x ∉ cs.flatMap fun c => blks c.A) (hlen : cs.length < 4096) (hs : c.f.name.size ≤ 64)
    (hl : c.f.lasts ≤ c.f.data.length) (hbig : c.f.data.length ≤ 1073741824) :
    Calls Tryd.prog 62 #[.pointer (some ⟨d, 0, none⟩), .string c.f.name, .pointer (some ⟨c.blk, 0, none⟩)] w fun e w' => e = .returned (.tuple #[]) ∧
      ∃ mb', Dk w' d room u fz lf mb' (insC c cs) ∧ Only (d :: mb.toList) w w' ∧ ∀ m, mb' = some m → mb = some m ∨ w.heap.size ≤ m := by
  have hmm := @run_makeMap Tryd.prog
  have hq0 : ∀ W, (binOp .eql 51 (.map none) (.map none)).run Tryd.prog W = .ok (.bool true) W := fun W => eql_map W none
  have hq1 : ∀ W m, (binOp .eql 51 (.map (some m)) (.map none)).run Tryd.prog W = .ok (.bool false) W := fun W m => eql_map W (some m)
  have hkey := key_of c.f.name (by unfold maxLen; omega)
  obtain ⟨_, _, c2, _, _⟩ := h.cell
  have f2 := h.bk.free 2
  have hdz := h.bk.lt
  obtain ⟨s, hsn⟩ : ∃ s, s = c.f.name := ⟨_, rfl⟩
  obtain ⟨b, hb⟩ : ∃ b, b = c.blk := ⟨_, rfl⟩
  rw [← hsn] at hs hkey ⊢
  rw [← hb]
  have HS := Lib.hid hsn
  have HB := Lib.hid hb
  clear hsn hb
  cases mb with
  | none =>
    have hcs : cs = [] := h.map
    subst hcs
    have H1 : Dk ((w.setCell ⟨d, 2, none⟩ (.map (some w.heap.size))).alloc (.map #[] 0)) d room u fz lf (some w.heap.size) [] := by
      have := (h.keep ((Only.refl [] w).alloc (.map #[] 0))).setD 2 (.map (some w.heap.size)) (mb' := some w.heap.size) rfl (World.ownsMap_made w _ _ _) h.room' h.u' h.lf'
      rwa [World.setCell_alloc_past _ _ _ _ hdz] at this
    have O1 : Only [d] w ((w.setCell ⟨d, 2, none⟩ (.map (some w.heap.size))).alloc (.map #[] 0)) := ((Only.refl _ _).setCell (.inl (by simp)) _).alloc _
    have hf1 : FileIs ((w.setCell ⟨d, 2, none⟩ (.map (some w.heap.size))).alloc (.map #[] 0)) c := hf.only O1 (by simpa using hf.1.ne h.bk (by decide)) (fun x hx hm => by
      simp only [List.mem_singleton] at hm
      subst hm
      exact hf.2.ne h.bk (by decide) hx)
    clear h hf
    go_enter Tryd.func62, Tryd.ntmps62
    go_wp2
    generalize hW : (w.setCell ⟨d, 2, none⟩ (.map (some w.heap.size))).alloc (.map #[] 0) = w1 at *
    generalize hG : w.heap.size = g at *
    have HGE : Hid (w.heap.size ≤ g) := by show _ ≤ _; omega
    clear hW hG c2 f2 hdz
    have HCL := Lib.hid (fun W => sclone_any s W (by omega))
    have HST := Lib.hid (fun (W : World) (hm : W.ownsMap Tryd.prog 9 ptrElem g 0 (Dm [])) => World.ownsMap.store hm keyed Tryd.underlying51 (by decide) hkey (ptrElem_some b))
    obtain ⟨_, _, c2, _, _⟩ := H1.cell
    have HH1 := Lib.hid H1
    have HF1 := Lib.hid hf1
    clear H1 hf1
    go_region_held3 (fun w' => w'.cell? ⟨d, 2, none⟩ = some (.map (some g))) (first | go_keep | exact c22 | exact c33)
      ((go_at_call 76; refine (HCL.out _).mono ?_; rintro e w2 ⟨rfl, O2⟩; have H2 := HH1.out.drew.keep O2; obtain ⟨_, _, c22, _, _⟩ := H2.cell; obtain ⟨w3, hrun, own3, turn3⟩ := HST.out _ H2.map; have c33 := (Only.of_turned turn3).cellSome c22 (by simpa using (H2.d_map rfl).symm)))
    go_wp2
    go_end0
    refine ⟨rfl, some g, ?_, ((O1.drew.then O2).trans (Only.of_turned turn3) (fun x hx => by simp at hx; subst hx; exact .inr HGE.out)).mono (fun x hx => .inl (by simpa using hx)), fun m' e => .inr (by injection e with e; have := HGE.out; omega)⟩
    rw [HS.out, HB.out] at own3
    exact H2.addFile hn own3 turn3 ((HF1.out.only (((Only.refl [] _).drew).then O2) (by simp) (fun _ _ hm => by cases hm))) h1 h2 hlen (by rw [← HS.out]; exact hs) hl hbig
  | some m =>
    have hf1 := hf
    have H1 := h
    clear h hf
    go_enter Tryd.func62, Tryd.ntmps62
    go_wp2
    have HCL := Lib.hid (fun W => sclone_any s W (by omega))
    have HST := Lib.hid (fun (W : World) (hm : W.ownsMap Tryd.prog 9 ptrElem m cs.length (Dm cs)) => World.ownsMap.store hm keyed Tryd.underlying51 (by unfold maxLen; omega) hkey (ptrElem_some b))
    have HH1 := Lib.hid H1
    have HF1 := Lib.hid hf1
    clear H1 hf1 hq0 hq1 hmm
    go_region_held3 (fun w' => w'.cell? ⟨d, 2, none⟩ = some (.map (some m))) (first | go_keep | exact c22 | exact c33)
      ((go_at_call 76; refine (HCL.out _).mono ?_; rintro e w2 ⟨rfl, O2⟩; have H2 := HH1.out.drew.keep O2; obtain ⟨_, _, c22, _, _⟩ := H2.cell; obtain ⟨w3, hrun, own3, turn3⟩ := HST.out _ H2.map; have c33 := (Only.of_turned turn3).cellSome c22 (by simpa using (H2.d_map rfl).symm)))
    go_wp2
    go_end0
    refine ⟨rfl, some m, ?_, (((Only.refl [] _).drew.then O2).mono (ss := d :: [m]) (fun x hx => by cases hx)).trans (Only.of_turned turn3) (fun x hx => .inl (by simp at hx; simp [hx])), fun m' e => .inl e⟩
    rw [HS.out, HB.out] at own3
    exact H2.addFile hn own3 turn3 ((HF1.out.only (((Only.refl [] _).drew).then O2) (by simp) (fun _ _ hm => by cases hm))) h1 h2 hlen (by rw [← HS.out]; exact hs) hl hbig
end
end Go.Proofs.YtblggoneifmoeaaDoor
