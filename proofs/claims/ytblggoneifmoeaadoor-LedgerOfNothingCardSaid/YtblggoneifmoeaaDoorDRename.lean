/-
  disk's Rename.
-/
import Derived.Test.YtblggoneifmoeaaDoorDMove
namespace Go.Proofs.YtblggoneifmoeaaDoor
open Go.RowKit Go.Maps

section
variable {S : St} {a b : ByteArray}
theorem errR_err {r : Nat} (h : errB S [a, b] = r) (h0 : r ≠ 0) : errR S a b = r := by unfold errR; rw [h, if_pos h0]
theorem errR_none (h : errB S [a, b] = 0) (hg : get S.fs a = none) : errR S a b = 7 := by unfold errR; rw [h, if_neg (by omega), if_pos hg]
theorem errR_ok (h : errB S [a, b] = 0) {f : Fl} (hg : get S.fs a = some f) : errR S a b = 0 := by unfold errR; rw [h, if_neg (by omega), if_neg (by rw [hg]; simp)]
theorem renameS_same {r : Nat} (h : errR S a b = r) (h0 : r ≠ 0) : renameS S a b = S := by unfold renameS; rw [h, if_neg h0]
theorem renameS_ok (h : errR S a b = 0) : renameS S a b = tick { S with fs := moved S.fs a b } := by unfold renameS; rw [h, if_pos rfl]
theorem moved_self (fs : List Fl) (a : ByteArray) : moved fs a a = fs := by unfold moved; split <;> simp
theorem moved_other {fs : List Fl} {f : Fl} (hg : get fs a = some f) (hn : a ≠ b) : moved fs a b = ins { f with name := b } (del (del fs b) a) := by unfold moved; rw [hg]; simp [hn]
end
theorem sl_names (w : World) (a b : ByteArray) : Sl (w.alloc (.cells #[.string a, .string b] 9)) (some ⟨w.heap.size, 0, none⟩) 2 ([a, b].map Value.string) := Sl.of_new w #[.string a, .string b] _ _
theorem errD_two {fz : Bool} {lf : Nat} {a b : ByteArray} (h : errD fz lf [a, b] = 0) : errD fz lf [a] = 0 ∧ b.size ≤ 64 := by
  unfold errD at h ⊢
  split at h
  · cases h
  · rename_i hn
    rw [if_neg hn]
    split at h
    · rename_i ha
      simp [okName] at ha ⊢
      omega
    · cases h

/-- How many bytes a file has, if it is there. -/
def lenOf : Option Fc → Nat
  | none => 0
  | some c => c.f.data.length
section
variable {w w' : World} {d room u lf : Nat} {fz : Bool} {mb : Option Nat} {cs : List Fc} {c c' : Fc}
theorem delC_none {s : ByteArray} (h : findC cs s = none) : delC cs s = cs := by
  unfold delC
  rw [List.filter_eq_self]
  intro x hx
  have := findC_none.1 h x hx
  simp [this]
theorem drop_any (h : Dk w d room u fz lf mb cs) (s : ByteArray) (hs : s.size ≤ 64) (hu : lenOf (findC cs s) ≤ u) :
    Calls Tryd.prog 67 #[.pointer (some ⟨d, 0, none⟩), .string s] w fun e w' => e = .returned (.tuple #[]) ∧ Dk w' d room (u - lenOf (findC cs s)) fz lf mb (delC cs s) ∧ Only (d :: mb.toList) w w' := by
  cases hc : findC cs s with
  | none =>
    refine (drop_none h s hs hc).mono ?_
    rintro e w1 ⟨rfl, rfl⟩
    rw [delC_none hc]
    exact ⟨rfl, h, (Only.refl [] _).mono (fun _ hx => by cases hx)⟩
  | some c =>
    rw [hc] at hu
    exact drop_hit h s hs hc hu
theorem blk_inj (h : Dk w d room u fz lf mb cs) (hc : c ∈ cs) (hc' : c' ∈ cs) (e : c.blk = c'.blk) : c = c' := by
  obtain ⟨P, Q, rfl⟩ := List.append_of_mem hc
  have := h.nb
  rw [List.map_append, List.map_cons] at this
  have hp := (List.perm_middle.nodup_iff).1 this
  rw [List.nodup_cons, ← List.map_append] at hp
  rcases List.mem_append.1 hc' with h1 | h1
  · exact absurd (by rw [e]; exact List.mem_map_of_mem (List.mem_append_left _ h1)) hp.1
  · rcases List.mem_cons.1 h1 with h1 | h1
    · exact h1.symm
    · exact absurd (by rw [e]; exact List.mem_map_of_mem (List.mem_append_right _ h1)) hp.1
theorem row_inj (h : Dk w d room u fz lf mb cs) (hc : c ∈ cs) (hc' : c' ∈ cs) {x : Nat} (h1 : x ∈ blks c.A) (h2 : x ∈ blks c'.A) : c = c' := by
  obtain ⟨P, Q, rfl⟩ := List.append_of_mem hc
  have := h.na
  rw [List.flatMap_append, List.flatMap_cons, List.nodup_append, List.nodup_append] at this
  obtain ⟨_, ⟨_, _, h4⟩, h5⟩ := this
  rcases List.mem_append.1 hc' with hm | hm
  · exact absurd rfl (h5 x (List.mem_flatMap.2 ⟨c', hm, h2⟩) x (by simp [h1]))
  · rcases List.mem_cons.1 hm with hm | hm
    · exact hm.symm
    · exact absurd rfl (h4 x h1 x (List.mem_flatMap.2 ⟨c', hm, h2⟩))
end

section
variable {w : World} {d : Nat} {F : List Nat} {S : St}
theorem rename_nil (w : World) (a b : ByteArray) : Calls Tryd.prog 47 #[.pointer none, .string a, .string b] w fun e w' => e = .returned (.int .i64 1) ∧ Only [] w w' := by
  have HB := begin_nil (w.alloc (.cells #[.string a, .string b] 9)) (some ⟨w.heap.size, 0, none⟩) 2 2
  go_enter Tryd.func47, Tryd.ntmps47
  go_wp2_with (go_at_call 48; refine HB.mono ?_; rintro e w1 ⟨rfl, rfl⟩)
  go_ret
  exact ⟨rfl, (Only.refl _ _).alloc _⟩

set_option maxRecDepth 100000 in
set_option maxHeartbeats 1000000 in
theorem rename_any (h : Disk w d F S) (a b : ByteArray) : Calls Tryd.prog 47 #[.pointer (some ⟨d, 0, none⟩), .string a, .string b] w (Did d F (renameS S a b) (.int .i64 (errR S a b : Nat)) w) := by
  have hD1 := Lib.hid h
  obtain ⟨lf, mb, cs, hk, h1, h2, h3, rfl⟩ := h
  have he := errB_errD h2 [a, b]
  have hk1 := hk.keep ((Only.refl [] w).alloc (.cells #[.string a, .string b] 9))
  have HB := begin_any hk1 (some ⟨w.heap.size, 0, none⟩) 2 2 [a, b] (sl_names w a b) (by omega)
  have O1 : Only [] w (w.alloc (.cells #[.string a, .string b] 9)) := (Only.refl [] w).alloc _
  by_cases h0 : errD S.fuse.isSome lf [a, b] = 0
  · rw [h0] at he HB
    obtain ⟨h0a, hb64⟩ := errD_two h0
    obtain ⟨_, _, hlf⟩ := errD_one h0a
    have HBB := Lib.hid HB
    cases hc : findC cs a with
    | none =>
      have hg := findC_get h1 a
      rw [hc] at hg
      have e1 := errR_none (b := b) he hg
      rw [e1, renameS_same e1 (by omega)]
      have HF := Lib.hid (find_none hk1 a h0a hc)
      clear HB hk hk1 h1 h2 h3 he h0 h0a hlf hc hg e1
      go_enter Tryd.func47, Tryd.ntmps47
      go_wp2_with (first
        | (go_at_call 48; refine HBB.out.mono ?_; rintro e w1 ⟨rfl, rfl⟩)
        | (go_at_call 32; refine HF.out.mono ?_; rintro e w2 ⟨rfl, O2⟩))
      go_ret
      exact did_same rfl hD1.out (O1.then O2)
    | some c =>
      have hg := findC_get h1 a
      rw [hc] at hg
      have e1 := errR_ok (b := b) he hg
      rw [e1, renameS_ok e1]
      have HF := Lib.hid (find_hit hk1 a h0a hc)
      have hmem := (findC_some hc).1
      have hcn := (findC_some hc).2
      have HI := Lib.hid (And.intro h1 (And.intro h2 (And.intro h3 hlf)))
      have HK1 := Lib.hid hk1
      by_cases hab : a = b
      · subst hab
        rw [moved_self]
        have hq : (a.toList == a.toList) = true := by simp
        clear HB hk hk1 h1 h2 h3 he h0 h0a hlf hc hg e1 hb64
        go_enter Tryd.func47, Tryd.ntmps47
        go_wp2_with (first
          | (go_at_call 48; refine HBB.out.mono ?_; rintro e w1 ⟨rfl, rfl⟩)
          | (go_at_call 32; refine HF.out.mono ?_; rintro e w2 ⟨rfl, O2⟩)
          | (go_at_call 33; refine (done_any (HK1.out.keep O2) HI.out.2.2.2).mono ?_; rintro e w3 ⟨rfl, D3, O3⟩))
        go_ret
        exact did_mk rfl D3 rfl rfl (tick_some _) HI.out.1 (tick_fuse HI.out.2.1) HI.out.2.2.1 (((O1.then O2).mono (fun _ hx => by cases hx)).trans O3 (fun x hx => by simp at hx; subst hx; exact .inl (mem_fpt.2 (.inl rfl)))) (fun x hx => .inl hx)
      · have hq : (a.toList == b.toList) = false := by rw [name_eq]; simpa using hab
        cases mb with
        | none =>
          have : cs = [] := hk.map
          subst this
          cases hc
        | some m =>
          rw [moved_other hg hab]
          have hgb := findC_get h1 b
          have hr := hk.good.rise
          rw [h1] at hr
          have hlb : lenOf (findC cs b) ≤ used S.fs := by
            cases hb : findC cs b with
            | none => exact Nat.zero_le _
            | some cb =>
              rw [hb] at hgb
              exact used_le (get_some hgb).1
          have hub : used (del S.fs b) + lenOf (findC cs b) = used S.fs := by
            cases hb : findC cs b with
            | none =>
              rw [hb] at hgb
              rw [del_none hgb]
              rfl
            | some cb =>
              rw [hb] at hgb
              exact used_del hr hgb
          have hrb2 : (del S.fs b).Pairwise (fun f g => bef f.name g.name = true) := hr.filter _
          have hga : get (del S.fs b) a = some c.f := by
            have hmd : c.f ∈ del S.fs b := mem_del.2 ⟨(get_some hg).1, by rw [hcn]; exact hab⟩
            have := get_of_mem hrb2 hmd
            rwa [hcn] at this
          have huf : used (ins { c.f with name := b } (del (del S.fs b) a)) = used S.fs - lenOf (findC cs b) := by
            have := used_del hrb2 hga
            rw [used_ins]
            dsimp only
            omega
          have HUF := Lib.hid huf
          have hfile := hk1.file c hmem
          have hcd := hk1.d_blk hmem
          have hcm := hk1.m_blk rfl hmem
          have hrd := hk1.d_row hmem
          have hrm := hk1.m_row rfl hmem
          have hkey := key_of a (by have := (errD_one h0a).2.1; unfold maxLen; omega)
          have HDR := Lib.hid (fun (w2 : World) (O2 : Only [] _ w2) => drop_any (hk1.keep O2) b hb64 hlb)
          have hsub : ∀ x ∈ delC (delC cs b) a, x ∈ cs ∧ x ≠ c := fun x hx => by
            have hx1 := List.mem_filter.1 hx
            have hx2 := List.mem_filter.1 hx1.1
            refine ⟨hx2.1, ?_⟩
            rintro rfl
            have := hx1.2
            simp [hcn] at this
          have hnb : c.blk ∉ (delC (delC cs b) a).map (·.blk) := fun hm => by
            obtain ⟨x, hx, e⟩ := List.mem_map.1 hm
            exact (hsub x hx).2 (blk_inj hk1 (hsub x hx).1 hmem e)
          have hna : ∀ x ∈ blks c.A, x ∉ (delC (delC cs b) a).flatMap fun c => blks c.A := fun x hx hm => by
            obtain ⟨y, hy, hxy⟩ := List.mem_flatMap.1 hm
            exact (hsub y hy).2 (row_inj hk1 (hsub y hy).1 hmem hxy hx)
          have hfn : findC (delC (delC cs b) a) b = none := findC_none.2 fun x hx => by
            have hx1 := List.mem_filter.1 hx
            have hx2 := List.mem_filter.1 hx1.1
            have := hx2.2
            simpa using this
          have hlen : (delC (delC cs b) a).length < 4096 := by
            have l1 : (delC (delC cs b) a).length ≤ (delC cs a).length := by
              unfold delC
              rw [List.filter_filter]
              rw [← List.countP_eq_length_filter, ← List.countP_eq_length_filter]
              exact List.countP_mono_left fun x _ hx => by simp at hx; simp [hx.1]
            have l2 : (delC cs a).length < cs.length := by
              unfold delC
              have := List.length_filter_lt_length_iff_exists (p := fun c : Fc => !decide (c.f.name = a)) (l := cs)
              exact this.2 ⟨c, hmem, by simp [hcn]⟩
            have := hk1.good.len
            rw [List.length_map] at this
            omega
          have HPUT := Lib.hid (fun (w4 : World) (hD : Dk w4 d S.room (used S.fs - lenOf (findC cs b)) S.fuse.isSome lf (some m) (delC (delC cs b) a)) (hF : FileIs w4 c) =>
            put_any hD (c := { f := { c.f with name := b }, blk := c.blk, A := c.A, cap := c.cap }) hF hfn hnb hna hlen hb64 (hk1.lasts (c := c) hmem) (hk1.big c hmem))
          dsimp only at HPUT
          have HZ := Lib.hid (And.intro hfile (And.intro hcd (And.intro hcm (And.intro hrd hrm))))
          clear HB hk hk1 h1 h2 h3 he h0 h0a hlf hc hg e1 hgb hr hlb hub hrb2 hga huf hfile hcd hcm hrd hrm hnb hna hfn hlen hab
          go_enter Tryd.func47, Tryd.ntmps47
          go_wp2_with (first
            | (go_at_call 48; refine HBB.out.mono ?_; rintro e w1 ⟨rfl, rfl⟩)
            | (go_at_call 32; refine HF.out.mono ?_; rintro e w2 ⟨rfl, O2⟩)
            | (go_at_call 67; refine (HDR.out w2 O2).mono ?_; rintro e w3 ⟨rfl, D3, O3⟩; obtain ⟨_, _, c23, _, _⟩ := D3.cell; have hm3 : w3.ownsMap Tryd.prog 9 ptrElem m (delC cs b).length (Dm (delC cs b)) := D3.map)
            | (at_delete; refine wpList_delete_own _ rfl _ _ 51 9 rfl 62 keyed Tryd.underlying51 ptrElem m (delC cs b).length (Dm (delC cs b)) rfl hm3 _ (keyLit a) rfl hkey ?_; intro w4 hown4 hturn4; have D4 := D3.dropFile a hown4 hturn4)
            | (go_at_call 62; refine (HPUT.out w4 D4 (((HZ.out.1.only O2 (fun hm => by cases hm) (fun _ _ hm => by cases hm)).only O3 (fun hm => by simp at hm; rcases hm with e | e; exact HZ.out.2.1 e; exact HZ.out.2.2.1 e) (fun x hx hm => by simp at hm; rcases hm with e | e; exact HZ.out.2.2.2.1 (e ▸ hx); exact HZ.out.2.2.2.2 (e ▸ hx))).only (Only.of_turned hturn4) (fun hm => by simp at hm; exact HZ.out.2.2.1 hm) (fun x hx hm => by simp at hm; exact HZ.out.2.2.2.2 (hm ▸ hx)))).mono ?_; rintro e w5 ⟨rfl, mb5, D5, O5, M5⟩)
            | (go_at_call 33; refine (done_any D5 HI.out.2.2.2).mono ?_; rintro e w6 ⟨rfl, D6, O6⟩))
          go_ret
          have hdm : ∀ x ∈ d :: (some m).toList, x ∈ fpt d (some m) cs := dmb_sub
          have OA : Only (fpt d (some m) cs) w w3 := (((O1.then O2).mono (fun _ hx => by cases hx)).trans O3 (fun x hx => .inl (hdm x hx)))
          have OB : Only (fpt d (some m) cs) w w4 := OA.trans (Only.of_turned hturn4) (fun x hx => .inl (hdm x (by simp at hx; simp [hx])))
          have OC : Only (fpt d (some m) cs) w w5 := OB.trans O5 (fun x hx => .inl (hdm x hx))
          refine did_mk rfl D6 rfl HUF.out (tick_some _) ?_ (tick_fuse HI.out.2.1) (by have := HI.out.2.2.1; omega) (OC.trans O6 (fun x hx => by simp at hx; subst hx; exact .inl (mem_fpt.2 (.inl rfl)))) (fun x hx => ?_)
          · rw [tick_fs, map_insC, map_delC, map_delC, HI.out.1]
          · rcases mem_fpt.1 hx with rfl | e | ⟨y, hm, rfl⟩ | ⟨y, hm, hx2⟩
            · exact .inl (mem_fpt.2 (.inl rfl))
            · rcases M5 x e with e | e
              · exact .inl (mem_fpt.2 (.inr (.inl e)))
              · have := OB.size
                exact .inr (by omega)
            · rcases mem_insC.1 hm with rfl | hm
              · exact .inl (mem_fpt.2 (.inr (.inr (.inl ⟨c, hmem, rfl⟩))))
              · exact .inl (mem_fpt.2 (.inr (.inr (.inl ⟨y, (hsub y hm).1, rfl⟩))))
            · rcases mem_insC.1 hm with rfl | hm
              · exact .inl (mem_fpt.2 (.inr (.inr (.inr ⟨c, hmem, hx2⟩))))
              · exact .inl (mem_fpt.2 (.inr (.inr (.inr ⟨y, (hsub y hm).1, hx2⟩))))
  · obtain ⟨r, hrr⟩ : ∃ r, r = errD S.fuse.isSome lf [a, b] := ⟨_, rfl⟩
    rw [← hrr] at he HB h0
    have e1 := errR_err he h0
    rw [e1, renameS_same e1 h0]
    have hrb : ((r : Int) != 0) = true := by rw [bne_iff_ne]; omega
    clear hrr he e1 hk hk1 h1 h2 h3 h0
    go_enter Tryd.func47, Tryd.ntmps47
    go_wp2_with (go_at_call 48; refine HB.mono ?_; rintro e w1 ⟨rfl, rfl⟩)
    go_ret
    exact did_same rfl hD1.out O1
end
end Go.Proofs.YtblggoneifmoeaaDoor
