/-
  disk's sync and remove of one name; Sync and Remove of several.
-/
import Derived.Test.YtblggoneifmoeaaDoorDAppend
namespace Go.Proofs.YtblggoneifmoeaaDoor
open Go.RowKit Go.Maps

section
variable {S : St} {s : ByteArray}
theorem errF_err {r : Nat} (h : errB S [s] = r) (h0 : r ≠ 0) : errF S s = r := by unfold errF; rw [h, if_pos h0]
theorem errF_none (h : errB S [s] = 0) (hg : get S.fs s = none) : errF S s = 7 := by unfold errF; rw [h, if_neg (by omega), if_pos hg]
theorem errF_ok (h : errB S [s] = 0) {f : Fl} (hg : get S.fs s = some f) : errF S s = 0 := by unfold errF; rw [h, if_neg (by omega), if_neg (by rw [hg]; simp)]
theorem syncS_same {r : Nat} (h : errF S s = r) (h0 : r ≠ 0) : syncS S s = S := by unfold syncS; rw [h, if_neg h0]
theorem syncS_ok (h : errF S s = 0) : syncS S s = tick { S with fs := upd S.fs s synced } := by unfold syncS; rw [h, if_pos rfl]
theorem removeS_same {r : Nat} (h : errF S s = r) (h0 : r ≠ 0) : removeS S s = S := by unfold removeS; rw [h, if_neg h0]
theorem removeS_ok (h : errF S s = 0) : removeS S s = tick { S with fs := del S.fs s } := by unfold removeS; rw [h, if_pos rfl]
end
/-- A file in its place, as the list of plain files has it. -/
theorem split_at {w : World} {d room u lf : Nat} {fz : Bool} {mb : Option Nat} {cs : List Fc} {fs : List Fl} {s : ByteArray} {c : Fc} (h : Dk w d room u fz lf mb cs) (h1 : cs.map (·.f) = fs) (hc : findC cs s = some c) :
    ∃ P Q, cs = P ++ c :: Q ∧ get fs s = some c.f ∧ (∀ g, upd fs s g = P.map (·.f) ++ g c.f :: Q.map (·.f)) ∧ fs = P.map (·.f) ++ c.f :: Q.map (·.f) := by
  obtain ⟨hm, hn⟩ := findC_some hc
  obtain ⟨P, Q, rfl⟩ := List.append_of_mem hm
  have hg := findC_get h1 s
  rw [hc] at hg
  have hr := h.good.rise
  rw [h1] at hr
  have hsp : fs = P.map (·.f) ++ c.f :: Q.map (·.f) := by rw [← h1]; simp
  exact ⟨P, Q, rfl, hg, fun g => by rw [← hn]; exact upd_split hsp hr g, hsp⟩

section
variable {w : World} {d : Nat} {F : List Nat} {S : St}
set_option maxRecDepth 100000 in
theorem sync_any (h : Disk w d F S) (s : ByteArray) : Calls Tryd.prog 63 #[.pointer (some ⟨d, 0, none⟩), .string s] w (Did d F (syncS S s) (.int .i64 (errF S s : Nat)) w) := by
  have hD1 := Lib.hid h
  obtain ⟨lf, mb, cs, hk, h1, h2, h3, rfl⟩ := h
  have he := errB_errD h2 [s]
  by_cases h0 : errD S.fuse.isSome lf [s] = 0
  · rw [h0] at he
    have hlf := (errD_one h0).2.2
    cases hc : findC cs s with
    | none =>
      have hg := findC_get h1 s
      rw [hc] at hg
      have e1 := errF_none he hg
      rw [e1, syncS_same e1 (by omega)]
      have HF := Lib.hid (find_none hk s h0 hc)
      clear hk h1 h2 h3 he h0 hlf hc hg e1
      go_enter Tryd.func63, Tryd.ntmps63
      go_wp2_with (go_at_call 32; refine HF.out.mono ?_; rintro e w1 ⟨rfl, O1⟩)
      go_ret
      exact did_same rfl hD1.out O1
    | some c =>
      obtain ⟨P, Q, rfl, hg, hup, hfs⟩ := split_at hk h1 hc
      have e1 := errF_ok he hg
      rw [e1, syncS_ok e1]
      have HF := Lib.hid (find_hit hk s h0 hc)
      have hmem : ∀ x : Fc, x ∈ P ++ x :: Q := fun x => by simp
      have hus : used (upd S.fs s synced) = used S.fs := by
        rw [hup synced]
        conv => rhs; rw [hfs]
        rw [used_append, used_append]; simp [used, synced]
      have HUS := Lib.hid hus
      have HUP := Lib.hid (hup synced)
      have HK := Lib.hid hk
      have HI := Lib.hid (And.intro h2 (And.intro h3 hlf))
      clear hk h1 h2 h3 he h0 hlf hc hg e1 hup hfs hus
      go_enter Tryd.func63, Tryd.ntmps63
      go_wp2_with (first
        | (go_at_call 32; refine HF.out.mono ?_; rintro e w1 ⟨rfl, O1⟩; have D1 := HK.out.keep O1; obtain ⟨e0, e1⟩ := D1.fcell (hmem _); have g1 := (D1.file _ (hmem _)).1.free 1; have D2 := D1.setLasts c.f.data.length (Nat.le_refl _))
        | (go_at_call 33; refine (done_any D2 HI.out.2.2).mono ?_; rintro e w3 ⟨rfl, D3, O3⟩))
      go_ret
      refine did_mk rfl D3 rfl HUS.out (tick_some _) ?_ (tick_fuse HI.out.1) HI.out.2.1 (((O1.mono (fun _ hx => by cases hx)).setCell (.inl (mem_fpt.2 (.inr (.inr (.inl ⟨c, hmem c, rfl⟩))))) _).trans O3 (fun x hx => by simp at hx; subst hx; exact .inl (mem_fpt.2 (.inl rfl)))) (fpt_swap (fun x hx => .inl hx) rfl (fun x hx => .inl (mem_fpt.2 (.inr (.inr (.inr ⟨c, hmem c, hx⟩))))))
      rw [tick_fs]
      show _ = upd S.fs s synced
      rw [HUP.out]
      simp [synced]
  · obtain ⟨r, hrr⟩ : ∃ r, r = errD S.fuse.isSome lf [s] := ⟨_, rfl⟩
    rw [← hrr] at he h0
    have e1 := errF_err he h0
    rw [e1, syncS_same e1 h0]
    have HF := Lib.hid (find_err hk s hrr.symm h0)
    have hrb : ((r : Int) != 0) = true := by rw [bne_iff_ne]; omega
    clear hrr he e1 hk h1 h2 h3 h0
    go_enter Tryd.func63, Tryd.ntmps63
    go_wp2_with (go_at_call 32; refine HF.out.mono ?_; rintro e w1 ⟨rfl, O1⟩)
    go_ret
    exact did_same rfl hD1.out O1

theorem fpt_del {mb : Option Nat} {cs : List Fc} (s : ByteArray) : ∀ x ∈ fpt d mb (delC cs s), x ∈ fpt d mb cs := by
  intro x hx
  have hsub : ∀ c ∈ delC cs s, c ∈ cs := fun c hc => (List.mem_filter.1 hc).1
  rcases mem_fpt.1 hx with rfl | e | ⟨c, hm, rfl⟩ | ⟨c, hm, hx⟩
  · exact mem_fpt.2 (.inl rfl)
  · exact mem_fpt.2 (.inr (.inl e))
  · exact mem_fpt.2 (.inr (.inr (.inl ⟨c, hsub c hm, rfl⟩)))
  · exact mem_fpt.2 (.inr (.inr (.inr ⟨c, hsub c hm, hx⟩)))

set_option maxRecDepth 100000 in
theorem remove_any (h : Disk w d F S) (s : ByteArray) : Calls Tryd.prog 50 #[.pointer (some ⟨d, 0, none⟩), .string s] w (Did d F (removeS S s) (.int .i64 (errF S s : Nat)) w) := by
  have hD1 := Lib.hid h
  obtain ⟨lf, mb, cs, hk, h1, h2, h3, rfl⟩ := h
  have he := errB_errD h2 [s]
  by_cases h0 : errD S.fuse.isSome lf [s] = 0
  · rw [h0] at he
    obtain ⟨_, hs64, hlf⟩ := errD_one h0
    cases hc : findC cs s with
    | none =>
      have hg := findC_get h1 s
      rw [hc] at hg
      have e1 := errF_none he hg
      rw [e1, removeS_same e1 (by omega)]
      have HF := Lib.hid (find_none hk s h0 hc)
      clear hk h1 h2 h3 he h0 hlf hc hg e1
      go_enter Tryd.func50, Tryd.ntmps50
      go_wp2_with (go_at_call 32; refine HF.out.mono ?_; rintro e w1 ⟨rfl, O1⟩)
      go_ret
      exact did_same rfl hD1.out O1
    | some c =>
      have hg := findC_get h1 s
      rw [hc] at hg
      have e1 := errF_ok he hg
      rw [e1, removeS_ok e1]
      have HF := Lib.hid (find_hit hk s h0 hc)
      have hr := hk.good.rise
      rw [h1] at hr
      have hus := used_del hr hg
      dsimp only at hus
      have hle : c.f.data.length ≤ used S.fs := used_le (get_some hg).1
      have HUS : Hid (used (del S.fs s) = used S.fs - c.f.data.length) := by show _ = _; omega
      have HDR := Lib.hid (fun (w1 : World) (O1 : Only [] w w1) => drop_hit (hk.keep O1) s hs64 hc hle)
      have HI := Lib.hid (And.intro h2 (And.intro h3 (And.intro hlf h1)))
      clear hk h1 h2 h3 he h0 hlf hc hg e1 hus hle hr
      go_enter Tryd.func50, Tryd.ntmps50
      go_wp2_with (first
        | (go_at_call 32; refine HF.out.mono ?_; rintro e w1 ⟨rfl, O1⟩)
        | (go_at_call 67; refine (HDR.out w1 O1).mono ?_; rintro e w2 ⟨rfl, D2, O2⟩)
        | (go_at_call 33; refine (done_any D2 HI.out.2.2.1).mono ?_; rintro e w3 ⟨rfl, D3, O3⟩))
      go_ret
      refine did_mk rfl D3 rfl HUS.out (tick_some _) ?_ (tick_fuse HI.out.1) (by have := HI.out.2.1; omega) (((O1.mono (fun _ hx => by cases hx)).trans O2 (fun x hx => .inl (dmb_sub x hx))).trans O3 (fun x hx => by simp at hx; subst hx; exact .inl (mem_fpt.2 (.inl rfl)))) (fun x hx => .inl (fpt_del s x hx))
      rw [map_delC, HI.out.2.2.2]
      rfl
  · obtain ⟨r, hrr⟩ : ∃ r, r = errD S.fuse.isSome lf [s] := ⟨_, rfl⟩
    rw [← hrr] at he h0
    have e1 := errF_err he h0
    rw [e1, removeS_same e1 h0]
    have HF := Lib.hid (find_err hk s hrr.symm h0)
    have hrb : ((r : Int) != 0) = true := by rw [bne_iff_ne]; omega
    clear hrr he e1 hk h1 h2 h3 h0
    go_enter Tryd.func50, Tryd.ntmps50
    go_wp2_with (go_at_call 32; refine HF.out.mono ?_; rintro e w1 ⟨rfl, O1⟩)
    go_ret
    exact did_same rfl hD1.out O1

theorem eachE_cons {err : St → ByteArray → Nat} {next : St → ByteArray → St} {S : St} {s : ByteArray} {r : List ByteArray} (h : err S s = 0) : eachE err next S (s :: r) = eachE err next (next S s) r := by simp [eachE, h]
theorem eachS_cons {err : St → ByteArray → Nat} {next : St → ByteArray → St} {S : St} {s : ByteArray} {r : List ByteArray} (h : err S s = 0) : eachS err next S (s :: r) = eachS err next (next S s) r := by simp [eachS, h]
theorem eachE_stop {err : St → ByteArray → Nat} {next : St → ByteArray → St} {S : St} {s : ByteArray} {r : List ByteArray} (h : err S s ≠ 0) : eachE err next S (s :: r) = err S s := by simp [eachE, h]
theorem eachS_stop {err : St → ByteArray → Nat} {next : St → ByteArray → St} {S : St} {s : ByteArray} {r : List ByteArray} (h : err S s ≠ 0) : eachS err next S (s :: r) = S := by simp [eachS, h]

set_option maxRecDepth 100000 in
theorem each_sync (h : Disk w d F S) (A : Option Addr) (n c : Nat) (ss : List ByteArray) (hs : Sl w A n (ss.map Value.string)) (hA : ∀ ad, A = some ad → ad.block ∉ F) (hn : n ≤ 4611686018427387904) :
    Calls Tryd.prog 49 #[.pointer (some ⟨d, 0, none⟩), .slice A n c, .func (.func 63) #[.pointer (some ⟨d, 0, none⟩)] #[]] w (Did d F (eachS errF syncS S ss) (.int .i64 (eachE errF syncS S ss : Nat)) w) := by
  have hl : ss.length = n := by simpa using hs.len
  obtain ⟨E, hE⟩ : ∃ E, E = eachE errF syncS S ss := ⟨_, rfl⟩
  obtain ⟨T, hT⟩ : ∃ T, T = eachS errF syncS S ss := ⟨_, rfl⟩
  rw [← hE, ← hT]
  have hE0 : Hid (E = eachE errF syncS S (ss.drop 0)) := hE
  have hT0 : Hid (T = eachS errF syncS S (ss.drop 0)) := hT
  have HA := Lib.hid hA
  clear hE hT hA
  go_enter Tryd.func49, Tryd.ntmps49
  go_wp2
  go_loopw [14] (fun i wr => ∃ (k : Nat) (F' : List Nat) (S' : St), k ≤ n ∧ i = .int .i64 k ∧ Disk wr d F' S' ∧ Only F w wr ∧ (∀ x ∈ F', x ∈ F ∨ w.heap.size ≤ x) ∧ Hid (E = eachE errF syncS S' (ss.drop k)) ∧ Hid (T = eachS errF syncS S' (ss.drop k))) (fun i _ => n - (intOf i).toNat)
  case atStart => exact ⟨0, F, S, Nat.zero_le _, rfl, h, (Only.refl [] _).mono (fun _ hx => by cases hx), fun x hx => .inl hx, hE0, hT0⟩
  case round =>
    obtain ⟨k, F', S', hk, rfl, D1, HO, HB, HE, HT⟩ := hrel
    by_cases hlt : k < n
    · have hs1 := hs.only HO HA.out
      obtain ⟨ad, v, rfl, hv, hcell⟩ := hs1.at_ hlt
      have hkl : k < ss.length := by omega
      obtain ⟨s, hsd⟩ : ∃ s, s = ss[k]'hkl := ⟨_, rfl⟩
      have hv' : v = .string s := by
        rw [List.getElem?_map, List.getElem?_eq_getElem hkl] at hv
        rw [hsd]
        simpa using hv.symm
      subst hv'
      have hdr : ss.drop k = s :: ss.drop (k + 1) := by rw [List.drop_eq_getElem_cons hkl, hsd]
      have HC := Lib.hid (sync_any D1 s)
      by_cases h0 : errF S' s = 0
      · have HE' : Hid (E = eachE errF syncS (syncS S' s) (ss.drop (k + 1))) := by show E = _; rw [HE.out, hdr, eachE_cons h0]
        have HT' : Hid (T = eachS errF syncS (syncS S' s) (ss.drop (k + 1))) := by show T = _; rw [HT.out, hdr, eachS_cons h0]
        rw [h0] at HC
        clear hv hsd hdr h0
        go_wp2_with (go_at_call 63; refine HC.out.mono ?_; rintro e w2 ⟨rfl, F2, D2, O2, B2⟩)
        go_roundw
        case rel => exact ⟨k + 1, F2, syncS S' s, by omega, by go_num, D2, HO.trans O2 HB, fun x hx => by
          rcases B2 x hx with h | h
          · exact HB x h
          · have := HO.size
            exact .inr (by omega), HE', HT'⟩
        case measure => simp [intOf]; omega
      · obtain ⟨r, hr⟩ : ∃ r, r = errF S' s := ⟨_, rfl⟩
        have HE' : Hid (E = r) := by show E = _; rw [HE.out, hdr, eachE_stop h0, hr]
        have HT' : Hid (T = S') := by show T = _; rw [HT.out, hdr, eachS_stop h0]
        have HS' : Hid (syncS S' s = S') := syncS_same hr.symm (by rw [hr]; exact h0)
        rw [← hr] at HC h0
        have hrb : ((r : Int) != 0) = true := by rw [bne_iff_ne]; omega
        clear hv hsd hdr h0 hr
        go_wp2_with (go_at_call 63; refine HC.out.mono ?_; rintro e w2 ⟨rfl, F2, D2, O2, B2⟩)
        go_ret
        refine ⟨by rw [HE'.out]; rfl, F2, ?_, HO.trans O2 HB, fun x hx => ?_⟩
        · rw [HT'.out, ← HS'.out]; exact D2
        · rcases B2 x hx with h | h
          · exact HB x h
          · have := HO.size
            exact .inr (by omega)
    · have HE' : Hid (E = 0) := by show E = 0; rw [HE.out, List.drop_of_length_le (by omega)]; rfl
      have HT' : Hid (T = S') := by show T = S'; rw [HT.out, List.drop_of_length_le (by omega)]; rfl
      go_wp2
      go_ret
      exact ⟨by rw [HE'.out]; rfl, F', by rw [HT'.out]; exact D1, HO, HB⟩

theorem Sync_any (h : Disk w d F S) (A : Option Addr) (n c : Nat) (ss : List ByteArray) (hs : Sl w A n (ss.map Value.string)) (hA : ∀ ad, A = some ad → ad.block ∉ F) (hn : n ≤ 4611686018427387904) :
    Calls Tryd.prog 42 #[.pointer (some ⟨d, 0, none⟩), .slice A n c] w (Did d F (eachS errF syncS S ss) (.int .i64 (eachE errF syncS S ss : Nat)) w) := by
  have HE := Lib.hid (each_sync h A n c ss hs hA hn)
  clear h hs hA
  go_enter Tryd.func42, Tryd.ntmps42
  go_wp2_with (go_at_call 49; refine HE.out.mono ?_; rintro e w1 ⟨rfl, HD⟩)
  go_ret
  exact ⟨rfl, HD⟩
theorem Sync_nil (w : World) (A : Option Addr) (n c : Nat) : Calls Tryd.prog 42 #[.pointer none, .slice A n c] w fun e w' => e = .returned (.int .i64 1) ∧ Only [] w w' := by
  have HE : Hid (∀ v, Calls Tryd.prog 49 #[.pointer none, .slice A n c, v] w fun e w' => e = .returned (.int .i64 1) ∧ w = w') := by
    intro v
    go_enter Tryd.func49, Tryd.ntmps49
    go_wp2
    go_ret
    exact ⟨rfl, rfl⟩
  go_enter Tryd.func42, Tryd.ntmps42
  go_wp2_with (go_at_call 49; refine (HE.out _).mono ?_; rintro e w1 ⟨rfl, rfl⟩)
  go_ret
  exact ⟨rfl, Only.refl _ _⟩

set_option maxRecDepth 100000 in
theorem each_remove (h : Disk w d F S) (A : Option Addr) (n c : Nat) (ss : List ByteArray) (hs : Sl w A n (ss.map Value.string)) (hA : ∀ ad, A = some ad → ad.block ∉ F) (hn : n ≤ 4611686018427387904) :
    Calls Tryd.prog 49 #[.pointer (some ⟨d, 0, none⟩), .slice A n c, .func (.func 50) #[.pointer (some ⟨d, 0, none⟩)] #[]] w (Did d F (eachS errF removeS S ss) (.int .i64 (eachE errF removeS S ss : Nat)) w) := by
  have hl : ss.length = n := by simpa using hs.len
  obtain ⟨E, hE⟩ : ∃ E, E = eachE errF removeS S ss := ⟨_, rfl⟩
  obtain ⟨T, hT⟩ : ∃ T, T = eachS errF removeS S ss := ⟨_, rfl⟩
  rw [← hE, ← hT]
  have hE0 : Hid (E = eachE errF removeS S (ss.drop 0)) := hE
  have hT0 : Hid (T = eachS errF removeS S (ss.drop 0)) := hT
  have HA := Lib.hid hA
  clear hE hT hA
  go_enter Tryd.func49, Tryd.ntmps49
  go_wp2
  go_loopw [14] (fun i wr => ∃ (k : Nat) (F' : List Nat) (S' : St), k ≤ n ∧ i = .int .i64 k ∧ Disk wr d F' S' ∧ Only F w wr ∧ (∀ x ∈ F', x ∈ F ∨ w.heap.size ≤ x) ∧ Hid (E = eachE errF removeS S' (ss.drop k)) ∧ Hid (T = eachS errF removeS S' (ss.drop k))) (fun i _ => n - (intOf i).toNat)
  case atStart => exact ⟨0, F, S, Nat.zero_le _, rfl, h, (Only.refl [] _).mono (fun _ hx => by cases hx), fun x hx => .inl hx, hE0, hT0⟩
  case round =>
    obtain ⟨k, F', S', hk, rfl, D1, HO, HB, HE, HT⟩ := hrel
    by_cases hlt : k < n
    · have hs1 := hs.only HO HA.out
      obtain ⟨ad, v, rfl, hv, hcell⟩ := hs1.at_ hlt
      have hkl : k < ss.length := by omega
      obtain ⟨s, hsd⟩ : ∃ s, s = ss[k]'hkl := ⟨_, rfl⟩
      have hv' : v = .string s := by
        rw [List.getElem?_map, List.getElem?_eq_getElem hkl] at hv
        rw [hsd]
        simpa using hv.symm
      subst hv'
      have hdr : ss.drop k = s :: ss.drop (k + 1) := by rw [List.drop_eq_getElem_cons hkl, hsd]
      have HC := Lib.hid (remove_any D1 s)
      by_cases h0 : errF S' s = 0
      · have HE' : Hid (E = eachE errF removeS (removeS S' s) (ss.drop (k + 1))) := by show E = _; rw [HE.out, hdr, eachE_cons h0]
        have HT' : Hid (T = eachS errF removeS (removeS S' s) (ss.drop (k + 1))) := by show T = _; rw [HT.out, hdr, eachS_cons h0]
        rw [h0] at HC
        clear hv hsd hdr h0
        go_wp2_with (go_at_call 50; refine HC.out.mono ?_; rintro e w2 ⟨rfl, F2, D2, O2, B2⟩)
        go_roundw
        case rel => exact ⟨k + 1, F2, removeS S' s, by omega, by go_num, D2, HO.trans O2 HB, fun x hx => by
          rcases B2 x hx with h | h
          · exact HB x h
          · have := HO.size
            exact .inr (by omega), HE', HT'⟩
        case measure => simp [intOf]; omega
      · obtain ⟨r, hr⟩ : ∃ r, r = errF S' s := ⟨_, rfl⟩
        have HE' : Hid (E = r) := by show E = _; rw [HE.out, hdr, eachE_stop h0, hr]
        have HT' : Hid (T = S') := by show T = _; rw [HT.out, hdr, eachS_stop h0]
        have HS' : Hid (removeS S' s = S') := removeS_same hr.symm (by rw [hr]; exact h0)
        rw [← hr] at HC h0
        have hrb : ((r : Int) != 0) = true := by rw [bne_iff_ne]; omega
        clear hv hsd hdr h0 hr
        go_wp2_with (go_at_call 50; refine HC.out.mono ?_; rintro e w2 ⟨rfl, F2, D2, O2, B2⟩)
        go_ret
        refine ⟨by rw [HE'.out]; rfl, F2, ?_, HO.trans O2 HB, fun x hx => ?_⟩
        · rw [HT'.out, ← HS'.out]; exact D2
        · rcases B2 x hx with h | h
          · exact HB x h
          · have := HO.size
            exact .inr (by omega)
    · have HE' : Hid (E = 0) := by show E = 0; rw [HE.out, List.drop_of_length_le (by omega)]; rfl
      have HT' : Hid (T = S') := by show T = S'; rw [HT.out, List.drop_of_length_le (by omega)]; rfl
      go_wp2
      go_ret
      exact ⟨by rw [HE'.out]; rfl, F', by rw [HT'.out]; exact D1, HO, HB⟩

theorem Remove_any (h : Disk w d F S) (A : Option Addr) (n c : Nat) (ss : List ByteArray) (hs : Sl w A n (ss.map Value.string)) (hA : ∀ ad, A = some ad → ad.block ∉ F) (hn : n ≤ 4611686018427387904) :
    Calls Tryd.prog 34 #[.pointer (some ⟨d, 0, none⟩), .slice A n c] w (Did d F (eachS errF removeS S ss) (.int .i64 (eachE errF removeS S ss : Nat)) w) := by
  have HE := Lib.hid (each_remove h A n c ss hs hA hn)
  clear h hs hA
  go_enter Tryd.func34, Tryd.ntmps34
  go_wp2_with (go_at_call 49; refine HE.out.mono ?_; rintro e w1 ⟨rfl, HD⟩)
  go_ret
  exact ⟨rfl, HD⟩
theorem Remove_nil (w : World) (A : Option Addr) (n c : Nat) : Calls Tryd.prog 34 #[.pointer none, .slice A n c] w fun e w' => e = .returned (.int .i64 1) ∧ Only [] w w' := by
  have HE : Hid (∀ v, Calls Tryd.prog 49 #[.pointer none, .slice A n c, v] w fun e w' => e = .returned (.int .i64 1) ∧ w = w') := by
    intro v
    go_enter Tryd.func49, Tryd.ntmps49
    go_wp2
    go_ret
    exact ⟨rfl, rfl⟩
  go_enter Tryd.func34, Tryd.ntmps34
  go_wp2_with (go_at_call 49; refine (HE.out _).mono ?_; rintro e w1 ⟨rfl, rfl⟩)
  go_ret
  exact ⟨rfl, Only.refl _ _⟩
end
end Go.Proofs.YtblggoneifmoeaaDoor
