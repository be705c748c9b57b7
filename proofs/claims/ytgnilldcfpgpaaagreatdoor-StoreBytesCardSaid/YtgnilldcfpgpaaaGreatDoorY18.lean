/-
  Texts of the seat, laid one behind the other: DEach DMove DRange DCrash DOne KSave JMath.
-/
import Derived.Test.YtgnilldcfpgpaaaGreatDoorY17
import Derived.Maps.RangeWalk
import Derived.Lib.SmallJoins
import Derived.Test.YtgnilldcfpgpaaaGreatDoorRows
import Derived.Test.YtgnilldcfpgpaaaGreatDoorY4
import Derived.WalkKit
import Derived.Deep.QuietTactic
import Derived.BigQuiet
import Derived.Test.YtgnilldcfpgpaaaGreatDoorY16
namespace Go.Proofs.YtgnilldcfpgpaaaGreatDoor
open Go.RowKit Go.Maps
section
variable {S : Dst} {s : ByteArray}
theorem errF_err {r : Nat} (h : errB S [s] = r) (h0 : r ≠ 0) : errF S s = r := by unfold errF; rw [h, if_pos h0]
theorem errF_none (h : errB S [s] = 0) (hg : get S.fs s = none) : errF S s = 7 := by unfold errF; rw [h, if_neg (by omega), if_pos hg]
theorem errF_ok (h : errB S [s] = 0) {f : Fl} (hg : get S.fs s = some f) : errF S s = 0 := by unfold errF; rw [h, if_neg (by omega), if_neg (by rw [hg]; simp)]
theorem syncS_same {r : Nat} (h : errF S s = r) (h0 : r ≠ 0) : syncS S s = S := by unfold syncS; rw [h, if_neg h0]
theorem syncS_ok (h : errF S s = 0) : syncS S s = tick { S with fs := upd S.fs s synced } := by unfold syncS; rw [h, if_pos rfl]
theorem removeS_same {r : Nat} (h : errF S s = r) (h0 : r ≠ 0) : removeS S s = S := by unfold removeS; rw [h, if_neg h0]
theorem removeS_ok (h : errF S s = 0) : removeS S s = tick { S with fs := del S.fs s } := by unfold removeS; rw [h, if_pos rfl]
end
theorem split_at {w : World} {d room u lf : Nat} {fz : Bool} {mb : Option Nat} {cs : List Fc} {fs : List Fl} {s : ByteArray} {c : Fc} (h : Dk w d room u fz lf mb cs) (h1 : cs.map (·.f) = fs) (hc : findC cs s = some c) :
    ∃ P Q, cs = P ++ c :: Q ∧ get fs s = some c.f ∧ (∀ g, upd fs s g = P.map (·.f) ++ g c.f :: Q.map (·.f)) ∧ fs = P.map (·.f) ++ c.f :: Q.map (·.f) := by
  obtain ⟨hm, hn⟩ := findC_some hc
  obtain ⟨P, Q, rfl⟩ := List.append_of_mem hm
  have hg := findC_get h1 s
  rw [hc] at hg
  have hr := h.good.rise
  rw [h1] at hr
  have hsp : fs = P.map (·.f) ++ c.f :: Q.map (·.f) := by rw [← h1]; simp
  exact ⟨P, Q, rfl, hg, fun g => by rw [← hn]; exact upd_split hsp hr g, hsp⟩
section
variable {w : World} {d : Nat} {F : List Nat} {S : Dst}
set_option maxRecDepth 100000 in
theorem sync_any (h : Disk w d F S) (s : ByteArray) : Calls Tryz.prog 207 #[.pointer (some ⟨d, 0, none⟩), .string s] w (Did d F (syncS S s) (.int .i64 (errF S s : Nat)) w) := by
  have hD1 := Lib.hid h
  obtain ⟨lf, mb, cs, hk, h1, h2, h3, rfl⟩ := h
  have he := errB_errD h2 [s]
  by_cases h0 : errD S.fuse.isSome lf [s] = 0
  · rw [h0] at he
    have hlf := (errD_one h0).2.2
    cases hc : findC cs s with
    | none =>
      have hg := findC_get h1 s
      rw [hc] at hg
      have e1 := errF_none he hg
      rw [e1, syncS_same e1 (by omega)]
      have HF := Lib.hid (find_none hk s h0 hc)
      clear hk h1 h2 h3 he h0 hlf hc hg e1
      go_enter Tryz.func207, Tryz.ntmps207
      go_wp2_with (go_at_call 231; refine HF.out.mono ?_; rintro e w1 ⟨rfl, O1⟩)
      go_ret
      exact did_same rfl hD1.out O1
    | some c =>
      obtain ⟨P, Q, rfl, hg, hup, hfs⟩ := split_at hk h1 hc
      have e1 := errF_ok he hg
      rw [e1, syncS_ok e1]
      have HF := Lib.hid (find_hit hk s h0 hc)
      have hmem : ∀ x : Fc, x ∈ P ++ x :: Q := fun x => by simp
      have hus : used (upd S.fs s synced) = used S.fs := by
        rw [hup synced]
        conv => rhs; rw [hfs]
        rw [used_append, used_append]; simp [used, synced]
      have HUS := Lib.hid hus
      have HUP := Lib.hid (hup synced)
      have HK := Lib.hid hk
      have HI := Lib.hid (And.intro h2 (And.intro h3 hlf))
      clear hk h1 h2 h3 he h0 hlf hc hg e1 hup hfs hus
      go_enter Tryz.func207, Tryz.ntmps207
      go_wp2_with (first
        | (go_at_call 231; refine HF.out.mono ?_; rintro e w1 ⟨rfl, O1⟩; have D1 := HK.out.keep O1; obtain ⟨e0, e1⟩ := D1.fcell (hmem _); have g1 := (D1.file _ (hmem _)).1.free 1; have D2 := D1.setLasts c.f.data.length (Nat.le_refl _))
        | (go_at_call 205; refine (done_any D2 HI.out.2.2).mono ?_; rintro e w3 ⟨rfl, D3, O3⟩))
      go_ret
      refine did_mk rfl D3 rfl HUS.out (tick_some _) ?_ (tick_fuse HI.out.1) HI.out.2.1 (((O1.mono (fun _ hx => by cases hx)).setCell (.inl (mem_fpt.2 (.inr (.inr (.inl ⟨c, hmem c, rfl⟩))))) _).trans O3 (fun x hx => by simp at hx; subst hx; exact .inl (mem_fpt.2 (.inl rfl)))) (fpt_swap (fun x hx => .inl hx) rfl (fun x hx => .inl (mem_fpt.2 (.inr (.inr (.inr ⟨c, hmem c, hx⟩))))))
      rw [tick_fs]
      show _ = upd S.fs s synced
      rw [HUP.out]
      simp [synced]
  · obtain ⟨r, hrr⟩ : ∃ r, r = errD S.fuse.isSome lf [s] := ⟨_, rfl⟩
    rw [← hrr] at he h0
    have e1 := errF_err he h0
    rw [e1, syncS_same e1 h0]
    have HF := Lib.hid (find_err hk s hrr.symm h0)
    have hrb : ((r : Int) != 0) = true := by rw [bne_iff_ne]; omega
    clear hrr he e1 hk h1 h2 h3 h0
    go_enter Tryz.func207, Tryz.ntmps207
    go_wp2_with (go_at_call 231; refine HF.out.mono ?_; rintro e w1 ⟨rfl, O1⟩)
    go_ret
    exact did_same rfl hD1.out O1
theorem fpt_del {mb : Option Nat} {cs : List Fc} (s : ByteArray) : ∀ x ∈ fpt d mb (delC cs s), x ∈ fpt d mb cs := by
  intro x hx
  have hsub : ∀ c ∈ delC cs s, c ∈ cs := fun c hc => (List.mem_filter.1 hc).1
  rcases mem_fpt.1 hx with rfl | e | ⟨c, hm, rfl⟩ | ⟨c, hm, hx⟩
  · exact mem_fpt.2 (.inl rfl)
  · exact mem_fpt.2 (.inr (.inl e))
  · exact mem_fpt.2 (.inr (.inr (.inl ⟨c, hsub c hm, rfl⟩)))
  · exact mem_fpt.2 (.inr (.inr (.inr ⟨c, hsub c hm, hx⟩)))
set_option maxRecDepth 100000 in
theorem remove_any (h : Disk w d F S) (s : ByteArray) : Calls Tryz.prog 213 #[.pointer (some ⟨d, 0, none⟩), .string s] w (Did d F (removeS S s) (.int .i64 (errF S s : Nat)) w) := by
  have hD1 := Lib.hid h
  obtain ⟨lf, mb, cs, hk, h1, h2, h3, rfl⟩ := h
  have he := errB_errD h2 [s]
  by_cases h0 : errD S.fuse.isSome lf [s] = 0
  · rw [h0] at he
    obtain ⟨_, hs64, hlf⟩ := errD_one h0
    cases hc : findC cs s with
    | none =>
      have hg := findC_get h1 s
      rw [hc] at hg
      have e1 := errF_none he hg
      rw [e1, removeS_same e1 (by omega)]
      have HF := Lib.hid (find_none hk s h0 hc)
      clear hk h1 h2 h3 he h0 hlf hc hg e1
      go_enter Tryz.func213, Tryz.ntmps213
      go_wp2_with (go_at_call 231; refine HF.out.mono ?_; rintro e w1 ⟨rfl, O1⟩)
      go_ret
      exact did_same rfl hD1.out O1
    | some c =>
      have hg := findC_get h1 s
      rw [hc] at hg
      have e1 := errF_ok he hg
      rw [e1, removeS_ok e1]
      have HF := Lib.hid (find_hit hk s h0 hc)
      have hr := hk.good.rise
      rw [h1] at hr
      have hus := used_del hr hg
      dsimp only at hus
      have hle : c.f.data.length ≤ used S.fs := used_le (get_some hg).1
      have HUS : Hid (used (del S.fs s) = used S.fs - c.f.data.length) := by show _ = _; omega
      have HDR := Lib.hid (fun (w1 : World) (O1 : Only [] w w1) => drop_hit (hk.keep O1) s hs64 hc hle)
      have HI := Lib.hid (And.intro h2 (And.intro h3 (And.intro hlf h1)))
      clear hk h1 h2 h3 he h0 hlf hc hg e1 hus hle hr
      go_enter Tryz.func213, Tryz.ntmps213
      go_wp2_with (first
        | (go_at_call 231; refine HF.out.mono ?_; rintro e w1 ⟨rfl, O1⟩)
        | (go_at_call 232; refine (HDR.out w1 O1).mono ?_; rintro e w2 ⟨rfl, D2, O2⟩)
        | (go_at_call 205; refine (done_any D2 HI.out.2.2.1).mono ?_; rintro e w3 ⟨rfl, D3, O3⟩))
      go_ret
      refine did_mk rfl D3 rfl HUS.out (tick_some _) ?_ (tick_fuse HI.out.1) (by have := HI.out.2.1; omega) (((O1.mono (fun _ hx => by cases hx)).trans O2 (fun x hx => .inl (dmb_sub x hx))).trans O3 (fun x hx => by simp at hx; subst hx; exact .inl (mem_fpt.2 (.inl rfl)))) (fun x hx => .inl (fpt_del s x hx))
      rw [map_delC, HI.out.2.2.2]
      rfl
  · obtain ⟨r, hrr⟩ : ∃ r, r = errD S.fuse.isSome lf [s] := ⟨_, rfl⟩
    rw [← hrr] at he h0
    have e1 := errF_err he h0
    rw [e1, removeS_same e1 h0]
    have HF := Lib.hid (find_err hk s hrr.symm h0)
    have hrb : ((r : Int) != 0) = true := by rw [bne_iff_ne]; omega
    clear hrr he e1 hk h1 h2 h3 h0
    go_enter Tryz.func213, Tryz.ntmps213
    go_wp2_with (go_at_call 231; refine HF.out.mono ?_; rintro e w1 ⟨rfl, O1⟩)
    go_ret
    exact did_same rfl hD1.out O1
theorem eachE_cons {err : Dst → ByteArray → Nat} {next : Dst → ByteArray → Dst} {S : Dst} {s : ByteArray} {r : List ByteArray} (h : err S s = 0) : eachE err next S (s :: r) = eachE err next (next S s) r := by simp [eachE, h]
theorem eachS_cons {err : Dst → ByteArray → Nat} {next : Dst → ByteArray → Dst} {S : Dst} {s : ByteArray} {r : List ByteArray} (h : err S s = 0) : eachS err next S (s :: r) = eachS err next (next S s) r := by simp [eachS, h]
theorem eachE_stop {err : Dst → ByteArray → Nat} {next : Dst → ByteArray → Dst} {S : Dst} {s : ByteArray} {r : List ByteArray} (h : err S s ≠ 0) : eachE err next S (s :: r) = err S s := by simp [eachE, h]
theorem eachS_stop {err : Dst → ByteArray → Nat} {next : Dst → ByteArray → Dst} {S : Dst} {s : ByteArray} {r : List ByteArray} (h : err S s ≠ 0) : eachS err next S (s :: r) = S := by simp [eachS, h]
set_option maxRecDepth 100000 in
theorem each_sync (h : Disk w d F S) (A : Option Addr) (n c : Nat) (ss : List ByteArray) (hs : Sl w A n (ss.map Value.string)) (hA : ∀ ad, A = some ad → ad.block ∉ F) (hn : n ≤ 4611686018427387904) :
    Calls Tryz.prog 206 #[.pointer (some ⟨d, 0, none⟩), .slice A n c, .func (.func 207) #[.pointer (some ⟨d, 0, none⟩)] #[]] w (Did d F (eachS errF syncS S ss) (.int .i64 (eachE errF syncS S ss : Nat)) w) := by
  have hl : ss.length = n := by simpa using hs.len
  obtain ⟨E, hE⟩ : ∃ E, E = eachE errF syncS S ss := ⟨_, rfl⟩
  obtain ⟨T, hT⟩ : ∃ T, T = eachS errF syncS S ss := ⟨_, rfl⟩
  rw [← hE, ← hT]
  have hE0 : Hid (E = eachE errF syncS S (ss.drop 0)) := hE
  have hT0 : Hid (T = eachS errF syncS S (ss.drop 0)) := hT
  have HA := Lib.hid hA
  clear hE hT hA
  go_enter Tryz.func206, Tryz.ntmps206
  go_wp2
  go_loopw [14] (fun i wr => ∃ (k : Nat) (F' : List Nat) (S' : Dst), k ≤ n ∧ i = .int .i64 k ∧ Disk wr d F' S' ∧ Only F w wr ∧ (∀ x ∈ F', x ∈ F ∨ w.heap.size ≤ x) ∧ Hid (E = eachE errF syncS S' (ss.drop k)) ∧ Hid (T = eachS errF syncS S' (ss.drop k))) (fun i _ => n - (intOf i).toNat)
  case atStart => exact ⟨0, F, S, Nat.zero_le _, rfl, h, (Only.refl [] _).mono (fun _ hx => by cases hx), fun x hx => .inl hx, hE0, hT0⟩
  case round =>
    obtain ⟨k, F', S', hk, rfl, D1, HO, HB, HE, HT⟩ := hrel
    by_cases hlt : k < n
    · have hs1 := hs.only HO HA.out
      obtain ⟨ad, v, rfl, hv, hcell⟩ := hs1.at_ hlt
      have hkl : k < ss.length := by omega
      obtain ⟨s, hsd⟩ : ∃ s, s = ss[k]'hkl := ⟨_, rfl⟩
      have hv' : v = .string s := by
        rw [List.getElem?_map, List.getElem?_eq_getElem hkl] at hv
        rw [hsd]
        simpa using hv.symm
      subst hv'
      have hdr : ss.drop k = s :: ss.drop (k + 1) := by rw [List.drop_eq_getElem_cons hkl, hsd]
      have HC := Lib.hid (sync_any D1 s)
      by_cases h0 : errF S' s = 0
      · have HE' : Hid (E = eachE errF syncS (syncS S' s) (ss.drop (k + 1))) := by show E = _; rw [HE.out, hdr, eachE_cons h0]
        have HT' : Hid (T = eachS errF syncS (syncS S' s) (ss.drop (k + 1))) := by show T = _; rw [HT.out, hdr, eachS_cons h0]
        rw [h0] at HC
        clear hv hsd hdr h0
        go_wp2_with (go_at_call 207; refine HC.out.mono ?_; rintro e w2 ⟨rfl, F2, D2, O2, B2⟩)
        go_roundw
        case rel => exact ⟨k + 1, F2, syncS S' s, by omega, by go_num, D2, HO.trans O2 HB, fun x hx => by
          rcases B2 x hx with h | h
          · exact HB x h
          · have := HO.size
            exact .inr (by omega), HE', HT'⟩
        case measure => simp [intOf]; omega
      · obtain ⟨r, hr⟩ : ∃ r, r = errF S' s := ⟨_, rfl⟩
        have HE' : Hid (E = r) := by show E = _; rw [HE.out, hdr, eachE_stop h0, hr]
        have HT' : Hid (T = S') := by show T = _; rw [HT.out, hdr, eachS_stop h0]
        have HS' : Hid (syncS S' s = S') := syncS_same hr.symm (by rw [hr]; exact h0)
        rw [← hr] at HC h0
        have hrb : ((r : Int) != 0) = true := by rw [bne_iff_ne]; omega
        clear hv hsd hdr h0 hr
        go_wp2_with (go_at_call 207; refine HC.out.mono ?_; rintro e w2 ⟨rfl, F2, D2, O2, B2⟩)
        go_ret
        refine ⟨by rw [HE'.out]; rfl, F2, ?_, HO.trans O2 HB, fun x hx => ?_⟩
        · rw [HT'.out, ← HS'.out]; exact D2
        · rcases B2 x hx with h | h
          · exact HB x h
          · have := HO.size
            exact .inr (by omega)
    · have HE' : Hid (E = 0) := by show E = 0; rw [HE.out, List.drop_of_length_le (by omega)]; rfl
      have HT' : Hid (T = S') := by show T = S'; rw [HT.out, List.drop_of_length_le (by omega)]; rfl
      go_wp2
      go_ret
      exact ⟨by rw [HE'.out]; rfl, F', by rw [HT'.out]; exact D1, HO, HB⟩
theorem Sync_any (h : Disk w d F S) (A : Option Addr) (n c : Nat) (ss : List ByteArray) (hs : Sl w A n (ss.map Value.string)) (hA : ∀ ad, A = some ad → ad.block ∉ F) (hn : n ≤ 4611686018427387904) :
    Calls Tryz.prog 159 #[.pointer (some ⟨d, 0, none⟩), .slice A n c] w (Did d F (eachS errF syncS S ss) (.int .i64 (eachE errF syncS S ss : Nat)) w) := by
  have HE := Lib.hid (each_sync h A n c ss hs hA hn)
  clear h hs hA
  go_enter Tryz.func159, Tryz.ntmps159
  go_wp2_with (go_at_call 206; refine HE.out.mono ?_; rintro e w1 ⟨rfl, HD⟩)
  go_ret
  exact ⟨rfl, HD⟩
set_option maxRecDepth 100000 in
theorem each_remove (h : Disk w d F S) (A : Option Addr) (n c : Nat) (ss : List ByteArray) (hs : Sl w A n (ss.map Value.string)) (hA : ∀ ad, A = some ad → ad.block ∉ F) (hn : n ≤ 4611686018427387904) :
    Calls Tryz.prog 206 #[.pointer (some ⟨d, 0, none⟩), .slice A n c, .func (.func 213) #[.pointer (some ⟨d, 0, none⟩)] #[]] w (Did d F (eachS errF removeS S ss) (.int .i64 (eachE errF removeS S ss : Nat)) w) := by
  have hl : ss.length = n := by simpa using hs.len
  obtain ⟨E, hE⟩ : ∃ E, E = eachE errF removeS S ss := ⟨_, rfl⟩
  obtain ⟨T, hT⟩ : ∃ T, T = eachS errF removeS S ss := ⟨_, rfl⟩
  rw [← hE, ← hT]
  have hE0 : Hid (E = eachE errF removeS S (ss.drop 0)) := hE
  have hT0 : Hid (T = eachS errF removeS S (ss.drop 0)) := hT
  have HA := Lib.hid hA
  clear hE hT hA
  go_enter Tryz.func206, Tryz.ntmps206
  go_wp2
  go_loopw [14] (fun i wr => ∃ (k : Nat) (F' : List Nat) (S' : Dst), k ≤ n ∧ i = .int .i64 k ∧ Disk wr d F' S' ∧ Only F w wr ∧ (∀ x ∈ F', x ∈ F ∨ w.heap.size ≤ x) ∧ Hid (E = eachE errF removeS S' (ss.drop k)) ∧ Hid (T = eachS errF removeS S' (ss.drop k))) (fun i _ => n - (intOf i).toNat)
  case atStart => exact ⟨0, F, S, Nat.zero_le _, rfl, h, (Only.refl [] _).mono (fun _ hx => by cases hx), fun x hx => .inl hx, hE0, hT0⟩
  case round =>
    obtain ⟨k, F', S', hk, rfl, D1, HO, HB, HE, HT⟩ := hrel
    by_cases hlt : k < n
    · have hs1 := hs.only HO HA.out
      obtain ⟨ad, v, rfl, hv, hcell⟩ := hs1.at_ hlt
      have hkl : k < ss.length := by omega
      obtain ⟨s, hsd⟩ : ∃ s, s = ss[k]'hkl := ⟨_, rfl⟩
      have hv' : v = .string s := by
        rw [List.getElem?_map, List.getElem?_eq_getElem hkl] at hv
        rw [hsd]
        simpa using hv.symm
      subst hv'
      have hdr : ss.drop k = s :: ss.drop (k + 1) := by rw [List.drop_eq_getElem_cons hkl, hsd]
      have HC := Lib.hid (remove_any D1 s)
      by_cases h0 : errF S' s = 0
      · have HE' : Hid (E = eachE errF removeS (removeS S' s) (ss.drop (k + 1))) := by show E = _; rw [HE.out, hdr, eachE_cons h0]
        have HT' : Hid (T = eachS errF removeS (removeS S' s) (ss.drop (k + 1))) := by show T = _; rw [HT.out, hdr, eachS_cons h0]
        rw [h0] at HC
        clear hv hsd hdr h0
        go_wp2_with (go_at_call 213; refine HC.out.mono ?_; rintro e w2 ⟨rfl, F2, D2, O2, B2⟩)
        go_roundw
        case rel => exact ⟨k + 1, F2, removeS S' s, by omega, by go_num, D2, HO.trans O2 HB, fun x hx => by
          rcases B2 x hx with h | h
          · exact HB x h
          · have := HO.size
            exact .inr (by omega), HE', HT'⟩
        case measure => simp [intOf]; omega
      · obtain ⟨r, hr⟩ : ∃ r, r = errF S' s := ⟨_, rfl⟩
        have HE' : Hid (E = r) := by show E = _; rw [HE.out, hdr, eachE_stop h0, hr]
        have HT' : Hid (T = S') := by show T = _; rw [HT.out, hdr, eachS_stop h0]
        have HS' : Hid (removeS S' s = S') := removeS_same hr.symm (by rw [hr]; exact h0)
        rw [← hr] at HC h0
        have hrb : ((r : Int) != 0) = true := by rw [bne_iff_ne]; omega
        clear hv hsd hdr h0 hr
        go_wp2_with (go_at_call 213; refine HC.out.mono ?_; rintro e w2 ⟨rfl, F2, D2, O2, B2⟩)
        go_ret
        refine ⟨by rw [HE'.out]; rfl, F2, ?_, HO.trans O2 HB, fun x hx => ?_⟩
        · rw [HT'.out, ← HS'.out]; exact D2
        · rcases B2 x hx with h | h
          · exact HB x h
          · have := HO.size
            exact .inr (by omega)
    · have HE' : Hid (E = 0) := by show E = 0; rw [HE.out, List.drop_of_length_le (by omega)]; rfl
      have HT' : Hid (T = S') := by show T = S'; rw [HT.out, List.drop_of_length_le (by omega)]; rfl
      go_wp2
      go_ret
      exact ⟨by rw [HE'.out]; rfl, F', by rw [HT'.out]; exact D1, HO, HB⟩
theorem Remove_any (h : Disk w d F S) (A : Option Addr) (n c : Nat) (ss : List ByteArray) (hs : Sl w A n (ss.map Value.string)) (hA : ∀ ad, A = some ad → ad.block ∉ F) (hn : n ≤ 4611686018427387904) :
    Calls Tryz.prog 176 #[.pointer (some ⟨d, 0, none⟩), .slice A n c] w (Did d F (eachS errF removeS S ss) (.int .i64 (eachE errF removeS S ss : Nat)) w) := by
  have HE := Lib.hid (each_remove h A n c ss hs hA hn)
  clear h hs hA
  go_enter Tryz.func176, Tryz.ntmps176
  go_wp2_with (go_at_call 206; refine HE.out.mono ?_; rintro e w1 ⟨rfl, HD⟩)
  go_ret
  exact ⟨rfl, HD⟩
end
end Go.Proofs.YtgnilldcfpgpaaaGreatDoor
namespace Go.Proofs.YtgnilldcfpgpaaaGreatDoor
open Go.RowKit Go.Maps
section
variable {S : Dst} {s : ByteArray} {n : Int}
theorem errT_err {r : Nat} (h : errF S s = r) (h0 : r ≠ 0) : errT S s n = r := by unfold errT; rw [h, if_pos h0]
theorem errT_bad (h : errF S s = 0) {f : Fl} (hg : get S.fs s = some f) (hn : n < 0 ∨ (f.data.length : Int) < n) : errT S s n = 1 := by unfold errT; rw [h, if_neg (by omega), hg]; simp [hn]
theorem errT_ok (h : errF S s = 0) {f : Fl} (hg : get S.fs s = some f) (hn : ¬ (n < 0 ∨ (f.data.length : Int) < n)) : errT S s n = 0 := by unfold errT; rw [h, if_neg (by omega), hg]; simp only [if_neg hn]
theorem truncS_same {r : Nat} (h : errT S s n = r) (h0 : r ≠ 0) : truncS S s n = S := by unfold truncS; rw [h, if_neg h0]
theorem truncS_ok (h : errT S s n = 0) : truncS S s n = tick { S with fs := upd S.fs s (cutF n.toNat) } := by unfold truncS; rw [h, if_pos rfl]
end
section
variable {w : World} {d : Nat} {F : List Nat} {S : Dst}
theorem trunc_nil (w : World) (s : ByteArray) (n : Int) : Calls Tryz.prog 216 #[.pointer none, .string s, .int .i64 n] w fun e w' => e = .returned (.int .i64 1) ∧ Only [] w w' := by
  have HF := Lib.hid (find_nil w s)
  go_enter Tryz.func216, Tryz.ntmps216
  go_wp2_with (go_at_call 231; refine HF.out.mono ?_; rintro e w1 ⟨rfl, O1⟩)
  go_ret
  exact ⟨rfl, O1⟩
set_option maxRecDepth 100000 in
theorem trunc_any (h : Disk w d F S) (s : ByteArray) (n : Int) : Calls Tryz.prog 216 #[.pointer (some ⟨d, 0, none⟩), .string s, .int .i64 n] w (Did d F (truncS S s n) (.int .i64 (errT S s n : Nat)) w) := by
  have hD1 := Lib.hid h
  obtain ⟨lf, mb, cs, hk, h1, h2, h3, rfl⟩ := h
  have he := errB_errD h2 [s]
  by_cases h0 : errD S.fuse.isSome lf [s] = 0
  · rw [h0] at he
    have hlf := (errD_one h0).2.2
    cases hc : findC cs s with
    | none =>
      have hg := findC_get h1 s
      rw [hc] at hg
      have e1 := errT_err (n := n) (errF_none he hg) (by omega)
      rw [e1, truncS_same e1 (by omega)]
      have HF := Lib.hid (find_none hk s h0 hc)
      clear hk h1 h2 h3 he h0 hlf hc hg e1
      go_enter Tryz.func216, Tryz.ntmps216
      go_wp2_with (go_at_call 231; refine HF.out.mono ?_; rintro e w1 ⟨rfl, O1⟩)
      go_ret
      exact did_same rfl hD1.out O1
    | some c =>
      obtain ⟨P, Q, rfl, hg, hup, hfs⟩ := split_at hk h1 hc
      have hmem : ∀ x : Fc, x ∈ P ++ x :: Q := fun x => by simp
      have HF := Lib.hid (find_hit hk s h0 hc)
      by_cases hneg : n < 0
      · have e1 := errT_bad (errF_ok he hg) hg (n := n) (.inl hneg)
        rw [e1, truncS_same e1 (by omega)]
        clear hk h1 h2 h3 he h0 hlf hc hg e1 hup hfs
        go_enter Tryz.func216, Tryz.ntmps216
        go_wp2_with (go_at_call 231; refine HF.out.mono ?_; rintro e w1 ⟨rfl, O1⟩)
        go_ret
        exact did_same rfl hD1.out O1
      · by_cases hbig : (c.f.data.length : Int) < n
        · have e1 := errT_bad (errF_ok he hg) hg (n := n) (.inr hbig)
          rw [e1, truncS_same e1 (by omega)]
          have HK := Lib.hid hk
          clear hk h1 h2 h3 he h0 hlf hc hg e1 hup hfs
          go_enter Tryz.func216, Tryz.ntmps216
          go_wp2_with (go_at_call 231; refine HF.out.mono ?_; rintro e w1 ⟨rfl, O1⟩; obtain ⟨e0, _⟩ := (HK.out.keep O1).fcell (hmem _))
          go_ret
          exact did_same rfl hD1.out O1
        · have e1 := errT_ok (errF_ok he hg) hg (n := n) (by omega)
          rw [e1, truncS_ok e1]
          obtain ⟨k, rfl⟩ : ∃ k : Nat, n = (k : Int) := ⟨n.toNat, by omega⟩
          have hkl : k ≤ c.f.data.length := by omega
          have hle : c.f.data.length ≤ used S.fs := used_le (get_some hg).1
          have hus : used (upd S.fs s (cutF k)) = used S.fs + k - c.f.data.length := by
            rw [hup (cutF k)]
            conv => rhs; rw [hfs]
            rw [used_append, used_append]
            simp only [used, cutF, List.length_take]
            omega
          have HUS := Lib.hid hus
          have HUP := Lib.hid (hup (cutF k))
          have HI := Lib.hid (And.intro h2 (And.intro h3 (And.intro hlf hkl)))
          have HCUT := Lib.hid (fun (w1 : World) (O1 : Only [] w w1) => cut_any (hk.keep O1) k hkl (by omega))
          have HK := Lib.hid hk
          have hkl2 : (k : Int) ≤ (c.f.data.length : Int) := by omega
          clear hk h1 h2 h3 he h0 hlf hc hg e1 hup hfs hus hbig hkl hle
          go_enter Tryz.func216, Tryz.ntmps216
          go_wp2_with (first
            | (go_at_call 231; refine HF.out.mono ?_; rintro e w1 ⟨rfl, O1⟩; obtain ⟨e0, _⟩ := (HK.out.keep O1).fcell (hmem _))
            | (go_at_call 51; refine (HCUT.out w1 O1).mono ?_; rintro e w2 ⟨rfl, A2, c2, D2, O2, B2⟩)
            | (go_at_call 205; refine (done_any D2 HI.out.2.2.1).mono ?_; rintro e w3 ⟨rfl, D3, O3⟩))
          go_ret
          have hin : ∀ x ∈ d :: c.blk :: blks c.A, x ∈ fpt d mb (P ++ c :: Q) := fun x hx => by
            rcases List.mem_cons.1 hx with rfl | hx
            · exact mem_fpt.2 (.inl rfl)
            · rcases List.mem_cons.1 hx with rfl | hx
              · exact mem_fpt.2 (.inr (.inr (.inl ⟨c, hmem c, rfl⟩)))
              · exact mem_fpt.2 (.inr (.inr (.inr ⟨c, hmem c, hx⟩)))
          refine did_mk rfl D3 rfl HUS.out (tick_some _) ?_ (tick_fuse HI.out.1) (by have := HI.out.2.1; have := HI.out.2.2.2; omega) (((O1.mono (fun _ hx => by cases hx)).trans O2 (fun x hx => .inl (hin x hx))).trans O3 (fun x hx => by simp at hx; subst hx; exact .inl (mem_fpt.2 (.inl rfl)))) (fpt_swap (fun x hx => .inl hx) rfl (fun x hx => ?_))
          · rw [tick_fs]
            show _ = upd S.fs s (cutF k)
            rw [HUP.out]
            simp
          · rcases B2 x hx with h | h
            · exact .inl (hin x (by simp [h]))
            · have := O1.size
              exact .inr (by omega)
  · obtain ⟨r, hrr⟩ : ∃ r, r = errD S.fuse.isSome lf [s] := ⟨_, rfl⟩
    rw [← hrr] at he h0
    have e1 := errT_err (n := n) (errF_err he h0) h0
    rw [e1, truncS_same e1 h0]
    have HF := Lib.hid (find_err hk s hrr.symm h0)
    have hrb : ((r : Int) != 0) = true := by rw [bne_iff_ne]; omega
    clear hrr he e1 hk h1 h2 h3 h0
    go_enter Tryz.func216, Tryz.ntmps216
    go_wp2_with (go_at_call 231; refine HF.out.mono ?_; rintro e w1 ⟨rfl, O1⟩)
    go_ret
    exact did_same rfl hD1.out O1
end
end Go.Proofs.YtgnilldcfpgpaaaGreatDoor
namespace Go.Proofs.YtgnilldcfpgpaaaGreatDoor
open Go.RowKit Go.Maps
section
variable {w w' : World} {m r n cnt : Nat} {D : DataW Unit} {left : Lit → Bool} {rs : List Nat}
abbrev Rg (w : World) (m r n : Nat) (D : DataW Unit) (left : Lit → Bool) (cnt : Nat) : Prop := w.ranges Tryz.prog 9 ptrElem m r n D left cnt
theorem ranges_only (h : Rg w m r n D left cnt) (o : Only rs w w') (hm : m ∉ rs) (hr : r ∉ rs) : Rg w' m r n D left cnt := by
  have h1 := h.owns.lt
  have h2 := h.lt
  obtain ⟨es, clock, since, seen, c0, hb, F, hs, hD, hit, rest⟩ := h
  exact ⟨es, clock, since, seen, c0, (o.block m h1 hm).trans hb, F, hs, hD, (o.block r h2 hr).trans hit, rest⟩
theorem iter_ne {g : Nat} {t : TypeId} {xs : Array Value} (h : Rg w m r n D left cnt) (hg : Bk w g t xs) : r ≠ g := by
  rintro rfl
  obtain ⟨es, clock, since, seen, c0, _, _, _, _, hit, _⟩ := h
  unfold Bk at hg
  rw [hit] at hg
  cases hg
theorem iter_own {t : TypeId} {A : Option Addr} {j c : Nat} {xs : List Value} (h : Rg w m r n D left cnt) (hg : Own w t A j c xs) : r ∉ blks A := by
  intro hm
  obtain ⟨cur, hc⟩ := hg.bk hm
  exact iter_ne h hc rfl
theorem iter_fpt {d room u lf : Nat} {fz : Bool} {cs : List Fc} (h : Rg w m r n D left cnt) (hk : Dk w d room u fz lf (some m) cs) : r ∉ fpt d (some m) cs := by
  intro hx
  rcases mem_fpt.1 hx with e | e | ⟨c, hc, e⟩ | ⟨c, hc, hx⟩
  · exact iter_ne h hk.bk e
  · injection e with e
    exact h.ne e.symm
  · exact iter_ne h (hk.file c hc).1 e
  · exact iter_own h (hk.file c hc).2 hx
theorem string_inv {key : Value} {kl : Lit} (h : keyOf Tryz.prog 9 key = some kl) : ∃ s : ByteArray, key = .string s ∧ kl = keyLit s := by
  cases key <;> simp [keyOf, Tryz.underlying9, mapKey] at h
  exact ⟨_, rfl, h.2.symm⟩
theorem wpList_next_disk {ops : Array Oper} {rest : List Oper} {o : Oper} {a : Act} {Q : Exit → Act → World → Prop} {cs : List Fc} (hg : o.guard = none) (it : Operand) (hop : o.op = Op.next it false)
    (hit : a.eval it = .pointer (some ⟨r, 0, none⟩)) (h : Rg w m r n (Dm cs) left cnt)
    (hDone : (∀ kl, left kl = false) → wpList Tryz.prog ops Q rest (a.put o.dst (.tuple #[.bool false])) w)
    (hMore : ∀ (c : Fc) (w' : World) (cnt' : Nat), c ∈ cs → left (keyLit c.f.name) = true → Rg w' m r n (Dm cs) (fun z => left z && !z.sameKey (keyLit c.f.name)) cnt' → cnt' < cnt → Only [r] w w' →
      (Instr.entry (.pointer (some ⟨r, 0, none⟩))).run Tryz.prog w' = .ok (.tuple #[.string c.f.name, .pointer (some ⟨c.blk, 0, none⟩)]) w' → wpList Tryz.prog ops Q rest (a.put o.dst (.tuple #[.bool true, .string c.f.name, .pointer (some ⟨c.blk, 0, none⟩)])) w') :
    wpList Tryz.prog ops Q (o :: rest) a w := by
  refine wpList_plain hg fun K' hK' => ?_
  unfold Oper.wp
  rcases World.ranges.next h keyed o.type with ⟨_, hl, hrun⟩ | ⟨key, v, kl, y, w', cnt', hkey, hlk, hv, hat, hrun, hrg, hlt, hgr, hsz, hen⟩
  · simp [execOp, hop, hit, hrun, Result.andThen]
    exact hK' _ _ (hDone hl)
  · obtain ⟨s, rfl, rfl⟩ := string_inv hkey
    cases hc : findC cs s with
    | none =>
      have e1 := hat .nil
      have e2 := hat (.lit (.bool true))
      rw [atKey_dm, hc] at e1 e2
      dsimp only at e1 e2
      rw [← e1] at e2
      cases e2
    | some c =>
      have e1 := hat .nil
      rw [atKey_dm, hc] at e1
      dsimp only at e1
      obtain ⟨hm, rfl⟩ := findC_some hc
      have hv2 : v = .pointer (some ⟨c.blk, 0, none⟩) := ptrElem_some_inv (ps := y.2) (by rw [hv, e1])
      subst hv2
      simp [execOp, hop, hit, hrun, Result.andThen]
      exact hK' _ _ (hMore c w' cnt' hm hlk hrg hlt (by simpa using Only.of_grown hgr) hen)
end
theorem split_map {cs csx : List Fc} {g : Fc → Fl} {c : Fc} (h1 : csx.map (·.f) = cs.map g) (h2 : csx.map (·.blk) = cs.map (·.blk)) (hc : c ∈ cs) :
    ∃ P Q Px cx Qx, cs = P ++ c :: Q ∧ csx = Px ++ cx :: Qx ∧ cx.f = g c ∧ cx.blk = c.blk ∧ Px.map (·.f) = P.map g ∧ Qx.map (·.f) = Q.map g ∧ Px.map (·.blk) = P.map (·.blk) ∧ Qx.map (·.blk) = Q.map (·.blk) := by
  obtain ⟨P, Q, rfl⟩ := List.append_of_mem hc
  have hl : csx.length = P.length + (Q.length + 1) := by
    have := congrArg List.length h1
    simpa using this
  obtain ⟨cx, Qx, he⟩ : ∃ cx Qx, csx.drop P.length = cx :: Qx := by
    cases hd : csx.drop P.length with
    | nil =>
      have := congrArg List.length hd
      simp at this
      omega
    | cons x r => exact ⟨x, r, rfl⟩
  have hs : csx = csx.take P.length ++ cx :: Qx := by rw [← he]; exact (List.take_append_drop _ _).symm
  have hp : (csx.take P.length).length = P.length := by rw [List.length_take]; omega
  refine ⟨P, Q, csx.take P.length, cx, Qx, rfl, hs, ?_⟩
  rw [hs, List.map_append, List.map_append, List.map_cons, List.map_cons] at h1 h2
  obtain ⟨a1, a2⟩ := List.append_inj h1 (by rw [List.length_map, List.length_map, hp])
  obtain ⟨b1, b2⟩ := List.append_inj h2 (by rw [List.length_map, List.length_map, hp])
  injection a2 with a2 a3
  injection b2 with b2 b3
  exact ⟨a2, b2, a1, a3, b1, b3⟩
end Go.Proofs.YtgnilldcfpgpaaaGreatDoor
namespace Go.Proofs.YtgnilldcfpgpaaaGreatDoor
open Go.RowKit Go.Maps
theorem stay_leD (draw : Int) (f : Fl) (h : f.lasts ≤ f.data.length) : f.lasts ≤ stay draw f ∧ stay draw f ≤ f.data.length := by
  unfold stay
  have := Nat.mod_lt (max draw 0).toNat (show 0 < f.data.length - f.lasts + 1 by omega)
  omega
def half (draw : Int) (left : Lit → Bool) (c : Fc) : Fl := if left (keyLit c.f.name) then c.f else crashF draw c.f
section
variable {w : World} {d : Nat} {F : List Nat} {S : Dst}
set_option maxRecDepth 100000 in
set_option maxHeartbeats 1000000 in
theorem crash_any (h : Disk w d F S) (draw : Int) (hdr : draw ≤ 9223372036854775807) : Calls Tryz.prog 19 #[.pointer (some ⟨d, 0, none⟩), .int .i64 draw] w (Did d F (crashS S draw) (.tuple #[]) w) := by
  obtain ⟨lf, mb, cs, hk, h1, h2, h3, rfl⟩ := h
  obtain ⟨_, _, c2, _, _⟩ := hk.cell
  have hlt := hk.bk.lt
  cases mb with
  | none =>
    have : cs = [] := hk.map
    subst this
    have hrg := run_range_nilMap (P := Tryz.prog) w 110 9 116 Tryz.underlying110
    have hnx : ∀ ty, (Instr.next (.pointer (some ⟨w.heap.size, 0, none⟩)) false ty).run Tryz.prog (w.alloc (.mapIter none 0 #[] 0)) = _ := fun ty => run_next_nilMap w ty 0 0 #[]
    have f3 := hk.bk.free 3
    have O1 : Only [] w (w.alloc (.mapIter none 0 #[] 0)) := (Only.refl _ _).alloc _
    have HK := Lib.hid hk
    have HI := Lib.hid (And.intro h1 (And.intro h2 h3))
    clear hk h1 h2 h3
    go_enter Tryz.func19, Tryz.ntmps19
    go_wp2
    refine wp_loop_rounds 1 ?_
    rw [rounds_succ]
    go_wp2
    go_end0
    have D2 := (HK.out.setFused false).keep ((Only.refl [] _).alloc (.mapIter none 0 #[] 0))
    have hfs : S.fs = [] := HI.out.1.symm
    refine did_mk rfl D2 rfl ?_ rfl ?_ (fun _ h => by cases h) HI.out.2.2 (((Only.refl _ _).setCell (.inl (by simp [fpt])) _).alloc _) (fun x hx => .inl hx)
    · simp [crashS, hfs]
    · simp [crashS, hfs]
  | some m =>
    have hmap : w.ownsMap Tryz.prog 9 ptrElem m cs.length (Dm cs) := hk.map
    go_enter Tryz.func19, Tryz.ntmps19
    go_wp2_with (at_range; refine wpList_range_own _ rfl _ 110 rfl 9 116 keyed Tryz.underlying110 ptrElem m cs.length (Dm cs) rfl hmap ?_; intro w0 hrg0 hg0 hs0)
    go_frame
    have O0 : Only [] w w0 := by simpa using Only.of_grown hg0
    have D0 := hk.keep O0
    obtain ⟨r, hr⟩ : ∃ r, r = w.heap.size := ⟨_, rfl⟩
    rw [← hr] at hrg0 ⊢
    have HR := Lib.hid hr
    have hstart : cs.map (·.f) = cs.map (half draw (has (Dm cs))) := List.map_congr_left fun c hc => by
      have : has (Dm cs) (keyLit c.f.name) = true := List.any_eq_true.2 ⟨ent c, List.mem_map_of_mem hc, by show (keyLit c.f.name).sameKey _ = true; rw [same_key]; simp⟩
      simp [half, this]
    have HS0 : Hid (cs.map (·.f) = cs.map (half draw (has (Dm cs)))) := hstart
    have HU0 : Hid (used S.fs = used (cs.map (·.f))) := by show _ = _; rw [h1]
    have HI := Lib.hid (And.intro h1 (And.intro h2 h3))
    have HK := Lib.hid hk
    clear hg0 hs0 hmap hk hr hstart h1 h2 h3 c2
    go_loopw [14] (fun _ wr => ∃ (left : Lit → Bool) (cnt : Nat) (csx : List Fc) (u : Nat), Rg wr m r cs.length (Dm cs) left cnt ∧ Dk wr d S.room u S.fuse.isSome lf (some m) csx ∧ Hid (csx.map (·.f) = cs.map (half draw left)) ∧ Hid (csx.map (·.blk) = cs.map (·.blk)) ∧
      Hid (u = used (csx.map (·.f))) ∧ u ≤ S.room ∧ Only (fpt d (some m) cs) w wr ∧ ∀ x ∈ fpt d (some m) csx, x ∈ fpt d (some m) cs ∨ w.heap.size ≤ x) (fun _ wr => wr.rangeLeft m r)
    case atStart => exact ⟨_, _, cs, _, hrg0, D0, HS0, rfl, HU0, HI.out.2.2, O0.mono (fun _ hx => by cases hx), fun x hx => .inl hx⟩
    case round =>
      obtain ⟨left, cnt, csx, u, hrg, D1, HF, HB, HU, hur, HO, HFP⟩ := hrel
      go_wp2_with (first
        | (at_next; refine wpList_next_disk rfl _ rfl rfl hrg ?_ ?_))
      · intro hl0
        have f3 := D1.bk.free 3
        obtain ⟨_, _, _, c3, _⟩ := D1.cell
        have D2 := D1.setFused false
        have HD2 := Lib.hid D2
        clear D2 D1 hrg
        have HL0 := Lib.hid hl0
        clear hl0
        go_wp2
        go_end0
        have hfs : csx.map (·.f) = (crashS S draw).fs := by
          rw [HF.out]
          show _ = S.fs.map (crashF draw)
          rw [← HI.out.1, List.map_map]
          exact List.map_congr_left fun c _ => by simp [half, HL0.out]
        exact did_mk rfl HD2.out rfl (by rw [← hfs, ← HU.out]) rfl hfs (fun _ h => by cases h) hur (HO.setCell (.inl (by simp [fpt])) _) HFP
      · intro c w1 cnt1 hc hlk hrg1 hcnt O1 hen
        have hrf := iter_fpt hrg D1
        have hcl := Lib.hid hrg.left_eq
        have D2 := D1.only O1 (fun x hx hm => by simp at hm; subst hm; exact hrf hx)
        obtain ⟨P, Q, Px, cx, Qx, hcs, rfl, hcf, hcb, hp1, hq1, hp2, hq2⟩ := split_map HF.out HB.out hc
        have hhalf : half draw left c = c.f := by simp [half, hlk]
        rw [hhalf] at hcf
        rw [← hcb, ← hcf] at hen
        have hmem : ∀ x : Fc, x ∈ Px ++ x :: Qx := fun x => by simp
        obtain ⟨e0, e1⟩ := D2.fcell (hmem cx)
        have hla := D2.lasts (hmem cx)
        have hbig := D2.big _ (hmem cx)
        have hst := stay_leD draw cx.f hla
        obtain ⟨k, hkd⟩ : ∃ k, k = stay draw cx.f := ⟨_, rfl⟩
        obtain ⟨a, ha⟩ : ∃ a, a = cx.f.data.length := ⟨_, rfl⟩
        obtain ⟨la, hlad⟩ : ∃ la, la = cx.f.lasts := ⟨_, rfl⟩
        rw [← hkd, ← ha, ← hlad] at hst
        rw [← ha] at e0 hla hbig
        rw [← hlad] at e1 hla
        obtain ⟨oth, hoth⟩ : ∃ oth, a = la + oth := ⟨a - la, by omega⟩
        obtain ⟨dr, hdrd⟩ : ∃ dr : Nat, max draw 0 = (dr : Int) := ⟨(max draw 0).toNat, by omega⟩
        have hkv : k = la + dr % (oth + 1) := by
          rw [hkd]
          unfold stay
          rw [hdrd, ← ha, ← hlad]
          simp only [Int.toNat_natCast]
          congr 2
          omega
        have x1 : IntKind.i64.wrap ((a : Int) - (la : Int)) = (oth : Int) := by rw [IntWalk.i64_in _ (by omega)]; omega
        have b1 : (oth : Int) ≤ 1073741824 := by omega
        have HX := Lib.hid (And.intro hkv (And.intro hoth (And.intro hdrd (And.intro hkd (And.intro ha hlad)))))
        have HST := Lib.hid hst
        have HY := Lib.hid (And.intro hcs (And.intro hcf (And.intro hcb (And.intro hp1 (And.intro hq1 (And.intro hp2 hq2))))))
        clear hcs hcf hcb hp1 hq1 hp2 hq2
        clear hkv hoth hdrd hkd ha hlad hst hhalf hlk hrg
        go_wp2
        go_quiet (fail)
        clear x1
        go_wp2_with fail
        have D3 := D2.keep ((Only.refl [] w1).drewN nq)
        have hrg3 := ranges_only hrg1 ((Only.refl [] w1).drewN nq) (by simp) (by simp)
        have O3 := O1.drewN nq
        have e3 : (w1.drewN nq).cell? ⟨cx.blk, 1, none⟩ = some (.int .i64 la) := e1
        have hul : cx.f.data.length ≤ u := by rw [HU.out]; exact used_le (by simp)
        have hkl : k ≤ cx.f.data.length := by have := HST.out; have := HX.out.2.2.2.2.1; omega
        have HCUT := Lib.hid (fun (W : World) (O : Only [] (w1.drewN nq) W) => cut_any (D3.keep O) k hkl (by omega))
        have hmax : max draw 0 = (dr : Int) := HX.out.2.2.1
        obtain ⟨o1, ho1⟩ : ∃ o1, o1 = oth + 1 := ⟨_, rfl⟩
        obtain ⟨q, hq⟩ : ∃ q, q = dr % o1 := ⟨_, rfl⟩
        have y0 : ¬ o1 = 0 := by omega
        have y0' : ¬ (o1 : Int) = 0 := by omega
        have y1 : IntKind.i64.wrap ((oth : Int) + 1) = (o1 : Int) := by rw [IntWalk.i64_in _ (by omega)]; omega
        have y2 : (dr : Int).tmod (o1 : Int) = (q : Int) := by
          rw [Int.tmod_eq_emod_of_nonneg (by omega), hq]
          omega
        have y2' : (dr : Int) % (o1 : Int) = (q : Int) := by rw [hq]; omega
        have hkq : k = la + q := by rw [hq, ho1]; exact HX.out.1
        have y3 : IntKind.i64.wrap ((la : Int) + (q : Int)) = (k : Int) := by
          have h2 := HST.out
          rw [IntWalk.i64_in _ (by omega)]
          omega
        clear hq ho1 hkq
        have HLN := Lib.hid hul
        clear e0 e1 hul hkl D2 D1 hrg1
        generalize w1.drewN nq = w3 at *
        go_region_held3 (fun w' => w'.cell? ⟨cx.blk, 1, none⟩ = some (.int .i64 la)) (first | go_keep | exact e4)
          ((go_at_call 51; refine (HCUT.out _ ((Only.refl [] w3).drew)).mono ?_; rintro e w4 ⟨rfl, A4, cap4, D4, O4, B4⟩; have e4 : w4.cell? ⟨cx.blk, 1, none⟩ = some (.int .i64 la) := (by have := (D4.fcell (hmem _)).2; dsimp only [cutF] at this; rw [this]; have h1 := HX.out; have h2 := HST.out; congr 2; omega)))
        have hmx : cx ∈ Px ++ cx :: Qx := hmem cx
        have hmd : m ≠ d := D3.d_map rfl
        have hmb : cx.blk ≠ m := D3.m_blk rfl hmx
        have hmr : m ∉ blks cx.A := D3.m_row rfl hmx
        have hrf3 := iter_fpt hrg3 D3
        have hin : ∀ x ∈ d :: cx.blk :: blks cx.A, x ∈ fpt d (some m) (Px ++ cx :: Qx) := fun x hx => by
          rcases List.mem_cons.1 hx with rfl | hx
          · exact mem_fpt.2 (.inl rfl)
          · rcases List.mem_cons.1 hx with rfl | hx
            · exact mem_fpt.2 (.inr (.inr (.inl ⟨cx, hmx, rfl⟩)))
            · exact mem_fpt.2 (.inr (.inr (.inr ⟨cx, hmx, hx⟩)))
        have hl4 : (cx.f.data.take k).length = k := by rw [List.length_take]; have := HST.out; have := HX.out.2.2.2.2.1; omega
        have hm4 : (⟨cutF k cx.f, cx.blk, A4, cap4⟩ : Fc) ∈ Px ++ ⟨cutF k cx.f, cx.blk, A4, cap4⟩ :: Qx := hmem _
        obtain ⟨e5, _⟩ := D4.fcell hm4
        have g5 := (D4.file _ hm4).1.free 1
        dsimp only [cutF] at e5 g5
        rw [hl4] at e5
        have D5 := D4.setLasts k (by dsimp only [cutF]; rw [hl4]; exact Nat.le_refl _)
        have O5 : Only (d :: cx.blk :: blks cx.A) w3 (w4.setCell ⟨cx.blk, 1, none⟩ (.int .i64 k)) := (((Only.refl [] w3).drew.mono (fun _ hx => by cases hx)).trans O4 (fun x hx => .inl hx)).setCell (.inl (by simp)) _
        have hrg5 := ranges_only hrg3 O5 (by simp [hmd, hmr, Ne.symm hmb]) (fun hx => hrf3 (hin r hx))
        have HD5 := Lib.hid D5
        have HRG := Lib.hid hrg5
        have HL4 := Lib.hid hl4
        clear e3 e4 D3 D4 D5 hrg5 hmd hmb hmr y0 y0' y1 y2 y2' y3 hmax hl4 hm4 HCUT
        go_wp2
        go_roundw
        case rel =>
          refine ⟨_, cnt1, Px ++ { f := { cutF k cx.f with lasts := k }, blk := cx.blk, A := A4, cap := cap4 } :: Qx, u + k - cx.f.data.length, HRG.out, HD5.out, ?_, ?_, ?_, ?_, ?_, ?_⟩
          · obtain ⟨hcs, hcf, hcb, hp1, hq1, hp2, hq2⟩ := HY.out
            have hr := HK.out.good.rise
            rw [hcs, List.map_append, List.map_cons, List.pairwise_append, List.pairwise_cons] at hr
            have hpn : ∀ x ∈ P, (keyLit x.f.name).sameKey (keyLit c.f.name) = false := fun x hx => by
              rw [same_key, decide_eq_false_iff_not]
              exact bef_ne (hr.2.2 _ (List.mem_map_of_mem hx) _ (by simp))
            have hqn : ∀ x ∈ Q, (keyLit x.f.name).sameKey (keyLit c.f.name) = false := fun x hx => by
              rw [same_key, decide_eq_false_iff_not]
              exact (bef_ne (hr.2.1.1 _ (List.mem_map_of_mem hx))).symm
            show (Px ++ _ :: Qx).map (·.f) = cs.map (half draw fun z => left z && !z.sameKey (keyLit c.f.name))
            rw [hcs, List.map_append, List.map_append, List.map_cons, List.map_cons, hp1, hq1]
            congr 1
            · exact List.map_congr_left fun x hx => by simp [half, hpn x hx]
            · congr 1
              · have : half draw (fun z => left z && !z.sameKey (keyLit c.f.name)) c = crashF draw c.f := by
                  simp [half, same_key]
                rw [this, ← hcf]
                unfold crashF cutF
                rw [← HX.out.2.2.2.1]
              · exact List.map_congr_left fun x hx => by simp [half, hqn x hx]
          · obtain ⟨hcs, hcf, hcb, hp1, hq1, hp2, hq2⟩ := HY.out
            show (Px ++ _ :: Qx).map (·.blk) = cs.map (·.blk)
            rw [hcs, List.map_append, List.map_append, List.map_cons, List.map_cons, hp2, hq2, hcb]
          · show _ = _
            rw [HU.out]
            simp only [List.map_append, List.map_cons, used_append, used]
            have := HL4.out
            simp only [cutF]
            rw [this]
            omega
          · have h1 := HST.out
            have h2 := HX.out.2.2.2.2.1
            omega
          · have OR : Only (fpt d (some m) cs) w w3 := HO.trans O3 (fun x hx => .inr (by simp at hx; rw [hx, HR.out]; exact Nat.le_refl _))
            exact OR.trans O5 (fun x hx => HFP x (hin x hx))
          · refine fpt_swap HFP rfl (fun x hx => ?_)
            rcases B4 x hx with h | h
            · exact HFP x (hin x (by simp [h]))
            · have h2 := HO.size
              have h3 := O3.size
              have h4 : (World.drew w3).heap.size = w3.heap.size := rfl
              exact .inr (by omega)
        case measure => rw [HRG.out.left_eq, hcl.out]; omega
end
end Go.Proofs.YtgnilldcfpgpaaaGreatDoor
namespace Go.Proofs.YtgnilldcfpgpaaaGreatDoor
open Go.RowKit Go.Maps
section
variable {w : World} {d : Nat} {F : List Nat} {S S' : Dst} {v : Value}
theorem Did.back {w0 : World} {e : Ending} {w' : World} (h : Did d F S' v w e w') (o : Only [] w0 w) : Did d F S' v w0 e w' := by
  obtain ⟨he, F', hD, hO, hB⟩ := h
  have := o.size
  exact ⟨he, F', hD, (o.mono (fun _ hx => by cases hx)).trans hO (fun x hx => .inl hx), fun x hx => (hB x hx).imp id (fun h => by omega)⟩
theorem RwS.one' {S : Nat → Prop} {w : World} {g : Nat} {t : TypeId} {A : Option Addr} {c : Nat} {l : List UInt8} (h : Bk w g t #[.slice A l.length c]) (hs : Sl w A l.length (bvs l)) (hg : S g) (hA : 0 < l.length → ∀ ad, A = some ad → S ad.block) : RwS S w (some ⟨g, 0, none⟩) 1 [l] :=
  ⟨rfl, _, Sl.of_bk h, fun _ ad e => by injection e with e; subst e; exact hg, fun i l' hi => by
    match i, hi with
    | 0, hi => simp at hi; subst hi; exact ⟨A, c, by simp, hs, hA⟩⟩
theorem append_one (h : Disk w d F S) (s : ByteArray) (A : Option Addr) (n c : Nat) (l : List UInt8) (hl : l.length = n) (hs : Sl w A n (bvs l)) (hA : 0 < n → ∀ ad, A = some ad → ad.block ∉ F) :
    Calls Tryz.prog 158 #[.pointer (some ⟨d, 0, none⟩), .string s, .slice (some ⟨w.heap.size, 0, none⟩) 1 1] (w.alloc (.cells #[.slice A n c] 27)) (Did d F (appendS S s l) (.int .i64 (errA S s l : Nat)) w) := by
  subst hl
  refine (append_any (h.keep ((Only.refl [] w).alloc _)) s _ 1 1 [l] (RwS.one' (Bk.new w _ _) (hs.alloc _) (fun hx => by have := h.lt hx; omega) hA) (by omega) l (by simp)).mono fun e w' hd => hd.back ((Only.refl [] w).alloc _)
theorem sync_one (h : Disk w d F S) (s : ByteArray) : Calls Tryz.prog 159 #[.pointer (some ⟨d, 0, none⟩), .slice (some ⟨w.heap.size, 0, none⟩) 1 1] (w.alloc (.cells #[.string s] 9)) (Did d F (syncS S s) (.int .i64 (errF S s : Nat)) w) := by
  have := Sync_any (h.keep ((Only.refl [] w).alloc (.cells #[.string s] 9))) (some ⟨w.heap.size, 0, none⟩) 1 1 [s] (sl_name w s) (fun ad e hx => by injection e with e; subst e; have := h.lt hx; exact Nat.lt_irrefl _ this) (by omega)
  have e1 : eachE errF syncS S [s] = errF S s := by
    by_cases h0 : errF S s = 0
    · rw [eachE_cons h0, h0]; rfl
    · rw [eachE_stop h0]
  have e2 : eachS errF syncS S [s] = syncS S s := by
    by_cases h0 : errF S s = 0
    · rw [eachS_cons h0]; rfl
    · rw [eachS_stop h0]; unfold syncS; rw [if_neg h0]
  rw [e1, e2] at this
  exact this.mono fun e w' hd => hd.back ((Only.refl [] w).alloc _)
theorem remove_one (h : Disk w d F S) (s : ByteArray) : Calls Tryz.prog 176 #[.pointer (some ⟨d, 0, none⟩), .slice (some ⟨w.heap.size, 0, none⟩) 1 1] (w.alloc (.cells #[.string s] 9)) (Did d F (removeS S s) (.int .i64 (errF S s : Nat)) w) := by
  have := Remove_any (h.keep ((Only.refl [] w).alloc (.cells #[.string s] 9))) (some ⟨w.heap.size, 0, none⟩) 1 1 [s] (sl_name w s) (fun ad e hx => by injection e with e; subst e; have := h.lt hx; exact Nat.lt_irrefl _ this) (by omega)
  have e1 : eachE errF removeS S [s] = errF S s := by
    by_cases h0 : errF S s = 0
    · rw [eachE_cons h0, h0]; rfl
    · rw [eachE_stop h0]
  have e2 : eachS errF removeS S [s] = removeS S s := by
    by_cases h0 : errF S s = 0
    · rw [eachS_cons h0]; rfl
    · rw [eachS_stop h0]; unfold removeS; rw [if_neg h0]
  rw [e1, e2] at this
  exact this.mono fun e w' hd => hd.back ((Only.refl [] w).alloc _)
end
end Go.Proofs.YtgnilldcfpgpaaaGreatDoor
namespace Go.Proofs.YtgnilldcfpgpaaaGreatDoor
open Go.RowKit Go.Maps
def tilde (s : ByteArray) : ByteArray := s ++ ⟨#[126]⟩
def loadE (S : Dst) (s : ByteArray) : Nat := if readE S s = 0 then (if oneBad (readD S s) = 0 then 0 else 3) else 7
def loadD (S : Dst) (s : ByteArray) : List UInt8 := if readE S s = 0 then oneBody (readD S s) else []
theorem errF_cases (S : Dst) (s : ByteArray) : errF S s = 0 ∨ errF S s = 1 ∨ errF S s = 7 ∨ errF S s = 9 := by
  unfold errF
  rcases errB_cases S [s] with h | h | h <;> rw [h]
  · simp only [ne_eq, not_true_eq_false, if_false]
    split
    · exact .inr (.inr (.inl rfl))
    · exact .inl rfl
  · exact .inr (.inl rfl)
  · exact .inr (.inr (.inr rfl))
theorem errA_cases (S : Dst) (s : ByteArray) (p : List UInt8) : errA S s p = 0 ∨ errA S s p = 1 ∨ errA S s p = 6 ∨ errA S s p = 9 := by
  unfold errA
  rcases errB_cases S [s] with h | h | h <;> rw [h]
  · simp only [ne_eq, not_true_eq_false, if_false]
    split
    · exact .inr (.inr (.inl rfl))
    · exact .inl rfl
  · exact .inr (.inl rfl)
  · exact .inr (.inr (.inr rfl))
theorem mem_blks {A : Option Addr} {ad : Addr} (e : A = some ad) : ad.block ∈ blks A := by subst e; simp
section
variable {w : World} {d : Nat} {F : List Nat} {S : Dst}
theorem chained {S2 : Dst} {F1 : List Nat} {w1 w2 : World} (O1 : Only F w w1) (B1 : ∀ x ∈ F1, x ∈ F ∨ w.heap.size ≤ x) (h : ∃ F2, Disk w2 d F2 S2 ∧ Only F1 w1 w2 ∧ ∀ x ∈ F2, x ∈ F1 ∨ w1.heap.size ≤ x) :
    ∃ F2, Disk w2 d F2 S2 ∧ Only F w w2 ∧ ∀ x ∈ F2, x ∈ F ∨ w.heap.size ≤ x := by
  obtain ⟨F2, D2, O2, B2⟩ := h
  have := O1.size
  refine ⟨F2, D2, O1.trans O2 B1, fun x hx => ?_⟩
  rcases B2 x hx with h | h
  · exact B1 x h
  · exact .inr (by omega)
theorem Did.then {S2 : Dst} {v2 : Value} {F1 : List Nat} {w1 w2 : World} {e : Ending} (O1 : Only F w w1) (B1 : ∀ x ∈ F1, x ∈ F ∨ w.heap.size ≤ x) (h : Did d F1 S2 v2 w1 e w2) : Did d F S2 v2 w e w2 := ⟨h.1, chained O1 B1 h.2⟩
theorem far {F F1 : List Nat} {w : World} {A : Option Addr} {n : Nat} {xs : List Value} (hs : Sl w A n xs) (hA : 0 < n → ∀ ad, A = some ad → ad.block ∉ F) (B1 : ∀ x ∈ F1, x ∈ F ∨ w.heap.size ≤ x) : 0 < n → ∀ ad, A = some ad → ad.block ∉ F1 := fun hn ad e hm => by
  rcases B1 _ hm with h | h
  · exact hA hn ad e h
  · have := hs.lt hn ad e; omega
set_option maxRecDepth 100000 in
theorem load_any (h : Disk w d F S) (s : ByteArray) (hs : s.size ≤ maxLen) (ht : Tab w) : Calls Tryz.prog 177 #[.pointer (some ⟨d, 0, none⟩), .string s] w (Bytes (loadD S s) (loadE S s) w) := by
  have HT := Lib.hid ht
  have hlen : (readD S s).length ≤ 1073741824 := by
    obtain ⟨g1, g2, g3⟩ := h.good
    unfold readD
    cases hg : get S.fs s with
    | none => simp
    | some f => have := used_le (get_some hg).1; simp only []; omega
  obtain ⟨b, hb⟩ : ∃ b, b = readD S s := ⟨_, rfl⟩
  have HR := Lib.hid (read_any h s hs)
  rw [← hb] at HR hlen
  have h01 : readE S s = 0 ∨ readE S s = 7 := by
    unfold readE
    split
    · exact .inr rfl
    · exact .inl rfl
  rcases h01 with h0 | h0
  · by_cases h1 : oneBad b = 0
    · have e1 : loadE S s = 0 := by unfold loadE; rw [if_pos h0, ← hb, if_pos h1]
      have e2 : loadD S s = oneBody b := by unfold loadD; rw [if_pos h0, ← hb]
      rw [e1, e2]
      rw [h0] at HR
      have HX := Lib.hid (fun (W : World) (A : Option Addr) (n c : Nat) hs ht hc hn => one_any A n c b W hs ht hc hn)
      rw [h1] at HX
      have HL := Lib.hid hlen
      clear e1 e2 h0 h1 hb hlen ht h
      go_enter Tryz.func177, Tryz.ntmps177
      go_wp2_with (first
        | (go_at_call 214; refine (HX.out w1 A1 _ c1 V1.sl (HT.out.keep O1) V1.cap (by have := HL.out; omega)).mono ?_; clear HX; rintro e w2 ⟨A2, c2, rfl, V2, O2, B2⟩)
        | (go_at_call 175; refine HR.out.mono ?_; clear HR; rintro e w1 ⟨A1, c1, rfl, V1, O1, B1⟩))
      go_ret2
      exact ⟨A2, c2, rfl, V2, O1.then O2, fun k hk => Nat.le_trans O1.size (B2 k hk)⟩
    · have e1 : loadE S s = 3 := by unfold loadE; rw [if_pos h0, ← hb, if_neg h1]
      have e2 : loadD S s = [] := by unfold loadD; rw [if_pos h0, ← hb, oneBody, if_neg h1]
      have e3 : oneBody b = [] := by rw [oneBody, if_neg h1]
      rw [e1, e2]
      rw [h0] at HR
      obtain ⟨x, hx, hx0⟩ : ∃ x : Int, x = (oneBad b : Nat) ∧ x ≠ 0 := ⟨_, rfl, by omega⟩
      have HX := Lib.hid (fun (W : World) (A : Option Addr) (n c : Nat) hs ht hc hn => one_any A n c b W hs ht hc hn)
      rw [e3, ← hx] at HX
      have HL := Lib.hid hlen
      clear e1 e2 e3 h0 h1 hb hlen ht h hx
      go_enter Tryz.func177, Tryz.ntmps177
      go_wp2_with (first
        | (go_at_call 214; refine (HX.out w1 A1 _ c1 V1.sl (HT.out.keep O1) V1.cap (by have := HL.out; omega)).mono ?_; clear HX; rintro e w2 ⟨A2, c2, rfl, V2, O2, B2⟩)
        | (go_at_call 175; refine HR.out.mono ?_; clear HR; rintro e w1 ⟨A1, c1, rfl, V1, O1, B1⟩))
      go_ret2
      exact ⟨none, 0, rfl, Own.nil _ _, O1.then O2, fun _ hk => by cases hk⟩
  · have e1 : loadE S s = 7 := by unfold loadE; rw [if_neg (by omega)]
    have e2 : loadD S s = [] := by unfold loadD; rw [if_neg (by omega)]
    rw [e1, e2]
    rw [h0] at HR
    clear e1 e2 h0 hb hlen ht h
    go_enter Tryz.func177, Tryz.ntmps177
    go_wp2_with (go_at_call 175; refine HR.out.mono ?_; clear HR; rintro e w1 ⟨A1, c1, rfl, V1, O1, B1⟩)
    go_ret2
    exact ⟨none, 0, rfl, Own.nil _ _, O1, fun _ hk => by cases hk⟩
end
end Go.Proofs.YtgnilldcfpgpaaaGreatDoor
namespace Go.Proofs.YtgnilldcfpgpaaaGreatDoor
abbrev Took := Nat × List (List UInt8)
def take1 (base : Nat) (t : Took) (p : List UInt8) : Option Took :=
  match prsR p with
  | none => none
  | some (k, e) => if k < 1 ∨ (0 < t.1 ∧ k ≠ t.1 + 1) then none else if k ≤ base then some (k, t.2) else if k ≠ base + t.2.length + 1 then none else some (k, t.2 ++ [e])
def takes (base : Nat) : Took → List (List UInt8) → Option Took
  | t, [] => some t
  | t, p :: r => match take1 base t p with
    | none => none
    | some t' => takes base t' r
def logged (base : Nat) (b : List UInt8) : Option (List (List UInt8)) := (takes base (0, []) (scan b).1).map (·.2)
structure LS where
  base : Nat
  data : List UInt8
  es : List (List UInt8)
  dead : Bool
def LS.last (L : LS) : Nat := L.base + L.es.length
def rmE (S : Dst) (s : ByteArray) : Nat := if readE S s = 7 then 0 else errF S s
def rmS (S : Dst) (s : ByteArray) : Dst := if readE S s = 7 then S else removeS S s
def layE (S : Dst) (s : ByteArray) (r : List UInt8) : Nat := if errA S s r = 0 then errF (appendS S s r) s else errA S s r
def layS (S : Dst) (s : ByteArray) (r : List UInt8) : Dst := if errA S s r = 0 then syncS (appendS S s r) s else S
def appE (S : Dst) (log : ByteArray) (L : LS) (p : List UInt8) : Nat :=
  if L.dead then 9 else if 65536 < p.length ∨ 1099511627776 < L.last + 1 then 5 else layE S log (record (numd (L.last + 1) p))
def appS (S : Dst) (log : ByteArray) (L : LS) (p : List UInt8) : Dst :=
  if L.dead then S else if 65536 < p.length ∨ 1099511627776 < L.last + 1 then S else layS S log (record (numd (L.last + 1) p))
def appL (S : Dst) (log : ByteArray) (L : LS) (p : List UInt8) : LS :=
  if L.dead then L else if 65536 < p.length ∨ 1099511627776 < L.last + 1 then L else if layE S log (record (numd (L.last + 1) p)) = 0 then { L with es := L.es ++ [p] } else { L with dead := true }
def imgE (S : Dst) (img : ByteArray) : Nat := if loadE S img = 7 then 0 else if loadE S img = 0 then (if (prsR (loadD S img)).isSome then 0 else 3) else loadE S img
def imgV (S : Dst) (img : ByteArray) : Nat × List UInt8 := if loadE S img = 0 then (prsR (loadD S img)).getD (0, []) else (0, [])
def lastsB (S : Dst) (log : ByteArray) (n : Nat) : Bool := decide ((readD (crashS (copyS S) 0) log).length = n)
def tidyE (S : Dst) (log : ByteArray) (es : List (List UInt8)) (size whole : Nat) : Nat :=
  let e1 := if whole < size then errT S log whole else 0
  let S1 := if whole < size then truncS S log whole else S
  if e1 ≠ 0 then e1 else
  let e2 := if whole < size ∨ (es ≠ [] ∧ lastsB S1 log whole = false) then errF S1 log else 0
  let S2 := if whole < size ∨ (es ≠ [] ∧ lastsB S1 log whole = false) then syncS S1 log else S1
  if e2 ≠ 0 then e2 else if es = [] then errF S2 log else 0
def tidyS (S : Dst) (log : ByteArray) (es : List (List UInt8)) (size whole : Nat) : Dst :=
  let e1 := if whole < size then errT S log whole else 0
  let S1 := if whole < size then truncS S log whole else S
  if e1 ≠ 0 then S1 else
  let e2 := if whole < size ∨ (es ≠ [] ∧ lastsB S1 log whole = false) then errF S1 log else 0
  let S2 := if whole < size ∨ (es ≠ [] ∧ lastsB S1 log whole = false) then syncS S1 log else S1
  if e2 ≠ 0 then S2 else if es = [] then removeS S2 log else S2
def logE (S : Dst) (log : ByteArray) (base : Nat) : Nat :=
  if readE S log ≠ 0 then 0 else match logged base (readD S log) with
    | none => 3
    | some es => tidyE S log es (readD S log).length (scan (readD S log)).2
def logS (S : Dst) (log : ByteArray) (base : Nat) : Dst :=
  if readE S log ≠ 0 then S else match logged base (readD S log) with
    | none => S
    | some es => tidyS S log es (readD S log).length (scan (readD S log)).2
def logL (S : Dst) (log : ByteArray) (base : Nat) : List (List UInt8) := if readE S log ≠ 0 then [] else (logged base (readD S log)).getD []
def opE (S : Dst) (img log : ByteArray) : Nat :=
  if rmE S (tilde img) ≠ 0 then rmE S (tilde img) else if imgE (rmS S (tilde img)) img ≠ 0 then imgE (rmS S (tilde img)) img else logE (rmS S (tilde img)) log (imgV (rmS S (tilde img)) img).1
def opS (S : Dst) (img log : ByteArray) : Dst :=
  if rmE S (tilde img) ≠ 0 then rmS S (tilde img) else if imgE (rmS S (tilde img)) img ≠ 0 then rmS S (tilde img) else logS (rmS S (tilde img)) log (imgV (rmS S (tilde img)) img).1
def opL (S : Dst) (img log : ByteArray) : LS :=
  ⟨(imgV (rmS S (tilde img)) img).1, (imgV (rmS S (tilde img)) img).2, logL (rmS S (tilde img)) log (imgV (rmS S (tilde img)) img).1, false⟩
end Go.Proofs.YtgnilldcfpgpaaaGreatDoor
