/-
  Texts of the seat, laid one behind the other: DClone DLeaf DCut DPut DMeth SMapU SMapB SNames.
-/
import Derived.Test.YtgnilldcfpgpaaaGreatDoorZ6
import Derived.Test.YtgnilldcfpgpaaaGreatDoorZ1
import Derived.WalkKit
import Derived.Lib.SliceRun
import Derived.Handy
import Derived.Deep.DeepMust
import Derived.Test.YtgnilldcfpgpaaaGreatDoorZ4
import Derived.Deep.QuietTactic
import Derived.BigQuiet
import Derived.IntWalk
import Derived.RegionTactic
import Derived.ChangeAlike
import Derived.Carry
import Derived.Deep.RegionHeld3
import Derived.Shelf.SlMaps.Clone
import Derived.Shelf.Lay
import Derived.Laws.IdiomRangeMap
import Derived.Shelf.SlIter.Nil
import Derived.Shelf.SortM.Plain
import Derived.Shelf.SortM.SortNone
import Derived.Sort.KeysCollected
namespace Go.Proofs.YtgnilldcfpgpaaaGreatDoor
open Go.RowKit Go.Maps
set_option maxRecDepth 100000 in
theorem clone_any (A : Option Addr) (n c : Nat) (l : List UInt8) (w : World) (hs : Sl w A n (bvs l)) (hn : n ≤ 1000000000000) :
    Calls Tryz.prog 98 #[.slice A n c] w (Fresh w l) := by
  obtain ⟨i0, hi, hz0, hz1, hz2⟩ := info_parts infoByte
  have hl : l.length = n := by simpa using hs.len
  cases A with
  | none =>
    have h0 : n = 0 := by
      rcases Nat.eq_zero_or_pos n with h0 | h0
      · exact h0
      · obtain ⟨ad, e, _⟩ := hs.2 h0
        cases e
    subst h0
    obtain rfl : l = [] := List.eq_nil_of_length_eq_zero hl
    clear hl hs
    have hnil : ∀ W, (binOp .eql 27 (.slice none 0 c) (.slice none 0 0)).run Tryz.prog W = .ok (.bool true) W := fun W => Lib.run_eql_slice_nil W _ _ _ _ _ _ _ Tryz.underlying27
    go_enter Tryz.func98, Tryz.ntmps98
    go_wp2
    go_ret
    exact ⟨none, 0, rfl, Own.nil _ _, Only.refl _ _, fun _ h => by cases h⟩
  | some ad =>
    have ho0 : Own (w.alloc (.cells #[] 5)) 5 (some ⟨w.heap.size, 0, none⟩) 0 0 [] := World.ownsRow_lit w #[] 0 (Nat.zero_le _) (Nat.zero_le _) rfl
    have HL := Lib.hid hl
    clear hl
    have hnil : ∀ W, (binOp .eql 27 (.slice (some ad) n c) (.slice none 0 0)).run Tryz.prog W = .ok (.bool false) W := fun W => Lib.run_eql_slice_nil W _ _ _ _ _ _ _ Tryz.underlying27
    go_enter Tryz.func98, Tryz.ntmps98
    go_wp2_with (at_builtin; refine wpList_append_sl rfl (.tmp 5) (.tmp 6) 27 rfl 5 i0 (.int .u8 0) 1 Tryz.underlying27 hi hz0 hz1 hz2 rfl _ _ _ _ rfl ho0 (some ad) n c _ rfl (hs.alloc _) (bvs_one _) (by unfold maxLen; omega) (by omega) ?_; intro A1 c1 w1 HV1 HO1 HB1; rw [List.nil_append] at HV1; rw [Nat.zero_add] at HV1)
    go_ret
    have z1 : ∀ k ∈ blks A1, w.heap.size ≤ k := fun k hk => by
      rcases HB1 k hk with h1 | h1
      · simp at h1; omega
      · simp at h1; omega
    have P1 : Only [] w w1 := ((Only.refl [] w).alloc _).trans HO1 (fun x hx => .inr (by simp at hx; omega))
    refine ⟨A1, c1, ?_, ?_, P1, z1⟩
    · rw [HL.out]; rfl
    · rw [HL.out]; exact HV1
theorem sclone_any (s : ByteArray) (w : World) (hs : s.size ≤ 281474976710656) : Calls Tryz.prog 230 #[.string s] w fun e w' => e = .returned (.string s) ∧ Only [] w w' := by
  have HC := Tryz.stringslite_Clone s w hs
  go_enter Tryz.func230, Tryz.ntmps230
  go_wp2_with (go_at_call 250; refine HC.mono ?_; rintro e w1 ⟨rfl, hb⟩)
  go_ret
  exact ⟨rfl, Only.of_below hb⟩
end Go.Proofs.YtgnilldcfpgpaaaGreatDoor
namespace Go.Proofs.YtgnilldcfpgpaaaGreatDoor
open Go.RowKit Go.Maps
def errD (fz : Bool) (lf : Nat) (ss : List ByteArray) : Nat := if fz = true ∧ lf = 0 then 9 else if ss.all okName then 0 else 1
theorem errB_errD {S : Dst} {lf : Nat} (h : ∀ k, S.fuse = some k → lf = k) (ss : List ByteArray) : errB S ss = errD S.fuse.isSome lf ss := by
  unfold errB errD
  cases hS : S.fuse with
  | none => simp
  | some k =>
    have := h k hS
    subst this
    simp
theorem ok_true {s : ByteArray} (h1 : 1 ≤ s.size) (h2 : s.size ≤ 64) : okName s = true := by simp [okName, h1, h2]
theorem ok_false {s : ByteArray} (h : ¬ (1 ≤ s.size ∧ s.size ≤ 64)) : okName s = false := by unfold okName; exact decide_eq_false h
theorem all_take {ss : List ByteArray} {k : Nat} (hk : k < ss.length) (h : ∀ s ∈ ss.take k, okName s = true) (h' : okName ss[k] = true) : ∀ s ∈ ss.take (k + 1), okName s = true := by
  intro s hs
  rw [List.take_succ_eq_append_getElem hk] at hs
  rcases List.mem_append.1 hs with h1 | h1
  · exact h s h1
  · simp at h1
    rw [h1]
    exact h'
section
variable {w : World} {d room u lf : Nat} {fz : Bool} {mb : Option Nat} {cs : List Fc}
theorem begin_any (h : Dk w d room u fz lf mb cs) (A : Option Addr) (n c : Nat) (ss : List ByteArray) (hs : Sl w A n (ss.map Value.string)) (hn : n ≤ 4611686018427387904) :
    Calls Tryz.prog 202 #[.pointer (some ⟨d, 0, none⟩), .slice A n c] w fun e w' => e = .returned (.int .i64 (errD fz lf ss : Nat)) ∧ w = w' := by
  obtain ⟨_, _, _, c3, c4⟩ := h.cell
  have hl : ss.length = n := by simpa using hs.len
  by_cases hd : fz = true ∧ lf = 0
  · have he : errD fz lf ss = 9 := if_pos hd
    rw [he]
    obtain ⟨rfl, rfl⟩ := hd
    clear he h
    go_enter Tryz.func202, Tryz.ntmps202
    go_wp2
    go_ret
    exact ⟨rfl, rfl⟩
  · have he : errD fz lf ss = if ss.all okName then 0 else 1 := if_neg hd
    rw [he]
    have hfz : fz = false ∨ (fz = true ∧ ((lf : Int) == 0) = false) := by
      cases fz
      · exact .inl rfl
      · refine .inr ⟨rfl, ?_⟩
        rw [beq_eq_false_iff_ne]
        intro e
        exact hd ⟨rfl, by omega⟩
    clear he hd h
    obtain ⟨E, hE⟩ : ∃ E, E = if ss.all okName then 0 else 1 := ⟨_, rfl⟩
    rw [← hE]
    have HE := Lib.hid hE
    clear hE
    rcases hfz with rfl | ⟨rfl, hlf⟩
    all_goals
      go_enter Tryz.func202, Tryz.ntmps202
      go_wp2
      go_loop [22] (fun i => ∃ k : Nat, k ≤ n ∧ i = .int .i64 k ∧ Hid (∀ s ∈ ss.take k, okName s = true)) (fun i => n - (intOf i).toNat)
      case atStart => exact ⟨0, Nat.zero_le _, rfl, fun s hs => by simp at hs⟩
      case round =>
        obtain ⟨k, hk, rfl, HK⟩ := hrel
        by_cases hlt : k < n
        · obtain ⟨ad, v, rfl, hv, hcell⟩ := hs.at_ hlt
          have hkl : k < ss.length := by omega
          obtain ⟨s, hsd⟩ : ∃ s, s = ss[k]'hkl := ⟨_, rfl⟩
          have hv' : v = .string s := by
            rw [List.getElem?_map, List.getElem?_eq_getElem hkl] at hv
            rw [hsd]
            simpa using hv.symm
          subst hv'
          have HS := Lib.hid hsd
          clear hv hsd
          by_cases h1 : 1 ≤ s.size
          · by_cases h2 : s.size ≤ 64
            · have HK' : Hid (∀ s ∈ ss.take (k + 1), okName s = true) := all_take hkl HK.out (by rw [← HS.out]; exact ok_true h1 h2)
              go_wp2
              go_round
              case rel => exact ⟨k + 1, by omega, by go_num, HK'⟩
              case measure => simp [intOf]; omega
            · have h2' : (64 : Int) < (s.size : Int) := by omega
              have HB : Hid (E = 1) := by
                show E = 1
                rw [HE.out, if_neg]
                intro ha
                rw [List.all_eq_true] at ha
                have := ha s (by rw [HS.out]; exact List.getElem_mem _)
                rw [ok_false (by omega)] at this
                cases this
              go_wp2
              go_ret
              exact ⟨by rw [HB.out]; rfl, rfl⟩
          · have h1' : (s.size : Int) < 1 := by omega
            have HB : Hid (E = 1) := by
              show E = 1
              rw [HE.out, if_neg]
              intro ha
              rw [List.all_eq_true] at ha
              have := ha s (by rw [HS.out]; exact List.getElem_mem _)
              rw [ok_false (by omega)] at this
              cases this
            go_wp2
            go_ret
            exact ⟨by rw [HB.out]; rfl, rfl⟩
        · have HB : Hid (E = 0) := by
            show E = 0
            have := HK.out
            rw [List.take_of_length_le (by omega)] at this
            rw [HE.out, if_pos (List.all_eq_true.2 this)]
          go_wp2
          go_ret
          exact ⟨by rw [HB.out]; rfl, rfl⟩
theorem begin_nil (w : World) (A : Option Addr) (n c : Nat) : Calls Tryz.prog 202 #[.pointer none, .slice A n c] w fun e w' => e = .returned (.int .i64 1) ∧ w = w' := by
  go_enter Tryz.func202, Tryz.ntmps202
  go_wp2
  go_ret
  exact ⟨rfl, rfl⟩
theorem done_any (hk0 : Dk w d room u fz lf mb cs) (hf : fz = true → lf ≠ 0) :
    Calls Tryz.prog 205 #[.pointer (some ⟨d, 0, none⟩)] w fun e w' => e = .returned (.tuple #[]) ∧ Dk w' d room u fz (if fz then lf - 1 else lf) mb cs ∧ Only [d] w w' := by
  obtain ⟨_, _, _, c3, c4⟩ := hk0.cell
  have f4 := hk0.bk.free 4
  cases fz
  · go_enter Tryz.func205, Tryz.ntmps205
    go_wp2
    go_end0
    exact ⟨rfl, hk0, Only.refl _ _⟩
  · have hlf := hf rfl
    have b := hk0.lf'
    obtain ⟨k, rfl⟩ : ∃ k, lf = k + 1 := ⟨lf - 1, by omega⟩
    have hk := hk0.setLeft k (by omega)
    have hx : ((k + 1 : Nat) : Int) - 1 = (k : Int) := by omega
    have hx0 : ((k + 1 : Nat) : Int) = (k : Int) + 1 := by omega
    rw [hx0] at c4
    have hx1 : (k : Int) + 1 - 1 = (k : Int) := by omega
    clear hx hx0 hlf hf
    have HK := Lib.hid hk
    clear hk hk0
    go_enter Tryz.func205, Tryz.ntmps205
    go_wp2
    go_end0
    exact ⟨rfl, HK.out, (Only.refl _ _).setCell (.inl (by simp)) _⟩
theorem zero_ptr (w : World) : (zeroValue 116).run Tryz.prog w = .ok (.pointer none) w := by kernel_rfl
theorem look_none (hm : MapIs w mb cs) {s : ByteArray} (hs : s.size ≤ maxLen) (hc : findC cs s = none) : (Instr.lookup 110 (.map mb) (.string s) false).run Tryz.prog w = .ok (.pointer none) w := by
  have hk := key_of s hs
  cases mb with
  | none => simpa using Maps.look_nil false keyed Tryz.underlying110 (zero_ptr w) hk
  | some m =>
    obtain ⟨v, ps, hr, hv⟩ := World.ownsMap.lookup hm keyed Tryz.underlying110 (zero_ptr w) ptrElem_nil hk
    rw [atKey_dm, hc] at hv
    rw [hr, ptrElem_nil_inv hv]
theorem look_hit (hm : MapIs w mb cs) {s : ByteArray} (hs : s.size ≤ maxLen) {c : Fc} (hc : findC cs s = some c) : (Instr.lookup 110 (.map mb) (.string s) false).run Tryz.prog w = .ok (.pointer (some ⟨c.blk, 0, none⟩)) w := by
  have hk := key_of s hs
  cases mb with
  | none =>
    have : cs = [] := hm
    subst this
    cases hc
  | some m =>
    obtain ⟨v, ps, hr, hv⟩ := World.ownsMap.lookup hm keyed Tryz.underlying110 (zero_ptr w) ptrElem_nil hk
    rw [atKey_dm, hc] at hv
    rw [hr, ptrElem_some_inv hv]
theorem sl_name (w : World) (s : ByteArray) : Sl (w.alloc (.cells #[.string s] 9)) (some ⟨w.heap.size, 0, none⟩) 1 ([s].map Value.string) := Sl.of_new w #[.string s] _ _
theorem errD_one {s : ByteArray} (h : errD fz lf [s] = 0) : 1 ≤ s.size ∧ s.size ≤ 64 ∧ (fz = true → lf ≠ 0) := by
  unfold errD at h
  split at h
  · cases h
  · rename_i hn
    split at h
    · rename_i ha
      simp [okName] at ha
      exact ⟨ha.1, ha.2, fun h1 h2 => hn ⟨h1, h2⟩⟩
    · cases h
theorem find_err (hk : Dk w d room u fz lf mb cs) (s : ByteArray) {r : Nat} (hr : errD fz lf [s] = r) (h0 : r ≠ 0) :
    Calls Tryz.prog 231 #[.pointer (some ⟨d, 0, none⟩), .string s] w fun e w' => e = .returned (.tuple #[.pointer none, .int .i64 r]) ∧ Only [] w w' := by
  have HB := begin_any (hk.keep ((Only.refl [] w).alloc (.cells #[.string s] 9))) (some ⟨w.heap.size, 0, none⟩) 1 1 [s] (sl_name w s) (by omega)
  rw [hr] at HB
  have hrb : ((r : Int) != 0) = true := by rw [bne_iff_ne]; omega
  clear hr hk
  go_enter Tryz.func231, Tryz.ntmps231
  go_wp2_with (go_at_call 202; refine HB.mono ?_; rintro e w1 ⟨rfl, rfl⟩)
  go_ret2
  exact ⟨rfl, (Only.refl _ _).alloc _⟩
set_option maxRecDepth 100000 in
theorem find_none (hk : Dk w d room u fz lf mb cs) (s : ByteArray) (hr : errD fz lf [s] = 0) (hc : findC cs s = none) :
    Calls Tryz.prog 231 #[.pointer (some ⟨d, 0, none⟩), .string s] w fun e w' => e = .returned (.tuple #[.pointer none, .int .i64 7]) ∧ Only [] w w' := by
  have hk1 := hk.keep ((Only.refl [] w).alloc (.cells #[.string s] 9))
  have HB := begin_any hk1 (some ⟨w.heap.size, 0, none⟩) 1 1 [s] (sl_name w s) (by omega)
  rw [hr] at HB
  have hl := look_none hk1.map (by have := (errD_one hr).2.1; unfold maxLen; omega) hc
  obtain ⟨_, _, c2, _, _⟩ := hk.cell
  have hd := hk.bk.lt
  clear hr hk hk1 hc
  go_enter Tryz.func231, Tryz.ntmps231
  go_wp2_with (go_at_call 202; refine HB.mono ?_; rintro e w1 ⟨rfl, rfl⟩)
  go_ret2
  exact ⟨rfl, (Only.refl _ _).alloc _⟩
set_option maxRecDepth 100000 in
theorem find_hit (hk : Dk w d room u fz lf mb cs) (s : ByteArray) (hr : errD fz lf [s] = 0) {c : Fc} (hc : findC cs s = some c) :
    Calls Tryz.prog 231 #[.pointer (some ⟨d, 0, none⟩), .string s] w fun e w' => e = .returned (.tuple #[.pointer (some ⟨c.blk, 0, none⟩), .int .i64 0]) ∧ Only [] w w' := by
  have hk1 := hk.keep ((Only.refl [] w).alloc (.cells #[.string s] 9))
  have HB := begin_any hk1 (some ⟨w.heap.size, 0, none⟩) 1 1 [s] (sl_name w s) (by omega)
  rw [hr] at HB
  have hl := look_hit hk1.map (by have := (errD_one hr).2.1; unfold maxLen; omega) hc
  obtain ⟨_, _, c2, _, _⟩ := hk.cell
  have hd := hk.bk.lt
  clear hr hk hk1 hc
  go_enter Tryz.func231, Tryz.ntmps231
  go_wp2_with (go_at_call 202; refine HB.mono ?_; rintro e w1 ⟨rfl, rfl⟩)
  go_ret2
  exact ⟨rfl, (Only.refl _ _).alloc _⟩
theorem find_nil (w : World) (s : ByteArray) : Calls Tryz.prog 231 #[.pointer none, .string s] w fun e w' => e = .returned (.tuple #[.pointer none, .int .i64 1]) ∧ Only [] w w' := by
  have HB := begin_nil (w.alloc (.cells #[.string s] 9)) (some ⟨w.heap.size, 0, none⟩) 1 1
  go_enter Tryz.func231, Tryz.ntmps231
  go_wp2_with (go_at_call 202; refine HB.mono ?_; rintro e w1 ⟨rfl, rfl⟩)
  go_ret2
  exact ⟨rfl, (Only.refl _ _).alloc _⟩
set_option maxRecDepth 100000 in
theorem fits_any (hk : Dk w d room u fz lf mb cs) (hu : u ≤ room) (A : Option Addr) (n c : Nat) (ls : List (List UInt8)) (hr : Rw w A n ls) (hn : n ≤ 4611686018427387904) (B : Bool) (hB : B = decide (u + ls.flatten.length ≤ room)) :
    Calls Tryz.prog 203 #[.pointer (some ⟨d, 0, none⟩), .slice A n c] w (Quiet w (.bool B)) := by
  obtain ⟨c0, c1, _, _, _⟩ := hk.cell
  have b0 := hk.room'
  have hlen := hr.len
  have HB := Lib.hid hB
  clear hB hk
  have hx : IntKind.i64.wrap ((room : Int) - u) = (room : Int) - u := IntWalk.i64_in _ (by omega)
  obtain ⟨fr0, hfr⟩ : ∃ fr0 : Nat, (room : Int) - u = fr0 := ⟨room - u, by omega⟩
  rw [hfr] at hx
  have h0 : fr0 + catLen ls 0 + u = room := by rw [catLen_zero]; omega
  have H0 := Lib.hid h0
  clear h0
  have hb : fr0 ≤ 1073741824 := by omega
  go_enter Tryz.func203, Tryz.ntmps203
  go_wp2
  go_quiet (fail)
  have HF := Lib.hid hfr
  clear hx hfr
  go_wp2
  go_loopw [19, 5] (fun i t wr => ∃ k fr : Nat, k ≤ n ∧ i = .int .i64 k ∧ t = .int .i64 fr ∧ Hid (fr + catLen ls k + u = room) ∧ fr ≤ 1073741824 ∧ ∃ m, wr = w.drewN m) (fun i _ _ => n - (intOf i).toNat)
  case atStart => exact ⟨0, fr0, Nat.zero_le _, rfl, rfl, H0, hb, _, rfl⟩
  case round =>
    obtain ⟨k, fr, hk, rfl, rfl, HS, hfb, m0, rfl⟩ := hrel
    by_cases hlt : k < n
    · obtain ⟨ad, Ai, ci, rfl, hcell, _⟩ := hr.at_ hlt (by omega)
      have hsucc := catLen_succ ls k (by omega)
      have hle := catLen_le ls (k + 1)
      obtain ⟨m, hm⟩ : ∃ m, m = (ls[k]'(by omega)).length := ⟨_, rfl⟩
      rw [← hm] at hcell hsucc
      have HC := Lib.hid hsucc
      have HL := Lib.hid hle
      clear hsucc hle hm
      by_cases hgt : fr < m
      · have hgt' : (fr : Int) < (m : Int) := by omega
        have hF : Hid (B = false) := by
          show B = false
          rw [HB.out, decide_eq_false_iff_not]
          have h1 := HS.out
          have h2 := HC.out
          have h3 := HL.out
          omega
        go_wp2
        go_ret
        exact ⟨by rw [hF.out]; rfl, _, rfl⟩
      · have hgt' : (m : Int) ≤ (fr : Int) := by omega
        obtain ⟨fr', hfr'⟩ : ∃ fr', fr = m + fr' := ⟨fr - m, by omega⟩
        have HS' : Hid (fr' + catLen ls (k + 1) + u = room) := by
          show _ = _
          have h1 := HS.out
          have h2 := HC.out
          omega
        have hsub : ((fr : Int) - (m : Int)) = (fr' : Int) := by omega
        have hb' : fr' ≤ 1073741824 := by omega
        have HSub := Lib.hid hsub
        clear hsub hfr'
        go_wp2
        go_roundw
        case rel => exact ⟨k + 1, fr', by omega, by go_num, by rw [HSub.out], HS', hb', _, rfl⟩
        case measure => simp [intOf]; omega
    · have hT : Hid (B = true) := by
        show B = true
        rw [HB.out, decide_eq_true_iff]
        have h1 := HS.out
        rw [catLen_all ls (by omega)] at h1
        omega
      go_wp2
      go_ret
      exact ⟨by rw [hT.out]; rfl, _, rfl⟩
end
end Go.Proofs.YtgnilldcfpgpaaaGreatDoor
namespace Go.Proofs.YtgnilldcfpgpaaaGreatDoor
open Go.RowKit Go.Maps
section
variable {w : World} {d room u lf : Nat} {fz : Bool} {mb : Option Nat} {p q : List Fc}
theorem Dk.drew {cs : List Fc} (h : Dk w d room u fz lf mb cs) : Dk w.drew d room u fz lf mb cs := h.keep ((Only.refl _ _).drew)
set_option maxRecDepth 100000 in
theorem cut_any {c : Fc} (h : Dk w d room u fz lf mb (p ++ c :: q)) (n : Nat) (hn : n ≤ c.f.data.length) (hu : c.f.data.length ≤ u + n) :
    Calls Tryz.prog 51 #[.pointer (some ⟨d, 0, none⟩), .pointer (some ⟨c.blk, 0, none⟩), .int .i64 n] w fun e w' => e = .returned (.tuple #[]) ∧
      ∃ A' cap', Dk w' d room (u + n - c.f.data.length) fz lf mb (p ++ { f := cutF n c.f, blk := c.blk, A := A', cap := cap' } :: q) ∧ Only (d :: c.blk :: blks c.A) w w' ∧ ∀ x ∈ blks A', x ∈ blks c.A ∨ w.heap.size ≤ x := by
  obtain ⟨⟨nm, data, la⟩, b, A, cap⟩ := c
  dsimp only at *
  have hm : ∀ x : Fc, x ∈ p ++ x :: q := fun x => by simp
  have hdb : b ≠ d := h.d_blk (hm _)
  have hbig := h.big _ (hm _)
  have hla := h.lasts (hm _)
  have hb9 := h.u'
  have f1 := h.bk.free 1
  obtain ⟨_, c1, _⟩ := h.cell
  obtain ⟨e0, _⟩ := h.fcell (hm _)
  dsimp only at e0 hbig hla
  obtain ⟨a, ha⟩ : ∃ a, a = data.length := ⟨_, rfl⟩
  rw [← ha] at e0 hbig hla hn hu ⊢
  have HA := Lib.hid ha
  clear ha
  obtain ⟨u2, hu2⟩ : ∃ u2 : Nat, u2 = u + n - a := ⟨_, rfl⟩
  rw [← hu2]
  have hz2 : u2 ≤ 1073741824 := by omega
  have HU : Hid ((u : Int) - ((a : Int) - (n : Int)) = (u2 : Int)) := by show _ = _; omega
  have h1 := (h.setUsed u2 hz2).drew
  have O1 : Only [d] w (w.setCell ⟨d, 1, none⟩ (.int .i64 u2)).drew := ((Only.refl _ _).setCell (.inl (by simp)) _).drew
  have hbz := (h.file _ (hm _)).1.lt
  dsimp only at hbz
  have HH := Lib.hid h
  clear hu2 h
  go_enter Tryz.func51, Tryz.ntmps51
  go_wp2
  go_region
  rw [HU.out]
  generalize (w.setCell ⟨d, 1, none⟩ (.int .i64 u2)).drew = w1 at h1 O1 ⊢
  clear e0 c1 f1 HU
  -- the lasting ones, and the row cut off
  obtain ⟨e0, e1⟩ := h1.fcell (hm _)
  have g0 := (h1.file _ (hm _)).1.free 0
  have g1 := (h1.file _ (hm _)).1.free 1
  have hown := (h1.file _ (hm _)).2
  dsimp only at e0 e1 g0 g1 hown
  rw [← HA.out] at e0 hown
  have hcap := hown.cap
  have hncap : n ≤ cap := by omega
  obtain ⟨l, hl⟩ : ∃ l, l = data.take n := ⟨_, rfl⟩
  have hln : l.length = n := by rw [hl, List.length_take, ← HA.out]; omega
  obtain ⟨la2, hla2⟩ : ∃ la2, la2 = min la n := ⟨_, rfl⟩
  have hml : min (la : Int) (n : Int) = (la2 : Int) := by omega
  have h2 := h1.setLasts la2 (by dsimp only; have := HA.out; omega)
  dsimp only at h2
  have V2 : Own (w1.setCell ⟨b, 1, none⟩ (.int .i64 la2)) 5 A l.length cap (bvs l) := by
    have h3 := (h2.file _ (hm _)).2.pre (k := n) (by dsimp only; have := HA.out; omega)
    rw [bvs_take, ← hl] at h3
    rw [hln]
    exact h3
  have h3 := h2.setData (Only.refl _ _) V2 (fun x hx => .inl hx) (by dsimp only; omega) (by omega)
  have HLA := Lib.hid hla2
  clear hla2
  have HV3 := (h3.file _ (hm _)).2
  dsimp only at h3 HV3
  have O3 : Only [d, b] w ((w1.setCell ⟨b, 1, none⟩ (.int .i64 la2)).setCell ⟨b, 0, none⟩ (.slice A l.length cap)) := ((O1.mono (fun x hx => .inl (by simp at hx; simp [hx]))).setCell (.inl (by simp)) _).setCell (.inl (by simp)) _
  rw [hln] at h3 O3 HV3
  have HL := Lib.hid hl
  have HN := Lib.hid hln
  have HO3 := O3
  clear hl hln V2 h2 h1 O1
  have HC := Lib.hid (clone_any A n cap l _ HV3.sl (by omega))
  clear hown HV3
  go_wp2_with (go_at_call 98; refine HC.out.mono ?_; rintro e w4 ⟨A4, c4, rfl, V4, O4, B4⟩; have h4 := h3.keep O4; have e4 := (h4.fcell (hm _)).1; have g4 := (h4.file _ (hm _)).1.free 0; dsimp only at e4 g4)
  · go_end0
    refine ⟨rfl, A4, c4, ?_, ?_, fun x hx => ?_⟩
    · have h5 := h3.setData (O4.mono (fun _ hx => by cases hx)) V4 (fun x hx => .inr (B4 x hx)) (by dsimp only; rw [HN.out, HLA.out]; omega) (by rw [HN.out]; omega)
      dsimp only at h5
      unfold cutF
      dsimp only
      rw [← HL.out, ← HLA.out]
      exact h5
    · exact ((O3.then O4).setCell (.inl (by simp)) _).mono (fun x hx => .inl (by simp at hx; rcases hx with rfl | rfl <;> simp))
    · have := B4 x hx
      have hz := O3.size
      exact .inr (by omega)
  · go_end0
    refine ⟨rfl, A, cap, ?_, ?_, fun x hx => .inl hx⟩
    · unfold cutF
      dsimp only
      rw [← HL.out, ← HLA.out]
      exact h3
    · exact O3.mono (fun x hx => .inl (by simp at hx; rcases hx with rfl | rfl <;> simp))
end
end Go.Proofs.YtgnilldcfpgpaaaGreatDoor
namespace Go.Proofs.YtgnilldcfpgpaaaGreatDoor
open Go.RowKit Go.Maps
section
variable {w : World} {d room u lf : Nat} {fz : Bool} {mb : Option Nat} {cs : List Fc}
set_option maxRecDepth 100000 in
theorem drop_hit (h : Dk w d room u fz lf mb cs) (s : ByteArray) (hs : s.size ≤ 64) {c : Fc} (hc : findC cs s = some c) (hu : c.f.data.length ≤ u) :
    Calls Tryz.prog 232 #[.pointer (some ⟨d, 0, none⟩), .string s] w fun e w' => e = .returned (.tuple #[]) ∧ Dk w' d room (u - c.f.data.length) fz lf mb (delC cs s) ∧ Only (d :: mb.toList) w w' := by
  have hm := (findC_some hc).1
  cases mb with
  | none =>
    have : cs = [] := h.map
    subst this
    cases hc
  | some m =>
    have hl := look_hit h.map (by unfold maxLen; omega) hc
    obtain ⟨_, c1, c2, _, _⟩ := h.cell
    obtain ⟨e0, _⟩ := h.fcell hm
    have f1 := h.bk.free 1
    have hdb := h.d_blk hm
    have hbig := h.big _ hm
    have hb9 := h.u'
    have hmd : m ≠ d := h.d_map rfl
    obtain ⟨a, ha⟩ : ∃ a, a = c.f.data.length := ⟨_, rfl⟩
    rw [← ha] at e0 hbig hu ⊢
    obtain ⟨u2, hu2⟩ : ∃ u2 : Nat, u2 = u - a := ⟨_, rfl⟩
    rw [← hu2]
    have HU : Hid ((u : Int) - (a : Int) = (u2 : Int)) := by show _ = _; omega
    have h1 := (h.setUsed u2 (by omega)).drew
    have O1 : Only [d] w (w.setCell ⟨d, 1, none⟩ (.int .i64 u2)).drew := ((Only.refl _ _).setCell (.inl (by simp)) _).drew
    generalize c.blk = b at *
    have hkey := key_of s (by unfold maxLen; omega)
    clear ha hu2 h hc hm
    go_enter Tryz.func232, Tryz.ntmps232
    go_wp2
    go_region
    rw [HU.out]
    generalize (w.setCell ⟨d, 1, none⟩ (.int .i64 u2)).drew = w1 at h1 O1 ⊢
    obtain ⟨_, _, c2', _, _⟩ := h1.cell
    have hmap : w1.ownsMap Tryz.prog 9 ptrElem m cs.length (Dm cs) := h1.map
    go_wp2_with (at_delete; refine wpList_delete_own _ rfl _ _ 110 9 rfl 116 keyed Tryz.underlying110 ptrElem m cs.length (Dm cs) rfl hmap _ (keyLit s) rfl hkey ?_; intro w2 hown2 hturn2)
    go_end0
    exact ⟨rfl, h1.dropFile s hown2 hturn2, (O1.mono (fun x hx => .inl (by simp at hx; simp [hx]))).trans (Only.of_turned hturn2) (fun x hx => .inl (by simp at hx; simp [hx]))⟩
theorem equalIn_map (W : World) (k : Nat) (mb : Option Nat) : (Op.equalIn (k + 1) 110 (.map mb) (.map none)).run Tryz.prog W = .ok mb.isNone W := by
  cases mb <;> simp [Op.equalIn, run_underlying Tryz.underlying110]
theorem eql_map (W : World) (mb : Option Nat) : (binOp .eql 110 (.map mb) (.map none)).run Tryz.prog W = .ok (.bool mb.isNone) W := by
  simp only [binOp]
  simp [Op.equal, Op.maxDepth, equalIn_map W 9999 mb]
set_option maxRecDepth 100000 in
theorem put_any (h : Dk w d room u fz lf mb cs) {c : Fc} (hf : FileIs w c) (hn : findC cs c.f.name = none) (h1 : c.blk ∉ cs.map (·.blk)) (h2 : ∀ x ∈ blks c.A, x ∉ cs.flatMap fun c => blks c.A) (hlen : cs.length < 4096) (hs : c.f.name.size ≤ 64)
    (hl : c.f.lasts ≤ c.f.data.length) (hbig : c.f.data.length ≤ 1073741824) :
    Calls Tryz.prog 204 #[.pointer (some ⟨d, 0, none⟩), .string c.f.name, .pointer (some ⟨c.blk, 0, none⟩)] w fun e w' => e = .returned (.tuple #[]) ∧
      ∃ mb', Dk w' d room u fz lf mb' (insC c cs) ∧ Only (d :: mb.toList) w w' ∧ ∀ m, mb' = some m → mb = some m ∨ w.heap.size ≤ m := by
  have hmm := @run_makeMap Tryz.prog
  have hq0 : ∀ W, (binOp .eql 110 (.map none) (.map none)).run Tryz.prog W = .ok (.bool true) W := fun W => eql_map W none
  have hq1 : ∀ W m, (binOp .eql 110 (.map (some m)) (.map none)).run Tryz.prog W = .ok (.bool false) W := fun W m => eql_map W (some m)
  have hkey := key_of c.f.name (by unfold maxLen; omega)
  obtain ⟨_, _, c2, _, _⟩ := h.cell
  have f2 := h.bk.free 2
  have hdz := h.bk.lt
  obtain ⟨s, hsn⟩ : ∃ s, s = c.f.name := ⟨_, rfl⟩
  obtain ⟨b, hb⟩ : ∃ b, b = c.blk := ⟨_, rfl⟩
  rw [← hsn] at hs hkey ⊢
  rw [← hb]
  have HS := Lib.hid hsn
  have HB := Lib.hid hb
  clear hsn hb
  cases mb with
  | none =>
    have hcs : cs = [] := h.map
    subst hcs
    have H1 : Dk ((w.setCell ⟨d, 2, none⟩ (.map (some w.heap.size))).alloc (.map #[] 0)) d room u fz lf (some w.heap.size) [] := by
      have := (h.keep ((Only.refl [] w).alloc (.map #[] 0))).setD 2 (.map (some w.heap.size)) (mb' := some w.heap.size) rfl (World.ownsMap_made w _ _ _) h.room' h.u' h.lf'
      rwa [World.setCell_alloc_past _ _ _ _ hdz] at this
    have O1 : Only [d] w ((w.setCell ⟨d, 2, none⟩ (.map (some w.heap.size))).alloc (.map #[] 0)) := ((Only.refl _ _).setCell (.inl (by simp)) _).alloc _
    have hf1 : FileIs ((w.setCell ⟨d, 2, none⟩ (.map (some w.heap.size))).alloc (.map #[] 0)) c := hf.only O1 (by simpa using hf.1.ne h.bk (by decide)) (fun x hx hm => by
      simp only [List.mem_singleton] at hm
      subst hm
      exact hf.2.ne h.bk (by decide) hx)
    clear h hf
    go_enter Tryz.func204, Tryz.ntmps204
    go_wp2
    generalize hW : (w.setCell ⟨d, 2, none⟩ (.map (some w.heap.size))).alloc (.map #[] 0) = w1 at *
    generalize hG : w.heap.size = g at *
    have HGE : Hid (w.heap.size ≤ g) := by show _ ≤ _; omega
    clear hW hG c2 f2 hdz
    have HCL := Lib.hid (fun W => sclone_any s W (by omega))
    have HST := Lib.hid (fun (W : World) (hm : W.ownsMap Tryz.prog 9 ptrElem g 0 (Dm [])) => World.ownsMap.store hm keyed Tryz.underlying110 (by decide) hkey (ptrElem_some b))
    obtain ⟨_, _, c2, _, _⟩ := H1.cell
    have HH1 := Lib.hid H1
    have HF1 := Lib.hid hf1
    clear H1 hf1
    go_region_held3 (fun w' => w'.cell? ⟨d, 2, none⟩ = some (.map (some g))) (first | go_keep | exact c22 | exact c33)
      ((go_at_call 230; refine (HCL.out _).mono ?_; rintro e w2 ⟨rfl, O2⟩; have H2 := HH1.out.drew.keep O2; obtain ⟨_, _, c22, _, _⟩ := H2.cell; obtain ⟨w3, hrun, own3, turn3⟩ := HST.out _ H2.map; have c33 := (Only.of_turned turn3).cellSome c22 (by simpa using (H2.d_map rfl).symm)))
    go_wp2
    go_end0
    refine ⟨rfl, some g, ?_, ((O1.drew.then O2).trans (Only.of_turned turn3) (fun x hx => by simp at hx; subst hx; exact .inr HGE.out)).mono (fun x hx => .inl (by simpa using hx)), fun m' e => .inr (by injection e with e; have := HGE.out; omega)⟩
    rw [HS.out, HB.out] at own3
    exact H2.addFile hn own3 turn3 ((HF1.out.only (((Only.refl [] _).drew).then O2) (by simp) (fun _ _ hm => by cases hm))) h1 h2 hlen (by rw [← HS.out]; exact hs) hl hbig
  | some m =>
    have hf1 := hf
    have H1 := h
    clear h hf
    go_enter Tryz.func204, Tryz.ntmps204
    go_wp2
    have HCL := Lib.hid (fun W => sclone_any s W (by omega))
    have HST := Lib.hid (fun (W : World) (hm : W.ownsMap Tryz.prog 9 ptrElem m cs.length (Dm cs)) => World.ownsMap.store hm keyed Tryz.underlying110 (by unfold maxLen; omega) hkey (ptrElem_some b))
    have HH1 := Lib.hid H1
    have HF1 := Lib.hid hf1
    clear H1 hf1 hq0 hq1 hmm
    go_region_held3 (fun w' => w'.cell? ⟨d, 2, none⟩ = some (.map (some m))) (first | go_keep | exact c22 | exact c33)
      ((go_at_call 230; refine (HCL.out _).mono ?_; rintro e w2 ⟨rfl, O2⟩; have H2 := HH1.out.drew.keep O2; obtain ⟨_, _, c22, _, _⟩ := H2.cell; obtain ⟨w3, hrun, own3, turn3⟩ := HST.out _ H2.map; have c33 := (Only.of_turned turn3).cellSome c22 (by simpa using (H2.d_map rfl).symm)))
    go_wp2
    go_end0
    refine ⟨rfl, some m, ?_, (((Only.refl [] _).drew.then O2).mono (ss := d :: [m]) (fun x hx => by cases hx)).trans (Only.of_turned turn3) (fun x hx => .inl (by simp at hx; simp [hx])), fun m' e => .inl e⟩
    rw [HS.out, HB.out] at own3
    exact H2.addFile hn own3 turn3 ((HF1.out.only (((Only.refl [] _).drew).then O2) (by simp) (fun _ _ hm => by cases hm))) h1 h2 hlen (by rw [← HS.out]; exact hs) hl hbig
end
end Go.Proofs.YtgnilldcfpgpaaaGreatDoor
namespace Go.Proofs.YtgnilldcfpgpaaaGreatDoor
open Go.RowKit Go.Maps
theorem upd_ins {f : Fl} {h : Fl → Fl} (hn : (h f).name = f.name) : ∀ {fs : List Fl}, (∀ g ∈ fs, g.name ≠ f.name) → upd (ins f fs) f.name h = ins (h f) fs
  | [], _ => by simp [ins, upd]
  | g :: r, hx => by
    have h1 : g.name ≠ f.name := hx g (by simp)
    have h2 : upd r f.name h = r := by
      unfold upd
      conv => rhs; rw [← List.map_id r]
      exact List.map_congr_left fun x hm => if_neg (hx x (by simp [hm]))
    unfold ins
    rw [hn]
    split
    · unfold upd at h2 ⊢
      simp [h1, h2]
    · have ih := upd_ins hn (fs := r) fun x hm => hx x (by simp [hm])
      unfold upd at ih ⊢
      simp [h1, ih]
theorem tick_fuse {S : Dst} {lf : Nat} (h : ∀ k, S.fuse = some k → lf = k) : ∀ k, (tick S).fuse = some k → (if S.fuse.isSome then lf - 1 else lf) = k := by
  intro k hk
  unfold tick at hk
  cases hS : S.fuse with
  | none => rw [hS] at hk; cases hk
  | some j =>
    rw [hS] at hk
    simp at hk
    have := h j hS
    simp
    omega
theorem tick_some (S : Dst) : (tick S).fuse.isSome = S.fuse.isSome := by unfold tick; cases S.fuse <;> rfl
theorem tick_fs (S : Dst) : (tick S).fs = S.fs := rfl
theorem did_mk {w w' : World} {d room u lf : Nat} {fz : Bool} {mb mb' : Option Nat} {cs cs' : List Fc} {S' : Dst} {v : Value} {e : Ending} (he : e = .returned v)
    (h : Dk w' d room u fz lf mb' cs') (h1 : S'.room = room) (h2 : used S'.fs = u) (h3 : S'.fuse.isSome = fz) (h4 : cs'.map (·.f) = S'.fs) (h5 : ∀ k, S'.fuse = some k → lf = k) (h6 : u ≤ room)
    (o : Only (fpt d mb cs) w w') (hF : ∀ x ∈ fpt d mb' cs', x ∈ fpt d mb cs ∨ w.heap.size ≤ x) : Did d (fpt d mb cs) S' v w e w' := by
  refine ⟨he, fpt d mb' cs', ⟨lf, mb', cs', ?_, h4, h5, ?_, rfl⟩, o, hF⟩
  · rw [h1, h2, h3]; exact h
  · rw [h2, h1]; exact h6
theorem did_same {w w' : World} {d : Nat} {F : List Nat} {S : Dst} {v : Value} {e : Ending} (he : e = .returned v) (h : Disk w d F S) (o : Only [] w w') : Did d F S v w e w' :=
  ⟨he, F, h.keep o, o.mono (fun _ hx => by cases hx), fun x hx => .inl hx⟩
def Made (S : Dst) (w : World) (e : Ending) (w' : World) : Prop :=
  ∃ d, e = .returned (.tuple #[.pointer (some ⟨d, 0, none⟩), .int .i64 0]) ∧ Disk w' d [d] S ∧ Only [] w w' ∧ w.heap.size ≤ d
theorem dk_new (w : World) (r : Nat) (hr : r ≤ 1073741824) {u : Nat} (hu : u ≤ 1073741824) : Dk (w.alloc (.cells #[.int .i64 r, .int .i64 u, .map none, .bool false, .int .i64 0] 112)) w.heap.size r u false 0 none [] :=
  { bk := Bk.new w _ _, map := rfl, file := fun _ h => (by cases h), good := ⟨List.Pairwise.nil, Nat.zero_le _, fun _ h => (by cases h), fun _ h => (by cases h)⟩, nb := List.nodup_nil, na := List.nodup_nil, room' := hr, u' := hu, lf' := Nat.zero_le _, big := fun _ h => (by cases h) }
section
variable {w : World}
theorem new_any (r : Nat) (hr : r ≤ 1073741824) : Calls Tryz.prog 40 #[.int .i64 r] w (Made ⟨r, [], none⟩ w) := by
  have hk := dk_new w r hr (Nat.zero_le 1073741824)
  have HK := Lib.hid hk
  clear hk
  go_enter Tryz.func40, Tryz.ntmps40
  go_wp2
  go_ret2
  exact ⟨w.heap.size, rfl, ⟨0, none, [], HK.out, rfl, fun _ h => (by cases h), Nat.zero_le _, rfl⟩, (Only.refl _ _).alloc _, Nat.le_refl _⟩
variable {d : Nat} {F : List Nat} {S : Dst}
def Bytes (p : List UInt8) (r : Nat) (w : World) (e : Ending) (w' : World) : Prop :=
  ∃ A c, e = .returned (.tuple #[.slice A p.length c, .int .i64 r]) ∧ Own w' 5 A p.length c (bvs p) ∧ Only [] w w' ∧ ∀ k ∈ blks A, w.heap.size ≤ k
theorem findC_get {cs : List Fc} {fs : List Fl} (h : cs.map (·.f) = fs) (s : ByteArray) : get fs s = (findC cs s).map (·.f) := by rw [map_findC, h]
set_option maxRecDepth 100000 in
theorem read_any (h : Disk w d F S) (s : ByteArray) (hs : s.size ≤ maxLen) : Calls Tryz.prog 175 #[.pointer (some ⟨d, 0, none⟩), .string s] w (Bytes (readD S s) (readE S s) w) := by
  obtain ⟨lf, mb, cs, hk, h1, h2, h3, rfl⟩ := h
  obtain ⟨_, _, c2, _, _⟩ := hk.cell
  cases hc : findC cs s with
  | none =>
    have hg := findC_get h1 s
    rw [hc] at hg
    have e1 : readD S s = [] := by unfold readD; rw [hg]; rfl
    have e2 : readE S s = 7 := by unfold readE; rw [hg]; rfl
    rw [e1, e2]
    have hl := look_none hk.map hs hc
    clear hc hg e1 e2 hk h1 h2 h3
    go_enter Tryz.func175, Tryz.ntmps175
    go_wp2
    go_ret2
    exact ⟨none, 0, rfl, Own.nil _ _, Only.refl _ _, fun _ h => by cases h⟩
  | some c =>
    have hg := findC_get h1 s
    rw [hc] at hg
    have e1 : readD S s = c.f.data := by unfold readD; rw [hg]; rfl
    have e2 : readE S s = 0 := by unfold readE; rw [hg]; rfl
    rw [e1, e2]
    have hm := (findC_some hc).1
    have hl := look_hit hk.map hs hc
    obtain ⟨g0, _⟩ := hk.fcell hm
    have hown := (hk.file _ hm).2
    have hbig := hk.big _ hm
    have HC := Lib.hid (clone_any c.A c.f.data.length c.cap c.f.data w hown.sl (by omega))
    clear hc hg e1 e2 hk h1 h2 h3 hown hbig hm
    go_enter Tryz.func175, Tryz.ntmps175
    go_wp2_with (go_at_call 98; refine HC.out.mono ?_; rintro e w1 ⟨A1, c1, rfl, V1, O1, B1⟩)
    go_ret2
    exact ⟨A1, c1, rfl, V1, O1, B1⟩
end
end Go.Proofs.YtgnilldcfpgpaaaGreatDoor
namespace Go.Proofs.YtgnilldcfpgpaaaGreatDoor
open Go.RowKit Go.Maps Go.Sort Go.Shelf
def shpU : Value → Bool
  | .agg ⟨[.string _, .map _]⟩ => true
  | _ => false
theorem arrU {v : Value} (h : shpU v = true) : ∃ s2 mb2, v = .agg #[.string s2, .map mb2] := by
  unfold shpU at h
  split at h
  · exact ⟨_, _, rfl⟩
  · cases h
theorem zeroU (w : World) : (zeroValue 154).run Tryz.prog w = .ok (.agg #[.string ⟨#[]⟩, .map none]) w := by kernel_rfl
theorem lookU {w : World} {mb : Option Nat} {l : List Kv} (c : Bool) (h : KvIs shpU w mb l) {s : ByteArray} (hs : s.size ≤ maxLen) :
    (Instr.lookup 89 (.map mb) (.string s) c).run Tryz.prog w = .ok (if c then .tuple #[valK #[.string ⟨#[]⟩, .map none] l s, .bool (findL Prod.fst l s).isSome] else valK #[.string ⟨#[]⟩, .map none] l s) w :=
  look_kv c Tryz.underlying89 (zeroU w) rfl h hs
theorem lenU {w : World} {mb : Option Nat} {l : List Kv} (h : KvIs shpU w mb l) (ty : TypeId) : (Builtin.len_ #[89] ty #[.map mb]).run Tryz.prog w = .ok (.int .i64 (l.length : Int)) w := len_kv Tryz.underlying89 h ty
set_option maxHeartbeats 4000000 in
set_option maxRecDepth 100000 in
theorem copyU_any {w : World} {bd : Nat} {ps : Option Nat} {l : List Kv} (hd : KvAt shpU w bd []) (hs : KvIs shpU w ps l) (hne : ps ≠ some bd) (hroom : l.length ≤ 1000000) :
    Calls Tryz.prog 196 #[.map (some bd), .map ps] w fun e w' => e = .returned (.tuple #[]) ∧ KvAt shpU w' bd l ∧ Only [bd] w w' := by
  cases ps with
  | none =>
    obtain rfl : l = [] := hs
    have hrg := run_range_nilMap (P := Tryz.prog) w 89 9 154 Tryz.underlying89
    have hnx : ∀ ty, (Instr.next (.pointer (some ⟨w.heap.size, 0, none⟩)) false ty).run Tryz.prog (w.alloc (.mapIter none 0 #[] 0)) = _ := fun ty => run_next_nilMap w ty 0 0 #[]
    have HD := Lib.hid (hd.only ((Only.refl [] w).alloc (.mapIter none 0 #[] 0)) (by simp))
    clear hd
    go_enter Tryz.func196, Tryz.ntmps196
    go_wp2
    refine wp_loop_rounds 1 ?_
    rw [rounds_succ]
    go_wp2
    go_end0
    exact ⟨rfl, HD.out, (Only.refl [bd] w).alloc _⟩
  | some bs =>
    have hbd := hd.lt
    have hsz : Maps.size (DK l) = l.length := size_DK l
    have hbs : bs < w.heap.size := KvAt.lt hs
    have hbne : bd ≠ bs := fun e => hne (by rw [e])
    have hs' : w.ownsMap Tryz.prog 9 (heldP shpU) bs l.length (DK l) := hs
    have hd' : w.ownsMap Tryz.prog 9 (heldP shpU) bd 0 (.map []) := hd
    have HCL : Hid (Canon (DK l)) := World.ownsMap.canon hs' keyed
    clear hd hs
    go_enter Tryz.func196, Tryz.ntmps196
    go_wp2_with (first
      | (at_range; refine wpList_range_own _ rfl _ 89 rfl 9 154 keyed Tryz.underlying89 (heldP shpU) bs l.length (DK l) rfl hs' ?_; intro w0 hrg0 hg0 hs0))
    go_frame
    go_loopw [8] (fun _ wr => ∃ (left : Lit → Bool) (cnt : Nat) (Dout : DataW Value), wr.ranges Tryz.prog 9 (heldP shpU) bs w.heap.size l.length (DK l) left cnt ∧ cnt ≤ l.length ∧
        wr.ownsMap Tryz.prog 9 (heldP shpU) bd (l.length - cnt) Dout ∧ Agree Dout (DK l) left ∧ Only [bd] w wr)
      (fun _ wr => wr.rangeLeft bs w.heap.size)
    case atStart =>
      exact ⟨_, _, .map [], hrg0, by rw [hsz]; exact Nat.le_refl _, (hd'.kept hg0 (by simp)).mono (by omega), agree_start _, (Only.of_grown hg0).mono (fun x hx => by simp at hx)⟩
    case round =>
      obtain ⟨left, cnt, Dout, hrg, hcs, hout, hA, hgw⟩ := hrel
      go_wp2_with (first
        | (at_next; refine wpList_next_ranges _ rfl _ rfl 9 keyed (heldP shpU) id id (fun key _ _ => ⟨key, rfl⟩) (fun v _ _ => ⟨v, rfl⟩) bs w.heap.size l.length _ _ _ rfl hrg ?_ ?_)
        | go_in)
      · intro hc0 hl0
        go_wp2
        go_end0
        subst hc0
        have e := agree_end hA hl0 (hout.canon keyed) HCL.out
        subst e
        exact ⟨rfl, KvAt.of hout, hgw⟩
      · intro x c kl yd yp w1 cnt1 hkey hlx hv hat hrg1 hlt hg1 hs1 hen
        have hout1 := hout.kept hg1 (fun e => by have := Option.some.inj e; omega)
        obtain ⟨hc1, hc2⟩ := heldP_inv hv
        obtain ⟨vs, vm, rfl⟩ := arrU (v := c) hc1
        have hg1' : Only [bd] w w1 := hgw.trans (Only.of_grown hg1) (fun x hx => .inr (by simp at hx; omega))
        have HZZ := Lib.hid hs1
        have HLT := Lib.hid hlt
        have hbd1 : bd < w1.heap.size := hout1.lt
        clear hs1 hlt
        have hout2 := hout1.alloc (.cells #[.string vs, .map vm] 154)
        go_wp2_with (first
          | (at_mapUpdate; refine wpList_mapUpdate_own _ rfl _ _ _ 89 rfl 9 154 keyed Tryz.underlying89 (heldP shpU) bd _ Dout rfl hout2 (by unfold maxLen; omega) _ _ kl rfl rfl hkey yd yp hv ?_; intro w3 hout3 hg3; go_frame)
          | go_in)
        have hrg3 := (hrg1.kept (World.grownBy_alloc w1 (.cells #[.string vs, .map vm] 154) none) (by simp) (by simp)).kept hg3 (fun e => hbne (Option.some.inj e).symm) (fun e => by have := Option.some.inj e; omega)
        go_roundw
        case rel =>
          refine ⟨_, cnt1, _, hrg3, by have := HLT.out; omega, hout3.mono (by have := HLT.out; omega), agree_step hA hout2.isMap (keyed.key hkey) hat, ?_⟩
          exact (hg1'.alloc _).trans (Only.of_grown hg3) (fun x hx => .inl (by simpa using hx))
        case measure => rw [hrg3.left_eq, hrg.left_eq]; exact HLT.out
theorem mkU (q : Int) (w : World) : (Instr.makeMap 89 (some (.int .i64 q))).run Tryz.prog w = .ok (.map (some w.heap.size)) (w.alloc (.map #[] 0)) := by
  simp [Instr.makeMap, run_underlying Tryz.underlying89, asInt, go_sem, Result.andThen]
def WithedU (w : World) (l : List Kv) (e : Ending) (w' : World) : Prop := ∃ m', e = .returned (.map (some m')) ∧ KvAt shpU w' m' l ∧ Only [] w w' ∧ w.heap.size ≤ m'
set_option maxRecDepth 100000 in
theorem withU_any {w : World} {mb : Option Nat} {l : List Kv} (h : KvIs shpU w mb l) (s : ByteArray) (hs : s.size ≤ maxLen) (s2 : ByteArray) (mb2 : Option Nat) (hl : l.length ≤ 100000) :
    Calls Tryz.prog 152 #[.map mb, .string s, .agg #[.string s2, .map mb2]] w (WithedU w (putL Prod.fst (s, .agg #[.string s2, .map mb2]) l)) := by
  have hk := key_of s hs
  have ho : Only [] w (w.alloc (.cells #[.string s2, .map mb2] 154)) := (Only.refl [] w).alloc _
  have hln := lenU (h.keep ho)
  have HW : Hid (IntKind.i64.wrap ((l.length : Int) + 1) = (l.length : Int) + 1) := IntWalk.i64_in _ (by omega)
  have hw64 := HW.out
  have ho2 : Only [] w ((w.alloc (.cells #[.string s2, .map mb2] 154)).alloc (.map #[] 0)) := ho.alloc _
  have hd : KvAt shpU ((w.alloc (.cells #[.string s2, .map mb2] 154)).alloc (.map #[] 0)) (w.heap.size + 1) [] := by
    have := World.ownsMap_made (w.alloc (.cells #[.string s2, .map mb2] 154)) Tryz.prog 9 (heldP shpU)
    rw [World.size_alloc] at this
    exact this
  have HC := Lib.hid (copyU_any hd (h.keep ho2) (fun e => by have := h.lt _ e; omega) (by omega))
  have hB := (Bk.new w 154 #[.string s2, .map mb2]).alloc (.map #[] 0)
  have HO2 := Lib.hid ho2
  have HKV := Lib.hid (put_DK (s, .agg #[.string s2, .map mb2]) l)
  have hnl : 0 ≤ (l.length : Int) + 1 := by omega
  have HL2 : Hid (l.length ≤ 100000) := hl
  have hmk := fun (q : Int) (W : World) => mkU q W
  generalize l.length = n at hln HW hw64 hl hnl
  clear h ho ho2 hd
  go_enter Tryz.func152, Tryz.ntmps152
  go_wp2_with (first
    | (go_at_call 196; go_must (refine HC.out.mono ?_); rintro e w3 ⟨rfl, K3, O3⟩; have B3 := hB.only O3 (by simp); have c0 := B3.cell 0; have c1 := B3.cell 1; have lb := B3.lt)
    | (at_mapUpdate; refine wpList_mapUpdate_own _ rfl _ _ _ 89 rfl 9 154 keyed Tryz.underlying89 (heldP shpU) (w.heap.size + 1) l.length (DK l) rfl K3 (by have := HL2.out; unfold maxLen; omega) _ _ (keyLit s) rfl rfl hk (.held (.agg #[.string s2, .map mb2])) [] rfl ?_; intro w4 hout4 hg4; go_frame))
  go_ret
  rw [HKV.out] at hout4
  exact ⟨_, rfl, KvAt.of hout4, ((HO2.out.mono (ss := [w.heap.size + 1]) (fun _ hx => nomatch hx)).trans O3 (fun x hx => .inl hx)).trans (Only.of_grown hg4) (fun x hx => .inl (by simpa using hx)) |>.mono (fun x hx => .inr (by simp at hx; omega)), Nat.le_succ _⟩
end Go.Proofs.YtgnilldcfpgpaaaGreatDoor
namespace Go.Proofs.YtgnilldcfpgpaaaGreatDoor
open Go.RowKit Go.Maps Go.Sort Go.Shelf
def shpB : Value → Bool
  | .agg ⟨[.string _, .int .i64 _, .int .i64 _, .slice _ _ _]⟩ => true
  | _ => false
theorem arrB {v : Value} (h : shpB v = true) : ∃ s2 vl nx A n2 c, v = .agg #[.string s2, .int .i64 vl, .int .i64 nx, .slice A n2 c] := by
  unfold shpB at h
  split at h
  · exact ⟨_, _, _, _, _, _, rfl⟩
  · cases h
theorem zeroB (w : World) : (zeroValue 71).run Tryz.prog w = .ok (.agg #[.string ⟨#[]⟩, .int .i64 0, .int .i64 0, .slice none 0 0]) w := by kernel_rfl
theorem lookB {w : World} {mb : Option Nat} {l : List Kv} (c : Bool) (h : KvIs shpB w mb l) {s : ByteArray} (hs : s.size ≤ maxLen) :
    (Instr.lookup 152 (.map mb) (.string s) c).run Tryz.prog w = .ok (if c then .tuple #[valK #[.string ⟨#[]⟩, .int .i64 0, .int .i64 0, .slice none 0 0] l s, .bool (findL Prod.fst l s).isSome] else valK #[.string ⟨#[]⟩, .int .i64 0, .int .i64 0, .slice none 0 0] l s) w :=
  look_kv c Tryz.underlying152 (zeroB w) rfl h hs
theorem lenB {w : World} {mb : Option Nat} {l : List Kv} (h : KvIs shpB w mb l) (ty : TypeId) : (Builtin.len_ #[152] ty #[.map mb]).run Tryz.prog w = .ok (.int .i64 (l.length : Int)) w := len_kv Tryz.underlying152 h ty
set_option maxHeartbeats 4000000 in
set_option maxRecDepth 100000 in
theorem copyB_any {w : World} {bd : Nat} {ps : Option Nat} {l : List Kv} (hd : KvAt shpB w bd []) (hs : KvIs shpB w ps l) (hne : ps ≠ some bd) (hroom : l.length ≤ 1000000) :
    Calls Tryz.prog 227 #[.map (some bd), .map ps] w fun e w' => e = .returned (.tuple #[]) ∧ KvAt shpB w' bd l ∧ Only [bd] w w' := by
  cases ps with
  | none =>
    obtain rfl : l = [] := hs
    have hrg := run_range_nilMap (P := Tryz.prog) w 152 9 71 Tryz.underlying152
    have hnx : ∀ ty, (Instr.next (.pointer (some ⟨w.heap.size, 0, none⟩)) false ty).run Tryz.prog (w.alloc (.mapIter none 0 #[] 0)) = _ := fun ty => run_next_nilMap w ty 0 0 #[]
    have HD := Lib.hid (hd.only ((Only.refl [] w).alloc (.mapIter none 0 #[] 0)) (by simp))
    clear hd
    go_enter Tryz.func227, Tryz.ntmps227
    go_wp2
    refine wp_loop_rounds 1 ?_
    rw [rounds_succ]
    go_wp2
    go_end0
    exact ⟨rfl, HD.out, (Only.refl [bd] w).alloc _⟩
  | some bs =>
    have hbd := hd.lt
    have hsz : Maps.size (DK l) = l.length := size_DK l
    have hbs : bs < w.heap.size := KvAt.lt hs
    have hbne : bd ≠ bs := fun e => hne (by rw [e])
    have hs' : w.ownsMap Tryz.prog 9 (heldP shpB) bs l.length (DK l) := hs
    have hd' : w.ownsMap Tryz.prog 9 (heldP shpB) bd 0 (.map []) := hd
    have HCL : Hid (Canon (DK l)) := World.ownsMap.canon hs' keyed
    clear hd hs
    go_enter Tryz.func227, Tryz.ntmps227
    go_wp2_with (first
      | (at_range; refine wpList_range_own _ rfl _ 152 rfl 9 71 keyed Tryz.underlying152 (heldP shpB) bs l.length (DK l) rfl hs' ?_; intro w0 hrg0 hg0 hs0))
    go_frame
    go_loopw [8] (fun _ wr => ∃ (left : Lit → Bool) (cnt : Nat) (Dout : DataW Value), wr.ranges Tryz.prog 9 (heldP shpB) bs w.heap.size l.length (DK l) left cnt ∧ cnt ≤ l.length ∧
        wr.ownsMap Tryz.prog 9 (heldP shpB) bd (l.length - cnt) Dout ∧ Agree Dout (DK l) left ∧ Only [bd] w wr)
      (fun _ wr => wr.rangeLeft bs w.heap.size)
    case atStart =>
      exact ⟨_, _, .map [], hrg0, by rw [hsz]; exact Nat.le_refl _, (hd'.kept hg0 (by simp)).mono (by omega), agree_start _, (Only.of_grown hg0).mono (fun x hx => by simp at hx)⟩
    case round =>
      obtain ⟨left, cnt, Dout, hrg, hcs, hout, hA, hgw⟩ := hrel
      go_wp2_with (first
        | (at_next; refine wpList_next_ranges _ rfl _ rfl 9 keyed (heldP shpB) id id (fun key _ _ => ⟨key, rfl⟩) (fun v _ _ => ⟨v, rfl⟩) bs w.heap.size l.length _ _ _ rfl hrg ?_ ?_)
        | go_in)
      · intro hc0 hl0
        go_wp2
        go_end0
        subst hc0
        have e := agree_end hA hl0 (hout.canon keyed) HCL.out
        subst e
        exact ⟨rfl, KvAt.of hout, hgw⟩
      · intro x c kl yd yp w1 cnt1 hkey hlx hv hat hrg1 hlt hg1 hs1 hen
        have hout1 := hout.kept hg1 (fun e => by have := Option.some.inj e; omega)
        obtain ⟨hc1, hc2⟩ := heldP_inv hv
        obtain ⟨vs, vv, vx, vA, vn, vc, rfl⟩ := arrB (v := c) hc1
        have hg1' : Only [bd] w w1 := hgw.trans (Only.of_grown hg1) (fun x hx => .inr (by simp at hx; omega))
        have HZZ := Lib.hid hs1
        have HLT := Lib.hid hlt
        have hbd1 : bd < w1.heap.size := hout1.lt
        clear hs1 hlt
        have hout2 := hout1.alloc (.cells #[.string vs, .int .i64 vv, .int .i64 vx, .slice vA vn vc] 71)
        go_wp2_with (first
          | (at_mapUpdate; refine wpList_mapUpdate_own _ rfl _ _ _ 152 rfl 9 71 keyed Tryz.underlying152 (heldP shpB) bd _ Dout rfl hout2 (by unfold maxLen; omega) _ _ kl rfl rfl hkey yd yp hv ?_; intro w3 hout3 hg3; go_frame)
          | go_in)
        have hrg3 := (hrg1.kept (World.grownBy_alloc w1 (.cells #[.string vs, .int .i64 vv, .int .i64 vx, .slice vA vn vc] 71) none) (by simp) (by simp)).kept hg3 (fun e => hbne (Option.some.inj e).symm) (fun e => by have := Option.some.inj e; omega)
        go_roundw
        case rel =>
          refine ⟨_, cnt1, _, hrg3, by have := HLT.out; omega, hout3.mono (by have := HLT.out; omega), agree_step hA hout2.isMap (keyed.key hkey) hat, ?_⟩
          exact (hg1'.alloc _).trans (Only.of_grown hg3) (fun x hx => .inl (by simpa using hx))
        case measure => rw [hrg3.left_eq, hrg.left_eq]; exact HLT.out
theorem mkB (q : Int) (w : World) : (Instr.makeMap 152 (some (.int .i64 q))).run Tryz.prog w = .ok (.map (some w.heap.size)) (w.alloc (.map #[] 0)) := by
  simp [Instr.makeMap, run_underlying Tryz.underlying152, asInt, go_sem, Result.andThen]
def WithedB (w : World) (l : List Kv) (e : Ending) (w' : World) : Prop := ∃ m', e = .returned (.map (some m')) ∧ KvAt shpB w' m' l ∧ Only [] w w' ∧ w.heap.size ≤ m'
set_option maxRecDepth 100000 in
theorem withB_any {w : World} {mb : Option Nat} {l : List Kv} (h : KvIs shpB w mb l) (s : ByteArray) (hs : s.size ≤ maxLen) (s2 : ByteArray) (vl nx : Int) (A : Option Addr) (n2 c : Nat) (hl : l.length ≤ 100000) :
    Calls Tryz.prog 198 #[.map mb, .string s, .agg #[.string s2, .int .i64 vl, .int .i64 nx, .slice A n2 c]] w (WithedB w (putL Prod.fst (s, .agg #[.string s2, .int .i64 vl, .int .i64 nx, .slice A n2 c]) l)) := by
  have hk := key_of s hs
  have ho : Only [] w (w.alloc (.cells #[.string s2, .int .i64 vl, .int .i64 nx, .slice A n2 c] 71)) := (Only.refl [] w).alloc _
  have hln := lenB (h.keep ho)
  have HW : Hid (IntKind.i64.wrap ((l.length : Int) + 1) = (l.length : Int) + 1) := IntWalk.i64_in _ (by omega)
  have hw64 := HW.out
  have ho2 : Only [] w ((w.alloc (.cells #[.string s2, .int .i64 vl, .int .i64 nx, .slice A n2 c] 71)).alloc (.map #[] 0)) := ho.alloc _
  have hd : KvAt shpB ((w.alloc (.cells #[.string s2, .int .i64 vl, .int .i64 nx, .slice A n2 c] 71)).alloc (.map #[] 0)) (w.heap.size + 1) [] := by
    have := World.ownsMap_made (w.alloc (.cells #[.string s2, .int .i64 vl, .int .i64 nx, .slice A n2 c] 71)) Tryz.prog 9 (heldP shpB)
    rw [World.size_alloc] at this
    exact this
  have HC := Lib.hid (copyB_any hd (h.keep ho2) (fun e => by have := h.lt _ e; omega) (by omega))
  have hB := (Bk.new w 71 #[.string s2, .int .i64 vl, .int .i64 nx, .slice A n2 c]).alloc (.map #[] 0)
  have HO2 := Lib.hid ho2
  have HKV := Lib.hid (put_DK (s, .agg #[.string s2, .int .i64 vl, .int .i64 nx, .slice A n2 c]) l)
  have hnl : 0 ≤ (l.length : Int) + 1 := by omega
  have HL2 : Hid (l.length ≤ 100000) := hl
  have hmk := fun (q : Int) (W : World) => mkB q W
  generalize l.length = n at hln HW hw64 hl hnl
  clear h ho ho2 hd
  go_enter Tryz.func198, Tryz.ntmps198
  go_wp2_with (first
    | (go_at_call 227; go_must (refine HC.out.mono ?_); rintro e w3 ⟨rfl, K3, O3⟩; have B3 := hB.only O3 (by simp); have c0 := B3.cell 0; have c1 := B3.cell 1; have c2 := B3.cell 2; have c3 := B3.cell 3; have lb := B3.lt)
    | (at_mapUpdate; refine wpList_mapUpdate_own _ rfl _ _ _ 152 rfl 9 71 keyed Tryz.underlying152 (heldP shpB) (w.heap.size + 1) l.length (DK l) rfl K3 (by have := HL2.out; unfold maxLen; omega) _ _ (keyLit s) rfl rfl hk (.held (.agg #[.string s2, .int .i64 vl, .int .i64 nx, .slice A n2 c])) [] rfl ?_; intro w4 hout4 hg4; go_frame))
  go_ret
  rw [HKV.out] at hout4
  exact ⟨_, rfl, KvAt.of hout4, ((HO2.out.mono (ss := [w.heap.size + 1]) (fun _ hx => nomatch hx)).trans O3 (fun x hx => .inl hx)).trans (Only.of_grown hg4) (fun x hx => .inl (by simpa using hx)) |>.mono (fun x hx => .inr (by simp at hx; omega)), Nat.le_succ _⟩
end Go.Proofs.YtgnilldcfpgpaaaGreatDoor
namespace Go.Proofs.YtgnilldcfpgpaaaGreatDoor
open Go.RowKit Go.Maps Go.Sort Go.Shelf
set_option maxHeartbeats 2000000 in
set_option maxRecDepth 100000 in
theorem cloneB_any {w : World} {b : Nat} {l : List Kv} (h : KvAt shpB w b l) : Calls Tryz.prog 197 #[.map (some b)] w fun e w' => e = .returned (.map (some w.heap.size)) ∧ KvAt shpB w' w.heap.size l ∧ Only [] w w' := by
  obtain ⟨es, clock, hb, F, hs, hD⟩ := h
  have hlt : b < w.heap.size := lt_of_block hb
  have hq := fun w => run_eql_map_nil_sl (P := Tryz.prog) w 152 _ _ (some b) Tryz.underlying152
  have HK : Hid (KvAt shpB (w.alloc (.map es clock)) w.heap.size l) := ⟨es, clock, (MapKept.heap_alloc w _).1, F, hs, hD⟩
  clear F hs hD
  go_enter Tryz.func197, Tryz.ntmps197
  go_wp2
  rw [run_callFunc_extern Tryz.func226 (by kernel_rfl) (by kernel_rfl) (by kernel_rfl) (e := Extern.MapsClone.clone) (by kernel_rfl), run_maps_clone_sl w 152 hb]
  simp only [Result.andThen]
  rw [Oper.upon_value]
  go_wp2
  rw [run_typeAssert_map_sl _ 152 20 _ _ _ Tryz.underlying152]
  simp only [Result.andThen]
  rw [Oper.upon_value]
  go_wp2
  go_ret
  exact ⟨rfl, HK.out, (Only.refl [] w).alloc _⟩
set_option maxRecDepth 100000 in
theorem withoutB_any {w : World} {b : Nat} {l : List Kv} (h : KvAt shpB w b l) (s : ByteArray) (hs : s.size ≤ maxLen) :
    Calls Tryz.prog 153 #[.map (some b), .string s] w (WithedB w (delL Prod.fst l s)) := by
  have hk := key_of s hs
  have HC := Lib.hid (cloneB_any h)
  have HDL := Lib.hid (del_DK l s)
  clear h
  go_enter Tryz.func153, Tryz.ntmps153
  go_wp2_with (first
    | (go_at_call 197; go_must (refine HC.out.mono ?_); rintro e w2 ⟨rfl, K2, O2⟩)
    | (at_delete; refine wpList_delete_own _ rfl _ _ 152 9 rfl 71 keyed Tryz.underlying152 (heldP shpB) w.heap.size l.length (DK l) rfl K2 _ (keyLit s) rfl hk ?_; intro w3 hout3 hturn3))
  go_ret
  rw [HDL.out] at hout3
  exact ⟨_, rfl, KvAt.of hout3, O2.trans (rs := []) (Only.of_grown hturn3.grown) (fun x hx => .inr (by simp at hx; omega)), Nat.le_refl _⟩
end Go.Proofs.YtgnilldcfpgpaaaGreatDoor
