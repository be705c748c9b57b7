/-
  disk's inner functions that only look, or write one number: begin, done, find, fits.
-/
import Derived.Test.YtblggoneifmoeaaDoorDWords
import Derived.Test.YtblggoneifmoeaaDoorQuiet
import Derived.WalkKit
import Derived.Deep.QuietTactic
import Derived.BigQuiet
import Derived.Handy
import Derived.IntWalk
import Derived.Deep.DeepMust
namespace Go.Proofs.YtblggoneifmoeaaDoor
open Go.RowKit Go.Maps

/-- begin's answer. -/
def errD (fz : Bool) (lf : Nat) (ss : List ByteArray) : Nat := if fz = true ∧ lf = 0 then 9 else if ss.all okName then 0 else 1
theorem errB_errD {S : St} {lf : Nat} (h : ∀ k, S.fuse = some k → lf = k) (ss : List ByteArray) : errB S ss = errD S.fuse.isSome lf ss := by
  unfold errB errD
  cases hS : S.fuse with
  | none => simp
  | some k =>
    have := h k hS
    subst this
    simp
theorem ok_true {s : ByteArray} (h1 : 1 ≤ s.size) (h2 : s.size ≤ 64) : okName s = true := by simp [okName, h1, h2]
theorem ok_false {s : ByteArray} (h : ¬ (1 ≤ s.size ∧ s.size ≤ 64)) : okName s = false := by unfold okName; exact decide_eq_false h
theorem all_take {ss : List ByteArray} {k : Nat} (hk : k < ss.length) (h : ∀ s ∈ ss.take k, okName s = true) (h' : okName ss[k] = true) : ∀ s ∈ ss.take (k + 1), okName s = true := by
  intro s hs
  rw [List.take_succ_eq_append_getElem hk] at hs
  rcases List.mem_append.1 hs with h1 | h1
  · exact h s h1
  · simp at h1
    rw [h1]
    exact h'

section
variable {w : World} {d room u lf : Nat} {fz : Bool} {mb : Option Nat} {cs : List Fc}

theorem begin_any (h : Dk w d room u fz lf mb cs) (A : Option Addr) (n c : Nat) (ss : List ByteArray) (hs : Sl w A n (ss.map Value.string)) (hn : n ≤ 4611686018427387904) :
    Calls Tryd.prog 48 #[.pointer (some ⟨d, 0, none⟩), .slice A n c] w fun e w' => e = .returned (.int .i64 (errD fz lf ss : Nat)) ∧ w = w' := by
  obtain ⟨_, _, _, c3, c4⟩ := h.cell
  have hl : ss.length = n := by simpa using hs.len
  by_cases hd : fz = true ∧ lf = 0
  · have he : errD fz lf ss = 9 := if_pos hd
    rw [he]
    obtain ⟨rfl, rfl⟩ := hd
    clear he h
    go_enter Tryd.func48, Tryd.ntmps48
    go_wp2
    go_ret
    exact ⟨rfl, rfl⟩
  · have he : errD fz lf ss = if ss.all okName then 0 else 1 := if_neg hd
    rw [he]
    have hfz : fz = false ∨ (fz = true ∧ ((lf : Int) == 0) = false) := by
      cases fz
      · exact .inl rfl
      · refine .inr ⟨rfl, ?_⟩
        rw [beq_eq_false_iff_ne]
        intro e
        exact hd ⟨rfl, by omega⟩
    clear he hd h
    obtain ⟨E, hE⟩ : ∃ E, E = if ss.all okName then 0 else 1 := ⟨_, rfl⟩
    rw [← hE]
    have HE := Lib.hid hE
    clear hE
    rcases hfz with rfl | ⟨rfl, hlf⟩
    all_goals
      go_enter Tryd.func48, Tryd.ntmps48
      go_wp2
      go_loop [22] (fun i => ∃ k : Nat, k ≤ n ∧ i = .int .i64 k ∧ Hid (∀ s ∈ ss.take k, okName s = true)) (fun i => n - (intOf i).toNat)
      case atStart => exact ⟨0, Nat.zero_le _, rfl, fun s hs => by simp at hs⟩
      case round =>
        obtain ⟨k, hk, rfl, HK⟩ := hrel
        by_cases hlt : k < n
        · obtain ⟨ad, v, rfl, hv, hcell⟩ := hs.at_ hlt
          have hkl : k < ss.length := by omega
          obtain ⟨s, hsd⟩ : ∃ s, s = ss[k]'hkl := ⟨_, rfl⟩
          have hv' : v = .string s := by
            rw [List.getElem?_map, List.getElem?_eq_getElem hkl] at hv
            rw [hsd]
            simpa using hv.symm
          subst hv'
          have HS := Lib.hid hsd
          clear hv hsd
          by_cases h1 : 1 ≤ s.size
          · by_cases h2 : s.size ≤ 64
            · have HK' : Hid (∀ s ∈ ss.take (k + 1), okName s = true) := all_take hkl HK.out (by rw [← HS.out]; exact ok_true h1 h2)
              go_wp2
              go_round
              case rel => exact ⟨k + 1, by omega, by go_num, HK'⟩
              case measure => simp [intOf]; omega
            · have h2' : (64 : Int) < (s.size : Int) := by omega
              have HB : Hid (E = 1) := by
                show E = 1
                rw [HE.out, if_neg]
                intro ha
                rw [List.all_eq_true] at ha
                have := ha s (by rw [HS.out]; exact List.getElem_mem _)
                rw [ok_false (by omega)] at this
                cases this
              go_wp2
              go_ret
              exact ⟨by rw [HB.out]; rfl, rfl⟩
          · have h1' : (s.size : Int) < 1 := by omega
            have HB : Hid (E = 1) := by
              show E = 1
              rw [HE.out, if_neg]
              intro ha
              rw [List.all_eq_true] at ha
              have := ha s (by rw [HS.out]; exact List.getElem_mem _)
              rw [ok_false (by omega)] at this
              cases this
            go_wp2
            go_ret
            exact ⟨by rw [HB.out]; rfl, rfl⟩
        · have HB : Hid (E = 0) := by
            show E = 0
            have := HK.out
            rw [List.take_of_length_le (by omega)] at this
            rw [HE.out, if_pos (List.all_eq_true.2 this)]
          go_wp2
          go_ret
          exact ⟨by rw [HB.out]; rfl, rfl⟩

theorem begin_nil (w : World) (A : Option Addr) (n c : Nat) : Calls Tryd.prog 48 #[.pointer none, .slice A n c] w fun e w' => e = .returned (.int .i64 1) ∧ w = w' := by
  go_enter Tryd.func48, Tryd.ntmps48
  go_wp2
  go_ret
  exact ⟨rfl, rfl⟩

/-- One more is done: the fuse's number is one less. -/
theorem done_any (hk0 : Dk w d room u fz lf mb cs) (hf : fz = true → lf ≠ 0) :
    Calls Tryd.prog 33 #[.pointer (some ⟨d, 0, none⟩)] w fun e w' => e = .returned (.tuple #[]) ∧ Dk w' d room u fz (if fz then lf - 1 else lf) mb cs ∧ Only [d] w w' := by
  obtain ⟨_, _, _, c3, c4⟩ := hk0.cell
  have f4 := hk0.bk.free 4
  cases fz
  · go_enter Tryd.func33, Tryd.ntmps33
    go_wp2
    go_end0
    exact ⟨rfl, hk0, Only.refl _ _⟩
  · have hlf := hf rfl
    have b := hk0.lf'
    obtain ⟨k, rfl⟩ : ∃ k, lf = k + 1 := ⟨lf - 1, by omega⟩
    have hk := hk0.setLeft k (by omega)
    have hx : ((k + 1 : Nat) : Int) - 1 = (k : Int) := by omega
    have hx0 : ((k + 1 : Nat) : Int) = (k : Int) + 1 := by omega
    rw [hx0] at c4
    have hx1 : (k : Int) + 1 - 1 = (k : Int) := by omega
    clear hx hx0 hlf hf
    have HK := Lib.hid hk
    clear hk hk0
    go_enter Tryd.func33, Tryd.ntmps33
    go_wp2
    go_end0
    exact ⟨rfl, HK.out, (Only.refl _ _).setCell (.inl (by simp)) _⟩

/-! ### A look-up -/
theorem zero_ptr (w : World) : (zeroValue 62).run Tryd.prog w = .ok (.pointer none) w := by kernel_rfl
theorem look_none (hm : MapIs w mb cs) {s : ByteArray} (hs : s.size ≤ maxLen) (hc : findC cs s = none) : (Instr.lookup 51 (.map mb) (.string s) false).run Tryd.prog w = .ok (.pointer none) w := by
  have hk := key_of s hs
  cases mb with
  | none => simpa using Maps.look_nil false keyed Tryd.underlying51 (zero_ptr w) hk
  | some m =>
    obtain ⟨v, ps, hr, hv⟩ := World.ownsMap.lookup hm keyed Tryd.underlying51 (zero_ptr w) ptrElem_nil hk
    rw [atKey_dm, hc] at hv
    rw [hr, ptrElem_nil_inv hv]
theorem look_hit (hm : MapIs w mb cs) {s : ByteArray} (hs : s.size ≤ maxLen) {c : Fc} (hc : findC cs s = some c) : (Instr.lookup 51 (.map mb) (.string s) false).run Tryd.prog w = .ok (.pointer (some ⟨c.blk, 0, none⟩)) w := by
  have hk := key_of s hs
  cases mb with
  | none =>
    have : cs = [] := hm
    subst this
    cases hc
  | some m =>
    obtain ⟨v, ps, hr, hv⟩ := World.ownsMap.lookup hm keyed Tryd.underlying51 (zero_ptr w) ptrElem_nil hk
    rw [atKey_dm, hc] at hv
    rw [hr, ptrElem_some_inv hv]

/-- One name in a block of its own. -/
theorem sl_name (w : World) (s : ByteArray) : Sl (w.alloc (.cells #[.string s] 9)) (some ⟨w.heap.size, 0, none⟩) 1 ([s].map Value.string) := Sl.of_new w #[.string s] _ _
theorem errD_one {s : ByteArray} (h : errD fz lf [s] = 0) : 1 ≤ s.size ∧ s.size ≤ 64 ∧ (fz = true → lf ≠ 0) := by
  unfold errD at h
  split at h
  · cases h
  · rename_i hn
    split at h
    · rename_i ha
      simp [okName] at ha
      exact ⟨ha.1, ha.2, fun h1 h2 => hn ⟨h1, h2⟩⟩
    · cases h
theorem find_err (hk : Dk w d room u fz lf mb cs) (s : ByteArray) {r : Nat} (hr : errD fz lf [s] = r) (h0 : r ≠ 0) :
    Calls Tryd.prog 32 #[.pointer (some ⟨d, 0, none⟩), .string s] w fun e w' => e = .returned (.tuple #[.pointer none, .int .i64 r]) ∧ Only [] w w' := by
  have HB := begin_any (hk.keep ((Only.refl [] w).alloc (.cells #[.string s] 9))) (some ⟨w.heap.size, 0, none⟩) 1 1 [s] (sl_name w s) (by omega)
  rw [hr] at HB
  have hrb : ((r : Int) != 0) = true := by rw [bne_iff_ne]; omega
  clear hr hk
  go_enter Tryd.func32, Tryd.ntmps32
  go_wp2_with (go_at_call 48; refine HB.mono ?_; rintro e w1 ⟨rfl, rfl⟩)
  go_ret2
  exact ⟨rfl, (Only.refl _ _).alloc _⟩
set_option maxRecDepth 100000 in
theorem find_none (hk : Dk w d room u fz lf mb cs) (s : ByteArray) (hr : errD fz lf [s] = 0) (hc : findC cs s = none) :
    Calls Tryd.prog 32 #[.pointer (some ⟨d, 0, none⟩), .string s] w fun e w' => e = .returned (.tuple #[.pointer none, .int .i64 7]) ∧ Only [] w w' := by
  have hk1 := hk.keep ((Only.refl [] w).alloc (.cells #[.string s] 9))
  have HB := begin_any hk1 (some ⟨w.heap.size, 0, none⟩) 1 1 [s] (sl_name w s) (by omega)
  rw [hr] at HB
  have hl := look_none hk1.map (by have := (errD_one hr).2.1; unfold maxLen; omega) hc
  obtain ⟨_, _, c2, _, _⟩ := hk.cell
  have hd := hk.bk.lt
  clear hr hk hk1 hc
  go_enter Tryd.func32, Tryd.ntmps32
  go_wp2_with (go_at_call 48; refine HB.mono ?_; rintro e w1 ⟨rfl, rfl⟩)
  go_ret2
  exact ⟨rfl, (Only.refl _ _).alloc _⟩
set_option maxRecDepth 100000 in
theorem find_hit (hk : Dk w d room u fz lf mb cs) (s : ByteArray) (hr : errD fz lf [s] = 0) {c : Fc} (hc : findC cs s = some c) :
    Calls Tryd.prog 32 #[.pointer (some ⟨d, 0, none⟩), .string s] w fun e w' => e = .returned (.tuple #[.pointer (some ⟨c.blk, 0, none⟩), .int .i64 0]) ∧ Only [] w w' := by
  have hk1 := hk.keep ((Only.refl [] w).alloc (.cells #[.string s] 9))
  have HB := begin_any hk1 (some ⟨w.heap.size, 0, none⟩) 1 1 [s] (sl_name w s) (by omega)
  rw [hr] at HB
  have hl := look_hit hk1.map (by have := (errD_one hr).2.1; unfold maxLen; omega) hc
  obtain ⟨_, _, c2, _, _⟩ := hk.cell
  have hd := hk.bk.lt
  clear hr hk hk1 hc
  go_enter Tryd.func32, Tryd.ntmps32
  go_wp2_with (go_at_call 48; refine HB.mono ?_; rintro e w1 ⟨rfl, rfl⟩)
  go_ret2
  exact ⟨rfl, (Only.refl _ _).alloc _⟩
theorem find_nil (w : World) (s : ByteArray) : Calls Tryd.prog 32 #[.pointer none, .string s] w fun e w' => e = .returned (.tuple #[.pointer none, .int .i64 1]) ∧ Only [] w w' := by
  have HB := begin_nil (w.alloc (.cells #[.string s] 9)) (some ⟨w.heap.size, 0, none⟩) 1 1
  go_enter Tryd.func32, Tryd.ntmps32
  go_wp2_with (go_at_call 48; refine HB.mono ?_; rintro e w1 ⟨rfl, rfl⟩)
  go_ret2
  exact ⟨rfl, (Only.refl _ _).alloc _⟩

set_option maxRecDepth 100000 in
/-- Is there room for all rows? -/
theorem fits_any (hk : Dk w d room u fz lf mb cs) (hu : u ≤ room) (A : Option Addr) (n c : Nat) (ls : List (List UInt8)) (hr : Rw w A n ls) (hn : n ≤ 4611686018427387904) (B : Bool) (hB : B = decide (u + ls.flatten.length ≤ room)) :
    Calls Tryd.prog 61 #[.pointer (some ⟨d, 0, none⟩), .slice A n c] w (Quiet w (.bool B)) := by
  obtain ⟨c0, c1, _, _, _⟩ := hk.cell
  have b0 := hk.room'
  have hlen := hr.len
  have HB := Lib.hid hB
  clear hB hk
  have hx : IntKind.i64.wrap ((room : Int) - u) = (room : Int) - u := IntWalk.i64_in _ (by omega)
  obtain ⟨fr0, hfr⟩ : ∃ fr0 : Nat, (room : Int) - u = fr0 := ⟨room - u, by omega⟩
  rw [hfr] at hx
  have h0 : fr0 + catLen ls 0 + u = room := by rw [catLen_zero]; omega
  have H0 := Lib.hid h0
  clear h0
  have hb : fr0 ≤ 1073741824 := by omega
  go_enter Tryd.func61, Tryd.ntmps61
  go_wp2
  go_quiet (fail)
  have HF := Lib.hid hfr
  clear hx hfr
  go_wp2
  go_loopw [19, 5] (fun i t wr => ∃ k fr : Nat, k ≤ n ∧ i = .int .i64 k ∧ t = .int .i64 fr ∧ Hid (fr + catLen ls k + u = room) ∧ fr ≤ 1073741824 ∧ ∃ m, wr = w.drewN m) (fun i _ _ => n - (intOf i).toNat)
  case atStart => exact ⟨0, fr0, Nat.zero_le _, rfl, rfl, H0, hb, _, rfl⟩
  case round =>
    obtain ⟨k, fr, hk, rfl, rfl, HS, hfb, m0, rfl⟩ := hrel
    by_cases hlt : k < n
    · obtain ⟨ad, Ai, ci, rfl, hcell, _⟩ := hr.at_ hlt (by omega)
      have hsucc := catLen_succ ls k (by omega)
      have hle := catLen_le ls (k + 1)
      obtain ⟨m, hm⟩ : ∃ m, m = (ls[k]'(by omega)).length := ⟨_, rfl⟩
      rw [← hm] at hcell hsucc
      have HC := Lib.hid hsucc
      have HL := Lib.hid hle
      clear hsucc hle hm
      by_cases hgt : fr < m
      · have hgt' : (fr : Int) < (m : Int) := by omega
        have hF : Hid (B = false) := by
          show B = false
          rw [HB.out, decide_eq_false_iff_not]
          have h1 := HS.out
          have h2 := HC.out
          have h3 := HL.out
          omega
        go_wp2
        go_ret
        exact ⟨by rw [hF.out]; rfl, _, rfl⟩
      · have hgt' : (m : Int) ≤ (fr : Int) := by omega
        obtain ⟨fr', hfr'⟩ : ∃ fr', fr = m + fr' := ⟨fr - m, by omega⟩
        have HS' : Hid (fr' + catLen ls (k + 1) + u = room) := by
          show _ = _
          have h1 := HS.out
          have h2 := HC.out
          omega
        have hsub : ((fr : Int) - (m : Int)) = (fr' : Int) := by omega
        have hb' : fr' ≤ 1073741824 := by omega
        have HSub := Lib.hid hsub
        clear hsub hfr'
        go_wp2
        go_roundw
        case rel => exact ⟨k + 1, fr', by omega, by go_num, by rw [HSub.out], HS', hb', _, rfl⟩
        case measure => simp [intOf]; omega
    · have hT : Hid (B = true) := by
        show B = true
        rw [HB.out, decide_eq_true_iff]
        have h1 := HS.out
        rw [catLen_all ls (by omega)] at h1
        omega
      go_wp2
      go_ret
      exact ⟨by rw [hT.out]; rfl, _, rfl⟩
end
end Go.Proofs.YtblggoneifmoeaaDoor
