/-
  box: a name, the document's.
-/
import Derived.Test.YthaodlegpjedoaaVLeaf
import Derived.Lib.OthersKept
import Derived.Shelf.Abstract
import Derived.Deep.LoopGhost
import Derived.Laws.RangeAny
namespace Go.Proofs.Ythaodlegpjedoaa
open Go.RowKit Go.Instr

/-! ### Names -/
def okr (r : Nat) : Bool := (decide (97 ≤ r) && decide (r ≤ 122)) || (decide (48 ≤ r) && decide (r ≤ 57))
set_option maxRecDepth 100000 in
theorem Name1_any (r : Nat) (w : World) : Calls Try.prog 60 #[.int .i32 (r : Int)] w fun e w' => e = .returned (.bool (!okr r)) ∧ w = w' := by
  obtain ⟨q, hq⟩ : ∃ q, (!okr r) = q := ⟨_, rfl⟩
  rw [hq]
  have key : ∀ b, okr r = b → Hid (q = !b) := fun b h => by show _ = _; rw [← hq, h]
  have yes : okr r = true ↔ (97 ≤ r ∧ r ≤ 122) ∨ (48 ≤ r ∧ r ≤ 57) := by simp [okr]
  have no : ¬ ((97 ≤ r ∧ r ≤ 122) ∨ (48 ≤ r ∧ r ≤ 57)) → okr r = false := fun h => by rw [Bool.eq_false_iff]; exact fun e => h (yes.1 e)
  by_cases h1 : r < 48
  · have HQ := key _ (no (by omega))
    have i1 : (r : Int) < 97 := by omega
    have i2 : (r : Int) < 48 := by omega
    clear hq key yes no h1
    go_enter Try.func60, Try.ntmps60
    go_wp2
    go_ret
    exact ⟨by rw [HQ.out]; rfl, rfl⟩
  · by_cases h2 : r ≤ 57
    · have HQ := key _ (yes.2 (by omega))
      have i1 : (r : Int) < 97 := by omega
      have i2 : ¬ (r : Int) < 48 := by omega
      have i3 : ¬ (57 : Int) < (r : Int) := by omega
      clear hq key yes no h1 h2
      go_enter Try.func60, Try.ntmps60
      go_wp2
      go_ret
      exact ⟨by rw [HQ.out]; rfl, rfl⟩
    · by_cases h3 : r < 97
      · have HQ := key _ (no (by omega))
        have i1 : (r : Int) < 97 := by omega
        have i2 : ¬ (r : Int) < 48 := by omega
        have i3 : (57 : Int) < (r : Int) := by omega
        clear hq key yes no h1 h2 h3
        go_enter Try.func60, Try.ntmps60
        go_wp2
        go_ret
        exact ⟨by rw [HQ.out]; rfl, rfl⟩
      · have i1 : ¬ (r : Int) < 97 := by omega
        have i2 : ¬ (r : Int) < 48 := by omega
        have i3 : (57 : Int) < (r : Int) := by omega
        by_cases h4 : r ≤ 122
        · have HQ := key _ (yes.2 (by omega))
          have i4 : ¬ (122 : Int) < (r : Int) := by omega
          clear hq key yes no h1 h2 h3 h4
          go_enter Try.func60, Try.ntmps60
          go_wp2
          go_ret
          exact ⟨by rw [HQ.out]; rfl, rfl⟩
        · have HQ := key _ (no (by omega))
          have i4 : (122 : Int) < (r : Int) := by omega
          clear hq key yes no h1 h2 h3 h4
          go_enter Try.func60, Try.ntmps60
          go_wp2
          go_ret
          exact ⟨by rw [HQ.out]; rfl, rfl⟩
theorem enters_Name1 : ∀ args w, (callFunc 60 args).run Try.prog w = .ok (.enter 60 args) w := Go.Proofs.enters_of Try.func60 (by kernel_rfl) rfl
/-- What a range over a text meets at a place: a rune that is a letter or digit just where the byte is. -/
theorem rune_ok (s : ByteArray) (pos : Nat) (h : pos < s.size) : okr (Utf8.decode s pos).1 = okc (s[pos]'h) ∧ (okc (s[pos]'h) = true → (Utf8.decode s pos).2 = 1) := by
  by_cases ha : (s[pos]'h).toNat < 128
  · rw [decode_ascii s pos h ha]
    exact ⟨rfl, fun _ => rfl⟩
  · have hd := decode_high s pos h (by omega)
    have h1 : okc (s[pos]'h) = false := by unfold okc; simp; omega
    have h2 : okr (Utf8.decode s pos).1 = false := by unfold okr; simp; omega
    rw [h1, h2]
    exact ⟨rfl, fun e => by cases e⟩
theorem all_take_succ {s : List UInt8} {k : Nat} (h : k < s.length) : (s.take (k + 1)).all okc = ((s.take k).all okc && okc s[k]) := by
  rw [List.take_succ_eq_append_getElem h, List.all_append]
  simp
theorem all_bad {s : List UInt8} {k : Nat} (h : k < s.length) (hb : okc s[k] = false) : s.all okc = false := by
  rw [List.all_eq_false]
  exact ⟨s[k], List.getElem_mem h, by rw [hb]; simp⟩
set_option maxHeartbeats 2000000 in
set_option maxRecDepth 1000000 in
theorem indexFunc_any (s : ByteArray) (w : World) : Calls Try.prog 87 #[.string s, .func (.func 60) #[] #[], .bool true] w fun e w' => ∃ I : Int, e = .returned (.int .i64 I) ∧ Hid (decide (0 ≤ I) = !(s.data.toList.all okc)) ∧ Only [] w w' := by
  have eg := enters_Name1
  go_enter Try.func87, Try.ntmps87
  go_wp2
  go_loopg [] s.size (fun gf wx => ∃ pos : Nat, wx.heap[w.heap.size]? = some (.stringIter s pos) ∧ Below w.heap.size w wx ∧ Hid ((s.data.toList.take pos).all okc = true) ∧ pos ≤ s.size ∧ s.size ≤ pos + gf)
  case atStart => exact ⟨0, World.iter_heap w s 0, (Below.refl _ w).alloc (Nat.le_refl _) _, by show _ = _; simp, Nat.zero_le _, by omega⟩
  case round =>
    obtain ⟨pos, hit, hbw, HA, hle, hfu⟩ := hrel
    by_cases hps : pos < s.size
    · obtain ⟨g', rfl⟩ : ∃ g', gk = g' + 1 := ⟨gk - 1, by omega⟩
      have hnx : ∀ ty, (Instr.next (.pointer (some ⟨w.heap.size, 0, none⟩)) true ty).run Try.prog wr = _ := fun ty => Lib.run_next_any_at wr w.heap.size s pos ty hit hps
      obtain ⟨hr1, hr2⟩ := rune_ok s pos hps
      have hpl : pos < s.data.toList.length := by rw [Array.length_toList]; exact hps
      have hge : s.data.toList[pos] = s[pos]'hps := by rw [Array.getElem_toList]; rfl
      have hsuc := all_take_succ hpl
      have hbad := all_bad hpl
      rw [hge] at hsuc hbad
      obtain ⟨R, hR⟩ : ∃ R, (Utf8.decode s pos).1 = R := ⟨_, rfl⟩
      obtain ⟨K, hK⟩ : ∃ K, (Utf8.decode s pos).2 = K := ⟨_, rfl⟩
      rw [hR] at hr1
      rw [hK] at hr2
      rw [hR, hK] at hnx
      have hit2 := Lib.iterAt_heap wr w.heap.size s pos (pos + K) hit
      have hbw2 := Lib.below_iterAt hbw (k := w.heap.size) (Nat.le_refl _) s (pos + K)
      obtain ⟨W, hWd⟩ : ∃ W, wr.iterAt w.heap.size s (pos + K) = W := ⟨_, rfl⟩
      rw [hWd] at hnx hit2 hbw2
      have cS := Name1_any R W
      rw [hr1] at cS
      obtain ⟨b, hb⟩ : ∃ b, okc (s[pos]'hps) = b := ⟨_, rfl⟩
      rw [hb] at cS hr2 hsuc hbad
      cases b
      · have HE : Hid (decide ((0 : Int) ≤ (pos : Int)) = !(s.data.toList.all okc)) := by
          show _ = _
          rw [hbad rfl]
          exact decide_eq_true (by omega)
        clear hbad hsuc hr1 hr2 hb hge hR hK hWd
        go_wp2_with (go_at_fn 60; refine cS.mono ?_; rintro e W' ⟨rfl, rfl⟩)
        go_ret
        exact ⟨pos, rfl, HE.out, Only.of_below hbw2⟩
      · obtain rfl := hr2 rfl
        have HS : Hid ((s.data.toList.take (pos + 1)).all okc = true) := by show _ = _; rw [hsuc, HA.out]; rfl
        clear hbad hsuc hr1 hr2 hb hge hR hK hWd
        go_wp2_with (go_at_fn 60; refine cS.mono ?_; rintro e W' ⟨rfl, rfl⟩)
        go_roundg g'
        case measure => omega
        case rel => exact ⟨pos + 1, hit2, hbw2, HS, by omega, by omega⟩
    · have hend : ∀ ty, (Instr.next (.pointer (some ⟨w.heap.size, 0, none⟩)) true ty).run Try.prog wr = _ := fun ty => Lib.run_next_end_at wr w.heap.size s pos ty hit hps
      have HE : Hid (decide ((0 : Int) ≤ -1) = !(s.data.toList.all okc)) := by
        show _ = _
        have := HA.out
        rw [List.take_of_length_le (by rw [Array.length_toList]; exact Nat.le_of_not_lt hps)] at this
        rw [this]
        rfl
      go_wp2
      go_ret
      exact ⟨-1, rfl, HE.out, Only.of_below hbw⟩
theorem IndexFuncS_any (s : ByteArray) (w : World) : Calls Try.prog 82 #[.string s, .func (.func 60) #[] #[]] w fun e w' => ∃ I : Int, e = .returned (.int .i64 I) ∧ Hid (decide (0 ≤ I) = !(s.data.toList.all okc)) ∧ Only [] w w' := by
  have hI := indexFunc_any s w
  go_enter Try.func82, Try.ntmps82
  go_wp2_with (go_at_call 87; with_reducible refine hI.mono ?_; rintro e w2 ⟨I, rfl, HI, O2⟩)
  go_ret
  exact ⟨I, rfl, HI.out, O2⟩
theorem ContainsFuncS_any (s : ByteArray) (w : World) : Calls Try.prog 59 #[.string s, .func (.func 60) #[] #[]] w fun e w' => e = .returned (.bool (!(s.data.toList.all okc))) ∧ Only [] w w' := by
  have hI := IndexFuncS_any s w
  go_enter Try.func59, Try.ntmps59
  go_wp2_with (go_at_call 82; with_reducible refine hI.mono ?_; rintro e w2 ⟨I, rfl, HI, O2⟩)
  go_ret
  exact ⟨by rw [← HI.out]; rfl, O2⟩
set_option maxRecDepth 100000 in
theorem Name_any (s : List UInt8) (w : World) : Calls Try.prog 26 #[.string (St s)] w fun e w' => e = .returned (.bool (nameL s)) ∧ Only [] w w' := by
  have hC := ContainsFuncS_any (St s) w
  rw [St_list] at hC
  obtain ⟨q, hq⟩ : ∃ q, nameL s = q := ⟨_, rfl⟩
  rw [hq]
  have hs := St_size s
  by_cases h1 : 1 ≤ s.length
  · by_cases h2 : s.length ≤ 12
    · have HQ : Hid (q = s.all okc) := by show _ = _; rw [← hq]; unfold nameL; simp [h1, h2]
      have i1 : (1 : Int) ≤ ((St s).size : Int) := by omega
      have i2 : ((St s).size : Int) ≤ 12 := by omega
      clear hq hs h1 h2
      obtain ⟨p, hp⟩ : ∃ p, s.all okc = p := ⟨_, rfl⟩
      rw [hp] at hC HQ
      generalize St s = t at *
      clear hp
      cases p
      all_goals
        go_enter Try.func26, Try.ntmps26
        go_wp2_with (go_at_call 59; go_must (with_reducible refine hC.mono ?_); rintro e w2 ⟨rfl, O2⟩)
        go_ret
        exact ⟨by rw [HQ.out]; rfl, O2⟩
    · have HQ : Hid (q = false) := by show _ = _; rw [← hq]; unfold nameL; simp [h2]
      have i1 : (1 : Int) ≤ ((St s).size : Int) := by omega
      have i2 : ¬ ((St s).size : Int) ≤ 12 := by omega
      clear hq hs h1 h2 hC
      generalize St s = t at *
      go_enter Try.func26, Try.ntmps26
      go_wp2
      go_ret
      exact ⟨by rw [HQ.out]; rfl, Only.refl _ _⟩
  · have HQ : Hid (q = false) := by show _ = _; rw [← hq]; unfold nameL; simp [h1]
    have i1 : ¬ (1 : Int) ≤ ((St s).size : Int) := by omega
    clear hq hs h1 hC
    generalize St s = t at *
    go_enter Try.func26, Try.ntmps26
    go_wp2
    go_ret
    exact ⟨by rw [HQ.out]; rfl, Only.refl _ _⟩
end Go.Proofs.Ythaodlegpjedoaa
