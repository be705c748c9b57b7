/-
  Texts of the seat, laid one behind the other: VDec1 SLeaf Det SMay0 Crc Sum FrameS KeyL SKv.
-/
import Derived.Test.YtgnilldcfpgpaaaGreatDoorY3
import Derived.Test.YtgnilldcfpgpaaaGreatDoorY6
import Derived.Test.YtgnilldcfpgpaaaGreatDoorY4
import Derived.Test.YtgnilldcfpgpaaaGreatDoorY5
import Derived.Lib.OthersKept
import Derived.Shelf.Abstract
import Derived.Deep.LoopGhost
import Derived.Laws.RangeAny
import Derived.Test.YtgnilldcfpgpaaaGreatDoorY1
import Derived.Still
import Derived.WalkKit
import Derived.Handy
import Derived.Laws.BitsAllLaws
import Derived.Deep.DeepMust
import Derived.Lib.LaidTab
import Derived.JoinedCond
import Derived.Test.YtgnilldcfpgpaaaGreatDoorRows
import Derived.Maps.OwnSet
import Derived.Maps.RangeWalk
import Derived.Maps.Ext
namespace Go.Proofs.YtgnilldcfpgpaaaGreatDoor
open Go.RowKit Go.Instr
set_option maxRecDepth 100000 in
set_option maxHeartbeats 2000000 in
theorem rnumsF_any {w : World} {g kb s b0 b1 b2 o0 o1 o2 : Nat} {A : Option Addr} {c : Nat} {r : RS} (X : List Nat) (F : Nat → World → Prop) (h : Rd w g kb A c r.1 r.2)
    (hs : Bk w s 144 #[.pointer (some ⟨b0, o0, none⟩), .pointer (some ⟨b1, o1, none⟩), .pointer (some ⟨b2, o2, none⟩)]) (hb : b0 ∈ X ∧ b1 ∈ X ∧ b2 ∈ X) (hg : g ∉ X) (hk : kb ∉ X) (hsX : s ∉ X)
    (h0 : F 0 w) (keep : ∀ k W W', Only [g] W W' → F k W → F k W')
    (f0 : ∀ W, F 0 W → (∃ x, W.cell? ⟨b0, o0, none⟩ = some (.int .i64 x)) ∧ W.frozen? ⟨b0, o0, none⟩ = false ∧ F 1 (W.setCell ⟨b0, o0, none⟩ (.int .i64 (tv r))))
    (f1 : ∀ W, F 1 W → (∃ x, W.cell? ⟨b1, o1, none⟩ = some (.int .i64 x)) ∧ W.frozen? ⟨b1, o1, none⟩ = false ∧ F 2 (W.setCell ⟨b1, o1, none⟩ (.int .i64 (tv (tk r)))))
    (f2 : ∀ W, F 2 W → (∃ x, W.cell? ⟨b2, o2, none⟩ = some (.int .i64 x)) ∧ W.frozen? ⟨b2, o2, none⟩ = false ∧ F 3 (W.setCell ⟨b2, o2, none⟩ (.int .i64 (tv (tk (tk r)))))) :
    Calls Tryz.prog 67 #[.pointer (some ⟨g, 0, none⟩), .slice (some ⟨s, 0, none⟩) 3 3] w fun e w' => e = .returned (.tuple #[]) ∧ ∃ A' c', Rd w' g kb A' c' (tk (tk (tk r))).1 (tk (tk (tk r))).2 ∧ F 3 w' ∧ Only (g :: X) w w' := by
  have hsg : s ≠ g := hs.ne h.bk (by decide)
  have hsX' : s ∉ g :: X := fun hh => (List.mem_cons.1 hh).elim hsg hsX
  have H1 := Lib.hid f0
  have H2 := Lib.hid f1
  have H3 := Lib.hid f2
  have HK := Lib.hid keep
  have H0 := Lib.hid h0
  have HR0 := Lib.hid h
  have HX := Lib.hid hb
  clear f0 f1 f2 keep h0 hb h
  go_enter Tryz.func67, Tryz.ntmps67
  go_wp2
  go_loopw [9] (fun i wr => ∃ k : Nat, k ≤ 3 ∧ i = .int .i64 k ∧ ∃ (q : RS) (A' : Option Addr) (c' : Nat), q = (match k with | 0 => r | 1 => tk r | 2 => tk (tk r) | _ => tk (tk (tk r))) ∧ Rd wr g kb A' c' q.1 q.2 ∧ F k wr ∧ Only (g :: X) w wr) (fun i _ => 3 - (intOf i).toNat)
  case atStart => exact ⟨0, Nat.zero_le _, rfl, r, A, c, rfl, HR0.out, H0.out, Only.refl _ _⟩
  case round =>
    obtain ⟨k, hk3, rfl, q, A', c', hq, HR, HF, HO⟩ := hrel
    have HS := hs.only HO hsX'
    have s0 : wr.cell? ⟨s, 0, none⟩ = some (.pointer (some ⟨b0, o0, none⟩)) := by rw [HS.cell]; rfl
    have s1 : wr.cell? ⟨s, 1, none⟩ = some (.pointer (some ⟨b1, o1, none⟩)) := by rw [HS.cell]; rfl
    have s2 : wr.cell? ⟨s, 2, none⟩ = some (.pointer (some ⟨b2, o2, none⟩)) := by rw [HS.cell]; rfl
    have HNm := Lib.hid (num_any HR)
    have HQ := Lib.hid hq
    have HRO := Lib.hid HR
    clear hq HR HS
    obtain rfl | rfl | rfl | rfl : k = 0 ∨ k = 1 ∨ k = 2 ∨ k = 3 := by omega
    · obtain rfl := HQ.out
      go_wp2_with fail
      refine HNm.out.mono ?_
      rintro e w1 ⟨rfl, A1, c1, R1, O1⟩
      have F1 := HK.out 0 _ _ O1 HF
      obtain ⟨⟨y, ca⟩, fa, fb⟩ := H1.out _ F1
      have hlt := block_lt_of_cell ca
      simp only at hlt
      have HFB := Lib.hid fb
      have HRR := Lib.hid R1
      clear fb F1 R1
      go_wp2_with fail
      go_roundw
      case rel =>
        exact ⟨1, by omega, by go_num, tk q, A1, c1, rfl, HRR.out.only (rs := X) ((Only.refl _ _).setCell (.inl HX.out.1) _) hg hk, HFB.out, (HO.trans O1 (fun x hx => .inl (by simp at hx; simp [hx]))).setCell (.inl (List.mem_cons_of_mem _ HX.out.1)) _⟩
      case measure => simp [intOf]
    · obtain rfl := HQ.out
      go_wp2_with fail
      refine HNm.out.mono ?_
      rintro e w1 ⟨rfl, A1, c1, R1, O1⟩
      have F1 := HK.out 1 _ _ O1 HF
      obtain ⟨⟨y, ca⟩, fa, fb⟩ := H2.out _ F1
      have hlt := block_lt_of_cell ca
      simp only at hlt
      have HFB := Lib.hid fb
      have HRR := Lib.hid R1
      clear fb F1 R1
      go_wp2_with fail
      go_roundw
      case rel =>
        exact ⟨2, by omega, by go_num, tk (tk r), A1, c1, rfl, HRR.out.only (rs := X) ((Only.refl _ _).setCell (.inl HX.out.2.1) _) hg hk, HFB.out, (HO.trans O1 (fun x hx => .inl (by simp at hx; simp [hx]))).setCell (.inl (List.mem_cons_of_mem _ HX.out.2.1)) _⟩
      case measure => simp [intOf]
    · obtain rfl := HQ.out
      go_wp2_with fail
      refine HNm.out.mono ?_
      rintro e w1 ⟨rfl, A1, c1, R1, O1⟩
      have F1 := HK.out 2 _ _ O1 HF
      obtain ⟨⟨y, ca⟩, fa, fb⟩ := H3.out _ F1
      have hlt := block_lt_of_cell ca
      simp only at hlt
      have HFB := Lib.hid fb
      have HRR := Lib.hid R1
      clear fb F1 R1
      go_wp2_with fail
      go_roundw
      case rel =>
        exact ⟨3, by omega, by go_num, tk (tk (tk r)), A1, c1, rfl, HRR.out.only (rs := X) ((Only.refl _ _).setCell (.inl HX.out.2.2) _) hg hk, HFB.out, (HO.trans O1 (fun x hx => .inl (by simp at hx; simp [hx]))).setCell (.inl (List.mem_cons_of_mem _ HX.out.2.2)) _⟩
      case measure => simp [intOf]
    · go_wp2_with fail
      go_end0
      obtain rfl := HQ.out
      exact ⟨rfl, ⟨A', c', HRO.out⟩, HF, HO⟩
end Go.Proofs.YtgnilldcfpgpaaaGreatDoor
namespace Go.Proofs.YtgnilldcfpgpaaaGreatDoor
open Go.RowKit Go.Instr
def okpr (r : Nat) : Bool := decide (33 ≤ r) && decide (r ≤ 126)
set_option maxRecDepth 100000 in
theorem Pass1_any (r : Nat) (w : World) : Calls Tryz.prog 188 #[.int .i32 (r : Int)] w fun e w' => e = .returned (.bool (!okpr r)) ∧ w = w' := by
  obtain ⟨q, hq⟩ : ∃ q, (!okpr r) = q := ⟨_, rfl⟩
  rw [hq]
  by_cases h1 : r < 33
  · have HQ : Hid (q = true) := by show _ = _; rw [← hq]; unfold okpr; simp; omega
    have i1 : (r : Int) < 33 := by omega
    clear hq h1
    go_enter Tryz.func188, Tryz.ntmps188
    go_wp2
    go_ret
    exact ⟨by rw [HQ.out]; rfl, rfl⟩
  · have i1 : ¬ (r : Int) < 33 := by omega
    by_cases h2 : r ≤ 126
    · have HQ : Hid (q = false) := by show _ = _; rw [← hq]; unfold okpr; simp; omega
      have i2 : ¬ (126 : Int) < (r : Int) := by omega
      clear hq h1 h2
      go_enter Tryz.func188, Tryz.ntmps188
      go_wp2
      go_ret
      exact ⟨by rw [HQ.out]; rfl, rfl⟩
    · have HQ : Hid (q = true) := by show _ = _; rw [← hq]; unfold okpr; simp; omega
      have i2 : (126 : Int) < (r : Int) := by omega
      clear hq h1 h2
      go_enter Tryz.func188, Tryz.ntmps188
      go_wp2
      go_ret
      exact ⟨by rw [HQ.out]; rfl, rfl⟩
theorem enters_Pass1 : ∀ args w, (callFunc 188 args).run Tryz.prog w = .ok (.enter 188 args) w := Go.Proofs.enters_of Tryz.func188 (by kernel_rfl) rfl
theorem rune_okp (s : ByteArray) (pos : Nat) (h : pos < s.size) : okpr (Utf8.decode s pos).1 = okp (s[pos]'h) ∧ (okp (s[pos]'h) = true → (Utf8.decode s pos).2 = 1) := by
  by_cases ha : (s[pos]'h).toNat < 128
  · rw [decode_ascii s pos h ha]
    exact ⟨rfl, fun _ => rfl⟩
  · have hd := decode_high s pos h (by omega)
    have h1 : okp (s[pos]'h) = false := by unfold okp; simp; omega
    have h2 : okpr (Utf8.decode s pos).1 = false := by unfold okpr; simp; omega
    rw [h1, h2]
    exact ⟨rfl, fun e => by cases e⟩
set_option maxHeartbeats 2000000 in
set_option maxRecDepth 1000000 in
theorem indexFuncP_any (s : ByteArray) (w : World) : Calls Tryz.prog 238 #[.string s, .func (.func 188) #[] #[], .bool true] w fun e w' => ∃ I : Int, e = .returned (.int .i64 I) ∧ Hid (decide (0 ≤ I) = !(s.data.toList.all okp)) ∧ Only [] w w' := by
  have eg := enters_Pass1
  go_enter Tryz.func238, Tryz.ntmps238
  go_wp2
  go_loopg [] s.size (fun gf wx => ∃ pos : Nat, wx.heap[w.heap.size]? = some (.stringIter s pos) ∧ Below w.heap.size w wx ∧ Hid ((s.data.toList.take pos).all okp = true) ∧ pos ≤ s.size ∧ s.size ≤ pos + gf)
  case atStart => exact ⟨0, World.iter_heap w s 0, (Below.refl _ w).alloc (Nat.le_refl _) _, by show _ = _; simp, Nat.zero_le _, by omega⟩
  case round =>
    obtain ⟨pos, hit, hbw, HA, hle, hfu⟩ := hrel
    by_cases hps : pos < s.size
    · obtain ⟨g', rfl⟩ : ∃ g', gk = g' + 1 := ⟨gk - 1, by omega⟩
      have hnx : ∀ ty, (Instr.next (.pointer (some ⟨w.heap.size, 0, none⟩)) true ty).run Tryz.prog wr = _ := fun ty => Lib.run_next_any_at wr w.heap.size s pos ty hit hps
      obtain ⟨hr1, hr2⟩ := rune_okp s pos hps
      have hpl : pos < s.data.toList.length := by rw [Array.length_toList]; exact hps
      have hge : s.data.toList[pos] = s[pos]'hps := by rw [Array.getElem_toList]; rfl
      have hsuc := allp_take_succ hpl
      have hbad := allp_bad hpl
      rw [hge] at hsuc hbad
      obtain ⟨R, hR⟩ : ∃ R, (Utf8.decode s pos).1 = R := ⟨_, rfl⟩
      obtain ⟨K, hK⟩ : ∃ K, (Utf8.decode s pos).2 = K := ⟨_, rfl⟩
      rw [hR] at hr1
      rw [hK] at hr2
      rw [hR, hK] at hnx
      have hit2 := Lib.iterAt_heap wr w.heap.size s pos (pos + K) hit
      have hbw2 := Lib.below_iterAt hbw (k := w.heap.size) (Nat.le_refl _) s (pos + K)
      obtain ⟨W, hWd⟩ : ∃ W, wr.iterAt w.heap.size s (pos + K) = W := ⟨_, rfl⟩
      rw [hWd] at hnx hit2 hbw2
      have cS := Pass1_any R W
      rw [hr1] at cS
      obtain ⟨b, hb⟩ : ∃ b, okp (s[pos]'hps) = b := ⟨_, rfl⟩
      rw [hb] at cS hr2 hsuc hbad
      cases b
      · have HE : Hid (decide ((0 : Int) ≤ (pos : Int)) = !(s.data.toList.all okp)) := by
          show _ = _
          rw [hbad rfl]
          exact decide_eq_true (by omega)
        clear hbad hsuc hr1 hr2 hb hge hR hK hWd
        go_wp2_with (go_at_fn 188; refine cS.mono ?_; rintro e W' ⟨rfl, rfl⟩)
        go_ret
        exact ⟨pos, rfl, HE.out, Only.of_below hbw2⟩
      · obtain rfl := hr2 rfl
        have HS : Hid ((s.data.toList.take (pos + 1)).all okp = true) := by show _ = _; rw [hsuc, HA.out]; rfl
        clear hbad hsuc hr1 hr2 hb hge hR hK hWd
        go_wp2_with (go_at_fn 188; refine cS.mono ?_; rintro e W' ⟨rfl, rfl⟩)
        go_roundg g'
        case measure => omega
        case rel => exact ⟨pos + 1, hit2, hbw2, HS, by omega, by omega⟩
    · have hend : ∀ ty, (Instr.next (.pointer (some ⟨w.heap.size, 0, none⟩)) true ty).run Tryz.prog wr = _ := fun ty => Lib.run_next_end_at wr w.heap.size s pos ty hit hps
      have HE : Hid (decide ((0 : Int) ≤ -1) = !(s.data.toList.all okp)) := by
        show _ = _
        have := HA.out
        rw [List.take_of_length_le (by rw [Array.length_toList]; exact Nat.le_of_not_lt hps)] at this
        rw [this]
        rfl
      go_wp2
      go_ret
      exact ⟨-1, rfl, HE.out, Only.of_below hbw⟩
theorem IndexFuncP_any (s : ByteArray) (w : World) : Calls Tryz.prog 222 #[.string s, .func (.func 188) #[] #[]] w fun e w' => ∃ I : Int, e = .returned (.int .i64 I) ∧ Hid (decide (0 ≤ I) = !(s.data.toList.all okp)) ∧ Only [] w w' := by
  have hI := indexFuncP_any s w
  go_enter Tryz.func222, Tryz.ntmps222
  go_wp2_with (go_at_call 238; with_reducible refine hI.mono ?_; rintro e w2 ⟨I, rfl, HI, O2⟩)
  go_ret
  exact ⟨I, rfl, HI.out, O2⟩
theorem ContainsFuncP_any (s : ByteArray) (w : World) : Calls Tryz.prog 186 #[.string s, .func (.func 188) #[] #[]] w fun e w' => e = .returned (.bool (!(s.data.toList.all okp))) ∧ Only [] w w' := by
  have hI := IndexFuncP_any s w
  go_enter Tryz.func186, Tryz.ntmps186
  go_wp2_with (go_at_call 222; with_reducible refine hI.mono ?_; rintro e w2 ⟨I, rfl, HI, O2⟩)
  go_ret
  exact ⟨by rw [← HI.out]; rfl, O2⟩
set_option maxRecDepth 100000 in
theorem mayPass_any (s : List UInt8) (w : World) : Calls Tryz.prog 131 #[.string (St s)] w fun e w' => e = .returned (.bool (passOk s)) ∧ Only [] w w' := by
  have hC := ContainsFuncP_any (St s) w
  rw [St_list] at hC
  obtain ⟨q, hq⟩ : ∃ q, passOk s = q := ⟨_, rfl⟩
  rw [hq]
  have hs := St_size s
  by_cases h1 : 1 ≤ s.length
  · by_cases h2 : s.length ≤ 12
    · have HQ : Hid (q = s.all okp) := by show _ = _; rw [← hq]; unfold passOk; simp [h1, h2]
      have i1 : (1 : Int) ≤ ((St s).size : Int) := by omega
      have i2 : ((St s).size : Int) ≤ 12 := by omega
      clear hq hs h1 h2
      obtain ⟨p, hp⟩ : ∃ p, s.all okp = p := ⟨_, rfl⟩
      rw [hp] at hC HQ
      generalize St s = t at *
      clear hp
      cases p
      all_goals
        go_enter Tryz.func131, Tryz.ntmps131
        go_wp2_with (go_at_call 186; go_must (with_reducible refine hC.mono ?_); rintro e w2 ⟨rfl, O2⟩)
        go_ret
        exact ⟨by rw [HQ.out]; rfl, O2⟩
    · have HQ : Hid (q = false) := by show _ = _; rw [← hq]; unfold passOk; simp [h2]
      have i1 : (1 : Int) ≤ ((St s).size : Int) := by omega
      have i2 : ¬ ((St s).size : Int) ≤ 12 := by omega
      clear hq hs h1 h2 hC
      generalize St s = t at *
      go_enter Tryz.func131, Tryz.ntmps131
      go_wp2
      go_ret
      exact ⟨by rw [HQ.out]; rfl, Only.refl _ _⟩
  · have HQ : Hid (q = false) := by show _ = _; rw [← hq]; unfold passOk; simp [h1]
    have i1 : ¬ (1 : Int) ≤ ((St s).size : Int) := by omega
    clear hq hs h1 hC
    generalize St s = t at *
    go_enter Tryz.func131, Tryz.ntmps131
    go_wp2
    go_ret
    exact ⟨by rw [HQ.out]; rfl, Only.refl _ _⟩
set_option maxRecDepth 100000 in
theorem upTo_any (n m : Int) (w : World) : Calls Tryz.prog 133 #[.int .i64 n, .int .i64 m] w fun e w' => e = .returned (.bool (inR n 0 m)) ∧ w = w' := by
  obtain ⟨q, hq⟩ : ∃ q, inR n 0 m = q := ⟨_, rfl⟩
  rw [hq]
  by_cases h1 : (0 : Int) ≤ n
  · by_cases h2 : n ≤ m
    · have HQ : Hid (q = true) := by show _ = _; rw [← hq]; unfold inR; simp [h1, h2]
      clear hq
      go_enter Tryz.func133, Tryz.ntmps133
      go_wp2
      go_ret
      exact ⟨by rw [HQ.out]; rfl, rfl⟩
    · have HQ : Hid (q = false) := by show _ = _; rw [← hq]; unfold inR; simp [h2]
      clear hq
      go_enter Tryz.func133, Tryz.ntmps133
      go_wp2
      go_ret
      exact ⟨by rw [HQ.out]; rfl, rfl⟩
  · have HQ : Hid (q = false) := by show _ = _; rw [← hq]; unfold inR; simp [h1]
    clear hq
    go_enter Tryz.func133, Tryz.ntmps133
    go_wp2
    go_ret
    exact ⟨by rw [HQ.out]; rfl, rfl⟩
def lastI (l : List Int) (k : Nat) : Int := (l.take k).getLast?.getD 0
theorem lastI_succ {l : List Int} {k : Nat} (h : k < l.length) : lastI l (k + 1) = l[k] := by
  unfold lastI
  rw [List.take_succ_eq_append_getElem h, List.getLast?_concat]
  rfl
theorem ups_next {l : List Int} {k : Nat} (h : k < l.length) (hp : ups 0 (l.take k) = true) : ups 0 (l.take (k + 1)) = (decide (lastI l k < l[k]) && decide (l[k] ≤ 1048576)) := by
  rw [List.take_succ_eq_append_getElem h, ups_snoc, hp]
  rfl
set_option maxRecDepth 100000 in
set_option maxHeartbeats 2000000 in
theorem mayUIDs_any {w : World} {A : Option Addr} {n c : Nat} {l : List Int} (h : Sl w A n (ivs l)) (hn : n ≤ 140737488355328) :
    Calls Tryz.prog 132 #[.slice A n c] w fun e w' => e = .returned (.bool (uidsOk l)) ∧ w = w' := by
  have hl : l.length = n := by simpa [ivs] using h.len
  obtain ⟨q, hq⟩ : ∃ q, uidsOk l = q := ⟨_, rfl⟩
  rw [hq]
  by_cases hbig : 24 < n
  · have HQ : Hid (q = false) := by show _ = _; rw [← hq]; unfold uidsOk; rw [hl]; simp; intro _; omega
    have i1 : (24 : Int) < (n : Int) := by omega
    clear hq h hl hn
    go_enter Tryz.func132, Tryz.ntmps132
    go_wp2
    go_ret
    exact ⟨by rw [HQ.out]; rfl, rfl⟩
  have i1 : ¬ (24 : Int) < (n : Int) := by omega
  have HQ := Lib.hid hq
  have HL := Lib.hid hl
  have HS := Lib.hid h
  clear hq h hl
  go_enter Tryz.func132, Tryz.ntmps132
  go_wp2
  go_loop [3, 11] (fun lv iv => ∃ k : Nat, iv = .int .i64 (k : Int) ∧ lv = .int .i64 (lastI l k) ∧ k ≤ n ∧ Hid (ups 0 (l.take k) = true)) (fun _ iv => n - (intOf iv).toNat)
  case atStart => exact ⟨0, rfl, rfl, Nat.zero_le _, by show _ = _; rfl⟩
  case round =>
    obtain ⟨k, rfl, rfl, hk, HU⟩ := hrel
    by_cases hlt : k < n
    · have hkl : k < l.length := by rw [HL.out]; exact hlt
      have hlt' : (k : Int) < (n : Int) := by omega
      obtain ⟨ad, rfl, hc⟩ := HS.out.int_at hlt hkl
      have hnx := ups_next hkl HU.out
      have hla := lastI_succ hkl
      have hbad : ups 0 (l.take (k + 1)) = false → Hid (q = false) := fun hb => by show _ = _; rw [← HQ.out]; exact ups_bad hb
      generalize l[k] = u at hc hnx hla
      generalize lastI l k = z at *
      by_cases h1 : u ≤ z
      · have HB := hbad (by rw [hnx]; simp; omega)
        clear hbad hnx hla
        go_wp2
        go_ret
        exact ⟨by rw [HB.out]; rfl, rfl⟩
      · by_cases h2 : (1048576 : Int) < u
        · have HB := hbad (by rw [hnx]; simp; omega)
          clear hbad hnx hla
          go_wp2
          go_ret
          exact ⟨by rw [HB.out]; rfl, rfl⟩
        · have HN : Hid (ups 0 (l.take (k + 1)) = true) := by show _ = _; rw [hnx]; simp; omega
          have HLA := Lib.hid hla
          have hk1 : k + 1 ≤ n := by omega
          have HMM : Hid (n - (intOf (.int .i64 ((k : Int) + 1))).toNat < n - (intOf (.int .i64 (k : Int))).toNat) := by
            show _ < _
            simp [intOf]
            omega
          clear hbad hnx hla
          go_wp2
          go_round
          case rel => exact ⟨k + 1, by go_num, by rw [HLA.out], hk1, HN.out⟩
          case measure => exact HMM.out
    · obtain rfl : k = n := by omega
      have HE : Hid (q = true) := by
        show _ = _
        rw [← HQ.out]
        unfold uidsOk
        have := HU.out
        rw [List.take_of_length_le (by rw [HL.out]; exact Nat.le_refl _)] at this
        rw [this, HL.out]
        simp
        omega
      go_wp2
      go_ret
      exact ⟨by rw [HE.out]; rfl, rfl⟩
end Go.Proofs.YtgnilldcfpgpaaaGreatDoor
namespace Go.Proofs.YtgnilldcfpgpaaaGreatDoor
open Go
section
variable {P : Program} {ops : Array Oper} {S : World → Prop} {Q : Exit → Act → World → Prop} {md : Region.Mode}
def Gives (P : Program) (S : World → Prop) (v : Value) : Result Next → Prop
  | .ok (.value u) w' => u = v ∧ S w'
  | .ok (.enter f args) w' => Calls P f args w' (fun e w'' => e = .returned v ∧ S w'')
  | .ok .skip w' => v = undef ∧ S w'
  | _ => False
def GivesIn (P : Program) (S : World → Prop) (x : Sem Next) (v : Value) : Prop := ∀ w, S w → Gives P S v (x.run P w)
def detOp (P : Program) (ops : Array Oper) (S : World → Prop) (o : Oper) (K : Act → Prop) (a : Act) : Prop :=
  (Region.wanted o (yielded ops a.tmps) = true ∧ ∃ v, GivesIn P S (execOp a.eval o) v ∧ K (a.put o.dst v)) ∨ (Region.wanted o (yielded ops a.tmps) = false ∧ K (a.put o.dst undef))
def detWalk (P : Program) (ops : Array Oper) (S : World → Prop) (Q : Exit → Act → World → Prop) : List Oper → Act → Prop
  | [], a => ∀ w, S w → Q .normal a w
  | o :: l, a => detOp P ops S o (detWalk P ops S Q l) a
def detAny (P : Program) (md : Region.Mode) (ops : Array Oper) (S : World → Prop) (Q : Exit → Act → World → Prop) : Nat → Array Bool → Act → Prop
  | 0, listed, a => Region.ready md ops listed = [] ∧ ∀ w, S w → Q .normal a w
  | fuel + 1, listed, a => (Region.ready md ops listed = [] → ∀ w, S w → Q .normal a w) ∧
    ∀ i ∈ Region.ready md ops listed, ∃ o, ops[i]? = some o ∧ detOp P ops S o (detAny P md ops S Q fuel (listed.setIfInBounds i true)) a
theorem detOp_mono {o : Oper} {K K' : Act → Prop} {a : Act} (h : ∀ a, K a → K' a) (hh : detOp P ops S o K a) : detOp P ops S o K' a := by
  rcases hh with ⟨hw, v, hg, hk⟩ | ⟨hw, hk⟩
  · exact .inl ⟨hw, v, hg, h _ hk⟩
  · exact .inr ⟨hw, h _ hk⟩
theorem detAny_sound : ∀ (fuel : Nat) (listed : Array Bool) (a : Act) (w : World), S w → detAny P md ops S Q fuel listed a → wpAny P md ops Q fuel listed a w
  | 0, _, _, w, hS, h => ⟨h.1, h.2 w hS⟩
  | fuel + 1, listed, a, w, hS, h => ⟨fun hr => h.1 hr w hS, fun i hi => by
    obtain ⟨o, ho, hd⟩ := h.2 i hi
    unfold wpOp
    simp only [ho]
    rcases hd with ⟨hw, v, hg, hk⟩ | ⟨hw, hk⟩
    · simp only [hw, if_true]
      left
      unfold Oper.wp
      have h2 := hg w hS
      generalize (execOp a.eval o).run P w = r at h2 ⊢
      cases r with
      | ok n w' =>
        cases n <;> simp only [Gives, Oper.upon] at h2 ⊢
        case value u =>
          obtain ⟨rfl, h3⟩ := h2
          exact detAny_sound fuel _ _ _ h3 hk
        case skip =>
          obtain ⟨rfl, h3⟩ := h2
          exact detAny_sound fuel _ _ _ h3 hk
        case enter f args =>
          refine Calls.mono h2 fun e w'' he => ?_
          obtain ⟨rfl, h3⟩ := he
          exact detAny_sound fuel _ _ _ h3 hk
      | halt x w' => simp only [Gives] at h2
    · simp only [hw, Bool.false_eq_true, if_false]
      exact detAny_sound fuel _ _ _ hS hk⟩
theorem detOp_swap {oi oj : Oper} {v : Value} (hap : oi.apart ops oj = true) (hsi : ∀ cs b, oi.op ≠ .select cs b) (hsj : ∀ cs b, oj.op ≠ .select cs b) {K : Act → Prop} {a : Act}
    (h : detOp P ops S oj K (a.put oi.dst v)) : detOp P ops S oj (fun a' => K (a'.put oi.dst v)) a ∧
      ∀ u, (execOp (a.put oj.dst u).eval oi = execOp a.eval oi ∧ Region.wanted oi (yielded ops (a.put oj.dst u).tmps) = Region.wanted oi (yielded ops a.tmps)) := by
  obtain ⟨h1, h2, h3⟩ := Oper.apart_spec hap
  refine ⟨?_, fun u => ⟨execOp_put oi hsi a oj.dst u h3, wanted_put oi a oj.dst u h3⟩⟩
  unfold detOp at h ⊢
  rw [wanted_put oj a oi.dst v h1, execOp_put oj hsj a oi.dst v h1] at h
  rcases h with ⟨hw, u, hg, hk⟩ | ⟨hw, hk⟩
  · exact .inl ⟨hw, u, hg, by show K _; rw [← Act.put_comm a v u h2]; exact hk⟩
  · exact .inr ⟨hw, by show K _; rw [← Act.put_comm a v undef h2]; exact hk⟩
theorem detAny_first {i : Nat} {oi : Oper} (hi : ops[i]? = some oi) (hsel : ∀ (j : Nat) (o : Oper) cs b, ops[j]? = some o → o.op ≠ .select cs b) :
    ∀ (fuel : Nat) (listed : Array Bool) (a : Act),
      (∀ j oj, ops[j]? = some oj → j ≠ i → listed.getD j true = false → (∀ e ∈ oj.after, Region.binds md e = true → e.on ≠ i) → oi.apart ops oj = true) →
      i ∈ Region.ready md ops listed → detOp P ops S oi (detAny P md ops S Q fuel (listed.setIfInBounds i true)) a → detAny P md ops S Q (fuel + 1) listed a := by
  intro fuel
  induction fuel with
  | zero =>
    intro listed a _ hr H
    refine ⟨fun h => (by rw [h] at hr; cases hr), fun j hj => ?_⟩
    by_cases hji : j = i
    · subst hji; exact ⟨oi, hi, H⟩
    · have h0 := ready_mono hj hji
      rcases H with ⟨_, v, _, hk⟩ | ⟨_, hk⟩ <;> (rw [hk.1] at h0; cases h0)
  | succ fuel ih =>
    intro listed a hfree hr H
    refine ⟨fun h => (by rw [h] at hr; cases hr), fun j hj => ?_⟩
    by_cases hji : j = i
    · subst hji; exact ⟨oi, hi, H⟩
    · obtain ⟨hjun, oj, hoj, hall⟩ := mem_ready.1 hj
      have hnot : ∀ e ∈ oj.after, Region.binds md e = true → e.on ≠ i := fun e he hb heq => by
        have h1 := hall e he hb
        have h0 := (mem_ready.1 hr).1
        rw [heq] at h1
        rcases Nat.lt_or_ge i listed.size with h' | h'
        · simp [h'] at h0 h1; rw [h0] at h1; cases h1
        · simp [Array.getElem?_eq_none h'] at h1
      have hap := hfree j oj hoj hji hjun hnot
      have hfree' : ∀ k ok, ops[k]? = some ok → k ≠ i → (listed.setIfInBounds j true).getD k true = false →
          (∀ e ∈ ok.after, Region.binds md e = true → e.on ≠ i) → oi.apart ops ok = true := fun k ok hk hki hun hno => by
        refine hfree k ok hk hki ?_ hno
        by_cases hjk : j = k
        · subst hjk; exact hjun
        · rw [getD_set_ne true hjk] at hun; exact hun
      have next : ∀ v, detAny P md ops S Q (fuel + 1) (listed.setIfInBounds i true) (a.put oi.dst v) →
          detOp P ops S oj (fun a' => detAny P md ops S Q fuel ((listed.setIfInBounds j true).setIfInBounds i true) (a'.put oi.dst v)) a ∧
          ∀ u, (execOp (a.put oj.dst u).eval oi = execOp a.eval oi ∧ Region.wanted oi (yielded ops (a.put oj.dst u).tmps) = Region.wanted oi (yielded ops a.tmps)) := fun v hv => by
        obtain ⟨oj', hoj', hd⟩ := hv.2 j (ready_mono hj hji)
        rw [hoj] at hoj'
        injection hoj' with hoj'
        subst hoj'
        rw [Array.setIfInBounds_comm _ _ hji]
        exact detOp_swap hap (fun cs b => hsel i oi cs b hi) (fun cs b => hsel j oj cs b hoj) hd
      have step : ∀ v, detOp P ops S oj (fun a' => detAny P md ops S Q fuel ((listed.setIfInBounds j true).setIfInBounds i true) (a'.put oi.dst v)) a →
          (∀ u, (execOp (a.put oj.dst u).eval oi = execOp a.eval oi ∧ Region.wanted oi (yielded ops (a.put oj.dst u).tmps) = Region.wanted oi (yielded ops a.tmps))) →
          ((Region.wanted oi (yielded ops a.tmps) = true ∧ GivesIn P S (execOp a.eval oi) v) ∨ (Region.wanted oi (yielded ops a.tmps) = false ∧ v = undef)) →
          detOp P ops S oj (detAny P md ops S Q (fuel + 1) (listed.setIfInBounds j true)) a := fun v hd hsame hv => by
        have put : ∀ u, detAny P md ops S Q fuel ((listed.setIfInBounds j true).setIfInBounds i true) ((a.put oj.dst u).put oi.dst v) → detAny P md ops S Q (fuel + 1) (listed.setIfInBounds j true) (a.put oj.dst u) := fun u hu => by
          refine ih _ _ hfree' (ready_mono hr (Ne.symm hji)) ?_
          unfold detOp
          rw [(hsame u).1, (hsame u).2]
          rcases hv with ⟨hw, hg⟩ | ⟨hw, rfl⟩
          · exact .inl ⟨hw, v, hg, hu⟩
          · exact .inr ⟨hw, hu⟩
        rcases hd with ⟨hw, u, hg, hk⟩ | ⟨hw, hk⟩
        · exact .inl ⟨hw, u, hg, put u hk⟩
        · exact .inr ⟨hw, put undef hk⟩
      refine ⟨oj, hoj, ?_⟩
      rcases H with ⟨hw, v, hg, hk⟩ | ⟨hw, hk⟩
      · exact step v (next v hk).1 (next v hk).2 (.inl ⟨hw, hg⟩)
      · exact step undef (next undef hk).1 (next undef hk).2 (.inr ⟨hw, rfl⟩)
theorem detAny_lex (hs : Region.noSelect ops = true) : ∀ (l : List Oper) (k : Nat) (listed : Array Bool) (a : Act), (∀ j, l[j]? = ops[k + j]?) →
    Region.lexFrom md ops l.length k listed = true → detWalk P ops S Q l a → detAny P md ops S Q l.length listed a
  | [], _, _, _, _, hB, h => ⟨by simpa [Region.lexFrom] using hB, h⟩
  | o :: l, k, listed, a, hl, hB, h => by
    have h0 : ops[k]? = some o := by simpa using (hl 0).symm
    simp only [List.length_cons, Region.lexFrom, Bool.and_eq_true] at hB
    obtain ⟨⟨hr, hf⟩, hB'⟩ := hB
    exact detAny_first h0 (Region.noSelect_spec hs) l.length listed a (Region.free_spec h0 hf) (by simpa using hr)
      (detOp_mono (fun a' h' => detAny_lex hs l (k + 1) _ a' (fun j => by have := hl (j + 1); simpa [Nat.add_assoc, Nat.add_comm 1 j] using this) hB' h') h)
theorem wp_region_det (S : World → Prop) {id : Nat} {a : Act} {w : World} {l : List Oper} (hm : P.follows .mixedOrders = true) (hB : Region.lexB .any l.toArray = true) (hS : S w.drew)
    (h : detWalk P l.toArray S Q l a) : (Code.region id l.toArray true).wp P Q a w := by
  simp only [Region.lexB, Bool.and_eq_true] at hB
  refine wp_region_any hm (detAny_sound _ _ _ _ hS ?_)
  have := detAny_lex (md := .any) hB.1 l 0 (Array.replicate l.toArray.size false) a (by simp) (by simpa using hB.2) h
  simpa using this
theorem det_value {o : Oper} {l : List Oper} {a : Act} (v : Value) (hw : Region.wanted o (yielded ops a.tmps) = true) (h : ∀ w, S w → (execOp a.eval o).run P w = .ok (.value v) w)
    (hk : detWalk P ops S Q l (a.put o.dst v)) : detWalk P ops S Q (o :: l) a :=
  .inl ⟨hw, v, fun w hS => by rw [h w hS]; exact ⟨rfl, hS⟩, hk⟩
theorem det_call {o : Oper} {l : List Oper} {a : Act} (v : Value) (f : FuncId) (args : Array Value) (hw : Region.wanted o (yielded ops a.tmps) = true) (h : ∀ w, (execOp a.eval o).run P w = .ok (.enter f args) w)
    (hc : ∀ w, S w → Calls P f args w fun e w' => e = .returned v ∧ S w') (hk : detWalk P ops S Q l (a.put o.dst v)) : detWalk P ops S Q (o :: l) a :=
  .inl ⟨hw, v, fun w hS => by rw [h w]; exact hc w hS, hk⟩
theorem det_same {f : FuncId} {args : Array Value} {v : Value} {w : World} (hS : S w) (h : Calls P f args w fun e w' => e = .returned v ∧ w = w') : Calls P f args w fun e w' => e = .returned v ∧ S w' :=
  h.mono fun _ _ ⟨he, hw⟩ => ⟨he, hw ▸ hS⟩
theorem det_only {f : FuncId} {args : Array Value} {v : Value} {w : World} (hk : ∀ w', Only [] w w' → S w') (h : Calls P f args w fun e w' => e = .returned v ∧ Only [] w w') : Calls P f args w fun e w' => e = .returned v ∧ S w' :=
  h.mono fun _ _ ⟨he, hw⟩ => ⟨he, hk _ hw⟩
def Stays (w : World) (g : Nat) (t : TypeId) (cs : Array Value) (W : World) : Prop := Only [] w W ∧ Bk W g t cs
theorem Stays.only {w W W' : World} {g : Nat} {t : TypeId} {cs : Array Value} (h : Stays w g t cs W) (o : Only [] W W') : Stays w g t cs W' := ⟨h.1.then o, h.2.only o (by simp)⟩
theorem Stays.start {w : World} {g : Nat} {t : TypeId} {cs : Array Value} (h : Bk w g t cs) : Stays w g t cs w.drew := ⟨(Only.refl [] w).drew, h⟩
end
end Go.Proofs.YtgnilldcfpgpaaaGreatDoor
namespace Go.Proofs.YtgnilldcfpgpaaaGreatDoor
open Go.RowKit Go.Instr
def nmd : Nat → Nat
  | 1 => 1 | 2 => 2 | 3 => 2 | 4 => 6 | 5 => 226 | 6 => 58 | 7 => 10 | 8 => 14 | _ => 0
def TabN (w : World) : Prop := ∀ i, i < 9 → w.cell? ⟨0, i, none⟩ = some (.int .i64 ((nmd i : Nat) : Int))
theorem TabN.only {w w' : World} {rs : List Nat} (h : TabN w) (o : Only rs w w') (hn : 0 ∉ rs) : TabN w' := fun i hi => o.cellSome (h i hi) hn
theorem TabN.keep {w w' : World} (h : TabN w) (o : Only [] w w') : TabN w' := h.only o (fun hm => by cases hm)
def zeroF (c : Ch) : Nat → Bool
  | 0 => decide (c.pass = []) | 1 => decide (c.box = []) | 2 => decide (c.to = []) | 3 => decide (c.uids = []) | 4 => decide (c.mode = 0) | 5 => decide (c.flags = 0) | 6 => decide (c.date = 0) | _ => decide (c.body = [])
def mayF (c : Ch) : Nat → Bool
  | 0 => passOk c.pass | 1 => nameL c.box | 2 => nameL c.to | 3 => uidsOk c.uids | 4 => inR c.mode 0 2 | 5 => inR c.flags 0 31 | 6 => inR c.date 0 1073741824 | _ => decide (c.body.length ≤ 1200)
def namedB (kd k : Nat) : Bool := (nmd kd).testBit k
def goodF (c : Ch) (k : Nat) : Bool := if namedB c.kind.toNat k then mayF c k else zeroF c k
theorem isC_fields {c : Ch} (h1 : 1 ≤ c.kind) (h8 : c.kind ≤ 8) : isC c = (nameL c.user && (goodF c 0 && goodF c 1 && goodF c 2 && goodF c 3 && goodF c 4 && goodF c 5 && goodF c 6 && goodF c 7)) := by
  obtain ⟨kd, us, ps, bx, to, ui, md, fl, dt, bo⟩ := c
  simp only at h1 h8
  have n0 : nameL [] = false := rfl
  have p0 : passOk [] = false := rfl
  have u0 : uidsOk [] = true := rfl
  have z1 : inR 0 0 2 = true := rfl
  have z2 : inR 0 0 31 = true := rfl
  have z3 : inR 0 0 1073741824 = true := rfl
  have hu : uidsOk ui = false → ui ≠ [] := fun h e => by rw [e, u0] at h; cases h
  have hm : inR md 0 2 = false → md ≠ 0 := fun h e => by rw [e, z1] at h; cases h
  have hf : inR fl 0 31 = false → fl ≠ 0 := fun h e => by rw [e, z2] at h; cases h
  have hd : inR dt 0 1073741824 = false → dt ≠ 0 := fun h e => by rw [e, z3] at h; cases h
  have hb : ¬ bo.length ≤ 1200 → bo ≠ [] := fun h e => by rw [e] at h; simp at h
  have hcases : kd = 1 ∨ kd = 2 ∨ kd = 3 ∨ kd = 4 ∨ kd = 5 ∨ kd = 6 ∨ kd = 7 ∨ kd = 8 := by omega
  have hbb : decide (bo.length ≤ 1200) = false → decide (bo = []) = false := fun h => by simp at h ⊢; exact hb (by omega)
  have huu : uidsOk ui = false → decide (ui = []) = false := fun h => by simp; exact hu h
  have hmm : inR md 0 2 = false → decide (md = 0) = false := fun h => by simp; exact hm h
  have hff : inR fl 0 31 = false → decide (fl = 0) = false := fun h => by simp; exact hf h
  have hdd : inR dt 0 1073741824 = false → decide (dt = 0) = false := fun h => by simp; exact hd h
  clear hu hm hf hd hb n0 p0 u0 z1 z2 z3
  rcases hcases with rfl | rfl | rfl | rfl | rfl | rfl | rfl | rfl
  all_goals
    unfold isC goodF
    simp only [show namedB (Int.toNat 1) 0 = true from rfl, show namedB (Int.toNat 1) 1 = false from rfl, show namedB (Int.toNat 1) 2 = false from rfl, show namedB (Int.toNat 1) 3 = false from rfl, show namedB (Int.toNat 1) 4 = false from rfl, show namedB (Int.toNat 1) 5 = false from rfl, show namedB (Int.toNat 1) 6 = false from rfl, show namedB (Int.toNat 1) 7 = false from rfl,
      show namedB (Int.toNat 2) 0 = false from rfl, show namedB (Int.toNat 2) 1 = true from rfl, show namedB (Int.toNat 2) 2 = false from rfl, show namedB (Int.toNat 2) 3 = false from rfl, show namedB (Int.toNat 2) 4 = false from rfl, show namedB (Int.toNat 2) 5 = false from rfl, show namedB (Int.toNat 2) 6 = false from rfl, show namedB (Int.toNat 2) 7 = false from rfl, show namedB (Int.toNat 3) 0 = false from rfl, show namedB (Int.toNat 3) 1 = true from rfl, show namedB (Int.toNat 3) 2 = false from rfl, show namedB (Int.toNat 3) 3 = false from rfl, show namedB (Int.toNat 3) 4 = false from rfl, show namedB (Int.toNat 3) 5 = false from rfl, show namedB (Int.toNat 3) 6 = false from rfl, show namedB (Int.toNat 3) 7 = false from rfl, show namedB (Int.toNat 4) 0 = false from rfl, show namedB (Int.toNat 4) 1 = true from rfl, show namedB (Int.toNat 4) 2 = true from rfl, show namedB (Int.toNat 4) 3 = false from rfl, show namedB (Int.toNat 4) 4 = false from rfl, show namedB (Int.toNat 4) 5 = false from rfl, show namedB (Int.toNat 4) 6 = false from rfl, show namedB (Int.toNat 4) 7 = false from rfl, show namedB (Int.toNat 5) 0 = false from rfl, show namedB (Int.toNat 5) 1 = true from rfl, show namedB (Int.toNat 5) 2 = false from rfl, show namedB (Int.toNat 5) 3 = false from rfl, show namedB (Int.toNat 5) 4 = false from rfl, show namedB (Int.toNat 5) 5 = true from rfl, show namedB (Int.toNat 5) 6 = true from rfl, show namedB (Int.toNat 5) 7 = true from rfl, show namedB (Int.toNat 6) 0 = false from rfl, show namedB (Int.toNat 6) 1 = true from rfl, show namedB (Int.toNat 6) 2 = false from rfl, show namedB (Int.toNat 6) 3 = true from rfl, show namedB (Int.toNat 6) 4 = true from rfl, show namedB (Int.toNat 6) 5 = true from rfl, show namedB (Int.toNat 6) 6 = false from rfl, show namedB (Int.toNat 6) 7 = false from rfl, show namedB (Int.toNat 7) 0 = false from rfl, show namedB (Int.toNat 7) 1 = true from rfl, show namedB (Int.toNat 7) 2 = false from rfl, show namedB (Int.toNat 7) 3 = true from rfl, show namedB (Int.toNat 7) 4 = false from rfl, show namedB (Int.toNat 7) 5 = false from rfl, show namedB (Int.toNat 7) 6 = false from rfl, show namedB (Int.toNat 7) 7 = false from rfl, show namedB (Int.toNat 8) 0 = false from rfl, show namedB (Int.toNat 8) 1 = true from rfl, show namedB (Int.toNat 8) 2 = true from rfl, show namedB (Int.toNat 8) 3 = true from rfl, show namedB (Int.toNat 8) 4 = false from rfl, show namedB (Int.toNat 8) 5 = false from rfl, show namedB (Int.toNat 8) 6 = false from rfl, show namedB (Int.toNat 8) 7 = false from rfl, 
      zeroF, mayF, if_true, if_false, Bool.false_eq_true, Int.reduceEq, Int.reduceLE, decide_true, decide_false, Bool.true_and, Bool.false_or, Bool.true_or, or_self, or_true, or_false]
    generalize decide (ps = []) = a0 at *
    generalize decide (bx = []) = a1 at *
    generalize decide (to = []) = a2 at *
    generalize decide (ui = []) = a3 at *
    generalize decide (md = 0) = a4 at *
    generalize decide (fl = 0) = a5 at *
    generalize decide (dt = 0) = a6 at *
    generalize decide (bo = []) = a7 at *
    generalize passOk ps = m0 at *
    generalize nameL bx = m1 at *
    generalize nameL to = m2 at *
    generalize uidsOk ui = m3 at *
    generalize inR md 0 2 = m4 at *
    generalize inR fl 0 31 = m5 at *
    generalize inR dt 0 1073741824 = m6 at *
    generalize decide (bo.length ≤ 1200) = m7 at *
    generalize nameL us = n at *
    clear h1 h8
    revert hbb huu hmm hff hdd
    cases n <;> cases a7 <;> cases m7 <;> simp
    all_goals (cases m3 <;> cases a3 <;> simp)
    all_goals (cases m4 <;> cases a4 <;> simp)
    all_goals (cases m5 <;> cases a5 <;> simp)
    all_goals (cases m6 <;> cases a6 <;> simp)
    all_goals (cases m0 <;> cases a0 <;> cases m1 <;> cases a1 <;> simp)
def fieldsV (z m : Nat → Bool) : Value := .agg #[.int .i64 1, .bool (z 0), .bool (m 0), .int .i64 2, .bool (z 1), .bool (m 1), .int .i64 4, .bool (z 2), .bool (m 2), .int .i64 8, .bool (z 3), .bool (m 3), .int .i64 16, .bool (z 4), .bool (m 4), .int .i64 32, .bool (z 5), .bool (m 5), .int .i64 64, .bool (z 6), .bool (m 6), .int .i64 128, .bool (z 7), .bool (m 7)]
set_option maxRecDepth 100000 in
theorem fields_at (z m : Nat → Bool) (k : Nat) (hk : k < 8) (W : World) : (Instr.index 195 (fieldsV z m) (.int .i64 (k : Int))).run Tryz.prog W = .ok (.agg #[.int .i64 ((2 ^ k : Nat) : Int), .bool (z k), .bool (m k)]) W := by
  have hu : Tryz.prog.underlying 195 = some (.array 8 193) := Tryz.underlying195
  rcases (by omega : k = 0 ∨ k = 1 ∨ k = 2 ∨ k = 3 ∨ k = 4 ∨ k = 5 ∨ k = 6 ∨ k = 7) with rfl | rfl | rfl | rfl | rfl | rfl | rfl | rfl <;> rfl
set_option maxRecDepth 100000 in
theorem named_and (kd k : Nat) (h1 : 1 ≤ kd) (h8 : kd ≤ 8) (hk : k < 8) : (bits .and .i64 ((nmd kd : Nat) : Int) ((2 ^ k : Nat) : Int) != 0) = namedB kd k := by
  rcases (by omega : kd = 1 ∨ kd = 2 ∨ kd = 3 ∨ kd = 4 ∨ kd = 5 ∨ kd = 6 ∨ kd = 7 ∨ kd = 8) with rfl | rfl | rfl | rfl | rfl | rfl | rfl | rfl <;>
  rcases (by omega : k = 0 ∨ k = 1 ∨ k = 2 ∨ k = 3 ∨ k = 4 ∨ k = 5 ∨ k = 6 ∨ k = 7) with rfl | rfl | rfl | rfl | rfl | rfl | rfl | rfl <;> rfl
end Go.Proofs.YtgnilldcfpgpaaaGreatDoor
namespace Go.Proofs.YtgnilldcfpgpaaaGreatDoor
def poly : Nat := 3988292384
def bit1 (x : Nat) : Nat := if x % 2 = 1 then x / 2 ^^^ poly else x / 2
def bits4 (x : Nat) : Nat := bit1 (bit1 (bit1 (bit1 x)))
def bits8 (x : Nat) : Nat := bits4 (bits4 x)
theorem half_xor (a b : Nat) : (a ^^^ b) / 2 = a / 2 ^^^ b / 2 := by
  have := Nat.shiftRight_xor_distrib (a := a) (b := b) (i := 1)
  simpa [Nat.shiftRight_succ] using this
theorem odd_xor (a b : Nat) : (a ^^^ b) % 2 = (a % 2 + b % 2) % 2 := by
  have h := Nat.testBit_xor a b 0
  simp only [Nat.testBit_zero] at h
  have hm : (a ^^^ b) % 2 < 2 := Nat.mod_lt _ (by omega)
  generalize (a ^^^ b) % 2 = m at h hm ⊢
  obtain rfl | rfl : m = 0 ∨ m = 1 := by omega
  all_goals rcases Nat.mod_two_eq_zero_or_one a with ha | ha <;> rcases Nat.mod_two_eq_zero_or_one b with hb | hb <;> rw [ha, hb] at h <;> rw [ha, hb] <;> revert h <;> decide
theorem bit1_xor (a b : Nat) : bit1 (a ^^^ b) = bit1 a ^^^ bit1 b := by
  unfold bit1
  rw [odd_xor, half_xor]
  rcases Nat.mod_two_eq_zero_or_one a with ha | ha <;> rcases Nat.mod_two_eq_zero_or_one b with hb | hb <;> simp only [ha, hb]
  · simp
  · simp [Nat.xor_assoc]
  · simp only [if_true, Nat.zero_ne_one, if_false]
    rw [Nat.xor_assoc, Nat.xor_assoc, Nat.xor_comm (b / 2)]
  · simp only [Nat.reduceAdd, Nat.mod_self, Nat.zero_ne_one, if_false, if_true]
    rw [Nat.xor_assoc, ← Nat.xor_assoc poly, Nat.xor_comm poly (b / 2), Nat.xor_assoc (b / 2), Nat.xor_self, Nat.xor_zero]
theorem bits4_xor (a b : Nat) : bits4 (a ^^^ b) = bits4 a ^^^ bits4 b := by
  unfold bits4
  simp only [bit1_xor]
theorem bit1_even (h : Nat) : bit1 (2 * h) = h := by
  unfold bit1
  rw [if_neg (by omega)]
  omega
theorem bits4_high (h : Nat) : bits4 (16 * h) = h := by
  unfold bits4
  rw [show 16 * h = 2 * (2 * (2 * (2 * h))) from by omega, bit1_even, bit1_even, bit1_even, bit1_even]
theorem split16 (x : Nat) : x = 16 * (x / 16) ^^^ x % 16 := by
  have h := Nat.two_pow_add_eq_or_of_lt (i := 4) (b := x % 16) (by omega) (x / 16)
  have hx : 16 * (x / 16) + x % 16 = x := by omega
  have hd : (16 * (x / 16)) &&& (x % 16) = 0 := by
    apply Nat.eq_of_testBit_eq
    intro j
    rw [Nat.testBit_and, Nat.zero_testBit]
    by_cases hj : j < 4
    · have : Nat.testBit (16 * (x / 16)) j = false := by
        rw [show 16 * (x / 16) = 2 ^ 4 * (x / 16) from rfl, Nat.testBit_two_pow_mul]
        simp [show ¬ j ≥ 4 by omega]
      simp [this]
    · have : Nat.testBit (x % 16) j = false := by
        rw [show x % 16 = x % 2 ^ 4 from rfl, Nat.testBit_mod_two_pow]
        simp [hj]
      simp [this]
  have he : (16 * (x / 16)) ||| (x % 16) = x := by
    rw [← hx]
    have : (16 * (x / 16) + x % 16) / 16 = x / 16 := by omega
    have h2 : (16 * (x / 16) + x % 16) % 16 = x % 16 := by omega
    rw [this, h2]
    exact h.symm
  apply Nat.eq_of_testBit_eq
  intro j
  have ho := congrArg (fun n => Nat.testBit n j) he
  have ha := congrArg (fun n => Nat.testBit n j) hd
  simp only [Nat.testBit_or, Nat.testBit_and, Nat.zero_testBit] at ho ha
  rw [Nat.testBit_xor]
  revert ho ha
  cases Nat.testBit (16 * (x / 16)) j <;> cases Nat.testBit (x % 16) j <;> cases Nat.testBit x j <;> simp
theorem nib_eq (x : Nat) : x / 16 ^^^ bits4 (x % 16) = bits4 x := by
  have h := bits4_xor (16 * (x / 16)) (x % 16)
  rw [← split16, bits4_high] at h
  exact h.symm
theorem xor_lt {a b : Nat} (ha : a < 4294967296) (hb : b < 4294967296) : a ^^^ b < 4294967296 := Nat.xor_lt_two_pow (n := 32) ha hb
theorem bit1_lt {x : Nat} (h : x < 4294967296) : bit1 x < 4294967296 := by
  unfold bit1
  split
  · exact xor_lt (by omega) (by decide)
  · omega
theorem bits4_lt {x : Nat} (h : x < 4294967296) : bits4 x < 4294967296 := bit1_lt (bit1_lt (bit1_lt (bit1_lt h)))
def crc (s : Nat) (l : List UInt8) : Nat := l.foldl (fun s b => bits8 (s ^^^ b.toNat)) s
theorem crc_snoc (s : Nat) (l : List UInt8) (b : UInt8) : crc s (l ++ [b]) = bits8 (crc s l ^^^ b.toNat) := by simp [crc]
theorem crc_append (s : Nat) (l m : List UInt8) : crc s (l ++ m) = crc (crc s l) m := by simp [crc]
def sumOf (l : List UInt8) : Nat := 4294967295 - crc 4294967295 l
end Go.Proofs.YtgnilldcfpgpaaaGreatDoor
namespace Go.Proofs.YtgnilldcfpgpaaaGreatDoor
open Go.RowKit
def Tab (w : World) : Prop := ∀ i, i < 16 → w.cell? ⟨1, i, none⟩ = some (.int .u32 (bits4 i : Nat))
theorem Tab.only {w w' : World} {rs : List Nat} (h : Tab w) (o : Only rs w w') (hn : 1 ∉ rs) : Tab w' := fun i hi => o.cellSome (h i hi) hn
theorem Tab.keep {w w' : World} (h : Tab w) (o : Only [] w w') : Tab w' := h.only o (fun hm => by cases hm)
theorem xor32 (a b : Nat) (ha : a < 4294967296) (hb : b < 4294967296) : bits .xor .u32 (a : Int) (b : Int) = ((a ^^^ b : Nat) : Int) := u32_xor_nat a b ha hb
theorem low4 (a : Nat) (ha : a < 4294967296) : bits .and .u32 (a : Int) 15 = (a : Int) % 16 := by
  have e := u32_and_nat a 15 ha (by omega)
  rw [Nat.and_two_pow_sub_one_eq_mod a 4] at e
  simpa using e
theorem flip32 (a : Nat) (ha : a < 4294967296) : 4294967295 ^^^ a = 4294967295 - a := by
  apply Nat.eq_of_testBit_eq
  intro i
  rw [show 4294967295 - a = 2 ^ 32 - (a + 1) from by omega, Nat.testBit_two_pow_sub_succ (by omega), Nat.testBit_xor, show 4294967295 = 2 ^ 32 - 1 from rfl, Nat.testBit_two_pow_sub_one]
  by_cases hi : i < 32
  · simp [hi]
  · have : a.testBit i = false := Nat.testBit_lt_two_pow (Nat.lt_of_lt_of_le ha (Nat.pow_le_pow_right (n := 2) (by omega) (by omega : 32 ≤ i)))
    simp [hi, this]
theorem not32 (a : Nat) (ha : a < 4294967296) : bits .xor .u32 IntKind.u32.max (a : Int) = ((4294967295 - a : Nat) : Int) := by
  have e := u32_xor_nat 4294967295 a (by omega) ha
  rw [flip32 a ha] at e
  exact e
set_option maxHeartbeats 800000 in
theorem sum_any (A : Option Addr) (n c : Nat) (ls : List (List UInt8)) (w : World) (hr : Rw w A n ls) (ht : Tab w) (hn : n ≤ 4611686018427387904) (htot : ∀ r ∈ ls, r.length ≤ 1099511627776) :
    Calls Tryz.prog 229 #[.slice A n c] w fun e w' => e = .returned (.int .u32 (sumOf ls.flatten : Nat)) ∧ w = w' := by
  have hl : ls.length = n := hr.len
  go_enter Tryz.func229, Tryz.ntmps229
  go_wp2
  go_loop [3, 10] (fun s i => ∃ (k : Nat) (x : Nat), k ≤ n ∧ i = .int .i64 k ∧ s = .int .u32 x ∧ x < 4294967296 ∧ Hid (x = crc 4294967295 (cat ls k))) (fun _ i => n - (intOf i).toNat)
  case atStart => exact ⟨0, 4294967295, Nat.zero_le _, rfl, rfl, by omega, rfl⟩
  case round =>
    obtain ⟨k, x, hk, rfl, rfl, hx, HX⟩ := hrel
    by_cases hlt : k < n
    · have hkl : k < ls.length := by omega
      obtain ⟨ad, Ai, ci, rfl, hcell, hrow⟩ := hr.at_ hlt hkl
      have hrl := htot _ (List.getElem_mem hkl)
      have HC := Lib.hid (cat_succ ls k hkl)
      generalize hm : (ls[k]'hkl).length = m at *
      have HM := Lib.hid hm
      clear hm
      go_wp2
      go_loop [3, 16] (fun s i => ∃ (j : Nat) (y : Nat), j ≤ m ∧ i = .int .i64 j ∧ s = .int .u32 y ∧ y < 4294967296 ∧ Hid (y = crc x ((ls[k]'hkl).take j))) (fun _ i => m - (intOf i).toNat)
      case atStart => exact ⟨0, x, Nat.zero_le _, rfl, rfl, hx, rfl⟩
      case round =>
        obtain ⟨j, y, hj, rfl, rfl, hy, HY⟩ := hrel
        by_cases hlt2 : j < m
        · obtain ⟨ad2, u, rfl, hu, hcell2⟩ := hrow.at_ hlt2
          have hjl : j < (ls[k]'hkl).length := by rw [HM.out]; exact hlt2
          rw [bvs_get _ _ hjl] at hu
          obtain rfl : bv _ = u := by injection hu
          unfold bv at hcell2
          have hb := byte_lt ((ls[k]'hkl)[j]'hjl)
          obtain ⟨b, hbe⟩ : ∃ b, b = ((ls[k]'hkl)[j]'hjl).toNat := ⟨_, rfl⟩
          rw [← hbe] at hcell2 hb
          obtain ⟨y1, hy1⟩ : ∃ y1, y1 = y ^^^ b := ⟨_, rfl⟩
          obtain ⟨y2, hy2⟩ : ∃ y2, y2 = bits4 y1 := ⟨_, rfl⟩
          obtain ⟨y3, hy3⟩ : ∃ y3, y3 = bits4 y2 := ⟨_, rfl⟩
          have l1 : y1 < 4294967296 := by rw [hy1]; exact xor_lt hy (by omega)
          have l2 : y2 < 4294967296 := by rw [hy2]; exact bits4_lt l1
          have l3 : y3 < 4294967296 := by rw [hy3]; exact bits4_lt l2
          have e0 := xor32 y b hy (by omega)
          rw [← hy1] at e0
          have a1 := low4 y1 l1
          have a2 := low4 y2 l2
          have c1 := ht (y1 % 16) (by omega)
          have c2 := ht (y2 % 16) (by omega)
          have e1 := xor32 (y1 / 16) (bits4 (y1 % 16)) (by omega) (bits4_lt (by omega))
          have e2 := xor32 (y2 / 16) (bits4 (y2 % 16)) (by omega) (bits4_lt (by omega))
          rw [nib_eq, ← hy2] at e1
          rw [nib_eq, ← hy3] at e2
          generalize bits4 (y1 % 16) = t1 at c1 e1
          generalize bits4 (y2 % 16) = t2 at c2 e2
          have HN : Hid (y3 = crc x ((ls[k]'hkl).take (j + 1))) := by
            show y3 = _
            rw [List.take_succ_eq_append_getElem hjl, crc_snoc, ← HY.out, ← hbe, ← hy1, hy3, hy2]
            rfl
          have e1' : bits .xor .u32 ((y1 : Int) / 16) (t1 : Int) = (y2 : Int) := by simpa using e1
          have e2' : bits .xor .u32 ((y2 : Int) / 16) (t2 : Int) = (y3 : Int) := by simpa using e2
          clear e1 e2
          clear hu hbe hy1 hy2 hy3
          go_wp2
          go_round
          case rel => exact ⟨j + 1, y3, by omega, by go_num, rfl, l3, HN⟩
          case measure => simp [intOf]; omega
        · have HF : Hid (y = crc 4294967295 (cat ls (k + 1))) := by
            show y = _
            rw [HC.out, crc_append, ← HX.out, HY.out, List.take_of_length_le (by rw [HM.out]; omega)]
          go_wp2
          go_round
          case rel => exact ⟨k + 1, y, by omega, by go_num, rfl, hy, HF⟩
          case measure => simp [intOf]; omega
    · have HF : Hid (4294967295 - x = sumOf ls.flatten) := by
        show _ = _
        unfold sumOf
        rw [← cat_all ls (k := k) (by omega), ← HX.out]
      have e := not32 x hx
      rw [HF.out] at e
      clear HX
      go_wp2
      go_ret
      exact ⟨rfl, rfl⟩
end Go.Proofs.YtgnilldcfpgpaaaGreatDoor
namespace Go.Proofs.YtgnilldcfpgpaaaGreatDoor
open Go.ChangeShapes Go.WideShapes Go.ChangeAt Go.RowKit
theorem gTab : Tryz.prog.globalNamed "letterbox/octet.remainders" = some 1 := by kernel_rfl
theorem gTabType : (Tryz.prog.globals[1]?).map (·.type) = some 298 := by kernel_rfl
theorem cellsTab : Tryz.prog.cellsOf 298 = 16 := by kernel_rfl
theorem cellsWord : Tryz.prog.cellsOf 231 = 1 := by kernel_rfl
def tabNums : List Int := [0, 498536548, 997073096, 651767980, 1994146192, 1802195444, 1303535960, 1342533948, 3988292384, 4027552580, 3604390888, 3412177804, 2607071920, 2262029012, 2685067896, 3183342108]
theorem gNam : Tryz.prog.globalNamed "letterbox/store.named" = some 0 := by kernel_rfl
theorem gNamType : (Tryz.prog.globals[0]?).map (·.type) = some 196 := by kernel_rfl
theorem cellsNam : Tryz.prog.cellsOf 196 = 9 := by kernel_rfl
theorem cellsOne : Tryz.prog.cellsOf 3 = 1 := by kernel_rfl
def namNums : List Int := [0, 1, 2, 2, 6, 226, 58, 10, 14]
structure LaidS (W : World) : Prop where
  t : Tab W
  n : TabN W
  r : 1 < W.heap.size
  p : 0 < W.heap.size
theorem laid_of {W : World} (h : laidMetH Tryz.prog Rows.storeOfNothingRow.laid W) : LaidS W := by
  have ht : Lib.TabIs Tryz.prog W "letterbox/octet.remainders" .u32 tabNums :=
    Lib.tabIs_of_head gTab gTabType Tryz.underlying298 Tryz.underlying231 cellsWord cellsTab h
  have hn : Lib.TabIs Tryz.prog W "letterbox/store.named" .i64 namNums := by
    have h' : laidMet Tryz.prog [("letterbox/octet.remainders", Lib.tabData .u32 tabNums), ("letterbox/store.named", Lib.tabData .i64 namNums)] W := h
    obtain ⟨ps, ⟨_, _, _, _, _, _, _, _, _, _, h2, _⟩, _⟩ := h'
    obtain ⟨g', t', cs, fuel, p, q, hg', ht', hvar, hd, _, _⟩ := h2
    obtain rfl := Option.some.inj (gNam.symm.trans hg')
    obtain rfl := Option.some.inj (gNamType.symm.trans ht')
    unfold Lib.TabIs
    rw [hvar, ← Lib.cells_of_tab Tryz.underlying196 Tryz.underlying3 cellsOne cellsNam hd]
  have c0 := ht.cell gTab 0 (by simp [tabNums])
  have n0 := hn.cell gNam 0 (by simp [namNums])
  refine ⟨fun i hi => ?_, fun i hi => ?_, block_lt_of_cell c0, block_lt_of_cell n0⟩
  · have hb : ∀ i, i < 16 → tabNums[i]? = some ((bits4 i : Nat) : Int) := by decide +kernel
    rw [ht.cell gTab i (by simpa [tabNums] using hi), List.getD_eq_getElem?_getD, hb i hi]
    rfl
  · have hb : ∀ i, i < 9 → namNums[i]? = some ((nmd i : Nat) : Int) := by decide +kernel
    rw [hn.cell gNam i (by simpa [namNums] using hi), List.getD_eq_getElem?_getD, hb i hi]
    rfl
theorem fact_laid : laidOutB Tryz.checked.prog = true := by kernel_rfl
theorem fact_rowed : mapsRowed Tryz.checked.prog = true := by kernel_rfl
theorem fact_stops : (Tryz.checked.prog.stops == []) = true := by kernel_rfl
theorem fact_knobs : (Tryz.checked.prog.stopKnobs == []) = true := by kernel_rfl
theorem fact_heard : Tryz.checked.prog.stopsHeard = true := by kernel_rfl
theorem fact_enter : Tryz.checked.prog.mayEnter = true := by kernel_rfl
theorem closed_gen {P : Program} {f : FuncId} {fn : Func} {s : ChangeSpec} {c : OpenClaim}
    (a0 : (c.wf (OpenSpec.ofChange s)) = true) (a1 : (laidOutB P) = true) (a2 : (mapsRowed P) = true) (a3 : (fn.params.all (P.readableRec ·)) = true) (a4 : (namedTie P c.named s.vars) = true) (a5 : ((c.stops == [])) = true) (a6 : ((P.stops == [])) = true) (a7 : ((c.knobs == [])) = true) (a8 : ((P.stopKnobs == [])) = true) (a9 : ((c.inPlace == P.inPlace f)) = true) (a10 : ((c.unfollowed == P.unfollowed f)) = true) (a11 : ((c.recurses == P.recurses f)) = true) (a12 : ((c.named == P.varsNamed f)) = true) (a13 : ((c.maps == (fn.params.toList ++ s.plain.varTypes P).any (P.mapsRec ·))) = true) (a14 : ((c.ifaces == (fn.params.toList ++ s.plain.varTypes P).any (P.ifacesRec ·))) = true) (a15 : ((c.mapsOut == P.mapsAmong fn.resultTypes.toList)) = true) (a16 : ((c.loops == (fn.params.toList ++ s.plain.varTypes P).any (P.loopsFrom ·))) = true) (a17 : ((c.wideKeys == (fn.params.toList ++ s.plain.varTypes P ++ fn.resultTypes.toList).any (P.wideKeysFrom ·))) = true) (a18 : (s.vars.all (P.varReadable ·)) = true) (a19 : (fn.resultTypes.all (fun t => P.readableRec t && decide (t < P.types.size))) = true) (a20 : ((c.ifacesOut == fn.resultTypes.toList.any (P.ifacesRec ·))) = true) (a21 : ((c.loopsOut == fn.resultTypes.toList.any (P.loopsFrom ·))) = true) (a22 : ((c.plainKeys == P.plainKeys)) = true) (a23 : (c.shortTexts.isNone) = true) (a24 : (P.stopsHeard) = true) (a25 : (P.mayEnter) = true) (a26 : ((c.lifted == P.liftsFinal)) = true) (a27 : ((P.make == some c.make)) = true) (a28 : ((c.kinds == (if c.domain.isEmpty then [] else fn.params.toList.map fun t => match P.underlying t with | some (.int k) => some k | _ => none))) = true) (a29 : ((c.pinned == c.pinnedBy)) = true) (a30 : ((c.veiled == (fn.params.toList ++ s.plain.varTypes P ++ fn.resultTypes.toList).any (P.veiledRec ·))) = true) (a31 : (c.veiledFits P fn.params.toList (fn.params.toList ++ s.plain.varTypes P ++ fn.resultTypes.toList)) = true) : joinedFacts P f fn s c = true := by
  unfold joinedFacts
  simp only [Bool.and_eq_true]
  exact ⟨⟨⟨⟨⟨⟨⟨⟨⟨⟨⟨⟨⟨⟨⟨⟨⟨⟨⟨⟨⟨⟨⟨⟨⟨⟨⟨⟨⟨⟨⟨a0, a1⟩, a2⟩, a3⟩, a4⟩, a5⟩, a6⟩, a7⟩, a8⟩, a9⟩, a10⟩, a11⟩, a12⟩, a13⟩, a14⟩, a15⟩, a16⟩, a17⟩, a18⟩, a19⟩, a20⟩, a21⟩, a22⟩, a23⟩, a24⟩, a25⟩, a26⟩, a27⟩, a28⟩, a29⟩, a30⟩, a31⟩
end Go.Proofs.YtgnilldcfpgpaaaGreatDoor
namespace Go.Proofs.YtgnilldcfpgpaaaGreatDoor
open Go.RowKit Go.Maps
def keyLit (s : ByteArray) : Lit := .string s.data.toList
theorem keyed : Keyed Tryz.prog 9 := string_keyed Tryz.underlying9
theorem key_of (s : ByteArray) (h : s.size ≤ maxLen) : keyOf Tryz.prog 9 (.string s) = some (keyLit s) := WideMaps.keyOf_string_mk Tryz.underlying9 h
theorem same_key (a b : ByteArray) : (keyLit a).sameKey (keyLit b) = decide (a = b) := by
  rw [Bool.eq_iff_iff]
  simp only [keyLit, Lit.sameKey, beq_iff_eq, decide_eq_true_iff]
  exact ⟨name_ext, fun h => by rw [h]⟩
theorem before_key (a b : ByteArray) : (keyLit a).before (keyLit b) = bef a b := by rw [bef_eq]; rfl
section
variable {w w' : World} {m : Nat}
theorem Only.of_turned (h : w.mapTurned w' m) : Only [m] w w' := by
  have := Only.of_grown h.grown
  simpa using this
end
end Go.Proofs.YtgnilldcfpgpaaaGreatDoor
namespace Go.Proofs.YtgnilldcfpgpaaaGreatDoor
open Go.RowKit Go.Maps
def heldP (p : Value → Bool) (v : Value) : Option (DataW Value × List MemPlace) := if p v = true then some (.held v, []) else none
theorem heldP_mk {p : Value → Bool} {v : Value} (h : p v = true) : heldP p v = some (.held v, []) := by unfold heldP; rw [if_pos h]
theorem heldP_inv {p : Value → Bool} {v : Value} {y : DataW Value × List MemPlace} (h : heldP p v = some y) : p v = true ∧ y = (.held v, []) := by
  unfold heldP at h
  split at h
  · rename_i hc
    exact ⟨hc, by injection h with h; exact h.symm⟩
  · cases h
abbrev Kv := ByteArray × Value
def entK (p : Kv) : Lit × DataW Value := (keyLit p.1, .held p.2)
def DK (l : List Kv) : DataW Value := .map (l.map entK)
theorem fst_ent (s : ByteArray) : ((fun p : Lit × DataW Value => p.1.sameKey (keyLit s)) ∘ entK) = fun p : Kv => decide (p.1 = s) := by
  funext p
  exact same_key _ _
theorem atKey_DK (l : List Kv) (s : ByteArray) (z : DataW Value) : (DK l).atKey (keyLit s) z = match findL Prod.fst l s with | some p => .held p.2 | none => z := by
  unfold DK DataW.atKey findL
  simp only []
  rw [List.find?_map, fst_ent]
  cases List.find? (fun p : Kv => decide (p.1 = s)) l <;> rfl
theorem has_DK (l : List Kv) (s : ByteArray) : Maps.has (DK l) (keyLit s) = (findL Prod.fst l s).isSome := by
  unfold DK Maps.has findL
  simp only []
  rw [List.any_map, fst_ent, Bool.eq_iff_iff, List.find?_isSome, List.any_eq_true]
theorem size_DK (l : List Kv) : Maps.size (DK l) = l.length := by simp [DK, Maps.size]
theorem del_DK (l : List Kv) (s : ByteArray) : (DK l).del (keyLit s) = DK (delL Prod.fst l s) := by
  show DataW.map ((l.map entK).filter fun p => !p.1.sameKey (keyLit s)) = DataW.map ((delL Prod.fst l s).map entK)
  rw [List.filter_map]
  unfold delL
  congr 2
  congr 1
  funext p
  show (!(keyLit p.1).sameKey (keyLit s)) = _
  rw [same_key]
theorem insert_DK (x : Kv) : ∀ l : List Kv, DataW.insert (entK x) (l.map entK) = (insL Prod.fst x l).map entK
  | [] => rfl
  | g :: r => by
    unfold insL
    simp only [List.map_cons]
    unfold DataW.insert
    have : (entK x).1.before (entK g).1 = bef x.1 g.1 := before_key _ _
    rw [this]
    split
    · rfl
    · rw [List.map_cons, insert_DK x r]
theorem put_DK (x : Kv) (l : List Kv) : (DK l).put (keyLit x.1) (.held x.2) = DK (putL Prod.fst x l) := by
  show DataW.map (DataW.insert (entK x) ((l.map entK).filter fun p => !p.1.sameKey (keyLit x.1))) = _
  have hf : ((l.map entK).filter fun p => !p.1.sameKey (keyLit x.1)) = (delL Prod.fst l x.1).map entK := by
    rw [List.filter_map]
    unfold delL
    congr 1
    congr 1
    funext p
    show (!(keyLit p.1).sameKey (keyLit x.1)) = _
    rw [same_key]
  rw [hf]
  exact congrArg DataW.map (insert_DK x _)
def KvAt (n : Value → Bool) (w : World) (m : Nat) (l : List Kv) : Prop := w.ownsMap Tryz.prog 9 (heldP n) m l.length (DK l)
def KvIs (n : Value → Bool) (w : World) (mb : Option Nat) (l : List Kv) : Prop :=
  match mb with
  | none => l = []
  | some m => KvAt n w m l
section
variable {n : Value → Bool} {w w' : World} {m : Nat} {mb : Option Nat} {l : List Kv} {s : ByteArray} {rs : List Nat}
theorem KvAt.only (h : KvAt n w m l) (o : Only rs w w') (hn : m ∉ rs) : KvAt n w' m l := by
  have hlt := World.ownsMap.lt h
  obtain ⟨es, clock, hb, r⟩ := h
  exact ⟨es, clock, (o.block m hlt hn).trans hb, r⟩
theorem KvIs.only (h : KvIs n w mb l) (o : Only rs w w') (hn : ∀ m, mb = some m → m ∉ rs) : KvIs n w' mb l := by
  cases mb with
  | none => exact h
  | some m => exact KvAt.only h o (hn m rfl)
theorem KvIs.keep (h : KvIs n w mb l) (o : Only [] w w') : KvIs n w' mb l := h.only o fun _ _ hm => nomatch hm
theorem KvAt.lt (h : KvAt n w m l) : m < w.heap.size := World.ownsMap.lt h
theorem KvIs.lt (h : KvIs n w mb l) : ∀ m, mb = some m → m < w.heap.size := by
  rintro m rfl
  exact KvAt.lt h
theorem KvAt.of {k : Nat} (h : w.ownsMap Tryz.prog 9 (heldP n) m k (DK l)) : KvAt n w m l := by
  obtain ⟨es, clock, hb, F, _, hD⟩ := h
  refine ⟨es, clock, hb, F, ?_, hD⟩
  rw [← size_DK l, hD]
  simp [Maps.size, length_sorted]
def valK (z : Array Value) (l : List Kv) (s : ByteArray) : Value := match findL Prod.fst l s with
  | some p => p.2
  | none => .agg z
theorem look_kv (c : Bool) {t e : TypeId} (ht : Tryz.prog.underlying t = some (.map 9 e)) {z : Array Value} (hz : (zeroValue e).run Tryz.prog w = .ok (.agg z) w) (hzn : n (.agg z) = true) (h : KvIs n w mb l) (hs : s.size ≤ maxLen) :
    (Instr.lookup t (.map mb) (.string s) c).run Tryz.prog w = .ok (if c then .tuple #[valK z l s, .bool (findL Prod.fst l s).isSome] else valK z l s) w := by
  have hk := key_of s hs
  have hzd := heldP_mk hzn
  have hv : ∀ (v : Value) (ps : List MemPlace), heldP n v = some ((DK l).atKey (keyLit s) (.held (.agg z)), ps) → v = valK z l s := fun v ps hv => by
    obtain ⟨_, e2⟩ := heldP_inv hv
    rw [atKey_DK] at e2
    have e3 := congrArg Prod.fst e2
    clear e2 hv
    dsimp only at e3
    unfold valK
    revert e3
    cases findL Prod.fst l s with
    | none => exact fun e => (DataW.held.inj e).symm
    | some p => exact fun e => (DataW.held.inj e).symm
  cases mb with
  | none =>
    have hl : l = [] := h
    subst hl
    rw [Maps.look_nil c keyed ht hz hk]
    have e : findL Prod.fst ([] : List Kv) s = none := rfl
    have e2 : valK z [] s = .agg z := by unfold valK; rw [e]
    rw [e, e2]
    simp
  | some m =>
    cases c with
    | true =>
      obtain ⟨v, ps, hr, hv'⟩ := World.ownsMap.look_ok h keyed ht hz hzd hk
      rw [hr, hv v ps hv', has_DK]
      rfl
    | false =>
      obtain ⟨v, ps, hr, hv'⟩ := World.ownsMap.lookup h keyed ht hz hzd hk
      rw [hr, hv v ps hv']
      rfl
theorem len_kv {t e : TypeId} (ht : Tryz.prog.underlying t = some (.map 9 e)) (h : KvIs n w mb l) (ty : TypeId) : (Builtin.len_ #[t] ty #[.map mb]).run Tryz.prog w = .ok (.int .i64 (l.length : Int)) w := by
  cases mb with
  | none =>
    have hl : l = [] := h
    subst hl
    exact Maps.len_nil ht ty
  | some m =>
    have := World.ownsMap.len h ht ty
    rw [this, size_DK]
end
end Go.Proofs.YtgnilldcfpgpaaaGreatDoor
