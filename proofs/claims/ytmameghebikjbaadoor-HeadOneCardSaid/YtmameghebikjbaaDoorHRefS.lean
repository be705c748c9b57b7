/-
  The document's Split and Stuff.
-/
import Derived.Test.YtmameghebikjbaaDoorHRefE
namespace Go.Proofs.YtmameghebikjbaaDoor
open Go.RowKit Go.Instr

/-- Rows that lie in the bytes that came in. -/
def FreshRf (w : World) (A : Option Addr) (ls : List (List UInt8)) (n : Nat) (e : Ending) (w' : World) : Prop :=
  ∃ A' c', e = .returned (.slice A' n c') ∧ Rz rBt (fun x => x ∈ blks A) w.heap.size w' A' n c' ls ∧ Only [] w w'
section
variable {w : World} {A : Option Addr} {n c : Nat} {l : List UInt8}
set_option maxRecDepth 100000 in
set_option maxHeartbeats 1000000 in
theorem refSplit_any (hs : Bt w A n c l) (hbig : n ≤ 4096) (hA : ∀ x ∈ blks A, x < w.heap.size) : Calls Tryd.prog 13 #[.slice A n c] w (FreshRf w A ((lns l).map tx) (lns l).length) := by
  have HL := Lib.hid hs.len
  obtain ⟨i0, hi, hz0, hz1, hz2⟩ := info_parts infoBytes
  have hcap := hs.cap
  have HB := Lib.hid hs
  clear hs
  obtain ⟨ts, hts⟩ : ∃ ts, (lns l).map tx = ts := ⟨_, rfl⟩
  obtain ⟨r, hr⟩ : ∃ r, (lns l).length = r := ⟨_, rfl⟩
  have htl : ts.length = r := by rw [← hts, List.length_map, hr]
  rw [hts, hr]
  have HTS := Lib.hid hts
  have HTL := Lib.hid htl
  clear hts hr htl
  go_enter Tryd.func13, Tryd.ntmps13
  go_wp2
  go_loopw [3, 4] (fun L i wr => ∃ (k j : Nat) (A' : Option Addr) (c' : Nat) (ls : List (List UInt8)), k ≤ n ∧ j ≤ k ∧ i = .int .i64 (k : Int) ∧ L = .slice A' j c' ∧ Rz rBt (fun x => x ∈ blks A) w.heap.size wr A' j c' ls ∧ Only [] w wr ∧ Hid (ls ++ (lns (l.drop k)).map tx = ts)) (fun _ i _ => n - (intOf i).toNat)
  case atStart => exact ⟨0, 0, none, 0, [], Nat.zero_le _, Nat.le_refl _, rfl, rfl, Rz.nil _ _ _ _, Only.refl _ _, by show _ = _; rw [List.drop_zero, List.nil_append]; exact HTS.out⟩
  case round =>
    obtain ⟨k, j, A', c', ls, hk, hjk, rfl, rfl, hR, hO, HK⟩ := hrel
    by_cases hlt : k < n
    · have hlt' : (k : Int) < (n : Int) := by omega
      have hkl : k < l.length := by rw [HL.out]; exact hlt
      have HBr := HB.out.keep hO
      obtain ⟨ad, rfl, hcell⟩ := HBr.at_ hlt hkl
      clear hcell
      obtain ⟨hg1, hg2⟩ := nx_gt hkl
      have cN := refNext_any HBr hbig k hk
      have hm := HBr.mid (i := k) (j := nx l k) (by omega) (by rw [← HL.out]; exact hg2) (by omega)
      rw [mid_line (by omega)] at hm
      have hne : l.drop k ≠ [] := fun h => by have := congrArg List.length h; rw [List.length_drop] at this; simp at this; omega
      have hst := lns_step _ hne
      have hdr := drop_line (l := l) (k := k) (by omega)
      obtain ⟨q, hq⟩ : ∃ q, nx l k = q := ⟨_, rfl⟩
      obtain ⟨ln, hln⟩ : ∃ ln, (l.drop k).take (nl (l.drop k) + 1) = ln := ⟨_, rfl⟩
      rw [hq] at cN hm hdr hg1 hg2
      rw [hln] at hm hst
      rw [hdr] at hst
      have hmt := hm.tx
      obtain ⟨T, hT⟩ : ∃ T, tx ln = T := ⟨_, rfl⟩
      obtain ⟨t, ht⟩ : ∃ t, T.length = t := ⟨_, rfl⟩
      have cT := refText_any hm
      rw [hT, ht] at cT hmt
      have HE : Hid ((ls ++ [T]) ++ (lns (l.drop q)).map tx = ts) := by
        show _ = _
        rw [← HK.out, hst, List.map_cons, hT]
        simp
      have hq1 : (k : Int) ≤ (q : Int) := by omega
      have hq2 : (q : Int) ≤ (n : Int) := by have := HL.out; omega
      have hq3 : (q : Int) ≤ (c : Int) := by omega
      have hq4 : ¬ c = k := by omega
      obtain ⟨vs, hv1, hv2, hv4, hv3⟩ := hR
      have HTt := Lib.hid ht
      have HV2 := Lib.hid hv2
      have HV3 := Lib.hid hv3
      have HMT := Lib.hid hmt
      have hsz0 := hO.size
      clear hst hdr hln hq hg2 hkl ht hm hne hT hv2 hv3 hmt HBr
      go_wp2_with first
        | (go_at_call 35; with_reducible refine cN.mono ?_; rintro e w1 ⟨rfl, rfl⟩)
        | (go_at_call 36; with_reducible refine cT.mono ?_; rintro e w1 ⟨rfl, rfl⟩)
        | (at_builtin; refine wpList_append_sl rfl (.tmp 13) (.tmp 19) 23 rfl 22 i0 (.slice none 0 0) 24 Tryd.underlying23 hi hz0 hz1 hz2 rfl A' j c' vs rfl (hv1.alloc _) (some ⟨wr.heap.size, 0, none⟩) 1 1 [.slice (some (ad.add k)) t (c - k)] rfl (Sl.of_bk (Bk.new _ _ _)) (fun u hu => by simp at hu; subst hu; rfl) (by unfold maxLen; omega) (by omega) ?_; intro A5 c5 w5 hV5 hO5 hB5)
      have hOa : Only [] wr (wr.alloc (.cells #[.slice (some (ad.add k)) t (c - k)] 22)) := (Only.refl _ _).alloc _
      have hR5 : Rz rBt (fun x => x ∈ blks (some ad)) w.heap.size w5 A5 (j + 1) c5 (ls ++ [T]) := by
        refine rz_push rBt_steady (Ai := some (ad.add k)) (ci := c - k) (by simp; omega) (hv1.keep hOa) HV2.out hv4 (fun i l2 hl2 => ?_) (by rw [HTt.out]; exact hV5) hO5 hB5 (by unfold rBt; rw [HTt.out]; exact HMT.out.keep hOa) (fun x hx => ?_)
        · obtain ⟨Ai, ci, e1, e2, e3⟩ := HV3.out i l2 hl2
          exact ⟨Ai, ci, e1, rBt_steady _ _ _ _ _ _ e2 hOa (fun _ _ hm => nomatch hm), fun x hx => ⟨(e3 x hx).1, by have := (e3 x hx).2.1; simp; omega, (e3 x hx).2.2⟩⟩
        · have hx2 : x = ad.block := by simpa [add_block] using hx
          have hxl := hA ad.block (by simp)
          refine ⟨by simp [hx2], by simp; omega, fun hm => ?_⟩
          have := hv4 x hm
          omega
      go_roundw
      case rel => exact ⟨q, j + 1, A5, c5, ls ++ [T], by omega, by omega, rfl, rfl, hR5, (hO.then hOa).trans hO5 (fun x hx => .inr (hv4 x hx)), HE⟩
      case measure => simp [intOf]; omega
    · obtain rfl : k = n := by omega
      have HE : Hid (ls = ts) := by
        show _ = _
        rw [← HK.out, List.drop_of_length_le (by rw [HL.out]; exact Nat.le_refl _)]
        simp [lns]
      have HJ : Hid (r = j) := by
        show _ = _
        rw [← HTL.out, ← HE.out]
        exact hR.len
      rw [HE.out] at hR
      go_wp2
      go_ret
      exact ⟨A', c', by rw [HJ.out]; rfl, by rw [HJ.out]; exact hR, hO⟩
end
end Go.Proofs.YtmameghebikjbaaDoor
