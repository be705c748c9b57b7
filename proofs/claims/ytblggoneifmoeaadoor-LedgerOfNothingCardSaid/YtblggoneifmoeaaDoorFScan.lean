/-
  frame.Scan; the reference's Scan; a law's rows.
-/
import Derived.Test.YtblggoneifmoeaaDoorFRef
import Derived.Test.YtblggoneifmoeaaDoorOwnMore
import Derived.Handy
import Derived.Deep.DeepMust
namespace Go.Proofs.YtblggoneifmoeaaDoor
open Go.RowKit

/-- Slices of bytes of the call's own, as values. -/
def RowsAt (w : World) (vs : List Value) (ls : List (List UInt8)) : Prop :=
  vs.length = ls.length ∧ ∀ (i : Nat) (l : List UInt8), ls[i]? = some l → ∃ Ai ci, vs[i]? = some (.slice Ai l.length ci) ∧ Own w 5 Ai l.length ci (bvs l)
section
variable {w w' : World} {vs : List Value} {ls : List (List UInt8)} {A : Option Addr} {n c : Nat} {xs : List Value}
theorem RowsAt.nil (w : World) : RowsAt w [] [] := ⟨rfl, fun i l h => by simp at h⟩
theorem RowsAt.len (h : RowsAt w vs ls) : vs.length = ls.length := h.1
theorem RowsAt.only {rs : List Nat} (h : RowsAt w vs ls) (o : Only rs w w') (hd : ∀ (t : List UInt8) (B : Option Addr) (cb : Nat), Own w 5 B t.length cb (bvs t) → ∀ k ∈ blks B, k ∉ rs) : RowsAt w' vs ls :=
  ⟨h.1, fun i l hi => by
    obtain ⟨Ai, ci, h1, h2⟩ := h.2 i l hi
    exact ⟨Ai, ci, h1, h2.only o (hd l Ai ci h2)⟩⟩
theorem RowsAt.keep (h : RowsAt w vs ls) (o : Only [] w w') : RowsAt w' vs ls := h.only o (fun _ _ _ _ _ _ hm => by cases hm)
theorem RowsAt.beside (h : RowsAt w vs ls) (hv : Own w 23 A n c xs) (o : Only (blks A) w w') : RowsAt w' vs ls := h.only o (fun _ _ _ hB => hB.apart hv (by decide))
theorem RowsAt.snoc (h : RowsAt w vs ls) {l : List UInt8} {A : Option Addr} {c : Nat} (ho : Own w 5 A l.length c (bvs l)) : RowsAt w (vs ++ [.slice A l.length c]) (ls ++ [l]) :=
  ⟨by simp [h.1], fun i x hi => by
    rcases Nat.lt_or_ge i ls.length with h1 | h1
    · rw [List.getElem?_append_left h1] at hi
      obtain ⟨Ai, ci, h2, h3⟩ := h.2 i x hi
      exact ⟨Ai, ci, by rw [List.getElem?_append_left (by rw [h.1]; exact h1)]; exact h2, h3⟩
    · rw [List.getElem?_append_right h1] at hi
      have hv : vs.length ≤ i := by rw [h.1]; exact h1
      have h0 : i - ls.length = 0 := by
        have := (List.getElem?_eq_some_iff.1 hi).1
        simp at this
        omega
      rw [h0] at hi
      simp at hi
      subst hi
      exact ⟨A, c, by rw [List.getElem?_append_right hv, h.1, h0]; rfl, ho⟩⟩
theorem RowsAt.rw (h : RowsAt w vs ls) (hs : Sl w A n vs) : Rw w A n ls :=
  ⟨by rw [← h.1]; exact hs.len, vs, hs, fun i l hi => by
    obtain ⟨Ai, ci, h1, h2⟩ := h.2 i l hi
    exact ⟨Ai, ci, h1, h2.sl⟩⟩
end

/-- The call returns rows of bytes in new memory, and a number. -/
def FreshRows (w : World) (ls : List (List UInt8)) (x : Nat) (e : Ending) (w' : World) : Prop :=
  ∃ A c vs, e = .returned (.tuple #[.slice A ls.length c, .int .i64 (x : Int)]) ∧ Own w' 23 A ls.length c vs ∧ RowsAt w' vs ls ∧ Only [] w w' ∧ ∀ k ∈ blks A, w.heap.size ≤ k

theorem sl_any_none (w : World) (A : Option Addr) : Sl w A 0 (bvs []) := ⟨rfl, fun h => absurd h (by omega)⟩
theorem bad_nil : bad [] = 2 := bad_0 (by decide)
theorem one_row (A : Option Addr) (n c : Nat) : ∀ u ∈ [Value.slice A n c], u.oneCell' = true := by
  intro u hu
  simp at hu
  subst hu
  rfl

set_option maxRecDepth 100000 in
set_option maxHeartbeats 1600000 in
theorem scan_any (A : Option Addr) (n c : Nat) (b : List UInt8) (w : World) (hs : Sl w A n (bvs b)) (ht : Tab w) (hc : n ≤ c) (hn : n ≤ 100000000000) :
    Calls Tryd.prog 56 #[.slice A n c] w (FreshRows w (scan b).1 (scan b).2) := by
  obtain ⟨i0, hi, hz0, hz1, hz2⟩ := info_parts infoBytes
  have hl : b.length = n := by simpa using hs.len
  have HL := Lib.hid hl
  have hn' : n ≤ 100000000000 := hn
  clear hl
  go_enter Tryd.func56, Tryd.ntmps56
  go_wp2_with fail
  go_loopw [4, 5] (fun s i wr => ∃ (k m cl : Nat) (L : Option Addr) (vs : List Value) (ls : List (List UInt8)), k ≤ n ∧ 12 * m ≤ k ∧ i = .int .i64 k ∧ s = .slice L m cl ∧ Hid (ls.length = m) ∧ Own wr 23 L m cl vs ∧ RowsAt wr vs ls ∧ Only [] w wr ∧ (∀ x ∈ blks L, w.heap.size ≤ x) ∧ Hid (scan b = (ls ++ (scan (b.drop k)).1, k + (scan (b.drop k)).2))) (fun _ i _ => n - (intOf i).toNat)
  case atStart => exact ⟨0, 0, 0, none, [], [], Nat.zero_le _, Nat.le_refl _, rfl, rfl, rfl, Own.nil _ _, RowsAt.nil _, Only.refl _ _, fun x hx => (by cases hx), by show _ = _; simp⟩
  case round =>
    obtain ⟨k, m, cl, L, vs, ls, hk, h12, rfl, rfl, HLs, HV, HR, HO, HB, HS⟩ := hrel
    by_cases hkn : k < n
    · obtain ⟨ad, e, _⟩ := hs.2 (by omega)
      subst e
      have hck : ¬ c = k := by omega
      have hd := hs.add (k := k) (m := n - k) (by omega)
      rw [List.take_of_length_le (by rw [List.length_drop, bvs_length, HL.out]; omega), bvs_drop] at hd
      have HD := Lib.hid (decode_any (some (ad.add k)) (n - k) (c - k) (b.drop k) wr (hd.keep HO) (ht.keep HO) (by omega) (by omega))
      have hdl : (b.drop k).length = n - k := by rw [List.length_drop, HL.out]
      by_cases h0 : bad (b.drop k) = 0
      · have hne : ((bad (b.drop k) : Int) != 0) = false := by rw [h0]; rfl
        have hsz := size_pos h0
        have HG := Lib.hid (scan_good h0)
        have hdd : (b.drop k).drop (size (b.drop k)) = b.drop (k + size (b.drop k)) := by rw [List.drop_drop]
        rw [hdd] at HG
        have hs1 := hsz.1
        have hs2 := hsz.2.1
        rw [hdl] at hs2
        obtain ⟨y, hy⟩ : ∃ y, y = body (b.drop k) := ⟨_, rfl⟩
        rw [← hy] at HD HG
        generalize size (b.drop k) = z at *
        clear h0 hsz hdl hd hy hdd
        go_wp2_with fail
        refine HD.out.mono ?_
        rintro e w1 ⟨A1, c1, rfl, V1, O1, B1⟩
        go_wp2_with (at_builtin; go_must (refine wpList_append_sl rfl (.tmp 21) (.tmp 23) 22 rfl 23 i0 (.slice none 0 0) 24 Tryd.underlying22 hi hz0 hz1 hz2 rfl L m cl vs rfl ((HV.keep O1).alloc _) _ 1 1 _ rfl (Sl.of_bk (Bk.new _ _ #[.slice A1 y.length c1])) (one_row _ _ _) (by unfold maxLen; omega) (by omega) ?_); intro L2 c2 w2 HV2 O2 B2)
        go_roundw
        case rel =>
          have HVa := (HV.keep O1).alloc (.cells #[.slice A1 y.length c1] 23)
          have V1a := V1.alloc (.cells #[.slice A1 y.length c1] 23)
          have V1' : Own w2 5 A1 y.length c1 (bvs y) := V1a.only O2 (V1a.apart HVa (by decide))
          have HR2 : RowsAt w2 vs ls := ((HR.keep O1).keep ((Only.refl _ _).alloc _)).beside HVa O2
          refine ⟨k + z, m + 1, c2, L2, vs ++ [.slice A1 y.length c1], ls ++ [y], by omega, by omega, by go_num, rfl, ?_, HV2, HR2.snoc V1', ((HO.then O1).alloc _).trans O2 (fun x hx => .inr (HB x hx)), fun x hx => ?_, ?_⟩
          · show _ = _
            rw [List.length_append, HLs.out]; rfl
          · rcases B2 x hx with h | h
            · exact HB x h
            · have := (HO.then O1).size; rw [World.size_alloc] at h; omega
          · show _ = _
            rw [HS.out, HG.out]
            simp only [List.append_assoc, List.singleton_append, Prod.mk.injEq, true_and]
            omega
        case measure => simp [intOf]; omega
      · have hne : ((bad (b.drop k) : Int) != 0) = true := by rw [bne_iff_ne]; omega
        have HG := Lib.hid (scan_bad h0)
        clear h0 hdl hd
        go_wp2_with fail
        refine HD.out.mono ?_
        rintro e w1 ⟨A1, c1, rfl, V1, O1, B1⟩
        go_wp2
        go_ret2
        rw [HS.out, HG.out]
        simp only [List.append_nil, Nat.add_zero]
        exact ⟨L, cl, vs, by rw [HLs.out]; rfl, by rw [HLs.out]; exact HV.keep O1, HR.keep O1, HO.then O1, HB⟩
    · have HG : Hid (scan b = (ls, k)) := by
        show _ = _
        rw [HS.out, List.drop_of_length_le (by rw [HL.out]; omega), scan_bad (by rw [bad_nil]; omega)]
        simp
      have HD := Lib.hid (fun (A' : Option Addr) (c' : Nat) => decode_any A' 0 c' [] wr (sl_any_none _ _) (ht.keep HO) (by omega) (by omega))
      rw [bad_nil] at HD
      have hne : ((2 : Nat) : Int) = 2 := rfl
      rw [hne] at HD
      obtain rfl : k = n := by omega
      clear hne
      cases A with
      | none =>
        by_cases hck : c = k
        · go_wp2_with fail
          refine (HD.out _ _).mono ?_
          rintro e w1 ⟨A1, c1, rfl, V1, O1, B1⟩
          go_wp2
          go_ret2
          rw [HG.out]
          exact ⟨L, cl, vs, by rw [HLs.out]; rfl, by rw [HLs.out]; exact HV.keep O1, HR.keep O1, HO.then O1, HB⟩
        · go_wp2_with fail
          refine (HD.out _ _).mono ?_
          rintro e w1 ⟨A1, c1, rfl, V1, O1, B1⟩
          go_wp2
          go_ret2
          rw [HG.out]
          exact ⟨L, cl, vs, by rw [HLs.out]; rfl, by rw [HLs.out]; exact HV.keep O1, HR.keep O1, HO.then O1, HB⟩
      | some ad =>
        by_cases hck : c = k
        · go_wp2_with fail
          refine (HD.out _ _).mono ?_
          rintro e w1 ⟨A1, c1, rfl, V1, O1, B1⟩
          go_wp2
          go_ret2
          rw [HG.out]
          exact ⟨L, cl, vs, by rw [HLs.out]; rfl, by rw [HLs.out]; exact HV.keep O1, HR.keep O1, HO.then O1, HB⟩
        · go_wp2_with fail
          refine (HD.out _ _).mono ?_
          rintro e w1 ⟨A1, c1, rfl, V1, O1, B1⟩
          go_wp2
          go_ret2
          rw [HG.out]
          exact ⟨L, cl, vs, by rw [HLs.out]; rfl, by rw [HLs.out]; exact HV.keep O1, HR.keep O1, HO.then O1, HB⟩
end Go.Proofs.YtblggoneifmoeaaDoor
