/-
  lock: Due, walked.
-/
import Derived.Test.YtmjkdfneohpbjaaQDue
import Derived.Test.YtmjkdfneohpbjaaRowsOf
import Derived.Sort.OwnSortedInts
import Derived.Maps.RangeWalk
import Derived.Laws.IdiomRangeMap
namespace Go.Proofs.Ytmjkdfneohpbjaa
open Go.RowKit Go.Maps Go.Shelf Go.Sort

/-- Ints in new memory. -/
def IntsNew (w : World) (cs : List Int) (e : Ending) (w' : World) : Prop := ∃ A c, e = .returned (.slice A cs.length c) ∧ Own w' 3 A cs.length c (ivs cs) ∧ Only [] w w' ∧ ∀ k ∈ blks A, w.heap.size ≤ k
section
variable {w : World} {g : Nat} {hb db : Option Nat} {l : List Hd} {ds : List Du}
set_option maxRecDepth 100000 in
theorem sort_any {w : World} {A : Option Addr} {n c : Nat} {cs ts : List Int} (h : Own w 3 A n c (ivs cs)) (hn : n ≤ 1000000) (hts : cs.mergeSort (fun x y => decide (x ≤ y)) = ts) :
    Calls Try.prog 25 #[.slice A n c] w fun e w' => e = .returned (.tuple #[]) ∧ Own w' 3 A n c (ivs ts) ∧ Only (blks A) w w' := by
  have hl : cs.length = n := by simpa using h.len
  subst hl
  rcases h.2 with ⟨hv, h0⟩ | ⟨g, cap, cur, hv, hb, hg, hc, hm, hs, ht⟩
  · simp only [Value.slice.injEq] at hv
    obtain ⟨rfl, h1, rfl⟩ := hv
    obtain rfl : cs = [] := List.eq_nil_of_length_eq_zero h1
    obtain rfl : ts = [] := by rw [← hts]; simp
    refine (AnyM.slices_Sort_int_none Try.sortI none 0 w).mono ?_
    rintro e w' ⟨rfl, rfl⟩
    exact ⟨rfl, h, Only.refl _ _⟩
  · simp only [Value.slice.injEq] at hv
    obtain ⟨rfl, _, rfl⟩ := hv
    refine (AnyM.slices_Sort_int Try.sortI g 0 c cs w (holds_of_blockI hg (by simpa [ivs] using ht)) (lt_of_block hg) (by omega)).mono ?_
    rintro e w' ⟨rfl, n, os, rfl⟩
    rw [hts]
    refine ⟨rfl, ?_, ?_⟩
    · exact ownsRow_sortedI (by rw [← hts, List.length_mergeSort]) hb hg hc hm hs
    · have := Only.of_grown (grownBy_sortedI (w := w) (g := g) (n := n) (os := os) ts.toArray)
      simpa using this
theorem World.ranges.only' {rs : List Nat} {w w' : World} {b r n cnt : Nat} {D : DataW Value} {left : Lit → Bool} {k : TypeId} {R : Value → Option (DataW Value × List MemPlace)} (h : w.ranges Try.prog k R b r n D left cnt) (o : Only rs w w') (h1 : b ∉ rs) (h2 : r ∉ rs) : w'.ranges Try.prog k R b r n D left cnt := by
  have z1 := h.owns.lt
  have z2 := h.lt
  obtain ⟨es, clock, since, seen, c0, hb, F, hs, hD, hr, rest⟩ := h
  exact ⟨es, clock, since, seen, c0, (o.block b z1 h1).trans hb, F, hs, hD, (o.block r z2 h2).trans hr, rest⟩
theorem due_len {cs ds : List Int} (h : cs.Perm ds) : cs.length = ds.length := h.length_eq
theorem came_len (ds : List Du) (now : Int) (left : Lit → Bool) {cs : List Int} (h : cs.Perm (cameL ds now left)) : cs.length ≤ ds.length := by
  rw [h.length_eq]
  unfold cameL
  exact Nat.le_trans (length_dueL _ _) (List.length_filter_le _ _)
set_option maxRecDepth 100000 in
set_option maxHeartbeats 4000000 in
theorem due_any (h : Lk w g hb db l ds) (now : Int) (hds : ds.length ≤ 1000) :
    Calls Try.prog 17 #[.pointer (some ⟨g, 0, none⟩), .int .i64 now] w (IntsNew w (dueL ds now)) := by
  obtain ⟨c0, c1⟩ := h.cells
  have hrise := h.iv.rise
  cases db with
  | none =>
    obtain rfl : ds = [] := h.iv
    have hrg := run_range_nilMap (P := Try.prog) w 43 3 3 Try.underlying43
    have hnx : ∀ ty, (Instr.next (.pointer (some ⟨w.heap.size, 0, none⟩)) false ty).run Try.prog (w.alloc (.mapIter none 0 #[] 0)) = _ := fun ty => run_next_nilMap w ty 0 0 #[]
    have hso := Lib.hid (fun W => sort_any (w := W) (cs := []) (ts := []) (Own.nil W 3) (by omega) (by simp))
    have HO := Lib.hid ((Only.refl [] w).alloc (.mapIter none 0 #[] 0))
    clear h hrise hds
    go_enter Try.func17, Try.ntmps17
    go_wp2
    refine wp_loop_rounds 1 ?_
    rw [rounds_succ]
    go_wp2_with (go_at_call 25; refine (hso.out _).mono ?_; rintro e w' ⟨rfl, k1, k2⟩)
    go_ret
    exact ⟨none, 0, rfl, k1, HO.out.then (by simpa using k2), fun _ hk => nomatch hk⟩
  | some m =>
    have hown := h.ownD
    have hml := hown.lt
    have HST := Lib.hid (fun cs (hc : List.Perm cs (dueL ds now)) => sort_due hrise hc)
    have HSTEP := Lib.hid (fun (k c : Int) (left : Lit → Bool) (hl : left (keyI k) = true) (hm : (k, c) ∈ ds) (cs : List Int) (hc : cs.Perm (cameL ds now left)) => came_step hrise (now := now) hl hm hc)
    have HSTART := Lib.hid (came_start ds now)
    have HEND := Lib.hid (fun (left : Lit → Bool) (hl : ∀ kl, left kl = false) => came_end (ds := ds) (now := now) hl)
    have HLEN := Lib.hid (fun (left : Lit → Bool) (cs : List Int) (hc : cs.Perm (cameL ds now left)) => Nat.le_trans (came_len ds now left hc) hds)
    obtain ⟨i0, hi, hz0, hz1, hz2⟩ := info_parts infoInt
    clear h hrise hds
    go_enter Try.func17, Try.ntmps17
    go_wp2_with (first
      | (at_range; refine wpList_range_own _ rfl _ 43 rfl 3 3 keyedI Try.underlying43 (heldP isI) m ds.length (DI ds) rfl hown ?_; intro w0 hrg0 hg0 hs0)
      | go_in)
    go_frame
    go_loopw [5] (fun s wr => ∃ (left : Lit → Bool) (cnt : Nat) (A : Option Addr) (c : Nat) (cs : List Int), s = .slice A cs.length c ∧ wr.ranges Try.prog 3 (heldP isI) m w.heap.size ds.length (DI ds) left cnt ∧ Own wr 3 A cs.length c (ivs cs) ∧
        Only [] w wr ∧ Hid (∀ k ∈ blks A, w.heap.size < k) ∧ Hid (cs.Perm (cameL ds now left)))
      (fun _ wr => wr.rangeLeft m w.heap.size)
    case atStart =>
      refine ⟨_, _, none, 0, [], rfl, hrg0, Own.nil _ _, (Only.of_grown hg0).mono (fun x hx => by simp at hx), (fun _ hk => nomatch hk), ?_⟩
      show List.Perm [] _
      rw [HSTART.out]
    case round =>
      obtain ⟨left, cnt, A, c, cs, rfl, hrg, hA, hgw, HB, HP⟩ := hrel
      go_wp2_with (first
        | (at_next; refine wpList_next_ranges _ rfl _ rfl 3 keyedI (heldP isI) (Value.int .i64) (Value.int .i64) (fun key kl hkey => by obtain ⟨x, rfl, _⟩ := Maps.keyOf_int_inv Try.underlying3 hkey; exact ⟨x, rfl⟩) (fun v y hv => by obtain ⟨hp, _⟩ := heldP_inv hv; exact isI_inv hp) m w.heap.size ds.length _ _ _ rfl hrg ?_ ?_)
        | go_in)
      · intro hc0 hl0
        have hP := HP.out
        rw [HEND.out left hl0] at hP
        have HSO := Lib.hid (sort_any hA (Nat.le_trans (HLEN.out left cs HP.out) (by omega)) (HST.out cs hP))
        have HQ := Lib.hid hP.length_eq
        clear hP
        go_wp2_with (go_at_call 25; refine HSO.out.mono ?_; rintro e w' ⟨rfl, k1, k2⟩)
        go_ret
        rw [HQ.out] at k1
        refine ⟨A, c, by rw [← HQ.out]; rfl, k1, hgw.trans k2 (fun x hx => .inr (Nat.le_of_lt (HB.out x hx))), fun k hk => Nat.le_of_lt (HB.out k hk)⟩
      · intro x v kl yd yp w1 cnt1 hkey hlx hv hat hrg1 hlt hg1 hs1 hen
        obtain ⟨x', ex, rfl, hwx⟩ := Maps.keyOf_int_inv Try.underlying3 hkey
        cases ex
        obtain ⟨_, hy⟩ := heldP_inv hv
        obtain rfl : yd = .held (.int .i64 v) := congrArg Prod.fst hy
        have hmem : (x, v) ∈ ds := mem_DI (by rw [show keyI x = Lit.int .i64 x from rfl, hat .nil])
        have HPN := Lib.hid (HSTEP.out x v left hlx hmem cs HP.out)
        have ho1 : Only [w.heap.size] wr w1 := by have := Only.of_grown hg1; simpa using this
        have hA1 : Own w1 3 A cs.length c (ivs cs) := own_only hA ho1 (fun k hk hm => by
          have := HB.out k (by cases A with
            | none => cases hk
            | some a => simpa [Value.ownBlock] using hk.symm)
          simp at hm
          omega)
        have HLE : Hid (cs.length ≤ 1000) := HLEN.out left cs HP.out
        have HLT := Lib.hid hlt
        have HS1 := Lib.hid hs1
        have hgw1 : Only [] w w1 := hgw.trans ho1 (fun x hx => .inr (by simp at hx; omega))
        have hml1 : m < w.heap.size := hml
        clear hs1 hlt hat hv hkey hlx hmem hA hg1 HP
        by_cases hdue : v ≤ now
        · have hdb : decide (v ≤ now) = true := by simp [hdue]
          go_wp2_with (first
            | (at_builtin; refine wpList_append_sl rfl (.tmp 23) (.tmp 25) 36 rfl 3 i0 (.int .i64 0) 8 Try.underlying36 hi hz0 hz1 hz2 rfl A cs.length c (ivs cs) rfl (own_only hA1 ((Only.refl [] w1).alloc _) (fun _ _ hm => nomatch hm)) (some ⟨w1.heap.size, 0, none⟩) 1 1 (ivs [x]) rfl (sl_int w1 _ x) (ivs_one _) (by have := HLE.out; unfold maxLen; omega) (by have := HLE.out; omega) ?_; intro A2 c2 w2 HV2 HO2 HB2)
            | go_in)
          have hrg2 := World.ranges.only' (hrg1.alloc (.cells #[.int .i64 x] 3)) HO2 (fun hm => by have := HB.out _ hm; omega) (fun hm => by have := HB.out _ hm; omega)
          go_roundw
          case rel =>
            refine ⟨_, cnt1, A2, c2, cs ++ [x], by simp, hrg2, by rw [ivs_append]; simpa using HV2, (hgw1.alloc _).trans HO2 (fun y hy => .inr (Nat.le_of_lt (HB.out y hy))), ?_, ?_⟩
            · show ∀ k ∈ blks A2, w.heap.size < k
              intro k hk
              rcases HB2 k hk with h | h
              · exact HB.out k h
              · have := HS1.out
                rw [World.size_alloc] at h
                have := hrg.lt
                omega
            · have := HPN.out
              rw [if_pos hdue] at this
              exact this
          case measure => rw [hrg2.left_eq, hrg.left_eq]; exact HLT.out
        · have hdb : decide (v ≤ now) = false := by simp [hdue]
          go_wp2
          go_roundw
          case rel =>
            refine ⟨_, cnt1, A, c, cs, rfl, hrg1, hA1, hgw1, HB, ?_⟩
            have := HPN.out
            rw [if_neg hdue] at this
            exact this
          case measure => rw [hrg1.left_eq, hrg.left_eq]; exact HLT.out
end
end Go.Proofs.Ytmjkdfneohpbjaa
