/-
  The document's Stuff.
-/
import Derived.Test.YtmameghebikjbaaDoorHRefS
import Derived.Test.YtmameghebikjbaaDoorHStuff
namespace Go.Proofs.YtmameghebikjbaaDoor
open Go.RowKit Go.Instr

theorem lit46 (w : World) : Sl (w.alloc (.cells #[.int .u8 46] 5)) (some ⟨w.heap.size, 0, none⟩) 1 (bvs [46]) := Sl.of_bk (Bk.new w 5 #[.int .u8 46])
theorem lit1310 (w : World) : Sl (w.alloc (.cells #[.int .u8 13, .int .u8 10] 5)) (some ⟨w.heap.size, 0, none⟩) 2 (bvs [13, 10]) := Sl.of_bk (Bk.new w 5 #[.int .u8 13, .int .u8 10])
theorem lit461310 (w : World) : Sl (w.alloc (.cells #[.int .u8 46, .int .u8 13, .int .u8 10] 5)) (some ⟨w.heap.size, 0, none⟩) 3 (bvs [46, 13, 10]) := Sl.of_bk (Bk.new w 5 #[.int .u8 46, .int .u8 13, .int .u8 10])
def sentT (ts : List (List UInt8)) (k : Nat) : List UInt8 := ((ts.take k).map fun t => dotted t ++ [13, 10]).flatten
theorem sentT_succ {ts : List (List UInt8)} {k : Nat} (h : k < ts.length) : sentT ts (k + 1) = sentT ts k ++ (dotted ts[k] ++ [13, 10]) := by
  unfold sentT
  rw [List.take_succ_eq_append_getElem h, List.map_append, List.flatten_append]
  simp
theorem sentT_eq (b : List UInt8) (k : Nat) : sentT ((lns b).map tx) k = sentK b k := by
  unfold sentT sentK
  rw [← List.map_take, List.map_map]
  rfl
section
variable {w : World} {A : Option Addr} {n c : Nat} {l : List UInt8}
set_option maxRecDepth 100000 in
set_option maxHeartbeats 2000000 in
theorem refStuff_any (hs : Bt w A n c l) (hbig : n ≤ 4096) (hA : ∀ x ∈ blks A, x < w.heap.size) : Calls Tryd.prog 22 #[.slice A n c] w (Fresh w (stuff l)) := by
  have hnl := hs.len
  obtain ⟨i0, hi, hz0, hz1, hz2⟩ := info_parts infoByte
  have cS := refSplit_any hs hbig hA
  have hlen : ∀ k, (sentT ((lns l).map tx) k).length ≤ 16384 := fun k => by
    rw [sentT_eq]
    have := sentK_len l k
    omega
  have hZ0 : stuff l = sentT ((lns l).map tx) (lns l).length ++ [46, 13, 10] := by
    rw [sentT_eq]
    unfold stuff sentK
    rw [List.take_length]
  have hr1 : ((lns l).map tx).length = (lns l).length := List.length_map _
  have hr2 := lns_len l
  obtain ⟨ts, hts⟩ : ∃ ts, (lns l).map tx = ts := ⟨_, rfl⟩
  obtain ⟨r, hr⟩ : ∃ r, (lns l).length = r := ⟨_, rfl⟩
  obtain ⟨Z, hZ⟩ : ∃ Z, stuff l = Z := ⟨_, rfl⟩
  rw [hts, hr] at hZ0 hr1 cS
  rw [hts] at hlen
  rw [hr] at hr2
  rw [hZ] at hZ0 ⊢
  have HLEN := Lib.hid hlen
  have HZ := Lib.hid hZ0
  have HR1 := Lib.hid hr1
  have hr4 : r ≤ 4096 := by omega
  have HR4 := Lib.hid hr4
  have hmono : ∀ (wa : World) (A5 A6 : Option Addr), w.heap.size ≤ wa.heap.size → (∀ x ∈ blks A5, w.heap.size ≤ x) → (∀ x ∈ blks A6, x ∈ blks A5 ∨ wa.heap.size ≤ x) → ∀ x ∈ blks A6, w.heap.size ≤ x := fun wa A5 A6 h0 h1 h2 x hx => by
    rcases h2 x hx with h | h
    · exact h1 x h
    · omega
  clear hs hlen hts hr hZ hZ0 hr1 hnl hr2 hr4
  go_enter Tryd.func22, Tryd.ntmps22
  go_wp2_with (go_at_call 13; (with_reducible refine cS.mono ?_); rintro e w1 ⟨A', c', rfl, hR0, hO1⟩)
  go_loopw [3, 5] (fun L i wr => ∃ (k : Nat) (A3 : Option Addr) (s c3 : Nat), k ≤ r ∧ i = .int .i64 (k : Int) ∧ L = .slice A3 s c3 ∧ Own wr 5 A3 s c3 (bvs (sentT ts k)) ∧ (∀ x ∈ blks A3, w.heap.size ≤ x) ∧ Only [] w wr ∧ Rz rBt (fun x => x ∈ blks A) w.heap.size wr A' r c' ts) (fun _ i _ => r - (intOf i).toNat)
  case atStart => exact ⟨0, none, 0, 0, Nat.zero_le _, rfl, rfl, Own.nil _ _, (fun _ hx => nomatch hx), hO1, hR0⟩
  case round =>
    obtain ⟨k, A3, s, c3, hk, rfl, rfl, hV, hb, hO, hR⟩ := hrel
    have hszw := hO.size
    have hr4 := HR4.out
    by_cases hlt : k < r
    · have hlt' : (k : Int) < (r : Int) := by omega
      have hkt : k < ts.length := by rw [HR1.out]; exact hlt
      obtain ⟨g, Ai, ci, rfl, hce, hBi, hAi0⟩ := hR.at_ hlt hkt
      have hsu := sentT_succ hkt
      have hl1 := HLEN.out (k + 1)
      have hl0 := hV.len
      rw [bvs_length] at hl0
      have hBi' : Bt wr Ai ts[k].length ci ts[k] := hBi
      obtain ⟨T, hT⟩ : ∃ T, ts[k] = T := ⟨_, rfl⟩
      obtain ⟨t, ht⟩ : ∃ t, T.length = t := ⟨_, rfl⟩
      obtain ⟨S0, hS0⟩ : ∃ S0, sentT ts k = S0 := ⟨_, rfl⟩
      rw [hT] at hsu hce hBi'
      rw [ht] at hce hBi'
      rw [hS0] at hsu hV hl0
      obtain ⟨vs, hv1, hv2, hv4, hv3⟩ := hR
      have hvk : ∃ u, vs[k]? = some u ∧ u = .slice Ai t ci := by
        obtain ⟨Aj, cj, e1, _⟩ := hv3 k ts[k] (List.getElem?_eq_getElem hkt)
        have := hv1.sl.2 (by omega)
        obtain ⟨ad, e, hc⟩ := this
        injection e with e
        subst e
        have h2 := hc k _ e1
        rw [add_none, Nat.zero_add, hce] at h2
        exact ⟨_, e1, (Option.some.inj h2).symm⟩
      obtain ⟨u0, hu0, hu1⟩ := hvk
      rw [hu1] at hu0
      have hcO : ∀ wx, Own wx 22 (some ⟨g, 0, none⟩) r c' vs → wx.cell? ⟨g, k, none⟩ = some (.slice Ai t ci) := fun wx h => by
        obtain ⟨ad, e, hc⟩ := h.sl.2 (by omega)
        injection e with e
        subst e
        have := hc k _ hu0
        rwa [add_none, Nat.zero_add] at this
      have hap := own_apart hv1 hV (by decide)
      have hAi : ∀ x ∈ blks Ai, x < w.heap.size ∧ x < wr.heap.size ∧ x ∉ [] := fun x hx => ⟨hA x (hAi0 x hx).1, (hAi0 x hx).2.1, fun h => nomatch h⟩
      have hkeep : ∀ w6, OnlyB w.heap.size [] wr w6 → Own w6 22 (some ⟨g, 0, none⟩) r c' vs → Rz rBt (fun x => x ∈ blks A) w.heap.size w6 (some ⟨g, 0, none⟩) r c' ts := fun w6 o h => by
        refine ⟨vs, h, hv2, hv4, fun i l2 hl2 => ?_⟩
        obtain ⟨Aj, cj, e1, e2, e3⟩ := hv3 i l2 hl2
        exact ⟨Aj, cj, e1, Bt.onlyB e2 o (fun x hx => ⟨hA x (e3 x hx).1, (e3 x hx).2.1, fun h => nomatch h⟩), fun x hx => ⟨(e3 x hx).1, Nat.lt_of_lt_of_le (e3 x hx).2.1 o.size, (e3 x hx).2.2⟩⟩
      have HKEEP := Lib.hid hkeep
      replace hkeep := HKEEP.out
      have hbound : s + 1 + t + 2 ≤ 16400 := by
        rw [hsu, List.length_append, List.length_append] at hl1
        have : T.length ≤ (dotted T).length := by unfold dotted; split <;> simp
        simp at hl1
        omega
      have HSU := Lib.hid hsu
      have HBi := hBi'
      by_cases hd : T.head? = some 46
      · obtain ⟨x, r', hxr⟩ : ∃ x r', T = x :: r' := by
          cases T with
          | nil => cases hd
          | cons x r' => exact ⟨x, r', rfl⟩
        have hx46 : x = 46 := by rw [hxr] at hd; exact Option.some.inj hd
        have ht0 : 0 < t := by rw [← ht, hxr]; simp
        have ht0' : (0 : Int) < (t : Int) := by omega
        obtain ⟨ad, hAe, hc0⟩ := hBi'.sl.2 ht0
        have hcb : wr.cell? ad = some (.int .u8 46) := by
          have := hc0 0 (bv x) (by rw [hxr]; rfl)
          rw [add_zero, hx46] at this
          exact this
        obtain ⟨S1, hS1e⟩ : ∃ S1, S0 ++ (46 :: T) = S1 := ⟨_, rfl⟩
        obtain ⟨S2, hS2e⟩ : ∃ S2, S1 ++ [13, 10] = S2 := ⟨_, rfl⟩
        have hS1 : bvs (S0 ++ [46]) ++ bvs T = bvs S1 := by rw [← hS1e, ← bvs_append, List.append_assoc]; rfl
        have hS2 : bvs S1 ++ bvs [13, 10] = bvs S2 := by rw [← hS2e, bvs_append]
        have HE : Hid (sentT ts (k + 1) = S2) := by
          show _ = _
          rw [HSU.out, ← hS2e, ← hS1e]
          unfold dotted
          rw [if_pos hd]
          simp
        obtain ⟨u, hu⟩ : ∃ u, s + 1 + t = u := ⟨_, rfl⟩
        obtain ⟨v, hv⟩ : ∃ v, u + 2 = v := ⟨_, rfl⟩
        subst hAe
        clear hd hxr hx46 hS1e hS2e hc0 hsu hl1 hT ht hS0 hu1 hce hl0 hBi' hBi
        have hBi := HBi
        have e0 := hcO wr hv1
        go_wp2_with first
          | (at_builtin; refine wpList_append_as rfl (.tmp 37) (.tmp 38) 22 rfl 5 i0 (.int .u8 0) 1 Tryd.underlying22 hi hz0 hz1 hz2 rfl A5 u c5 _ rfl (hV5.alloc _) (some ⟨w5.heap.size, 0, none⟩) 2 2 (bvs [13, 10]) rfl l5 (bvs_one _) (by unfold maxLen; omega) (by omega) v hv (bvs S2) hS2 ?_; intro A6 c6 w6 hV6 hO6 hB6; have hb6 := hmono w5 A5 A6 (by have := o5.size; omega) hb5 (fun x hx => (hB6 x hx).imp id (fun h => by simp at h; omega)); have o6 := (o5.only_ ((Only.refl [] w5).alloc (.cells #[.int .u8 13, .int .u8 10] 5)) (fun _ hx => nomatch hx)).only_ hO6 (fun x hx => .inr (hb5 x hx)); have hv6 := (hv5.alloc (.cells #[.int .u8 13, .int .u8 10] 5)).only hO6 (fun x hx => hap5 x hx))
          | (at_builtin; refine wpList_append_as rfl (.tmp 32) (.tmp 36) 22 rfl 5 i0 (.int .u8 0) 1 Tryd.underlying22 hi hz0 hz1 hz2 rfl A4 (s + 1) c4 _ rfl hV4 (some ad) t ci _ rfl (hBi.onlyB o4 hAi).sl (bvs_one _) (by unfold maxLen; omega) (by omega) u hu (bvs S1) hS1 ?_; intro A5 c5 w5 hV5 hO5 hB5; have hb5 := hmono w4 A4 A5 (by have := (o4).size; omega) hb4 hB5; have o5 := (o4).only_ hO5 (fun x hx => .inr (hb4 x hx)); have hv5 := (hv4).only hO5 (fun x hx => hap4 x hx); have hap5 := own_apart hv5 hV5 (by decide); have l5 := lit1310 w5)
          | (at_builtin; refine wpList_append_as rfl (.tmp 29) (.tmp 30) 22 rfl 5 i0 (.int .u8 0) 1 Tryd.underlying22 hi hz0 hz1 hz2 rfl A3 s c3 _ rfl (hV.alloc _) (some ⟨wr.heap.size, 0, none⟩) 1 1 (bvs [46]) rfl (lit46 wr) (bvs_one _) (by unfold maxLen; omega) (by omega) (s + 1) rfl (bvs (S0 ++ [46])) (by rw [bvs_append]) ?_; intro A4 c4 w4 hV4 hO4 hB4; have hb4 := hmono wr A3 A4 (by omega) hb (fun x hx => (hB4 x hx).imp id (fun h => by simp at h; omega)); have o4 : OnlyB w.heap.size [] wr w4 := (OnlyB.of ((Only.refl [] wr).alloc _) (fun _ hx => nomatch hx)).only_ hO4 (fun x hx => .inr (hb x hx)); have hv4 := (hv1.alloc (.cells #[.int .u8 46] 5)).only hO4 (fun x hx => hap x hx); have e4 := hcO w4 hv4; have hap4 := own_apart hv4 hV4 (by decide))
        go_roundw
        case rel => exact ⟨k + 1, A6, v, c6, by omega, by go_num, rfl, by rw [HE.out]; exact hV6, hb6, hO.thenB o6 (Nat.le_refl _) (fun _ hx => nomatch hx), hkeep w6 o6 hv6⟩
        case measure => simp [intOf]; omega
      · obtain ⟨S1, hS1e⟩ : ∃ S1, S0 ++ T = S1 := ⟨_, rfl⟩
        obtain ⟨S2, hS2e⟩ : ∃ S2, S1 ++ [13, 10] = S2 := ⟨_, rfl⟩
        have hS1 : bvs S0 ++ bvs T = bvs S1 := by rw [← hS1e, bvs_append]
        have hS2 : bvs S1 ++ bvs [13, 10] = bvs S2 := by rw [← hS2e, bvs_append]
        have HE : Hid (sentT ts (k + 1) = S2) := by
          show _ = _
          rw [HSU.out, ← hS2e, ← hS1e]
          unfold dotted
          rw [if_neg hd]
          simp
        obtain ⟨u, hu⟩ : ∃ u, s + t = u := ⟨_, rfl⟩
        obtain ⟨v, hv⟩ : ∃ v, u + 2 = v := ⟨_, rfl⟩
        have e0 := hcO wr hv1
        rcases Nat.eq_zero_or_pos t with ht0 | ht0
        · have hti : (t : Int) = 0 := by omega
          clear hd hS1e hS2e hsu hl1 hT ht hS0 hu1 hce hl0 hBi
          have hBi := HBi
          clear hBi'
          subst ht0
          go_wp2_with first
            | (at_builtin; refine wpList_append_as rfl (.tmp 37) (.tmp 38) 22 rfl 5 i0 (.int .u8 0) 1 Tryd.underlying22 hi hz0 hz1 hz2 rfl A5 u c5 _ rfl (hV5.alloc _) (some ⟨w5.heap.size, 0, none⟩) 2 2 (bvs [13, 10]) rfl l5 (bvs_one _) (by unfold maxLen; omega) (by omega) v hv (bvs S2) hS2 ?_; intro A6 c6 w6 hV6 hO6 hB6; have hb6 := hmono w5 A5 A6 (by have := o5.size; omega) hb5 (fun x hx => (hB6 x hx).imp id (fun h => by simp at h; omega)); have o6 := (o5.only_ ((Only.refl [] w5).alloc (.cells #[.int .u8 13, .int .u8 10] 5)) (fun _ hx => nomatch hx)).only_ hO6 (fun x hx => .inr (hb5 x hx)); have hv6 := (hv5.alloc (.cells #[.int .u8 13, .int .u8 10] 5)).only hO6 (fun x hx => hap5 x hx))
            | (at_builtin; refine wpList_append_as rfl (.tmp 32) (.tmp 36) 22 rfl 5 i0 (.int .u8 0) 1 Tryd.underlying22 hi hz0 hz1 hz2 rfl A3 s c3 _ rfl hV Ai 0 ci _ rfl (hBi.onlyB (OnlyB.refl w.heap.size [] wr) hAi).sl (bvs_one _) (by unfold maxLen; omega) (by omega) u hu (bvs S1) hS1 ?_; intro A5 c5 w5 hV5 hO5 hB5; have hb5 := hmono wr A3 A5 (by have := ((OnlyB.refl w.heap.size [] wr)).size; omega) hb hB5; have o5 := ((OnlyB.refl w.heap.size [] wr)).only_ hO5 (fun x hx => .inr (hb x hx)); have hv5 := (hv1).only hO5 (fun x hx => hap x hx); have hap5 := own_apart hv5 hV5 (by decide); have l5 := lit1310 w5)
          go_roundw
          case rel => exact ⟨k + 1, A6, v, c6, by omega, by go_num, rfl, by rw [HE.out]; exact hV6, hb6, hO.thenB o6 (Nat.le_refl _) (fun _ hx => nomatch hx), hkeep w6 o6 hv6⟩
          case measure => simp [intOf]; omega
        · have ht0' : (0 : Int) < (t : Int) := by omega
          obtain ⟨ad, hAe, hc0⟩ := hBi'.sl.2 ht0
          obtain ⟨x, r', hxr⟩ : ∃ x r', T = x :: r' := by
            cases T with
            | nil => simp at ht; omega
            | cons x r' => exact ⟨x, r', rfl⟩
          obtain ⟨y, hy⟩ : ∃ y : Nat, x.toNat = y := ⟨_, rfl⟩
          have hcb : wr.cell? ad = some (.int .u8 (y : Int)) := by
            have := hc0 0 (bv x) (by rw [hxr]; rfl)
            rw [add_zero] at this
            rw [this, ← hy]
            rfl
          have hyb : ((y : Int) == 46) = false := by
            rw [beq_eq_false_iff_ne]
            intro h
            exact hd (by rw [hxr]; exact congrArg some (UInt8.toNat_inj.1 (by rw [hy]; show y = 46; omega)))
          clear hd hS1e hS2e hsu hl1 hT ht hS0 hu1 hce hl0 hBi hc0 hxr hy
          have hBi := HBi
          clear hBi'
          subst hAe
          go_wp2_with first
            | (at_builtin; refine wpList_append_as rfl (.tmp 37) (.tmp 38) 22 rfl 5 i0 (.int .u8 0) 1 Tryd.underlying22 hi hz0 hz1 hz2 rfl A5 u c5 _ rfl (hV5.alloc _) (some ⟨w5.heap.size, 0, none⟩) 2 2 (bvs [13, 10]) rfl l5 (bvs_one _) (by unfold maxLen; omega) (by omega) v hv (bvs S2) hS2 ?_; intro A6 c6 w6 hV6 hO6 hB6; have hb6 := hmono w5 A5 A6 (by have := o5.size; omega) hb5 (fun x hx => (hB6 x hx).imp id (fun h => by simp at h; omega)); have o6 := (o5.only_ ((Only.refl [] w5).alloc (.cells #[.int .u8 13, .int .u8 10] 5)) (fun _ hx => nomatch hx)).only_ hO6 (fun x hx => .inr (hb5 x hx)); have hv6 := (hv5.alloc (.cells #[.int .u8 13, .int .u8 10] 5)).only hO6 (fun x hx => hap5 x hx))
            | (at_builtin; refine wpList_append_as rfl (.tmp 32) (.tmp 36) 22 rfl 5 i0 (.int .u8 0) 1 Tryd.underlying22 hi hz0 hz1 hz2 rfl A3 s c3 _ rfl hV (some ad) t ci _ rfl (hBi.onlyB (OnlyB.refl w.heap.size [] wr) hAi).sl (bvs_one _) (by unfold maxLen; omega) (by omega) u hu (bvs S1) hS1 ?_; intro A5 c5 w5 hV5 hO5 hB5; have hb5 := hmono wr A3 A5 (by have := ((OnlyB.refl w.heap.size [] wr)).size; omega) hb hB5; have o5 := ((OnlyB.refl w.heap.size [] wr)).only_ hO5 (fun x hx => .inr (hb x hx)); have hv5 := (hv1).only hO5 (fun x hx => hap x hx); have hap5 := own_apart hv5 hV5 (by decide); have l5 := lit1310 w5)
          go_roundw
          case rel => exact ⟨k + 1, A6, v, c6, by omega, by go_num, rfl, by rw [HE.out]; exact hV6, hb6, hO.thenB o6 (Nat.le_refl _) (fun _ hx => nomatch hx), hkeep w6 o6 hv6⟩
          case measure => simp [intOf]; omega
    · obtain rfl : k = r := by omega
      have hl0 := hV.len
      rw [bvs_length] at hl0
      have hl1 := HLEN.out k
      have hEZ : bvs (sentT ts k) ++ bvs [46, 13, 10] = bvs Z := by rw [HZ.out, bvs_append]
      have hZl : Z.length = s + 3 := by rw [HZ.out, List.length_append, hl0]; rfl
      obtain ⟨v, hv⟩ : ∃ v, s + 3 = v := ⟨_, rfl⟩
      have hs3 : s ≤ 16384 := by omega
      have HZL := Lib.hid (hZl.trans hv)
      have HEZ := Lib.hid hEZ
      clear hl0 hl1 hEZ hZl
      have l3 := lit461310 wr
      go_wp2_with (at_builtin; refine wpList_append_as rfl (.tmp 40) (.tmp 41) 22 rfl 5 i0 (.int .u8 0) 1 Tryd.underlying22 hi hz0 hz1 hz2 rfl A3 s c3 _ rfl (hV.alloc _) (some ⟨wr.heap.size, 0, none⟩) 3 3 (bvs [46, 13, 10]) rfl l3 (bvs_one _) (by unfold maxLen; omega) (by omega) v hv (bvs Z) HEZ.out ?_; intro A6 c6 w6 hV6 hO6 hB6)
      go_ret
      exact ⟨A6, c6, by rw [HZL.out]; rfl, by rw [HZL.out]; exact hV6, (hO.then ((Only.refl [] wr).alloc _)).trans hO6 (fun x hx => .inr (hb x hx)), hmono wr A3 A6 hszw hb (fun x hx => (hB6 x hx).imp id (fun h => by simp at h; omega))⟩
end
end Go.Proofs.YtmameghebikjbaaDoor
