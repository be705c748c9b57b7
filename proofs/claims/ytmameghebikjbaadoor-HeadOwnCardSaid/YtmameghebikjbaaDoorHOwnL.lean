/-
  The law HeadOwn.
-/
import Derived.Test.YtmameghebikjbaaDoorHTells
namespace Go.Proofs.YtmameghebikjbaaDoor
open Go.RowKit Go.Instr

/-- The slice's bytes lie in a block of bytes that was made since b0. -/
def BB (b0 : Nat) (w : World) (A : Option Addr) (n : Nat) : Prop := n = 0 ∨ ∃ g cur, A = some ⟨g, 0, none⟩ ∧ b0 ≤ g ∧ Bk w g 5 cur ∧ ∀ j, j < n → ∃ Y : Int, cur[j]? = some (.int .u8 Y)
/-- Rows of such bytes. -/
def BR (b0 : Nat) (w : World) (A : Option Addr) (r c : Nat) (vs : List Value) : Prop := Own w 22 A r c vs ∧ ∀ i, i < r → ∃ Ai m ci, vs[i]? = some (.slice Ai m ci) ∧ m ≤ 4096 ∧ BB b0 w Ai m
section
variable {b0 : Nat} {w w' : World} {A : Option Addr} {n c : Nat} {vs : List Value}
theorem BB.of_own {l : List UInt8} (h : Own w 5 A n c (bvs l)) (hb : ∀ x ∈ blks A, b0 ≤ x) : BB b0 w A n := by
  have hl := h.len
  rw [bvs_length] at hl
  rcases h.2 with ⟨_, h0⟩ | ⟨g, cap, cur, hv, _, hB, _, _, _, h4⟩
  · exact .inl h0
  · simp only [Value.slice.injEq] at hv
    obtain ⟨rfl, _, _⟩ := hv
    refine .inr ⟨g, cur, rfl, hb g (by simp), hB, fun j hj => ⟨((l[j]'(by omega)).toNat : Int), ?_⟩⟩
    have h5 := bvs_get l j (by omega)
    rw [← h4, List.getElem?_take_of_lt (by omega), Array.getElem?_toList] at h5
    exact h5
theorem BB.keep (h : BB b0 w A n) (o : Only [] w w') : BB b0 w' A n := by
  rcases h with h | ⟨g, cur, h1, h2, h3, h4⟩
  · exact .inl h
  · exact .inr ⟨g, cur, h1, h2, h3.only o (fun hm => nomatch hm), h4⟩
theorem BB.set (h : BB b0 w A n) {g : Nat} {cur : Array Value} (hB : Bk w g 5 cur) (k : Nat) (Y : Int) : BB b0 (w.setCell ⟨g, k, none⟩ (.int .u8 Y)) A n := by
  rcases h with h | ⟨g2, cur2, h1, h2, h3, h4⟩
  · exact .inl h
  · by_cases hg : g2 = g
    · subst hg
      refine .inr ⟨g2, _, h1, h2, h3.set k _, fun j hj => ?_⟩
      obtain ⟨Z, hZ⟩ := h4 j hj
      have hjs := (Array.getElem?_eq_some_iff.1 hZ).1
      rw [Array.getElem?_setIfInBounds]
      by_cases hkj : k = j
      · rw [if_pos hkj, if_pos (by omega)]; exact ⟨Y, rfl⟩
      · rw [if_neg hkj]; exact ⟨Z, hZ⟩
    · exact .inr ⟨g2, cur2, h1, h2, h3.far (p := ⟨g, k, none⟩) hg _, h4⟩
theorem BB.at_ (h : BB b0 w A n) {j : Nat} (hj : j < n) : ∃ g cur Y, A = some ⟨g, 0, none⟩ ∧ b0 ≤ g ∧ Bk w g 5 cur ∧ w.cell? ⟨g, j, none⟩ = some (.int .u8 Y) ∧ w.frozen? ⟨g, j, none⟩ = false := by
  rcases h with h | ⟨g, cur, h1, h2, h3, h4⟩
  · omega
  · obtain ⟨Y, hY⟩ := h4 j hj
    exact ⟨g, cur, Y, h1, h2, h3, by rw [h3.cell, hY], h3.free j⟩
theorem BR.keep (h : BR b0 w A n c vs) (o : Only [] w w') : BR b0 w' A n c vs :=
  ⟨h.1.keep o, fun i hi => by
    obtain ⟨Ai, m, ci, h1, h2, h3⟩ := h.2 i hi
    exact ⟨Ai, m, ci, h1, h2, h3.keep o⟩⟩
theorem BR.set (h : BR b0 w A n c vs) {g : Nat} {cur : Array Value} (hB : Bk w g 5 cur) (k : Nat) (Y : Int) : BR b0 (w.setCell ⟨g, k, none⟩ (.int .u8 Y)) A n c vs :=
  ⟨h.1.only ((Only.refl [g] w).setCell (.inl (by simp)) _) (fun x hx hm => by
    obtain ⟨c1, h3⟩ := h.1.bk hx
    exact h3.ne hB (by decide) (by simpa using hm)), fun i hi => by
    obtain ⟨Ai, m, ci, h1, h2, h3⟩ := h.2 i hi
    exact ⟨Ai, m, ci, h1, h2, h3.set hB k Y⟩⟩
theorem BR.at_ (h : BR b0 w A n c vs) {i : Nat} (hi : i < n) : ∃ g, A = some ⟨g, 0, none⟩ ∧ ∀ u, vs[i]? = some u → w.cell? ⟨g, i, none⟩ = some u := by
  obtain ⟨ad, u, hA, hu, hc⟩ := h.1.sl.at_ hi
  subst hA
  obtain ⟨g, rfl⟩ := h.1.addr rfl
  rw [add_none, Nat.zero_add] at hc
  exact ⟨g, rfl, fun v hv => by rw [hu] at hv; rw [hc, hv]⟩
theorem BR.of_rz {S : Nat → Prop} {base : Nat} {ls : List (List UInt8)} (h : Rz rOwn S base w A n c ls) (hS : ∀ x, S x → b0 ≤ x) (hl : ∀ t ∈ ls, t.length ≤ 4096) : ∃ vs, BR b0 w A n c vs := by
  obtain ⟨vs, h1, h2, _, h3⟩ := h
  refine ⟨vs, h1, fun i hi => ?_⟩
  have hi' : i < ls.length := by omega
  obtain ⟨Ai, ci, e1, e2, e3⟩ := h3 i ls[i] (List.getElem?_eq_getElem hi')
  exact ⟨Ai, ls[i].length, ci, e1, hl _ (List.getElem_mem hi'), BB.of_own e2 (fun x hx => hS x (e3 x hx).1)⟩
end
/-- What the law itself made: three slices of bytes, and rows. -/
def Js (b0 : Nat) (A1 : Option Addr) (n1 : Nat) (A2 : Option Addr) (n2 : Nat) (A3 : Option Addr) (n3 : Nat) (A4 : Option Addr) (r c4 : Nat) (vs : List Value) (w : World) : Prop :=
  BB b0 w A1 n1 ∧ BB b0 w A2 n2 ∧ BB b0 w A3 n3 ∧ BR b0 w A4 r c4 vs
theorem Js.set {b0 : Nat} {A1 : Option Addr} {n1 : Nat} {A2 : Option Addr} {n2 : Nat} {A3 : Option Addr} {n3 : Nat} {A4 : Option Addr} {r c4 : Nat} {vs : List Value} {w : World} (h : Js b0 A1 n1 A2 n2 A3 n3 A4 r c4 vs w) {g : Nat} {cur : Array Value} (hB : Bk w g 5 cur) (k : Nat) (Y : Int) : Js b0 A1 n1 A2 n2 A3 n3 A4 r c4 vs (w.setCell ⟨g, k, none⟩ (.int .u8 Y)) :=
  ⟨h.1.set hB k Y, h.2.1.set hB k Y, h.2.2.1.set hB k Y, h.2.2.2.set hB k Y⟩
set_option maxRecDepth 100000 in
set_option maxHeartbeats 8000000 in
theorem own_any (A : Option Addr) (n c : Nat) (l : List UInt8) (w : World) (hs : Bt w A n c l) (hA : ∀ x ∈ blks A, x < w.heap.size) :
    Calls Tryd.prog 9 #[.slice A n c] w fun e w' => e = .returned (.bool true) ∧ Only [] w w' := by
  by_cases hn0 : n < 1
  case pos =>
    obtain rfl : n = 0 := by omega
    go_enter Tryd.func9, Tryd.ntmps9
    go_wp2_with fail
    go_ret
    exact ⟨rfl, Only.refl _ _⟩
  have hn0' : ¬ (n : Int) < 1 := by omega
  by_cases hbn : n ≤ 1500
  case neg =>
    have hbn'' : (1500 : Int) < (n : Int) := by omega
    go_enter Tryd.func9, Tryd.ntmps9
    go_wp2_with fail
    go_ret
    exact ⟨rfl, Only.refl _ _⟩
  have hbn' : ¬ (1500 : Int) < (n : Int) := by omega
  have hnl := hs.len
  have hTl := topLen_le l 3
  have hHl := hd_le l
  have hpq := lns_len l
  have cS := fun w1 (ho : Only [] w w1) => Split_any (hs.keep ho) (by omega) (blks_keep hA ho)
  have cH := Head_any hs (by omega) hA
  have cB := fun w1 (ho : Only [] w w1) => Body_any (hs.keep ho) (by omega) (blks_keep hA ho)
  have cT := fun w1 (ho : Only [] w w1) => Top_any (hs.keep ho) (by omega) (blks_keep hA ho) 3 (by omega) (by omega)
  obtain ⟨tn, htn⟩ : ∃ tn, topLen l 3 = tn := ⟨_, rfl⟩
  obtain ⟨hn, hhn⟩ : ∃ hn, hd l = hn := ⟨_, rfl⟩
  rw [htn] at hTl cT
  rw [hhn] at hHl cH cB
  have htl : (l.take tn).length = tn := by rw [List.length_take]; omega
  have hhl : (l.take hn).length = hn := by rw [List.length_take]; omega
  have hbl : (l.drop hn).length = n - hn := by rw [List.length_drop]; omega
  unfold Fresh at cT cH cB
  obtain ⟨bn, hbn2⟩ : ∃ bn, n - hn = bn := ⟨_, rfl⟩
  rw [hbn2] at hbl
  simp only [htl, hhl, hbl] at cT cH cB
  have hsum : (hn : Int) + (bn : Int) = (n : Int) := by omega
  have hls : ∀ t ∈ (lns l).map tx, t.length ≤ 4096 := fun t ht => by
    have := texts_len (r := l) ht
    omega
  obtain ⟨ls, hls'⟩ : ∃ ls, (lns l).map tx = ls := ⟨_, rfl⟩
  obtain ⟨r, hr⟩ : ∃ r, (lns l).length = r := ⟨_, rfl⟩
  rw [hls'] at hls
  simp only [hls', hr] at cS
  have hr2 : r ≤ 1500 := by omega
  have hhn2 : hn ≤ 1500 := by omega
  have hbn3 : bn ≤ 1500 := by omega
  have htn2 : tn ≤ 1500 := by omega
  have HLS := Lib.hid hls
  have HS := Lib.hid cS
  have HB := Lib.hid cB
  have HT := Lib.hid cT
  have HSS := Lib.hid hs
  have hcv := str_of hs.sl c
  clear hls cS cB cT hls' hr hbn2 htl hhl hbl htn hhn hpq hTl hHl hnl hA hs hbn
  go_enter Tryd.func9, Tryd.ntmps9
  go_wp2_with first
    | (go_at_call 12; (with_reducible refine (HS.out w3 ((hO1.then hO2).then hO3)).mono ?_); rintro e w4 ⟨A4, c4, rfl, hR, hO4⟩)
    | (go_at_call 19; (with_reducible refine (HT.out w2 (hO1.then hO2)).mono ?_); rintro e w3 ⟨A3, c3, rfl, h3, hO3, hb3⟩)
    | (go_at_call 16; (with_reducible refine (HB.out w1 hO1).mono ?_); rintro e w2 ⟨A2, c2, rfl, h2, hO2, hb2⟩)
    | (go_at_call 14; (with_reducible refine cH.mono ?_); rintro e w1 ⟨A1, c1, rfl, h1, hO1, hb1⟩)
  have hOw4 : Only [] w w4 := ((hO1.then hO2).then hO3).then hO4
  obtain ⟨vs, hBR⟩ := BR.of_rz (b0 := w.heap.size) hR (fun x hx => Nat.le_trans ((hO1.then hO2).then hO3).size hx) HLS.out
  have hJ0 : Js w.heap.size A1 hn A2 bn A3 tn A4 r c4 vs w4 := ⟨(BB.of_own h1 hb1).keep ((hO2.then hO3).then hO4), (BB.of_own h2 (fun x hx => Nat.le_trans hO1.size (hb2 x hx))).keep (hO3.then hO4), (BB.of_own h3 (fun x hx => Nat.le_trans (hO1.then hO2).size (hb3 x hx))).keep hO4, hBR⟩
  clear hBR h1 h2 h3 hR hb1 hb2 hb3 hO1 hO2 hO3 hO4 HLS HS HB HT cH hcv
  go_loopw [8] (fun i wr => ∃ k : Nat, k ≤ hn ∧ i = .int .i64 (k : Int) ∧ Js w.heap.size A1 hn A2 bn A3 tn A4 r c4 vs wr ∧ Only [] w wr) (fun i _ => hn - (intOf i).toNat)
  case atStart => exact ⟨0, Nat.zero_le _, rfl, hJ0, hOw4⟩
  case round =>
    obtain ⟨k, hk, rfl, hJ, hOr⟩ := hrel
    by_cases hlt : k < hn
    · have hlt' : (k : Int) < (hn : Int) := by omega
      obtain ⟨g, cur, Y, hA1, hb, hB, hc, hf⟩ := hJ.1.at_ hlt
      subst hA1
      go_wp2_with fail
      go_roundw
      case rel => exact ⟨k + 1, by omega, by go_num, hJ.set hB k _, hOr.setCell (.inr hb) _⟩
      case measure => simp [intOf]; omega
    · have hlt' : ¬ (k : Int) < (hn : Int) := by omega
      clear hJ0 hOw4
      go_wp2_with fail
      go_loopw [9] (fun i wr => ∃ k : Nat, k ≤ bn ∧ i = .int .i64 (k : Int) ∧ Js w.heap.size A1 hn A2 bn A3 tn A4 r c4 vs wr ∧ Only [] w wr) (fun i _ => bn - (intOf i).toNat)
      case atStart => exact ⟨0, Nat.zero_le _, rfl, hJ, hOr⟩
      case round =>
        clear hJ hOr
        obtain ⟨k2, hk2, rfl, hJ, hOr⟩ := hrel
        by_cases hlt2 : k2 < bn
        · have hlt2' : (k2 : Int) < (bn : Int) := by omega
          obtain ⟨g, cur, Y, hA2, hb, hB, hc, hf⟩ := hJ.2.1.at_ hlt2
          subst hA2
          go_wp2_with fail
          go_roundw
          case rel => exact ⟨k2 + 1, by omega, by go_num, hJ.set hB k2 _, hOr.setCell (.inr hb) _⟩
          case measure => simp [intOf]; omega
        · have hlt2' : ¬ (k2 : Int) < (bn : Int) := by omega
          go_wp2_with fail
          go_loopw [10] (fun i wr => ∃ k : Nat, k ≤ tn ∧ i = .int .i64 (k : Int) ∧ Js w.heap.size A1 hn A2 bn A3 tn A4 r c4 vs wr ∧ Only [] w wr) (fun i _ => tn - (intOf i).toNat)
          case atStart => exact ⟨0, Nat.zero_le _, rfl, hJ, hOr⟩
          case round =>
            clear hJ hOr
            obtain ⟨k3, hk3, rfl, hJ, hOr⟩ := hrel
            by_cases hlt3 : k3 < tn
            · have hlt3' : (k3 : Int) < (tn : Int) := by omega
              obtain ⟨g, cur, Y, hA3, hb, hB, hc, hf⟩ := hJ.2.2.1.at_ hlt3
              subst hA3
              go_wp2_with fail
              go_roundw
              case rel => exact ⟨k3 + 1, by omega, by go_num, hJ.set hB k3 _, hOr.setCell (.inr hb) _⟩
              case measure => simp [intOf]; omega
            · have hlt3' : ¬ (k3 : Int) < (tn : Int) := by omega
              go_wp2_with fail
              go_loopw [11, 12] (fun i _ wr => ∃ k : Nat, k ≤ r ∧ i = .int .i64 (k : Int) ∧ Js w.heap.size A1 hn A2 bn A3 tn A4 r c4 vs wr ∧ Only [] w wr) (fun i _ _ => r - (intOf i).toNat)
              case atStart => exact ⟨0, Nat.zero_le _, rfl, hJ, hOr⟩
              case round =>
                clear hJ hOr
                obtain ⟨k4, hk4, rfl, hJ, hOr⟩ := hrel
                by_cases hlt4 : k4 < r
                · have hlt4' : (k4 : Int) < (r : Int) := by omega
                  obtain ⟨g4, hA4, -⟩ := hJ.2.2.2.at_ hlt4
                  subst hA4
                  obtain ⟨Ai, m, ci, hvi, hm, -⟩ := hJ.2.2.2.2 k4 hlt4
                  go_wp2_with fail
                  go_loopw [12] (fun i wr => ∃ j : Nat, j ≤ m ∧ i = .int .i64 (j : Int) ∧ Js w.heap.size A1 hn A2 bn A3 tn (some ⟨g4, 0, none⟩) r c4 vs wr ∧ Only [] w wr) (fun i _ => m - (intOf i).toNat)
                  case atStart => exact ⟨0, Nat.zero_le _, rfl, hJ, hOr⟩
                  case round =>
                    clear hJ hOr
                    obtain ⟨j, hj, rfl, hJ, hOr⟩ := hrel
                    obtain ⟨g5, hg5, hrow⟩ := hJ.2.2.2.at_ hlt4
                    cases hg5
                    have e1 := hrow _ hvi
                    obtain ⟨Ai2, m2, ci2, hvi2, -, hBB⟩ := hJ.2.2.2.2 k4 hlt4
                    rw [hvi] at hvi2
                    cases hvi2
                    by_cases hjm : j < m
                    · have hjm' : (j : Int) < (m : Int) := by omega
                      obtain ⟨g, cur, Y, hAi, hb, hB, hc, hf⟩ := hBB.at_ hjm
                      subst hAi
                      clear hrow hBB
                      go_wp2_with fail
                      go_roundw
                      case rel => exact ⟨j + 1, by omega, by go_num, hJ.set hB j _, hOr.setCell (.inr hb) _⟩
                      case measure => simp [intOf]; omega
                    · have hjm' : ¬ (j : Int) < (m : Int) := by omega
                      clear hrow hBB
                      go_wp2_with fail
                      go_roundw
                      case rel => exact ⟨k4 + 1, by omega, by go_num, hJ, hOr⟩
                      case measure => simp [intOf]; omega
                · have hlt4' : ¬ (k4 : Int) < (r : Int) := by omega
                  have hcv2 := str_of (HSS.out.keep hOr).sl c
                  go_wp2_with (go_at_call 23; (with_reducible refine (known_any _).mono ?_); rintro e w7 ⟨rfl, hO7⟩)
                  go_ret
                  exact ⟨rfl, hOr.then hO7⟩
end Go.Proofs.YtmameghebikjbaaDoor
