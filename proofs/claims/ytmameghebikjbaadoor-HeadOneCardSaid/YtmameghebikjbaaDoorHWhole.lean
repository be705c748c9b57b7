/-
  The law HeadWhole.
-/
import Derived.Test.YtmameghebikjbaaDoorHHead
import Derived.Test.YtmameghebikjbaaDoorHSplit
import Derived.Test.YtmameghebikjbaaDoorHLines
import Derived.Test.YtmameghebikjbaaDoorHNone
namespace Go.Proofs.YtmameghebikjbaaDoor
open Go.RowKit Go.Instr

theorem str_of {w : World} {A : Option Addr} {n : Nat} {l : List UInt8} (h : Sl w A n (bvs l)) (c : Nat) : (convert 22 9 (.slice A n c)).run Tryd.prog w = .ok (.string (St l)) w :=
  run_str_sl (P := Tryd.prog) 22 9 5 A n c l Tryd.underlying22 Tryd.underlying5 Tryd.underlying9 h
theorem hls_len (l : List UInt8) : (hls l).length = hk (lns l) := by
  unfold hls
  rw [List.length_take]
  have := hk_le (lns l)
  omega
theorem whole_count (l : List UInt8) : (lns (l.take (hd l))).length + (lns (l.drop (hd l))).length = (lns l).length := by
  rw [lns_head, lns_body, hls_len, List.length_drop]
  have := hk_le (lns l)
  omega
theorem whole_full (l : List UInt8) (i : Nat) (h1 : i + 1 < (lns (l.take (hd l))).length) (x : List UInt8) (hx : ((lns (l.take (hd l))).map tx)[i]? = some x) : x ≠ [] := by
  rw [lns_head, hls_len] at h1
  rw [lns_head, List.getElem?_map] at hx
  unfold hls at hx
  rw [List.getElem?_take_of_lt (by omega)] at hx
  cases hy : (lns l)[i]? with
  | none => rw [hy] at hx; cases hx
  | some y =>
    rw [hy] at hx
    have := hk_ne (lns l) i y h1 hy
    rw [Option.map_some, Option.some.injEq] at hx
    rwa [← hx]
theorem whole_last (l : List UInt8) (h : l.drop (hd l) ≠ []) : 0 < (lns (l.take (hd l))).length ∧ ((lns (l.take (hd l))).map tx)[(lns (l.take (hd l))).length - 1]? = some [] := by
  rw [lns_head, hls_len]
  rcases hk_last (lns l) with h1 | ⟨y, h1, h2, h3⟩
  · exact absurd (by rw [body_eq, h1, List.drop_length]; rfl) h
  · refine ⟨h3, ?_⟩
    rw [List.getElem?_map]
    unfold hls
    rw [List.getElem?_take_of_lt (by omega), h1, Option.map_some, h2]
set_option maxRecDepth 100000 in
set_option maxHeartbeats 2000000 in
theorem whole_any (A : Option Addr) (n c : Nat) (l : List UInt8) (w : World) (hs : Bt w A n c l) (hA : ∀ x ∈ blks A, x < w.heap.size) :
    Calls Tryd.prog 5 #[.slice A n c] w fun e w' => e = .returned (.bool true) ∧ Only [] w w' := by
  by_cases hbn : n ≤ 1500
  case neg =>
    have hbn'' : (1500 : Int) < (n : Int) := by omega
    go_enter Tryd.func5, Tryd.ntmps5
    go_wp2_with fail
    go_ret
    exact ⟨rfl, Only.refl _ _⟩
  have hbn' : ¬ (1500 : Int) < (n : Int) := by omega
  have hnl := hs.len
  have hcount := whole_count l
  have hfull := whole_full l
  have hlast := whole_last l
  have hcat := List.take_append_drop (hd l) l
  have hp := lns_len l
  have cH := Head_any hs (by omega) hA
  have cB := fun w1 (ho : Only [] w w1) => Body_any (hs.keep ho) (by omega) (blks_keep hA ho)
  have cN := fun w1 (ho : Only [] w w1) => LinesN_any (hs.keep ho) (by omega)
  obtain ⟨h, hh⟩ : ∃ h, l.take (hd l) = h := ⟨_, rfl⟩
  obtain ⟨t, ht⟩ : ∃ t, l.drop (hd l) = t := ⟨_, rfl⟩
  rw [hh] at hcount hfull hlast hcat cH
  rw [ht] at hcount hlast hcat
  have cB2 : ∀ w1, Only [] w w1 → Calls Tryd.prog 16 #[.slice A n c] w1 (Fresh w1 t) := fun w1 ho => by rw [← ht]; exact cB w1 ho
  have hlh : h.length ≤ 1500 := by rw [← hh, List.length_take]; omega
  have hlt : t.length ≤ 1500 := by rw [← ht, List.length_drop]; omega
  obtain ⟨p, hp'⟩ : ∃ p, (lns l).length = p := ⟨_, rfl⟩
  obtain ⟨q, hq⟩ : ∃ q, (lns t).length = q := ⟨_, rfl⟩
  obtain ⟨r, hr⟩ : ∃ r, (lns h).length = r := ⟨_, rfl⟩
  obtain ⟨ls, hls'⟩ : ∃ ls, (lns h).map tx = ls := ⟨_, rfl⟩
  have hlr : ls.length = r := by rw [← hls', List.length_map, hr]
  obtain ⟨nh, hnh⟩ : ∃ nh, h.length = nh := ⟨_, rfl⟩
  obtain ⟨nt, hnt⟩ : ∃ nt, t.length = nt := ⟨_, rfl⟩
  rw [hp'] at hp hcount cN
  have hpl : p ≤ 1500 := by omega
  rw [hq, hr] at hcount
  rw [hr, hls'] at hfull hlast
  have hcount' : (r : Int) + (q : Int) = (p : Int) := by omega
  have cS : ∀ w1 A1 c1, Bt w1 A1 nh c1 h → (∀ x ∈ blks A1, x < w1.heap.size) → Calls Tryd.prog 12 #[.slice A1 nh c1] w1 (FreshRz w1 ls r) := fun w1 A1 c1 hb hx => by
    have := Split_any hb (by omega) hx
    rwa [hls', hr] at this
  have cT : ∀ w1 A1 c1, Bt w1 A1 nt c1 t → Calls Tryd.prog 18 #[.slice A1 nt c1] w1 fun e w' => e = .returned (.int .i64 (q : Int)) ∧ Only [] w1 w' := fun w1 A1 c1 hb => by
    have := LinesN_any hb (by omega)
    rwa [hq] at this
  have add1 : Hid (∀ w2, (Op.stringOp .add (St h) (St t)).run Tryd.prog w2 = .ok (.string (St l)) w2) := fun w2 => by
    have := run_string_add_sum (P := Tryd.prog) (w := w2) (St h) (St t) (by rw [St_size, St_size]; omega)
    rwa [add_St, hcat] at this
  have HFU := Lib.hid hfull
  have HLA := Lib.hid hlast
  have HLR := Lib.hid hlr
  have HNT := Lib.hid hnt
  have HB2 := Lib.hid cB2
  have HN := Lib.hid cN
  have HS := Lib.hid cS
  have HT := Lib.hid cT
  have HA := Lib.hid hA
  have HSS := Lib.hid hs
  unfold Fresh at cH
  rw [hnh] at cH
  have HNH := Lib.hid hnh
  clear hh ht hp' hq hr hls' hlr hnh hnt hcat hfull hlast cB cB2 cN cS cT hlh hlt hnl hA hs
  go_enter Tryd.func5, Tryd.ntmps5
  go_wp2_with first
    | (go_at_call 12; (with_reducible refine (HS.out w2 A1 c1 (h1.bt.keep hO2) (fun x hx => (h1.keep hO2).lt hx)).mono ?_); rintro e w3 ⟨A3, c3, rfl, hR, hO3⟩)
    | (go_at_call 16; (with_reducible refine (HB2.out w1 hO1).mono ?_); rintro e w2 ⟨A2, c2, rfl, h2, hO2, -⟩; rw [HNT.out] at h2; rw [HNT.out])
    | (go_at_call 14; (with_reducible refine cH.mono ?_); rintro e w1 ⟨A1, c1, rfl, h1, hO1, -⟩)
  go_loopw [6] (fun i wr => ∃ k : Nat, k ≤ r ∧ i = .int .i64 (k : Int) ∧ Only [] w3 wr) (fun i _ => r - (intOf i).toNat)
  case atStart => exact ⟨0, Nat.zero_le _, rfl, Only.refl _ _⟩
  case round =>
    obtain ⟨k, hk, rfl, hOr⟩ := hrel
    by_cases hlt : k + 1 < r
    · have hlt' : (k : Int) + 1 < (r : Int) := by omega
      have hlt2 : (k : Int) < (r : Int) := by omega
      have hkl : k < ls.length := by rw [HLR.out]; omega
      obtain ⟨g, Ai, ci, rfl, hce, -, -⟩ := (hR.keep rOwn_steady hOr).at_ (k := k) (by omega) hkl
      have hne := HFU.out k hlt _ (List.getElem?_eq_getElem hkl)
      obtain ⟨m, hm⟩ : ∃ m, ls[k].length = m + 1 := ⟨ls[k].length - 1, by have := List.length_pos_iff.2 hne; omega⟩
      rw [hm] at hce
      clear hm hne
      go_wp2_with fail
      go_roundw
      case rel => exact ⟨k + 1, by omega, by go_num, hOr⟩
      case measure => simp [intOf]; omega
    · have hlt' : ¬ (k : Int) + 1 < (r : Int) := by omega
      have hOw : Only [] w wr := ((hO1.then hO2).then hO3).then hOr
      have hcv1 := str_of (h1.keep ((hO2.then hO3).then hOr)).sl c1
      have hcv2 := str_of (h2.keep (hO3.then hOr)).sl c2
      have hcv3 := str_of (HSS.out.keep hOw).sl c
      have cN2 := HN.out wr hOw
      have cT2 := fun w6 (ho : Only [] wr w6) => HT.out w6 A2 c2 (h2.bt.keep ((hO3.then hOr).then ho))
      have hx := add1.out wr
      rcases Nat.eq_zero_or_pos nt with h0 | h0
      · subst h0
        go_wp2_with first
          | (go_at_call 23; (with_reducible refine (known_any _).mono ?_); rintro e w7 ⟨rfl, hO7⟩)
          | (go_at_call 18; (with_reducible refine (cT2 w5 hO5).mono ?_); rintro e w6 ⟨rfl, hO6⟩)
          | (go_at_call 18; (with_reducible refine cN2.mono ?_); rintro e w5 ⟨rfl, hO5⟩; clear cN2)
        go_ret
        exact ⟨rfl, ((hOw.then hO5).then hO6).then hO7⟩
      · have htn : t ≠ [] := fun e => by have := HNT.out; rw [e] at this; simp at this; omega
        obtain ⟨hr0, hrl⟩ := HLA.out htn
        obtain ⟨r', hr'⟩ : ∃ r', r = r' + 1 := ⟨r - 1, by omega⟩
        subst hr'
        rw [Nat.add_sub_cancel] at hrl
        obtain ⟨hkl, hke⟩ := List.getElem?_eq_some_iff.1 hrl
        obtain ⟨g, Ai, ci, rfl, hce, -, -⟩ := (hR.keep rOwn_steady hOr).at_ (k := r') (by omega) hkl
        rw [hke] at hce
        obtain ⟨nt', hnt'⟩ : ∃ nt', nt = nt' + 1 := ⟨nt - 1, by omega⟩
        subst hnt'
        clear hke hrl htn
        go_wp2_with first
          | (go_at_call 23; (with_reducible refine (known_any _).mono ?_); rintro e w7 ⟨rfl, hO7⟩)
          | (go_at_call 18; (with_reducible refine (cT2 w5 hO5).mono ?_); rintro e w6 ⟨rfl, hO6⟩)
          | (go_at_call 18; (with_reducible refine cN2.mono ?_); rintro e w5 ⟨rfl, hO5⟩; clear cN2)
        go_ret
        exact ⟨rfl, ((hOw.then hO5).then hO6).then hO7⟩
end Go.Proofs.YtmameghebikjbaaDoor
