/-
  The law HeadStuffs.
-/
import Derived.Test.YtmameghebikjbaaDoorHLinesL
namespace Go.Proofs.YtmameghebikjbaaDoor
open Go.RowKit Go.Instr

theorem dotted_len (t : List UInt8) : (dotted t).length ≤ t.length + 1 := by unfold dotted; split <;> simp
theorem sents_len : ∀ {ls : List (List UInt8)}, Good ls → (ls.map sentOf).flatten.length ≤ 2 * ls.flatten.length + 2
  | [], _ => by simp
  | l :: r, h => by
    obtain ⟨⟨d, _, h1⟩, h2⟩ := h
    have ih := sents_len h2
    simp only [List.map_cons, List.flatten_cons, List.length_append]
    have hs : (sentOf l).length = (dotted (tx l)).length + 2 := by unfold sentOf; simp
    have hd := dotted_len (tx l)
    rcases h1 with rfl | ⟨rfl, hne, rfl⟩
    · obtain ⟨k, hk⟩ := tr_prefix d
      have hx : tx (d ++ [10]) = tr d := tx_line
      have hl : (tr d).length ≤ d.length := by rw [hk, List.length_take]; omega
      rw [hx] at hs hd
      have hdl : (d ++ [10]).length = d.length + 1 := by simp
      rcases Nat.eq_zero_or_pos (tr d).length with h0 | h0
      · have : tr d = [] := List.eq_nil_of_length_eq_zero h0
        rw [this] at hs
        have : (dotted []).length = 0 := rfl
        omega
      · omega
    · have hl := tx_len l
      have := List.length_pos_iff.2 hne
      simp only [List.map_nil, List.flatten_nil, List.length_nil] at ih ⊢
      omega
theorem stuff_len (b : List UInt8) : (stuff b).length ≤ 2 * b.length + 5 := by
  have h := sents_len (lns_good b)
  rw [lns_flat] at h
  unfold stuff
  rw [List.length_append]
  simp only [List.length_cons, List.length_nil]
  omega
theorem dots_no10 (l : List UInt8) : ∀ t ∈ ((lns l).map tx).map dotted ++ [[46]], ∀ x ∈ t, x ≠ 10 := by
  intro t ht x hx
  rcases List.mem_append.1 ht with ht | ht
  · obtain ⟨u, hu, rfl⟩ := List.mem_map.1 ht
    obtain ⟨ln, h1, rfl⟩ := List.mem_map.1 hu
    unfold dotted at hx
    split at hx
    · rcases List.mem_cons.1 hx with rfl | hx
      · decide
      · exact tx_no10 h1 x hx
    · exact tx_no10 h1 x hx
  · rw [List.mem_singleton.1 ht] at hx
    rw [List.mem_singleton.1 hx]
    decide
theorem stuff_jn (l : List UInt8) : stuff l = jn (((lns l).map tx).map dotted ++ [[46]]) (((lns l).map tx).map dotted ++ [[46]]).length := by
  unfold stuff jn
  rw [List.take_length, List.map_append, List.flatten_append, List.map_map, List.map_map]
  rfl
theorem stuff_lns (l : List UInt8) : (lns (stuff l)).map tx = ((lns l).map tx).map dotted ++ [[46]] ∧ (lns (stuff l)).length = (lns l).length + 1 := by
  rw [stuff_jn, jn_lns (dots_no10 l)]
  refine ⟨?_, by simp⟩
  rw [List.map_map]
  conv => rhs; rw [← List.map_id (((lns l).map tx).map dotted ++ [[46]])]
  exact List.map_congr_left fun t _ => tx_crlf
theorem dotted_ne (t : List UInt8) : dotted t ≠ [46] := by
  unfold dotted
  split
  · rename_i h
    cases t with
    | nil => cases h
    | cons x r => intro e; cases e
  · rename_i h
    intro e
    rw [e] at h
    exact h rfl
set_option maxRecDepth 100000 in
set_option maxHeartbeats 8000000 in
theorem stuffs_any (A : Option Addr) (n c : Nat) (l : List UInt8) (w : World) (hs : Bt w A n c l) (hA : ∀ x ∈ blks A, x < w.heap.size) :
    Calls Tryd.prog 7 #[.slice A n c] w fun e w' => e = .returned (.bool true) ∧ Only [] w w' := by
  by_cases hbn : n ≤ 1500
  case neg =>
    have hbn'' : (1500 : Int) < (n : Int) := by omega
    go_enter Tryd.func7, Tryd.ntmps7
    go_wp2_with fail
    go_ret
    exact ⟨rfl, Only.refl _ _⟩
  have hbn' : ¬ (1500 : Int) < (n : Int) := by omega
  have hnl := hs.len
  have hpq := lns_len l
  have hsl := stuff_len l
  obtain ⟨hds0, hdc0⟩ := stuff_lns l
  have hdrop : (stuff l).drop ((stuff l).length - 3) = [46, 13, 10] := by
    unfold stuff
    rw [List.length_append, show (((lns l).map sentOf).flatten.length + ([46, 13, 10] : List UInt8).length - 3) = ((lns l).map sentOf).flatten.length by simp, List.drop_left]
  have hs3 : 3 ≤ (stuff l).length := by unfold stuff; rw [List.length_append]; simp
  have cU := Stuff_any hs (by omega) hA
  have rS := fun w1 (ho : Only [] w w1) => refSplit_any (hs.keep ho) (by omega) (blks_keep hA ho)
  obtain ⟨Z, hZ⟩ : ∃ Z, stuff l = Z := ⟨_, rfl⟩
  rw [hZ] at hsl hds0 hdc0 hdrop hs3 cU
  have rZ := fun w1 A1 c1 (h : Bt w1 A1 Z.length c1 Z) (hx : ∀ x ∈ blks A1, x < w1.heap.size) => refSplit_any h (by omega) hx
  obtain ⟨ts, hts⟩ : ∃ ts, (lns l).map tx = ts := ⟨_, rfl⟩
  obtain ⟨r, hr⟩ : ∃ r, (lns l).length = r := ⟨_, rfl⟩
  have hlr : ts.length = r := by rw [← hts, List.length_map, hr]
  have htl : ∀ t ∈ ts, t.length ≤ 1500 := fun t ht => by
    rw [← hts] at ht
    have := texts_len (r := l) ht
    omega
  rw [hts] at hds0
  rw [hr] at hdc0 hpq
  obtain ⟨ds, hds⟩ : ∃ ds, (lns Z).map tx = ds := ⟨_, rfl⟩
  simp only [hds, hdc0] at rZ
  simp only [hts, hr] at rS
  rw [hds] at hds0
  have hd1 : ∀ k (hk : k < ts.length), ds[k]? = some (dotted ts[k]) := fun k hk => by
    rw [hds0, List.getElem?_append_left (by rw [List.length_map]; exact hk), List.getElem?_map, List.getElem?_eq_getElem hk]
    rfl
  have hd2 : ds[r]? = some [46] := by
    rw [hds0, List.getElem?_append_right (by rw [List.length_map, hlr]; exact Nat.le_refl _), List.length_map, hlr, Nat.sub_self]
    rfl
  obtain ⟨q, hq⟩ : ∃ q, Z.length = q + 3 := ⟨Z.length - 3, by omega⟩
  rw [hq, Nat.add_sub_cancel] at hdrop
  unfold Fresh at cU
  rw [hq] at cU
  simp only [hq] at rZ
  have hq2 : q ≤ 4000 := by omega
  have hr2 : r ≤ 1500 := by omega
  have HLR := Lib.hid hlr
  have HTL := Lib.hid htl
  have HD1 := Lib.hid hd1
  have HD2 := Lib.hid hd2
  have HDR := Lib.hid hdrop
  have RS := Lib.hid rS
  have RZ := Lib.hid rZ
  clear hsl hds0 hdc0 hdrop hs3 hZ hts hr hlr htl hds hd1 hd2 hq rZ rS hpq hnl hA hs hbn
  go_enter Tryd.func7, Tryd.ntmps7
  go_wp2_with first
    | (go_at_call 13; (with_reducible refine (RS.out w2 (hO1.then hO2)).mono ?_); rintro e w3 ⟨A3, c3, rfl, hR3, hO3⟩
       have hdr : r < ds.length := (List.getElem?_eq_some_iff.1 HD2.out).1
       have hR2' := hR2.keep rBt_steady hO3
       obtain ⟨gz, Az, cz, hAz, ez, hBz', -⟩ := hR2'.at_ (k := r) (by omega) hdr
       have hde : ds[r] = [46] := (List.getElem?_eq_some_iff.1 HD2.out).2
       have hBz : Bt w3 Az ds[r].length cz ds[r] := hBz'
       rw [hde] at ez hBz
       subst hAz
       have hcz : (convert 22 9 (.slice Az 1 cz)).run Tryd.prog w3 = .ok (.string ⟨#[46]⟩) w3 := str_of hBz.sl cz
       have ez' : w3.cell? ⟨gz, r, none⟩ = some (.slice Az 1 cz) := ez
       clear hBz hBz' hde ez)
    | (go_at_call 13; (with_reducible refine (RZ.out w1 A1 c1 h1.bt (fun x hx => h1.lt hx)).mono ?_); rintro e w2 ⟨A2, c2, rfl, hR2, hO2⟩)
    | (go_at_call 21; (with_reducible refine cU.mono ?_); rintro e w1 ⟨A1, c1, rfl, h1, hO1, -⟩)
  go_loopw [6, 7] (fun i _ wr => ∃ k : Nat, k ≤ r ∧ i = .int .i64 (k : Int) ∧ Only [] w3 wr) (fun i _ _ => r - (intOf i).toNat)
  case atStart => exact ⟨0, Nat.zero_le _, rfl, Only.refl _ _⟩
  case round =>
    obtain ⟨k, hk, rfl, hOr⟩ := hrel
    have hO3r : Only [] w3 wr := hOr
    by_cases hlt : k < r
    · have hlt' : (k : Int) < (r : Int) := by omega
      have hlt1 : (k : Int) < ((r + 1 : Nat) : Int) := by omega
      have hlt2 : (k : Int) < (r : Int) + 1 := by omega
      have hkt : k < ts.length := by rw [HLR.out]; exact hlt
      have htl := HTL.out _ (List.getElem_mem hkt)
      obtain ⟨hkd, hde⟩ := List.getElem?_eq_some_iff.1 (HD1.out k hkt)
      obtain ⟨g3, Bi, bi, rfl, e3, hB3', -⟩ := (hR3.keep rBt_steady hOr).at_ hlt hkt
      obtain ⟨g2, Di, di, hgz, e2, hB2', -⟩ := (hR2'.keep rBt_steady hOr).at_ (k := k) (by omega) hkd
      cases hgz
      have hB3 : Bt wr Bi ts[k].length bi ts[k] := hB3'
      have hB2 : Bt wr Di ds[k].length di ds[k] := hB2'
      rw [hde] at e2 hB2
      obtain ⟨T, hT⟩ : ∃ T, ts[k] = T := ⟨_, rfl⟩
      rw [hT] at e3 hB3 e2 hB2 htl
      have hne : ((St (dotted T)).toList == [46]) = false := by rw [Lib.toList_data, St_list, beq_eq_false_iff_ne]; exact dotted_ne T
      have hcv3 := str_of hB3.sl bi
      have hcv2 := str_of hB2.sl di
      obtain ⟨t, ht⟩ : ∃ t, T.length = t := ⟨_, rfl⟩
      rw [ht] at e3 hcv3 htl
      obtain ⟨dn, hdn⟩ : ∃ dn, (dotted T).length = dn := ⟨_, rfl⟩
      rw [hdn] at e2 hcv2
      obtain ⟨sT, hsT⟩ : ∃ sT, St T = sT := ⟨_, rfl⟩
      have hss : sT.size = t := by rw [← hsT, St_size, ht]
      have hsl : sT.data.toList = T := by rw [← hsT, St_list]
      have add1 : (∀ w2, (Op.stringOp .add (St [46]) (St T)).run Tryd.prog w2 = .ok (.string (St (46 :: T))) w2) := fun w2 => by
        have := run_string_add_sum (P := Tryd.prog) (w := w2) (St [46]) (St T) (by rw [St_size, St_size]; simp; omega)
        rwa [add_St] at this
      rw [hsT] at hcv3 add1
      by_cases hd : T.head? = some 46
      · obtain ⟨x, T', hxT⟩ : ∃ x T', T = x :: T' := by
          cases T with
          | nil => cases hd
          | cons x T' => exact ⟨x, T', rfl⟩
        have hx46 : x = 46 := by rw [hxT] at hd; exact Option.some.inj hd
        have hdot : dotted T = 46 :: T := by unfold dotted; rw [if_pos hd]
        rw [hdot] at hcv2 hne
        obtain ⟨sD, hsD⟩ : ∃ sD, St (46 :: T) = sD := ⟨_, rfl⟩
        rw [hsD] at hcv2 hne add1
        have ht0 : 0 < t := by rw [← ht, hxT]; simp
        have hs0 : 0 < sT.size := by omega
        have hs0' : (0 : Int) < (sT.size : Int) := by omega
        have hsx : sT[0] = x := by
          have h2 := text_at sT hs0 (by simpa using hs0)
          rw [h2]
          simp [hsl, hxT]
        have hcb : ((sT[0]'hs0).toNat : Int) = 46 := by rw [hsx, hx46]; rfl
        have hadd : ∀ w2, (Op.stringOp .add ⟨#[46]⟩ sT).run Tryd.prog w2 = .ok (.string sD) w2 := add1
        clear hdot hd hxT hx46 hsx hsl hsT hsD hB3 hB2 hB3' hB2' hde ht hdn hT htl add1
        go_wp2_with fail
        go_roundw
        case rel => exact ⟨k + 1, by omega, by go_num, hOr⟩
        case measure => simp [intOf]; omega
      · have hdot : dotted T = T := by unfold dotted; rw [if_neg hd]
        rw [hdot] at hcv2 hne hdn
        rw [hsT] at hcv2 hne
        obtain rfl : t = dn := by omega
        rcases Nat.eq_zero_or_pos t with ht0 | ht0
        · have hss0 : sT.size = 0 := by omega
          clear hdot hd hsl hsT hB3 hB2 hB3' hB2' hde ht hdn hT htl add1 hss
          subst ht0
          go_wp2_with fail
          go_roundw
          case rel => exact ⟨k + 1, by omega, by go_num, hOr⟩
          case measure => simp [intOf]; omega
        · obtain ⟨x, T', hxT⟩ : ∃ x T', T = x :: T' := by
            cases T with
            | nil => simp at ht; omega
            | cons x T' => exact ⟨x, T', rfl⟩
          have hs0 : 0 < sT.size := by omega
          have hs0' : (0 : Int) < (sT.size : Int) := by omega
          have hsx : sT[0] = x := by
            have h2 := text_at sT hs0 (by simpa using hs0)
            rw [h2]
            simp [hsl, hxT]
          obtain ⟨y, hy⟩ : ∃ y : Nat, x.toNat = y := ⟨_, rfl⟩
          have hcb : ((sT[0]'hs0).toNat : Int) = (y : Int) := by rw [hsx, hy]
          have hyb : ((y : Int) == 46) = false := by
            rw [beq_eq_false_iff_ne]
            intro h
            exact hd (by rw [hxT]; exact congrArg some (UInt8.toNat_inj.1 (by rw [hy]; show y = 46; omega)))
          clear hdot hd hxT hy hsx hsl hsT hB3 hB2 hB3' hB2' hde ht hdn hT htl add1
          go_wp2_with fail
          go_roundw
          case rel => exact ⟨k + 1, by omega, by go_num, hOr⟩
          case measure => simp [intOf]; omega
    · obtain rfl : r = k := by omega
      have hOw : Only [] w wr := ((hO1.then hO2).then hO3).then hOr
      obtain ⟨A4, c4, hcut, hB4, -⟩ := bt_cut (h1.keep ((hO2.then hO3).then hOr)).bt (k := q) (by omega)
      have hq3 : q + 3 - q = 3 := by omega
      rw [HDR.out, hq3] at hB4
      rw [hq3] at hcut
      have hcv : (convert 22 9 (.slice A4 3 c4)).run Tryd.prog wr = .ok (.string ⟨#[46, 13, 10]⟩) wr := str_of hB4.sl c4
      clear hB4 hq3
      have h3q : (3 : Int) ≤ (q : Int) + 3 := by omega
      go_wp2_with (go_at_call 23; (with_reducible refine (known_any _).mono ?_); rintro e w7 ⟨rfl, hO7⟩)
      go_ret
      exact ⟨rfl, hOw.then hO7⟩
end Go.Proofs.YtmameghebikjbaaDoor
