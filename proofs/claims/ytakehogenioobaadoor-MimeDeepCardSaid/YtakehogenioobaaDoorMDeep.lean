/-
  The law MimeDeep.
-/
import Derived.Test.YtakehogenioobaaDoorMMess
import Derived.Test.YtakehogenioobaaDoorMSect
namespace Go.Proofs.YtakehogenioobaaDoor
open Go.RowKit Go.Instr

theorem hp_len (l : List UInt8) (z : Bool) : (hp l z).length ≤ 56 + l.length := by
  cases z <;> simp [hp, hdO, vMsg, ctN, kdN, bdN, pmN, qOf] <;> omega
theorem dB_len (t : List UInt8) : ∀ i, (dB t i).length ≤ t.length + 2 + 100 * i
  | 0 => by simp [dB]
  | i + 1 => by
    have ih := dB_len t i
    have h := hp_len [dC i] (i % 2 == 0)
    rw [dB, msg_eq]
    simp only [List.length_append, segs, sg, mend, mk, bhN, List.map_cons, List.map_nil, List.flatten_cons, List.flatten_nil, List.length_cons, List.length_nil] at h ⊢
    omega
theorem rep_more2 (k : Nat) : List.replicate k (2 : Int) ++ [2] = List.replicate (k + 1) 2 := by rw [List.replicate_succ']
theorem ivs_append (a b : List Int) : ivs (a ++ b) = ivs a ++ ivs b := by simp [ivs]
theorem ivs_ones (q : List Int) : ∀ u ∈ ivs q, u.oneCell' = true := fun u hu => by
  unfold ivs at hu
  obtain ⟨b, _, rfl⟩ := List.mem_map.1 hu
  rfl
theorem Gro.pz {w : World} {A : Option Addr} {n c : Nat} {q : List Int} (h : Gro w A n c (ivs q)) : Pz w A n c q :=
  ⟨h.sl, h.cap, fun e => by
    rcases Nat.eq_zero_or_pos c with h0 | h0
    · exact h0
    · obtain ⟨g, o, e2, _⟩ := h.at_ h0
      rw [e] at e2
      cases e2⟩
theorem kc2 (W : World) : (convert 24 24 (.slice (some ⟨W.heap.size, 0, none⟩) 2 2)).run Tryd.prog (W.alloc (.cells #[.int .u8 13, .int .u8 10] 5)) = .ok (.slice (some ⟨W.heap.size, 0, none⟩) 2 2) (W.alloc (.cells #[.int .u8 13, .int .u8 10] 5 (2, 3))) := Lib.run_convert_bytes_const W 24 5 #[.int .u8 13, .int .u8 10] 2 2 Tryd.underlying24 Tryd.underlying5
theorem gro2 (W : World) : Gro (W.alloc (.cells #[.int .u8 13, .int .u8 10] 5 (2, 3))) (some ⟨W.heap.size, 0, none⟩) 2 2 (bvs [13, 10]) := gro_const W #[.int .u8 13, .int .u8 10] [13, 10] 2 (2, 3) rfl rfl (Nat.le_refl _) (by unfold maxLen; omega)
theorem Section_long (A : Option Addr) (n c : Nat) (AQ : Option Addr) (nq cq : Nat) (h : 4 < nq) (w : World) : Calls Tryd.prog 11 #[.slice A n c, .slice AQ nq cq] w fun e w' => e = .returned (.tuple #[.slice none 0 0, .bool false]) ∧ w = w' := by
  have h0 : ((nq : Int) == 0) = false := by rw [beq_eq_false_iff_ne]; omega
  have h1 : (4 : Int) < (nq : Int) := by omega
  go_enter Tryd.func11, Tryd.ntmps11
  go_wp2_with fail
  go_ret2
  exact ⟨rfl, rfl⟩
/-- What a step of the law's loop lays. -/
theorem deep_msg {w : World} {A : Option Addr} {q c k : Nat} {t : List UInt8} (hk : k < 6) (ht : t.length ≤ 200) (hq : q = (dB t k).length) (hG : Gro w A q c (bvs (dB t k))) (tb : ByteArray) (htb : tb = St [dC k]) (z : Bool) (hz : z = (k % 2 == 0)) :
    Calls Tryd.prog 9 #[.string tb, .slice (some ⟨w.heap.size + 2, 0, none⟩) 2 2, .bool z] (((w.alloc (.cells #[.int .u8 (97 + (k : Int))] 5)).alloc (.cells #[.int .u8 13, .int .u8 10, .int .u8 120] 5 (3, 4))).alloc (.cells #[.slice (some ⟨w.heap.size + 1, 0, none⟩) 3 3, .slice A q c] 24))
      (Msgd (((w.alloc (.cells #[.int .u8 (97 + (k : Int))] 5)).alloc (.cells #[.int .u8 13, .int .u8 10, .int .u8 120] 5 (3, 4))).alloc (.cells #[.slice (some ⟨w.heap.size + 1, 0, none⟩) 3 3, .slice A q c] 24)) (dB t (k + 1))) := by
  have hl := dB_len t (k + 1)
  have hdb : dB t (k + 1) = msg tb.data.toList z [[13, 10, 120], dB t k] := by rw [htb, St_list, hz]; rfl
  rw [hdb] at hl ⊢
  refine message_any tb (by rw [htb, St_size]; simp) z (some ⟨w.heap.size + 2, 0, none⟩) 2 2 [[13, 10, 120], dB t k] _ ?_ (by omega) (by omega)
  have hb := Bk.new ((w.alloc (.cells #[.int .u8 (97 + (k : Int))] 5)).alloc (.cells #[.int .u8 13, .int .u8 10, .int .u8 120] 5 (3, 4))) 24 #[.slice (some ⟨w.heap.size + 1, 0, none⟩) 3 3, .slice A q c]
  have hs := Sl.of_new (w.alloc (.cells #[.int .u8 (97 + (k : Int))] 5)) #[.int .u8 13, .int .u8 10, .int .u8 120] 5 (3, 4)
  simp only [World.size_alloc] at hb hs
  subst hq
  exact Rw.two (l := [13, 10, 120]) (l2 := dB t k) hb (hs.alloc _) (((hG.alloc _).alloc _).alloc _).sl
theorem deep_name (w : World) {k : Nat} (hk : k < 6) (tb : ByteArray) (htb : St [dC k] = tb) : (convert 24 9 (.slice (some ⟨w.heap.size, 0, none⟩) 1 1)).run Tryd.prog (w.alloc (.cells #[.int .u8 (97 + (k : Int))] 5)) = .ok (.string tb) (w.alloc (.cells #[.int .u8 (97 + (k : Int))] 5)) := by
  have hs := Sl.of_new w #[.int .u8 (97 + (k : Int))] 5 (0, 0)
  have e : (#[.int .u8 (97 + (k : Int))] : Array Value).toList = bvs [dC k] := by
    unfold bvs bv dC
    simp only [List.map_cons, List.map_nil]
    rw [UInt8.toNat_ofNat']
    congr 2
    omega
  rw [e] at hs
  rw [← htb]
  exact run_str_sl (P := Tryd.prog) 24 9 5 _ 1 1 [dC k] Tryd.underlying24 Tryd.underlying5 Tryd.underlying9 hs
theorem deep_byte (W : World) {k : Nat} (hk : k < 6) : (convert 3 5 (.int .i64 (97 + (k : Int)))).run Tryd.prog W = .ok (.int .u8 (97 + (k : Int))) W := by
  have h1 := run_convert_int (P := Tryd.prog) (w := W) 3 5 .i64 (97 + (k : Int)) (by kernel_rfl) (by kernel_rfl)
  rw [h1]
  have h2 : Tryd.prog.intKind 5 = .u8 := by kernel_rfl
  rw [h2]
  have h3 : IntKind.u8.wrap (97 + (k : Int)) = 97 + (k : Int) := IntWalk.u8_in _ (by omega)
  rw [h3]
set_option maxRecDepth 100000 in
set_option maxHeartbeats 8000000 in
theorem deep_any (A : Option Addr) (n c : Nat) (l : List UInt8) (N : Int) (w : World) (hs : Bt w A n c l) (hA : ∀ x ∈ blks A, x < w.heap.size) (h1 : -9223372036854775808 ≤ N) (h2 : N ≤ 9223372036854775807) :
    Calls Tryd.prog 4 #[.slice A n c, .int .i64 N] w fun e w' => e = .returned (.bool true) ∧ Only [] w w' := by
  by_cases hbn : n ≤ 200
  case neg =>
    have hbn' : (200 : Int) < (n : Int) := by omega
    go_enter Tryd.func4, Tryd.ntmps4
    go_wp2_with fail
    go_ret
    exact ⟨rfl, Only.refl _ _⟩
  have hbn' : (n : Int) ≤ 200 := by omega
  by_cases hn0 : N < 0
  · go_enter Tryd.func4, Tryd.ntmps4
    go_wp2_with fail
    go_ret
    exact ⟨rfl, Only.refl _ _⟩
  by_cases hn1 : 6 < N
  · have hn0' : 0 ≤ N := by omega
    go_enter Tryd.func4, Tryd.ntmps4
    go_wp2_with fail
    go_ret
    exact ⟨rfl, Only.refl _ _⟩
  obtain ⟨d, rfl⟩ : ∃ d : Nat, N = (d : Int) := ⟨N.toNat, by omega⟩
  have hd : d ≤ 6 := by omega
  have hd' : (d : Int) ≤ 6 := by omega
  clear h1 h2 hn0 hn1
  obtain ⟨i0, hi, hz0, hz1, hz2⟩ := info_parts infoByte
  obtain ⟨j0, hj, hy0, hy1, hy2⟩ := info_parts infoInt
  have HLN := Lib.hid hs.len
  have HBT := Lib.hid hs
  have k0 := kc2 w
  have hG0 := gro2 w
  clear hs
  go_enter Tryd.func4, Tryd.ntmps4
  go_wp2_with fail
  go_loopw [5] (fun i wr => ∃ k : Nat, k ≤ n ∧ i = .int .i64 (k : Int) ∧ Hid (∀ x ∈ l.take k, 97 ≤ x.toNat ∧ x.toNat ≤ 122) ∧ w = wr) (fun i _ => n - (intOf i).toNat)
  case atStart => exact ⟨0, Nat.zero_le _, rfl, (fun x hx => by simp at hx), rfl⟩
  case round =>
    obtain ⟨k, hk, rfl, HT, rfl⟩ := hrel
    by_cases hlt : k < n
    · have hlt' : (k : Int) < (n : Int) := by omega
      have hkl : k < l.length := by rw [HLN.out]; exact hlt
      obtain ⟨ad, u, rfl, hu, hc⟩ := HBT.out.sl.at_ hlt
      rw [bvs_get l k hkl] at hu
      injection hu with hu
      subst hu
      unfold bv at hc
      have htk : (97 ≤ l[k].toNat ∧ l[k].toNat ≤ 122) → ∀ x ∈ l.take (k + 1), 97 ≤ x.toNat ∧ x.toNat ≤ 122 := fun h x hx => by
        rw [List.take_succ_eq_append_getElem hkl] at hx
        rcases List.mem_append.1 hx with hx | hx
        · exact HT.out x hx
        · rw [List.mem_singleton.1 hx]; exact h
      obtain ⟨y, hy⟩ : ∃ y : Nat, l[k].toNat = y := ⟨_, rfl⟩
      rw [hy] at htk hc
      have HTK := Lib.hid htk
      clear htk hy
      by_cases h1 : y < 97
      · have h1' : (y : Int) < 97 := by omega
        go_wp2_with fail
        go_ret
        exact ⟨rfl, Only.refl _ _⟩
      · by_cases h2 : 122 < y
        · have h1' : ¬ (y : Int) < 97 := by omega
          have h2' : (122 : Int) < (y : Int) := by omega
          go_wp2_with fail
          go_ret
          exact ⟨rfl, Only.refl _ _⟩
        · have h1' : ¬ (y : Int) < 97 := by omega
          have h2' : ¬ (122 : Int) < (y : Int) := by omega
          have HT2 := Lib.hid (HTK.out ⟨by omega, by omega⟩)
          go_wp2_with fail
          go_roundw
          case rel => exact ⟨k + 1, by omega, by go_num, HT2.out, trivial⟩
          case measure => simp [intOf]; omega
    · obtain rfl : k = n := by omega
      rw [List.take_of_length_le (by rw [HLN.out]; exact Nat.le_refl _)] at HT
      have hS0 := HBT.out.sl.alloc (.cells #[.int .u8 13, .int .u8 10] 5 (2, 3))
      go_wp2_with (at_builtin; refine wpList_append_gro rfl (.tmp 42) (.tmp 43) 24 rfl 5 i0 (.int .u8 0) 1 Tryd.underlying24 hi hz0 hz1 hz2 rfl _ 2 2 _ rfl hG0 A k c _ rfl hS0 (bvs_one _) (by unfold maxLen; omega) (by omega) ?_; intro A3 c3 w3 hG3 hO3 hB3)
      have hOw3 : Only [] w w3 := ((Only.refl [] w).alloc _).trans hO3 (fun x hx => .inr (by simp at hx; omega))
      have hBw3 : ∀ x ∈ blks A3, w.heap.size ≤ x := fun x hx => by
        rcases hB3 x hx with h | h
        · simp at h; omega
        · simp at h; omega
      have hG3' : Gro w3 A3 (2 + k) c3 (bvs (dB l 0)) := hG3
      clear hG3 hO3 hB3 k0 hG0 hS0
      go_loopw [8, 6, 7] (fun i b p wr => ∃ (j : Nat) (A4 AP : Option Addr) (q c4 cP : Nat), j ≤ d ∧ i = .int .i64 (j : Int) ∧ b = .slice A4 q c4 ∧ p = .slice AP j cP ∧ Hid (q = (dB l j).length) ∧ Gro wr A4 q c4 (bvs (dB l j)) ∧ Gro wr AP j cP (ivs (List.replicate j 2)) ∧ (∀ x ∈ blks A4, w.heap.size ≤ x) ∧ (∀ x ∈ blks AP, w.heap.size ≤ x) ∧ Only [] w wr) (fun i _ _ _ => d - (intOf i).toNat)
      case atStart => exact ⟨0, A3, none, 2 + k, c3, 0, Nat.zero_le _, rfl, rfl, rfl, (by show _ = _; simp [dB, HLN.out]; omega), hG3', Gro.nil _, hBw3, (fun _ hx => nomatch hx), hOw3⟩
      case round =>
        obtain ⟨j, A4, AP, q, c4, cP, hjd, rfl, rfl, rfl, HQ, hG, hP, hbA, hbP, hO⟩ := hrel
        have hql : q ≤ 900 := by rw [HQ.out]; have := dB_len l j; have := HLN.out; omega
        by_cases hlt2 : j < d
        · have hlt2' : (j : Int) < (d : Int) := by omega
          have hj6 : j < 6 := by omega
          obtain ⟨tb, htb⟩ : ∃ tb, St [dC j] = tb := ⟨_, rfl⟩
          obtain ⟨z, hz⟩ : ∃ z, (j % 2 == 0) = z := ⟨_, rfl⟩
          have cM := deep_msg hj6 (by rw [HLN.out]; exact hbn) HQ.out hG tb htb.symm z hz.symm
          have x1 := fun W => deep_byte W hj6
          have x2 := deep_name wr hj6 tb htb
          have x3 : (convert 24 24 (.slice (some ⟨wr.heap.size + 1, 0, none⟩) 3 3)).run Tryd.prog ((wr.alloc (.cells #[.int .u8 (97 + (j : Int))] 5)).alloc (.cells #[.int .u8 13, .int .u8 10, .int .u8 120] 5)) = .ok (.slice (some ⟨wr.heap.size + 1, 0, none⟩) 3 3) ((wr.alloc (.cells #[.int .u8 (97 + (j : Int))] 5)).alloc (.cells #[.int .u8 13, .int .u8 10, .int .u8 120] 5 (3, 4))) := by
            have := Lib.run_convert_bytes_const (P := Tryd.prog) (wr.alloc (.cells #[.int .u8 (97 + (j : Int))] 5)) 24 5 #[.int .u8 13, .int .u8 10, .int .u8 120] 3 3 Tryd.underlying24 Tryd.underlying5
            rwa [World.size_alloc] at this
          obtain ⟨r, hr⟩ : ∃ r, j % 2 = r := ⟨_, rfl⟩
          have y1 : (j : Int) % 2 = (r : Int) := by omega
          have y2 : (j : Int).tmod 2 = (r : Int) := by rw [Int.tmod_eq_emod_of_nonneg (by omega)]; exact y1
          have y3 : ((r : Int) == 0) = z := by
            rw [← hz, ← hr]
            rcases Nat.mod_two_eq_zero_or_one j with h | h <;> rw [h] <;> rfl
          have hjb : (j : Int) + 1 ≤ 7 := by omega
          have hj97 : (97 : Int) + (j : Int) ≤ 103 := by omega
          clear htb hz hr HQ
          go_wp2_with first
            | (go_at_call 9; (with_reducible refine cM.mono ?_); rintro e w5 ⟨A5, q5, c5, rfl, HQ5, hG5, hB5, hO5⟩; have hO35 : Only [] wr w5 := (((Only.refl [] wr).alloc _).alloc _).alloc _ |>.then hO5; have hP5 := (hP.keep hO35).alloc (.cells #[.int .i64 2] 3); have hS2 := Sl.of_new w5 #[.int .i64 2] 3 (0, 0))
            | (at_builtin; refine wpList_append_gro rfl (.tmp 63) (.tmp 64) 32 rfl 3 j0 (.int .i64 0) 8 Tryd.underlying32 hj hy0 hy1 hy2 rfl AP j cP _ rfl hP5 (some ⟨w5.heap.size, 0, none⟩) 1 1 [.int .i64 2] rfl hS2 (fun u hu => by simp at hu; subst hu; rfl) (by unfold maxLen; omega) (by omega) ?_; intro A6 c6 w6 hG6 hO6 hB6)
          go_roundw
          case rel =>
            have hsz := hO.size
            have hsz2 := hO35.size
            have hap : ∀ x ∈ blks A5, x ∉ blks AP := fun x hx hm => by
              have h1 := hB5 x hx
              have h2 := hP.lt x hm
              simp at h1
              omega
            refine ⟨j + 1, A5, A6, q5, c5, c6, by omega, by go_num, rfl, rfl, HQ5, (hG5.alloc _).only hO6 hap, ?_, fun x hx => ?_, fun x hx => ?_, ((hO.then hO35).then ((Only.refl [] w5).alloc _)).trans hO6 (fun x hx => .inr (hbP x hx))⟩
            · rw [← rep_more2, ivs_append]; exact hG6
            · have := hB5 x hx; simp at this; omega
            · rcases hB6 x hx with h | h
              · exact hbP x h
              · simp at h; omega
          case measure => simp [intOf]; omega
        · obtain rfl : j = d := by omega
          by_cases hj4 : j ≤ 4
          · have hj4' : (j : Int) ≤ 4 := by omega
            have hsec := dB_sec HT.out j hd
            have hcnt := dB_cnt HT.out j 4 hj4 hd
            have cS0 := Section_any (List.replicate j 2) (by simp; omega) (fun x hx => by rw [List.eq_of_mem_replicate hx]; omega) wr A4 q c4 (dB l j) AP j cP hG.bt (by omega) hG.lt hP.pz
            have cC0 := fun w' (o : Only [] wr w') => Count_any (hG.bt.keep o) (by omega) (blks_keep hG.lt o)
            rw [hcnt] at cC0
            rw [hsec] at cS0
            obtain ⟨D0, hD0⟩ : ∃ D0, dB l 0 = D0 := ⟨_, rfl⟩
            have hDl : [13, 10] ++ l = D0 := hD0
            rw [hD0] at cS0
            obtain ⟨q0, hq0⟩ : ∃ q0, D0.length = q0 := ⟨_, rfl⟩
            have cS : Calls Tryd.prog 11 #[.slice A4 q c4, .slice AP j cP] wr fun e w' => ∃ A' c', e = .returned (.tuple #[.slice A' q0 c', .bool true]) ∧ Hid (Sl w' A' q0 (bvs D0)) ∧ Only [] wr w' := cS0.mono fun e w' ⟨v, b, h1, h2, h3⟩ => by
              obtain ⟨h4, A', c', h5, h6⟩ := h2.out
              subst h4 h5
              exact ⟨A', c', by rw [h1, hq0], by rw [← hq0]; exact h6.sl, h3⟩
            have hjb : ((j + 1 : Nat) : Int) = (j : Int) + 1 := by omega
            rw [hjb] at cC0
            have hj1 : (j : Int) + 1 ≤ 5 := by omega
            obtain ⟨tw, htw⟩ : ∃ tw, St D0 = tw := ⟨_, rfl⟩
            have HTW := Lib.hid htw
            have HDL := Lib.hid hDl
            have qq : (tw.toList == tw.toList) = true := by simp
            clear hsec hcnt cS0 hD0 hDl hq0 htw hjb HQ
            go_wp2_with first
              | (go_at_call 11; (with_reducible refine cS.mono ?_); rintro e w5 ⟨A5, c5, rfl, HS5, hO5⟩; have k5 := kc2 w5; have hG5 := gro2 w5; have hS5 := (HBT.out.sl.keep (hO.then hO5)).alloc (.cells #[.int .u8 13, .int .u8 10] 5 (2, 3)))
              | (at_builtin; refine wpList_append_gro rfl (.tmp 73) (.tmp 74) 24 rfl 5 i0 (.int .u8 0) 1 Tryd.underlying24 hi hz0 hz1 hz2 rfl _ 2 2 _ rfl hG5 A k c _ rfl hS5 (bvs_one _) (by unfold maxLen; omega) (by omega) ?_; intro A7 c7 w7 hG7 hO7 hB7
                 have hO57 : Only [] w5 w7 := ((Only.refl [] w5).alloc _).trans hO7 (fun x hx => .inr (by simp at hx; omega))
                 have hcv1 := run_str_sl (P := Tryd.prog) 24 9 5 A5 q0 c5 D0 Tryd.underlying24 Tryd.underlying5 Tryd.underlying9 (HS5.out.keep hO57)
                 have hcv2 := run_str_sl (P := Tryd.prog) 24 9 5 A7 (2 + k) c7 D0 Tryd.underlying24 Tryd.underlying5 Tryd.underlying9 (by rw [← HDL.out, bvs_append]; exact hG7.sl)
                 rw [HTW.out] at hcv1 hcv2)
              | (go_at_call 13; (with_reducible refine (cC0 _ (hO5.then hO57)).mono ?_); rintro e w8 ⟨rfl, hO8⟩)
              | (go_at_call 12; (with_reducible refine (known_any _).mono ?_); rintro e w9 ⟨rfl, hO9⟩)
            go_ret
            exact ⟨rfl, (((hO.then hO5).then hO57).then hO8).then hO9⟩
          · have hj4' : (4 : Int) < (j : Int) := by omega
            have cS := Section_long A4 q c4 AP j cP (by omega) wr
            have k5 := kc2 wr
            have hG5 := gro2 wr
            have hS5 := (HBT.out.sl.keep hO).alloc (.cells #[.int .u8 13, .int .u8 10] 5 (2, 3))
            clear HQ
            go_wp2_with first
              | (go_at_call 11; (with_reducible refine cS.mono ?_); rintro e w5 ⟨rfl, rfl⟩)
              | (at_builtin; refine wpList_append_gro rfl (.tmp 73) (.tmp 74) 24 rfl 5 i0 (.int .u8 0) 1 Tryd.underlying24 hi hz0 hz1 hz2 rfl _ 2 2 _ rfl hG5 A k c _ rfl hS5 (bvs_one _) (by unfold maxLen; omega) (by omega) ?_; intro A7 c7 w7 hG7 hO7 hB7)
              | (go_at_call 12; (with_reducible refine (known_any _).mono ?_); rintro e w9 ⟨rfl, hO9⟩)
            have hO57 : Only [] wr w7 := ((Only.refl [] wr).alloc _).trans hO7 (fun x hx => .inr (by simp at hx; omega))
            go_ret
            exact ⟨rfl, (hO.then hO57).then hO9⟩
end Go.Proofs.YtakehogenioobaaDoor
