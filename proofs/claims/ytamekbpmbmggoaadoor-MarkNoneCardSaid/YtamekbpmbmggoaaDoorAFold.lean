/-
  strings.EqualFold of any text against a word of plain letters that is as long.
-/
import Derived.Test.YtamekbpmbmggoaaDoorAFoldA
namespace Go.Proofs.YtamekbpmbmggoaaDoor
open Go.RowKit Go.Instr

set_option maxHeartbeats 4000000 in
set_option maxRecDepth 100000 in
theorem fold_any (s t : ByteArray) (hst : s.size = t.size) (hbig : s.size ≤ 4096) (hP : Plain t.data.toList) {w : World} (hL : Laid w) :
    Calls Tryd.prog 18 #[.string s, .string t] w fun e w' => e = .returned (.bool (sameT s.data.toList t.data.toList)) ∧ Only [] w w' := by
  have HP := Lib.hid hP
  have HL := Lib.hid hL
  have HST := Lib.hid hst
  obtain ⟨M, hM⟩ : ∃ M : Nat, min (s.size : Int) (t.size : Int) = (M : Int) := ⟨s.size, by omega⟩
  have hMs : M = s.size := by omega
  have hMt : M = t.size := by omega
  clear hP hL
  go_enter Tryd.func18, Tryd.ntmps18
  go_wp2_with fail
  refine wp_scope_back 0 (foldJ s t w) (fun _ _ => 0) rfl ?pass ?first
  case first =>
    intro pass
    go_wp2_with fail
    go_loopg [5] M (fun g s5 wx => w = wx ∧ ∃ i : Nat, i + g = M ∧ s5 = .int .i64 i ∧ sameT (s.data.toList.drop i) (t.data.toList.drop i) = sameT s.data.toList t.data.toList)
    case atStart => exact ⟨rfl, 0, by omega, rfl, rfl⟩
    case round =>
      obtain ⟨rfl, i, hig, rfl, hinv⟩ := hrel
      have HI := Lib.hid hinv
      clear hinv hM
      cases gk with
      | zero =>
        have hiM : ¬ ((i : Int) < (M : Int)) := by omega
        obtain rfl : i = M := by omega
        have hE : Hid (sameT s.data.toList t.data.toList = true) := by
          show _ = true
          rw [← HI.out, List.drop_of_length_le (by rw [← Lib.size_eq]; omega), List.drop_of_length_le (by rw [← Lib.size_eq]; omega)]
          rfl
        have hb : ((s.size : Int) == (t.size : Int)) = true := beq_iff_eq.2 (by omega)
        go_wp2
        simp only [Exit.jump]
        go_ret
        exact ⟨by rw [hE.out]; rfl, Only.refl _ _⟩
      | succ g =>
        have hiM : (i : Int) < (M : Int) := by omega
        have his : i < s.size := by omega
        have hit : i < t.size := by omega
        have hisz : (i : Int) < (s.size : Int) := by omega
        have hitz : (i : Int) < (t.size : Int) := by omega
        have hpl := plain_at HP.out i hit
        obtain ⟨x, hx⟩ : ∃ x : UInt8, s[i]'his = x := ⟨_, rfl⟩
        obtain ⟨y, hy⟩ : ∃ y : UInt8, t[i]'hit = y := ⟨_, rfl⟩
        have hxl : s.data.toList[i]? = some x := by rw [← hx]; exact Lib.data_getElem? s i his
        have hyl : t.data.toList[i]? = some y := by rw [← hy]; exact Lib.data_getElem? t i hit
        rw [hy] at hpl
        have hy128 := hpl.1
        have hor : bits .or .u8 (x.toNat : Int) (y.toNat : Int) = ((x.toNat ||| y.toNat : Nat) : Int) := u8_or_nat _ _ (byte_lt x) (byte_lt y)
        have Hx : Hid (s.data.toList[i]? = some x ∧ t.data.toList[i]? = some y) := ⟨hxl, hyl⟩
        clear hxl hyl hpl
        by_cases hbx : x.toNat < 128
        · have hor128 : ¬ ((128 : Int) ≤ ((x.toNat ||| y.toNat : Nat) : Int)) := by have := Nat.or_lt_two_pow (n := 7) hbx hy128; omega
          clear pass
          go_wp2
          all_goals (try simp only [beq_iff_eq, beq_eq_false_iff_ne, ne_eq] at *)
          all_goals first
            | (go_roundg g
               case measure => omega
               case rel => exact ⟨rfl, i + 1, by omega, by first | rfl | simp, by rw [← HI.out, Lib.drop_at Hx.out.1, Lib.drop_at Hx.out.2, sameT_cons, decide_eq_true ((low_eq _ _).2 (by omega)), Bool.true_and]⟩)
            | (simp only [Exit.jump]
               go_ret
               refine ⟨?_, Only.refl _ _⟩
               rw [← HI.out, Lib.drop_at Hx.out.1, Lib.drop_at Hx.out.2, sameT_cons, decide_eq_false (fun hh => by have := (low_eq _ _).1 hh; omega)]
               rfl)
        · have hor128 : (128 : Int) ≤ ((x.toNat ||| y.toNat : Nat) : Int) := by have : x.toNat ≤ x.toNat ||| y.toNat := Nat.left_le_or; omega
          have HB : Hid (128 ≤ (s[i]'his).toNat) := by show _ ≤ _; rw [hx]; omega
          clear pass
          go_wp2
          go_step3
          refine And.intro rfl (foldJ_mk i rfl his HB.out)
  case pass =>
    rintro a' w' ⟨i, f, rfl, rfl, his, hbs⟩
    obtain ⟨s2, t2, n, hcut1, hcut2, HN, HE, HP2, H0, hn4, hi2, hNo⟩ := fold_cut s t HST.out hbig HP.out i his hbs
    have HNo := Lib.hid hNo
    clear hNo hMs hMt hM hst HST hbig hbs M
    clear his
    go_wp2_with fail
    go_loopw [1] (fun tv wr => ∃ pos j T, tv = .string T ∧ wr = w.iter s2 pos ∧ T.size + j = n ∧ Plain T.data.toList ∧ pos ≤ n ∧ ((j = 0 ∧ pos = 0) ∨ j + 1 ≤ pos)) (fun _ wr => n - wr.iterPos w.heap.size)
    case atStart => exact ⟨0, 0, t2, rfl, rfl, HE.out, HP2.out, Nat.zero_le _, .inl ⟨rfl, rfl⟩⟩
    case round =>
      obtain ⟨pos, j, T, rfl, rfl, hT, hPT, hpn, hpj⟩ := hrel
      by_cases hp : pos < s2.size
      · obtain ⟨h0, h128⟩ := H0.out
        have hnx := fun ty => run_next_any (P := Tryd.prog) w s2 pos ty hp
        have hdp := decode_pos s2 pos hp
        have hdf := decode_fits s2 pos hp
        have hdl := decode_le s2 pos
        have h383 := decode_383 s2 pos
        have hhi : pos = 0 → 128 ≤ (Utf8.decode s2 pos).1 := by
          rintro rfl
          exact (decode_high s2 0 hp h128).1
        obtain ⟨r, hr⟩ : ∃ r, (Utf8.decode s2 pos).1 = r := ⟨_, rfl⟩
        obtain ⟨k, hk⟩ : ∃ k, (Utf8.decode s2 pos).2 = k := ⟨_, rfl⟩
        rw [hr, hk] at hnx h383
        rw [hr] at hdl hhi
        rw [hk] at hdp hdf
        have hn := HN.out
        have hTs : 0 < T.size := by omega
        obtain ⟨y, hy⟩ : ∃ y, (T[0]'hTs).toNat = y := ⟨_, rfl⟩
        have hpl := plain_at hPT 0 hTs
        rw [hy] at hpl
        have HD := Lib.hid (fun W => dec_any T hTs y hy hpl.1 W)
        have hcut := fun (W : World) => run_cut_end (P := Tryd.prog) 9 Tryd.underlying9 T 1 (1 : Int) rfl hTs W
        have hT2 := ext_size T 1
        have hP2 := plain_ext hPT 1
        obtain ⟨T2, hT2e⟩ : ∃ T2, T.extract 1 T.size = T2 := ⟨_, rfl⟩
        rw [hT2e] at hcut hT2 hP2
        have HR : Hid (r < 128 ∨ r = 383 → ∃ pos' j' T', Value.string T2 = .string T' ∧ w.iter s2 (pos + k) = w.iter s2 pos' ∧ T'.size + j' = n ∧ Plain T'.data.toList ∧ pos' ≤ n ∧ ((j' = 0 ∧ pos' = 0) ∨ j' + 1 ≤ pos')) :=
          fun h => ⟨pos + k, j + 1, T2, rfl, rfl, by omega, hP2, by omega, .inr (by omega)⟩
        have HM : Hid (n - (w.iter s2 (pos + k)).iterPos w.heap.size < n - (w.iter s2 pos).iterPos w.heap.size) := by
          show _ < _
          simp
          omega
        have hT0 : ((T.size : Int) == 0) = false := beq_eq_false_iff_ne.2 (by omega)
        have hT1 : (1 : Int) ≤ (T.size : Int) := by omega
        have hr0 : (0 : Int) ≤ (r : Int) := by omega
        have hrl : (r : Int) ≤ 2147483647 := by omega
        have hy1 : (y : Int) < 128 := by omega
        have hO : Hid (Only [] w (w.iter s2 (pos + k))) := (Only.refl _ _).alloc _
        have hL2 : Hid (Laid (w.iter s2 (pos + k))) := HL.out.only ((Only.refl _ _).alloc _)
        obtain ⟨W2, hW2⟩ : ∃ W2, w.iter s2 (pos + k) = W2 := ⟨_, rfl⟩
        rw [hW2] at HR HM hO hL2 hnx
        clear hW2 hT2e hT2 hP2 hn hTs hdp hdf hdl h383 hhi h0 h128 hpj hpn hPT hT hy hk hr hcut1 hcut2 hi2 hn4
        rcases Nat.lt_or_ge r 128 with hr1 | hr1
        · have hr2 : (r : Int) < 128 := by omega
          clear hpl
          go_wp2_with (go_at_call 23; refine (HD.out _).mono ?_; rintro e w3 ⟨rfl, rfl⟩)
          all_goals first
            | exact ⟨HR.out (.inl hr1), HM.out⟩
            | (simp only [Exit.jump]
               go_ret
               exact ⟨by rw [HNo.out]; rfl, hO.out⟩)
        · have hr2 : (128 : Int) ≤ (r : Int) := by omega
          have hyr : (y : Int) < (r : Int) := by omega
          have HF : Hid (Fd y) := ⟨.inl hpl.1, hpl.2.1, hpl.2.2⟩
          have H2 : Hid (far y (nxt y) ≤ 2) := far_first y hpl.1 hpl.2.1 hpl.2.2
          clear hpl hr1
          go_wp2_with (first
            | (go_at_call 23; refine (HD.out _).mono ?_; rintro e w3 ⟨rfl, rfl⟩)
            | (go_at_call 24; with_reducible refine (simple_any hL2.out y HF.out).mono ?_; rintro e w3 ⟨rfl, rfl⟩))
          go_loopw [13] (fun v wr => W2 = wr ∧ ∃ x : Nat, v = .int .i32 (x : Int) ∧ Fd x ∧ far y x ≤ 2) (fun v _ => far y (intOf v).toNat)
          case atStart => exact ⟨rfl, nxt y, rfl, nxt_fd HF.out, H2.out⟩
          case round =>
            obtain ⟨rfl, x, rfl, hx, hfar⟩ := hrel
            have HX := Lib.hid hx
            have hxb : (x : Int) ≤ 383 := by have := hx.1; omega
            have hx0 : (0 : Int) ≤ (x : Int) := by omega
            have HFAR := Lib.hid hfar
            have HIN : Hid ((x : Int) < 128 ∨ x = 383) := by rcases hx.1 with h | h; exact .inl (by omega); exact .inr h
            have HN1 := Lib.hid (nxt_fd hx)
            clear hx hfar
            by_cases hxy : x = y
            · subst hxy
              have hne : ((x : Int) == (r : Int)) = false := beq_eq_false_iff_ne.2 (by omega)
              go_wp2_with fail
              simp only [Exit.jump]
              go_ret
              exact ⟨by rw [HNo.out]; rfl, hO.out⟩
            · have hne : ((x : Int) == (y : Int)) = false := beq_eq_false_iff_ne.2 (by omega)
              have HLT := Lib.hid (far_next HFAR.out hxy)
              by_cases hxr : (x : Int) < (r : Int)
              · go_wp2_with (go_at_call 24; with_reducible refine (simple_any hL2.out x HX.out).mono ?_; rintro e w3 ⟨rfl, rfl⟩)
                exact ⟨⟨trivial, nxt x, rfl, HN1.out, by have := HLT.out; have := HFAR.out; omega⟩, by simpa [intOf] using HLT.out⟩
              · have h383 : Hid (x = r → r < 128 ∨ r = 383) := fun h => .inr (by have := HIN.out; omega)
                clear hxy
                by_cases hxe : x = r
                · have he : ((x : Int) == (r : Int)) = true := beq_iff_eq.2 (by omega)
                  have HQ := Lib.hid (HR.out (h383.out hxe))
                  clear hxe h383
                  go_wp2_with fail
                  exact ⟨HQ.out, HM.out⟩
                · have he : ((x : Int) == (r : Int)) = false := beq_eq_false_iff_ne.2 (by omega)
                  clear hxe h383
                  go_wp2_with fail
                  simp only [Exit.jump]
                  go_ret
                  exact ⟨by rw [HNo.out]; rfl, hO.out⟩
      · have hnx := fun ty => run_next_end (P := Tryd.prog) w s2 pos ty hp
        have h0 : 0 < s2.size := by obtain ⟨h, _⟩ := H0.out; exact h
        have hpe : pos = n := by have := HN.out; omega
        have hT1 : ((T.size : Int) == 0) = false := beq_eq_false_iff_ne.2 (by have := HN.out; omega)
        clear hpe h0 hpj hpn hPT hT hp hn4 hi2 hcut1 hcut2
        go_wp2_with fail
        simp only [Exit.jump]
        go_ret
        exact ⟨by rw [HNo.out]; rfl, (Only.refl _ _).alloc _⟩
end Go.Proofs.YtamekbpmbmggoaaDoor
