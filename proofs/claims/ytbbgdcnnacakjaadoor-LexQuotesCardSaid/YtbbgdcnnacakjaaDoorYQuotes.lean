/-
  The walk of the law LexQuotes (laid by gen/yquotes.py).
-/
import Derived.Test.YtbbgdcnnacakjaaDoorYQuotesM
import Derived.Test.YtbbgdcnnacakjaaDoorYAtoms
import Derived.Test.YtbbgdcnnacakjaaDoorOpenY
import Derived.Deep.QuietTactic
import Derived.BigQuiet
namespace Go.Proofs.YtbbgdcnnacakjaaDoor
open Go.RowKit Go.Instr

theorem strs_get {ls : List ByteArray} {k : Nat} (h : k < ls.length) : (strs ls)[k]? = some (.string ls[k]) := by simp [strs, h]
def datL (ls : List ByteArray) : List (List UInt8) := ls.map fun s => s.data.toList
theorem datL_take {ls : List ByteArray} {k : Nat} (h : k < ls.length) : datL (ls.take (k + 1)) = datL (ls.take k) ++ [(ls[k]).data.toList] := by
  unfold datL
  rw [List.take_succ_eq_append_getElem h, List.map_append]
  rfl
set_option maxRecDepth 100000 in
set_option maxHeartbeats 16000000 in
theorem lexquotes_any {w : World} {A : Option Addr} {n c : Nat} {ls : List ByteArray} (hs : Sl w A n (strs ls)) (hM : MaxL w) (hsz : ∀ s ∈ ls, s.size ≤ 140737488351232) (hn0 : n ≤ 140737488351232) :
    Calls Tryd.prog 4 #[.slice A n c] w fun e w' => e = .returned (.bool true) ∧ Only [] w w' := by
  by_cases h64 : 64 < n
  · have h64' : (64 : Int) < (n : Int) := by omega
    clear hs hM hsz
    go_enter Tryd.func4, Tryd.ntmps4
    go_wp2_with fail
    go_ret
    exact ⟨rfl, Only.refl _ _⟩
  have h64' : ¬ (64 : Int) < (n : Int) := by omega
  have hn : n ≤ 64 := by omega
  have hln : ls.length = n := by have := hs.len; rwa [strs_length] at this
  have HS := Lib.hid hs
  have HM := Lib.hid hM
  have HSZ := Lib.hid hsz
  have HLN := Lib.hid hln
  obtain ⟨i0, hi, hz0, hz1, hz2⟩ := info_parts infoByte
  clear hs hM hsz hln
  go_enter Tryd.func4, Tryd.ntmps4
  go_wp2_with fail
  go_loopw [3, 4] (fun bv iv wr => Only [] w wr ∧ ∃ (i : Nat) (B : Option Addr) (m d : Nat), bv = .slice B m d ∧ iv = .int .i64 (i : Int) ∧ i ≤ n ∧ Own wr 5 B m d (bvs (catQ (datL (ls.take i)))) ∧ (∀ z ∈ blks B, w.heap.size ≤ z) ∧ m ≤ 403 * i ∧ Hid (∀ s ∈ datL (ls.take i), plainL s = true)) (fun _ iv _ => n - (intOf iv).toNat)
  case atStart => exact ⟨Only.refl _ _, 0, none, 0, 0, rfl, rfl, by omega, Own.nil _ _, (fun _ h => nomatch h), by omega, by show ∀ s ∈ datL (ls.take 0), _; simp [datL]⟩
  case round =>
    obtain ⟨hO, i, B, m, d, rfl, rfl, hin, hV, hA, hm, HPL⟩ := hrel
    have HA := Lib.hid hA
    have HO := Lib.hid hO
    by_cases hlt : i < n
    · have hlt' : (i : Int) < (n : Int) := by omega
      have hil : i < ls.length := by rw [HLN.out]; exact hlt
      obtain ⟨ad, u, rfl, hu, hc6⟩ := HS.out.at_ hlt
      rw [strs_get hil] at hu
      injection hu with hu
      subst hu
      have hc7 := hO.cellSome hc6 (fun hm => nomatch hm)
      have hadl := block_lt_of_cell hc6
      rw [add_block] at hadl
      have hdt := datL_take hil
      have hszt := HSZ.out _ (List.getElem_mem hil)
      obtain ⟨tx, htx⟩ : ∃ tx, ls[i] = tx := ⟨_, rfl⟩
      rw [htx] at hc6 hc7 hdt hszt
      have HM2 : Hid (n - (intOf (.int .i64 ((i : Int) + 1))).toNat < n - (intOf (.int .i64 (i : Int))).toNat) := by
        show n - ((i : Int) + 1).toNat < n - (i : Int).toNat
        omega
      by_cases h100 : 100 < tx.size
      · have h100' : (100 : Int) < (tx.size : Int) := by omega
        clear hV hA hO hdt htx hc6
        go_wp2_with fail
        go_ret
        exact ⟨rfl, HO.out⟩
      · have h100' : ¬ (100 : Int) < (tx.size : Int) := by omega
        have hpl := plain_any tx wr (by omega)
        cases hp : plainL tx.data.toList with
        | false =>
          rw [hp] at hpl
          have HP := Lib.hid hpl
          clear hV hA hO hdt htx hc6 hpl hp
          go_wp2_with (go_at_call 18; with_reducible refine HP.out.mono ?_; rintro e w2 ⟨rfl, rfl⟩)
          go_ret
          exact ⟨rfl, HO.out⟩
        | true =>
          rw [hp] at hpl
          have HP := Lib.hid hpl
          obtain ⟨R, hR⟩ : ∃ R, catQ (datL (ls.take i)) = R := ⟨_, rfl⟩
          rw [hR] at hV
          have HV := Lib.hid hV
          obtain ⟨tq, htq⟩ : ∃ tq, St (quoteL tx.data.toList) = tq := ⟨_, rfl⟩
          have HQ : Hid (∀ W, Only (blks B) wr.drew W → Calls Tryd.prog 15 #[.string tx] W fun e w' => e = .returned (.string tq) ∧ Only [] W w') := fun W o => by
            refine (Quote_any tx W ?_ (by omega)).mono fun e w' ⟨t, he, ht, _, ho⟩ => ⟨?_, ho⟩
            · obtain ⟨mx, hmx⟩ := HM.out.keep HO.out
              exact ⟨mx, o.cellSome (a := wr.drew) hmx (fun hm => by have := HA.out _ hm; have := block_lt_of_cell hmx; have h0 := HM.out; obtain ⟨m0, hm0⟩ := h0; have := block_lt_of_cell hm0; omega)⟩
            · rw [he, ← htq, ← ht.out, St_data]
          have htqs : tq.size ≤ 402 := by
            rw [← htq, St_size]
            have h1 : ∀ s : List UInt8, (escL s).length ≤ 2 * s.length := by
              intro s
              induction s with
              | nil => simp [escL]
              | cons c s ih => rw [escL_cons, List.length_append, List.length_cons]; split <;> simp <;> omega
            have h2 := h1 tx.data.toList
            rw [quote_esc, List.length_cons, List.length_append, List.length_singleton]
            have h3 : tx.data.toList.length = tx.size := by simp
            omega
          have HTQ : Hid (tq.size ≤ 1048576) := by show _ ≤ _; omega
          have HTD : Hid (tq.data.toList = quoteL tx.data.toList) := by show _ = _; rw [← htq, St_list]
          have HC6 : Hid (∀ W, Only (blks B) wr.drew W → W.cell? (ad.add i) = some (.string tx)) := fun W o => o.cellSome (a := wr.drew) hc7 (fun hm => by rw [add_block] at hm; have := HA.out _ hm; omega)
          have HRR := Lib.hid hR
          have HDT := Lib.hid hdt
          have HPP := Lib.hid hp
          clear hV hA hO hdt htx hc6 hpl hp hR htq
          go_wp2_with (go_at_call 18; with_reducible refine HP.out.mono ?_; rintro e w2 ⟨rfl, rfl⟩)
          apply region_writes (rs := blks B) (Ws := [2, 9]) (by kernel_rfl) (by kernel_rfl)
          apply rel_val (hrf := Tk_refl)
          case hw => rfl
          case hy => intro wS hN hF; skip; first | (go_simp; done) | (go_simp; with_reducible rfl)
          case' hk => skip
          try simp only [Act.put, List.setIfInBounds_toArray, List.set_cons_zero, List.set_cons_succ]
          apply rel_fact (φ := fun v W => ∃ ad, v = .slice (some ad) 1 1 ∧ Sl W (some ad) 1 (bvs [32])) (x := 2) (hs := lasts0 (by kernel_rfl) (fun v W W' h ho => by obtain ⟨ad, h1, h2⟩ := h; exact ⟨ad, h1, h2.keep ho⟩))
          case hw => rfl
          case hy =>
            intro wS hN hF
            refine gives_value (u := .slice (some ⟨wS.heap.size, 0, none⟩) 1 1) (w' := wS.alloc (.cells #[.int .u8 32] 5)) ?_ ⟨_, rfl, sl_one _ _ _ 32 rfl⟩ (Tk_only ((Only.refl [] _).alloc _))
            go_simp
          case' hk => intro v1
          try simp only [Act.put, List.setIfInBounds_toArray, List.set_cons_zero, List.set_cons_succ]
          apply rel_fact (φ := fun v W => ∃ A' c', v = .slice A' (m + 1) c' ∧ Own W 5 A' (m + 1) c' (bvs R ++ bvs [32]) ∧ ∀ x ∈ blks A', x ∈ blks B ∨ wr.heap.size ≤ x) (x := 9) (hs := lasts0 (by kernel_rfl) (fun v W W' h ho => by obtain ⟨A', c', h1, h2, h3⟩ := h; exact ⟨A', c', h1, h2.keep ho, h3⟩))
          case hw => rfl
          case hy =>
            intro wS hN hF
            have hO : Only [] wr.drew wS := hN.pre (by kernel_rfl)
            obtain ⟨ad, rfl, hs⟩ := hF.at_ 0 rfl (by kernel_rfl) (by kernel_rfl)
            refine gives_append_sl (.tmp 31) (.tmp 32) 32 rfl 5 i0 (.int .u8 0) 1 Tryd.underlying32 hi hz0 hz1 hz2 rfl B m d (bvs R) rfl (HV.out.drew.keep hO) (some ad) 1 1 _ rfl hs (bvs_one _) (by unfold maxLen; omega) (by omega) fun A' c' w' h2 h3 h4 => ⟨⟨A', c', rfl, h2, fun k hk => ?_⟩, Tk_writes rfl h3 (fun _ h => .inl h)⟩
            rcases h4 k hk with h | h
            · exact .inl h
            · exact .inr (by have := hO.size; simp at this; omega)
          case' hk => intro v2
          try simp only [Act.put, List.setIfInBounds_toArray, List.set_cons_zero, List.set_cons_succ]
          apply rel_val (hrf := Tk_refl)
          case hw => rfl
          case hy => intro wS hN hF; skip; first | (go_simp; done) | (go_simp; with_reducible rfl)
          case' hk => skip
          try simp only [Act.put, List.setIfInBounds_toArray, List.set_cons_zero, List.set_cons_succ]
          apply rel_val (hrf := Tk_refl)
          case hw => rfl
          case hy => intro wS hN hF; skip; first | (go_simp; done) | (go_simp; with_reducible rfl)
          case' hk => skip
          try simp only [Act.put, List.setIfInBounds_toArray, List.set_cons_zero, List.set_cons_succ]
          apply rel_val (hrf := Tk_refl)
          case hw => rfl
          case hy => intro wS hN hF; skip; first | (go_simp; done) | (go_simp; with_reducible rfl)
          case' hk => skip
          try simp only [Act.put, List.setIfInBounds_toArray, List.set_cons_zero, List.set_cons_succ]
          apply rel_val (v := .string tx) (hrf := Tk_refl)
          case hw => rfl
          case hy =>
            intro wS hN hF
            have hc := HC6.out wS hN.1.only
            go_simp
          case' hk => skip
          try simp only [Act.put, List.setIfInBounds_toArray, List.set_cons_zero, List.set_cons_succ]
          apply rel_call (v := .string tq) (f := 15) (args := #[.string tx])
          case hw => rfl
          case hy => intro wS hN hF; go_simp
          case hc => intro wS hN hF; exact call_only (HQ.out wS hN.1.only)
          case' hk => skip
          try simp only [Act.put, List.setIfInBounds_toArray, List.set_cons_zero, List.set_cons_succ]
          apply rel_fact (φ := fun v W => ∃ ad c', v = .slice (some ad) tq.size c' ∧ Sl W (some ad) tq.size (bvs tq.data.toList)) (x := 9) (hs := lasts0 (by kernel_rfl) (fun v W W' h ho => by obtain ⟨ad, c', h1, h2⟩ := h; exact ⟨ad, c', h1, h2.keep ho⟩))
          case hw => rfl
          case hy =>
            intro wS hN hF
            obtain ⟨w8, c8, hcv8, g8, o8⟩ := conv_gro tq HTQ.out wS
            refine gives_value (u := .slice (some ⟨wS.heap.size, 0, none⟩) tq.size c8) (w' := w8) ?_ ⟨_, _, rfl, g8.sl⟩ (Tk_only o8)
            go_simp
          case' hk => intro v8
          try simp only [Act.put, List.setIfInBounds_toArray, List.set_cons_zero, List.set_cons_succ]
          apply rel_fact (φ := fun v W => ∃ A' c', v = .slice A' (m + 1 + tq.size) c' ∧ Own W 5 A' (m + 1 + tq.size) c' (bvs R ++ bvs [32] ++ bvs tq.data.toList) ∧ ∀ x ∈ blks A', x ∈ blks B ∨ wr.heap.size ≤ x) (x := 9999) (hs := lasts0 (by kernel_rfl) (fun v W W' h ho => by obtain ⟨A', c', h1, h2, h3⟩ := h; exact ⟨A', c', h1, h2.keep ho, h3⟩))
          case hw => rfl
          case hy =>
            intro wS hN hF
            obtain ⟨ad, c8, rfl, hs⟩ := hF.at_ 0 rfl (by kernel_rfl) (by kernel_rfl)
            obtain ⟨A3, c3, rfl, HV3, HB3⟩ := hF.at_ 1 rfl (by kernel_rfl) (by kernel_rfl)
            have h9 := HTQ.out
            refine gives_append_sl (.tmp 33) (.tmp 39) 32 rfl 5 i0 (.int .u8 0) 1 Tryd.underlying32 hi hz0 hz1 hz2 rfl A3 (m + 1) c3 _ rfl HV3 (some ad) tq.size c8 _ rfl hs (bvs_one _) (by unfold maxLen; omega) (by omega) fun A' c' w' h2 h3 h4 => ⟨⟨A', c', rfl, h2, fun k hk => ?_⟩, Tk_writes rfl h3 HB3⟩
            rcases h4 k hk with h | h
            · exact HB3 k h
            · exact .inr (by have := hN.1.size; simp at this; omega)
          case' hk => intro v9
          try simp only [Act.put, List.setIfInBounds_toArray, List.set_cons_zero, List.set_cons_succ]
          apply rel_fact (φ := fun v W => ∃ A' c', v = .slice A' (m + 1 + tq.size) c' ∧ Own W 5 A' (m + 1 + tq.size) c' (bvs R ++ bvs [32] ++ bvs tq.data.toList) ∧ ∀ x ∈ blks A', x ∈ blks B ∨ wr.heap.size ≤ x) (x := 9999) (hs := lasts0 (by kernel_rfl) (fun v W W' h ho => by obtain ⟨A', c', h1, h2, h3⟩ := h; exact ⟨A', c', h1, h2.keep ho, h3⟩))
          case hw => rfl
          case hy =>
            intro wS hN hF
            have h := hF.at_ 0 rfl (by kernel_rfl) (by kernel_rfl)
            refine gives_value (u := v9) (w' := wS) ?_ h (Tk_refl _)
            go_simp
          case' hk => intro v10
          try simp only [Act.put, List.setIfInBounds_toArray, List.set_cons_zero, List.set_cons_succ]
          refine rel_end ?_
          intro wS hO hF
          obtain ⟨A4, c4, rfl, HV4, HB4⟩ := facts_at hF 0 rfl
          clear hF
          have hO4 : Only [] w wS := HO.out.drew.trans hO.only (fun x hx => .inr (HA.out x hx))
          have HR : Hid (∃ (i' : Nat) (B' : Option Addr) (m' d' : Nat), Value.slice A4 (m + 1 + tq.size) c4 = .slice B' m' d' ∧ Value.int .i64 ((i : Int) + 1) = .int .i64 (i' : Int) ∧ i' ≤ n ∧ Own wS 5 B' m' d' (bvs (catQ (datL (ls.take i')))) ∧ (∀ z ∈ blks B', w.heap.size ≤ z) ∧ m' ≤ 403 * i' ∧ Hid (∀ s ∈ datL (ls.take i'), plainL s = true)) := by
            refine ⟨i + 1, A4, m + 1 + tq.size, c4, rfl, by simp, by omega, ?_, fun z hz => ?_, by omega, ?_⟩
            · rw [HDT.out, catQ_snoc, HRR.out, bvs_append, bvs_append, ← HTD.out]
              exact HV4
            · rcases HB4 z hz with h | h
              · exact HA.out z h
              · have := HO.out.size; omega
            · show ∀ s ∈ _, _
              rw [HDT.out]
              intro s hs
              rcases List.mem_append.1 hs with h | h
              · exact HPL.out s h
              · rw [List.mem_singleton.1 h]; exact HPP.out
          clear HV4 HB4
          go_wp2_with fail
          exact ⟨⟨hO4, HR.out⟩, HM2.out⟩
    · obtain rfl : i = n := by omega
      have hii : ¬ (i : Int) < (i : Int) := by omega
      have htk : ls.take i = ls := List.take_of_length_le (by rw [HLN.out]; exact Nat.le_refl _)
      rw [htk] at hV HPL
      have hdl : (datL ls).length = i := by unfold datL; rw [List.length_map, HLN.out]
      have hlex := line_quotes (datL ls) [] HPL.out (by rw [hdl]; simpa using hn)
      rw [← lex_one, List.nil_append] at hlex
      have HB0 := Lib.hid hV.bt
      have HLE : Hid (Calls Tryd.prog 10 #[.slice (some ⟨wr.heap.size, 0, none⟩) 1 1, .slice none 0 0] (wr.alloc (.cells #[.slice B m d] 32)) fun e w' => ∃ A' c', e = .returned (.tuple #[.slice A' i c', .int .i64 0]) ∧ Only [] w w' ∧ Gr 2 w' A' i (gx tkl ((datL ls).map fun s => (2, s)))) := by
        have h := one_line (Bk.new wr 32 #[.slice B m d]) (HB0.out.keep ((Only.refl _ _).alloc _)) (by omega)
        rw [hlex] at h
        refine h.mono fun e w' hr => ?_
        obtain ⟨hO', A', c', he, hg, _⟩ := hr
        rw [List.length_map, hdl] at he hg
        exact ⟨A', c', he, (HO.out.alloc _).then hO', hg.reads⟩
      have hne : ((i : Int) != (i : Int)) = false := by simp
      have HDL := Lib.hid hdl
      clear hV hA hO hlex hdl htk
      go_wp2_with (go_at_call 10; refine HLE.out.mono ?_; rintro e w3 ⟨A', c', rfl, O3, hG⟩; have HG3 := Lib.hid hG; have HO3 := Lib.hid O3; clear hG O3)
      go_loopw [7] (fun kv wr2 => Only [] w3 wr2 ∧ ∃ k : Nat, kv = .int .i64 (k : Int) ∧ k ≤ i) (fun kv _ => i - (intOf kv).toNat)
      case atStart => exact ⟨Only.refl _ _, 0, rfl, by omega⟩
      case round =>
        obtain ⟨hOr, k, rfl, hki⟩ := hrel
        by_cases hltk : k < i
        · have hltk' : (k : Int) < (i : Int) := by omega
          have hkl : k < ls.length := by rw [HLN.out]; exact hltk
          have hk2 : k < ((datL ls).map fun s => ((2 : Int), s)).length := by rw [List.length_map, HDL.out]; exact hltk
          obtain ⟨ad, rfl, d1, d2⟩ := tok_cell (HG3.out.keep hOr) hltk hk2
          obtain ⟨bd, u, rfl, hu, hb6⟩ := HS.out.at_ hltk
          rw [strs_get hkl] at hu
          injection hu with hu
          subst hu
          have hb7 := (HO3.out.then hOr).cellSome hb6 (fun hm => nomatch hm)
          have e1 : St (((datL ls).map fun s => ((2 : Int), s))[k]'hk2).2 = ls[k] := by simp [datL]
          have e2 : (((datL ls).map fun s => ((2 : Int), s))[k]'hk2).1 = 2 := by simp
          simp only [e2] at d1
          have d2' : wr.cell? ⟨(ad.add (k * 2)).block, (ad.add (k * 2)).off + 1, none⟩ = some (.string ls[k]) := by rw [d2]; exact congrArg (fun t => some (Value.string t)) e1
          obtain ⟨tx, htx⟩ : ∃ tx, ls[k] = tx := ⟨_, rfl⟩
          rw [htx] at hb7 d2'
          have HW := Lib.hid (IntWalk.wrap64_in ((k : Int) + 1) (by omega))
          have HM : Hid (i - (intOf (.int .i64 ((k : Int) + 1))).toNat < i - (intOf (.int .i64 (k : Int))).toNat) := by
            show i - ((k : Int) + 1).toNat < i - (k : Int).toNat
            omega
          have HR : Hid (∃ k' : Nat, Value.int .i64 ((k : Int) + 1) = .int .i64 (k' : Int) ∧ k' ≤ i) := ⟨k + 1, by simp, by omega⟩
          clear d2 e1 e2 hb6 htx
          go_wp2_with fail
          go_quiet (fail)
          go_wp2_with fail
          exact ⟨⟨hOr.drewN _, HR.out⟩, HM.out⟩
        · obtain rfl : k = i := by omega
          have hkk9 : ¬ (k : Int) < (k : Int) := by omega
          go_wp2_with (go_at_call 17; refine (known_any _).mono ?_; rintro e w4 ⟨rfl, O4⟩)
          go_ret
          exact ⟨rfl, (HO3.out.then hOr).then O4⟩
end Go.Proofs.YtbbgdcnnacakjaaDoor
