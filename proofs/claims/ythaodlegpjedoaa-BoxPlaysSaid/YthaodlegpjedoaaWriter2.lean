/-
  octet.Writer: Raw, Bytes, Out; the nil Writer.
-/
import Derived.Test.YthaodlegpjedoaaWriter
namespace Go.Proofs.Ythaodlegpjedoaa
open Go.RowKit
attribute [local go_sem ↓] Go.wp_at_zero Go.wp_at_succ

set_option maxHeartbeats 400000 in
set_option maxRecDepth 100000 in
theorem wraw_any (g : Nat) (A : Option Addr) (c : Nat) (l : List UInt8) (V : Option Addr) (n cv : Nat) (p : List UInt8) (w : World) (hw : Wr w g A c l) (hv : Sl w V n (bvs p))
    (hn : n ≤ 1000000000000) (hl : l.length ≤ 1000000000000) :
    Calls Try.prog 72 #[.pointer (some ⟨g, 0, none⟩), .slice V n cv] w (Laid w g A (l ++ p)) := by
  obtain ⟨i0, hi, hz0, hz1, hz2⟩ := info_parts infoByte
  have hlen : p.length = n := by simpa using hv.len
  have hc0 := hw.cell
  go_enter Try.func72, Try.ntmps72
  go_wp2_with (at_builtin; go_must (refine wpList_append_sl rfl (.tmp 10) (.tmp 11) 29 rfl 5 i0 (.int .u8 0) 1 Try.underlying29 hi hz0 hz1 hz2 rfl A _ c _ rfl hw.2 V n cv _ rfl hv (bvs_one _) (by unfold maxLen; omega) (by omega) ?_); intro A2 c2 w2 HV2 HO2 HB2; have HF2 := (HO2.frozen (p := ⟨g, 0, none⟩) hw.lt hw.ne).trans hw.free; have HC2 := HO2.cellSome (p := ⟨g, 0, none⟩) hw.cell hw.ne; have HK2 := hw.1.only HO2 hw.ne)
  go_end0
  have hpl : (l ++ p).length = l.length + n := by rw [List.length_append, hlen]
  refine ⟨rfl, A2, c2, ?_, ?_, HB2⟩
  · rw [← bvs_append, ← hpl] at HV2
    have hs := Wr.set HK2 HV2
    rw [hpl] at hs
    exact hs
  · exact (HO2.mono (ss := g :: blks A) (fun x hx => .inl (List.mem_cons_of_mem _ hx))).setCell (.inl (by simp)) _

set_option maxRecDepth 100000 in
theorem out_any (g : Nat) (A : Option Addr) (c : Nat) (l : List UInt8) (w : World) (hw : Wr w g A c l) (hl : l.length ≤ 1000000000000) :
    Calls Try.prog 42 #[.pointer (some ⟨g, 0, none⟩)] w (Fresh w l) := by
  have hc0 := hw.cell
  go_enter Try.func42, Try.ntmps42
  go_wp2_with fail
  refine (join_any _ 1 1 [l] _ (Rw.one (Bk.new _ _ _) (hw.2.sl.alloc _)) (by omega) (by simpa using (by omega : l.length ≤ 1099511627776))).mono ?_
  rintro e w' ⟨A', c', rfl, HV, HO, HB⟩
  go_wp2
  go_ret
  exact ⟨A', c', rfl, by simpa using HV, ((Only.refl _ _).alloc _).trans HO (fun _ hx => by cases hx), fun k hk => by have := HB k hk; simp at this; omega⟩
set_option maxRecDepth 100000 in
theorem out_nil (w : World) :
    Calls Try.prog 42 #[.pointer none] w fun e w' => e = .returned (.slice none 0 0) ∧ w = w' := by
  go_enter Try.func42, Try.ntmps42
  go_wp2
  go_ret
  exact ⟨rfl, rfl⟩
set_option maxRecDepth 100000 in
theorem wnums_nil (v : Value) (w : World) :
    Calls Try.prog 41 #[.pointer none, v] w fun e w' => e = .returned (.tuple #[]) ∧ w = w' := by
  go_enter Try.func41, Try.ntmps41
  go_wp2
  go_returns
  exact ⟨rfl, rfl⟩
set_option maxRecDepth 100000 in
theorem wraw_nil (v : Value) (w : World) :
    Calls Try.prog 72 #[.pointer none, v] w fun e w' => e = .returned (.tuple #[]) ∧ w = w' := by
  go_enter Try.func72, Try.ntmps72
  go_wp2
  go_returns
  exact ⟨rfl, rfl⟩

/-- Rows of bytes, each behind its length. -/
def rowEnc (r : List UInt8) : List UInt8 := enc r.length ++ r
def rowsEnc (ls : List (List UInt8)) : List UInt8 := (ls.map rowEnc).flatten
theorem rowsEnc_take (ls : List (List UInt8)) (k : Nat) (h : k < ls.length) : rowsEnc (ls.take (k + 1)) = rowsEnc (ls.take k) ++ (enc ls[k].length ++ ls[k]) := by
  unfold rowsEnc
  rw [List.take_succ_eq_append_getElem h, List.map_append, List.flatten_append]
  simp [rowEnc]
def rowsLen (ls : List (List UInt8)) : Nat := (rowsEnc ls).length
theorem rowsLen_take (ls : List (List UInt8)) (k : Nat) : rowsLen (ls.take k) ≤ rowsLen ls := by
  have h : rowsEnc ls = rowsEnc (ls.take k) ++ rowsEnc (ls.drop k) := by
    unfold rowsEnc
    rw [← List.flatten_append, ← List.map_append, List.take_append_drop]
  unfold rowsLen
  rw [h, List.length_append]
  omega

set_option maxHeartbeats 800000 in
set_option maxRecDepth 100000 in
theorem wbytes_any (g : Nat) (A : Option Addr) (c : Nat) (l : List UInt8) (V : Option Addr) (n cv : Nat) (ls : List (List UInt8)) (w : World) (S : Nat → Prop) (hw : Wr w g A c l)
    (hv : RwS S w V n ls) (hS : ∀ k, S k → k ∉ g :: blks A) (hn : n ≤ 1000000000) (hl : l.length + rowsLen ls ≤ 900000000) :
    Calls Try.prog 40 #[.pointer (some ⟨g, 0, none⟩), .slice V n cv] w (Laid w g A (l ++ rowsEnc ls)) := by
  have hlen : ls.length = n := hv.len
  have HS := Lib.hid hS
  clear hS
  go_enter Try.func40, Try.ntmps40
  go_wp2
  go_loopw [8] (fun i wr => ∃ (k : Nat) (A' : Option Addr) (c' : Nat), k ≤ n ∧ i = .int .i64 k ∧ Wr wr g A' c' (l ++ rowsEnc (ls.take k)) ∧ Only (g :: blks A) w wr ∧ (∀ x ∈ blks A', x ∈ blks A ∨ w.heap.size ≤ x)) (fun i _ => n - (intOf i).toNat)
  case atStart => exact ⟨0, A, c, Nat.zero_le _, rfl, by simpa [rowsEnc] using hw, Only.refl _ _, fun x hx => .inl hx⟩
  case round =>
    obtain ⟨k, A', c', hk, rfl, HW, HO, HB⟩ := hrel
    by_cases hlt : k < n
    · have hkl : k < ls.length := by omega
      obtain ⟨ad, Ai, ci, rfl, hSa, hcell0, hrow, hSr⟩ := hv.at_ hlt hkl
      have hcell := HO.cellSome hcell0 (by rw [add_block]; exact HS.out _ hSa)
      have HE := Lib.hid (rowsEnc_take ls k hkl)
      have hb1 := rowsLen_take ls k
      have hb2 := rowsLen_take ls (k + 1)
      have hb3 : rowsLen (ls.take (k + 1)) = rowsLen (ls.take k) + ((enc (ls[k]'hkl).length).length + (ls[k]'hkl).length) := by
        unfold rowsLen
        rw [HE.out, List.length_append, List.length_append]
      have hbig : (l ++ rowsEnc (ls.take k)).length + (enc (ls[k]'hkl).length).length + (ls[k]'hkl).length ≤ 900000000 := by
        rw [List.length_append]
        unfold rowsLen at hb1 hb2 hb3 hl
        omega
      generalize hp : l ++ rowsEnc (ls.take k) = p at *
      have HP := Lib.hid hp
      have hCl := clamp_mid (v := ((ls[k]'hkl).length : Int)) (by omega) (by omega)
      rw [Int.toNat_natCast] at hCl
      have HCl : Hid (encs [((ls[k]'hkl).length : Int)] = enc (ls[k]'hkl).length) := by
        show _ = _
        simp [encs, hCl]
      have hlt0 := HW.lt
      clear hp hb1 hb2 hb3 hCl hcell0
      have HN := Lib.hid (fun (W : World) (hW : Wr W g A' c' p) (hs : Sl W (some ⟨wr.heap.size, 0, none⟩) 1 (ivs [((ls[k]'hkl).length : Int)])) =>
        wnums_any g A' c' p (some ⟨wr.heap.size, 0, none⟩) 1 1 [((ls[k]'hkl).length : Int)] W hW hs
          (by intro v hv; simp at hv; subst hv; omega) (by intro _ ad h hm; injection h with h; subst h; simp at hm; rcases hm with h | h; omega; have := HW.2.lt h; omega) (by omega) (by omega))
      go_wp2_with (first
        | (go_at_call 41; go_must (refine (HN.out _ (HW.keep ((Only.refl _ _).alloc _)) (Sl.of_bk (Bk.new _ _ _))).mono ?_); rintro e w1 ⟨rfl, A1, c1, HW1, HO1, HB1⟩;
           have HO2 : Only (g :: blks A) w w1 := (HO.alloc _).trans HO1 (by intro x hx; rcases List.mem_cons.1 hx with h | h; exact .inl (by simp [h]); rcases HB x h with h | h; exact .inl (by simp [h]); exact .inr h))
        | (go_at_call 72; go_must (refine (wraw_any g A1 c1 _ Ai _ ci _ w1 HW1 (hrow.only' HO2 (fun hn ad e => HS.out _ (hSr hn ad e))) (by omega) (by rw [List.length_append, HCl.out]; omega)).mono ?_); rintro e w2 ⟨rfl, A2, c2, HW2, HO3, HB2⟩))
      go_roundw
      case rel =>
        refine ⟨k + 1, A2, c2, by omega, by go_num, ?_, ?_, fun x hx => ?_⟩
        · rw [HE.out, ← List.append_assoc, ← List.append_assoc, HP.out, ← HCl.out]
          exact HW2
        · refine HO2.trans HO3 (fun x hx => ?_)
          rcases List.mem_cons.1 hx with h | h
          · exact .inl (by simp [h])
          · rcases HB1 x h with h | h
            · rcases HB x h with h | h
              · exact .inl (by simp [h])
              · exact .inr h
            · exact .inr (by have := HO.size; simp at h; omega)
        · rcases HB2 x hx with h | h
          · rcases HB1 x h with h | h
            · exact HB x h
            · exact .inr (by have := HO.size; simp at h; omega)
          · exact .inr (by have := HO2.size; omega)
      case measure => simp [intOf]; omega
    · obtain rfl : k = n := by omega
      have HT := Lib.hid (show ls.take k = ls from List.take_of_length_le (by omega))
      go_wp2
      go_end0
      rw [HT.out] at HW
      exact ⟨rfl, A', c', HW, HO, HB⟩
end Go.Proofs.Ythaodlegpjedoaa
