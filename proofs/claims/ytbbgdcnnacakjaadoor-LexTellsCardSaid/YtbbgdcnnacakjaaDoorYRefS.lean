/-
  The document's Same and Quote.
-/
import Derived.Test.YtbbgdcnnacakjaaDoorYRefX
import Derived.Test.YtbbgdcnnacakjaaDoorYPlain
import Derived.Test.YtbbgdcnnacakjaaDoorYAtoms
import Derived.Test.YtbbgdcnnacakjaaDoorYQuotesM
namespace Go.Proofs.YtbbgdcnnacakjaaDoor
open Go.RowKit Go.Instr

section
variable {w : World} {A B : Option Addr} {n c d : Nat} {T : List Tkn}
set_option maxRecDepth 100000 in
set_option maxHeartbeats 4000000 in
theorem same_any (hA : Gr 2 w A n (gx tkl T)) (hB : Gr 2 w B n (gx tkl T)) (hT : T.length = n) (hn : n ≤ 64) : Calls Tryd.prog 14 #[.slice A n c, .slice B n d] w fun e w' => e = .returned (.bool true) ∧ Only [] w w' := by
  have HA := Lib.hid hA
  have HB := Lib.hid hB
  have HT := Lib.hid hT
  have hnn : ((n : Int) != (n : Int)) = false := by simp
  clear hA hB hT
  go_enter Tryd.func14, Tryd.ntmps14
  go_wp2_with fail
  go_loopw [5] (fun iv wr => Only [] w wr ∧ ∃ k : Nat, iv = .int .i64 (k : Int) ∧ k ≤ n) (fun iv _ => n - (intOf iv).toNat)
  case atStart => exact ⟨Only.refl _ _, 0, rfl, by omega⟩
  case round =>
    obtain ⟨hO, k, rfl, hk⟩ := hrel
    by_cases hlt : k < n
    · have hlt' : (k : Int) < (n : Int) := by omega
      have hkl : k < T.length := by rw [HT.out]; exact hlt
      obtain ⟨ad, rfl, d1, d2⟩ := tok_cell (HA.out.keep hO) hlt hkl
      obtain ⟨bd, rfl, e1, e2⟩ := tok_cell (HB.out.keep hO) hlt hkl
      obtain ⟨z, hz⟩ : ∃ z, T[k].1 = z := ⟨_, rfl⟩
      obtain ⟨u, hu⟩ : ∃ u, St T[k].2 = u := ⟨_, rfl⟩
      rw [hz] at d1 e1
      rw [hu] at d2 e2
      have hneq := run_neq_tk z z u u
      simp only [BEq.rfl, Bool.and_self, Bool.not_true] at hneq
      have hgd := guard_tk .neq
      have hkk : ((k : Int)).toNat = k := by omega
      have HO := Lib.hid hO
      have HM : Hid (n - (intOf (.int .i64 ((k : Int) + 1))).toNat < n - (intOf (.int .i64 (k : Int))).toNat) := by
        show n - ((k : Int) + 1).toNat < n - (k : Int).toNat
        omega
      have HR : Hid (∃ k' : Nat, Value.int .i64 ((k : Int) + 1) = .int .i64 (k' : Int) ∧ k' ≤ n) := ⟨k + 1, by simp, by omega⟩
      clear hz hu hO
      go_wp2_with fail
      go_region
      go_wp2_with fail
      exact ⟨⟨HO.out.drew, HR.out⟩, HM.out⟩
    · obtain rfl : k = n := by omega
      have hkk : ¬ (k : Int) < (k : Int) := by omega
      go_wp2_with fail
      go_ret
      exact ⟨rfl, hO⟩
end
theorem escL_append (a b : List UInt8) : escL (a ++ b) = escL a ++ escL b := by simp [escL]
set_option maxRecDepth 100000 in
set_option maxHeartbeats 4000000 in
theorem refQuote_any (s : ByteArray) (w : World) (hs : s.size ≤ 500) : Calls Tryd.prog 16 #[.string s] w fun e w' => ∃ t : ByteArray, e = .returned (.string t) ∧ Hid (t.data.toList = quoteL s.data.toList) ∧ w = w' := by
  have hsl : s.data.toList.length = s.size := by simp
  have HSL := Lib.hid hsl
  clear hsl
  go_enter Tryd.func16, Tryd.ntmps16
  go_wp2_with fail
  go_loopw [3, 4] (fun tv iv wr => w = wr ∧ ∃ (k : Nat) (t : ByteArray), tv = .string t ∧ iv = .int .i64 (k : Int) ∧ k ≤ s.size ∧ Hid (t.data.toList = 34 :: escL (s.data.toList.take k)) ∧ Hid (t.size ≤ 1 + 2 * k)) (fun _ iv _ => s.size - (intOf iv).toNat)
  case atStart => exact ⟨rfl, 0, ⟨#[34]⟩, rfl, rfl, by omega, rfl, by show (1 : Nat) ≤ 1 + 2 * 0; omega⟩
  case round =>
    obtain ⟨rfl, k, t, rfl, rfl, hk, HT, HZ⟩ := hrel
    have hz := HZ.out
    by_cases hlt : k < s.size
    · have hlt' : (k : Int) < (s.size : Int) := by omega
      have hkl : k < s.data.toList.length := by rw [HSL.out]; exact hlt
      have hg := txt_get s hlt hkl
      have ps : ∀ W, (Instr.slice 9 (.string s) (some (.int .i64 (k : Int))) (some (.int .i64 ((k : Int) + 1))) none).run Tryd.prog W = .ok (.string (s.extract k (k + 1))) W := run_cut_str (P := Tryd.prog) 9 Tryd.underlying9 s k (k + 1) (k : Int) ((k : Int) + 1) rfl (by omega) (by omega) (by omega)
      obtain ⟨v, hv⟩ : ∃ v : UInt8, (s[k] : UInt8) = v := ⟨_, rfl⟩
      rw [hv] at hg
      have hx : (s.extract k (k + 1)).data.toList = [v] := by
        rw [Lib.extract_data, show k + 1 - k = 1 by omega, List.drop_eq_getElem_cons hkl, ← hg]
        rfl
      obtain ⟨x, hxx⟩ : ∃ x, s.extract k (k + 1) = x := ⟨_, rfl⟩
      rw [hxx] at ps hx
      have hx1 : x.size = 1 := by
        have := congrArg List.length hx
        simpa using this
      have hstep : escL (s.data.toList.take (k + 1)) = escL (s.data.toList.take k) ++ (if v = 34 ∨ v = 92 then [92, v] else [v]) := by
        rw [List.take_succ_eq_append_getElem hkl, escL_append, ← hg, escL_cons]
        show _ = _
        simp [escL]
      have HM : Hid (s.size - (intOf (.int .i64 ((k : Int) + 1))).toNat < s.size - (intOf (.int .i64 (k : Int))).toNat) := by
        show s.size - ((k : Int) + 1).toNat < s.size - (k : Int).toNat
        omega
      have hki : (k : Int) + 1 ≤ 501 := by omega
      by_cases hsp : v = 34 ∨ v = 92
      · obtain ⟨t1, e1, z1, hadd1⟩ := add_eq t ⟨#[92]⟩ (by show t.size + 1 ≤ _; omega)
        have zz1 : t1.size = t.size + 1 := z1
        obtain ⟨t2, e2, z2, hadd2⟩ := add_eq t1 x (by omega)
        have HN : Hid (t2.data.toList = 34 :: escL (s.data.toList.take (k + 1))) := by
          show _ = _
          rw [e2, e1, hx, HT.out, hstep, if_pos hsp]
          simp
        have HR : Hid (∃ (k2 : Nat) (t3 : ByteArray), Value.string t2 = .string t3 ∧ Value.int .i64 ((k : Int) + 1) = .int .i64 (k2 : Int) ∧ k2 ≤ s.size ∧ Hid (t3.data.toList = 34 :: escL (s.data.toList.take k2)) ∧ Hid (t3.size ≤ 1 + 2 * k2)) := ⟨k + 1, t2, rfl, by simp, by omega, HN.out, by show _ ≤ _; omega⟩
        rcases hsp with h | h
        · have hA : (((s[k] : UInt8).toNat : Int) == 34) = true := by rw [hv, h]; rfl
          clear hv hg hx hxx hx1 hstep hz z1 zz1 z2 e1 e2 h
          go_wp2_with fail
          exact ⟨⟨trivial, HR.out⟩, HM.out⟩
        · have hA : (((s[k] : UInt8).toNat : Int) == 34) = false := by rw [hv, h]; rfl
          have hB : (((s[k] : UInt8).toNat : Int) == 92) = true := by rw [hv, h]; rfl
          clear hv hg hx hxx hx1 hstep hz z1 zz1 z2 e1 e2 h
          go_wp2_with fail
          exact ⟨⟨trivial, HR.out⟩, HM.out⟩
      · obtain ⟨t2, e2, z2, hadd2⟩ := add_eq t x (by omega)
        have HN : Hid (t2.data.toList = 34 :: escL (s.data.toList.take (k + 1))) := by
          show _ = _
          rw [e2, hx, HT.out, hstep, if_neg hsp]
          simp
        have HR : Hid (∃ (k2 : Nat) (t3 : ByteArray), Value.string t2 = .string t3 ∧ Value.int .i64 ((k : Int) + 1) = .int .i64 (k2 : Int) ∧ k2 ≤ s.size ∧ Hid (t3.data.toList = 34 :: escL (s.data.toList.take k2)) ∧ Hid (t3.size ≤ 1 + 2 * k2)) := ⟨k + 1, t2, rfl, by simp, by omega, HN.out, by show _ ≤ _; omega⟩
        have hA : (((s[k] : UInt8).toNat : Int) == 34) = false := by
          rw [hv, beq_eq_false_iff_ne]; intro e; exact hsp (.inl (UInt8.toNat_inj.1 (by show v.toNat = 34; omega)))
        have hB : (((s[k] : UInt8).toNat : Int) == 92) = false := by
          rw [hv, beq_eq_false_iff_ne]; intro e; exact hsp (.inr (UInt8.toNat_inj.1 (by show v.toNat = 92; omega)))
        clear hv hg hx hxx hx1 hstep hz z2 e2 hsp
        go_wp2_with fail
        exact ⟨⟨trivial, HR.out⟩, HM.out⟩
    · obtain rfl : k = s.size := by omega
      have hkk : ¬ (s.size : Int) < (s.size : Int) := by omega
      obtain ⟨t1, e1, z1, hadd1⟩ := add_eq t ⟨#[34]⟩ (by show t.size + 1 ≤ _; omega)
      have HN : Hid (t1.data.toList = quoteL s.data.toList) := by
        show _ = _
        rw [e1, HT.out, List.take_of_length_le (by rw [HSL.out]; exact Nat.le_refl _), quote_esc]
        rfl
      clear hz z1 e1
      go_wp2_with fail
      go_ret
      exact ⟨t1, rfl, HN, rfl⟩
end Go.Proofs.YtbbgdcnnacakjaaDoor
