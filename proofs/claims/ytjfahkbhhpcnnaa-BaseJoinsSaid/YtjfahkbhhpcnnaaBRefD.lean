/-
  The document's Decode.
-/
import Derived.Test.YtjfahkbhhpcnnaaBRefE
import Derived.Test.YtjfahkbhhpcnnaaBDec
import Derived.WalkKit
import Derived.Handy
import Derived.Deep.DeepMust
import Derived.WalkLawsBesides
import Derived.ScopeJumps
import Derived.WalkMore
import Derived.IntWalk
namespace Go.Proofs.Ytjfahkbhhpcnnaa
open Go.RowKit

theorem numV_max (c : UInt8) : max (0 : Int) (numV c) = (nn c : Int) := by
  unfold numV nn
  cases nx c with
  | none => rfl
  | some k => simp
theorem nn_64 (c : UInt8) : nn c < 64 := by
  unfold nn
  cases h : nx c with
  | none => simp
  | some k => simp; exact (nx_some h).1
theorem number_max (c : UInt8) (w : World) : Calls Try.prog 16 #[.int .u8 (c.toNat : Int)] w fun e w' => ∃ x : Int, e = .returned (.int .i64 x) ∧ max 0 x = (nn c : Int) ∧ w = w' :=
  (number_any c w).mono fun _ _ he => ⟨_, he.1, numV_max c, he.2⟩
/-- The first letters' numbers, six bits each. -/
def acc6 (l : List UInt8) : Nat := l.foldl (fun a c => a * 64 + nn c) 0
theorem acc6_snoc (l : List UInt8) (c : UInt8) : acc6 (l ++ [c]) = acc6 l * 64 + nn c := by simp [acc6]
theorem acc6_lt (l : List UInt8) : acc6 l < 64 ^ l.length := by
  have key : ∀ (l : List UInt8) (a k : Nat), a < 64 ^ k → l.foldl (fun a c => a * 64 + nn c) a < 64 ^ (k + l.length) := by
    intro l
    induction l with
    | nil => intro a k h; simpa using h
    | cons c l ih =>
      intro a k h
      have := nn_64 c
      simp only [List.foldl_cons, List.length_cons]
      have h2 := ih (a * 64 + nn c) (k + 1) (by rw [Nat.pow_succ]; omega)
      rw [show k + (l.length + 1) = k + 1 + l.length by omega]
      exact h2
  have := key l 0 0 (by simp)
  simpa [acc6] using this
theorem or_64 (a j : Nat) (ha : a < 16777216) (hj : j < 64) : bits .or .i64 ((a : Int) * 64) (j : Int) = ((a * 64 + j : Nat) : Int) := by
  rw [show ((a : Int) * 64) = ((a * 64 : Nat) : Int) by omega, i64_or_nat _ _ (by omega) (by omega), nat_join 6 _ _ (by omega) (by omega)]
theorem candG_step (l : List UInt8) (i : Nat) (h : i + 4 ≤ l.length) : candG (l.drop i) = three (acc6 ((l.drop i).take 4)) ++ candG (l.drop (i + 4)) := by
  have hl : 4 ≤ (l.drop i).length := by rw [List.length_drop]; omega
  rw [← List.drop_drop]
  match hd : l.drop i, hl with
  | a :: b :: c :: d :: r, _ =>
    simp only [candG, List.take, List.drop, acc6, List.foldl, three, List.cons_append, List.nil_append]
    simp

theorem candG_short : ∀ (l : List UInt8), l.length < 4 → candG l = []
  | [], _ => rfl
  | [_], _ => rfl
  | [_, _], _ => rfl
  | [_, _, _], _ => rfl
  | _ :: _ :: _ :: _ :: _, h => by simp only [List.length_cons] at h; omega
theorem sl_three (w : World) (t : TypeId) (N : Nat) (E0 E1 E2 : Int) (h0 : E0 = ((UInt8.ofNat (N / 65536 % 256)).toNat : Int)) (h1 : E1 = ((UInt8.ofNat (N / 256 % 256)).toNat : Int)) (h2 : E2 = ((UInt8.ofNat (N % 256)).toNat : Int)) :
    Sl (w.alloc (.cells #[.int .u8 E0, .int .u8 E1, .int .u8 E2] t)) (some ⟨w.heap.size, 0, none⟩) 3 (bvs (three N)) := by
  subst h0 h1 h2
  exact Sl.of_bk (Bk.new w t #[bv _, bv _, bv _])
theorem rev_drop (l : List UInt8) (j : Nat) (hj : j < 2) (h : j < l.length) : (l.reverse.take 2).drop j = l[l.length - 1 - j] :: (l.reverse.take 2).drop (j + 1) := by
  have hl : j < (l.reverse.take 2).length := by rw [List.length_take, List.length_reverse]; omega
  rw [List.drop_eq_getElem_cons hl]
  congr 1
  rw [List.getElem_take, List.getElem_reverse]
theorem rev_none (l : List UInt8) (j : Nat) (h : 2 ≤ j ∨ l.length ≤ j) : (l.reverse.take 2).drop j = [] := by
  rw [List.drop_eq_nil_iff, List.length_take, List.length_reverse]
  omega

/-- What the document's Decode answers. -/
def RefPost (w : World) (s : List UInt8) (e : Ending) (w' : World) : Prop :=
  (∃ b A n c, refDec s = some b ∧ e = .returned (.tuple #[.slice A n c, .int .i64 0]) ∧ Sl w' A n (bvs b) ∧ Only [] w w') ∨
  (refDec s = none ∧ e = .returned (.tuple #[.slice none 0 0, .int .i64 3]) ∧ Only [] w w')

set_option maxRecDepth 100000 in
set_option maxHeartbeats 4000000 in
theorem refDecode_any (s : ByteArray) (w : World) (hs : s.size ≤ 1000000) :
    Calls Try.prog 10 #[.string s] w (RefPost w s.data.toList) := by
  obtain ⟨i0, hi, hz0, hz1, hz2⟩ := info_parts infoByte
  have HSZ := Lib.hid (Lib.size_eq s)
  go_enter Try.func10, Try.ntmps10
  go_wp2
  go_loopw [4, 5] (fun t i wr => ∃ (k n2 c2 : Nat) (A2 : Option Addr) (o : List UInt8), k ≤ s.size + 4 ∧ n2 + 0 ≤ k ∧ i = .int .i64 (k : Int) ∧ t = .slice A2 n2 c2 ∧ Own wr 5 A2 n2 c2 (bvs o) ∧ Hid (o ++ candG (s.data.toList.drop k) = candG s.data.toList) ∧ Only [] w wr ∧ ∀ x ∈ blks A2, w.heap.size ≤ x) (fun _ i _ => s.size + 4 - (intOf i).toNat)
  case atStart => exact ⟨0, 0, 0, none, [], by omega, by omega, rfl, rfl, Own.nil _ _, rfl, Only.refl _ _, fun _ h => by cases h⟩
  case round =>
    obtain ⟨k, n2, c2, A2, o, hk, hn2, rfl, rfl, HV, HE, HO, HB⟩ := hrel
    by_cases hlt : k + 3 < s.size
    · have hlt' : (k : Int) + 3 < (s.size : Int) := by omega
      go_wp2
      go_loop [6, 7] (fun m j => ∃ q : Nat, q ≤ 4 ∧ j = .int .i64 (q : Int) ∧ m = .int .i64 ((acc6 ((s.data.toList.drop k).take q) : Nat) : Int)) (fun _ j => 4 - (intOf j).toNat)
      case atStart => exact ⟨0, by omega, rfl, rfl⟩
      case round =>
        obtain ⟨q, hq, rfl, rfl⟩ := hrel
        by_cases hq4 : q < 4
        · have hkq : k + q < s.size := by omega
          have hkl : k + q < s.data.toList.length := by rw [← HSZ.out]; exact hkq
          obtain ⟨ac, hac⟩ : ∃ ac, ac = acc6 ((s.data.toList.drop k).take q) := ⟨_, rfl⟩
          have hab : ac < 262144 := by
            have h := acc6_lt ((s.data.toList.drop k).take q)
            have h2 : ((s.data.toList.drop k).take q).length ≤ 3 := by rw [List.length_take]; omega
            have h3 : (64 : Nat) ^ ((s.data.toList.drop k).take q).length ≤ 64 ^ 3 := Nat.pow_le_pow_right (by omega) h2
            omega
          have HX : Hid (acc6 ((s.data.toList.drop k).take (q + 1)) = ac * 64 + nn (s[k + q])) := by
            show _ = _
            have hd : q < (s.data.toList.drop k).length := by rw [List.length_drop, ← HSZ.out]; omega
            rw [List.take_succ_eq_append_getElem hd, acc6_snoc, ← hac]
            congr 2
            rw [List.getElem_drop]
            rfl
          have hj := nn_64 (s[k + q])
          have HB8 := Lib.hid (or_64 ac (nn (s[k + q])) (by omega) hj)
          rw [← hac]
          clear hac
          go_wp2_with (go_at_call 16; refine (number_max _ _).mono ?_; rintro e w' ⟨x, rfl, hx, rfl⟩)
          go_round
          case rel => exact ⟨q + 1, by omega, by go_num, by rw [HB8.out, HX.out]⟩
          case measure => simp [intOf]; omega
        · obtain rfl : q = 4 := by omega
          have HST := Lib.hid (candG_step s.data.toList k (by rw [← HSZ.out]; omega))
          obtain ⟨N, hN⟩ : ∃ N, N = acc6 ((s.data.toList.drop k).take 4) := ⟨_, rfl⟩
          have hNb : N < 16777216 := by
            have h := acc6_lt ((s.data.toList.drop k).take 4)
            have h2 : ((s.data.toList.drop k).take 4).length ≤ 4 := by rw [List.length_take]; omega
            have h3 : (64 : Nat) ^ ((s.data.toList.drop k).take 4).length ≤ 64 ^ 4 := Nat.pow_le_pow_right (by omega) h2
            omega
          have HST2 : Hid (candG (s.data.toList.drop k) = three N ++ candG (s.data.toList.drop (k + 4))) := by show _ = _; rw [HST.out, ← hN]
          have E0 : Hid ((N : Int) / 65536 = ((UInt8.ofNat (N / 65536 % 256)).toNat : Int)) := by show _ = _; rw [toNat_ofNat (by omega)]; omega
          have E1 : Hid ((N : Int) / 256 % 256 = ((UInt8.ofNat (N / 256 % 256)).toNat : Int)) := by show _ = _; rw [toNat_ofNat (by omega)]; omega
          have E2 : Hid ((N : Int) % 256 = ((UInt8.ofNat (N % 256)).toNat : Int)) := by show _ = _; rw [toNat_ofNat (by omega)]; omega
          rw [← hN]
          clear hN HST
          go_wp2_with (at_builtin; go_must (refine wpList_append_sl rfl (.tmp 30) (.tmp 39) 22 rfl 5 i0 (.int .u8 0) 1 Try.underlying22 hi hz0 hz1 hz2 rfl A2 n2 c2 _ rfl (HV.alloc _) _ 3 3 _ rfl (sl_three _ _ N _ _ _ E0.out E1.out E2.out) (bvs_one _) (by unfold maxLen; omega) (by omega) ?_); intro A5 c5 w5 HV5 HO5 HB5)
          go_roundw
          case rel =>
            refine ⟨k + 4, n2 + 3, c5, A5, o ++ three N, by omega, by omega, by go_num, rfl, by rw [bvs_append]; exact HV5, ?_, (HO.alloc _).trans HO5 (fun x hx => .inr (HB x hx)), fun x hx => ?_⟩
            · show _ = _
              rw [List.append_assoc, ← HST2.out, HE.out]
            · rcases HB5 x hx with h | h
              · exact HB x h
              · have := HO.size; simp at h; omega
          case measure => simp [intOf]; omega
    · have HC : Hid (o = candG s.data.toList) := by
        have h := HE.out
        rw [candG_short _ (by rw [List.length_drop, ← HSZ.out]; omega), List.append_nil] at h
        exact h
      have hlt' : decide ((k : Int) + 3 < (s.size : Int)) = false := by simp; omega
      clear HE hlt
      go_wp2
      go_loop [4, 8] (fun t i => ∃ (j n3 : Nat) (I : Int) (o3 : List UInt8), j ≤ 2 ∧ n3 ≤ n2 ∧ Hid (I = (s.size : Int) - 1 - (j : Int)) ∧ I ≤ 1000000 ∧ i = .int .i64 I ∧ t = .slice A2 n3 c2 ∧ Own wr 5 A2 n3 c2 (bvs o3) ∧ Hid (cand s.data.toList = candC ((s.data.toList.reverse.take 2).drop j) o3)) (fun _ i => (intOf i + 1).toNat)
      case atStart => exact ⟨0, n2, _, o, by omega, Nat.le_refl _, by show _ = _; omega, by omega, rfl, rfl, HV, by show _ = _; rw [HC.out]; rfl⟩
      case round =>
        obtain ⟨j, n3, I, o3, hj, hn3, HI, hI1, rfl, rfl, HV3, HCC⟩ := hrel
        by_cases hI0 : 0 ≤ I
        · obtain ⟨q, rfl⟩ : ∃ q : Nat, I = (q : Int) := ⟨I.toNat, by omega⟩
          have hqs : q < s.size := by have := HI.out; omega
          have hql : q < s.data.toList.length := by rw [← HSZ.out]; exact hqs
          have HQL : Hid (s.data.toList.length - 1 - j = q) := by show _ = _; rw [← HSZ.out]; have := HI.out; omega
          by_cases hj2 : j < 2
          · have hge : (s.size : Int) - 2 ≤ (q : Int) := by have := HI.out; omega
            have HRD : Hid ((s.data.toList.reverse.take 2).drop j = s[q] :: (s.data.toList.reverse.take 2).drop (j + 1)) := by
              show _ = _
              rw [rev_drop _ j hj2 (by rw [← HSZ.out]; have := HI.out; omega)]
              congr 1
              have e : ∀ m, m = q → ∀ h : m < s.data.toList.length, s.data.toList[m] = s[q] := by rintro m rfl h; rfl
              exact e _ HQL.out _
            by_cases hc : s[q] = 61
            · have HCH := Lib.hid hc
              have hb61 : ((s[q].toNat : Int) == 61) = true := by rw [hc]; rfl
              clear hc
              by_cases hn0 : 0 < n3
              · have hni : (0 : Int) < (n3 : Int) := by omega
                have hnl : 0 < o3.length := by have := HV3.len; rw [bvs_length] at this; omega
                have HNX : Hid (cand s.data.toList = candC ((s.data.toList.reverse.take 2).drop (j + 1)) o3.dropLast) := by
                  show _ = _
                  rw [HCC.out, HRD.out]
                  simp only [candC]
                  rw [if_pos ⟨HCH.out, hnl⟩]
                have HV4 : Own wr 5 A2 (n3 - 1) c2 (bvs o3.dropLast) := by
                  have h := HV3.pre (k := n3 - 1) (by omega)
                  have hlo : o3.length = n3 := by have := HV3.len; rw [bvs_length] at this; exact this
                  rw [bvs_take, ← hlo, ← List.dropLast_eq_take] at h
                  rw [← hlo]
                  exact h
                have hcap := HV3.cap
                clear hnl
                go_wp2
                go_round
                case rel => exact ⟨j + 1, n3 - 1, (q : Int) - 1, o3.dropLast, by omega, by omega, by have := HI.out; show _ = _; omega, by omega, rfl, by go_num, HV4, HNX⟩
                case measure => simp [intOf]
              · have hz3 : n3 = 0 := by omega
                have hlo : o3 = [] := List.eq_nil_of_length_eq_zero (by have := HV3.len; rw [bvs_length] at this; omega)
                have HQ : Hid (cand s.data.toList = o3) := by
                  show _ = _
                  rw [HCC.out, HRD.out, hlo]
                  simp only [candC]
                  rw [if_neg (by simp)]
                subst hz3
                clear hlo hn0
                have HEN := Lib.hid (refEncode_any A2 _ c2 o3 wr HV3.sl (by omega))
                have HV3S := HV3.sl
                by_cases heq : enc64 o3 = s.data.toList
                · have hb : (enc64 o3 == s.toList) = true := by rw [Lib.toList_data, heq]; simp
                  have HR : Hid (refDec s.data.toList = some o3) := by show _ = _; rw [refDec, HQ.out, if_pos heq]
                  clear heq
                  go_wp2_with (go_at_call 12; refine HEN.out.mono ?_; rintro e w5 ⟨rfl, HO5⟩)
                  go_ret2
                  exact .inl ⟨o3, A2, _, c2, HR.out, rfl, HV3S.keep HO5, HO.then HO5⟩
                · have hb : (enc64 o3 == s.toList) = false := by rw [Lib.toList_data]; simpa using heq
                  have HR : Hid (refDec s.data.toList = none) := by show _ = _; rw [refDec, HQ.out, if_neg heq]
                  clear heq
                  go_wp2_with (go_at_call 12; refine HEN.out.mono ?_; rintro e w5 ⟨rfl, HO5⟩)
                  go_ret2
                  exact .inr ⟨HR.out, rfl, HO.then HO5⟩
            · have HQ : Hid (cand s.data.toList = o3) := by
                show _ = _
                rw [HCC.out, HRD.out]
                simp only [candC]
                rw [if_neg (fun h => hc h.1)]
              have hb61 : ((s[q].toNat : Int) == 61) = false := by
                rw [beq_eq_false_iff_ne]
                intro h
                exact hc (UInt8.toNat_inj.1 (by show _ = 61; omega))
              clear hc
              have HEN := Lib.hid (refEncode_any A2 _ c2 o3 wr HV3.sl (by omega))
              have HV3S := HV3.sl
              by_cases heq : enc64 o3 = s.data.toList
              · have hb : (enc64 o3 == s.toList) = true := by rw [Lib.toList_data, heq]; simp
                have HR : Hid (refDec s.data.toList = some o3) := by show _ = _; rw [refDec, HQ.out, if_pos heq]
                clear heq
                go_wp2_with (go_at_call 12; refine HEN.out.mono ?_; rintro e w5 ⟨rfl, HO5⟩)
                go_ret2
                exact .inl ⟨o3, A2, _, c2, HR.out, rfl, HV3S.keep HO5, HO.then HO5⟩
              · have hb : (enc64 o3 == s.toList) = false := by rw [Lib.toList_data]; simpa using heq
                have HR : Hid (refDec s.data.toList = none) := by show _ = _; rw [refDec, HQ.out, if_neg heq]
                clear heq
                go_wp2_with (go_at_call 12; refine HEN.out.mono ?_; rintro e w5 ⟨rfl, HO5⟩)
                go_ret2
                exact .inr ⟨HR.out, rfl, HO.then HO5⟩
          · have HQ : Hid (cand s.data.toList = o3) := by
              show _ = _
              rw [HCC.out, rev_none _ _ (.inl (by omega))]
              rfl
            have hge : decide ((s.size : Int) - 2 ≤ (q : Int)) = false := by have := HI.out; simp; omega
            have HEN := Lib.hid (refEncode_any A2 _ c2 o3 wr HV3.sl (by omega))
            have HV3S := HV3.sl
            by_cases heq : enc64 o3 = s.data.toList
            · have hb : (enc64 o3 == s.toList) = true := by rw [Lib.toList_data, heq]; simp
              have HR : Hid (refDec s.data.toList = some o3) := by show _ = _; rw [refDec, HQ.out, if_pos heq]
              clear heq
              go_wp2_with (go_at_call 12; refine HEN.out.mono ?_; rintro e w5 ⟨rfl, HO5⟩)
              go_ret2
              exact .inl ⟨o3, A2, _, c2, HR.out, rfl, HV3S.keep HO5, HO.then HO5⟩
            · have hb : (enc64 o3 == s.toList) = false := by rw [Lib.toList_data]; simpa using heq
              have HR : Hid (refDec s.data.toList = none) := by show _ = _; rw [refDec, HQ.out, if_neg heq]
              clear heq
              go_wp2_with (go_at_call 12; refine HEN.out.mono ?_; rintro e w5 ⟨rfl, HO5⟩)
              go_ret2
              exact .inr ⟨HR.out, rfl, HO.then HO5⟩
        · have HQ : Hid (cand s.data.toList = o3) := by
            show _ = _
            rw [HCC.out, rev_none _ _ (.inr (by rw [← HSZ.out]; have := HI.out; omega))]
            rfl
          have hge : decide (0 ≤ I) = false := by simp; omega
          have HEN := Lib.hid (refEncode_any A2 _ c2 o3 wr HV3.sl (by omega))
          have HV3S := HV3.sl
          by_cases heq : enc64 o3 = s.data.toList
          · have hb : (enc64 o3 == s.toList) = true := by rw [Lib.toList_data, heq]; simp
            have HR : Hid (refDec s.data.toList = some o3) := by show _ = _; rw [refDec, HQ.out, if_pos heq]
            clear heq
            go_wp2_with (go_at_call 12; refine HEN.out.mono ?_; rintro e w5 ⟨rfl, HO5⟩)
            go_ret2
            exact .inl ⟨o3, A2, _, c2, HR.out, rfl, HV3S.keep HO5, HO.then HO5⟩
          · have hb : (enc64 o3 == s.toList) = false := by rw [Lib.toList_data]; simpa using heq
            have HR : Hid (refDec s.data.toList = none) := by show _ = _; rw [refDec, HQ.out, if_neg heq]
            clear heq
            go_wp2_with (go_at_call 12; refine HEN.out.mono ?_; rintro e w5 ⟨rfl, HO5⟩)
            go_ret2
            exact .inr ⟨HR.out, rfl, HO.then HO5⟩
end Go.Proofs.Ytjfahkbhhpcnnaa
