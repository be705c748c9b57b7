/-
  base's Decode.
-/
import Derived.Test.YtjfahkbhhpcnnaaBBits
import Derived.Test.YtjfahkbhhpcnnaaBEnc
import Derived.Test.YtjfahkbhhpcnnaaGoto
import Derived.WalkKit
import Derived.Handy
import Derived.Deep.DeepMust
import Derived.WalkLawsBesides
import Derived.ScopeJumps
import Derived.WalkMore
import Derived.IntWalk
namespace Go.Proofs.Ytjfahkbhhpcnnaa
open Go.RowKit

theorem dec_step (l : List UInt8) (m : Nat) (h0 : 0 < l.length) (h1 : l.length % 4 ≠ 1) (hm : m = min l.length 4) : decG l = (group (l.take m)).bind fun x => (decG (l.drop m)).map (x ++ ·) := by
  match l, h0, h1, hm with
  | [_], _, h1, _ => simp at h1
  | [a, b], _, _, hm =>
    obtain rfl : m = 2 := by simpa using hm
    simp only [decG, List.take, List.drop]
    cases group [a, b] <;> simp
  | [a, b, c], _, _, hm =>
    obtain rfl : m = 3 := by simpa using hm
    simp only [decG, List.take, List.drop]
    cases group [a, b, c] <;> simp
  | a :: b :: c :: d :: r, _, _, hm =>
    obtain rfl : m = 4 := by simp only [List.length_cons] at hm; omega
    simp only [decG, List.take, List.drop]

theorem rest2_mod {l : List UInt8} (h : l.length % 4 = 0) : (rest2 l).length % 4 ≠ 1 := by
  have key : ∀ s : List UInt8, s.length = (trim1 s).length + 1 ∨ s.length = (trim1 s).length := fun s => by
    rcases trim1_cases s with h | h
    · left; conv => lhs; rw [h]
      simp
    · right; rw [h.1]
  have h1 := key l
  have h2 := key (trim1 l)
  unfold rest2
  omega

/-- The three bytes of 24 bits. -/
def three (N : Nat) : List UInt8 := [UInt8.ofNat (N / 65536 % 256), UInt8.ofNat (N / 256 % 256), UInt8.ofNat (N % 256)]
theorem three_at (N k d : Nat) (hk : k < 3) (hd : d = 2 ^ (16 - 8 * k)) : IntKind.u8.wrap ((N : Int) / (d : Int)) = (((three N).getD k 0).toNat : Int) := by
  rw [IntKind.wrap_u8']
  have hk3 : k = 0 ∨ k = 1 ∨ k = 2 := by omega
  rcases hk3 with rfl | rfl | rfl
  · subst hd
    show _ = ((UInt8.ofNat (N / 65536 % 256)).toNat : Int)
    rw [toNat_ofNat (by omega)]
    omega
  · subst hd
    show _ = ((UInt8.ofNat (N / 256 % 256)).toNat : Int)
    rw [toNat_ofNat (by omega)]
    omega
  · subst hd
    show _ = ((UInt8.ofNat (N % 256)).toNat : Int)
    rw [toNat_ofNat (by omega)]
    omega
theorem bitsG_lt {g : List UInt8} {n : Nat} (h : bitsG g = some n) (hl : 2 ≤ g.length ∧ g.length ≤ 4) : n < 16777216 := by
  have key : ∀ {c : UInt8} {k : Nat}, nx c = some k → k < 64 := fun hc => (nx_some hc).1
  match g, hl with
  | [a, b], _ =>
    rw [bits2] at h
    cases ha : nx a <;> cases hb : nx b <;> simp [ha, hb] at h
    have := key ha; have := key hb; omega
  | [a, b, c], _ =>
    rw [bits3] at h
    cases ha : nx a <;> cases hb : nx b <;> cases hc : nx c <;> simp [ha, hb, hc] at h
    have := key ha; have := key hb; have := key hc; omega
  | [a, b, c, d], _ =>
    rw [bits4] at h
    cases ha : nx a <;> cases hb : nx b <;> cases hc : nx c <;> cases hd : nx d <;> simp [ha, hb, hc, hd] at h
    have := key ha; have := key hb; have := key hc; have := key hd; omega
  | [], hl => simp at hl
  | [_], hl => simp at hl
  | _ :: _ :: _ :: _ :: _ :: _, hl => simp at hl

/-- What Decode answers. -/
def DecPost (w : World) (d : Option (List UInt8)) (e : Ending) (w' : World) : Prop :=
  (∃ b A n c, d = some b ∧ e = .returned (.tuple #[.slice A n c, .int .i64 0]) ∧ Own w' 5 A n c (bvs b) ∧ (∀ k ∈ blks A, w.heap.size ≤ k) ∧ Only [] w w') ∨
  (d = none ∧ e = .returned (.tuple #[.slice none 0 0, .int .i64 3]) ∧ Only [] w w')

def sizeS : Value → Nat | .string s => s.size | _ => 0
def DecJ (w : World) (s : ByteArray) (D : Option (List UInt8)) (a' : Act) (w' : World) : Prop :=
  ∃ (r : ByteArray) (A2 : Option Addr) (n2 c2 : Nat) (o : List UInt8), ∃ (u1 u2 u3 u6 u7 u8 u9 u10 u11 u12 u13 u14 u15 u16 u17 u18 u19 u20 u21 u22 u23 u24 u25 u26 u27 u28 u29 u30 u31 u32 u33 u34 u35 u36 u37 u38 u39 u40 u41 u42 u43 u44 u45 u46 u47 u48 u49 u50 u51 u52 u53 u54 u55 u56 u57 u58 u59 u60 u61 u62 u63 u64 u65 u66 : Value), a' = { tmps := #[.string s, u1, u2, u3, .string r, .slice A2 n2 c2, u6, u7, u8, u9, u10, u11, u12, u13, u14, u15, u16, u17, u18, u19, u20, u21, u22, u23, u24, u25, u26, u27, u28, u29, u30, u31, u32, u33, u34, u35, u36, u37, u38, u39, u40, u41, u42, u43, u44, u45, u46, u47, u48, u49, u50, u51, u52, u53, u54, u55, u56, u57, u58, u59, u60, u61, u62, u63, u64, u65, u66], defers := [] } ∧
    r.size % 4 ≠ 1 ∧ Own w' 5 A2 n2 c2 (bvs o) ∧ n2 + r.size ≤ 2000000 ∧ Hid (D = (decG r.data.toList).map (o ++ ·)) ∧ Only [] w w' ∧ ∀ k ∈ blks A2, w.heap.size ≤ k

theorem trim_any (s : ByteArray) (w : World) (hs : s.size ≤ 1048576) : Calls Try.prog 14 #[.string s, .string ⟨#[61]⟩] w fun e w' => ∃ t : ByteArray, e = .returned (.string t) ∧ Hid (t.data.toList = trim1 s.data.toList) ∧ t.size ≤ 1048576 ∧ w = w' := by
  refine (Try.strings_TrimSuffix s ⟨#[61]⟩ w (by omega)).mono fun e w' he => ⟨_, he.1, ?_, ?_, he.2.symm⟩
  · show _ = _
    simp [trim1]
  · have h := Lib.trimSuffix_le s.data.toList [61]
    rw [← Lib.size_eq] at h
    show (Lib.trimSuffix s.data.toList [61]).toArray.size ≤ _
    rw [List.size_toArray]
    omega

set_option maxRecDepth 100000 in
set_option maxHeartbeats 4000000 in
theorem Decode_any (s : ByteArray) (w : World) (hs : s.size ≤ 1048576) :
    Calls Try.prog 9 #[.string s] w (DecPost w (dec64 s.data.toList)) := by
  obtain ⟨i0, hi, hz0, hz1, hz2⟩ := info_parts infoByte
  have HSZ := Lib.hid (Lib.size_eq s)
  by_cases h4 : s.size % 4 = 0
  · obtain ⟨w1, hmk, HV1, HO1⟩ := run_make_sl (P := Try.prog) (w := w) 22 5 i0 (.int .u8 0) Try.underlying22 hi hz0 hz1 .i64 .i64 (s.size / 4 * 3) (by rw [hz2]; omega) (by unfold maxLen; omega)
    have e1 : ((s.size / 4 * 3 : Nat) : Int) = (s.size : Int) / 4 * 3 := by omega
    have hm4 : ((s.size : Int) % 4 != 0) = false := by simp; omega
    rw [e1] at hmk
    have HD : Hid (dec64 s.data.toList = decG (rest2 s.data.toList)) := by show _ = _; rw [dec64, if_pos (by rw [← Lib.size_eq]; exact h4)]
    have H4 := Lib.hid h4
    clear e1 h4
    go_enter Try.func9, Try.ntmps9
    go_wp2_with fail
    refine wp_scope_back 0 (DecJ w s (dec64 s.data.toList)) (fun a' _ => sizeS (a'.tmps.getD 4 undef)) rfl ?pass ?first
    case first =>
      intro pass
      go_wp2_with (first | (go_at_call 14; (with_reducible refine (trim_any s _ hs).mono ?_); rintro e w' ⟨t1, rfl, HT1, ht1, rfl⟩) | (go_at_call 14; (with_reducible refine (trim_any t1 _ ht1).mono ?_); rintro e w' ⟨t2, rfl, HT2, ht2, rfl⟩))
      rename_i hK
      refine wp_label (hK _ _ (pass _ _ ?_))
      have hr2 : t2.data.toList = rest2 s.data.toList := by rw [HT2.out, HT1.out]; rfl
      exact ⟨t2, some ⟨w.heap.size, 0, none⟩, 0, _, [], _, _, _, _, _, _, _, _, _, _, _, _, _, _, _, _, _, _, _, _, _, _, _, _, _, _, _, _, _, _, _, _, _, _, _, _, _, _, _, _, _, _, _, _, _, _, _, _, _, _, _, _, _, _, _, _, _, _, _, _, _, _, _, _, rfl, by rw [Lib.size_eq, hr2]; exact rest2_mod (by rw [← Lib.size_eq]; exact H4.out), HV1, by omega, by show _ = _; rw [HD.out, hr2]; simp, HO1, fun k hk => by simp at hk; omega⟩
    case pass =>
      clear hmk HV1 HO1 HSZ
      rintro a' w' ⟨r, A2, n2, c2, o, u1, u2, u3, u6, u7, u8, u9, u10, u11, u12, u13, u14, u15, u16, u17, u18, u19, u20, u21, u22, u23, u24, u25, u26, u27, u28, u29, u30, u31, u32, u33, u34, u35, u36, u37, u38, u39, u40, u41, u42, u43, u44, u45, u46, u47, u48, u49, u50, u51, u52, u53, u54, u55, u56, u57, u58, u59, u60, u61, u62, u63, u64, u65, u66, rfl, hr4, HV, hsz, HD2, HO, HB⟩
      have HL := Lib.hid (Lib.size_eq r)
      by_cases h0 : r.size = 0
      · have hl : r.data.toList = [] := List.eq_nil_of_length_eq_zero (by rw [← HL.out]; exact h0)
        have hE : r.toList.isEmpty = true := by rw [Lib.toList_data, hl]; rfl
        have HD3 : Hid (dec64 s.data.toList = some o) := by show _ = _; rw [HD2.out, hl]; simp [decG]
        clear HD2 hl h0
        go_wp2_with fail
        simp only [Exit.jump]
        go_ret2
        exact .inl ⟨o, A2, n2, c2, HD3.out, rfl, HV, HB, HO⟩
      · have hE : r.toList.isEmpty = false := by
          rw [Lib.toList_data]
          cases hl : r.data.toList with
          | nil => rw [HL.out, hl] at h0; simp at h0
          | cons _ _ => rfl
        have HG : Hid (∀ m, m = min r.size 4 → dec64 s.data.toList = ((group (r.data.toList.take m)).bind fun x => (decG (r.data.toList.drop m)).map (x ++ ·)).map (o ++ ·)) := fun m hm => by
          rw [HD2.out, dec_step r.data.toList m (by rw [← HL.out]; omega) (by rw [← HL.out]; exact hr4) (by rw [← HL.out]; exact hm)]
        clear HD2
        have hm3 : 4 ≤ r.size ∨ r.size = 3 ∨ r.size = 2 := by omega
        rcases hm3 with hm | hm | hm
        · have hmn : min (r.size : Int) 4 = 4 := by omega
          have hg4 : (r.extract 0 4).size ≤ 4 := by rw [Lib.size_eq, Lib.extract_data]; simp; omega
          have HGL : Hid ((r.extract 0 4).data.toList = r.data.toList.take 4) := by show _ = _; rw [Lib.extract_data]; simp
          have hmi : (4 : Int) ≤ (r.size : Int) := by omega
          have hmN : 4 ≤ r.size := by omega
          have HGm := Lib.hid (HG.out 4 (by omega))
          clear HG
          cases hb : bitsG (r.data.toList.take 4) with
          | none =>
            have HC : Hid (∀ W, Calls Try.prog 15 #[.string (r.extract 0 4)] W fun e w' => e = .returned (.tuple #[.int .i64 0, .bool false]) ∧ W = w') := fun W => by
              have := bitsOf_any (r.extract 0 4) W hg4
              rw [HGL.out, hb] at this
              exact this
            have HD3 : Hid (dec64 s.data.toList = none) := by show _ = _; rw [HGm.out, group_none hb]; rfl
            clear hb h0 hm
            go_wp2_with (go_at_call 15; refine (HC.out _).mono ?_; rintro e w' ⟨rfl, rfl⟩)
            simp only [Exit.jump]
            go_ret2
            exact .inr ⟨HD3.out, rfl, HO⟩
          | some N =>
            have HC : Hid (∀ W, Calls Try.prog 15 #[.string (r.extract 0 4)] W fun e w' => e = .returned (.tuple #[.int .i64 (N : Int), .bool true]) ∧ W = w') := fun W => by
              have := bitsOf_any (r.extract 0 4) W hg4
              rw [HGL.out, hb] at this
              exact this
            have hN : N < 16777216 := bitsG_lt hb (by simp; omega)
            have hand : bits .and .i64 (N : Int) 0 = ((N % 2 ^ 0 : Nat) : Int) := by
              have := i64_and_nat N (2 ^ 0 - 1) (by omega) (by omega)
              rw [Nat.and_two_pow_sub_one_eq_mod] at this
              exact this
            have HGI : Hid (group (r.data.toList.take 4) = if N % 2 ^ (8 * (4 - 4)) = 0 then some ((three N).take (4 - 1)) else none) := group_if hb (by rw [List.length_take, ← HL.out]; omega)
            clear hb h0 hm
            by_cases hz : N % 2 ^ 0 = 0
            · have HD3 : Hid (dec64 s.data.toList = (decG (r.extract 4 r.size).data.toList).map ((o ++ (three N).take (4 - 1)) ++ ·)) := by
                show _ = _
                have e : (r.extract 4 r.size).data.toList = r.data.toList.drop 4 := by rw [Lib.extract_data, List.take_of_length_le (by rw [List.length_drop, ← HL.out]; exact Nat.le_refl _)]
                rw [HGm.out, HGI.out, if_pos hz, e]
                simp only [Option.bind_some, Option.map_map]
                congr 1
                funext x
                simp
              rw [hz] at hand
              clear hz
              go_wp2_with (go_at_call 15; refine (HC.out _).mono ?_; rintro e w' ⟨rfl, rfl⟩)
              clear hand
              go_loopw [5, 51] (fun t i wr => ∃ (k : Nat) (A3 : Option Addr) (c3 : Nat), k ≤ 3 ∧ i = .int .i64 (k : Int) ∧ t = .slice A3 (n2 + k) c3 ∧ Own wr 5 A3 (n2 + k) c3 (bvs (o ++ (three N).take k)) ∧ Only [] w wr ∧ ∀ x ∈ blks A3, w.heap.size ≤ x) (fun _ i _ => 3 - (intOf i).toNat)
              case atStart => exact ⟨0, A2, c2, Nat.zero_le _, rfl, rfl, by rw [List.take_zero, List.append_nil]; exact HV, HO, HB⟩
              case round =>
                obtain ⟨k, A3, c3, hk, rfl, rfl, HV3, HO3, HB3⟩ := hrel
                by_cases hlt : k < 3
                · have hk3 : k = 0 ∨ k = 1 ∨ k = 2 := by omega
                  rcases hk3 with rfl | rfl | rfl
                  · have HX : Hid ((N : Int) / 65536 = (((three N).getD 0 0).toNat : Int)) := by show _ = _; rw [← three_at N 0 65536 (by decide) (by decide), IntKind.wrap_u8']; omega
                    have HT : Hid ((three N).take (0 + 1) = (three N).take 0 ++ [(three N).getD 0 0]) := rfl
                    go_wp2_with (at_builtin; go_must (refine wpList_append_sl rfl (.tmp 54) (.tmp 61) 22 rfl 5 i0 (.int .u8 0) 1 Try.underlying22 hi hz0 hz1 hz2 rfl A3 (n2 + 0) c3 _ rfl (HV3.alloc _) _ 1 1 _ rfl (sl_one _ _ _ ((three N).getD 0 0) HX.out) (bvs_one _) (by unfold maxLen; omega) (by omega) ?_); intro A5 c5 w5 HV5 HO5 HB5)
                    go_roundw
                    case rel =>
                      refine ⟨0 + 1, A5, c5, by omega, rfl, rfl, ?_, (HO3.alloc _).trans HO5 (fun x hx => .inr (HB3 x hx)), fun x hx => ?_⟩
                      · rw [HT.out, ← List.append_assoc, bvs_append]; exact HV5
                      · rcases HB5 x hx with h | h
                        · exact HB3 x h
                        · have := HO3.size; simp at h; omega
                    case measure => simp [intOf]
                  · have HX : Hid ((N : Int) / 256 % 256 = (((three N).getD 1 0).toNat : Int)) := by show _ = _; rw [← three_at N 1 256 (by decide) (by decide), IntKind.wrap_u8']; omega
                    have HT : Hid ((three N).take (1 + 1) = (three N).take 1 ++ [(three N).getD 1 0]) := rfl
                    go_wp2_with (at_builtin; go_must (refine wpList_append_sl rfl (.tmp 54) (.tmp 61) 22 rfl 5 i0 (.int .u8 0) 1 Try.underlying22 hi hz0 hz1 hz2 rfl A3 (n2 + 1) c3 _ rfl (HV3.alloc _) _ 1 1 _ rfl (sl_one _ _ _ ((three N).getD 1 0) HX.out) (bvs_one _) (by unfold maxLen; omega) (by omega) ?_); intro A5 c5 w5 HV5 HO5 HB5)
                    go_roundw
                    case rel =>
                      refine ⟨1 + 1, A5, c5, by omega, rfl, rfl, ?_, (HO3.alloc _).trans HO5 (fun x hx => .inr (HB3 x hx)), fun x hx => ?_⟩
                      · rw [HT.out, ← List.append_assoc, bvs_append]; exact HV5
                      · rcases HB5 x hx with h | h
                        · exact HB3 x h
                        · have := HO3.size; simp at h; omega
                    case measure => simp [intOf]
                  · have HX : Hid ((N : Int) % 256 = (((three N).getD 2 0).toNat : Int)) := by show _ = _; rw [← three_at N 2 1 (by decide) (by decide), IntKind.wrap_u8']; omega
                    have HT : Hid ((three N).take (2 + 1) = (three N).take 2 ++ [(three N).getD 2 0]) := rfl
                    go_wp2_with (at_builtin; go_must (refine wpList_append_sl rfl (.tmp 54) (.tmp 61) 22 rfl 5 i0 (.int .u8 0) 1 Try.underlying22 hi hz0 hz1 hz2 rfl A3 (n2 + 2) c3 _ rfl (HV3.alloc _) _ 1 1 _ rfl (sl_one _ _ _ ((three N).getD 2 0) HX.out) (bvs_one _) (by unfold maxLen; omega) (by omega) ?_); intro A5 c5 w5 HV5 HO5 HB5)
                    go_roundw
                    case rel =>
                      refine ⟨2 + 1, A5, c5, by omega, rfl, rfl, ?_, (HO3.alloc _).trans HO5 (fun x hx => .inr (HB3 x hx)), fun x hx => ?_⟩
                      · rw [HT.out, ← List.append_assoc, bvs_append]; exact HV5
                      · rcases HB5 x hx with h | h
                        · exact HB3 x h
                        · have := HO3.size; simp at h; omega
                    case measure => simp [intOf]
                · obtain rfl : k = 3 := by omega
                  go_wp2_with fail
                  go_step3
                  have hez : (r.extract 4 r.size).size = r.size - 4 := by rw [Lib.size_eq, Lib.extract_data, List.length_take, List.length_drop, ← HL.out]; omega
                  refine (And.intro rfl (And.intro (show DecJ _ _ _ _ _ from ⟨r.extract 4 r.size, A3, n2 + 3, c3, o ++ (three N).take 3, _, _, _, _, _, _, _, _, _, _, _, _, _, _, _, _, _, _, _, _, _, _, _, _, _, _, _, _, _, _, _, _, _, _, _, _, _, _, _, _, _, _, _, _, _, _, _, _, _, _, _, _, _, _, _, _, _, _, _, _, _, _, _, _, rfl, by rw [hez]; omega, HV3, by rw [hez]; omega, HD3, HO3, HB3⟩) ?_))
                  simp [sizeS, hez]
                  omega
            · exact absurd (Nat.mod_one N) hz
        · have hmn : min (r.size : Int) 4 = 3 := by omega
          have hg4 : (r.extract 0 3).size ≤ 4 := by rw [Lib.size_eq, Lib.extract_data]; simp; omega
          have HGL : Hid ((r.extract 0 3).data.toList = r.data.toList.take 3) := by show _ = _; rw [Lib.extract_data]; simp
          have hmi : (3 : Int) ≤ (r.size : Int) := by omega
          have hmN : 3 ≤ r.size := by omega
          have HGm := Lib.hid (HG.out 3 (by omega))
          clear HG
          cases hb : bitsG (r.data.toList.take 3) with
          | none =>
            have HC : Hid (∀ W, Calls Try.prog 15 #[.string (r.extract 0 3)] W fun e w' => e = .returned (.tuple #[.int .i64 0, .bool false]) ∧ W = w') := fun W => by
              have := bitsOf_any (r.extract 0 3) W hg4
              rw [HGL.out, hb] at this
              exact this
            have HD3 : Hid (dec64 s.data.toList = none) := by show _ = _; rw [HGm.out, group_none hb]; rfl
            clear hb h0 hm
            go_wp2_with (go_at_call 15; refine (HC.out _).mono ?_; rintro e w' ⟨rfl, rfl⟩)
            simp only [Exit.jump]
            go_ret2
            exact .inr ⟨HD3.out, rfl, HO⟩
          | some N =>
            have HC : Hid (∀ W, Calls Try.prog 15 #[.string (r.extract 0 3)] W fun e w' => e = .returned (.tuple #[.int .i64 (N : Int), .bool true]) ∧ W = w') := fun W => by
              have := bitsOf_any (r.extract 0 3) W hg4
              rw [HGL.out, hb] at this
              exact this
            have hN : N < 16777216 := bitsG_lt hb (by simp; omega)
            have hand : bits .and .i64 (N : Int) 255 = ((N % 2 ^ 8 : Nat) : Int) := by
              have := i64_and_nat N (2 ^ 8 - 1) (by omega) (by omega)
              rw [Nat.and_two_pow_sub_one_eq_mod] at this
              exact this
            have HGI : Hid (group (r.data.toList.take 3) = if N % 2 ^ (8 * (4 - 3)) = 0 then some ((three N).take (3 - 1)) else none) := group_if hb (by rw [List.length_take, ← HL.out]; omega)
            clear hb h0 hm
            by_cases hz : N % 2 ^ 8 = 0
            · have HD3 : Hid (dec64 s.data.toList = (decG (r.extract 3 r.size).data.toList).map ((o ++ (three N).take (3 - 1)) ++ ·)) := by
                show _ = _
                have e : (r.extract 3 r.size).data.toList = r.data.toList.drop 3 := by rw [Lib.extract_data, List.take_of_length_le (by rw [List.length_drop, ← HL.out]; exact Nat.le_refl _)]
                rw [HGm.out, HGI.out, if_pos hz, e]
                simp only [Option.bind_some, Option.map_map]
                congr 1
                funext x
                simp
              rw [hz] at hand
              clear hz
              go_wp2_with (go_at_call 15; refine (HC.out _).mono ?_; rintro e w' ⟨rfl, rfl⟩)
              clear hand
              go_loopw [5, 51] (fun t i wr => ∃ (k : Nat) (A3 : Option Addr) (c3 : Nat), k ≤ 2 ∧ i = .int .i64 (k : Int) ∧ t = .slice A3 (n2 + k) c3 ∧ Own wr 5 A3 (n2 + k) c3 (bvs (o ++ (three N).take k)) ∧ Only [] w wr ∧ ∀ x ∈ blks A3, w.heap.size ≤ x) (fun _ i _ => 2 - (intOf i).toNat)
              case atStart => exact ⟨0, A2, c2, Nat.zero_le _, rfl, rfl, by rw [List.take_zero, List.append_nil]; exact HV, HO, HB⟩
              case round =>
                obtain ⟨k, A3, c3, hk, rfl, rfl, HV3, HO3, HB3⟩ := hrel
                by_cases hlt : k < 2
                · have hk3 : k = 0 ∨ k = 1 := by omega
                  rcases hk3 with rfl | rfl
                  · have HX : Hid ((N : Int) / 65536 = (((three N).getD 0 0).toNat : Int)) := by show _ = _; rw [← three_at N 0 65536 (by decide) (by decide), IntKind.wrap_u8']; omega
                    have HT : Hid ((three N).take (0 + 1) = (three N).take 0 ++ [(three N).getD 0 0]) := rfl
                    go_wp2_with (at_builtin; go_must (refine wpList_append_sl rfl (.tmp 54) (.tmp 61) 22 rfl 5 i0 (.int .u8 0) 1 Try.underlying22 hi hz0 hz1 hz2 rfl A3 (n2 + 0) c3 _ rfl (HV3.alloc _) _ 1 1 _ rfl (sl_one _ _ _ ((three N).getD 0 0) HX.out) (bvs_one _) (by unfold maxLen; omega) (by omega) ?_); intro A5 c5 w5 HV5 HO5 HB5)
                    go_roundw
                    case rel =>
                      refine ⟨0 + 1, A5, c5, by omega, rfl, rfl, ?_, (HO3.alloc _).trans HO5 (fun x hx => .inr (HB3 x hx)), fun x hx => ?_⟩
                      · rw [HT.out, ← List.append_assoc, bvs_append]; exact HV5
                      · rcases HB5 x hx with h | h
                        · exact HB3 x h
                        · have := HO3.size; simp at h; omega
                    case measure => simp [intOf]
                  · have HX : Hid ((N : Int) / 256 % 256 = (((three N).getD 1 0).toNat : Int)) := by show _ = _; rw [← three_at N 1 256 (by decide) (by decide), IntKind.wrap_u8']; omega
                    have HT : Hid ((three N).take (1 + 1) = (three N).take 1 ++ [(three N).getD 1 0]) := rfl
                    go_wp2_with (at_builtin; go_must (refine wpList_append_sl rfl (.tmp 54) (.tmp 61) 22 rfl 5 i0 (.int .u8 0) 1 Try.underlying22 hi hz0 hz1 hz2 rfl A3 (n2 + 1) c3 _ rfl (HV3.alloc _) _ 1 1 _ rfl (sl_one _ _ _ ((three N).getD 1 0) HX.out) (bvs_one _) (by unfold maxLen; omega) (by omega) ?_); intro A5 c5 w5 HV5 HO5 HB5)
                    go_roundw
                    case rel =>
                      refine ⟨1 + 1, A5, c5, by omega, rfl, rfl, ?_, (HO3.alloc _).trans HO5 (fun x hx => .inr (HB3 x hx)), fun x hx => ?_⟩
                      · rw [HT.out, ← List.append_assoc, bvs_append]; exact HV5
                      · rcases HB5 x hx with h | h
                        · exact HB3 x h
                        · have := HO3.size; simp at h; omega
                    case measure => simp [intOf]
                · obtain rfl : k = 2 := by omega
                  go_wp2_with fail
                  go_step3
                  have hez : (r.extract 3 r.size).size = r.size - 3 := by rw [Lib.size_eq, Lib.extract_data, List.length_take, List.length_drop, ← HL.out]; omega
                  refine (And.intro rfl (And.intro (show DecJ _ _ _ _ _ from ⟨r.extract 3 r.size, A3, n2 + 2, c3, o ++ (three N).take 2, _, _, _, _, _, _, _, _, _, _, _, _, _, _, _, _, _, _, _, _, _, _, _, _, _, _, _, _, _, _, _, _, _, _, _, _, _, _, _, _, _, _, _, _, _, _, _, _, _, _, _, _, _, _, _, _, _, _, _, _, _, _, _, _, rfl, by rw [hez]; omega, HV3, by rw [hez]; omega, HD3, HO3, HB3⟩) ?_))
                  simp [sizeS, hez]
                  omega
            · have hne : (((N % 2 ^ 8 : Nat) : Int) != 0) = true := by simp; omega
              have HD3 : Hid (dec64 s.data.toList = none) := by show _ = _; rw [HGm.out, HGI.out, if_neg hz]; rfl
              go_wp2_with (go_at_call 15; refine (HC.out _).mono ?_; rintro e w' ⟨rfl, rfl⟩)
              simp only [Exit.jump]
              go_ret2
              exact .inr ⟨HD3.out, rfl, HO⟩
        · have hmn : min (r.size : Int) 4 = 2 := by omega
          have hg4 : (r.extract 0 2).size ≤ 4 := by rw [Lib.size_eq, Lib.extract_data]; simp; omega
          have HGL : Hid ((r.extract 0 2).data.toList = r.data.toList.take 2) := by show _ = _; rw [Lib.extract_data]; simp
          have hmi : (2 : Int) ≤ (r.size : Int) := by omega
          have hmN : 2 ≤ r.size := by omega
          have HGm := Lib.hid (HG.out 2 (by omega))
          clear HG
          cases hb : bitsG (r.data.toList.take 2) with
          | none =>
            have HC : Hid (∀ W, Calls Try.prog 15 #[.string (r.extract 0 2)] W fun e w' => e = .returned (.tuple #[.int .i64 0, .bool false]) ∧ W = w') := fun W => by
              have := bitsOf_any (r.extract 0 2) W hg4
              rw [HGL.out, hb] at this
              exact this
            have HD3 : Hid (dec64 s.data.toList = none) := by show _ = _; rw [HGm.out, group_none hb]; rfl
            clear hb h0 hm
            go_wp2_with (go_at_call 15; refine (HC.out _).mono ?_; rintro e w' ⟨rfl, rfl⟩)
            simp only [Exit.jump]
            go_ret2
            exact .inr ⟨HD3.out, rfl, HO⟩
          | some N =>
            have HC : Hid (∀ W, Calls Try.prog 15 #[.string (r.extract 0 2)] W fun e w' => e = .returned (.tuple #[.int .i64 (N : Int), .bool true]) ∧ W = w') := fun W => by
              have := bitsOf_any (r.extract 0 2) W hg4
              rw [HGL.out, hb] at this
              exact this
            have hN : N < 16777216 := bitsG_lt hb (by simp; omega)
            have hand : bits .and .i64 (N : Int) 65535 = ((N % 2 ^ 16 : Nat) : Int) := by
              have := i64_and_nat N (2 ^ 16 - 1) (by omega) (by omega)
              rw [Nat.and_two_pow_sub_one_eq_mod] at this
              exact this
            have HGI : Hid (group (r.data.toList.take 2) = if N % 2 ^ (8 * (4 - 2)) = 0 then some ((three N).take (2 - 1)) else none) := group_if hb (by rw [List.length_take, ← HL.out]; omega)
            clear hb h0 hm
            by_cases hz : N % 2 ^ 16 = 0
            · have HD3 : Hid (dec64 s.data.toList = (decG (r.extract 2 r.size).data.toList).map ((o ++ (three N).take (2 - 1)) ++ ·)) := by
                show _ = _
                have e : (r.extract 2 r.size).data.toList = r.data.toList.drop 2 := by rw [Lib.extract_data, List.take_of_length_le (by rw [List.length_drop, ← HL.out]; exact Nat.le_refl _)]
                rw [HGm.out, HGI.out, if_pos hz, e]
                simp only [Option.bind_some, Option.map_map]
                congr 1
                funext x
                simp
              rw [hz] at hand
              clear hz
              go_wp2_with (go_at_call 15; refine (HC.out _).mono ?_; rintro e w' ⟨rfl, rfl⟩)
              clear hand
              go_loopw [5, 51] (fun t i wr => ∃ (k : Nat) (A3 : Option Addr) (c3 : Nat), k ≤ 1 ∧ i = .int .i64 (k : Int) ∧ t = .slice A3 (n2 + k) c3 ∧ Own wr 5 A3 (n2 + k) c3 (bvs (o ++ (three N).take k)) ∧ Only [] w wr ∧ ∀ x ∈ blks A3, w.heap.size ≤ x) (fun _ i _ => 1 - (intOf i).toNat)
              case atStart => exact ⟨0, A2, c2, Nat.zero_le _, rfl, rfl, by rw [List.take_zero, List.append_nil]; exact HV, HO, HB⟩
              case round =>
                obtain ⟨k, A3, c3, hk, rfl, rfl, HV3, HO3, HB3⟩ := hrel
                by_cases hlt : k < 1
                · have hk3 : k = 0 := by omega
                  rcases hk3 with rfl
                  · have HX : Hid ((N : Int) / 65536 = (((three N).getD 0 0).toNat : Int)) := by show _ = _; rw [← three_at N 0 65536 (by decide) (by decide), IntKind.wrap_u8']; omega
                    have HT : Hid ((three N).take (0 + 1) = (three N).take 0 ++ [(three N).getD 0 0]) := rfl
                    go_wp2_with (at_builtin; go_must (refine wpList_append_sl rfl (.tmp 54) (.tmp 61) 22 rfl 5 i0 (.int .u8 0) 1 Try.underlying22 hi hz0 hz1 hz2 rfl A3 (n2 + 0) c3 _ rfl (HV3.alloc _) _ 1 1 _ rfl (sl_one _ _ _ ((three N).getD 0 0) HX.out) (bvs_one _) (by unfold maxLen; omega) (by omega) ?_); intro A5 c5 w5 HV5 HO5 HB5)
                    go_roundw
                    case rel =>
                      refine ⟨0 + 1, A5, c5, by omega, rfl, rfl, ?_, (HO3.alloc _).trans HO5 (fun x hx => .inr (HB3 x hx)), fun x hx => ?_⟩
                      · rw [HT.out, ← List.append_assoc, bvs_append]; exact HV5
                      · rcases HB5 x hx with h | h
                        · exact HB3 x h
                        · have := HO3.size; simp at h; omega
                    case measure => simp [intOf]
                · obtain rfl : k = 1 := by omega
                  go_wp2_with fail
                  go_step3
                  have hez : (r.extract 2 r.size).size = r.size - 2 := by rw [Lib.size_eq, Lib.extract_data, List.length_take, List.length_drop, ← HL.out]; omega
                  refine (And.intro rfl (And.intro (show DecJ _ _ _ _ _ from ⟨r.extract 2 r.size, A3, n2 + 1, c3, o ++ (three N).take 1, _, _, _, _, _, _, _, _, _, _, _, _, _, _, _, _, _, _, _, _, _, _, _, _, _, _, _, _, _, _, _, _, _, _, _, _, _, _, _, _, _, _, _, _, _, _, _, _, _, _, _, _, _, _, _, _, _, _, _, _, _, _, _, _, rfl, by rw [hez]; omega, HV3, by rw [hez]; omega, HD3, HO3, HB3⟩) ?_))
                  simp [sizeS, hez]
                  omega
            · have hne : (((N % 2 ^ 16 : Nat) : Int) != 0) = true := by simp; omega
              have HD3 : Hid (dec64 s.data.toList = none) := by show _ = _; rw [HGm.out, HGI.out, if_neg hz]; rfl
              go_wp2_with (go_at_call 15; refine (HC.out _).mono ?_; rintro e w' ⟨rfl, rfl⟩)
              simp only [Exit.jump]
              go_ret2
              exact .inr ⟨HD3.out, rfl, HO⟩
  · have hm4 : ((s.size : Int) % 4 != 0) = true := by simp; omega
    have HD : Hid (dec64 s.data.toList = none) := dec_length (by rw [← HSZ.out]; exact h4)
    clear h4
    go_enter Try.func9, Try.ntmps9
    go_wp2_with fail
    refine wp_scope_straight ?_
    go_wp2_with fail
    rw [Exit.noGoto_ret]
    go_ret2
    exact .inr ⟨HD.out, rfl, Only.refl _ _⟩
end Go.Proofs.Ytjfahkbhhpcnnaa
