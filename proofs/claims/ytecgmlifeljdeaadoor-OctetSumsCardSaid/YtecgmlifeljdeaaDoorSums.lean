/-
  The walk of the law OctetSums.
-/
import Derived.Test.YtecgmlifeljdeaaDoorHelp2
import Derived.Test.YtecgmlifeljdeaaDoorRefSum
namespace Go.Proofs.YtecgmlifeljdeaaDoor
open Go.RowKit

theorem bvs_set (l : List UInt8) (i : Nat) (b : UInt8) : (bvs l).set i (bv b) = bvs (l.set i b) := by simp [bvs, List.map_set]
theorem set_split (l : List UInt8) (i : Nat) (h : i < l.length) (b : UInt8) : l.set i b = l.take i ++ b :: l.drop (i + 1) := by
  rw [List.set_eq_take_append_cons_drop, if_pos h]
theorem get_split (l : List UInt8) (i : Nat) (h : i < l.length) : l = l.take i ++ l[i] :: l.drop (i + 1) := by
  rw [← List.drop_eq_getElem_cons h, List.take_append_drop]
theorem xor_byte (a x : UInt8) (h : x.toNat ≠ 0) : UInt8.ofNat (a.toNat ^^^ x.toNat) ≠ a ∧ (UInt8.ofNat (a.toNat ^^^ x.toNat)).toNat = a.toNat ^^^ x.toNat := by
  have ha := a.toNat_lt
  have hx := x.toNat_lt
  have hlt : a.toNat ^^^ x.toNat < 256 := Nat.xor_lt_two_pow (n := 8) (by omega) (by omega)
  have ht : (UInt8.ofNat (a.toNat ^^^ x.toNat)).toNat = a.toNat ^^^ x.toNat := by rw [UInt8.toNat_ofNat']; omega
  refine ⟨fun e => ?_, ht⟩
  rw [e] at ht
  have h0 : x.toNat = 0 := by
    have := congrArg (a.toNat ^^^ ·) ht
    simp only [← Nat.xor_assoc, Nat.xor_self, Nat.zero_xor] at this
    exact this.symm
  exact h h0

set_option maxRecDepth 100000 in
set_option maxHeartbeats 4000000 in
theorem sums_light (A : Option Addr) (n c : Nat) (ls : List (List UInt8)) (at_ : Int) (x : UInt8) (w : World) (ht : Tab w) (hr : Rw w A n ls) (wl : weight ls ≤ 4000) (b0 : -9223372036854775808 ≤ at_) (b1 : at_ ≤ 9223372036854775807) :
    Calls Tryd.prog 6 #[.slice A n c, .int .i64 at_, bv x] w fun e w' => e = .returned (.bool true) ∧ Only [] w w' := by
  obtain ⟨i0, hi, hz0, hz1, hz2⟩ := info_parts infoByte
  have b0' := b0
  have b1' := b1
  have hl : ls.length = n := hr.len
  have fl : ls.flatten.length ≤ 4000 := by unfold weight at wl; omega
  have nl : n ≤ 4000 := by unfold weight at wl; omega
  have HH := Lib.hid (heavy_any A n c ls w hr (by omega) (fun l hl => by obtain ⟨a, b, rfl⟩ := List.append_of_mem hl; simp only [List.flatten_append, List.flatten_cons, List.length_append] at fl; omega))
  rw [show decide (4000 < weight ls) = false from by rw [decide_eq_false_iff_not]; omega] at HH
  obtain ⟨p, hp⟩ : ∃ p, p = ls.flatten := ⟨_, rfl⟩
  have HLl : Hid (ls.length = n) := hl
  have HCa : Hid (∀ k, n ≤ k → cat ls k = p) := fun k hk => by rw [cat_all ls (by omega), hp]
  have HCl : Hid (∀ k, n ≤ k → catLen ls k = p.length) := fun k hk => by rw [catLen_all ls (by omega), hp]
  have HCb : Hid (∀ k, catLen ls k ≤ 4000) := fun k => by have := catLen_le ls k; omega
  rw [← hp] at fl
  have HJ := Lib.hid (fun (W : World) (o : Only [] w W) => join_rows A n c ls p W hp.symm (hr.keep o) (by omega) (by omega))
  have HS := Lib.hid (fun (W : World) (o : Only [] w W) => sum_rows A n c ls p W hp.symm (hr.keep o) (ht.keep o) (by omega) (by omega))
  clear hl hp wl
  unfold bv
  go_enter Tryd.func6, Tryd.ntmps6
  go_wp2_with fail
  refine HH.out.mono ?_
  rintro e w' ⟨rfl, rfl⟩
  go_wp2_with fail
  refine (HJ.out w (Only.refl _ _)).mono ?_
  rintro e w1 ⟨X1, d1, rfl, V1, O1, _⟩
  go_wp2_with fail
  go_loopw [8, 9] (fun v i wr => ∃ (k : Nat) (A' : Option Addr) (c' : Nat), k ≤ n ∧ i = .int .i64 k ∧ v = .slice A' (catLen ls k) c' ∧ Own wr 5 A' (catLen ls k) c' (bvs (cat ls k)) ∧ Only [] w1 wr ∧ (∀ y ∈ blks A', w1.heap.size ≤ y)) (fun _ i _ => n - (intOf i).toNat)
  case atStart => exact ⟨0, none, 0, Nat.zero_le _, rfl, rfl, Own.nil _ _, Only.refl _ _, fun y hy => (by cases hy)⟩
  case round =>
    obtain ⟨k, A', c', hk, rfl, rfl, HV, HO, HB⟩ := hrel
    have hle := HCb.out k
    by_cases hlt : k < n
    · have hkl : k < ls.length := by rw [HLl.out]; exact hlt
      obtain ⟨ad, Ai, ci, rfl, hcell, hrow⟩ := (hr.keep (O1.then HO)).at_ hlt hkl
      have hle2 := HCb.out (k + 1)
      have HT := Lib.hid (catLen_succ ls k hkl)
      have HC := Lib.hid (cat_succ ls k hkl)
      have hb : catLen ls k + (ls[k]'hkl).length ≤ 4000 := by rw [← HT.out]; omega
      clear hle hle2
      go_wp2_with (at_builtin; go_must (refine wpList_append_sl rfl (.tmp 21) (.tmp 25) 23 rfl 5 i0 (.int .u8 0) 1 Tryd.underlying23 hi hz0 hz1 hz2 rfl A' _ c' _ rfl HV Ai _ ci _ rfl hrow (bvs_one _) (by unfold maxLen; omega) (by omega) ?_); intro A2 c2 w2 HV2 HO2 HB2)
      go_roundw
      case rel =>
        refine ⟨k + 1, A2, c2, by omega, by go_num, by rw [HT.out], ?_, HO.trans HO2 (fun y hy => .inr (HB y hy)), fun y hy => ?_⟩
        · rw [HT.out, HC.out, bvs_append]; exact HV2
        · rcases HB2 y hy with h | h
          · exact HB y h
          · have := HO.size; omega
      case measure => simp [intOf]; omega
    · rw [HCl.out k (by omega), HCa.out k (by omega)] at HV
      rw [HCl.out k (by omega)]
      have hkn : k = n := by omega
      subst hkn
      clear hle HCa HCl HCb HLl hlt hk
      go_wp2_with fail
      refine (HS.out wr (O1.then HO)).mono ?_
      rintro e w' ⟨rfl, rfl⟩
      go_wp2_with fail
      refine (same_eq X1 A' _ d1 _ c' p p wr rfl (V1.sl.keep HO) HV.sl (by omega)).mono ?_
      rintro e w2 ⟨rfl, O2⟩
      have Q2 : Only [] w w2 := (O1.then HO).then O2
      have V2 := HV.keep O2
      have B2 : ∀ y ∈ blks A', w.heap.size ≤ y := fun y hy => Nat.le_trans O1.size (HB y hy)
      clear V1 O1 HO HB HV O2 HJ HS HH
      go_wp2_with fail
      refine (refSum_any A' _ c' p w2 V2.sl (by omega)).mono ?_
      rintro e w' ⟨rfl, rfl⟩
      go_wp2_with fail
      refine (sum_one w2 A' c' _ p rfl V2.sl (ht.keep Q2) (by omega)).mono ?_
      rintro e w3 ⟨rfl, rfl⟩
      have V3 := V2.alloc (.cells #[.slice A' p.length c'] 23)
      have Q3 := Q2.alloc (.cells #[.slice A' p.length c'] 23)
      clear V2 Q2
      generalize w2.alloc (.cells #[.slice A' p.length c'] 23) = w3 at *
      by_cases hpos : 0 < p.length
      · by_cases hx : x.toNat = 0
        · have hx0 : ((x.toNat : Int) != 0) = false := by rw [hx]; rfl
          clear hx
          go_wp2_with fail
          refine (known_any w3 (ht.keep Q3)).mono ?_
          rintro e w4 ⟨rfl, O4⟩
          go_wp2
          go_ret
          exact ⟨rfl, Q3.then O4⟩
        · have hx0 : ((x.toNat : Int) != 0) = true := by rw [bne_iff_ne]; omega
          obtain ⟨q, hq⟩ : ∃ q : Nat, at_ % 1073741824 = (q : Int) := ⟨(at_ % 1073741824).toNat, by omega⟩
          have e30 := low30 at_
          rw [hq] at e30
          have hq30 : q < 1073741824 := by omega
          obtain ⟨i, hii⟩ : ∃ i, i = q % p.length := ⟨_, rfl⟩
          have hil : i < p.length := by rw [hii]; exact Nat.mod_lt _ hpos
          obtain ⟨ad, u, hA, hu, hcell⟩ := V3.sl.at_ hil
          subst hA
          obtain ⟨g, rfl⟩ := V3.addr rfl
          rw [bvs_get _ _ hil] at hu
          obtain rfl : bv _ = u := by injection hu
          rw [add_none, Nat.zero_add] at hcell
          have hfree := V3.free i
          obtain ⟨hne, hto⟩ := xor_byte (p[i]'hil) x hx
          obtain ⟨b', hb'⟩ : ∃ b', b' = UInt8.ofNat ((p[i]'hil).toNat ^^^ x.toNat) := ⟨_, rfl⟩
          rw [← hb'] at hne hto
          have hxor := u8_xor_nat (p[i]'hil).toNat x.toNat (byte_lt _) (byte_lt _)
          rw [← hto] at hxor
          have VS := V3.stored i (bv b')
          rw [bvs_set] at VS
          have hsum : sumOf (p.set i b') ≠ sumOf p := by
            have h := sum_ne (p.take i) (p.drop (i + 1)) b' (p[i]'hil) hne
            rw [← set_split p i hil b', ← get_split p i hil] at h
            exact h
          have hsl : (p.set i b').length = p.length := List.length_set
          generalize p.set i b' = p2 at *
          have hsb : ((sumOf p2 : Int) == (sumOf p : Int)) = false := by rw [beq_eq_false_iff_ne]; omega
          have VQ := Lib.hid VS
          have hgz : w.heap.size ≤ g := B2 g (by simp)
          have QS : Only [] w (w3.setCell ⟨g, i, none⟩ (bv b')) := Q3.setCell (.inr hgz) _
          have TS := ht.keep QS
          unfold bv at hcell VQ QS TS
          have hidx : ((q : Int) % (p.length : Int)) = (i : Int) := by rw [hii]; omega
          have hi0 : (0 : Int) ≤ (i : Int) := by omega
          have hi1 : (i : Int) < (p.length : Int) := by omega
          have HSl := Lib.hid hsl
          clear hu hb' hne hto hx hq hii VS hsum V3 hsl
          go_wp2_with fail
          have hz : (w3.setCell ⟨g, i, none⟩ (.int .u8 (b'.toNat : Int))).heap.size = w3.heap.size := by simp [World.setCell]
          rw [← hz]
          have VQ' := VQ.out
          clear hcell hfree hxor VQ
          generalize w3.setCell ⟨g, i, none⟩ (.int .u8 (b'.toNat : Int)) = w4 at *
          refine (sum_one w4 (some ⟨g, 0, none⟩) c' _ p2 HSl.out VQ'.sl TS (by omega)).mono ?_
          rintro e w5 ⟨rfl, rfl⟩
          have Q5 := QS.alloc (.cells #[.slice (some ⟨g, 0, none⟩) p.length c'] 23)
          have T5 := ht.keep Q5
          clear VQ' QS TS hz
          generalize w4.alloc (.cells #[.slice (some ⟨g, 0, none⟩) p.length c'] 23) = w5 at *
          go_wp2_with fail
          refine (known_any w5 T5).mono ?_
          rintro e w6 ⟨rfl, O6⟩
          go_wp2
          go_ret
          exact ⟨rfl, Q5.then O6⟩
      · have hz : p.length = 0 := by omega
        go_wp2_with fail
        refine (known_any w3 (ht.keep Q3)).mono ?_
        rintro e w4 ⟨rfl, O4⟩
        go_wp2
        go_ret
        exact ⟨rfl, Q3.then O4⟩

theorem sums_any (A : Option Addr) (n c : Nat) (ls : List (List UInt8)) (at_ : Int) (x : UInt8) (w : World) (ht : Tab w) (hr : Rw w A n ls) (hn : n ≤ 9223372036854775807) (hrow : ∀ l ∈ ls, l.length ≤ 9223372036854775807)
    (b0 : -9223372036854775808 ≤ at_) (b1 : at_ ≤ 9223372036854775807) :
    Calls Tryd.prog 6 #[.slice A n c, .int .i64 at_, bv x] w fun e w' => e = .returned (.bool true) ∧ Only [] w w' := by
  by_cases wl : weight ls ≤ 4000
  · exact sums_light A n c ls at_ x w ht hr wl b0 b1
  · have HH := Lib.hid (heavy_any A n c ls w hr hn hrow)
    rw [show decide (4000 < weight ls) = true from by rw [decide_eq_true_iff]; omega] at HH
    clear wl hrow
    unfold bv
    go_enter Tryd.func6, Tryd.ntmps6
    go_wp2_with fail
    refine HH.out.mono ?_
    rintro e w' ⟨rfl, rfl⟩
    go_wp2
    go_ret
    exact ⟨rfl, Only.refl _ _⟩
end Go.Proofs.YtecgmlifeljdeaaDoor
