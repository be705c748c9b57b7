/-
  The walk of the law FrameSees.
-/
import Derived.Test.YtikopdffimpkdaaDoorFKnown
namespace Go.Proofs.YtikopdffimpkdaaDoor
open Go.RowKit

theorem bvs_set (l : List UInt8) (i : Nat) (b : UInt8) : (bvs l).set i (bv b) = bvs (l.set i b) := by simp [bvs, List.map_set]
theorem xor_byte (a x : UInt8) (h : x.toNat ≠ 0) : UInt8.ofNat (a.toNat ^^^ x.toNat) ≠ a ∧ (UInt8.ofNat (a.toNat ^^^ x.toNat)).toNat = a.toNat ^^^ x.toNat := by
  have ha := a.toNat_lt
  have hx := x.toNat_lt
  have hlt : a.toNat ^^^ x.toNat < 256 := Nat.xor_lt_two_pow (n := 8) (by omega) (by omega)
  have ht : (UInt8.ofNat (a.toNat ^^^ x.toNat)).toNat = a.toNat ^^^ x.toNat := by rw [UInt8.toNat_ofNat']; omega
  refine ⟨fun e => ?_, ht⟩
  rw [e] at ht
  have h0 : x.toNat = 0 := by
    have := congrArg (a.toNat ^^^ ·) ht
    simp only [← Nat.xor_assoc, Nat.xor_self, Nat.zero_xor] at this
    exact this.symm
  exact h h0

set_option maxRecDepth 100000 in
set_option maxHeartbeats 4000000 in
theorem sees_any (A B : Option Addr) (n c m d : Nat) (p more : List UInt8) (at_ : Int) (x : UInt8) (w : World) (ht : Tab w) (hp : Sl w A n (bvs p)) (hm : Sl w B m (bvs more)) (hn : n ≤ 1000000000000000000) (hm2 : m ≤ 1000000000000000000)
    (b0 : -9223372036854775808 ≤ at_) (b1 : at_ ≤ 9223372036854775807) :
    Calls Tryd.prog 5 #[.slice A n c, .slice B m d, .int .i64 at_, bv x] w fun e w' => e = .returned (.bool true) ∧ Only [] w w' := by
  have b0' := b0
  have b1' := b1
  unfold bv
  by_cases hbig : 4000 < n + m
  · go_enter Tryd.func5, Tryd.ntmps5
    go_wp2
    go_ret
    exact ⟨rfl, Only.refl _ _⟩
  · by_cases hx : x.toNat = 0
    · have hx0 : ((x.toNat : Int) == 0) = true := by rw [hx]; rfl
      clear hx
      go_enter Tryd.func5, Tryd.ntmps5
      go_wp2
      go_ret
      exact ⟨rfl, Only.refl _ _⟩
    · have hx0 : ((x.toNat : Int) == 0) = false := by rw [beq_eq_false_iff_ne]; omega
      obtain ⟨i0, hi, hz0, hz1, hz2⟩ := info_parts infoByte
      have hl : p.length = n := by simpa using hp.len
      subst hl
      have HE := Lib.hid (encode_rows (some ⟨w.heap.size, 0, none⟩) 1 1 [p] p (w.alloc (.cells #[.slice A p.length c] 23)) (by simp) (Rw.one (Bk.new w _ _) (hp.alloc _)) (ht.keep ((Only.refl _ _).alloc _)) (by omega) (by omega))
      go_enter Tryd.func5, Tryd.ntmps5
      go_wp2_with fail
      refine HE.out.mono ?_
      rintro e w1 ⟨A1, c1, rfl, V1, O1, B1⟩
      have P1 : Only [] w w1 := ((Only.refl _ _).alloc _).then O1
      have HRl : Hid ((record p).length = 12 + p.length) := record_len p
      have h12 : 12 ≤ (record p).length := by rw [HRl.out]; omega
      have h40 : (record p).length ≤ 4012 := by rw [HRl.out]; omega
      generalize hN : (record p).length = N at *
      have HN := Lib.hid hN
      clear hN HE O1 B1
      have hN0 : ((N : Int) == 0) = false := by rw [beq_eq_false_iff_ne]; omega
      obtain ⟨q, hq⟩ : ∃ q : Nat, at_ % 1073741824 = (q : Int) := ⟨(at_ % 1073741824).toNat, by omega⟩
      have e30 := low30 at_
      rw [hq] at e30
      have hq30 : q < 1073741824 := by omega
      obtain ⟨i, hii⟩ : ∃ i, i = q % N := ⟨_, rfl⟩
      have hil : i < N := by rw [hii]; exact Nat.mod_lt _ (by omega)
      have hidx : ((q : Int) % (N : Int)) = (i : Int) := by rw [hii]; omega
      have hi0 : (0 : Int) ≤ (i : Int) := by omega
      have hi1 : (i : Int) < (N : Int) := by omega
      have hir : i < (record p).length := by rw [HN.out]; exact hil
      obtain ⟨hne, hto⟩ := xor_byte ((record p)[i]'hir) x hx
      obtain ⟨b', hb'⟩ : ∃ b', b' = UInt8.ofNat (((record p)[i]'hir).toNat ^^^ x.toNat) := ⟨_, rfl⟩
      rw [← hb'] at hne hto
      have hxor := u8_xor_nat ((record p)[i]'hir).toNat x.toNat (byte_lt _) (byte_lt _)
      rw [← hto] at hxor
      have hspoilt := record_spoilt p more (by omega) i (by rw [← HRl.out]; exact hil) b' (by rw [List.getElem?_eq_getElem hir]; intro e; injection e with e; exact hne e.symm)
      have hget := bvs_get (record p) i hir
      have hbody := body_bad hspoilt
      have hsize := size_bad hspoilt
      obtain ⟨Y, hY⟩ : ∃ Y, (record p).set i b' ++ more = Y := ⟨_, rfl⟩
      rw [hY] at hspoilt hbody hsize
      have HY := Lib.hid hY
      have HD := Lib.hid (fun (W : World) (X : Option Addr) (k cx : Nat) (hs : Sl W X k (bvs Y)) (hT : Tab W) (hc : k ≤ cx) (hk : k ≤ 100000000000) => decode_any X k cx Y W hs hT hc hk)
      rw [hbody, hsize] at HD
      have hyb : ((bad Y : Int) != 0) = true := by rw [bne_iff_ne]; omega
      have HG : Hid (∀ (W : World) (g cx : Nat), Own W 5 (some ⟨g, 0, none⟩) N cx (bvs (record p)) → Own (W.setCell ⟨g, i, none⟩ (.int .u8 (b'.toNat : Int))) 5 (some ⟨g, 0, none⟩) N cx (bvs ((record p).set i b'))) := by
        intro W g cx h
        have VS := h.stored i (bv b')
        rw [bvs_set] at VS
        exact VS
      have HSet : Hid (((record p).set i b').length = N) := by show _ = _; rw [List.length_set, HN.out]
      unfold bv at hget
      clear hbody hsize hne hto hb' hii hq hspoilt hY
      generalize ((record p)[i]'hir).toNat = old at *
      go_wp2_with (first
        | (at_builtin; refine wpList_append_sl rfl (.tmp 37) (.tmp 38) 23 rfl 5 i0 (.int .u8 0) 1 Tryd.underlying23 hi hz0 hz1 hz2 rfl _ 0 0 [] rfl (World.ownsRow_lit _ #[] 0 (Nat.zero_le _) (Nat.zero_le _) rfl) A1 N c1 _ rfl (V1.sl.alloc _) (bvs_one _) (by unfold maxLen; omega) (by omega) ?_; intro A2 c2 w2 V2 O2 B2; rw [List.nil_append] at V2; rw [Nat.zero_add] at V2; obtain ⟨ad, u, hA, hu, hcell⟩ := V2.sl.at_ hil; subst hA; obtain ⟨g, hg⟩ := V2.addr rfl; subst hg; rw [hget] at hu; injection hu with hu; subst hu; rw [add_none, Nat.zero_add] at hcell; have hfree := V2.free i; have V3 := HG.out w2 g c2 V2; have P2 : Only [] w w2 := (P1.alloc _).trans O2 (fun z hz => .inr (by simp at hz; have := P1.size; omega)); have hgw : w.heap.size ≤ g := (by rcases B2 g (by simp) with h | h; (simp at h; have := P1.size; omega); (simp at h; have := P1.size; omega)); have P3 : Only [] w (w2.setCell ⟨g, i, none⟩ (.int .u8 (b'.toNat : Int))) := P2.setCell (.inr hgw) _; clear V2 O2 B2)
        | (at_builtin; refine wpList_append_sl rfl (.tmp 52) (.tmp 53) 23 rfl 5 i0 (.int .u8 0) 1 Tryd.underlying23 hi hz0 hz1 hz2 rfl _ N c2 _ rfl V3 B m d _ rfl (hm.keep P3) (bvs_one _) (by unfold maxLen; omega) (by omega) ?_; intro A4 c4 w4 V4 O4 B4; rw [← bvs_append, HY.out] at V4; have hc4 := V4.cap; have P4 : Only [] w w4 := P3.trans O4 (fun z hz => .inr (by simp at hz; omega)))
        | (go_at_call 11; refine (HD.out w4 A4 (N + m) c4 V4.sl (ht.keep P4) hc4 (by omega)).mono ?_; rintro e w5 ⟨A5, c5, rfl, V5, O5, B5⟩; have P5 := P4.then O5)
        | (go_at_call 13; refine (known_any w5 (ht.keep P5)).mono ?_; rintro e w6 ⟨rfl, O6⟩))
      go_ret
      exact ⟨rfl, P5.then O6⟩
end Go.Proofs.YtikopdffimpkdaaDoor
