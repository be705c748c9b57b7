/-
  The reference's Decode.
-/
import Derived.Test.YthaodlegpjedoaaVDec3
import Derived.Test.YthaodlegpjedoaaVRefEnc
import Derived.Test.YthaodlegpjedoaaTakes0
import Derived.Test.YthaodlegpjedoaaVBack
namespace Go.Proofs.Ythaodlegpjedoaa
open Go.RowKit Go.Instr

theorem Rr.slice (w : World) {P : Option Addr} {c n : Nat} {l : List UInt8} (h : Sl w P n (bvs l)) (hc : n ≤ c) (hb : ∀ y ∈ blks P, y < w.heap.size) (hn : n ≤ 1000000000000) (hpos : 0 < w.heap.size) :
    ∃ kb, kb < w.heap.size ∧ Rr (w.alloc (.cells #[.slice P n c, .bool false] 85)) w.heap.size kb P c false l := by
  have hl : l.length = n := by simpa using h.len
  subst hl
  have hB : Bk (w.alloc (.cells #[.slice P l.length c, .bool false] 85)) w.heap.size 85 #[.slice P l.length c, .bool false] := Bk.new _ _ _
  cases P with
  | none => exact ⟨0, hpos, hB, h.alloc _, hc, (fun ad e => by cases e), by omega, by rw [World.size_alloc]; omega, (fun e => by cases e), hn⟩
  | some a =>
    have hlt := hb a.block (by simp)
    exact ⟨a.block, hlt, hB, h.alloc _, hc, (fun ad e => by injection e with e; rw [e]), by omega, by rw [World.size_alloc]; omega, (fun e => by cases e), hn⟩
theorem raw_row_len (bad : Bool) (l : List UInt8) (n : Int) : (rawRow bad l n).length ≤ l.length := by
  unfold rawRow
  split
  · exact Nat.zero_le _
  · rw [List.length_take]; omega
theorem take_rest_len (bad : Bool) (l : List UInt8) : (takeRest bad l).length ≤ l.length := by
  unfold takeRest
  split
  · exact Nat.zero_le _
  · rw [List.length_drop]; omega
theorem row_took_len (bad : Bool) (l : List UInt8) : (rowTook bad l).length ≤ l.length := Nat.le_trans (raw_row_len _ _ _) (take_rest_len _ _)
/-- Where the decoding stands: the Reader s, the box, its messages, the result's cell. -/
structure RD (w : World) (S : Nat → Prop) (g kb pb : Nat) (t : ByteArray) (v x : Int) (A : Option Addr) (k c : Nat) (l : List Mg) (s : RS) (W : World) : Prop where
  rd : ∃ Ar cr, Rr W g kb Ar cr s.1 s.2
  bx : Bk W pb 26 #[.string t, .int .i64 v, .int .i64 x, .slice A k c]
  mo : Mo S W A k c l
  xc : Bk W w.heap.size 26 #[.string ⟨#[]⟩, .int .i64 0, .int .i64 0, .slice none 0 0]
  on : Only [] w W
  ap : (∀ y, S y → y ≠ g ∧ y ≠ pb ∧ w.heap.size < y) ∧ pb ≠ g ∧ kb ≤ w.heap.size ∧ w.heap.size < g ∧ w.heap.size < pb
section
variable {w : World} {S : Nat → Prop} {g kb pb : Nat} {t : ByteArray} {v x : Int} {A : Option Addr} {k c : Nat} {l : List Mg} {s s' : RS} {W W' : World}
theorem RD.step (h : RD w S g kb pb t v x A k c l s W) (o : Only [g] W W') (hr : ∃ Ar cr, Rr W' g kb Ar cr s'.1 s'.2) : RD w S g kb pb t v x A k c l s' W' := by
  have ha := h.ap
  exact ⟨hr, h.bx.only o (by simpa using ha.2.1), h.mo.only o (fun y hy => by have := (ha.1 y hy).1; simpa using this), h.xc.only o (by simp; omega), h.on.trans o (fun y hy => .inr (by simp at hy; omega)), ha⟩
theorem RD.keep (h : RD w S g kb pb t v x A k c l s W) (o : Only [] W W') : RD w S g kb pb t v x A k c l s W' := by
  obtain ⟨Ar, cr, r⟩ := h.rd
  exact ⟨⟨Ar, cr, r.keep o⟩, h.bx.only o (by simp), h.mo.keep o, h.xc.only o (by simp), h.on.then o, h.ap⟩
/-- A cell of a block of another kind is written. -/
theorem RD.far (h : RD w S g kb pb t v x A k c l s W) {m i : Nat} (hm : ¬ S m) (h1 : m ≠ g) (h2 : m ≠ pb) (h3 : w.heap.size < m) (u : Value) : RD w S g kb pb t v x A k c l s (W.setCell ⟨m, i, none⟩ u) := by
  have o : Only [m] W (W.setCell ⟨m, i, none⟩ u) := (Only.refl [m] W).setCell (.inl (by simp)) _
  have ha := h.ap
  obtain ⟨Ar, cr, r⟩ := h.rd
  exact ⟨⟨Ar, cr, r.only o (by simpa using h1.symm) (by simp; omega)⟩, h.bx.only o (by simpa using h2.symm), h.mo.only o (fun y hy => by simp; rintro rfl; exact hm hy), h.xc.only o (by simp; omega), h.on.setCell (.inr (Nat.le_of_lt h3)) _, ha⟩
theorem RD.val (h : RD w S g kb pb t v x A k c l s W) (u : Int) : RD w S g kb pb t u x A k c l s (W.setCell ⟨pb, 1, none⟩ (.int .i64 u)) := by
  have o : Only [pb] W (W.setCell ⟨pb, 1, none⟩ (.int .i64 u)) := (Only.refl [pb] W).setCell (.inl (by simp)) _
  have ha := h.ap
  obtain ⟨Ar, cr, r⟩ := h.rd
  exact ⟨⟨Ar, cr, r.only o (by simpa using ha.2.1.symm) (by simp; omega)⟩, by simpa using h.bx.set 1 (.int .i64 u), h.mo.only o (fun y hy => by have := (ha.1 y hy).2.1; simpa using this), h.xc.only o (by simp; omega), h.on.setCell (.inr (Nat.le_of_lt ha.2.2.2.2)) _, ha⟩
theorem RD.nxt (h : RD w S g kb pb t v x A k c l s W) (u : Int) : RD w S g kb pb t v u A k c l s (W.setCell ⟨pb, 2, none⟩ (.int .i64 u)) := by
  have o : Only [pb] W (W.setCell ⟨pb, 2, none⟩ (.int .i64 u)) := (Only.refl [pb] W).setCell (.inl (by simp)) _
  have ha := h.ap
  obtain ⟨Ar, cr, r⟩ := h.rd
  exact ⟨⟨Ar, cr, r.only o (by simpa using ha.2.1.symm) (by simp; omega)⟩, by simpa using h.bx.set 2 (.int .i64 u), h.mo.only o (fun y hy => by have := (ha.1 y hy).2.1; simpa using this), h.xc.only o (by simp; omega), h.on.setCell (.inr (Nat.le_of_lt ha.2.2.2.2)) _, ha⟩
/-- One message more. -/
theorem RD.more {W1 : World} {A' : Option Addr} {k' c' : Nat} {l' : List Mg} (h : RD w S g kb pb t v x A k c l s W) (o1 : Only [] W W1) (o : Only (blks A) W1 W') (hM : Mo S W' A' k' c' l') :
    Bk W' pb 26 #[.string t, .int .i64 v, .int .i64 x, .slice A k c] ∧ RD w S g kb pb t v x A' k' c' l' s (W'.setCell ⟨pb, 3, none⟩ (.slice A' k' c')) := by
  have ha := h.ap
  have hA : ∀ y ∈ blks A, y ≠ g ∧ y ≠ pb ∧ w.heap.size < y := fun y hy => ha.1 y (h.mo.2.1 y hy)
  have oo : Only (blks A) W W' := (o1.mono (ss := blks A) (fun _ hx => nomatch hx)).trans o (fun y hy => .inl hy)
  have o3 : Only [pb] W' (W'.setCell ⟨pb, 3, none⟩ (.slice A' k' c')) := (Only.refl [pb] W').setCell (.inl (by simp)) _
  obtain ⟨Ar, cr, r⟩ := h.rd
  have hbx := h.bx.only oo (fun hh => (hA _ hh).2.1 rfl)
  have hr := r.only oo (fun hh => (hA _ hh).1 rfl) (fun hh => by have := (hA _ hh).2.2; omega)
  refine ⟨hbx, ⟨Ar, cr, hr.only o3 (by simpa using ha.2.1.symm) (by simp; omega)⟩, by simpa using hbx.set 3 (.slice A' k' c'), hM.only o3 (fun y hy => by have := (ha.1 y hy).2.1; simpa using this), (h.xc.only oo (fun hh => by have := (hA _ hh).2.2; omega)).only o3 (by simp; omega), (h.on.trans oo (fun y hy => .inr (Nat.le_of_lt (hA y hy).2.2))).setCell (.inr (Nat.le_of_lt ha.2.2.2.2)) _, ha⟩
theorem RD.narrow {m : Nat} (h : RD w S g kb pb t v x A k c l s W) (hm : W.heap.size ≤ m) : RD w (fun y => S y ∧ y ≠ m) g kb pb t v x A k c l s W :=
  ⟨h.rd, h.bx, h.mo.below.mono (fun y hy => ⟨hy.1, by omega⟩), h.xc, h.on, ⟨fun y hy => h.ap.1 y hy.1, h.ap.2⟩⟩
theorem RD.wide {S' : Nat → Prop} (h : RD w S g kb pb t v x A k c l s W) (h1 : ∀ y, S y → S' y) (h2 : ∀ y, S' y → y ≠ g ∧ y ≠ pb ∧ w.heap.size < y) : RD w S' g kb pb t v x A k c l s W :=
  ⟨h.rd, h.bx, h.mo.mono h1, h.xc, h.on, ⟨h2, h.ap.2⟩⟩
theorem RD.num (h : RD w S g kb pb t v x A k c l s W) {z : Int} (hz : tv s = z) (hs : tk s = s') : Calls Try.prog 53 #[.pointer (some ⟨g, 0, none⟩)] W fun e w' => e = .returned (.int .i64 z) ∧ RD w S g kb pb t v x A k c l s' w' ∧ Only [g] W w' := by
  obtain ⟨Ar, cr, r⟩ := h.rd
  subst hz hs
  exact (refRNum_any r).mono fun e w' ⟨e1, A', c', r', o⟩ => ⟨e1, h.step (s' := tk s) o ⟨A', c', r'⟩, o⟩
theorem RD.row (h : RD w S g kb pb t v x A k c l s W) {y : List UInt8} {z : Nat} (hy : rv s = y) (hz : y.length = z) (hs : rk s = s') : Calls Try.prog 52 #[.pointer (some ⟨g, 0, none⟩)] W fun e w' =>
    ∃ P cp, e = .returned (.slice P z cp) ∧ Own w' 5 P z cp (bvs y) ∧ (∀ k ∈ blks P, W.heap.size ≤ k) ∧ RD w S g kb pb t v x A k c l s' w' ∧ Only [g] W w' := by
  obtain ⟨Ar, cr, r⟩ := h.rd
  subst hz hy hs
  exact (refRBytes_any r).mono fun e w' ⟨P, cp, A', c', e1, v1, f1, r', o⟩ => ⟨P, cp, e1, v1, f1, h.step (s' := rk s) o ⟨A', c', r'⟩, o⟩
end
theorem dec_exit {ps : List UInt8} {k : Nat} (hk : (k : Int) ≤ cnt ps) (hk2 : k ≤ 25) (hr : (k : Int) = cnt ps ∨ (restL k (body0 ps)).1 = true ∨ k = 25) (hlen : (takeL k (body0 ps)).length = k) :
    (wholeS (restL k (body0 ps)) = true ∧ isB (boxOf ps k) = true ∧ decO ps = some (boxOf ps k) ∧ encB (boxOf ps k) = ps) ∨ ((wholeS (restL k (body0 ps)) = false ∨ isB (boxOf ps k) = false) ∧ decO ps = none) := by
  cases hb : (restL k (body0 ps)).1 with
  | true => exact .inr ⟨.inl (by unfold wholeS; rw [hb]; rfl), decO_bad hk hb⟩
  | false =>
    by_cases hc : cnt ps ≤ 24
    · have hkc : (k : Int) = cnt ps := by
        rcases hr with h | h | h
        · exact h
        · rw [hb] at h; cases h
        · omega
      have hd := decO_at hkc hc
      cases hw : wholeS (restL k (body0 ps)) with
      | false => exact .inr ⟨.inl rfl, by rw [hd, hw]; rfl⟩
      | true =>
        cases hi : isB (boxOf ps k) with
        | false => exact .inr ⟨.inr rfl, by rw [hd, hw, hi]; rfl⟩
        | true => exact .inl ⟨rfl, rfl, by rw [hd, hw, hi]; rfl, (boxOf_form hkc.symm hw).symm⟩
    · have hk25 : k = 25 := by
        rcases hr with h | h | h
        · omega
        · rw [hb] at h; cases h
        · exact h
      refine .inr ⟨.inr ?_, decO_many (by omega)⟩
      cases hi : isB (boxOf ps k) with
      | false => rfl
      | true =>
        rw [isB_iff] at hi
        have h24 : (takeL k (body0 ps)).length ≤ 24 := hi.2.2.2.1
        omega
theorem ms_new {S : Nat → Prop} {W : World} {u f d : Int} {y : List UInt8} {z cp : Nat} {P : Option Addr} (hz : y.length = z) (hs : Sl W P z (bvs y)) (hg : S W.heap.size) (hS : 0 < z → ∀ ad, P = some ad → S ad.block) :
    Ms S (W.alloc (.cells #[.int .i64 u, .int .i64 f, .int .i64 d, .slice P z cp] 62)) (some ⟨W.heap.size, 0, none⟩) 1 [⟨u, f, d, y⟩] := by
  subst hz
  exact Ms.of_bk (m := ⟨u, f, d, y⟩) (Bk.new W _ _) hg (hs.keep ((Only.refl [] W).alloc _)) hS
/-- The loop's relation. -/
def RDK (w : World) (ps : List UInt8) (g kb pb : Nat) (t : ByteArray) (v x : Int) (k : Nat) (wr : World) : Prop :=
  ∃ (A : Option Addr) (c : Nat), RD w (fun y => w.heap.size < y ∧ y ≠ g ∧ y ≠ pb) g kb pb t v x A k c (takeL k (body0 ps)) (restL k (body0 ps)) wr
set_option maxRecDepth 100000 in
set_option maxHeartbeats 8000000 in
theorem refDecode_any {w : World} {P : Option Addr} {n cp : Nat} {ps : List UInt8} (h : Sl w P n (bvs ps)) (hc : n ≤ cp) (hb : ∀ y ∈ blks P, y < w.heap.size) (hn : n ≤ 1000000000000) :
    Calls Try.prog 23 #[.slice P n cp] w (DecA w ps) := by
  have o0 : Only [] w (w.alloc (.cells #[.string ⟨#[]⟩, .int .i64 0, .int .i64 0, .slice none 0 0] 26)) := (Only.refl [] w).alloc _
  obtain ⟨kb, hkb, R0⟩ := Rr.slice (w.alloc (.cells #[.string ⟨#[]⟩, .int .i64 0, .int .i64 0, .slice none 0 0] 26)) (c := cp) (h.keep o0) hc (fun y hy => by have := hb y hy; rw [World.size_alloc]; omega) hn (by rw [World.size_alloc]; omega)
  rw [World.size_alloc] at hkb R0
  have HR0 := Lib.hid R0
  have HX0 := Lib.hid ((Bk.new w 26 #[.string ⟨#[]⟩, .int .i64 0, .int .i64 0, .slice none 0 0]).alloc (.cells #[.slice P n cp, .bool false] 85))
  have HO0 := Lib.hid (o0.alloc (.cells #[.slice P n cp, .bool false] 85))
  have HSP := Lib.hid h
  have hgs : w.heap.size + 1 < ((w.alloc (.cells #[.string ⟨#[]⟩, .int .i64 0, .int .i64 0, .slice none 0 0] 26)).alloc (.cells #[.slice P n cp, .bool false] 85)).heap.size := by rw [World.size_alloc, World.size_alloc]; omega
  obtain ⟨nm, hnm⟩ : ∃ nm, rv (false, ps) = nm := ⟨_, rfl⟩
  obtain ⟨m0, hm0⟩ : ∃ m, nm.length = m := ⟨_, rfl⟩
  obtain ⟨t, ht⟩ : ∃ t, St nm = t := ⟨_, rfl⟩
  obtain ⟨tp, htp⟩ : ∃ t, St ps = t := ⟨_, rfl⟩
  obtain ⟨s1, hs1⟩ : ∃ q, hd ps = q := ⟨_, rfl⟩
  obtain ⟨v0, hv0⟩ : ∃ v, tv s1 = v := ⟨_, rfl⟩
  obtain ⟨s2, hs2⟩ : ∃ q, tk s1 = q := ⟨_, rfl⟩
  obtain ⟨v1, hv1⟩ : ∃ v, tv s2 = v := ⟨_, rfl⟩
  obtain ⟨s3, hs3⟩ : ∃ q, tk s2 = q := ⟨_, rfl⟩
  obtain ⟨v2, hv2⟩ : ∃ v, tv s3 = v := ⟨_, rfl⟩
  obtain ⟨s4, hs4⟩ : ∃ q, tk s3 = q := ⟨_, rfl⟩
  have HB4 : Hid (body0 ps = s4) := by show _ = _; rw [← hs4, ← hs3, ← hs2, ← hs1]; rfl
  have HRB := Lib.hid (fun (W : World) (hr : Rr W (w.heap.size + 1) kb P cp false ps) => by
    have hh := refRBytes_any hr
    unfold TookRowR at hh
    have e : rowTook false ps = nm := hnm
    rw [e, hm0] at hh
    exact hh)
  have HCV := Lib.hid (fun (W : World) (A' : Option Addr) (c' : Nat) (hs : Sl W A' m0 (bvs nm)) => by
    have hh := str_at hs c'
    rw [ht] at hh
    exact hh)
  have HBO : Hid (∀ k, boxOf ps k = ⟨nm, v0, v1, takeL k (body0 ps)⟩) := fun k => by unfold boxOf; rw [hnm, hs1, hv0, hs2, hv1]
  have HCN : Hid (cnt ps = v2) := by show _ = _; unfold cnt; rw [hs1, hs2, hs3, hv2]
  have HS1 : Hid ((rowBad false ps, rowRest false ps) = s1) := hs1
  have HT := Lib.hid ht
  have HTP := Lib.hid htp
  have hv2p : 0 ≤ v2 := by rw [← hv2]; unfold tv; omega
  have HN1 := Lib.hid (fun (W : World) (pb : Nat) (hr : RD w (fun y => w.heap.size < y ∧ y ≠ w.heap.size + 1 ∧ y ≠ pb) (w.heap.size + 1) kb pb t 0 0 none 0 0 [] s1 W) => hr.num hv0 hs2)
  have HN2 := Lib.hid (fun (W : World) (pb : Nat) (hr : RD w (fun y => w.heap.size < y ∧ y ≠ w.heap.size + 1 ∧ y ≠ pb) (w.heap.size + 1) kb pb t v0 0 none 0 0 [] s2 W) => hr.num hv1 hs3)
  have HN3 := Lib.hid (fun (W : World) (pb : Nat) (hr : RD w (fun y => w.heap.size < y ∧ y ≠ w.heap.size + 1 ∧ y ≠ pb) (w.heap.size + 1) kb pb t v0 v1 none 0 0 [] s3 W) => hr.num hv2 hs4)
  have HM0 : Hid (nm.length ≤ 1000000000000) := by
    show _ ≤ _
    rw [← hnm]
    have h1 := row_took_len false ps
    have h2 : ps.length = n := by simpa using h.len
    show (rowTook false ps).length ≤ _
    omega
  clear h o0 hnm hm0 ht htp hs1 hv0 hs2 hv1 hs3 hv2 hs4 R0 hb
  go_enter Try.func23, Try.ntmps23
  go_wp2_with (first
    | (go_at_call 52; go_must (refine (HRB.out _ HR0.out).mono ?_); rintro e w2 ⟨P2, cp2, A2, c2, rfl, V2, F2, R2, O2⟩; have cv := HCV.out w2 P2 cp2 V2.sl; have hz2 := O2.size; have J2 : RD w (fun y => w.heap.size < y ∧ y ≠ w.heap.size + 1 ∧ y ≠ w2.heap.size) (w.heap.size + 1) kb w2.heap.size t 0 0 none 0 0 [] s1 (w2.alloc (.cells #[.string t, .int .i64 0, .int .i64 0, .slice none 0 0] 26)) := ⟨⟨A2, c2, by rw [← HS1.out]; exact R2.keep ((Only.refl [] w2).alloc _)⟩, Bk.new w2 _ _, Mo.nil _ _, (HX0.out.only O2 (by simp)).alloc _, (HO0.out.trans O2 (fun y hy => .inr (by simp at hy; omega))).alloc _, ⟨fun y hy => ⟨hy.2.1, hy.2.2, hy.1⟩, by omega, by omega, by omega, by omega⟩⟩)
    | (go_at_call 53; refine (HN3.out _ w2.heap.size J4).mono ?_; rintro e w5 ⟨rfl, J5, O5⟩)
    | (go_at_call 53; refine (HN2.out _ w2.heap.size J3).mono ?_; rintro e w4 ⟨rfl, J4', O4⟩; have J4 := J4'.nxt v1; clear c0 c1 c2 c3 f2; obtain ⟨c0, c1, c2, c3⟩ := bk_four J4'.bx; have f2 := J4'.bx.free 2; have gl4 := J4'.bx.lt)
    | (go_at_call 53; refine (HN1.out _ w2.heap.size J2).mono ?_; rintro e w3 ⟨rfl, J3', O3⟩; have J3 := J3'.val v0; obtain ⟨c0, c1, c2, c3⟩ := bk_four J3'.bx; have f2 := J3'.bx.free 1; have gl3 := J3'.bx.lt))
  have H0 : Hid (RDK w ps (w.heap.size + 1) kb w2.heap.size t v0 v1 0 w5) := ⟨none, 0, by show RD _ _ _ _ _ _ _ _ _ _ _ [] (body0 ps) _; rw [HB4.out]; exact J5⟩
  clear J2 J3 J3' J4 J4' J5 O3 O4 O5 c0 c1 c2 c3 f2 gl3 gl4 cv V2 F2 R2 O2 hz2 HRB HCV HR0 HX0 HO0 HN1 HN2 HN3
  generalize w2.heap.size = pb at *
  go_loopw [7] (fun iv wr => ∃ k : Nat, iv = .int .i64 (k : Int) ∧ (k : Int) ≤ v2 ∧ k ≤ 25 ∧ Hid (RDK w ps (w.heap.size + 1) kb pb t v0 v1 k wr)) (fun iv _ => 25 - (intOf iv).toNat)
  case atStart => exact ⟨0, rfl, hv2p, by omega, H0.out⟩
  case round =>
    obtain ⟨k, rfl, hk, hk25, HK⟩ := hrel
    obtain ⟨A, c, J⟩ := HK.out
    have hlen := J.mo.len
    obtain ⟨s, hs⟩ : ∃ s, restL k (body0 ps) = s := ⟨_, rfl⟩
    rw [hs] at J
    obtain ⟨bd, hbd⟩ : ∃ b, s.1 = b := ⟨_, rfl⟩
    obtain ⟨Ar, cr, R⟩ := J.rd
    have e1 : wr.cell? ⟨w.heap.size + 1, 1, none⟩ = some (.bool bd) := by rw [← hbd]; exact R.cell1
    have gl := R.bk.lt
    obtain ⟨b0, b1, b2, b3⟩ := bk_four J.bx
    by_cases hgo : (k : Int) < v2 ∧ bd = false ∧ k ≤ 24
    · obtain ⟨hg1, rfl, hg3⟩ := hgo
      have hg3' : (k : Int) ≤ 24 := by omega
      obtain ⟨u, hu⟩ : ∃ u, tv s = u := ⟨_, rfl⟩
      obtain ⟨q1, hq1⟩ : ∃ q, tk s = q := ⟨_, rfl⟩
      obtain ⟨f, hf⟩ : ∃ u, tv q1 = u := ⟨_, rfl⟩
      obtain ⟨q2, hq2⟩ : ∃ q, tk q1 = q := ⟨_, rfl⟩
      obtain ⟨d, hd⟩ : ∃ u, tv q2 = u := ⟨_, rfl⟩
      obtain ⟨q3, hq3⟩ : ∃ q, tk q2 = q := ⟨_, rfl⟩
      obtain ⟨y, hy⟩ : ∃ y, rv q3 = y := ⟨_, rfl⟩
      obtain ⟨z, hz⟩ : ∃ z, y.length = z := ⟨_, rfl⟩
      obtain ⟨q4, hq4⟩ : ∃ q, rk q3 = q := ⟨_, rfl⟩
      have hsuc := takeL_succ k (body0 ps) (by rw [hs]; exact hbd)
      obtain ⟨l, hl⟩ : ∃ l, takeL k (body0 ps) = l := ⟨_, rfl⟩
      rw [hs, hl] at hsuc
      have em : takeM s = ⟨u, f, d, y⟩ := by
        show (⟨tv s, tv (tk s), tv (tk (tk s)), rv (tk (tk (tk s)))⟩ : Mg) = _
        rw [hu, hq1, hf, hq2, hd, hq3, hy]
      have eq4 : restM s = q4 := by
        show rk (tk (tk (tk s))) = _
        rw [hq1, hq2, hq3, hq4]
      rw [em, eq4] at hsuc
      have HSUC := Lib.hid hsuc
      rw [hl] at J
      have HC1 := Lib.hid (J.num hu hq1)
      have HC2 := Lib.hid (fun (W : World) (m : Nat) (hr : RD w (fun y => (w.heap.size < y ∧ y ≠ w.heap.size + 1 ∧ y ≠ pb) ∧ y ≠ m) (w.heap.size + 1) kb pb t v0 v1 A k c l q1 W) => hr.num hf hq2)
      have HC3 := Lib.hid (fun (W : World) (m : Nat) (hr : RD w (fun y => (w.heap.size < y ∧ y ≠ w.heap.size + 1 ∧ y ≠ pb) ∧ y ≠ m) (w.heap.size + 1) kb pb t v0 v1 A k c l q2 W) => hr.num hd hq3)
      have HC4 := Lib.hid (fun (W : World) (m : Nat) (hr : RD w (fun y => (w.heap.size < y ∧ y ≠ w.heap.size + 1 ∧ y ≠ pb) ∧ y ≠ m) (w.heap.size + 1) kb pb t v0 v1 A k c l q3 W) => hr.row hy hz hq4)
      have HZ := Lib.hid hz
      have HMM : Hid (25 - (intOf (.int .i64 ((k : Int) + 1))).toNat < 25 - (intOf (.int .i64 (k : Int))).toNat) := by
        show _ < _
        simp [intOf]
        omega
      clear hu hq1 hf hq2 hd hq3 hy hz hq4 hsuc em eq4 J HK hs hbd R hl hlen
      go_wp2_with (first
        | (go_at_call 52; go_must (refine (HC4.out _ w5.heap.size J7).mono ?_); rintro e w8 ⟨P8, cp8, rfl, V8, F8, J8', O8⟩; have M8 := M7.only O8 (by simp; omega); have J8 := J8'.far (i := 3) (fun hh => hh.2 rfl) (by omega) (by omega) (by omega) (.slice P8 z cp8); clear m0 m1 m2 m3 b0 b1 b2 b3 mf; obtain ⟨m0, m1, m2, m3⟩ := bk_four M8; have mf := M8.free 3; have ml := M8.lt; obtain ⟨b0, b1, b2, b3⟩ := bk_four J8'.bx; have bl := J8'.bx.lt; have ML8 := Lib.hid (by have hs8 : Sl (w8.setCell ⟨w5.heap.size, 3, none⟩ (.slice P8 z cp8)) P8 z (bvs y) := (V8.only (rs := [w5.heap.size]) ((Only.refl _ w8).setCell (.inl (by simp)) _) (fun q hq => by have := F8 q hq; simp [World.setCell] at this; simp; omega)).sl; have hA8 := fun q hq => J7.mo.lt (k := q) hq; have hh := ms_new (S := fun x => ((w.heap.size < x ∧ x ≠ w.heap.size + 1 ∧ x ≠ pb) ∧ x ≠ w5.heap.size) ∧ x ∉ blks A) (u := u) (f := f) (d := d) (cp := cp8) HZ.out hs8 (by have e8 := O8.size; simp [World.setCell] at e8 ⊢; exact ⟨⟨⟨by omega, by omega, by omega⟩, by omega⟩, fun hq => by have := hA8 _ hq; simp [World.setCell] at this; omega⟩) (fun _ a e => by subst e; have f8 := F8 a.block (by simp); simp [World.setCell] at f8; exact ⟨⟨⟨by omega, by omega, by omega⟩, by omega⟩, fun hq => by have := hA8 _ hq; simp [World.setCell] at this; omega⟩); exact hh))
        | (go_at_call 53; refine (HC3.out _ w5.heap.size J6).mono ?_; rintro e w7 ⟨rfl, J7', O7⟩; have M7' := M6.only O7 (by simp; omega); have J7 := J7'.far (i := 2) (fun hh => hh.2 rfl) (by omega) (by omega) (by omega) (.int .i64 d); have M7 : Bk _ _ _ #[.int .i64 u, .int .i64 f, .int .i64 d, .slice none 0 0] := (by simpa using M7'.set 2 (.int .i64 d)); clear m0 m1 m2 m3 mf; obtain ⟨m0, m1, m2, m3⟩ := bk_four M7'; have mf := M7'.free 2; have ml7 := M7'.lt)
        | (go_at_call 53; refine (HC2.out _ w5.heap.size J5).mono ?_; rintro e w6 ⟨rfl, J6', O6⟩; have M6' := M5.only O6 (by simp; omega); have J6 := J6'.far (i := 1) (fun hh => hh.2 rfl) (by omega) (by omega) (by omega) (.int .i64 f); have M6 : Bk _ _ _ #[.int .i64 u, .int .i64 f, .int .i64 0, .slice none 0 0] := (by simpa using M6'.set 1 (.int .i64 f)); obtain ⟨m0, m1, m2, m3⟩ := bk_four M6'; have mf := M6'.free 1; have ml6 := M6'.lt)
        | (go_at_call 53; refine HC1.out.mono ?_; rintro e w5 ⟨rfl, J5', O5⟩; have g5 : w.heap.size + 1 < w5.heap.size := (by obtain ⟨_, _, r⟩ := J5'.rd; exact r.bk.lt); have p5 := J5'.bx.lt; have J5 := (J5'.narrow (Nat.le_refl _)).keep ((Only.refl [] w5).alloc (.cells #[.int .i64 u, .int .i64 0, .int .i64 0, .slice none 0 0] 62)); have M5 := Bk.new w5 62 #[.int .i64 u, .int .i64 0, .int .i64 0, .slice none 0 0]; have hmb : w5.heap.size ≠ pb := (by omega); have hbm : pb ≠ w5.heap.size := (by omega))
        | (refine wpList_append_ms rfl (.tmp 55) (.tmp 57) rfl A k c l rfl (J8.keep ((Only.refl [] _).alloc (.cells #[.int .i64 u, .int .i64 f, .int .i64 d, .slice P8 z cp8] 62))).mo _ 1 1 [⟨u, f, d, y⟩] rfl (by simpa [World.setCell] using ML8.out) (fun q hq => by simp [World.setCell] at hq; have e8 := O8.size; simp [World.setCell] at e8; exact ⟨⟨by omega, by omega, by omega⟩, by omega⟩) (by omega) (k + 1) rfl ?_; intro A9 c9 w9 M9 O9 B9; obtain ⟨B9x, J9⟩ := J8.more ((Only.refl [] _).alloc _) O9 M9; clear b0 b1 b2 b3 bl; obtain ⟨b0, b1, b2, b3⟩ := bk_four B9x; have bf := B9x.free 3; have bl := B9x.lt))
      exact ⟨⟨k + 1, by simp, by omega, by omega, ⟨A9, c9, by rw [HSUC.out.1, HSUC.out.2]; exact J9.wide (fun y hy => hy.1) (fun y hy => ⟨hy.2.1, hy.2.2, hy.1⟩)⟩⟩, HMM.out⟩
    · have hno : (k : Int) = v2 ∨ s.1 = true ∨ k = 25 := by
        rw [hbd]
        cases bd
        · simp at hgo
          omega
        · exact .inr (.inl rfl)
      have hex := dec_exit (ps := ps) (k := k) (by rw [HCN.out]; exact hk) hk25 (by rw [HCN.out, hs]; exact hno) hlen
      rw [hs] at hex
      have HE0 := refEncode_any (w := wr) (boxOf ps k) (A := A) (c := c) (by rw [HBO.out k]; show Ms _ wr A (takeL k (body0 ps)).length _; rw [hlen]; exact J.mo.ms) (by rw [HBO.out k]; show (takeL k (body0 ps)).length ≤ _; rw [hlen]; omega) (by rw [HBO.out k]; show nm.length ≤ _; have := HM0.out; omega)
      have HOO := Lib.hid J.on
      have HXC := Lib.hid J.xc
      have HBX := Lib.hid J.bx
      have HR := Lib.hid R
      have HM := Lib.hid J.mo
      have hcase : ¬ (k : Int) < v2 ∨ ((k : Int) < v2 ∧ bd = true) ∨ ((k : Int) < v2 ∧ bd = false ∧ ¬ (k : Int) ≤ 24) := by
        cases bd
        · simp at hgo ⊢
          omega
        · simp
          omega
      clear hgo hno HK J
      rcases hex with ⟨hw, hi, hd, he⟩ | ⟨hwi, hd⟩
      · have HWH := Lib.hid (fun (W : World) (hr : Rr W (w.heap.size + 1) kb Ar cr s.1 s.2) => by
          have hh := refWhole_any hr
          have e : (!s.1 && decide (s.2 = [])) = true := hw
          rw [e] at hh
          exact hh)
        have HE : Hid (Calls Try.prog 21 #[.agg #[.string t, .int .i64 v0, .int .i64 v1, .slice A k c]] wr fun e w' => ∃ A' c', e = .returned (.tuple #[.slice A' n c', .int .i64 0]) ∧ Own w' 5 A' n c' (bvs ps) ∧ Only [] wr w') := by
          show Calls _ _ _ _ _
          have hh := HE0
          have hpl : ps.length = n := by simpa using HSP.out.len
          rw [HBO.out k, bxv_eq hlen, HT.out] at hh
          refine hh.mono fun e w' h' => ?_
          rw [← HBO.out k] at h'
          rcases h' with ⟨_, A', c', e1, e2, e3, _⟩ | ⟨hf, _⟩
          · rw [he, hpl] at e1 e2
            exact ⟨A', c', e1, e2, e3⟩
          · rw [hi] at hf; cases hf
        have HD := Lib.hid hd
        have hnlen : (takeL k (body0 ps)).length = k := hlen
        clear hw hi hd he R HE0 hs hbd
        rcases hcase with h1 | ⟨h1, rfl⟩ | ⟨h1, rfl, h2⟩
        all_goals
          go_wp2_with (first
            | (go_at_call 21; go_must (refine HE.out.mono ?_); rintro e w7 ⟨A7, c7, rfl, V7, O7⟩; have X7 := HXC.out.only O7 (by simp); obtain ⟨x0, x1, x2, x3⟩ := bk_four X7; have xf0 := X7.free 0; have xf1 := X7.free 1; have xf2 := X7.free 2; have xf3 := X7.free 3; have xl := X7.lt; have R7 := HR.out.keep O7; have cv1 := str_at V7.sl c7; rw [HTP.out] at cv1; have cv2 := str_at ((HSP.out.keep HOO.out).keep O7) cp; rw [HTP.out] at cv2; have B7 := HBX.out.only O7 (by simp); clear b0 b1 b2 b3; obtain ⟨b0, b1, b2, b3⟩ := bk_four B7)
            | (go_at_call 54; go_must (refine (HWH.out _ R7).mono ?_); rintro e w8 ⟨rfl, rfl⟩))
          have hret := DecA.some (w := w) (w' := _) (A := A) (c := c) HD.out (by rw [HBO.out k]; show Ms AnyB _ A (takeL k (body0 ps)).length _; rw [hnlen]; exact ((HM.out.ms.keep O7).store (fun hh => Nat.lt_irrefl _ hh.1) (.string t) (.int .i64 v0) (.int .i64 v1) (.slice A k c)).mono (fun _ _ => trivial)) (only_store (HOO.out.then O7) (.inr (Nat.le_refl _)) _ _ _ _)
          rw [HBO.out k] at hret
          exact box_ret (s := 2) (u := 3) (by kernel_rfl) w.heap.size ⟨nm, v0, v1, takeL k (body0 ps)⟩ A c (.int .i64 0) rfl rfl (by rw [bxc_eq hnlen, HT.out]; exact bk_store X7 _ _ _ _) hret
      · have HD0 := Lib.hid hd
        obtain ⟨ib, hib⟩ : ∃ b, isB (boxOf ps k) = b := ⟨_, rfl⟩
        obtain ⟨wh, hwh⟩ : ∃ b, wholeS s = b := ⟨_, rfl⟩
        rw [hib, hwh] at hwi
        have HWH := Lib.hid (fun (W : World) (hr : Rr W (w.heap.size + 1) kb Ar cr s.1 s.2) => by
          have hh := refWhole_any hr
          have e : (!s.1 && decide (s.2 = [])) = wh := hwh
          rw [e] at hh
          exact hh)
        obtain ⟨q, hq⟩ : ∃ q : Int, (if ib = true then 0 else 1) = q := ⟨_, rfl⟩
        have HE : Hid (Calls Try.prog 21 #[.agg #[.string t, .int .i64 v0, .int .i64 v1, .slice A k c]] wr fun e w' => ∃ A' ne c', e = .returned (.tuple #[.slice A' ne c', .int .i64 q]) ∧ Only [] wr w') := by
          show Calls _ _ _ _ _
          have hh := HE0
          rw [HBO.out k, bxv_eq hlen, HT.out] at hh
          refine hh.mono fun e w' h' => ?_
          rw [← HBO.out k] at h'
          unfold EncR at h'
          rw [hib] at h'
          rcases h' with ⟨h1, A', c', e1, _, e3, _⟩ | ⟨h1, e1, e3⟩
          · rw [h1, if_pos rfl] at hq
            subst hq
            exact ⟨A', _, c', e1, e3⟩
          · rw [h1, if_neg (by simp)] at hq
            subst hq
            exact ⟨_, _, _, e1, e3⟩
        have hq2 : wh = true → q ≠ 0 := fun e => by
          subst e
          have : ib = false := by simpa using hwi
          rw [this, if_neg (by simp)] at hq
          omega
        have hq3 : wh = false ∨ (wh = true ∧ (q != 0) = true) := by
          cases wh
          · exact .inl rfl
          · exact .inr ⟨rfl, by simpa using hq2 rfl⟩
        clear hq2 hq hwi hib hwh hd R HE0 hs hbd
        rcases hcase with h1 | ⟨h1, rfl⟩ | ⟨h1, rfl, h2⟩
        all_goals
          rcases hq3 with rfl | ⟨rfl, hq3⟩
          all_goals
            go_wp2_with (first
              | (go_at_call 21; go_must (refine HE.out.mono ?_); rintro e w7 ⟨A7, ne7, c7, rfl, O7⟩; have X7 := HXC.out.only O7 (by simp); obtain ⟨x0, x1, x2, x3⟩ := bk_four X7; have xf0 := X7.free 0; have xf1 := X7.free 1; have xf2 := X7.free 2; have xf3 := X7.free 3; have xl := X7.lt; have R7 := HR.out.keep O7)
              | (go_at_call 54; go_must (refine (HWH.out _ R7).mono ?_); rintro e w8 ⟨rfl, rfl⟩))
            exact box_ret (s := 2) (u := 3) (by kernel_rfl) w.heap.size zeroB none 0 (.int .i64 3) rfl rfl (bk_store X7 _ _ _ _) (DecA.none HD0.out (only_store (HOO.out.then O7) (.inr (Nat.le_refl _)) _ _ _ _))
end Go.Proofs.Ythaodlegpjedoaa
