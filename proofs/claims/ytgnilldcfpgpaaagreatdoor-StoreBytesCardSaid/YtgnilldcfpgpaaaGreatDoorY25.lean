/-
  Texts of the seat, laid one behind the other: CRefDec SBytesL.
-/
import Derived.Test.YtgnilldcfpgpaaaGreatDoorY23
import Derived.Test.YtgnilldcfpgpaaaGreatDoorY12
import Derived.Test.YtgnilldcfpgpaaaGreatDoorY24
import Derived.Test.YtgnilldcfpgpaaaGreatDoorY6
namespace Go.Proofs.YtgnilldcfpgpaaaGreatDoor
open Go.RowKit Go.Instr
theorem str_atC {w : World} {A : Option Addr} {n : Nat} {l : List UInt8} (h : Sl w A n (bvs l)) (c : Nat) : (convert 27 9 (.slice A n c)).run Tryz.prog w = .ok (.string (St l)) w :=
  run_str_sl (P := Tryz.prog) 27 9 5 A n c l Tryz.underlying27 Tryz.underlying5 Tryz.underlying9 h
theorem Rr.sliceC (w : World) {P : Option Addr} {c n : Nat} {l : List UInt8} (h : Sl w P n (bvs l)) (hc : n ≤ c) (hb : ∀ y ∈ blks P, y < w.heap.size) (hn : n ≤ 1000000000000) (hpos : 0 < w.heap.size) :
    ∃ kb, kb < w.heap.size ∧ Rr (w.alloc (.cells #[.slice P n c, .bool false] 148)) w.heap.size kb P c false l := by
  have hl : l.length = n := by simpa using h.len
  subst hl
  have hB : Bk (w.alloc (.cells #[.slice P l.length c, .bool false] 148)) w.heap.size 148 #[.slice P l.length c, .bool false] := Bk.new _ _ _
  cases P with
  | none => exact ⟨0, hpos, hB, h.alloc _, hc, (fun ad e => by cases e), by omega, by rw [World.size_alloc]; omega, (fun e => by cases e), hn⟩
  | some a =>
    have hlt := hb a.block (by simp)
    exact ⟨a.block, hlt, hB, h.alloc _, hc, (fun ad e => by injection e with e; rw [e]), by omega, by rw [World.size_alloc]; omega, (fun e => by cases e), hn⟩
theorem rv_lenC (s : RS) : (rv s).length ≤ s.2.length := by
  unfold rv rowTook rawRow
  have h : (takeRest s.1 s.2).length ≤ s.2.length := by
    unfold takeRest
    split
    · exact Nat.zero_le _
    · rw [List.length_drop]; omega
  split
  · exact Nat.zero_le _
  · rw [List.length_take]; omega
theorem tk_lenC (s : RS) : (tk s).2.length ≤ s.2.length := by
  unfold tk takeRest
  dsimp only
  split
  · exact Nat.zero_le _
  · rw [List.length_drop]; omega
theorem rk_lenC (s : RS) : (rk s).2.length ≤ s.2.length := by
  have h := tk_lenC s
  unfold tk at h
  unfold rk rowRest rawRest
  dsimp only at h ⊢
  split
  · exact Nat.zero_le _
  · rw [List.length_drop]; omega
def DecCA (w : World) (p : List UInt8) (e : Ending) (w' : World) : Prop :=
  ∃ c A ca B cb q, e = .returned (.tuple #[chv c A ca B cb, .int .i64 q]) ∧ ((chO p = some c ∧ q = 0) ∨ (chO p = none ∧ c = zeroCh ∧ q = 3)) ∧ Sl w' A c.uids.length (ivs c.uids) ∧ Sl w' B c.body.length (bvs c.body) ∧ Only [] w w'
def RCK (w : World) (g kb pb : Nat) (f : Value → Array Value) (s0 : RS) (k : Nat) (W : World) : Prop :=
  ∃ (A : Option Addr) (c : Nat), RC w g kb pb (f (.slice A k c)) A k c (takeU k s0) (restU k s0) W
set_option maxRecDepth 100000 in
set_option maxHeartbeats 400000000 in
theorem refDecC_any {w : World} {P : Option Addr} {n cp : Nat} {ps : List UInt8} (h : Sl w P n (bvs ps)) (hc : n ≤ cp) (hb : ∀ y ∈ blks P, y < w.heap.size) (hn : n ≤ 1000000000000) :
    Calls Tryz.prog 29 #[.slice P n cp] w (DecCA w ps) := by
  have o0 : Only [] w (w.alloc (.cells zeroC 29)) := (Only.refl [] w).alloc _
  obtain ⟨kb, hkb, R0⟩ := Rr.sliceC (w.alloc (.cells zeroC 29)) (c := cp) (h.keep o0) hc (fun y hy => by have := hb y hy; rw [World.size_alloc]; omega) hn (by rw [World.size_alloc]; omega)
  rw [World.size_alloc] at hkb R0
  have HR0 := Lib.hid R0
  have HX0 := Lib.hid ((Bk.new w 29 zeroC).alloc (.cells #[.slice P n cp, .bool false] 148))
  have HO0 := Lib.hid (o0.alloc (.cells #[.slice P n cp, .bool false] 148))
  have HSP := Lib.hid h
  have hgs : w.heap.size + 1 < ((w.alloc (.cells zeroC 29)).alloc (.cells #[.slice P n cp, .bool false] 148)).heap.size := by rw [World.size_alloc, World.size_alloc]; omega
  unfold zeroC at HR0 HX0 HO0 hgs
  obtain ⟨v0, hv0⟩ : ∃ v, tv (false, ps) = v := ⟨_, rfl⟩
  obtain ⟨s1, hs1⟩ : ∃ q, tk (false, ps) = q := ⟨_, rfl⟩
  obtain ⟨tps, htps⟩ : ∃ t, St ps = t := ⟨_, rfl⟩
  obtain ⟨us, hus⟩ : ∃ y, rv s1 = y := ⟨_, rfl⟩
  obtain ⟨nu, hnu⟩ : ∃ m, us.length = m := ⟨_, rfl⟩
  obtain ⟨tu, htu⟩ : ∃ t, St us = t := ⟨_, rfl⟩
  obtain ⟨s2, hs2⟩ : ∃ q, rk s1 = q := ⟨_, rfl⟩
  obtain ⟨pw, hpw⟩ : ∃ y, rv s2 = y := ⟨_, rfl⟩
  obtain ⟨np, hnp⟩ : ∃ m, pw.length = m := ⟨_, rfl⟩
  obtain ⟨tp, htp⟩ : ∃ t, St pw = t := ⟨_, rfl⟩
  obtain ⟨s3, hs3⟩ : ∃ q, rk s2 = q := ⟨_, rfl⟩
  obtain ⟨bx, hbx⟩ : ∃ y, rv s3 = y := ⟨_, rfl⟩
  obtain ⟨nb, hnb⟩ : ∃ m, bx.length = m := ⟨_, rfl⟩
  obtain ⟨tb, htb⟩ : ∃ t, St bx = t := ⟨_, rfl⟩
  obtain ⟨s4, hs4⟩ : ∃ q, rk s3 = q := ⟨_, rfl⟩
  obtain ⟨to, hto⟩ : ∃ y, rv s4 = y := ⟨_, rfl⟩
  obtain ⟨nt, hnt⟩ : ∃ m, to.length = m := ⟨_, rfl⟩
  obtain ⟨tt, htt⟩ : ∃ t, St to = t := ⟨_, rfl⟩
  obtain ⟨s5, hs5⟩ : ∃ q, rk s4 = q := ⟨_, rfl⟩
  obtain ⟨v1, hv1⟩ : ∃ v, tv s5 = v := ⟨_, rfl⟩
  obtain ⟨s6, hs6⟩ : ∃ q, tk s5 = q := ⟨_, rfl⟩
  have HB6 : Hid (cs6 ps = s6) := by show _ = _; rw [← hs6, ← hs5, ← hs4, ← hs3, ← hs2, ← hs1]; rfl
  have HCN : Hid (ccnt ps = v1) := by show _ = _; rw [← hv1, ← hs5, ← hs4, ← hs3, ← hs2, ← hs1]; rfl
  have HCH : Hid (∀ k, chOf ps k = ⟨v0, us, pw, bx, to, takeU k (cs6 ps), tv (cs7 ps k), tv (cs8 ps k), tv (cs9 ps k), rv (cs10 ps k)⟩) := fun k => by
    rw [← hv0, ← hus, ← hpw, ← hbx, ← hto, ← hs4, ← hs3, ← hs2, ← hs1]; rfl
  have HN0 := Lib.hid (fun (W : World) (hr : Rr W (w.heap.size + 1) kb P cp false ps) => by
    have hh := refRNum_any hr
    unfold TookNumR at hh
    have e : takeV false ps = v0.toNat := by rw [← hv0]; rfl
    exact hh)
  have HR1 := Lib.hid (fun (W : World) (pb : Nat) (hr : RC w (w.heap.size + 1) kb pb #[.int .i64 v0, .string ⟨#[]⟩, .string ⟨#[]⟩, .string ⟨#[]⟩, .string ⟨#[]⟩, .slice none 0 0, .int .i64 0, .int .i64 0, .int .i64 0, .slice none 0 0] none 0 0 [] s1 W) => hr.row hus hnu hs2)
  have HC1 := Lib.hid (fun (W : World) (A' : Option Addr) (c' : Nat) (hs : Sl W A' nu (bvs us)) => by
    have hh := str_atC hs c'
    rw [htu] at hh
    exact hh)
  have HR2 := Lib.hid (fun (W : World) (pb : Nat) (hr : RC w (w.heap.size + 1) kb pb #[.int .i64 v0, .string tu, .string ⟨#[]⟩, .string ⟨#[]⟩, .string ⟨#[]⟩, .slice none 0 0, .int .i64 0, .int .i64 0, .int .i64 0, .slice none 0 0] none 0 0 [] s2 W) => hr.row hpw hnp hs3)
  have HC2 := Lib.hid (fun (W : World) (A' : Option Addr) (c' : Nat) (hs : Sl W A' np (bvs pw)) => by
    have hh := str_atC hs c'
    rw [htp] at hh
    exact hh)
  have HR3 := Lib.hid (fun (W : World) (pb : Nat) (hr : RC w (w.heap.size + 1) kb pb #[.int .i64 v0, .string tu, .string tp, .string ⟨#[]⟩, .string ⟨#[]⟩, .slice none 0 0, .int .i64 0, .int .i64 0, .int .i64 0, .slice none 0 0] none 0 0 [] s3 W) => hr.row hbx hnb hs4)
  have HC3 := Lib.hid (fun (W : World) (A' : Option Addr) (c' : Nat) (hs : Sl W A' nb (bvs bx)) => by
    have hh := str_atC hs c'
    rw [htb] at hh
    exact hh)
  have HR4 := Lib.hid (fun (W : World) (pb : Nat) (hr : RC w (w.heap.size + 1) kb pb #[.int .i64 v0, .string tu, .string tp, .string tb, .string ⟨#[]⟩, .slice none 0 0, .int .i64 0, .int .i64 0, .int .i64 0, .slice none 0 0] none 0 0 [] s4 W) => hr.row hto hnt hs5)
  have HC4 := Lib.hid (fun (W : World) (A' : Option Addr) (c' : Nat) (hs : Sl W A' nt (bvs to)) => by
    have hh := str_atC hs c'
    rw [htt] at hh
    exact hh)
  have HN5 := Lib.hid (fun (W : World) (pb : Nat) (hr : RC w (w.heap.size + 1) kb pb #[.int .i64 v0, .string tu, .string tp, .string tb, .string tt, .slice none 0 0, .int .i64 0, .int .i64 0, .int .i64 0, .slice none 0 0] none 0 0 [] s5 W) => hr.num hv1 hs6)
  have hv1p : 0 ≤ v1 := by rw [← hv1]; unfold tv; omega
  have HV0 : Hid (((takeV false ps : Nat) : Int) = v0) := by show _ = _; rw [← hv0]; rfl
  have HS1 : Hid ((takeBad false ps, takeRest false ps) = s1) := hs1
  have HTP := Lib.hid htps
  have HTU := Lib.hid htu
  have HTA := Lib.hid htp
  have HTB := Lib.hid htb
  have HTT := Lib.hid htt
  have HLN : Hid (us.length ≤ 1000000000000 ∧ pw.length ≤ 1000000000000 ∧ bx.length ≤ 1000000000000 ∧ to.length ≤ 1000000000000) := by
    have e0 : ps.length = n := by simpa using h.len
    have a1 := tk_lenC (false, ps)
    have a2 := rk_lenC s1
    have a3 := rk_lenC s2
    have a4 := rk_lenC s3
    have q1 := rv_lenC s1
    have q2 := rv_lenC s2
    have q3 := rv_lenC s3
    have q4 := rv_lenC s4
    rw [hs1] at a1
    rw [hs2] at a2
    rw [hs3] at a3
    rw [hs4] at a4
    rw [hus] at q1
    rw [hpw] at q2
    rw [hbx] at q3
    rw [hto] at q4
    dsimp only at a1
    refine ⟨?_, ?_, ?_, ?_⟩ <;> omega
  clear h o0 hv0 hs1 htps hv1 hs6 R0 hb hus hnu htu hs2 hpw hnp htp hs3 hbx hnb htb hs4 hto hnt htt hs5
  go_enter Tryz.func29, Tryz.ntmps29
  go_wp2_with (first
    | (go_at_call 74; refine (HN5.out _ w2.heap.size J6).mono ?_; rintro e w7 ⟨rfl, J7, O7⟩)
    | (go_at_call 75; refine (HR4.out _ w2.heap.size J5).mono ?_; rintro e w6 ⟨P6, cp6, rfl, V6, F6, K6, O6⟩; have cv6 := HC4.out w6 P6 cp6 V6.sl; have J6 : RC w (w.heap.size + 1) kb w2.heap.size #[.int .i64 v0, .string tu, .string tp, .string tb, .string tt, .slice none 0 0, .int .i64 0, .int .i64 0, .int .i64 0, .slice none 0 0] none 0 0 [] s5 (w6.setCell ⟨w2.heap.size, 4, none⟩ (.string tt)) := (by simpa using K6.set 4 (.string tt)); have f6 := K6.bx.free 4; have l6 := K6.bx.lt; have c6 := (bk_ten K6.bx).2.2.2.2.1)
    | (go_at_call 75; refine (HR3.out _ w2.heap.size J4).mono ?_; rintro e w5 ⟨P5, cp5, rfl, V5, F5, K5, O5⟩; have cv5 := HC3.out w5 P5 cp5 V5.sl; have J5 : RC w (w.heap.size + 1) kb w2.heap.size #[.int .i64 v0, .string tu, .string tp, .string tb, .string ⟨#[]⟩, .slice none 0 0, .int .i64 0, .int .i64 0, .int .i64 0, .slice none 0 0] none 0 0 [] s4 (w5.setCell ⟨w2.heap.size, 3, none⟩ (.string tb)) := (by simpa using K5.set 3 (.string tb)); have f5 := K5.bx.free 3; have l5 := K5.bx.lt; have c5 := (bk_ten K5.bx).2.2.2.1)
    | (go_at_call 75; refine (HR2.out _ w2.heap.size J3).mono ?_; rintro e w4 ⟨P4, cp4, rfl, V4, F4, K4, O4⟩; have cv4 := HC2.out w4 P4 cp4 V4.sl; have J4 : RC w (w.heap.size + 1) kb w2.heap.size #[.int .i64 v0, .string tu, .string tp, .string ⟨#[]⟩, .string ⟨#[]⟩, .slice none 0 0, .int .i64 0, .int .i64 0, .int .i64 0, .slice none 0 0] none 0 0 [] s3 (w4.setCell ⟨w2.heap.size, 2, none⟩ (.string tp)) := (by simpa using K4.set 2 (.string tp)); have f4 := K4.bx.free 2; have l4 := K4.bx.lt; have c4 := (bk_ten K4.bx).2.2.1)
    | (go_at_call 75; go_must (refine (HR1.out _ w2.heap.size J2).mono ?_); rintro e w3 ⟨P3, cp3, rfl, V3, F3, K3, O3⟩; have cv3 := HC1.out w3 P3 cp3 V3.sl; have J3 : RC w (w.heap.size + 1) kb w2.heap.size #[.int .i64 v0, .string tu, .string ⟨#[]⟩, .string ⟨#[]⟩, .string ⟨#[]⟩, .slice none 0 0, .int .i64 0, .int .i64 0, .int .i64 0, .slice none 0 0] none 0 0 [] s2 (w3.setCell ⟨w2.heap.size, 1, none⟩ (.string tu)) := (by simpa using K3.set 1 (.string tu)); have f3 := K3.bx.free 1; have l3 := K3.bx.lt; have c3 := (bk_ten K3.bx).2.1)
    | (go_at_call 74; go_must (refine (HN0.out _ HR0.out).mono ?_); rintro e w2 ⟨rfl, A2, c2, R2, O2⟩; rw [HV0.out]; have hz2 := O2.size; have J2 : RC w (w.heap.size + 1) kb w2.heap.size #[.int .i64 v0, .string ⟨#[]⟩, .string ⟨#[]⟩, .string ⟨#[]⟩, .string ⟨#[]⟩, .slice none 0 0, .int .i64 0, .int .i64 0, .int .i64 0, .slice none 0 0] none 0 0 [] s1 (w2.alloc (.cells #[.int .i64 v0, .string ⟨#[]⟩, .string ⟨#[]⟩, .string ⟨#[]⟩, .string ⟨#[]⟩, .slice none 0 0, .int .i64 0, .int .i64 0, .int .i64 0, .slice none 0 0] 29)) := ⟨⟨A2, c2, by rw [← HS1.out]; exact R2.keep ((Only.refl [] w2).alloc _)⟩, Bk.new w2 _ _, Own.nil _ _, (fun y hy => by simp at hy), (HX0.out.only O2 (by simp)).alloc _, (HO0.out.trans O2 (fun y hy => .inr (by simp at hy; omega))).alloc _, ⟨by omega, by omega, by omega, by omega⟩⟩))
  have H0 : Hid (RCK w (w.heap.size + 1) kb w2.heap.size (fun a => #[.int .i64 v0, .string tu, .string tp, .string tb, .string tt, a, .int .i64 0, .int .i64 0, .int .i64 0, .slice none 0 0]) s6 0 w7) := ⟨none, 0, J7⟩
  clear J2 J3 J4 J5 J6 J7 K3 K4 K5 K6 O2 O3 O4 O5 O6 O7 f3 f4 f5 f6 l3 l4 l5 l6 c3 c4 c5 c6 cv3 cv4 cv5 cv6 V3 V4 V5 V6 F3 F4 F5 F6 R2 hz2 HR0 HX0 HO0 HN0 HR1 HR2 HR3 HR4 HC1 HC2 HC3 HC4 HN5
  generalize w2.heap.size = pb at *
  obtain ⟨i0, hi, hz0, hz1, hz2⟩ := info_parts infoInt
  go_loopw [7] (fun iv wr => ∃ k : Nat, iv = .int .i64 (k : Int) ∧ (k : Int) ≤ v1 ∧ k ≤ 25 ∧ Hid (RCK w (w.heap.size + 1) kb pb (fun a => #[.int .i64 v0, .string tu, .string tp, .string tb, .string tt, a, .int .i64 0, .int .i64 0, .int .i64 0, .slice none 0 0]) s6 k wr)) (fun iv _ => 25 - (intOf iv).toNat)
  case atStart => exact ⟨0, rfl, hv1p, by omega, H0.out⟩
  case round =>
    obtain ⟨k, rfl, hk, hk25, HK⟩ := hrel
    obtain ⟨A, c, J⟩ := HK.out
    obtain ⟨s, hs⟩ : ∃ s, restU k s6 = s := ⟨_, rfl⟩
    obtain ⟨l, hl⟩ : ∃ l, takeU k s6 = l := ⟨_, rfl⟩
    have hlen : l.length = k := by rw [← hl]; have := J.ul.len; simpa [ivs] using this
    rw [hs, hl] at J
    obtain ⟨bd, hbd⟩ : ∃ b, s.1 = b := ⟨_, rfl⟩
    obtain ⟨Ar, cr, R⟩ := J.rd
    have e1 : wr.cell? ⟨w.heap.size + 1, 1, none⟩ = some (.bool bd) := by rw [← hbd]; exact R.cell1
    have gl := R.bk.lt
    by_cases hgo : (k : Int) < v1 ∧ bd = false ∧ k ≤ 24
    · obtain ⟨hg1, rfl, hg3⟩ := hgo
      have hg3' : (k : Int) ≤ 24 := by omega
      obtain ⟨u, hu⟩ : ∃ u, tv s = u := ⟨_, rfl⟩
      have HTV := Lib.hid hu
      have hsuc := takeU_succ k s6 (by rw [hs]; exact hbd)
      rw [hs, hl, hu] at hsuc
      have HSUC := Lib.hid hsuc
      have ha := J.ap
      have HAP : Hid (pb ≠ w.heap.size + 1 ∧ pb ≠ kb ∧ kb ∉ blks A) := ⟨ha.1, by omega, fun hh => by have := J.uf _ hh; omega⟩
      have HJ := Lib.hid J
      have HRR := Lib.hid R
      have HMM : Hid (25 - (intOf (.int .i64 ((k : Int) + 1))).toNat < 25 - (intOf (.int .i64 (k : Int))).toNat) := by
        show _ < _
        simp [intOf]
        omega
      clear hu hsuc J R HK hs hl hbd ha hlen
      go_wp2_with fail
      apply region_inv (DecN wr (w.heap.size + 1) kb pb (fun a => #[.int .i64 v0, .string tu, .string tp, .string tb, .string tt, a, .int .i64 0, .int .i64 0, .int .i64 0, .slice none 0 0]) Ar cr s A k c l u) (by kernel_rfl) (by kernel_rfl) (fun vs => DecN.start HRR.out HJ.out.bx HJ.out.ul vs)
      intro vs
      apply inv_val
      case hw => rfl
      case hI => intro L wS hI; exact hI.pure (by decide)
      case hy => intro L wS hI; skip; first | (go_simp; done) | (go_simp; with_reducible rfl)
      case' hk => skip
      try simp only [Act.put, List.setIfInBounds_toArray, List.set_cons_zero, List.set_cons_succ]
      apply inv_load2
      case hw => rfl
      case hI => intro L wS hI; exact hI.pure (by decide)
      case hy => intro L wS hI hL; have hb : Bk wS pb 29 #[.int .i64 v0, .string tu, .string tp, .string tb, .string tt, .slice A k c, .int .i64 0, .int .i64 0, .int .i64 0, .slice none 0 0] := hI.load hL; have k5 := (bk_ten hb).2.2.2.2.2.1; first | (go_simp; done) | (go_simp; with_reducible rfl)
      case' hk => skip
      try simp only [Act.put, List.setIfInBounds_toArray, List.set_cons_zero, List.set_cons_succ]
      apply inv_val
      case hw => rfl
      case hI => intro L wS hI; exact hI.pure (by decide)
      case hy => intro L wS hI; skip; first | (go_simp; done) | (go_simp; with_reducible rfl)
      case' hk => skip
      try simp only [Act.put, List.setIfInBounds_toArray, List.set_cons_zero, List.set_cons_succ]
      apply inv_op
      case hw => rfl
      case hy =>
        intro L wS hI hL hw
        refine gives_call (f := 74) (args := #[.pointer (some ⟨w.heap.size + 1, 0, none⟩)]) ?_ ?_
        · first | (go_simp; done) | (go_simp; with_reducible rfl)
        · exact (refRNum_any (hI.2.2.1.1 hL)).mono fun e w' he => by
            obtain ⟨u2, e1, h2⟩ := hI.took hL HAP.out.1 he HTV.out
            exact ⟨u2, e1, h2, trivial⟩
      case' hk => skip
      try simp only [Act.put, List.setIfInBounds_toArray, List.set_cons_zero, List.set_cons_succ]
      apply inv_op
      case hw => rfl
      case hy =>
        intro L wS hI hL hw
        obtain ⟨e3, hh⟩ := hI.laid hL (hw 3 (by kernel_rfl))
        refine gives_value (u := .slice (some ⟨wS.heap.size, 0, none⟩) 1 1) (w' := wS.alloc (.cells #[.int .i64 u] 3)) ?_ hh trivial
        rw [e3]
        first | (go_simp; done) | (go_simp; with_reducible rfl)
      case' hk => skip
      try simp only [Act.put, List.setIfInBounds_toArray, List.set_cons_zero, List.set_cons_succ]
      apply inv_op
      case hw => rfl
      case hy =>
        intro L wS hI hL hw
        have h4 := hw 4 (by kernel_rfl)
        have h1 := hw 1 (by kernel_rfl)
        obtain ⟨O5, hm⟩ := hI.2.2.2.2.1 hL
        obtain ⟨k4, e4, B4⟩ := hm h4
        rw [e4]
        exact gives_append_sl (.tmp 51) (.tmp 54) 26 rfl 3 i0 (.int .i64 0) 8 Tryz.underlying26 hi hz0 hz1 hz2 rfl A k c (ivs l) rfl O5 (some ⟨k4, 0, none⟩) 1 1 [.int .i64 u] rfl (Sl.of_bk B4) (fun x hx => by simp at hx; subst hx; rfl) (by unfold maxLen; omega) (by omega) fun A' c' w' h5 h6 h7 => ⟨hI.more hL h1 h4 HAP.out.2.2 h6 (by simpa [ivs] using h5) h7, trivial⟩
      case' hk => skip
      try simp only [Act.put, List.setIfInBounds_toArray, List.set_cons_zero, List.set_cons_succ]
      apply inv_val
      case hw => rfl
      case hI => intro L wS hI; exact hI.pure (by decide)
      case hy => intro L wS hI; skip; first | (go_simp; done) | (go_simp; with_reducible rfl)
      case' hk => skip
      try simp only [Act.put, List.setIfInBounds_toArray, List.set_cons_zero, List.set_cons_succ]
      apply inv_op
      case hw => rfl
      case hy =>
        intro L wS hI hL hw
        obtain ⟨A', c', e5, hb0, hs⟩ := hI.store hL (hw 5 (by kernel_rfl)) HAP.out.1 HAP.out.2.1 (fun a b => by simp) (u := vs 7)
        have hb : Bk wS pb 29 #[.int .i64 v0, .string tu, .string tp, .string tb, .string tt, .slice A k c, .int .i64 0, .int .i64 0, .int .i64 0, .slice none 0 0] := hb0
        obtain ⟨k0, k1, k2, k3, k4, k5, k6, k7, k8, k9⟩ := bk_ten hb
        have fz5 := hb.free 5
        have hg := hb.lt
        rw [e5]
        refine gives_skip ?_ hs trivial
        go_simp
      case' hk => skip
      try simp only [Act.put]
      refine inv_end ?_
      intro L w8 hall hI
      obtain ⟨A', c', A2, c2, e5, R8, B8, V8, F8, O8⟩ := hI.end_ (hall 3 (by decide)) (hall 5 (by decide)) (hall 7 (by decide))
      clear hall hI
      rw [e5]
      clear e5
      go_wp2_with fail
      have ha := HJ.out.ap
      have hpl := HJ.out.bx.lt
      have hnA : w.heap.size ∉ blks A := fun hh => Nat.lt_irrefl _ (HJ.out.uf _ hh)
      refine ⟨⟨k + 1, by simp, by omega, by omega, ⟨A', c', ?_⟩⟩, HMM.out⟩
      rw [HSUC.out.1, HSUC.out.2]
      exact ⟨⟨A2, c2, R8⟩, B8, V8, fun y hy => (F8 y hy).elim (HJ.out.uf y) (fun h => by omega), HJ.out.xc.only O8 (fun hh => by rcases List.mem_cons.1 hh with hh | hh; omega; rcases List.mem_cons.1 hh with hh | hh; omega; exact hnA hh), HJ.out.on.trans O8 (fun y hy => .inr (by simp at hy; rcases hy with rfl | rfl | hy; omega; omega; have := HJ.out.uf y hy; omega)), ha⟩
    · have hno : (k : Int) = v1 ∨ s.1 = true ∨ k = 25 := by
        rw [hbd]
        cases bd
        · simp at hgo
          omega
        · exact .inr (.inl rfl)
      have hcase : ¬ (k : Int) < v1 ∨ ((k : Int) < v1 ∧ bd = true) ∨ ((k : Int) < v1 ∧ bd = false ∧ ¬ (k : Int) ≤ 24) := by
        cases bd
        · simp at hgo ⊢
          omega
        · simp
          omega
      have hs7 : cs7 ps k = s := by unfold cs7; rw [HB6.out]; exact hs
      have hex := chO_ref (p := ps) (k := k) (by rw [HCN.out]; exact hk) hk25 (by rw [HCN.out, hs7]; exact hno) (by rw [HB6.out, hl]; exact hlen)
      obtain ⟨m, hm⟩ : ∃ u, tv s = u := ⟨_, rfl⟩
      obtain ⟨q1, hq1⟩ : ∃ q, tk s = q := ⟨_, rfl⟩
      obtain ⟨f, hf⟩ : ∃ u, tv q1 = u := ⟨_, rfl⟩
      obtain ⟨q2, hq2⟩ : ∃ q, tk q1 = q := ⟨_, rfl⟩
      obtain ⟨d, hd⟩ : ∃ u, tv q2 = u := ⟨_, rfl⟩
      obtain ⟨q3, hq3⟩ : ∃ q, tk q2 = q := ⟨_, rfl⟩
      obtain ⟨y, hy⟩ : ∃ y, rv q3 = y := ⟨_, rfl⟩
      obtain ⟨z, hz⟩ : ∃ z, y.length = z := ⟨_, rfl⟩
      obtain ⟨q4, hq4⟩ : ∃ q, rk q3 = q := ⟨_, rfl⟩
      have hs8 : cs8 ps k = q1 := by unfold cs8; rw [hs7, hq1]
      have hs9 : cs9 ps k = q2 := by unfold cs9; rw [hs8, hq2]
      have hs10 : cs10 ps k = q3 := by unfold cs10; rw [hs9, hq3]
      have hs11 : cs11 ps k = q4 := by unfold cs11; rw [hs10, hq4]
      have hch : chOf ps k = ⟨v0, us, pw, bx, to, l, m, f, d, y⟩ := by rw [HCH.out k, HB6.out, hl, hs7, hm, hs8, hf, hs9, hd, hs10, hy]
      rw [hs11, hch] at hex
      have HCK := Lib.hid hch
      have HN6 := Lib.hid (J.num hm hq1)
      have HN7 := Lib.hid (fun (W : World) (hr : RC w (w.heap.size + 1) kb pb #[.int .i64 v0, .string tu, .string tp, .string tb, .string tt, .slice A k c, .int .i64 m, .int .i64 0, .int .i64 0, .slice none 0 0] A k c l q1 W) => hr.num hf hq2)
      have HN8 := Lib.hid (fun (W : World) (hr : RC w (w.heap.size + 1) kb pb #[.int .i64 v0, .string tu, .string tp, .string tb, .string tt, .slice A k c, .int .i64 m, .int .i64 f, .int .i64 0, .slice none 0 0] A k c l q2 W) => hr.num hd hq3)
      have HR9 := Lib.hid (fun (W : World) (hr : RC w (w.heap.size + 1) kb pb #[.int .i64 v0, .string tu, .string tp, .string tb, .string tt, .slice A k c, .int .i64 m, .int .i64 f, .int .i64 d, .slice none 0 0] A k c l q3 W) => hr.row hy hz hq4)
      obtain ⟨wh, hwh⟩ : ∃ b, wholeS q4 = b := ⟨_, rfl⟩
      have HWH := Lib.hid (fun (W : World) (Ar : Option Addr) (cr : Nat) (hr : Rr W (w.heap.size + 1) kb Ar cr q4.1 q4.2) => by
        have hh := refWhole_any hr
        have e : (!q4.1 && decide (q4.2 = [])) = wh := hwh
        rw [e] at hh
        exact hh)
      rw [hwh] at hex
      have HE0 := fun (W : World) (P : Option Addr) (cp : Nat) (hU : Sl W A k (ivs l)) (hB : Sl W P z (bvs y)) => by
        have hh := refEncC_any (w := W) ⟨v0, us, pw, bx, to, l, m, f, d, y⟩ (A := A) (B := P) (ca := c) (cb := cp) (by show Sl _ _ l.length _; rw [hlen]; exact hU) (by show Sl _ _ y.length _; rw [hz]; exact hB) (by show l.length ≤ _; omega) (by have := HLN.out; exact ⟨by show us.length ≤ _; omega, by show pw.length ≤ _; omega, by show bx.length ≤ _; omega, by show to.length ≤ _; omega⟩)
        unfold chv at hh
        simp only [HTU.out, HTA.out, HTB.out, HTT.out, hlen, hz] at hh
        exact hh
      have HZ := Lib.hid hz
      have HLL := Lib.hid hlen
      have HOO := Lib.hid J.on
      have HXC := Lib.hid J.xc
      have HJ := Lib.hid J
      have hap := J.ap
      clear hgo hno HK J R hs hl hm hq1 hf hq2 hd hq3 hy hz hq4 hs7 hs8 hs9 hs10 hs11 hch hwh hbd hlen
      obtain ⟨b0, b1, b2, b3, b4, b5, b6, b7, b8, b9⟩ := bk_ten HJ.out.bx
      rcases hex with ⟨rfl, hi1, hd1, he1⟩ | ⟨hwi, hd1⟩
      · have HE : Hid (∀ (W : World) (P : Option Addr) (cp : Nat), Sl W A k (ivs l) → Sl W P z (bvs y) → Calls Tryz.prog 27 #[.agg #[.int .i64 v0, .string tu, .string tp, .string tb, .string tt, .slice A k c, .int .i64 m, .int .i64 f, .int .i64 d, .slice P z cp]] W fun e w' => ∃ A' c', e = .returned (.tuple #[.slice A' n c', .int .i64 0]) ∧ Own w' 5 A' n c' (bvs ps) ∧ Only [] W w') := fun W P cp hU hB => by
          have hpl : ps.length = n := by simpa using HSP.out.len
          refine (HE0 W P cp hU hB).mono fun e w' h' => ?_
          rcases h' with ⟨_, A', c', e1, e2, e3, _⟩ | ⟨hf, _⟩
          · rw [he1, hpl] at e1 e2
            exact ⟨A', c', e1, e2, e3⟩
          · rw [hi1] at hf; cases hf
        have HD := Lib.hid hd1
        clear HE0 hi1 hd1 he1
        rcases hcase with h1 | ⟨h1, rfl⟩ | ⟨h1, rfl, h2⟩
        all_goals
          go_wp2_with (first
            | (go_at_call 76; refine (HWH.out _ _ _ R14).mono ?_; rintro e w15 ⟨rfl, rfl⟩)
            | (go_at_call 27; refine (HE.out _ P12 cp12 J13.ul.sl S13.sl).mono ?_; rintro e w14 ⟨A14, c14, rfl, V14, O14⟩; have R14 := R13.keep O14; have X14 := J13.xc.only O14 (by simp); unfold zeroC at X14; obtain ⟨x0, x1, x2, x3, x4, x5, x6, x7, x8, x9⟩ := bk_ten X14; have xf0 := X14.free 0; have xf1 := X14.free 1; have xf2 := X14.free 2; have xf3 := X14.free 3; have xf4 := X14.free 4; have xf5 := X14.free 5; have xf6 := X14.free 6; have xf7 := X14.free 7; have xf8 := X14.free 8; have xf9 := X14.free 9; have xl := X14.lt; have B14 := J13.bx.only O14 (by simp); have bl := B14.lt; clear b0 b1 b2 b3 b4 b5 b6 b7 b8 b9; obtain ⟨b0, b1, b2, b3, b4, b5, b6, b7, b8, b9⟩ := bk_ten B14; have cv1 := str_atC V14.sl c14; rw [HTP.out] at cv1; have cv2 := str_atC ((HSP.out.keep J13.on).keep O14) cp; rw [HTP.out] at cv2)
            | (go_at_call 75; refine (HR9.out _ J12).mono ?_; rintro e w12 ⟨P12, cp12, rfl, V12, F12, K13, O12⟩; have J13 : RC w (w.heap.size + 1) kb pb #[.int .i64 v0, .string tu, .string tp, .string tb, .string tt, .slice A k c, .int .i64 m, .int .i64 f, .int .i64 d, .slice P12 z cp12] A k c l q4 (w12.setCell ⟨pb, 9, none⟩ (.slice P12 z cp12)) := (by simpa using K13.set 9 (.slice P12 z cp12)); have S13 := V12.only (rs := [pb]) ((Only.refl [pb] w12).setCell (p := ⟨pb, 9, none⟩) (.inl (by simp)) (.slice P12 z cp12)) (fun y hy => (by obtain ⟨cu, q⟩ := V12.bk hy; simpa using q.ne K13.bx (by decide))); obtain ⟨A13, c13, R13⟩ := J13.rd; have f13 := K13.bx.free 9; have l13 := K13.bx.lt; clear b0 b1 b2 b3 b4 b5 b6 b7 b8 b9; obtain ⟨b0, b1, b2, b3, b4, b5, b6, b7, b8, b9⟩ := bk_ten K13.bx; have g13 := HJ.out.bx.lt)
            | (go_at_call 74; refine (HN8.out _ J11).mono ?_; rintro e w11 ⟨rfl, K12, O11⟩; have J12 : RC w (w.heap.size + 1) kb pb #[.int .i64 v0, .string tu, .string tp, .string tb, .string tt, .slice A k c, .int .i64 m, .int .i64 f, .int .i64 d, .slice none 0 0] A k c l q3 (w11.setCell ⟨pb, 8, none⟩ (.int .i64 d)) := (by simpa using K12.set 8 (.int .i64 d)); have f12 := K12.bx.free 8; have l12 := K12.bx.lt; clear b0 b1 b2 b3 b4 b5 b6 b7 b8 b9; obtain ⟨b0, b1, b2, b3, b4, b5, b6, b7, b8, b9⟩ := bk_ten K12.bx)
            | (go_at_call 74; refine (HN7.out _ J10).mono ?_; rintro e w10 ⟨rfl, K11, O10⟩; have J11 : RC w (w.heap.size + 1) kb pb #[.int .i64 v0, .string tu, .string tp, .string tb, .string tt, .slice A k c, .int .i64 m, .int .i64 f, .int .i64 0, .slice none 0 0] A k c l q2 (w10.setCell ⟨pb, 7, none⟩ (.int .i64 f)) := (by simpa using K11.set 7 (.int .i64 f)); have f11 := K11.bx.free 7; have l11 := K11.bx.lt; clear b0 b1 b2 b3 b4 b5 b6 b7 b8 b9; obtain ⟨b0, b1, b2, b3, b4, b5, b6, b7, b8, b9⟩ := bk_ten K11.bx)
            | (go_at_call 74; go_must (refine HN6.out.mono ?_); rintro e w9 ⟨rfl, K10, O9⟩; have J10 : RC w (w.heap.size + 1) kb pb #[.int .i64 v0, .string tu, .string tp, .string tb, .string tt, .slice A k c, .int .i64 m, .int .i64 0, .int .i64 0, .slice none 0 0] A k c l q1 (w9.setCell ⟨pb, 6, none⟩ (.int .i64 m)) := (by simpa using K10.set 6 (.int .i64 m)); have f10 := K10.bx.free 6; have l10 := K10.bx.lt; clear b0 b1 b2 b3 b4 b5 b6 b7 b8 b9; obtain ⟨b0, b1, b2, b3, b4, b5, b6, b7, b8, b9⟩ := bk_ten K10.bx))
          have OS := only_store10 (g := w.heap.size) (Only.refl [w.heap.size] w14) (.inl (by simp)) (.int .i64 v0) (.string tu) (.string tp) (.string tb) (.string tt) (.slice A k c) (.int .i64 m) (.int .i64 f) (.int .i64 d) (.slice P12 z cp12)
          have hUA := ((J13.ul.keep O14).only OS (fun y hy => by have := J13.uf y hy; simp; omega)).sl
          have hUB := ((S13.keep O14).only OS (fun y hy => by have := F12 y hy; have := J12.bx.lt; have := hap.2.2.2; simp; omega)).sl
          exact ch_ret (s := 2) (u := 3) (by kernel_rfl) w.heap.size (.int .i64 0) rfl rfl (bk_store10 X14 _ _ _ _ _ _ _ _ _ _) ⟨⟨v0, us, pw, bx, to, l, m, f, d, y⟩, A, c, P12, cp12, 0, by unfold chv; simp only [HTU.out, HTA.out, HTB.out, HTT.out, HLL.out, HZ.out], .inl ⟨HD.out, rfl⟩, by show Sl _ A l.length _; rw [HLL.out]; exact hUA, by show Sl _ P12 y.length _; rw [HZ.out]; exact hUB, only_store10 (J13.on.then O14) (.inr (Nat.le_refl _)) _ _ _ _ _ _ _ _ _ _⟩
      · have HD := Lib.hid hd1
        obtain ⟨ib, hib⟩ : ∃ b, isC ⟨v0, us, pw, bx, to, l, m, f, d, y⟩ = b := ⟨_, rfl⟩
        rw [hib] at hwi
        obtain ⟨q, hq⟩ : ∃ q : Int, (if ib = true then 0 else 1) = q := ⟨_, rfl⟩
        have HE : Hid (∀ (W : World) (P : Option Addr) (cp : Nat), Sl W A k (ivs l) → Sl W P z (bvs y) → Calls Tryz.prog 27 #[.agg #[.int .i64 v0, .string tu, .string tp, .string tb, .string tt, .slice A k c, .int .i64 m, .int .i64 f, .int .i64 d, .slice P z cp]] W fun e w' => ∃ A' ne c', e = .returned (.tuple #[.slice A' ne c', .int .i64 q]) ∧ Only [] W w') := fun W P cp hU hB => by
          refine (HE0 W P cp hU hB).mono fun e w' h' => ?_
          unfold EncCR at h'
          rw [hib] at h'
          rcases h' with ⟨h1, A', c', e1, _, e3, _⟩ | ⟨h1, e1, e3⟩
          · rw [h1, if_pos rfl] at hq
            subst hq
            exact ⟨A', _, c', e1, e3⟩
          · rw [h1, if_neg (by simp)] at hq
            subst hq
            exact ⟨_, _, _, e1, e3⟩
        have hq2 : wh = true → q ≠ 0 := fun e => by
          subst e
          have : ib = false := by simpa using hwi
          rw [this, if_neg (by simp)] at hq
          omega
        have hq3 : wh = false ∨ (wh = true ∧ (q != 0) = true) := by
          cases wh
          · exact .inl rfl
          · exact .inr ⟨rfl, by simpa using hq2 rfl⟩
        clear HE0 hq2 hq hwi hib hd1
        rcases hcase with h1 | ⟨h1, rfl⟩ | ⟨h1, rfl, h2⟩
        all_goals
          rcases hq3 with rfl | ⟨rfl, hq3⟩
          all_goals
            go_wp2_with (first
            | (go_at_call 76; refine (HWH.out _ _ _ R14).mono ?_; rintro e w15 ⟨rfl, rfl⟩)
            | (go_at_call 27; refine (HE.out _ P12 cp12 J13.ul.sl S13.sl).mono ?_; rintro e w14 ⟨A14, n14, c14, rfl, O14⟩; have R14 := R13.keep O14; have X14 := J13.xc.only O14 (by simp); unfold zeroC at X14; obtain ⟨x0, x1, x2, x3, x4, x5, x6, x7, x8, x9⟩ := bk_ten X14; have xf0 := X14.free 0; have xf1 := X14.free 1; have xf2 := X14.free 2; have xf3 := X14.free 3; have xf4 := X14.free 4; have xf5 := X14.free 5; have xf6 := X14.free 6; have xf7 := X14.free 7; have xf8 := X14.free 8; have xf9 := X14.free 9; have xl := X14.lt; have B14 := J13.bx.only O14 (by simp); have bl := B14.lt; clear b0 b1 b2 b3 b4 b5 b6 b7 b8 b9; obtain ⟨b0, b1, b2, b3, b4, b5, b6, b7, b8, b9⟩ := bk_ten B14)
            | (go_at_call 75; refine (HR9.out _ J12).mono ?_; rintro e w12 ⟨P12, cp12, rfl, V12, F12, K13, O12⟩; have J13 : RC w (w.heap.size + 1) kb pb #[.int .i64 v0, .string tu, .string tp, .string tb, .string tt, .slice A k c, .int .i64 m, .int .i64 f, .int .i64 d, .slice P12 z cp12] A k c l q4 (w12.setCell ⟨pb, 9, none⟩ (.slice P12 z cp12)) := (by simpa using K13.set 9 (.slice P12 z cp12)); have S13 := V12.only (rs := [pb]) ((Only.refl [pb] w12).setCell (p := ⟨pb, 9, none⟩) (.inl (by simp)) (.slice P12 z cp12)) (fun y hy => (by obtain ⟨cu, q⟩ := V12.bk hy; simpa using q.ne K13.bx (by decide))); obtain ⟨A13, c13, R13⟩ := J13.rd; have f13 := K13.bx.free 9; have l13 := K13.bx.lt; clear b0 b1 b2 b3 b4 b5 b6 b7 b8 b9; obtain ⟨b0, b1, b2, b3, b4, b5, b6, b7, b8, b9⟩ := bk_ten K13.bx; have g13 := HJ.out.bx.lt)
            | (go_at_call 74; refine (HN8.out _ J11).mono ?_; rintro e w11 ⟨rfl, K12, O11⟩; have J12 : RC w (w.heap.size + 1) kb pb #[.int .i64 v0, .string tu, .string tp, .string tb, .string tt, .slice A k c, .int .i64 m, .int .i64 f, .int .i64 d, .slice none 0 0] A k c l q3 (w11.setCell ⟨pb, 8, none⟩ (.int .i64 d)) := (by simpa using K12.set 8 (.int .i64 d)); have f12 := K12.bx.free 8; have l12 := K12.bx.lt; clear b0 b1 b2 b3 b4 b5 b6 b7 b8 b9; obtain ⟨b0, b1, b2, b3, b4, b5, b6, b7, b8, b9⟩ := bk_ten K12.bx)
            | (go_at_call 74; refine (HN7.out _ J10).mono ?_; rintro e w10 ⟨rfl, K11, O10⟩; have J11 : RC w (w.heap.size + 1) kb pb #[.int .i64 v0, .string tu, .string tp, .string tb, .string tt, .slice A k c, .int .i64 m, .int .i64 f, .int .i64 0, .slice none 0 0] A k c l q2 (w10.setCell ⟨pb, 7, none⟩ (.int .i64 f)) := (by simpa using K11.set 7 (.int .i64 f)); have f11 := K11.bx.free 7; have l11 := K11.bx.lt; clear b0 b1 b2 b3 b4 b5 b6 b7 b8 b9; obtain ⟨b0, b1, b2, b3, b4, b5, b6, b7, b8, b9⟩ := bk_ten K11.bx)
            | (go_at_call 74; go_must (refine HN6.out.mono ?_); rintro e w9 ⟨rfl, K10, O9⟩; have J10 : RC w (w.heap.size + 1) kb pb #[.int .i64 v0, .string tu, .string tp, .string tb, .string tt, .slice A k c, .int .i64 m, .int .i64 0, .int .i64 0, .slice none 0 0] A k c l q1 (w9.setCell ⟨pb, 6, none⟩ (.int .i64 m)) := (by simpa using K10.set 6 (.int .i64 m)); have f10 := K10.bx.free 6; have l10 := K10.bx.lt; clear b0 b1 b2 b3 b4 b5 b6 b7 b8 b9; obtain ⟨b0, b1, b2, b3, b4, b5, b6, b7, b8, b9⟩ := bk_ten K10.bx))
            exact ch_ret (s := 2) (u := 3) (by kernel_rfl) w.heap.size (.int .i64 3) rfl rfl (bk_store10 X14 _ _ _ _ _ _ _ _ _ _) ⟨zeroCh, none, 0, none, 0, 3, rfl, .inr ⟨HD.out, rfl, rfl⟩, (Own.nil _ 3).sl, (Own.nil _ 5).sl, only_store10 (J13.on.then O14) (.inr (Nat.le_refl _)) _ _ _ _ _ _ _ _ _ _⟩
end Go.Proofs.YtgnilldcfpgpaaaGreatDoor
namespace Go.Proofs.YtgnilldcfpgpaaaGreatDoor
open Go.RowKit Go.Maps
set_option maxRecDepth 100000 in
theorem bytes_there {W : World} {r : Reach} {b : Nat} {A : Option Addr} {n c : Nat} (hv : Value.okWide Tryz.prog W r b 27 (.slice A n c)) : ∀ x ∈ blks A, x < W.heap.size := by
  intro x hx
  cases A with
  | none => cases hx
  | some a =>
    simp only [Value.okWide, Tryz.underlying27, Cell.okWide, Cell.ok, World.has] at hv
    obtain ⟨_, _, _, _, row, cells, hs, _⟩ := hv
    rw [blks_some, List.mem_singleton] at hx
    subst hx
    unfold World.shape? at hs
    exact Decidable.byContradiction fun hge => by
      rw [Array.getElem?_eq_none (by omega)] at hs
      cases hs
theorem refDec_b {w : World} {P : Option Addr} {n cp : Nat} {ps : List UInt8} (h1 : Sl w P n (bvs ps)) (h2 : n ≤ cp) (h3 : ∀ y ∈ blks P, y < w.heap.size) (h4 : n ≤ 1000000000000) : Calls Tryz.prog 29 #[.slice P n cp] w (DecCB w ps) := refDecC_any h1 h2 h3 h4
end Go.Proofs.YtgnilldcfpgpaaaGreatDoor
