/-
  Texts of the seat, laid one behind the other: SDec SBack SBytes.
-/
import Derived.Test.YtgnilldcfpgpaaaGreatDoorY23
import Derived.Test.YtgnilldcfpgpaaaGreatDoorY12
import Derived.Test.YtgnilldcfpgpaaaGreatDoorY22
namespace Go.Proofs.YtgnilldcfpgpaaaGreatDoor
open Go.RowKit Go.Instr
def DecPA (w : World) (p : List UInt8) (e : Ending) (w' : World) : Prop :=
  ∃ c A ca B cb q, e = .returned (.tuple #[chv c A ca B cb, .int .i64 q]) ∧ ((chO p = some c ∧ q = 0) ∨ (chO p = none ∧ c = zeroCh ∧ q = 3)) ∧ Sl w' A c.uids.length (ivs c.uids) ∧ Sl w' B c.body.length (bvs c.body) ∧ Only [] w w' ∧ (∀ y ∈ blks A, w.heap.size ≤ y) ∧ ∀ y ∈ blks B, w.heap.size ≤ y
def RPK (w : World) (g kb pb pn : Nat) (f : Value → Array Value) (cn : Int) (s0 : RS) (W : World) : Prop :=
  ∃ (k : Nat) (A : Option Addr) (c : Nat), RP w g kb pb pn (f (.slice A k c)) A k c (takeU k s0) cn (restU k s0) W ∧ (k : Int) ≤ cn
theorem chN_bk {pb : Nat} {W : World} {t : TypeId} {a0 a1 a2 a3 a4 a6 a7 a8 a9 : Value} {A : Option Addr} {n d : Nat} (h : Bk W pb t #[a0, a1, a2, a3, a4, .slice A n d, a6, a7, a8, a9]) : chN pb W = n := by
  have h5 := (bk_ten h).2.2.2.2.2.1
  unfold chN
  rw [h5]
theorem whole_bad (s : RS) (h : s.1 = true) : wholeS (rk (tk (tk (tk s)))) = false := by
  cases e : (rk (tk (tk (tk s)))).1 with
  | true => unfold wholeS; rw [e]; rfl
  | false =>
    have := tk_bad (tk_bad (tk_bad (rk_bad e)))
    rw [h] at this
    cases this
set_option maxRecDepth 100000 in
set_option maxHeartbeats 1000000 in
theorem DecodeC_any {w : World} {P : Option Addr} {n cp : Nat} {ps : List UInt8} (h : Sl w P n (bvs ps)) (hn : n ≤ 1000000000000) (hT : TabN w) (hpos : 0 < w.heap.size) :
    Calls Tryz.prog 28 #[.slice P n cp] w (DecPA w ps) := by
  have o0 : Only [] w (w.alloc (.cells zeroC 29)) := (Only.refl [] w).alloc _
  have HNR := Lib.hid (newReader_any _ P n cp ps (h.keep o0) hn)
  have HX0 := Lib.hid (Bk.new w 29 zeroC)
  have HO0 := Lib.hid o0
  have HTB := Lib.hid (fun (W : World) (o : Only [] w W) => hT.keep o)
  have HPS := Lib.hid (fun (W : World) (o : Only [] w W) => Nat.lt_of_lt_of_le hpos o.size)
  unfold zeroC at HX0 HO0 HNR
  obtain ⟨v0, hv0⟩ : ∃ v, tv (false, ps) = v := ⟨_, rfl⟩
  obtain ⟨s1, hs1⟩ : ∃ q, tk (false, ps) = q := ⟨_, rfl⟩
  obtain ⟨us, hus⟩ : ∃ y, rv s1 = y := ⟨_, rfl⟩
  obtain ⟨tu, htu⟩ : ∃ t, St us = t := ⟨_, rfl⟩
  obtain ⟨s2, hs2⟩ : ∃ q, rk s1 = q := ⟨_, rfl⟩
  obtain ⟨pw, hpw⟩ : ∃ y, rv s2 = y := ⟨_, rfl⟩
  obtain ⟨tp, htp⟩ : ∃ t, St pw = t := ⟨_, rfl⟩
  obtain ⟨s3, hs3⟩ : ∃ q, rk s2 = q := ⟨_, rfl⟩
  obtain ⟨bx, hbx⟩ : ∃ y, rv s3 = y := ⟨_, rfl⟩
  obtain ⟨tb, htb⟩ : ∃ t, St bx = t := ⟨_, rfl⟩
  obtain ⟨s4, hs4⟩ : ∃ q, rk s3 = q := ⟨_, rfl⟩
  obtain ⟨to, hto⟩ : ∃ y, rv s4 = y := ⟨_, rfl⟩
  obtain ⟨tt, htt⟩ : ∃ t, St to = t := ⟨_, rfl⟩
  obtain ⟨s5, hs5⟩ : ∃ q, rk s4 = q := ⟨_, rfl⟩
  obtain ⟨v1, hv1⟩ : ∃ v, tv s5 = v := ⟨_, rfl⟩
  obtain ⟨s6, hs6⟩ : ∃ q, tk s5 = q := ⟨_, rfl⟩
  have HB6 : Hid (cs6 ps = s6) := by show _ = _; rw [← hs6, ← hs5, ← hs4, ← hs3, ← hs2, ← hs1]; rfl
  have HCN : Hid (ccnt ps = v1) := by show _ = _; rw [← hv1, ← hs5, ← hs4, ← hs3, ← hs2, ← hs1]; rfl
  have HCH : Hid (∀ k, chOf ps k = ⟨v0, us, pw, bx, to, takeU k (cs6 ps), tv (cs7 ps k), tv (cs8 ps k), tv (cs9 ps k), rv (cs10 ps k)⟩) := fun k => by
    rw [← hv0, ← hus, ← hpw, ← hbx, ← hto, ← hs4, ← hs3, ← hs2, ← hs1]; rfl
  have HK1 : Hid (∀ (W : World) (g kb pb pn z : Nat), W.heap.size = z → RP w g kb pb pn #[.int .i64 0, .string ⟨#[]⟩, .string ⟨#[]⟩, .string ⟨#[]⟩, .string ⟨#[]⟩, .slice none 0 0, .int .i64 0, .int .i64 0, .int .i64 0, .slice none 0 0] none 0 0 [] 0 (false, ps) W → Calls Tryz.prog 67 #[.pointer (some ⟨g, 0, none⟩), .slice (some ⟨z, 0, none⟩) 1 1] (W.alloc (.cells #[.pointer (some ⟨pb, 0, none⟩)] 144)) fun e w' => e = .returned (.tuple #[]) ∧ RP w g kb pb pn #[.int .i64 v0, .string ⟨#[]⟩, .string ⟨#[]⟩, .string ⟨#[]⟩, .string ⟨#[]⟩, .slice none 0 0, .int .i64 0, .int .i64 0, .int .i64 0, .slice none 0 0] none 0 0 [] 0 s1 w') := fun W g kb pb pn z hz hr => by
    subst hz
    exact (hr.num1 0 rfl hv0 hs1).mono fun e w' hh => ⟨hh.1, by simpa using hh.2⟩
  have HT1 := Lib.hid (fun (W : World) (g kb pb pn : Nat) (hr : RP w g kb pb pn #[.int .i64 v0, .string ⟨#[]⟩, .string ⟨#[]⟩, .string ⟨#[]⟩, .string ⟨#[]⟩, .slice none 0 0, .int .i64 0, .int .i64 0, .int .i64 0, .slice none 0 0] none 0 0 [] 0 s1 W) => hr.txt hus htu hs2)
  have HT2 := Lib.hid (fun (W : World) (g kb pb pn : Nat) (hr : RP w g kb pb pn #[.int .i64 v0, .string ⟨#[]⟩, .string ⟨#[]⟩, .string ⟨#[]⟩, .string ⟨#[]⟩, .slice none 0 0, .int .i64 0, .int .i64 0, .int .i64 0, .slice none 0 0] none 0 0 [] 0 s2 W) => hr.txt hpw htp hs3)
  have HT3 := Lib.hid (fun (W : World) (g kb pb pn : Nat) (hr : RP w g kb pb pn #[.int .i64 v0, .string ⟨#[]⟩, .string ⟨#[]⟩, .string ⟨#[]⟩, .string ⟨#[]⟩, .slice none 0 0, .int .i64 0, .int .i64 0, .int .i64 0, .slice none 0 0] none 0 0 [] 0 s3 W) => hr.txt hbx htb hs4)
  have HT4 := Lib.hid (fun (W : World) (g kb pb pn : Nat) (hr : RP w g kb pb pn #[.int .i64 v0, .string ⟨#[]⟩, .string ⟨#[]⟩, .string ⟨#[]⟩, .string ⟨#[]⟩, .slice none 0 0, .int .i64 0, .int .i64 0, .int .i64 0, .slice none 0 0] none 0 0 [] 0 s4 W) => hr.txt hto htt hs5)
  have HST : Hid (∀ (W : World) (g kb pb pn : Nat), RP w g kb pb pn #[.int .i64 v0, .string ⟨#[]⟩, .string ⟨#[]⟩, .string ⟨#[]⟩, .string ⟨#[]⟩, .slice none 0 0, .int .i64 0, .int .i64 0, .int .i64 0, .slice none 0 0] none 0 0 [] 0 s5 W → RP w g kb pb pn #[.int .i64 v0, .string tu, .string tp, .string tb, .string tt, .slice none 0 0, .int .i64 0, .int .i64 0, .int .i64 0, .slice none 0 0] none 0 0 [] 0 s5 ((((W.setCell ⟨pb, 1, none⟩ (.string tu)).setCell ⟨pb, 2, none⟩ (.string tp)).setCell ⟨pb, 3, none⟩ (.string tb)).setCell ⟨pb, 4, none⟩ (.string tt))) := fun W g kb pb pn hr => by simpa using (((hr.set 1 (.string tu)).set 2 (.string tp)).set 3 (.string tb)).set 4 (.string tt)
  have HN5 := Lib.hid (fun (W : World) (g kb pb pn z : Nat) (hz : W.heap.size = z) (hr : RP w g kb pb pn #[.int .i64 v0, .string tu, .string tp, .string tb, .string tt, .slice none 0 0, .int .i64 0, .int .i64 0, .int .i64 0, .slice none 0 0] none 0 0 [] 0 s5 W) => by
    have hh := hr.count hv1 hs6
    rw [hz] at hh
    exact hh)
  have hv1p : 0 ≤ v1 := by rw [← hv1]; unfold tv; omega
  have HTU := Lib.hid htu
  have HTA := Lib.hid htp
  have HTBX := Lib.hid htb
  have HTT := Lib.hid htt
  clear h o0 hv0 hs1 hv1 hs6 hT hpos hus htu hs2 hpw htp hs3 hbx htb hs4 hto htt hs5
  go_enter Tryz.func28, Tryz.ntmps28
  by_cases h24 : 24 < v1
  · have HD : Hid (chO ps = none) := by show _ = _; unfold chO; rw [if_pos (by rw [HCN.out]; exact h24)]
    go_wp2_with (first
        | (go_at_call 69; go_must (refine (bad_any R8).mono ?_); rintro e w9 ⟨rfl, R9, O9⟩; have J9 : RP w g kb w1.heap.size (w1.heap.size + 1) #[.int .i64 v0, .string tu, .string tp, .string tb, .string tt, .slice none 0 0, .int .i64 0, .int .i64 0, .int .i64 0, .slice none 0 0] none 0 0 [] v1 (true, []) w9 := ⟨⟨none, 0, R9⟩, J8.rb.step O9⟩)
        | (go_at_call 67; refine (HN5.out _ g kb w1.heap.size (w1.heap.size + 1) w6.heap.size (by simp) J7).mono ?_; clear HN5; rintro e w8 ⟨rfl, J8⟩; obtain ⟨A8, c8, R8⟩ := J8.rd; have n0 : w8.cell? ⟨w1.heap.size + 1, 0, none⟩ = some (.int .i64 v1) := J8.rb.nn.cell 0)
        | (go_at_call 68; refine (HT4.out _ g kb _ _ J5).mono ?_; clear HT4; rintro e w6 ⟨rfl, J6⟩; have J7 := HST.out _ g kb _ _ J6; obtain ⟨c0, c1, c2, c3, c4, c5, c6, c7, c8, c9⟩ := bk_ten J6.rb.bx; have f1 := J6.rb.bx.free 1; have f2 := J6.rb.bx.free 2; have f3 := J6.rb.bx.free 3; have f4 := J6.rb.bx.free 4; have lb := J6.rb.bx.lt)
        | (go_at_call 68; refine (HT3.out _ g kb _ _ J4).mono ?_; clear HT3; rintro e w5 ⟨rfl, J5⟩)
        | (go_at_call 68; refine (HT2.out _ g kb _ _ J3).mono ?_; clear HT2; rintro e w4 ⟨rfl, J4⟩)
        | (go_at_call 68; refine (HT1.out _ g kb _ _ J2).mono ?_; clear HT1; rintro e w3 ⟨rfl, J3⟩)
        | (go_at_call 67; refine (HK1.out _ g kb w1.heap.size (w1.heap.size + 1) (w1.heap.size + 1 + 1) (by simp) J1).mono ?_; clear HK1; rintro e w2 ⟨rfl, J2⟩)
        | (go_at_call 66; go_must (refine HNR.out.mono ?_); rintro e w1 ⟨g, kb, Ar, cr, rfl, hg, hkb, R1, O1⟩; rw [World.size_alloc] at hg hkb; have hgl := R1.bk.lt; have hkl := R1.lt; have J1 : RP w g kb w1.heap.size (w1.heap.size + 1) #[.int .i64 0, .string ⟨#[]⟩, .string ⟨#[]⟩, .string ⟨#[]⟩, .string ⟨#[]⟩, .slice none 0 0, .int .i64 0, .int .i64 0, .int .i64 0, .slice none 0 0] none 0 0 [] 0 (false, ps) ((w1.alloc (.cells #[.int .i64 0, .string ⟨#[]⟩, .string ⟨#[]⟩, .string ⟨#[]⟩, .string ⟨#[]⟩, .slice none 0 0, .int .i64 0, .int .i64 0, .int .i64 0, .slice none 0 0] 29)).alloc (.cells #[.int .i64 0] 3)) := ⟨⟨Ar, cr, (R1.keep ((Only.refl [] w1).alloc _)).keep ((Only.refl [] _).alloc _)⟩, ⟨(Bk.new w1 _ _).alloc _, Own.nil _ _, (by simp), (by have hh := Bk.new (w1.alloc (.cells #[.int .i64 0, .string ⟨#[]⟩, .string ⟨#[]⟩, .string ⟨#[]⟩, .string ⟨#[]⟩, .slice none 0 0, .int .i64 0, .int .i64 0, .int .i64 0, .slice none 0 0] 29)) 3 #[.int .i64 0]; rw [World.size_alloc] at hh; exact hh), (by simp), ((HX0.out.only O1 (by simp)).alloc _).alloc _, ((HO0.out.then O1).alloc _).alloc _, ⟨by omega, by omega, by omega, by omega, by simp, by omega, by omega, by omega, by omega, by simp⟩⟩⟩))
    have H0 : Hid (RP w g kb w1.heap.size (w1.heap.size + 1) #[.int .i64 v0, .string tu, .string tp, .string tb, .string tt, .slice none 0 0, .int .i64 0, .int .i64 0, .int .i64 0, .slice none 0 0] none 0 0 [] v1 (true, []) w9) := J9
    clear J1 J2 J3 J4 J5 J6 J7 J8 J9 R8 R9 O9 R1 O1 c0 c1 c2 c3 c4 c5 c6 c7 c8 c9 f1 f2 f3 f4 lb n0 hg hkb hgl hkl HNR HX0 HO0 HST
    generalize w1.heap.size + 1 = pn at *
    generalize w1.heap.size = pb at *
    go_loopw [] (fun wr => Hid (RP w g kb pb pn #[.int .i64 v0, .string tu, .string tp, .string tb, .string tt, .slice none 0 0, .int .i64 0, .int .i64 0, .int .i64 0, .slice none 0 0] none 0 0 [] v1 (true, []) wr)) (fun _ => 0)
    case atStart => exact H0.out
    case round =>
      have J := hrel.out
      obtain ⟨Ar, cr, R⟩ := J.rd
      have HG := Lib.hid (good_any R)
      obtain ⟨m, hm⟩ : ∃ u, tv ((true, []) : RS) = u := ⟨_, rfl⟩
      obtain ⟨q1, hq1⟩ : ∃ q, tk ((true, []) : RS) = q := ⟨_, rfl⟩
      obtain ⟨f, hf⟩ : ∃ u, tv q1 = u := ⟨_, rfl⟩
      obtain ⟨q2, hq2⟩ : ∃ q, tk q1 = q := ⟨_, rfl⟩
      obtain ⟨d, hd⟩ : ∃ u, tv q2 = u := ⟨_, rfl⟩
      obtain ⟨q3, hq3⟩ : ∃ q, tk q2 = q := ⟨_, rfl⟩
      obtain ⟨y, hy⟩ : ∃ y, rv q3 = y := ⟨_, rfl⟩
      obtain ⟨z, hz⟩ : ∃ z, y.length = z := ⟨_, rfl⟩
      obtain ⟨q4, hq4⟩ : ∃ q, rk q3 = q := ⟨_, rfl⟩
      obtain ⟨wh, hwh⟩ : ∃ b, wholeS q4 = b := ⟨_, rfl⟩
      have HN6 := Lib.hid ((J).nums3 (f := fun a b c' => #[.int .i64 v0, .string tu, .string tp, .string tb, .string tt, .slice none 0 0, .int .i64 a, .int .i64 b, .int .i64 c', .slice none 0 0]) (fun a b c' => ⟨rfl, rfl, rfl⟩) (fun a b c' z => by simp) (fun a b c' z => by simp) (fun a b c' z => by simp) hm hq1 hf hq2 hd hq3)
      have HR9 := Lib.hid (fun (W : World) (hr : RP w g kb pb pn #[.int .i64 v0, .string tu, .string tp, .string tb, .string tt, .slice none 0 0, .int .i64 m, .int .i64 f, .int .i64 d, .slice none 0 0] none 0 0 [] v1 q3 W) => hr.row hy hz hq4)
      have HWH := Lib.hid (fun (W : World) (Ar : Option Addr) (cr : Nat) (hr : Rd W g kb Ar cr q4.1 q4.2) => by
        have hh := whole_any hr
        have e : (!q4.1 && decide (q4.2 = [])) = wh := hwh
        rw [e] at hh
        exact hh)
      have HZ := Lib.hid hz
      have HJ := Lib.hid (J)
      have HJ11 : Hid (∀ (W : World), RP w g kb pb pn #[.int .i64 v0, .string tu, .string tp, .string tb, .string tt, .slice none 0 0, .int .i64 m, .int .i64 f, .int .i64 d, .slice none 0 0] none 0 0 [] v1 q3 W → w.heap.size < W.heap.size) := fun W hr => hr.rb.xc.lt
      obtain rfl : wh = false := by rw [← hwh, ← hq4, ← hq3, ← hq2, ← hq1]; exact whole_bad _ rfl
      clear hm hq1 hf hq2 hd hq3 hy hz hq4 hwh J R
      go_wp2_with (first
        | (go_at_call 73; refine (HWH.out _ _ _ R13).mono ?_; rintro e w13 ⟨rfl, rfl⟩; have X14 := J13.rb.xc; unfold zeroC at X14; obtain ⟨x0, x1, x2, x3, x4, x5, x6, x7, x8, x9⟩ := bk_ten X14; have xf0 := X14.free 0; have xf1 := X14.free 1; have xf2 := X14.free 2; have xf3 := X14.free 3; have xf4 := X14.free 4; have xf5 := X14.free 5; have xf6 := X14.free 6; have xf7 := X14.free 7; have xf8 := X14.free 8; have xf9 := X14.free 9; have xl := X14.lt)
        | (go_at_call 72; refine (HR9.out _ J11).mono ?_; rintro e w12 ⟨P12, cp12, rfl, V12, F12, K12⟩; have J13 : RP w g kb pb pn #[.int .i64 v0, .string tu, .string tp, .string tb, .string tt, .slice none 0 0, .int .i64 m, .int .i64 f, .int .i64 d, .slice P12 z cp12] none 0 0 [] v1 q4 (w12.setCell ⟨pb, 9, none⟩ (.slice P12 z cp12)) := (by simpa using K12.set 9 (.slice P12 z cp12)); have S13 := V12.only (rs := [pb]) ((Only.refl [pb] w12).setCell (p := ⟨pb, 9, none⟩) (.inl (by simp)) (.slice P12 z cp12)) (fun y hy => (by obtain ⟨cu, q⟩ := V12.bk hy; simpa using q.ne K12.rb.bx (by decide))); have L12 := K12.rb.bx.lt; obtain ⟨A13, c13, R13⟩ := J13.rd; obtain ⟨b0, b1, b2, b3, b4, b5, b6, b7, b8, b9⟩ := bk_ten K12.rb.bx; have bf9 := K12.rb.bx.free 9)
        | (go_at_call 67; refine HN6.out.mono ?_; rintro e w11 ⟨rfl, J11⟩)
        | (go_at_call 70; go_must (refine HG.out.mono ?_); rintro e w10 ⟨rfl, rfl⟩))
      exact ch_ret (s := 2) (u := 3) (by kernel_rfl) w.heap.size (.int .i64 3) rfl rfl (bk_store10 X14 _ _ _ _ _ _ _ _ _ _) ⟨zeroCh, none, 0, none, 0, 3, rfl, .inr ⟨HD.out, rfl, rfl⟩, (Own.nil _ 3).sl, (Own.nil _ 5).sl, only_store10 J13.rb.on (.inr (Nat.le_refl _)) _ _ _ _ _ _ _ _ _ _, (fun _ hy => nomatch hy), fun _ hy => nomatch hy⟩
  · go_wp2_with (first
        | (go_at_call 67; refine (HN5.out _ g kb w1.heap.size (w1.heap.size + 1) w6.heap.size (by simp) J7).mono ?_; clear HN5; rintro e w8 ⟨rfl, J8⟩; obtain ⟨A8, c8, R8⟩ := J8.rd; have n0 : w8.cell? ⟨w1.heap.size + 1, 0, none⟩ = some (.int .i64 v1) := J8.rb.nn.cell 0)
        | (go_at_call 68; refine (HT4.out _ g kb _ _ J5).mono ?_; clear HT4; rintro e w6 ⟨rfl, J6⟩; have J7 := HST.out _ g kb _ _ J6; obtain ⟨c0, c1, c2, c3, c4, c5, c6, c7, c8, c9⟩ := bk_ten J6.rb.bx; have f1 := J6.rb.bx.free 1; have f2 := J6.rb.bx.free 2; have f3 := J6.rb.bx.free 3; have f4 := J6.rb.bx.free 4; have lb := J6.rb.bx.lt)
        | (go_at_call 68; refine (HT3.out _ g kb _ _ J4).mono ?_; clear HT3; rintro e w5 ⟨rfl, J5⟩)
        | (go_at_call 68; refine (HT2.out _ g kb _ _ J3).mono ?_; clear HT2; rintro e w4 ⟨rfl, J4⟩)
        | (go_at_call 68; refine (HT1.out _ g kb _ _ J2).mono ?_; clear HT1; rintro e w3 ⟨rfl, J3⟩)
        | (go_at_call 67; refine (HK1.out _ g kb w1.heap.size (w1.heap.size + 1) (w1.heap.size + 1 + 1) (by simp) J1).mono ?_; clear HK1; rintro e w2 ⟨rfl, J2⟩)
        | (go_at_call 66; go_must (refine HNR.out.mono ?_); rintro e w1 ⟨g, kb, Ar, cr, rfl, hg, hkb, R1, O1⟩; rw [World.size_alloc] at hg hkb; have hgl := R1.bk.lt; have hkl := R1.lt; have J1 : RP w g kb w1.heap.size (w1.heap.size + 1) #[.int .i64 0, .string ⟨#[]⟩, .string ⟨#[]⟩, .string ⟨#[]⟩, .string ⟨#[]⟩, .slice none 0 0, .int .i64 0, .int .i64 0, .int .i64 0, .slice none 0 0] none 0 0 [] 0 (false, ps) ((w1.alloc (.cells #[.int .i64 0, .string ⟨#[]⟩, .string ⟨#[]⟩, .string ⟨#[]⟩, .string ⟨#[]⟩, .slice none 0 0, .int .i64 0, .int .i64 0, .int .i64 0, .slice none 0 0] 29)).alloc (.cells #[.int .i64 0] 3)) := ⟨⟨Ar, cr, (R1.keep ((Only.refl [] w1).alloc _)).keep ((Only.refl [] _).alloc _)⟩, ⟨(Bk.new w1 _ _).alloc _, Own.nil _ _, (by simp), (by have hh := Bk.new (w1.alloc (.cells #[.int .i64 0, .string ⟨#[]⟩, .string ⟨#[]⟩, .string ⟨#[]⟩, .string ⟨#[]⟩, .slice none 0 0, .int .i64 0, .int .i64 0, .int .i64 0, .slice none 0 0] 29)) 3 #[.int .i64 0]; rw [World.size_alloc] at hh; exact hh), (by simp), ((HX0.out.only O1 (by simp)).alloc _).alloc _, ((HO0.out.then O1).alloc _).alloc _, ⟨by omega, by omega, by omega, by omega, by simp, by omega, by omega, by omega, by omega, by simp⟩⟩⟩))
    have H0 : Hid (RPK w g kb w1.heap.size (w1.heap.size + 1) (fun a => #[.int .i64 v0, .string tu, .string tp, .string tb, .string tt, a, .int .i64 0, .int .i64 0, .int .i64 0, .slice none 0 0]) v1 s6 w8) := ⟨0, none, 0, J8, hv1p⟩
    clear J1 J2 J3 J4 J5 J6 J7 J8 R8 R1 O1 c0 c1 c2 c3 c4 c5 c6 c7 c8 c9 f1 f2 f3 f4 lb n0 hg hkb hgl hkl HNR HX0 HO0 HST
    generalize w1.heap.size + 1 = pn at *
    generalize w1.heap.size = pb at *
    obtain ⟨i0, hi, hz0, hz1, hz2⟩ := info_parts infoInt
    go_loopw [] (fun wr => Hid (RPK w g kb pb pn (fun a => #[.int .i64 v0, .string tu, .string tp, .string tb, .string tt, a, .int .i64 0, .int .i64 0, .int .i64 0, .slice none 0 0]) v1 s6 wr)) (fun wr => 25 - chN pb wr)
    case atStart => exact H0.out
    case round =>
      obtain ⟨k, A, c, J, hk⟩ := hrel.out
      obtain ⟨s, hs⟩ : ∃ s, restU k s6 = s := ⟨_, rfl⟩
      obtain ⟨l, hl⟩ : ∃ l, takeU k s6 = l := ⟨_, rfl⟩
      have hlen : l.length = k := by rw [← hl]; have := J.rb.ul.len; simpa [ivs] using this
      rw [hs, hl] at J
      obtain ⟨bd, hbd⟩ : ∃ b, s.1 = b := ⟨_, rfl⟩
      obtain ⟨Ar, cr, R⟩ := J.rd
      have hgd := good_any R
      rw [hbd] at hgd
      have HG := Lib.hid hgd
      have hcn := chN_bk J.rb.bx
      obtain ⟨b0, b1, b2, b3, b4, b5, b6, b7, b8, b9⟩ := bk_ten J.rb.bx
      have n0 : wr.cell? ⟨pn, 0, none⟩ = some (.int .i64 v1) := J.rb.nn.cell 0
      by_cases hgo : (k : Int) < v1 ∧ bd = false
      · obtain ⟨hg1, rfl⟩ := hgo
        have hk24 : k ≤ 24 := by omega
        obtain ⟨u, hu⟩ : ∃ u, tv s = u := ⟨_, rfl⟩
        have HTV := Lib.hid hu
        have hsuc := takeU_succ k s6 (by rw [hs]; exact hbd)
        rw [hs, hl, hu] at hsuc
        have HSUC := Lib.hid hsuc
        have HAP : Hid (pb ≠ g ∧ pb ≠ kb ∧ kb ∉ blks A) := ⟨J.rb.ap.1, J.rb.ap.2.1, J.rb.ap.2.2.2.2.1⟩
        have HJ := Lib.hid J
        have HRR := Lib.hid R
        have HCN0 := Lib.hid hcn
        clear hu hsuc J R hs hl hbd hlen hcn
        go_wp2_with (go_at_call 70; go_must (refine HG.out.mono ?_); rintro e w10 ⟨rfl, rfl⟩)
        apply region_inv (DecP wr g kb pb (fun a => #[.int .i64 v0, .string tu, .string tp, .string tb, .string tt, a, .int .i64 0, .int .i64 0, .int .i64 0, .slice none 0 0]) Ar cr s A k c l u) (by kernel_rfl) (by kernel_rfl) (fun vs => DecP.start HRR.out HJ.out.rb.bx HJ.out.rb.ul vs)
        intro vs
        apply inv_val
        case hw => rfl
        case hI => intro L wS hI; exact hI.pure (by decide)
        case hy => intro L wS hI; skip; first | (go_simp; done) | (go_simp; with_reducible rfl)
        case' hk => skip
        try simp only [Act.put, List.setIfInBounds_toArray, List.set_cons_zero, List.set_cons_succ]
        apply inv_load2
        case hw => rfl
        case hI => intro L wS hI; exact hI.pure (by decide)
        case hy => intro L wS hI hL; have hb : Bk wS pb 29 #[.int .i64 v0, .string tu, .string tp, .string tb, .string tt, .slice A k c, .int .i64 0, .int .i64 0, .int .i64 0, .slice none 0 0] := hI.load hL; have k5 := (bk_ten hb).2.2.2.2.2.1; first | (go_simp; done) | (go_simp; with_reducible rfl)
        case' hk => skip
        try simp only [Act.put, List.setIfInBounds_toArray, List.set_cons_zero, List.set_cons_succ]
        apply inv_val
        case hw => rfl
        case hI => intro L wS hI; exact hI.pure (by decide)
        case hy => intro L wS hI; skip; first | (go_simp; done) | (go_simp; with_reducible rfl)
        case' hk => skip
        try simp only [Act.put, List.setIfInBounds_toArray, List.set_cons_zero, List.set_cons_succ]
        apply inv_op
        case hw => rfl
        case hy =>
          intro L wS hI hL hw
          refine gives_call (f := 71) (args := #[.pointer (some ⟨g, 0, none⟩)]) ?_ ?_
          · first | (go_simp; done) | (go_simp; with_reducible rfl)
          · exact (num_any (hI.2.2.1.1 hL)).mono fun e w' he => by
              obtain ⟨u2, e1, h2⟩ := hI.took hL HAP.out.1 he HTV.out
              exact ⟨u2, e1, h2, trivial⟩
        case' hk => skip
        try simp only [Act.put, List.setIfInBounds_toArray, List.set_cons_zero, List.set_cons_succ]
        apply inv_op
        case hw => rfl
        case hy =>
          intro L wS hI hL hw
          obtain ⟨e3, hh⟩ := hI.laid hL (hw 3 (by kernel_rfl))
          refine gives_value (u := .slice (some ⟨wS.heap.size, 0, none⟩) 1 1) (w' := wS.alloc (.cells #[.int .i64 u] 3)) ?_ hh trivial
          rw [e3]
          first | (go_simp; done) | (go_simp; with_reducible rfl)
        case' hk => skip
        try simp only [Act.put, List.setIfInBounds_toArray, List.set_cons_zero, List.set_cons_succ]
        apply inv_op
        case hw => rfl
        case hy =>
          intro L wS hI hL hw
          have h4 := hw 4 (by kernel_rfl)
          have h1 := hw 1 (by kernel_rfl)
          obtain ⟨O5, hm⟩ := hI.2.2.2.2.1 hL
          obtain ⟨k4, e4, B4⟩ := hm h4
          rw [e4]
          exact gives_append_sl (.tmp 42) (.tmp 45) 26 rfl 3 i0 (.int .i64 0) 8 Tryz.underlying26 hi hz0 hz1 hz2 rfl A k c (ivs l) rfl O5 (some ⟨k4, 0, none⟩) 1 1 [.int .i64 u] rfl (Sl.of_bk B4) (fun x hx => by simp at hx; subst hx; rfl) (by unfold maxLen; omega) (by omega) fun A' c' w' h5 h6 h7 => ⟨hI.more hL h1 h4 HAP.out.2.2 h6 (by simpa [ivs] using h5) h7, trivial⟩
        case' hk => skip
        try simp only [Act.put, List.setIfInBounds_toArray, List.set_cons_zero, List.set_cons_succ]
        apply inv_val
        case hw => rfl
        case hI => intro L wS hI; exact hI.pure (by decide)
        case hy => intro L wS hI; skip; first | (go_simp; done) | (go_simp; with_reducible rfl)
        case' hk => skip
        try simp only [Act.put, List.setIfInBounds_toArray, List.set_cons_zero, List.set_cons_succ]
        apply inv_op
        case hw => rfl
        case hy =>
          intro L wS hI hL hw
          obtain ⟨A', c', e5, hb0, hs⟩ := hI.store hL (hw 5 (by kernel_rfl)) HAP.out.1 HAP.out.2.1 (fun a b => by simp) (u := vs 7)
          have hb : Bk wS pb 29 #[.int .i64 v0, .string tu, .string tp, .string tb, .string tt, .slice A k c, .int .i64 0, .int .i64 0, .int .i64 0, .slice none 0 0] := hb0
          obtain ⟨k0, k1, k2, k3, k4, k5, k6, k7, k8, k9⟩ := bk_ten hb
          have fz5 := hb.free 5
          have hg := hb.lt
          rw [e5]
          refine gives_skip ?_ hs trivial
          go_simp
        case' hk => skip
        try simp only [Act.put]
        refine inv_end ?_
        intro L w8 hall hI
        obtain ⟨A', c', A2, c2, e5, R8, B8, V8, F8, O8⟩ := hI.end_ (hall 3 (by decide)) (hall 5 (by decide)) (hall 7 (by decide))
        clear hall hI
        rw [e5]
        clear e5
        have ha := HJ.out.rb.ap
        have hpl := HJ.out.rb.bx.lt
        have hgl := HRR.out.bk.lt
        have hkl := HRR.out.lt
        have hnl := HJ.out.rb.nn.lt
        have hnb := HJ.out.rb.nn.ne HJ.out.rb.bx (by decide)
        have hnA : w.heap.size ∉ blks A := fun hh => Nat.lt_irrefl _ (HJ.out.rb.uf _ hh)
        have HNX : Hid (RPK w g kb pb pn (fun a => #[.int .i64 v0, .string tu, .string tp, .string tb, .string tt, a, .int .i64 0, .int .i64 0, .int .i64 0, .slice none 0 0]) v1 s6 w8) := by
          refine ⟨k + 1, A', c', ?_, by omega⟩
          rw [HSUC.out.1, HSUC.out.2]
          refine ⟨⟨A2, c2, R8⟩, B8, V8, fun y hy => (F8 y hy).elim (HJ.out.rb.uf y) (fun h => by omega), HJ.out.rb.nn.only O8 (fun hh => ?_), fun hh => ?_, HJ.out.rb.xc.only O8 (fun hh => ?_), HJ.out.rb.on.trans O8 (fun y hy => .inr ?_), ⟨ha.1, ha.2.1, ha.2.2.1, ha.2.2.2.1, fun hh => ?_, ha.2.2.2.2.2.1, ha.2.2.2.2.2.2.1, ha.2.2.2.2.2.2.2.1, ha.2.2.2.2.2.2.2.2.1, fun hh => ?_⟩⟩
          · rcases List.mem_cons.1 hh with hh | hh
            · exact ha.2.2.1 hh
            · rcases List.mem_cons.1 hh with hh | hh
              · exact hnb hh
              · exact HJ.out.rb.nu hh
          · rcases F8 _ hh with h | h
            · exact HJ.out.rb.nu h
            · omega
          · rcases List.mem_cons.1 hh with hh | hh
            · omega
            · rcases List.mem_cons.1 hh with hh | hh
              · omega
              · exact hnA hh
          · simp at hy
            rcases hy with rfl | rfl | hy
            · omega
            · omega
            · have := HJ.out.rb.uf y hy; omega
          · rcases F8 _ hh with h | h
            · exact ha.2.2.2.2.1 h
            · omega
          · rcases F8 _ hh with h | h
            · exact ha.2.2.2.2.2.2.2.2.2 h
            · omega
        have HME : Hid (25 - chN pb w8 < 25 - chN pb wr) := by
          show _ < _
          rw [HCN0.out, chN_bk B8]
          omega
        clear B8 V8 F8 O8 R8 ha hpl hgl hkl hnl hnb hnA
        go_wp2_with fail
        go_roundw
        case rel => exact HNX.out
        case measure => exact HME.out
      · have hno : (k : Int) = v1 ∨ s.1 = true ∨ k = 25 := by
          rw [hbd]
          cases bd
          · simp at hgo
            omega
          · exact .inr (.inl rfl)
        have hs7 : cs7 ps k = s := by unfold cs7; rw [HB6.out]; exact hs
        have hex := chO_ref (p := ps) (k := k) (by rw [HCN.out]; exact hk) (by omega) (by rw [HCN.out, hs7]; exact hno) (by rw [HB6.out, hl]; exact hlen)
        obtain ⟨m, hm⟩ : ∃ u, tv s = u := ⟨_, rfl⟩
        obtain ⟨q1, hq1⟩ : ∃ q, tk s = q := ⟨_, rfl⟩
        obtain ⟨f, hf⟩ : ∃ u, tv q1 = u := ⟨_, rfl⟩
        obtain ⟨q2, hq2⟩ : ∃ q, tk q1 = q := ⟨_, rfl⟩
        obtain ⟨d, hd⟩ : ∃ u, tv q2 = u := ⟨_, rfl⟩
        obtain ⟨q3, hq3⟩ : ∃ q, tk q2 = q := ⟨_, rfl⟩
        obtain ⟨y, hy⟩ : ∃ y, rv q3 = y := ⟨_, rfl⟩
        obtain ⟨z, hz⟩ : ∃ z, y.length = z := ⟨_, rfl⟩
        obtain ⟨q4, hq4⟩ : ∃ q, rk q3 = q := ⟨_, rfl⟩
        obtain ⟨wh, hwh⟩ : ∃ b, wholeS q4 = b := ⟨_, rfl⟩
        have HN6 := Lib.hid ((J).nums3 (f := fun a b c' => #[.int .i64 v0, .string tu, .string tp, .string tb, .string tt, .slice A k c, .int .i64 a, .int .i64 b, .int .i64 c', .slice none 0 0]) (fun a b c' => ⟨rfl, rfl, rfl⟩) (fun a b c' z => by simp) (fun a b c' z => by simp) (fun a b c' z => by simp) hm hq1 hf hq2 hd hq3)
        have HR9 := Lib.hid (fun (W : World) (hr : RP w g kb pb pn #[.int .i64 v0, .string tu, .string tp, .string tb, .string tt, .slice A k c, .int .i64 m, .int .i64 f, .int .i64 d, .slice none 0 0] A k c l v1 q3 W) => hr.row hy hz hq4)
        have HWH := Lib.hid (fun (W : World) (Ar : Option Addr) (cr : Nat) (hr : Rd W g kb Ar cr q4.1 q4.2) => by
          have hh := whole_any hr
          have e : (!q4.1 && decide (q4.2 = [])) = wh := hwh
          rw [e] at hh
          exact hh)
        have HZ := Lib.hid hz
        have HJ := Lib.hid (J)
        have HJ11 : Hid (∀ (W : World), RP w g kb pb pn #[.int .i64 v0, .string tu, .string tp, .string tb, .string tt, .slice A k c, .int .i64 m, .int .i64 f, .int .i64 d, .slice none 0 0] A k c l v1 q3 W → w.heap.size < W.heap.size) := fun W hr => hr.rb.xc.lt
        have hs8 : cs8 ps k = q1 := by unfold cs8; rw [hs7, hq1]
        have hs9 : cs9 ps k = q2 := by unfold cs9; rw [hs8, hq2]
        have hs10 : cs10 ps k = q3 := by unfold cs10; rw [hs9, hq3]
        have hs11 : cs11 ps k = q4 := by unfold cs11; rw [hs10, hq4]
        have hch : chOf ps k = ⟨v0, us, pw, bx, to, l, m, f, d, y⟩ := by rw [HCH.out k, HB6.out, hl, hs7, hm, hs8, hf, hs9, hd, hs10, hy]
        rw [hs11, hch, hwh] at hex
        have hwb : bd = true → wh = false := fun e => by rw [← hwh, ← hq4, ← hq3, ← hq2, ← hq1]; exact whole_bad _ (by rw [hbd]; exact e)
        have HMY0 := fun (W : World) (P : Option Addr) (cp : Nat) (o : Only [] w W) (hU : Sl W A k (ivs l)) => by
          have hh := may_any (w := W) ⟨v0, us, pw, bx, to, l, m, f, d, y⟩ (A := A) (B := P) (ca := c) (cb := cp) (by show Sl _ _ l.length _; rw [hlen]; exact hU) (by show l.length ≤ _; omega) (HTB.out W o) (HPS.out W o)
          unfold chv at hh
          simp only [HTU.out, HTA.out, HTBX.out, HTT.out, hlen, hz] at hh
          exact hh
        have HLL := Lib.hid hlen
        have hkl : bd = true ∨ (bd = false ∧ ¬ (k : Int) < v1) := by
          cases bd
          · simp at hgo ⊢
            omega
          · exact .inl rfl
        obtain ⟨ic, hic⟩ : ∃ b, isC ⟨v0, us, pw, bx, to, l, m, f, d, y⟩ = b := ⟨_, rfl⟩
        rw [hic] at hex HMY0
        have HMY := Lib.hid HMY0
        clear hgo hno hs hl hm hq1 hf hq2 hd hq3 hy hz hq4 hs7 hs8 hs9 hs10 hs11 hch hwh hlen hic HMY0 J R hbd hcn
        rcases hkl with rfl | ⟨rfl, hkl⟩
        · obtain rfl := hwb rfl
          have HD : Hid (chO ps = none) := by
            rcases hex with ⟨h, _⟩ | ⟨_, h⟩
            · cases h
            · exact h
          clear hex hwb
          go_wp2_with (first
            | (go_at_call 73; refine (HWH.out _ _ _ R13).mono ?_; rintro e w13 ⟨rfl, rfl⟩; have X14 := J13.rb.xc; unfold zeroC at X14; obtain ⟨x0, x1, x2, x3, x4, x5, x6, x7, x8, x9⟩ := bk_ten X14; have xf0 := X14.free 0; have xf1 := X14.free 1; have xf2 := X14.free 2; have xf3 := X14.free 3; have xf4 := X14.free 4; have xf5 := X14.free 5; have xf6 := X14.free 6; have xf7 := X14.free 7; have xf8 := X14.free 8; have xf9 := X14.free 9; have xl := X14.lt)
            | (go_at_call 72; refine (HR9.out _ J11).mono ?_; rintro e w12 ⟨P12, cp12, rfl, V12, F12, K12⟩; have J13 : RP w g kb pb pn #[.int .i64 v0, .string tu, .string tp, .string tb, .string tt, .slice A k c, .int .i64 m, .int .i64 f, .int .i64 d, .slice P12 z cp12] A k c l v1 q4 (w12.setCell ⟨pb, 9, none⟩ (.slice P12 z cp12)) := (by simpa using K12.set 9 (.slice P12 z cp12)); have S13 := V12.only (rs := [pb]) ((Only.refl [pb] w12).setCell (p := ⟨pb, 9, none⟩) (.inl (by simp)) (.slice P12 z cp12)) (fun y hy => (by obtain ⟨cu, q⟩ := V12.bk hy; simpa using q.ne K12.rb.bx (by decide))); have L12 := K12.rb.bx.lt; obtain ⟨A13, c13, R13⟩ := J13.rd; obtain ⟨b0, b1, b2, b3, b4, b5, b6, b7, b8, b9⟩ := bk_ten K12.rb.bx; have bf9 := K12.rb.bx.free 9)
            | (go_at_call 67; refine HN6.out.mono ?_; rintro e w11 ⟨rfl, J11⟩)
            | (go_at_call 70; go_must (refine HG.out.mono ?_); rintro e w10 ⟨rfl, rfl⟩))
          exact ch_ret (s := 2) (u := 3) (by kernel_rfl) w.heap.size (.int .i64 3) rfl rfl (bk_store10 X14 _ _ _ _ _ _ _ _ _ _) ⟨zeroCh, none, 0, none, 0, 3, rfl, .inr ⟨HD.out, rfl, rfl⟩, (Own.nil _ 3).sl, (Own.nil _ 5).sl, only_store10 J13.rb.on (.inr (Nat.le_refl _)) _ _ _ _ _ _ _ _ _ _, (fun _ hy => nomatch hy), fun _ hy => nomatch hy⟩
        · clear hwb
          rcases hex with ⟨rfl, rfl, hd1, _⟩ | ⟨hb2, hd1⟩
          · have HD := Lib.hid hd1
            clear hd1
            go_wp2_with (first
              | (go_at_call 58; refine (HMY.out _ P12 cp12 J13.rb.on (J13.rb.ul.sl)).mono ?_; rintro e w14 ⟨rfl, O14⟩; have J14 := J13.keep O14; have X14 := J14.rb.xc; unfold zeroC at X14; obtain ⟨x0, x1, x2, x3, x4, x5, x6, x7, x8, x9⟩ := bk_ten X14; have xf0 := X14.free 0; have xf1 := X14.free 1; have xf2 := X14.free 2; have xf3 := X14.free 3; have xf4 := X14.free 4; have xf5 := X14.free 5; have xf6 := X14.free 6; have xf7 := X14.free 7; have xf8 := X14.free 8; have xf9 := X14.free 9; have xl := X14.lt; clear b0 b1 b2 b3 b4 b5 b6 b7 b8 b9; obtain ⟨b0, b1, b2, b3, b4, b5, b6, b7, b8, b9⟩ := bk_ten J14.rb.bx)
              | (go_at_call 73; refine (HWH.out _ _ _ R13).mono ?_; rintro e w13 ⟨rfl, rfl⟩)
              | (go_at_call 72; refine (HR9.out _ J11).mono ?_; rintro e w12 ⟨P12, cp12, rfl, V12, F12, K12⟩; have J13 : RP w g kb pb pn #[.int .i64 v0, .string tu, .string tp, .string tb, .string tt, .slice A k c, .int .i64 m, .int .i64 f, .int .i64 d, .slice P12 z cp12] A k c l v1 q4 (w12.setCell ⟨pb, 9, none⟩ (.slice P12 z cp12)) := (by simpa using K12.set 9 (.slice P12 z cp12)); have S13 := V12.only (rs := [pb]) ((Only.refl [pb] w12).setCell (p := ⟨pb, 9, none⟩) (.inl (by simp)) (.slice P12 z cp12)) (fun y hy => (by obtain ⟨cu, q⟩ := V12.bk hy; simpa using q.ne K12.rb.bx (by decide))); have L12 := K12.rb.bx.lt; obtain ⟨A13, c13, R13⟩ := J13.rd; obtain ⟨b0, b1, b2, b3, b4, b5, b6, b7, b8, b9⟩ := bk_ten K12.rb.bx; have bf9 := K12.rb.bx.free 9)
              | (go_at_call 67; refine HN6.out.mono ?_; rintro e w11 ⟨rfl, J11⟩)
              | (go_at_call 70; go_must (refine HG.out.mono ?_); rintro e w10 ⟨rfl, rfl⟩))
            have OS := only_store10 (g := w.heap.size) (Only.refl [w.heap.size] w14) (.inl (by simp)) (.int .i64 v0) (.string tu) (.string tp) (.string tb) (.string tt) (.slice A k c) (.int .i64 m) (.int .i64 f) (.int .i64 d) (.slice P12 z cp12)
            have hUA := (J14.rb.ul.only OS (fun y hy => by have := J14.rb.uf y hy; simp; omega)).sl
            have hUB := ((S13.keep O14).only OS (fun y hy => by have := F12 y hy; have := HJ.out.rb.on.size; have := HJ11.out w11 J11; simp; omega)).sl
            exact ch_ret (s := 2) (u := 3) (by kernel_rfl) w.heap.size (.int .i64 0) rfl rfl (bk_store10 X14 _ _ _ _ _ _ _ _ _ _) ⟨⟨v0, us, pw, bx, to, l, m, f, d, y⟩, A, c, P12, cp12, 0, by unfold chv; simp only [HTU.out, HTA.out, HTBX.out, HTT.out, HLL.out, HZ.out], .inl ⟨HD.out, rfl⟩, by show Sl _ A (l).length _; rw [HLL.out]; exact hUA, by show Sl _ P12 y.length _; rw [HZ.out]; exact hUB, only_store10 J14.rb.on (.inr (Nat.le_refl _)) _ _ _ _ _ _ _ _ _ _, fun y hy => Nat.le_of_lt (J14.rb.uf y hy), fun y hy => by have := F12 y hy; have := HJ11.out w11 J11; omega⟩
          · have HD := Lib.hid hd1
            clear hd1
            cases wh
            · clear hb2
              go_wp2_with (first
                | (go_at_call 73; refine (HWH.out _ _ _ R13).mono ?_; rintro e w13 ⟨rfl, rfl⟩; have X14 := J13.rb.xc; unfold zeroC at X14; obtain ⟨x0, x1, x2, x3, x4, x5, x6, x7, x8, x9⟩ := bk_ten X14; have xf0 := X14.free 0; have xf1 := X14.free 1; have xf2 := X14.free 2; have xf3 := X14.free 3; have xf4 := X14.free 4; have xf5 := X14.free 5; have xf6 := X14.free 6; have xf7 := X14.free 7; have xf8 := X14.free 8; have xf9 := X14.free 9; have xl := X14.lt)
                | (go_at_call 72; refine (HR9.out _ J11).mono ?_; rintro e w12 ⟨P12, cp12, rfl, V12, F12, K12⟩; have J13 : RP w g kb pb pn #[.int .i64 v0, .string tu, .string tp, .string tb, .string tt, .slice A k c, .int .i64 m, .int .i64 f, .int .i64 d, .slice P12 z cp12] A k c l v1 q4 (w12.setCell ⟨pb, 9, none⟩ (.slice P12 z cp12)) := (by simpa using K12.set 9 (.slice P12 z cp12)); have S13 := V12.only (rs := [pb]) ((Only.refl [pb] w12).setCell (p := ⟨pb, 9, none⟩) (.inl (by simp)) (.slice P12 z cp12)) (fun y hy => (by obtain ⟨cu, q⟩ := V12.bk hy; simpa using q.ne K12.rb.bx (by decide))); have L12 := K12.rb.bx.lt; obtain ⟨A13, c13, R13⟩ := J13.rd; obtain ⟨b0, b1, b2, b3, b4, b5, b6, b7, b8, b9⟩ := bk_ten K12.rb.bx; have bf9 := K12.rb.bx.free 9)
                | (go_at_call 67; refine HN6.out.mono ?_; rintro e w11 ⟨rfl, J11⟩)
                | (go_at_call 70; go_must (refine HG.out.mono ?_); rintro e w10 ⟨rfl, rfl⟩))
              exact ch_ret (s := 2) (u := 3) (by kernel_rfl) w.heap.size (.int .i64 3) rfl rfl (bk_store10 X14 _ _ _ _ _ _ _ _ _ _) ⟨zeroCh, none, 0, none, 0, 3, rfl, .inr ⟨HD.out, rfl, rfl⟩, (Own.nil _ 3).sl, (Own.nil _ 5).sl, only_store10 J13.rb.on (.inr (Nat.le_refl _)) _ _ _ _ _ _ _ _ _ _, (fun _ hy => nomatch hy), fun _ hy => nomatch hy⟩
            · obtain rfl : ic = false := by simpa using hb2
              clear hb2
              go_wp2_with (first
                | (go_at_call 58; refine (HMY.out _ P12 cp12 J13.rb.on (J13.rb.ul.sl)).mono ?_; rintro e w14 ⟨rfl, O14⟩; have J14 := J13.keep O14; have X14 := J14.rb.xc; unfold zeroC at X14; obtain ⟨x0, x1, x2, x3, x4, x5, x6, x7, x8, x9⟩ := bk_ten X14; have xf0 := X14.free 0; have xf1 := X14.free 1; have xf2 := X14.free 2; have xf3 := X14.free 3; have xf4 := X14.free 4; have xf5 := X14.free 5; have xf6 := X14.free 6; have xf7 := X14.free 7; have xf8 := X14.free 8; have xf9 := X14.free 9; have xl := X14.lt; clear b0 b1 b2 b3 b4 b5 b6 b7 b8 b9; obtain ⟨b0, b1, b2, b3, b4, b5, b6, b7, b8, b9⟩ := bk_ten J14.rb.bx)
                | (go_at_call 73; refine (HWH.out _ _ _ R13).mono ?_; rintro e w13 ⟨rfl, rfl⟩)
                | (go_at_call 72; refine (HR9.out _ J11).mono ?_; rintro e w12 ⟨P12, cp12, rfl, V12, F12, K12⟩; have J13 : RP w g kb pb pn #[.int .i64 v0, .string tu, .string tp, .string tb, .string tt, .slice A k c, .int .i64 m, .int .i64 f, .int .i64 d, .slice P12 z cp12] A k c l v1 q4 (w12.setCell ⟨pb, 9, none⟩ (.slice P12 z cp12)) := (by simpa using K12.set 9 (.slice P12 z cp12)); have S13 := V12.only (rs := [pb]) ((Only.refl [pb] w12).setCell (p := ⟨pb, 9, none⟩) (.inl (by simp)) (.slice P12 z cp12)) (fun y hy => (by obtain ⟨cu, q⟩ := V12.bk hy; simpa using q.ne K12.rb.bx (by decide))); have L12 := K12.rb.bx.lt; obtain ⟨A13, c13, R13⟩ := J13.rd; obtain ⟨b0, b1, b2, b3, b4, b5, b6, b7, b8, b9⟩ := bk_ten K12.rb.bx; have bf9 := K12.rb.bx.free 9)
                | (go_at_call 67; refine HN6.out.mono ?_; rintro e w11 ⟨rfl, J11⟩)
                | (go_at_call 70; go_must (refine HG.out.mono ?_); rintro e w10 ⟨rfl, rfl⟩))
              exact ch_ret (s := 2) (u := 3) (by kernel_rfl) w.heap.size (.int .i64 3) rfl rfl (bk_store10 X14 _ _ _ _ _ _ _ _ _ _) ⟨zeroCh, none, 0, none, 0, 3, rfl, .inr ⟨HD.out, rfl, rfl⟩, (Own.nil _ 3).sl, (Own.nil _ 5).sl, only_store10 J14.rb.on (.inr (Nat.le_refl _)) _ _ _ _ _ _ _ _ _ _, (fun _ hy => nomatch hy), fun _ hy => nomatch hy⟩
end Go.Proofs.YtgnilldcfpgpaaaGreatDoor
namespace Go.Proofs.YtgnilldcfpgpaaaGreatDoor
open Go.RowKit Go.Maps
theorem strS {w : World} {A : Option Addr} {n : Nat} {l : List UInt8} (h : Sl w A n (bvs l)) (c : Nat) : (convert 27 9 (.slice A n c)).run Tryz.prog w = .ok (.string (St l)) w :=
  run_str_sl (P := Tryz.prog) 27 9 5 A n c l Tryz.underlying27 Tryz.underlying5 Tryz.underlying9 h
end Go.Proofs.YtgnilldcfpgpaaaGreatDoor
namespace Go.Proofs.YtgnilldcfpgpaaaGreatDoor
open Go.RowKit Go.Maps
def encL (c : Ch) : List UInt8 := if isC c = true then encC c else []
def encE (c : Ch) : Int := if isC c = true then 0 else 1
theorem enc_gen {w : World} {c : Ch} {e : Ending} {w' : World} (h : EncCR w c e w') : ∃ A' c', e = .returned (.tuple #[.slice A' (encL c).length c', .int .i64 (encE c)]) ∧ Own w' 5 A' (encL c).length c' (bvs (encL c)) ∧ Only [] w w' := by
  unfold encL encE
  rcases h with ⟨h, A', c', h1, h2, h3, _⟩ | ⟨h, h1, h2⟩
  · rw [if_pos h, if_pos h]
    exact ⟨A', c', h1, h2, h3⟩
  · rw [if_neg (by rw [h]; decide), if_neg (by rw [h]; decide)]
    exact ⟨none, 0, h1, Own.nil _ _, h2⟩
def decC (p : List UInt8) : Ch := (chO p).getD zeroCh
def decE (p : List UInt8) : Int := if (chO p).isSome then 0 else 3
def DecCB (w : World) (p : List UInt8) (e : Ending) (w' : World) : Prop :=
  ∃ c A ca B cb q, e = .returned (.tuple #[chv c A ca B cb, .int .i64 q]) ∧ ((chO p = some c ∧ q = 0) ∨ (chO p = none ∧ c = zeroCh ∧ q = 3)) ∧ Sl w' A c.uids.length (ivs c.uids) ∧ Sl w' B c.body.length (bvs c.body) ∧ Only [] w w'
theorem dec_gen {w : World} {p : List UInt8} {e : Ending} {w' : World} (h : DecCB w p e w') : ∃ A ca B cb, e = .returned (.tuple #[chv (decC p) A ca B cb, .int .i64 (decE p)]) ∧ Sl w' A (decC p).uids.length (ivs (decC p).uids) ∧ Sl w' B (decC p).body.length (bvs (decC p).body) ∧ Only [] w w' := by
  obtain ⟨c, A, ca, B, cb, q, he, hh, h1, h2, h3⟩ := h
  unfold decC decE
  rcases hh with ⟨hc, rfl⟩ | ⟨hc, rfl, rfl⟩
  · rw [hc]
    exact ⟨A, ca, B, cb, he, h1, h2, h3⟩
  · rw [hc]
    exact ⟨A, ca, B, cb, he, h1, h2, h3⟩
theorem dec_ab {w : World} {p : List UInt8} {e : Ending} {w' : World} (h : DecPA w p e w') : DecCB w p e w' := by
  obtain ⟨c, A, ca, B, cb, q, he, hh, h1, h2, h3, _⟩ := h
  exact ⟨c, A, ca, B, cb, q, he, hh, h1, h2, h3⟩
theorem chO_isC {p : List UInt8} {c : Ch} (h : chO p = some c) : isC c = true := by
  unfold chO at h
  split at h
  · cases h
  · split at h
    · rename_i hh
      rw [Bool.and_eq_true] at hh
      obtain rfl := Option.some.inj h
      exact hh.2
    · cases h
theorem decC_small (p : List UInt8) : (decC p).uids.length ≤ 24 ∧ (decC p).user.length ≤ 12 ∧ (decC p).pass.length ≤ 12 ∧ (decC p).box.length ≤ 12 ∧ (decC p).to.length ≤ 12 := by
  unfold decC
  cases h : chO p with
  | none => exact ⟨Nat.zero_le _, Nat.zero_le _, Nat.zero_le _, Nat.zero_le _, Nat.zero_le _⟩
  | some c =>
    obtain ⟨h1, h2, h3, h4, h5, h6, _⟩ := isC_small (chO_isC h)
    exact ⟨h6.1, h2, h3, h4, h5⟩
theorem own_lit0 (W : World) : Own (W.alloc (.cells #[] 5)) 5 (some ⟨W.heap.size, 0, none⟩) 0 0 [] :=
  World.ownsRow_lit (e := 5) (base := 0) (size := 1) W #[] 0 (Nat.zero_le _) (Nat.zero_le _) rfl
set_option maxRecDepth 100000 in
set_option maxHeartbeats 16000000 in
theorem sbytes_any {w : World} (hrd : ∀ {w : World} {P : Option Addr} {n cp : Nat} {ps : List UInt8}, Sl w P n (bvs ps) → n ≤ cp → (∀ y ∈ blks P, y < w.heap.size) → n ≤ 1000000000000 → Calls Tryz.prog 29 #[.slice P n cp] w (DecCB w ps))
    (ht : Tab w) (hT : TabN w) (hpos : 0 < w.heap.size) (hrem : 1 < w.heap.size) (c : Ch) {A B : Option Addr} {ca cb : Nat} (hU : Sl w A c.uids.length (ivs c.uids)) (hB : Sl w B c.body.length (bvs c.body)) (hl : c.user.length ≤ 140737488355328 ∧ c.pass.length ≤ 140737488355328 ∧ c.box.length ≤ 140737488355328 ∧ c.to.length ≤ 140737488355328) (hn : c.uids.length ≤ 140737488355328)
    (M : Option Addr) (n3 c3 : Nat) (more : List UInt8) (hM : Sl w M n3 (bvs more)) (hn3 : n3 ≤ 140737488351232) (hc3 : n3 ≤ c3) (hMb : ∀ y ∈ blks M, y < w.heap.size) :
    Calls Tryz.prog 4 #[chv c A ca B cb, .slice M n3 c3] w fun e w' => e = .returned (.bool true) ∧ Only [] w w' := by
  have HKN := Lib.hid (fun (W : World) (o : Only [] w W) => sknown_any W (ht.keep o) (hT.keep o) (Nat.lt_of_lt_of_le hpos o.size) (Nat.lt_of_lt_of_le hrem o.size))
  obtain ⟨P, hP⟩ : ∃ P, encL c = P := ⟨_, rfl⟩
  obtain ⟨n, hnP⟩ : ∃ n, P.length = n := ⟨_, rfl⟩
  obtain ⟨E1, hE1⟩ : ∃ n, encE c = n := ⟨_, rfl⟩
  have cE := fun (W : World) (o : Only [] w W) => (EncodeC_any c (ca := ca) (cb := cb) (hU.keep o) (hB.keep o) hn (hT.keep o) (Nat.lt_of_lt_of_le hpos o.size)).mono fun e w' h => enc_gen h
  have cR := fun (W : World) (o : Only [] w W) => (refEncC_any c (ca := ca) (cb := cb) (hU.keep o) (hB.keep o) hn hl).mono fun e w' h => enc_gen h
  rw [hP, hnP, hE1] at cE cR
  obtain ⟨D, hD⟩ : ∃ D, decC more = D := ⟨_, rfl⟩
  obtain ⟨E2, hE2⟩ : ∃ D, decE more = D := ⟨_, rfl⟩
  have hsm := decC_small more
  have cD := fun (h4 : n3 ≤ 4000) (W : World) (o : Only [] w W) (X : Option Addr) (cx : Nat) (hX : Sl W X n3 (bvs more)) => (DecodeC_any (cp := cx) hX (by omega) (hT.keep o) (Nat.lt_of_lt_of_le hpos o.size)).mono fun e w' h => dec_gen (dec_ab h)
  have cQ := fun (h4 : n3 ≤ 4000) (W : World) (o : Only [] w W) => (hrd (cp := c3) (hM.keep o) hc3 (fun y hy => Nat.lt_of_lt_of_le (hMb y hy) o.size) (by omega)).mono fun e w' h => dec_gen h
  rw [hD, hE2] at cD cQ
  rw [hD] at hsm
  obtain ⟨kd2, vus, vps, vbx, vto, ui2, md2, fl2, dt2, bo2⟩ := D
  obtain ⟨Q, hQ⟩ : ∃ Q, encL ⟨kd2, vus, vps, vbx, vto, ui2, md2, fl2, dt2, bo2⟩ = Q := ⟨_, rfl⟩
  obtain ⟨nq, hnq⟩ : ∃ n, Q.length = n := ⟨_, rfl⟩
  obtain ⟨E3, hE3⟩ : ∃ n, encE ⟨kd2, vus, vps, vbx, vto, ui2, md2, fl2, dt2, bo2⟩ = n := ⟨_, rfl⟩
  have cS := fun (W : World) (X : Option Addr) (cx : Nat) (Y : Option Addr) (cy : Nat) (hX : Sl W X ui2.length (ivs ui2)) (hY : Sl W Y bo2.length (bvs bo2)) => (refEncC_any (w := W) ⟨kd2, vus, vps, vbx, vto, ui2, md2, fl2, dt2, bo2⟩ (A := X) (B := Y) (ca := cx) (cb := cy) hX hY (by show ui2.length ≤ _; have : ui2.length ≤ 24 := hsm.1; omega) (by obtain ⟨_, a1, a2, a3, a4⟩ := hsm; have b1 : vus.length ≤ 12 := a1; have b2 : vps.length ≤ 12 := a2; have b3 : vbx.length ≤ 12 := a3; have b4 : vto.length ≤ 12 := a4; exact ⟨by show vus.length ≤ _; omega, by show vps.length ≤ _; omega, by show vbx.length ≤ _; omega, by show vto.length ≤ _; omega⟩)).mono fun e w' h => enc_gen h
  rw [hQ, hnq, hE3] at cS
  unfold chv at cD cQ cS
  simp only at cD cQ cS
  obtain ⟨us2, hus2⟩ : ∃ x, St vus = x := ⟨_, rfl⟩
  obtain ⟨ps2, hps2⟩ : ∃ x, St vps = x := ⟨_, rfl⟩
  obtain ⟨bx2, hbx2⟩ : ∃ x, St vbx = x := ⟨_, rfl⟩
  obtain ⟨to2, hto2⟩ : ∃ x, St vto = x := ⟨_, rfl⟩
  obtain ⟨nu, hnu⟩ : ∃ x, ui2.length = x := ⟨_, rfl⟩
  obtain ⟨nb, hnb⟩ : ∃ x, bo2.length = x := ⟨_, rfl⟩
  rw [hus2, hps2, hbx2, hto2, hnu, hnb] at cD cQ cS
  have HCE := Lib.hid cE
  have HCR := Lib.hid cR
  have HCD := Lib.hid cD
  have HCQ := Lib.hid cQ
  have HCS := Lib.hid cS
  have HM := Lib.hid hM
  clear cE cR cD cQ cS hsm hP hnP hE1 hD hE2 hQ hnq hE3 hus2 hps2 hbx2 hto2 hnu hnb hM hMb
  obtain ⟨kd, us, ps, bx, to, ui, md, fl, dt, bo⟩ := c
  unfold chv at HCE HCR ⊢
  simp only at hU hB hn hl HCE HCR ⊢
  have HHE := Lib.hid (fun (W : World) => sheavy_any W kd md fl dt (St us) (St ps) (St bx) (St to) A B ui.length ca bo.length cb)
  have hBK := Bk.new w 29 #[.int .i64 kd, .string (St us), .string (St ps), .string (St bx), .string (St to), .slice A ui.length ca, .int .i64 md, .int .i64 fl, .int .i64 dt, .slice B bo.length cb]
  have hO : Only [] w (w.alloc (.cells #[.int .i64 kd, .string (St us), .string (St ps), .string (St bx), .string (St to), .slice A ui.length ca, .int .i64 md, .int .i64 fl, .int .i64 dt, .slice B bo.length cb] 29)) := (Only.refl [] w).alloc _
  have hf := And.intro hBK hO
  clear hBK hO hU hB hn hl ht hT hpos hrem
  go_enter Tryz.func4, Tryz.ntmps4
  go_upto_region 1 with fail
  revert hf
  generalize (w.alloc (.cells #[.int .i64 kd, .string (St us), .string (St ps), .string (St bx), .string (St to), .slice A ui.length ca, .int .i64 md, .int .i64 fl, .int .i64 dt, .slice B bo.length cb] 29)) = W
  rintro ⟨hBK, hO⟩
  obtain ⟨k0, k1, k2, k3, k4, k5, k6, k7, k8, k9⟩ := bk_ten hBK
  have kl := hBK.lt
  have HB := Lib.hid hBK
  have HO := Lib.hid hO
  clear hBK hO
  by_cases g3 : 4000 < n3
  · have g3' : (4000 : Int) < (n3 : Int) := by omega
    go_wp2_with (go_at_call 25; refine (HHE.out _).mono ?_; rintro e w1 ⟨N, rfl, O1⟩; have Q1 := HO.out.then O1; by_cases hN : (4000 : Int) < N)
    all_goals
      go_ret
      exact ⟨rfl, Q1⟩
  · have g3' : ¬ (4000 : Int) < (n3 : Int) := by omega
    go_upto_region 3 with (go_at_call 25; refine (HHE.out _).mono ?_; rintro e w1 ⟨N, rfl, O1⟩; have Q1 := HO.out.then O1; have B1 := HB.out.only O1 (by simp); clear k0 k1 k2 k3 k4 k5 k6 k7 k8 k9 kl; obtain ⟨k0, k1, k2, k3, k4, k5, k6, k7, k8, k9⟩ := bk_ten B1; have kl := B1.lt; by_cases hN : (4000 : Int) < N)
    · go_ret
      exact ⟨rfl, Q1⟩
    · go_upto_region 4 with (go_at_call 26; refine (HCE.out _ Q1).mono ?_; rintro e w2 ⟨A2, c2, rfl, V2, O2⟩)
      have Q2 := Q1.then O2
      have B2 := B1.only O2 (by simp)
      clear k0 k1 k2 k3 k4 k5 k6 k7 k8 k9 kl
      obtain ⟨k0, k1, k2, k3, k4, k5, k6, k7, k8, k9⟩ := bk_ten B2
      have kl := B2.lt
      go_upto_region 5 with (go_at_call 27; refine (HCR.out _ Q2).mono ?_; rintro e w3 ⟨A3, c3', rfl, V3, O3⟩)
      have Q3 := Q2.then O3
      have V23 := V2.keep O3
      clear k0 k1 k2 k3 k4 k5 k6 k7 k8 k9 kl
      obtain ⟨i0, hi, hz0, hz1, hz2⟩ := info_parts infoByte
      go_upto_region 6 with (first
        | (at_builtin; refine wpList_append_sl rfl (.tmp 36) (.tmp 37) 27 rfl 5 i0 (.int .u8 0) 1 Tryz.underlying27 hi hz0 hz1 hz2 rfl (some ⟨w3.heap.size, 0, none⟩) 0 0 [] rfl (own_lit0 w3) M n3 c3 (bvs more) rfl ((HM.out.keep Q3).keep ((Only.refl [] _).alloc _)) (bvs_one _) (by unfold maxLen; omega) (by omega) ?_; intro A4 c4 w4 V4 O4 P4; rw [List.nil_append, Nat.zero_add] at V4; have hq3 := Q3.size; have Q4 := (Q3.alloc _).trans O4 (fun x hx => .inr (by simp at hx; omega)); have V24 := (V23.keep ((Only.refl [] _).alloc _)).only O4 (fun x hx hm => by simp at hm; have := V23.lt hx; omega); have V34 := (V3.keep ((Only.refl [] _).alloc _)).only O4 (fun x hx hm => by simp at hm; have := V3.lt hx; omega); go_frame)
        | (go_at_call 28; refine (HCD.out (by omega) _ Q4 A4 c4 V4.sl).mono ?_; rintro e w5 ⟨A5, ca5, B5, cb5, rfl, S5, T5, O5⟩))
      have Q5 := Q4.then O5
      have X5 := Bk.new w5 29 #[.int .i64 kd2, .string us2, .string ps2, .string bx2, .string to2, .slice A5 nu ca5, .int .i64 md2, .int .i64 fl2, .int .i64 dt2, .slice B5 nb cb5]
      have O5' : Only [] w5 (w5.alloc (.cells #[.int .i64 kd2, .string us2, .string ps2, .string bx2, .string to2, .slice A5 nu ca5, .int .i64 md2, .int .i64 fl2, .int .i64 dt2, .slice B5 nb cb5] 29)) := (Only.refl [] w5).alloc _
      generalize hb5 : w5.heap.size = b5 at X5 ⊢
      have V25 := (V24.keep O5).keep O5'
      have V35 := (V34.keep O5).keep O5'
      have S55 := S5.keep O5'
      have T55 := T5.keep O5'
      have Q55 := Q5.then O5'
      generalize w5.alloc (.cells #[.int .i64 kd2, .string us2, .string ps2, .string bx2, .string to2, .slice A5 nu ca5, .int .i64 md2, .int .i64 fl2, .int .i64 dt2, .slice B5 nb cb5] 29) = W5 at X5 V25 V35 S55 T55 Q55 ⊢
      clear V23 V3 V24 V34 V4 O4 P4 S5 T5 O5 O5' hb5 hi hz0 hz1 hz2
      go_upto_region 7 with (go_at_call 29; refine (HCQ.out (by omega) _ Q55).mono ?_; rintro e w6 ⟨A6, ca6, B6, cb6, rfl, S6, T6, O6⟩)
      have Q6 := Q55.then O6
      have X6 := Bk.new w6 29 #[.int .i64 kd2, .string us2, .string ps2, .string bx2, .string to2, .slice A6 nu ca6, .int .i64 md2, .int .i64 fl2, .int .i64 dt2, .slice B6 nb cb6]
      have O6' : Only [] w6 (w6.alloc (.cells #[.int .i64 kd2, .string us2, .string ps2, .string bx2, .string to2, .slice A6 nu ca6, .int .i64 md2, .int .i64 fl2, .int .i64 dt2, .slice B6 nb cb6] 29)) := (Only.refl [] w6).alloc _
      generalize hb6 : w6.heap.size = b6 at X6 ⊢
      have V26 := (V25.keep O6).keep O6'
      have V36 := (V35.keep O6).keep O6'
      have S56 := (S55.keep O6).keep O6'
      have T56 := (T55.keep O6).keep O6'
      have S66 := S6.keep O6'
      have T66 := T6.keep O6'
      have X56 := (X5.only O6 (by simp)).only O6' (by simp)
      have Q66 := Q6.then O6'
      generalize w6.alloc (.cells #[.int .i64 kd2, .string us2, .string ps2, .string bx2, .string to2, .slice A6 nu ca6, .int .i64 md2, .int .i64 fl2, .int .i64 dt2, .slice B6 nb cb6] 29) = W6 at X6 V26 V36 S56 T56 S66 T66 X56 Q66 ⊢
      clear V25 V35 S55 T55 X5 S6 T6 O6 O6' hb6
      obtain ⟨x0, x1, x2, x3, x4, x5, x6, x7, x8, x9⟩ := bk_ten X56
      have xl := X56.lt
      go_upto_region 8 with (go_at_call 27; refine (HCS.out _ A5 ca5 B5 cb5 S56 T56).mono ?_; rintro e w7 ⟨A7, c7, rfl, V7, O7⟩)
      have Q7 := Q66.then O7
      have V27 := V26.keep O7
      have V37 := V36.keep O7
      have S67 := S66.keep O7
      have T67 := T66.keep O7
      have X67 := X6.only O7 (by simp)
      clear V26 V36 S56 T56 S66 T66 X56 X6 x0 x1 x2 x3 x4 x5 x6 x7 x8 x9 xl
      obtain ⟨x0, x1, x2, x3, x4, x5, x6, x7, x8, x9⟩ := bk_ten X67
      have xl := X67.lt
      go_upto_region 9 with (go_at_call 27; refine (HCS.out _ A6 ca6 B6 cb6 S67 T67).mono ?_; rintro e w8 ⟨A8, c8, rfl, V8, O8⟩)
      have Q8 := Q7.then O8
      have z1 := strS (V27.keep O8).sl c2
      have z2 := strS (V37.keep O8).sl c3'
      have z3 := strS (V7.keep O8).sl c7
      have z4 := strS V8.sl c8
      obtain ⟨tp, htp⟩ : ∃ x, St P = x := ⟨_, rfl⟩
      obtain ⟨tq, htq⟩ : ∃ x, St Q = x := ⟨_, rfl⟩
      rw [htp] at z1 z2
      rw [htq] at z3 z4
      have e1 : (tp.toList == tp.toList) = true := by simp
      have e2 : (tq.toList == tq.toList) = true := by simp
      clear x0 x1 x2 x3 x4 x5 x6 x7 x8 x9 xl
      go_wp2_with (go_at_call 23; refine (HKN.out _ Q8).mono ?_; rintro e w9 ⟨rfl, O9⟩)
      go_ret
      exact ⟨rfl, Q8.then O9⟩
end Go.Proofs.YtgnilldcfpgpaaaGreatDoor
