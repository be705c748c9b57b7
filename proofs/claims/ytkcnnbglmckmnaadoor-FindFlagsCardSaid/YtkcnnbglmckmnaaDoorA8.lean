/-
  Texts of the seat, laid one behind the other: ZMatch NRefNum NNum GotoT.
-/
import Derived.Test.YtkcnnbglmckmnaaDoorA7
import Derived.Test.YtkcnnbglmckmnaaDoorA6
import Derived.Deep.Cut
import Derived.Laws.EntriesVeiled
import Derived.Test.YtkcnnbglmckmnaaDoorA5
namespace Go.Proofs.YtkcnnbglmckmnaaDoor
open Go.RowKit Go.Instr
theorem allNot (l : List Ky) (p : Ky → Bool) : (!(l.any fun y => !p y)) = l.all p := by
  induction l with
  | nil => rfl
  | cons y r ih => simp [← ih]
theorem KysIs.pre {K : Nat → Prop} {w : World} : ∀ {l : List Ky} {xs : List Value} (_ : KysIs K w l xs) (j : Nat), KysIs K w (l.take j) (xs.take (j * 6))
  | _, xs, _, 0 => by rw [List.take_zero, Nat.zero_mul, List.take_zero]; exact KysIs.nil
  | [], xs, h, j + 1 => by
    unfold KysIs at h
    subst h
    rw [List.take_nil, List.take_nil]
    exact KysIs.nil
  | k :: r, xs, h, j + 1 => by
    unfold KysIs at h
    obtain ⟨a, b, rfl, h1, h2⟩ := h
    have hl := h1.len
    rw [List.take_succ_cons, show (j + 1) * 6 = a.length + j * 6 by omega, List.take_append, Nat.add_sub_cancel_left, List.take_of_length_le (l := a) (by omega)]
    unfold KysIs
    exact ⟨a, b.take (j * 6), rfl, h1, KysIs.pre h2 j⟩
set_option maxRecDepth 100000 in
set_option maxHeartbeats 4000000 in
theorem match_step {m : Mss} {pl la lu : Int} (k : Ky) (ih : ∀ y ∈ k.kids, MatchC 16 m pl la lu y) : MatchC 16 m pl la lu k := by
  intro K w vs MA mn mc hk hB hmn hA hM hbd
  obtain ⟨SA, ns, sc, KA, nk, kc, xs, hp⟩ := hk.parts
  have hvs := hp.cells
  subst hvs
  obtain ⟨b1, b2, b3, b4, b5⟩ := hbd.parts
  have hml := hB.len
  have hme := means_eq m pl la lu k
  have hset := hp.set
  have hrow := hp.row
  have hcount := hp.count
  have hkids := hp.kids
  have hcap := hp.cap
  have hsl := hset.len
  obtain ⟨R, hR⟩ : ∃ R, meansK m pl la lu k = R := ⟨_, rfl⟩
  rw [hR] at hme ⊢
  obtain ⟨kd, hkd⟩ : ∃ x, k.kind = x := ⟨_, rfl⟩
  obtain ⟨n, hn⟩ : ∃ x, k.n = x := ⟨_, rfl⟩
  obtain ⟨nm, hnm⟩ : ∃ x, k.name = x := ⟨_, rfl⟩
  obtain ⟨tx, htx⟩ : ∃ x, k.text = x := ⟨_, rfl⟩
  obtain ⟨ss, hss⟩ : ∃ x, k.set = x := ⟨_, rfl⟩
  obtain ⟨ks, hks⟩ : ∃ x, k.kids = x := ⟨_, rfl⟩
  rw [hkd, hn, hnm, htx, hss, hks] at hme
  rw [hnm] at b1
  rw [htx] at b2
  rw [hss] at b3 hset hsl
  rw [hks] at b4 b5 hcount hkids ih
  rw [hkd, hn, hnm, htx]
  have O0 : Only [] w (((((w.alloc (.cells #[.int .i64 kd, .int .i64 n, .string (St nm), .string (St tx), .slice SA ns sc, .slice KA nk kc] 27)).alloc (.cells #[.int .i64 m.uid, .int .i64 m.flags, .int .i64 m.date, .slice MA mn mc] 37)).alloc (.cells #[.int .i64 pl] 3)).alloc (.cells #[.int .i64 la] 3)).alloc (.cells #[.int .i64 lu] 3)) := (((((Only.refl _ _).alloc _).alloc _).alloc _).alloc _).alloc _
  have HME := Lib.hid hme
  have HSET := Lib.hid hset
  have HROW := Lib.hid hrow
  have HCOUNT := Lib.hid hcount
  have HKIDS := Lib.hid hkids
  have HSL := Lib.hid hsl
  have HB := Lib.hid hB
  have HA := Lib.hid hA
  have HM := Lib.hid hM
  have HIH := Lib.hid ih
  have HB1 := Lib.hid b1
  have HB2 := Lib.hid b2
  have HB3 := Lib.hid b3
  have HB4 := Lib.hid b4
  have HB5 := Lib.hid b5
  have HML := Lib.hid hml
  clear hme hset hrow hcount hkids hsl hB hA hM ih b1 b2 b3 b4 b5 hk hp hbd hR hkd hn hnm htx hss hks O0 hml
  obtain ⟨p, hpe⟩ : ∃ p, w.heap.size = p := ⟨_, rfl⟩
  have HP := Lib.hid hpe
  go_enter Tryd.func16, Tryd.ntmps16
  go_upto_region 3 with fail
  have K1 : Bk ((((((w.alloc (.cells #[.int .i64 kd, .int .i64 n, .string (St nm), .string (St tx), .slice SA ns sc, .slice KA nk kc] 27)).alloc (.cells #[.int .i64 m.uid, .int .i64 m.flags, .int .i64 m.date, .slice MA mn mc] 37)).alloc (.cells #[.int .i64 pl] 3)).alloc (.cells #[.int .i64 la] 3)).alloc (.cells #[.int .i64 lu] 3)).alloc (.cells #[.func (.func 25) #[] #[.pointer (some ⟨p + 1, 0, none⟩), .pointer (some ⟨p + 1 + 1, 0, none⟩), .pointer (some ⟨p + 1 + 1 + 1, 0, none⟩), .pointer (some ⟨p + 1 + 1 + 1 + 1, 0, none⟩)]] 63)) (p) 27 #[.int .i64 kd, .int .i64 n, .string (St nm), .string (St tx), .slice SA ns sc, .slice KA nk kc] := by
    have h := Bk.new w 27 #[.int .i64 kd, .int .i64 n, .string (St nm), .string (St tx), .slice SA ns sc, .slice KA nk kc]
    rw [HP.out] at h
    exact ((((h.alloc _).alloc _).alloc _).alloc _).alloc _
  have K2 : Bk ((((((w.alloc (.cells #[.int .i64 kd, .int .i64 n, .string (St nm), .string (St tx), .slice SA ns sc, .slice KA nk kc] 27)).alloc (.cells #[.int .i64 m.uid, .int .i64 m.flags, .int .i64 m.date, .slice MA mn mc] 37)).alloc (.cells #[.int .i64 pl] 3)).alloc (.cells #[.int .i64 la] 3)).alloc (.cells #[.int .i64 lu] 3)).alloc (.cells #[.func (.func 25) #[] #[.pointer (some ⟨p + 1, 0, none⟩), .pointer (some ⟨p + 1 + 1, 0, none⟩), .pointer (some ⟨p + 1 + 1 + 1, 0, none⟩), .pointer (some ⟨p + 1 + 1 + 1 + 1, 0, none⟩)]] 63)) (p + 1) 37 #[.int .i64 m.uid, .int .i64 m.flags, .int .i64 m.date, .slice MA mn mc] := by
    have h := Bk.new (w.alloc (.cells #[.int .i64 kd, .int .i64 n, .string (St nm), .string (St tx), .slice SA ns sc, .slice KA nk kc] 27)) 37 #[.int .i64 m.uid, .int .i64 m.flags, .int .i64 m.date, .slice MA mn mc]
    rw [World.size_alloc, HP.out] at h
    exact (((h.alloc _).alloc _).alloc _).alloc _
  have K3 : Bk ((((((w.alloc (.cells #[.int .i64 kd, .int .i64 n, .string (St nm), .string (St tx), .slice SA ns sc, .slice KA nk kc] 27)).alloc (.cells #[.int .i64 m.uid, .int .i64 m.flags, .int .i64 m.date, .slice MA mn mc] 37)).alloc (.cells #[.int .i64 pl] 3)).alloc (.cells #[.int .i64 la] 3)).alloc (.cells #[.int .i64 lu] 3)).alloc (.cells #[.func (.func 25) #[] #[.pointer (some ⟨p + 1, 0, none⟩), .pointer (some ⟨p + 1 + 1, 0, none⟩), .pointer (some ⟨p + 1 + 1 + 1, 0, none⟩), .pointer (some ⟨p + 1 + 1 + 1 + 1, 0, none⟩)]] 63)) (p + 1 + 1) 3 #[.int .i64 pl] := by
    have h := Bk.new ((w.alloc (.cells #[.int .i64 kd, .int .i64 n, .string (St nm), .string (St tx), .slice SA ns sc, .slice KA nk kc] 27)).alloc (.cells #[.int .i64 m.uid, .int .i64 m.flags, .int .i64 m.date, .slice MA mn mc] 37)) 3 #[.int .i64 pl]
    rw [World.size_alloc, World.size_alloc, HP.out] at h
    exact ((h.alloc _).alloc _).alloc _
  have K4 : Bk ((((((w.alloc (.cells #[.int .i64 kd, .int .i64 n, .string (St nm), .string (St tx), .slice SA ns sc, .slice KA nk kc] 27)).alloc (.cells #[.int .i64 m.uid, .int .i64 m.flags, .int .i64 m.date, .slice MA mn mc] 37)).alloc (.cells #[.int .i64 pl] 3)).alloc (.cells #[.int .i64 la] 3)).alloc (.cells #[.int .i64 lu] 3)).alloc (.cells #[.func (.func 25) #[] #[.pointer (some ⟨p + 1, 0, none⟩), .pointer (some ⟨p + 1 + 1, 0, none⟩), .pointer (some ⟨p + 1 + 1 + 1, 0, none⟩), .pointer (some ⟨p + 1 + 1 + 1 + 1, 0, none⟩)]] 63)) (p + 1 + 1 + 1) 3 #[.int .i64 la] := by
    have h := Bk.new (((w.alloc (.cells #[.int .i64 kd, .int .i64 n, .string (St nm), .string (St tx), .slice SA ns sc, .slice KA nk kc] 27)).alloc (.cells #[.int .i64 m.uid, .int .i64 m.flags, .int .i64 m.date, .slice MA mn mc] 37)).alloc (.cells #[.int .i64 pl] 3)) 3 #[.int .i64 la]
    rw [World.size_alloc, World.size_alloc, World.size_alloc, HP.out] at h
    exact (h.alloc _).alloc _
  have K5 : Bk ((((((w.alloc (.cells #[.int .i64 kd, .int .i64 n, .string (St nm), .string (St tx), .slice SA ns sc, .slice KA nk kc] 27)).alloc (.cells #[.int .i64 m.uid, .int .i64 m.flags, .int .i64 m.date, .slice MA mn mc] 37)).alloc (.cells #[.int .i64 pl] 3)).alloc (.cells #[.int .i64 la] 3)).alloc (.cells #[.int .i64 lu] 3)).alloc (.cells #[.func (.func 25) #[] #[.pointer (some ⟨p + 1, 0, none⟩), .pointer (some ⟨p + 1 + 1, 0, none⟩), .pointer (some ⟨p + 1 + 1 + 1, 0, none⟩), .pointer (some ⟨p + 1 + 1 + 1 + 1, 0, none⟩)]] 63)) (p + 1 + 1 + 1 + 1) 3 #[.int .i64 lu] := by
    have h := Bk.new ((((w.alloc (.cells #[.int .i64 kd, .int .i64 n, .string (St nm), .string (St tx), .slice SA ns sc, .slice KA nk kc] 27)).alloc (.cells #[.int .i64 m.uid, .int .i64 m.flags, .int .i64 m.date, .slice MA mn mc] 37)).alloc (.cells #[.int .i64 pl] 3)).alloc (.cells #[.int .i64 la] 3)) 3 #[.int .i64 lu]
    rw [World.size_alloc, World.size_alloc, World.size_alloc, World.size_alloc, HP.out] at h
    exact h.alloc _
  have K6 : Bk ((((((w.alloc (.cells #[.int .i64 kd, .int .i64 n, .string (St nm), .string (St tx), .slice SA ns sc, .slice KA nk kc] 27)).alloc (.cells #[.int .i64 m.uid, .int .i64 m.flags, .int .i64 m.date, .slice MA mn mc] 37)).alloc (.cells #[.int .i64 pl] 3)).alloc (.cells #[.int .i64 la] 3)).alloc (.cells #[.int .i64 lu] 3)).alloc (.cells #[.func (.func 25) #[] #[.pointer (some ⟨p + 1, 0, none⟩), .pointer (some ⟨p + 1 + 1, 0, none⟩), .pointer (some ⟨p + 1 + 1 + 1, 0, none⟩), .pointer (some ⟨p + 1 + 1 + 1 + 1, 0, none⟩)]] 63)) (p + 1 + 1 + 1 + 1 + 1) 63 #[.func (.func 25) #[] #[.pointer (some ⟨p + 1, 0, none⟩), .pointer (some ⟨p + 1 + 1, 0, none⟩), .pointer (some ⟨p + 1 + 1 + 1, 0, none⟩), .pointer (some ⟨p + 1 + 1 + 1 + 1, 0, none⟩)]] := by
    have h := Bk.new (((((w.alloc (.cells #[.int .i64 kd, .int .i64 n, .string (St nm), .string (St tx), .slice SA ns sc, .slice KA nk kc] 27)).alloc (.cells #[.int .i64 m.uid, .int .i64 m.flags, .int .i64 m.date, .slice MA mn mc] 37)).alloc (.cells #[.int .i64 pl] 3)).alloc (.cells #[.int .i64 la] 3)).alloc (.cells #[.int .i64 lu] 3)) 63 #[.func (.func 25) #[] #[.pointer (some ⟨p + 1, 0, none⟩), .pointer (some ⟨p + 1 + 1, 0, none⟩), .pointer (some ⟨p + 1 + 1 + 1, 0, none⟩), .pointer (some ⟨p + 1 + 1 + 1 + 1, 0, none⟩)]]
    rw [World.size_alloc, World.size_alloc, World.size_alloc, World.size_alloc, World.size_alloc, HP.out] at h
    exact h
  have OW : Only [] w ((((((w.alloc (.cells #[.int .i64 kd, .int .i64 n, .string (St nm), .string (St tx), .slice SA ns sc, .slice KA nk kc] 27)).alloc (.cells #[.int .i64 m.uid, .int .i64 m.flags, .int .i64 m.date, .slice MA mn mc] 37)).alloc (.cells #[.int .i64 pl] 3)).alloc (.cells #[.int .i64 la] 3)).alloc (.cells #[.int .i64 lu] 3)).alloc (.cells #[.func (.func 25) #[] #[.pointer (some ⟨p + 1, 0, none⟩), .pointer (some ⟨p + 1 + 1, 0, none⟩), .pointer (some ⟨p + 1 + 1 + 1, 0, none⟩), .pointer (some ⟨p + 1 + 1 + 1 + 1, 0, none⟩)]] 63)) := ((((((Only.refl _ _).alloc _).alloc _).alloc _).alloc _).alloc _).alloc _
  obtain ⟨W, hW⟩ : ∃ W, ((((((w.alloc (.cells #[.int .i64 kd, .int .i64 n, .string (St nm), .string (St tx), .slice SA ns sc, .slice KA nk kc] 27)).alloc (.cells #[.int .i64 m.uid, .int .i64 m.flags, .int .i64 m.date, .slice MA mn mc] 37)).alloc (.cells #[.int .i64 pl] 3)).alloc (.cells #[.int .i64 la] 3)).alloc (.cells #[.int .i64 lu] 3)).alloc (.cells #[.func (.func 25) #[] #[.pointer (some ⟨p + 1, 0, none⟩), .pointer (some ⟨p + 1 + 1, 0, none⟩), .pointer (some ⟨p + 1 + 1 + 1, 0, none⟩), .pointer (some ⟨p + 1 + 1 + 1 + 1, 0, none⟩)]] 63)) = W := ⟨_, rfl⟩
  rw [hW] at K1 K2 K3 K4 K5 K6 OW ⊢
  clear hW
  obtain ⟨⟨q0, q1, q2, q3, q4, q5⟩, _⟩ := K1.six
  obtain ⟨m0, m1, m2, m3⟩ := K2.four
  have i3 := K3.one
  have i4 := K4.one
  have i5 := K5.one
  have i6 := K6.one
  have HBW := Lib.hid (HB.out.keep OW)
  have HAW : Hid (∀ x ∈ blks MA, x < W.heap.size) := fun x hx => Nat.lt_of_lt_of_le (HA.out x hx) OW.size
  have HMW := Lib.hid (HM.out.keep OW)
  have HSETW := Lib.hid (HSET.out.keep OW)
  have HROWW := Lib.hid (HROW.out.keep OW)
  have HKIDSW := Lib.hid (KysIs.keep HKIDS.out OW)
  have hsay : ∀ y ∈ ks, SaysK K 25 #[.pointer (some ⟨p + 1, 0, none⟩), .pointer (some ⟨p + 1 + 1, 0, none⟩), .pointer (some ⟨p + 1 + 1 + 1, 0, none⟩), .pointer (some ⟨p + 1 + 1 + 1 + 1, 0, none⟩)] y (meansK m pl la lu y) W := fun y hy => says1 K2 K3 K4 K5 HBW.out hmn HAW.out HMW.out (HIH.out y hy) (HB5.out.at_ y hy)
  have HSAY := Lib.hid hsay
  have hmis : ∀ y ∈ ks, SaysK K 26 #[.pointer (some ⟨p + 1 + 1 + 1 + 1 + 1, 0, none⟩)] y (!meansK m pl la lu y) W := fun y hy => says2 K6 (HSAY.out y hy)
  have HMIS := Lib.hid hmis
  have HOW := Lib.hid OW
  have eg1 := enters_Match1
  have eg2 := enters_Match2
  have hpW : p + 1 + 1 + 1 + 1 + 1 < W.heap.size := K6.lt
  clear hsay hmis OW K1 K2 K3 K4 K5 K6 HB HA HM HSET HROW HKIDS HIH
  by_cases n1 : kd = 1
  · have e1 : (kd == 1) = true := by rw [n1]; rfl
    have HE : Hid (R = true) := by show _ = _; rw [HME.out, if_pos n1]
    clear HME n1 
    go_wp2_with fail
    go_ret
    exact ⟨by rw [HE.out]; rfl, HOW.out⟩
  have e1 : (kd == 1) = false := by rw [beq_eq_false_iff_ne]; exact n1
  by_cases n2 : kd = 2
  · have e2 : (kd == 2) = true := by rw [n2]; rfl
    have HE : Hid (R = flagB m.flags n) := by show _ = _; rw [HME.out, if_neg n1, if_pos n2]
    clear HME n2 n1
    go_wp2_with fail
    go_ret
    exact ⟨by rw [HE.out]; rfl, HOW.out⟩
  have e2 : (kd == 2) = false := by rw [beq_eq_false_iff_ne]; exact n2
  by_cases n3 : kd = 3
  · have e3 : (kd == 3) = true := by rw [n3]; rfl
    have HE : Hid (R = decide (n < (m.body.length : Int))) := by show _ = _; rw [HME.out, if_neg n1, if_neg n2, if_pos n3]
    clear HME n3 n1 n2
    rw [HML.out] at HE
    go_wp2_with fail
    go_ret
    exact ⟨by rw [HE.out]; rfl, HOW.out⟩
  have e3 : (kd == 3) = false := by rw [beq_eq_false_iff_ne]; exact n3
  by_cases n4 : kd = 4
  · have e4 : (kd == 4) = true := by rw [n4]; rfl
    have HE : Hid (R = decide ((m.body.length : Int) < n)) := by show _ = _; rw [HME.out, if_neg n1, if_neg n2, if_neg n3, if_pos n4]
    clear HME n4 n1 n2 n3
    rw [HML.out] at HE
    go_wp2_with fail
    go_ret
    exact ⟨by rw [HE.out]; rfl, HOW.out⟩
  have e4 : (kd == 4) = false := by rw [beq_eq_false_iff_ne]; exact n4
  by_cases n5 : kd = 5
  · have e5 : (kd == 5) = true := by rw [n5]; rfl
    have HE : Hid (R = inT m.body tx) := by show _ = _; rw [HME.out, if_neg n1, if_neg n2, if_neg n3, if_neg n4, if_pos n5]
    clear HME n5 n1 n2 n3 n4
    have hcv := run_str_sl (P := Tryd.prog) (w := W) 35 9 5 MA mn mc m.body Tryd.underlying35 Tryd.underlying5 Tryd.underlying9 HBW.out.sl
    have hct := contains_any (St m.body) (St tx) W HMW.out (by rw [St_size, HML.out]; omega) (by rw [St_size]; exact HB2.out)
    rw [St_list, St_list] at hct
    have HCT := Lib.hid hct
    clear hct
    go_wp2_with (go_at_call 27; refine HCT.out.mono ?_; rintro e w2 ⟨rfl, O2⟩)
    go_ret
    exact ⟨by rw [HE.out]; rfl, HOW.out.then O2⟩
  have e5 : (kd == 5) = false := by rw [beq_eq_false_iff_ne]; exact n5
  by_cases n6 : kd = 6
  · have e6 : (kd == 6) = true := by rw [n6]; rfl
    have HE : Hid (R = fieldB m.body nm tx) := by show _ = _; rw [HME.out, if_neg n1, if_neg n2, if_neg n3, if_neg n4, if_neg n5, if_pos n6]
    clear HME n6 n1 n2 n3 n4 n5
    have hgt := Get_big HBW.out hmn HAW.out (St nm) (by rw [St_size]; exact HB1.out)
    rw [St_list] at hgt
    unfold fieldB at HE
    cases hg : getF m.body nm with
    | none =>
      rw [hg] at hgt HE
      have HGT := Lib.hid hgt
      clear hgt hg
      go_wp2_with (go_at_call 28; refine HGT.out.mono ?_; rintro e w2 ⟨t, rfl, HT, O2⟩; have O2 := Lib.hid O2; clear HGT)
      go_ret
      exact ⟨by rw [HE.out]; rfl, HOW.out.then O2.out⟩
    | some v =>
      rw [hg] at hgt HE
      have hvl := getF_len hg (by rw [HML.out]; exact hmn)
      have HGT := Lib.hid hgt
      have HVL := Lib.hid hvl
      clear hgt hg hvl
      go_wp2_with first
        | (go_at_call 28; refine HGT.out.mono ?_; rintro e w2 ⟨t, rfl, HT, O2⟩; have c3 := O2.cellSome q3 (fun hm => nomatch hm); have ht : t = St v := HT.out; subst ht; have hct := contains_any (St v) (St tx) w2 (HMW.out.keep O2) (by rw [St_size]; have := HVL.out; omega) (by rw [St_size]; exact HB2.out); rw [St_list, St_list] at hct; have HCT := Lib.hid hct; clear hct; have O2 := Lib.hid O2; clear HGT)
        | (go_at_call 27; refine HCT.out.mono ?_; rintro e w3 ⟨rfl, O3⟩)
      go_ret
      exact ⟨by rw [HE.out]; rfl, (HOW.out.then O2.out).then O3⟩
  have e6 : (kd == 6) = false := by rw [beq_eq_false_iff_ne]; exact n6
  by_cases n7 : kd = 7
  · have e7 : (kd == 7) = true := by rw [n7]; rfl
    have HE : Hid (R = hasL ss pl la) := by show _ = _; rw [HME.out, if_neg n1, if_neg n2, if_neg n3, if_neg n4, if_neg n5, if_neg n6, if_pos n7]
    clear HME n7 n1 n2 n3 n4 n5 n6
    have HH := Lib.hid (Has_any (c := sc) HSETW.out (by rw [← HSL.out]; exact HB3.out) pl la)
    go_wp2_with (go_at_call 29; refine HH.out.mono ?_; rintro e w2 ⟨rfl, O2⟩)
    go_ret
    exact ⟨by rw [HE.out]; rfl, HOW.out.then O2⟩
  have e7 : (kd == 7) = false := by rw [beq_eq_false_iff_ne]; exact n7
  by_cases n8 : kd = 8
  · have e8 : (kd == 8) = true := by rw [n8]; rfl
    have HE : Hid (R = hasL ss m.uid lu) := by show _ = _; rw [HME.out, if_neg n1, if_neg n2, if_neg n3, if_neg n4, if_neg n5, if_neg n6, if_neg n7, if_pos n8]
    clear HME n8 n1 n2 n3 n4 n5 n6 n7
    have HH := Lib.hid (Has_any (c := sc) HSETW.out (by rw [← HSL.out]; exact HB3.out) m.uid lu)
    go_wp2_with (go_at_call 29; refine HH.out.mono ?_; rintro e w2 ⟨rfl, O2⟩)
    go_ret
    exact ⟨by rw [HE.out]; rfl, HOW.out.then O2⟩
  have e8 : (kd == 8) = false := by rw [beq_eq_false_iff_ne]; exact n8
  by_cases n9 : kd = 9
  · have e9 : (kd == 9) = true := by rw [n9]; rfl
    have HE : Hid (R = notFirst (meansK m pl la lu) ks) := by show _ = _; rw [HME.out, if_neg n1, if_neg n2, if_neg n3, if_neg n4, if_neg n5, if_neg n6, if_neg n7, if_neg n8, if_pos n9]
    clear HME n9 n1 n2 n3 n4 n5 n6 n7 n8
    cases ks with
    | nil =>
      obtain rfl : nk = 0 := HCOUNT.out.symm
      go_wp2_with fail
      go_ret
      exact ⟨by rw [HE.out]; rfl, HOW.out⟩
    | cons y r =>
      obtain ⟨x0, hx0⟩ : ∃ x0, nk = x0 + 1 := ⟨r.length, HCOUNT.out.symm⟩
      subst hx0
      obtain ⟨ad, kd0, n0, s0, t0, SA0, ns0, sc0, KA0, nk0, kc0, rfl, hky, c0, c1, c2, c3, c4, c5⟩ := row_key HROWW.out HKIDSW.out (i := 0) (by omega) (by simp)
      rw [Nat.zero_mul, add_zero] at c0 c1 c2 c3 c4 c5
      have HMC := Lib.hid (HMIS.out y (by simp) W _ (Only.refl _ _) hky)
      have h0x : 0 < x0 + 1 := by omega
      have h0x' : (0 : Int) < ((x0 + 1 : Nat) : Int) := by omega
      clear hky
      go_wp2_with (go_at_fn 26; refine HMC.out.mono ?_; rintro e w2 ⟨rfl, O2⟩)
      go_ret
      exact ⟨by rw [HE.out]; rfl, HOW.out.then O2⟩
  have e9 : (kd == 9) = false := by rw [beq_eq_false_iff_ne]; exact n9
  by_cases n10 : kd = 10
  · have e10 : (kd == 10) = true := by rw [n10]; rfl
    have HE : Hid (R = (ks.take 2).any (meansK m pl la lu)) := by show _ = _; rw [HME.out, if_neg n1, if_neg n2, if_neg n3, if_neg n4, if_neg n5, if_neg n6, if_neg n7, if_neg n8, if_neg n9, if_pos n10]
    clear HME n10 n1 n2 n3 n4 n5 n6 n7 n8 n9
    obtain ⟨M, hM⟩ : ∃ M, min 2 nk = M := ⟨_, rfl⟩
    have hmin : min (2 : Int) (nk : Int) = (M : Int) := by omega
    have hMn : M ≤ nk := by omega
    have hMc : M ≤ kc := by omega
    have hMc' : (M : Int) ≤ (kc : Int) := by omega
    have htk : ks.take 2 = ks.take M := by
      have := HCOUNT.out
      by_cases h2 : 2 ≤ nk
      · rw [show M = 2 by omega]
      · rw [List.take_of_length_le (by omega), List.take_of_length_le (by omega)]
    rw [htk] at HE
    have hcf : ∀ wS, Only [] W.drew wS → Calls Tryd.prog 30 #[.slice KA M kc, .func (.func 25) #[] #[.pointer (some ⟨p + 1, 0, none⟩), .pointer (some ⟨p + 1 + 1, 0, none⟩), .pointer (some ⟨p + 1 + 1 + 1, 0, none⟩), .pointer (some ⟨p + 1 + 1 + 1 + 1, 0, none⟩)]] wS fun e w2 => e = .returned (.bool R) ∧ Only [] wS w2 := fun wS hO => by
      have hO' : Only [] W wS := ((Only.refl [] W).drew).then hO
      rw [HE.out]
      exact ContainsFuncK_any ((HROWW.out.pre hMn).keep hO') (KysIs.keep (KysIs.pre HKIDSW.out M) hO') (by rw [List.length_take, HCOUNT.out]; omega) (by have := HB4.out; have := HCOUNT.out; omega) _ _ eg1 (meansK m pl la lu) (fun y hy W2 vs2 hO2 hk2 => HSAY.out y (List.mem_of_mem_take hy) W2 vs2 (hO'.then hO2) hk2)
    have HCF := Lib.hid hcf
    clear hcf htk hM
    go_wp2_with fail
    apply region_only (by kernel_rfl) (by kernel_rfl)
    apply rel_val (hrf := Tk_refl)
    case hw => rfl
    case hy => intro wS hN hF; skip; first | (go_simp; done) | (go_simp; with_reducible rfl)
    case' hk => skip
    try simp only [Act.put, List.setIfInBounds_toArray, List.set_cons_zero, List.set_cons_succ]
    apply rel_val (hrf := Tk_refl)
    case hw => rfl
    case hy => intro wS hN hF; have hq := (hN.pre (by kernel_rfl)).cellSome q5 (fun hm => nomatch hm); first | (go_simp; done) | (go_simp; with_reducible rfl)
    case' hk => skip
    try simp only [Act.put, List.setIfInBounds_toArray, List.set_cons_zero, List.set_cons_succ]
    apply rel_val (hrf := Tk_refl)
    case hw => rfl
    case hy => intro wS hN hF; skip; first | (go_simp; done) | (go_simp; with_reducible rfl)
    case' hk => skip
    try simp only [Act.put, List.setIfInBounds_toArray, List.set_cons_zero, List.set_cons_succ]
    apply rel_val (hrf := Tk_refl)
    case hw => rfl
    case hy => intro wS hN hF; have hq := (hN.pre (by kernel_rfl)).cellSome q5 (fun hm => nomatch hm); first | (go_simp; done) | (go_simp; with_reducible rfl)
    case' hk => skip
    try simp only [Act.put, List.setIfInBounds_toArray, List.set_cons_zero, List.set_cons_succ]
    apply rel_val (hrf := Tk_refl)
    case hw => rfl
    case hy => intro wS hN hF; skip; first | (go_simp; done) | (go_simp; with_reducible rfl)
    case' hk => skip
    try simp only [Act.put, List.setIfInBounds_toArray, List.set_cons_zero, List.set_cons_succ]
    apply rel_val (hrf := Tk_refl)
    case hw => rfl
    case hy => intro wS hN hF; skip; first | (go_simp; done) | (go_simp; with_reducible rfl)
    case' hk => skip
    try simp only [Act.put, List.setIfInBounds_toArray, List.set_cons_zero, List.set_cons_succ]
    apply rel_val (hrf := Tk_refl)
    case hw => rfl
    case hy => intro wS hN hF; skip; first | (go_simp; done) | (go_simp; with_reducible rfl)
    case' hk => skip
    try simp only [Act.put, List.setIfInBounds_toArray, List.set_cons_zero, List.set_cons_succ]
    apply rel_val (hrf := Tk_refl)
    case hw => rfl
    case hy => intro wS hN hF; have hq := (hN.pre (by kernel_rfl)).cellSome i6 (fun hm => nomatch hm); first | (go_simp; done) | (go_simp; with_reducible rfl)
    case' hk => skip
    try simp only [Act.put, List.setIfInBounds_toArray, List.set_cons_zero, List.set_cons_succ]
    apply rel_call (v := .bool R) (f := 30) (args := #[.slice KA M kc, .func (.func 25) #[] #[.pointer (some ⟨p + 1, 0, none⟩), .pointer (some ⟨p + 1 + 1, 0, none⟩), .pointer (some ⟨p + 1 + 1 + 1, 0, none⟩), .pointer (some ⟨p + 1 + 1 + 1 + 1, 0, none⟩)]])
    case hw => rfl
    case hy => intro wS hN hF; go_simp
    case hc => intro wS hN hF; exact call_only (HCF.out wS (hN.pre (by kernel_rfl)))
    case' hk => skip
    try simp only [Act.put, List.setIfInBounds_toArray, List.set_cons_zero, List.set_cons_succ]
    apply rel_val (hrf := Tk_refl)
    case hw => rfl
    case hy => intro wS hN hF; skip; first | (go_simp; done) | (go_simp; with_reducible rfl)
    case' hk => skip
    try simp only [Act.put, List.setIfInBounds_toArray, List.set_cons_zero, List.set_cons_succ]
    refine rel_end ?_
    intro wS hO hF
    clear hF
    go_wp2
    go_ret
    exact ⟨rfl, (HOW.out.drew).then hO.only⟩
  have e10 : (kd == 10) = false := by rw [beq_eq_false_iff_ne]; exact n10
  by_cases n11 : kd = 11
  · have e11 : (kd == 11) = true := by rw [n11]; rfl
    have HE : Hid (R = ks.all (meansK m pl la lu)) := by show _ = _; rw [HME.out, if_neg n1, if_neg n2, if_neg n3, if_neg n4, if_neg n5, if_neg n6, if_neg n7, if_neg n8, if_neg n9, if_neg n10, if_pos n11]
    clear HME n11 n1 n2 n3 n4 n5 n6 n7 n8 n9 n10
    rw [← allNot] at HE
    have HCF := Lib.hid (ContainsFuncK_any (c := kc) HROWW.out HKIDSW.out HCOUNT.out (by have := HB4.out; have := HCOUNT.out; omega) _ _ eg2 (fun y => !meansK m pl la lu y) HMIS.out)
    obtain ⟨bb, hbb⟩ : ∃ bb, (ks.any fun y => !meansK m pl la lu y) = bb := ⟨_, rfl⟩
    rw [hbb] at HCF HE
    clear hbb
    go_wp2_with (go_at_call 30; refine HCF.out.mono ?_; rintro e w2 ⟨rfl, O2⟩)
    go_ret
    exact ⟨by rw [HE.out]; rfl, HOW.out.then O2⟩
  have e11 : (kd == 11) = false := by rw [beq_eq_false_iff_ne]; exact n11
  have HE : Hid (R = false) := by show _ = _; rw [HME.out, if_neg n1, if_neg n2, if_neg n3, if_neg n4, if_neg n5, if_neg n6, if_neg n7, if_neg n8, if_neg n9, if_neg n10, if_neg n11]
  clear HME n1 n2 n3 n4 n5 n6 n7 n8 n9 n10 n11
  go_wp2_with fail
  go_ret
  exact ⟨by rw [HE.out]; rfl, HOW.out⟩
end Go.Proofs.YtkcnnbglmckmnaaDoor
namespace Go.Proofs.YtkcnnbglmckmnaaDoor
open Go.RowKit Go.Instr
theorem txt_at (s : ByteArray) {k : Nat} (_h : k < s.size) (h' : k < s.data.toList.length) : s[k] = s.data.toList[k] := rfl
theorem u8_eq {a b : UInt8} (h : a.toNat = b.toNat) : a = b := UInt8.toNat_inj.1 h
theorem dig_yes {c : UInt8} (h1 : 48 ≤ c.toNat) (h2 : c.toNat ≤ 57) : isDig c = true := by simp [isDig, h1, h2]
theorem dig_no {c : UInt8} (h : c.toNat < 48 ∨ 57 < c.toNat) : isDig c = false := by
  simp only [isDig, Bool.and_eq_false_iff, decide_eq_false_iff_not]
  omega
theorem take_dig {l : List UInt8} {k : Nat} (h : k < l.length) (ha : (l.take k).all isDig = true) (hd : isDig l[k] = true) : (l.take (k + 1)).all isDig = true ∧ dv 0 (l.take (k + 1)) = stp (dv 0 (l.take k)) l[k] := by
  rw [List.take_succ_eq_append_getElem h]
  exact ⟨by rw [List.all_append, ha]; simp [hd], dv_snoc _ _ _⟩
end Go.Proofs.YtkcnnbglmckmnaaDoor
namespace Go.Proofs.YtkcnnbglmckmnaaDoor
open Go.RowKit Go.Instr
theorem pre_hit {l : List UInt8} {x : UInt8} (h : l.head? = some x) : Lib.hasPrefix l [x] = true ∧ Lib.trimPrefix l [x] = l.drop 1 := by
  obtain ⟨r, rfl⟩ := head_cons h
  have h1 : Lib.hasPrefix (x :: r) [x] = true := by simp [Lib.hasPrefix]
  refine ⟨h1, ?_⟩
  unfold Lib.trimPrefix
  rw [if_pos h1]
  rfl
theorem pre_miss {l : List UInt8} {x : UInt8} (h : l.head? ≠ some x) : Lib.hasPrefix l [x] = false ∧ Lib.trimPrefix l [x] = l := by
  have h1 : Lib.hasPrefix l [x] = false := by
    cases l with
    | nil => simp [Lib.hasPrefix]
    | cons y r =>
      have e : ¬ x = y := fun e => h (by rw [e]; rfl)
      simp [Lib.hasPrefix, List.isPrefixOf, e]
  refine ⟨h1, ?_⟩
  unfold Lib.trimPrefix
  rw [h1]
  simp
theorem cut_hit (s : ByteArray) (x : UInt8) (h : s.data.toList.head? = some x) (w : World) : Calls Tryd.prog 77 #[.string s, .string ⟨#[x]⟩] w fun e w' => e = .returned (.tuple #[.string (St (s.data.toList.drop 1)), .bool true]) ∧ w = w' :=
  (Tryd.strings_CutPrefix s ⟨#[x]⟩ w).mono fun e w' he => ⟨by rw [he.1, show (⟨#[x]⟩ : ByteArray).data.toList = [x] from rfl, (pre_hit h).1, (pre_hit h).2], he.2.symm⟩
theorem cut_miss (s : ByteArray) (x : UInt8) (h : s.data.toList.head? ≠ some x) (w : World) : Calls Tryd.prog 77 #[.string s, .string ⟨#[x]⟩] w fun e w' => e = .returned (.tuple #[.string s, .bool false]) ∧ w = w' :=
  (Tryd.strings_CutPrefix s ⟨#[x]⟩ w).mono fun e w' he => ⟨by rw [he.1, show (⟨#[x]⟩ : ByteArray).data.toList = [x] from rfl, (pre_miss h).1, (pre_miss h).2, show (⟨s.data.toList.toArray⟩ : ByteArray) = s from St_data s], he.2.symm⟩
def numA (o : Option (Nat × List UInt8)) : Value := match o with
  | none => .tuple #[.int .i64 0, .string ⟨#[]⟩, .bool false]
  | some (n, q) => .tuple #[.int .i64 (n : Int), .string (St q), .bool true]
set_option maxRecDepth 100000 in
theorem suf_txt (t : TypeId) (hu : Tryd.prog.underlying t = some .string) (s : ByteArray) (k : Nat) (hk : k ≤ s.size) (W : World) :
    (Instr.slice t (.string s) (some (.int .i64 (k : Int))) none none).run Tryd.prog W = .ok (.string (St (s.data.toList.drop k))) W := by
  rw [run_slice_string_from_if W t s .i64 _ hu, if_pos ⟨by omega, by omega⟩]
  congr 2
  apply ByteArray.ext
  apply Array.toList_inj.1
  rw [Lib.extract_data, St_list, Int.toNat_natCast, List.take_of_length_le (by simp)]
theorem grd_full (d q : List UInt8) (hd : d.all isDig = true) (h7 : d.length = 7) : grd (d ++ q) = d := by
  unfold grd
  rw [List.take_append, List.take_of_length_le (by omega), List.takeWhile_append_of_pos (fun x hx => List.all_eq_true.1 hd x hx), h7]
  simp
theorem grd_end {l : List UInt8} {k M : Nat} (hM : M = min l.length 7) (hk : k ≤ M) (hd : (l.take k).all isDig = true) (he : k = M ∨ ∃ h : k < l.length, isDig l[k] = false) : grd l = l.take k := by
  have hl : (l.take k).length = k := by rw [List.length_take]; omega
  have e : l.take k ++ l.drop k = l := List.take_append_drop k l
  by_cases h7 : k = 7
  · have := grd_full (l.take k) (l.drop k) hd (by omega)
    rwa [e] at this
  · have := grd_stop (l.take k) (l.drop k) hd (by omega) (fun c hc => by
      rcases he with he | ⟨hkl, he⟩
      · rw [List.drop_of_length_le (by omega)] at hc; cases hc
      · rw [List.drop_eq_getElem_cons hkl] at hc
        injection hc with hc
        rw [← hc]
        exact he)
    rwa [e] at this
theorem numS_of {l : List UInt8} {k : Nat} (h42 : l.head? ≠ some 42) (hg : grd l = l.take k) (hk : k ≤ l.length) : numS l = if k = 0 then none else if l.head? = some 48 then none else some (dv 0 (l.take k), l.drop k) := by
  have hl : (l.take k).length = k := by rw [List.length_take]; omega
  unfold numS
  rw [if_neg h42, hg, hl]
  by_cases h0 : k = 0
  · subst h0; simp
  · rw [if_neg h0, if_neg (by intro e; rw [e] at hl; simp at hl; omega)]
set_option maxHeartbeats 1000000 in
set_option maxRecDepth 100000 in
theorem number_any (s : ByteArray) (w : World) (hbig : s.size ≤ 140737488355328) : Calls Tryd.prog 114 #[.string s] w fun e w' => e = .returned (numA (numS s.data.toList)) ∧ Only [] w w' := by
  by_cases h42 : s.data.toList.head? = some 42
  · have hc := fun W => cut_hit s 42 h42 W
    have HA : Hid (numA (numS s.data.toList) = .tuple #[.int .i64 1073741824, .string (St (s.data.toList.drop 1)), .bool true]) := by
      show _ = _
      unfold numS
      rw [if_pos h42]
      rfl
    obtain ⟨V, hV⟩ : ∃ V, numA (numS s.data.toList) = V := ⟨_, rfl⟩
    rw [hV] at HA ⊢
    obtain ⟨t, ht⟩ : ∃ t, St (s.data.toList.drop 1) = t := ⟨_, rfl⟩
    rw [ht] at HA hc
    clear h42 hV ht
    go_enter Tryd.func114, Tryd.ntmps114
    go_wp2_with (go_at_call 77; with_reducible refine (hc _).mono ?_; rintro e w2 ⟨rfl, rfl⟩)
    go_ret3
    exact ⟨by rw [HA.out]; rfl, Only.refl _ _⟩
  · have hc := fun W => cut_miss s 42 h42 W
    obtain ⟨l, hl⟩ : ∃ l, s.data.toList = l := ⟨_, rfl⟩
    have hlen : l.length = s.size := by rw [← hl]; simp
    have hsuf := fun (k : Nat) (hk : k ≤ s.size) => suf_txt 9 Tryd.underlying9 s k hk
    rw [hl] at h42 hsuf ⊢
    obtain ⟨M, hM⟩ : ∃ M, M = min l.length 7 := ⟨_, rfl⟩
    have hmin : min (s.size : Int) 7 = (M : Int) := by omega
    have hM1 : M ≤ s.size := by omega
    have hM7 : M ≤ 7 := by omega
    obtain ⟨V, hV⟩ : ∃ V, numA (numS l) = V := ⟨_, rfl⟩
    have HV : Hid (∀ k, k ≤ M → grd l = l.take k → V = numA (if k = 0 then none else if l.head? = some 48 then none else some (dv 0 (l.take k), l.drop k))) := fun k hk hg => by
      rw [← hV, numS_of h42 hg (by omega)]
    have HEND : Hid (∀ k, k ≤ M → (l.take k).all isDig = true → (k = M ∨ ∃ h : k < l.length, isDig l[k] = false) → grd l = l.take k) := fun k h1 h2 h3 => grd_end hM h1 h2 h3
    rw [hV]
    have HL := Lib.hid hl
    have HLEN := Lib.hid hlen
    have HSUF := Lib.hid hsuf
    clear hl hV hM h42 hlen hsuf
    go_enter Tryd.func114, Tryd.ntmps114
    go_wp2_with (go_at_call 77; with_reducible refine (hc _).mono ?_; rintro e w2 ⟨rfl, rfl⟩)
    go_loop [2, 5] (fun nv iv => ∃ (k Z : Nat), nv = .int .i64 (Z : Int) ∧ iv = .int .i64 (k : Int) ∧ k ≤ M ∧ Hid (Z = dv 0 (l.take k) ∧ (l.take k).all isDig = true)) (fun _ iv => M - (intOf iv).toNat)
    case atStart => exact ⟨0, 0, rfl, rfl, by omega, by rw [List.take_zero]; exact (dv_nil 0).symm, by rw [List.take_zero]; rfl⟩
    case round =>
      obtain ⟨k, Z, rfl, rfl, hk, HK⟩ := hrel
      by_cases hlt : k < M
      · have hlt' : (k : Int) < (M : Int) := by omega
        have hks : k < s.size := by omega
        have hkl : k < l.length := by rw [HLEN.out]; omega
        have hck : (s[k] : UInt8) = l[k] := by have := HL.out; subst this; exact txt_at s (by omega) hkl
        have hZ : Z < 10000000 := by
          have h := dv_lt (l.take k) 0 HK.out.2
          rw [← HK.out.1, List.length_take] at h
          have h2 : 10 ^ min k l.length ≤ 10 ^ 7 := Nat.pow_le_pow_right (by omega) (by omega)
          omega
        obtain ⟨y, hy⟩ : ∃ y : Nat, s[k].toNat = y := ⟨_, rfl⟩
        have hnat : l[k].toNat = y := by rw [← hck, hy]
        have hy256 : y < 256 := by rw [← hy]; exact byte_lt _
        by_cases hA : 48 ≤ y
        · have hA' : (48 : Int) ≤ (s[k].toNat : Int) := by rw [hy]; omega
          by_cases hB : y ≤ 57
          · have hB' : (s[k].toNat : Int) ≤ 57 := by rw [hy]; omega
            obtain ⟨k1, k2⟩ := take_dig hkl HK.out.2 (dig_yes (by rw [hnat]; omega) (by rw [hnat]; omega))
            have HR : Hid (∃ (k' Z' : Nat), Value.int .i64 (10 * (Z : Int) + ((s[k].toNat : Int) - 48)) = .int .i64 (Z' : Int) ∧ Value.int .i64 ((k : Int) + 1) = .int .i64 (k' : Int) ∧ k' ≤ M ∧ Hid (Z' = dv 0 (l.take k') ∧ (l.take k').all isDig = true)) := by
              refine ⟨k + 1, dv 0 (l.take (k + 1)), ?_, by simp, by omega, rfl, k1⟩
              rw [k2, ← HK.out.1, hy]
              unfold stp
              rw [hnat]
              congr 1
              omega
            have HM : Hid (M - (intOf (.int .i64 ((k : Int) + 1))).toNat < M - (intOf (.int .i64 (k : Int))).toNat) := by
              show _ < _
              simp [intOf]
              omega
            clear hck hnat hy k1 k2 hc
            go_wp2
            exact ⟨HR.out, HM.out⟩
          · have hB' : ¬ (s[k].toNat : Int) ≤ 57 := by rw [hy]; omega
            have hdg : ∃ h : k < l.length, isDig l[k] = false := ⟨hkl, dig_no (.inr (by rw [hnat]; omega))⟩
            have HG : Hid (V = numA (if k = 0 then none else if l.head? = some 48 then none else some (dv 0 (l.take k), l.drop k))) := HV.out k hk (HEND.out k hk HK.out.2 (.inr hdg))
            by_cases hk0 : k = 0
            · have HE : Hid (V = .tuple #[.int .i64 0, .string ⟨#[]⟩, .bool false]) := by
                show _ = _
                rw [HG.out, if_pos hk0]
                rfl
              have hkb : ((k : Int) == 0) = true := by rw [hk0]; rfl
              clear hk0 hc hck hnat hy hdg
              go_wp2
              go_ret3
              exact ⟨by rw [HE.out]; rfl, Only.refl _ _⟩
            · have hkb : ((k : Int) == 0) = false := by rw [beq_eq_false_iff_ne]; omega
              have h0 : 0 < s.size := by omega
              have h0l : 0 < l.length := by rw [HLEN.out]; exact h0
              have hz0 : (s[0] : UInt8) = l[0] := by have := HL.out; subst this; exact txt_at s h0 h0l
              have hhead : l.head? = some l[0] := by rw [List.head?_eq_getElem?, List.getElem?_eq_getElem h0l]
              obtain ⟨y0, hy0⟩ : ∃ y : Nat, s[0].toNat = y := ⟨_, rfl⟩
              by_cases h48 : y0 = 48
              · have HE : Hid (V = .tuple #[.int .i64 0, .string ⟨#[]⟩, .bool false]) := by
                  show _ = _
                  rw [HG.out, if_neg hk0, if_pos (by rw [hhead, ← hz0]; congr 1; exact u8_eq (by rw [hy0, h48]; rfl))]
                  rfl
                have hyb : ((s[0].toNat : Int) == 48) = true := by rw [hy0, h48]; rfl
                clear hk0 hz0 hhead h0l hy0 hc hck hnat hy hdg
                go_wp2
                go_ret3
                exact ⟨by rw [HE.out]; rfl, Only.refl _ _⟩
              · have HE : Hid (V = .tuple #[.int .i64 (Z : Int), .string (St (l.drop k)), .bool true]) := by
                  show _ = _
                  rw [HG.out, if_neg hk0, if_neg (by
                    rw [hhead, ← hz0]
                    intro e
                    injection e with e
                    exact h48 (by rw [← hy0, e]; rfl)), HK.out.1]
                  rfl
                have hyb : ((s[0].toNat : Int) == 48) = false := by rw [hy0, beq_eq_false_iff_ne]; omega
                have hsf := HSUF.out k (by omega)
                obtain ⟨t, ht⟩ : ∃ t, St (l.drop k) = t := ⟨_, rfl⟩
                rw [ht] at HE hsf
                clear hk0 hz0 hhead h0l hy0 ht hc hck hnat hy hdg
                go_wp2_with fail
                go_quiet (fail)
                go_wp2_with fail
                go_ret3
                exact ⟨by rw [HE.out]; rfl, (Only.refl _ _).drewN _⟩
        · have hA' : ¬ (48 : Int) ≤ (s[k].toNat : Int) := by rw [hy]; omega
          have hdg : ∃ h : k < l.length, isDig l[k] = false := ⟨hkl, dig_no (.inl (by rw [hnat]; omega))⟩
          have HG : Hid (V = numA (if k = 0 then none else if l.head? = some 48 then none else some (dv 0 (l.take k), l.drop k))) := HV.out k hk (HEND.out k hk HK.out.2 (.inr hdg))
          by_cases hk0 : k = 0
          · have HE : Hid (V = .tuple #[.int .i64 0, .string ⟨#[]⟩, .bool false]) := by
              show _ = _
              rw [HG.out, if_pos hk0]
              rfl
            have hkb : ((k : Int) == 0) = true := by rw [hk0]; rfl
            clear hk0 hc hck hnat hy hdg
            go_wp2
            go_ret3
            exact ⟨by rw [HE.out]; rfl, Only.refl _ _⟩
          · have hkb : ((k : Int) == 0) = false := by rw [beq_eq_false_iff_ne]; omega
            have h0 : 0 < s.size := by omega
            have h0l : 0 < l.length := by rw [HLEN.out]; exact h0
            have hz0 : (s[0] : UInt8) = l[0] := by have := HL.out; subst this; exact txt_at s h0 h0l
            have hhead : l.head? = some l[0] := by rw [List.head?_eq_getElem?, List.getElem?_eq_getElem h0l]
            obtain ⟨y0, hy0⟩ : ∃ y : Nat, s[0].toNat = y := ⟨_, rfl⟩
            by_cases h48 : y0 = 48
            · have HE : Hid (V = .tuple #[.int .i64 0, .string ⟨#[]⟩, .bool false]) := by
                show _ = _
                rw [HG.out, if_neg hk0, if_pos (by rw [hhead, ← hz0]; congr 1; exact u8_eq (by rw [hy0, h48]; rfl))]
                rfl
              have hyb : ((s[0].toNat : Int) == 48) = true := by rw [hy0, h48]; rfl
              clear hk0 hz0 hhead h0l hy0 hc hck hnat hy hdg
              go_wp2
              go_ret3
              exact ⟨by rw [HE.out]; rfl, Only.refl _ _⟩
            · have HE : Hid (V = .tuple #[.int .i64 (Z : Int), .string (St (l.drop k)), .bool true]) := by
                show _ = _
                rw [HG.out, if_neg hk0, if_neg (by
                  rw [hhead, ← hz0]
                  intro e
                  injection e with e
                  exact h48 (by rw [← hy0, e]; rfl)), HK.out.1]
                rfl
              have hyb : ((s[0].toNat : Int) == 48) = false := by rw [hy0, beq_eq_false_iff_ne]; omega
              have hsf := HSUF.out k (by omega)
              obtain ⟨t, ht⟩ : ∃ t, St (l.drop k) = t := ⟨_, rfl⟩
              rw [ht] at HE hsf
              clear hk0 hz0 hhead h0l hy0 ht hc hck hnat hy hdg
              go_wp2_with fail
              go_quiet (fail)
              go_wp2_with fail
              go_ret3
              exact ⟨by rw [HE.out]; rfl, (Only.refl _ _).drewN _⟩
      · obtain rfl : k = M := by omega
        have HG : Hid (V = numA (if k = 0 then none else if l.head? = some 48 then none else some (dv 0 (l.take k), l.drop k))) := HV.out k hk (HEND.out k hk HK.out.2 (.inl rfl))
        by_cases hk0 : k = 0
        · have HE : Hid (V = .tuple #[.int .i64 0, .string ⟨#[]⟩, .bool false]) := by
            show _ = _
            rw [HG.out, if_pos hk0]
            rfl
          have hkb : ((k : Int) == 0) = true := by rw [hk0]; rfl
          clear hk0 hc
          go_wp2
          go_ret3
          exact ⟨by rw [HE.out]; rfl, Only.refl _ _⟩
        · have hkb : ((k : Int) == 0) = false := by rw [beq_eq_false_iff_ne]; omega
          have h0 : 0 < s.size := by omega
          have h0l : 0 < l.length := by rw [HLEN.out]; exact h0
          have hz0 : (s[0] : UInt8) = l[0] := by have := HL.out; subst this; exact txt_at s h0 h0l
          have hhead : l.head? = some l[0] := by rw [List.head?_eq_getElem?, List.getElem?_eq_getElem h0l]
          obtain ⟨y0, hy0⟩ : ∃ y : Nat, s[0].toNat = y := ⟨_, rfl⟩
          by_cases h48 : y0 = 48
          · have HE : Hid (V = .tuple #[.int .i64 0, .string ⟨#[]⟩, .bool false]) := by
              show _ = _
              rw [HG.out, if_neg hk0, if_pos (by rw [hhead, ← hz0]; congr 1; exact u8_eq (by rw [hy0, h48]; rfl))]
              rfl
            have hyb : ((s[0].toNat : Int) == 48) = true := by rw [hy0, h48]; rfl
            clear hk0 hz0 hhead h0l hy0 hc
            go_wp2
            go_ret3
            exact ⟨by rw [HE.out]; rfl, Only.refl _ _⟩
          · have HE : Hid (V = .tuple #[.int .i64 (Z : Int), .string (St (l.drop k)), .bool true]) := by
              show _ = _
              rw [HG.out, if_neg hk0, if_neg (by
                rw [hhead, ← hz0]
                intro e
                injection e with e
                exact h48 (by rw [← hy0, e]; rfl)), HK.out.1]
              rfl
            have hyb : ((s[0].toNat : Int) == 48) = false := by rw [hy0, beq_eq_false_iff_ne]; omega
            have hsf := HSUF.out k (by omega)
            obtain ⟨t, ht⟩ : ∃ t, St (l.drop k) = t := ⟨_, rfl⟩
            rw [ht] at HE hsf
            clear hk0 hz0 hhead h0l hy0 ht hc
            go_wp2_with fail
            go_quiet (fail)
            go_wp2_with fail
            go_ret3
            exact ⟨by rw [HE.out]; rfl, (Only.refl _ _).drewN _⟩
end Go.Proofs.YtkcnnbglmckmnaaDoor
namespace Go.Proofs.YtkcnnbglmckmnaaDoor
open Go
section
variable {P : Program} {a : Act} {w : World} {Q : Exit → Act → World → Prop}
theorem wp_scope_tri {c b0 b1 b2 : Code} (la lb lc : Nat) (hab : lb ≠ la) (hac : lc ≠ la) (hbc : lc ≠ lb) (J : Nat → Act → World → Prop) (μ : Nat → Act → World → Nat) (h0 : findLabel c la = some (.seq .skip b0)) (h1 : findLabel c lb = some (.seq .skip b1)) (h2 : findLabel c lc = some (.seq .skip b2))
    (hJ : ∀ l a w, J l a w → l = la ∨ l = lb ∨ l = lc)
    (pass2 : ∀ a w, J lc a w → b2.wp P (jumps (fun l' a' w' => J l' a' w' ∧ μ l' a' w' < μ lc a w) Q) a w)
    (pass1 : (∀ a w, J lc a w → ∀ m, μ lc a w ≤ m → b2.wp P (jumps (fun l' a' w' => J l' a' w' ∧ μ l' a' w' < m) Q) a w) → ∀ a w, J lb a w → b1.wp P (jumps (fun l' a' w' => J l' a' w' ∧ μ l' a' w' < μ lb a w) Q) a w)
    (pass0 : (∀ a w, J lb a w → ∀ m, μ lb a w ≤ m → b1.wp P (jumps (fun l' a' w' => J l' a' w' ∧ μ l' a' w' < m) Q) a w) → ∀ a w, J la a w → b0.wp P (jumps (fun l' a' w' => J l' a' w' ∧ μ l' a' w' < μ la a w) Q) a w)
    (first : (∀ a w, J la a w → b0.wp P (jumps J Q) a w) → c.wp P (jumps J Q) a w) : (Code.scope c).wp P Q a w := by
  have p1 := pass1 (fun a w h m hm => wp_mono (pass2 a w h) (jumps_mono hm))
  have p0 := pass0 (fun a w h m hm => wp_mono (p1 a w h) (jumps_mono hm))
  refine wp_scope_many J μ (fun l => if l = la then .seq .skip b0 else if l = lb then .seq .skip b1 else .seq .skip b2) (fun l a w h => ?_) (first fun a w h => wp_mono (p0 a w h) fun e a' w' he => ?_) (fun l a w h => ?_)
  · rcases hJ l a w h with rfl | rfl | rfl
    · simp [h0]
    · simp [h1, hab]
    · simp [h2, hac, hbc]
  · cases e with
    | goto l' => exact he.1
    | _ => exact he
  · rcases hJ l a w h with rfl | rfl | rfl
    · simp only [if_true]
      exact wp_seq (wp_skip (p0 a w h))
    · simp only [if_neg hab, if_true]
      exact wp_seq (wp_skip (p1 a w h))
    · simp only [if_neg hac, if_neg hbc]
      exact wp_seq (wp_skip (pass2 a w h))
end
end Go.Proofs.YtkcnnbglmckmnaaDoor
