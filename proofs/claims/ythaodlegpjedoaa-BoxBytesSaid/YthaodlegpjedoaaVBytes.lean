/-
  The law BoxBytes.
-/
import Derived.Test.YthaodlegpjedoaaVRefDec
import Derived.Test.YthaodlegpjedoaaVBxA
import Derived.Test.YthaodlegpjedoaaVGone
import Derived.Test.YthaodlegpjedoaaVKnown
namespace Go.Proofs.Ythaodlegpjedoaa
open Go.RowKit Go.Instr

/-- What both Encodes answer. -/
def encO (b : Bx) : List UInt8 := if isB b = true then encB b else []
def encQ (b : Bx) : Int := if isB b = true then 0 else 1
theorem encO_of {w : World} {b : Bx} {e : Ending} {w' : World} (h : EncR w b e w') {eb : List UInt8} {ne : Nat} {q : Int} (h1 : encO b = eb) (h2 : eb.length = ne) (h3 : encQ b = q) :
    ∃ A' c', e = .returned (.tuple #[.slice A' ne c', .int .i64 q]) ∧ Sl w' A' ne (bvs eb) ∧ Only [] w w' := by
  unfold encO at h1
  unfold encQ at h3
  rcases h with ⟨hb, A', c', e1, e2, e3, _⟩ | ⟨hb, e1, e3⟩
  · rw [if_pos hb] at h1 h3
    subst h1 h2 h3
    exact ⟨A', c', e1, e2.sl, e3⟩
  · rw [if_neg (by rw [hb]; simp)] at h1 h3
    subst h1 h2 h3
    exact ⟨none, 0, e1, Sl.none_, e3⟩
set_option maxRecDepth 100000 in
set_option maxHeartbeats 16000000 in
theorem bytes_any {w : World} (b1 b2 : Bx) {A1 A2 : Option Addr} {e1 e2 : Nat} (h1 : Ms AnyB w A1 b1.l.length b1.l) (h2 : Ms AnyB w A2 b2.l.length b2.l) (hn1 : b1.l.length ≤ 140737488351232) (hn2 : b2.l.length ≤ 140737488351232) (hm1 : b1.name.length ≤ 140737488351232)
    (P : Option Addr) (m cp : Nat) (ps : List UInt8) (hp : Sl w P m (bvs ps)) (hc : m ≤ cp) (hb : ∀ y ∈ blks P, y < w.heap.size) (hm : m ≤ 140737488351232) (tn : ByteArray) (ht : tn.size ≤ 140737488351232) :
    Calls Try.prog 4 #[bxv b1 A1 e1, bxv b2 A2 e2, .slice P m cp, .string tn] w fun e w' => e = .returned (.bool true) ∧ Only [] w w' := by
  obtain ⟨sn, hsn⟩ : ∃ sn, St sn = tn := ⟨tn.data.toList, by cases tn; simp [St]⟩
  have hsz : sn.length = tn.size := by rw [← hsn, St_size]
  have cL1 := fun (W : World) (o : Only [] w W) => large_any b1 (c := e1) (h1.keep o) (by omega)
  have cL2 := fun (W : World) (o : Only [] w W) => large_any b2 (c := e2) (h2.keep o) (by omega)
  have cI := fun (W : World) (o : Only [] w W) => Is_any b1 (c := e1) (h1.keep o) (by omega)
  have cR := fun (W : World) (o : Only [] w W) => refIs_any b1 (c := e1) (h1.keep o) (by omega) (by omega)
  have cS := fun (W : World) (o : Only [] w W) => Same_any b1 b2 (e1 := e1) (e2 := e2) (h1.keep o) (h2.keep o) (by omega)
  have cT := fun (W : World) (o : Only [] w W) => refSame_any b1 b2 (e1 := e1) (e2 := e2) (h1.keep o) (h2.keep o) (by omega) (by omega)
  have cU := fun (W : World) (o : Only [] w W) => Same_any b1 b1 (e1 := e1) (e2 := e1) (h1.keep o) (h1.keep o) (by omega)
  have cE := fun (W : World) (o : Only [] w W) => Encode_any b1 (c := e1) (h1.keep o) (by omega)
  have cF := fun (W : World) (o : Only [] w W) => refEncode_any b1 (c := e1) (h1.keep o) (by omega) (by omega)
  have cN := fun (W : World) => Name_any sn W
  have cM := fun (W : World) => (refName_any sn W (by omega)).mono fun e w' (he : e = .returned (.bool (nameL sn)) ∧ W = w') => (show e = .returned (.bool (nameL sn)) ∧ Only [] W w' from ⟨he.1, he.2 ▸ Only.refl [] W⟩)
  rw [hsn] at cN cM
  obtain ⟨ia, hia⟩ : ∃ r, isB b1 = r := ⟨_, rfl⟩
  obtain ⟨ab, hab⟩ : ∃ r, sameB b1 b2 = r := ⟨_, rfl⟩
  obtain ⟨nb, hnb⟩ : ∃ r, nameL sn = r := ⟨_, rfl⟩
  obtain ⟨eb, heb⟩ : ∃ r, encO b1 = r := ⟨_, rfl⟩
  obtain ⟨ne, hne⟩ : ∃ r, eb.length = r := ⟨_, rfl⟩
  obtain ⟨qe, hqe⟩ : ∃ r, encQ b1 = r := ⟨_, rfl⟩
  replace cE := fun (W : World) (o : Only [] w W) => (cE W o).mono fun e w' h => encO_of h heb hne hqe
  replace cF := fun (W : World) (o : Only [] w W) => (cF W o).mono fun e w' h => encO_of h heb hne hqe
  rw [hia] at cI cR
  rw [hab] at cS cT
  rw [show sameB b1 b1 = true from decide_eq_true rfl] at cU
  rw [hnb] at cN cM
  obtain ⟨s1, v1, x1, l1⟩ := b1
  obtain ⟨s2, v2, x2, l2⟩ := b2
  obtain ⟨n1, hl1⟩ : ∃ n, l1.length = n := ⟨_, rfl⟩
  obtain ⟨n2, hl2⟩ : ∃ n, l2.length = n := ⟨_, rfl⟩
  simp only at h1 h2 hn1 hn2 hm1
  simp only [bxv_eq hl1, bxv_eq hl2] at cL1 cL2 cI cR cS cT cU cE cF ⊢
  -- what both Decodes answer
  obtain ⟨D, hD⟩ : ∃ D, decB ps = D := ⟨_, rfl⟩
  obtain ⟨⟨s3, v3, x3, l3⟩, rd⟩ := D
  obtain ⟨n3, hl3⟩ : ∃ n, l3.length = n := ⟨_, rfl⟩
  have hda : ∀ {W : World} {e : Ending} {W' : World}, DecA W ps e W' → ∃ A' c', e = .returned (.tuple #[.agg #[.string (St s3), .int .i64 v3, .int .i64 x3, .slice A' n3 c'], .int .i64 rd]) ∧ Ms AnyB W' A' n3 l3 ∧ Only [] W W' := fun h => by
    obtain ⟨A', c', d1, d2, d3⟩ := h
    rw [hD] at d1 d2
    simp only at d1 d2
    rw [bxv_eq hl3] at d1
    rw [hl3] at d2
    exact ⟨A', c', d1, d2, d3⟩
  have HDE := Lib.hid (fun (W : World) (Q : Option Addr) (cq : Nat) (hs : Sl W Q m (bvs ps)) (hh : m ≤ 1000000000000) => (Decode_any (cp := cq) hs hh).mono fun e w' h => hda h)
  have HSS := Lib.hid (fun (W : World) (A7 A8 : Option Addr) (c7 c8 : Nat) (g1 : Ms AnyB W A7 n3 l3) (g2 : Ms AnyB W A8 n3 l3) (hh : n3 ≤ 140737488355328) => same_as (s := s3) (v := v3) (x := x3) (c1 := c7) (c2 := c8) hl3 g1 g2 hh)
  have HL3 : Hid (n3 ≤ 24) := by
    show _ ≤ _
    unfold decB at hD
    split at hD
    · rename_i b hb'
      injection hD with hD _
      subst hD
      have hi : isB ⟨s3, v3, x3, l3⟩ = true := by
        unfold decO at hb'
        split at hb'
        · cases hb'
        · split at hb'
          · rename_i hw
            injection hb' with hb'
            rw [← hb']
            simp only [Bool.and_eq_true] at hw
            exact hw.2
          · cases hb'
      rw [isB_iff] at hi
      have := hi.2.2.2.1
      simp only at this
      omega
    · injection hD with hD _
      unfold zeroB at hD
      injection hD with _ _ _ d4
      subst d4
      simp at hl3
      omega
  have HRD := Lib.hid (fun (W : World) (o : Only [] w W) (hh : m ≤ 1000000000000) => (refDecode_any (w := W) (cp := cp) (hp.keep o) hc (fun y hy => Nat.lt_of_lt_of_le (hb y hy) o.size) hh).mono fun e w' h => hda h)
  obtain ⟨t1, ht1⟩ : ∃ t, St s1 = t := ⟨_, rfl⟩
  obtain ⟨t2, ht2⟩ : ∃ t, St s2 = t := ⟨_, rfl⟩
  obtain ⟨t3, ht3⟩ : ∃ t, St s3 = t := ⟨_, rfl⟩
  obtain ⟨tq, htq⟩ : ∃ t, St eb = t := ⟨_, rfl⟩
  have HTQ := Lib.hid htq
  rw [ht1] at cL1 cI cR cS cT cU cE cF ⊢
  rw [ht2] at cL2 cS cT ⊢
  rw [ht3] at HDE HSS HRD
  have HL1 := Lib.hid cL1
  have HL2 := Lib.hid cL2
  have HIA := Lib.hid cI
  have HRA := Lib.hid cR
  have HSB := Lib.hid cS
  have HRB := Lib.hid cT
  have HAA := Lib.hid cU
  have HEN := Lib.hid cE
  have HEF := Lib.hid cF
  have HNA := Lib.hid cN
  have HNB := Lib.hid cM
  have HKN := Lib.hid known_any
  have HP := Lib.hid hp
  have hO : Only [] w ((w.alloc (.cells #[.string t1, .int .i64 v1, .int .i64 x1, .slice A1 n1 e1] 26)).alloc (.cells #[.string t2, .int .i64 v2, .int .i64 x2, .slice A2 n2 e2] 26)) := ((Only.refl _ _).alloc _).alloc _
  have B1 := (Bk.new w 26 #[.string t1, .int .i64 v1, .int .i64 x1, .slice A1 n1 e1]).alloc (.cells #[.string t2, .int .i64 v2, .int .i64 x2, .slice A2 n2 e2] 26)
  have B2 := Bk.new (w.alloc (.cells #[.string t1, .int .i64 v1, .int .i64 x1, .slice A1 n1 e1] 26)) 26 #[.string t2, .int .i64 v2, .int .i64 x2, .slice A2 n2 e2]
  rw [World.size_alloc] at B2
  have HB1 := Lib.hid B1
  have HB2 := Lib.hid B2
  have HO := Lib.hid hO
  obtain ⟨i0, hi, hz0, hz1, hz2⟩ := info_parts infoByte
  have hts : (tn.size : Int) ≤ 60 ∨ (60 : Int) < (tn.size : Int) := by omega
  obtain ⟨nt, hnt⟩ : ∃ k, tn.size = k := ⟨_, rfl⟩
  obtain ⟨a0, a1, a2, a3⟩ := bk_four B1
  obtain ⟨b0, b1, b2, b3⟩ := bk_four B2
  clear hda cL1 cL2 cI cR cS cT cU cE cF cN cM hia hab hnb heb hne hqe ht1 ht2 ht3 htq hsn hsz h1 h2 hl1 hl2 hl3 hD hO B1 B2 hp hb
  go_enter Try.func4, Try.ntmps4
  go_wp2_with fail
  refine (HL1.out _ HO.out).mono ?_
  rintro e w2 ⟨B, rfl, O2⟩
  replace a0 := O2.cellSome a0 (by simp)
  replace a1 := O2.cellSome a1 (by simp)
  replace a2 := O2.cellSome a2 (by simp)
  replace a3 := O2.cellSome a3 (by simp)
  replace b0 := O2.cellSome b0 (by simp)
  replace b1 := O2.cellSome b1 (by simp)
  replace b2 := O2.cellSome b2 (by simp)
  replace b3 := O2.cellSome b3 (by simp)
  cases B
  case true =>
    go_wp2
    go_ret
    exact ⟨rfl, HO.out.then O2⟩
  go_wp2_with fail
  refine (HL2.out _ (HO.out.then O2)).mono ?_
  rintro e w3 ⟨B, rfl, O3⟩
  replace a0 := O3.cellSome a0 (by simp)
  replace a1 := O3.cellSome a1 (by simp)
  replace a2 := O3.cellSome a2 (by simp)
  replace a3 := O3.cellSome a3 (by simp)
  replace b0 := O3.cellSome b0 (by simp)
  replace b1 := O3.cellSome b1 (by simp)
  replace b2 := O3.cellSome b2 (by simp)
  replace b3 := O3.cellSome b3 (by simp)
  have Q3 := (HO.out.then O2).then O3
  cases B
  case true =>
    go_wp2
    go_ret
    exact ⟨rfl, Q3⟩
  by_cases h5 : (5000 : Int) < (m : Int)
  · go_wp2
    go_ret
    exact ⟨rfl, Q3⟩
  by_cases h6 : (60 : Int) < (nt : Int)
  · go_wp2
    go_ret
    exact ⟨rfl, Q3⟩
  have hm5 : m ≤ 5000 := by omega
  have B1 := Lib.hid ((HB1.out.only O2 (by simp)).only O3 (by simp))
  have B2 := Lib.hid ((HB2.out.only O2 (by simp)).only O3 (by simp))
  clear HL1 HL2 HB1 HB2 b0 b1 b2 b3 O2 O3 hts
  go_wp2_with (first
    | (go_at_call 20; go_must (refine (HEN.out _ Q3).mono ?_); rintro e w4 ⟨A4, c4, rfl, V4, O4⟩; have Q4 := Q3.then O4; replace a0 := O4.cellSome a0 (by simp); replace a1 := O4.cellSome a1 (by simp); replace a2 := O4.cellSome a2 (by simp); replace a3 := O4.cellSome a3 (by simp))
    | (go_at_call 21; go_must (refine (HEF.out _ Q4).mono ?_); rintro e w5 ⟨A5, c5, rfl, V5, O5⟩; have Q5 := Q4.then O5; clear a0 a1 a2 a3)
    | (refine wpList_append_sl rfl _ _ 29 rfl 5 i0 (.int .u8 0) 1 Try.underlying29 hi hz0 hz1 hz2 rfl (some ⟨w5.heap.size, 0, none⟩) 0 0 [] rfl (own_empty w5 _) P m cp (bvs ps) rfl (HP.out.keep (Q5.alloc _)) (bvs_one ps) (by unfold maxLen; omega) (by omega) ?_; intro A6 c6 w6 V6 O6 F6; replace V6 : Own w6 5 A6 m c6 (bvs ps) := (by simpa using V6); have R6 := ((Only.refl [] w5).alloc (.cells #[] 5)).trans O6 (fun y hy => .inr (by simp at hy; omega)); have Q6 := Q5.then R6)
    | (go_at_call 22; go_must (refine (HDE.out _ A6 c6 V6.sl (by omega)).mono ?_); rintro e w7 ⟨A7, c7, rfl, M7, O7⟩; have Q7 := (Q6.then O7).alloc (.cells #[.string t3, .int .i64 v3, .int .i64 x3, .slice A7 n3 c7] 26); have X7 := Bk.new w7 26 #[.string t3, .int .i64 v3, .int .i64 x3, .slice A7 n3 c7])
    | (go_at_call 23; go_must (refine (HRD.out _ Q7 (by omega)).mono ?_); rintro e w8 ⟨A8, c8, rfl, M8, O8⟩))
  have X8 := Lib.hid ((X7.only O8 (by simp)).alloc (.cells #[.string t3, .int .i64 v3, .int .i64 x3, .slice A8 n3 c8] 26))
  have Y8 := Lib.hid (Bk.new w8 26 #[.string t3, .int .i64 v3, .int .i64 x3, .slice A8 n3 c8])
  have hq9 := (Q7.then O8).alloc (.cells #[.string t3, .int .i64 v3, .int .i64 x3, .slice A8 n3 c8] 26)
  have hr9 := (((((Only.refl [] w3).then O4).then O5).then R6).then (O7.alloc (.cells #[.string t3, .int .i64 v3, .int .i64 x3, .slice A7 n3 c7] 26))).then (O8.alloc (.cells #[.string t3, .int .i64 v3, .int .i64 x3, .slice A8 n3 c8] 26))
  have HQ9 := Lib.hid hq9
  have HV4 := Lib.hid (V4.keep ((((Only.refl [] w4).then O5).then R6).then (O7.alloc (.cells #[.string t3, .int .i64 v3, .int .i64 x3, .slice A7 n3 c7] 26)) |>.then (O8.alloc (.cells #[.string t3, .int .i64 v3, .int .i64 x3, .slice A8 n3 c8] 26))))
  have HV5 := Lib.hid (V5.keep (((Only.refl [] w5).then R6).then (O7.alloc (.cells #[.string t3, .int .i64 v3, .int .i64 x3, .slice A7 n3 c7] 26)) |>.then (O8.alloc (.cells #[.string t3, .int .i64 v3, .int .i64 x3, .slice A8 n3 c8] 26))))
  have hn3 : n3 ≤ 24 := HL3.out
  have g7 := (M7.keep ((Only.refl [] w7).alloc (.cells #[.string t3, .int .i64 v3, .int .i64 x3, .slice A7 n3 c7] 26))).keep (O8.alloc (.cells #[.string t3, .int .i64 v3, .int .i64 x3, .slice A8 n3 c8] 26))
  have g8 := M8.keep ((Only.refl [] w8).alloc (.cells #[.string t3, .int .i64 v3, .int .i64 x3, .slice A8 n3 c8] 26))
  have D1 := Lib.hid (B1.out.only hr9 (by simp))
  have D2 := Lib.hid (B2.out.only hr9 (by simp))
  have hs7 : w7.heap.size < w8.heap.size := by have := O8.size; simp at this; omega
  generalize w8.alloc (.cells #[.string t3, .int .i64 v3, .int .i64 x3, .slice A8 n3 c8] 26) = w9 at *
  have HXY := Lib.hid (fun (W : World) (o : Only [] w9 W) => HSS.out W A7 A8 c7 c8 (g7.keep o) (g8.keep o) (by omega))
  replace HIA := Lib.hid (fun (W : World) (o : Only [] w9 W) => HIA.out W (HQ9.out.then o))
  replace HRA := Lib.hid (fun (W : World) (o : Only [] w9 W) => HRA.out W (HQ9.out.then o))
  replace HSB := Lib.hid (fun (W : World) (o : Only [] w9 W) => HSB.out W (HQ9.out.then o))
  replace HRB := Lib.hid (fun (W : World) (o : Only [] w9 W) => HRB.out W (HQ9.out.then o))
  replace HAA := Lib.hid (fun (W : World) (o : Only [] w9 W) => HAA.out W (HQ9.out.then o))
  clear HSS HEN HEF HDE HRD HP HO HL3 X7 Q3 Q4 Q5 Q6 Q7 O4 O5 O6 O7 O8 R6 V4 V5 V6 F6 M7 M8 g7 g8 hq9 hr9 B1 B2 hi hz0 hz1 hz2
  obtain ⟨a0, a1, a2, a3⟩ := bk_four D1.out
  obtain ⟨b0, b1, b2, b3⟩ := bk_four D2.out
  obtain ⟨p0, p1, p2, p3⟩ := bk_four X8.out
  obtain ⟨q0, q1, q2, q3⟩ := bk_four Y8.out
  clear D1 D2 X8 Y8
  apply region_only (by kernel_rfl) (by kernel_rfl)
  apply rel_val (hrf := Tk_refl)
  case hw => rfl
  case hy => intro wS hN hF; skip; first | (go_simp; done) | (go_simp; with_reducible rfl)
  case' hk => skip
  try simp only [Act.put, List.setIfInBounds_toArray, List.set_cons_zero, List.set_cons_succ]
  apply rel_val (v := .string tq) (hrf := Tk_refl)
  case hw => rfl
  case hy =>
    intro wS hN hF
    have hO := hN.pre (by kernel_rfl)
    have hcv := str_at ((HV4.out).keep ((Only.refl [] _).drew.then hO)) c4
    rw [HTQ.out] at hcv
    go_simp
  case' hk => skip
  try simp only [Act.put, List.setIfInBounds_toArray, List.set_cons_zero, List.set_cons_succ]
  apply rel_val (hrf := Tk_refl)
  case hw => rfl
  case hy => intro wS hN hF; skip; first | (go_simp; done) | (go_simp; with_reducible rfl)
  case' hk => skip
  try simp only [Act.put, List.setIfInBounds_toArray, List.set_cons_zero, List.set_cons_succ]
  apply rel_val (v := .string tq) (hrf := Tk_refl)
  case hw => rfl
  case hy =>
    intro wS hN hF
    have hO := hN.pre (by kernel_rfl)
    have hcv := str_at ((HV5.out).keep ((Only.refl [] _).drew.then hO)) c5
    rw [HTQ.out] at hcv
    go_simp
  case' hk => skip
  try simp only [Act.put, List.setIfInBounds_toArray, List.set_cons_zero, List.set_cons_succ]
  apply rel_val (v := .bool true) (hrf := Tk_refl)
  case hw => rfl
  case hy =>
    intro wS hN hF
    go_simp
  case' hk => skip
  try simp only [Act.put, List.setIfInBounds_toArray, List.set_cons_zero, List.set_cons_succ]
  apply rel_val (hrf := Tk_refl)
  case hw => rfl
  case hy => intro wS hN hF; skip; first | (go_simp; done) | (go_simp; with_reducible rfl)
  case' hk => skip
  try simp only [Act.put, List.setIfInBounds_toArray, List.set_cons_zero, List.set_cons_succ]
  apply rel_val (hrf := Tk_refl)
  case hw => rfl
  case hy => intro wS hN hF; skip; first | (go_simp; done) | (go_simp; with_reducible rfl)
  case' hk => skip
  try simp only [Act.put, List.setIfInBounds_toArray, List.set_cons_zero, List.set_cons_succ]
  apply rel_val (hrf := Tk_refl)
  case hw => rfl
  case hy => intro wS hN hF; skip; first | (go_simp; done) | (go_simp; with_reducible rfl)
  case' hk => skip
  try simp only [Act.put, List.setIfInBounds_toArray, List.set_cons_zero, List.set_cons_succ]
  apply rel_val (v := .bool true) (hrf := Tk_refl)
  case hw => rfl
  case hy =>
    intro wS hN hF
    go_simp
  case' hk => skip
  try simp only [Act.put, List.setIfInBounds_toArray, List.set_cons_zero, List.set_cons_succ]
  apply rel_val (v := .bool true) (hrf := Tk_refl)
  case hw => rfl
  case hy =>
    intro wS hN hF
    go_simp
  case' hk => skip
  try simp only [Act.put, List.setIfInBounds_toArray, List.set_cons_zero, List.set_cons_succ]
  apply rel_val (hrf := Tk_refl)
  case hw => rfl
  case hy => intro wS hN hF; skip; first | (go_simp; done) | (go_simp; with_reducible rfl)
  case' hk => skip
  try simp only [Act.put, List.setIfInBounds_toArray, List.set_cons_zero, List.set_cons_succ]
  apply rel_val (hrf := Tk_refl)
  case hw => rfl
  case hy => intro wS hN hF; have hO := hN.pre (by kernel_rfl); have q0 := hO.cellSome p0 (by simp); have q1 := hO.cellSome p1 (by simp); have q2 := hO.cellSome p2 (by simp); have q3 := hO.cellSome p3 (by simp); first | (go_simp; done) | (go_simp; with_reducible rfl)
  case' hk => skip
  try simp only [Act.put, List.setIfInBounds_toArray, List.set_cons_zero, List.set_cons_succ]
  apply rel_val (hrf := Tk_refl)
  case hw => rfl
  case hy => intro wS hN hF; have hO := hN.pre (by kernel_rfl); have q0 := hO.cellSome q0 (by simp); have q1 := hO.cellSome q1 (by simp); have q2 := hO.cellSome q2 (by simp); have q3 := hO.cellSome q3 (by simp); first | (go_simp; done) | (go_simp; with_reducible rfl)
  case' hk => skip
  try simp only [Act.put, List.setIfInBounds_toArray, List.set_cons_zero, List.set_cons_succ]
  apply rel_call (v := .bool true) (f := 17) (args := #[.agg #[.string t3, .int .i64 v3, .int .i64 x3, .slice A7 n3 c7], .agg #[.string t3, .int .i64 v3, .int .i64 x3, .slice A8 n3 c8]])
  case hw => rfl
  case hy => intro wS hN hF; go_simp
  case hc => intro wS hN hF; exact call_only (HXY.out wS ((Only.refl [] _).drew.then (hN.pre (by kernel_rfl))))
  case' hk => skip
  try simp only [Act.put, List.setIfInBounds_toArray, List.set_cons_zero, List.set_cons_succ]
  apply rel_val (v := .bool true) (hrf := Tk_refl)
  case hw => rfl
  case hy =>
    intro wS hN hF
    go_simp
  case' hk => skip
  try simp only [Act.put, List.setIfInBounds_toArray, List.set_cons_zero, List.set_cons_succ]
  apply rel_val (hrf := Tk_refl)
  case hw => rfl
  case hy => intro wS hN hF; skip; first | (go_simp; done) | (go_simp; with_reducible rfl)
  case' hk => skip
  try simp only [Act.put, List.setIfInBounds_toArray, List.set_cons_zero, List.set_cons_succ]
  apply rel_val (hrf := Tk_refl)
  case hw => rfl
  case hy => intro wS hN hF; skip; first | (go_simp; done) | (go_simp; with_reducible rfl)
  case' hk => skip
  try simp only [Act.put, List.setIfInBounds_toArray, List.set_cons_zero, List.set_cons_succ]
  apply rel_val (hrf := Tk_refl)
  case hw => rfl
  case hy => intro wS hN hF; skip; first | (go_simp; done) | (go_simp; with_reducible rfl)
  case' hk => skip
  try simp only [Act.put, List.setIfInBounds_toArray, List.set_cons_zero, List.set_cons_succ]
  apply rel_val (v := .bool true) (hrf := Tk_refl)
  case hw => rfl
  case hy =>
    intro wS hN hF
    go_simp
  case' hk => skip
  try simp only [Act.put, List.setIfInBounds_toArray, List.set_cons_zero, List.set_cons_succ]
  apply rel_val (v := .bool true) (hrf := Tk_refl)
  case hw => rfl
  case hy =>
    intro wS hN hF
    go_simp
  case' hk => skip
  try simp only [Act.put, List.setIfInBounds_toArray, List.set_cons_zero, List.set_cons_succ]
  apply rel_val (hrf := Tk_refl)
  case hw => rfl
  case hy => intro wS hN hF; skip; first | (go_simp; done) | (go_simp; with_reducible rfl)
  case' hk => skip
  try simp only [Act.put, List.setIfInBounds_toArray, List.set_cons_zero, List.set_cons_succ]
  apply rel_val (hrf := Tk_refl)
  case hw => rfl
  case hy => intro wS hN hF; have hO := hN.pre (by kernel_rfl); have q0 := hO.cellSome a0 (by simp); have q1 := hO.cellSome a1 (by simp); have q2 := hO.cellSome a2 (by simp); have q3 := hO.cellSome a3 (by simp); first | (go_simp; done) | (go_simp; with_reducible rfl)
  case' hk => skip
  try simp only [Act.put, List.setIfInBounds_toArray, List.set_cons_zero, List.set_cons_succ]
  apply rel_call (v := .bool ia) (f := 24) (args := #[.agg #[.string t1, .int .i64 v1, .int .i64 x1, .slice A1 n1 e1]])
  case hw => rfl
  case hy => intro wS hN hF; go_simp
  case hc => intro wS hN hF; exact call_only (HIA.out wS ((Only.refl [] _).drew.then (hN.pre (by kernel_rfl))))
  case' hk => skip
  try simp only [Act.put, List.setIfInBounds_toArray, List.set_cons_zero, List.set_cons_succ]
  apply rel_val (hrf := Tk_refl)
  case hw => rfl
  case hy => intro wS hN hF; have hO := hN.pre (by kernel_rfl); have q0 := hO.cellSome a0 (by simp); have q1 := hO.cellSome a1 (by simp); have q2 := hO.cellSome a2 (by simp); have q3 := hO.cellSome a3 (by simp); first | (go_simp; done) | (go_simp; with_reducible rfl)
  case' hk => skip
  try simp only [Act.put, List.setIfInBounds_toArray, List.set_cons_zero, List.set_cons_succ]
  apply rel_call (v := .bool ia) (f := 15) (args := #[.agg #[.string t1, .int .i64 v1, .int .i64 x1, .slice A1 n1 e1]])
  case hw => rfl
  case hy => intro wS hN hF; go_simp
  case hc => intro wS hN hF; exact call_only (HRA.out wS ((Only.refl [] _).drew.then (hN.pre (by kernel_rfl))))
  case' hk => skip
  try simp only [Act.put, List.setIfInBounds_toArray, List.set_cons_zero, List.set_cons_succ]
  apply rel_val (v := .bool true) (hrf := Tk_refl)
  case hw => rfl
  case hy =>
    intro wS hN hF
    go_simp
  case' hk => skip
  try simp only [Act.put, List.setIfInBounds_toArray, List.set_cons_zero, List.set_cons_succ]
  apply rel_val (v := .bool true) (hrf := Tk_refl)
  case hw => rfl
  case hy =>
    intro wS hN hF
    go_simp
  case' hk => skip
  try simp only [Act.put, List.setIfInBounds_toArray, List.set_cons_zero, List.set_cons_succ]
  apply rel_val (hrf := Tk_refl)
  case hw => rfl
  case hy => intro wS hN hF; skip; first | (go_simp; done) | (go_simp; with_reducible rfl)
  case' hk => skip
  try simp only [Act.put, List.setIfInBounds_toArray, List.set_cons_zero, List.set_cons_succ]
  apply rel_val (hrf := Tk_refl)
  case hw => rfl
  case hy => intro wS hN hF; have hO := hN.pre (by kernel_rfl); have q0 := hO.cellSome a0 (by simp); have q1 := hO.cellSome a1 (by simp); have q2 := hO.cellSome a2 (by simp); have q3 := hO.cellSome a3 (by simp); first | (go_simp; done) | (go_simp; with_reducible rfl)
  case' hk => skip
  try simp only [Act.put, List.setIfInBounds_toArray, List.set_cons_zero, List.set_cons_succ]
  apply rel_val (hrf := Tk_refl)
  case hw => rfl
  case hy => intro wS hN hF; have hO := hN.pre (by kernel_rfl); have q0 := hO.cellSome b0 (by simp); have q1 := hO.cellSome b1 (by simp); have q2 := hO.cellSome b2 (by simp); have q3 := hO.cellSome b3 (by simp); first | (go_simp; done) | (go_simp; with_reducible rfl)
  case' hk => skip
  try simp only [Act.put, List.setIfInBounds_toArray, List.set_cons_zero, List.set_cons_succ]
  apply rel_call (v := .bool ab) (f := 25) (args := #[.agg #[.string t1, .int .i64 v1, .int .i64 x1, .slice A1 n1 e1], .agg #[.string t2, .int .i64 v2, .int .i64 x2, .slice A2 n2 e2]])
  case hw => rfl
  case hy => intro wS hN hF; go_simp
  case hc => intro wS hN hF; exact call_only (HSB.out wS ((Only.refl [] _).drew.then (hN.pre (by kernel_rfl))))
  case' hk => skip
  try simp only [Act.put, List.setIfInBounds_toArray, List.set_cons_zero, List.set_cons_succ]
  apply rel_val (hrf := Tk_refl)
  case hw => rfl
  case hy => intro wS hN hF; have hO := hN.pre (by kernel_rfl); have q0 := hO.cellSome a0 (by simp); have q1 := hO.cellSome a1 (by simp); have q2 := hO.cellSome a2 (by simp); have q3 := hO.cellSome a3 (by simp); first | (go_simp; done) | (go_simp; with_reducible rfl)
  case' hk => skip
  try simp only [Act.put, List.setIfInBounds_toArray, List.set_cons_zero, List.set_cons_succ]
  apply rel_val (hrf := Tk_refl)
  case hw => rfl
  case hy => intro wS hN hF; have hO := hN.pre (by kernel_rfl); have q0 := hO.cellSome b0 (by simp); have q1 := hO.cellSome b1 (by simp); have q2 := hO.cellSome b2 (by simp); have q3 := hO.cellSome b3 (by simp); first | (go_simp; done) | (go_simp; with_reducible rfl)
  case' hk => skip
  try simp only [Act.put, List.setIfInBounds_toArray, List.set_cons_zero, List.set_cons_succ]
  apply rel_call (v := .bool ab) (f := 17) (args := #[.agg #[.string t1, .int .i64 v1, .int .i64 x1, .slice A1 n1 e1], .agg #[.string t2, .int .i64 v2, .int .i64 x2, .slice A2 n2 e2]])
  case hw => rfl
  case hy => intro wS hN hF; go_simp
  case hc => intro wS hN hF; exact call_only (HRB.out wS ((Only.refl [] _).drew.then (hN.pre (by kernel_rfl))))
  case' hk => skip
  try simp only [Act.put, List.setIfInBounds_toArray, List.set_cons_zero, List.set_cons_succ]
  apply rel_val (v := .bool true) (hrf := Tk_refl)
  case hw => rfl
  case hy =>
    intro wS hN hF
    go_simp
  case' hk => skip
  try simp only [Act.put, List.setIfInBounds_toArray, List.set_cons_zero, List.set_cons_succ]
  apply rel_val (v := .bool true) (hrf := Tk_refl)
  case hw => rfl
  case hy =>
    intro wS hN hF
    go_simp
  case' hk => skip
  try simp only [Act.put, List.setIfInBounds_toArray, List.set_cons_zero, List.set_cons_succ]
  apply rel_val (hrf := Tk_refl)
  case hw => rfl
  case hy => intro wS hN hF; skip; first | (go_simp; done) | (go_simp; with_reducible rfl)
  case' hk => skip
  try simp only [Act.put, List.setIfInBounds_toArray, List.set_cons_zero, List.set_cons_succ]
  apply rel_val (hrf := Tk_refl)
  case hw => rfl
  case hy => intro wS hN hF; have hO := hN.pre (by kernel_rfl); have q0 := hO.cellSome a0 (by simp); have q1 := hO.cellSome a1 (by simp); have q2 := hO.cellSome a2 (by simp); have q3 := hO.cellSome a3 (by simp); first | (go_simp; done) | (go_simp; with_reducible rfl)
  case' hk => skip
  try simp only [Act.put, List.setIfInBounds_toArray, List.set_cons_zero, List.set_cons_succ]
  apply rel_val (hrf := Tk_refl)
  case hw => rfl
  case hy => intro wS hN hF; have hO := hN.pre (by kernel_rfl); have q0 := hO.cellSome a0 (by simp); have q1 := hO.cellSome a1 (by simp); have q2 := hO.cellSome a2 (by simp); have q3 := hO.cellSome a3 (by simp); first | (go_simp; done) | (go_simp; with_reducible rfl)
  case' hk => skip
  try simp only [Act.put, List.setIfInBounds_toArray, List.set_cons_zero, List.set_cons_succ]
  apply rel_call (v := .bool true) (f := 25) (args := #[.agg #[.string t1, .int .i64 v1, .int .i64 x1, .slice A1 n1 e1], .agg #[.string t1, .int .i64 v1, .int .i64 x1, .slice A1 n1 e1]])
  case hw => rfl
  case hy => intro wS hN hF; go_simp
  case hc => intro wS hN hF; exact call_only (HAA.out wS ((Only.refl [] _).drew.then (hN.pre (by kernel_rfl))))
  case' hk => skip
  try simp only [Act.put, List.setIfInBounds_toArray, List.set_cons_zero, List.set_cons_succ]
  apply rel_val (v := .bool true) (hrf := Tk_refl)
  case hw => rfl
  case hy =>
    intro wS hN hF
    go_simp
  case' hk => skip
  try simp only [Act.put, List.setIfInBounds_toArray, List.set_cons_zero, List.set_cons_succ]
  apply rel_val (hrf := Tk_refl)
  case hw => rfl
  case hy => intro wS hN hF; skip; first | (go_simp; done) | (go_simp; with_reducible rfl)
  case' hk => skip
  try simp only [Act.put, List.setIfInBounds_toArray, List.set_cons_zero, List.set_cons_succ]
  apply rel_val (hrf := Tk_refl)
  case hw => rfl
  case hy => intro wS hN hF; skip; first | (go_simp; done) | (go_simp; with_reducible rfl)
  case' hk => skip
  try simp only [Act.put, List.setIfInBounds_toArray, List.set_cons_zero, List.set_cons_succ]
  apply rel_call (v := .bool nb) (f := 26) (args := #[.string tn])
  case hw => rfl
  case hy => intro wS hN hF; go_simp
  case hc => intro wS hN hF; exact call_only (HNA.out wS)
  case' hk => skip
  try simp only [Act.put, List.setIfInBounds_toArray, List.set_cons_zero, List.set_cons_succ]
  apply rel_val (hrf := Tk_refl)
  case hw => rfl
  case hy => intro wS hN hF; skip; first | (go_simp; done) | (go_simp; with_reducible rfl)
  case' hk => skip
  try simp only [Act.put, List.setIfInBounds_toArray, List.set_cons_zero, List.set_cons_succ]
  apply rel_call (v := .bool nb) (f := 27) (args := #[.string tn])
  case hw => rfl
  case hy => intro wS hN hF; go_simp
  case hc => intro wS hN hF; exact call_only (HNB.out wS)
  case' hk => skip
  try simp only [Act.put, List.setIfInBounds_toArray, List.set_cons_zero, List.set_cons_succ]
  apply rel_val (v := .bool true) (hrf := Tk_refl)
  case hw => rfl
  case hy =>
    intro wS hN hF
    go_simp
  case' hk => skip
  try simp only [Act.put, List.setIfInBounds_toArray, List.set_cons_zero, List.set_cons_succ]
  apply rel_val (v := .bool true) (hrf := Tk_refl)
  case hw => rfl
  case hy =>
    intro wS hN hF
    go_simp
  case' hk => skip
  try simp only [Act.put, List.setIfInBounds_toArray, List.set_cons_zero, List.set_cons_succ]
  apply rel_val (hrf := Tk_refl)
  case hw => rfl
  case hy => intro wS hN hF; skip; first | (go_simp; done) | (go_simp; with_reducible rfl)
  case' hk => skip
  try simp only [Act.put, List.setIfInBounds_toArray, List.set_cons_zero, List.set_cons_succ]
  apply rel_call (v := .bool true) (f := 18) (args := #[])
  case hw => rfl
  case hy => intro wS hN hF; go_simp
  case hc => intro wS hN hF; exact call_only (HKN.out wS)
  case' hk => skip
  try simp only [Act.put, List.setIfInBounds_toArray, List.set_cons_zero, List.set_cons_succ]
  apply rel_val (v := .bool true) (hrf := Tk_refl)
  case hw => rfl
  case hy =>
    intro wS hN hF
    go_simp
  case' hk => skip
  try simp only [Act.put, List.setIfInBounds_toArray, List.set_cons_zero, List.set_cons_succ]
  apply rel_val (hrf := Tk_refl)
  case hw => rfl
  case hy => intro wS hN hF; skip; first | (go_simp; done) | (go_simp; with_reducible rfl)
  case' hk => skip
  try simp only [Act.put, List.setIfInBounds_toArray, List.set_cons_zero, List.set_cons_succ]
  refine rel_end ?_
  intro wS hO2 hF
  clear hF
  go_wp2
  go_ret
  exact ⟨rfl, (HQ9.out.drew).then hO2.only⟩
end Go.Proofs.Ythaodlegpjedoaa
