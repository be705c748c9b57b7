/-
  Texts of the seat, laid one behind the other: SBack.
-/
import Derived.Test.YtgnilldcfpgpaaaGreatDoorB22
import Derived.Test.YtgnilldcfpgpaaaGreatDoorB23
import Derived.Test.YtgnilldcfpgpaaaGreatDoorB12
namespace Go.Proofs.YtgnilldcfpgpaaaGreatDoor
open Go.RowKit Go.Maps
theorem lowS (n : Int) : bits .and .i64 n 65535 = n % 65536 := by
  have h16 : (BitVec.ofInt 64 65535).toNat = 2 ^ 16 - 1 := by decide
  have key : (BitVec.ofInt 64 n &&& BitVec.ofInt 64 65535).toNat = (n % ((2 ^ 64 : Nat) : Int)).toNat % 2 ^ 16 := by
    rw [BitVec.toNat_and, BitVec.toNat_ofInt, h16, Nat.and_two_pow_sub_one_eq_mod]
  show IntKind.i64.wrap ((BitVec.ofInt 64 n &&& BitVec.ofInt 64 65535).toNat : Nat) = n % 65536
  rw [key, IntKind.wrap_i64]
  omega
theorem preS {A : Option Addr} {n c k : Nat} (hk : k ≤ n) (hnc : n ≤ c) : ∀ W, (Instr.slice 27 (.slice A n c) none (some (.int .i64 (k : Int))) none).run Tryz.prog W = .ok (.slice A k c) W := fun W => by
  have h1 : (k : Int) ≤ (c : Int) := by omega
  go_simp
theorem strS {w : World} {A : Option Addr} {n : Nat} {l : List UInt8} (h : Sl w A n (bvs l)) (c : Nat) : (convert 27 9 (.slice A n c)).run Tryz.prog w = .ok (.string (St l)) w :=
  run_str_sl (P := Tryz.prog) 27 9 5 A n c l Tryz.underlying27 Tryz.underlying5 Tryz.underlying9 h
def BytesN (w : World) (P : List UInt8) (n : Nat) (e : Ending) (w' : World) : Prop := ∃ A' c', e = .returned (.tuple #[.slice A' n c', .int .i64 0]) ∧ Own w' 5 A' n c' (bvs P) ∧ Only [] w w'
theorem enc_yes {w : World} {c : Ch} {e : Ending} {w' : World} {P : List UInt8} {n : Nat} (h : EncCR w c e w') (hc : isC c = true) (hP : encC c = P) (hn : P.length = n) : BytesN w P n e w' := by
  subst hP hn
  rcases h with ⟨_, A', c', h1, h2, h3, _⟩ | ⟨h, _⟩
  · exact ⟨A', c', h1, h2, h3⟩
  · rw [hc] at h; cases h
def DecNo (w : World) (e : Ending) (w' : World) : Prop := ∃ A ca B cb, e = .returned (.tuple #[.agg #[.int .i64 0, .string ⟨#[]⟩, .string ⟨#[]⟩, .string ⟨#[]⟩, .string ⟨#[]⟩, .slice A 0 ca, .int .i64 0, .int .i64 0, .int .i64 0, .slice B 0 cb], .int .i64 3]) ∧ Only [] w w'
theorem dec_no {w : World} {p : List UInt8} {e : Ending} {w' : World} (h : DecPA w p e w') (hc : chO p = none) : DecNo w e w' := by
  obtain ⟨c, A, ca, B, cb, q, he, hh, _, _, ho, _⟩ := h
  rcases hh with ⟨h1, _⟩ | ⟨_, rfl, rfl⟩
  · rw [hc] at h1; cases h1
  · exact ⟨A, ca, B, cb, he, ho⟩
def DecY (kd : Int) (us ps bx to : List UInt8) (ui : List Int) (m : Nat) (md fl dt : Int) (bo : List UInt8) (o : Nat) (w : World) (e : Ending) (w' : World) : Prop :=
  ∃ A ca B cb, e = .returned (.tuple #[.agg #[.int .i64 kd, .string (St us), .string (St ps), .string (St bx), .string (St to), .slice A m ca, .int .i64 md, .int .i64 fl, .int .i64 dt, .slice B o cb], .int .i64 0]) ∧ Sl w' A m (ivs ui) ∧ Sl w' B o (bvs bo) ∧ Only [] w w'
theorem dec_yes {w : World} {p : List UInt8} {e : Ending} {w' : World} {kd : Int} {us ps bx to : List UInt8} {ui : List Int} {md fl dt : Int} {bo : List UInt8} {m o : Nat} (h : DecPA w p e w') (hc : chO p = some ⟨kd, us, ps, bx, to, ui, md, fl, dt, bo⟩) (hm : ui.length = m) (hob : bo.length = o) : DecY kd us ps bx to ui m md fl dt bo o w e w' := by
  subst hm hob
  obtain ⟨c, A, ca, B, cb, q, he, hh, h1, h2, ho, _⟩ := h
  rcases hh with ⟨h3, rfl⟩ | ⟨h3, _⟩
  · rw [hc] at h3
    obtain rfl := Option.some.inj h3
    exact ⟨A, ca, B, cb, he, h1, h2, ho⟩
  · rw [hc] at h3; cases h3
theorem encC_pos (c : Ch) : 0 < (encC c).length := by
  have h := enc_len_pos (clamp c.kind)
  unfold encC
  simp only [List.length_append]
  omega
theorem rowEnc_le (l : List UInt8) (h : l.length ≤ 4611686018427387904) : (rowEnc l).length ≤ 9 + l.length := by
  unfold rowEnc
  rw [List.length_append]
  have := enc_len9 h
  omega
theorem clamp_le9 (v : Int) (h : v ≤ 4611686018427387904) : (enc (clamp v)).length ≤ 9 := enc_len9 (by unfold clamp; split <;> (try split) <;> omega)
theorem encC_le {c : Ch} (h : isC c = true) : (encC c).length ≤ 10000 := by
  obtain ⟨h1, h2, h3, h4, h5, h6, h7, h8, h9, h10⟩ := isC_small h
  have e1 := clamp_le9 c.kind (by omega)
  have e2 := rowEnc_le c.user (by omega)
  have e3 := rowEnc_le c.pass (by omega)
  have e4 := rowEnc_le c.box (by omega)
  have e5 := rowEnc_le c.to (by omega)
  have e6 := clamp_le9 (c.uids.length : Int) (by omega)
  have e7 := encsLen_le c.uids
  have e8 := encsLen_le [c.mode, c.flags, c.date]
  have e9 := rowEnc_le c.body (by omega)
  unfold encsLen at e7 e8
  simp only [List.length_cons, List.length_nil] at e8
  unfold encC
  simp only [List.length_append]
  omega
theorem own_lit1 (W : World) (X : Obj) : Own ((W.alloc X).alloc (.cells #[] 5)) 5 (some ⟨W.heap.size + 1, 0, none⟩) 0 0 [] := by
  have h := World.ownsRow_lit (e := 5) (base := 0) (size := 1) (W.alloc X) #[] 0 (Nat.zero_le _) (Nat.zero_le _) rfl
  rw [World.size_alloc] at h
  exact h
set_option maxRecDepth 100000 in
set_option maxHeartbeats 16000000 in
theorem sback_any {w : World} (ht : Tab w) (hT : TabN w) (hpos : 0 < w.heap.size) (hrem : 1 < w.heap.size) (c : Ch) {A B : Option Addr} {ca cb : Nat} (hU : Sl w A c.uids.length (ivs c.uids)) (hB : Sl w B c.body.length (bvs c.body)) (hl : c.user.length ≤ 140737488355328 ∧ c.pass.length ≤ 140737488355328 ∧ c.box.length ≤ 140737488355328 ∧ c.to.length ≤ 140737488355328) (hn : c.uids.length ≤ 140737488355328) (cut : Int)
    (M : Option Addr) (n3 c3 : Nat) (more : List UInt8) (hM : Sl w M n3 (bvs more)) (hn3 : n3 ≤ 140737488351232) :
    Calls Tryz.prog 5 #[chv c A ca B cb, .int .i64 cut, .slice M n3 c3] w fun e w' => e = .returned (.bool true) ∧ Only [] w w' := by
  have cI := fun (W : World) (o : Only [] w W) => isC_any c (ca := ca) (B := B) (cb := cb) (hU.keep o) hn hl
  have hKN := fun (W : World) (o : Only [] w W) => sknown_any W (ht.keep o) (hT.keep o) (Nat.lt_of_lt_of_le hpos o.size) (Nat.lt_of_lt_of_le hrem o.size)
  have HKN := Lib.hid hKN
  have hmore : more.length = n3 := by simpa using hM.len
  obtain ⟨P, hP⟩ : ∃ P, encC c = P := ⟨_, rfl⟩
  obtain ⟨n, hnP⟩ : ∃ n, P.length = n := ⟨_, rfl⟩
  have cE := fun (hc : isC c = true) (W : World) (o : Only [] w W) => (EncodeC_any c (ca := ca) (cb := cb) (hU.keep o) (hB.keep o) hn (hT.keep o) (Nat.lt_of_lt_of_le hpos o.size)).mono fun e w' h => enc_yes h hc hP hnP
  have cD := fun (hc : isC c = true) (W : World) (o : Only [] w W) (X : Option Addr) (cx : Nat) (hX : Sl W X n (bvs P)) (hn' : n ≤ 1000000) => (DecodeC_any (cp := cx) hX (by omega) (hT.keep o) (Nat.lt_of_lt_of_le hpos o.size)).mono fun e w' h => dec_yes (m := c.uids.length) (o := c.body.length) h (by rw [← hP]; exact chO_of hc) rfl rfl
  have cN := fun (W : World) (o : Only [] w W) (X : Option Addr) (m cx : Nat) (ps : List UInt8) (hX : Sl W X m (bvs ps)) (hn' : m ≤ 1000000) (hc : chO ps = none) => (DecodeC_any (cp := cx) hX (by omega) (hT.keep o) (Nat.lt_of_lt_of_le hpos o.size)).mono fun e w' h => dec_no h hc
  have cR := fun (hc : isC c = true) (W : World) (X : Option Addr) (cx : Nat) (Y : Option Addr) (cy : Nat) (hX : Sl W X c.uids.length (ivs c.uids)) (hY : Sl W Y c.body.length (bvs c.body)) => (refEncC_any c (ca := cx) (cb := cy) hX hY hn hl).mono fun e w' h => enc_yes h hc hP hnP
  have hpn : 0 < n := by rw [← hnP, ← hP]; exact encC_pos c
  have hpl : isC c = true → n ≤ 10000 := fun h => by rw [← hnP, ← hP]; exact encC_le h
  have hcut : ∀ k, k < n → isC c = true → chO (P.take k) = none := fun k hk h => by rw [← hP]; exact chO_cut h (by rw [hP, hnP]; exact hk)
  have hmo : 0 < n3 → isC c = true → chO (P ++ more) = none := fun hk h => by rw [← hP]; exact chO_more h (by intro e; rw [e] at hmore; simp at hmore; omega)
  obtain ⟨b, hb⟩ : ∃ b, isC c = b := ⟨_, rfl⟩
  rw [hb] at cI cE cD cR hpl hcut hmo
  have HM := Lib.hid hM
  obtain ⟨kd, us, ps, bx, to, ui, md, fl, dt, bo⟩ := c
  unfold chv at cI cE cR ⊢
  simp only at hU hB hn hl cI cE cD cR ⊢
  have HPL : Hid (P.length = n) := hnP
  have HHE := Lib.hid (fun (W : World) => sheavy_any W kd md fl dt (St us) (St ps) (St bx) (St to) A B ui.length ca bo.length cb)
  clear hnP hP hb hmore hKN hM hl
  have hBK := Bk.new w 29 #[.int .i64 kd, .string (St us), .string (St ps), .string (St bx), .string (St to), .slice A ui.length ca, .int .i64 md, .int .i64 fl, .int .i64 dt, .slice B bo.length cb]
  have hO : Only [] w (w.alloc (.cells #[.int .i64 kd, .string (St us), .string (St ps), .string (St bx), .string (St to), .slice A ui.length ca, .int .i64 md, .int .i64 fl, .int .i64 dt, .slice B bo.length cb] 29)) := (Only.refl [] w).alloc _
  have hf := And.intro hBK hO
  clear hBK hO
  have HI := Lib.hid cI
  have HE := Lib.hid cE
  have HD := Lib.hid cD
  have HN := Lib.hid cN
  have HR := Lib.hid cR
  clear cI cE cD cN cR
  have HCUT := Lib.hid hcut
  have HMO := Lib.hid hmo
  have HPB := Lib.hid hpl
  clear hcut hmo hpl hU hB hn ht hT hpos hrem
  go_enter Tryz.func5, Tryz.ntmps5
  go_upto_region 1 with fail
  revert hf
  generalize (w.alloc (.cells #[.int .i64 kd, .string (St us), .string (St ps), .string (St bx), .string (St to), .slice A ui.length ca, .int .i64 md, .int .i64 fl, .int .i64 dt, .slice B bo.length cb] 29)) = W
  rintro ⟨hBK, hO⟩
  obtain ⟨k0, k1, k2, k3, k4, k5, k6, k7, k8, k9⟩ := bk_ten hBK
  have kl := hBK.lt
  have HB := Lib.hid hBK
  have HO := Lib.hid hO
  clear hBK hO
  have hways : b = false ∨ (b = true ∧ n3 < 1) ∨ (b = true ∧ ¬ n3 < 1 ∧ 100 < n3) ∨ (b = true ∧ ¬ n3 < 1 ∧ ¬ 100 < n3) := by
    cases b
    · exact .inl rfl
    · by_cases h1 : n3 < 1
      · exact .inr (.inl ⟨rfl, h1⟩)
      · by_cases h2 : 100 < n3
        · exact .inr (.inr (.inl ⟨rfl, h1, h2⟩))
        · exact .inr (.inr (.inr ⟨rfl, h1, h2⟩))
  have HW := Lib.hid hways
  clear hways
  rcases HW.out with rfl | ⟨rfl, g1⟩ | ⟨rfl, g1, g2⟩ | ⟨rfl, g1, g2⟩
  · go_wp2_with (first
      | (go_at_call 25; refine (HHE.out _).mono ?_; rintro e w1 ⟨N, rfl, O1⟩; have Q1 := HO.out.then O1; have B1 := HB.out.only O1 (by simp); clear k0 k1 k2 k3 k4 k5 k6 k7 k8 k9 kl; obtain ⟨k0, k1, k2, k3, k4, k5, k6, k7, k8, k9⟩ := bk_ten B1; have kl := B1.lt; by_cases hN : (4000 : Int) < N)
      | (go_at_call 30; refine (HI.out _ Q1).mono ?_; rintro e w2 ⟨rfl, O2⟩; have Q2 := Q1.then O2; have B2 := B1.only O2 (by simp); clear k0 k1 k2 k3 k4 k5 k6 k7 k8 k9 kl; obtain ⟨k0, k1, k2, k3, k4, k5, k6, k7, k8, k9⟩ := bk_ten B2; have kl := B2.lt))
    all_goals
      go_ret
      first
        | exact ⟨rfl, Q2⟩
        | exact ⟨rfl, Q1⟩
  · have g1' : (n3 : Int) < 1 := by omega
    go_wp2_with (first
      | (go_at_call 25; refine (HHE.out _).mono ?_; rintro e w1 ⟨N, rfl, O1⟩; have Q1 := HO.out.then O1; have B1 := HB.out.only O1 (by simp); clear k0 k1 k2 k3 k4 k5 k6 k7 k8 k9 kl; obtain ⟨k0, k1, k2, k3, k4, k5, k6, k7, k8, k9⟩ := bk_ten B1; have kl := B1.lt; by_cases hN : (4000 : Int) < N)
      | (go_at_call 30; refine (HI.out _ Q1).mono ?_; rintro e w2 ⟨rfl, O2⟩; have Q2 := Q1.then O2; have B2 := B1.only O2 (by simp); clear k0 k1 k2 k3 k4 k5 k6 k7 k8 k9 kl; obtain ⟨k0, k1, k2, k3, k4, k5, k6, k7, k8, k9⟩ := bk_ten B2; have kl := B2.lt))
    all_goals
      go_ret
      first
        | exact ⟨rfl, Q2⟩
        | exact ⟨rfl, Q1⟩
  · have g1' : ¬ (n3 : Int) < 1 := by omega
    have g2' : (100 : Int) < (n3 : Int) := by omega
    go_wp2_with (first
      | (go_at_call 25; refine (HHE.out _).mono ?_; rintro e w1 ⟨N, rfl, O1⟩; have Q1 := HO.out.then O1; have B1 := HB.out.only O1 (by simp); clear k0 k1 k2 k3 k4 k5 k6 k7 k8 k9 kl; obtain ⟨k0, k1, k2, k3, k4, k5, k6, k7, k8, k9⟩ := bk_ten B1; have kl := B1.lt; by_cases hN : (4000 : Int) < N)
      | (go_at_call 30; refine (HI.out _ Q1).mono ?_; rintro e w2 ⟨rfl, O2⟩; have Q2 := Q1.then O2; have B2 := B1.only O2 (by simp); clear k0 k1 k2 k3 k4 k5 k6 k7 k8 k9 kl; obtain ⟨k0, k1, k2, k3, k4, k5, k6, k7, k8, k9⟩ := bk_ten B2; have kl := B2.lt))
    all_goals
      go_ret
      first
        | exact ⟨rfl, Q2⟩
        | exact ⟨rfl, Q1⟩
  · have g1' : ¬ (n3 : Int) < 1 := by omega
    have g2' : ¬ (100 : Int) < (n3 : Int) := by omega
    have hnp : n ≤ 10000 := HPB.out rfl
    have hn0 : ¬ n = 0 := by omega
    have hn0' : ¬ (n : Int) = 0 := by omega
    have hnz : (((n : Nat) : Int) == 0) = false := by simp; omega
    obtain ⟨a, ha⟩ : ∃ a, bits .and .i64 cut 65535 = a := ⟨_, rfl⟩
    have ha2 : 0 ≤ a ∧ a < 65536 := by rw [← ha, lowS]; omega
    obtain ⟨k, hk⟩ : ∃ k : Nat, (a.toNat % n) = k := ⟨_, rfl⟩
    have hkn : k < n := by rw [← hk]; exact Nat.mod_lt _ (by omega)
    have hmod : a.tmod (n : Int) = (k : Int) := by
      rw [← hk, Int.natCast_emod, Int.toNat_of_nonneg ha2.1, Int.tmod_eq_emod_of_nonneg ha2.1]
    have hwk : IntKind.i64.wrap (k : Int) = (k : Int) := IntWalk.i64_in _ (by omega)
    have hck := HCUT.out k hkn rfl
    have hcm := HMO.out (by omega) rfl
    have HCK := Lib.hid hck
    have HCM := Lib.hid hcm
    have hPP : (P == P) = true := by simp
    obtain ⟨i0, hi, hz0, hz1, hz2⟩ := info_parts infoByte
    have HE2 := Lib.hid (HE.out rfl)
    have HD2 := Lib.hid (HD.out rfl)
    have HR2 := Lib.hid (HR.out rfl)
    clear hk ha2 hck hcm HE HD HR HCUT HMO HPB
    go_wp2_with (first
      | (go_at_call 25; refine (HHE.out _).mono ?_; rintro e w1 ⟨N, rfl, O1⟩; have Q1 := HO.out.then O1; have B1 := HB.out.only O1 (by simp); clear k0 k1 k2 k3 k4 k5 k6 k7 k8 k9 kl; obtain ⟨k0, k1, k2, k3, k4, k5, k6, k7, k8, k9⟩ := bk_ten B1; have kl := B1.lt; by_cases hN : (4000 : Int) < N)
      | (go_at_call 30; refine (HI.out _ Q1).mono ?_; rintro e w2 ⟨rfl, O2⟩; have Q2 := Q1.then O2; have B2 := B1.only O2 (by simp); clear k0 k1 k2 k3 k4 k5 k6 k7 k8 k9 kl; obtain ⟨k0, k1, k2, k3, k4, k5, k6, k7, k8, k9⟩ := bk_ten B2; have kl := B2.lt)
      | (go_at_call 26; refine (HE2.out _ Q2).mono ?_; rintro e w3 ⟨A3, c3', rfl, V3, O3⟩; have Q3 := Q2.then O3; have hcap := V3.cap; have hpre := preS (A := A3) (Nat.le_of_lt hkn) hcap; clear k0 k1 k2 k3 k4 k5 k6 k7 k8 k9 kl B2)
      | (go_at_call 27; refine (HR2.out _ A4 ca4 B4 cb4 (S4.keep ((Only.refl [] _).alloc _)) (T4.keep ((Only.refl [] _).alloc _))).mono ?_; rintro e w5 ⟨A5, c5, rfl, V5, O5⟩; have Q5 := (Q4.alloc _).then O5; have U5 := (U4.keep ((Only.refl [] w4).alloc _)).keep O5; clear S4 T4 U4 O5)
      | (go_at_call 28; refine (HN.out _ Q8 A8 (n + n3) c8 (P ++ more) (by rw [bvs_append]; exact V8.sl) (by omega) HCM.out).mono ?_; rintro e w9 ⟨A9, ca9, B9, cb9, rfl, O9⟩; have Q9 := Q8.then O9; have X9 := strS ((V58.keep O9).keep ((Only.refl [] w9).alloc (.cells #[.int .i64 0, .string ⟨#[]⟩, .string ⟨#[]⟩, .string ⟨#[]⟩, .string ⟨#[]⟩, .slice A9 0 ca9, .int .i64 0, .int .i64 0, .int .i64 0, .slice B9 0 cb9] 29))).sl; have Y9 := strS ((U8.keep O9).keep ((Only.refl [] w9).alloc (.cells #[.int .i64 0, .string ⟨#[]⟩, .string ⟨#[]⟩, .string ⟨#[]⟩, .string ⟨#[]⟩, .slice A9 0 ca9, .int .i64 0, .int .i64 0, .int .i64 0, .slice B9 0 cb9] 29))).sl; clear V8 V58 U8 O9)
      | (go_at_call 28; refine (HN.out _ Q5 A3 k c3' (P.take k) (by rw [← bvs_take]; exact U5.sl.pre (Nat.le_of_lt hkn)) (by omega) HCK.out).mono ?_; rintro e w6 ⟨A6, ca6, B6, cb6, rfl, O6⟩; have Q6 := Q5.then O6; have U6 := U5.keep O6; have V56 := V5.keep O6; clear U5 V5 O6)
      | (go_at_call 28; refine (HD2.out _ Q3 A3 c3' V3.sl (by omega)).mono ?_; rintro e w4 ⟨A4, ca4, B4, cb4, rfl, S4, T4, O4⟩; have Q4 := Q3.then O4; have U4 := V3.keep O4; clear V3 O3 O4)
      | (go_at_call 23; refine (HKN.out _ (Q9.alloc _)).mono ?_; rintro e w10 ⟨rfl, O10⟩)
      | (at_builtin; refine wpList_append_sl rfl (.tmp 71) (.tmp 72) 27 rfl 5 i0 (.int .u8 0) 1 Tryz.underlying27 hi hz0 hz1 hz2 rfl A7 n c7 (bvs P) rfl V7 M n3 c3 (bvs more) rfl (HM.out.keep Q7) (bvs_one _) (by unfold maxLen; omega) (by omega) ?_; intro A8 c8 w8 V8 O8 P8; have Q8 := Q7.trans O8 (fun x hx => .inr (N7.out x hx)); have U8 := U7.only O8 (fun x hx hm => by have := N67.out x hm; have := L7.out x hx; omega); have V58 := V57.only O8 (fun x hx hm => by have := N67.out x hm; have := M7.out x hx; omega); clear V7 U7 V57 O8)
      | (at_builtin; refine wpList_append_sl rfl (.tmp 69) (.tmp 70) 27 rfl 5 i0 (.int .u8 0) 1 Tryz.underlying27 hi hz0 hz1 hz2 rfl (some ⟨w6.heap.size + 1, 0, none⟩) 0 0 [] rfl (own_lit1 w6 _) A3 n c3' (bvs P) rfl ((U6.keep ((Only.refl [] _).alloc _)).keep ((Only.refl [] _).alloc _)).sl (bvs_one _) (by unfold maxLen; omega) (by omega) ?_; intro A7 c7 w7 V7 O7 P7; rw [List.nil_append, Nat.zero_add] at V7; have L7 := Lib.hid (fun (x : Nat) (hx : x ∈ blks A3) => U6.lt hx); have M7 := Lib.hid (fun (x : Nat) (hx : x ∈ blks A5) => V56.lt hx); have hq6 := Q6.size; have Q7 := ((Q6.alloc _).alloc _).trans O7 (fun x hx => .inr (by simp at hx; omega)); have U7 := ((U6.keep ((Only.refl [] _).alloc _)).keep ((Only.refl [] _).alloc _)).only O7 (fun x hx hm => by have := L7.out x hx; simp at hm; omega); have V57 := ((V56.keep ((Only.refl [] _).alloc _)).keep ((Only.refl [] _).alloc _)).only O7 (fun x hx hm => by have := M7.out x hx; simp at hm; omega); have N67 := Lib.hid (fun (x : Nat) (hx : x ∈ blks A7) => (show w6.heap.size ≤ x by
            rcases P7 x hx with h | h
            · simp at h; omega
            · simp at h; omega)); have N7 := Lib.hid (fun (x : Nat) (hx : x ∈ blks A7) => Nat.le_trans hq6 (N67.out x hx)); clear O7 P7 U6 V56)
      | go_in)
    all_goals
      first
        | (go_ret; exact ⟨rfl, Q1⟩)
        | (go_ret; exact ⟨rfl, (Q9.alloc _).then O10⟩)
end Go.Proofs.YtgnilldcfpgpaaaGreatDoor
