/-
  Texts of the seat, laid one behind the other: ZMeant HRefF ZTexts.
-/
import Derived.Test.YtkcnnbglmckmnaaDoorB11
import Derived.Test.YtkcnnbglmckmnaaDoorB6
import Derived.Test.YtkcnnbglmckmnaaDoorB5
import Derived.Test.YtkcnnbglmckmnaaDoorB4
import Derived.Test.YtkcnnbglmckmnaaDoorB2
import Derived.Test.YtkcnnbglmckmnaaDoorB1
import Derived.OwnWalk
namespace Go.Proofs.YtkcnnbglmckmnaaDoor
open Go.RowKit Go.Instr
def kz (o : Option Ky) : Ky := o.getD Ky.none
theorem kz_bd {T : List Tkn} (hT : OkT T) : BdK (kz (parseK (prs 16) T)) := by
  cases h : parseK (prs 16) T with
  | none => exact bd_small 0 0
  | some k => exact parse_bd hT h
theorem ParseR.plain {w : World} {o : Option Ky} {e : Ending} {w' : World} (h : ParseR w o e w') : ∃ (kd n : Int) (s t : ByteArray) (SA : Option Addr) (ns sc : Nat) (KA : Option Addr) (nk kc : Nat) (er : Int), e = .returned (.tuple #[.agg #[.int .i64 kd, .int .i64 n, .string s, .string t, .slice SA ns sc, .slice KA nk kc], .int .i64 er]) ∧ Only [] w w' ∧
    Hid ((er == 0) = o.isSome) ∧ Hid (KyIs (fun x => w.heap.size ≤ x ∧ x < w'.heap.size) w' (kz o) [.int .i64 kd, .int .i64 n, .string s, .string t, .slice SA ns sc, .slice KA nk kc]) ∧ Hid (er = if o.isSome = true then 0 else 3) := by
  obtain ⟨kd, n, s, t, SA, ns, sc, KA, nk, kc, er, rfl, h1, h2⟩ := h
  refine ⟨kd, n, s, t, SA, ns, sc, KA, nk, kc, er, rfl, h1, ?_⟩
  cases o with
  | none =>
    obtain ⟨rfl, h3⟩ := h2.out
    exact ⟨rfl, h3, rfl⟩
  | some k =>
    obtain ⟨rfl, h3⟩ := h2.out
    exact ⟨rfl, h3, rfl⟩
set_option maxRecDepth 100000 in
set_option maxHeartbeats 2000000 in
theorem meant_any {w : World} {A MA : Option Addr} {n c mn mc : Nat} {T : List Tkn} {m : Mss} (h : Gr 2 w A n (gx tkl T)) (hl : T.length = n) (hc : n ≤ c) (hn : n ≤ 100000) (ht : ∀ t ∈ T, t.2.length ≤ 140737488355328) (hB : Bt w MA mn mc m.body) (hmn : mn ≤ 4096) (hA : ∀ x ∈ blks MA, x < w.heap.size) (hM : MaxF w) :
    Calls Tryd.prog 19 #[.slice A n c, .agg #[.int .i64 m.uid, .int .i64 m.flags, .int .i64 m.date, .slice MA mn mc]] w fun e w' => e = .returned (.tuple #[.bool (meansK m 1 1 (max m.uid 1) (kz (parseK (prs 16) T))), .bool (parseK (prs 16) T).isSome]) ∧ Only [] w w' := by
  have hO0 : Only [] w (w.alloc (.cells #[.int .i64 m.uid, .int .i64 m.flags, .int .i64 m.date, .slice MA mn mc] 37)) := (Only.refl _ _).alloc _
  have hB0 := Bk.new w 37 #[.int .i64 m.uid, .int .i64 m.flags, .int .i64 m.date, .slice MA mn mc]
  have hP := fParse_any (c := c) (h.keep hO0) hl hc hn ht
  have hbd := kz_bd (T := T) ⟨ht, by omega⟩
  obtain ⟨o, ho⟩ : ∃ o, parseK (prs 16) T = o := ⟨_, rfl⟩
  rw [ho] at hP hbd ⊢
  obtain ⟨mx, hmx⟩ : ∃ mx, max m.uid 1 = mx := ⟨_, rfl⟩
  rw [hmx]
  have HP := Lib.hid hP
  have HO0 := Lib.hid hO0
  have HB0 := Lib.hid hB0
  have HB := Lib.hid hB
  have HA := Lib.hid hA
  have HM := Lib.hid hM
  have HBD := Lib.hid hbd
  obtain ⟨R, hR⟩ : ∃ R, meansK m 1 1 mx (kz o) = R := ⟨_, rfl⟩
  rw [hR]
  have HRR := Lib.hid hR
  clear hP hO0 hB0 hB hA hM hbd ho ht hl h hR
  go_enter Tryd.func19, Tryd.ntmps19
  go_wp2_with first
    | (go_at_call 11; refine HP.out.mono ?_; intro e w1 hPR; obtain ⟨kd, n1, s1, s2, SA, ns, sc, KA, nk, kc, er, rfl, O1, HER, HKY, _⟩ := hPR.plain; have O1 := Lib.hid O1; have oa : Only [] w1 (w1.alloc (.cells #[.int .i64 kd, .int .i64 n1, .string s1, .string s2, .slice SA ns sc, .slice KA nk kc] 27)) := ((Only.refl _ _).alloc _); have ob := (HO0.out.then O1.out).then oa; obtain ⟨m0, m1, m2, m3⟩ := (HB0.out.only O1.out (fun hm => nomatch hm)).four; have hlw := (HB0.out.only O1.out (fun hm => nomatch hm)).lt; have hc1 := match_any (m := m) (pl := 1) (la := 1) (lu := mx) (kz o) _ _ _ MA mn mc (HKY.out.keep oa) (HB.out.keep ob) hmn (fun x hx => Nat.lt_of_lt_of_le (HA.out x hx) ob.size) (HM.out.keep ob) HBD.out; rw [HRR.out] at hc1; have HC1 := Lib.hid hc1; have OB := Lib.hid ob; clear HP hc1 oa ob)
    | (go_at_call 16; refine HC1.out.mono ?_; rintro e w2 ⟨rfl, O2⟩; have O2 := Lib.hid O2; clear HC1)
  go_ret2
  refine ⟨?_, OB.out.then O2.out⟩
  show Ending.returned (.tuple #[.bool R, .bool (er == 0)]) = _
  rw [HER.out]
end Go.Proofs.YtkcnnbglmckmnaaDoor
namespace Go.Proofs.YtkcnnbglmckmnaaDoor
open Go.RowKit Go.Instr
theorem add_St (a b : List UInt8) : St a ++ St b = St (a ++ b) := by
  apply ByteArray.ext
  simp
end Go.Proofs.YtkcnnbglmckmnaaDoor
namespace Go.Proofs.YtkcnnbglmckmnaaDoor
open Go.RowKit Go.Instr
theorem zbt_mid {w : World} {A : Option Addr} {n c : Nat} {l : List UInt8} (hs : Bt w A n c l) {k p : Nat} (hk : k ≤ p) (hp : p ≤ n) : ∃ A2 c2, (∀ W, (Instr.slice 35 (.slice A n c) (some (.int .i64 (k : Int))) (some (.int .i64 (p : Int))) none).run Tryd.prog W = .ok (.slice A2 (p - k) c2) W) ∧ Bt w A2 (p - k) c2 ((l.take p).drop k) ∧ blks A2 = blks A := by
  refine ⟨_, _, fun W => ?_, (hs.pre hp).cut hk, blks_from A c k⟩
  have h1 : (k : Int) ≤ (p : Int) := by omega
  have hnil := hs.nil
  have hcap := hs.cap
  have h2 : (p : Int) ≤ (c : Int) := by omega
  by_cases hck : c = k
  · subst hck
    obtain rfl : n = c := by omega
    obtain rfl : p = n := by omega
    go_simp
  · cases A with
    | none => have := hnil rfl; omega
    | some ad => go_simp
theorem tok_two {t : List UInt8} (h : t.length ≤ 140737488355328) : ∀ x ∈ ([(1, textW), (2, t)] : List Tkn), x.2.length ≤ 140737488355328 := by
  intro x hx
  simp at hx
  rcases hx with rfl | rfl
  · decide
  · exact h
def textK (t : List UInt8) : Ky := andK [.mk 5 0 [] t [] []]
theorem text_parse (t : List UInt8) : parseK (prs 16) [(1, textW), (2, t)] = some (textK t) := by
  refine parse_some (prs 16) ?_
  rw [keyD_atom]
  unfold wordK
  have e : lowT textW = textW := by decide
  simp only [e]
  rw [if_neg (by decide), if_neg (by decide), if_neg (by decide), if_pos trivial]
  rfl
theorem text_means (m : Mss) (p l u : Int) (t : List UInt8) : meansK m p l u (textK t) = inT m.body t := by
  unfold meansK textK
  rw [match_one, matchK]
  rfl
theorem up_byte {x : UInt8} {y : Nat} (hy : x.toNat = y) : (upB x).toNat = if 97 ≤ y ∧ y ≤ 122 then y - 32 else y := by
  unfold upB
  rw [← hy]
  by_cases h : 97 ≤ x.toNat ∧ x.toNat ≤ 122
  · rw [if_pos h, if_pos ⟨UInt8.le_iff_toNat_le.2 h.1, UInt8.le_iff_toNat_le.2 h.2⟩]
    have e : (32 : UInt8).toNat = 32 := rfl
    rw [UInt8.toNat_sub_of_le _ _ (by rw [UInt8.le_iff_toNat_le, e]; omega), e]
  · rw [if_neg h, if_neg (fun h2 : 97 ≤ x ∧ x ≤ 122 => h ⟨by have := UInt8.le_iff_toNat_le.1 h2.1; exact this, by have := UInt8.le_iff_toNat_le.1 h2.2; exact this⟩)]
set_option maxRecDepth 100000 in
set_option maxHeartbeats 2000000 in
theorem texts_out {w : World} {A0 : Option Addr} {n0 c0 : Nat} (x1 x2 : Int) (s : ByteArray) (h : 1000 < n0 ∨ x1 < 0 ∨ x2 < 0 ∨ 2000 < s.size) : Calls Tryd.prog 7 #[.slice A0 n0 c0, .int .i64 x1, .int .i64 x2, .string s] w fun e w' => e = .returned (.bool true) ∧ Only [] w w' := by
  have ways : (1000 : Int) < (n0 : Int) ∨ ((n0 : Int) ≤ 1000 ∧ x1 < 0) ∨ ((n0 : Int) ≤ 1000 ∧ 0 ≤ x1 ∧ x2 < 0) ∨ ((n0 : Int) ≤ 1000 ∧ 0 ≤ x1 ∧ 0 ≤ x2 ∧ (2000 : Int) < (s.size : Int)) := by omega
  clear h
  rcases ways with h1 | ⟨h1, h2⟩ | ⟨h1, h2, h3⟩ | ⟨h1, h2, h3, h4⟩
  all_goals
    go_enter Tryd.func7, Tryd.ntmps7
    go_wp2_with fail
    go_ret
    exact ⟨rfl, Only.refl _ _⟩
set_option maxRecDepth 100000 in
set_option maxHeartbeats 4000000 in
theorem texts_in {w : World} (hM : MaxF w) {A0 : Option Addr} {n0 c0 : Nat} {l0 : List UInt8} (hB : Bt w A0 n0 c0 l0) (hA : ∀ x ∈ blks A0, x < w.heap.size) (x1 x2 : Int) (more : List UInt8) (h0 : n0 ≤ 1000) (h1 : 0 ≤ x1) (h2 : 0 ≤ x2) (h3 : more.length ≤ 2000) :
    Calls Tryd.prog 7 #[.slice A0 n0 c0, .int .i64 x1, .int .i64 x2, .string (St more)] w fun e w' => e = .returned (.bool true) ∧ Only [] w w' := by
  obtain ⟨i0, hi0, hi1⟩ := Option.map_eq_some_iff.1 (show (Tryd.prog.info? 5).map (fun i => (i.zero, i.size, i.bytes)) = some (some (.int .u8 0), 1, 1) by kernel_rfl)
  simp only [Prod.mk.injEq] at hi1
  obtain ⟨hz0, hz1, hz2⟩ := hi1
  obtain ⟨f, hf⟩ : ∃ f : Nat, min x1 (n0 : Int) = (f : Int) := ⟨(min x1 (n0 : Int)).toNat, by omega⟩
  have hfn : f ≤ n0 := by omega
  obtain ⟨n, hn⟩ : ∃ n : Nat, min x2 ((n0 : Int) - (f : Int)) = (n : Int) := ⟨(min x2 ((n0 : Int) - (f : Int))).toNat, by omega⟩
  have hnn : f + n ≤ n0 := by omega
  have hll := hB.len
  obtain ⟨A2, c2, hmid, hS, hbl⟩ := zbt_mid hB (k := f) (p := f + n) (by omega) hnn
  rw [show f + n - f = n by omega] at hmid hS
  obtain ⟨P, hP⟩ : ∃ P, (l0.take (f + n)).drop f = P := ⟨_, rfl⟩
  rw [hP] at hS
  have hPl := hS.len
  have hPe : P = (l0.drop f).take n := by rw [← hP, List.drop_take, show f + n - f = n by omega]
  have hyes : inT l0 (P.map upB) = true := by rw [hPe]; exact part_inside (by omega)
  have hno : inT l0 (l0 ++ [120] ++ more) = false := long_inside (by simp)
  have had1 := fun W => run_string_add_sum (P := Tryd.prog) (w := W) (St l0) (St [120]) (by rw [St_size, St_size]; simp; omega)
  have had2 := fun W => run_string_add_sum (P := Tryd.prog) (w := W) (St (l0 ++ [120])) (St more) (by rw [St_size, St_size]; simp; omega)
  rw [add_St] at had1 had2
  obtain ⟨lx, hlx⟩ : ∃ lx, l0 ++ [120] = lx := ⟨_, rfl⟩
  rw [hlx] at had1 had2 hno
  obtain ⟨ly, hly⟩ : ∃ ly, lx ++ more = ly := ⟨_, rfl⟩
  rw [hly] at had2 hno
  have hlyl : ly.length ≤ 4000 := by rw [← hly, ← hlx]; simp; omega
  obtain ⟨fe, hfe⟩ : ∃ fe, f + n = fe := ⟨_, rfl⟩
  rw [hfe] at hmid
  have hpf : ((f : Int) + (n : Int)) = (fe : Int) := by omega
  have hfe1 : fe ≤ 1000 := by omega
  have i0' : (n0 : Int) ≤ 1000 := by omega
  have i3 : ((St more).size : Int) ≤ 2000 := by rw [St_size]; omega
  have iw1 : 0 ≤ (n0 : Int) - (f : Int) := by omega
  have HAD1 := Lib.hid had1
  have HAD2 := Lib.hid had2
  have HYES := Lib.hid hyes
  have HNO := Lib.hid hno
  have HLY := Lib.hid hlyl
  have HS := Lib.hid hS
  have HPL := Lib.hid hPl
  have HM := Lib.hid hM
  have HB := Lib.hid hB
  have HA := Lib.hid hA
  have HLL := Lib.hid hll
  have HBL := Lib.hid hbl
  have HMO := Lib.hid h3
  clear had1 had2 hyes hno hlyl hS hPl hM hB hA hlx hly hP hPe hll hbl h3 hfe hnn
  obtain ⟨tm, htm⟩ : ∃ tm, St more = tm := ⟨_, rfl⟩
  rw [htm] at i3 HAD2 ⊢
  clear htm
  go_enter Tryd.func7, Tryd.ntmps7
  have HO0 : Hid (Only [] w (w.alloc (.cells #[.int .i64 1, .int .i64 0, .int .i64 0, .slice A0 n0 c0] 37))) := (Only.refl _ _).alloc _
  have HK0 : Hid (Bk (w.alloc (.cells #[.int .i64 1, .int .i64 0, .int .i64 0, .slice A0 n0 c0] 37)) w.heap.size 37 #[.int .i64 1, .int .i64 0, .int .i64 0, .slice A0 n0 c0]) := Bk.new _ _ _
  go_upto_region 9 with (at_make; refine wpList_make_full _ rfl (.tmp 51) (.tmp 51) 35 rfl 0 5 i0 _ 1 Tryd.underlying35 hi0 hz0 hz1 _ _ _ _ n rfl rfl rfl rfl (by rw [hz2]; omega) (by unfold maxLen; omega) (Nat.zero_le _) ?_; intro w2 HG2 hgr; rw [World.size_alloc] at HG2 ⊢; have O2 : Only [] (w.alloc (.cells #[.int .i64 1, .int .i64 0, .int .i64 0, .slice A0 n0 c0] 37)) w2 := Only.of_grown hgr; have HO2 := Lib.hid (HO0.out.then O2); have HK2 := Lib.hid (HK0.out.only O2 (fun hm => nomatch hm)); have HG2 : Hid (Gw 1 w2 5 (some ⟨w.heap.size + 1, 0, none⟩) n n _) := HG2; clear O2 hgr)
  obtain ⟨vs0, hvs0⟩ : ∃ vs0, Gw 1 w2 5 (some ⟨w.heap.size + 1, 0, none⟩) n n vs0 := ⟨_, HG2.out⟩
  have HV0 := Lib.hid hvs0
  obtain ⟨g, hg⟩ : ∃ g, w.heap.size + 1 = g := ⟨_, rfl⟩
  rw [hg] at HV0 ⊢
  obtain ⟨q, hq⟩ : ∃ q, w.heap.size = q := ⟨_, rfl⟩
  rw [hq] at HK2 hg ⊢
  have HQ := Lib.hid hq
  have HGQ := Lib.hid hg
  have hqg : q < g := by omega
  clear hvs0 HG2 HO0 HK0 hg hq
  go_loopw [12] (fun iv wr => ∃ (k : Nat) (vs : List Value), iv = .int .i64 (k : Int) ∧ k ≤ n ∧ Hid (Gw 1 wr 5 (some ⟨g, 0, none⟩) n n vs) ∧ Hid (vs.take k = bvs ((P.map upB).take k)) ∧ Hid (Only [] w wr) ∧ Hid (Bk wr q 37 #[.int .i64 1, .int .i64 0, .int .i64 0, .slice A0 n0 c0])) (fun iv _ => n - (intOf iv).toNat)
  case atStart => exact ⟨0, vs0, rfl, Nat.zero_le _, HV0.out, by show _ = _; rw [List.take_zero, List.take_zero]; rfl, HO2.out, HK2.out⟩
  case round =>
    obtain ⟨k, vs, rfl, hk, HV, HT, HO, HK⟩ := hrel
    by_cases hlt : k < n
    · have hlt' : (k : Int) < (n : Int) := by omega
      have hkP : k < P.length := by rw [HPL.out]; exact hlt
      obtain ⟨ad, u, hAe, hu, hc⟩ := (HS.out.keep HO.out).sl.at_ hlt
      subst hAe
      rw [bvs_get P k hkP] at hu
      injection hu with hu
      subst hu
      have hvl := HV.out.len
      have hkv : k < vs.length := by omega
      have hrd := HV.out.reads
      obtain ⟨ad2, e2, hcell⟩ := hrd.2 (by omega)
      injection e2 with e2
      subst e2
      have ht := hcell k vs[k] (List.getElem?_eq_getElem hkv)
      rw [add_none, Nat.zero_add] at ht
      have hfr := HV.out.free k
      have hgl : g < wr.heap.size := HV.out.lt (by simp)
      have hadlt : ad.block < w.heap.size := HA.out _ (by rw [← HBL.out]; simp)
      have hadg : (ad.add k).block ≠ g := by rw [add_block]; have := HGQ.out; have := HQ.out; omega
      have hkup : k < (P.map upB).length := by simpa using hkP
      have HSET : Hid (∀ W', W' = wr.setCell ⟨g, k, none⟩ (bv (upB P[k])) → Gw 1 W' 5 (some ⟨g, 0, none⟩) n n (vs.set k (bv (upB P[k]))) ∧ (vs.set k (bv (upB P[k]))).take (k + 1) = bvs ((P.map upB).take (k + 1)) ∧ Only [] w W' ∧ Bk W' q 37 #[.int .i64 1, .int .i64 0, .int .i64 0, .slice A0 n0 c0]) := by
        intro W' hW
        subst hW
        refine ⟨HV.out.set k _, ?_, HO.out.setCell (.inr (by have := HGQ.out; have := HQ.out; show w.heap.size ≤ g; omega)) _, HK.out.far (p := ⟨g, k, none⟩) (by show q ≠ g; omega) _⟩
        rw [List.take_succ_eq_append_getElem (by simpa using hkv), List.take_succ_eq_append_getElem hkup, List.take_set_of_le (Nat.le_refl _), HT.out, bvs_append]
        simp [bvs]
      obtain ⟨x, hx⟩ : ∃ x, P[k] = x := ⟨_, rfl⟩
      rw [hx] at hc HSET
      obtain ⟨y, hy⟩ : ∃ y : Nat, x.toNat = y := ⟨_, rfl⟩
      have hyb : y < 256 := by rw [← hy]; exact byte_lt x
      have hup := up_byte hy
      have hc' : wr.cell? (ad.add k) = some (.int .u8 (y : Int)) := by rw [hc, ← hy]; rfl
      have hbx : bv (upB x) = .int .u8 (((upB x).toNat : Nat) : Int) := rfl
      rw [hbx, hup] at HSET
      have hme := World.cell?_setCell_same' wr ⟨g, k, none⟩ (.int .u8 (y : Int)) (by rw [ht]; rfl)
      have hfr2 : (wr.setCell ⟨g, k, none⟩ (.int .u8 (y : Int))).frozen? ⟨g, k, none⟩ = false := by rw [World.frozen?_setCell]; exact hfr
      obtain ⟨u0, hu0⟩ : ∃ u0, vs[k] = u0 := ⟨_, rfl⟩
      rw [hu0] at ht
      have HSET2 : Hid (∀ W', W' = (wr.setCell ⟨g, k, none⟩ (.int .u8 (y : Int))).setCell ⟨g, k, none⟩ (.int .u8 ((if 97 ≤ y ∧ y ≤ 122 then y - 32 else y : Nat) : Int)) → Gw 1 W' 5 (some ⟨g, 0, none⟩) n n (vs.set k (.int .u8 ((if 97 ≤ y ∧ y ≤ 122 then y - 32 else y : Nat) : Int))) ∧ Only [] w W' ∧ Bk W' q 37 #[.int .i64 1, .int .i64 0, .int .i64 0, .slice A0 n0 c0]) := by
        intro W' hW
        subst hW
        have h1 := (HV.out.set k (.int .u8 (y : Int))).set k (.int .u8 ((if 97 ≤ y ∧ y ≤ 122 then y - 32 else y : Nat) : Int))
        rw [List.set_set] at h1
        exact ⟨h1, (HO.out.setCell (.inr (by have := HGQ.out; have := HQ.out; show w.heap.size ≤ g; omega)) _).setCell (.inr (by have := HGQ.out; have := HQ.out; show w.heap.size ≤ g; omega)) _, (HK.out.far (p := ⟨g, k, none⟩) (by show q ≠ g; omega) _).far (p := ⟨g, k, none⟩) (by show q ≠ g; omega) _⟩
      clear hu0 hc hx hy hup hbx hkP hvl hkv hrd hcell hkup hadlt
      by_cases h97 : 97 ≤ y
      · by_cases h122 : y ≤ 122
        · have i97 : (97 : Int) ≤ (y : Int) := by omega
          have i122 : (y : Int) ≤ 122 := by omega
          rw [if_pos ⟨h97, h122⟩] at HSET HSET2
          rw [show ((y - 32 : Nat) : Int) = (y : Int) - 32 by omega] at HSET HSET2
          clear h97 h122
          go_wp2_with fail
          go_roundw
          case rel => exact ⟨k + 1, _, by go_num, by omega, (HSET2.out _ rfl).1, (HSET.out _ rfl).2.1, (HSET2.out _ rfl).2.1, (HSET2.out _ rfl).2.2⟩
          case measure => simp [intOf]; omega
        · have i97 : (97 : Int) ≤ (y : Int) := by omega
          have i122 : (122 : Int) < (y : Int) := by omega
          rw [if_neg (fun h => h122 h.2)] at HSET
          clear h97 h122 HSET2
          go_wp2_with fail
          go_roundw
          case rel => exact ⟨k + 1, _, by go_num, by omega, (HSET.out _ rfl).1, (HSET.out _ rfl).2.1, (HSET.out _ rfl).2.2.1, (HSET.out _ rfl).2.2.2⟩
          case measure => simp [intOf]; omega
      · have i97 : (y : Int) < 97 := by omega
        rw [if_neg (fun h => h97 h.1)] at HSET
        clear h97 HSET2
        go_wp2_with fail
        go_roundw
        case rel => exact ⟨k + 1, _, by go_num, by omega, (HSET.out _ rfl).1, (HSET.out _ rfl).2.1, (HSET.out _ rfl).2.2.1, (HSET.out _ rfl).2.2.2⟩
        case measure => simp [intOf]; omega
    · obtain rfl : k = n := by omega
      have hvl := HV.out.len
      have hT : vs = bvs (P.map upB) := by
        have := HT.out
        rw [List.take_of_length_le (by omega), List.take_of_length_le (by rw [List.length_map, HPL.out]; exact Nat.le_refl _)] at this
        exact this
      have hrd := HV.out.reads
      have hsl : Sl wr (some ⟨g, 0, none⟩) k (bvs (P.map upB)) := by
        rw [← hT]
        exact ⟨by omega, hrd.2⟩
      have hcv := run_str_sl (P := Tryd.prog) (w := wr) 35 9 5 (some ⟨g, 0, none⟩) k k (P.map upB) Tryd.underlying35 Tryd.underlying5 Tryd.underlying9 hsl
      have hul : (P.map upB).length ≤ 1000 := by rw [List.length_map, HPL.out]; omega
      obtain ⟨tu, htu⟩ : ∃ tu, P.map upB = tu := ⟨_, rfl⟩
      rw [htu] at hcv hul HYES
      have oT : Only [] wr (wr.alloc (.cells #[.int .i64 1, .string ⟨#[116, 101, 120, 116]⟩, .int .i64 2, .string (St tu)] 45)) := (Only.refl _ _).alloc _
      have hG1 : Gr 2 (wr.alloc (.cells #[.int .i64 1, .string ⟨#[116, 101, 120, 116]⟩, .int .i64 2, .string (St tu)] 45)) (some ⟨wr.heap.size, 0, none⟩) 2 (gx tkl [(1, textW), (2, tu)]) := Gr.of_bks (Bk.new _ _ _) rfl
      have hm1 := meant_any (m := ⟨1, 0, 0, l0⟩) (c := 2) hG1 rfl (Nat.le_refl _) (by omega) (by
        intro t ht
        simp at ht
        rcases ht with rfl | rfl
        · decide
        · show tu.length ≤ _; omega) ((HB.out.keep HO.out).keep oT) (by omega) (fun x hx => Nat.lt_of_lt_of_le (HA.out x hx) (HO.out.then oT).size) ((HM.out.keep HO.out).keep oT)
      rw [text_parse] at hm1
      rw [show meansK ⟨1, 0, 0, l0⟩ 1 1 (max (1 : Int) 1) (kz (some (textK tu))) = true from (text_means _ _ _ _ tu).trans HYES.out, show (some (textK tu)).isSome = true from rfl] at hm1
      have HM1 := Lib.hid hm1
      obtain ⟨m0, m1, m2, m3⟩ := HK.out.four
      have hqlt := HK.out.lt
      have had1 := HAD1.out
      have had2 := HAD2.out
      clear hm1 hG1 oT hsl hrd hT hvl htu
      go_wp2_with first
        | (go_at_call 19; refine HM1.out.mono ?_; rintro e w3 ⟨rfl, O3⟩; have o3 := (HO.out.alloc (.cells #[.int .i64 1, .string ⟨#[116, 101, 120, 116]⟩, .int .i64 2, .string (St tu)] 45)).then O3; have k3 := (HK.out.alloc (.cells #[.int .i64 1, .string ⟨#[116, 101, 120, 116]⟩, .int .i64 2, .string (St tu)] 45)).only O3 (fun hm => nomatch hm); obtain ⟨z0, z1, z2, z3⟩ := k3.four; have hqlt3 := k3.lt; have hcv3 := run_str_sl (P := Tryd.prog) (w := w3) 35 9 5 A0 n0 c0 l0 Tryd.underlying35 Tryd.underlying5 Tryd.underlying9 (HB.out.keep o3).sl; have oU : Only [] w3 (w3.alloc (.cells #[.int .i64 1, .string ⟨#[116, 101, 120, 116]⟩, .int .i64 2, .string (St ly)] 45)) := ((Only.refl _ _).alloc _); have hG2 : Gr 2 (w3.alloc (.cells #[.int .i64 1, .string ⟨#[116, 101, 120, 116]⟩, .int .i64 2, .string (St ly)] 45)) (some ⟨w3.heap.size, 0, none⟩) 2 (gx tkl [(1, textW), (2, ly)]) := (Gr.of_bks (Bk.new _ _ _) rfl); have hm2 := meant_any (m := ⟨1, 0, 0, l0⟩) (c := 2) hG2 rfl (Nat.le_refl _) (by omega) (tok_two (Nat.le_trans HLY.out (by omega))) (HB.out.keep (o3.then oU)) (by omega) (fun x hx => Nat.lt_of_lt_of_le (HA.out x hx) (o3.then oU).size) (HM.out.keep (o3.then oU)); rw [text_parse] at hm2; rw [show meansK ⟨1, 0, 0, l0⟩ 1 1 (max (1 : Int) 1) (kz (some (textK ly))) = false from (text_means _ _ _ _ ly).trans HNO.out, show (some (textK ly)).isSome = true from rfl] at hm2; have HM2 := Lib.hid hm2; have O3 := Lib.hid (o3.then oU); clear hm2 hG2 oU o3 k3 HM1 hcv)
        | (go_at_call 19; refine HM2.out.mono ?_; rintro e w4 ⟨rfl, O4⟩; have HKN := Lib.hid (known_any w4 (HM.out.keep (O3.out.then O4))); have O4 := Lib.hid O4; clear HM2)
        | (go_at_call 14; refine HKN.out.mono ?_; rintro e w5 ⟨rfl, O5⟩; have O5 := Lib.hid O5; clear HKN)
      go_ret
      exact ⟨rfl, (O3.out.then O4.out).then O5.out⟩
theorem texts_any {w : World} (hM : MaxF w) {A0 : Option Addr} {n0 c0 : Nat} {l0 : List UInt8} (hB : Bt w A0 n0 c0 l0) (hA : ∀ x ∈ blks A0, x < w.heap.size) (x1 x2 : Int) (s : ByteArray) :
    Calls Tryd.prog 7 #[.slice A0 n0 c0, .int .i64 x1, .int .i64 x2, .string s] w fun e w' => e = .returned (.bool true) ∧ Only [] w w' := by
  by_cases h : 1000 < n0 ∨ x1 < 0 ∨ x2 < 0 ∨ 2000 < s.size
  · exact texts_out x1 x2 s h
  · have e : s = St s.data.toList := (St_data s).symm
    rw [e]
    exact texts_in hM hB hA x1 x2 s.data.toList (by omega) (by omega) (by omega) (by rw [Array.length_toList]; show s.size ≤ 2000; omega)
end Go.Proofs.YtkcnnbglmckmnaaDoor
