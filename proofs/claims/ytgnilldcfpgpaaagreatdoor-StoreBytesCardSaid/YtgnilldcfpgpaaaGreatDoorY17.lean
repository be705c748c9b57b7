/-
  Texts of the seat, laid one behind the other: Enc FDec FRef FScan DAppend.
-/
import Derived.Test.YtgnilldcfpgpaaaGreatDoorY16
import Derived.Test.YtgnilldcfpgpaaaGreatDoorY7
import Derived.Deep.RegionWith
import Derived.BigQuiet
import Derived.Test.YtgnilldcfpgpaaaGreatDoorY1
import Derived.Handy
import Derived.Deep.DeepMust
import Derived.Test.YtgnilldcfpgpaaaGreatDoorY9
namespace Go.Proofs.YtgnilldcfpgpaaaGreatDoor
open Go.RowKit
def Fresh2 (w : World) (l : List UInt8) (x : Int) (e : Ending) (w' : World) : Prop :=
  ∃ A c, e = .returned (.tuple #[.slice A l.length c, .int .i64 x]) ∧ Own w' 5 A l.length c (bvs l) ∧ Only [] w w' ∧ ∀ k ∈ blks A, w.heap.size ≤ k
def Fresh3 (w : World) (l : List UInt8) (n x : Int) (e : Ending) (w' : World) : Prop :=
  ∃ A c, e = .returned (.tuple #[.slice A l.length c, .int .i64 n, .int .i64 x]) ∧ Own w' 5 A l.length c (bvs l) ∧ Only [] w w' ∧ ∀ k ∈ blks A, w.heap.size ≤ k
theorem withSum_rows (A : Option Addr) (n c : Nat) (ls : List (List UInt8)) (p q : List UInt8) (w : World) (hp : ls.flatten = p) (hq : p ++ four (sumOf p) = q) (hr : Rw w A n ls) (ht : Tab w) (hn : n ≤ 4611686018427387904) (hb : p.length ≤ 100000000000) :
    Calls Tryz.prog 200 #[.slice A n c] w (Fresh w q) := by
  have HP := Lib.hid hp
  have HJ := Lib.hid (fun (W : World) (o : Only [] w W) => join_rows A n c ls p W hp (hr.keep o) hn (by omega))
  have HS := Lib.hid (fun (W : World) (o : Only [] w W) => sum_rows A n c ls p W hp (hr.keep o) (ht.keep o) hn (by omega))
  have hlt := sumOf_lt p
  have hql : q.length ≤ 1000000000000 := by rw [← hq, List.length_append, four_len]; omega
  have HQ := Lib.hid hq
  clear hp hq
  go_enter Tryz.func200, Tryz.ntmps200
  go_wp2_with fail
  refine (HJ.out w (Only.refl _ _)).mono ?_
  rintro e w1 ⟨A1, c1, rfl, V1, O1, B1⟩
  go_wp2_with fail
  refine (HS.out w1 O1).mono ?_
  rintro e w' ⟨rfl, rfl⟩
  go_wp2_with fail
  refine (wordOf_any (sumOf p) w1 hlt).mono ?_
  rintro e w2 ⟨A2, c2, rfl, V2, O2, B2⟩
  go_wp2_with fail
  refine (join_two w2 A1 A2 c1 c2 _ 4 p (four (sumOf p)) q rfl (four_len _) HQ.out (V1.sl.keep O2) V2.sl hql).mono ?_
  rintro e w3 ⟨A3, c3, rfl, V3, O3, B3⟩
  go_wp2
  go_ret
  exact ⟨A3, c3, rfl, V3, (O1.then O2).then O3, fun k hk => Nat.le_trans (O1.then O2).size (B3 k hk)⟩
set_option maxRecDepth 100000 in
set_option maxHeartbeats 800000 in
theorem encode_rows (A : Option Addr) (n c : Nat) (ls : List (List UInt8)) (p : List UInt8) (w : World) (hp : ls.flatten = p) (hr : Rw w A n ls) (ht : Tab w) (hn : n ≤ 4611686018427387904) (hb : p.length ≤ 1048576) :
    Calls Tryz.prog 157 #[.slice A n c] w (Fresh2 w (record p) 0) := by
  have hl : ls.length = n := hr.len
  have HLl := Lib.hid hl
  have HCl : Hid (∀ k, n ≤ k → catLen ls k = p.length) := fun k hk => by rw [catLen_all ls (by omega), hp]
  have HCb : Hid (∀ k, catLen ls k ≤ 1048576) := fun k => by have := catLen_le ls k; rw [hp] at this; omega
  have HJ := Lib.hid (fun (W : World) (o : Only [] w W) => join_rows A n c ls p W hp (hr.keep o) hn (by omega))
  have hn' : n ≤ 4611686018427387904 := hn
  clear hl hp
  go_enter Tryz.func157, Tryz.ntmps157
  go_wp2_with fail
  go_loop [4, 10] (fun t i => ∃ k : Nat, k ≤ n ∧ i = .int .i64 k ∧ t = .int .i64 (catLen ls k : Nat)) (fun _ i => n - (intOf i).toNat)
  case atStart => exact ⟨0, Nat.zero_le _, rfl, rfl⟩
  case round =>
    obtain ⟨k, hk, rfl, rfl⟩ := hrel
    by_cases hlt : k < n
    · have hkl : k < ls.length := by rw [HLl.out]; exact hlt
      obtain ⟨ad, Ai, ci, rfl, hcell, _⟩ := hr.at_ hlt hkl
      have hle2 := HCb.out (k + 1)
      have HT := Lib.hid (catLen_succ ls k hkl)
      rw [HT.out] at hle2
      generalize (ls[k]'hkl).length = m at *
      generalize catLen ls k = s at *
      go_wp2_with fail
      go_round
      case rel => exact ⟨k + 1, by omega, by go_num, by rw [HT.out]; go_num⟩
      case measure => simp [intOf]; omega
    · rw [HCl.out k (by omega)]
      have h32 : ((p.length : Int) % 4294967296) = (p.length : Int) := by omega
      have HW := Lib.hid (fun (W : World) => wordOf_any p.length W (by omega))
      clear HCl HCb HLl
      go_wp2_with fail
      refine (HW.out w).mono ?_
      rintro e w1 ⟨A1, c1, rfl, V1, O1, B1⟩
      go_wp2_with fail
      have hal : Only [] w (w1.alloc (.cells #[.slice A1 4 c1] 27)) := O1.alloc _
      refine (withSum_rows (some ⟨w1.heap.size, 0, none⟩) 1 1 [four p.length] (four p.length) (heading p.length) _ (by simp) rfl (Rw.one (Bk.new _ _ _) (V1.sl.alloc _)) (ht.keep hal) (by omega) (by rw [four_len]; omega)).mono ?_
      rintro e w2 ⟨A2, c2, rfl, V2, O2, B2⟩
      have V2' : Own w2 5 A2 8 c2 (bvs (heading p.length)) := V2
      have P2 : Only [] w w2 := hal.then O2
      clear V1 V2 O1 O2 B1 hal
      go_wp2_with fail
      refine (HJ.out w2 P2).mono ?_
      rintro e w3 ⟨A3, c3, rfl, V3, O3, B3⟩
      go_wp2_with fail
      have hal : Only [] w (w3.alloc (.cells #[.slice A2 8 c2, .slice A3 p.length c3] 27)) := (P2.then O3).alloc _
      refine (withSum_rows (some ⟨w3.heap.size, 0, none⟩) 2 2 [heading p.length, p] (heading p.length ++ p) (record p) _ (by simp) rfl (Rw.two (Bk.new _ _ _) ((V2'.sl.keep O3).alloc _) (V3.sl.alloc _)) (ht.keep hal) (by omega) (by rw [List.length_append, heading_len]; omega)).mono ?_
      rintro e w4 ⟨A4, c4, rfl, V4, O4, B4⟩
      go_wp2
      go_ret2
      exact ⟨A4, c4, rfl, V4, hal.then O4, fun k hk => Nat.le_trans hal.size (B4 k hk)⟩
end Go.Proofs.YtgnilldcfpgpaaaGreatDoor
namespace Go.Proofs.YtgnilldcfpgpaaaGreatDoor
open Go.RowKit
set_option maxHeartbeats 800000 in
theorem sumRight_any (A : Option Addr) (n c : Nat) (q : List UInt8) (w : World) (hs : Sl w A n (bvs q)) (ht : Tab w) (h4 : 4 ≤ n) (hc : n ≤ c) (hn : n ≤ 100000000000) :
    Calls Tryz.prog 251 #[.slice A n c] w fun e w' => e = .returned (.bool (decide (sumOf (q.take (n - 4)) = from4 (q.drop (n - 4))))) ∧ Only [] w w' := by
  have hl : q.length = n := by simpa using hs.len
  obtain ⟨m, rfl⟩ : ∃ m, n = m + 4 := ⟨n - 4, by omega⟩
  rw [Nat.add_sub_cancel]
  obtain ⟨ad, e, _⟩ := hs.2 (by omega)
  subst e
  have hp := hs.pre (k := m) (by omega)
  rw [bvs_take] at hp
  have hd := hs.add (k := m) (m := 4) (by omega)
  rw [List.take_of_length_le (by rw [List.length_drop, bvs_length]; omega), bvs_drop] at hd
  have hm1 : (m : Int) ≤ (m : Int) + 4 := by omega
  have hcm : ¬ c = m := by omega
  have hpl : (q.take m).length = m := by rw [List.length_take]; omega
  have HS := Lib.hid (fun (W : World) (o : Only [] w W) => sum_one W (some ad) c m (q.take m) hpl (hp.keep o) (ht.keep o) (by omega))
  have HV := Lib.hid (fun (W : World) (o : Only [] w W) (c : Nat) => valueOf_any (some (ad.add m)) 4 c (q.drop m) W (hd.keep o) (by omega))
  have s1 := sumOf_lt (q.take m)
  have s2 := from4_lt (q.drop m)
  obtain ⟨x, hx⟩ : ∃ x, x = sumOf (q.take m) := ⟨_, rfl⟩
  obtain ⟨y, hy⟩ : ∃ y, y = from4 (q.drop m) := ⟨_, rfl⟩
  rw [← hx] at HS s1
  rw [← hy] at HV s2
  rw [← hx, ← hy]
  have HD : Hid (((x : Int) == (y : Int)) = decide (x = y)) := by
    show _ = _
    by_cases h : x = y
    · rw [h]; simp
    · rw [decide_eq_false h, beq_eq_false_iff_ne]; omega
  clear hx hy hp hd hs hl hpl
  go_enter Tryz.func251, Tryz.ntmps251
  go_wp2
  go_region_with (first
    | (go_at_call 229; refine (HS.out w.drew (Only.refl _ _).drew).mono ?_; rintro e w' ⟨rfl, rfl⟩)
    | (go_at_call 252; refine (HV.out (w.drew.alloc (.cells #[.slice (some ad) m c] 27)) ((Only.refl _ _).drew.alloc _) _).mono ?_; rintro e w' ⟨rfl, nq, rfl⟩))
  go_wp2
  go_ret
  exact ⟨by rw [← HD.out]; rfl, ((Only.refl _ _).alloc _).drewN _⟩
theorem sumRight_pre (A : Option Addr) (n c k m : Nat) (b : List UInt8) (w : World) (hs : Sl w A n (bvs b)) (ht : Tab w) (hm : m + 4 = k) (hk : k ≤ n) (hc : n ≤ c) (hn : k ≤ 100000000000) (t : Bool) (hd : decide (sumOf (b.take m) = from4 (b.drop m)) = t) :
    Calls Tryz.prog 251 #[.slice A k c] w fun e w' => e = .returned (.bool t) ∧ Only [] w w' := by
  subst hm
  have hl : b.length = n := by simpa using hs.len
  have hp := hs.pre hk
  rw [bvs_take] at hp
  have h := sumRight_any A (m + 4) c (b.take (m + 4)) w hp ht (by omega) (by omega) hn
  rw [Nat.add_sub_cancel, List.take_take, Nat.min_eq_left (by omega), List.drop_take, show m + 4 - m = 4 from by omega, from4_take, hd] at h
  exact h
theorem Fresh3.err {w w' : World} {b : List UInt8} (x : Nat) (hx : x ≠ 0) (hb : bad b = x) (o : Only [] w w') : Fresh3 w (body b) (size b : Nat) (bad b : Nat) (.returned (.tuple #[.slice none 0 0, .int .i64 0, .int .i64 (x : Int)])) w' := by
  rw [body_bad (by omega), size_bad (by omega), hb]
  exact ⟨none, 0, rfl, Own.nil _ _, o, fun k hk => (by cases hk)⟩
set_option maxHeartbeats 800000 in
theorem decode_any (A : Option Addr) (n c : Nat) (b : List UInt8) (w : World) (hs : Sl w A n (bvs b)) (ht : Tab w) (hc : n ≤ c) (hn : n ≤ 100000000000) :
    Calls Tryz.prog 234 #[.slice A n c] w (Fresh3 w (body b) (size b : Nat) (bad b : Nat)) := by
  have hl : b.length = n := by simpa using hs.len
  by_cases h8 : n < 8
  · have HB := Lib.hid (bad_0 (b := b) (by omega))
    clear hl
    go_enter Tryz.func234, Tryz.ntmps234
    go_wp2
    go_ret3
    exact Fresh3.err 2 (by omega) HB.out (Only.refl _ _)
  · have HL := Lib.hid hl
    obtain ⟨v, hv⟩ : ∃ v, v = from4 b := ⟨_, rfl⟩
    have hv32 := from4_lt b
    rw [← hv] at hv32
    have HV := Lib.hid hv
    have hc8 : 8 ≤ c := by omega
    have hc4 : 4 ≤ c := by omega
    have p4 := hs.pre (k := 4) (by omega)
    rw [bvs_take] at p4
    have HV4 := Lib.hid (fun (W : World) (o : Only [] w W) => valueOf_any A 4 c (b.take 4) W (p4.keep o) (by omega))
    rw [from4_take, ← hv] at HV4
    by_cases h1 : sumOf (b.take 4) = from4 (b.drop 4)
    · have HS1 := Lib.hid (sumRight_pre A n c 8 4 b w hs ht rfl (by omega) hc (by omega) true (decide_eq_true h1))
      have H1 := Lib.hid h1
      clear h1 hl hv p4
      go_enter Tryz.func234, Tryz.ntmps234
      go_wp2_with fail
      refine HS1.out.mono ?_
      rintro e w1 ⟨rfl, O1⟩
      go_wp2_with fail
      refine (HV4.out w1 O1).mono ?_
      rintro e w' ⟨rfl, m1, rfl⟩
      have O2 := O1.drewN m1
      generalize w1.drewN m1 = w2 at *
      clear O1 HS1 HV4
      by_cases h2 : 1048576 < v
      · have HB := Lib.hid (bad_2 (b := b) (by have := HL.out; omega) H1.out (by have := HV.out; omega))
        go_wp2
        go_ret3
        exact Fresh3.err 5 (by omega) HB.out O2
      · by_cases h3 : n < 12 + v
        · have HB := Lib.hid (bad_3 (b := b) (by have := HL.out; omega) H1.out (by have := HV.out; omega) (by have := HL.out; have := HV.out; omega))
          go_wp2
          go_ret3
          exact Fresh3.err 2 (by omega) HB.out O2
        · have hcs : 8 + v + 4 ≤ c := by omega
          by_cases h4 : sumOf (b.take (8 + v)) = from4 (b.drop (8 + v))
          · have HS2 := Lib.hid (sumRight_pre A n c (8 + v + 4) (8 + v) b w2 (hs.keep O2) (ht.keep O2) rfl (by omega) hc (by omega) true (decide_eq_true h4))
            have hb0 : bad b = 0 := bad_5 (by have := HL.out; omega) H1.out (by have := HV.out; omega) (by have := HL.out; have := HV.out; omega) (by rw [← HV.out]; exact h4)
            have HB := Lib.hid hb0
            have HY : Hid (body b = (b.drop 8).take v) := by show _ = _; rw [body, if_pos hb0, ← HV.out]
            have HZ : Hid (size b = 12 + v) := by show _ = _; rw [size, if_pos hb0, ← HV.out]
            obtain ⟨ad, e, _⟩ := hs.2 (by omega)
            subst e
            have hd : Sl w (some ⟨ad.block, ad.off + 8, none⟩) v (((bvs b).drop 8).take v) := hs.add (k := 8) (m := v) (by omega)
            rw [bvs_drop, bvs_take] at hd
            have hdl : ((b.drop 8).take v).length = v := by rw [List.length_take, List.length_drop, HL.out]; omega
            rw [← HY.out] at hd hdl
            have HDL := Lib.hid hdl
            have HJ := Lib.hid (fun (W : World) (o : Only [] w W) (c : Nat) => join_one W (some ⟨ad.block, ad.off + 8, none⟩) c v (body b) HDL.out (hd.keep o) (by omega))
            clear h4 hb0 hd hdl
            go_wp2_with fail
            refine HS2.out.mono ?_
            rintro e w3 ⟨rfl, O3⟩
            go_wp2_with fail
            refine (HJ.out w3 (O2.then O3) _).mono ?_
            rintro e w4 ⟨⟨A4, c4, rfl, V4, O4, B4⟩, _⟩
            go_wp2
            go_ret3
            have hz : ((12 + v : Nat) : Int) = 8 + (v : Int) + 4 := by omega
            rw [HZ.out, HB.out, hz]
            exact ⟨A4, c4, rfl, V4, (O2.then O3).then O4, fun k hk => Nat.le_trans (O2.then O3).size (B4 k hk)⟩
          · have HS2 := Lib.hid (sumRight_pre A n c (8 + v + 4) (8 + v) b w2 (hs.keep O2) (ht.keep O2) rfl (by omega) hc (by omega) false (decide_eq_false h4))
            have HB := Lib.hid (bad_4 (b := b) (by have := HL.out; omega) H1.out (by have := HV.out; omega) (by have := HL.out; have := HV.out; omega) (by rw [← HV.out]; exact h4))
            clear h4
            go_wp2_with fail
            refine HS2.out.mono ?_
            rintro e w3 ⟨rfl, O3⟩
            go_wp2
            go_ret3
            exact Fresh3.err 4 (by omega) HB.out (O2.then O3)
    · have HS1 := Lib.hid (sumRight_pre A n c 8 4 b w hs ht rfl (by omega) hc (by omega) false (decide_eq_false h1))
      have HB := Lib.hid (bad_1 (b := b) (by omega) h1)
      clear h1 hl hv p4
      go_enter Tryz.func234, Tryz.ntmps234
      go_wp2_with fail
      refine HS1.out.mono ?_
      rintro e w1 ⟨rfl, O1⟩
      go_wp2
      go_ret3
      exact Fresh3.err 4 (by omega) HB.out O1
end Go.Proofs.YtgnilldcfpgpaaaGreatDoor
namespace Go.Proofs.YtgnilldcfpgpaaaGreatDoor
open Go.RowKit
theorem Fresh2.err {w w' : World} {l : List UInt8} {y : Nat} (x : Nat) (hb : y = x ∧ l = []) (o : Only [] w w') : Fresh2 w l (y : Nat) (.returned (.tuple #[.slice none 0 0, .int .i64 (x : Int)])) w' := by
  obtain ⟨rfl, rfl⟩ := hb
  exact ⟨none, 0, rfl, Own.nil _ _, o, fun k hk => (by cases hk)⟩
set_option maxRecDepth 100000 in
set_option maxHeartbeats 800000 in
theorem one_any (A : Option Addr) (n c : Nat) (b : List UInt8) (w : World) (hs : Sl w A n (bvs b)) (ht : Tab w) (hc : n ≤ c) (hn : n ≤ 100000000000) :
    Calls Tryz.prog 214 #[.slice A n c] w (Fresh2 w (oneBody b) (oneBad b : Nat)) := by
  have hl : b.length = n := by simpa using hs.len
  have HD := Lib.hid (decode_any A n c b w hs ht hc hn)
  have hle := bad_le b
  have hsz : size b ≤ n := by
    by_cases h : bad b = 0
    · have := size_pos h; omega
    · rw [size_bad h]; omega
  by_cases h0 : bad b = 0
  · have hne : ((bad b : Int) != 0) = false := by rw [h0]; rfl
    by_cases h1 : size b < n
    · have HB := Lib.hid (one_1 h0 (by omega))
      clear hl h0
      go_enter Tryz.func214, Tryz.ntmps214
      go_wp2_with fail
      refine HD.out.mono ?_
      rintro e w1 ⟨A1, c1, rfl, V1, O1, B1⟩
      go_wp2
      go_ret2
      exact Fresh2.err 3 HB.out O1
    · have HB := Lib.hid (one_2 h0 (by omega))
      clear hl h0
      go_enter Tryz.func214, Tryz.ntmps214
      go_wp2_with fail
      refine HD.out.mono ?_
      rintro e w1 ⟨A1, c1, rfl, V1, O1, B1⟩
      go_wp2
      go_ret2
      rw [HB.out.1, HB.out.2]
      exact ⟨A1, c1, rfl, V1, O1, B1⟩
  · have hne : ((bad b : Int) != 0) = true := by rw [bne_iff_ne]; omega
    have HB := Lib.hid (one_0 h0)
    clear hl h0
    go_enter Tryz.func214, Tryz.ntmps214
    go_wp2_with fail
    refine HD.out.mono ?_
    rintro e w1 ⟨A1, c1, rfl, V1, O1, B1⟩
    go_wp2
    go_ret2
    exact Fresh2.err _ HB.out O1
end Go.Proofs.YtgnilldcfpgpaaaGreatDoor
namespace Go.Proofs.YtgnilldcfpgpaaaGreatDoor
open Go.RowKit
def RowsAt (w : World) (vs : List Value) (ls : List (List UInt8)) : Prop :=
  vs.length = ls.length ∧ ∀ (i : Nat) (l : List UInt8), ls[i]? = some l → ∃ Ai ci, vs[i]? = some (.slice Ai l.length ci) ∧ Own w 5 Ai l.length ci (bvs l)
section
variable {w w' : World} {vs : List Value} {ls : List (List UInt8)} {A : Option Addr} {n c : Nat} {xs : List Value}
theorem RowsAt.nil (w : World) : RowsAt w [] [] := ⟨rfl, fun i l h => by simp at h⟩
theorem RowsAt.only {rs : List Nat} (h : RowsAt w vs ls) (o : Only rs w w') (hd : ∀ (t : List UInt8) (B : Option Addr) (cb : Nat), Own w 5 B t.length cb (bvs t) → ∀ k ∈ blks B, k ∉ rs) : RowsAt w' vs ls :=
  ⟨h.1, fun i l hi => by
    obtain ⟨Ai, ci, h1, h2⟩ := h.2 i l hi
    exact ⟨Ai, ci, h1, h2.only o (hd l Ai ci h2)⟩⟩
theorem RowsAt.keep (h : RowsAt w vs ls) (o : Only [] w w') : RowsAt w' vs ls := h.only o (fun _ _ _ _ _ _ hm => by cases hm)
theorem RowsAt.beside (h : RowsAt w vs ls) (hv : Own w 27 A n c xs) (o : Only (blks A) w w') : RowsAt w' vs ls := h.only o (fun _ _ _ hB => hB.apart hv (by decide))
theorem RowsAt.snoc (h : RowsAt w vs ls) {l : List UInt8} {A : Option Addr} {c : Nat} (ho : Own w 5 A l.length c (bvs l)) : RowsAt w (vs ++ [.slice A l.length c]) (ls ++ [l]) :=
  ⟨by simp [h.1], fun i x hi => by
    rcases Nat.lt_or_ge i ls.length with h1 | h1
    · rw [List.getElem?_append_left h1] at hi
      obtain ⟨Ai, ci, h2, h3⟩ := h.2 i x hi
      exact ⟨Ai, ci, by rw [List.getElem?_append_left (by rw [h.1]; exact h1)]; exact h2, h3⟩
    · rw [List.getElem?_append_right h1] at hi
      have hv : vs.length ≤ i := by rw [h.1]; exact h1
      have h0 : i - ls.length = 0 := by
        have := (List.getElem?_eq_some_iff.1 hi).1
        simp at this
        omega
      rw [h0] at hi
      simp at hi
      subst hi
      exact ⟨A, c, by rw [List.getElem?_append_right hv, h.1, h0]; rfl, ho⟩⟩
end
theorem sl_any_none (w : World) (A : Option Addr) : Sl w A 0 (bvs []) := ⟨rfl, fun h => absurd h (by omega)⟩
theorem bad_nil : bad [] = 2 := bad_0 (by decide)
theorem one_row (A : Option Addr) (n c : Nat) : ∀ u ∈ [Value.slice A n c], u.oneCell' = true := by
  intro u hu
  simp at hu
  subst hu
  rfl
end Go.Proofs.YtgnilldcfpgpaaaGreatDoor
namespace Go.Proofs.YtgnilldcfpgpaaaGreatDoor
open Go.RowKit Go.Maps
section
variable {w : World} {mb : Option Nat} {cs : List Fc}
theorem len_run (hm : MapIs w mb cs) (ty : TypeId) : (Builtin.len_ #[110] ty #[.map mb]).run Tryz.prog w = .ok (.int .i64 cs.length) w := by
  cases mb with
  | none =>
    have : cs = [] := hm
    subst this
    exact Maps.len_nil Tryz.underlying110 ty
  | some m =>
    have := World.ownsMap.len (show w.ownsMap _ _ _ m _ (Dm cs) from hm) Tryz.underlying110 ty
    rw [size_dm] at this
    exact this
end
section
variable {S : Dst} {s : ByteArray} {p : List UInt8}
theorem errA_err {r : Nat} (h : errB S [s] = r) (h0 : r ≠ 0) : errA S s p = r := by unfold errA; rw [h, if_pos h0]
theorem errA_full (h : errB S [s] = 0) (h1 : S.room < used S.fs + p.length ∨ (get S.fs s = none ∧ 4096 ≤ S.fs.length)) : errA S s p = 6 := by unfold errA; rw [h, if_neg (by omega), if_pos h1]
theorem errA_ok (h : errB S [s] = 0) (h1 : used S.fs + p.length ≤ S.room) (h2 : get S.fs s ≠ none ∨ S.fs.length < 4096) : errA S s p = 0 := by
  unfold errA
  rw [h, if_neg (by omega), if_neg]
  rintro (h3 | ⟨h3, h4⟩)
  · omega
  · rcases h2 with h2 | h2
    · exact h2 h3
    · omega
theorem appendS_same {r : Nat} (h : errA S s p = r) (h0 : r ≠ 0) : appendS S s p = S := by unfold appendS; rw [h, if_neg h0]
theorem appendS_ok (h : errA S s p = 0) : appendS S s p = doA S s p := by unfold appendS; rw [h, if_pos rfl]
end
structure AtRows (w wx : World) (d : Nat) (F : List Nat) (S : Dst) (s : ByteArray) (p : List UInt8) (lf : Nat) (mbx : Option Nat) (P : List Fc) (c0 : Fc) (Q : List Fc) : Prop where
  dk : Dk wx d S.room (used S.fs) S.fuse.isSome lf mbx (P ++ c0 :: Q)
  only : Only F w wx
  fp : ∀ x ∈ fpt d mbx (P ++ c0 :: Q), x ∈ F ∨ w.heap.size ≤ x
  fs : ∀ A' cap', (P ++ { f := { c0.f with data := c0.f.data ++ p }, blk := c0.blk, A := A', cap := cap' } :: Q).map (·.f) = (doA S s p).fs
  us : used (doA S s p).fs = used S.fs + p.length
  dm : d ∈ F
  c0l : c0.f.data.length ≤ used S.fs
theorem atRows_hit {w wx : World} {d lf : Nat} {mb : Option Nat} {cs : List Fc} {S : Dst} {s : ByteArray} {p : List UInt8} {c0 : Fc} (h : Dk wx d S.room (used S.fs) S.fuse.isSome lf mb cs) (h1 : cs.map (·.f) = S.fs) (hc : findC cs s = some c0) (o : Only [] w wx) :
    ∃ P Q, AtRows w wx d (fpt d mb cs) S s p lf mb P c0 Q := by
  obtain ⟨hm, hn⟩ := findC_some hc
  obtain ⟨P, Q, rfl⟩ := List.append_of_mem hm
  have hg := findC_get h1 s
  rw [hc] at hg
  have hr := h.good.rise
  rw [h1] at hr
  have hsp : S.fs = P.map (·.f) ++ c0.f :: Q.map (·.f) := by rw [← h1]; simp
  have hd : (doA S s p).fs = P.map (·.f) ++ { c0.f with data := c0.f.data ++ p } :: Q.map (·.f) := by
    unfold doA
    rw [tick_fs]
    simp only [hg, Option.map_some]
    rw [← hn]
    exact upd_split hsp hr _
  refine ⟨P, Q, h, o.mono (fun _ hx => by cases hx), fun x hx => .inl hx, fun A' cap' => ?_, ?_, mem_fpt.2 (.inl rfl), used_le (by rw [hsp]; simp)⟩
  · rw [hd]; simp
  · rw [hd, hsp, used_append, used_append]
    simp only [used, List.length_append]
    omega
theorem atRows_new {w wx : World} {d lf : Nat} {mb mb' : Option Nat} {cs : List Fc} {S : Dst} {s : ByteArray} {p : List UInt8} {g : Nat} (h : Dk wx d S.room (used S.fs) S.fuse.isSome lf mb' (insC ⟨⟨s, [], 0⟩, g, none, 0⟩ cs)) (h1 : cs.map (·.f) = S.fs) (hc : findC cs s = none)
    (o : Only (fpt d mb cs) w wx) (hg : w.heap.size ≤ g) (hmb : ∀ m, mb' = some m → mb = some m ∨ w.heap.size ≤ m) :
    ∃ P Q, insC ⟨⟨s, [], 0⟩, g, none, 0⟩ cs = P ++ ⟨⟨s, [], 0⟩, g, none, 0⟩ :: Q ∧ AtRows w wx d (fpt d mb cs) S s p lf mb' P ⟨⟨s, [], 0⟩, g, none, 0⟩ Q := by
  obtain ⟨P, Q, hPQ⟩ := List.append_of_mem (mem_insC.2 (.inl rfl) : (⟨⟨s, [], 0⟩, g, none, 0⟩ : Fc) ∈ insC ⟨⟨s, [], 0⟩, g, none, 0⟩ cs)
  have hget := findC_get h1 s
  rw [hc] at hget
  have hno : ∀ x ∈ S.fs, x.name ≠ s := get_none.1 hget
  have hr := h.good.rise
  have hmap := map_insC ⟨⟨s, [], 0⟩, g, none, 0⟩ cs
  rw [h1] at hmap
  rw [hmap] at hr
  have hsp : ins ⟨s, [], 0⟩ S.fs = P.map (·.f) ++ ⟨s, [], 0⟩ :: Q.map (·.f) := by
    rw [← hmap, hPQ]; simp
  have hd : (doA S s p).fs = P.map (·.f) ++ ⟨s, [] ++ p, 0⟩ :: Q.map (·.f) := by
    unfold doA
    rw [tick_fs]
    simp only [hget, Option.map_none]
    have e1 := upd_split hsp hr (fun f => { f with data := f.data ++ p })
    have e2 := upd_ins (f := ⟨s, [], 0⟩) (h := fun f => { f with data := f.data ++ p }) rfl (fs := S.fs) hno
    dsimp only at e1 e2
    rw [← e1, e2]
    simp
  refine ⟨P, Q, hPQ, by rw [← hPQ]; exact h, o, fun x hx => ?_, fun A' cap' => ?_, ?_, mem_fpt.2 (.inl rfl), Nat.zero_le _⟩
  · rw [← hPQ] at hx
    rcases mem_fpt.1 hx with rfl | e | ⟨c, hm, rfl⟩ | ⟨c, hm, hx⟩
    · exact .inl (mem_fpt.2 (.inl rfl))
    · rcases hmb x e with e | e
      · exact .inl (mem_fpt.2 (.inr (.inl e)))
      · exact .inr e
    · rcases mem_insC.1 hm with rfl | hm
      · exact .inr hg
      · exact .inl (mem_fpt.2 (.inr (.inr (.inl ⟨c, hm, rfl⟩))))
    · rcases mem_insC.1 hm with rfl | hm
      · cases hx
      · exact .inl (mem_fpt.2 (.inr (.inr (.inr ⟨c, hm, hx⟩))))
  · rw [hd]; simp
  · rw [hd]
    have hu := used_ins ⟨s, [], 0⟩ S.fs
    rw [hsp, used_append] at hu
    rw [used_append]
    simp only [used, List.length_append, List.length_nil] at hu ⊢
    omega
theorem dmb_sub {d : Nat} {mb : Option Nat} {cs : List Fc} : ∀ x ∈ d :: mb.toList, x ∈ fpt d mb cs := fun x hx => by
  rcases List.mem_cons.1 hx with rfl | hx
  · exact mem_fpt.2 (.inl rfl)
  · exact mem_fpt.2 (.inr (.inl (by simpa using hx)))
theorem fpt_swap {d : Nat} {mb : Option Nat} {P Q : List Fc} {c c' : Fc} {F : List Nat} {z : Nat} (h : ∀ x ∈ fpt d mb (P ++ c :: Q), x ∈ F ∨ z ≤ x) (hb : c'.blk = c.blk) (hA : ∀ x ∈ blks c'.A, x ∈ F ∨ z ≤ x) : ∀ x ∈ fpt d mb (P ++ c' :: Q), x ∈ F ∨ z ≤ x := by
  intro x hx
  rcases mem_fpt.1 hx with rfl | e | ⟨y, hm, rfl⟩ | ⟨y, hm, hx2⟩
  · exact h _ (mem_fpt.2 (.inl rfl))
  · exact h _ (mem_fpt.2 (.inr (.inl e)))
  · rcases List.mem_append.1 hm with hm | hm
    · exact h _ (mem_fpt.2 (.inr (.inr (.inl ⟨y, by simp [hm], rfl⟩))))
    · rcases List.mem_cons.1 hm with rfl | hm
      · rw [hb]; exact h _ (mem_fpt.2 (.inr (.inr (.inl ⟨c, by simp, rfl⟩))))
      · exact h _ (mem_fpt.2 (.inr (.inr (.inl ⟨y, by simp [hm], rfl⟩))))
  · rcases List.mem_append.1 hm with hm | hm
    · exact h _ (mem_fpt.2 (.inr (.inr (.inr ⟨y, by simp [hm], hx2⟩))))
    · rcases List.mem_cons.1 hm with rfl | hm
      · exact hA x hx2
      · exact h _ (mem_fpt.2 (.inr (.inr (.inr ⟨y, by simp [hm], hx2⟩))))
section
variable {w : World} {d : Nat} {F : List Nat} {S : Dst}
theorem append_nil (w : World) (s : ByteArray) (A : Option Addr) (n c : Nat) : Calls Tryz.prog 158 #[.pointer none, .string s, .slice A n c] w fun e w' => e = .returned (.int .i64 1) ∧ Only [] w w' := by
  have HB := begin_nil (w.alloc (.cells #[.string s] 9)) (some ⟨w.heap.size, 0, none⟩) 1 1
  go_enter Tryz.func158, Tryz.ntmps158
  go_wp2_with (go_at_call 202; refine HB.mono ?_; rintro e w1 ⟨rfl, rfl⟩)
  go_ret
  exact ⟨rfl, (Only.refl _ _).alloc _⟩
set_option maxRecDepth 100000 in
set_option maxHeartbeats 1000000 in
theorem append_any (h : Disk w d F S) (s : ByteArray) (A : Option Addr) (n c : Nat) (ls : List (List UInt8)) (hr : RwS (fun b => b ∉ F) w A n ls) (hn : n ≤ 4611686018427387904) (p : List UInt8) (hp : ls.flatten = p) :
    Calls Tryz.prog 158 #[.pointer (some ⟨d, 0, none⟩), .string s, .slice A n c] w (Did d F (appendS S s p) (.int .i64 (errA S s p : Nat)) w) := by
  have hD1 := Lib.hid h
  obtain ⟨lf, mb, cs, hk, h1, h2, h3, rfl⟩ := h
  obtain ⟨i0, hi, hz0, hz1, hz2⟩ := info_parts infoByte
  have hlt := hk.bk.lt
  have hk1 := hk.keep ((Only.refl [] w).alloc (.cells #[.string s] 9))
  have HB := begin_any hk1 (some ⟨w.heap.size, 0, none⟩) 1 1 [s] (sl_name w s) (by omega)
  have hr1 : RwS (fun b => b ∉ fpt d mb cs) (w.alloc (.cells #[.string s] 9)) A n ls := hr.only (rs := []) ((Only.refl [] w).alloc _) (fun _ _ hm => by cases hm)
  have O1 : Only [] w (w.alloc (.cells #[.string s] 9)) := (Only.refl [] w).alloc _
  have he := errB_errD h2 [s]
  by_cases h0 : errD S.fuse.isSome lf [s] = 0
  · rw [h0] at he HB
    obtain ⟨hs1, hs64, hlf⟩ := errD_one h0
    clear h0
    have hfit : ∀ B, B = decide (used S.fs + p.length ≤ S.room) → _ := fun B hB => fits_any hk1 h3 A n c ls hr1.rw hn B (by rw [hp]; exact hB)
    have HBB := Lib.hid HB
    have HR := Lib.hid hr
    have hrlen := hr.len
    have b30 := hk.room'
    clear HB hr
    cases hc : findC cs s with
    | none =>
      have hg := findC_get h1 s
      rw [hc] at hg
      have hl := look_none hk1.map (by unfold maxLen; omega) hc
      obtain ⟨_, _, c2, _, _⟩ := hk1.cell
      have hln : ∀ m0 ty, (Builtin.len_ #[110] ty #[.map mb]).run Tryz.prog ((w.alloc (.cells #[.string s] 9)).drewN m0) = .ok (.int .i64 cs.length) ((w.alloc (.cells #[.string s] 9)).drewN m0) := fun m0 ty => len_run (hk1.keep ((Only.refl [] _).drewN m0)).map ty
      have hcl : S.fs.length = cs.length := by rw [← h1]; simp
      by_cases hB : used S.fs + p.length ≤ S.room
      · have HF := hfit true (by simp [hB])
        by_cases hlen : 4096 ≤ cs.length
        · have e1 : errA S s p = 6 := errA_full he (.inr ⟨hg, by omega⟩)
          rw [e1, appendS_same e1 (by omega)]
          clear hk hk1 h1 h2 h3 he hc hg e1 hfit hlf hcl HR hrlen
          generalize hW : w.alloc (.cells #[.string s] 9) = w1 at *
          have HW := Lib.hid hW
          clear hW
          go_enter Tryz.func158, Tryz.ntmps158
          go_wp2_with (first
            | (go_at_call 202; rw [HW.out]; refine HBB.out.mono ?_; rintro e w2 ⟨rfl, rfl⟩)
            | (go_at_call 203; refine HF.mono ?_; rintro e w3 ⟨rfl, m0, rfl⟩))
          go_ret
          exact did_same rfl hD1.out (O1.drewN _)
        · have e1 : errA S s p = 0 := errA_ok he hB (.inr (by omega))
          rw [e1, appendS_ok e1]
          have hlen' : (cs.length : Int) < 4096 := by omega
          have HK1 := Lib.hid hk1
          have HI := Lib.hid (And.intro h1 (And.intro h2 (And.intro h3 (And.intro hc hlf))))
          have HBd := Lib.hid hB
          have HPUT := Lib.hid (fun m0 => put_any ((hk1.keep ((Only.refl [] _).drewN m0)).keep ((Only.refl [] _).alloc (.cells #[.slice none 0 0, .int .i64 0] 118))) (c := ⟨⟨s, [], 0⟩, (w.alloc (.cells #[.string s] 9)).heap.size, none, 0⟩)
            ⟨Bk.new ((w.alloc (.cells #[.string s] 9)).drewN m0) _ _, Own.nil _ _⟩ hc (fun hm => by
              obtain ⟨x, hx, e⟩ := List.mem_map.1 hm
              have := (hk1.file x hx).1.lt
              dsimp only at e
              omega) (fun _ hx => by cases hx) (by omega) hs64 (Nat.le_refl _) (Nat.zero_le _))
          dsimp only at HPUT
          clear hk hk1 h1 h2 h3 he hc hg e1 hfit hlf hcl hB
          generalize hW : w.alloc (.cells #[.string s] 9) = w1 at *
          have HW := Lib.hid hW
          clear hW
          go_enter Tryz.func158, Tryz.ntmps158
          go_wp2_with (first
            | (go_at_call 202; rw [HW.out]; refine HBB.out.mono ?_; rintro e w2 ⟨rfl, rfl⟩)
            | (go_at_call 203; refine HF.mono ?_; rintro e w3 ⟨rfl, m0, rfl⟩)
            | (go_at_call 204; refine (HPUT.out m0).mono ?_; rintro e w4 ⟨rfl, mbx, D4, O4, M4⟩))
          obtain ⟨P, Q, HPQ, HAT⟩ := atRows_new (w := w) (p := p) D4 HI.out.1 HI.out.2.2.2.1 ((((O1.drewN m0).alloc _).mono (fun _ hx => by cases hx)).trans O4 (fun x hx => .inl (dmb_sub x hx))) O1.size (fun m e => by
            rcases M4 m e with h | h
            · exact .inl h
            · have := O1.size
              rw [World.size_alloc] at h
              have e1 : (w1.drewN m0).heap.size = w1.heap.size := rfl
              exact .inr (by omega))
          obtain ⟨c0, hblk, HAT⟩ : ∃ c0 : Fc, c0.blk = w1.heap.size ∧ AtRows w w4 d (fpt d mb cs) S s p lf mbx P c0 Q := ⟨_, rfl, HAT⟩
          rw [← hblk]
          have HBL := Lib.hid hblk
          have O3 := O1
          clear hblk HPQ D4 O4 M4 HPUT hln hlen hlen'
          generalize w4 = wx at HAT ⊢
          obtain ⟨hdk, hox, hfx, hfs, hus, hdm, hc0l⟩ := HAT
          have Z0 : Hid (Dk wx d S.room (used S.fs + catLen ls 0) S.fuse.isSome lf mbx (P ++ { f := { c0.f with data := c0.f.data ++ cat ls 0 }, blk := c0.blk, A := c0.A, cap := c0.cap } :: Q)) := by
            show Dk _ _ _ _ _ _ _ _
            rw [catLen_zero, cat_zero, List.append_nil]
            exact hdk
          have HA0 : Hid (∀ x ∈ blks c0.A, x ∈ fpt d mb cs ∨ w.heap.size ≤ x) := fun x hx => hfx x (mem_fpt.2 (.inr (.inr (.inr ⟨c0, by simp, hx⟩))))
          have HBK : Hid (c0.blk ∈ fpt d mb cs ∨ w.heap.size ≤ c0.blk) := hfx _ (mem_fpt.2 (.inr (.inr (.inl ⟨c0, by simp, rfl⟩))))
          have HFX := Lib.hid hfx
          have HFS := Lib.hid hfs
          have HUS := Lib.hid hus
          have HP := Lib.hid hp
          clear hdk hfx hfs hus hr1 O1 HBB hl c2 HF HK1 HW hp O3
          go_loopw [50] (fun i wr => ∃ (k : Nat) (A' : Option Addr) (cap' : Nat), k ≤ n ∧ i = .int .i64 k ∧ Dk wr d S.room (used S.fs + catLen ls k) S.fuse.isSome lf mbx (P ++ { f := { c0.f with data := c0.f.data ++ cat ls k }, blk := c0.blk, A := A', cap := cap' } :: Q) ∧ Only (fpt d mb cs) w wr ∧ ∀ x ∈ blks A', x ∈ fpt d mb cs ∨ w.heap.size ≤ x) (fun i _ => n - (intOf i).toNat)
          case atStart => exact ⟨0, c0.A, c0.cap, Nat.zero_le _, rfl, Z0.out, hox, HA0.out⟩
          case round =>
            obtain ⟨k, A', cap', hk, rfl, D1, HO, HB'⟩ := hrel
            by_cases hlt2 : k < n
            · have RS := HR.out.only HO (fun _ hx => hx)
              obtain ⟨ad, Ai, ci, rfl, _, hcell, hsl, _⟩ := RS.at_ hlt2 (by omega)
              have hcat := cat_succ ls k (by omega)
              have hclen := catLen_succ ls k (by omega)
              have hcle : catLen ls (k + 1) ≤ p.length := by rw [← HP.out]; exact catLen_le ls (k + 1)
              obtain ⟨row, hrow⟩ : ∃ row, row = ls[k]'(by omega) := ⟨_, rfl⟩
              rw [← hrow] at hcell hsl hcat hclen
              obtain ⟨m, hm⟩ : ∃ m, m = row.length := ⟨_, rfl⟩
              rw [← hm] at hcell hsl hclen
              obtain ⟨q, hq⟩ : ∃ q, q = c0.f.data ++ cat ls k := ⟨_, rfl⟩
              have hq2 : c0.f.data ++ cat ls (k + 1) = q ++ row := by rw [hcat, hq, List.append_assoc]
              rw [← hq] at D1
              obtain ⟨a, ha⟩ : ∃ a, a = q.length := ⟨_, rfl⟩
              obtain ⟨uk, huk⟩ : ∃ uk, uk = used S.fs + catLen ls k := ⟨_, rfl⟩
              rw [← huk] at D1
              have huk2 : used S.fs + catLen ls (k + 1) = uk + m := by omega
              have hum : uk + m ≤ 1073741824 := by have := HBd.out; omega
              obtain ⟨_, c1, _, _, _⟩ := D1.cell
              have hmem : ∀ x : Fc, x ∈ P ++ x :: Q := fun x => by simp
              obtain ⟨e0, _⟩ := D1.fcell (hmem _)
              have V := (D1.file _ (hmem _)).2
              have g0 := (D1.file _ (hmem _)).1.free 0
              have hbz := (D1.file _ (hmem _)).1.lt
              have hdz := D1.bk.lt
              have f1 := D1.bk.free 1
              have hbd : c0.blk ≠ d := D1.d_blk (c := { f := { c0.f with data := q }, blk := c0.blk, A := A', cap := cap' }) (hmem _)
              have hba : c0.blk ∉ blks A' := D1.blk_row (c := { f := { c0.f with data := q }, blk := c0.blk, A := A', cap := cap' }) (c' := { f := { c0.f with data := q }, blk := c0.blk, A := A', cap := cap' }) (hmem _) (hmem _)
              have hda : d ∉ blks A' := D1.d_row (c := { f := { c0.f with data := q }, blk := c0.blk, A := A', cap := cap' }) (hmem _)
              have hbig := D1.big _ (hmem _)
              have hla := D1.lasts (hmem _)
              have hul : q.length = c0.f.data.length + catLen ls k := by rw [hq, List.length_append]; rfl
              dsimp only at e0 V g0 hbig hla hbz
              rw [← ha] at e0 V hbig hla
              have hln2 : (q ++ row).length = a + m := by rw [List.length_append, ha, hm]
              have hamax : a + m ≤ 1073741824 := by omega
              have HQ2 := Lib.hid hq2
              have HUK := Lib.hid huk2
              have HLN := Lib.hid hln2
              clear hcat hclen hcle hrow hm hq hq2 ha huk huk2 hul hln2
              go_wp2_with (at_builtin; refine wpList_append_sl rfl (.tmp 58) (.tmp 59) 27 rfl 5 i0 (.int .u8 0) 1 Tryz.underlying27 hi hz0 hz1 hz2 rfl A' a cap' (bvs q) rfl V Ai m ci (bvs row) rfl hsl (bvs_one _) (by unfold maxLen; omega) (by omega) ?_; intro A5 c5 w5 V5 O5 B5; rw [← bvs_append] at V5; have e5 := O5.cellSome e0 hba; have g5 := (O5.frozen (p := ⟨c0.blk, 0, none⟩) hbz hba).trans g0; have c15 := O5.cellSome c1 hda; have f15 := (O5.frozen (p := ⟨d, 1, none⟩) hdz hda).trans f1)
              have D2 := D1.setData (data' := q ++ row) (A' := A5) (cap' := c5) O5 (by rw [HLN.out]; exact V5) B5 (by dsimp only; rw [HLN.out]; omega) (by rw [HLN.out]; omega)
              rw [HLN.out] at D2
              have D3 := D2.setUsed (uk + m) hum
              have HB5 : ∀ x ∈ blks A5, x ∈ fpt d mb cs ∨ w.heap.size ≤ x := fun x hx => by
                rcases B5 x hx with h | h
                · exact HB' x h
                · have := HO.size
                  exact .inr (by omega)
              go_roundw
              case rel => exact ⟨k + 1, A5, c5, by omega, by go_num, by rw [HQ2.out, HUK.out]; exact D3, ((HO.trans O5 HB').setCell HBK.out _).setCell (.inl hdm) _, HB5⟩
              case measure => simp [intOf]; omega
            · have hcp : cat ls k = p := by rw [cat_all ls (by omega), HP.out]
              have hcl2 : catLen ls k = p.length := by rw [catLen_all ls (by omega), HP.out]
              rw [hcp, hcl2] at D1
              have HD := Lib.hid (done_any D1 HI.out.2.2.2.2)
              clear hcp hcl2
              go_wp2_with (go_at_call 205; refine HD.out.mono ?_; rintro e w7 ⟨rfl, D7, O7⟩)
              go_ret
              exact did_mk rfl D7 rfl HUS.out (tick_some _) (HFS.out _ _) (tick_fuse HI.out.2.1) HBd.out (HO.trans O7 (fun x hx => by simp at hx; subst hx; exact .inl hdm)) (fpt_swap HFX.out rfl HB')
      · have e1 : errA S s p = 6 := errA_full he (.inl (by omega))
        have HF := hfit false (by simp [hB])
        rw [e1, appendS_same e1 (by omega)]
        clear hk hk1 h1 h2 h3 he hc hg e1 hfit hlf hcl HR hrlen
        generalize hW : w.alloc (.cells #[.string s] 9) = w1 at *
        have HW := Lib.hid hW
        clear hW
        go_enter Tryz.func158, Tryz.ntmps158
        go_wp2_with (first
          | (go_at_call 202; rw [HW.out]; refine HBB.out.mono ?_; rintro e w2 ⟨rfl, rfl⟩)
          | (go_at_call 203; refine HF.mono ?_; rintro e w3 ⟨rfl, m0, rfl⟩))
        go_ret
        exact did_same rfl hD1.out (O1.drewN _)
    | some c0 =>
      have hg := findC_get h1 s
      rw [hc] at hg
      have hl := look_hit hk1.map (by unfold maxLen; omega) hc
      obtain ⟨_, _, c2, _, _⟩ := hk1.cell
      by_cases hB : used S.fs + p.length ≤ S.room
      · have HF := hfit true (by simp [hB])
        have e1 : errA S s p = 0 := errA_ok he hB (.inl (by rw [hg]; simp))
        rw [e1, appendS_ok e1]
        have HK1 := Lib.hid hk1
        have HI := Lib.hid (And.intro h1 (And.intro h2 (And.intro h3 (And.intro hc hlf))))
        have HBd := Lib.hid hB
        clear hk hk1 h1 h2 h3 he hc hg e1 hfit hlf hB
        generalize hW : w.alloc (.cells #[.string s] 9) = w1 at *
        have HW := Lib.hid hW
        clear hW
        go_enter Tryz.func158, Tryz.ntmps158
        go_wp2_with (first
          | (go_at_call 202; rw [HW.out]; refine HBB.out.mono ?_; rintro e w2 ⟨rfl, rfl⟩)
          | (go_at_call 203; refine HF.mono ?_; rintro e w3 ⟨rfl, m0, rfl⟩))
        have O3 := O1.drewN m0
        obtain ⟨P, Q, HAT⟩ := atRows_hit (p := p) (HK1.out.keep ((Only.refl [] _).drewN m0)) HI.out.1 HI.out.2.2.2.1 O3
        generalize w1.drewN m0 = wx at HAT O3 ⊢
        obtain ⟨hdk, hox, hfx, hfs, hus, hdm, hc0l⟩ := HAT
        have Z0 : Hid (Dk wx d S.room (used S.fs + catLen ls 0) S.fuse.isSome lf mb (P ++ { f := { c0.f with data := c0.f.data ++ cat ls 0 }, blk := c0.blk, A := c0.A, cap := c0.cap } :: Q)) := by
          show Dk _ _ _ _ _ _ _ _
          rw [catLen_zero, cat_zero, List.append_nil]
          exact hdk
        have HA0 : Hid (∀ x ∈ blks c0.A, x ∈ fpt d mb cs ∨ w.heap.size ≤ x) := fun x hx => hfx x (mem_fpt.2 (.inr (.inr (.inr ⟨c0, by simp, hx⟩))))
        have HBK : Hid (c0.blk ∈ fpt d mb cs ∨ w.heap.size ≤ c0.blk) := hfx _ (mem_fpt.2 (.inr (.inr (.inl ⟨c0, by simp, rfl⟩))))
        have HFX := Lib.hid hfx
        have HFS := Lib.hid hfs
        have HUS := Lib.hid hus
        have HP := Lib.hid hp
        clear hdk hfx hfs hus hr1 O1 HBB hl c2 HF HK1 HW hp O3
        go_loopw [50] (fun i wr => ∃ (k : Nat) (A' : Option Addr) (cap' : Nat), k ≤ n ∧ i = .int .i64 k ∧ Dk wr d S.room (used S.fs + catLen ls k) S.fuse.isSome lf mb (P ++ { f := { c0.f with data := c0.f.data ++ cat ls k }, blk := c0.blk, A := A', cap := cap' } :: Q) ∧ Only (fpt d mb cs) w wr ∧ ∀ x ∈ blks A', x ∈ fpt d mb cs ∨ w.heap.size ≤ x) (fun i _ => n - (intOf i).toNat)
        case atStart => exact ⟨0, c0.A, c0.cap, Nat.zero_le _, rfl, Z0.out, hox, HA0.out⟩
        case round =>
          obtain ⟨k, A', cap', hk, rfl, D1, HO, HB'⟩ := hrel
          by_cases hlt2 : k < n
          · have RS := HR.out.only HO (fun _ hx => hx)
            obtain ⟨ad, Ai, ci, rfl, _, hcell, hsl, _⟩ := RS.at_ hlt2 (by omega)
            have hcat := cat_succ ls k (by omega)
            have hclen := catLen_succ ls k (by omega)
            have hcle : catLen ls (k + 1) ≤ p.length := by rw [← HP.out]; exact catLen_le ls (k + 1)
            obtain ⟨row, hrow⟩ : ∃ row, row = ls[k]'(by omega) := ⟨_, rfl⟩
            rw [← hrow] at hcell hsl hcat hclen
            obtain ⟨m, hm⟩ : ∃ m, m = row.length := ⟨_, rfl⟩
            rw [← hm] at hcell hsl hclen
            obtain ⟨q, hq⟩ : ∃ q, q = c0.f.data ++ cat ls k := ⟨_, rfl⟩
            have hq2 : c0.f.data ++ cat ls (k + 1) = q ++ row := by rw [hcat, hq, List.append_assoc]
            rw [← hq] at D1
            obtain ⟨a, ha⟩ : ∃ a, a = q.length := ⟨_, rfl⟩
            obtain ⟨uk, huk⟩ : ∃ uk, uk = used S.fs + catLen ls k := ⟨_, rfl⟩
            rw [← huk] at D1
            have huk2 : used S.fs + catLen ls (k + 1) = uk + m := by omega
            have hum : uk + m ≤ 1073741824 := by have := HBd.out; omega
            obtain ⟨_, c1, _, _, _⟩ := D1.cell
            have hmem : ∀ x : Fc, x ∈ P ++ x :: Q := fun x => by simp
            obtain ⟨e0, _⟩ := D1.fcell (hmem _)
            have V := (D1.file _ (hmem _)).2
            have g0 := (D1.file _ (hmem _)).1.free 0
            have hbz := (D1.file _ (hmem _)).1.lt
            have hdz := D1.bk.lt
            have f1 := D1.bk.free 1
            have hbd : c0.blk ≠ d := D1.d_blk (c := { f := { c0.f with data := q }, blk := c0.blk, A := A', cap := cap' }) (hmem _)
            have hba : c0.blk ∉ blks A' := D1.blk_row (c := { f := { c0.f with data := q }, blk := c0.blk, A := A', cap := cap' }) (c' := { f := { c0.f with data := q }, blk := c0.blk, A := A', cap := cap' }) (hmem _) (hmem _)
            have hda : d ∉ blks A' := D1.d_row (c := { f := { c0.f with data := q }, blk := c0.blk, A := A', cap := cap' }) (hmem _)
            have hbig := D1.big _ (hmem _)
            have hla := D1.lasts (hmem _)
            have hul : q.length = c0.f.data.length + catLen ls k := by rw [hq, List.length_append]; rfl
            dsimp only at e0 V g0 hbig hla hbz
            rw [← ha] at e0 V hbig hla
            have hln2 : (q ++ row).length = a + m := by rw [List.length_append, ha, hm]
            have hamax : a + m ≤ 1073741824 := by omega
            have HQ2 := Lib.hid hq2
            have HUK := Lib.hid huk2
            have HLN := Lib.hid hln2
            clear hcat hclen hcle hrow hm hq hq2 ha huk huk2 hul hln2
            go_wp2_with (at_builtin; refine wpList_append_sl rfl (.tmp 58) (.tmp 59) 27 rfl 5 i0 (.int .u8 0) 1 Tryz.underlying27 hi hz0 hz1 hz2 rfl A' a cap' (bvs q) rfl V Ai m ci (bvs row) rfl hsl (bvs_one _) (by unfold maxLen; omega) (by omega) ?_; intro A5 c5 w5 V5 O5 B5; rw [← bvs_append] at V5; have e5 := O5.cellSome e0 hba; have g5 := (O5.frozen (p := ⟨c0.blk, 0, none⟩) hbz hba).trans g0; have c15 := O5.cellSome c1 hda; have f15 := (O5.frozen (p := ⟨d, 1, none⟩) hdz hda).trans f1)
            have D2 := D1.setData (data' := q ++ row) (A' := A5) (cap' := c5) O5 (by rw [HLN.out]; exact V5) B5 (by dsimp only; rw [HLN.out]; omega) (by rw [HLN.out]; omega)
            rw [HLN.out] at D2
            have D3 := D2.setUsed (uk + m) hum
            have HB5 : ∀ x ∈ blks A5, x ∈ fpt d mb cs ∨ w.heap.size ≤ x := fun x hx => by
              rcases B5 x hx with h | h
              · exact HB' x h
              · have := HO.size
                exact .inr (by omega)
            go_roundw
            case rel => exact ⟨k + 1, A5, c5, by omega, by go_num, by rw [HQ2.out, HUK.out]; exact D3, ((HO.trans O5 HB').setCell HBK.out _).setCell (.inl hdm) _, HB5⟩
            case measure => simp [intOf]; omega
          · have hcp : cat ls k = p := by rw [cat_all ls (by omega), HP.out]
            have hcl2 : catLen ls k = p.length := by rw [catLen_all ls (by omega), HP.out]
            rw [hcp, hcl2] at D1
            have HD := Lib.hid (done_any D1 HI.out.2.2.2.2)
            clear hcp hcl2
            go_wp2_with (go_at_call 205; refine HD.out.mono ?_; rintro e w7 ⟨rfl, D7, O7⟩)
            go_ret
            exact did_mk rfl D7 rfl HUS.out (tick_some _) (HFS.out _ _) (tick_fuse HI.out.2.1) HBd.out (HO.trans O7 (fun x hx => by simp at hx; subst hx; exact .inl hdm)) (fpt_swap HFX.out rfl HB')
      · have e1 : errA S s p = 6 := errA_full he (.inl (by omega))
        have HF := hfit false (by simp [hB])
        rw [e1, appendS_same e1 (by omega)]
        clear hk hk1 h1 h2 h3 he hc hg e1 hfit hlf HR hrlen
        generalize hW : w.alloc (.cells #[.string s] 9) = w1 at *
        have HW := Lib.hid hW
        clear hW
        go_enter Tryz.func158, Tryz.ntmps158
        go_wp2_with (first
          | (go_at_call 202; rw [HW.out]; refine HBB.out.mono ?_; rintro e w2 ⟨rfl, rfl⟩)
          | (go_at_call 203; refine HF.mono ?_; rintro e w3 ⟨rfl, m0, rfl⟩))
        go_ret
        exact did_same rfl hD1.out (O1.drewN _)
  · obtain ⟨r, hrr⟩ : ∃ r, r = errD S.fuse.isSome lf [s] := ⟨_, rfl⟩
    rw [← hrr] at he HB h0
    have e1 : errA S s p = r := errA_err he h0
    rw [e1, appendS_same e1 h0]
    have hrb : ((r : Int) != 0) = true := by rw [bne_iff_ne]; omega
    clear hrr he e1 hk hk1 h1 h2 h3 hr hr1 h0
    go_enter Tryz.func158, Tryz.ntmps158
    go_wp2_with (go_at_call 202; refine HB.mono ?_; rintro e w1 ⟨rfl, rfl⟩)
    go_ret
    exact did_same rfl hD1.out O1
end
end Go.Proofs.YtgnilldcfpgpaaaGreatDoor
