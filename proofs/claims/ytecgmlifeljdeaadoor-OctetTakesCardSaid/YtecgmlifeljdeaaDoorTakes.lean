/-
  The walk of the law OctetTakes.
-/
import Derived.Test.YtecgmlifeljdeaaDoorTakes0
import Derived.Test.YtecgmlifeljdeaaDoorHelp2
namespace Go.Proofs.YtecgmlifeljdeaaDoor
open Go.RowKit

theorem rawRow_len (bad : Bool) (l : List UInt8) (n : Int) : (rawRow bad l n).length ≤ l.length := by
  unfold rawRow
  split
  · exact Nat.zero_le _
  · rw [List.length_take]; omega
theorem takeRest_len (bad : Bool) (l : List UInt8) : (takeRest bad l).length ≤ l.length := by
  unfold takeRest
  split
  · exact Nat.zero_le _
  · rw [List.length_drop]; omega
theorem rowTook_len (bad : Bool) (l : List UInt8) : (rowTook bad l).length ≤ l.length := Nat.le_trans (rawRow_len _ _ _) (takeRest_len _ _)
theorem quiet_back {P : Program} {f : FuncId} {args : Array Value} {w : World} {n : Nat} {v : Value} (h : Calls P f args (w.drewN n) fun e w' => e = .returned v ∧ w.drewN n = w') :
    Calls P f args (w.drewN n) fun e w'' => e = .returned v ∧ ∃ m, w'' = w.drewN m :=
  h.mono fun _ _ ⟨he, hm⟩ => ⟨he, n, hm.symm⟩
theorem Rr.new (w : World) {P : Option Addr} {c : Nat} {l : List UInt8} (h : Own w 5 P l.length c (bvs l)) (hn : l.length ≤ 1000000000000) (hpos : 0 < w.heap.size) :
    ∃ kb, (kb = 0 ∨ kb ∈ blks P) ∧ Rr (w.alloc (.cells #[.slice P l.length c, .bool false] 45)) w.heap.size kb P c false l := by
  have hB : Bk (w.alloc (.cells #[.slice P l.length c, .bool false] 45)) w.heap.size 45 #[.slice P l.length c, .bool false] := Bk.new _ _ _
  cases P with
  | none => exact ⟨0, .inl rfl, hB, h.sl.alloc _, h.cap, (fun ad e => by cases e), by omega, by rw [World.size_alloc]; omega, (fun e => by cases e), hn⟩
  | some a =>
    have hlt := h.lt (k := a.block) (by simp)
    exact ⟨a.block, .inr (by simp), hB, h.sl.alloc _, h.cap, (fun ad e => by injection e with e; rw [e]), by omega, by rw [World.size_alloc]; omega, (fun e => by cases e), hn⟩

set_option maxRecDepth 100000 in
set_option maxHeartbeats 4000000 in
theorem takes_light (A : Option Addr) (c : Nat) (l0 : List UInt8) (K : Option Addr) (m cK : Nat) (ks : List Int) (N : Option Addr) (q cN : Nat) (ns : List Int) (w : World) (ht : Tab w)
    (ha : Sl w A l0.length (bvs l0)) (hk : Sl w K m (ivs ks)) (hn : Sl w N q (ivs ns)) (l4 : l0.length ≤ 4000) (m2 : m ≤ 200) (mq : m ≤ q) (qb : q ≤ 9223372036854775807) :
    Calls Tryd.prog 5 #[.slice A l0.length c, .slice K m cK, .slice N q cN] w fun e w' => e = .returned (.bool true) ∧ Only [] w w' := by
  obtain ⟨i0, hi, hz0, hz1, hz2⟩ := info_parts infoByte
  have hkl : ks.length = m := by simpa using hk.len
  have hnl : ns.length = q := by simpa using hn.len
  have HKL := Lib.hid hkl
  have HNL := Lib.hid hnl
  clear hkl hnl
  go_enter Tryd.func5, Tryd.ntmps5
  go_wp2_with fail
  refine (roomy_any A c l0 w ha (by omega)).mono ?_
  rintro e w1 ⟨gR, cR, rfl, VR, O1, BR⟩
  have hcR := VR.cap
  have hgR : gR < w1.heap.size := VR.lt (by simp)
  have hpre := VR.sl.pre (k := l0.length) (by omega)
  rw [bvs_take, List.take_left] at hpre
  go_wp2_with fail
  refine (newReader_any w1 (some ⟨gR, 0, none⟩) l0.length cR l0 hpre (by omega)).mono ?_
  rintro e w2 ⟨g, kb, A2, c2, rfl, hg, hkb, R2, O2⟩
  have Q2 : Only [] w w2 := O1.then O2
  have VR2 := VR.keep O2
  have ho0 : Own (w2.alloc (.cells #[] 5)) 5 (some ⟨w2.heap.size, 0, none⟩) 0 0 [] := World.ownsRow_lit w2 #[] 0 (Nat.zero_le _) (Nat.zero_le _) rfl
  clear hpre VR
  go_wp2_with (at_builtin; go_must (refine wpList_append_sl rfl (.tmp 40) (.tmp 41) 23 rfl 5 i0 (.int .u8 0) 1 Tryd.underlying23 hi hz0 hz1 hz2 rfl _ _ _ _ rfl ho0 A l0.length c _ rfl ((ha.keep Q2).alloc _) (bvs_one _) (by unfold maxLen; omega) (by omega) ?_); intro P cp w3 V3 O3 B3; rw [List.nil_append] at V3; rw [Nat.zero_add] at V3)
  have Q3 : Only [] w w3 := (Q2.alloc _).trans O3 (fun x hx => .inr (by simp at hx; have := Q2.size; omega))
  have Q23 : Only [] w2 w3 := ((Only.refl [] w2).alloc _).trans O3 (fun x hx => .inr (by simp at hx; omega))
  have PB : ∀ x ∈ blks P, w2.heap.size ≤ x := fun x hx => by
    rcases B3 x hx with h1 | h1
    · simp at h1; omega
    · simp at h1; omega
  obtain ⟨kb', hkb', RR⟩ := Rr.new w3 V3 (by omega) (by have := R2.lt; have := Q23.size; omega)
  have R3 := (R2.keep Q23).keep ((Only.refl [] w3).alloc (.cells #[.slice P l0.length cp, .bool false] 45))
  have Q4 := Q3.alloc (.cells #[.slice P l0.length cp, .bool false] 45)
  have VR4 := (VR2.keep Q23).keep ((Only.refl [] w3).alloc (.cells #[.slice P l0.length cp, .bool false] 45))
  have hne : g ≠ w3.heap.size := by have := R2.bk.lt; have := Q23.size; omega
  have hgw : w.heap.size ≤ g := Nat.le_trans O1.size hg
  have hg' : w.heap.size ≤ w3.heap.size := Q3.size
  have hgg : gR ≠ g := by have := R2.bk.lt; omega
  have hk1 : kb' ≠ g := by
    rcases hkb' with h | h
    · omega
    · have := PB _ h; have := R2.bk.lt; omega
  have hk2 : kb ≠ w3.heap.size := by have := R2.lt; have := Q23.size; omega
  have hk0 : kb ≠ gR := by omega
  have hk3 : w3.heap.size ≠ gR := by have := O2.size; have := Q23.size; omega
  have hlw : w2.heap.size ≤ w3.heap.size := Q23.size
  generalize hG : w3.heap.size = g' at *
  clear V3 O3 B3 PB hkb' Q3 Q23 ho0 VR2 R2 Q2
  go_wp2_with fail
  generalize hw4 : w3.alloc (.cells #[.slice P l0.length cp, .bool false] 45) = w4 at *
  go_loopw [10] (fun i wr => ∃ (k : Nat) (bad : Bool) (l : List UInt8) (A' : Option Addr) (c' : Nat) (B' : Option Addr) (d' : Nat), k ≤ m ∧ i = .int .i64 k ∧ Rd wr g kb A' c' bad l ∧ Rr wr g' kb' B' d' bad l ∧ Only [g, g'] w4 wr) (fun i _ => m - (intOf i).toNat)
  case atStart => exact ⟨0, false, l0, _, _, _, _, Nat.zero_le _, rfl, R3, RR, Only.refl _ _⟩
  case round =>
    obtain ⟨k, bad, l, A', c', B', d', hkm, rfl, HR, HRr, HO⟩ := hrel
    have QR : Only [] w wr := Q4.trans HO (fun x hx => .inr (by simp at hx; omega))
    by_cases hlt : k < m
    · have hkl : k < ks.length := by rw [HKL.out]; exact hlt
      have hnl : k < ns.length := by rw [HNL.out]; omega
      obtain ⟨ad, u, rfl, hu, hcell⟩ := (hk.keep QR).at_ hlt
      rw [ivs_get _ _ hkl] at hu
      obtain rfl : Value.int .i64 _ = u := by injection hu
      obtain ⟨an, u, rfl, hu', hcelln⟩ := (hn.keep QR).at_ (k := k) (by omega)
      rw [ivs_get _ _ hnl] at hu'
      obtain rfl : Value.int .i64 _ = u := by injection hu'
      generalize ks[k]'hkl = kv at *
      generalize ns[k]'hnl = nv at *
      clear hu hu' hkl hnl
      by_cases e1 : kv = 1
      · subst e1
        have HN := Lib.hid (num_any HR)
        go_wp2_with fail
        refine HN.out.mono ?_
        rintro e v1 ⟨rfl, A1, c1, R1, P1⟩
        have RR1 := HRr.only P1 (by simpa using hne.symm) (by simpa using hk1)
        go_wp2_with fail
        refine (refRNum_any RR1).mono ?_
        rintro e v2 ⟨rfl, B1, d1, RR2, P2⟩
        have R2 := R1.only P2 (by simpa using hne) (by simpa using hk2)
        have QO := (HO.trans P1 (fun x hx => .inl (by simp at hx; simp [hx]))).trans P2 (fun x hx => .inl (by simp at hx; simp [hx]))
        generalize takeV bad l = v at *
        clear HN RR1 R1 P1 P2
        have HW0 := Lib.hid (fun (W : World) (hW : Only [] v2 W) => whole_any (R2.keep hW))
        have HW1 := Lib.hid (fun (W : World) (hW : Only [] v2 W) => refWhole_any (RR2.keep hW))
        have HQ0 := Lib.hid R2
        have HQ1 := Lib.hid RR2
        have y0 := RR2.cell0
        have y1 := RR2.cell1
        generalize takeBad bad l = b2 at *
        generalize takeRest bad l = l2 at *
        generalize (!b2 && decide (l2 = [])) = wv at HW0 HW1
        cases b2 <;> cases wv
        all_goals
          go_wp2_with fail
          go_quiet (first
            | (go_at_call 28; exact quiet_back (left_any (HQ0.out.keep ((Only.refl _ _).drewN _))))
            | (go_at_call 18; exact quiet_back (good_any (HQ0.out.keep ((Only.refl _ _).drewN _))))
            | (go_at_call 19; exact quiet_back (HW0.out _ ((Only.refl _ _).drewN _)))
            | (go_at_call 36; exact quiet_back (HW1.out _ ((Only.refl _ _).drewN _))))
          go_wp2_with fail
          go_roundw
          case rel => exact ⟨k + 1, _, l2, _, _, _, _, by omega, by go_num, HQ0.out.keep ((Only.refl _ _).drewN _), HQ1.out.keep ((Only.refl _ _).drewN _), QO.drewN _⟩
          case measure => simp [intOf]; omega
      · by_cases e2 : kv = 2
        · subst e2
          have HN := Lib.hid (rbytes_any HR)
          have hlt1 := HR.bk.lt
          have hlt2 := HR.lt
          have hlt3 := HRr.bk.lt
          have hlt4 := HRr.lt
          have hlen := rowTook_len bad l
          have hsm := HR.small
          have hz4 := HO.size
          go_wp2_with fail
          refine HN.out.mono ?_
          rintro e v1 ⟨X1, x1, A1, c1, rfl, V1, B1, R1, P1⟩
          have RR1 := HRr.only P1 (by simpa using hne.symm) (by simpa using hk1)
          go_wp2_with fail
          refine (refRBytes_any RR1).mono ?_
          rintro e v2 ⟨X2, x2, B2, d2, rfl, V2, _, RR2, P2⟩
          have R2 := R1.only P2 (by simpa using hne) (by simpa using hk2)
          have V1b := V1.only P2 (fun x hx hm => by simp at hm; have := B1 x hx; omega)
          go_wp2_with fail
          refine (same_eq X1 X2 _ x1 _ x2 _ _ v2 rfl V1b.sl V2.sl (by omega)).mono ?_
          rintro e v3 ⟨rfl, P3⟩
          go_wp2_with fail
          refine (spoil_any X1 _ x1 _ v3 (V1b.keep P3) (by omega)).mono ?_
          rintro e v4 ⟨rfl, P4⟩
          have R4 := (R2.keep P3).only P4 (fun hm => by have := B1 _ hm; omega) (fun hm => by have := B1 _ hm; omega)
          have RR4 := (RR2.keep P3).only P4 (fun hm => by have := B1 _ hm; omega) (fun hm => by have := B1 _ hm; omega)
          have QO : Only [g, g'] w4 v4 := (((HO.trans P1 (fun x hx => .inl (by simp at hx; simp [hx]))).trans P2 (fun x hx => .inl (by simp at hx; simp [hx]))).then P3).trans P4 (fun x hx => .inr (by have := B1 x hx; omega))
          clear HN RR1 R1 P1 P2 P3 P4 V1 V1b V2 R2 RR2 B1 hlen
          have HW0 := Lib.hid (fun (W : World) (hW : Only [] v4 W) => whole_any (R4.keep hW))
          have HW1 := Lib.hid (fun (W : World) (hW : Only [] v4 W) => refWhole_any (RR4.keep hW))
          have HQ0 := Lib.hid R4
          have HQ1 := Lib.hid RR4
          have y0 := RR4.cell0
          have y1 := RR4.cell1
          generalize rowBad bad l = b2 at *
          generalize rowRest bad l = l2 at *
          generalize (!b2 && decide (l2 = [])) = wv at HW0 HW1
          cases b2 <;> cases wv
          all_goals
            go_wp2_with fail
            go_quiet (first
              | (go_at_call 28; exact quiet_back (left_any (HQ0.out.keep ((Only.refl _ _).drewN _))))
              | (go_at_call 18; exact quiet_back (good_any (HQ0.out.keep ((Only.refl _ _).drewN _))))
              | (go_at_call 19; exact quiet_back (HW0.out _ ((Only.refl _ _).drewN _)))
              | (go_at_call 36; exact quiet_back (HW1.out _ ((Only.refl _ _).drewN _))))
            go_wp2_with fail
            go_roundw
            case rel => exact ⟨k + 1, _, l2, _, _, _, _, by omega, by go_num, HQ0.out.keep ((Only.refl _ _).drewN _), HQ1.out.keep ((Only.refl _ _).drewN _), QO.drewN _⟩
            case measure => simp [intOf]; omega
        · by_cases e3 : kv = 3
          · subst e3
            have HN := Lib.hid (rraw_any nv (HR.keep (Only.drew (Only.refl _ _))))
            have hanb := hn.lt (by omega) an rfl
            have hlen := rawRow_len bad l nv
            have hsm := HR.small
            have hag : an.block ≠ g := by omega
            have hkq : (k : Int) < (q : Int) := by omega
            have hk0' : (0 : Int) ≤ (k : Int) := by omega
            have hag' : an.block ≠ g' := by omega
            go_wp2_with fail
            go_region_held3 (fun w' => w'.cell? (an.add k) = some (.int .i64 nv)) (first | go_keep | exact HC3 | exact HC2 | exact HC1)
              (first
                | (go_at_call 29; refine HN.out.mono ?_; rintro e v1 ⟨X1, x1, A1, c1, rfl, V1, B1, R1, P1⟩; have HC1 := P1.cellSome (p := an.add k) hcelln (by rw [add_block]; simpa using hag))
                | (go_at_call 32; refine (refRaw_any nv ((HRr.keep (Only.drew (Only.refl _ _))).only P1 (by simpa using hne.symm) (by simpa using hk1))).mono ?_; rintro e v2 ⟨X2, x2, B2, d2, rfl, V2, _, RR2, P2⟩; have HC2 := P2.cellSome (p := an.add k) HC1 (by rw [add_block]; simpa using hag'))
                | (go_at_call 13; refine (same_eq X1 X2 _ x1 _ x2 _ _ v2 rfl (V1.only P2 (fun x hx hm => by simp at hm; have := B1 x hx; have := HRr.bk.lt; have e1 : (World.drew wr).heap.size = wr.heap.size := rfl; omega)).sl V2.sl (by omega)).mono ?_; rintro e v3 ⟨rfl, P3⟩; have HC3 := P3.cellSome (p := an.add k) HC2 (fun hm => by cases hm)))
            all_goals
              have R4 := (R1.only P2 (by simpa using hne) (by simpa using hk2)).keep P3
              have RR4 := RR2.keep P3
              have QO : Only [g, g'] w4 v3 := (((Only.drew HO).trans P1 (fun x hx => .inl (by simp at hx; simp [hx]))).trans P2 (fun x hx => .inl (by simp at hx; simp [hx]))).then P3
              have HW0 := Lib.hid (fun (W : World) (hW : Only [] v3 W) => whole_any (R4.keep hW))
              have HW1 := Lib.hid (fun (W : World) (hW : Only [] v3 W) => refWhole_any (RR4.keep hW))
              have HQ0 := Lib.hid R4
              have HQ1 := Lib.hid RR4
              have y0 := RR4.cell0
              have y1 := RR4.cell1
              generalize rawBad bad l nv = b2 at *
              generalize rawRest bad l nv = l2 at *
              generalize (!b2 && decide (l2 = [])) = wv at HW0 HW1
              cases b2 <;> cases wv
              all_goals
                go_wp2_with fail
                go_quiet (first
                  | (go_at_call 28; exact quiet_back (left_any (HQ0.out.keep ((Only.refl _ _).drewN _))))
                  | (go_at_call 18; exact quiet_back (good_any (HQ0.out.keep ((Only.refl _ _).drewN _))))
                  | (go_at_call 19; exact quiet_back (HW0.out _ ((Only.refl _ _).drewN _)))
                  | (go_at_call 36; exact quiet_back (HW1.out _ ((Only.refl _ _).drewN _))))
                go_wp2_with fail
                go_roundw
                case rel => exact ⟨k + 1, _, l2, _, _, _, _, by omega, by go_num, HQ0.out.keep ((Only.refl _ _).drewN _), HQ1.out.keep ((Only.refl _ _).drewN _), QO.drewN _⟩
                case measure => simp [intOf]; omega
          · by_cases e4 : kv = 4
            · subst e4
              have HN := Lib.hid (bad_any HR)
              go_wp2_with fail
              refine HN.out.mono ?_
              rintro e v1 ⟨rfl, R1, P1⟩
              have RR1 := HRr.only P1 (by simpa using hne.symm) (by simpa using hk1)
              go_wp2_with fail
              refine (refBad_any RR1).mono ?_
              rintro e v2 ⟨rfl, RR2, P2⟩
              have R2 := R1.only P2 (by simpa using hne) (by simpa using hk2)
              have QO := (HO.trans P1 (fun x hx => .inl (by simp at hx; simp [hx]))).trans P2 (fun x hx => .inl (by simp at hx; simp [hx]))
              clear HN RR1 R1 P1 P2
              obtain ⟨b2, hb2⟩ : ∃ b : Bool, b = true := ⟨_, rfl⟩
              obtain ⟨l2, hl2⟩ : ∃ x : List UInt8, x = [] := ⟨_, rfl⟩
              have R3 : Rd v2 g kb none 0 b2 l2 := by rw [hb2, hl2]; exact R2
              have RR3 : Rr v2 g' kb' none 0 b2 l2 := by rw [hb2, hl2]; exact RR2
              clear R2 RR2 hb2 hl2
              have HW0 := Lib.hid (fun (W : World) (hW : Only [] v2 W) => whole_any (R3.keep hW))
              have HW1 := Lib.hid (fun (W : World) (hW : Only [] v2 W) => refWhole_any (RR3.keep hW))
              have HQ0 := Lib.hid R3
              have HQ1 := Lib.hid RR3
              have y0 := RR3.cell0
              have y1 := RR3.cell1
              generalize (!b2 && decide (l2 = [])) = wv at HW0 HW1
              cases b2 <;> cases wv
              all_goals
                go_wp2_with fail
                go_quiet (first
                  | (go_at_call 28; exact quiet_back (left_any (HQ0.out.keep ((Only.refl _ _).drewN _))))
                  | (go_at_call 18; exact quiet_back (good_any (HQ0.out.keep ((Only.refl _ _).drewN _))))
                  | (go_at_call 19; exact quiet_back (HW0.out _ ((Only.refl _ _).drewN _)))
                  | (go_at_call 36; exact quiet_back (HW1.out _ ((Only.refl _ _).drewN _))))
                go_wp2_with fail
                go_roundw
                case rel => exact ⟨k + 1, _, l2, _, _, _, _, by omega, by go_num, HQ0.out.keep ((Only.refl _ _).drewN _), HQ1.out.keep ((Only.refl _ _).drewN _), QO.drewN _⟩
                case measure => simp [intOf]; omega
            · have hlt1 := HR.bk.lt
              have hlt2 := HR.lt
              have hlt3 := HRr.bk.lt
              have hlt4 := HRr.lt
              have hz4 := HO.size
              have al := fun (W : World) (o : Obj) => (Only.refl [] W).alloc o
              have HA := ((Bk.new wr 3 #[.int .i64 7]).only (al _ (.cells #[.int .i64 7] 3)) (by simp)).only (al _ (.cells #[.pointer (some ⟨wr.heap.size, 0, none⟩), .pointer none, .pointer (some ⟨wr.heap.size + 1, 0, none⟩)] 47)) (by simp)
              have HC := (Bk.new (wr.alloc (.cells #[.int .i64 7] 3)) 3 #[.int .i64 7]).only (al _ (.cells #[.pointer (some ⟨wr.heap.size, 0, none⟩), .pointer none, .pointer (some ⟨wr.heap.size + 1, 0, none⟩)] 47)) (by simp)
              have HS := Bk.new ((wr.alloc (.cells #[.int .i64 7] 3)).alloc (.cells #[.int .i64 7] 3)) 47 #[.pointer (some ⟨wr.heap.size, 0, none⟩), .pointer none, .pointer (some ⟨wr.heap.size + 1, 0, none⟩)]
              have P0 := ((al wr (.cells #[.int .i64 7] 3)).alloc (.cells #[.int .i64 7] 3)).alloc (.cells #[.pointer (some ⟨wr.heap.size, 0, none⟩), .pointer none, .pointer (some ⟨wr.heap.size + 1, 0, none⟩)] 47)
              rw [World.size_alloc] at HC
              rw [World.size_alloc, World.size_alloc] at HS
              have HN := Lib.hid (rnums3_any 7 7 (HR.keep P0) HA HC HS (by omega) (by omega) (by omega))
              have RR0 := HRr.keep P0
              have QO0 := HO.then P0
              clear al HA HC HS
              go_wp2_with fail
              refine HN.out.mono ?_
              rintro e v1 ⟨rfl, b3, l3, x, y, A1, c1, hN, R1, BA, BC, P1⟩
              simp only [NumsAt, Prod.mk.injEq] at hN
              obtain ⟨rfl, rfl, rfl, rfl⟩ := hN
              have RR1 := RR0.only P1 (by simp; omega) (by simp; omega)
              have QO1 : Only [g, g'] w4 v1 := QO0.trans P1 (fun x hx => by simp at hx ⊢; omega)
              have HM := Lib.hid (refRNum_any RR1)
              clear HN RR0 QO0 P0 P1
              generalize takeBad bad l = b1 at *
              generalize takeRest bad l = l1 at *
              generalize takeV bad l = v at *
              go_wp2_with fail
              refine HM.out.mono ?_
              rintro e v2 ⟨rfl, B2, d2, RR2, P2⟩
              have R2 := R1.only P2 (by simpa using hne) (by simpa using hk2)
              have BA2 := BA.only P2 (by simp; omega)
              have BC2 := BC.only P2 (by simp; omega)
              have HM2 := Lib.hid (refRNum_any RR2)
              have QO2 := QO1.trans P2 (fun x hx => .inl (by simp at hx; simp [hx]))
              clear HM R1 RR1 BA BC QO1 P2
              generalize takeBad b1 l1 = b2 at *
              generalize takeRest b1 l1 = l2 at *
              go_wp2_with fail
              refine HM2.out.mono ?_
              rintro e v3 ⟨rfl, B3, d3, RR3, P3⟩
              have R3 := R2.only P3 (by simpa using hne) (by simpa using hk2)
              have BA3 := BA2.only P3 (by simp; omega)
              have BC3 := BC2.only P3 (by simp; omega)
              have HM3 := Lib.hid (refRNum_any (RR3.keep (Only.drew (Only.refl _ _))))
              have QO3 := QO2.trans P3 (fun x hx => .inl (by simp at hx; simp [hx]))
              have ca : v3.cell? ⟨wr.heap.size, 0, none⟩ = some (.int .i64 v) := by rw [BA3.cell]; rfl
              have cc : v3.cell? ⟨wr.heap.size + 1, 0, none⟩ = some (.int .i64 (takeV b2 l2 : Int)) := by rw [BC3.cell]; rfl
              have na : wr.heap.size ≠ g' := by omega
              have nc : wr.heap.size + 1 ≠ g' := by omega
              clear HM2 R2 RR2 BA2 BC2 QO2 P3 BA3 BC3
              generalize takeV b2 l2 = vy at *
              generalize takeBad b2 l2 = b4 at *
              generalize takeRest b2 l2 = l4 at *
              have HM4 := Lib.hid HM3.out
              go_wp2_with fail
              go_region_held3 (fun w' => w'.cell? ⟨wr.heap.size, 0, none⟩ = some (.int .i64 v) ∧ w'.cell? ⟨wr.heap.size + 1, 0, none⟩ = some (.int .i64 vy)) (first | go_keep | exact ⟨HC1, HC2⟩ | exact ⟨ca, cc⟩)
                (first
                  | (go_at_call 30; refine HM4.out.mono ?_; rintro e v4 ⟨rfl, B4, d4, RR4, P4⟩; have HC1 := P4.cellSome (p := ⟨wr.heap.size, 0, none⟩) ca (by simpa using na); have HC2 := P4.cellSome (p := ⟨wr.heap.size + 1, 0, none⟩) cc (by simpa using nc)))
              all_goals
                have R4 := (R3.keep (Only.drew (Only.refl _ _))).only P4 (by simpa using hne) (by simpa using hk2)
                have QO : Only [g, g'] w4 v4 := (Only.drew QO3).trans P4 (fun x hx => .inl (by simp at hx; simp [hx]))
                have HW0 := Lib.hid (fun (W : World) (hW : Only [] v4 W) => whole_any (R4.keep hW))
                have HW1 := Lib.hid (fun (W : World) (hW : Only [] v4 W) => refWhole_any (RR4.keep hW))
                have HQ0 := Lib.hid R4
                have HQ1 := Lib.hid RR4
                have y0 := RR4.cell0
                have y1 := RR4.cell1
                generalize b4 = b2 at *
                generalize l4 = l2 at *
                generalize (!b2 && decide (l2 = [])) = wv at HW0 HW1
                cases b2 <;> cases wv
                all_goals
                  go_wp2_with fail
                  go_quiet (first
                    | (go_at_call 28; exact quiet_back (left_any (HQ0.out.keep ((Only.refl _ _).drewN _))))
                    | (go_at_call 18; exact quiet_back (good_any (HQ0.out.keep ((Only.refl _ _).drewN _))))
                    | (go_at_call 19; exact quiet_back (HW0.out _ ((Only.refl _ _).drewN _)))
                    | (go_at_call 36; exact quiet_back (HW1.out _ ((Only.refl _ _).drewN _))))
                  go_wp2_with fail
                  go_roundw
                  case rel => exact ⟨k + 1, _, l2, _, _, _, _, by omega, by go_num, HQ0.out.keep ((Only.refl _ _).drewN _), HQ1.out.keep ((Only.refl _ _).drewN _), QO.drewN _⟩
                  case measure => simp [intOf]; omega
    · obtain rfl : k = m := by omega
      have VRr := VR4.only HO (fun x hx hm => by simp at hx hm; omega)
      have HSt := Lib.hid (stands_any (some ⟨gR, 0, none⟩) A cR c l0 wr VRr.sl hcR (ha.keep QR) (by omega))
      go_wp2_with fail
      refine HSt.out.mono ?_
      rintro e v1 ⟨rfl, P1⟩
      have HW0 := Lib.hid (whole_any (HR.keep P1))
      have HW1 := Lib.hid (refWhole_any (HRr.keep P1))
      generalize (!bad && decide (l = [])) = wv at HW0 HW1
      have T1 := ht.keep (QR.then P1)
      cases wv
      all_goals
        go_wp2_with fail
        refine HW0.out.mono ?_
        rintro e v2 ⟨rfl, rfl⟩
        go_wp2_with fail
        refine HW1.out.mono ?_
        rintro e v2 ⟨rfl, rfl⟩
        go_wp2_with fail
        refine (known_any _ T1).mono ?_
        rintro e v3 ⟨rfl, P3⟩
        go_wp2
        go_ret
        exact ⟨rfl, (QR.then P1).then P3⟩
end Go.Proofs.YtecgmlifeljdeaaDoor
