/-
  box.Decode.
-/
import Derived.Test.YthaodlegpjedoaaVBxA
import Derived.Test.YthaodlegpjedoaaVKnown
namespace Go.Proofs.Ythaodlegpjedoaa
open Go.RowKit Go.Instr

/-- The box's cells and the count's behind k numbers. -/
def FB (pb pn : Nat) (t : ByteArray) (v0 v1 v2 : Int) : Nat → World → Prop
  | 0, W => Bk W pb 26 #[.string t, .int .i64 0, .int .i64 0, .slice none 0 0] ∧ Bk W pn 3 #[.int .i64 0]
  | 1, W => Bk W pb 26 #[.string t, .int .i64 v0, .int .i64 0, .slice none 0 0] ∧ Bk W pn 3 #[.int .i64 0]
  | 2, W => Bk W pb 26 #[.string t, .int .i64 v0, .int .i64 v1, .slice none 0 0] ∧ Bk W pn 3 #[.int .i64 0]
  | _, W => Bk W pb 26 #[.string t, .int .i64 v0, .int .i64 v1, .slice none 0 0] ∧ Bk W pn 3 #[.int .i64 v2]
theorem FB.keep {pb pn g : Nat} {t : ByteArray} {v0 v1 v2 : Int} (hb : pb ≠ g) (hn : pn ≠ g) (k : Nat) (W W' : World) (o : Only [g] W W') (h : FB pb pn t v0 v1 v2 k W) : FB pb pn t v0 v1 v2 k W' := by
  match k, h with
  | 0, h => exact ⟨h.1.only o (by simpa using hb), h.2.only o (by simpa using hn)⟩
  | 1, h => exact ⟨h.1.only o (by simpa using hb), h.2.only o (by simpa using hn)⟩
  | 2, h => exact ⟨h.1.only o (by simpa using hb), h.2.only o (by simpa using hn)⟩
  | n + 3, h => exact ⟨h.1.only o (by simpa using hb), h.2.only o (by simpa using hn)⟩
/-- Decode's three numbers. -/
theorem dnums_any {W : World} {g kb pb pn : Nat} {Ar : Option Addr} {cr : Nat} {r : RS} {t : ByteArray} (h : Rd W g kb Ar cr r.1 r.2) (hb : Bk W pb 26 #[.string t, .int .i64 0, .int .i64 0, .slice none 0 0]) (hn : Bk W pn 3 #[.int .i64 0]) (hbg : pb ≠ g) (hng : pn ≠ g) (hbk : pb ≠ kb) (hnk : pn ≠ kb) (hne : pn ≠ pb)
    {v0 v1 v2 : Int} (e0 : tv r = v0) (e1 : tv (tk r) = v1) (e2 : tv (tk (tk r)) = v2) :
    Calls Try.prog 47 #[.pointer (some ⟨g, 0, none⟩), .slice (some ⟨W.heap.size, 0, none⟩) 3 3] (W.alloc (.cells #[.pointer (some ⟨pb, 1, none⟩), .pointer (some ⟨pb, 2, none⟩), .pointer (some ⟨pn, 0, none⟩)] 81)) fun e w' =>
      e = .returned (.tuple #[]) ∧ (∃ A' c', Rd w' g kb A' c' (tk (tk (tk r))).1 (tk (tk (tk r))).2) ∧ Bk w' pb 26 #[.string t, .int .i64 v0, .int .i64 v1, .slice none 0 0] ∧ Bk w' pn 3 #[.int .i64 v2] ∧ Only [g, pb, pn] W w' := by
  have o1 : Only [] W (W.alloc (.cells #[.pointer (some ⟨pb, 1, none⟩), .pointer (some ⟨pb, 2, none⟩), .pointer (some ⟨pn, 0, none⟩)] 81)) := (Only.refl [] W).alloc _
  have lb := hb.lt
  have ln := hn.lt
  have hq := rnumsF_any (r := r) [pb, pn] (FB pb pn t v0 v1 v2) (h.keep o1) (Bk.new W 81 #[.pointer (some ⟨pb, 1, none⟩), .pointer (some ⟨pb, 2, none⟩), .pointer (some ⟨pn, 0, none⟩)]) ⟨by simp, by simp, by simp⟩ (by simp; exact ⟨hbg.symm, hng.symm⟩) (by simp; exact ⟨hbk.symm, hnk.symm⟩) (by simp; omega) ⟨hb.only o1 (by simp), hn.only o1 (by simp)⟩ (FB.keep hbg hng)
    (fun W hF => ⟨⟨_, Bk.cell hF.1 1⟩, Bk.free hF.1 1, by have := Bk.set hF.1 1 (.int .i64 (tv r)); rw [e0] at this ⊢; exact ⟨by simpa using this, hF.2.far hne _⟩⟩)
    (fun W hF => ⟨⟨_, Bk.cell hF.1 2⟩, Bk.free hF.1 2, by have := Bk.set hF.1 2 (.int .i64 (tv (tk r))); rw [e1] at this ⊢; exact ⟨by simpa using this, hF.2.far hne _⟩⟩)
    (fun W hF => ⟨⟨_, Bk.cell hF.2 0⟩, Bk.free hF.2 0, by have := Bk.set hF.2 0 (.int .i64 (tv (tk (tk r)))); rw [e2] at this ⊢; exact ⟨hF.1.far hne.symm _, by simpa using this⟩⟩)
  exact hq.mono fun e w' ⟨h1, A', c', h2, h3, h4⟩ => ⟨h1, ⟨A', c', h2⟩, h3.1, h3.2, (o1.mono (ss := [g, pb, pn]) (fun _ hx => nomatch hx)).trans h4 (fun x hx => .inl hx)⟩
/-- How many messages the box at pb holds. -/
def boxN (pb : Nat) (W : World) : Nat := match W.cell? ⟨pb, 3, none⟩ with
  | some (.slice _ n _) => n
  | _ => 0
theorem boxN_bk {pb : Nat} {W : World} {a b c : Value} {A : Option Addr} {n d : Nat} (h : Bk W pb 26 #[a, b, c, .slice A n d]) : boxN pb W = n := by
  obtain ⟨_, _, _, h3⟩ := bk_four h
  unfold boxN
  rw [h3]
/-- The blocks of the messages that Decode lays. -/
def SD (w : World) (g kb pb pn : Nat) (y : Nat) : Prop := w.heap.size < y ∧ y ≠ g ∧ y ≠ kb ∧ y ≠ pb ∧ y ≠ pn
/-- The loop's relation. -/
def DecK (w : World) (ps : List UInt8) (g kb pb pn : Nat) (t : ByteArray) (v x cn : Int) (wr : World) : Prop :=
  ∃ (k : Nat) (A : Option Addr) (c : Nat) (Ar : Option Addr) (cr : Nat), Rd wr g kb Ar cr (restL k (body0 ps)).1 (restL k (body0 ps)).2 ∧ Bk wr pb 26 #[.string t, .int .i64 v, .int .i64 x, .slice A k c] ∧ Mo (SD w g kb pb pn) wr A k c (takeL k (body0 ps)) ∧
    Bk wr pn 3 #[.int .i64 cn] ∧ Bk wr w.heap.size 26 #[.string ⟨#[]⟩, .int .i64 0, .int .i64 0, .slice none 0 0] ∧ Only [] w wr ∧ (k : Int) ≤ cn
/-- What Decode answers. -/
def DecA (w : World) (ps : List UInt8) (e : Ending) (w' : World) : Prop :=
  ∃ A' c', e = .returned (.tuple #[bxv (decB ps).1 A' c', .int .i64 (decB ps).2]) ∧ Ms AnyB w' A' (decB ps).1.l.length (decB ps).1.l ∧ Only [] w w'
theorem DecA.none {w w' : World} {ps : List UInt8} (h : decO ps = none) (o : Only [] w w') : DecA w ps (.returned (.tuple #[bxv zeroB none 0, .int .i64 3])) w' := by
  unfold DecA
  rw [decB_none h]
  exact ⟨_, _, rfl, Ms.nil _ _ _, o⟩
theorem DecA.some {w w' : World} {ps : List UInt8} {b : Bx} {A : Option Addr} {c : Nat} (h : decO ps = some b) (hm : Ms AnyB w' A b.l.length b.l) (o : Only [] w w') : DecA w ps (.returned (.tuple #[bxv b A c, .int .i64 0])) w' := by
  unfold DecA
  rw [decB_some h]
  exact ⟨_, _, rfl, hm, o⟩
set_option maxRecDepth 100000 in
set_option maxHeartbeats 8000000 in
theorem Decode_any {w : World} {P : Option Addr} {n cp : Nat} {ps : List UInt8} (h : Sl w P n (bvs ps)) (hn : n ≤ 1000000000000) :
    Calls Try.prog 22 #[.slice P n cp] w (DecA w ps) := by
  have o0 : Only [] w (w.alloc (.cells #[.string ⟨#[]⟩, .int .i64 0, .int .i64 0, .slice none 0 0] 26)) := (Only.refl [] w).alloc _
  have HNR := Lib.hid (newReader_any _ P n cp ps (h.keep o0) hn)
  have HX0 := Lib.hid (Bk.new w 26 #[.string ⟨#[]⟩, .int .i64 0, .int .i64 0, .slice none 0 0])
  have HO0 := Lib.hid o0
  obtain ⟨nm, hnm⟩ : ∃ nm, rv (false, ps) = nm := ⟨_, rfl⟩
  obtain ⟨m0, hm0⟩ : ∃ m, nm.length = m := ⟨_, rfl⟩
  obtain ⟨t, ht⟩ : ∃ t, St nm = t := ⟨_, rfl⟩
  obtain ⟨v0, hv0⟩ : ∃ v, tv (hd ps) = v := ⟨_, rfl⟩
  obtain ⟨v1, hv1⟩ : ∃ v, tv (tk (hd ps)) = v := ⟨_, rfl⟩
  obtain ⟨v2, hv2⟩ : ∃ v, tv (tk (tk (hd ps))) = v := ⟨_, rfl⟩
  have HRB := Lib.hid (fun (W : World) (g kb : Nat) (A' : Option Addr) (c' : Nat) (hr : Rd W g kb A' c' false ps) => by
    have hh := rbytes_any hr
    unfold TookRow at hh
    have e : rowTook false ps = nm := hnm
    rw [e, hm0] at hh
    exact hh)
  have HCV := Lib.hid (fun (W : World) (A' : Option Addr) (c' : Nat) (hs : Sl W A' m0 (bvs nm)) => by
    have hh := str_at hs c'
    rw [ht] at hh
    exact hh)
  have HDN := Lib.hid (fun (W : World) (g kb pb pn : Nat) (Ar : Option Addr) (cr : Nat) (hr : Rd W g kb Ar cr (hd ps).1 (hd ps).2) (hb : Bk W pb 26 #[.string t, .int .i64 0, .int .i64 0, .slice none 0 0]) (hn : Bk W pn 3 #[.int .i64 0]) (q1 : pb ≠ g) (q2 : pn ≠ g) (q3 : pb ≠ kb) (q4 : pn ≠ kb) (q5 : pn ≠ pb) => dnums_any hr hb hn q1 q2 q3 q4 q5 hv0 hv1 hv2)
  have HBO : Hid (∀ k, boxOf ps k = ⟨nm, v0, v1, takeL k (body0 ps)⟩) := fun k => by unfold boxOf; rw [hnm, hv0, hv1]
  have HCN : Hid (cnt ps = v2) := hv2
  have HT := Lib.hid ht
  have hv2p : 0 ≤ v2 := by rw [← hv2]; unfold tv; omega
  clear h o0 hnm hm0 ht hv0 hv1 hv2
  by_cases h24 : 24 < v2
  · have HD0 : Hid (decO ps = none) := decO_many (by rw [HCN.out]; exact h24)
    go_enter Try.func22, Try.ntmps22
    go_wp2_with (first
      | (go_at_call 45; go_must (refine HNR.out.mono ?_); rintro e w1 ⟨g, kb, Ar, cr, rfl, hg, hkb, R1, O1⟩; rw [World.size_alloc] at hg hkb; have hgl := R1.bk.lt; have hkl := R1.lt)
      | (go_at_call 46; go_must (refine (HRB.out w1 g kb Ar cr R1).mono ?_); rintro e w2 ⟨P2, cp2, A2, c2, rfl, V2, F2, R2, O2⟩; have cv := HCV.out w2 P2 cp2 V2.sl; have hz2 := O2.size; have hD := HDN.out ((w2.alloc (.cells #[.string t, .int .i64 0, .int .i64 0, .slice none 0 0] 26)).alloc (.cells #[.int .i64 0] 3)) g kb w2.heap.size (w2.heap.size + 1) A2 c2 ((R2.keep ((Only.refl [] w2).alloc _)).keep ((Only.refl [] _).alloc _)) ((Bk.new w2 _ _).alloc _) (by have hh := Bk.new (w2.alloc (.cells #[.string t, .int .i64 0, .int .i64 0, .slice none 0 0] 26)) 3 #[.int .i64 0]; rw [World.size_alloc] at hh; exact hh) (by omega) (by omega) (by omega) (by omega) (by omega); rw [World.size_alloc, World.size_alloc] at hD; have HD := Lib.hid hD; clear hD)
      | (go_at_call 47; go_must (refine HD.out.mono ?_); rintro e w3 ⟨rfl, ⟨A3, c3, R3⟩, B3, N3, O3⟩; have n0 : w3.cell? ⟨w2.heap.size + 1, 0, none⟩ = some (.int .i64 v2) := N3.cell 0; have X3 := ((((HX0.out.only O1 (by simp)).only O2 (by simp; omega)).alloc (.cells #[.string t, .int .i64 0, .int .i64 0, .slice none 0 0] 26)).alloc (.cells #[.int .i64 0] 3)).only O3 (by simp; omega); have Q3 := ((((HO0.out.then O1).trans O2 (fun y hy => .inr (by simp at hy; omega))).alloc (.cells #[.string t, .int .i64 0, .int .i64 0, .slice none 0 0] 26)).alloc (.cells #[.int .i64 0] 3)).trans O3 (fun y hy => .inr (by simp at hy; omega)))
      | (go_at_call 48; go_must (refine (bad_any R3).mono ?_); rintro e w4 ⟨rfl, R4, O4⟩; have X4 := X3.only O4 (by simp; omega); have Q4 := Q3.trans O4 (fun y hy => .inr (by simp at hy; omega)); have N4 := N3.only O4 (by simp; omega); have B4 := B3.only O4 (by simp; omega)))
    go_loopw [] (fun wr => Hid (Rd wr g kb none 0 true [] ∧ Only [] w wr ∧ Bk wr w.heap.size 26 #[.string ⟨#[]⟩, .int .i64 0, .int .i64 0, .slice none 0 0])) (fun _ => 0)
    case atStart => exact ⟨R4, Q4, X4⟩
    case round =>
      obtain ⟨R5, Q5, X5⟩ := hrel.out
      obtain ⟨x0, x1, x2, x3⟩ := bk_four X5
      have xf0 := X5.free 0
      have xf1 := X5.free 1
      have xf2 := X5.free 2
      have xf3 := X5.free 3
      have xl := X5.lt
      have HG := Lib.hid (good_any R5)
      have HW := Lib.hid (whole_any R5)
      go_wp2_with (first
        | (go_at_call 49; go_must (refine HG.out.mono ?_); rintro e w6 ⟨rfl, rfl⟩)
        | (go_at_call 51; go_must (refine HW.out.mono ?_); rintro e w6 ⟨rfl, rfl⟩))
      exact box_ret (s := 2) (u := 3) (by kernel_rfl) w.heap.size zeroB none 0 (.int .i64 3) rfl rfl (bk_store X5 _ _ _ _) (DecA.none HD0.out (only_store Q5 (.inr (Nat.le_refl _)) _ _ _ _))
  · go_enter Try.func22, Try.ntmps22
    go_wp2_with (first
      | (go_at_call 45; go_must (refine HNR.out.mono ?_); rintro e w1 ⟨g, kb, Ar, cr, rfl, hg, hkb, R1, O1⟩; rw [World.size_alloc] at hg hkb; have hgl := R1.bk.lt; have hkl := R1.lt)
      | (go_at_call 46; go_must (refine (HRB.out w1 g kb Ar cr R1).mono ?_); rintro e w2 ⟨P2, cp2, A2, c2, rfl, V2, F2, R2, O2⟩; have cv := HCV.out w2 P2 cp2 V2.sl; have hz2 := O2.size; have hD := HDN.out ((w2.alloc (.cells #[.string t, .int .i64 0, .int .i64 0, .slice none 0 0] 26)).alloc (.cells #[.int .i64 0] 3)) g kb w2.heap.size (w2.heap.size + 1) A2 c2 ((R2.keep ((Only.refl [] w2).alloc _)).keep ((Only.refl [] _).alloc _)) ((Bk.new w2 _ _).alloc _) (by have hh := Bk.new (w2.alloc (.cells #[.string t, .int .i64 0, .int .i64 0, .slice none 0 0] 26)) 3 #[.int .i64 0]; rw [World.size_alloc] at hh; exact hh) (by omega) (by omega) (by omega) (by omega) (by omega); rw [World.size_alloc, World.size_alloc] at hD; have HD := Lib.hid hD; clear hD)
      | (go_at_call 47; go_must (refine HD.out.mono ?_); rintro e w3 ⟨rfl, ⟨A3, c3, R3⟩, B3, N3, O3⟩; have n0 : w3.cell? ⟨w2.heap.size + 1, 0, none⟩ = some (.int .i64 v2) := N3.cell 0; have X3 := ((((HX0.out.only O1 (by simp)).only O2 (by simp; omega)).alloc (.cells #[.string t, .int .i64 0, .int .i64 0, .slice none 0 0] 26)).alloc (.cells #[.int .i64 0] 3)).only O3 (by simp; omega); have Q3 := ((((HO0.out.then O1).trans O2 (fun y hy => .inr (by simp at hy; omega))).alloc (.cells #[.string t, .int .i64 0, .int .i64 0, .slice none 0 0] 26)).alloc (.cells #[.int .i64 0] 3)).trans O3 (fun y hy => .inr (by simp at hy; omega)))
      )
    have H0 : Hid (DecK w ps g kb w2.heap.size (w2.heap.size + 1) t v0 v1 v2 w3) := ⟨0, none, 0, A3, c3, R3, B3, Mo.nil _ _, N3, X3, Q3, hv2p⟩
    have hpb : w.heap.size < w2.heap.size := by omega
    have hpg : w2.heap.size ≠ g := by omega
    have hpk : w2.heap.size ≠ kb := by omega
    have hng : w2.heap.size + 1 ≠ g := by omega
    have hnb : w2.heap.size + 1 ≠ w2.heap.size := by omega
    have hgw : w.heap.size < g := by omega
    clear R3 B3 N3 X3 Q3 n0 O3 HD cv V2 F2 R2 O2 R1 O1 hz2 HNR HRB HCV HDN HX0 HO0
    generalize w2.heap.size + 1 = pn at *
    generalize w2.heap.size = pb at *
    have HSD : Hid (∀ y, SD w g kb pb pn y → y ≠ g ∧ y ≠ kb ∧ y ≠ pb) := fun y hy => ⟨hy.2.1, hy.2.2.1, hy.2.2.2.1⟩
    clear hg hkb hgl hkl
    go_loopw [] (fun wr => Hid (DecK w ps g kb pb pn t v0 v1 v2 wr)) (fun wr => 25 - boxN pb wr)
    case atStart => exact H0.out
    case round =>
      obtain ⟨k, A, c, Ar, cr, R, B, M, N, X, O, hk⟩ := hrel.out
      obtain ⟨b0, b1, b2, b3⟩ := bk_four B
      have n0 : wr.cell? ⟨pn, 0, none⟩ = some (.int .i64 v2) := N.cell 0
      have hk24 : k ≤ 24 := by omega
      obtain ⟨s, hs⟩ : ∃ s, restL k (body0 ps) = s := ⟨_, rfl⟩
      rw [hs] at R
      obtain ⟨bd, hbd⟩ : ∃ b, s.1 = b := ⟨_, rfl⟩
      have HG := Lib.hid (good_any R)
      have HW := Lib.hid (whole_any R)
      obtain ⟨wh, hwh⟩ : ∃ b, decide (s.2 = []) = b := ⟨_, rfl⟩
      rw [hwh] at HW
      rw [hbd] at HG HW
      have HOO := Lib.hid O
      have HXX := Lib.hid X
      cases bd
      case true =>
        have HD0 : Hid (decO ps = none) := decO_bad (by rw [HCN.out]; exact hk) (by rw [hs]; exact hbd)
        obtain ⟨x0, x1, x2, x3⟩ := bk_four X
        have xf0 := X.free 0
        have xf1 := X.free 1
        have xf2 := X.free 2
        have xf3 := X.free 3
        have xl := X.lt
        clear R B M N O X hs hbd hwh hrel
        go_wp2_with (first
          | (go_at_call 49; go_must (refine HG.out.mono ?_); rintro e w6 ⟨rfl, rfl⟩)
          | (go_at_call 51; go_must (refine HW.out.mono ?_); rintro e w6 ⟨rfl, rfl⟩))
        exact box_ret (s := 2) (u := 3) (by kernel_rfl) w.heap.size zeroB none 0 (.int .i64 3) rfl rfl (bk_store HXX.out _ _ _ _) (DecA.none HD0.out (only_store HOO.out (.inr (Nat.le_refl _)) _ _ _ _))
      by_cases hlt : (k : Int) < v2
      · obtain ⟨mg, hmg⟩ : ∃ m, takeM s = m := ⟨_, rfl⟩
        obtain ⟨s', hs'⟩ : ∃ q, restM s = q := ⟨_, rfl⟩
        have HME := Lib.hid (fun (W : World) (A2 : Option Addr) (c2 : Nat) (hr : Rd W g kb A2 c2 s.1 s.2) => by
          have hh := message_any (r := s) hr
          rw [hmg, hs'] at hh
          exact hh)
        have hsuc := takeL_succ k (body0 ps) (by rw [hs]; exact hbd)
        rw [hs, hmg, hs'] at hsuc
        have HSUC := Lib.hid hsuc
        have lg := R.bk.lt
        have lk := R.lt
        have lb := B.lt
        have ln := N.lt
        have lx := X.lt
        have HSN : Hid (∀ y, wr.heap.size ≤ y → SD w g kb pb pn y) := fun y hy => ⟨by omega, by omega, by omega, by omega, by omega⟩
        have HSA : Hid (∀ y, wr.heap.size ≤ y → y ∉ blks A) := fun y hy hm => by have := M.lt hm; omega
        have HBA : Hid (∀ y ∈ blks A, SD w g kb pb pn y) := M.2.1
        have HN := Lib.hid N
        have HN0 := Lib.hid (boxN_bk B)
        have HRR := Lib.hid R
        have HBB := Lib.hid B
        have HM := Lib.hid M
        obtain ⟨l, hl⟩ : ∃ l, takeL k (body0 ps) = l := ⟨_, rfl⟩
        rw [hl] at HM HSUC
        clear R B M N O X hs hbd hwh hrel hmg hs' hsuc hl lg lk lb ln lx HW
        go_wp2_with (go_at_call 49; go_must (refine HG.out.mono ?_); rintro e w6 ⟨rfl, rfl⟩)
        apply region_inv (DecI wr (SD w g kb pb pn) g kb pb t v0 v1 Ar cr s s' A k c l mg) (by kernel_rfl) (by kernel_rfl) (fun vs => DecI.start HRR.out HBB.out HM.out vs)
        intro vs
        apply inv_val
        case hw => rfl
        case hI => intro L wS hI; exact hI.pure (by decide)
        case hy => intro L wS hI; skip; first | (go_simp; done) | (go_simp; with_reducible rfl)
        case' hk => skip
        try simp only [Act.put, List.setIfInBounds_toArray, List.set_cons_zero, List.set_cons_succ]
        apply inv_vall
        case hw => rfl
        case hI => intro L wS hI; exact hI.pure (by decide)
        case hy => intro L wS hI hL; obtain ⟨k0, k1, k2, k3⟩ := bk_four (hI.load hL); first | (go_simp; done) | (go_simp; with_reducible rfl)
        case' hk => skip
        try simp only [Act.put, List.setIfInBounds_toArray, List.set_cons_zero, List.set_cons_succ]
        apply inv_val
        case hw => rfl
        case hI => intro L wS hI; exact hI.pure (by decide)
        case hy => intro L wS hI; skip; first | (go_simp; done) | (go_simp; with_reducible rfl)
        case' hk => skip
        try simp only [Act.put, List.setIfInBounds_toArray, List.set_cons_zero, List.set_cons_succ]
        apply inv_op
        case hw => rfl
        case hy =>
          intro L wS hI hL hw
          refine gives_call (f := 50) (args := #[.pointer (some ⟨g, 0, none⟩)]) ?_ ?_
          · first | (go_simp; done) | (go_simp; with_reducible rfl)
          · exact (HME.out _ _ _ (hI.rd hL)).mono fun e w' he => by
              obtain ⟨u, e1, e2⟩ := hI.took hL HSD.out hpg he
              exact ⟨u, e1, e2, trivial⟩
        case' hk => skip
        try simp only [Act.put, List.setIfInBounds_toArray, List.set_cons_zero, List.set_cons_succ]
        apply inv_op
        case hw => rfl
        case hy =>
          intro L wS hI hL hw
          obtain ⟨P, cp, e1, h4⟩ := hI.laid hL (hw 3 (by kernel_rfl))
          refine gives_value (u := .slice (some ⟨wS.heap.size, 0, none⟩) 1 1) (w' := wS.alloc (.cells #[.int .i64 mg.uid, .int .i64 mg.flags, .int .i64 mg.date, .slice P mg.body.length cp] 62)) ?_ h4 trivial
          rw [e1]
          first | (go_simp; done) | (go_simp; with_reducible rfl)
        case' hk => skip
        try simp only [Act.put, List.setIfInBounds_toArray, List.set_cons_zero, List.set_cons_succ]
        apply inv_op
        case hw => rfl
        case hy =>
          intro L wS hI hL hw
          have h4 := hw 4 (by kernel_rfl)
          have h1 := hw 1 (by kernel_rfl)
          obtain ⟨M5, _, h6⟩ := hI.2.2.2.2.1 hL
          obtain ⟨k4, e4, M4⟩ := h6 h4
          rw [e4]
          have hnew := hI.1.size
          exact gives_append_ms (.tmp 32) (.tmp 35) rfl A k c l rfl M5 (some ⟨k4, 0, none⟩) 1 1 [mg] rfl (M4.mono (fun y hy => ⟨HSN.out y hy, HSA.out y hy⟩)) (fun y hy => HSN.out y (Nat.le_trans hnew hy)) (by omega) (k + 1) rfl fun A' c' w' h1' h2' h3' => ⟨hI.more hL h1 h4 HSD.out h2' h1', trivial⟩
        case' hk => skip
        try simp only [Act.put, List.setIfInBounds_toArray, List.set_cons_zero, List.set_cons_succ]
        apply inv_val
        case hw => rfl
        case hI => intro L wS hI; exact hI.pure (by decide)
        case hy => intro L wS hI; skip; first | (go_simp; done) | (go_simp; with_reducible rfl)
        case' hk => skip
        try simp only [Act.put, List.setIfInBounds_toArray, List.set_cons_zero, List.set_cons_succ]
        apply inv_op
        case hw => rfl
        case hy =>
          intro L wS hI hL hw
          have h5 := hw 5 (by kernel_rfl)
          obtain ⟨A', c', e5, hb, hs⟩ := hI.store hL h5 HSD.out hpg hpk (u := vs 7)
          have e5' := e5
          obtain ⟨k0, k1, k2, k3⟩ := bk_four hb
          have fz3 := hb.free 3
          have hg := hb.lt
          rw [e5']
          refine gives_skip ?_ hs trivial
          go_simp
        case' hk => skip
        try simp only [Act.put]
        refine inv_end ?_
        intro L w7 hall hI
        obtain ⟨A', c', A2, c2, ev5, R7, B7, M7, O7⟩ := hI.end_ (hall 3 (by decide)) (hall 5 (by decide)) (hall 7 (by decide))
        have HKN : Hid (DecK w ps g kb pb pn t v0 v1 v2 w7) := by
          refine ⟨k + 1, A', c', A2, c2, by rw [HSUC.out.2]; exact R7, B7, by rw [HSUC.out.1]; exact M7, HN.out.only O7 (fun hh => ?_), HXX.out.only O7 (fun hh => ?_), HOO.out.trans O7 (fun y hy => .inr ?_), by omega⟩
          · simp only [List.mem_cons] at hh
            rcases hh with e | e | e
            · exact hng e
            · exact hnb e
            · exact (HBA.out _ e).2.2.2.2 rfl
          · simp only [List.mem_cons] at hh
            rcases hh with e | e | e
            · omega
            · omega
            · have := (HBA.out _ e).1
              omega
          · simp only [List.mem_cons] at hy
            rcases hy with e | e | e
            · omega
            · omega
            · exact Nat.le_of_lt (HBA.out _ e).1
        have HMM : Hid (25 - boxN pb w7 < 25 - boxN pb wr) := by
          show _ < _
          rw [boxN_bk B7, HN0.out]
          omega
        clear hI hall R7 B7 M7 O7
        go_roundw
        case rel => exact ⟨_, _, _, _, _, _, _, _, _, _, _, _, _, _, _, _, HKN, rfl⟩
        case measure => exact HMM.out
      · have hkv : (k : Int) = v2 := by omega
        have hda := decO_at (p := ps) (k := k) (by rw [HCN.out]; exact hkv) (by rw [HCN.out]; omega)
        obtain ⟨ib, hib⟩ : ∃ b, isB (boxOf ps k) = b := ⟨_, rfl⟩
        have hw2 : wholeS s = wh := by unfold wholeS; rw [hbd, hwh]; rfl
        rw [hs, hw2, hib] at hda
        have HIS := Is_any (w := wr) (boxOf ps k) (A := A) (c := c) (by rw [HBO.out k]; show Ms _ wr A (takeL k (body0 ps)).length _; rw [M.len]; exact M.ms) (by rw [HBO.out k]; show (takeL k (body0 ps)).length ≤ _; rw [M.len]; omega)
        rw [hib, HBO.out k, bxv_eq M.len, HT.out] at HIS
        replace HIS := Lib.hid HIS
        have HDA := Lib.hid hda
        have HM := Lib.hid M
        obtain ⟨x0, x1, x2, x3⟩ := bk_four X
        have xf0 := X.free 0
        have xf1 := X.free 1
        have xf2 := X.free 2
        have xf3 := X.free 3
        have xl := X.lt
        have HBB := Lib.hid B
        clear R B M N O X hs hbd hwh hrel hib hda hw2
        cases wh
        · go_wp2_with (first
            | (go_at_call 49; go_must (refine HG.out.mono ?_); rintro e w6 ⟨rfl, rfl⟩)
            | (go_at_call 51; go_must (refine HW.out.mono ?_); rintro e w6 ⟨rfl, rfl⟩))
          exact box_ret (s := 2) (u := 3) (by kernel_rfl) w.heap.size zeroB none 0 (.int .i64 3) rfl rfl (bk_store HXX.out _ _ _ _) (DecA.none HDA.out (only_store HOO.out (.inr (Nat.le_refl _)) _ _ _ _))
        cases ib
        · go_wp2_with (first
            | (go_at_call 49; go_must (refine HG.out.mono ?_); rintro e w6 ⟨rfl, rfl⟩)
            | (go_at_call 51; go_must (refine HW.out.mono ?_); rintro e w6 ⟨rfl, rfl⟩)
            | (go_at_call 24; go_must (refine HIS.out.mono ?_); rintro e w8 ⟨rfl, O8⟩; have X8 := HXX.out.only O8 (by simp); clear x0 x1 x2 x3 xf0 xf1 xf2 xf3 xl; obtain ⟨x0, x1, x2, x3⟩ := bk_four X8; have xf0 := X8.free 0; have xf1 := X8.free 1; have xf2 := X8.free 2; have xf3 := X8.free 3; have xl := X8.lt))
          exact box_ret (s := 2) (u := 3) (by kernel_rfl) w.heap.size zeroB none 0 (.int .i64 3) rfl rfl (bk_store X8 _ _ _ _) (DecA.none HDA.out (only_store (HOO.out.then O8) (.inr (Nat.le_refl _)) _ _ _ _))
        go_wp2_with (first
          | (go_at_call 49; go_must (refine HG.out.mono ?_); rintro e w6 ⟨rfl, rfl⟩)
          | (go_at_call 51; go_must (refine HW.out.mono ?_); rintro e w6 ⟨rfl, rfl⟩)
          | (go_at_call 24; go_must (refine HIS.out.mono ?_); rintro e w8 ⟨rfl, O8⟩; have X8 := HXX.out.only O8 (by simp); clear x0 x1 x2 x3 xf0 xf1 xf2 xf3 xl b0 b1 b2 b3; obtain ⟨x0, x1, x2, x3⟩ := bk_four X8; have xf0 := X8.free 0; have xf1 := X8.free 1; have xf2 := X8.free 2; have xf3 := X8.free 3; have xl := X8.lt; have B8 := HBB.out.only O8 (by simp); obtain ⟨b0, b1, b2, b3⟩ := bk_four B8))
        have hlen := HM.out.len
        have hret := DecA.some (w := w) (w' := _) (A := A) (c := c) HDA.out (by rw [HBO.out k]; show Ms AnyB _ A (takeL k (body0 ps)).length _; rw [hlen]; exact ((HM.out.ms.keep O8).store (fun hh => Nat.lt_irrefl _ hh.1) (.string t) (.int .i64 v0) (.int .i64 v1) (.slice A k c)).mono (fun _ _ => trivial)) (only_store (HOO.out.then O8) (.inr (Nat.le_refl _)) _ _ _ _)
        rw [HBO.out k] at hret
        exact box_ret (s := 2) (u := 3) (by kernel_rfl) w.heap.size ⟨nm, v0, v1, takeL k (body0 ps)⟩ A c (.int .i64 0) rfl rfl (by rw [bxc_eq hlen, HT.out]; exact bk_store X8 _ _ _ _) hret
end Go.Proofs.Ythaodlegpjedoaa
