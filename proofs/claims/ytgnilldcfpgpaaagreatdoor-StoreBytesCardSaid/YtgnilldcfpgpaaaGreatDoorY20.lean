/-
  Texts of the seat, laid one behind the other: JTake3 JScan JTell JImg DCopy JLasts.
-/
import Derived.Test.YtgnilldcfpgpaaaGreatDoorY19
import Derived.Test.YtgnilldcfpgpaaaGreatDoorY18
namespace Go.Proofs.YtgnilldcfpgpaaaGreatDoor
open Go.RowKit Go.Maps
section
variable {w w4 w5 : World} {t base k a : Nat} {G : List Nat} {T : Took} {Ae : Option Addr} {ce : Nat} {vs : List Value} {es : List (List UInt8)}
theorem tk_snoc (h1 : Bk w t 241 #[.int .i64 (base : Int), .int .i64 (a : Int), .slice Ae es.length ce])
    (e1 : es.length = vs.length) (e2 : Own w 27 Ae es.length ce vs)
    (e4 : ∀ (i : Nat) (l : List UInt8), es[i]? = some l → ∃ Ai ci, vs[i]? = some (.slice Ai l.length ci) ∧ Own w 5 Ai l.length ci (bvs l) ∧ ∀ x ∈ blks Ai, x ∈ G)
    (h4 : t ∈ G) (h6 : ∀ x ∈ G, x < w.heap.size) (hb : base ≤ 1099511627776) (hk : k ≤ 1099511627776) (hlen : es.length + 1 ≤ 1099511627776) (h8 : ∀ l ∈ es, l.length ≤ 1073741824)
    {A4 L2 : Option Addr} {c4 c2 : Nat} {p : List UInt8} (hp : p.length ≤ 1073741824) (O : Only [t] w w4) (HB4 : Bk w4 t 241 #[.int .i64 (base : Int), .int .i64 (k : Int), .slice Ae es.length ce]) (V4 : Own w4 5 A4 p.length c4 (bvs p)) (O5 : Only (blks Ae) w4 w5)
    (HV2 : Own w5 27 L2 (es.length + 1) c2 (vs ++ [.slice A4 p.length c4])) :
    TkJ (w5.setCell ⟨t, 2, none⟩ (.slice L2 (es.length + 1) c2)) t base (G ++ (blks L2 ++ blks A4)) (k, es ++ [p]) ∧ Only (t :: blks Ae) w (w5.setCell ⟨t, 2, none⟩ (.slice L2 (es.length + 1) c2)) := by
  have hta := own_off e2 h1 (by decide)
  have e2' := e2.only O (fun x hx hm => by simp at hm; subst hm; exact hta hx)
  have HB5 := HB4.only O5 hta
  have V5 := V4.only O5 (V4.apart e2' (by decide))
  have sz : w.heap.size ≤ w5.heap.size := Nat.le_trans O.size O5.size
  refine ⟨⟨L2, c2, ?_, ⟨rfl, vs ++ [.slice A4 p.length c4], ?_, ?_, ?_⟩, ?_, ?_, hb, hk, ?_, fun l hl => ?_⟩, ?_⟩
  · have := HB5.set 2 (.slice L2 (es.length + 1) c2)
    show Bk _ t 241 #[.int .i64 (base : Int), .int .i64 (k : Int), .slice L2 (es ++ [p]).length c2]
    rw [show (es ++ [p]).length = es.length + 1 from by simp]
    simpa using this
  · show Own _ 27 L2 (es ++ [p]).length c2 _
    rw [show (es ++ [p]).length = es.length + 1 from by simp]
    exact HV2.setFar (own_off HV2 HB5 (by decide)) _
  · intro x hx
    simp [hx]
  · intro i l hi
    rcases Nat.lt_or_ge i es.length with hlt | hge
    · rw [List.getElem?_append_left hlt] at hi
      obtain ⟨Ai, ci, k1, k2, k3⟩ := e4 i l hi
      have k4 := k2.only O (fun x hx hm => by simp at hm; subst hm; exact own_off k2 h1 (by decide) hx)
      have k5 := k4.only O5 (k4.apart e2' (by decide))
      exact ⟨Ai, ci, by rw [List.getElem?_append_left (by omega)]; exact k1, k5.setFar (own_off k5 HB5 (by decide)) _, fun x hx => by simp [k3 x hx]⟩
    · rw [List.getElem?_append_right hge] at hi
      have h0 : i - es.length = 0 := by
        have := (List.getElem?_eq_some_iff.1 hi).1
        simp at this
        omega
      rw [h0] at hi
      simp at hi
      subst hi
      exact ⟨A4, c4, by rw [List.getElem?_append_right (by omega), ← e1, h0]; rfl, V5.setFar (own_off V5 HB5 (by decide)) _, fun x hx => by simp [hx]⟩
  · simp [h4]
  · intro x hx
    simp only [List.mem_append] at hx
    have hs5 : (w5.setCell ⟨t, 2, none⟩ (.slice L2 (es.length + 1) c2)).heap.size = w5.heap.size := by simp [World.setCell]
    rw [hs5]
    rcases hx with hx | hx | hx
    · have := h6 x hx; omega
    · exact HV2.lt hx
    · exact V5.lt hx
  · show (es ++ [p]).length ≤ _
    rw [show (es ++ [p]).length = es.length + 1 from by simp]
    exact hlen
  · replace hl : l ∈ es ++ [p] := hl
    simp only [List.mem_append, List.mem_singleton] at hl
    rcases hl with hl | hl
    · exact h8 l hl
    · subst hl; exact hp
  · exact ((O.mono (ss := t :: blks Ae) (fun x hx => .inl (by simp at hx; subst hx; simp))).trans O5 (fun x hx => .inl (List.mem_cons_of_mem _ hx))).setCell (.inl (by simp)) _
set_option maxHeartbeats 1600000 in
set_option maxRecDepth 100000 in
theorem take_more (h : TkJ w t base G T) (A : Option Addr) (n c : Nat) (p : List UInt8) (hs : Sl w A n (bvs p)) (hn : n ≤ 1073741824) (k : Nat) (l : List UInt8) (hp : prsR p = some (k, l)) (hk : ¬ k < 1) (hc : ¬ (0 < T.1 ∧ k ≠ T.1 + 1)) (hb : ¬ k ≤ base) (hg : k = base + T.2.length + 1) :
    Calls Tryz.prog 180 #[.pointer (some ⟨t, 0, none⟩), .slice A n c] w (TookR w t base G (some (k, T.2 ++ [l]))) := by
  obtain ⟨i0, hi, hz0, hz1, hz2⟩ := info_parts infoBytes
  have HP := parse_any A n c p w hs (by omega)
  obtain ⟨hk40, hll⟩ := prsR_small hp
  have hpl : p.length = n := by simpa using hs.len
  obtain ⟨Ae, ce, h1, ⟨h2, vs, e2, e3, e4⟩, h3, h4, h5, h6, h7, h8⟩ := h
  have HB := Lib.hid h1
  have HE := Lib.hid e2
  have c0 : w.cell? ⟨t, 0, none⟩ = some (.int .i64 (base : Int)) := by rw [h1.cell]; rfl
  have c1 : w.cell? ⟨t, 1, none⟩ = some (.int .i64 (T.1 : Int)) := by rw [h1.cell]; rfl
  have c2 : w.cell? ⟨t, 2, none⟩ = some (.slice Ae T.2.length ce) := by rw [h1.cell]; rfl
  have fin : Hid (∀ (w1 w5 : World) (nq : Nat) (A1 L2 : Option Addr) (c1 c2 : Nat) (o : Obj), Only [] w w1 → Own w1 5 A1 l.length c1 (bvs l) → (∀ x ∈ blks A1, w.heap.size ≤ x) → Only (blks Ae) (((w1.setCell ⟨t, 1, none⟩ (.int .i64 (k : Int))).drewN nq).alloc o) w5 → Own w5 27 L2 (T.2.length + 1) c2 (vs ++ [.slice A1 l.length c1]) →
      (∀ x ∈ blks L2, x ∈ blks Ae ∨ (((w1.setCell ⟨t, 1, none⟩ (.int .i64 (k : Int))).drewN nq).alloc o).heap.size ≤ x) → TookR w t base G (some (k, T.2 ++ [l])) (.returned (.int .i64 0)) (w5.setCell ⟨t, 2, none⟩ (.slice L2 (T.2.length + 1) c2))) := by
    intro w1 w5 nq A1 L2 c1 c2 o O1 V1 B1 O5 HV2 B5
    have OW : Only [t] w (((w1.setCell ⟨t, 1, none⟩ (.int .i64 (k : Int))).drewN nq).alloc o) := (((O1.mono (ss := [t]) (fun _ h => nomatch h)).setCell (.inl (by simp)) _).drewN nq).alloc o
    have HB1 := HB.out.only O1 (fun hm => nomatch hm)
    have HB2 : Bk (w1.setCell ⟨t, 1, none⟩ (.int .i64 (k : Int))) t 241 #[.int .i64 (base : Int), .int .i64 (k : Int), .slice Ae T.2.length ce] := by simpa using HB1.set 1 (.int .i64 (k : Int))
    have HB4 := HB2.only (((Only.refl [] _).drewN nq).alloc o) (fun hm => nomatch hm)
    have V4 := (V1.setFar (show t ∉ blks A1 from own_off V1 HB1 (by decide)) (.int .i64 (k : Int)) (p := ⟨t, 1, none⟩)).keep (((Only.refl [] _).drewN nq).alloc o)
    obtain ⟨HT, OT⟩ := tk_snoc (k := k) HB.out e2.len.symm HE.out e4 h3 h4 h5 hk40 (by omega) h8 (by omega : l.length ≤ 1073741824) OW HB4 V4 O5 HV2
    refine ⟨rfl, _, HT, OT.mono (fun x hx => .inl ?_), fun x hx => ?_⟩
    · rcases List.mem_cons.1 hx with hy | hy
      · subst hy; exact h3
      · exact e3 x hy
    · simp only [List.mem_append] at hx
      rcases hx with hx | hx | hx
      · exact .inl hx
      · rcases B5 x hx with hy | hy
        · exact .inl (e3 x hy)
        · have := OW.size; exact .inr (by omega)
      · exact .inr (B1 x hx)
  obtain ⟨a, ha⟩ : ∃ a, T.1 = a := ⟨_, rfl⟩
  rw [ha] at c1 h6 hc
  have hta : Hid (t ∉ blks Ae) := own_off e2 h1 (by decide)
  unfold Parsed at HP
  rw [hp] at HP
  have HPP := Lib.hid HP
  clear h1 h2 h3 h4 h8 ha hp HP e2 e3 e4 hll hpl
  obtain ⟨m, hm⟩ : ∃ m, T.2.length = m := ⟨_, rfl⟩
  rw [hm] at c2 h7 hg HE fin HB
  have hg2 : ((k : Int) != (base : Int) + (m : Int) + 1) = false := by rw [bne_eq_false_iff_eq]; omega
  clear hm hg
  rcases Nat.eq_zero_or_pos a with h0 | h0
  · subst h0
    clear hc
    go_enter Tryz.func180, Tryz.ntmps180
    go_wp2_with (go_at_call 178; refine HPP.out.mono ?_; clear HPP; rintro e w1 ⟨A1, c1', rfl, V1, O1, B1⟩; have k1 := O1.cellSome c1 (fun hm => nomatch hm); have k0 := O1.cellSome c0 (fun hm => nomatch hm); have k2 := O1.cellSome c2 (fun hm => nomatch hm); have f1 := (HB.out.only O1 (fun hm => nomatch hm)).free 1)
    go_quiet (fail)
    have OWq : Only [t] w ((w1.setCell ⟨t, 1, none⟩ (.int .i64 (k : Int))).drewN nq) := ((O1.mono (ss := [t]) (fun _ h => nomatch h)).setCell (.inl (by simp)) _).drewN nq
    have HVW := HE.out.only OWq (fun x hx hm => by simp at hm; subst hm; exact hta.out hx)
    have HB2 : Bk (w1.setCell ⟨t, 1, none⟩ (.int .i64 (k : Int))) t 241 #[.int .i64 (base : Int), .int .i64 (k : Int), .slice Ae m ce] := by simpa using (HB.out.only O1 (fun hm => nomatch hm)).set 1 (.int .i64 (k : Int))
    have HBW := HB2.only ((Only.refl [] _).drewN nq) (fun hm => nomatch hm)
    have x2 : ((w1.setCell ⟨t, 1, none⟩ (.int .i64 (k : Int))).drewN nq).cell? ⟨t, 2, none⟩ = some (.slice Ae m ce) := by rw [HBW.cell]; rfl
    have hSl : Sl (((w1.setCell ⟨t, 1, none⟩ (.int .i64 (k : Int))).drewN nq).alloc (.cells #[.slice A1 l.length c1'] 27)) (some ⟨w1.heap.size, 0, none⟩) 1 [.slice A1 l.length c1'] := by
      have hS := Sl.of_bk (Bk.new ((w1.setCell ⟨t, 1, none⟩ (.int .i64 (k : Int))).drewN nq) 27 #[.slice A1 l.length c1'])
      rw [show ((w1.setCell ⟨t, 1, none⟩ (.int .i64 (k : Int))).drewN nq).heap.size = w1.heap.size from by simp [World.setCell]] at hS
      exact hS
    go_wp2_with (at_builtin; go_must (refine wpList_append_sl rfl (.tmp 63) (.tmp 65) 104 rfl 27 i0 (.slice none 0 0) 24 Tryz.underlying104 hi hz0 hz1 hz2 rfl Ae m ce vs rfl (HVW.alloc _) _ 1 1 _ rfl hSl (one_row _ _ _) (by unfold maxLen; omega) (by omega) ?_); intro L2 c2' w5 HV2 O5 B5; have HB5 := (HBW.only ((Only.refl [] _).alloc _) (fun hm => nomatch hm)).only O5 hta.out; have j2 : w5.cell? ⟨t, 2, none⟩ = some (.slice Ae m ce) := (by rw [HB5.cell]; rfl); have f2 := HB5.free 2)
    go_ret
    exact fin.out w1 w5 nq A1 L2 c1' c2' _ O1 V1 B1 O5 HV2 B5
  · have hc2 : ((k : Int) != (a : Int) + 1) = false := by rw [bne_eq_false_iff_eq]; omega
    clear hc
    go_enter Tryz.func180, Tryz.ntmps180
    go_wp2_with (go_at_call 178; refine HPP.out.mono ?_; clear HPP; rintro e w1 ⟨A1, c1', rfl, V1, O1, B1⟩; have k1 := O1.cellSome c1 (fun hm => nomatch hm); have k0 := O1.cellSome c0 (fun hm => nomatch hm); have k2 := O1.cellSome c2 (fun hm => nomatch hm); have f1 := (HB.out.only O1 (fun hm => nomatch hm)).free 1)
    go_quiet (fail)
    have OWq : Only [t] w ((w1.setCell ⟨t, 1, none⟩ (.int .i64 (k : Int))).drewN nq) := ((O1.mono (ss := [t]) (fun _ h => nomatch h)).setCell (.inl (by simp)) _).drewN nq
    have HVW := HE.out.only OWq (fun x hx hm => by simp at hm; subst hm; exact hta.out hx)
    have HB2 : Bk (w1.setCell ⟨t, 1, none⟩ (.int .i64 (k : Int))) t 241 #[.int .i64 (base : Int), .int .i64 (k : Int), .slice Ae m ce] := by simpa using (HB.out.only O1 (fun hm => nomatch hm)).set 1 (.int .i64 (k : Int))
    have HBW := HB2.only ((Only.refl [] _).drewN nq) (fun hm => nomatch hm)
    have x2 : ((w1.setCell ⟨t, 1, none⟩ (.int .i64 (k : Int))).drewN nq).cell? ⟨t, 2, none⟩ = some (.slice Ae m ce) := by rw [HBW.cell]; rfl
    have hSl : Sl (((w1.setCell ⟨t, 1, none⟩ (.int .i64 (k : Int))).drewN nq).alloc (.cells #[.slice A1 l.length c1'] 27)) (some ⟨w1.heap.size, 0, none⟩) 1 [.slice A1 l.length c1'] := by
      have hS := Sl.of_bk (Bk.new ((w1.setCell ⟨t, 1, none⟩ (.int .i64 (k : Int))).drewN nq) 27 #[.slice A1 l.length c1'])
      rw [show ((w1.setCell ⟨t, 1, none⟩ (.int .i64 (k : Int))).drewN nq).heap.size = w1.heap.size from by simp [World.setCell]] at hS
      exact hS
    go_wp2_with (at_builtin; go_must (refine wpList_append_sl rfl (.tmp 63) (.tmp 65) 104 rfl 27 i0 (.slice none 0 0) 24 Tryz.underlying104 hi hz0 hz1 hz2 rfl Ae m ce vs rfl (HVW.alloc _) _ 1 1 _ rfl hSl (one_row _ _ _) (by unfold maxLen; omega) (by omega) ?_); intro L2 c2' w5 HV2 O5 B5; have HB5 := (HBW.only ((Only.refl [] _).alloc _) (fun hm => nomatch hm)).only O5 hta.out; have j2 : w5.cell? ⟨t, 2, none⟩ = some (.slice Ae m ce) := (by rw [HB5.cell]; rfl); have f2 := HB5.free 2)
    go_ret
    exact fin.out w1 w5 nq A1 L2 c1' c2' _ O1 V1 B1 O5 HV2 B5
theorem take_any (h : TkJ w t base G T) (A : Option Addr) (n c : Nat) (p : List UInt8) (hs : Sl w A n (bvs p)) (hn : n ≤ 1073741824) :
    Calls Tryz.prog 180 #[.pointer (some ⟨t, 0, none⟩), .slice A n c] w (TookR w t base G (take1 base T p)) := by
  unfold take1
  cases hp : prsR p with
  | none => exact take_bad h A n c p hs hn (.inl hp)
  | some q =>
    obtain ⟨k, l⟩ := q
    simp only []
    by_cases hc : k < 1 ∨ (0 < T.1 ∧ k ≠ T.1 + 1)
    · rw [if_pos hc]
      exact take_bad h A n c p hs hn (.inr ⟨k, l, hp, hc⟩)
    · rw [if_neg hc]
      have hk : ¬ k < 1 := fun hx => hc (.inl hx)
      have hc' : ¬ (0 < T.1 ∧ k ≠ T.1 + 1) := fun hx => hc (.inr hx)
      by_cases hb : k ≤ base
      · rw [if_pos hb]
        exact take_pass h A n c p hs hn k l hp hk hc' hb
      · rw [if_neg hb]
        by_cases hg : k ≠ base + T.2.length + 1
        · rw [if_pos hg]
          exact take_gap h A n c p hs hn k l hp hk hc' hb hg
        · rw [if_neg hg]
          exact take_more h A n c p hs hn k l hp hk hc' hb (Decidable.not_not.1 hg)
end
end Go.Proofs.YtgnilldcfpgpaaaGreatDoor
namespace Go.Proofs.YtgnilldcfpgpaaaGreatDoor
open Go.RowKit Go.Maps
def Nw (B : Nat) (vs : List Value) : Prop := ∀ u ∈ vs, ∀ (Ai : Option Addr) (ni ci : Nat), u = .slice Ai ni ci → ∀ y ∈ blks Ai, B ≤ y
theorem Nw.nil (B : Nat) : Nw B [] := fun _ hu => nomatch hu
theorem Nw.snoc {B : Nat} {vs : List Value} {A : Option Addr} {n c : Nat} (h : Nw B vs) (hA : ∀ y ∈ blks A, B ≤ y) : Nw B (vs ++ [.slice A n c]) := fun u hu Ai ni ci e => by
  rcases List.mem_append.1 hu with hx | hx
  · exact h u hx Ai ni ci e
  · simp at hx
    subst hx
    injection e with e1 e2 e3
    subst e1
    exact hA
def FreshRowsN (w : World) (ls : List (List UInt8)) (x : Nat) (e : Ending) (w' : World) : Prop :=
  ∃ A c vs, e = .returned (.tuple #[.slice A ls.length c, .int .i64 (x : Int)]) ∧ Own w' 27 A ls.length c vs ∧ RowsAt w' vs ls ∧ Only [] w w' ∧ (∀ k ∈ blks A, w.heap.size ≤ k) ∧ Nw w.heap.size vs
set_option maxRecDepth 100000 in
set_option maxHeartbeats 1600000 in
theorem scan_new (A : Option Addr) (n c : Nat) (b : List UInt8) (w : World) (hs : Sl w A n (bvs b)) (ht : Tab w) (hc : n ≤ c) (hn : n ≤ 100000000000) :
    Calls Tryz.prog 215 #[.slice A n c] w (FreshRowsN w (scan b).1 (scan b).2) := by
  obtain ⟨i0, hi, hz0, hz1, hz2⟩ := info_parts infoBytes
  have hl : b.length = n := by simpa using hs.len
  have HL := Lib.hid hl
  have hn' : n ≤ 100000000000 := hn
  clear hl
  go_enter Tryz.func215, Tryz.ntmps215
  go_wp2_with fail
  go_loopw [4, 5] (fun s i wr => ∃ (k m cl : Nat) (L : Option Addr) (vs : List Value) (ls : List (List UInt8)), k ≤ n ∧ 12 * m ≤ k ∧ i = .int .i64 k ∧ s = .slice L m cl ∧ Hid (ls.length = m) ∧ Own wr 27 L m cl vs ∧ RowsAt wr vs ls ∧ Only [] w wr ∧ (∀ x ∈ blks L, w.heap.size ≤ x) ∧ Nw w.heap.size vs ∧ Hid (scan b = (ls ++ (scan (b.drop k)).1, k + (scan (b.drop k)).2))) (fun _ i _ => n - (intOf i).toNat)
  case atStart => exact ⟨0, 0, 0, none, [], [], Nat.zero_le _, Nat.le_refl _, rfl, rfl, rfl, Own.nil _ _, RowsAt.nil _, Only.refl _ _, fun x hx => (by cases hx), Nw.nil _, by show _ = _; simp⟩
  case round =>
    obtain ⟨k, m, cl, L, vs, ls, hk, h12, rfl, rfl, HLs, HV, HR, HO, HB, HW, HS⟩ := hrel
    by_cases hkn : k < n
    · obtain ⟨ad, e, _⟩ := hs.2 (by omega)
      subst e
      have hck : ¬ c = k := by omega
      have hd := hs.add (k := k) (m := n - k) (by omega)
      rw [List.take_of_length_le (by rw [List.length_drop, bvs_length, HL.out]; omega), bvs_drop] at hd
      have HD := Lib.hid (decode_any (some (ad.add k)) (n - k) (c - k) (b.drop k) wr (hd.keep HO) (ht.keep HO) (by omega) (by omega))
      have hdl : (b.drop k).length = n - k := by rw [List.length_drop, HL.out]
      by_cases h0 : bad (b.drop k) = 0
      · have hne : ((bad (b.drop k) : Int) != 0) = false := by rw [h0]; rfl
        have hsz := size_pos h0
        have HG := Lib.hid (scan_good h0)
        have hdd : (b.drop k).drop (size (b.drop k)) = b.drop (k + size (b.drop k)) := by rw [List.drop_drop]
        rw [hdd] at HG
        have hs1 := hsz.1
        have hs2 := hsz.2.1
        rw [hdl] at hs2
        obtain ⟨y, hy⟩ : ∃ y, y = body (b.drop k) := ⟨_, rfl⟩
        rw [← hy] at HD HG
        generalize size (b.drop k) = z at *
        clear h0 hsz hdl hd hy hdd
        go_wp2_with fail
        refine HD.out.mono ?_
        rintro e w1 ⟨A1, c1, rfl, V1, O1, B1⟩
        go_wp2_with (at_builtin; go_must (refine wpList_append_sl rfl (.tmp 21) (.tmp 23) 104 rfl 27 i0 (.slice none 0 0) 24 Tryz.underlying104 hi hz0 hz1 hz2 rfl L m cl vs rfl ((HV.keep O1).alloc _) _ 1 1 _ rfl (Sl.of_bk (Bk.new _ _ #[.slice A1 y.length c1])) (one_row _ _ _) (by unfold maxLen; omega) (by omega) ?_); intro L2 c2 w2 HV2 O2 B2)
        go_roundw
        case rel =>
          have HVa := (HV.keep O1).alloc (.cells #[.slice A1 y.length c1] 27)
          have V1a := V1.alloc (.cells #[.slice A1 y.length c1] 27)
          have V1' : Own w2 5 A1 y.length c1 (bvs y) := V1a.only O2 (V1a.apart HVa (by decide))
          have HR2 : RowsAt w2 vs ls := ((HR.keep O1).keep ((Only.refl _ _).alloc _)).beside HVa O2
          refine ⟨k + z, m + 1, c2, L2, vs ++ [.slice A1 y.length c1], ls ++ [y], by omega, by omega, by go_num, rfl, ?_, HV2, HR2.snoc V1', ((HO.then O1).alloc _).trans O2 (fun x hx => .inr (HB x hx)), fun x hx => ?_, HW.snoc (fun y hy => Nat.le_trans HO.size (B1 y hy)), ?_⟩
          · show _ = _
            rw [List.length_append, HLs.out]; rfl
          · rcases B2 x hx with h | h
            · exact HB x h
            · have := (HO.then O1).size; rw [World.size_alloc] at h; omega
          · show _ = _
            rw [HS.out, HG.out]
            simp only [List.append_assoc, List.singleton_append, Prod.mk.injEq, true_and]
            omega
        case measure => simp [intOf]; omega
      · have hne : ((bad (b.drop k) : Int) != 0) = true := by rw [bne_iff_ne]; omega
        have HG := Lib.hid (scan_bad h0)
        clear h0 hdl hd
        go_wp2_with fail
        refine HD.out.mono ?_
        rintro e w1 ⟨A1, c1, rfl, V1, O1, B1⟩
        go_wp2
        go_ret2
        rw [HS.out, HG.out]
        simp only [List.append_nil, Nat.add_zero]
        exact ⟨L, cl, vs, by rw [HLs.out]; rfl, by rw [HLs.out]; exact HV.keep O1, HR.keep O1, HO.then O1, HB, HW⟩
    · have HG : Hid (scan b = (ls, k)) := by
        show _ = _
        rw [HS.out, List.drop_of_length_le (by rw [HL.out]; omega), scan_bad (by rw [bad_nil]; omega)]
        simp
      have HD := Lib.hid (fun (A' : Option Addr) (c' : Nat) => decode_any A' 0 c' [] wr (sl_any_none _ _) (ht.keep HO) (by omega) (by omega))
      rw [bad_nil] at HD
      have hne : ((2 : Nat) : Int) = 2 := rfl
      rw [hne] at HD
      obtain rfl : k = n := by omega
      clear hne
      cases A with
      | none =>
        by_cases hck : c = k
        · go_wp2_with fail
          refine (HD.out _ _).mono ?_
          rintro e w1 ⟨A1, c1, rfl, V1, O1, B1⟩
          go_wp2
          go_ret2
          rw [HG.out]
          exact ⟨L, cl, vs, by rw [HLs.out]; rfl, by rw [HLs.out]; exact HV.keep O1, HR.keep O1, HO.then O1, HB, HW⟩
        · go_wp2_with fail
          refine (HD.out _ _).mono ?_
          rintro e w1 ⟨A1, c1, rfl, V1, O1, B1⟩
          go_wp2
          go_ret2
          rw [HG.out]
          exact ⟨L, cl, vs, by rw [HLs.out]; rfl, by rw [HLs.out]; exact HV.keep O1, HR.keep O1, HO.then O1, HB, HW⟩
      | some ad =>
        by_cases hck : c = k
        · go_wp2_with fail
          refine (HD.out _ _).mono ?_
          rintro e w1 ⟨A1, c1, rfl, V1, O1, B1⟩
          go_wp2
          go_ret2
          rw [HG.out]
          exact ⟨L, cl, vs, by rw [HLs.out]; rfl, by rw [HLs.out]; exact HV.keep O1, HR.keep O1, HO.then O1, HB, HW⟩
        · go_wp2_with fail
          refine (HD.out _ _).mono ?_
          rintro e w1 ⟨A1, c1, rfl, V1, O1, B1⟩
          go_wp2
          go_ret2
          rw [HG.out]
          exact ⟨L, cl, vs, by rw [HLs.out]; rfl, by rw [HLs.out]; exact HV.keep O1, HR.keep O1, HO.then O1, HB, HW⟩
end Go.Proofs.YtgnilldcfpgpaaaGreatDoor
namespace Go.Proofs.YtgnilldcfpgpaaaGreatDoor
open Go.RowKit Go.Maps
theorem mem_flat_le {l : List UInt8} : ∀ {ls : List (List UInt8)}, l ∈ ls → l.length ≤ ls.flatten.length
  | a :: r, h => by
    rw [List.flatten_cons, List.length_append]
    rcases List.mem_cons.1 h with h | h
    · subst h; omega
    · have := mem_flat_le h; omega
section
variable {w : World} {t base : Nat} {G : List Nat} {T : Took}
def ToldJ (w : World) (t base : Nat) (G : List Nat) (R : Option Took) (x : Nat) (e : Ending) (w' : World) : Prop :=
  match R with
  | none => e = .returned (.tuple #[.int .i64 0, .int .i64 3]) ∧ Only G w w'
  | some T' => e = .returned (.tuple #[.int .i64 (x : Int), .int .i64 0]) ∧ ∃ G', TkJ w' t base G' T' ∧ Only G w w' ∧ ∀ y ∈ G', y ∈ G ∨ w.heap.size ≤ y
theorem takes_nil (base : Nat) (T : Took) : takes base T [] = some T := rfl
theorem takes_none {base : Nat} {T : Took} {p : List UInt8} {r : List (List UInt8)} (h : take1 base T p = none) : takes base T (p :: r) = none := by simp [takes, h]
theorem takes_some {base : Nat} {T T' : Took} {p : List UInt8} {r : List (List UInt8)} (h : take1 base T p = some T') : takes base T (p :: r) = takes base T' r := by simp [takes, h]
set_option maxHeartbeats 1600000 in
set_option maxRecDepth 100000 in
theorem tell_any (h : TkJ w t base G T) (A : Option Addr) (n c : Nat) (b : List UInt8) (hs : Sl w A n (bvs b)) (ht : Tab w) (hc : n ≤ c) (hn : n ≤ 1073741824) :
    Calls Tryz.prog 179 #[.slice A n c, .func (.func 180) #[.pointer (some ⟨t, 0, none⟩)] #[]] w (ToldJ w t base G (takes base T (scan b).1) (scan b).2) := by
  have hbl : b.length = n := by simpa using hs.len
  have HS := Lib.hid (scan_new A n c b w hs ht hc (by omega))
  obtain ⟨hle1, hle2⟩ := scan_le b.length b (Nat.le_refl _)
  have HLE : Hid (∀ l ∈ (scan b).1, l.length ≤ 1073741824) := fun l hl => by have := mem_flat_le hl; omega
  have hm0 : (scan b).1.length ≤ 1073741824 := by omega
  obtain ⟨ls, hls⟩ : ∃ ls, (scan b).1 = ls := ⟨_, rfl⟩
  obtain ⟨x, hx⟩ : ∃ x, (scan b).2 = x := ⟨_, rfl⟩
  rw [hls] at HS HLE hm0 ⊢
  rw [hx] at HS ⊢
  obtain ⟨R, hR⟩ : ∃ R, R = takes base T ls := ⟨_, rfl⟩
  rw [← hR]
  have HR0 : Hid (R = takes base T (ls.drop 0)) := by show _ = _; rw [hR, List.drop_zero]
  have HT := Lib.hid h
  have HTL := Lib.hid (fun (y : Nat) (hy : y ∈ G) => h.lt hy)
  have htG : t ∈ G := by
    obtain ⟨Ae, ce, h1, h2, h3, h4⟩ := h
    exact h3
  obtain ⟨m, hm⟩ : ∃ m, ls.length = m := ⟨_, rfl⟩
  rw [hm] at hm0
  clear hls hx hR hs ht hle1 hle2 hbl h
  go_enter Tryz.func179, Tryz.ntmps179
  go_wp2_with (go_at_call 215; refine HS.out.mono ?_; clear HS; rintro e w1 ⟨A1, c1, vs, rfl, V1, R1, O1, B1, N1⟩; rw [hm] at V1)
  go_loopw [18] (fun i wr => ∃ (k : Nat) (Gk : List Nat) (Tq : Took), k ≤ m ∧ i = .int .i64 k ∧ TkJ wr t base Gk Tq ∧ Only G w1 wr ∧ (∀ y ∈ Gk, y ∈ G ∨ w1.heap.size ≤ y) ∧ Hid (R = takes base Tq (ls.drop k))) (fun i _ => m - (intOf i).toNat)
  case atStart => exact ⟨0, G, T, Nat.zero_le _, rfl, HT.out.only O1 (fun _ _ hm => nomatch hm), Only.refl _ _, fun y hy => .inl hy, HR0⟩
  case round =>
    obtain ⟨k, Gk, Tq, hk, rfl, HK, HO, HB, HR⟩ := hrel
    have hOw := ((O1.mono (ss := G) (fun _ h => nomatch h)).trans HO (fun x hx => .inl hx))
    have HFr := Lib.hid (fun (w' : World) (Gx : List Nat) (o : Only Gx wr w') (hx : ∀ y ∈ Gx, y ∈ G ∨ w1.heap.size ≤ y) => HO.trans o hx)
    by_cases hlt : k < m
    · have hkl : k < ls.length := by omega
      have V1' := V1.only HO (fun y hy hG => by have := B1 y hy; have := HTL.out y hG; omega)
      obtain ⟨ad, u, rfl, hu, hcell⟩ := V1'.sl.at_ hlt
      obtain ⟨l, hl⟩ : ∃ l, ls[k]'hkl = l := ⟨_, rfl⟩
      obtain ⟨Ai, ci, hv, ho⟩ := R1.2 k l (by rw [List.getElem?_eq_getElem hkl, hl])
      rw [hv] at hu
      injection hu with hu
      subst hu
      have hnw := N1 _ (List.mem_of_getElem? hv) Ai l.length ci rfl
      have ho' := ho.only HO (fun y hy hG => by have := hnw y hy; have := HTL.out y hG; omega)
      have hdr : ls.drop k = l :: ls.drop (k + 1) := by rw [List.drop_eq_getElem_cons hkl, hl]
      have hlen := HLE.out l (by rw [← hl]; exact List.getElem_mem hkl)
      have HC := take_any HK Ai l.length ci l ho'.sl hlen
      cases h1 : take1 base Tq l with
      | none =>
        have HRn : Hid (R = none) := by show _ = _; rw [HR.out, hdr, takes_none h1]
        rw [h1] at HC
        have HC := Lib.hid HC
        clear hv hnw ho ho' hl hdr h1 R1 N1 V1 V1' HK
        go_wp2_with (go_at_call 180; refine HC.out.mono ?_; rintro e w2 ⟨rfl, O2⟩)
        go_ret2
        rw [HRn.out]
        exact ⟨rfl, hOw.trans O2 (fun y hy => by simp at hy; subst hy; exact .inl htG)⟩
      | some T2 =>
        have HRs : Hid (R = takes base T2 (ls.drop (k + 1))) := by show _ = _; rw [HR.out, hdr, takes_some h1]
        rw [h1] at HC
        have HC := Lib.hid HC
        clear hv hnw ho ho' hl hdr h1 HK
        go_wp2_with (go_at_call 180; refine HC.out.mono ?_; rintro e w2 ⟨rfl, G2, K2, O2, B2⟩)
        go_roundw
        case rel => exact ⟨k + 1, G2, T2, by omega, by go_num, K2, HFr.out w2 Gk O2 HB, fun y hy => by
          rcases B2 y hy with hz | hz
          · exact HB y hz
          · have := HO.size
            exact .inr (by omega), HRs⟩
        case measure => simp [intOf]; omega
    · have HRe : Hid (R = some Tq) := by show _ = _; rw [HR.out, List.drop_of_length_le (by omega), takes_nil]
      go_wp2
      go_ret2
      rw [HRe.out]
      exact ⟨rfl, Gk, HK, hOw, fun y hy => by
        rcases HB y hy with hz | hz
        · exact .inl hz
        · have := O1.size
          exact .inr (by omega)⟩
end
end Go.Proofs.YtgnilldcfpgpaaaGreatDoor
namespace Go.Proofs.YtgnilldcfpgpaaaGreatDoor
open Go.RowKit Go.Maps
theorem readD_small {w : World} {d : Nat} {F : List Nat} {S : Dst} (h : Disk w d F S) (s : ByteArray) : (readD S s).length ≤ 1073741824 := by
  obtain ⟨g1, g2, g3⟩ := h.good
  unfold readD
  cases hg : get S.fs s with
  | none => simp
  | some f => have := used_le (get_some hg).1; simp only []; omega
theorem oneBody_le (b : List UInt8) : (oneBody b).length ≤ b.length := by
  unfold oneBody body
  split
  · split
    · rw [List.length_take, List.length_drop]; omega
    · simp
  · simp
theorem loadD_small {w : World} {d : Nat} {F : List Nat} {S : Dst} (h : Disk w d F S) (s : ByteArray) : (loadD S s).length ≤ 1073741824 := by
  unfold loadD
  split
  · have := readD_small h s; have := oneBody_le (readD S s); omega
  · simp
theorem loadE_cases (S : Dst) (s : ByteArray) : loadE S s = 0 ∨ loadE S s = 3 ∨ loadE S s = 7 := by
  unfold loadE
  split
  · split
    · exact .inl rfl
    · exact .inr (.inl rfl)
  · exact .inr (.inr rfl)
def L0 : LS := ⟨0, [], [], false⟩
section
variable {w : World} {d g : Nat} {img log : ByteArray} {F G : List Nat} {S : Dst} {L : LS}
def Imaged (w : World) (d g : Nat) (img log : ByteArray) (G : List Nat) (r : Nat) (v : Nat × List UInt8) (e : Ending) (w' : World) : Prop :=
  e = .returned (.int .i64 (r : Int)) ∧ ∃ G', Lg w' d g img log G' ⟨v.1, v.2, [], false⟩ ∧ Only G w w' ∧ ∀ y ∈ G', y ∈ G ∨ w.heap.size ≤ y
set_option maxHeartbeats 800000 in
set_option maxRecDepth 100000 in
theorem readImage_not (hD : Disk w d F S) (h : Lg w d g img log G L0) (himg : img.size ≤ maxLen) (ht : Tab w) (h0 : loadE S img = 3 ∨ loadE S img = 7) :
    Calls Tryz.prog 120 #[.pointer (some ⟨g, 0, none⟩)] w (Imaged w d g img log G (imgE S img) (imgV S img)) := by
  obtain ⟨c0, c1, _, _, _, _, _, hg⟩ := h.cells
  have HX := Lib.hid (fun (W : World) (o : Only [] w W) => load_any (hD.keep o) img himg (ht.keep o))
  have hsm := loadD_small hD img
  have HL := Lib.hid h
  have same : Hid (∀ (r : Nat) (w' : World), Only [] w w' → Imaged w d g img log G r (0, []) (.returned (.int .i64 (r : Int))) w') := fun r w' o => ⟨rfl, G, HL.out.keep o, o.mono (fun _ h => nomatch h), fun _ hy => .inl hy⟩
  rcases h0 with h0 | h0
  · have e1 : imgE S img = 3 := by unfold imgE; rw [h0, if_neg (by omega), if_neg (by omega)]
    have e2 : imgV S img = (0, []) := by unfold imgV; rw [h0, if_neg (by omega)]
    rw [e1, e2]
    rw [h0] at HX
    clear e1 e2 h0 h hD ht hsm
    go_enter Tryz.func120, Tryz.ntmps120
    go_wp2
    go_region_held3 (fun w' => w'.cell? ⟨g, 0, none⟩ = some (.pointer (some ⟨d, 0, none⟩)) ∧ w'.cell? ⟨g, 1, none⟩ = some (.string img)) (first | go_keep | exact ⟨k0, k1⟩)
      ((go_at_call 177; refine (HX.out _ (Only.refl [] w).drew).mono ?_; clear HX; rintro e w1 ⟨A1, c1', rfl, V1, O1, B1⟩; have O1' := (Only.refl [] w).drew.then O1; have k0 := O1'.cellSome c0 (fun hm => nomatch hm); have k1 := O1'.cellSome c1 (fun hm => nomatch hm)))
    go_wp2
    go_ret
    exact same.out 3 w1 O1'
  · have e1 : imgE S img = 0 := by unfold imgE; rw [h0, if_pos rfl]
    have e2 : imgV S img = (0, []) := by unfold imgV; rw [h0, if_neg (by omega)]
    rw [e1, e2]
    rw [h0] at HX
    clear e1 e2 h0 h hD ht hsm
    go_enter Tryz.func120, Tryz.ntmps120
    go_wp2
    go_region_held3 (fun w' => w'.cell? ⟨g, 0, none⟩ = some (.pointer (some ⟨d, 0, none⟩)) ∧ w'.cell? ⟨g, 1, none⟩ = some (.string img)) (first | go_keep | exact ⟨k0, k1⟩)
      ((go_at_call 177; refine (HX.out _ (Only.refl [] w).drew).mono ?_; clear HX; rintro e w1 ⟨A1, c1', rfl, V1, O1, B1⟩; have O1' := (Only.refl [] w).drew.then O1; have k0 := O1'.cellSome c0 (fun hm => nomatch hm); have k1 := O1'.cellSome c1 (fun hm => nomatch hm)))
    go_wp2
    go_ret
    exact same.out 0 w1 O1'
set_option maxHeartbeats 800000 in
set_option maxRecDepth 100000 in
theorem readImage_bad (hD : Disk w d F S) (h : Lg w d g img log G L0) (himg : img.size ≤ maxLen) (ht : Tab w) (h0 : loadE S img = 0) (hp : prsR (loadD S img) = none) :
    Calls Tryz.prog 120 #[.pointer (some ⟨g, 0, none⟩)] w (Imaged w d g img log G (imgE S img) (imgV S img)) := by
  obtain ⟨c0, c1, _, _, _, _, _, hg⟩ := h.cells
  have HX := Lib.hid (fun (W : World) (o : Only [] w W) => load_any (hD.keep o) img himg (ht.keep o))
  have hsm := loadD_small hD img
  have HL := Lib.hid h
  have same : Hid (∀ (r : Nat) (w' : World), Only [] w w' → Imaged w d g img log G r (0, []) (.returned (.int .i64 (r : Int))) w') := fun r w' o => ⟨rfl, G, HL.out.keep o, o.mono (fun _ h => nomatch h), fun _ hy => .inl hy⟩
  have e1 : imgE S img = 3 := by unfold imgE; rw [h0, if_neg (by omega), if_pos rfl, hp]; rfl
  have e2 : imgV S img = (0, []) := by unfold imgV; rw [h0, if_pos rfl, hp]; rfl
  rw [e1, e2]
  rw [h0] at HX
  obtain ⟨b, hb⟩ : ∃ b, loadD S img = b := ⟨_, rfl⟩
  rw [hb] at HX hsm hp
  have HPP := Lib.hid (fun (W : World) (A : Option Addr) (c : Nat) (hs : Sl W A b.length (bvs b)) => (show Calls Tryz.prog 178 #[.slice A b.length c] W fun e w' => e = .returned (.tuple #[.int .i64 0, .slice none 0 0, .bool false]) ∧ Only [] W w' from by
    have HP := parse_any A b.length c b W hs (by omega)
    unfold Parsed at HP
    rw [hp] at HP
    exact HP))
  clear e1 e2 h0 hb hp h hD ht
  go_enter Tryz.func120, Tryz.ntmps120
  go_wp2
  go_region_held3 (fun w' => w'.cell? ⟨g, 0, none⟩ = some (.pointer (some ⟨d, 0, none⟩)) ∧ w'.cell? ⟨g, 1, none⟩ = some (.string img)) (first | go_keep | exact ⟨k0, k1⟩)
    ((go_at_call 177; refine (HX.out _ (Only.refl [] w).drew).mono ?_; clear HX; rintro e w1 ⟨A1, c1', rfl, V1, O1, B1⟩; have O1' := (Only.refl [] w).drew.then O1; have k0 := O1'.cellSome c0 (fun hm => nomatch hm); have k1 := O1'.cellSome c1 (fun hm => nomatch hm)))
  go_wp2_with (go_at_call 178; refine (HPP.out w1 A1 c1' V1.sl).mono ?_; clear HPP; rintro e w2 ⟨rfl, O2⟩)
  go_ret
  exact same.out 3 w2 (O1'.then O2)
set_option maxHeartbeats 800000 in
set_option maxRecDepth 100000 in
theorem readImage_good (hD : Disk w d F S) (h : Lg w d g img log G L0) (himg : img.size ≤ maxLen) (ht : Tab w) (h0 : loadE S img = 0) (k : Nat) (p : List UInt8) (hp : prsR (loadD S img) = some (k, p)) :
    Calls Tryz.prog 120 #[.pointer (some ⟨g, 0, none⟩)] w (Imaged w d g img log G (imgE S img) (imgV S img)) := by
  obtain ⟨c0, c1, _, _, _, _, _, hg⟩ := h.cells
  have HX := Lib.hid (fun (W : World) (o : Only [] w W) => load_any (hD.keep o) img himg (ht.keep o))
  have hsm := loadD_small hD img
  have e1 : imgE S img = 0 := by unfold imgE; rw [h0, if_neg (by omega), if_pos rfl, hp]; rfl
  have e2 : imgV S img = (k, p) := by unfold imgV; rw [h0, if_pos rfl, hp]; rfl
  rw [e1, e2]
  rw [h0] at HX
  obtain ⟨hk40, hpl⟩ := prsR_small hp
  obtain ⟨b, hb⟩ : ∃ b, loadD S img = b := ⟨_, rfl⟩
  rw [hb] at HX hsm hp hpl
  have HPP := Lib.hid (fun (W : World) (A : Option Addr) (c : Nat) (hs : Sl W A b.length (bvs b)) => (show Calls Tryz.prog 178 #[.slice A b.length c] W fun e w' => ∃ A c, e = .returned (.tuple #[.int .i64 (k : Int), .slice A p.length c, .bool true]) ∧ Own w' 5 A p.length c (bvs p) ∧ Only [] W w' ∧ ∀ x ∈ blks A, W.heap.size ≤ x from by
    have HP := parse_any A b.length c b W hs (by omega)
    unfold Parsed at HP
    rw [hp] at HP
    exact HP))
  obtain ⟨Ad, cd, Ae, ce, g1, g2, ⟨g30, vs, g31, g32, g33⟩, g7, g8, g9, g10⟩ := h
  have HB := Lib.hid g1
  have fin : Hid (∀ (w2 : World) (A2 : Option Addr) (c2 : Nat), Only [] w w2 → Own w2 5 A2 p.length c2 (bvs p) → (∀ x ∈ blks A2, w.heap.size ≤ x) → Imaged w d g img log G 0 (k, p) (.returned (.int .i64 0)) ((w2.setCell ⟨g, 3, none⟩ (.int .i64 (k : Int))).setCell ⟨g, 4, none⟩ (.slice A2 p.length c2))) := by
    intro w2 A2 c2 O2 V2 B2
    have HB2 := HB.out.only O2 (fun hm => nomatch hm)
    have hoff := own_off V2 HB2 (by decide)
    have h2 := O2.size
    have e2' := g31.keep O2
    have heo := own_off e2' HB2 (by decide)
    refine ⟨rfl, G ++ blks A2, ⟨A2, c2, Ae, ce, ?_, (V2.setFar hoff _).setFar hoff _, ⟨rfl, vs, (e2'.setFar heo _).setFar heo _, fun x hx => by simp [g32 x hx], fun i l hi => by simp at hi⟩, by simp [g7], fun x hx => by simp [hx], fun x hx => ?_, hk40, by show p.length ≤ _; omega, by simp, by simp⟩, ((O2.mono (ss := G) (fun _ h => nomatch h)).setCell (.inl g7) _).setCell (.inl g7) _, fun y hy => ?_⟩
    · have := (HB2.set 3 (.int .i64 (k : Int))).set 4 (.slice A2 p.length c2)
      simpa [L0] using this
    · have hs6 : ((w2.setCell ⟨g, 3, none⟩ (.int .i64 (k : Int))).setCell ⟨g, 4, none⟩ (.slice A2 p.length c2)).heap.size = w2.heap.size := by simp [World.setCell]
      rw [hs6]
      rcases List.mem_append.1 hx with hy | hy
      · have := g9 x hy; omega
      · exact V2.lt hy
    · rcases List.mem_append.1 hy with hz | hz
      · exact .inl hz
      · exact .inr (B2 y hz)
  clear e1 e2 h0 hb hp hD ht g1 g2 g30 g31 g32 g33 g7 g8 g9 g10
  go_enter Tryz.func120, Tryz.ntmps120
  go_wp2
  go_region_held3 (fun w' => w'.cell? ⟨g, 0, none⟩ = some (.pointer (some ⟨d, 0, none⟩)) ∧ w'.cell? ⟨g, 1, none⟩ = some (.string img)) (first | go_keep | exact ⟨k0, k1⟩)
    ((go_at_call 177; refine (HX.out _ (Only.refl [] w).drew).mono ?_; clear HX; rintro e w1 ⟨A1, c1', rfl, V1, O1, B1⟩; have O1' := (Only.refl [] w).drew.then O1; have k0 := O1'.cellSome c0 (fun hm => nomatch hm); have k1 := O1'.cellSome c1 (fun hm => nomatch hm)))
  go_wp2_with (go_at_call 178; refine (HPP.out w1 A1 c1' V1.sl).mono ?_; clear HPP; rintro e w2 ⟨A2, c2, rfl, V2, O2, B2⟩; have O12 := O1'.then O2; have HB2 := HB.out.only O12 (fun hm => nomatch hm); have x3 : w2.cell? ⟨g, 3, none⟩ = some (.int .i64 (L0.base : Int)) := (by rw [HB2.cell]; rfl); have x4 : w2.cell? ⟨g, 4, none⟩ = some (.slice Ad L0.data.length cd) := (by rw [HB2.cell]; rfl); have f3 := HB2.free 3; have f4 := HB2.free 4)
  go_ret
  exact fin.out w2 A2 c2 O12 V2 (fun x hx => Nat.le_trans O1'.size (B2 x hx))
end
end Go.Proofs.YtgnilldcfpgpaaaGreatDoor
namespace Go.Proofs.YtgnilldcfpgpaaaGreatDoor
open Go.RowKit Go.Maps
def past (left : Lit → Bool) (fs : List Fl) : List Fl := fs.filter fun f => !left (keyLit f.name)
theorem past_step {left : Lit → Bool} {f : Fl} (hl : left (keyLit f.name) = true) : ∀ {fs : List Fl}, fs.Pairwise (fun f g => bef f.name g.name = true) → f ∈ fs → past (fun z => left z && !z.sameKey (keyLit f.name)) fs = ins f (past left fs)
  | [], _, hm => by cases hm
  | g :: r, hp, hm => by
    obtain ⟨h1, h2⟩ := List.pairwise_cons.1 hp
    by_cases e : g.name = f.name
    · have hfg : g = f := by
        rcases List.mem_cons.1 hm with h | h
        · exact h.symm
        · exact absurd e (bef_ne (h1 f h))
      subst hfg
      have hr : past (fun z => left z && !z.sameKey (keyLit g.name)) r = past left r := by
        unfold past
        refine List.filter_congr fun x hx => ?_
        have : (keyLit x.name).sameKey (keyLit g.name) = false := by rw [same_key, decide_eq_false_iff_not]; exact (bef_ne (h1 x hx)).symm
        simp [this]
      have hall : ∀ x ∈ past left r, bef g.name x.name = true := fun x hx => h1 x (List.mem_filter.1 hx).1
      have hins : ins g (past left r) = g :: past left r := by
        cases hpl : past left r with
        | nil => rfl
        | cons x t =>
          unfold ins
          rw [if_pos (hall x (by rw [hpl]; simp))]
      unfold past at hr hins ⊢
      rw [List.filter_cons, List.filter_cons, hr]
      simp only [same_key, decide_true, Bool.not_true, Bool.and_false, Bool.not_false, if_true, hl, Bool.false_eq_true, if_false]
      exact hins.symm
    · have hf : f ∈ r := by
        rcases List.mem_cons.1 hm with h | h
        · exact absurd (by rw [h]) e
        · exact h
      have ih := past_step hl h2 hf
      have hsk : (keyLit g.name).sameKey (keyLit f.name) = false := by rw [same_key, decide_eq_false_iff_not]; exact e
      have hb : bef f.name g.name = false := bef_asymm (h1 f hf)
      unfold past at ih ⊢
      rw [List.filter_cons, List.filter_cons, ih]
      simp only [hsk, Bool.not_false, Bool.and_true]
      cases hg : left (keyLit g.name)
      · simp only [Bool.not_false, if_true]
        rw [ins, hb]
        simp
      · simp
theorem past_all {left : Lit → Bool} (h : ∀ kl, left kl = false) (fs : List Fl) : past left fs = fs := by
  unfold past
  rw [List.filter_eq_self]
  intro x _
  simp [h]
theorem past_none {cs : List Fc} : past (has (Dm cs)) (cs.map (·.f)) = [] := by
  unfold past
  rw [List.filter_eq_nil_iff]
  intro x hx
  obtain ⟨c, hc, rfl⟩ := List.mem_map.1 hx
  have : has (Dm cs) (keyLit c.f.name) = true := List.any_eq_true.2 ⟨ent c, List.mem_map_of_mem hc, by show (keyLit c.f.name).sameKey _ = true; rw [same_key]; simp⟩
  simp [this]
theorem iter_other {w : World} {m r n cnt : Nat} {D : DataW Unit} {left : Lit → Bool} {d room u lf : Nat} {fz : Bool} {mb : Option Nat} {cs : List Fc} (h : Rg w m r n D left cnt) (hk : Dk w d room u fz lf mb cs) : r ∉ fpt d mb cs := by
  intro hx
  rcases mem_fpt.1 hx with e | e | ⟨c, hc, e⟩ | ⟨c, hc, hx⟩
  · exact iter_ne h hk.bk e
  · subst e
    obtain ⟨es, clock, since, seen, c0, _, _, _, _, hit, _⟩ := h
    obtain ⟨es2, clock2, hb, _⟩ := (show w.ownsMap _ _ _ r _ (Dm cs) from hk.map)
    rw [hit] at hb
    cases hb
  · exact iter_ne h (hk.file c hc).1 e
  · exact iter_own h (hk.file c hc).2 hx
def Copied (S : Dst) (w : World) (e : Ending) (w' : World) : Prop :=
  ∃ d' F', e = .returned (.pointer (some ⟨d', 0, none⟩)) ∧ Disk w' d' F' S ∧ Only [] w w' ∧ ∀ x ∈ F', w.heap.size ≤ x
section
variable {w : World} {d : Nat} {F : List Nat} {S : Dst}
set_option maxRecDepth 100000 in
set_option maxHeartbeats 1000000 in
theorem copy_any (h : Disk w d F S) : Calls Tryz.prog 235 #[.pointer (some ⟨d, 0, none⟩)] w (Copied (copyS S) w) := by
  obtain ⟨lf, mb, cs, hk, h1, h2, h3, rfl⟩ := h
  obtain ⟨c0, c1, c2, _, _⟩ := hk.cell
  have hlt := hk.bk.lt
  have hb0 := hk.room'
  have DN := (dk_new w S.room hb0 hk.u').drew
  have OA : Only [] w (w.alloc (.cells #[.int .i64 S.room, .int .i64 (used S.fs), .map none, .bool false, .int .i64 0] 112)).drew := ((Only.refl [] w).alloc _).drew
  have c2A : (w.alloc (.cells #[.int .i64 S.room, .int .i64 (used S.fs), .map none, .bool false, .int .i64 0] 112)).drew.cell? ⟨d, 2, none⟩ = some (.map mb) := (OA.cell hlt (by simp)).trans c2
  have HI := Lib.hid (And.intro h1 h3)
  have HK := Lib.hid hk
  clear hk h1 h2 h3
  go_enter Tryz.func235, Tryz.ntmps235
  go_wp2
  go_region
  obtain ⟨d2, hd2⟩ : ∃ d2, d2 = w.heap.size := ⟨_, rfl⟩
  rw [← hd2] at DN ⊢
  have HD2 := Lib.hid hd2
  generalize (w.alloc (.cells #[.int .i64 S.room, .int .i64 (used S.fs), .map none, .bool false, .int .i64 0] 112)).drew = w1 at DN OA c2A ⊢
  clear hd2 c0 c1 c2
  have hlt1 : d < w1.heap.size := Nat.lt_of_lt_of_le hlt OA.size
  cases mb with
  | none =>
    have hcs : cs = [] := HK.out.map
    subst hcs
    have hrg := run_range_nilMap (P := Tryz.prog) w1 110 9 116 Tryz.underlying110
    have hnx : ∀ ty, (Instr.next (.pointer (some ⟨w1.heap.size, 0, none⟩)) false ty).run Tryz.prog (w1.alloc (.mapIter none 0 #[] 0)) = _ := fun ty => run_next_nilMap w1 ty 0 0 #[]
    go_wp2
    refine wp_loop_rounds 1 ?_
    rw [rounds_succ]
    go_wp2
    go_ret
    have hfs : S.fs = [] := HI.out.1.symm
    have D2 := DN.keep ((Only.refl [] w1).alloc (.mapIter none 0 #[] 0))
    refine ⟨d2, [d2], rfl, ⟨0, none, [], D2, hfs.symm, fun _ h => (by cases h), HI.out.2, rfl⟩, OA.alloc _, fun x hx => ?_⟩
    simp at hx
    rw [hx, HD2.out]
    exact Nat.le_refl _
  | some m =>
    have hmap : w1.ownsMap Tryz.prog 9 ptrElem m cs.length (Dm cs) := (HK.out.keep OA).map
    have hmlt : m < w.heap.size := HK.out.lt (mem_fpt.2 (.inr (.inl rfl)))
    go_wp2_with (at_range; refine wpList_range_own _ rfl _ 110 rfl 9 116 keyed Tryz.underlying110 ptrElem m cs.length (Dm cs) rfl hmap ?_; intro w0 hrg0 hg0 hs0)
    go_frame
    have O0 : Only [] w1 w0 := by simpa using Only.of_grown hg0
    have D0 := DN.keep O0
    obtain ⟨r, hr⟩ : ∃ r, r = w1.heap.size := ⟨_, rfl⟩
    rw [← hr] at hrg0 ⊢
    have HR : Hid (w.heap.size ≤ r) := by show _ ≤ _; rw [hr]; exact OA.size
    have HS0 : Hid (([] : List Fc).map (·.f) = past (has (Dm cs)) S.fs) := by show _ = _; rw [← HI.out.1, past_none]; rfl
    have HF0 : Hid (∀ x ∈ fpt d2 none [], w.heap.size ≤ x) := fun x hx => by
      rcases mem_fpt.1 hx with rfl | e | ⟨c, hc, _⟩ | ⟨c, hc, _⟩
      · rw [HD2.out]; exact Nat.le_refl _
      · cases e
      · cases hc
      · cases hc
    have OW0 := OA.then O0
    clear hg0 hs0 hmap hr DN c2A
    go_loopw [23] (fun _ wr => ∃ (left : Lit → Bool) (cnt : Nat) (mb2 : Option Nat) (csx : List Fc), Rg wr m r cs.length (Dm cs) left cnt ∧ Dk wr d2 S.room (used S.fs) false 0 mb2 csx ∧ Hid (csx.map (·.f) = past left S.fs) ∧ Only [] w wr ∧ ∀ x ∈ fpt d2 mb2 csx, w.heap.size ≤ x) (fun _ wr => wr.rangeLeft m r)
    case atStart => exact ⟨_, _, none, [], hrg0, D0, HS0, OW0, HF0.out⟩
    case round =>
      obtain ⟨left, cnt, mb2, csx, hrg, N1, HF, HO, HFP⟩ := hrel
      go_wp2_with (first
        | (at_next; refine wpList_next_disk rfl _ rfl rfl hrg ?_ ?_))
      · intro hl0
        have HL0 := Lib.hid hl0
        clear hl0
        go_wp2
        go_ret
        have hfs : csx.map (·.f) = S.fs := by rw [HF.out, past_all HL0.out]
        exact ⟨d2, _, rfl, ⟨0, mb2, csx, N1, hfs, fun _ h => (by cases h), HI.out.2, rfl⟩, HO, HFP⟩
      · intro c w2 cnt1 hc hlk hrg1 hcnt O1 hen
        have hcl := Lib.hid hrg.left_eq
        have hmf : m ∉ fpt d2 mb2 csx := fun hx => by have := HFP m hx; omega
        have hrf := iter_other hrg N1
        have N2 := N1.only O1 (fun x hx hm => by simp at hm; subst hm; exact hrf hx)
        have HO2 : Only [] w w2 := HO.trans O1 (fun x hx => .inr (by simp at hx; rw [hx]; exact HR.out))
        have D2 := HK.out.keep HO2
        obtain ⟨e0, e1⟩ := D2.fcell hc
        have hown := (D2.file c hc).2
        have hbig := D2.big _ hc
        have hla := D2.lasts hc
        have hnm := D2.good.names _ (List.mem_map_of_mem hc)
        have hcf : c.f ∈ S.fs := by rw [← HI.out.1]; exact List.mem_map_of_mem hc
        have hrise : S.fs.Pairwise (fun f g => bef f.name g.name = true) := by rw [← HI.out.1]; exact HK.out.good.rise
        have hfn : findC csx c.f.name = none := findC_none.2 fun x hx e => by
          have hxm : x.f ∈ csx.map (·.f) := List.mem_map_of_mem hx
          rw [HF.out] at hxm
          have := (List.mem_filter.1 hxm).2
          rw [e, hlk] at this
          cases this
        have hlen : csx.length < 4096 := by
          have l1 : csx.length = (past left S.fs).length := by rw [← HF.out, List.length_map]
          have l2 : (past left S.fs).length < S.fs.length := by
            unfold past
            exact List.length_filter_lt_length_iff_exists.2 ⟨c.f, hcf, by simp [hlk]⟩
          have l3 := HK.out.good.len
          rw [HI.out.1] at l3
          omega
        have HPS : Hid (past (fun z => left z && !z.sameKey (keyLit c.f.name)) S.fs = ins c.f (past left S.fs)) := past_step hlk hrise hcf
        have HCL := Lib.hid (fun (W : World) (O : Only [] w2 W) => clone_any c.A c.f.data.length c.cap c.f.data W (hown.keep O).sl (by omega))
        have HPUT := Lib.hid (fun (W : World) (A4 : Option Addr) (c4 : Nat) (O : Only [] w2 W) (V : Own W 5 A4 c.f.data.length c4 (bvs c.f.data)) (B : ∀ k ∈ blks A4, w2.heap.size ≤ k) =>
          put_any ((N2.keep O).keep ((Only.refl [] W).alloc (.cells #[.slice A4 c.f.data.length c4, .int .i64 c.f.lasts] 118))) (c := ⟨c.f, W.heap.size, A4, c4⟩) ⟨Bk.new W _ _, V.alloc _⟩ hfn
            (fun hm => by
              obtain ⟨x, hx, e⟩ := List.mem_map.1 hm
              have := ((N2.keep O).file x hx).1.lt
              dsimp only at e
              omega)
            (fun x hx hm => by
              obtain ⟨y, hy, hxy⟩ := List.mem_flatMap.1 hm
              have h1 := (N2.file y hy).2.lt hxy
              have h2 := B x hx
              omega) hlen hnm hla hbig)
        dsimp only at HPUT
        have hbne : c.blk ≠ d2 := fun e => by have h1 := HK.out.lt (mem_fpt.2 (.inr (.inr (.inl ⟨c, hc, rfl⟩)))); have h2 := HFP d2 (mem_fpt.2 (.inl rfl)); omega
        have hbnm : ∀ x ∈ d2 :: mb2.toList, c.blk ≠ x := fun x hx e => by have h1 := HK.out.lt (mem_fpt.2 (.inr (.inr (.inl ⟨c, hc, rfl⟩)))); have h2 := HFP x (dmb_sub x hx); omega
        clear hown hfn hlen hrise hcf hnm hbig hla hrg hlk hc D2
        go_wp2_with fail
        go_region_held3 (fun w' => w'.cell? ⟨c.blk, 0, none⟩ = some (.slice c.A c.f.data.length c.cap) ∧ w'.cell? ⟨c.blk, 1, none⟩ = some (.int .i64 c.f.lasts)) (first | go_keep | exact ⟨k0, k1⟩ | exact ⟨j0, j1⟩)
          (first
            | (go_at_call 98; refine (HCL.out _ ((Only.refl [] w2).drew)).mono ?_; rintro e w4 ⟨A4, c4, rfl, V4, O4, B4⟩; have k0 := O4.cellSome (p := ⟨c.blk, 0, none⟩) e0 (by simp); have k1 := O4.cellSome (p := ⟨c.blk, 1, none⟩) e1 (by simp))
            | (go_at_call 204; refine (HPUT.out w4 A4 c4 (((Only.refl [] w2).drew).then O4) V4 B4).mono ?_; rintro e w6 ⟨rfl, mb6, N6, O6, M6⟩; have j0 := O6.cellSome (p := ⟨c.blk, 0, none⟩) (((Only.refl [] w4).alloc _).cellSome k0 (by simp)) (fun hm => hbnm _ hm rfl); have j1 := O6.cellSome (p := ⟨c.blk, 1, none⟩) (((Only.refl [] w4).alloc _).cellSome k1 (by simp)) (fun hm => hbnm _ hm rfl)))
        have OW4 := ((((Only.refl [] w2).drew).then O4).alloc (.cells #[.slice A4 c.f.data.length c4, .int .i64 c.f.lasts] 118))
        have HRG := Lib.hid (ranges_only (ranges_only hrg1 OW4 (by simp) (by simp)) O6 (fun hx => hmf (dmb_sub m hx)) (fun hx => hrf (dmb_sub r hx)))
        have hz2 := HO2.size
        have hz4 := OW4.size
        have HZ : Hid (w.heap.size ≤ w4.heap.size) := by
          show _ ≤ _
          have := (((Only.refl [] w2).drew).then O4).size
          omega
        clear e0 e1 k0 k1 j0 j1 hz4
        go_wp2
        go_roundw
        case rel =>
          refine ⟨_, cnt1, mb6, _, HRG.out, N6, ?_, (HO2.then OW4).trans O6 (fun x hx => .inr (HFP x (dmb_sub x hx))), fun x hx => ?_⟩
          · show _ = past _ _
            rw [map_insC, HPS.out, HF.out]
          · rcases mem_fpt.1 hx with rfl | e | ⟨y, hm, rfl⟩ | ⟨y, hm, hx2⟩
            · exact HFP _ (mem_fpt.2 (.inl rfl))
            · rcases M6 x e with e | e
              · exact HFP _ (mem_fpt.2 (.inr (.inl e)))
              · have := HZ.out
                rw [World.size_alloc] at e
                omega
            · rcases mem_insC.1 hm with rfl | hm
              · exact HZ.out
              · exact HFP _ (mem_fpt.2 (.inr (.inr (.inl ⟨y, hm, rfl⟩))))
            · rcases mem_insC.1 hm with rfl | hm
              · have h1 := B4 x hx2
                have h2 : (World.drew w2).heap.size = w2.heap.size := rfl
                omega
              · exact HFP _ (mem_fpt.2 (.inr (.inr (.inr ⟨y, hm, hx2⟩))))
        case measure => rw [HRG.out.left_eq, hcl.out]; omega
end
end Go.Proofs.YtgnilldcfpgpaaaGreatDoor
namespace Go.Proofs.YtgnilldcfpgpaaaGreatDoor
open Go.RowKit Go.Maps
section
variable {w : World} {d g : Nat} {img log : ByteArray} {F G : List Nat} {S : Dst} {L : LS}
set_option maxRecDepth 100000 in
theorem lasts_any (hD : Disk w d F S) (h : Lg w d g img log G L) (hlog : log.size ≤ maxLen) (n : Nat) :
    Calls Tryz.prog 217 #[.pointer (some ⟨g, 0, none⟩), .int .i64 (n : Int)] w fun e w' => e = .returned (.bool (lastsB S log n)) ∧ Only [] w w' := by
  obtain ⟨c0, _, c2, _, _, _, _, hg⟩ := h.cells
  have HC := Lib.hid (copy_any hD)
  have HX := Lib.hid (fun (W : World) (d : Nat) (F : List Nat) (h : Disk W d F (copyS S)) => crash_any h 0 (by omega))
  have HR := Lib.hid (fun (W : World) (d : Nat) (F : List Nat) (h : Disk W d F (crashS (copyS S) 0)) => read_any h log hlog)
  have HE : Hid (lastsB S log n = decide (((readD (crashS (copyS S) 0) log).length : Int) = (n : Int))) := by
    show _ = _
    unfold lastsB
    rw [Bool.eq_iff_iff]
    simp only [decide_eq_true_eq]
    omega
  obtain ⟨b, hb⟩ : ∃ b, readD (crashS (copyS S) 0) log = b := ⟨_, rfl⟩
  rw [hb] at HR HE
  have hgl := hg
  clear hD h hb
  go_enter Tryz.func217, Tryz.ntmps217
  go_wp2_with (first
    | (go_at_call 235; refine HC.out.mono ?_; clear HC; rintro e w1 ⟨d1, F1, rfl, D1, O1, B1⟩)
    | (go_at_call 19; refine (HX.out w1 d1 F1 D1).mono ?_; clear HX; rintro e w2 ⟨rfl, F2, D2, O2, B2⟩; have O12 : Only [] w w2 := O1.trans O2 (fun x hx => .inr (B1 x hx)); have k2 := O12.cellSome c2 (fun hm => nomatch hm))
    | (go_at_call 175; refine (HR.out w2 d1 F2 D2).mono ?_; clear HR; rintro e w3 ⟨A3, c3, rfl, V3, O3, B3⟩))
  go_ret
  refine ⟨?_, O12.then O3⟩
  rw [HE.out]
  rfl
end
end Go.Proofs.YtgnilldcfpgpaaaGreatDoor
