import Derived.Test.YtblggoneifmoeaaDoorJOne
/-
  ledger's At.
-/
namespace Go.Proofs.YtblggoneifmoeaaDoor
open Go.RowKit Go.Maps
section
variable {w : World} {d g : Nat} {img log : ByteArray} {F G : List Nat} {S : St} {L : LS}
set_option maxRecDepth 100000 in
theorem at_bad (h : Lg w d g img log G L) (i : Int) (hi : i ≤ (L.base : Int) ∨ (L.last : Int) < i) :
    Calls Tryd.prog 16 #[.pointer (some ⟨g, 0, none⟩), .int .i64 i] w fun e w' => e = .returned (.tuple #[.slice none 0 0, .int .i64 7]) ∧ Only [] w w' := by
  obtain ⟨_, _, _, c3, _, _, _, hg⟩ := h.cells
  have HL := Lib.hid (Last_any h)
  obtain ⟨x, hx⟩ : ∃ x, L.base = x := ⟨_, rfl⟩
  obtain ⟨y, hy⟩ : ∃ y, L.last = y := ⟨_, rfl⟩
  rw [hx] at c3 hi
  rw [hy] at HL hi
  clear h hx hy
  by_cases h1 : i ≤ (x : Int)
  · clear hi
    go_enter Tryd.func16, Tryd.ntmps16
    go_wp2_with (go_at_call 13; refine HL.out.mono ?_; clear HL; rintro e w1 ⟨rfl, O1⟩)
    go_ret2
    exact ⟨rfl, Only.refl _ _⟩
  · have h2 : (y : Int) < i := by omega
    clear hi
    go_enter Tryd.func16, Tryd.ntmps16
    go_wp2_with (go_at_call 13; refine HL.out.mono ?_; clear HL; rintro e w1 ⟨rfl, O1⟩)
    go_ret2
    exact ⟨rfl, O1⟩
set_option maxRecDepth 100000 in
theorem at_good (h : Lg w d g img log G L) (i : Int) (j : Nat) (hj : j < L.es.length) (hi : i = (L.base : Int) + 1 + (j : Int)) :
    Calls Tryd.prog 16 #[.pointer (some ⟨g, 0, none⟩), .int .i64 i] w fun e w' => ∃ A c, e = .returned (.tuple #[.slice A L.es[j].length c, .int .i64 0]) ∧ Own w' 5 A L.es[j].length c (bvs L.es[j]) ∧ Only [] w w' ∧ ∀ k ∈ blks A, w.heap.size ≤ k := by
  obtain ⟨_, _, _, c3, _, ⟨Ae, ce, c5, hE⟩, _, hg⟩ := h.cells
  have HL := Lib.hid (Last_any h)
  obtain ⟨b1, _, b3⟩ := h.bounds
  have hsm := h.small (List.getElem_mem hj)
  obtain ⟨ad, Ai, ci, rfl, hc, ho, _⟩ := hE.at_ hj hj
  have hlast : (L.last : Int) = (L.base : Int) + (L.es.length : Int) := by unfold LS.last; omega
  obtain ⟨l, hl⟩ : ∃ l, L.es[j] = l := ⟨_, rfl⟩
  rw [hl] at hsm hc ho
  simp only [hl]
  have HCL := Lib.hid (fun (W : World) (o : Only [] w W) => clone_any Ai l.length ci l W (ho.sl.keep o) (by omega))
  obtain ⟨x, hx⟩ : ∃ x, L.base = x := ⟨_, rfl⟩
  obtain ⟨y, hy⟩ : ∃ y, L.last = y := ⟨_, rfl⟩
  obtain ⟨m, hm⟩ : ∃ m, L.es.length = m := ⟨_, rfl⟩
  rw [hx] at c3 hi hlast b1
  rw [hy] at HL hlast
  rw [hm] at c5 hj hlast b3
  clear h hx hy hm hl hE ho hsm
  have h1 : ¬ i ≤ (x : Int) := by omega
  have h2 : ¬ (y : Int) < i := by omega
  have t1 : IntKind.i64.wrap (i - (x : Int)) = 1 + (j : Int) := by
    rw [show i - (x : Int) = 1 + (j : Int) by omega]
    exact IntWalk.i64_in _ (by omega)
  have t2 : IntKind.i64.wrap (1 + (j : Int) - 1) = (j : Int) := by
    rw [show 1 + (j : Int) - 1 = (j : Int) by omega]
    exact IntWalk.i64_in _ (by omega)
  have t3 : (0 : Int) ≤ (j : Int) := by omega
  have t4 : (j : Int) < (m : Int) := by omega
  clear hlast hi
  go_enter Tryd.func16, Tryd.ntmps16
  go_wp2_with (go_at_call 13; refine HL.out.mono ?_; clear HL; rintro e w1 ⟨rfl, O1⟩; have k3 := O1.cellSome c3 (fun hm => nomatch hm); have k5 := O1.cellSome c5 (fun hm => nomatch hm); have kc := O1.cellSome hc (fun hm => nomatch hm))
  go_region_held3 (fun w' => w'.cell? ⟨g, 3, none⟩ = some (.int .i64 (x : Int)) ∧ w'.cell? ⟨g, 5, none⟩ = some (.slice (some ad) m ce) ∧ w'.cell? (ad.add j) = some (.slice Ai l.length ci)) (first | go_keep | exact ⟨j3, j5, jc⟩)
    ((go_at_call 29; refine (HCL.out _ O1.drew).mono ?_; rintro e w2 ⟨A2, c2, rfl, V2, O2, B2⟩; have O2' := O1.drew.then O2; have j3 := O2'.cellSome c3 (fun hm => nomatch hm); have j5 := O2'.cellSome c5 (fun hm => nomatch hm); have jc := O2'.cellSome hc (fun hm => nomatch hm)))
  go_wp2
  go_ret2
  exact ⟨A2, c2, rfl, V2, O2', fun k hk => Nat.le_trans O1.size (B2 k hk)⟩
end
end Go.Proofs.YtblggoneifmoeaaDoor
/-
  ledger's intake: take.
-/
namespace Go.Proofs.YtblggoneifmoeaaDoor
open Go.RowKit Go.Maps
/-- The intake in block t. -/
def Tk (w : World) (t base : Nat) (G : List Nat) (T : Took) : Prop :=
  ∃ Ae ce, Bk w t 75 #[.int .i64 (base : Int), .int .i64 (T.1 : Int), .slice Ae T.2.length ce] ∧ Es G w Ae T.2.length ce T.2 ∧ t ∈ G ∧ (∀ x ∈ G, x < w.heap.size) ∧ base ≤ 1099511627776 ∧ T.1 ≤ 1099511627776 ∧ T.2.length ≤ 1099511627776 ∧ ∀ l ∈ T.2, l.length ≤ 1073741824
theorem rawRow_le (bad : Bool) (l : List UInt8) (n : Int) : (rawRow bad l n).length ≤ l.length := by
  unfold rawRow
  split
  · simp
  · rw [List.length_take]
    omega
theorem takeRest_le (bad : Bool) (l : List UInt8) : (takeRest bad l).length ≤ l.length := by
  unfold takeRest
  split
  · simp
  · rw [List.length_drop]
    omega
theorem prsR_small {b : List UInt8} {k : Nat} {e : List UInt8} (h : prsR b = some (k, e)) : k ≤ 1099511627776 ∧ e.length ≤ b.length := by
  unfold prsR at h
  split at h
  · split at h
    · cases h
    · injection h with h
      injection h with h1 h2
      subst h1
      subst h2
      refine ⟨by omega, ?_⟩
      have h1 := rawRow_le (takeBad (takeBad false b) (takeRest false b)) (takeRest (takeBad false b) (takeRest false b)) (takeV (takeBad false b) (takeRest false b))
      have h2 := takeRest_le (takeBad false b) (takeRest false b)
      have h3 := takeRest_le false b
      unfold pRow rowTook
      omega
  · cases h
section
variable {w : World} {t base : Nat} {G : List Nat} {T : Took}
/-- What take does. -/
def TookR (w : World) (t base : Nat) (G : List Nat) (R : Option Took) (e : Ending) (w' : World) : Prop :=
  match R with
  | none => e = .returned (.int .i64 3) ∧ Only [t] w w'
  | some T' => e = .returned (.int .i64 0) ∧ ∃ G', Tk w' t base G' T' ∧ Only G w w' ∧ ∀ x ∈ G', x ∈ G ∨ w.heap.size ≤ x
theorem Tk.only {rs : List Nat} {w' : World} (h : Tk w t base G T) (o : Only rs w w') (hd : ∀ x ∈ G, x ∉ rs) : Tk w' t base G T := by
  obtain ⟨Ae, ce, h1, h2, h3, h4, h5⟩ := h
  exact ⟨Ae, ce, h1.only o (hd t h3), h2.only o hd, h3, fun x hx => Nat.lt_of_lt_of_le (h4 x hx) o.size, h5⟩
/-- The record ahead, set. -/
theorem Tk.setAhead (h : Tk w t base G T) (k : Nat) (hk : k ≤ 1099511627776) : Tk (w.setCell ⟨t, 1, none⟩ (.int .i64 (k : Int))) t base G (k, T.2) := by
  obtain ⟨Ae, ce, h1, ⟨h2, vs, e2, e3, e4⟩, h4, h5, h6, h7, h8, h9⟩ := h
  refine ⟨Ae, ce, by simpa using h1.set 1 (.int .i64 (k : Int)), ⟨rfl, vs, e2.setFar (own_off e2 h1 (by decide)) _, e3, fun i l hi => ?_⟩, h4, fun x hx => by simpa [World.setCell] using h5 x hx, h6, hk, h8, h9⟩
  obtain ⟨Ai, ci, k1, k2, k3⟩ := e4 i l hi
  exact ⟨Ai, ci, k1, k2.setFar (own_off k2 h1 (by decide)) _, k3⟩
theorem Tk.lt (h : Tk w t base G T) {x : Nat} (hx : x ∈ G) : x < w.heap.size := by
  obtain ⟨Ae, ce, h1, h2, h3, h4, h5⟩ := h
  exact h4 x hx

set_option maxHeartbeats 800000 in
set_option maxRecDepth 100000 in
theorem take_bad (h : Tk w t base G T) (A : Option Addr) (n c : Nat) (p : List UInt8) (hs : Sl w A n (bvs p)) (hn : n ≤ 1073741824) (hb : prsR p = none ∨ ∃ k e, prsR p = some (k, e) ∧ (k < 1 ∨ (0 < T.1 ∧ k ≠ T.1 + 1))) :
    Calls Tryd.prog 38 #[.pointer (some ⟨t, 0, none⟩), .slice A n c] w fun e w' => e = .returned (.int .i64 3) ∧ Only [t] w w' := by
  have HP := parse_any A n c p w hs (by omega)
  obtain ⟨Ae, ce, h1, h2, h3, h4, h5, h6, h7, h8⟩ := h
  have c1 : w.cell? ⟨t, 1, none⟩ = some (.int .i64 (T.1 : Int)) := by rw [h1.cell]; rfl
  obtain ⟨a, ha⟩ : ∃ a, T.1 = a := ⟨_, rfl⟩
  rw [ha] at c1 h6 hb
  rcases hb with hb | ⟨k, e, hb, hc⟩
  · unfold Parsed at HP
    rw [hb] at HP
    have HP := Lib.hid HP
    clear h1 h2 h3 h4 h7 h8 hb ha
    go_enter Tryd.func38, Tryd.ntmps38
    go_wp2_with (go_at_call 36; refine HP.out.mono ?_; clear HP; rintro e w1 ⟨rfl, O1⟩)
    go_ret
    exact ⟨rfl, O1.mono (fun _ h => nomatch h)⟩
  · unfold Parsed at HP
    obtain ⟨hk, _⟩ := prsR_small hb
    rw [hb] at HP
    have HP := Lib.hid HP
    clear h1 h2 h3 h4 h7 h8 hb ha
    by_cases hk1 : k < 1
    · clear hc
      go_enter Tryd.func38, Tryd.ntmps38
      go_wp2_with (go_at_call 36; refine HP.out.mono ?_; clear HP; rintro e w1 ⟨A1, c1', rfl, V1, O1, B1⟩; have k1 := O1.cellSome c1 (fun hm => nomatch hm))
      go_ret
      exact ⟨rfl, O1.mono (fun _ h => nomatch h)⟩
    · have hc1 : 0 < a := by omega
      have hc2 : ((k : Int) != (a : Int) + 1) = true := by rw [bne_iff_ne]; omega
      clear hc
      go_enter Tryd.func38, Tryd.ntmps38
      go_wp2_with (go_at_call 36; refine HP.out.mono ?_; clear HP; rintro e w1 ⟨A1, c1', rfl, V1, O1, B1⟩; have k1 := O1.cellSome c1 (fun hm => nomatch hm))
      go_ret
      exact ⟨rfl, O1.mono (fun _ h => nomatch h)⟩
end
end Go.Proofs.YtblggoneifmoeaaDoor
/-
  ledger's intake: take, where the number may be.
-/
namespace Go.Proofs.YtblggoneifmoeaaDoor
open Go.RowKit Go.Maps
section
variable {w : World} {t base : Nat} {G : List Nat} {T : Took}
set_option maxHeartbeats 800000 in
set_option maxRecDepth 100000 in
theorem take_pass (h : Tk w t base G T) (A : Option Addr) (n c : Nat) (p : List UInt8) (hs : Sl w A n (bvs p)) (hn : n ≤ 1073741824) (k : Nat) (l : List UInt8) (hp : prsR p = some (k, l)) (hk : ¬ k < 1) (hc : ¬ (0 < T.1 ∧ k ≠ T.1 + 1)) (hb : k ≤ base) :
    Calls Tryd.prog 38 #[.pointer (some ⟨t, 0, none⟩), .slice A n c] w (TookR w t base G (some (k, T.2))) := by
  have HP := parse_any A n c p w hs (by omega)
  obtain ⟨hk40, _⟩ := prsR_small hp
  have HT := Lib.hid h
  obtain ⟨Ae, ce, h1, h2, h3, h4, h5, h6, h7, h8⟩ := h
  have HG := Lib.hid h3
  have HB := Lib.hid h1
  have c0 : w.cell? ⟨t, 0, none⟩ = some (.int .i64 (base : Int)) := by rw [h1.cell]; rfl
  have c1 : w.cell? ⟨t, 1, none⟩ = some (.int .i64 (T.1 : Int)) := by rw [h1.cell]; rfl
  obtain ⟨a, ha⟩ : ∃ a, T.1 = a := ⟨_, rfl⟩
  rw [ha] at c1 h6 hc
  unfold Parsed at HP
  rw [hp] at HP
  have HPP := Lib.hid HP
  have fin : Hid (∀ (w1 : World), Only [] w w1 → TookR w t base G (some (k, T.2)) (.returned (.int .i64 0)) (w1.setCell ⟨t, 1, none⟩ (.int .i64 (k : Int)))) := fun w1 O1 =>
    ⟨rfl, G, (HT.out.only O1 (fun _ _ hm => nomatch hm)).setAhead k hk40, (O1.mono (ss := G) (fun _ h => nomatch h)).setCell (.inl HG.out) _, fun x hx => .inl hx⟩
  clear h1 h2 h3 h4 h7 h8 ha hp HP
  rcases Nat.eq_zero_or_pos a with h0 | h0
  · subst h0
    clear hc
    go_enter Tryd.func38, Tryd.ntmps38
    go_wp2_with (go_at_call 36; refine HPP.out.mono ?_; clear HPP; rintro e w1 ⟨A1, c1', rfl, V1, O1, B1⟩; have k1 := O1.cellSome c1 (fun hm => nomatch hm); have k0 := O1.cellSome c0 (fun hm => nomatch hm); have f1 := (HB.out.only O1 (fun hm => nomatch hm)).free 1)
    go_ret
    exact fin.out w1 O1
  · have hc2 : ((k : Int) != (a : Int) + 1) = false := by rw [bne_eq_false_iff_eq]; omega
    clear hc
    go_enter Tryd.func38, Tryd.ntmps38
    go_wp2_with (go_at_call 36; refine HPP.out.mono ?_; clear HPP; rintro e w1 ⟨A1, c1', rfl, V1, O1, B1⟩; have k1 := O1.cellSome c1 (fun hm => nomatch hm); have k0 := O1.cellSome c0 (fun hm => nomatch hm); have f1 := (HB.out.only O1 (fun hm => nomatch hm)).free 1)
    go_ret
    exact fin.out w1 O1
set_option maxHeartbeats 800000 in
set_option maxRecDepth 100000 in
theorem take_gap (h : Tk w t base G T) (A : Option Addr) (n c : Nat) (p : List UInt8) (hs : Sl w A n (bvs p)) (hn : n ≤ 1073741824) (k : Nat) (l : List UInt8) (hp : prsR p = some (k, l)) (hk : ¬ k < 1) (hc : ¬ (0 < T.1 ∧ k ≠ T.1 + 1)) (hb : ¬ k ≤ base) (hg : k ≠ base + T.2.length + 1) :
    Calls Tryd.prog 38 #[.pointer (some ⟨t, 0, none⟩), .slice A n c] w (TookR w t base G none) := by
  have HP := parse_any A n c p w hs (by omega)
  obtain ⟨hk40, _⟩ := prsR_small hp
  obtain ⟨Ae, ce, h1, h2, h3, h4, h5, h6, h7, h8⟩ := h
  have HB := Lib.hid h1
  have c0 : w.cell? ⟨t, 0, none⟩ = some (.int .i64 (base : Int)) := by rw [h1.cell]; rfl
  have c1 : w.cell? ⟨t, 1, none⟩ = some (.int .i64 (T.1 : Int)) := by rw [h1.cell]; rfl
  have c2 : w.cell? ⟨t, 2, none⟩ = some (.slice Ae T.2.length ce) := by rw [h1.cell]; rfl
  obtain ⟨a, ha⟩ : ∃ a, T.1 = a := ⟨_, rfl⟩
  rw [ha] at c1 h6 hc
  obtain ⟨m, hm⟩ : ∃ m, T.2.length = m := ⟨_, rfl⟩
  rw [hm] at c2 h7 hg
  unfold Parsed at HP
  rw [hp] at HP
  have HPP := Lib.hid HP
  have fin : Hid (∀ (w1 : World) (nq : Nat), Only [] w w1 → TookR w t base G none (.returned (.int .i64 3)) ((w1.setCell ⟨t, 1, none⟩ (.int .i64 (k : Int))).drewN nq)) := fun w1 nq O1 =>
    ⟨rfl, ((O1.mono (ss := [t]) (fun _ h => nomatch h)).setCell (.inl (by simp)) _).drewN _⟩
  have hg2 : ((k : Int) != (base : Int) + (m : Int) + 1) = true := by rw [bne_iff_ne]; omega
  clear h1 h2 h3 h4 h8 ha hp HP hm hg
  rcases Nat.eq_zero_or_pos a with h0 | h0
  · subst h0
    clear hc
    go_enter Tryd.func38, Tryd.ntmps38
    go_wp2_with (go_at_call 36; refine HPP.out.mono ?_; clear HPP; rintro e w1 ⟨A1, c1', rfl, V1, O1, B1⟩; have k1 := O1.cellSome c1 (fun hm => nomatch hm); have k0 := O1.cellSome c0 (fun hm => nomatch hm); have k2 := O1.cellSome c2 (fun hm => nomatch hm); have f1 := (HB.out.only O1 (fun hm => nomatch hm)).free 1)
    go_quiet (fail)
    go_wp2
    go_ret
    exact fin.out w1 _ O1
  · have hc2 : ((k : Int) != (a : Int) + 1) = false := by rw [bne_eq_false_iff_eq]; omega
    clear hc
    go_enter Tryd.func38, Tryd.ntmps38
    go_wp2_with (go_at_call 36; refine HPP.out.mono ?_; clear HPP; rintro e w1 ⟨A1, c1', rfl, V1, O1, B1⟩; have k1 := O1.cellSome c1 (fun hm => nomatch hm); have k0 := O1.cellSome c0 (fun hm => nomatch hm); have k2 := O1.cellSome c2 (fun hm => nomatch hm); have f1 := (HB.out.only O1 (fun hm => nomatch hm)).free 1)
    go_quiet (fail)
    go_wp2
    go_ret
    exact fin.out w1 _ O1
end
end Go.Proofs.YtblggoneifmoeaaDoor
/-
  ledger's intake: take of an entry.
-/
namespace Go.Proofs.YtblggoneifmoeaaDoor
open Go.RowKit Go.Maps
section
variable {w w4 w5 : World} {t base k a : Nat} {G : List Nat} {T : Took} {Ae : Option Addr} {ce : Nat} {vs : List Value} {es : List (List UInt8)}
theorem tk_snoc (h1 : Bk w t 75 #[.int .i64 (base : Int), .int .i64 (a : Int), .slice Ae es.length ce])
    (e1 : es.length = vs.length) (e2 : Own w 23 Ae es.length ce vs)
    (e4 : ∀ (i : Nat) (l : List UInt8), es[i]? = some l → ∃ Ai ci, vs[i]? = some (.slice Ai l.length ci) ∧ Own w 5 Ai l.length ci (bvs l) ∧ ∀ x ∈ blks Ai, x ∈ G)
    (h4 : t ∈ G) (h6 : ∀ x ∈ G, x < w.heap.size) (hb : base ≤ 1099511627776) (hk : k ≤ 1099511627776) (hlen : es.length + 1 ≤ 1099511627776) (h8 : ∀ l ∈ es, l.length ≤ 1073741824)
    {A4 L2 : Option Addr} {c4 c2 : Nat} {p : List UInt8} (hp : p.length ≤ 1073741824) (O : Only [t] w w4) (HB4 : Bk w4 t 75 #[.int .i64 (base : Int), .int .i64 (k : Int), .slice Ae es.length ce]) (V4 : Own w4 5 A4 p.length c4 (bvs p)) (O5 : Only (blks Ae) w4 w5)
    (HV2 : Own w5 23 L2 (es.length + 1) c2 (vs ++ [.slice A4 p.length c4])) :
    Tk (w5.setCell ⟨t, 2, none⟩ (.slice L2 (es.length + 1) c2)) t base (G ++ (blks L2 ++ blks A4)) (k, es ++ [p]) ∧ Only (t :: blks Ae) w (w5.setCell ⟨t, 2, none⟩ (.slice L2 (es.length + 1) c2)) := by
  have hta := own_off e2 h1 (by decide)
  have e2' := e2.only O (fun x hx hm => by simp at hm; subst hm; exact hta hx)
  have HB5 := HB4.only O5 hta
  have V5 := V4.only O5 (V4.apart e2' (by decide))
  have sz : w.heap.size ≤ w5.heap.size := Nat.le_trans O.size O5.size
  refine ⟨⟨L2, c2, ?_, ⟨rfl, vs ++ [.slice A4 p.length c4], ?_, ?_, ?_⟩, ?_, ?_, hb, hk, ?_, fun l hl => ?_⟩, ?_⟩
  · have := HB5.set 2 (.slice L2 (es.length + 1) c2)
    show Bk _ t 75 #[.int .i64 (base : Int), .int .i64 (k : Int), .slice L2 (es ++ [p]).length c2]
    rw [show (es ++ [p]).length = es.length + 1 from by simp]
    simpa using this
  · show Own _ 23 L2 (es ++ [p]).length c2 _
    rw [show (es ++ [p]).length = es.length + 1 from by simp]
    exact HV2.setFar (own_off HV2 HB5 (by decide)) _
  · intro x hx
    simp [hx]
  · intro i l hi
    rcases Nat.lt_or_ge i es.length with hlt | hge
    · rw [List.getElem?_append_left hlt] at hi
      obtain ⟨Ai, ci, k1, k2, k3⟩ := e4 i l hi
      have k4 := k2.only O (fun x hx hm => by simp at hm; subst hm; exact own_off k2 h1 (by decide) hx)
      have k5 := k4.only O5 (k4.apart e2' (by decide))
      exact ⟨Ai, ci, by rw [List.getElem?_append_left (by omega)]; exact k1, k5.setFar (own_off k5 HB5 (by decide)) _, fun x hx => by simp [k3 x hx]⟩
    · rw [List.getElem?_append_right hge] at hi
      have h0 : i - es.length = 0 := by
        have := (List.getElem?_eq_some_iff.1 hi).1
        simp at this
        omega
      rw [h0] at hi
      simp at hi
      subst hi
      exact ⟨A4, c4, by rw [List.getElem?_append_right (by omega), ← e1, h0]; rfl, V5.setFar (own_off V5 HB5 (by decide)) _, fun x hx => by simp [hx]⟩
  · simp [h4]
  · intro x hx
    simp only [List.mem_append] at hx
    have hs5 : (w5.setCell ⟨t, 2, none⟩ (.slice L2 (es.length + 1) c2)).heap.size = w5.heap.size := by simp [World.setCell]
    rw [hs5]
    rcases hx with hx | hx | hx
    · have := h6 x hx; omega
    · exact HV2.lt hx
    · exact V5.lt hx
  · show (es ++ [p]).length ≤ _
    rw [show (es ++ [p]).length = es.length + 1 from by simp]
    exact hlen
  · replace hl : l ∈ es ++ [p] := hl
    simp only [List.mem_append, List.mem_singleton] at hl
    rcases hl with hl | hl
    · exact h8 l hl
    · subst hl; exact hp
  · exact ((O.mono (ss := t :: blks Ae) (fun x hx => .inl (by simp at hx; subst hx; simp))).trans O5 (fun x hx => .inl (List.mem_cons_of_mem _ hx))).setCell (.inl (by simp)) _
set_option maxHeartbeats 1600000 in
set_option maxRecDepth 100000 in
theorem take_more (h : Tk w t base G T) (A : Option Addr) (n c : Nat) (p : List UInt8) (hs : Sl w A n (bvs p)) (hn : n ≤ 1073741824) (k : Nat) (l : List UInt8) (hp : prsR p = some (k, l)) (hk : ¬ k < 1) (hc : ¬ (0 < T.1 ∧ k ≠ T.1 + 1)) (hb : ¬ k ≤ base) (hg : k = base + T.2.length + 1) :
    Calls Tryd.prog 38 #[.pointer (some ⟨t, 0, none⟩), .slice A n c] w (TookR w t base G (some (k, T.2 ++ [l]))) := by
  obtain ⟨i0, hi, hz0, hz1, hz2⟩ := info_parts infoBytes
  have HP := parse_any A n c p w hs (by omega)
  obtain ⟨hk40, hll⟩ := prsR_small hp
  have hpl : p.length = n := by simpa using hs.len
  obtain ⟨Ae, ce, h1, ⟨h2, vs, e2, e3, e4⟩, h3, h4, h5, h6, h7, h8⟩ := h
  have HB := Lib.hid h1
  have HE := Lib.hid e2
  have c0 : w.cell? ⟨t, 0, none⟩ = some (.int .i64 (base : Int)) := by rw [h1.cell]; rfl
  have c1 : w.cell? ⟨t, 1, none⟩ = some (.int .i64 (T.1 : Int)) := by rw [h1.cell]; rfl
  have c2 : w.cell? ⟨t, 2, none⟩ = some (.slice Ae T.2.length ce) := by rw [h1.cell]; rfl
  have fin : Hid (∀ (w1 w5 : World) (nq : Nat) (A1 L2 : Option Addr) (c1 c2 : Nat) (o : Obj), Only [] w w1 → Own w1 5 A1 l.length c1 (bvs l) → (∀ x ∈ blks A1, w.heap.size ≤ x) → Only (blks Ae) (((w1.setCell ⟨t, 1, none⟩ (.int .i64 (k : Int))).drewN nq).alloc o) w5 → Own w5 23 L2 (T.2.length + 1) c2 (vs ++ [.slice A1 l.length c1]) →
      (∀ x ∈ blks L2, x ∈ blks Ae ∨ (((w1.setCell ⟨t, 1, none⟩ (.int .i64 (k : Int))).drewN nq).alloc o).heap.size ≤ x) → TookR w t base G (some (k, T.2 ++ [l])) (.returned (.int .i64 0)) (w5.setCell ⟨t, 2, none⟩ (.slice L2 (T.2.length + 1) c2))) := by
    intro w1 w5 nq A1 L2 c1 c2 o O1 V1 B1 O5 HV2 B5
    have OW : Only [t] w (((w1.setCell ⟨t, 1, none⟩ (.int .i64 (k : Int))).drewN nq).alloc o) := (((O1.mono (ss := [t]) (fun _ h => nomatch h)).setCell (.inl (by simp)) _).drewN nq).alloc o
    have HB1 := HB.out.only O1 (fun hm => nomatch hm)
    have HB2 : Bk (w1.setCell ⟨t, 1, none⟩ (.int .i64 (k : Int))) t 75 #[.int .i64 (base : Int), .int .i64 (k : Int), .slice Ae T.2.length ce] := by simpa using HB1.set 1 (.int .i64 (k : Int))
    have HB4 := HB2.only (((Only.refl [] _).drewN nq).alloc o) (fun hm => nomatch hm)
    have V4 := (V1.setFar (show t ∉ blks A1 from own_off V1 HB1 (by decide)) (.int .i64 (k : Int)) (p := ⟨t, 1, none⟩)).keep (((Only.refl [] _).drewN nq).alloc o)
    obtain ⟨HT, OT⟩ := tk_snoc (k := k) HB.out e2.len.symm HE.out e4 h3 h4 h5 hk40 (by omega) h8 (by omega : l.length ≤ 1073741824) OW HB4 V4 O5 HV2
    refine ⟨rfl, _, HT, OT.mono (fun x hx => .inl ?_), fun x hx => ?_⟩
    · rcases List.mem_cons.1 hx with hy | hy
      · subst hy; exact h3
      · exact e3 x hy
    · simp only [List.mem_append] at hx
      rcases hx with hx | hx | hx
      · exact .inl hx
      · rcases B5 x hx with hy | hy
        · exact .inl (e3 x hy)
        · have := OW.size; exact .inr (by omega)
      · exact .inr (B1 x hx)
  obtain ⟨a, ha⟩ : ∃ a, T.1 = a := ⟨_, rfl⟩
  rw [ha] at c1 h6 hc
  have hta : Hid (t ∉ blks Ae) := own_off e2 h1 (by decide)
  unfold Parsed at HP
  rw [hp] at HP
  have HPP := Lib.hid HP
  clear h1 h2 h3 h4 h8 ha hp HP e2 e3 e4 hll hpl
  obtain ⟨m, hm⟩ : ∃ m, T.2.length = m := ⟨_, rfl⟩
  rw [hm] at c2 h7 hg HE fin HB
  have hg2 : ((k : Int) != (base : Int) + (m : Int) + 1) = false := by rw [bne_eq_false_iff_eq]; omega
  clear hm hg
  rcases Nat.eq_zero_or_pos a with h0 | h0
  · subst h0
    clear hc
    go_enter Tryd.func38, Tryd.ntmps38
    go_wp2_with (go_at_call 36; refine HPP.out.mono ?_; clear HPP; rintro e w1 ⟨A1, c1', rfl, V1, O1, B1⟩; have k1 := O1.cellSome c1 (fun hm => nomatch hm); have k0 := O1.cellSome c0 (fun hm => nomatch hm); have k2 := O1.cellSome c2 (fun hm => nomatch hm); have f1 := (HB.out.only O1 (fun hm => nomatch hm)).free 1)
    go_quiet (fail)
    have OWq : Only [t] w ((w1.setCell ⟨t, 1, none⟩ (.int .i64 (k : Int))).drewN nq) := ((O1.mono (ss := [t]) (fun _ h => nomatch h)).setCell (.inl (by simp)) _).drewN nq
    have HVW := HE.out.only OWq (fun x hx hm => by simp at hm; subst hm; exact hta.out hx)
    have HB2 : Bk (w1.setCell ⟨t, 1, none⟩ (.int .i64 (k : Int))) t 75 #[.int .i64 (base : Int), .int .i64 (k : Int), .slice Ae m ce] := by simpa using (HB.out.only O1 (fun hm => nomatch hm)).set 1 (.int .i64 (k : Int))
    have HBW := HB2.only ((Only.refl [] _).drewN nq) (fun hm => nomatch hm)
    have x2 : ((w1.setCell ⟨t, 1, none⟩ (.int .i64 (k : Int))).drewN nq).cell? ⟨t, 2, none⟩ = some (.slice Ae m ce) := by rw [HBW.cell]; rfl
    have hSl : Sl (((w1.setCell ⟨t, 1, none⟩ (.int .i64 (k : Int))).drewN nq).alloc (.cells #[.slice A1 l.length c1'] 23)) (some ⟨w1.heap.size, 0, none⟩) 1 [.slice A1 l.length c1'] := by
      have hS := Sl.of_bk (Bk.new ((w1.setCell ⟨t, 1, none⟩ (.int .i64 (k : Int))).drewN nq) 23 #[.slice A1 l.length c1'])
      rw [show ((w1.setCell ⟨t, 1, none⟩ (.int .i64 (k : Int))).drewN nq).heap.size = w1.heap.size from by simp [World.setCell]] at hS
      exact hS
    go_wp2_with (at_builtin; go_must (refine wpList_append_sl rfl (.tmp 63) (.tmp 65) 22 rfl 23 i0 (.slice none 0 0) 24 Tryd.underlying22 hi hz0 hz1 hz2 rfl Ae m ce vs rfl (HVW.alloc _) _ 1 1 _ rfl hSl (one_row _ _ _) (by unfold maxLen; omega) (by omega) ?_); intro L2 c2' w5 HV2 O5 B5; have HB5 := (HBW.only ((Only.refl [] _).alloc _) (fun hm => nomatch hm)).only O5 hta.out; have j2 : w5.cell? ⟨t, 2, none⟩ = some (.slice Ae m ce) := (by rw [HB5.cell]; rfl); have f2 := HB5.free 2)
    go_ret
    exact fin.out w1 w5 nq A1 L2 c1' c2' _ O1 V1 B1 O5 HV2 B5
  · have hc2 : ((k : Int) != (a : Int) + 1) = false := by rw [bne_eq_false_iff_eq]; omega
    clear hc
    go_enter Tryd.func38, Tryd.ntmps38
    go_wp2_with (go_at_call 36; refine HPP.out.mono ?_; clear HPP; rintro e w1 ⟨A1, c1', rfl, V1, O1, B1⟩; have k1 := O1.cellSome c1 (fun hm => nomatch hm); have k0 := O1.cellSome c0 (fun hm => nomatch hm); have k2 := O1.cellSome c2 (fun hm => nomatch hm); have f1 := (HB.out.only O1 (fun hm => nomatch hm)).free 1)
    go_quiet (fail)
    have OWq : Only [t] w ((w1.setCell ⟨t, 1, none⟩ (.int .i64 (k : Int))).drewN nq) := ((O1.mono (ss := [t]) (fun _ h => nomatch h)).setCell (.inl (by simp)) _).drewN nq
    have HVW := HE.out.only OWq (fun x hx hm => by simp at hm; subst hm; exact hta.out hx)
    have HB2 : Bk (w1.setCell ⟨t, 1, none⟩ (.int .i64 (k : Int))) t 75 #[.int .i64 (base : Int), .int .i64 (k : Int), .slice Ae m ce] := by simpa using (HB.out.only O1 (fun hm => nomatch hm)).set 1 (.int .i64 (k : Int))
    have HBW := HB2.only ((Only.refl [] _).drewN nq) (fun hm => nomatch hm)
    have x2 : ((w1.setCell ⟨t, 1, none⟩ (.int .i64 (k : Int))).drewN nq).cell? ⟨t, 2, none⟩ = some (.slice Ae m ce) := by rw [HBW.cell]; rfl
    have hSl : Sl (((w1.setCell ⟨t, 1, none⟩ (.int .i64 (k : Int))).drewN nq).alloc (.cells #[.slice A1 l.length c1'] 23)) (some ⟨w1.heap.size, 0, none⟩) 1 [.slice A1 l.length c1'] := by
      have hS := Sl.of_bk (Bk.new ((w1.setCell ⟨t, 1, none⟩ (.int .i64 (k : Int))).drewN nq) 23 #[.slice A1 l.length c1'])
      rw [show ((w1.setCell ⟨t, 1, none⟩ (.int .i64 (k : Int))).drewN nq).heap.size = w1.heap.size from by simp [World.setCell]] at hS
      exact hS
    go_wp2_with (at_builtin; go_must (refine wpList_append_sl rfl (.tmp 63) (.tmp 65) 22 rfl 23 i0 (.slice none 0 0) 24 Tryd.underlying22 hi hz0 hz1 hz2 rfl Ae m ce vs rfl (HVW.alloc _) _ 1 1 _ rfl hSl (one_row _ _ _) (by unfold maxLen; omega) (by omega) ?_); intro L2 c2' w5 HV2 O5 B5; have HB5 := (HBW.only ((Only.refl [] _).alloc _) (fun hm => nomatch hm)).only O5 hta.out; have j2 : w5.cell? ⟨t, 2, none⟩ = some (.slice Ae m ce) := (by rw [HB5.cell]; rfl); have f2 := HB5.free 2)
    go_ret
    exact fin.out w1 w5 nq A1 L2 c1' c2' _ O1 V1 B1 O5 HV2 B5
/-- take. -/
theorem take_any (h : Tk w t base G T) (A : Option Addr) (n c : Nat) (p : List UInt8) (hs : Sl w A n (bvs p)) (hn : n ≤ 1073741824) :
    Calls Tryd.prog 38 #[.pointer (some ⟨t, 0, none⟩), .slice A n c] w (TookR w t base G (take1 base T p)) := by
  unfold take1
  cases hp : prsR p with
  | none => exact take_bad h A n c p hs hn (.inl hp)
  | some q =>
    obtain ⟨k, l⟩ := q
    simp only []
    by_cases hc : k < 1 ∨ (0 < T.1 ∧ k ≠ T.1 + 1)
    · rw [if_pos hc]
      exact take_bad h A n c p hs hn (.inr ⟨k, l, hp, hc⟩)
    · rw [if_neg hc]
      have hk : ¬ k < 1 := fun hx => hc (.inl hx)
      have hc' : ¬ (0 < T.1 ∧ k ≠ T.1 + 1) := fun hx => hc (.inr hx)
      by_cases hb : k ≤ base
      · rw [if_pos hb]
        exact take_pass h A n c p hs hn k l hp hk hc' hb
      · rw [if_neg hb]
        by_cases hg : k ≠ base + T.2.length + 1
        · rw [if_pos hg]
          exact take_gap h A n c p hs hn k l hp hk hc' hb hg
        · rw [if_neg hg]
          exact take_more h A n c p hs hn k l hp hk hc' hb (Decidable.not_not.1 hg)
end
end Go.Proofs.YtblggoneifmoeaaDoor
/-
  frame.Scan: the rows lie in new memory, too; ledger's tell.
-/
namespace Go.Proofs.YtblggoneifmoeaaDoor
open Go.RowKit Go.Maps
/-- All rows lie at B or above. -/
def Nw (B : Nat) (vs : List Value) : Prop := ∀ u ∈ vs, ∀ (Ai : Option Addr) (ni ci : Nat), u = .slice Ai ni ci → ∀ y ∈ blks Ai, B ≤ y
theorem Nw.nil (B : Nat) : Nw B [] := fun _ hu => nomatch hu
theorem Nw.snoc {B : Nat} {vs : List Value} {A : Option Addr} {n c : Nat} (h : Nw B vs) (hA : ∀ y ∈ blks A, B ≤ y) : Nw B (vs ++ [.slice A n c]) := fun u hu Ai ni ci e => by
  rcases List.mem_append.1 hu with hx | hx
  · exact h u hx Ai ni ci e
  · simp at hx
    subst hx
    injection e with e1 e2 e3
    subst e1
    exact hA
/-- The call returns rows of bytes in new memory, and a number. -/
def FreshRowsN (w : World) (ls : List (List UInt8)) (x : Nat) (e : Ending) (w' : World) : Prop :=
  ∃ A c vs, e = .returned (.tuple #[.slice A ls.length c, .int .i64 (x : Int)]) ∧ Own w' 23 A ls.length c vs ∧ RowsAt w' vs ls ∧ Only [] w w' ∧ (∀ k ∈ blks A, w.heap.size ≤ k) ∧ Nw w.heap.size vs
set_option maxRecDepth 100000 in
set_option maxHeartbeats 1600000 in
theorem scan_new (A : Option Addr) (n c : Nat) (b : List UInt8) (w : World) (hs : Sl w A n (bvs b)) (ht : Tab w) (hc : n ≤ c) (hn : n ≤ 100000000000) :
    Calls Tryd.prog 56 #[.slice A n c] w (FreshRowsN w (scan b).1 (scan b).2) := by
  obtain ⟨i0, hi, hz0, hz1, hz2⟩ := info_parts infoBytes
  have hl : b.length = n := by simpa using hs.len
  have HL := Lib.hid hl
  have hn' : n ≤ 100000000000 := hn
  clear hl
  go_enter Tryd.func56, Tryd.ntmps56
  go_wp2_with fail
  go_loopw [4, 5] (fun s i wr => ∃ (k m cl : Nat) (L : Option Addr) (vs : List Value) (ls : List (List UInt8)), k ≤ n ∧ 12 * m ≤ k ∧ i = .int .i64 k ∧ s = .slice L m cl ∧ Hid (ls.length = m) ∧ Own wr 23 L m cl vs ∧ RowsAt wr vs ls ∧ Only [] w wr ∧ (∀ x ∈ blks L, w.heap.size ≤ x) ∧ Nw w.heap.size vs ∧ Hid (scan b = (ls ++ (scan (b.drop k)).1, k + (scan (b.drop k)).2))) (fun _ i _ => n - (intOf i).toNat)
  case atStart => exact ⟨0, 0, 0, none, [], [], Nat.zero_le _, Nat.le_refl _, rfl, rfl, rfl, Own.nil _ _, RowsAt.nil _, Only.refl _ _, fun x hx => (by cases hx), Nw.nil _, by show _ = _; simp⟩
  case round =>
    obtain ⟨k, m, cl, L, vs, ls, hk, h12, rfl, rfl, HLs, HV, HR, HO, HB, HW, HS⟩ := hrel
    by_cases hkn : k < n
    · obtain ⟨ad, e, _⟩ := hs.2 (by omega)
      subst e
      have hck : ¬ c = k := by omega
      have hd := hs.add (k := k) (m := n - k) (by omega)
      rw [List.take_of_length_le (by rw [List.length_drop, bvs_length, HL.out]; omega), bvs_drop] at hd
      have HD := Lib.hid (decode_any (some (ad.add k)) (n - k) (c - k) (b.drop k) wr (hd.keep HO) (ht.keep HO) (by omega) (by omega))
      have hdl : (b.drop k).length = n - k := by rw [List.length_drop, HL.out]
      by_cases h0 : bad (b.drop k) = 0
      · have hne : ((bad (b.drop k) : Int) != 0) = false := by rw [h0]; rfl
        have hsz := size_pos h0
        have HG := Lib.hid (scan_good h0)
        have hdd : (b.drop k).drop (size (b.drop k)) = b.drop (k + size (b.drop k)) := by rw [List.drop_drop]
        rw [hdd] at HG
        have hs1 := hsz.1
        have hs2 := hsz.2.1
        rw [hdl] at hs2
        obtain ⟨y, hy⟩ : ∃ y, y = body (b.drop k) := ⟨_, rfl⟩
        rw [← hy] at HD HG
        generalize size (b.drop k) = z at *
        clear h0 hsz hdl hd hy hdd
        go_wp2_with fail
        refine HD.out.mono ?_
        rintro e w1 ⟨A1, c1, rfl, V1, O1, B1⟩
        go_wp2_with (at_builtin; go_must (refine wpList_append_sl rfl (.tmp 21) (.tmp 23) 22 rfl 23 i0 (.slice none 0 0) 24 Tryd.underlying22 hi hz0 hz1 hz2 rfl L m cl vs rfl ((HV.keep O1).alloc _) _ 1 1 _ rfl (Sl.of_bk (Bk.new _ _ #[.slice A1 y.length c1])) (one_row _ _ _) (by unfold maxLen; omega) (by omega) ?_); intro L2 c2 w2 HV2 O2 B2)
        go_roundw
        case rel =>
          have HVa := (HV.keep O1).alloc (.cells #[.slice A1 y.length c1] 23)
          have V1a := V1.alloc (.cells #[.slice A1 y.length c1] 23)
          have V1' : Own w2 5 A1 y.length c1 (bvs y) := V1a.only O2 (V1a.apart HVa (by decide))
          have HR2 : RowsAt w2 vs ls := ((HR.keep O1).keep ((Only.refl _ _).alloc _)).beside HVa O2
          refine ⟨k + z, m + 1, c2, L2, vs ++ [.slice A1 y.length c1], ls ++ [y], by omega, by omega, by go_num, rfl, ?_, HV2, HR2.snoc V1', ((HO.then O1).alloc _).trans O2 (fun x hx => .inr (HB x hx)), fun x hx => ?_, HW.snoc (fun y hy => Nat.le_trans HO.size (B1 y hy)), ?_⟩
          · show _ = _
            rw [List.length_append, HLs.out]; rfl
          · rcases B2 x hx with h | h
            · exact HB x h
            · have := (HO.then O1).size; rw [World.size_alloc] at h; omega
          · show _ = _
            rw [HS.out, HG.out]
            simp only [List.append_assoc, List.singleton_append, Prod.mk.injEq, true_and]
            omega
        case measure => simp [intOf]; omega
      · have hne : ((bad (b.drop k) : Int) != 0) = true := by rw [bne_iff_ne]; omega
        have HG := Lib.hid (scan_bad h0)
        clear h0 hdl hd
        go_wp2_with fail
        refine HD.out.mono ?_
        rintro e w1 ⟨A1, c1, rfl, V1, O1, B1⟩
        go_wp2
        go_ret2
        rw [HS.out, HG.out]
        simp only [List.append_nil, Nat.add_zero]
        exact ⟨L, cl, vs, by rw [HLs.out]; rfl, by rw [HLs.out]; exact HV.keep O1, HR.keep O1, HO.then O1, HB, HW⟩
    · have HG : Hid (scan b = (ls, k)) := by
        show _ = _
        rw [HS.out, List.drop_of_length_le (by rw [HL.out]; omega), scan_bad (by rw [bad_nil]; omega)]
        simp
      have HD := Lib.hid (fun (A' : Option Addr) (c' : Nat) => decode_any A' 0 c' [] wr (sl_any_none _ _) (ht.keep HO) (by omega) (by omega))
      rw [bad_nil] at HD
      have hne : ((2 : Nat) : Int) = 2 := rfl
      rw [hne] at HD
      obtain rfl : k = n := by omega
      clear hne
      cases A with
      | none =>
        by_cases hck : c = k
        · go_wp2_with fail
          refine (HD.out _ _).mono ?_
          rintro e w1 ⟨A1, c1, rfl, V1, O1, B1⟩
          go_wp2
          go_ret2
          rw [HG.out]
          exact ⟨L, cl, vs, by rw [HLs.out]; rfl, by rw [HLs.out]; exact HV.keep O1, HR.keep O1, HO.then O1, HB, HW⟩
        · go_wp2_with fail
          refine (HD.out _ _).mono ?_
          rintro e w1 ⟨A1, c1, rfl, V1, O1, B1⟩
          go_wp2
          go_ret2
          rw [HG.out]
          exact ⟨L, cl, vs, by rw [HLs.out]; rfl, by rw [HLs.out]; exact HV.keep O1, HR.keep O1, HO.then O1, HB, HW⟩
      | some ad =>
        by_cases hck : c = k
        · go_wp2_with fail
          refine (HD.out _ _).mono ?_
          rintro e w1 ⟨A1, c1, rfl, V1, O1, B1⟩
          go_wp2
          go_ret2
          rw [HG.out]
          exact ⟨L, cl, vs, by rw [HLs.out]; rfl, by rw [HLs.out]; exact HV.keep O1, HR.keep O1, HO.then O1, HB, HW⟩
        · go_wp2_with fail
          refine (HD.out _ _).mono ?_
          rintro e w1 ⟨A1, c1, rfl, V1, O1, B1⟩
          go_wp2
          go_ret2
          rw [HG.out]
          exact ⟨L, cl, vs, by rw [HLs.out]; rfl, by rw [HLs.out]; exact HV.keep O1, HR.keep O1, HO.then O1, HB, HW⟩
end Go.Proofs.YtblggoneifmoeaaDoor
/-
  ledger's tell: each whole record of a log to the intake's method value.
-/
namespace Go.Proofs.YtblggoneifmoeaaDoor
open Go.RowKit Go.Maps
theorem mem_flat_le {l : List UInt8} : ∀ {ls : List (List UInt8)}, l ∈ ls → l.length ≤ ls.flatten.length
  | a :: r, h => by
    rw [List.flatten_cons, List.length_append]
    rcases List.mem_cons.1 h with h | h
    · subst h; omega
    · have := mem_flat_le h; omega
section
variable {w : World} {t base : Nat} {G : List Nat} {T : Took}
/-- What tell does. -/
def Told (w : World) (t base : Nat) (G : List Nat) (R : Option Took) (x : Nat) (e : Ending) (w' : World) : Prop :=
  match R with
  | none => e = .returned (.tuple #[.int .i64 0, .int .i64 3]) ∧ Only G w w'
  | some T' => e = .returned (.tuple #[.int .i64 (x : Int), .int .i64 0]) ∧ ∃ G', Tk w' t base G' T' ∧ Only G w w' ∧ ∀ y ∈ G', y ∈ G ∨ w.heap.size ≤ y
theorem takes_nil (base : Nat) (T : Took) : takes base T [] = some T := rfl
theorem takes_none {base : Nat} {T : Took} {p : List UInt8} {r : List (List UInt8)} (h : take1 base T p = none) : takes base T (p :: r) = none := by simp [takes, h]
theorem takes_some {base : Nat} {T T' : Took} {p : List UInt8} {r : List (List UInt8)} (h : take1 base T p = some T') : takes base T (p :: r) = takes base T' r := by simp [takes, h]
set_option maxHeartbeats 1600000 in
set_option maxRecDepth 100000 in
theorem tell_any (h : Tk w t base G T) (A : Option Addr) (n c : Nat) (b : List UInt8) (hs : Sl w A n (bvs b)) (ht : Tab w) (hc : n ≤ c) (hn : n ≤ 1073741824) :
    Calls Tryd.prog 37 #[.slice A n c, .func (.func 38) #[.pointer (some ⟨t, 0, none⟩)] #[]] w (Told w t base G (takes base T (scan b).1) (scan b).2) := by
  have hbl : b.length = n := by simpa using hs.len
  have HS := Lib.hid (scan_new A n c b w hs ht hc (by omega))
  obtain ⟨hle1, hle2⟩ := scan_le b.length b (Nat.le_refl _)
  have HLE : Hid (∀ l ∈ (scan b).1, l.length ≤ 1073741824) := fun l hl => by have := mem_flat_le hl; omega
  have hm0 : (scan b).1.length ≤ 1073741824 := by omega
  obtain ⟨ls, hls⟩ : ∃ ls, (scan b).1 = ls := ⟨_, rfl⟩
  obtain ⟨x, hx⟩ : ∃ x, (scan b).2 = x := ⟨_, rfl⟩
  rw [hls] at HS HLE hm0 ⊢
  rw [hx] at HS ⊢
  obtain ⟨R, hR⟩ : ∃ R, R = takes base T ls := ⟨_, rfl⟩
  rw [← hR]
  have HR0 : Hid (R = takes base T (ls.drop 0)) := by show _ = _; rw [hR, List.drop_zero]
  have HT := Lib.hid h
  have HTL := Lib.hid (fun (y : Nat) (hy : y ∈ G) => h.lt hy)
  have htG : t ∈ G := by
    obtain ⟨Ae, ce, h1, h2, h3, h4⟩ := h
    exact h3
  obtain ⟨m, hm⟩ : ∃ m, ls.length = m := ⟨_, rfl⟩
  rw [hm] at hm0
  clear hls hx hR hs ht hle1 hle2 hbl h
  go_enter Tryd.func37, Tryd.ntmps37
  go_wp2_with (go_at_call 56; refine HS.out.mono ?_; clear HS; rintro e w1 ⟨A1, c1, vs, rfl, V1, R1, O1, B1, N1⟩; rw [hm] at V1)
  go_loopw [18] (fun i wr => ∃ (k : Nat) (Gk : List Nat) (Tq : Took), k ≤ m ∧ i = .int .i64 k ∧ Tk wr t base Gk Tq ∧ Only G w1 wr ∧ (∀ y ∈ Gk, y ∈ G ∨ w1.heap.size ≤ y) ∧ Hid (R = takes base Tq (ls.drop k))) (fun i _ => m - (intOf i).toNat)
  case atStart => exact ⟨0, G, T, Nat.zero_le _, rfl, HT.out.only O1 (fun _ _ hm => nomatch hm), Only.refl _ _, fun y hy => .inl hy, HR0⟩
  case round =>
    obtain ⟨k, Gk, Tq, hk, rfl, HK, HO, HB, HR⟩ := hrel
    have hOw := ((O1.mono (ss := G) (fun _ h => nomatch h)).trans HO (fun x hx => .inl hx))
    have HFr := Lib.hid (fun (w' : World) (Gx : List Nat) (o : Only Gx wr w') (hx : ∀ y ∈ Gx, y ∈ G ∨ w1.heap.size ≤ y) => HO.trans o hx)
    by_cases hlt : k < m
    · have hkl : k < ls.length := by omega
      have V1' := V1.only HO (fun y hy hG => by have := B1 y hy; have := HTL.out y hG; omega)
      obtain ⟨ad, u, rfl, hu, hcell⟩ := V1'.sl.at_ hlt
      obtain ⟨l, hl⟩ : ∃ l, ls[k]'hkl = l := ⟨_, rfl⟩
      obtain ⟨Ai, ci, hv, ho⟩ := R1.2 k l (by rw [List.getElem?_eq_getElem hkl, hl])
      rw [hv] at hu
      injection hu with hu
      subst hu
      have hnw := N1 _ (List.mem_of_getElem? hv) Ai l.length ci rfl
      have ho' := ho.only HO (fun y hy hG => by have := hnw y hy; have := HTL.out y hG; omega)
      have hdr : ls.drop k = l :: ls.drop (k + 1) := by rw [List.drop_eq_getElem_cons hkl, hl]
      have hlen := HLE.out l (by rw [← hl]; exact List.getElem_mem hkl)
      have HC := take_any HK Ai l.length ci l ho'.sl hlen
      cases h1 : take1 base Tq l with
      | none =>
        have HRn : Hid (R = none) := by show _ = _; rw [HR.out, hdr, takes_none h1]
        rw [h1] at HC
        have HC := Lib.hid HC
        clear hv hnw ho ho' hl hdr h1 R1 N1 V1 V1' HK
        go_wp2_with (go_at_call 38; refine HC.out.mono ?_; rintro e w2 ⟨rfl, O2⟩)
        go_ret2
        rw [HRn.out]
        exact ⟨rfl, hOw.trans O2 (fun y hy => by simp at hy; subst hy; exact .inl htG)⟩
      | some T2 =>
        have HRs : Hid (R = takes base T2 (ls.drop (k + 1))) := by show _ = _; rw [HR.out, hdr, takes_some h1]
        rw [h1] at HC
        have HC := Lib.hid HC
        clear hv hnw ho ho' hl hdr h1 HK
        go_wp2_with (go_at_call 38; refine HC.out.mono ?_; rintro e w2 ⟨rfl, G2, K2, O2, B2⟩)
        go_roundw
        case rel => exact ⟨k + 1, G2, T2, by omega, by go_num, K2, HFr.out w2 Gk O2 HB, fun y hy => by
          rcases B2 y hy with hz | hz
          · exact HB y hz
          · have := HO.size
            exact .inr (by omega), HRs⟩
        case measure => simp [intOf]; omega
    · have HRe : Hid (R = some Tq) := by show _ = _; rw [HR.out, List.drop_of_length_le (by omega), takes_nil]
      go_wp2
      go_ret2
      rw [HRe.out]
      exact ⟨rfl, Gk, HK, hOw, fun y hy => by
        rcases HB y hy with hz | hz
        · exact .inl hz
        · have := O1.size
          exact .inr (by omega)⟩
end
end Go.Proofs.YtblggoneifmoeaaDoor
