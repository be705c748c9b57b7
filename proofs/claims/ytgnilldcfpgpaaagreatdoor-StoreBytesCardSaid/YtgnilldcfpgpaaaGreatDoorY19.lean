/-
  Texts of the seat, laid one behind the other: JWords JLeaf JParse JLay JApp JApp2 JApp3 JWrite JWrite2 JDrop JAt JTake JTake2.
-/
import Derived.Test.YtgnilldcfpgpaaaGreatDoorY18
import Derived.Test.YtgnilldcfpgpaaaGreatDoorY4
import Derived.Test.YtgnilldcfpgpaaaGreatDoorY16
import Derived.Test.YtgnilldcfpgpaaaGreatDoorY1
import Derived.Handy
import Derived.Deep.DeepMust
import Derived.Deep.RegionHeld3
import Derived.Test.YtgnilldcfpgpaaaGreatDoorY8
import Derived.Deep.RegionLaw
namespace Go.Proofs.YtgnilldcfpgpaaaGreatDoor
open Go.RowKit Go.Maps
def Es (G : List Nat) (w : World) (A : Option Addr) (n c : Nat) (ls : List (List UInt8)) : Prop :=
  ls.length = n ∧ ∃ vs, Own w 27 A n c vs ∧ (∀ x ∈ blks A, x ∈ G) ∧ ∀ (i : Nat) (l : List UInt8), ls[i]? = some l → ∃ Ai ci, vs[i]? = some (.slice Ai l.length ci) ∧ Own w 5 Ai l.length ci (bvs l) ∧ ∀ x ∈ blks Ai, x ∈ G
section
variable {G G' rs : List Nat} {w w' : World} {A : Option Addr} {n c : Nat} {ls : List (List UInt8)}
theorem Es.nil (G : List Nat) (w : World) : Es G w none 0 0 [] := ⟨rfl, [], Own.nil _ _, (fun _ hx => nomatch hx), fun i l h => by simp at h⟩
theorem Es.only (h : Es G w A n c ls) (o : Only rs w w') (hd : ∀ x ∈ G, x ∉ rs) : Es G w' A n c ls := by
  obtain ⟨h1, vs, h2, h3, h4⟩ := h
  refine ⟨h1, vs, h2.only o (fun x hx => hd x (h3 x hx)), h3, fun i l hi => ?_⟩
  obtain ⟨Ai, ci, e1, e2, e3⟩ := h4 i l hi
  exact ⟨Ai, ci, e1, e2.only o (fun x hx => hd x (e3 x hx)), e3⟩
theorem Es.keep (h : Es G w A n c ls) (o : Only [] w w') : Es G w' A n c ls := h.only o (fun _ _ hm => nomatch hm)
end
def Lg (w : World) (d g : Nat) (img log : ByteArray) (G : List Nat) (L : LS) : Prop :=
  ∃ Ad cd Ae ce, Bk w g 165 #[.pointer (some ⟨d, 0, none⟩), .string img, .string log, .int .i64 (L.base : Int), .slice Ad L.data.length cd, .slice Ae L.es.length ce, .bool L.dead] ∧
    Own w 5 Ad L.data.length cd (bvs L.data) ∧ Es G w Ae L.es.length ce L.es ∧ g ∈ G ∧ (∀ x ∈ blks Ad, x ∈ G) ∧ (∀ x ∈ G, x < w.heap.size) ∧ L.base ≤ 1099511627776 ∧ L.data.length ≤ 1073741824 ∧ L.es.length ≤ 1099511627776 ∧ ∀ l ∈ L.es, l.length ≤ 1073741824
section
variable {rs : List Nat} {w w' : World} {d g : Nat} {img log : ByteArray} {F G : List Nat} {S S' : Dst} {L L' : LS}
theorem Lg.only (h : Lg w d g img log G L) (o : Only rs w w') (hd : ∀ x ∈ G, x ∉ rs) : Lg w' d g img log G L := by
  obtain ⟨Ad, cd, Ae, ce, h1, h2, h3, h4, h5, h6, h7⟩ := h
  exact ⟨Ad, cd, Ae, ce, h1.only o (hd g h4), h2.only o (fun x hx => hd x (h5 x hx)), h3.only o hd, h4, h5, fun x hx => Nat.lt_of_lt_of_le (h6 x hx) o.size, h7⟩
theorem Lg.keep (h : Lg w d g img log G L) (o : Only [] w w') : Lg w' d g img log G L := h.only o (fun _ _ hm => nomatch hm)
theorem Lg.lt (h : Lg w d g img log G L) {x : Nat} (hx : x ∈ G) : x < w.heap.size := by
  obtain ⟨Ad, cd, Ae, ce, h1, h2, h3, h4, h5, h6, h7⟩ := h
  exact h6 x hx
theorem Lg.g_mem (h : Lg w d g img log G L) : g ∈ G := by
  obtain ⟨Ad, cd, Ae, ce, h1, h2, h3, h4, h5, h6, h7⟩ := h
  exact h4
theorem Lg.bounds (h : Lg w d g img log G L) : L.base ≤ 1099511627776 ∧ L.data.length ≤ 1073741824 ∧ L.es.length ≤ 1099511627776 := by
  obtain ⟨Ad, cd, Ae, ce, h1, h2, h3, h4, h5, h6, h7⟩ := h
  exact ⟨h7.1, h7.2.1, h7.2.2.1⟩
theorem Lg.cells (h : Lg w d g img log G L) : w.cell? ⟨g, 0, none⟩ = some (.pointer (some ⟨d, 0, none⟩)) ∧ w.cell? ⟨g, 1, none⟩ = some (.string img) ∧ w.cell? ⟨g, 2, none⟩ = some (.string log) ∧ w.cell? ⟨g, 3, none⟩ = some (.int .i64 (L.base : Int)) ∧
    (∃ Ad cd, w.cell? ⟨g, 4, none⟩ = some (.slice Ad L.data.length cd) ∧ Own w 5 Ad L.data.length cd (bvs L.data)) ∧ (∃ Ae ce, w.cell? ⟨g, 5, none⟩ = some (.slice Ae L.es.length ce) ∧ Es G w Ae L.es.length ce L.es) ∧ w.cell? ⟨g, 6, none⟩ = some (.bool L.dead) ∧ g < w.heap.size := by
  obtain ⟨Ad, cd, Ae, ce, h1, h2, h3, h4, h5, h6, h7⟩ := h
  refine ⟨by rw [h1.cell]; rfl, by rw [h1.cell]; rfl, by rw [h1.cell]; rfl, by rw [h1.cell]; rfl, ⟨Ad, cd, by rw [h1.cell]; rfl, h2⟩, ⟨Ae, ce, by rw [h1.cell]; rfl, h3⟩, by rw [h1.cell]; rfl, h1.lt⟩
theorem Lg.free (h : Lg w d g img log G L) (i : Nat) : w.frozen? ⟨g, i, none⟩ = false := by
  obtain ⟨Ad, cd, Ae, ce, h1, _⟩ := h
  exact h1.free i
theorem Lg.die (h : Lg w d g img log G L) : Lg (w.setCell ⟨g, 6, none⟩ (.bool true)) d g img log G { L with dead := true } := by
  obtain ⟨Ad, cd, Ae, ce, h1, h2, ⟨h3, vs, e2, e3, e4⟩, h4, h5, h6, h7⟩ := h
  have hne : ∀ {t : TypeId} {A : Option Addr} {n c : Nat} {xs : List Value}, Own w t A n c xs → t ≠ 165 → g ∉ blks A := fun ho ht hm => by
    obtain ⟨cur, hc⟩ := ho.bk hm
    exact hc.ne h1 ht rfl
  refine ⟨Ad, cd, Ae, ce, by simpa using h1.set 6 (.bool true), h2.setFar (hne h2 (by decide)) _, ⟨h3, vs, e2.setFar (hne e2 (by decide)) _, e3, fun i l hi => ?_⟩, h4, h5, fun x hx => by simpa [World.setCell] using h6 x hx, h7⟩
  obtain ⟨Ai, ci, k1, k2, k3⟩ := e4 i l hi
  exact ⟨Ai, ci, k1, k2.setFar (hne k2 (by decide)) _, k3⟩
def Jd (d g : Nat) (img log : ByteArray) (F G : List Nat) (S' : Dst) (L' : LS) (v : Value) (w : World) (e : Ending) (w' : World) : Prop :=
  e = .returned v ∧ ∃ F' G', Disk w' d F' S' ∧ Lg w' d g img log G' L' ∧ (∀ x ∈ F', x ∉ G') ∧ Only (F ++ G) w w' ∧ (∀ x ∈ F', x ∈ F ∨ w.heap.size ≤ x) ∧ ∀ x ∈ G', x ∈ G ∨ w.heap.size ≤ x
end
end Go.Proofs.YtgnilldcfpgpaaaGreatDoor
namespace Go.Proofs.YtgnilldcfpgpaaaGreatDoor
open Go.RowKit Go.Maps
section
variable {w : World} {d g : Nat} {img log : ByteArray} {F G : List Nat} {S : Dst} {L : LS}
set_option maxRecDepth 100000 in
theorem ready_any (h : Lg w d g img log G L) : Calls Tryz.prog 93 #[.pointer (some ⟨g, 0, none⟩)] w fun e w' => e = .returned (.int .i64 (if L.dead then 9 else 0)) ∧ w = w' := by
  obtain ⟨_, _, _, _, _, _, c6, hg⟩ := h.cells
  clear h
  cases hd : L.dead
  · rw [hd] at c6
    clear hd
    go_enter Tryz.func93, Tryz.ntmps93
    go_wp2
    go_ret
    exact ⟨rfl, rfl⟩
  · rw [hd] at c6
    clear hd
    go_enter Tryz.func93, Tryz.ntmps93
    go_wp2
    go_ret
    exact ⟨rfl, rfl⟩
set_option maxRecDepth 100000 in
theorem die_any (h : Lg w d g img log G L) (x : Int) : Calls Tryz.prog 97 #[.pointer (some ⟨g, 0, none⟩), .int .i64 x] w fun e w' => e = .returned (.int .i64 x) ∧ Lg w' d g img log G { L with dead := true } ∧ Only [g] w w' := by
  obtain ⟨_, _, _, _, _, _, c6, hg⟩ := h.cells
  have f6 := h.free 6
  have HD := Lib.hid h.die
  clear h
  go_enter Tryz.func97, Tryz.ntmps97
  go_wp2
  go_ret
  exact ⟨rfl, HD.out, (Only.refl _ _).setCell (.inl (by simp)) _⟩
set_option maxRecDepth 100000 in
theorem Last_any (h : Lg w d g img log G L) : Calls Tryz.prog 94 #[.pointer (some ⟨g, 0, none⟩)] w fun e w' => e = .returned (.int .i64 (L.last : Int)) ∧ Only [] w w' := by
  obtain ⟨_, _, _, c3, _, ⟨Ae, ce, c5, _⟩, _, hg⟩ := h.cells
  obtain ⟨b1, _, b3⟩ := h.bounds
  have HL : Hid ((L.last : Int) = (L.base : Int) + (L.es.length : Int)) := by
    show _ = _
    unfold LS.last
    omega
  obtain ⟨z, hz⟩ : ∃ z : Int, (L.last : Int) = z := ⟨_, rfl⟩
  rw [hz] at HL ⊢
  obtain ⟨x, hx⟩ : ∃ x, L.base = x := ⟨_, rfl⟩
  obtain ⟨y, hy⟩ : ∃ y, L.es.length = y := ⟨_, rfl⟩
  rw [hx] at c3 b1 HL
  rw [hy] at c5 b3 HL
  clear h hz hx hy
  go_enter Tryz.func94, Tryz.ntmps94
  go_wp2_with fail
  go_quiet (fail)
  go_wp2_with fail
  go_ret
  exact ⟨by rw [HL.out]; rfl, (Only.refl _ _).drewN _⟩
theorem readE_cases (S : Dst) (s : ByteArray) : readE S s = 0 ∨ readE S s = 7 := by
  unfold readE
  split
  · exact .inr rfl
  · exact .inl rfl
set_option maxRecDepth 100000 in
theorem lremove_any (hD : Disk w d F S) (h : w.cell? ⟨g, 0, none⟩ = some (.pointer (some ⟨d, 0, none⟩))) (s : ByteArray) (hs : s.size ≤ maxLen) :
    Calls Tryz.prog 119 #[.pointer (some ⟨g, 0, none⟩), .string s] w (Did d F (rmS S s) (.int .i64 (rmE S s : Nat)) w) := by
  have HR := Lib.hid (read_any hD s hs)
  have HD := Lib.hid hD
  have hg := block_lt_of_cell h
  obtain ⟨bs, hbs⟩ : ∃ b, readD S s = b := ⟨_, rfl⟩
  rw [hbs] at HR
  rcases readE_cases S s with h0 | h0
  · have e1 : rmE S s = errF S s := by unfold rmE; rw [if_neg (by omega)]
    have e2 : rmS S s = removeS S s := by unfold rmS; rw [if_neg (by omega)]
    rw [e1, e2]
    rw [h0] at HR
    have HX := Lib.hid (fun (W : World) (hW : Disk W d F S) => remove_one hW s)
    generalize errF S s = x at HX ⊢
    generalize removeS S s = S1 at HX ⊢
    clear e1 e2 h0 hbs hs hD
    go_enter Tryz.func119, Tryz.ntmps119
    go_wp2_with (first
      | (go_at_call 175; refine HR.out.mono ?_; clear HR; rintro e w1 ⟨A1, c1, rfl, V1, O1, B1⟩; have h1 := O1.cellSome h (fun hm => nomatch hm))
      | (go_at_call 176; refine (HX.out w1 (HD.out.keep O1)).mono ?_; clear HX; rintro e w2 ⟨rfl, hD2⟩))
    go_ret
    exact Did.then (F1 := F) (O1.mono fun _ h => nomatch h) (fun _ h => .inl h) ⟨rfl, hD2⟩
  · have e1 : rmE S s = 0 := by unfold rmE; rw [if_pos h0]
    have e2 : rmS S s = S := by unfold rmS; rw [if_pos h0]
    rw [e1, e2]
    rw [h0] at HR
    clear e1 e2 h0 hbs hs hD
    go_enter Tryz.func119, Tryz.ntmps119
    go_wp2_with (go_at_call 175; refine HR.out.mono ?_; clear HR; rintro e w1 ⟨A1, c1, rfl, V1, O1, B1⟩)
    go_ret
    exact did_same rfl HD.out O1
end
end Go.Proofs.YtgnilldcfpgpaaaGreatDoor
namespace Go.Proofs.YtgnilldcfpgpaaaGreatDoor
open Go.RowKit
theorem RwS.oneP {S : Nat → Prop} {w : World} {g : Nat} {t : TypeId} {A : Option Addr} {c : Nat} {l : List UInt8} (h : Bk w g t #[.slice A l.length c]) (hs : Sl w A l.length (bvs l)) (hg : S g) (hA : 0 < l.length → ∀ ad, A = some ad → S ad.block) : RwS S w (some ⟨g, 0, none⟩) 1 [l] :=
  ⟨rfl, _, Sl.of_bk h, fun _ ad e => by injection e with e; subst e; exact hg, fun i l' hi => by
    match i, hi with
    | 0, hi => simp at hi; subst hi; exact ⟨A, c, by simp, hs, hA⟩⟩
set_option maxHeartbeats 800000 in
set_option maxRecDepth 100000 in
theorem numbered_any (k : Nat) (A : Option Addr) (n c : Nat) (p : List UInt8) (w : World) (hk : k ≤ 1099511627776) (hs : Sl w A n (bvs p)) (hn : n ≤ 1048576) :
    Calls Tryz.prog 96 #[.int .i64 (k : Int), .slice A n c] w (Fresh w (numd k p)) := by
  have hl : p.length = n := by simpa using hs.len
  have HK : Hid (encs [(k : Int)] = enc k) := by
    show _ = _
    unfold encs clamp
    simp
    rw [if_neg (by omega), if_neg (by omega)]
  have HR : Hid (rowsEnc [p] = enc p.length ++ p) := by
    show _ = _
    unfold rowsEnc rowEnc
    simp
  have hql := numd_len (k := k) (p := p) hk (by omega)
  have HQ : Hid (enc k ++ rowsEnc [p] = numd k p) := by
    show _ = _
    rw [HR.out]
    rfl
  obtain ⟨q, hq⟩ : ∃ q, numd k p = q := ⟨_, rfl⟩
  rw [hq] at HQ hql ⊢
  clear hq
  have h9 := enc_len9 (v := k) (by omega)
  have h9' := enc_len9 (v := p.length) (by omega)
  go_enter Tryz.func96, Tryz.ntmps96
  go_wp2_with fail
  refine (wnums_any w.heap.size none 0 [] (some ⟨w.heap.size + 1, 0, none⟩) 1 1 [(k : Int)] _ (by exact (Wr.new w).keep ((Only.refl _ _).alloc _)) (by have h := Sl.of_bk (Bk.new (w.alloc (.cells #[.slice none 0 0] 134)) 3 #[.int .i64 (k : Int)]); simpa [ivs] using h) (by intro x hx; simp at hx; omega) (by simp) (by omega) (by simp)).mono ?_
  rintro e w1 ⟨rfl, A1, c1, HW1, HO1, HB1⟩
  rw [HK.out, List.nil_append] at HW1
  have hz1 := HO1.size
  simp at hz1
  have Q1 : Only [] w w1 := (((Only.refl _ _).alloc _).alloc _).trans HO1 (fun x hx => by simp at hx; exact .inr (by omega))
  have hb1 : ∀ x ∈ blks A1, w.heap.size + 1 < x := fun x hx => by
    rcases HB1 x hx with h | h
    · cases h
    · simp at h; omega
  go_wp2_with fail
  refine (wbytes_any w.heap.size A1 c1 _ (some ⟨w1.heap.size, 0, none⟩) 1 1 [p] _ (fun x => x ≠ w.heap.size ∧ x ∉ blks A1) (HW1.keep ((Only.refl _ _).alloc _))
    (by subst hl; exact RwS.oneP (Bk.new _ _ _) ((hs.keep Q1).alloc _) ⟨by omega, fun hm => by have := HW1.2.lt hm; omega⟩ (fun hp ad e => by have := hs.lt hp ad e; exact ⟨by omega, fun hm => by have := hb1 _ hm; omega⟩))
    (fun x hx hm => by rcases List.mem_cons.1 hm with h | h; exact hx.1 h; exact hx.2 h) (by omega) (by unfold rowsLen; rw [HR.out, List.length_append]; omega)).mono ?_
  rintro e w2 ⟨rfl, A2, c2, HW2, HO2, HB2⟩
  rw [HQ.out] at HW2
  have Q2 : Only [] w w2 := (Q1.alloc _).trans HO2 (fun x hx => by
    rcases List.mem_cons.1 hx with h | h
    · exact .inr (by omega)
    · exact .inr (by have := hb1 x h; omega))
  go_wp2_with fail
  refine (out_any w.heap.size A2 c2 _ _ HW2 (by omega)).mono ?_
  rintro e w3 ⟨A3, c3, rfl, HV3, HO3, HB3⟩
  go_wp2_with fail
  go_ret
  exact ⟨A3, c3, rfl, HV3, Q2.trans HO3 (fun _ hx => by cases hx), fun x hx => Nat.le_trans Q2.size (HB3 x hx)⟩
def Parsed (b : List UInt8) (w : World) (e : Ending) (w' : World) : Prop :=
  match prsR b with
  | none => e = .returned (.tuple #[.int .i64 0, .slice none 0 0, .bool false]) ∧ Only [] w w'
  | some (k, p) => ∃ A c, e = .returned (.tuple #[.int .i64 (k : Int), .slice A p.length c, .bool true]) ∧ Own w' 5 A p.length c (bvs p) ∧ Only [] w w' ∧ ∀ x ∈ blks A, w.heap.size ≤ x
theorem pOk_eq (b : List UInt8) : pOk b = (!rowBad (takeBad false b) (takeRest false b) && decide (rowRest (takeBad false b) (takeRest false b) = [])) := rfl
set_option maxHeartbeats 800000 in
set_option maxRecDepth 100000 in
theorem parse_any (A : Option Addr) (n c : Nat) (b : List UInt8) (w : World) (hs : Sl w A n (bvs b)) (hn : n ≤ 1000000000000) :
    Calls Tryz.prog 178 #[.slice A n c] w (Parsed b w) := by
  have hk : pV b ≤ 4611686018427387904 := decV_le b
  have HN := Lib.hid (newReader_any w A n c b hs hn)
  have HX := Lib.hid (fun (W : World) (g kb : Nat) (A : Option Addr) (c : Nat) (h : Rd W g kb A c false b) => num_any h)
  have HY := Lib.hid (fun (W : World) (g kb : Nat) (A : Option Addr) (c : Nat) (h : Rd W g kb A c (takeBad false b) (takeRest false b)) => rbytes_any h)
  have HZ := Lib.hid (fun (W : World) (g kb : Nat) (A : Option Addr) (c : Nat) (h : Rd W g kb A c (rowBad (takeBad false b) (takeRest false b)) (rowRest (takeBad false b) (takeRest false b))) => whole_any h)
  have HE := pOk_eq b
  rw [← HE] at HZ
  have HP : Hid (∀ e w', Parsed b w e w' ↔ match prsR b with
    | none => e = .returned (.tuple #[.int .i64 0, .slice none 0 0, .bool false]) ∧ Only [] w w'
    | some (k, p) => ∃ A c, e = .returned (.tuple #[.int .i64 (k : Int), .slice A p.length c, .bool true]) ∧ Own w' 5 A p.length c (bvs p) ∧ Only [] w w' ∧ ∀ x ∈ blks A, w.heap.size ≤ x) := fun e w' => Iff.rfl
  have e1 : takeV false b = pV b := rfl
  have e2 : rowTook (takeBad false b) (takeRest false b) = pRow b := rfl
  rw [e1] at HX
  rw [e2] at HY
  have HPN : Hid (pOk b = false → prsR b = none) := fun h => by unfold prsR; rw [h]; rfl
  have HPB : Hid (pOk b = true → 1099511627776 < pV b → prsR b = none) := fun h h' => by unfold prsR; rw [if_pos h, if_pos h']
  have HPS : Hid (pOk b = true → ¬1099511627776 < pV b → prsR b = some (pV b, pRow b)) := fun h h' => by unfold prsR; rw [if_pos h, if_neg h']
  clear HE e1 e2 hs hn
  obtain ⟨v, hv⟩ : ∃ v, pV b = v := ⟨_, rfl⟩
  obtain ⟨r, hr⟩ : ∃ r, pRow b = r := ⟨_, rfl⟩
  obtain ⟨o, ho⟩ : ∃ o, pOk b = o := ⟨_, rfl⟩
  rw [hv, ho] at HPB HPS
  rw [hr] at HPS HY
  rw [hv] at HX hk
  rw [ho] at HPN HZ
  clear hv hr ho
  have walk : ∀ (Q : Ending → World → Prop), (∀ w', Only [] w w' → (o = false ∨ 1099511627776 < v) → Q (.returned (.tuple #[.int .i64 0, .slice none 0 0, .bool false])) w') →
      (∀ w' A c, Only [] w w' → (∀ x ∈ blks A, w.heap.size ≤ x) → Own w' 5 A r.length c (bvs r) → o = true → ¬1099511627776 < v → Q (.returned (.tuple #[.int .i64 (v : Int), .slice A r.length c, .bool true])) w') →
      Calls Tryz.prog 178 #[.slice A n c] w Q := by
    intro Q h1 h2
    have H1 := Lib.hid h1
    have H2 := Lib.hid h2
    clear h1 h2 HPN HPB HPS HP
    cases o
    · go_enter Tryz.func178, Tryz.ntmps178
      go_wp2_with (first
        | (go_at_call 73; refine (HZ.out _ _ _ _ _ R3).mono ?_; rintro e w4 ⟨rfl, rfl⟩)
        | (go_at_call 72; refine (HY.out _ _ _ _ _ R2).mono ?_; rintro e w3 ⟨P, cp, A3, c3, rfl, V3, B3, R3, O3⟩)
        | (go_at_call 71; refine (HX.out _ _ _ _ _ R1).mono ?_; rintro e w2 ⟨rfl, A2, c2, R2, O2⟩)
        | (go_at_call 66; refine HN.out.mono ?_; clear HN; rintro e w1 ⟨g, kb, A1, c1, rfl, hg, hkb, R1, O1⟩))
      exact H1.out _ ((O1.trans O2 (fun x hx => by simp at hx; exact .inr (by omega))).trans O3 (fun x hx => by simp at hx; exact .inr (by omega))) (by simp)
    · by_cases hb : 1099511627776 < v
      · go_enter Tryz.func178, Tryz.ntmps178
        go_wp2_with (first
          | (go_at_call 73; refine (HZ.out _ _ _ _ _ R3).mono ?_; rintro e w4 ⟨rfl, rfl⟩)
          | (go_at_call 72; refine (HY.out _ _ _ _ _ R2).mono ?_; rintro e w3 ⟨P, cp, A3, c3, rfl, V3, B3, R3, O3⟩)
          | (go_at_call 71; refine (HX.out _ _ _ _ _ R1).mono ?_; rintro e w2 ⟨rfl, A2, c2, R2, O2⟩)
          | (go_at_call 66; refine HN.out.mono ?_; clear HN; rintro e w1 ⟨g, kb, A1, c1, rfl, hg, hkb, R1, O1⟩))
        exact H1.out _ ((O1.trans O2 (fun x hx => by simp at hx; exact .inr (by omega))).trans O3 (fun x hx => by simp at hx; exact .inr (by omega))) (.inr hb)
      · go_enter Tryz.func178, Tryz.ntmps178
        go_wp2_with (first
          | (go_at_call 73; refine (HZ.out _ _ _ _ _ R3).mono ?_; rintro e w4 ⟨rfl, rfl⟩)
          | (go_at_call 72; refine (HY.out _ _ _ _ _ R2).mono ?_; rintro e w3 ⟨P, cp, A3, c3, rfl, V3, B3, R3, O3⟩)
          | (go_at_call 71; refine (HX.out _ _ _ _ _ R1).mono ?_; rintro e w2 ⟨rfl, A2, c2, R2, O2⟩)
          | (go_at_call 66; refine HN.out.mono ?_; clear HN; rintro e w1 ⟨g, kb, A1, c1, rfl, hg, hkb, R1, O1⟩))
        have Q2 : Only [] w w2 := O1.trans O2 (fun x hx => by simp at hx; exact .inr (by omega))
        exact H2.out _ _ _ (Q2.trans O3 (fun x hx => by simp at hx; exact .inr (by omega))) (fun x hx => Nat.le_trans Q2.size (B3 x hx)) V3 (by simp) hb
  refine walk _ (fun w' hO hd => (HP.out _ _).2 ?_) (fun w' A c hO hB hV ho hb => (HP.out _ _).2 ?_)
  · have hz : prsR b = none := by
      cases ho : o
      · exact HPN.out ho
      · rcases hd with hd | hd
        · rw [hd] at ho; cases ho
        · exact HPB.out ho hd
    rw [hz]
    exact ⟨rfl, hO⟩
  · rw [HPS.out ho hb]
    exact ⟨A, c, rfl, hV, hO, hB⟩
end Go.Proofs.YtgnilldcfpgpaaaGreatDoor
namespace Go.Proofs.YtgnilldcfpgpaaaGreatDoor
open Go.RowKit Go.Maps
section
variable {w : World} {d g : Nat} {img log : ByteArray} {F G : List Nat} {S : Dst} {L : LS}
set_option maxRecDepth 100000 in
theorem layRecord_any (hD : Disk w d F S) (h : Lg w d g img log G L) (hFG : ∀ x ∈ F, x ∉ G) (A : Option Addr) (n c : Nat) (p : List UInt8) (hs : Sl w A n (bvs p)) (hn : n ≤ 1048576) (ht : Tab w) :
    Calls Tryz.prog 95 #[.pointer (some ⟨g, 0, none⟩), .slice A n c] w (Did d F (layS S log (record p)) (.int .i64 (layE S log (record p) : Nat)) w) := by
  obtain ⟨c0, _, c2, _, _, _, _, hg⟩ := h.cells
  have hgF : g ∉ F := fun hm => hFG g hm h.g_mem
  have hl : p.length = n := by simpa using hs.len
  subst hl
  have HE := Lib.hid (encode_rows (some ⟨w.heap.size, 0, none⟩) 1 1 [p] p (w.alloc (.cells #[.slice A p.length c] 27)) (by simp) (Rw.one (Bk.new w _ _) (hs.alloc _)) (ht.keep ((Only.refl [] w).alloc _)) (by omega) (by omega))
  have HD := Lib.hid hD
  obtain ⟨r, hr'⟩ : ∃ r, r = record p := ⟨_, rfl⟩
  rw [← hr'] at HE ⊢
  have HX := Lib.hid (fun (W : World) (F : List Nat) (hD : Disk W d F S) (A : Option Addr) (n c : Nat) hl hs hA => append_one hD log A n c r hl hs hA)
  clear hr' hs ht h hFG
  rcases errA_cases S log r with ha | ha | ha | ha
  · have e1 : layS S log r = syncS (appendS S log r) log := by unfold layS; rw [if_pos ha]
    have e2 : layE S log r = errF (appendS S log r) log := by unfold layE; rw [if_pos ha]
    rw [e1, e2]
    rw [ha] at HX
    clear e1 e2 ha hD
    go_enter Tryz.func95, Tryz.ntmps95
    go_wp2_with (go_at_call 157; refine HE.out.mono ?_; clear HE; rintro e w1 ⟨A1, c1, rfl, V1, O1, B1⟩; have O1' := ((Only.refl [] w).alloc _).trans O1 (fun _ h => nomatch h); have k0 := O1'.cellSome c0 (fun hm => nomatch hm); have k2 := O1'.cellSome c2 (fun hm => nomatch hm))
    go_region_held3 (fun w' => w'.cell? ⟨g, 0, none⟩ = some (.pointer (some ⟨d, 0, none⟩)) ∧ w'.cell? ⟨g, 2, none⟩ = some (.string log)) (first | go_keep | exact ⟨k0, k2⟩ | exact ⟨j0, j2⟩) ((go_at_call 158; refine (HX.out _ _ (HD.out.keep O1'.drew) A1 _ c1 rfl (V1.sl.keep (Only.refl _ _).drew) (fun _ ad e hm => by have := B1 _ (mem_blks e); have := HD.out.lt hm; simp at *; omega)).mono ?_; clear HX; rintro e w2 ⟨rfl, hD2⟩; obtain ⟨F2, D2, O2, B2⟩ := chained (F := F) (O1'.drew.mono (fun _ h => nomatch h)) (fun _ h => .inl h) hD2; have j0 := O2.cellSome c0 hgF; have j2 := O2.cellSome c2 hgF))
    go_wp2
    go_region_held3 (fun w' => w'.cell? ⟨g, 0, none⟩ = some (.pointer (some ⟨d, 0, none⟩)) ∧ w'.cell? ⟨g, 2, none⟩ = some (.string log)) (first | go_keep | exact ⟨j0, j2⟩ | exact ⟨i0, i2⟩) ((go_at_call 159; refine (sync_one (D2.keep (Only.refl _ _).drew) log).mono ?_; rintro e w3 ⟨rfl, hD3⟩; obtain ⟨F3, D3, O3, B3⟩ := chained O2.drew B2 hD3; have i0 := O3.cellSome c0 hgF; have i2 := O3.cellSome c2 hgF))
    go_wp2
    go_ret
    exact ⟨rfl, F3, D3, O3, B3⟩
  all_goals
    have e1 : layS S log r = S := by unfold layS; rw [if_neg (by omega)]
    have e2 : layE S log r = errA S log r := by unfold layE; rw [if_neg (by omega)]
    have e3 : appendS S log r = S := by unfold appendS; rw [if_neg (by omega)]
    rw [e1, e2, ha]
    rw [ha, e3] at HX
    clear e1 e2 e3 ha hD
    go_enter Tryz.func95, Tryz.ntmps95
    go_wp2_with (go_at_call 157; refine HE.out.mono ?_; clear HE; rintro e w1 ⟨A1, c1, rfl, V1, O1, B1⟩; have O1' := ((Only.refl [] w).alloc _).trans O1 (fun _ h => nomatch h); have k0 := O1'.cellSome c0 (fun hm => nomatch hm); have k2 := O1'.cellSome c2 (fun hm => nomatch hm))
    go_region_held3 (fun w' => w'.cell? ⟨g, 0, none⟩ = some (.pointer (some ⟨d, 0, none⟩)) ∧ w'.cell? ⟨g, 2, none⟩ = some (.string log)) (first | go_keep | exact ⟨k0, k2⟩ | exact ⟨i0, i2⟩) ((go_at_call 158; refine (HX.out _ _ (HD.out.keep O1'.drew) A1 _ c1 rfl (V1.sl.keep (Only.refl _ _).drew) (fun _ ad e hm => by have := B1 _ (mem_blks e); have := HD.out.lt hm; simp at *; omega)).mono ?_; clear HX; rintro e w2 ⟨rfl, hD2⟩; obtain ⟨F2, D2, O2, B2⟩ := chained (F := F) (O1'.drew.mono (fun _ h => nomatch h)) (fun _ h => .inl h) hD2; have i0 := O2.cellSome c0 hgF; have i2 := O2.cellSome c2 hgF))
    go_wp2
    go_ret
    exact ⟨rfl, F2, D2, O2, B2⟩
end
end Go.Proofs.YtgnilldcfpgpaaaGreatDoor
namespace Go.Proofs.YtgnilldcfpgpaaaGreatDoor
open Go.RowKit Go.Maps
section
variable {w w4 w5 : World} {d g : Nat} {img log : ByteArray} {F G : List Nat} {S : Dst} {L : LS} {Ad Ae : Option Addr} {cd ce : Nat} {vs : List Value}
theorem own_off {w : World} {t u : TypeId} {A : Option Addr} {n c : Nat} {xs : List Value} {cs : Array Value} (ho : Own w t A n c xs) (h1 : Bk w g u cs) (ht : t ≠ u) : g ∉ blks A := fun hm => by
  obtain ⟨cur, hc⟩ := ho.bk hm
  exact hc.ne h1 ht rfl
theorem lg_snoc (h1 : Bk w g 165 #[.pointer (some ⟨d, 0, none⟩), .string img, .string log, .int .i64 (L.base : Int), .slice Ad L.data.length cd, .slice Ae L.es.length ce, .bool L.dead])
    (h2 : Own w 5 Ad L.data.length cd (bvs L.data)) (e1 : L.es.length = vs.length) (e2 : Own w 27 Ae L.es.length ce vs)
    (e4 : ∀ (i : Nat) (l : List UInt8), L.es[i]? = some l → ∃ Ai ci, vs[i]? = some (.slice Ai l.length ci) ∧ Own w 5 Ai l.length ci (bvs l) ∧ ∀ x ∈ blks Ai, x ∈ G)
    (h4 : g ∈ G) (h5 : ∀ x ∈ blks Ad, x ∈ G) (h6 : ∀ x ∈ G, x < w.heap.size) (h7 : L.base ≤ 1099511627776 ∧ L.data.length ≤ 1073741824) (hb : L.es.length + 1 ≤ 1099511627776) (h8 : ∀ l ∈ L.es, l.length ≤ 1073741824)
    {A4 L2 : Option Addr} {c4 c2 : Nat} {p : List UInt8} (hp : p.length ≤ 1073741824) (O : Only [] w w4) (V4 : Own w4 5 A4 p.length c4 (bvs p)) (O5 : Only (blks Ae) w4 w5)
    (HV2 : Own w5 27 L2 (L.es.length + 1) c2 (vs ++ [.slice A4 p.length c4])) :
    Lg (w5.setCell ⟨g, 5, none⟩ (.slice L2 (L.es.length + 1) c2)) d g img log (G ++ (blks L2 ++ blks A4)) { L with es := L.es ++ [p] } ∧ Only (g :: blks Ae) w (w5.setCell ⟨g, 5, none⟩ (.slice L2 (L.es.length + 1) c2)) := by
  have e2' := e2.keep O
  have hgA := own_off e2' (h1.only O (fun hm => nomatch hm)) (by decide)
  have HB5 := (h1.only O (fun hm => nomatch hm)).only O5 hgA
  have V5 := V4.only O5 (V4.apart e2' (by decide))
  have D5 := (h2.keep O).only O5 ((h2.keep O).apart e2' (by decide))
  have sz : w.heap.size ≤ w5.heap.size := Nat.le_trans O.size O5.size
  refine ⟨⟨Ad, cd, L2, c2, ?_, D5.setFar (own_off D5 HB5 (by decide)) _, ⟨rfl, vs ++ [.slice A4 p.length c4], ?_, ?_, ?_⟩, ?_, ?_, ?_, ?_⟩, ?_⟩
  · have := HB5.set 5 (.slice L2 (L.es.length + 1) c2)
    rw [show (L.es ++ [p]).length = L.es.length + 1 from by simp]
    simpa using this
  · rw [show (L.es ++ [p]).length = L.es.length + 1 from by simp]
    exact HV2.setFar (own_off HV2 HB5 (by decide)) _
  · intro x hx
    simp [hx]
  · intro i l hi
    rcases Nat.lt_or_ge i L.es.length with hlt | hge
    · rw [List.getElem?_append_left hlt] at hi
      obtain ⟨Ai, ci, k1, k2, k3⟩ := e4 i l hi
      have k5 := (k2.keep O).only O5 ((k2.keep O).apart e2' (by decide))
      exact ⟨Ai, ci, by rw [List.getElem?_append_left (by omega)]; exact k1, k5.setFar (own_off k5 HB5 (by decide)) _, fun x hx => by simp [k3 x hx]⟩
    · rw [List.getElem?_append_right hge] at hi
      have h0 : i - L.es.length = 0 := by
        have := (List.getElem?_eq_some_iff.1 hi).1
        simp at this
        omega
      rw [h0] at hi
      simp at hi
      subst hi
      exact ⟨A4, c4, by rw [List.getElem?_append_right (by omega), ← e1, h0]; rfl, V5.setFar (own_off V5 HB5 (by decide)) _, fun x hx => by simp [hx]⟩
  · simp [h4]
  · intro x hx
    simp [h5 x hx]
  · intro x hx
    simp only [List.mem_append] at hx
    show x < (w5.setCell _ _).heap.size
    have hs5 : (w5.setCell ⟨g, 5, none⟩ (.slice L2 (L.es.length + 1) c2)).heap.size = w5.heap.size := by simp [World.setCell]
    rw [hs5]
    rcases hx with hx | hx | hx
    · have := h6 x hx; omega
    · exact HV2.lt hx
    · exact V5.lt hx
  · refine ⟨h7.1, h7.2, ?_, fun l hl => ?_⟩
    · rw [show (L.es ++ [p]).length = L.es.length + 1 from by simp]
      exact hb
    · simp only [List.mem_append, List.mem_singleton] at hl
      rcases hl with hl | hl
      · exact h8 l hl
      · subst hl; exact hp
  · exact ((O.mono (ss := g :: blks Ae) (fun _ h => nomatch h)).trans O5 (fun x hx => .inl (List.mem_cons_of_mem _ hx))).setCell (.inl (by simp)) _
end
end Go.Proofs.YtgnilldcfpgpaaaGreatDoor
namespace Go.Proofs.YtgnilldcfpgpaaaGreatDoor
open Go.RowKit Go.Maps
def appN (S : Dst) (log : ByteArray) (L : LS) (p : List UInt8) : Nat := if appE S log L p = 0 then L.last + 1 else 0
theorem layE_cases (S : Dst) (s : ByteArray) (r : List UInt8) : layE S s r = 0 ∨ layE S s r = 1 ∨ layE S s r = 6 ∨ layE S s r = 7 ∨ layE S s r = 9 := by
  unfold layE
  have h1 := errA_cases S s r
  have h2 := errF_cases (appendS S s r) s
  split <;> omega
section
variable {w : World} {d g : Nat} {img log : ByteArray} {F G : List Nat} {S : Dst} {L : LS}
theorem jd_same {v : Value} {e : Ending} {w' : World} (hD : Disk w d F S) (hL : Lg w d g img log G L) (hFG : ∀ x ∈ F, x ∉ G) (he : e = .returned v) (o : Only [] w w') : Jd d g img log F G S L v w e w' :=
  ⟨he, F, G, hD.keep o, hL.keep o, hFG, o.mono (fun _ h => nomatch h), fun _ hx => .inl hx, fun _ hx => .inl hx⟩
set_option maxRecDepth 100000 in
theorem append_bad (hD : Disk w d F S) (h : Lg w d g img log G L) (hFG : ∀ x ∈ F, x ∉ G) (A : Option Addr) (n c : Nat) (p : List UInt8) (hl : p.length = n) (hb : L.dead = true ∨ 65536 < p.length ∨ 1099511627776 < L.last + 1) :
    Calls Tryz.prog 43 #[.pointer (some ⟨g, 0, none⟩), .slice A n c] w (Jd d g img log F G (appS S log L p) (appL S log L p) (.tuple #[.int .i64 (appN S log L p : Nat), .int .i64 (appE S log L p : Nat)]) w) := by
  have HY := Lib.hid (ready_any h)
  have HL := Lib.hid (Last_any h)
  obtain ⟨b1, _, b3⟩ := h.bounds
  have hk : L.last ≤ 2199023255552 := by unfold LS.last; omega
  subst hl
  cases hd : L.dead
  · rw [hd] at HY
    have hb' : 65536 < p.length ∨ 1099511627776 < L.last + 1 := by
      rcases hb with hb | hb
      · rw [hd] at hb; cases hb
      · exact hb
    have e1 : appS S log L p = S := by unfold appS; rw [hd, if_neg (by simp), if_pos hb']
    have e2 : appE S log L p = 5 := by unfold appE; rw [hd, if_neg (by simp), if_pos hb']
    have e3 : appL S log L p = L := by unfold appL; rw [hd, if_neg (by simp), if_pos hb']
    have e4 : appN S log L p = 0 := by unfold appN; rw [e2, if_neg (by omega)]
    rw [e1, e2, e3, e4]
    have HJ := Lib.hid (fun (v : Value) (e : Ending) (w' : World) (he : e = .returned v) (o : Only [] w w') => jd_same hD h hFG he o)
    clear e1 e2 e3 e4 hb hd hD h hFG
    generalize hkk : L.last = k at *
    clear hkk
    by_cases hlong : 65536 < p.length
    · clear hb'
      go_enter Tryz.func43, Tryz.ntmps43
      go_wp2_with (first
        | (go_at_call 93; refine HY.out.mono ?_; clear HY; rintro e w1 ⟨rfl, rfl⟩)
        | (go_at_call 94; refine HL.out.mono ?_; clear HL; rintro e w1 ⟨rfl, O1⟩))
      go_ret2
      exact HJ.out _ _ _ rfl O1
    · have hnum : 1099511627776 < k + 1 := by omega
      clear hb'
      go_enter Tryz.func43, Tryz.ntmps43
      go_wp2_with (first
        | (go_at_call 93; refine HY.out.mono ?_; clear HY; rintro e w1 ⟨rfl, rfl⟩)
        | (go_at_call 94; refine HL.out.mono ?_; clear HL; rintro e w1 ⟨rfl, O1⟩))
      go_ret2
      exact HJ.out _ _ _ rfl O1
  · rw [hd] at HY
    have e1 : appS S log L p = S := by unfold appS; rw [hd, if_pos rfl]
    have e2 : appE S log L p = 9 := by unfold appE; rw [hd, if_pos rfl]
    have e3 : appL S log L p = L := by unfold appL; rw [hd, if_pos rfl]
    have e4 : appN S log L p = 0 := by unfold appN; rw [e2, if_neg (by omega)]
    rw [e1, e2, e3, e4]
    have HJ := Lib.hid (fun (v : Value) (e : Ending) (w' : World) (he : e = .returned v) (o : Only [] w w') => jd_same hD h hFG he o)
    clear e1 e2 e3 e4 hb hd hD h hFG HL
    go_enter Tryz.func43, Tryz.ntmps43
    go_wp2_with (go_at_call 93; refine HY.out.mono ?_; clear HY; rintro e w1 ⟨rfl, rfl⟩)
    go_ret2
    exact HJ.out _ _ _ rfl (Only.refl _ _)
set_option maxRecDepth 100000 in
theorem append_err (hD : Disk w d F S) (h : Lg w d g img log G L) (hFG : ∀ x ∈ F, x ∉ G) (A : Option Addr) (n c : Nat) (p : List UInt8) (hs : Sl w A n (bvs p)) (ht : Tab w)
    (h1 : L.dead = false) (h2 : p.length ≤ 65536) (h3 : L.last + 1 ≤ 1099511627776) (he : layE S log (record (numd (L.last + 1) p)) ≠ 0) :
    Calls Tryz.prog 43 #[.pointer (some ⟨g, 0, none⟩), .slice A n c] w (Jd d g img log F G (appS S log L p) (appL S log L p) (.tuple #[.int .i64 (appN S log L p : Nat), .int .i64 (appE S log L p : Nat)]) w) := by
  have HY := Lib.hid (ready_any h)
  have HL := Lib.hid (Last_any h)
  have hl : p.length = n := by simpa using hs.len
  obtain ⟨q, hq⟩ : ∃ q, q = numd (L.last + 1) p := ⟨_, rfl⟩
  have hql := numd_len h3 (by omega : p.length ≤ 1099511627776)
  rw [← hq] at hql he
  have e1 : appS S log L p = layS S log (record q) := by unfold appS; rw [h1, if_neg (by simp), if_neg (by omega), ← hq]
  have e2 : appE S log L p = layE S log (record q) := by unfold appE; rw [h1, if_neg (by simp), if_neg (by omega), ← hq]
  have e3 : appL S log L p = { L with dead := true } := by unfold appL; rw [h1, if_neg (by simp), if_neg (by omega), ← hq, if_neg he]
  have e4 : appN S log L p = 0 := by unfold appN; rw [e2, if_neg he]
  rw [e1, e2, e3, e4]
  rw [h1] at HY
  have HN := Lib.hid (fun (W : World) (o : Only [] w W) => numbered_any (L.last + 1) A n c p W h3 (hs.keep o) (by omega))
  rw [← hq] at HN
  have HX := Lib.hid (fun (W : World) (o : Only [] w W) (A : Option Addr) (n c : Nat) (hs : Sl W A n (bvs q)) (hn : n ≤ 1048576) => layRecord_any (hD.keep o) (h.keep o) hFG A n c q hs hn (ht.keep o))
  have HZ := Lib.hid (fun (W : World) (o : Only F w W) (x : Int) => die_any (h.only o (fun x hx hm => hFG x hm hx)) x)
  have hcast : ((L.last + 1 : Nat) : Int) = (L.last : Int) + 1 := by omega
  rw [hcast] at HN
  have HF := Lib.hid hFG
  have HG := Lib.hid h.g_mem
  have HLt := Lib.hid (fun (x : Nat) (hx : x ∈ G) => h.lt hx)
  generalize layS S log (record q) = S1 at *
  generalize hkk : L.last = k at *
  have hr := layE_cases S log (record q)
  generalize layE S log (record q) = r at *
  clear e1 e2 e3 e4 h1 hD h hFG ht hs hq hkk hcast
  rcases hr with hr | hr | hr | hr | hr
  · exact absurd hr he
  all_goals
    subst hr
    clear he
    go_enter Tryz.func43, Tryz.ntmps43
    go_wp2_with (first
      | (go_at_call 93; refine HY.out.mono ?_; clear HY; rintro e w1 ⟨rfl, rfl⟩)
      | (go_at_call 97; refine (HZ.out w3 O3 _).mono ?_; clear HZ; rintro e w4 ⟨rfl, L4, O4⟩)
      | (go_at_call 95; refine (HX.out w2 (O1.then O2) A1 _ c1 V1.sl (by omega)).mono ?_; clear HX; rintro e w3 ⟨rfl, hD3⟩; obtain ⟨F3, D3, O3, B3⟩ := chained (F := F) ((O1.then O2).mono (fun _ h => nomatch h)) (fun _ h => .inl h) hD3)
      | (go_at_call 96; refine (HN.out _ O1).mono ?_; clear HN; rintro e w2 ⟨A1, c1, rfl, V1, O2, B2⟩)
      | (go_at_call 94; refine HL.out.mono ?_; clear HL; rintro e w1 ⟨rfl, O1⟩))
    go_ret2
    have hgF : g ∉ F3 := fun hm => by
      rcases B3 g hm with hx | hx
      · exact HF.out g hx HG.out
      · have := HLt.out g HG.out; omega
    refine ⟨rfl, F3, G, D3.only O4 (fun x hx hm => hgF (by simp at hm; subst hm; exact hx)), L4, fun x hx hm => ?_, (O3.mono (ss := F ++ G) (fun x hx => .inl (by simp [hx]))).trans O4 (fun x hx => .inl (by simp at hx; subst hx; simp [HG.out])), B3, fun x hx => .inl hx⟩
    rcases B3 x hx with hy | hy
    · exact HF.out x hy hm
    · have := HLt.out x hm; omega
end
end Go.Proofs.YtgnilldcfpgpaaaGreatDoor
namespace Go.Proofs.YtgnilldcfpgpaaaGreatDoor
open Go.RowKit Go.Maps
section
variable {w : World} {d g : Nat} {img log : ByteArray} {F G : List Nat} {S : Dst} {L : LS}
set_option maxHeartbeats 800000 in
set_option maxRecDepth 100000 in
theorem append_ok (hD : Disk w d F S) (h : Lg w d g img log G L) (hFG : ∀ x ∈ F, x ∉ G) (A : Option Addr) (n c : Nat) (p : List UInt8) (hs : Sl w A n (bvs p)) (hp : 0 < n → ∀ ad, A = some ad → ad.block ∉ F) (ht : Tab w)
    (h1 : L.dead = false) (h2 : p.length ≤ 65536) (h3 : L.last + 1 ≤ 1099511627776) (he : layE S log (record (numd (L.last + 1) p)) = 0) :
    Calls Tryz.prog 43 #[.pointer (some ⟨g, 0, none⟩), .slice A n c] w (Jd d g img log F G (appS S log L p) (appL S log L p) (.tuple #[.int .i64 (appN S log L p : Nat), .int .i64 (appE S log L p : Nat)]) w) := by
  obtain ⟨i0, hi, hz0, hz1, hz2⟩ := info_parts infoBytes
  have HY := Lib.hid (ready_any h)
  have HL := Lib.hid (Last_any h)
  have hl : p.length = n := by simpa using hs.len
  obtain ⟨q, hq⟩ : ∃ q, q = numd (L.last + 1) p := ⟨_, rfl⟩
  have hql := numd_len h3 (by omega : p.length ≤ 1099511627776)
  rw [← hq] at hql he
  have e2 : appE S log L p = 0 := by unfold appE; rw [h1, if_neg (by simp), if_neg (by omega), ← hq]; exact he
  have e1 : appS S log L p = layS S log (record q) := by unfold appS; rw [h1, if_neg (by simp), if_neg (by omega), ← hq]
  have e3 : appL S log L p = { L with es := L.es ++ [p] } := by unfold appL; rw [h1, if_neg (by simp), if_neg (by omega), ← hq, if_pos he]
  have e4 : appN S log L p = L.last + 1 := by unfold appN; rw [e2, if_pos rfl]
  rw [e1, e2, e3, e4]
  rw [h1] at HY
  have HN := Lib.hid (fun (W : World) (o : Only [] w W) => numbered_any (L.last + 1) A n c p W h3 (hs.keep o) (by omega))
  rw [← hq] at HN
  have HX := Lib.hid (fun (W : World) (o : Only [] w W) (A : Option Addr) (n c : Nat) (hs : Sl W A n (bvs q)) (hn : n ≤ 1048576) => layRecord_any (hD.keep o) (h.keep o) hFG A n c q hs hn (ht.keep o))
  have hcast : ((L.last + 1 : Nat) : Int) = (L.last : Int) + 1 := by omega
  rw [hcast] at HN ⊢
  have HF := Lib.hid hFG
  have HG := Lib.hid h.g_mem
  have HLt := Lib.hid (fun (x : Nat) (hx : x ∈ G) => h.lt hx)
  have HLg := Lib.hid (fun (W : World) (o : Only F w W) => h.only o (fun x hx hm => hFG x hm hx))
  have HCL := Lib.hid (fun (W : World) (o : Only F w W) => clone_any A n c p W (hs.only' o hp) (by omega))
  have HB := Lib.hid (show L.es.length + 1 ≤ 1099511627776 by unfold LS.last at h3; omega)
  generalize layS S log (record q) = S1 at *
  generalize hkk : L.last = k at *
  rw [he] at HX
  clear e1 e2 e3 e4 h1 hD h hFG ht hs hq hkk hcast he
  go_enter Tryz.func43, Tryz.ntmps43
  go_wp2_with (first
    | (go_at_call 93; refine HY.out.mono ?_; clear HY; rintro e w1 ⟨rfl, rfl⟩)
    | (go_at_call 95; refine (HX.out w2 (O1.then O2) A1 _ c1 V1.sl (by omega)).mono ?_; clear HX; rintro e w3 ⟨rfl, hD3⟩; obtain ⟨F3, D3, O3, B3⟩ := chained (F := F) ((O1.then O2).mono (fun _ h => nomatch h)) (fun _ h => .inl h) hD3)
    | (go_at_call 96; refine (HN.out _ O1).mono ?_; clear HN; rintro e w2 ⟨A1, c1, rfl, V1, O2, B2⟩)
    | (go_at_call 94; refine HL.out.mono ?_; clear HL; rintro e w1 ⟨rfl, O1⟩))
  obtain ⟨Ad, cd, Ae, ce, g1, g2, ⟨g3, vs, g4, g5, g6⟩, g7, g8, g9, g10, g11, g12⟩ := HLg.out w3 O3
  have c5 : w3.cell? ⟨g, 5, none⟩ = some (.slice Ae L.es.length ce) := by rw [g1.cell]; rfl
  have HGB := Lib.hid g1
  have HGE := Lib.hid g4
  obtain ⟨m, hm⟩ : ∃ m, L.es.length = m := ⟨_, rfl⟩
  have HM := Lib.hid hm
  have hb := HB.out
  have e1 : L.es.length = vs.length := g4.len.symm
  have HFIN : Hid (∀ (A4 L2 : Option Addr) (c4 c2 : Nat) (w4 w5 : World) (o : Obj), Only [] w3 w4 → Own w4 5 A4 n c4 (bvs p) → (∀ x ∈ blks A4, w3.heap.size ≤ x) → Only (blks Ae) (w4.alloc o) w5 → Own w5 27 L2 (m + 1) c2 (vs ++ [.slice A4 n c4]) →
      (∀ x ∈ blks L2, x ∈ blks Ae ∨ (w4.alloc o).heap.size ≤ x) → Jd d g img log F G S1 { L with es := L.es ++ [p] } (.tuple #[.int .i64 ((k : Int) + 1), .int .i64 0]) w (.returned (.tuple #[.int .i64 ((k : Int) + 1), .int .i64 0])) (w5.setCell ⟨g, 5, none⟩ (.slice L2 (m + 1) c2))) := by
    intro A4 L2 c4 c2 w4 w5 o O4 V4 B4 O5 HV2 B5
    have g4' := HGE.out
    have h45 := Nat.le_trans ((O4.alloc o).size) O5.size
    have h44 := (O4.alloc o).size
    have h33 := O3.size
    subst hm
    subst hl
    obtain ⟨HL6, O6⟩ := lg_snoc (p := p) HGB.out g2 e1 g4' g6 g7 g8 g9 ⟨g10, g11⟩ hb g12.2 (by omega) (O4.alloc o) (V4.alloc o) O5 HV2
    have hdis : ∀ x ∈ F3, x ∉ G := fun x hx hm => by
      rcases B3 x hx with hy | hy
      · exact HF.out x hy hm
      · have := HLt.out x hm; omega
    have hnew : ∀ x ∈ G ++ (blks L2 ++ blks A4), x ∈ G ∨ w3.heap.size ≤ x := fun x hx => by
      simp only [List.mem_append] at hx
      rcases hx with hx | hx | hx
      · exact .inl hx
      · rcases B5 x hx with hy | hy
        · exact .inl (g5 x hy)
        · exact .inr (by omega)
      · exact .inr (B4 x hx)
    have hrs : ∀ x ∈ g :: blks Ae, x ∈ G := fun x hx => by
      rcases List.mem_cons.1 hx with hy | hy
      · subst hy; exact HG.out
      · exact g5 x hy
    refine ⟨rfl, F3, _, D3.only O6 (fun x hx hm => hdis x hx (hrs x hm)), HL6, fun x hx hm => ?_, (O3.mono (ss := F ++ G) (fun x hx => .inl (by simp [hx]))).trans O6 (fun x hx => .inl (by simp [hrs x hx])), B3, fun x hx => ?_⟩
    · rcases hnew x hm with hy | hy
      · exact hdis x hx hy
      · have := D3.lt hx; omega
    · rcases hnew x hx with hy | hy
      · exact .inl hy
      · exact .inr (by omega)
  rw [hm] at c5 HGE hb
  clear g1 g4
  go_region_law (first
    | (refine step_append_sl rfl (.tmp 38) (.tmp 41) 104 rfl 27 i0 (.slice none 0 0) 24 Tryz.underlying104 hi hz0 hz1 hz2 rfl Ae m ce vs (by simp [Act.eval]) ((HGE.out.keep O4).alloc _) _ 1 1 _ (by simp [Act.eval]) (Sl.of_bk (Bk.new _ _ #[.slice A4 n c4])) (one_row _ _ _) (by unfold maxLen; omega) (by omega) ?_; intro L2 c2 w5 HV2 O5 B5; have j5 : w5.cell? ⟨g, 5, none⟩ = some (.slice Ae m ce) := O5.cellSome ((((Only.refl [] w4).alloc _)).cellSome k5 (fun hm => nomatch hm)) (own_off (HGE.out.keep O4) (HGB.out.only O4 (fun hm => nomatch hm)) (by decide)); have f5 : w5.frozen? ⟨g, 5, none⟩ = false := (((HGB.out.only O4 (fun hm => nomatch hm)).only ((Only.refl [] w4).alloc _) (fun hm => nomatch hm)).only O5 (own_off (HGE.out.keep O4) (HGB.out.only O4 (fun hm => nomatch hm)) (by decide))).free 5)
    | (go_simp; go_at_call 98; refine (HCL.out _ O3.drew).mono ?_; rintro e w4 ⟨A4, c4, rfl, V4, O4, B4⟩; rw [hl] at V4; have O4 : Only [] w3 w4 := ((Only.refl [] w3).drew).then O4; have k5 := O4.cellSome c5 (fun hm => nomatch hm); have k5a := ((Only.refl [] w4).alloc (.cells #[.slice A4 n c4] 27)).cellSome k5 (fun hm => nomatch hm)))
  all_goals
    go_wp2
    go_ret2
    exact HFIN.out _ _ _ _ w4 w5 _ O4 V4 B4 O5 HV2 B5
end
end Go.Proofs.YtgnilldcfpgpaaaGreatDoor
namespace Go.Proofs.YtgnilldcfpgpaaaGreatDoor
open Go.RowKit Go.Maps
section
variable {w : World} {d g : Nat} {img log : ByteArray} {F G : List Nat} {S : Dst} {L : LS}
theorem lappend_any (hD : Disk w d F S) (h : Lg w d g img log G L) (hFG : ∀ x ∈ F, x ∉ G) (A : Option Addr) (n c : Nat) (p : List UInt8) (hs : Sl w A n (bvs p)) (hp : 0 < n → ∀ ad, A = some ad → ad.block ∉ F) (ht : Tab w) :
    Calls Tryz.prog 43 #[.pointer (some ⟨g, 0, none⟩), .slice A n c] w (Jd d g img log F G (appS S log L p) (appL S log L p) (.tuple #[.int .i64 (appN S log L p : Nat), .int .i64 (appE S log L p : Nat)]) w) := by
  have hl : p.length = n := by simpa using hs.len
  by_cases hb : L.dead = true ∨ 65536 < p.length ∨ 1099511627776 < L.last + 1
  · exact append_bad hD h hFG A n c p hl hb
  · have h1 : L.dead = false := by
      cases hd : L.dead
      · rfl
      · exact absurd (.inl hd) hb
    have h2 : p.length ≤ 65536 := by
      rcases Nat.lt_or_ge 65536 p.length with hx | hx
      · exact absurd (.inr (.inl hx)) hb
      · exact hx
    have h3 : L.last + 1 ≤ 1099511627776 := by
      rcases Nat.lt_or_ge 1099511627776 (L.last + 1) with hx | hx
      · exact absurd (.inr (.inr hx)) hb
      · exact hx
    by_cases he : layE S log (record (numd (L.last + 1) p)) = 0
    · exact append_ok hD h hFG A n c p hs hp ht h1 h2 h3 he
    · exact append_err hD h hFG A n c p hs ht h1 h2 h3 he
end
end Go.Proofs.YtgnilldcfpgpaaaGreatDoor
namespace Go.Proofs.YtgnilldcfpgpaaaGreatDoor
open Go.RowKit Go.Maps
section
variable {w : World} {d g : Nat} {img log : ByteArray} {F G : List Nat} {S : Dst} {L : LS}
theorem nat_ne (x : Nat) (h : x ≠ 0) : ((x : Int) != 0) = true := by rw [bne_iff_ne]; omega
end
end Go.Proofs.YtgnilldcfpgpaaaGreatDoor
namespace Go.Proofs.YtgnilldcfpgpaaaGreatDoor
open Go.RowKit Go.Maps
section
variable {w : World} {d g : Nat} {img log : ByteArray} {F G : List Nat} {S : Dst} {L : LS}
set_option maxRecDepth 100000 in
theorem base_any (h : Lg w d g img log G L) :
    Calls Tryz.prog 122 #[.pointer (some ⟨g, 0, none⟩)] w fun e w' => ∃ A c, e = .returned (.tuple #[.int .i64 (L.base : Int), .slice A L.data.length c]) ∧ Own w' 5 A L.data.length c (bvs L.data) ∧ Only [] w w' ∧ ∀ k ∈ blks A, w.heap.size ≤ k := by
  obtain ⟨_, _, _, c3, ⟨Ad, cd, c4, o4⟩, _, _, hg⟩ := h.cells
  obtain ⟨b1, b2, b3⟩ := h.bounds
  have HCL := Lib.hid (fun (W : World) (o : Only [] w W) => clone_any Ad L.data.length cd L.data W (o4.sl.keep o) (by omega))
  clear h o4 b1 b2 b3
  go_enter Tryz.func122, Tryz.ntmps122
  go_wp2
  go_region_held3 (fun w' => w'.cell? ⟨g, 3, none⟩ = some (.int .i64 (L.base : Int)) ∧ w'.cell? ⟨g, 4, none⟩ = some (.slice Ad L.data.length cd)) (first | go_keep | exact ⟨k3, k4⟩)
    ((go_at_call 98; refine (HCL.out _ (Only.refl _ _).drew).mono ?_; rintro e w1 ⟨A1, c1, rfl, V1, O1, B1⟩; have O1' := ((Only.refl [] w).drew).then O1; have k3 := O1'.cellSome c3 (fun hm => nomatch hm); have k4 := O1'.cellSome c4 (fun hm => nomatch hm)))
  go_wp2
  go_ret2
  exact ⟨A1, c1, rfl, V1, O1', B1⟩
end
end Go.Proofs.YtgnilldcfpgpaaaGreatDoor
namespace Go.Proofs.YtgnilldcfpgpaaaGreatDoor
open Go.RowKit Go.Maps
section
variable {w : World} {d g : Nat} {img log : ByteArray} {F G : List Nat} {S : Dst} {L : LS}
set_option maxRecDepth 100000 in
theorem at_bad (h : Lg w d g img log G L) (i : Int) (hi : i ≤ (L.base : Int) ∨ (L.last : Int) < i) :
    Calls Tryz.prog 99 #[.pointer (some ⟨g, 0, none⟩), .int .i64 i] w fun e w' => e = .returned (.tuple #[.slice none 0 0, .int .i64 7]) ∧ Only [] w w' := by
  obtain ⟨_, _, _, c3, _, _, _, hg⟩ := h.cells
  have HL := Lib.hid (Last_any h)
  obtain ⟨x, hx⟩ : ∃ x, L.base = x := ⟨_, rfl⟩
  obtain ⟨y, hy⟩ : ∃ y, L.last = y := ⟨_, rfl⟩
  rw [hx] at c3 hi
  rw [hy] at HL hi
  clear h hx hy
  by_cases h1 : i ≤ (x : Int)
  · clear hi
    go_enter Tryz.func99, Tryz.ntmps99
    go_wp2_with (go_at_call 94; refine HL.out.mono ?_; clear HL; rintro e w1 ⟨rfl, O1⟩)
    go_ret2
    exact ⟨rfl, Only.refl _ _⟩
  · have h2 : (y : Int) < i := by omega
    clear hi
    go_enter Tryz.func99, Tryz.ntmps99
    go_wp2_with (go_at_call 94; refine HL.out.mono ?_; clear HL; rintro e w1 ⟨rfl, O1⟩)
    go_ret2
    exact ⟨rfl, O1⟩
end
end Go.Proofs.YtgnilldcfpgpaaaGreatDoor
namespace Go.Proofs.YtgnilldcfpgpaaaGreatDoor
open Go.RowKit Go.Maps
def TkJ (w : World) (t base : Nat) (G : List Nat) (T : Took) : Prop :=
  ∃ Ae ce, Bk w t 241 #[.int .i64 (base : Int), .int .i64 (T.1 : Int), .slice Ae T.2.length ce] ∧ Es G w Ae T.2.length ce T.2 ∧ t ∈ G ∧ (∀ x ∈ G, x < w.heap.size) ∧ base ≤ 1099511627776 ∧ T.1 ≤ 1099511627776 ∧ T.2.length ≤ 1099511627776 ∧ ∀ l ∈ T.2, l.length ≤ 1073741824
theorem rawRow_le (bad : Bool) (l : List UInt8) (n : Int) : (rawRow bad l n).length ≤ l.length := by
  unfold rawRow
  split
  · simp
  · rw [List.length_take]
    omega
theorem takeRest_le (bad : Bool) (l : List UInt8) : (takeRest bad l).length ≤ l.length := by
  unfold takeRest
  split
  · simp
  · rw [List.length_drop]
    omega
theorem prsR_small {b : List UInt8} {k : Nat} {e : List UInt8} (h : prsR b = some (k, e)) : k ≤ 1099511627776 ∧ e.length ≤ b.length := by
  unfold prsR at h
  split at h
  · split at h
    · cases h
    · injection h with h
      injection h with h1 h2
      subst h1
      subst h2
      refine ⟨by omega, ?_⟩
      have h1 := rawRow_le (takeBad (takeBad false b) (takeRest false b)) (takeRest (takeBad false b) (takeRest false b)) (takeV (takeBad false b) (takeRest false b))
      have h2 := takeRest_le (takeBad false b) (takeRest false b)
      have h3 := takeRest_le false b
      unfold pRow rowTook
      omega
  · cases h
section
variable {w : World} {t base : Nat} {G : List Nat} {T : Took}
def TookR (w : World) (t base : Nat) (G : List Nat) (R : Option Took) (e : Ending) (w' : World) : Prop :=
  match R with
  | none => e = .returned (.int .i64 3) ∧ Only [t] w w'
  | some T' => e = .returned (.int .i64 0) ∧ ∃ G', TkJ w' t base G' T' ∧ Only G w w' ∧ ∀ x ∈ G', x ∈ G ∨ w.heap.size ≤ x
theorem TkJ.only {rs : List Nat} {w' : World} (h : TkJ w t base G T) (o : Only rs w w') (hd : ∀ x ∈ G, x ∉ rs) : TkJ w' t base G T := by
  obtain ⟨Ae, ce, h1, h2, h3, h4, h5⟩ := h
  exact ⟨Ae, ce, h1.only o (hd t h3), h2.only o hd, h3, fun x hx => Nat.lt_of_lt_of_le (h4 x hx) o.size, h5⟩
theorem TkJ.setAhead (h : TkJ w t base G T) (k : Nat) (hk : k ≤ 1099511627776) : TkJ (w.setCell ⟨t, 1, none⟩ (.int .i64 (k : Int))) t base G (k, T.2) := by
  obtain ⟨Ae, ce, h1, ⟨h2, vs, e2, e3, e4⟩, h4, h5, h6, h7, h8, h9⟩ := h
  refine ⟨Ae, ce, by simpa using h1.set 1 (.int .i64 (k : Int)), ⟨rfl, vs, e2.setFar (own_off e2 h1 (by decide)) _, e3, fun i l hi => ?_⟩, h4, fun x hx => by simpa [World.setCell] using h5 x hx, h6, hk, h8, h9⟩
  obtain ⟨Ai, ci, k1, k2, k3⟩ := e4 i l hi
  exact ⟨Ai, ci, k1, k2.setFar (own_off k2 h1 (by decide)) _, k3⟩
theorem TkJ.lt (h : TkJ w t base G T) {x : Nat} (hx : x ∈ G) : x < w.heap.size := by
  obtain ⟨Ae, ce, h1, h2, h3, h4, h5⟩ := h
  exact h4 x hx
set_option maxHeartbeats 800000 in
set_option maxRecDepth 100000 in
theorem take_bad (h : TkJ w t base G T) (A : Option Addr) (n c : Nat) (p : List UInt8) (hs : Sl w A n (bvs p)) (hn : n ≤ 1073741824) (hb : prsR p = none ∨ ∃ k e, prsR p = some (k, e) ∧ (k < 1 ∨ (0 < T.1 ∧ k ≠ T.1 + 1))) :
    Calls Tryz.prog 180 #[.pointer (some ⟨t, 0, none⟩), .slice A n c] w fun e w' => e = .returned (.int .i64 3) ∧ Only [t] w w' := by
  have HP := parse_any A n c p w hs (by omega)
  obtain ⟨Ae, ce, h1, h2, h3, h4, h5, h6, h7, h8⟩ := h
  have c1 : w.cell? ⟨t, 1, none⟩ = some (.int .i64 (T.1 : Int)) := by rw [h1.cell]; rfl
  obtain ⟨a, ha⟩ : ∃ a, T.1 = a := ⟨_, rfl⟩
  rw [ha] at c1 h6 hb
  rcases hb with hb | ⟨k, e, hb, hc⟩
  · unfold Parsed at HP
    rw [hb] at HP
    have HP := Lib.hid HP
    clear h1 h2 h3 h4 h7 h8 hb ha
    go_enter Tryz.func180, Tryz.ntmps180
    go_wp2_with (go_at_call 178; refine HP.out.mono ?_; clear HP; rintro e w1 ⟨rfl, O1⟩)
    go_ret
    exact ⟨rfl, O1.mono (fun _ h => nomatch h)⟩
  · unfold Parsed at HP
    obtain ⟨hk, _⟩ := prsR_small hb
    rw [hb] at HP
    have HP := Lib.hid HP
    clear h1 h2 h3 h4 h7 h8 hb ha
    by_cases hk1 : k < 1
    · clear hc
      go_enter Tryz.func180, Tryz.ntmps180
      go_wp2_with (go_at_call 178; refine HP.out.mono ?_; clear HP; rintro e w1 ⟨A1, c1', rfl, V1, O1, B1⟩; have k1 := O1.cellSome c1 (fun hm => nomatch hm))
      go_ret
      exact ⟨rfl, O1.mono (fun _ h => nomatch h)⟩
    · have hc1 : 0 < a := by omega
      have hc2 : ((k : Int) != (a : Int) + 1) = true := by rw [bne_iff_ne]; omega
      clear hc
      go_enter Tryz.func180, Tryz.ntmps180
      go_wp2_with (go_at_call 178; refine HP.out.mono ?_; clear HP; rintro e w1 ⟨A1, c1', rfl, V1, O1, B1⟩; have k1 := O1.cellSome c1 (fun hm => nomatch hm))
      go_ret
      exact ⟨rfl, O1.mono (fun _ h => nomatch h)⟩
end
end Go.Proofs.YtgnilldcfpgpaaaGreatDoor
namespace Go.Proofs.YtgnilldcfpgpaaaGreatDoor
open Go.RowKit Go.Maps
section
variable {w : World} {t base : Nat} {G : List Nat} {T : Took}
set_option maxHeartbeats 800000 in
set_option maxRecDepth 100000 in
theorem take_pass (h : TkJ w t base G T) (A : Option Addr) (n c : Nat) (p : List UInt8) (hs : Sl w A n (bvs p)) (hn : n ≤ 1073741824) (k : Nat) (l : List UInt8) (hp : prsR p = some (k, l)) (hk : ¬ k < 1) (hc : ¬ (0 < T.1 ∧ k ≠ T.1 + 1)) (hb : k ≤ base) :
    Calls Tryz.prog 180 #[.pointer (some ⟨t, 0, none⟩), .slice A n c] w (TookR w t base G (some (k, T.2))) := by
  have HP := parse_any A n c p w hs (by omega)
  obtain ⟨hk40, _⟩ := prsR_small hp
  have HT := Lib.hid h
  obtain ⟨Ae, ce, h1, h2, h3, h4, h5, h6, h7, h8⟩ := h
  have HG := Lib.hid h3
  have HB := Lib.hid h1
  have c0 : w.cell? ⟨t, 0, none⟩ = some (.int .i64 (base : Int)) := by rw [h1.cell]; rfl
  have c1 : w.cell? ⟨t, 1, none⟩ = some (.int .i64 (T.1 : Int)) := by rw [h1.cell]; rfl
  obtain ⟨a, ha⟩ : ∃ a, T.1 = a := ⟨_, rfl⟩
  rw [ha] at c1 h6 hc
  unfold Parsed at HP
  rw [hp] at HP
  have HPP := Lib.hid HP
  have fin : Hid (∀ (w1 : World), Only [] w w1 → TookR w t base G (some (k, T.2)) (.returned (.int .i64 0)) (w1.setCell ⟨t, 1, none⟩ (.int .i64 (k : Int)))) := fun w1 O1 =>
    ⟨rfl, G, (HT.out.only O1 (fun _ _ hm => nomatch hm)).setAhead k hk40, (O1.mono (ss := G) (fun _ h => nomatch h)).setCell (.inl HG.out) _, fun x hx => .inl hx⟩
  clear h1 h2 h3 h4 h7 h8 ha hp HP
  rcases Nat.eq_zero_or_pos a with h0 | h0
  · subst h0
    clear hc
    go_enter Tryz.func180, Tryz.ntmps180
    go_wp2_with (go_at_call 178; refine HPP.out.mono ?_; clear HPP; rintro e w1 ⟨A1, c1', rfl, V1, O1, B1⟩; have k1 := O1.cellSome c1 (fun hm => nomatch hm); have k0 := O1.cellSome c0 (fun hm => nomatch hm); have f1 := (HB.out.only O1 (fun hm => nomatch hm)).free 1)
    go_ret
    exact fin.out w1 O1
  · have hc2 : ((k : Int) != (a : Int) + 1) = false := by rw [bne_eq_false_iff_eq]; omega
    clear hc
    go_enter Tryz.func180, Tryz.ntmps180
    go_wp2_with (go_at_call 178; refine HPP.out.mono ?_; clear HPP; rintro e w1 ⟨A1, c1', rfl, V1, O1, B1⟩; have k1 := O1.cellSome c1 (fun hm => nomatch hm); have k0 := O1.cellSome c0 (fun hm => nomatch hm); have f1 := (HB.out.only O1 (fun hm => nomatch hm)).free 1)
    go_ret
    exact fin.out w1 O1
set_option maxHeartbeats 800000 in
set_option maxRecDepth 100000 in
theorem take_gap (h : TkJ w t base G T) (A : Option Addr) (n c : Nat) (p : List UInt8) (hs : Sl w A n (bvs p)) (hn : n ≤ 1073741824) (k : Nat) (l : List UInt8) (hp : prsR p = some (k, l)) (hk : ¬ k < 1) (hc : ¬ (0 < T.1 ∧ k ≠ T.1 + 1)) (hb : ¬ k ≤ base) (hg : k ≠ base + T.2.length + 1) :
    Calls Tryz.prog 180 #[.pointer (some ⟨t, 0, none⟩), .slice A n c] w (TookR w t base G none) := by
  have HP := parse_any A n c p w hs (by omega)
  obtain ⟨hk40, _⟩ := prsR_small hp
  obtain ⟨Ae, ce, h1, h2, h3, h4, h5, h6, h7, h8⟩ := h
  have HB := Lib.hid h1
  have c0 : w.cell? ⟨t, 0, none⟩ = some (.int .i64 (base : Int)) := by rw [h1.cell]; rfl
  have c1 : w.cell? ⟨t, 1, none⟩ = some (.int .i64 (T.1 : Int)) := by rw [h1.cell]; rfl
  have c2 : w.cell? ⟨t, 2, none⟩ = some (.slice Ae T.2.length ce) := by rw [h1.cell]; rfl
  obtain ⟨a, ha⟩ : ∃ a, T.1 = a := ⟨_, rfl⟩
  rw [ha] at c1 h6 hc
  obtain ⟨m, hm⟩ : ∃ m, T.2.length = m := ⟨_, rfl⟩
  rw [hm] at c2 h7 hg
  unfold Parsed at HP
  rw [hp] at HP
  have HPP := Lib.hid HP
  have fin : Hid (∀ (w1 : World) (nq : Nat), Only [] w w1 → TookR w t base G none (.returned (.int .i64 3)) ((w1.setCell ⟨t, 1, none⟩ (.int .i64 (k : Int))).drewN nq)) := fun w1 nq O1 =>
    ⟨rfl, ((O1.mono (ss := [t]) (fun _ h => nomatch h)).setCell (.inl (by simp)) _).drewN _⟩
  have hg2 : ((k : Int) != (base : Int) + (m : Int) + 1) = true := by rw [bne_iff_ne]; omega
  clear h1 h2 h3 h4 h8 ha hp HP hm hg
  rcases Nat.eq_zero_or_pos a with h0 | h0
  · subst h0
    clear hc
    go_enter Tryz.func180, Tryz.ntmps180
    go_wp2_with (go_at_call 178; refine HPP.out.mono ?_; clear HPP; rintro e w1 ⟨A1, c1', rfl, V1, O1, B1⟩; have k1 := O1.cellSome c1 (fun hm => nomatch hm); have k0 := O1.cellSome c0 (fun hm => nomatch hm); have k2 := O1.cellSome c2 (fun hm => nomatch hm); have f1 := (HB.out.only O1 (fun hm => nomatch hm)).free 1)
    go_quiet (fail)
    go_wp2
    go_ret
    exact fin.out w1 _ O1
  · have hc2 : ((k : Int) != (a : Int) + 1) = false := by rw [bne_eq_false_iff_eq]; omega
    clear hc
    go_enter Tryz.func180, Tryz.ntmps180
    go_wp2_with (go_at_call 178; refine HPP.out.mono ?_; clear HPP; rintro e w1 ⟨A1, c1', rfl, V1, O1, B1⟩; have k1 := O1.cellSome c1 (fun hm => nomatch hm); have k0 := O1.cellSome c0 (fun hm => nomatch hm); have k2 := O1.cellSome c2 (fun hm => nomatch hm); have f1 := (HB.out.only O1 (fun hm => nomatch hm)).free 1)
    go_quiet (fail)
    go_wp2
    go_ret
    exact fin.out w1 _ O1
end
end Go.Proofs.YtgnilldcfpgpaaaGreatDoor
