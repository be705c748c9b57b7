import Derived.Test.YtblggoneifmoeaaDoorJThree
import Derived.Test.YtblggoneifmoeaaDoorDCopy
/-
  ledger's lasts.
-/
namespace Go.Proofs.YtblggoneifmoeaaDoor
open Go.RowKit Go.Maps
section
variable {w : World} {d g : Nat} {img log : ByteArray} {F G : List Nat} {S : St} {L : LS}
set_option maxRecDepth 100000 in
/-- Does the log stay at that size behind a crash? -/
theorem lasts_any (hD : Disk w d F S) (h : Lg w d g img log G L) (hlog : log.size ≤ maxLen) (n : Nat) :
    Calls Tryd.prog 57 #[.pointer (some ⟨g, 0, none⟩), .int .i64 (n : Int)] w fun e w' => e = .returned (.bool (lastsB S log n)) ∧ Only [] w w' := by
  obtain ⟨c0, _, c2, _, _, _, _, hg⟩ := h.cells
  have HC := Lib.hid (copy_any hD)
  have HX := Lib.hid (fun (W : World) (d : Nat) (F : List Nat) (h : Disk W d F (copyS S)) => crash_any h 0 (by omega))
  have HR := Lib.hid (fun (W : World) (d : Nat) (F : List Nat) (h : Disk W d F (crashS (copyS S) 0)) => read_any h log hlog)
  have HE : Hid (lastsB S log n = decide (((readD (crashS (copyS S) 0) log).length : Int) = (n : Int))) := by
    show _ = _
    unfold lastsB
    rw [Bool.eq_iff_iff]
    simp only [decide_eq_true_eq]
    omega
  obtain ⟨b, hb⟩ : ∃ b, readD (crashS (copyS S) 0) log = b := ⟨_, rfl⟩
  rw [hb] at HR HE
  have hgl := hg
  clear hD h hb
  go_enter Tryd.func57, Tryd.ntmps57
  go_wp2_with (first
    | (go_at_call 74; refine HC.out.mono ?_; clear HC; rintro e w1 ⟨d1, F1, rfl, D1, O1, B1⟩)
    | (go_at_call 14; refine (HX.out w1 d1 F1 D1).mono ?_; clear HX; rintro e w2 ⟨rfl, F2, D2, O2, B2⟩; have O12 : Only [] w w2 := O1.trans O2 (fun x hx => .inr (B1 x hx)); have k2 := O12.cellSome c2 (fun hm => nomatch hm))
    | (go_at_call 19; refine (HR.out w2 d1 F2 D2).mono ?_; clear HR; rintro e w3 ⟨A3, c3, rfl, V3, O3, B3⟩))
  go_ret
  refine ⟨?_, O12.then O3⟩
  rw [HE.out]
  rfl
end
end Go.Proofs.YtblggoneifmoeaaDoor
/-
  ledger's readImage and lasts.
-/
namespace Go.Proofs.YtblggoneifmoeaaDoor
open Go.RowKit Go.Maps
theorem readD_small {w : World} {d : Nat} {F : List Nat} {S : St} (h : Disk w d F S) (s : ByteArray) : (readD S s).length ≤ 1073741824 := by
  obtain ⟨g1, g2, g3⟩ := h.good
  unfold readD
  cases hg : get S.fs s with
  | none => simp
  | some f => have := used_le (get_some hg).1; simp only []; omega
theorem oneBody_le (b : List UInt8) : (oneBody b).length ≤ b.length := by
  unfold oneBody body
  split
  · split
    · rw [List.length_take, List.length_drop]; omega
    · simp
  · simp
theorem loadD_small {w : World} {d : Nat} {F : List Nat} {S : St} (h : Disk w d F S) (s : ByteArray) : (loadD S s).length ≤ 1073741824 := by
  unfold loadD
  split
  · have := readD_small h s; have := oneBody_le (readD S s); omega
  · simp
theorem loadE_cases (S : St) (s : ByteArray) : loadE S s = 0 ∨ loadE S s = 3 ∨ loadE S s = 7 := by
  unfold loadE
  split
  · split
    · exact .inl rfl
    · exact .inr (.inl rfl)
  · exact .inr (.inr rfl)
/-- A ledger that knows nothing yet. -/
def L0 : LS := ⟨0, [], [], false⟩
section
variable {w : World} {d g : Nat} {img log : ByteArray} {F G : List Nat} {S : St} {L : LS}
/-- The image, read. -/
def Imaged (w : World) (d g : Nat) (img log : ByteArray) (G : List Nat) (r : Nat) (v : Nat × List UInt8) (e : Ending) (w' : World) : Prop :=
  e = .returned (.int .i64 (r : Int)) ∧ ∃ G', Lg w' d g img log G' ⟨v.1, v.2, [], false⟩ ∧ Only G w w' ∧ ∀ y ∈ G', y ∈ G ∨ w.heap.size ≤ y
set_option maxHeartbeats 800000 in
set_option maxRecDepth 100000 in
theorem readImage_not (hD : Disk w d F S) (h : Lg w d g img log G L0) (himg : img.size ≤ maxLen) (ht : Tab w) (h0 : loadE S img = 3 ∨ loadE S img = 7) :
    Calls Tryd.prog 23 #[.pointer (some ⟨g, 0, none⟩)] w (Imaged w d g img log G (imgE S img) (imgV S img)) := by
  obtain ⟨c0, c1, _, _, _, _, _, hg⟩ := h.cells
  have HX := Lib.hid (fun (W : World) (o : Only [] w W) => load_any (hD.keep o) img himg (ht.keep o))
  have hsm := loadD_small hD img
  have HL := Lib.hid h
  have same : Hid (∀ (r : Nat) (w' : World), Only [] w w' → Imaged w d g img log G r (0, []) (.returned (.int .i64 (r : Int))) w') := fun r w' o => ⟨rfl, G, HL.out.keep o, o.mono (fun _ h => nomatch h), fun _ hy => .inl hy⟩
  rcases h0 with h0 | h0
  · have e1 : imgE S img = 3 := by unfold imgE; rw [h0, if_neg (by omega), if_neg (by omega)]
    have e2 : imgV S img = (0, []) := by unfold imgV; rw [h0, if_neg (by omega)]
    rw [e1, e2]
    rw [h0] at HX
    clear e1 e2 h0 h hD ht hsm
    go_enter Tryd.func23, Tryd.ntmps23
    go_wp2
    go_region_held3 (fun w' => w'.cell? ⟨g, 0, none⟩ = some (.pointer (some ⟨d, 0, none⟩)) ∧ w'.cell? ⟨g, 1, none⟩ = some (.string img)) (first | go_keep | exact ⟨k0, k1⟩)
      ((go_at_call 35; refine (HX.out _ (Only.refl [] w).drew).mono ?_; clear HX; rintro e w1 ⟨A1, c1', rfl, V1, O1, B1⟩; have O1' := (Only.refl [] w).drew.then O1; have k0 := O1'.cellSome c0 (fun hm => nomatch hm); have k1 := O1'.cellSome c1 (fun hm => nomatch hm)))
    go_wp2
    go_ret
    exact same.out 3 w1 O1'
  · have e1 : imgE S img = 0 := by unfold imgE; rw [h0, if_pos rfl]
    have e2 : imgV S img = (0, []) := by unfold imgV; rw [h0, if_neg (by omega)]
    rw [e1, e2]
    rw [h0] at HX
    clear e1 e2 h0 h hD ht hsm
    go_enter Tryd.func23, Tryd.ntmps23
    go_wp2
    go_region_held3 (fun w' => w'.cell? ⟨g, 0, none⟩ = some (.pointer (some ⟨d, 0, none⟩)) ∧ w'.cell? ⟨g, 1, none⟩ = some (.string img)) (first | go_keep | exact ⟨k0, k1⟩)
      ((go_at_call 35; refine (HX.out _ (Only.refl [] w).drew).mono ?_; clear HX; rintro e w1 ⟨A1, c1', rfl, V1, O1, B1⟩; have O1' := (Only.refl [] w).drew.then O1; have k0 := O1'.cellSome c0 (fun hm => nomatch hm); have k1 := O1'.cellSome c1 (fun hm => nomatch hm)))
    go_wp2
    go_ret
    exact same.out 0 w1 O1'
set_option maxHeartbeats 800000 in
set_option maxRecDepth 100000 in
theorem readImage_bad (hD : Disk w d F S) (h : Lg w d g img log G L0) (himg : img.size ≤ maxLen) (ht : Tab w) (h0 : loadE S img = 0) (hp : prsR (loadD S img) = none) :
    Calls Tryd.prog 23 #[.pointer (some ⟨g, 0, none⟩)] w (Imaged w d g img log G (imgE S img) (imgV S img)) := by
  obtain ⟨c0, c1, _, _, _, _, _, hg⟩ := h.cells
  have HX := Lib.hid (fun (W : World) (o : Only [] w W) => load_any (hD.keep o) img himg (ht.keep o))
  have hsm := loadD_small hD img
  have HL := Lib.hid h
  have same : Hid (∀ (r : Nat) (w' : World), Only [] w w' → Imaged w d g img log G r (0, []) (.returned (.int .i64 (r : Int))) w') := fun r w' o => ⟨rfl, G, HL.out.keep o, o.mono (fun _ h => nomatch h), fun _ hy => .inl hy⟩
  have e1 : imgE S img = 3 := by unfold imgE; rw [h0, if_neg (by omega), if_pos rfl, hp]; rfl
  have e2 : imgV S img = (0, []) := by unfold imgV; rw [h0, if_pos rfl, hp]; rfl
  rw [e1, e2]
  rw [h0] at HX
  obtain ⟨b, hb⟩ : ∃ b, loadD S img = b := ⟨_, rfl⟩
  rw [hb] at HX hsm hp
  have HPP := Lib.hid (fun (W : World) (A : Option Addr) (c : Nat) (hs : Sl W A b.length (bvs b)) => (show Calls Tryd.prog 36 #[.slice A b.length c] W fun e w' => e = .returned (.tuple #[.int .i64 0, .slice none 0 0, .bool false]) ∧ Only [] W w' from by
    have HP := parse_any A b.length c b W hs (by omega)
    unfold Parsed at HP
    rw [hp] at HP
    exact HP))
  clear e1 e2 h0 hb hp h hD ht
  go_enter Tryd.func23, Tryd.ntmps23
  go_wp2
  go_region_held3 (fun w' => w'.cell? ⟨g, 0, none⟩ = some (.pointer (some ⟨d, 0, none⟩)) ∧ w'.cell? ⟨g, 1, none⟩ = some (.string img)) (first | go_keep | exact ⟨k0, k1⟩)
    ((go_at_call 35; refine (HX.out _ (Only.refl [] w).drew).mono ?_; clear HX; rintro e w1 ⟨A1, c1', rfl, V1, O1, B1⟩; have O1' := (Only.refl [] w).drew.then O1; have k0 := O1'.cellSome c0 (fun hm => nomatch hm); have k1 := O1'.cellSome c1 (fun hm => nomatch hm)))
  go_wp2_with (go_at_call 36; refine (HPP.out w1 A1 c1' V1.sl).mono ?_; clear HPP; rintro e w2 ⟨rfl, O2⟩)
  go_ret
  exact same.out 3 w2 (O1'.then O2)
set_option maxHeartbeats 800000 in
set_option maxRecDepth 100000 in
theorem readImage_good (hD : Disk w d F S) (h : Lg w d g img log G L0) (himg : img.size ≤ maxLen) (ht : Tab w) (h0 : loadE S img = 0) (k : Nat) (p : List UInt8) (hp : prsR (loadD S img) = some (k, p)) :
    Calls Tryd.prog 23 #[.pointer (some ⟨g, 0, none⟩)] w (Imaged w d g img log G (imgE S img) (imgV S img)) := by
  obtain ⟨c0, c1, _, _, _, _, _, hg⟩ := h.cells
  have HX := Lib.hid (fun (W : World) (o : Only [] w W) => load_any (hD.keep o) img himg (ht.keep o))
  have hsm := loadD_small hD img
  have e1 : imgE S img = 0 := by unfold imgE; rw [h0, if_neg (by omega), if_pos rfl, hp]; rfl
  have e2 : imgV S img = (k, p) := by unfold imgV; rw [h0, if_pos rfl, hp]; rfl
  rw [e1, e2]
  rw [h0] at HX
  obtain ⟨hk40, hpl⟩ := prsR_small hp
  obtain ⟨b, hb⟩ : ∃ b, loadD S img = b := ⟨_, rfl⟩
  rw [hb] at HX hsm hp hpl
  have HPP := Lib.hid (fun (W : World) (A : Option Addr) (c : Nat) (hs : Sl W A b.length (bvs b)) => (show Calls Tryd.prog 36 #[.slice A b.length c] W fun e w' => ∃ A c, e = .returned (.tuple #[.int .i64 (k : Int), .slice A p.length c, .bool true]) ∧ Own w' 5 A p.length c (bvs p) ∧ Only [] W w' ∧ ∀ x ∈ blks A, W.heap.size ≤ x from by
    have HP := parse_any A b.length c b W hs (by omega)
    unfold Parsed at HP
    rw [hp] at HP
    exact HP))
  obtain ⟨Ad, cd, Ae, ce, g1, g2, ⟨g30, vs, g31, g32, g33⟩, g7, g8, g9, g10⟩ := h
  have HB := Lib.hid g1
  have fin : Hid (∀ (w2 : World) (A2 : Option Addr) (c2 : Nat), Only [] w w2 → Own w2 5 A2 p.length c2 (bvs p) → (∀ x ∈ blks A2, w.heap.size ≤ x) → Imaged w d g img log G 0 (k, p) (.returned (.int .i64 0)) ((w2.setCell ⟨g, 3, none⟩ (.int .i64 (k : Int))).setCell ⟨g, 4, none⟩ (.slice A2 p.length c2))) := by
    intro w2 A2 c2 O2 V2 B2
    have HB2 := HB.out.only O2 (fun hm => nomatch hm)
    have hoff := own_off V2 HB2 (by decide)
    have h2 := O2.size
    have e2' := g31.keep O2
    have heo := own_off e2' HB2 (by decide)
    refine ⟨rfl, G ++ blks A2, ⟨A2, c2, Ae, ce, ?_, (V2.setFar hoff _).setFar hoff _, ⟨rfl, vs, (e2'.setFar heo _).setFar heo _, fun x hx => by simp [g32 x hx], fun i l hi => by simp at hi⟩, by simp [g7], fun x hx => by simp [hx], fun x hx => ?_, hk40, by show p.length ≤ _; omega, by simp, by simp⟩, ((O2.mono (ss := G) (fun _ h => nomatch h)).setCell (.inl g7) _).setCell (.inl g7) _, fun y hy => ?_⟩
    · have := (HB2.set 3 (.int .i64 (k : Int))).set 4 (.slice A2 p.length c2)
      simpa [L0] using this
    · have hs6 : ((w2.setCell ⟨g, 3, none⟩ (.int .i64 (k : Int))).setCell ⟨g, 4, none⟩ (.slice A2 p.length c2)).heap.size = w2.heap.size := by simp [World.setCell]
      rw [hs6]
      rcases List.mem_append.1 hx with hy | hy
      · have := g9 x hy; omega
      · exact V2.lt hy
    · rcases List.mem_append.1 hy with hz | hz
      · exact .inl hz
      · exact .inr (B2 y hz)
  clear e1 e2 h0 hb hp hD ht g1 g2 g30 g31 g32 g33 g7 g8 g9 g10
  go_enter Tryd.func23, Tryd.ntmps23
  go_wp2
  go_region_held3 (fun w' => w'.cell? ⟨g, 0, none⟩ = some (.pointer (some ⟨d, 0, none⟩)) ∧ w'.cell? ⟨g, 1, none⟩ = some (.string img)) (first | go_keep | exact ⟨k0, k1⟩)
    ((go_at_call 35; refine (HX.out _ (Only.refl [] w).drew).mono ?_; clear HX; rintro e w1 ⟨A1, c1', rfl, V1, O1, B1⟩; have O1' := (Only.refl [] w).drew.then O1; have k0 := O1'.cellSome c0 (fun hm => nomatch hm); have k1 := O1'.cellSome c1 (fun hm => nomatch hm)))
  go_wp2_with (go_at_call 36; refine (HPP.out w1 A1 c1' V1.sl).mono ?_; clear HPP; rintro e w2 ⟨A2, c2, rfl, V2, O2, B2⟩; have O12 := O1'.then O2; have HB2 := HB.out.only O12 (fun hm => nomatch hm); have x3 : w2.cell? ⟨g, 3, none⟩ = some (.int .i64 (L0.base : Int)) := (by rw [HB2.cell]; rfl); have x4 : w2.cell? ⟨g, 4, none⟩ = some (.slice Ad L0.data.length cd) := (by rw [HB2.cell]; rfl); have f3 := HB2.free 3; have f4 := HB2.free 4)
  go_ret
  exact fin.out w2 A2 c2 O12 V2 (fun x hx => Nat.le_trans O1'.size (B2 x hx))
end
end Go.Proofs.YtblggoneifmoeaaDoor
/-
  ledger's tidy.
-/
namespace Go.Proofs.YtblggoneifmoeaaDoor
open Go.RowKit Go.Maps
section
variable {w : World} {d g : Nat} {img log : ByteArray} {F G : List Nat} {S : St} {L : LS}
set_option maxHeartbeats 800000 in
set_option maxRecDepth 100000 in
theorem tidy_a (hD : Disk w d F S) (h : Lg w d g img log G L) (hFG : ∀ x ∈ F, x ∉ G) (size whole : Nat) (h1 : whole < size) (h2 : errT S log (whole : Int) ≠ 0) :
    Calls Tryd.prog 39 #[.pointer (some ⟨g, 0, none⟩), .int .i64 (size : Int), .int .i64 (whole : Int)] w (Did d F (tidyS S log L.es size whole) (.int .i64 (tidyE S log L.es size whole : Nat)) w) := by
  obtain ⟨c0, _, c2, _, _, ⟨Ae, ce, c5, _⟩, _, hg⟩ := h.cells
  have hgF : g ∉ F := fun hm => hFG g hm h.g_mem
  obtain ⟨_, _, b3⟩ := h.bounds
  have HD := Lib.hid hD
  have e1 : tidyS S log L.es size whole = truncS S log (whole : Int) := by simp [tidyS, h1, h2]
  have e2 : tidyE S log L.es size whole = errT S log (whole : Int) := by simp [tidyE, h1, h2]
  rw [e1, e2]
  have HT := Lib.hid (fun (W : World) (o : Only [] w W) => trunc_any (hD.keep o) log (whole : Int))
  have hne := nat_ne _ h2
  generalize hrr : ((errT S log (whole : Int) : Nat) : Int) = r at *
  clear e1 e2 hrr h2
  clear hD h hFG
  go_enter Tryd.func39, Tryd.ntmps39
  go_wp2
  go_region_held3 (fun w' => w'.cell? ⟨g, 0, none⟩ = some (.pointer (some ⟨d, 0, none⟩)) ∧ w'.cell? ⟨g, 2, none⟩ = some (.string log)) (first | go_keep | exact ⟨a10, a12⟩)
    ((go_at_call 20; refine (HT.out w.drew (Only.refl [] w).drew).mono ?_; rintro e w1 ⟨rfl, hD1⟩; obtain ⟨F1, D1, O1, B1⟩ := chained (F := F) ((Only.refl [] w).drew.mono (fun _ h => nomatch h)) (fun _ h => .inl h) hD1; have a10 := O1.cellSome c0 hgF; have a12 := O1.cellSome c2 hgF; have a15 := O1.cellSome c5 hgF))
  go_wp2
  go_ret
  exact ⟨rfl, F1, D1, O1, B1⟩
set_option maxHeartbeats 800000 in
set_option maxRecDepth 100000 in
theorem tidy_b1 (hD : Disk w d F S) (h : Lg w d g img log G L) (hFG : ∀ x ∈ F, x ∉ G) (size whole : Nat) (h1 : whole < size) (h2 : errT S log (whole : Int) = 0) (h3 : errF (truncS S log (whole : Int)) log ≠ 0) :
    Calls Tryd.prog 39 #[.pointer (some ⟨g, 0, none⟩), .int .i64 (size : Int), .int .i64 (whole : Int)] w (Did d F (tidyS S log L.es size whole) (.int .i64 (tidyE S log L.es size whole : Nat)) w) := by
  obtain ⟨c0, _, c2, _, _, ⟨Ae, ce, c5, _⟩, _, hg⟩ := h.cells
  have hgF : g ∉ F := fun hm => hFG g hm h.g_mem
  obtain ⟨_, _, b3⟩ := h.bounds
  have HD := Lib.hid hD
  have e1 : tidyS S log L.es size whole = syncS (truncS S log (whole : Int)) log := by simp [tidyS, h1, h2, h3]
  have e2 : tidyE S log L.es size whole = errF (truncS S log (whole : Int)) log := by simp [tidyE, h1, h2, h3]
  rw [e1, e2]
  have HT := Lib.hid (fun (W : World) (o : Only [] w W) => trunc_any (hD.keep o) log (whole : Int))
  rw [h2] at HT
  generalize hS1 : truncS S log (whole : Int) = S1 at *
  have hne := nat_ne _ h3
  have HS := Lib.hid (fun (W : World) (F : List Nat) (hD : Disk W d F S1) => sync_one hD log)
  generalize hrr : ((errF S1 log : Nat) : Int) = r at *
  clear e1 e2 hrr h2 h3 hS1
  clear hD h hFG
  go_enter Tryd.func39, Tryd.ntmps39
  go_wp2
  go_region_held3 (fun w' => w'.cell? ⟨g, 0, none⟩ = some (.pointer (some ⟨d, 0, none⟩)) ∧ w'.cell? ⟨g, 2, none⟩ = some (.string log)) (first | go_keep | exact ⟨a10, a12⟩)
    ((go_at_call 20; refine (HT.out w.drew (Only.refl [] w).drew).mono ?_; rintro e w1 ⟨rfl, hD1⟩; obtain ⟨F1, D1, O1, B1⟩ := chained (F := F) ((Only.refl [] w).drew.mono (fun _ h => nomatch h)) (fun _ h => .inl h) hD1; have a10 := O1.cellSome c0 hgF; have a12 := O1.cellSome c2 hgF; have a15 := O1.cellSome c5 hgF))
  go_wp2
  go_region_held3 (fun w' => w'.cell? ⟨g, 0, none⟩ = some (.pointer (some ⟨d, 0, none⟩)) ∧ w'.cell? ⟨g, 2, none⟩ = some (.string log)) (first | go_keep | exact ⟨a20, a22⟩)
    ((go_at_call 42; refine (HS.out _ _ (D1.keep (Only.refl _ _).drew)).mono ?_; rintro e w2 ⟨rfl, hD2⟩; obtain ⟨F2, D2, O2, B2⟩ := chained (F := F) O1.drew B1 hD2; have a20 := O2.cellSome c0 hgF; have a22 := O2.cellSome c2 hgF; have a25 := O2.cellSome c5 hgF))
  go_wp2
  go_ret
  exact ⟨rfl, F2, D2, O2, B2⟩
set_option maxHeartbeats 800000 in
set_option maxRecDepth 100000 in
theorem tidy_b2 (hD : Disk w d F S) (h : Lg w d g img log G L) (hFG : ∀ x ∈ F, x ∉ G) (size whole : Nat) (h1 : whole < size) (h2 : errT S log (whole : Int) = 0) (h3 : errF (truncS S log (whole : Int)) log = 0) (h4 : L.es ≠ []) :
    Calls Tryd.prog 39 #[.pointer (some ⟨g, 0, none⟩), .int .i64 (size : Int), .int .i64 (whole : Int)] w (Did d F (tidyS S log L.es size whole) (.int .i64 (tidyE S log L.es size whole : Nat)) w) := by
  obtain ⟨c0, _, c2, _, _, ⟨Ae, ce, c5, _⟩, _, hg⟩ := h.cells
  have hgF : g ∉ F := fun hm => hFG g hm h.g_mem
  obtain ⟨_, _, b3⟩ := h.bounds
  have HD := Lib.hid hD
  have e1 : tidyS S log L.es size whole = syncS (truncS S log (whole : Int)) log := by simp [tidyS, h1, h2, h3, h4]
  have e2 : tidyE S log L.es size whole = 0 := by simp [tidyE, h1, h2, h3, h4]
  rw [e1, e2]
  have HT := Lib.hid (fun (W : World) (o : Only [] w W) => trunc_any (hD.keep o) log (whole : Int))
  rw [h2] at HT
  generalize hS1 : truncS S log (whole : Int) = S1 at *
  have HS := Lib.hid (fun (W : World) (F : List Nat) (hD : Disk W d F S1) => sync_one hD log)
  rw [h3] at HS
  generalize hS2 : syncS S1 log = S2 at *
  have h5 : 0 < L.es.length := List.length_pos_iff.2 h4
  obtain ⟨m, hm⟩ : ∃ m, L.es.length = m := ⟨_, rfl⟩
  rw [hm] at c5 h5 b3
  clear e1 e2 h2 h3 hS1 hS2 h4 hm
  clear hD h hFG
  go_enter Tryd.func39, Tryd.ntmps39
  go_wp2
  go_region_held3 (fun w' => w'.cell? ⟨g, 0, none⟩ = some (.pointer (some ⟨d, 0, none⟩)) ∧ w'.cell? ⟨g, 2, none⟩ = some (.string log)) (first | go_keep | exact ⟨a10, a12⟩)
    ((go_at_call 20; refine (HT.out w.drew (Only.refl [] w).drew).mono ?_; rintro e w1 ⟨rfl, hD1⟩; obtain ⟨F1, D1, O1, B1⟩ := chained (F := F) ((Only.refl [] w).drew.mono (fun _ h => nomatch h)) (fun _ h => .inl h) hD1; have a10 := O1.cellSome c0 hgF; have a12 := O1.cellSome c2 hgF; have a15 := O1.cellSome c5 hgF))
  go_wp2
  go_region_held3 (fun w' => w'.cell? ⟨g, 0, none⟩ = some (.pointer (some ⟨d, 0, none⟩)) ∧ w'.cell? ⟨g, 2, none⟩ = some (.string log)) (first | go_keep | exact ⟨a20, a22⟩)
    ((go_at_call 42; refine (HS.out _ _ (D1.keep (Only.refl _ _).drew)).mono ?_; rintro e w2 ⟨rfl, hD2⟩; obtain ⟨F2, D2, O2, B2⟩ := chained (F := F) O1.drew B1 hD2; have a20 := O2.cellSome c0 hgF; have a22 := O2.cellSome c2 hgF; have a25 := O2.cellSome c5 hgF))
  go_wp2
  go_ret
  exact ⟨rfl, F2, D2, O2, B2⟩
set_option maxHeartbeats 800000 in
set_option maxRecDepth 100000 in
theorem tidy_b3 (hD : Disk w d F S) (h : Lg w d g img log G L) (hFG : ∀ x ∈ F, x ∉ G) (size whole : Nat) (h1 : whole < size) (h2 : errT S log (whole : Int) = 0) (h3 : errF (truncS S log (whole : Int)) log = 0) (h4 : L.es = []) :
    Calls Tryd.prog 39 #[.pointer (some ⟨g, 0, none⟩), .int .i64 (size : Int), .int .i64 (whole : Int)] w (Did d F (tidyS S log L.es size whole) (.int .i64 (tidyE S log L.es size whole : Nat)) w) := by
  obtain ⟨c0, _, c2, _, _, ⟨Ae, ce, c5, _⟩, _, hg⟩ := h.cells
  have hgF : g ∉ F := fun hm => hFG g hm h.g_mem
  obtain ⟨_, _, b3⟩ := h.bounds
  have HD := Lib.hid hD
  have e1 : tidyS S log L.es size whole = removeS (syncS (truncS S log (whole : Int)) log) log := by simp [tidyS, h1, h2, h3, h4]
  have e2 : tidyE S log L.es size whole = errF (syncS (truncS S log (whole : Int)) log) log := by simp [tidyE, h1, h2, h3, h4]
  rw [e1, e2]
  have HT := Lib.hid (fun (W : World) (o : Only [] w W) => trunc_any (hD.keep o) log (whole : Int))
  rw [h2] at HT
  generalize hS1 : truncS S log (whole : Int) = S1 at *
  have HS := Lib.hid (fun (W : World) (F : List Nat) (hD : Disk W d F S1) => sync_one hD log)
  rw [h3] at HS
  generalize hS2 : syncS S1 log = S2 at *
  have h5 : L.es.length = 0 := by rw [h4]; rfl
  obtain ⟨m, hm⟩ : ∃ m, L.es.length = m := ⟨_, rfl⟩
  rw [hm] at c5 h5 b3
  subst h5
  clear e1 e2 h2 h3 hS1 hS2 h4 hm
  clear hD h hFG
  go_enter Tryd.func39, Tryd.ntmps39
  go_wp2
  go_region_held3 (fun w' => w'.cell? ⟨g, 0, none⟩ = some (.pointer (some ⟨d, 0, none⟩)) ∧ w'.cell? ⟨g, 2, none⟩ = some (.string log)) (first | go_keep | exact ⟨a10, a12⟩)
    ((go_at_call 20; refine (HT.out w.drew (Only.refl [] w).drew).mono ?_; rintro e w1 ⟨rfl, hD1⟩; obtain ⟨F1, D1, O1, B1⟩ := chained (F := F) ((Only.refl [] w).drew.mono (fun _ h => nomatch h)) (fun _ h => .inl h) hD1; have a10 := O1.cellSome c0 hgF; have a12 := O1.cellSome c2 hgF; have a15 := O1.cellSome c5 hgF))
  go_wp2
  go_region_held3 (fun w' => w'.cell? ⟨g, 0, none⟩ = some (.pointer (some ⟨d, 0, none⟩)) ∧ w'.cell? ⟨g, 2, none⟩ = some (.string log)) (first | go_keep | exact ⟨a20, a22⟩)
    ((go_at_call 42; refine (HS.out _ _ (D1.keep (Only.refl _ _).drew)).mono ?_; rintro e w2 ⟨rfl, hD2⟩; obtain ⟨F2, D2, O2, B2⟩ := chained (F := F) O1.drew B1 hD2; have a20 := O2.cellSome c0 hgF; have a22 := O2.cellSome c2 hgF; have a25 := O2.cellSome c5 hgF))
  go_wp2
  go_region_held3 (fun w' => w'.cell? ⟨g, 0, none⟩ = some (.pointer (some ⟨d, 0, none⟩)) ∧ w'.cell? ⟨g, 2, none⟩ = some (.string log)) (first | go_keep | exact ⟨a30, a32⟩)
    ((go_at_call 34; refine (remove_one (D2.keep (Only.refl _ _).drew) log).mono ?_; rintro e w3 ⟨rfl, hD3⟩; obtain ⟨F3, D3, O3, B3⟩ := chained (F := F) O2.drew B2 hD3; have a30 := O3.cellSome c0 hgF; have a32 := O3.cellSome c2 hgF; have a35 := O3.cellSome c5 hgF))
  go_wp2
  go_ret
  exact ⟨rfl, F3, D3, O3, B3⟩
set_option maxHeartbeats 800000 in
set_option maxRecDepth 100000 in
theorem tidy_c1 (hD : Disk w d F S) (h : Lg w d g img log G L) (hFG : ∀ x ∈ F, x ∉ G) (hlog : log.size ≤ maxLen) (size whole : Nat) (h1 : ¬ whole < size) (h4 : L.es ≠ []) (h6 : lastsB S log whole = false) (h3 : errF S log ≠ 0) :
    Calls Tryd.prog 39 #[.pointer (some ⟨g, 0, none⟩), .int .i64 (size : Int), .int .i64 (whole : Int)] w (Did d F (tidyS S log L.es size whole) (.int .i64 (tidyE S log L.es size whole : Nat)) w) := by
  obtain ⟨c0, _, c2, _, _, ⟨Ae, ce, c5, _⟩, _, hg⟩ := h.cells
  have hgF : g ∉ F := fun hm => hFG g hm h.g_mem
  obtain ⟨_, _, b3⟩ := h.bounds
  have HD := Lib.hid hD
  have e1 : tidyS S log L.es size whole = syncS S log := by simp [tidyS, h1, h3, h4, h6]
  have e2 : tidyE S log L.es size whole = errF S log := by simp [tidyE, h1, h3, h4, h6]
  rw [e1, e2]
  have HLA := Lib.hid (lasts_any hD h hlog whole)
  rw [h6] at HLA
  have hne := nat_ne _ h3
  have HS := Lib.hid (fun (W : World) (F : List Nat) (hD : Disk W d F S) => sync_one hD log)
  generalize hrr : ((errF S log : Nat) : Int) = r at *
  have h5 : 0 < L.es.length := List.length_pos_iff.2 h4
  obtain ⟨m, hm⟩ : ∃ m, L.es.length = m := ⟨_, rfl⟩
  rw [hm] at c5 h5 b3
  clear e1 e2 hrr h3 h4 h6 hm
  clear hD h hFG
  go_enter Tryd.func39, Tryd.ntmps39
  go_wp2_with (go_at_call 57; refine HLA.out.mono ?_; clear HLA; rintro e w1 ⟨rfl, o1⟩; have O1 := o1.mono (ss := F) (fun _ h => nomatch h); have B1 : ∀ x ∈ F, x ∈ F ∨ w.heap.size ≤ x := fun x hx => .inl hx; have D1 := HD.out.keep o1; have a10 := O1.cellSome c0 hgF; have a12 := O1.cellSome c2 hgF; have a15 := O1.cellSome c5 hgF)
  go_region_held3 (fun w' => w'.cell? ⟨g, 0, none⟩ = some (.pointer (some ⟨d, 0, none⟩)) ∧ w'.cell? ⟨g, 2, none⟩ = some (.string log)) (first | go_keep | exact ⟨a20, a22⟩)
    ((go_at_call 42; refine (HS.out _ _ (D1.keep (Only.refl _ _).drew)).mono ?_; rintro e w2 ⟨rfl, hD2⟩; obtain ⟨F2, D2, O2, B2⟩ := chained (F := F) O1.drew B1 hD2; have a20 := O2.cellSome c0 hgF; have a22 := O2.cellSome c2 hgF; have a25 := O2.cellSome c5 hgF))
  go_wp2
  go_ret
  exact ⟨rfl, F2, D2, O2, B2⟩
set_option maxHeartbeats 800000 in
set_option maxRecDepth 100000 in
theorem tidy_c2 (hD : Disk w d F S) (h : Lg w d g img log G L) (hFG : ∀ x ∈ F, x ∉ G) (hlog : log.size ≤ maxLen) (size whole : Nat) (h1 : ¬ whole < size) (h4 : L.es ≠ []) (h6 : lastsB S log whole = false) (h3 : errF S log = 0) :
    Calls Tryd.prog 39 #[.pointer (some ⟨g, 0, none⟩), .int .i64 (size : Int), .int .i64 (whole : Int)] w (Did d F (tidyS S log L.es size whole) (.int .i64 (tidyE S log L.es size whole : Nat)) w) := by
  obtain ⟨c0, _, c2, _, _, ⟨Ae, ce, c5, _⟩, _, hg⟩ := h.cells
  have hgF : g ∉ F := fun hm => hFG g hm h.g_mem
  obtain ⟨_, _, b3⟩ := h.bounds
  have HD := Lib.hid hD
  have e1 : tidyS S log L.es size whole = syncS S log := by simp [tidyS, h1, h3, h4, h6]
  have e2 : tidyE S log L.es size whole = 0 := by simp [tidyE, h1, h3, h4, h6]
  rw [e1, e2]
  have HLA := Lib.hid (lasts_any hD h hlog whole)
  rw [h6] at HLA
  have HS := Lib.hid (fun (W : World) (F : List Nat) (hD : Disk W d F S) => sync_one hD log)
  rw [h3] at HS
  have h5 : 0 < L.es.length := List.length_pos_iff.2 h4
  obtain ⟨m, hm⟩ : ∃ m, L.es.length = m := ⟨_, rfl⟩
  rw [hm] at c5 h5 b3
  clear e1 e2 h3 h4 h6 hm
  clear hD h hFG
  go_enter Tryd.func39, Tryd.ntmps39
  go_wp2_with (go_at_call 57; refine HLA.out.mono ?_; clear HLA; rintro e w1 ⟨rfl, o1⟩; have O1 := o1.mono (ss := F) (fun _ h => nomatch h); have B1 : ∀ x ∈ F, x ∈ F ∨ w.heap.size ≤ x := fun x hx => .inl hx; have D1 := HD.out.keep o1; have a10 := O1.cellSome c0 hgF; have a12 := O1.cellSome c2 hgF; have a15 := O1.cellSome c5 hgF)
  go_region_held3 (fun w' => w'.cell? ⟨g, 0, none⟩ = some (.pointer (some ⟨d, 0, none⟩)) ∧ w'.cell? ⟨g, 2, none⟩ = some (.string log)) (first | go_keep | exact ⟨a20, a22⟩)
    ((go_at_call 42; refine (HS.out _ _ (D1.keep (Only.refl _ _).drew)).mono ?_; rintro e w2 ⟨rfl, hD2⟩; obtain ⟨F2, D2, O2, B2⟩ := chained (F := F) O1.drew B1 hD2; have a20 := O2.cellSome c0 hgF; have a22 := O2.cellSome c2 hgF; have a25 := O2.cellSome c5 hgF))
  go_wp2
  go_ret
  exact ⟨rfl, F2, D2, O2, B2⟩
set_option maxHeartbeats 800000 in
set_option maxRecDepth 100000 in
theorem tidy_c3 (hD : Disk w d F S) (h : Lg w d g img log G L) (hFG : ∀ x ∈ F, x ∉ G) (hlog : log.size ≤ maxLen) (size whole : Nat) (h1 : ¬ whole < size) (h4 : L.es ≠ []) (h6 : lastsB S log whole = true) :
    Calls Tryd.prog 39 #[.pointer (some ⟨g, 0, none⟩), .int .i64 (size : Int), .int .i64 (whole : Int)] w (Did d F (tidyS S log L.es size whole) (.int .i64 (tidyE S log L.es size whole : Nat)) w) := by
  obtain ⟨c0, _, c2, _, _, ⟨Ae, ce, c5, _⟩, _, hg⟩ := h.cells
  have hgF : g ∉ F := fun hm => hFG g hm h.g_mem
  obtain ⟨_, _, b3⟩ := h.bounds
  have HD := Lib.hid hD
  have e1 : tidyS S log L.es size whole = S := by simp [tidyS, h1, h4, h6]
  have e2 : tidyE S log L.es size whole = 0 := by simp [tidyE, h1, h4, h6]
  rw [e1, e2]
  have HLA := Lib.hid (lasts_any hD h hlog whole)
  rw [h6] at HLA
  have h5 : 0 < L.es.length := List.length_pos_iff.2 h4
  obtain ⟨m, hm⟩ : ∃ m, L.es.length = m := ⟨_, rfl⟩
  rw [hm] at c5 h5 b3
  clear e1 e2 h4 h6 hm
  clear hD h hFG
  go_enter Tryd.func39, Tryd.ntmps39
  go_wp2_with (go_at_call 57; refine HLA.out.mono ?_; clear HLA; rintro e w1 ⟨rfl, o1⟩; have O1 := o1.mono (ss := F) (fun _ h => nomatch h); have B1 : ∀ x ∈ F, x ∈ F ∨ w.heap.size ≤ x := fun x hx => .inl hx; have D1 := HD.out.keep o1; have a10 := O1.cellSome c0 hgF; have a12 := O1.cellSome c2 hgF; have a15 := O1.cellSome c5 hgF)
  go_ret
  exact ⟨rfl, F, D1, O1, B1⟩
set_option maxHeartbeats 800000 in
set_option maxRecDepth 100000 in
theorem tidy_c4 (hD : Disk w d F S) (h : Lg w d g img log G L) (hFG : ∀ x ∈ F, x ∉ G) (size whole : Nat) (h1 : ¬ whole < size) (h4 : L.es = []) :
    Calls Tryd.prog 39 #[.pointer (some ⟨g, 0, none⟩), .int .i64 (size : Int), .int .i64 (whole : Int)] w (Did d F (tidyS S log L.es size whole) (.int .i64 (tidyE S log L.es size whole : Nat)) w) := by
  obtain ⟨c0, _, c2, _, _, ⟨Ae, ce, c5, _⟩, _, hg⟩ := h.cells
  have hgF : g ∉ F := fun hm => hFG g hm h.g_mem
  obtain ⟨_, _, b3⟩ := h.bounds
  have HD := Lib.hid hD
  have e1 : tidyS S log L.es size whole = removeS S log := by simp [tidyS, h1, h4]
  have e2 : tidyE S log L.es size whole = errF S log := by simp [tidyE, h1, h4]
  rw [e1, e2]
  have h5 : L.es.length = 0 := by rw [h4]; rfl
  rw [h5] at c5
  clear e1 e2 h4 h5 b3
  clear hD h hFG
  go_enter Tryd.func39, Tryd.ntmps39
  go_wp2
  go_region_held3 (fun w' => w'.cell? ⟨g, 0, none⟩ = some (.pointer (some ⟨d, 0, none⟩)) ∧ w'.cell? ⟨g, 2, none⟩ = some (.string log)) (first | go_keep | exact ⟨a10, a12⟩)
    ((go_at_call 34; refine (remove_one (HD.out.keep (Only.refl _ _).drew) log).mono ?_; rintro e w1 ⟨rfl, hD1⟩; obtain ⟨F1, D1, O1, B1⟩ := chained (F := F) ((Only.refl [] w).drew.mono (fun _ h => nomatch h)) (fun _ h => .inl h) hD1; have a10 := O1.cellSome c0 hgF; have a12 := O1.cellSome c2 hgF; have a15 := O1.cellSome c5 hgF))
  go_wp2
  go_ret
  exact ⟨rfl, F1, D1, O1, B1⟩
/-- tidy. -/
theorem tidy_any (hD : Disk w d F S) (h : Lg w d g img log G L) (hFG : ∀ x ∈ F, x ∉ G) (hlog : log.size ≤ maxLen) (size whole : Nat) :
    Calls Tryd.prog 39 #[.pointer (some ⟨g, 0, none⟩), .int .i64 (size : Int), .int .i64 (whole : Int)] w (Did d F (tidyS S log L.es size whole) (.int .i64 (tidyE S log L.es size whole : Nat)) w) := by
  by_cases h1 : whole < size
  · by_cases h2 : errT S log (whole : Int) = 0
    · by_cases h3 : errF (truncS S log (whole : Int)) log = 0
      · by_cases h4 : L.es = []
        · exact tidy_b3 hD h hFG size whole h1 h2 h3 h4
        · exact tidy_b2 hD h hFG size whole h1 h2 h3 h4
      · exact tidy_b1 hD h hFG size whole h1 h2 h3
    · exact tidy_a hD h hFG size whole h1 h2
  · by_cases h4 : L.es = []
    · exact tidy_c4 hD h hFG size whole h1 h4
    · cases h6 : lastsB S log whole
      · by_cases h3 : errF S log = 0
        · exact tidy_c2 hD h hFG hlog size whole h1 h4 h6 h3
        · exact tidy_c1 hD h hFG hlog size whole h1 h4 h6 h3
      · exact tidy_c3 hD h hFG hlog size whole h1 h4 h6
end
end Go.Proofs.YtblggoneifmoeaaDoor
/-
  ledger's readLog.
-/
namespace Go.Proofs.YtblggoneifmoeaaDoor
open Go.RowKit Go.Maps
section
variable {w : World} {d g : Nat} {img log : ByteArray} {F G : List Nat} {S : St} {L : LS} {T : Took}
/-- The log, read: a ledger only behind no error. -/
def LogRead (d g : Nat) (img log : ByteArray) (F G : List Nat) (S' : St) (r : Nat) (L' : LS) (w : World) (e : Ending) (w' : World) : Prop :=
  e = .returned (.int .i64 (r : Int)) ∧ ∃ F', Disk w' d F' S' ∧ Only (F ++ G) w w' ∧ (∀ x ∈ F', x ∈ F ∨ w.heap.size ≤ x) ∧ (r = 0 → ∃ G', Lg w' d g img log G' L' ∧ (∀ x ∈ F', x ∉ G') ∧ ∀ x ∈ G', x ∈ G ∨ w.heap.size ≤ x)
/-- The ledger gets the intake's entries. -/
theorem lg_take {G' : List Nat} {Ae : Option Addr} {ce : Nat} (h : Lg w d g img log G L) (h2 : Es G' w Ae T.2.length ce T.2) (h4 : ∀ x ∈ G', x < w.heap.size) (h5 : T.2.length ≤ 1099511627776 ∧ ∀ l ∈ T.2, l.length ≤ 1073741824) :
    Lg (w.setCell ⟨g, 5, none⟩ (.slice Ae T.2.length ce)) d g img log (G ++ G') { L with es := T.2 } := by
  obtain ⟨Ad, cd, Ae0, ce0, g1, g2, g3, g7, g8, g9, g10⟩ := h
  obtain ⟨k1, vs, k2, k3, k4⟩ := h2
  refine ⟨Ad, cd, Ae, ce, by simpa using g1.set 5 (.slice Ae T.2.length ce), g2.setFar (own_off g2 g1 (by decide)) _, ⟨rfl, vs, k2.setFar (own_off k2 g1 (by decide)) _, fun x hx => by simp [k3 x hx], fun i l hi => ?_⟩, by simp [g7], fun x hx => by simp [g8 x hx], fun x hx => ?_, g10.1, g10.2.1, h5⟩
  · obtain ⟨Ai, ci, j1, j2, j3⟩ := k4 i l hi
    exact ⟨Ai, ci, j1, j2.setFar (own_off j2 g1 (by decide)) _, fun x hx => by simp [j3 x hx]⟩
  · have hs6 : (w.setCell ⟨g, 5, none⟩ (.slice Ae T.2.length ce)).heap.size = w.heap.size := by simp [World.setCell]
    rw [hs6]
    rcases List.mem_append.1 hx with hy | hy
    · exact g9 x hy
    · exact h4 x hy
set_option maxHeartbeats 800000 in
set_option maxRecDepth 100000 in
theorem readLog_none (hD : Disk w d F S) (h : Lg w d g img log G L) (hFG : ∀ x ∈ F, x ∉ G) (hes : L.es = []) (hlog : log.size ≤ maxLen) (h0 : readE S log = 7) :
    Calls Tryd.prog 24 #[.pointer (some ⟨g, 0, none⟩)] w (LogRead d g img log F G (logS S log L.base) (logE S log L.base) { L with es := logL S log L.base } w) := by
  obtain ⟨c0, _, c2, c3, _, _, _, hg⟩ := h.cells
  have e1 : logS S log L.base = S := by unfold logS; rw [if_pos (by omega)]
  have e2 : logE S log L.base = 0 := by unfold logE; rw [if_pos (by omega)]
  have e3 : { L with es := logL S log L.base } = L := by
    have : logL S log L.base = [] := by unfold logL; rw [if_pos (by omega)]
    rw [this, ← hes]
  rw [e1, e2, e3]
  have HR := Lib.hid (fun (W : World) (o : Only [] w W) => read_any (hD.keep o) log hlog)
  rw [h0] at HR
  have fin : Hid (∀ (w1 : World), Only [] w w1 → LogRead d g img log F G S 0 L w (.returned (.int .i64 0)) w1) := fun w1 o =>
    ⟨rfl, F, hD.keep o, o.mono (fun _ h => nomatch h), fun _ hx => .inl hx, fun _ => ⟨G, h.keep o, hFG, fun _ hx => .inl hx⟩⟩
  clear e1 e2 e3 h0 hD h hFG hes
  go_enter Tryd.func24, Tryd.ntmps24
  go_wp2
  go_region_held3 (fun w' => w'.cell? ⟨g, 0, none⟩ = some (.pointer (some ⟨d, 0, none⟩)) ∧ w'.cell? ⟨g, 2, none⟩ = some (.string log)) (first | go_keep | exact ⟨k0, k2⟩)
    ((go_at_call 19; refine (HR.out _ (Only.refl [] w).drew).mono ?_; clear HR; rintro e w1 ⟨A1, c1, rfl, V1, O1, B1⟩; have O1' := (Only.refl [] w).drew.then O1; have k0 := O1'.cellSome c0 (fun hm => nomatch hm); have k2 := O1'.cellSome c2 (fun hm => nomatch hm)))
  go_wp2
  go_ret
  exact fin.out w1 O1'
theorem Tk.new (W : World) (base : Nat) (hb : base ≤ 1099511627776) : Tk (W.alloc (.cells #[.int .i64 (base : Int), .int .i64 0, .slice none 0 0] 75)) W.heap.size base [W.heap.size] (0, []) :=
  ⟨none, 0, Bk.new _ _ _, Es.nil _ _, by simp, fun x hx => by simp at hx; subst hx; simp, hb, Nat.zero_le _, Nat.zero_le _, fun _ hl => nomatch hl⟩
set_option maxHeartbeats 1600000 in
set_option maxRecDepth 100000 in
theorem readLog_bad (hD : Disk w d F S) (h : Lg w d g img log G L) (hlog : log.size ≤ maxLen) (ht : Tab w) (h0 : readE S log = 0) (h1 : logged L.base (readD S log) = none) :
    Calls Tryd.prog 24 #[.pointer (some ⟨g, 0, none⟩)] w (LogRead d g img log F G (logS S log L.base) (logE S log L.base) { L with es := logL S log L.base } w) := by
  obtain ⟨c0, _, c2, c3, _, _, _, hg⟩ := h.cells
  obtain ⟨b1, _, _⟩ := h.bounds
  have e1 : logS S log L.base = S := by unfold logS; rw [if_neg (by omega), h1]
  have e2 : logE S log L.base = 3 := by unfold logE; rw [if_neg (by omega), h1]
  rw [e1, e2]
  generalize ({ L with es := logL S log L.base } : LS) = L' at *
  have hsm := readD_small hD log
  have HR := Lib.hid (fun (W : World) (o : Only [] w W) => read_any (hD.keep o) log hlog)
  rw [h0] at HR
  obtain ⟨b, hb⟩ : ∃ b, readD S log = b := ⟨_, rfl⟩
  rw [hb] at HR hsm h1
  have h2 : takes L.base (0, []) (scan b).1 = none := by
    unfold logged at h1
    simpa using h1
  have HT := Lib.hid (fun (W : World) (t : Nat) (G : List Nat) (A : Option Addr) (c : Nat) (hT : Tk W t L.base G (0, [])) (hs : Sl W A b.length (bvs b)) (ht : Tab W) (hc : b.length ≤ c) => tell_any hT A b.length c b hs ht hc hsm)
  rw [h2] at HT
  have HTab := Lib.hid (fun (W : World) (o : Only [] w W) => ht.keep o)
  have HNEW := Lib.hid (fun (W : World) => Tk.new W L.base b1)
  have fin : Hid (∀ (w1 : World), Only [] w w1 → LogRead d g img log F G S 3 L' w (.returned (.int .i64 3)) w1) := fun w1 o =>
    ⟨rfl, F, hD.keep o, o.mono (fun _ h => nomatch h), fun _ hx => .inl hx, fun h => absurd h (by omega)⟩
  clear e1 e2 h0 h1 h2 hD h ht hb b1
  go_enter Tryd.func24, Tryd.ntmps24
  go_wp2
  go_region_held3 (fun w' => w'.cell? ⟨g, 0, none⟩ = some (.pointer (some ⟨d, 0, none⟩)) ∧ w'.cell? ⟨g, 2, none⟩ = some (.string log)) (first | go_keep | exact ⟨k0, k2⟩)
    ((go_at_call 19; refine (HR.out _ (Only.refl [] w).drew).mono ?_; clear HR; rintro e w1 ⟨A1, c1, rfl, V1, O1, B1⟩; have O1' := (Only.refl [] w).drew.then O1; have k0 := O1'.cellSome c0 (fun hm => nomatch hm); have k2 := O1'.cellSome c2 (fun hm => nomatch hm); have k3 := O1'.cellSome c3 (fun hm => nomatch hm)))
  go_wp2_with (go_at_call 37; refine (HT.out _ _ _ A1 c1 (HNEW.out w1) (V1.sl.alloc _) (HTab.out _ (O1'.alloc _)) V1.cap).mono ?_; clear HT; rintro e w2 ⟨rfl, O2⟩)
  go_ret
  exact fin.out w2 ((O1'.alloc _).trans O2 (fun x hx => by simp at hx; subst hx; exact .inr O1'.size))
end
end Go.Proofs.YtblggoneifmoeaaDoor
/-
  ledger's readLog: a log that is one.
-/
namespace Go.Proofs.YtblggoneifmoeaaDoor
open Go.RowKit Go.Maps
section
variable {w : World} {d g : Nat} {img log : ByteArray} {F G : List Nat} {S : St} {L : LS} {T : Took}
/-- Behind the store of the entries. -/
theorem log_pre {w2 : World} {G' : List Nat} {Ae : Option Addr} {ce : Nat} (hD : Disk w d F S) (h : Lg w d g img log G L) (hFG : ∀ x ∈ F, x ∉ G) (o : Only [] w w2) (h2 : Es G' w2 Ae T.2.length ce T.2) (h4 : ∀ x ∈ G', x < w2.heap.size) (h5 : T.2.length ≤ 1099511627776 ∧ ∀ l ∈ T.2, l.length ≤ 1073741824) (hf : ∀ x ∈ G', w.heap.size ≤ x) :
    Disk (w2.setCell ⟨g, 5, none⟩ (.slice Ae T.2.length ce)) d F S ∧ Lg (w2.setCell ⟨g, 5, none⟩ (.slice Ae T.2.length ce)) d g img log (G ++ G') { L with es := T.2 } ∧ (∀ x ∈ F, x ∉ G ++ G') ∧ Only [g] w (w2.setCell ⟨g, 5, none⟩ (.slice Ae T.2.length ce)) := by
  have o6 : Only [g] w (w2.setCell ⟨g, 5, none⟩ (.slice Ae T.2.length ce)) := (o.mono (ss := [g]) (fun _ h => nomatch h)).setCell (.inl (by simp)) _
  have hgF : g ∉ F := fun hm => hFG g hm h.g_mem
  refine ⟨hD.only o6 (fun x hx hm => by simp at hm; subst hm; exact hgF hx), lg_take (h.keep o) h2 h4 h5, fun x hx hm => ?_, o6⟩
  rcases List.mem_append.1 hm with hy | hy
  · exact hFG x hx hy
  · have := hf x hy; have := hD.lt hx; omega
/-- Behind tidy. -/
theorem log_fin {w3 w4 : World} {G3 F4 : List Nat} {S' : St} {r : Nat} {L' : LS} (L3 : Lg w3 d g img log G3 L') (hFG : ∀ x ∈ F, x ∉ G3) (o3 : Only [g] w w3) (hg : g ∈ G) (hf : ∀ x ∈ G3, x ∈ G ∨ w.heap.size ≤ x)
    (D4 : Disk w4 d F4 S') (O4 : Only F w3 w4) (B4 : ∀ x ∈ F4, x ∈ F ∨ w3.heap.size ≤ x) : LogRead d g img log F G S' r L' w (.returned (.int .i64 (r : Int))) w4 := by
  have h3 := o3.size
  refine ⟨rfl, F4, D4, (o3.mono (ss := F ++ G) (fun x hx => .inl (by simp at hx; subst hx; simp [hg]))).trans O4 (fun x hx => .inl (by simp [hx])), fun x hx => ?_, fun _ => ⟨G3, L3.only O4 (fun x hx hm => hFG x hm hx), fun x hx hm => ?_, hf⟩⟩
  · rcases B4 x hx with hy | hy
    · exact .inl hy
    · exact .inr (by omega)
  · rcases B4 x hx with hy | hy
    · exact hFG x hy hm
    · have := L3.lt hm; omega
set_option maxHeartbeats 1600000 in
set_option maxRecDepth 100000 in
theorem readLog_good (hD : Disk w d F S) (h : Lg w d g img log G L) (hFG : ∀ x ∈ F, x ∉ G) (hlog : log.size ≤ maxLen) (ht : Tab w) (h0 : readE S log = 0) (es : List (List UInt8)) (h1 : logged L.base (readD S log) = some es) :
    Calls Tryd.prog 24 #[.pointer (some ⟨g, 0, none⟩)] w (LogRead d g img log F G (logS S log L.base) (logE S log L.base) { L with es := logL S log L.base } w) := by
  obtain ⟨c0, _, c2, c3, _, ⟨Ao, co, c5, _⟩, _, hg⟩ := h.cells
  obtain ⟨b1, _, _⟩ := h.bounds
  have e1 : logS S log L.base = tidyS S log es (readD S log).length (scan (readD S log)).2 := by unfold logS; rw [if_neg (by omega), h1]
  have e2 : logE S log L.base = tidyE S log es (readD S log).length (scan (readD S log)).2 := by unfold logE; rw [if_neg (by omega), h1]
  have e3 : logL S log L.base = es := by unfold logL; rw [if_neg (by omega), h1]; rfl
  rw [e1, e2, e3]
  have hsm := readD_small hD log
  have HR := Lib.hid (fun (W : World) (o : Only [] w W) => read_any (hD.keep o) log hlog)
  rw [h0] at HR
  obtain ⟨b, hb⟩ : ∃ b, readD S log = b := ⟨_, rfl⟩
  rw [hb] at HR hsm h1 ⊢
  obtain ⟨T, h2, h3⟩ : ∃ T : Took, takes L.base (0, []) (scan b).1 = some T ∧ T.2 = es := by
    unfold logged at h1
    cases ht : takes L.base (0, []) (scan b).1 with
    | none => rw [ht] at h1; cases h1
    | some T => rw [ht] at h1; exact ⟨T, rfl, by simpa using h1⟩
  subst h3
  have HT := Lib.hid (fun (W : World) (t : Nat) (G : List Nat) (A : Option Addr) (c : Nat) (hT : Tk W t L.base G (0, [])) (hs : Sl W A b.length (bvs b)) (ht : Tab W) (hc : b.length ≤ c) => tell_any hT A b.length c b hs ht hc hsm)
  rw [h2] at HT
  have HTab := Lib.hid (fun (W : World) (o : Only [] w W) => ht.keep o)
  have HNEW := Lib.hid (fun (W : World) => Tk.new W L.base b1)
  have HTD := Lib.hid (fun (W : World) (G3 : List Nat) (D3 : Disk W d F S) (L3 : Lg W d g img log G3 { L with es := T.2 }) (hFG : ∀ x ∈ F, x ∉ G3) => tidy_any D3 L3 hFG hlog b.length (scan b).2)
  have PRE := Lib.hid (fun (w2 : World) (G' : List Nat) (Ae : Option Addr) (ce : Nat) (o : Only [] w w2) (h2 : Es G' w2 Ae T.2.length ce T.2) h4 h5 hf => log_pre (T := T) hD h hFG o h2 h4 h5 hf)
  have HG := Lib.hid h.g_mem
  have HFZ := Lib.hid (fun (W : World) (o : Only [] w W) => (h.keep o).free 5)
  obtain ⟨x, hx⟩ : ∃ x, (scan b).2 = x := ⟨_, rfl⟩
  rw [hx] at HT HTD ⊢
  obtain ⟨S', hS'⟩ : ∃ S', tidyS S log T.2 b.length x = S' := ⟨_, rfl⟩
  obtain ⟨r, hr⟩ : ∃ r, tidyE S log T.2 b.length x = r := ⟨_, rfl⟩
  replace HTD : Hid (∀ (W : World) (G3 : List Nat) (D3 : Disk W d F S) (L3 : Lg W d g img log G3 { L with es := T.2 }) (hFG : ∀ x ∈ F, x ∉ G3), Calls Tryd.prog 39 #[.pointer (some ⟨g, 0, none⟩), .int .i64 (b.length : Int), .int .i64 (x : Int)] W (Did d F (tidyS S log T.2 b.length x) (.int .i64 (tidyE S log T.2 b.length x : Nat)) W)) := HTD
  rw [hS', hr] at HTD ⊢
  clear e1 e2 e3 h0 h1 h2 hD h ht hb b1 hFG hx hS' hr
  go_enter Tryd.func24, Tryd.ntmps24
  go_wp2
  go_region_held3 (fun w' => w'.cell? ⟨g, 0, none⟩ = some (.pointer (some ⟨d, 0, none⟩)) ∧ w'.cell? ⟨g, 2, none⟩ = some (.string log)) (first | go_keep | exact ⟨k0, k2⟩)
    ((go_at_call 19; refine (HR.out _ (Only.refl [] w).drew).mono ?_; clear HR; rintro e w1 ⟨A1, c1, rfl, V1, O1, B1⟩; have O1' := (Only.refl [] w).drew.then O1; have k0 := O1'.cellSome c0 (fun hm => nomatch hm); have k2 := O1'.cellSome c2 (fun hm => nomatch hm); have k3 := O1'.cellSome c3 (fun hm => nomatch hm)))
  go_wp2_with (first
    | (go_at_call 37; refine (HT.out _ _ _ A1 c1 (HNEW.out w1) (V1.sl.alloc _) (HTab.out _ (O1'.alloc _)) V1.cap).mono ?_; clear HT; rintro e w2 ⟨rfl, G2, ⟨Ae, ce, q1, q2, q3, q4, q5, q6, q7, q8⟩, O2, B2⟩; have O12 : Only [] w w2 := (O1'.alloc _).trans O2 (fun x hx => by simp at hx; subst hx; exact .inr O1'.size); have y2 : w2.cell? ⟨w1.heap.size, 2, none⟩ = some (.slice Ae T.2.length ce) := (by rw [q1.cell]; rfl); have y5 := O12.cellSome c5 (fun hm => nomatch hm); have f5 := HFZ.out w2 O12; have fr : ∀ y ∈ G2, w.heap.size ≤ y := (fun y hy => by rcases B2 y hy with hz | hz; (simp at hz; subst hz; exact O1'.size); (have := O1'.size; simp at hz; omega)); obtain ⟨D3, L3, FG3, o3⟩ := PRE.out w2 G2 Ae ce O12 q2 q4 ⟨q7, q8⟩ fr)
    | (go_at_call 39; refine (HTD.out _ _ D3 L3 FG3).mono ?_; clear HTD; rintro e w4 ⟨rfl, F4, D4, O4, B4⟩))
  go_ret
  exact log_fin L3 FG3 o3 HG.out (fun y hy => (List.mem_append.1 hy).imp id (fr y)) D4 O4 B4
/-- readLog. -/
theorem readLog_any (hD : Disk w d F S) (h : Lg w d g img log G L) (hFG : ∀ x ∈ F, x ∉ G) (hes : L.es = []) (hlog : log.size ≤ maxLen) (ht : Tab w) :
    Calls Tryd.prog 24 #[.pointer (some ⟨g, 0, none⟩)] w (LogRead d g img log F G (logS S log L.base) (logE S log L.base) { L with es := logL S log L.base } w) := by
  rcases readE_cases S log with h0 | h0
  · cases h1 : logged L.base (readD S log) with
    | none => exact readLog_bad hD h hlog ht h0 h1
    | some es => exact readLog_good hD h hFG hlog ht h0 es h1
  · exact readLog_none hD h hFG hes hlog h0
end
end Go.Proofs.YtblggoneifmoeaaDoor
/-
  ledger's Open.
-/
namespace Go.Proofs.YtblggoneifmoeaaDoor
open Go.RowKit Go.Maps
def imgName (s : ByteArray) : ByteArray := s ++ ⟨#[45, 105, 109, 103]⟩
def logName (s : ByteArray) : ByteArray := s ++ ⟨#[45, 108, 111, 103]⟩
theorem readImage_any {w : World} {d g : Nat} {img log : ByteArray} {F G : List Nat} {S : St} (hD : Disk w d F S) (h : Lg w d g img log G L0) (himg : img.size ≤ maxLen) (ht : Tab w) :
    Calls Tryd.prog 23 #[.pointer (some ⟨g, 0, none⟩)] w (Imaged w d g img log G (imgE S img) (imgV S img)) := by
  rcases loadE_cases S img with h0 | h0
  · cases hp : prsR (loadD S img) with
    | none => exact readImage_bad hD h himg ht h0 hp
    | some q => exact readImage_good hD h himg ht h0 q.1 q.2 hp
  · exact readImage_not hD h himg ht h0
section
variable {w : World} {d : Nat} {F : List Nat} {S : St}
/-- What Open answers, and what it leaves. -/
def Opened (d : Nat) (img log : ByteArray) (F : List Nat) (S' : St) (r : Nat) (L : LS) (w : World) (e : Ending) (w' : World) : Prop :=
  ∃ F', Disk w' d F' S' ∧ Only F w w' ∧ (∀ x ∈ F', x ∈ F ∨ w.heap.size ≤ x) ∧ (r ≠ 0 → e = .returned (.tuple #[.pointer none, .int .i64 (r : Int)])) ∧
    (r = 0 → ∃ g G', e = .returned (.tuple #[.pointer (some ⟨g, 0, none⟩), .int .i64 0]) ∧ Lg w' d g img log G' L ∧ (∀ x ∈ F', x ∉ G') ∧ ∀ x ∈ G', w.heap.size ≤ x)
theorem Lg.new (w : World) (d : Nat) (img log : ByteArray) : Lg (w.alloc (.cells #[.pointer (some ⟨d, 0, none⟩), .string img, .string log, .int .i64 0, .slice none 0 0, .slice none 0 0, .bool false] 55)) d w.heap.size img log [w.heap.size] L0 :=
  ⟨none, 0, none, 0, Bk.new _ _ _, Own.nil _ _, Es.nil _ _, by simp, (fun _ hx => nomatch hx), fun x hx => by simp at hx; subst hx; simp, Nat.zero_le _, Nat.zero_le _, Nat.zero_le _, fun _ hl => nomatch hl⟩
theorem open_nil (s : ByteArray) (w : World) : Calls Tryd.prog 9 #[.pointer none, .string s] w fun e w' => e = .returned (.tuple #[.pointer none, .int .i64 1]) ∧ w = w' := by
  go_enter Tryd.func9, Tryd.ntmps9
  go_wp2
  go_ret2
  exact ⟨rfl, rfl⟩
theorem open_bad (s : ByteArray) (w : World) (d : Nat) (hs : s.size < 1 ∨ 20 < s.size) : Calls Tryd.prog 9 #[.pointer (some ⟨d, 0, none⟩), .string s] w fun e w' => e = .returned (.tuple #[.pointer none, .int .i64 1]) ∧ w = w' := by
  by_cases h1 : s.size < 1
  · clear hs
    go_enter Tryd.func9, Tryd.ntmps9
    go_wp2
    go_ret2
    exact ⟨rfl, rfl⟩
  · have h2 : 20 < s.size := by omega
    clear hs
    go_enter Tryd.func9, Tryd.ntmps9
    go_wp2
    go_ret2
    exact ⟨rfl, rfl⟩
set_option maxHeartbeats 1600000 in
set_option maxRecDepth 100000 in
theorem open_rm (hD : Disk w d F S) (s : ByteArray) (hs1 : ¬ s.size < 1) (hs2 : ¬ 20 < s.size) (img log : ByteArray) (x1 : s ++ ⟨#[45, 105, 109, 103]⟩ = img) (x2 : s ++ ⟨#[45, 108, 111, 103]⟩ = log) (h1 : rmE S (tilde img) ≠ 0) :
    Calls Tryd.prog 9 #[.pointer (some ⟨d, 0, none⟩), .string s] w (Opened d img log F (opS S img log) (opE S img log) (opL S img log) w) := by
  have x3 : img ++ ⟨#[126]⟩ = tilde img := rfl
  have z1 : img.size ≤ maxLen := by rw [← x1]; rw [ByteArray.size_append]; show s.size + 4 ≤ _; unfold maxLen; omega
  have z5 : img.size ≤ 24 := by rw [← x1]; rw [ByteArray.size_append]; show s.size + 4 ≤ _; omega
  have z2 : log.size ≤ maxLen := by rw [← x2]; rw [ByteArray.size_append]; show s.size + 4 ≤ _; unfold maxLen; omega
  have z3 : (tilde img).size ≤ maxLen := by unfold tilde; rw [ByteArray.size_append, ← x1, ByteArray.size_append]; show s.size + 4 + 1 ≤ _; unfold maxLen; omega
  have HF := Lib.hid (fun (x : Nat) (hx : x ∈ F) => hD.lt hx)
  have HRM := Lib.hid (fun (W : World) (g : Nat) (o : Only [] w W) (h0 : W.cell? ⟨g, 0, none⟩ = some (.pointer (some ⟨d, 0, none⟩))) => lremove_any (hD.keep o) h0 (tilde img) z3)
  have e1 : opS S img log = rmS S (tilde img) := by unfold opS; rw [if_pos h1]
  have e2 : opE S img log = rmE S (tilde img) := by unfold opE; rw [if_pos h1]
  rw [e1, e2]
  have hne := nat_ne _ h1
  have h1' := Lib.hid h1
  generalize opL S img log = L at *
  generalize rmE S (tilde img) = r at *
  clear e1 e2 hD z1 z2 z3 h1
  go_enter Tryd.func9, Tryd.ntmps9
  have LN := Lib.hid (Lg.new w d img log)
  have n0 := LN.out.cells.1
  have n1 := LN.out.cells.2.1
  go_wp2_with (go_at_call 22; refine (HRM.out _ w.heap.size ((Only.refl [] w).alloc _) n0).mono ?_; clear HRM; rintro e w2 ⟨rfl, F2, D2, O2, B2⟩; have L2 := LN.out.only O2 (fun x hx hm => by have := HF.out x hm; simp at hx; omega); have O2' : Only F w w2 := (((Only.refl [] w).alloc _).mono (ss := F) (fun _ h => nomatch h)).trans O2 (fun x hx => .inl hx); have B2' : ∀ x ∈ F2, x ∈ F ∨ w.heap.size < x := fun x hx => (B2 x hx).imp id (fun h => by simp at h; omega))
  go_ret2
  exact ⟨F2, D2, O2', fun x hx => (B2' x hx).imp id Nat.le_of_lt, fun _ => rfl, fun h => absurd h h1'.out⟩
set_option maxHeartbeats 1600000 in
set_option maxRecDepth 100000 in
theorem open_img (hD : Disk w d F S) (s : ByteArray) (hs1 : ¬ s.size < 1) (hs2 : ¬ 20 < s.size) (ht : Tab w) (htF : 0 ∉ F) (img log : ByteArray) (x1 : s ++ ⟨#[45, 105, 109, 103]⟩ = img) (x2 : s ++ ⟨#[45, 108, 111, 103]⟩ = log) (h1 : rmE S (tilde img) = 0) (h2 : imgE (rmS S (tilde img)) img ≠ 0) :
    Calls Tryd.prog 9 #[.pointer (some ⟨d, 0, none⟩), .string s] w (Opened d img log F (opS S img log) (opE S img log) (opL S img log) w) := by
  have x3 : img ++ ⟨#[126]⟩ = tilde img := rfl
  have z1 : img.size ≤ maxLen := by rw [← x1]; rw [ByteArray.size_append]; show s.size + 4 ≤ _; unfold maxLen; omega
  have z5 : img.size ≤ 24 := by rw [← x1]; rw [ByteArray.size_append]; show s.size + 4 ≤ _; omega
  have z2 : log.size ≤ maxLen := by rw [← x2]; rw [ByteArray.size_append]; show s.size + 4 ≤ _; unfold maxLen; omega
  have z3 : (tilde img).size ≤ maxLen := by unfold tilde; rw [ByteArray.size_append, ← x1, ByteArray.size_append]; show s.size + 4 + 1 ≤ _; unfold maxLen; omega
  have HF := Lib.hid (fun (x : Nat) (hx : x ∈ F) => hD.lt hx)
  have HRM := Lib.hid (fun (W : World) (g : Nat) (o : Only [] w W) (h0 : W.cell? ⟨g, 0, none⟩ = some (.pointer (some ⟨d, 0, none⟩))) => lremove_any (hD.keep o) h0 (tilde img) z3)
  have e1 : opS S img log = rmS S (tilde img) := by unfold opS; rw [if_neg (by omega), if_pos h2]
  have e2 : opE S img log = imgE (rmS S (tilde img)) img := by unfold opE; rw [if_neg (by omega), if_pos h2]
  rw [e1, e2]
  have HT := Lib.hid (fun (W : World) (o : Only F w W) => ht.only o htF)
  rw [h1] at HRM
  generalize rmS S (tilde img) = S1 at *
  have HIM := Lib.hid (fun (W : World) (g : Nat) (F : List Nat) (G : List Nat) (D : Disk W d F S1) (L : Lg W d g img log G L0) (t : Tab W) => readImage_any D L z1 t)
  have hne := nat_ne _ h2
  have h1' := Lib.hid h2
  generalize opL S img log = L at *
  generalize imgE S1 img = r at *
  clear e1 e2 ht htF hD z1 z2 z3 h1 h2
  go_enter Tryd.func9, Tryd.ntmps9
  have LN := Lib.hid (Lg.new w d img log)
  have n0 := LN.out.cells.1
  have n1 := LN.out.cells.2.1
  go_wp2_with (first
    | (go_at_call 22; refine (HRM.out _ w.heap.size ((Only.refl [] w).alloc _) n0).mono ?_; clear HRM; rintro e w2 ⟨rfl, F2, D2, O2, B2⟩; have L2 := LN.out.only O2 (fun x hx hm => by have := HF.out x hm; simp at hx; omega); have O2' : Only F w w2 := (((Only.refl [] w).alloc _).mono (ss := F) (fun _ h => nomatch h)).trans O2 (fun x hx => .inl hx); have B2' : ∀ x ∈ F2, x ∈ F ∨ w.heap.size < x := fun x hx => (B2 x hx).imp id (fun h => by simp at h; omega))
    | (go_at_call 23; refine (HIM.out w2 w.heap.size F2 _ D2 L2 (HT.out w2 O2')).mono ?_; clear HIM; rintro e w3 ⟨rfl, G3, L3, O3, B3⟩; have D3 := D2.only O3 (fun x hx hm => by rcases B2' x hx with h | h; (have := HF.out x h; simp at hm; omega); (simp at hm; omega))))
  go_ret2
  exact ⟨F2, D3, O2'.trans O3 (fun x hx => by simp at hx; subst hx; exact .inr (Nat.le_refl _)), fun x hx => (B2' x hx).imp id Nat.le_of_lt, fun _ => rfl, fun h => absurd h h1'.out⟩
set_option maxHeartbeats 1600000 in
set_option maxRecDepth 100000 in
theorem open_log (hD : Disk w d F S) (s : ByteArray) (hs1 : ¬ s.size < 1) (hs2 : ¬ 20 < s.size) (ht : Tab w) (htF : 0 ∉ F) (img log : ByteArray) (x1 : s ++ ⟨#[45, 105, 109, 103]⟩ = img) (x2 : s ++ ⟨#[45, 108, 111, 103]⟩ = log) (h1 : rmE S (tilde img) = 0) (h2 : imgE (rmS S (tilde img)) img = 0) :
    Calls Tryd.prog 9 #[.pointer (some ⟨d, 0, none⟩), .string s] w (Opened d img log F (opS S img log) (opE S img log) (opL S img log) w) := by
  have x3 : img ++ ⟨#[126]⟩ = tilde img := rfl
  have z1 : img.size ≤ maxLen := by rw [← x1]; rw [ByteArray.size_append]; show s.size + 4 ≤ _; unfold maxLen; omega
  have z5 : img.size ≤ 24 := by rw [← x1]; rw [ByteArray.size_append]; show s.size + 4 ≤ _; omega
  have z2 : log.size ≤ maxLen := by rw [← x2]; rw [ByteArray.size_append]; show s.size + 4 ≤ _; unfold maxLen; omega
  have z3 : (tilde img).size ≤ maxLen := by unfold tilde; rw [ByteArray.size_append, ← x1, ByteArray.size_append]; show s.size + 4 + 1 ≤ _; unfold maxLen; omega
  have HF := Lib.hid (fun (x : Nat) (hx : x ∈ F) => hD.lt hx)
  have HRM := Lib.hid (fun (W : World) (g : Nat) (o : Only [] w W) (h0 : W.cell? ⟨g, 0, none⟩ = some (.pointer (some ⟨d, 0, none⟩))) => lremove_any (hD.keep o) h0 (tilde img) z3)
  have e1 : opS S img log = logS (rmS S (tilde img)) log (imgV (rmS S (tilde img)) img).1 := by unfold opS; rw [if_neg (by omega), if_neg (by omega)]
  have e2 : opE S img log = logE (rmS S (tilde img)) log (imgV (rmS S (tilde img)) img).1 := by unfold opE; rw [if_neg (by omega), if_neg (by omega)]
  have e3 : opL S img log = ⟨(imgV (rmS S (tilde img)) img).1, (imgV (rmS S (tilde img)) img).2, logL (rmS S (tilde img)) log (imgV (rmS S (tilde img)) img).1, false⟩ := rfl
  rw [e1, e2, e3]
  have HT := Lib.hid (fun (W : World) (o : Only F w W) => ht.only o htF)
  rw [h1] at HRM
  generalize rmS S (tilde img) = S1 at *
  have HIM := Lib.hid (fun (W : World) (g : Nat) (F : List Nat) (G : List Nat) (D : Disk W d F S1) (L : Lg W d g img log G L0) (t : Tab W) => readImage_any D L z1 t)
  rw [h2] at HIM
  generalize imgV S1 img = v at *
  have HLO := Lib.hid (fun (W : World) (g : Nat) (F : List Nat) (G : List Nat) (D : Disk W d F S1) (L : Lg W d g img log G ⟨v.1, v.2, [], false⟩) (hFG : ∀ x ∈ F, x ∉ G) (t : Tab W) => readLog_any D L hFG rfl z2 t)
  dsimp only at HLO
  generalize logS S1 log v.1 = S2 at *
  generalize logL S1 log v.1 = es at *
  have h3 := Nat.eq_zero_or_pos (logE S1 log v.1)
  generalize logE S1 log v.1 = r at *
  clear e1 e2 e3 ht htF hD z1 z2 z3 h1 h2
  rcases h3 with h3 | h3
  · subst h3
    go_enter Tryd.func9, Tryd.ntmps9
    have LN := Lib.hid (Lg.new w d img log)
    have n0 := LN.out.cells.1
    have n1 := LN.out.cells.2.1
    go_wp2_with (first
      | (go_at_call 22; refine (HRM.out _ w.heap.size ((Only.refl [] w).alloc _) n0).mono ?_; clear HRM; rintro e w2 ⟨rfl, F2, D2, O2, B2⟩; have L2 := LN.out.only O2 (fun x hx hm => by have := HF.out x hm; simp at hx; omega); have O2' : Only F w w2 := (((Only.refl [] w).alloc _).mono (ss := F) (fun _ h => nomatch h)).trans O2 (fun x hx => .inl hx); have B2' : ∀ x ∈ F2, x ∈ F ∨ w.heap.size < x := fun x hx => (B2 x hx).imp id (fun h => by simp at h; omega))
      | (go_at_call 23; refine (HIM.out w2 w.heap.size F2 _ D2 L2 (HT.out w2 O2')).mono ?_; clear HIM; rintro e w3 ⟨rfl, G3, L3, O3, B3⟩; have D3 := D2.only O3 (fun x hx hm => by rcases B2' x hx with h | h; (have := HF.out x h; simp at hm; omega); (simp at hm; omega)); have O3' : Only F w w3 := O2'.trans O3 (fun x hx => by simp at hx; subst hx; exact .inr (Nat.le_refl _)); have sz := O2.size; have FG3 : ∀ x ∈ F2, x ∉ G3 := (fun x hx hm => by have hl := D2.lt hx; rcases B3 x hm with h | h; (simp at h; subst h; rcases B2' _ hx with h | h; (have := HF.out _ h; omega); omega); omega); have G3f : ∀ x ∈ G3, w.heap.size ≤ x := (fun x hx => by rcases B3 x hx with h | h; (simp at h; omega); (simp at sz; omega)))
      | (go_at_call 24; refine (HLO.out w3 w.heap.size F2 G3 D3 L3 FG3 (HT.out w3 O3')).mono ?_; clear HLO; rintro e w4 ⟨rfl, F4, D4, O4, B4, R4⟩))
    go_ret2
    obtain ⟨G4, L4, FG4, G4f⟩ := R4 (by trivial)
    have sz3 := O3'.size
    refine ⟨F4, D4, O3'.trans O4 (fun x hx => ?_), fun x hx => ?_, fun h => absurd rfl h, fun _ => ⟨w.heap.size, G4, rfl, L4, FG4, fun x hx => ?_⟩⟩
    · rcases List.mem_append.1 hx with h | h
      · exact (B2' x h).imp id Nat.le_of_lt
      · exact .inr (G3f x h)
    · rcases B4 x hx with h | h
      · exact (B2' x h).imp id Nat.le_of_lt
      · exact .inr (by omega)
    · rcases G4f x hx with h | h
      · exact G3f x h
      · omega
  · have hne := nat_ne r (by omega)
    go_enter Tryd.func9, Tryd.ntmps9
    have LN := Lib.hid (Lg.new w d img log)
    have n0 := LN.out.cells.1
    have n1 := LN.out.cells.2.1
    go_wp2_with (first
      | (go_at_call 22; refine (HRM.out _ w.heap.size ((Only.refl [] w).alloc _) n0).mono ?_; clear HRM; rintro e w2 ⟨rfl, F2, D2, O2, B2⟩; have L2 := LN.out.only O2 (fun x hx hm => by have := HF.out x hm; simp at hx; omega); have O2' : Only F w w2 := (((Only.refl [] w).alloc _).mono (ss := F) (fun _ h => nomatch h)).trans O2 (fun x hx => .inl hx); have B2' : ∀ x ∈ F2, x ∈ F ∨ w.heap.size < x := fun x hx => (B2 x hx).imp id (fun h => by simp at h; omega))
      | (go_at_call 23; refine (HIM.out w2 w.heap.size F2 _ D2 L2 (HT.out w2 O2')).mono ?_; clear HIM; rintro e w3 ⟨rfl, G3, L3, O3, B3⟩; have D3 := D2.only O3 (fun x hx hm => by rcases B2' x hx with h | h; (have := HF.out x h; simp at hm; omega); (simp at hm; omega)); have O3' : Only F w w3 := O2'.trans O3 (fun x hx => by simp at hx; subst hx; exact .inr (Nat.le_refl _)); have sz := O2.size; have FG3 : ∀ x ∈ F2, x ∉ G3 := (fun x hx hm => by have hl := D2.lt hx; rcases B3 x hm with h | h; (simp at h; subst h; rcases B2' _ hx with h | h; (have := HF.out _ h; omega); omega); omega); have G3f : ∀ x ∈ G3, w.heap.size ≤ x := (fun x hx => by rcases B3 x hx with h | h; (simp at h; omega); (simp at sz; omega)))
      | (go_at_call 24; refine (HLO.out w3 w.heap.size F2 G3 D3 L3 FG3 (HT.out w3 O3')).mono ?_; clear HLO; rintro e w4 ⟨rfl, F4, D4, O4, B4, R4⟩))
    go_ret2
    have sz3 := O3'.size
    refine ⟨F4, D4, O3'.trans O4 (fun x hx => ?_), fun x hx => ?_, fun _ => rfl, fun h => absurd h (by omega)⟩
    · rcases List.mem_append.1 hx with h | h
      · exact (B2' x h).imp id Nat.le_of_lt
      · exact .inr (G3f x h)
    · rcases B4 x hx with h | h
      · exact (B2' x h).imp id Nat.le_of_lt
      · exact .inr (by omega)
/-- Open. -/
theorem open_any (hD : Disk w d F S) (s : ByteArray) (hs1 : ¬ s.size < 1) (hs2 : ¬ 20 < s.size) (ht : Tab w) (htF : 0 ∉ F) :
    Calls Tryd.prog 9 #[.pointer (some ⟨d, 0, none⟩), .string s] w (Opened d (imgName s) (logName s) F (opS S (imgName s) (logName s)) (opE S (imgName s) (logName s)) (opL S (imgName s) (logName s)) w) := by
  by_cases h1 : rmE S (tilde (imgName s)) = 0
  · by_cases h2 : imgE (rmS S (tilde (imgName s))) (imgName s) = 0
    · exact open_log hD s hs1 hs2 ht htF _ _ rfl rfl h1 h2
    · exact open_img hD s hs1 hs2 ht htF _ _ rfl rfl h1 h2
  · exact open_rm hD s hs1 hs2 _ _ rfl rfl h1
end
end Go.Proofs.YtblggoneifmoeaaDoor
