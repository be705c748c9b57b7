/-
  Texts of the seat, laid one behind the other: JTidy JLog JLog2 JOpen SStore SOpen.
-/
import Derived.Test.YtgnilldcfpgpaaaGreatDoorY20
import Derived.Test.YtgnilldcfpgpaaaGreatDoorY16
namespace Go.Proofs.YtgnilldcfpgpaaaGreatDoor
open Go.RowKit Go.Maps
section
variable {w : World} {d g : Nat} {img log : ByteArray} {F G : List Nat} {S : Dst} {L : LS}
set_option maxHeartbeats 800000 in
set_option maxRecDepth 100000 in
theorem tidy_a (hD : Disk w d F S) (h : Lg w d g img log G L) (hFG : ∀ x ∈ F, x ∉ G) (size whole : Nat) (h1 : whole < size) (h2 : errT S log (whole : Int) ≠ 0) :
    Calls Tryz.prog 181 #[.pointer (some ⟨g, 0, none⟩), .int .i64 (size : Int), .int .i64 (whole : Int)] w (Did d F (tidyS S log L.es size whole) (.int .i64 (tidyE S log L.es size whole : Nat)) w) := by
  obtain ⟨c0, _, c2, _, _, ⟨Ae, ce, c5, _⟩, _, hg⟩ := h.cells
  have hgF : g ∉ F := fun hm => hFG g hm h.g_mem
  obtain ⟨_, _, b3⟩ := h.bounds
  have HD := Lib.hid hD
  have e1 : tidyS S log L.es size whole = truncS S log (whole : Int) := by simp [tidyS, h1, h2]
  have e2 : tidyE S log L.es size whole = errT S log (whole : Int) := by simp [tidyE, h1, h2]
  rw [e1, e2]
  have HT := Lib.hid (fun (W : World) (o : Only [] w W) => trunc_any (hD.keep o) log (whole : Int))
  have hne := nat_ne _ h2
  generalize hrr : ((errT S log (whole : Int) : Nat) : Int) = r at *
  clear e1 e2 hrr h2
  clear hD h hFG
  go_enter Tryz.func181, Tryz.ntmps181
  go_wp2
  go_region_held3 (fun w' => w'.cell? ⟨g, 0, none⟩ = some (.pointer (some ⟨d, 0, none⟩)) ∧ w'.cell? ⟨g, 2, none⟩ = some (.string log)) (first | go_keep | exact ⟨a10, a12⟩)
    ((go_at_call 216; refine (HT.out w.drew (Only.refl [] w).drew).mono ?_; rintro e w1 ⟨rfl, hD1⟩; obtain ⟨F1, D1, O1, B1⟩ := chained (F := F) ((Only.refl [] w).drew.mono (fun _ h => nomatch h)) (fun _ h => .inl h) hD1; have a10 := O1.cellSome c0 hgF; have a12 := O1.cellSome c2 hgF; have a15 := O1.cellSome c5 hgF))
  go_wp2
  go_ret
  exact ⟨rfl, F1, D1, O1, B1⟩
set_option maxHeartbeats 800000 in
set_option maxRecDepth 100000 in
theorem tidy_b1 (hD : Disk w d F S) (h : Lg w d g img log G L) (hFG : ∀ x ∈ F, x ∉ G) (size whole : Nat) (h1 : whole < size) (h2 : errT S log (whole : Int) = 0) (h3 : errF (truncS S log (whole : Int)) log ≠ 0) :
    Calls Tryz.prog 181 #[.pointer (some ⟨g, 0, none⟩), .int .i64 (size : Int), .int .i64 (whole : Int)] w (Did d F (tidyS S log L.es size whole) (.int .i64 (tidyE S log L.es size whole : Nat)) w) := by
  obtain ⟨c0, _, c2, _, _, ⟨Ae, ce, c5, _⟩, _, hg⟩ := h.cells
  have hgF : g ∉ F := fun hm => hFG g hm h.g_mem
  obtain ⟨_, _, b3⟩ := h.bounds
  have HD := Lib.hid hD
  have e1 : tidyS S log L.es size whole = syncS (truncS S log (whole : Int)) log := by simp [tidyS, h1, h2, h3]
  have e2 : tidyE S log L.es size whole = errF (truncS S log (whole : Int)) log := by simp [tidyE, h1, h2, h3]
  rw [e1, e2]
  have HT := Lib.hid (fun (W : World) (o : Only [] w W) => trunc_any (hD.keep o) log (whole : Int))
  rw [h2] at HT
  generalize hS1 : truncS S log (whole : Int) = S1 at *
  have hne := nat_ne _ h3
  have HS := Lib.hid (fun (W : World) (F : List Nat) (hD : Disk W d F S1) => sync_one hD log)
  generalize hrr : ((errF S1 log : Nat) : Int) = r at *
  clear e1 e2 hrr h2 h3 hS1
  clear hD h hFG
  go_enter Tryz.func181, Tryz.ntmps181
  go_wp2
  go_region_held3 (fun w' => w'.cell? ⟨g, 0, none⟩ = some (.pointer (some ⟨d, 0, none⟩)) ∧ w'.cell? ⟨g, 2, none⟩ = some (.string log)) (first | go_keep | exact ⟨a10, a12⟩)
    ((go_at_call 216; refine (HT.out w.drew (Only.refl [] w).drew).mono ?_; rintro e w1 ⟨rfl, hD1⟩; obtain ⟨F1, D1, O1, B1⟩ := chained (F := F) ((Only.refl [] w).drew.mono (fun _ h => nomatch h)) (fun _ h => .inl h) hD1; have a10 := O1.cellSome c0 hgF; have a12 := O1.cellSome c2 hgF; have a15 := O1.cellSome c5 hgF))
  go_wp2
  go_region_held3 (fun w' => w'.cell? ⟨g, 0, none⟩ = some (.pointer (some ⟨d, 0, none⟩)) ∧ w'.cell? ⟨g, 2, none⟩ = some (.string log)) (first | go_keep | exact ⟨a20, a22⟩)
    ((go_at_call 159; refine (HS.out _ _ (D1.keep (Only.refl _ _).drew)).mono ?_; rintro e w2 ⟨rfl, hD2⟩; obtain ⟨F2, D2, O2, B2⟩ := chained (F := F) O1.drew B1 hD2; have a20 := O2.cellSome c0 hgF; have a22 := O2.cellSome c2 hgF; have a25 := O2.cellSome c5 hgF))
  go_wp2
  go_ret
  exact ⟨rfl, F2, D2, O2, B2⟩
set_option maxHeartbeats 800000 in
set_option maxRecDepth 100000 in
theorem tidy_b2 (hD : Disk w d F S) (h : Lg w d g img log G L) (hFG : ∀ x ∈ F, x ∉ G) (size whole : Nat) (h1 : whole < size) (h2 : errT S log (whole : Int) = 0) (h3 : errF (truncS S log (whole : Int)) log = 0) (h4 : L.es ≠ []) :
    Calls Tryz.prog 181 #[.pointer (some ⟨g, 0, none⟩), .int .i64 (size : Int), .int .i64 (whole : Int)] w (Did d F (tidyS S log L.es size whole) (.int .i64 (tidyE S log L.es size whole : Nat)) w) := by
  obtain ⟨c0, _, c2, _, _, ⟨Ae, ce, c5, _⟩, _, hg⟩ := h.cells
  have hgF : g ∉ F := fun hm => hFG g hm h.g_mem
  obtain ⟨_, _, b3⟩ := h.bounds
  have HD := Lib.hid hD
  have e1 : tidyS S log L.es size whole = syncS (truncS S log (whole : Int)) log := by simp [tidyS, h1, h2, h3, h4]
  have e2 : tidyE S log L.es size whole = 0 := by simp [tidyE, h1, h2, h3, h4]
  rw [e1, e2]
  have HT := Lib.hid (fun (W : World) (o : Only [] w W) => trunc_any (hD.keep o) log (whole : Int))
  rw [h2] at HT
  generalize hS1 : truncS S log (whole : Int) = S1 at *
  have HS := Lib.hid (fun (W : World) (F : List Nat) (hD : Disk W d F S1) => sync_one hD log)
  rw [h3] at HS
  generalize hS2 : syncS S1 log = S2 at *
  have h5 : 0 < L.es.length := List.length_pos_iff.2 h4
  obtain ⟨m, hm⟩ : ∃ m, L.es.length = m := ⟨_, rfl⟩
  rw [hm] at c5 h5 b3
  clear e1 e2 h2 h3 hS1 hS2 h4 hm
  clear hD h hFG
  go_enter Tryz.func181, Tryz.ntmps181
  go_wp2
  go_region_held3 (fun w' => w'.cell? ⟨g, 0, none⟩ = some (.pointer (some ⟨d, 0, none⟩)) ∧ w'.cell? ⟨g, 2, none⟩ = some (.string log)) (first | go_keep | exact ⟨a10, a12⟩)
    ((go_at_call 216; refine (HT.out w.drew (Only.refl [] w).drew).mono ?_; rintro e w1 ⟨rfl, hD1⟩; obtain ⟨F1, D1, O1, B1⟩ := chained (F := F) ((Only.refl [] w).drew.mono (fun _ h => nomatch h)) (fun _ h => .inl h) hD1; have a10 := O1.cellSome c0 hgF; have a12 := O1.cellSome c2 hgF; have a15 := O1.cellSome c5 hgF))
  go_wp2
  go_region_held3 (fun w' => w'.cell? ⟨g, 0, none⟩ = some (.pointer (some ⟨d, 0, none⟩)) ∧ w'.cell? ⟨g, 2, none⟩ = some (.string log)) (first | go_keep | exact ⟨a20, a22⟩)
    ((go_at_call 159; refine (HS.out _ _ (D1.keep (Only.refl _ _).drew)).mono ?_; rintro e w2 ⟨rfl, hD2⟩; obtain ⟨F2, D2, O2, B2⟩ := chained (F := F) O1.drew B1 hD2; have a20 := O2.cellSome c0 hgF; have a22 := O2.cellSome c2 hgF; have a25 := O2.cellSome c5 hgF))
  go_wp2
  go_ret
  exact ⟨rfl, F2, D2, O2, B2⟩
set_option maxHeartbeats 800000 in
set_option maxRecDepth 100000 in
theorem tidy_b3 (hD : Disk w d F S) (h : Lg w d g img log G L) (hFG : ∀ x ∈ F, x ∉ G) (size whole : Nat) (h1 : whole < size) (h2 : errT S log (whole : Int) = 0) (h3 : errF (truncS S log (whole : Int)) log = 0) (h4 : L.es = []) :
    Calls Tryz.prog 181 #[.pointer (some ⟨g, 0, none⟩), .int .i64 (size : Int), .int .i64 (whole : Int)] w (Did d F (tidyS S log L.es size whole) (.int .i64 (tidyE S log L.es size whole : Nat)) w) := by
  obtain ⟨c0, _, c2, _, _, ⟨Ae, ce, c5, _⟩, _, hg⟩ := h.cells
  have hgF : g ∉ F := fun hm => hFG g hm h.g_mem
  obtain ⟨_, _, b3⟩ := h.bounds
  have HD := Lib.hid hD
  have e1 : tidyS S log L.es size whole = removeS (syncS (truncS S log (whole : Int)) log) log := by simp [tidyS, h1, h2, h3, h4]
  have e2 : tidyE S log L.es size whole = errF (syncS (truncS S log (whole : Int)) log) log := by simp [tidyE, h1, h2, h3, h4]
  rw [e1, e2]
  have HT := Lib.hid (fun (W : World) (o : Only [] w W) => trunc_any (hD.keep o) log (whole : Int))
  rw [h2] at HT
  generalize hS1 : truncS S log (whole : Int) = S1 at *
  have HS := Lib.hid (fun (W : World) (F : List Nat) (hD : Disk W d F S1) => sync_one hD log)
  rw [h3] at HS
  generalize hS2 : syncS S1 log = S2 at *
  have h5 : L.es.length = 0 := by rw [h4]; rfl
  obtain ⟨m, hm⟩ : ∃ m, L.es.length = m := ⟨_, rfl⟩
  rw [hm] at c5 h5 b3
  subst h5
  clear e1 e2 h2 h3 hS1 hS2 h4 hm
  clear hD h hFG
  go_enter Tryz.func181, Tryz.ntmps181
  go_wp2
  go_region_held3 (fun w' => w'.cell? ⟨g, 0, none⟩ = some (.pointer (some ⟨d, 0, none⟩)) ∧ w'.cell? ⟨g, 2, none⟩ = some (.string log)) (first | go_keep | exact ⟨a10, a12⟩)
    ((go_at_call 216; refine (HT.out w.drew (Only.refl [] w).drew).mono ?_; rintro e w1 ⟨rfl, hD1⟩; obtain ⟨F1, D1, O1, B1⟩ := chained (F := F) ((Only.refl [] w).drew.mono (fun _ h => nomatch h)) (fun _ h => .inl h) hD1; have a10 := O1.cellSome c0 hgF; have a12 := O1.cellSome c2 hgF; have a15 := O1.cellSome c5 hgF))
  go_wp2
  go_region_held3 (fun w' => w'.cell? ⟨g, 0, none⟩ = some (.pointer (some ⟨d, 0, none⟩)) ∧ w'.cell? ⟨g, 2, none⟩ = some (.string log)) (first | go_keep | exact ⟨a20, a22⟩)
    ((go_at_call 159; refine (HS.out _ _ (D1.keep (Only.refl _ _).drew)).mono ?_; rintro e w2 ⟨rfl, hD2⟩; obtain ⟨F2, D2, O2, B2⟩ := chained (F := F) O1.drew B1 hD2; have a20 := O2.cellSome c0 hgF; have a22 := O2.cellSome c2 hgF; have a25 := O2.cellSome c5 hgF))
  go_wp2
  go_region_held3 (fun w' => w'.cell? ⟨g, 0, none⟩ = some (.pointer (some ⟨d, 0, none⟩)) ∧ w'.cell? ⟨g, 2, none⟩ = some (.string log)) (first | go_keep | exact ⟨a30, a32⟩)
    ((go_at_call 176; refine (remove_one (D2.keep (Only.refl _ _).drew) log).mono ?_; rintro e w3 ⟨rfl, hD3⟩; obtain ⟨F3, D3, O3, B3⟩ := chained (F := F) O2.drew B2 hD3; have a30 := O3.cellSome c0 hgF; have a32 := O3.cellSome c2 hgF; have a35 := O3.cellSome c5 hgF))
  go_wp2
  go_ret
  exact ⟨rfl, F3, D3, O3, B3⟩
set_option maxHeartbeats 800000 in
set_option maxRecDepth 100000 in
theorem tidy_c1 (hD : Disk w d F S) (h : Lg w d g img log G L) (hFG : ∀ x ∈ F, x ∉ G) (hlog : log.size ≤ maxLen) (size whole : Nat) (h1 : ¬ whole < size) (h4 : L.es ≠ []) (h6 : lastsB S log whole = false) (h3 : errF S log ≠ 0) :
    Calls Tryz.prog 181 #[.pointer (some ⟨g, 0, none⟩), .int .i64 (size : Int), .int .i64 (whole : Int)] w (Did d F (tidyS S log L.es size whole) (.int .i64 (tidyE S log L.es size whole : Nat)) w) := by
  obtain ⟨c0, _, c2, _, _, ⟨Ae, ce, c5, _⟩, _, hg⟩ := h.cells
  have hgF : g ∉ F := fun hm => hFG g hm h.g_mem
  obtain ⟨_, _, b3⟩ := h.bounds
  have HD := Lib.hid hD
  have e1 : tidyS S log L.es size whole = syncS S log := by simp [tidyS, h1, h3, h4, h6]
  have e2 : tidyE S log L.es size whole = errF S log := by simp [tidyE, h1, h3, h4, h6]
  rw [e1, e2]
  have HLA := Lib.hid (lasts_any hD h hlog whole)
  rw [h6] at HLA
  have hne := nat_ne _ h3
  have HS := Lib.hid (fun (W : World) (F : List Nat) (hD : Disk W d F S) => sync_one hD log)
  generalize hrr : ((errF S log : Nat) : Int) = r at *
  have h5 : 0 < L.es.length := List.length_pos_iff.2 h4
  obtain ⟨m, hm⟩ : ∃ m, L.es.length = m := ⟨_, rfl⟩
  rw [hm] at c5 h5 b3
  clear e1 e2 hrr h3 h4 h6 hm
  clear hD h hFG
  go_enter Tryz.func181, Tryz.ntmps181
  go_wp2_with (go_at_call 217; refine HLA.out.mono ?_; clear HLA; rintro e w1 ⟨rfl, o1⟩; have O1 := o1.mono (ss := F) (fun _ h => nomatch h); have B1 : ∀ x ∈ F, x ∈ F ∨ w.heap.size ≤ x := fun x hx => .inl hx; have D1 := HD.out.keep o1; have a10 := O1.cellSome c0 hgF; have a12 := O1.cellSome c2 hgF; have a15 := O1.cellSome c5 hgF)
  go_region_held3 (fun w' => w'.cell? ⟨g, 0, none⟩ = some (.pointer (some ⟨d, 0, none⟩)) ∧ w'.cell? ⟨g, 2, none⟩ = some (.string log)) (first | go_keep | exact ⟨a20, a22⟩)
    ((go_at_call 159; refine (HS.out _ _ (D1.keep (Only.refl _ _).drew)).mono ?_; rintro e w2 ⟨rfl, hD2⟩; obtain ⟨F2, D2, O2, B2⟩ := chained (F := F) O1.drew B1 hD2; have a20 := O2.cellSome c0 hgF; have a22 := O2.cellSome c2 hgF; have a25 := O2.cellSome c5 hgF))
  go_wp2
  go_ret
  exact ⟨rfl, F2, D2, O2, B2⟩
set_option maxHeartbeats 800000 in
set_option maxRecDepth 100000 in
theorem tidy_c2 (hD : Disk w d F S) (h : Lg w d g img log G L) (hFG : ∀ x ∈ F, x ∉ G) (hlog : log.size ≤ maxLen) (size whole : Nat) (h1 : ¬ whole < size) (h4 : L.es ≠ []) (h6 : lastsB S log whole = false) (h3 : errF S log = 0) :
    Calls Tryz.prog 181 #[.pointer (some ⟨g, 0, none⟩), .int .i64 (size : Int), .int .i64 (whole : Int)] w (Did d F (tidyS S log L.es size whole) (.int .i64 (tidyE S log L.es size whole : Nat)) w) := by
  obtain ⟨c0, _, c2, _, _, ⟨Ae, ce, c5, _⟩, _, hg⟩ := h.cells
  have hgF : g ∉ F := fun hm => hFG g hm h.g_mem
  obtain ⟨_, _, b3⟩ := h.bounds
  have HD := Lib.hid hD
  have e1 : tidyS S log L.es size whole = syncS S log := by simp [tidyS, h1, h3, h4, h6]
  have e2 : tidyE S log L.es size whole = 0 := by simp [tidyE, h1, h3, h4, h6]
  rw [e1, e2]
  have HLA := Lib.hid (lasts_any hD h hlog whole)
  rw [h6] at HLA
  have HS := Lib.hid (fun (W : World) (F : List Nat) (hD : Disk W d F S) => sync_one hD log)
  rw [h3] at HS
  have h5 : 0 < L.es.length := List.length_pos_iff.2 h4
  obtain ⟨m, hm⟩ : ∃ m, L.es.length = m := ⟨_, rfl⟩
  rw [hm] at c5 h5 b3
  clear e1 e2 h3 h4 h6 hm
  clear hD h hFG
  go_enter Tryz.func181, Tryz.ntmps181
  go_wp2_with (go_at_call 217; refine HLA.out.mono ?_; clear HLA; rintro e w1 ⟨rfl, o1⟩; have O1 := o1.mono (ss := F) (fun _ h => nomatch h); have B1 : ∀ x ∈ F, x ∈ F ∨ w.heap.size ≤ x := fun x hx => .inl hx; have D1 := HD.out.keep o1; have a10 := O1.cellSome c0 hgF; have a12 := O1.cellSome c2 hgF; have a15 := O1.cellSome c5 hgF)
  go_region_held3 (fun w' => w'.cell? ⟨g, 0, none⟩ = some (.pointer (some ⟨d, 0, none⟩)) ∧ w'.cell? ⟨g, 2, none⟩ = some (.string log)) (first | go_keep | exact ⟨a20, a22⟩)
    ((go_at_call 159; refine (HS.out _ _ (D1.keep (Only.refl _ _).drew)).mono ?_; rintro e w2 ⟨rfl, hD2⟩; obtain ⟨F2, D2, O2, B2⟩ := chained (F := F) O1.drew B1 hD2; have a20 := O2.cellSome c0 hgF; have a22 := O2.cellSome c2 hgF; have a25 := O2.cellSome c5 hgF))
  go_wp2
  go_ret
  exact ⟨rfl, F2, D2, O2, B2⟩
set_option maxHeartbeats 800000 in
set_option maxRecDepth 100000 in
theorem tidy_c3 (hD : Disk w d F S) (h : Lg w d g img log G L) (hFG : ∀ x ∈ F, x ∉ G) (hlog : log.size ≤ maxLen) (size whole : Nat) (h1 : ¬ whole < size) (h4 : L.es ≠ []) (h6 : lastsB S log whole = true) :
    Calls Tryz.prog 181 #[.pointer (some ⟨g, 0, none⟩), .int .i64 (size : Int), .int .i64 (whole : Int)] w (Did d F (tidyS S log L.es size whole) (.int .i64 (tidyE S log L.es size whole : Nat)) w) := by
  obtain ⟨c0, _, c2, _, _, ⟨Ae, ce, c5, _⟩, _, hg⟩ := h.cells
  have hgF : g ∉ F := fun hm => hFG g hm h.g_mem
  obtain ⟨_, _, b3⟩ := h.bounds
  have HD := Lib.hid hD
  have e1 : tidyS S log L.es size whole = S := by simp [tidyS, h1, h4, h6]
  have e2 : tidyE S log L.es size whole = 0 := by simp [tidyE, h1, h4, h6]
  rw [e1, e2]
  have HLA := Lib.hid (lasts_any hD h hlog whole)
  rw [h6] at HLA
  have h5 : 0 < L.es.length := List.length_pos_iff.2 h4
  obtain ⟨m, hm⟩ : ∃ m, L.es.length = m := ⟨_, rfl⟩
  rw [hm] at c5 h5 b3
  clear e1 e2 h4 h6 hm
  clear hD h hFG
  go_enter Tryz.func181, Tryz.ntmps181
  go_wp2_with (go_at_call 217; refine HLA.out.mono ?_; clear HLA; rintro e w1 ⟨rfl, o1⟩; have O1 := o1.mono (ss := F) (fun _ h => nomatch h); have B1 : ∀ x ∈ F, x ∈ F ∨ w.heap.size ≤ x := fun x hx => .inl hx; have D1 := HD.out.keep o1; have a10 := O1.cellSome c0 hgF; have a12 := O1.cellSome c2 hgF; have a15 := O1.cellSome c5 hgF)
  go_ret
  exact ⟨rfl, F, D1, O1, B1⟩
set_option maxHeartbeats 800000 in
set_option maxRecDepth 100000 in
theorem tidy_c4 (hD : Disk w d F S) (h : Lg w d g img log G L) (hFG : ∀ x ∈ F, x ∉ G) (size whole : Nat) (h1 : ¬ whole < size) (h4 : L.es = []) :
    Calls Tryz.prog 181 #[.pointer (some ⟨g, 0, none⟩), .int .i64 (size : Int), .int .i64 (whole : Int)] w (Did d F (tidyS S log L.es size whole) (.int .i64 (tidyE S log L.es size whole : Nat)) w) := by
  obtain ⟨c0, _, c2, _, _, ⟨Ae, ce, c5, _⟩, _, hg⟩ := h.cells
  have hgF : g ∉ F := fun hm => hFG g hm h.g_mem
  obtain ⟨_, _, b3⟩ := h.bounds
  have HD := Lib.hid hD
  have e1 : tidyS S log L.es size whole = removeS S log := by simp [tidyS, h1, h4]
  have e2 : tidyE S log L.es size whole = errF S log := by simp [tidyE, h1, h4]
  rw [e1, e2]
  have h5 : L.es.length = 0 := by rw [h4]; rfl
  rw [h5] at c5
  clear e1 e2 h4 h5 b3
  clear hD h hFG
  go_enter Tryz.func181, Tryz.ntmps181
  go_wp2
  go_region_held3 (fun w' => w'.cell? ⟨g, 0, none⟩ = some (.pointer (some ⟨d, 0, none⟩)) ∧ w'.cell? ⟨g, 2, none⟩ = some (.string log)) (first | go_keep | exact ⟨a10, a12⟩)
    ((go_at_call 176; refine (remove_one (HD.out.keep (Only.refl _ _).drew) log).mono ?_; rintro e w1 ⟨rfl, hD1⟩; obtain ⟨F1, D1, O1, B1⟩ := chained (F := F) ((Only.refl [] w).drew.mono (fun _ h => nomatch h)) (fun _ h => .inl h) hD1; have a10 := O1.cellSome c0 hgF; have a12 := O1.cellSome c2 hgF; have a15 := O1.cellSome c5 hgF))
  go_wp2
  go_ret
  exact ⟨rfl, F1, D1, O1, B1⟩
theorem tidy_any (hD : Disk w d F S) (h : Lg w d g img log G L) (hFG : ∀ x ∈ F, x ∉ G) (hlog : log.size ≤ maxLen) (size whole : Nat) :
    Calls Tryz.prog 181 #[.pointer (some ⟨g, 0, none⟩), .int .i64 (size : Int), .int .i64 (whole : Int)] w (Did d F (tidyS S log L.es size whole) (.int .i64 (tidyE S log L.es size whole : Nat)) w) := by
  by_cases h1 : whole < size
  · by_cases h2 : errT S log (whole : Int) = 0
    · by_cases h3 : errF (truncS S log (whole : Int)) log = 0
      · by_cases h4 : L.es = []
        · exact tidy_b3 hD h hFG size whole h1 h2 h3 h4
        · exact tidy_b2 hD h hFG size whole h1 h2 h3 h4
      · exact tidy_b1 hD h hFG size whole h1 h2 h3
    · exact tidy_a hD h hFG size whole h1 h2
  · by_cases h4 : L.es = []
    · exact tidy_c4 hD h hFG size whole h1 h4
    · cases h6 : lastsB S log whole
      · by_cases h3 : errF S log = 0
        · exact tidy_c2 hD h hFG hlog size whole h1 h4 h6 h3
        · exact tidy_c1 hD h hFG hlog size whole h1 h4 h6 h3
      · exact tidy_c3 hD h hFG hlog size whole h1 h4 h6
end
end Go.Proofs.YtgnilldcfpgpaaaGreatDoor
namespace Go.Proofs.YtgnilldcfpgpaaaGreatDoor
open Go.RowKit Go.Maps
section
variable {w : World} {d g : Nat} {img log : ByteArray} {F G : List Nat} {S : Dst} {L : LS} {T : Took}
def LogRead (d g : Nat) (img log : ByteArray) (F G : List Nat) (S' : Dst) (r : Nat) (L' : LS) (w : World) (e : Ending) (w' : World) : Prop :=
  e = .returned (.int .i64 (r : Int)) ∧ ∃ F', Disk w' d F' S' ∧ Only (F ++ G) w w' ∧ (∀ x ∈ F', x ∈ F ∨ w.heap.size ≤ x) ∧ (r = 0 → ∃ G', Lg w' d g img log G' L' ∧ (∀ x ∈ F', x ∉ G') ∧ ∀ x ∈ G', x ∈ G ∨ w.heap.size ≤ x)
theorem lg_take {G' : List Nat} {Ae : Option Addr} {ce : Nat} (h : Lg w d g img log G L) (h2 : Es G' w Ae T.2.length ce T.2) (h4 : ∀ x ∈ G', x < w.heap.size) (h5 : T.2.length ≤ 1099511627776 ∧ ∀ l ∈ T.2, l.length ≤ 1073741824) :
    Lg (w.setCell ⟨g, 5, none⟩ (.slice Ae T.2.length ce)) d g img log (G ++ G') { L with es := T.2 } := by
  obtain ⟨Ad, cd, Ae0, ce0, g1, g2, g3, g7, g8, g9, g10⟩ := h
  obtain ⟨k1, vs, k2, k3, k4⟩ := h2
  refine ⟨Ad, cd, Ae, ce, by simpa using g1.set 5 (.slice Ae T.2.length ce), g2.setFar (own_off g2 g1 (by decide)) _, ⟨rfl, vs, k2.setFar (own_off k2 g1 (by decide)) _, fun x hx => by simp [k3 x hx], fun i l hi => ?_⟩, by simp [g7], fun x hx => by simp [g8 x hx], fun x hx => ?_, g10.1, g10.2.1, h5⟩
  · obtain ⟨Ai, ci, j1, j2, j3⟩ := k4 i l hi
    exact ⟨Ai, ci, j1, j2.setFar (own_off j2 g1 (by decide)) _, fun x hx => by simp [j3 x hx]⟩
  · have hs6 : (w.setCell ⟨g, 5, none⟩ (.slice Ae T.2.length ce)).heap.size = w.heap.size := by simp [World.setCell]
    rw [hs6]
    rcases List.mem_append.1 hx with hy | hy
    · exact g9 x hy
    · exact h4 x hy
set_option maxHeartbeats 800000 in
set_option maxRecDepth 100000 in
theorem readLog_none (hD : Disk w d F S) (h : Lg w d g img log G L) (hFG : ∀ x ∈ F, x ∉ G) (hes : L.es = []) (hlog : log.size ≤ maxLen) (h0 : readE S log = 7) :
    Calls Tryz.prog 121 #[.pointer (some ⟨g, 0, none⟩)] w (LogRead d g img log F G (logS S log L.base) (logE S log L.base) { L with es := logL S log L.base } w) := by
  obtain ⟨c0, _, c2, c3, _, _, _, hg⟩ := h.cells
  have e1 : logS S log L.base = S := by unfold logS; rw [if_pos (by omega)]
  have e2 : logE S log L.base = 0 := by unfold logE; rw [if_pos (by omega)]
  have e3 : { L with es := logL S log L.base } = L := by
    have : logL S log L.base = [] := by unfold logL; rw [if_pos (by omega)]
    rw [this, ← hes]
  rw [e1, e2, e3]
  have HR := Lib.hid (fun (W : World) (o : Only [] w W) => read_any (hD.keep o) log hlog)
  rw [h0] at HR
  have fin : Hid (∀ (w1 : World), Only [] w w1 → LogRead d g img log F G S 0 L w (.returned (.int .i64 0)) w1) := fun w1 o =>
    ⟨rfl, F, hD.keep o, o.mono (fun _ h => nomatch h), fun _ hx => .inl hx, fun _ => ⟨G, h.keep o, hFG, fun _ hx => .inl hx⟩⟩
  clear e1 e2 e3 h0 hD h hFG hes
  go_enter Tryz.func121, Tryz.ntmps121
  go_wp2
  go_region_held3 (fun w' => w'.cell? ⟨g, 0, none⟩ = some (.pointer (some ⟨d, 0, none⟩)) ∧ w'.cell? ⟨g, 2, none⟩ = some (.string log)) (first | go_keep | exact ⟨k0, k2⟩)
    ((go_at_call 175; refine (HR.out _ (Only.refl [] w).drew).mono ?_; clear HR; rintro e w1 ⟨A1, c1, rfl, V1, O1, B1⟩; have O1' := (Only.refl [] w).drew.then O1; have k0 := O1'.cellSome c0 (fun hm => nomatch hm); have k2 := O1'.cellSome c2 (fun hm => nomatch hm)))
  go_wp2
  go_ret
  exact fin.out w1 O1'
theorem TkJ.new (W : World) (base : Nat) (hb : base ≤ 1099511627776) : TkJ (W.alloc (.cells #[.int .i64 (base : Int), .int .i64 0, .slice none 0 0] 241)) W.heap.size base [W.heap.size] (0, []) :=
  ⟨none, 0, Bk.new _ _ _, Es.nil _ _, by simp, fun x hx => by simp at hx; subst hx; simp, hb, Nat.zero_le _, Nat.zero_le _, fun _ hl => nomatch hl⟩
set_option maxHeartbeats 1600000 in
set_option maxRecDepth 100000 in
theorem readLog_bad (hD : Disk w d F S) (h : Lg w d g img log G L) (hlog : log.size ≤ maxLen) (ht : Tab w) (h0 : readE S log = 0) (h1 : logged L.base (readD S log) = none) :
    Calls Tryz.prog 121 #[.pointer (some ⟨g, 0, none⟩)] w (LogRead d g img log F G (logS S log L.base) (logE S log L.base) { L with es := logL S log L.base } w) := by
  obtain ⟨c0, _, c2, c3, _, _, _, hg⟩ := h.cells
  obtain ⟨b1, _, _⟩ := h.bounds
  have e1 : logS S log L.base = S := by unfold logS; rw [if_neg (by omega), h1]
  have e2 : logE S log L.base = 3 := by unfold logE; rw [if_neg (by omega), h1]
  rw [e1, e2]
  generalize ({ L with es := logL S log L.base } : LS) = L' at *
  have hsm := readD_small hD log
  have HR := Lib.hid (fun (W : World) (o : Only [] w W) => read_any (hD.keep o) log hlog)
  rw [h0] at HR
  obtain ⟨b, hb⟩ : ∃ b, readD S log = b := ⟨_, rfl⟩
  rw [hb] at HR hsm h1
  have h2 : takes L.base (0, []) (scan b).1 = none := by
    unfold logged at h1
    simpa using h1
  have HT := Lib.hid (fun (W : World) (t : Nat) (G : List Nat) (A : Option Addr) (c : Nat) (hT : TkJ W t L.base G (0, [])) (hs : Sl W A b.length (bvs b)) (ht : Tab W) (hc : b.length ≤ c) => tell_any hT A b.length c b hs ht hc hsm)
  rw [h2] at HT
  have HTab := Lib.hid (fun (W : World) (o : Only [] w W) => ht.keep o)
  have HNEW := Lib.hid (fun (W : World) => TkJ.new W L.base b1)
  have fin : Hid (∀ (w1 : World), Only [] w w1 → LogRead d g img log F G S 3 L' w (.returned (.int .i64 3)) w1) := fun w1 o =>
    ⟨rfl, F, hD.keep o, o.mono (fun _ h => nomatch h), fun _ hx => .inl hx, fun h => absurd h (by omega)⟩
  clear e1 e2 h0 h1 h2 hD h ht hb b1
  go_enter Tryz.func121, Tryz.ntmps121
  go_wp2
  go_region_held3 (fun w' => w'.cell? ⟨g, 0, none⟩ = some (.pointer (some ⟨d, 0, none⟩)) ∧ w'.cell? ⟨g, 2, none⟩ = some (.string log)) (first | go_keep | exact ⟨k0, k2⟩)
    ((go_at_call 175; refine (HR.out _ (Only.refl [] w).drew).mono ?_; clear HR; rintro e w1 ⟨A1, c1, rfl, V1, O1, B1⟩; have O1' := (Only.refl [] w).drew.then O1; have k0 := O1'.cellSome c0 (fun hm => nomatch hm); have k2 := O1'.cellSome c2 (fun hm => nomatch hm); have k3 := O1'.cellSome c3 (fun hm => nomatch hm)))
  go_wp2_with (go_at_call 179; refine (HT.out _ _ _ A1 c1 (HNEW.out w1) (V1.sl.alloc _) (HTab.out _ (O1'.alloc _)) V1.cap).mono ?_; clear HT; rintro e w2 ⟨rfl, O2⟩)
  go_ret
  exact fin.out w2 ((O1'.alloc _).trans O2 (fun x hx => by simp at hx; subst hx; exact .inr O1'.size))
end
end Go.Proofs.YtgnilldcfpgpaaaGreatDoor
namespace Go.Proofs.YtgnilldcfpgpaaaGreatDoor
open Go.RowKit Go.Maps
section
variable {w : World} {d g : Nat} {img log : ByteArray} {F G : List Nat} {S : Dst} {L : LS} {T : Took}
theorem log_pre {w2 : World} {G' : List Nat} {Ae : Option Addr} {ce : Nat} (hD : Disk w d F S) (h : Lg w d g img log G L) (hFG : ∀ x ∈ F, x ∉ G) (o : Only [] w w2) (h2 : Es G' w2 Ae T.2.length ce T.2) (h4 : ∀ x ∈ G', x < w2.heap.size) (h5 : T.2.length ≤ 1099511627776 ∧ ∀ l ∈ T.2, l.length ≤ 1073741824) (hf : ∀ x ∈ G', w.heap.size ≤ x) :
    Disk (w2.setCell ⟨g, 5, none⟩ (.slice Ae T.2.length ce)) d F S ∧ Lg (w2.setCell ⟨g, 5, none⟩ (.slice Ae T.2.length ce)) d g img log (G ++ G') { L with es := T.2 } ∧ (∀ x ∈ F, x ∉ G ++ G') ∧ Only [g] w (w2.setCell ⟨g, 5, none⟩ (.slice Ae T.2.length ce)) := by
  have o6 : Only [g] w (w2.setCell ⟨g, 5, none⟩ (.slice Ae T.2.length ce)) := (o.mono (ss := [g]) (fun _ h => nomatch h)).setCell (.inl (by simp)) _
  have hgF : g ∉ F := fun hm => hFG g hm h.g_mem
  refine ⟨hD.only o6 (fun x hx hm => by simp at hm; subst hm; exact hgF hx), lg_take (h.keep o) h2 h4 h5, fun x hx hm => ?_, o6⟩
  rcases List.mem_append.1 hm with hy | hy
  · exact hFG x hx hy
  · have := hf x hy; have := hD.lt hx; omega
theorem log_fin {w3 w4 : World} {G3 F4 : List Nat} {S' : Dst} {r : Nat} {L' : LS} (L3 : Lg w3 d g img log G3 L') (hFG : ∀ x ∈ F, x ∉ G3) (o3 : Only [g] w w3) (hg : g ∈ G) (hf : ∀ x ∈ G3, x ∈ G ∨ w.heap.size ≤ x)
    (D4 : Disk w4 d F4 S') (O4 : Only F w3 w4) (B4 : ∀ x ∈ F4, x ∈ F ∨ w3.heap.size ≤ x) : LogRead d g img log F G S' r L' w (.returned (.int .i64 (r : Int))) w4 := by
  have h3 := o3.size
  refine ⟨rfl, F4, D4, (o3.mono (ss := F ++ G) (fun x hx => .inl (by simp at hx; subst hx; simp [hg]))).trans O4 (fun x hx => .inl (by simp [hx])), fun x hx => ?_, fun _ => ⟨G3, L3.only O4 (fun x hx hm => hFG x hm hx), fun x hx hm => ?_, hf⟩⟩
  · rcases B4 x hx with hy | hy
    · exact .inl hy
    · exact .inr (by omega)
  · rcases B4 x hx with hy | hy
    · exact hFG x hy hm
    · have := L3.lt hm; omega
set_option maxHeartbeats 1600000 in
set_option maxRecDepth 100000 in
theorem readLog_good (hD : Disk w d F S) (h : Lg w d g img log G L) (hFG : ∀ x ∈ F, x ∉ G) (hlog : log.size ≤ maxLen) (ht : Tab w) (h0 : readE S log = 0) (es : List (List UInt8)) (h1 : logged L.base (readD S log) = some es) :
    Calls Tryz.prog 121 #[.pointer (some ⟨g, 0, none⟩)] w (LogRead d g img log F G (logS S log L.base) (logE S log L.base) { L with es := logL S log L.base } w) := by
  obtain ⟨c0, _, c2, c3, _, ⟨Ao, co, c5, _⟩, _, hg⟩ := h.cells
  obtain ⟨b1, _, _⟩ := h.bounds
  have e1 : logS S log L.base = tidyS S log es (readD S log).length (scan (readD S log)).2 := by unfold logS; rw [if_neg (by omega), h1]
  have e2 : logE S log L.base = tidyE S log es (readD S log).length (scan (readD S log)).2 := by unfold logE; rw [if_neg (by omega), h1]
  have e3 : logL S log L.base = es := by unfold logL; rw [if_neg (by omega), h1]; rfl
  rw [e1, e2, e3]
  have hsm := readD_small hD log
  have HR := Lib.hid (fun (W : World) (o : Only [] w W) => read_any (hD.keep o) log hlog)
  rw [h0] at HR
  obtain ⟨b, hb⟩ : ∃ b, readD S log = b := ⟨_, rfl⟩
  rw [hb] at HR hsm h1 ⊢
  obtain ⟨T, h2, h3⟩ : ∃ T : Took, takes L.base (0, []) (scan b).1 = some T ∧ T.2 = es := by
    unfold logged at h1
    cases ht : takes L.base (0, []) (scan b).1 with
    | none => rw [ht] at h1; cases h1
    | some T => rw [ht] at h1; exact ⟨T, rfl, by simpa using h1⟩
  subst h3
  have HT := Lib.hid (fun (W : World) (t : Nat) (G : List Nat) (A : Option Addr) (c : Nat) (hT : TkJ W t L.base G (0, [])) (hs : Sl W A b.length (bvs b)) (ht : Tab W) (hc : b.length ≤ c) => tell_any hT A b.length c b hs ht hc hsm)
  rw [h2] at HT
  have HTab := Lib.hid (fun (W : World) (o : Only [] w W) => ht.keep o)
  have HNEW := Lib.hid (fun (W : World) => TkJ.new W L.base b1)
  have HTD := Lib.hid (fun (W : World) (G3 : List Nat) (D3 : Disk W d F S) (L3 : Lg W d g img log G3 { L with es := T.2 }) (hFG : ∀ x ∈ F, x ∉ G3) => tidy_any D3 L3 hFG hlog b.length (scan b).2)
  have PRE := Lib.hid (fun (w2 : World) (G' : List Nat) (Ae : Option Addr) (ce : Nat) (o : Only [] w w2) (h2 : Es G' w2 Ae T.2.length ce T.2) h4 h5 hf => log_pre (T := T) hD h hFG o h2 h4 h5 hf)
  have HG := Lib.hid h.g_mem
  have HFZ := Lib.hid (fun (W : World) (o : Only [] w W) => (h.keep o).free 5)
  obtain ⟨x, hx⟩ : ∃ x, (scan b).2 = x := ⟨_, rfl⟩
  rw [hx] at HT HTD ⊢
  obtain ⟨S', hS'⟩ : ∃ S', tidyS S log T.2 b.length x = S' := ⟨_, rfl⟩
  obtain ⟨r, hr⟩ : ∃ r, tidyE S log T.2 b.length x = r := ⟨_, rfl⟩
  replace HTD : Hid (∀ (W : World) (G3 : List Nat) (D3 : Disk W d F S) (L3 : Lg W d g img log G3 { L with es := T.2 }) (hFG : ∀ x ∈ F, x ∉ G3), Calls Tryz.prog 181 #[.pointer (some ⟨g, 0, none⟩), .int .i64 (b.length : Int), .int .i64 (x : Int)] W (Did d F (tidyS S log T.2 b.length x) (.int .i64 (tidyE S log T.2 b.length x : Nat)) W)) := HTD
  rw [hS', hr] at HTD ⊢
  clear e1 e2 e3 h0 h1 h2 hD h ht hb b1 hFG hx hS' hr
  go_enter Tryz.func121, Tryz.ntmps121
  go_wp2
  go_region_held3 (fun w' => w'.cell? ⟨g, 0, none⟩ = some (.pointer (some ⟨d, 0, none⟩)) ∧ w'.cell? ⟨g, 2, none⟩ = some (.string log)) (first | go_keep | exact ⟨k0, k2⟩)
    ((go_at_call 175; refine (HR.out _ (Only.refl [] w).drew).mono ?_; clear HR; rintro e w1 ⟨A1, c1, rfl, V1, O1, B1⟩; have O1' := (Only.refl [] w).drew.then O1; have k0 := O1'.cellSome c0 (fun hm => nomatch hm); have k2 := O1'.cellSome c2 (fun hm => nomatch hm); have k3 := O1'.cellSome c3 (fun hm => nomatch hm)))
  go_wp2_with (first
    | (go_at_call 179; refine (HT.out _ _ _ A1 c1 (HNEW.out w1) (V1.sl.alloc _) (HTab.out _ (O1'.alloc _)) V1.cap).mono ?_; clear HT; rintro e w2 ⟨rfl, G2, ⟨Ae, ce, q1, q2, q3, q4, q5, q6, q7, q8⟩, O2, B2⟩; have O12 : Only [] w w2 := (O1'.alloc _).trans O2 (fun x hx => by simp at hx; subst hx; exact .inr O1'.size); have y2 : w2.cell? ⟨w1.heap.size, 2, none⟩ = some (.slice Ae T.2.length ce) := (by rw [q1.cell]; rfl); have y5 := O12.cellSome c5 (fun hm => nomatch hm); have f5 := HFZ.out w2 O12; have fr : ∀ y ∈ G2, w.heap.size ≤ y := (fun y hy => by rcases B2 y hy with hz | hz; (simp at hz; subst hz; exact O1'.size); (have := O1'.size; simp at hz; omega)); obtain ⟨D3, L3, FG3, o3⟩ := PRE.out w2 G2 Ae ce O12 q2 q4 ⟨q7, q8⟩ fr)
    | (go_at_call 181; refine (HTD.out _ _ D3 L3 FG3).mono ?_; clear HTD; rintro e w4 ⟨rfl, F4, D4, O4, B4⟩))
  go_ret
  exact log_fin L3 FG3 o3 HG.out (fun y hy => (List.mem_append.1 hy).imp id (fr y)) D4 O4 B4
theorem readLog_any (hD : Disk w d F S) (h : Lg w d g img log G L) (hFG : ∀ x ∈ F, x ∉ G) (hes : L.es = []) (hlog : log.size ≤ maxLen) (ht : Tab w) :
    Calls Tryz.prog 121 #[.pointer (some ⟨g, 0, none⟩)] w (LogRead d g img log F G (logS S log L.base) (logE S log L.base) { L with es := logL S log L.base } w) := by
  rcases readE_cases S log with h0 | h0
  · cases h1 : logged L.base (readD S log) with
    | none => exact readLog_bad hD h hlog ht h0 h1
    | some es => exact readLog_good hD h hFG hlog ht h0 es h1
  · exact readLog_none hD h hFG hes hlog h0
end
end Go.Proofs.YtgnilldcfpgpaaaGreatDoor
namespace Go.Proofs.YtgnilldcfpgpaaaGreatDoor
open Go.RowKit Go.Maps
def imgName (s : ByteArray) : ByteArray := s ++ ⟨#[45, 105, 109, 103]⟩
def logName (s : ByteArray) : ByteArray := s ++ ⟨#[45, 108, 111, 103]⟩
theorem readImage_any {w : World} {d g : Nat} {img log : ByteArray} {F G : List Nat} {S : Dst} (hD : Disk w d F S) (h : Lg w d g img log G L0) (himg : img.size ≤ maxLen) (ht : Tab w) :
    Calls Tryz.prog 120 #[.pointer (some ⟨g, 0, none⟩)] w (Imaged w d g img log G (imgE S img) (imgV S img)) := by
  rcases loadE_cases S img with h0 | h0
  · cases hp : prsR (loadD S img) with
    | none => exact readImage_bad hD h himg ht h0 hp
    | some q => exact readImage_good hD h himg ht h0 q.1 q.2 hp
  · exact readImage_not hD h himg ht h0
section
variable {w : World} {d : Nat} {F : List Nat} {S : Dst}
def Opened (d : Nat) (img log : ByteArray) (F : List Nat) (S' : Dst) (r : Nat) (L : LS) (w : World) (e : Ending) (w' : World) : Prop :=
  ∃ F', Disk w' d F' S' ∧ Only F w w' ∧ (∀ x ∈ F', x ∈ F ∨ w.heap.size ≤ x) ∧ (r ≠ 0 → e = .returned (.tuple #[.pointer none, .int .i64 (r : Int)])) ∧
    (r = 0 → ∃ g G', e = .returned (.tuple #[.pointer (some ⟨g, 0, none⟩), .int .i64 0]) ∧ Lg w' d g img log G' L ∧ (∀ x ∈ F', x ∉ G') ∧ ∀ x ∈ G', w.heap.size ≤ x)
theorem Lg.new (w : World) (d : Nat) (img log : ByteArray) : Lg (w.alloc (.cells #[.pointer (some ⟨d, 0, none⟩), .string img, .string log, .int .i64 0, .slice none 0 0, .slice none 0 0, .bool false] 165)) d w.heap.size img log [w.heap.size] L0 :=
  ⟨none, 0, none, 0, Bk.new _ _ _, Own.nil _ _, Es.nil _ _, by simp, (fun _ hx => nomatch hx), fun x hx => by simp at hx; subst hx; simp, Nat.zero_le _, Nat.zero_le _, Nat.zero_le _, fun _ hl => nomatch hl⟩
set_option maxHeartbeats 1600000 in
set_option maxRecDepth 100000 in
theorem open_rm (hD : Disk w d F S) (s : ByteArray) (hs1 : ¬ s.size < 1) (hs2 : ¬ 20 < s.size) (img log : ByteArray) (x1 : s ++ ⟨#[45, 105, 109, 103]⟩ = img) (x2 : s ++ ⟨#[45, 108, 111, 103]⟩ = log) (h1 : rmE S (tilde img) ≠ 0) :
    Calls Tryz.prog 52 #[.pointer (some ⟨d, 0, none⟩), .string s] w (Opened d img log F (opS S img log) (opE S img log) (opL S img log) w) := by
  have x3 : img ++ ⟨#[126]⟩ = tilde img := rfl
  have z1 : img.size ≤ maxLen := by rw [← x1]; rw [ByteArray.size_append]; show s.size + 4 ≤ _; unfold maxLen; omega
  have z5 : img.size ≤ 24 := by rw [← x1]; rw [ByteArray.size_append]; show s.size + 4 ≤ _; omega
  have z2 : log.size ≤ maxLen := by rw [← x2]; rw [ByteArray.size_append]; show s.size + 4 ≤ _; unfold maxLen; omega
  have z3 : (tilde img).size ≤ maxLen := by unfold tilde; rw [ByteArray.size_append, ← x1, ByteArray.size_append]; show s.size + 4 + 1 ≤ _; unfold maxLen; omega
  have HF := Lib.hid (fun (x : Nat) (hx : x ∈ F) => hD.lt hx)
  have HRM := Lib.hid (fun (W : World) (g : Nat) (o : Only [] w W) (h0 : W.cell? ⟨g, 0, none⟩ = some (.pointer (some ⟨d, 0, none⟩))) => lremove_any (hD.keep o) h0 (tilde img) z3)
  have e1 : opS S img log = rmS S (tilde img) := by unfold opS; rw [if_pos h1]
  have e2 : opE S img log = rmE S (tilde img) := by unfold opE; rw [if_pos h1]
  rw [e1, e2]
  have hne := nat_ne _ h1
  have h1' := Lib.hid h1
  generalize opL S img log = L at *
  generalize rmE S (tilde img) = r at *
  clear e1 e2 hD z1 z2 z3 h1
  go_enter Tryz.func52, Tryz.ntmps52
  have LN := Lib.hid (Lg.new w d img log)
  have n0 := LN.out.cells.1
  have n1 := LN.out.cells.2.1
  go_wp2_with (go_at_call 119; refine (HRM.out _ w.heap.size ((Only.refl [] w).alloc _) n0).mono ?_; clear HRM; rintro e w2 ⟨rfl, F2, D2, O2, B2⟩; have L2 := LN.out.only O2 (fun x hx hm => by have := HF.out x hm; simp at hx; omega); have O2' : Only F w w2 := (((Only.refl [] w).alloc _).mono (ss := F) (fun _ h => nomatch h)).trans O2 (fun x hx => .inl hx); have B2' : ∀ x ∈ F2, x ∈ F ∨ w.heap.size < x := fun x hx => (B2 x hx).imp id (fun h => by simp at h; omega))
  go_ret2
  exact ⟨F2, D2, O2', fun x hx => (B2' x hx).imp id Nat.le_of_lt, fun _ => rfl, fun h => absurd h h1'.out⟩
set_option maxHeartbeats 1600000 in
set_option maxRecDepth 100000 in
theorem open_img (hD : Disk w d F S) (s : ByteArray) (hs1 : ¬ s.size < 1) (hs2 : ¬ 20 < s.size) (ht : Tab w) (htF : 1 ∉ F) (img log : ByteArray) (x1 : s ++ ⟨#[45, 105, 109, 103]⟩ = img) (x2 : s ++ ⟨#[45, 108, 111, 103]⟩ = log) (h1 : rmE S (tilde img) = 0) (h2 : imgE (rmS S (tilde img)) img ≠ 0) :
    Calls Tryz.prog 52 #[.pointer (some ⟨d, 0, none⟩), .string s] w (Opened d img log F (opS S img log) (opE S img log) (opL S img log) w) := by
  have x3 : img ++ ⟨#[126]⟩ = tilde img := rfl
  have z1 : img.size ≤ maxLen := by rw [← x1]; rw [ByteArray.size_append]; show s.size + 4 ≤ _; unfold maxLen; omega
  have z5 : img.size ≤ 24 := by rw [← x1]; rw [ByteArray.size_append]; show s.size + 4 ≤ _; omega
  have z2 : log.size ≤ maxLen := by rw [← x2]; rw [ByteArray.size_append]; show s.size + 4 ≤ _; unfold maxLen; omega
  have z3 : (tilde img).size ≤ maxLen := by unfold tilde; rw [ByteArray.size_append, ← x1, ByteArray.size_append]; show s.size + 4 + 1 ≤ _; unfold maxLen; omega
  have HF := Lib.hid (fun (x : Nat) (hx : x ∈ F) => hD.lt hx)
  have HRM := Lib.hid (fun (W : World) (g : Nat) (o : Only [] w W) (h0 : W.cell? ⟨g, 0, none⟩ = some (.pointer (some ⟨d, 0, none⟩))) => lremove_any (hD.keep o) h0 (tilde img) z3)
  have e1 : opS S img log = rmS S (tilde img) := by unfold opS; rw [if_neg (by omega), if_pos h2]
  have e2 : opE S img log = imgE (rmS S (tilde img)) img := by unfold opE; rw [if_neg (by omega), if_pos h2]
  rw [e1, e2]
  have HT := Lib.hid (fun (W : World) (o : Only F w W) => ht.only o htF)
  rw [h1] at HRM
  generalize rmS S (tilde img) = S1 at *
  have HIM := Lib.hid (fun (W : World) (g : Nat) (F : List Nat) (G : List Nat) (D : Disk W d F S1) (L : Lg W d g img log G L0) (t : Tab W) => readImage_any D L z1 t)
  have hne := nat_ne _ h2
  have h1' := Lib.hid h2
  generalize opL S img log = L at *
  generalize imgE S1 img = r at *
  clear e1 e2 ht htF hD z1 z2 z3 h1 h2
  go_enter Tryz.func52, Tryz.ntmps52
  have LN := Lib.hid (Lg.new w d img log)
  have n0 := LN.out.cells.1
  have n1 := LN.out.cells.2.1
  go_wp2_with (first
    | (go_at_call 119; refine (HRM.out _ w.heap.size ((Only.refl [] w).alloc _) n0).mono ?_; clear HRM; rintro e w2 ⟨rfl, F2, D2, O2, B2⟩; have L2 := LN.out.only O2 (fun x hx hm => by have := HF.out x hm; simp at hx; omega); have O2' : Only F w w2 := (((Only.refl [] w).alloc _).mono (ss := F) (fun _ h => nomatch h)).trans O2 (fun x hx => .inl hx); have B2' : ∀ x ∈ F2, x ∈ F ∨ w.heap.size < x := fun x hx => (B2 x hx).imp id (fun h => by simp at h; omega))
    | (go_at_call 120; refine (HIM.out w2 w.heap.size F2 _ D2 L2 (HT.out w2 O2')).mono ?_; clear HIM; rintro e w3 ⟨rfl, G3, L3, O3, B3⟩; have D3 := D2.only O3 (fun x hx hm => by rcases B2' x hx with h | h; (have := HF.out x h; simp at hm; omega); (simp at hm; omega))))
  go_ret2
  exact ⟨F2, D3, O2'.trans O3 (fun x hx => by simp at hx; subst hx; exact .inr (Nat.le_refl _)), fun x hx => (B2' x hx).imp id Nat.le_of_lt, fun _ => rfl, fun h => absurd h h1'.out⟩
set_option maxHeartbeats 1600000 in
set_option maxRecDepth 100000 in
theorem open_log (hD : Disk w d F S) (s : ByteArray) (hs1 : ¬ s.size < 1) (hs2 : ¬ 20 < s.size) (ht : Tab w) (htF : 1 ∉ F) (img log : ByteArray) (x1 : s ++ ⟨#[45, 105, 109, 103]⟩ = img) (x2 : s ++ ⟨#[45, 108, 111, 103]⟩ = log) (h1 : rmE S (tilde img) = 0) (h2 : imgE (rmS S (tilde img)) img = 0) :
    Calls Tryz.prog 52 #[.pointer (some ⟨d, 0, none⟩), .string s] w (Opened d img log F (opS S img log) (opE S img log) (opL S img log) w) := by
  have x3 : img ++ ⟨#[126]⟩ = tilde img := rfl
  have z1 : img.size ≤ maxLen := by rw [← x1]; rw [ByteArray.size_append]; show s.size + 4 ≤ _; unfold maxLen; omega
  have z5 : img.size ≤ 24 := by rw [← x1]; rw [ByteArray.size_append]; show s.size + 4 ≤ _; omega
  have z2 : log.size ≤ maxLen := by rw [← x2]; rw [ByteArray.size_append]; show s.size + 4 ≤ _; unfold maxLen; omega
  have z3 : (tilde img).size ≤ maxLen := by unfold tilde; rw [ByteArray.size_append, ← x1, ByteArray.size_append]; show s.size + 4 + 1 ≤ _; unfold maxLen; omega
  have HF := Lib.hid (fun (x : Nat) (hx : x ∈ F) => hD.lt hx)
  have HRM := Lib.hid (fun (W : World) (g : Nat) (o : Only [] w W) (h0 : W.cell? ⟨g, 0, none⟩ = some (.pointer (some ⟨d, 0, none⟩))) => lremove_any (hD.keep o) h0 (tilde img) z3)
  have e1 : opS S img log = logS (rmS S (tilde img)) log (imgV (rmS S (tilde img)) img).1 := by unfold opS; rw [if_neg (by omega), if_neg (by omega)]
  have e2 : opE S img log = logE (rmS S (tilde img)) log (imgV (rmS S (tilde img)) img).1 := by unfold opE; rw [if_neg (by omega), if_neg (by omega)]
  have e3 : opL S img log = ⟨(imgV (rmS S (tilde img)) img).1, (imgV (rmS S (tilde img)) img).2, logL (rmS S (tilde img)) log (imgV (rmS S (tilde img)) img).1, false⟩ := rfl
  rw [e1, e2, e3]
  have HT := Lib.hid (fun (W : World) (o : Only F w W) => ht.only o htF)
  rw [h1] at HRM
  generalize rmS S (tilde img) = S1 at *
  have HIM := Lib.hid (fun (W : World) (g : Nat) (F : List Nat) (G : List Nat) (D : Disk W d F S1) (L : Lg W d g img log G L0) (t : Tab W) => readImage_any D L z1 t)
  rw [h2] at HIM
  generalize imgV S1 img = v at *
  have HLO := Lib.hid (fun (W : World) (g : Nat) (F : List Nat) (G : List Nat) (D : Disk W d F S1) (L : Lg W d g img log G ⟨v.1, v.2, [], false⟩) (hFG : ∀ x ∈ F, x ∉ G) (t : Tab W) => readLog_any D L hFG rfl z2 t)
  dsimp only at HLO
  generalize logS S1 log v.1 = S2 at *
  generalize logL S1 log v.1 = es at *
  have h3 := Nat.eq_zero_or_pos (logE S1 log v.1)
  generalize logE S1 log v.1 = r at *
  clear e1 e2 e3 ht htF hD z1 z2 z3 h1 h2
  rcases h3 with h3 | h3
  · subst h3
    go_enter Tryz.func52, Tryz.ntmps52
    have LN := Lib.hid (Lg.new w d img log)
    have n0 := LN.out.cells.1
    have n1 := LN.out.cells.2.1
    go_wp2_with (first
      | (go_at_call 119; refine (HRM.out _ w.heap.size ((Only.refl [] w).alloc _) n0).mono ?_; clear HRM; rintro e w2 ⟨rfl, F2, D2, O2, B2⟩; have L2 := LN.out.only O2 (fun x hx hm => by have := HF.out x hm; simp at hx; omega); have O2' : Only F w w2 := (((Only.refl [] w).alloc _).mono (ss := F) (fun _ h => nomatch h)).trans O2 (fun x hx => .inl hx); have B2' : ∀ x ∈ F2, x ∈ F ∨ w.heap.size < x := fun x hx => (B2 x hx).imp id (fun h => by simp at h; omega))
      | (go_at_call 120; refine (HIM.out w2 w.heap.size F2 _ D2 L2 (HT.out w2 O2')).mono ?_; clear HIM; rintro e w3 ⟨rfl, G3, L3, O3, B3⟩; have D3 := D2.only O3 (fun x hx hm => by rcases B2' x hx with h | h; (have := HF.out x h; simp at hm; omega); (simp at hm; omega)); have O3' : Only F w w3 := O2'.trans O3 (fun x hx => by simp at hx; subst hx; exact .inr (Nat.le_refl _)); have sz := O2.size; have FG3 : ∀ x ∈ F2, x ∉ G3 := (fun x hx hm => by have hl := D2.lt hx; rcases B3 x hm with h | h; (simp at h; subst h; rcases B2' _ hx with h | h; (have := HF.out _ h; omega); omega); omega); have G3f : ∀ x ∈ G3, w.heap.size ≤ x := (fun x hx => by rcases B3 x hx with h | h; (simp at h; omega); (simp at sz; omega)))
      | (go_at_call 121; refine (HLO.out w3 w.heap.size F2 G3 D3 L3 FG3 (HT.out w3 O3')).mono ?_; clear HLO; rintro e w4 ⟨rfl, F4, D4, O4, B4, R4⟩))
    go_ret2
    obtain ⟨G4, L4, FG4, G4f⟩ := R4 (by trivial)
    have sz3 := O3'.size
    refine ⟨F4, D4, O3'.trans O4 (fun x hx => ?_), fun x hx => ?_, fun h => absurd rfl h, fun _ => ⟨w.heap.size, G4, rfl, L4, FG4, fun x hx => ?_⟩⟩
    · rcases List.mem_append.1 hx with h | h
      · exact (B2' x h).imp id Nat.le_of_lt
      · exact .inr (G3f x h)
    · rcases B4 x hx with h | h
      · exact (B2' x h).imp id Nat.le_of_lt
      · exact .inr (by omega)
    · rcases G4f x hx with h | h
      · exact G3f x h
      · omega
  · have hne := nat_ne r (by omega)
    go_enter Tryz.func52, Tryz.ntmps52
    have LN := Lib.hid (Lg.new w d img log)
    have n0 := LN.out.cells.1
    have n1 := LN.out.cells.2.1
    go_wp2_with (first
      | (go_at_call 119; refine (HRM.out _ w.heap.size ((Only.refl [] w).alloc _) n0).mono ?_; clear HRM; rintro e w2 ⟨rfl, F2, D2, O2, B2⟩; have L2 := LN.out.only O2 (fun x hx hm => by have := HF.out x hm; simp at hx; omega); have O2' : Only F w w2 := (((Only.refl [] w).alloc _).mono (ss := F) (fun _ h => nomatch h)).trans O2 (fun x hx => .inl hx); have B2' : ∀ x ∈ F2, x ∈ F ∨ w.heap.size < x := fun x hx => (B2 x hx).imp id (fun h => by simp at h; omega))
      | (go_at_call 120; refine (HIM.out w2 w.heap.size F2 _ D2 L2 (HT.out w2 O2')).mono ?_; clear HIM; rintro e w3 ⟨rfl, G3, L3, O3, B3⟩; have D3 := D2.only O3 (fun x hx hm => by rcases B2' x hx with h | h; (have := HF.out x h; simp at hm; omega); (simp at hm; omega)); have O3' : Only F w w3 := O2'.trans O3 (fun x hx => by simp at hx; subst hx; exact .inr (Nat.le_refl _)); have sz := O2.size; have FG3 : ∀ x ∈ F2, x ∉ G3 := (fun x hx hm => by have hl := D2.lt hx; rcases B3 x hm with h | h; (simp at h; subst h; rcases B2' _ hx with h | h; (have := HF.out _ h; omega); omega); omega); have G3f : ∀ x ∈ G3, w.heap.size ≤ x := (fun x hx => by rcases B3 x hx with h | h; (simp at h; omega); (simp at sz; omega)))
      | (go_at_call 121; refine (HLO.out w3 w.heap.size F2 G3 D3 L3 FG3 (HT.out w3 O3')).mono ?_; clear HLO; rintro e w4 ⟨rfl, F4, D4, O4, B4, R4⟩))
    go_ret2
    have sz3 := O3'.size
    refine ⟨F4, D4, O3'.trans O4 (fun x hx => ?_), fun x hx => ?_, fun _ => rfl, fun h => absurd h (by omega)⟩
    · rcases List.mem_append.1 hx with h | h
      · exact (B2' x h).imp id Nat.le_of_lt
      · exact .inr (G3f x h)
    · rcases B4 x hx with h | h
      · exact (B2' x h).imp id Nat.le_of_lt
      · exact .inr (by omega)
theorem open_any (hD : Disk w d F S) (s : ByteArray) (hs1 : ¬ s.size < 1) (hs2 : ¬ 20 < s.size) (ht : Tab w) (htF : 1 ∉ F) :
    Calls Tryz.prog 52 #[.pointer (some ⟨d, 0, none⟩), .string s] w (Opened d (imgName s) (logName s) F (opS S (imgName s) (logName s)) (opE S (imgName s) (logName s)) (opL S (imgName s) (logName s)) w) := by
  by_cases h1 : rmE S (tilde (imgName s)) = 0
  · by_cases h2 : imgE (rmS S (tilde (imgName s))) (imgName s) = 0
    · exact open_log hD s hs1 hs2 ht htF _ _ rfl rfl h1 h2
    · exact open_img hD s hs1 hs2 ht htF _ _ rfl rfl h1 h2
  · exact open_rm hD s hs1 hs2 _ _ rfl rfl h1
end
end Go.Proofs.YtgnilldcfpgpaaaGreatDoor
namespace Go.Proofs.YtgnilldcfpgpaaaGreatDoor
open Go.RowKit Go.Maps
def StK (F G : List Nat) (g : Nat) (x : Nat) : Prop := x ∉ F ∧ x ∉ G ∧ x ≠ g
structure StoreIs (w : World) (g d lg : Nat) (img log : ByteArray) (F G : List Nat) (D : Dst) (L : LS) (S : Stt) (mu : Option Nat) (dd : Bool) : Prop where
  bk : Bk w g 93 #[.pointer (some ⟨lg, 0, none⟩), .int .i64 S.next, .map mu, .bool dd]
  dk : Disk w d F D
  lgr : Lg w d lg img log G L
  fg : ∀ x ∈ F, x ∉ G
  st : StIs (StK F G g) w mu S
  own : g ∉ F ∧ g ∉ G
  good : GoodS S
section
variable {w w' : World} {g d lg : Nat} {img log : ByteArray} {F G : List Nat} {D : Dst} {L : LS} {S : Stt} {mu : Option Nat} {dd : Bool}
theorem StoreIs.keep (h : StoreIs w g d lg img log F G D L S mu dd) (o : Only [] w w') : StoreIs w' g d lg img log F G D L S mu dd :=
  ⟨h.bk.only o (by simp), h.dk.keep o, h.lgr.keep o, h.fg, h.st.keep o, h.own, h.good⟩
set_option maxRecDepth 100000 in
theorem fold_few {n : Int} (hb : Bk w g 93 #[.pointer (some ⟨lg, 0, none⟩), .int .i64 n, .map mu, .bool dd]) (h : Lg w d lg img log G L) (hf : L.es.length < 20) :
    Calls Tryz.prog 45 #[.pointer (some ⟨g, 0, none⟩)] w fun e w' => e = .returned (.int .i64 0) ∧ Only [] w w' := by
  obtain ⟨c0, c1, c2, c3⟩ := bk_four hb
  have hg := hb.lt
  obtain ⟨b1, b2, b3⟩ := h.bounds
  have HB := Lib.hid hb
  have HLA := Lib.hid (Last_any h)
  have HL : Hid (L.last = L.base + L.es.length) := rfl
  have HAT := Lib.hid (fun (W : World) (o : Only [] w W) => at_bad (h.keep o) ((L.last : Int) - 20 + 1) (.inl (by have := HL.out; omega)))
  have hl0 : L.last ≤ 2199023255552 := by rw [HL.out]; omega
  obtain ⟨n0, hn0⟩ : ∃ x, L.last = x := ⟨_, rfl⟩
  rw [hn0] at HLA HAT hl0
  have w1 : IntKind.i64.wrap ((n0 : Int) - 20) = (n0 : Int) - 20 := IntWalk.i64_in _ (by omega)
  have w2 : IntKind.i64.wrap ((n0 : Int) - 20 + 1) = (n0 : Int) - 20 + 1 := IntWalk.i64_in _ (by omega)
  clear b1 b2 b3 hb h hf HL hn0 hl0
  go_enter Tryz.func45, Tryz.ntmps45
  go_wp2_with (first
    | (go_at_call 94; refine HLA.out.mono ?_; rintro e w1 ⟨rfl, O1⟩; clear c0 c1 c2 c3 hg; obtain ⟨c0, c1, c2, c3⟩ := bk_four (HB.out.only O1 (by simp)); have hg := (HB.out.only O1 (by simp)).lt)
    | (go_at_call 99; refine (HAT.out w1 O1).mono ?_; rintro e w2 ⟨rfl, O2⟩))
  go_ret
  exact ⟨rfl, O1.then O2⟩
def chk (us : List Lu) (s t : ByteArray) : Bool := match findL Lu.key us s with | none => false | some x => (St x.pass).toList == t.toList
set_option maxRecDepth 100000 in
theorem Check_any {K : Nat → Prop} {us : List Lu} {n : Int} {a : Value} (hb : Bk w g 93 #[a, .int .i64 n, .map mu, .bool dd]) (hu : UsIs K w mu us) (s t : ByteArray) (hs : s.size ≤ maxLen) :
    Calls Tryz.prog 36 #[.pointer (some ⟨g, 0, none⟩), .string s, .string t] w fun e w' => e = .returned (.bool (chk us s t)) ∧ Only [] w w' := by
  obtain ⟨c0, c1, c2, c3⟩ := bk_four hb
  have hg := hb.lt
  obtain ⟨q, hq⟩ : ∃ q, chk us s t = q := ⟨_, rfl⟩
  rw [hq]
  unfold chk at hq
  cases hf : findL Lu.key us s with
  | none =>
    rw [hf] at hq
    have hlk := hu.look_no true hs hf
    subst hq
    clear hf hu hb
    go_enter Tryz.func36, Tryz.ntmps36
    go_wp2
    go_ret
    exact ⟨rfl, (Only.refl [] _).alloc _⟩
  | some x =>
    rw [hf] at hq
    have hlk := hu.look true hs hf
    unfold usv at hlk
    obtain ⟨r, hr⟩ : ∃ r, St x.pass = r := ⟨_, rfl⟩
    rw [hr] at hlk
    simp only [hr] at hq
    have hz : (r.toList == t.toList) = q := hq
    have HZ := Lib.hid hz
    clear hf hu hb hr hq hz
    go_enter Tryz.func36, Tryz.ntmps36
    go_wp2
    go_ret
    exact ⟨by rw [← HZ.out]; rfl, (Only.refl [] _).alloc _⟩
end
end Go.Proofs.YtgnilldcfpgpaaaGreatDoor
namespace Go.Proofs.YtgnilldcfpgpaaaGreatDoor
open Go.RowKit Go.Maps
theorem st_ret2 {fn : Func} {R : Ending → World → Prop} {tmps : Array Value} {w : World} {s u : Nat} (hres : fn.results = #[.cell s 91, .tmp u]) (p : Nat) (a b : Value) (x : Value) (h2 : tmps.getD s undef = .pointer (some ⟨p, 0, none⟩)) (h3 : tmps.getD u undef = x)
    (hb : Bk w p 91 #[a, b]) (hR : R (.returned (.tuple #[.agg #[a, b], x])) w) : bodyPost Tryz.prog fn R .ret { tmps := tmps, defers := [] } w := by
  refine bodyPost_ret (v := .tuple #[.agg #[a, b], x]) ?_ rfl hR
  rw [results_cell_tmp hres]
  rw [h2, h3]
  simp only [asAddr, Sem.run_pure, Result.andThen_ok]
  rw [run_loadVar_row (P := Tryz.prog) w p 91 91 #[a, b] (0, 0) _ hb Tryz.underlying91 rfl infoSt]
  rfl
section
variable {w w' : World} {g d lg : Nat} {img log : ByteArray} {F G : List Nat} {D : Dst} {L : LS}
set_option maxRecDepth 100000 in
theorem told_none (h : Lg w d lg img log G L0) :
    Calls Tryz.prog 53 #[.pointer (some ⟨lg, 0, none⟩)] w fun e w' => e = .returned (.tuple #[.agg #[.int .i64 1, .map none], .int .i64 0]) ∧ Only [] w w' := by
  have hR := Bk.new w 91 #[.int .i64 0, .map none]
  have hO : Only [] w (w.alloc (.cells #[.int .i64 0, .map none] 91)) := (Only.refl [] w).alloc _
  have hf := And.intro hR hO
  have HLG := Lib.hid h
  clear hR hO h
  go_enter Tryz.func53, Tryz.ntmps53
  go_upto_region 1 with fail
  revert hf
  generalize (w.alloc (.cells #[.int .i64 0, .map none] 91)) = W
  rintro ⟨hR, hO⟩
  obtain ⟨r0, r1⟩ := bk_two hR
  have rf0 := hR.free 0
  have rf1 := hR.free 1
  have rl := hR.lt
  have HR := Lib.hid hR
  have HO := Lib.hid hO
  have HBA : Hid (Calls Tryz.prog 122 #[.pointer (some ⟨lg, 0, none⟩)] W fun e w' => ∃ A c, e = .returned (.tuple #[.int .i64 0, .slice A 0 c]) ∧ Own w' 5 A 0 c (bvs []) ∧ Only [] W w' ∧ ∀ k ∈ blks A, W.heap.size ≤ k) := base_any (HLG.out.keep HO.out)
  have HLA : Hid (∀ V, Only [] w V → Calls Tryz.prog 94 #[.pointer (some ⟨lg, 0, none⟩)] V fun e w' => e = .returned (.int .i64 0) ∧ Only [] V w') := fun V o => Last_any (HLG.out.keep o)
  clear hR hO
  go_wp2_with (go_at_call 122; go_must (refine HBA.out.mono ?_); rintro e w2 ⟨A2, c2, rfl, _, O2, _⟩; clear HBA; have B2 := HR.out.only O2 (by simp); clear r0 r1 rf0 rf1 rl; obtain ⟨r0, r1⟩ := bk_two B2; have rf0 := B2.free 0; have rf1 := B2.free 1; have rl := B2.lt)
  have hN3 := Bk.new w2 91 #[.int .i64 1, .map none]
  have hO3 : Only [] w (w2.alloc (.cells #[.int .i64 1, .map none] 91)) := (HO.out.then O2).alloc _
  have hR3 := B2.alloc (.cells #[.int .i64 1, .map none] 91 )
  have hf := And.intro hN3 (And.intro hO3 hR3)
  clear r0 r1 rf0 rf1 rl B2 hN3 hO3 hR3
  obtain ⟨p6, hp6⟩ : ∃ p, w2.heap.size = p := ⟨_, rfl⟩
  rw [hp6] at hf ⊢
  revert hf
  generalize (w2.alloc (.cells #[.int .i64 1, .map none] 91)) = W3
  rintro ⟨hN3, hO3, hR3⟩
  have HN3 := Lib.hid hN3
  have HO3 := Lib.hid hO3
  have HR3 := Lib.hid hR3
  clear hN3 hO3 hR3 hp6
  go_loopw [8] (fun iv wr => iv = .int .i64 1 ∧ Hid (Only [] W3 wr)) (fun _ _ => 0)
  case atStart => exact ⟨rfl, Only.refl _ _⟩
  case round =>
    obtain ⟨rfl, HWR⟩ := hrel
    have HLB := Lib.hid (HLA.out _ (HO3.out.then HWR.out))
    go_wp2_with (go_at_call 94; go_must (refine HLB.out.mono ?_); rintro e w4 ⟨rfl, O4⟩; clear HLB; have O34 := HWR.out.then O4; have N4 := HN3.out.only O34 (by simp); have R4 := HR3.out.only O34 (by simp); obtain ⟨p0, p1⟩ := bk_two N4; obtain ⟨r0, r1⟩ := bk_two R4; have rf0 := R4.free 0; have rf1 := R4.free 1; have rl := R4.lt; have pl := N4.lt)
    exact st_ret2 (s := 2) (u := 3) (by kernel_rfl) w.heap.size _ _ _ rfl rfl (bk_store2 R4 _ _) ⟨rfl, only_store2 (HO3.out.then O34) (.inr (Nat.le_refl _)) _ _⟩
def mailN : ByteArray := ⟨#[109, 97, 105, 108]⟩
set_option maxRecDepth 100000 in
theorem Open_new (hD : Disk w d F D) (ht : Tab w) (htF : 1 ∉ F) (he : opE D (imgName mailN) (logName mailN) = 0) (hL : opL D (imgName mailN) (logName mailN) = L0) :
    Calls Tryz.prog 21 #[.pointer (some ⟨d, 0, none⟩)] w fun e w' => ∃ g lg F' G', e = .returned (.tuple #[.pointer (some ⟨g, 0, none⟩), .int .i64 0]) ∧ StoreIs w' g d lg (imgName mailN) (logName mailN) F' G' (opS D (imgName mailN) (logName mailN)) L0 ⟨1, []⟩ none false ∧ Only F w w' ∧ (∀ x ∈ F', x ∈ F ∨ w.heap.size ≤ x) ∧ (∀ x ∈ G', w.heap.size ≤ x) ∧ w.heap.size ≤ g := by
  have HOP := Lib.hid (open_any hD mailN (by decide) (by decide) ht htF)
  rw [he, hL] at HOP
  have HDL : Hid (∀ x ∈ F, x < w.heap.size) := fun x hx => hD.lt hx
  clear hD ht htF he hL
  obtain ⟨img, hi⟩ : ∃ x, imgName mailN = x := ⟨_, rfl⟩
  obtain ⟨log, hl⟩ : ∃ x, logName mailN = x := ⟨_, rfl⟩
  rw [hi, hl] at HOP ⊢
  obtain ⟨D', hd⟩ : ∃ x, opS D img log = x := ⟨_, rfl⟩
  rw [hd] at HOP ⊢
  unfold mailN at HOP
  clear hi hl hd
  go_enter Tryz.func21, Tryz.ntmps21
  go_wp2_with (first
    | (go_at_call 52; go_must (refine HOP.out.mono ?_); rintro e w2 ⟨F2, D2, O2, B2, _, H2⟩; clear HOP; obtain ⟨lg, G2, rfl, L2, FG2, G2f⟩ := H2 rfl; clear H2)
    | (go_at_call 53; go_must (refine (told_none L2).mono ?_); rintro e w3 ⟨rfl, O3⟩))
  go_ret2
  have oN : Only [] w2 ((w3.alloc (.cells #[.int .i64 1, .map none] 91)).alloc (.cells #[.pointer (some ⟨lg, 0, none⟩), .int .i64 1, .map none, .bool false] 93)) := (O3.alloc _).alloc _
  have hb := Bk.new (w3.alloc (.cells #[.int .i64 1, .map none] 91)) 93 #[.pointer (some ⟨lg, 0, none⟩), .int .i64 1, .map none, .bool false]
  rw [World.size_alloc] at hb
  have hz := O3.size
  have hz2 := O2.size
  refine ⟨w3.heap.size + 1, lg, F2, G2, rfl, ⟨hb, D2.keep oN, L2.keep oN, FG2, ⟨[], UsIs.none_ _ _, rfl⟩, ⟨fun h => by have := D2.lt h; omega, fun h => by have := L2.lt h; omega⟩, ?_⟩, O2.then oN, B2, G2f, by omega⟩
  exact ⟨⟨by decide, by decide⟩, List.Pairwise.nil, (fun _ h => nomatch h), by simp⟩
end
end Go.Proofs.YtgnilldcfpgpaaaGreatDoor
