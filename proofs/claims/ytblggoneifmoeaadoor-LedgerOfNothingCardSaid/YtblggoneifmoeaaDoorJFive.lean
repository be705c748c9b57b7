import Derived.Test.YtblggoneifmoeaaDoorJFour
import Derived.Test.YtblggoneifmoeaaDoorJTwo
/-
  The law's own sample (ledger): known is true.
-/
namespace Go.Proofs.YtblggoneifmoeaaDoor
open Go.RowKit Go.Maps
def nmA : ByteArray := ⟨#[97]⟩
def S0k : St := ⟨65536, [], none⟩
def S1k : St := appS S0k (logName nmA) L0 [120]
def L1k : LS := ⟨0, [], [[120]], false⟩
def S2k : St := wrS S1k (imgName nmA) (logName nmA) L1k 1 [121]
def L2k : LS := ⟨1, [121], [], false⟩
def L3k : LS := ⟨1, [121], [[122]], false⟩
theorem kn_open : opE S0k (imgName nmA) (logName nmA) = 0 ∧ opS S0k (imgName nmA) (logName nmA) = S0k ∧ opL S0k (imgName nmA) (logName nmA) = L0 := ⟨by kernel_rfl, by kernel_rfl, by kernel_rfl⟩
theorem kn_x : appE S0k (logName nmA) L0 [120] = 0 ∧ appN S0k (logName nmA) L0 [120] = 1 ∧ appL S0k (logName nmA) L0 [120] = L1k ∧ appS S0k (logName nmA) L0 [120] = S1k := ⟨by kernel_rfl, by kernel_rfl, by kernel_rfl, rfl⟩
theorem kn_y : wrE S1k (imgName nmA) (logName nmA) L1k 1 [121] = 0 ∧ wrL S1k (imgName nmA) (logName nmA) L1k 1 [121] = L2k ∧ wrS S1k (imgName nmA) (logName nmA) L1k 1 [121] = S2k := ⟨by kernel_rfl, by kernel_rfl, rfl⟩
theorem kn_z : appE S2k (logName nmA) L2k [122] = 0 ∧ appN S2k (logName nmA) L2k [122] = 2 ∧ appL S2k (logName nmA) L2k [122] = L3k := ⟨by kernel_rfl, by kernel_rfl, by kernel_rfl⟩
theorem str_y {W : World} {A : Option Addr} {c : Nat} (h : Own W 5 A 1 c (bvs [121])) : (convert 23 9 (.slice A 1 c)).run Tryd.prog W = .ok (.string ⟨#[121]⟩) W := by
  obtain ⟨ad, u, rfl, hu, hc⟩ := h.sl.at_ (k := 0) (by omega)
  have h := run_convert_bytes_back (P := Tryd.prog) W 23 9 5 ad c [121] Tryd.underlying23 Tryd.underlying5 Tryd.underlying9 (fun i hi => by
    simp at hi
    subst hi
    simp at hu
    rw [hc, ← hu]
    rfl)
  exact h
theorem tab_pos {w : World} (ht : Tab w) : 0 < w.heap.size := block_lt_of_cell (ht 0 (by omega))
theorem sl_lit1 (l : List UInt8) (xs : Array Value) (n g : Nat) (fr : Nat × Nat) (W : World) (hx : xs.toList = bvs l) (hn : xs.size = n) (hg : g = W.heap.size) : Sl (W.alloc (.cells xs 5 fr)) (some ⟨g, 0, none⟩) n (bvs l) := by
  subst hg hn
  rw [← hx]
  exact Sl.of_new W xs _ fr
/-- Behind a call of a ledger's all is still new. -/
theorem jd_new {w0 w w' : World} {d g : Nat} {img log : ByteArray} {F G : List Nat} {S' : St} {L' : LS} {v : Value} {e : Ending} (o : Only [] w0 w) (hF : ∀ x ∈ F, w0.heap.size ≤ x) (hG : ∀ x ∈ G, w0.heap.size ≤ x) (h : Jd d g img log F G S' L' v w e w') :
    e = .returned v ∧ ∃ F' G', Disk w' d F' S' ∧ Lg w' d g img log G' L' ∧ (∀ x ∈ F', x ∉ G') ∧ Only [] w0 w' ∧ (∀ x ∈ F', w0.heap.size ≤ x) ∧ ∀ x ∈ G', w0.heap.size ≤ x := by
  obtain ⟨he, F', G', h1, h2, h3, h4, h5, h6⟩ := h
  have hs := o.size
  refine ⟨he, F', G', h1, h2, h3, o.trans h4 (fun x hx => ?_), fun x hx => ?_, fun x hx => ?_⟩
  · rcases List.mem_append.1 hx with h | h
    · exact .inr (hF x h)
    · exact .inr (hG x h)
  · rcases h5 x hx with h | h
    · exact hF x h
    · omega
  · rcases h6 x hx with h | h
    · exact hG x h
    · omega
set_option maxRecDepth 100000 in
set_option maxHeartbeats 2000000 in
theorem known_any (w : World) (ht : Tab w) : Calls Tryd.prog 17 #[] w fun e w' => e = .returned (.bool true) ∧ Only [] w w' := by
  have kc := fun (w : World) (C : Array Value) (n c g : Nat) (hg : g = w.heap.size) => Joins.run_convert_bytes_const_at (P := Tryd.prog) w 23 5 C n c g hg Tryd.underlying23 Tryd.underlying5
  have HT := Lib.hid ht
  have HP := Lib.hid (tab_pos ht)
  have HNEW := Lib.hid (show ∀ W : World, Calls Tryd.prog 8 #[.int .i64 65536] W (Made S0k W) from fun W => new_any (w := W) 65536 (by omega))
  have HOP := Lib.hid (fun (W : World) (d : Nat) (F : List Nat) (D : Disk W d F S0k) (t : Tab W) (h : 0 ∉ F) => open_any D nmA (by decide) (by decide) t h)
  rw [kn_open.1, kn_open.2.1, kn_open.2.2] at HOP
  have HX := Lib.hid (fun (W : World) (d g : Nat) (F G : List Nat) (D : Disk W d F S0k) (h : Lg W d g (imgName nmA) (logName nmA) G L0) (hFG : ∀ x ∈ F, x ∉ G) (A : Option Addr) (c : Nat) (hs : Sl W A 1 (bvs [120])) (hp : ∀ ad, A = some ad → ad.block ∉ F) (t : Tab W) => lappend_any D h hFG A 1 c [120] hs (fun _ => hp) t)
  rw [kn_x.1, kn_x.2.1, kn_x.2.2.1, kn_x.2.2.2] at HX
  have HY := Lib.hid (fun (W : World) (d g : Nat) (F G : List Nat) (D : Disk W d F S1k) (h : Lg W d g (imgName nmA) (logName nmA) G L1k) (hFG : ∀ x ∈ F, x ∉ G) (A : Option Addr) (c : Nat) (hs : Sl W A 1 (bvs [121])) (hp : ∀ ad, A = some ad → ad.block ∉ F) (t : Tab W) => lwrite_any D h hFG (by decide) 1 (by omega) A 1 c [121] hs (fun _ => hp) t)
  rw [kn_y.1, kn_y.2.1, kn_y.2.2] at HY
  have HZ := Lib.hid (fun (W : World) (d g : Nat) (F G : List Nat) (D : Disk W d F S2k) (h : Lg W d g (imgName nmA) (logName nmA) G L2k) (hFG : ∀ x ∈ F, x ∉ G) (A : Option Addr) (c : Nat) (hs : Sl W A 1 (bvs [122])) (hp : ∀ ad, A = some ad → ad.block ∉ F) (t : Tab W) => lappend_any D h hFG A 1 c [122] hs (fun _ => hp) t)
  rw [kn_z.1, kn_z.2.1, kn_z.2.2] at HZ
  have HBA := Lib.hid (fun (W : World) (d g : Nat) (G : List Nat) (h : Lg W d g (imgName nmA) (logName nmA) G L3k) => (show Calls Tryd.prog 15 #[.pointer (some ⟨g, 0, none⟩)] W fun e w' => ∃ A c, e = .returned (.tuple #[.int .i64 1, .slice A 1 c]) ∧ Own w' 5 A 1 c (bvs [121]) ∧ Only [] W w' ∧ ∀ k ∈ blks A, W.heap.size ≤ k from base_any h))
  have HLA := Lib.hid (fun (W : World) (d g : Nat) (G : List Nat) (h : Lg W d g (imgName nmA) (logName nmA) G L3k) => Last_any h)
  rw [show ((L3k.last : Nat) : Int) = 2 from by decide] at HLA
  clear ht
  generalize imgName nmA = img at *
  generalize logName nmA = log at *
  go_enter Tryd.func17, Tryd.ntmps17
  go_wp2_with (first
    | (go_at_call 8; refine (HNEW.out w).mono ?_; clear HNEW; rintro e w1 ⟨d, rfl, D1, O1, hd⟩)
    | (go_at_call 9; refine (HOP.out w1 d [d] D1 (HT.out.keep O1) (fun hm => by have := HP.out; simp at hm; omega)).mono ?_; clear HOP; rintro e w2 ⟨F2, D2, O2, B2, _, H2⟩; obtain ⟨g, G2, rfl, L2, FG2, G2f⟩ := H2 rfl; have Q2 : Only [] w w2 := O1.trans O2 (fun x hx => by simp at hx; subst hx; exact .inr hd); have F2f : ∀ x ∈ F2, w.heap.size ≤ x := (fun x hx => by have := O1.size; rcases B2 x hx with h | h; (simp at h; omega); omega); replace G2f : ∀ x ∈ G2, w.heap.size ≤ x := fun x hx => Nat.le_trans O1.size (G2f x hx))
    | (go_at_call 11; refine (HX.out _ d g F2 G2 (D2.keep ((Only.refl [] w2).alloc _)) (L2.keep ((Only.refl [] w2).alloc _)) FG2 (some ⟨w2.heap.size, 0, none⟩) 1 (sl_lit1 [120] #[.int .u8 120] 1 _ _ w2 rfl rfl rfl) (fun ad e hm => by injection e with e; subst e; have := D2.lt hm; simp at this) (HT.out.keep (Q2.alloc _))).mono ?_; clear HX; intro e w3 hj; obtain ⟨rfl, F3, G3, D3, L3, FG3, Q3, F3f, G3f⟩ := jd_new (Q2.alloc _) F2f G2f hj; clear hj)
    | (go_at_call 12; refine (HY.out _ d g F3 G3 (D3.keep ((Only.refl [] w3).alloc _)) (L3.keep ((Only.refl [] w3).alloc _)) FG3 (some ⟨w3.heap.size, 0, none⟩) 1 (sl_lit1 [121] #[.int .u8 121] 1 _ _ w3 rfl rfl rfl) (fun ad e hm => by injection e with e; subst e; have := D3.lt hm; simp at this) (HT.out.keep (Q3.alloc _))).mono ?_; clear HY; intro e w4 hj; obtain ⟨rfl, F4, G4, D4, L4, FG4, Q4, F4f, G4f⟩ := jd_new (Q3.alloc _) F3f G3f hj; clear hj)
    | (go_at_call 11; refine (HZ.out _ d g F4 G4 (D4.keep ((Only.refl [] w4).alloc _)) (L4.keep ((Only.refl [] w4).alloc _)) FG4 (some ⟨w4.heap.size, 0, none⟩) 1 (sl_lit1 [122] #[.int .u8 122] 1 _ _ w4 rfl rfl rfl) (fun ad e hm => by injection e with e; subst e; have := D4.lt hm; simp at this) (HT.out.keep (Q4.alloc _))).mono ?_; clear HZ; intro e w5 hj; obtain ⟨rfl, F5, G5, D5, L5, FG5, Q5, F5f, G5f⟩ := jd_new (Q4.alloc _) F4f G4f hj; clear hj)
    | (go_at_call 15; refine (HBA.out w5 d g G5 L5).mono ?_; clear HBA; rintro e w6 ⟨A6, c6, rfl, V6, O6, B6⟩; have hcv := str_y (c := c6) V6; have L6 := L5.keep O6)
    | (go_at_call 13; refine (HLA.out w6 d g G5 L6).mono ?_; clear HLA; rintro e w7 ⟨rfl, O7⟩))
  go_ret
  exact ⟨rfl, (Q5.then O6).then O7⟩
end Go.Proofs.YtblggoneifmoeaaDoor
/-
  The walk of the law LedgerOfNothing.
-/
namespace Go.Proofs.YtblggoneifmoeaaDoor
open Go.RowKit Go.Maps
set_option maxRecDepth 100000 in
set_option maxHeartbeats 2000000 in
theorem nothing_any (A : Option Addr) (m c : Nat) (n : Int) (w : World) (hm : m ≤ 140737488351232) (ht : Tab w) :
    Calls Tryd.prog 5 #[.slice A m c, .int .i64 n] w fun e w' => e = .returned (.bool true) ∧ Only [] w w' := by
  have HK := Lib.hid (known_any w ht)
  clear ht
  by_cases hbig : 2000 < m
  · go_enter Tryd.func5, Tryd.ntmps5
    go_wp2
    go_ret
    exact ⟨rfl, Only.refl _ _⟩
  · go_enter Tryd.func5, Tryd.ntmps5
    go_wp2_with (first
      | (go_at_call 11; refine (lappend_nil w _).mono ?_; rintro e w1 ⟨rfl, rfl⟩)
      | (go_at_call 16; refine (at_nil w _).mono ?_; rintro e w1 ⟨rfl, rfl⟩)
      | (go_at_call 15; refine (base_nil w).mono ?_; rintro e w1 ⟨rfl, rfl⟩)
      | (go_at_call 9; refine (open_nil _ w).mono ?_; rintro e w1 ⟨rfl, rfl⟩)
      | (go_at_call 12; refine (lwrite_nil w _ _).mono ?_; rintro e w1 ⟨rfl, rfl⟩)
      | (go_at_call 18; refine (ldrop_nil w).mono ?_; rintro e w1 ⟨rfl, rfl⟩)
      | (go_at_call 13; refine (Last_nil w).mono ?_; rintro e w1 ⟨rfl, rfl⟩)
      | (go_at_call 17; refine HK.out.mono ?_; rintro e w8 ⟨rfl, O8⟩))
    go_ret
    exact ⟨rfl, O8⟩
end Go.Proofs.YtblggoneifmoeaaDoor
