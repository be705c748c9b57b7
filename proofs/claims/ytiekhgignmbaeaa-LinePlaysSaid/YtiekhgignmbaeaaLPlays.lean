/-
  The walk of the law LinePlays.
-/
import Derived.Test.YtiekhgignmbaeaaLKnown
import Derived.Test.YtiekhgignmbaeaaLWants
import Derived.Test.YtiekhgignmbaeaaOpenA
import Derived.Deep.QuietTactic
import Derived.BigQuiet
import Derived.Deep.RegionHeld3
namespace Go.Proofs.Ytiekhgignmbaeaa
open Go.RowKit Go.Instr

theorem Acts.keep {w w' : World} {A : Option Addr} {n : Nat} {l : List LAct} (h : Acts w A n l) (o : Only [] w w') : Acts w' A n l := by
  refine ⟨h.1, fun hn => ?_⟩
  obtain ⟨ad, e, hc⟩ := h.2 hn
  refine ⟨ad, e, fun i a hi => ?_⟩
  obtain ⟨Ab, cb, c0, c1, c2, hs⟩ := hc i a hi
  exact ⟨Ab, cb, o.cellSome c0 (fun hm => nomatch hm), o.cellSome c1 (fun hm => nomatch hm), o.cellSome c2 (fun hm => nomatch hm), hs.keep o⟩
/-- An act, its cells as the walk writes their addresses. -/
theorem Acts.at_ {w : World} {A : Option Addr} {n : Nat} {l : List LAct} (h : Acts w A n l) (i : Nat) (hi : i < l.length) : ∃ ad Ab cb, A = some ad ∧ w.cell? (ad.add (i * 3)) = some (.int .i64 l[i].kind) ∧ w.cell? ⟨(ad.add (i * 3)).block, (ad.add (i * 3)).off + 1, none⟩ = some (.slice Ab l[i].b.length cb) ∧ w.cell? ⟨(ad.add (i * 3)).block, (ad.add (i * 3)).off + 2, none⟩ = some (.int .i64 l[i].n) ∧ Sl w Ab l[i].b.length (bvs l[i].b) := by
  obtain ⟨ad, e, hc⟩ := h.2 (by have := h.1; omega)
  obtain ⟨Ab, cb, c0, c1, c2, hs⟩ := hc i l[i] (List.getElem?_eq_getElem hi)
  refine ⟨ad, Ab, cb, e, c0, ?_, ?_, hs⟩
  · rw [← c1, ← add_add]; rfl
  · rw [← c2, ← add_add]; rfl

def SomeBool (w : World) (e : Ending) (w' : World) : Prop := ∃ b, e = .returned (.bool b) ∧ w = w'
set_option maxRecDepth 100000 in
set_option maxHeartbeats 4000000 in
theorem long_bool (A : Option Addr) (n c : Nat) (l : List LAct) (w : World) (hl : Acts w A n l) (hb : ∀ a ∈ l, a.b.length ≤ 140737488351232) (hn : n ≤ 4611686018427387904) : Calls Try.prog 10 #[.slice A n c] w (SomeBool w) := by
  have HLL := Lib.hid hl.1
  have HB := Lib.hid hb
  clear hb
  go_enter Try.func10, Try.ntmps10
  go_wp2
  go_loop [3, 4] (fun s i => ∃ k t : Nat, k ≤ n ∧ k ≤ 100 ∧ i = .int .i64 (k : Int) ∧ s = .int .i64 (t : Int) ∧ t ≤ 12000) (fun _ i => n - (intOf i).toNat)
  case atStart => exact ⟨0, 0, Nat.zero_le _, by omega, rfl, rfl, by omega⟩
  case round =>
    obtain ⟨k, t, hk, hk1, rfl, rfl, ht⟩ := hrel
    by_cases hlt : k < n ∧ k < 100
    · obtain ⟨hkn, hk100⟩ := hlt
      have h1 : (k : Int) < (n : Int) := by omega
      have h2 : (k : Int) < 100 := by omega
      have hkl : k < l.length := by rw [HLL.out]; exact hkn
      obtain ⟨ad, Ab, cb, rfl, c0, c1, c2, _⟩ := hl.at_ k hkl
      obtain ⟨D, hD⟩ : ∃ D, D = l[k].b.length := ⟨_, rfl⟩
      rw [← hD] at c1
      have hDb : D ≤ 140737488351232 := by rw [hD]; exact HB.out _ (List.getElem_mem hkl)
      clear hD c0 c2
      by_cases hbig : 12000 < t + 1 + D
      · have hbig' : (12000 : Int) < (t : Int) + 1 + (D : Int) := by omega
        go_wp2
        go_ret
        exact ⟨true, rfl, rfl⟩
      · have hbig' : (t : Int) + 1 + (D : Int) ≤ 12000 := by omega
        go_wp2
        go_roundw
        case rel => exact ⟨k + 1, t + 1 + D, by omega, by omega, by go_num, by go_num, by omega⟩
        case measure => simp [intOf]; omega
    · have hlt' : k = 100 ∨ (k = n ∧ ¬ k = 100) := by omega
      rcases hlt' with h | ⟨h, h100⟩
      · subst h
        by_cases hn100 : 100 < n
        · have h1 : (100 : Int) < (n : Int) := by omega
          go_wp2
          go_ret
          exact ⟨false, rfl, rfl⟩
        · have h1 : ¬ (100 : Int) < (n : Int) := by omega
          go_wp2
          go_ret
          exact ⟨false, rfl, rfl⟩
      · have h1 : ¬ (k : Int) < (n : Int) := by omega
        go_wp2
        go_ret
        exact ⟨false, rfl, rfl⟩
/-- Two objects that mean one state, apart. -/
def Both (w wr : World) (g1 g2 : Nat) (s : LS) : Prop :=
  ∃ F1 F2, Ln false wr g1 F1 s ∧ Ln true wr g2 F2 s ∧ Only [] w wr ∧ (∀ x ∈ g1 :: F1, w.heap.size ≤ x) ∧ (∀ x ∈ g2 :: F2, w.heap.size ≤ x) ∧ ∀ x ∈ g1 :: F1, x ∉ g2 :: F2
/-- First the code's object has turned, then the document's: they mean one state again, apart. -/
theorem both_step {w wr w3 w4 w4' w5 : World} {g1 g2 : Nat} {F1 F2 F4 F5 : List Nat} {s s' : LS} (L2 : Ln true wr g2 F2 s) (QR : Only [] w wr) (P1 : ∀ x ∈ g1 :: F1, w.heap.size ≤ x) (P2 : ∀ x ∈ g2 :: F2, w.heap.size ≤ x) (PD : ∀ x ∈ g1 :: F1, x ∉ g2 :: F2)
    (Od : Only [] wr w3) (L4 : Ln false w4 g1 F4 s') (O4 : Only (g1 :: F1) w3 w4) (B4 : ∀ k ∈ F4, k ∈ F1 ∨ w3.heap.size ≤ k) (Om : Only [] w4 w4') (L5 : Ln true w5 g2 F5 s') (O5 : Only (g2 :: F2) w4' w5) (B5 : ∀ k ∈ F5, k ∈ F2 ∨ w4'.heap.size ≤ k) : Both w w5 g1 g2 s' := by
  have z1 := Od.size; have z2 := O4.size; have z3 := Om.size
  have far : ∀ x ∈ g1 :: F4, x ∉ g2 :: F2 := fun x hx hm => by
    have hlt : x < wr.heap.size := by
      rcases List.mem_cons.1 hm with e | e
      · rw [e]; exact L2.lt
      · exact L2.flt x e
    rcases List.mem_cons.1 hx with e | e
    · exact PD x (by simp [e]) hm
    · rcases B4 x e with h | h
      · exact PD x (by simp [h]) hm
      · omega
  have Q3 := QR.then Od
  have Q4 := own_step Q3 O4 P1
  have P4 := fp_step Q3 P1 B4
  refine ⟨F4, F5, (L4.keep Om).only O5 (far g1 (by simp)) (fun k hk => far k (by simp [hk])), L5, own_step (Q4.then Om) O5 P2, P4, fp_step (Q4.then Om) P2 B5, fun x hx hm => ?_⟩
  have hlt : x < w4.heap.size := by
    rcases List.mem_cons.1 hx with e | e
    · rw [e]; exact L4.lt
    · exact L4.flt x e
  rcases List.mem_cons.1 hm with e | e
  · exact far x hx (by simp [e])
  · rcases B5 x e with h | h
    · exact far x hx (by simp [h])
    · omega
theorem Both.keep {w wr w' : World} {g1 g2 : Nat} {s : LS} (h : Both w wr g1 g2 s) (o : Only [] wr w') : Both w w' g1 g2 s := by
  obtain ⟨F1, F2, L1, L2, Q, P1, P2, PD⟩ := h
  exact ⟨F1, F2, L1.keep o, L2.keep o, Q.then o, P1, P2, PD⟩
/-- Next, its answer in named parts. -/
def EvN (r : Bool) (w : World) (g : Nat) (F : List Nat) (s' : LS) (K : Nat) (D : Nat) (d : List UInt8) (b : Bool) (e : Ending) (w' : World) : Prop :=
  ∃ A c F', e = .returned (.tuple #[.agg #[.int .i64 (K : Int), .slice A D c], .bool b]) ∧ Sl w' A D (bvs d) ∧ (∀ k ∈ blks A, w.heap.size ≤ k ∧ k < w'.heap.size) ∧ Ln r w' g F' s' ∧ Only (g :: F) w w' ∧ ∀ k ∈ F', k ∈ F
theorem evn_of {r : Bool} {w : World} {g : Nat} {F : List Nat} {s' : LS} {x : Option Ev} {K D : Nat} {d : List UInt8} {b : Bool} {f : FuncId} {args : Array Value} (h : Calls Try.prog f args w (Spoke r w g F s' x)) (hk : evKind x = K) (hd : evData x = d) (hn : d.length = D) (hb : x.isSome = b) : Calls Try.prog f args w (EvN r w g F s' K D d b) := by
  subst hk hd hn hb
  exact h
theorem new_y (w : World) : Ln true (w.alloc (.cells #[.slice none 0 0, .bool false, .int .i64 0, .bool false] 29)) w.heap.size [] K0 :=
  ⟨none, 0, 0, Bk.new w _ _, (Gro.nil w).alloc _, (by intro m hm; cases hm), rfl, (by simp), (by simp [K0])⟩

set_option maxRecDepth 100000 in
set_option maxHeartbeats 8000000 in
theorem plays_any (A : Option Addr) (n c : Nat) (l : List LAct) (w : World) (hl : Acts w A n l) (hb : ∀ a ∈ l, a.b.length ≤ 140737488351232) (hn : n ≤ 4611686018427387904) :
    Calls Try.prog 3 #[.slice A n c] w fun e w' => e = .returned (.bool true) ∧ Only [] w w' := by
  have HLONG := Lib.hid (long_bool A n c l w hl hb hn)
  have HLL := Lib.hid hl.1
  have HA := Lib.hid hl
  clear hl hb
  go_enter Try.func3, Try.ntmps3
  go_wp2_with (first
    | (go_at_call 11; (with_reducible refine (new_g w).mono ?_); rintro e w1 ⟨g1, rfl, L1, O1, P1⟩)
    | (go_at_call 10; (with_reducible refine HLONG.out.mono ?_); clear HLONG; rintro e w0 ⟨B, rfl, rfl⟩; cases B))
  · have hB0 : Both w (w1.alloc (.cells #[.slice none 0 0, .bool false, .int .i64 0, .bool false] 29)) g1 w1.heap.size K0 :=
      ⟨[], [], L1.keep ((Only.refl [] w1).alloc _), new_y w1, O1.alloc _, P1, (fun x hx => by simp at hx; subst hx; exact O1.size), (fun x hx hm => by simp at hx hm; subst hx; have := L1.lt; omega)⟩
    have HB0 := Lib.hid hB0
    generalize hg2 : w1.heap.size = g2 at HB0 ⊢
    clear hB0 hg2 L1 O1 P1
    go_loopw [5] (fun i wr => ∃ (k : Nat) (s : LS), k ≤ n ∧ k ≤ 100 ∧ i = .int .i64 (k : Int) ∧ Hid (Both w wr g1 g2 s)) (fun i _ => n - (intOf i).toNat)
    case atStart => exact ⟨0, K0, Nat.zero_le _, by omega, rfl, HB0.out⟩
    case round =>
      obtain ⟨k, s, hk, hk1, rfl, HJ⟩ := hrel
      by_cases hlt : k < n ∧ k < 100
      · obtain ⟨hkn, hk100⟩ := hlt
        have h1 : (k : Int) < (n : Int) := by omega
        have h2 : (k : Int) < 100 := by omega
        have hkl : k < l.length := by rw [HLL.out]; exact hkn
        obtain ⟨F1, F2, L1, L2, QR, P1, P2, PD⟩ := HJ.out
        obtain ⟨ad, Ab, cb, rfl, c0, c1, c2, hs⟩ := HA.out.at_ k hkl
        have hlt1 := block_lt_of_cell c1
        have hlt2 := block_lt_of_cell c2
        obtain ⟨a, ha⟩ : ∃ a, a = l[k] := ⟨_, rfl⟩
        rw [← ha] at c0 c1 c2 hs
        obtain ⟨K, x, N⟩ := a
        obtain ⟨D, hD⟩ : ∃ D, D = x.length := ⟨_, rfl⟩
        simp only at c0 c1 c2 hs
        rw [← hD] at c1 hs
        have HD := Lib.hid hD
        have HS := Lib.hid hs
        replace c0 := QR.cellSome c0 (fun hm => nomatch hm)
        replace c1 := QR.cellSome c1 (fun hm => nomatch hm)
        replace c2 := QR.cellSome c2 (fun hm => nomatch hm)
        have Qd : Only [] wr wr.drew := (Only.refl [] wr).drew
        have HL1 := Lib.hid (L1.keep Qd)
        have HL2 := Lib.hid (L2.keep Qd)
        have hg2' : g2 ∉ g1 :: F1 := fun hm => PD g2 hm (by simp)
        have HG2 := Lib.hid hg2'
        have HP1 := Lib.hid P1
        have HQR := Lib.hid QR
        clear hD ha hs hg2'
        by_cases hK1 : K = 1
        · subst hK1
          have HFA := Lib.hid (Feed_any HL1.out Ab D cb x ((HS.out.keep HQR.out).keep Qd))
          go_wp2_with fail
          go_region_held3 (fun w' => w'.cell? ⟨(ad.add (k * 3)).block, (ad.add (k * 3)).off + 1, none⟩ = some (.slice Ab D cb)) (first | go_keep | exact k1 | exact k2)
            (first
              | (go_at_call 12; (with_reducible refine (HFA.out).mono ?_); rintro e w4 ⟨F4, rfl, L4, O4, B4⟩
                 have Q4 := own_step (HQR.out.then Qd) O4 HP1.out
                 have k1 := O4.cellSome (p := ⟨(ad.add (k * 3)).block, (ad.add (k * 3)).off + 1, none⟩) c1 (fun hm => by have := HP1.out _ hm; simp only at this hlt1; omega)
                 have L24 := HL2.out.only O4 HG2.out (fun y hy hm => PD y hm (by simp [hy])))
              | (go_at_call 13; (with_reducible refine (refFeed_any L24 Ab D cb x (HS.out.keep Q4)).mono ?_); rintro e w5 ⟨F5, rfl, L5, O5, B5⟩
                 have hB5 := Lib.hid (both_step L2 HQR.out HP1.out P2 PD Qd L4 O4 B4 (Only.refl [] w4) L5 O5 B5)
                 have k2 := O5.cellSome (p := ⟨(ad.add (k * 3)).block, (ad.add (k * 3)).off + 1, none⟩) k1 (fun hm => by have := P2 _ hm; simp only at this hlt1; omega)))
          have hBX := hB5
          clear c0 c1 c2 k1 k2 L24 L4 L5 O4 O5 B4 B5 Q4 hlt1 hlt2
          obtain ⟨F1x, F2x, L1x, L2x, QX, P1x, P2x, PDx⟩ := hBX.out
          obtain ⟨A9, c9, k9, b9, _⟩ := L2x
          obtain ⟨M, hM⟩ : ∃ M, M = (feedS s x).b.length := ⟨_, rfl⟩
          have y0 : w5.cell? ⟨g2, 0, none⟩ = some (.slice A9 M c9) := by rw [b9.cell, hM]; rfl
          have HM := Lib.hid hM
          clear b9 hM
          try go_wp2_with fail
          apply region_only (by kernel_rfl) (by kernel_rfl)
          apply rel_val (hrf := Tk_refl)
          case hw => rfl
          case hy => intro wS hN hF; skip; first | (go_simp; done) | (go_simp; with_reducible rfl)
          case' hk => skip
          try simp only [Act.put, List.setIfInBounds_toArray, List.set_cons_zero, List.set_cons_succ]
          apply rel_call (v := .int .i64 (M : Int)) (f := 19) (args := #[.pointer (some ⟨g1, 0, none⟩)])
          case hw => rfl
          case hy => intro wS hN hF; go_simp
          case hc => intro wS hN hF; exact call_same (Len_as (L1x.keep ((Only.refl [] _).drew.then (hN.pre (by kernel_rfl)))) (M : Int) (by rw [HM.out]))
          case' hk => skip
          try simp only [Act.put, List.setIfInBounds_toArray, List.set_cons_zero, List.set_cons_succ]
          apply rel_val (hrf := Tk_refl)
          case hw => rfl
          case hy => intro wS hN hF; skip; first | (go_simp; done) | (go_simp; with_reducible rfl)
          case' hk => skip
          try simp only [Act.put, List.setIfInBounds_toArray, List.set_cons_zero, List.set_cons_succ]
          apply rel_val (hrf := Tk_refl)
          case hw => rfl
          case hy => intro wS hN hF; skip; first | (go_simp; done) | (go_simp; with_reducible rfl)
          case' hk => skip
          try simp only [Act.put, List.setIfInBounds_toArray, List.set_cons_zero, List.set_cons_succ]
          apply rel_val (hrf := Tk_refl)
          case hw => rfl
          case hy => intro wS hN hF; skip; first | (go_simp; done) | (go_simp; with_reducible rfl)
          case' hk => skip
          try simp only [Act.put, List.setIfInBounds_toArray, List.set_cons_zero, List.set_cons_succ]
          apply rel_val (hrf := Tk_refl)
          case hw => rfl
          case hy => intro wS hN hF; have hO := hN.pre (by kernel_rfl); have h0 := hO.cellSome (p := ⟨g2, 0, none⟩) y0 (fun hm => nomatch hm); first | (go_simp; done) | (go_simp; with_reducible rfl)
          case' hk => skip
          try simp only [Act.put, List.setIfInBounds_toArray, List.set_cons_zero, List.set_cons_succ]
          apply rel_val (hrf := Tk_refl)
          case hw => rfl
          case hy => intro wS hN hF; skip; first | (go_simp; done) | (go_simp; with_reducible rfl)
          case' hk => skip
          try simp only [Act.put, List.setIfInBounds_toArray, List.set_cons_zero, List.set_cons_succ]
          apply rel_val (v := .bool false) (hrf := Tk_refl)
          case hw => rfl
          case hy =>
            intro wS hN hF
            go_simp
          case' hk => skip
          try simp only [Act.put, List.setIfInBounds_toArray, List.set_cons_zero, List.set_cons_succ]
          refine rel_end ?_
          intro wS hO hF
          clear hF
          go_wp2
          go_roundw
          case rel => exact ⟨k + 1, feedS s x, by omega, by omega, by go_num, hBX.out.keep ((Only.refl [] _).drew.then hO.only)⟩
          case measure => simp [intOf]; omega
        · by_cases hK2 : K = 2
          · subst hK2
            obtain ⟨E, hE⟩ : ∃ E, nextR s = E := ⟨_, rfl⟩
            obtain ⟨S', hS'⟩ : ∃ S', nextS s = S' := ⟨_, rfl⟩
            obtain ⟨KE, hKE⟩ : ∃ KE, evKind E = KE := ⟨_, rfl⟩
            obtain ⟨d, hd⟩ : ∃ d, evData E = d := ⟨_, rfl⟩
            obtain ⟨DE, hDE⟩ : ∃ DE, d.length = DE := ⟨_, rfl⟩
            obtain ⟨bE, hbE⟩ : ∃ bE, E.isSome = bE := ⟨_, rfl⟩
            have HNX := Lib.hid (evn_of (by have h := Next_any L1; rw [hE, hS'] at h; exact h) hKE hd hDE hbE)
            have HNY := Lib.hid (fun (V : World) (h : Ln true V g2 F2 s) => evn_of (by have h' := refNext_any h; rw [hE, hS'] at h'; exact h') hKE hd hDE hbE)
            clear hE hS' hKE hd hDE hbE c1 c2
            have HG2' := HG2
            go_wp2_with (first
              | (go_at_call 16; (with_reducible refine (same_yes KE A4 A5 DE c4 c5 d _ V45 (V5.alloc _)).mono ?_); rintro e w6 ⟨rfl, O6⟩
                 have hBX := Lib.hid ((both_step L2 HQR.out HP1.out P2 PD (Only.refl [] wr) L4 O4 (fun y hy => .inl (S4 y hy)) ((Only.refl [] w4).alloc _) L5 O5 (fun y hy => .inl (S5 y hy))).keep (((Only.refl [] w5).alloc (.cells #[.int .i64 (KE : Int), .slice A5 DE c5] 36)).then O6)))
              | (go_at_call 15; (with_reducible refine (HNY.out _ L24).mono ?_); clear HNY; rintro e w5 ⟨A5, c5, F5, rfl, V5, B5, L5, O5, S5⟩
                 have hz4 := O4.size
                 have E5 := ((Bk.new w4 36 #[.int .i64 (KE : Int), .slice A4 DE c4]).only O5 (fun hm => by rcases List.mem_cons.1 hm with h | h; (have := L2.lt; omega); (have := L2.flt _ h; omega))).alloc (.cells #[.int .i64 (KE : Int), .slice A5 DE c5] 36)
                 have e0 : (w5.alloc (.cells #[.int .i64 (KE : Int), .slice A5 DE c5] 36)).cell? ⟨w4.heap.size, 0, none⟩ = some (.int .i64 (KE : Int)) := (by rw [E5.cell]; rfl)
                 have e1 : (w5.alloc (.cells #[.int .i64 (KE : Int), .slice A5 DE c5] 36)).cell? ⟨w4.heap.size, 1, none⟩ = some (.slice A4 DE c4) := (by rw [E5.cell]; rfl)
                 have V45 := ((V4.alloc (.cells #[.int .i64 (KE : Int), .slice A4 DE c4] 36)).only O5 (fun ad' e hm => by subst e; have h0 := (B4 ad'.block (by simp)).1; rcases List.mem_cons.1 hm with h | h; (have := L2.lt; omega); (have := L2.flt _ h; omega))).alloc (.cells #[.int .i64 (KE : Int), .slice A5 DE c5] 36)
                 clear E5)
              | (go_at_call 14; (with_reducible refine HNX.out.mono ?_); clear HNX; rintro e w4 ⟨A4, c4, F4, rfl, V4, B4, L4, O4, S4⟩
                 have L24 := (L2.only O4 HG2.out (fun y hy hm => PD y hm (by simp [hy]))).keep ((Only.refl [] w4).alloc (.cells #[.int .i64 (KE : Int), .slice A4 DE c4] 36))))
            clear V45 V5 V4 B4 B5 L4 L5 O4 O5 S4 S5 e0 e1 L24 E c0 O6 hz4
            obtain ⟨F1x, F2x, L1x, L2x, QX, P1x, P2x, PDx⟩ := hBX.out
            obtain ⟨A9, c9, k9, b9, _⟩ := L2x
            obtain ⟨M, hM⟩ : ∃ M, M = (S').b.length := ⟨_, rfl⟩
            have y0 : w6.cell? ⟨g2, 0, none⟩ = some (.slice A9 M c9) := by rw [b9.cell, hM]; rfl
            have HM := Lib.hid hM
            clear b9 hM
            try go_wp2_with fail
            apply region_only (by kernel_rfl) (by kernel_rfl)
            apply rel_val (hrf := Tk_refl)
            case hw => rfl
            case hy => intro wS hN hF; skip; first | (go_simp; done) | (go_simp; with_reducible rfl)
            case' hk => skip
            try simp only [Act.put, List.setIfInBounds_toArray, List.set_cons_zero, List.set_cons_succ]
            apply rel_call (v := .int .i64 (M : Int)) (f := 19) (args := #[.pointer (some ⟨g1, 0, none⟩)])
            case hw => rfl
            case hy => intro wS hN hF; go_simp
            case hc => intro wS hN hF; exact call_same (Len_as (L1x.keep ((Only.refl [] _).drew.then (hN.pre (by kernel_rfl)))) (M : Int) (by rw [HM.out]))
            case' hk => skip
            try simp only [Act.put, List.setIfInBounds_toArray, List.set_cons_zero, List.set_cons_succ]
            apply rel_val (hrf := Tk_refl)
            case hw => rfl
            case hy => intro wS hN hF; skip; first | (go_simp; done) | (go_simp; with_reducible rfl)
            case' hk => skip
            try simp only [Act.put, List.setIfInBounds_toArray, List.set_cons_zero, List.set_cons_succ]
            apply rel_val (hrf := Tk_refl)
            case hw => rfl
            case hy => intro wS hN hF; skip; first | (go_simp; done) | (go_simp; with_reducible rfl)
            case' hk => skip
            try simp only [Act.put, List.setIfInBounds_toArray, List.set_cons_zero, List.set_cons_succ]
            apply rel_val (hrf := Tk_refl)
            case hw => rfl
            case hy => intro wS hN hF; skip; first | (go_simp; done) | (go_simp; with_reducible rfl)
            case' hk => skip
            try simp only [Act.put, List.setIfInBounds_toArray, List.set_cons_zero, List.set_cons_succ]
            apply rel_val (hrf := Tk_refl)
            case hw => rfl
            case hy => intro wS hN hF; have hO := hN.pre (by kernel_rfl); have h0 := hO.cellSome (p := ⟨g2, 0, none⟩) y0 (fun hm => nomatch hm); first | (go_simp; done) | (go_simp; with_reducible rfl)
            case' hk => skip
            try simp only [Act.put, List.setIfInBounds_toArray, List.set_cons_zero, List.set_cons_succ]
            apply rel_val (hrf := Tk_refl)
            case hw => rfl
            case hy => intro wS hN hF; skip; first | (go_simp; done) | (go_simp; with_reducible rfl)
            case' hk => skip
            try simp only [Act.put, List.setIfInBounds_toArray, List.set_cons_zero, List.set_cons_succ]
            apply rel_val (v := .bool false) (hrf := Tk_refl)
            case hw => rfl
            case hy =>
              intro wS hN hF
              go_simp
            case' hk => skip
            try simp only [Act.put, List.setIfInBounds_toArray, List.set_cons_zero, List.set_cons_succ]
            refine rel_end ?_
            intro wS hO hF
            clear hF
            go_wp2
            go_roundw
            case rel => exact ⟨k + 1, S', by omega, by omega, by go_num, hBX.out.keep ((Only.refl [] _).drew.then hO.only)⟩
            case measure => simp [intOf]; omega
          · have hK1b : (K == 1) = false := by rw [beq_eq_false_iff_ne]; exact hK1
            have hK2b : (K == 2) = false := by rw [beq_eq_false_iff_ne]; exact hK2
            clear hK1 hK2
            have HFA := Lib.hid (Want_any HL1.out N)
            go_wp2_with fail
            go_region_held3 (fun w' => w'.cell? ⟨(ad.add (k * 3)).block, (ad.add (k * 3)).off + 2, none⟩ = some (.int .i64 N)) (first | go_keep | exact k1 | exact k2)
              (first
                | (go_at_call 17; (with_reducible refine (HFA.out).mono ?_); rintro e w4 ⟨F4, rfl, L4, O4, B4⟩
                   have k1 := O4.cellSome (p := ⟨(ad.add (k * 3)).block, (ad.add (k * 3)).off + 2, none⟩) c2 (fun hm => by have := HP1.out _ hm; simp only at this hlt2; omega)
                   have L24 := HL2.out.only O4 HG2.out (fun y hy hm => PD y hm (by simp [hy])))
                | (go_at_call 18; (with_reducible refine (refWant_any L24 N).mono ?_); rintro e w5 ⟨F5, rfl, L5, O5, B5⟩
                   have hB5 := Lib.hid (both_step L2 HQR.out HP1.out P2 PD Qd L4 O4 B4 (Only.refl [] w4) L5 O5 B5)
                   have k2 := O5.cellSome (p := ⟨(ad.add (k * 3)).block, (ad.add (k * 3)).off + 2, none⟩) k1 (fun hm => by have := P2 _ hm; simp only at this hlt2; omega)))
            have hBX := hB5
            clear c0 c1 c2 k1 k2 L24 L4 L5 O4 O5 B4 B5 hlt1 hlt2
            obtain ⟨F1x, F2x, L1x, L2x, QX, P1x, P2x, PDx⟩ := hBX.out
            obtain ⟨A9, c9, k9, b9, _⟩ := L2x
            obtain ⟨M, hM⟩ : ∃ M, M = (wantS s N).b.length := ⟨_, rfl⟩
            have y0 : w5.cell? ⟨g2, 0, none⟩ = some (.slice A9 M c9) := by rw [b9.cell, hM]; rfl
            have HM := Lib.hid hM
            clear b9 hM
            try go_wp2_with fail
            apply region_only (by kernel_rfl) (by kernel_rfl)
            apply rel_val (hrf := Tk_refl)
            case hw => rfl
            case hy => intro wS hN hF; skip; first | (go_simp; done) | (go_simp; with_reducible rfl)
            case' hk => skip
            try simp only [Act.put, List.setIfInBounds_toArray, List.set_cons_zero, List.set_cons_succ]
            apply rel_call (v := .int .i64 (M : Int)) (f := 19) (args := #[.pointer (some ⟨g1, 0, none⟩)])
            case hw => rfl
            case hy => intro wS hN hF; go_simp
            case hc => intro wS hN hF; exact call_same (Len_as (L1x.keep ((Only.refl [] _).drew.then (hN.pre (by kernel_rfl)))) (M : Int) (by rw [HM.out]))
            case' hk => skip
            try simp only [Act.put, List.setIfInBounds_toArray, List.set_cons_zero, List.set_cons_succ]
            apply rel_val (hrf := Tk_refl)
            case hw => rfl
            case hy => intro wS hN hF; skip; first | (go_simp; done) | (go_simp; with_reducible rfl)
            case' hk => skip
            try simp only [Act.put, List.setIfInBounds_toArray, List.set_cons_zero, List.set_cons_succ]
            apply rel_val (hrf := Tk_refl)
            case hw => rfl
            case hy => intro wS hN hF; skip; first | (go_simp; done) | (go_simp; with_reducible rfl)
            case' hk => skip
            try simp only [Act.put, List.setIfInBounds_toArray, List.set_cons_zero, List.set_cons_succ]
            apply rel_val (hrf := Tk_refl)
            case hw => rfl
            case hy => intro wS hN hF; skip; first | (go_simp; done) | (go_simp; with_reducible rfl)
            case' hk => skip
            try simp only [Act.put, List.setIfInBounds_toArray, List.set_cons_zero, List.set_cons_succ]
            apply rel_val (hrf := Tk_refl)
            case hw => rfl
            case hy => intro wS hN hF; have hO := hN.pre (by kernel_rfl); have h0 := hO.cellSome (p := ⟨g2, 0, none⟩) y0 (fun hm => nomatch hm); first | (go_simp; done) | (go_simp; with_reducible rfl)
            case' hk => skip
            try simp only [Act.put, List.setIfInBounds_toArray, List.set_cons_zero, List.set_cons_succ]
            apply rel_val (hrf := Tk_refl)
            case hw => rfl
            case hy => intro wS hN hF; skip; first | (go_simp; done) | (go_simp; with_reducible rfl)
            case' hk => skip
            try simp only [Act.put, List.setIfInBounds_toArray, List.set_cons_zero, List.set_cons_succ]
            apply rel_val (v := .bool false) (hrf := Tk_refl)
            case hw => rfl
            case hy =>
              intro wS hN hF
              go_simp
            case' hk => skip
            try simp only [Act.put, List.setIfInBounds_toArray, List.set_cons_zero, List.set_cons_succ]
            refine rel_end ?_
            intro wS hO hF
            clear hF
            go_wp2
            go_roundw
            case rel => exact ⟨k + 1, wantS s N, by omega, by omega, by go_num, hBX.out.keep ((Only.refl [] _).drew.then hO.only)⟩
            case measure => simp [intOf]; omega
      · have hex : (k = 100 ∧ ((100 : Int) < (n : Int) ∨ ¬ (100 : Int) < (n : Int))) ∨ (k = n ∧ ¬ (k : Int) < (n : Int)) := by omega
        have HEX := Lib.hid hex
        clear hex
        obtain ⟨_, _, _, _, QR, _⟩ := HJ.out
        rcases HEX.out with ⟨h, h' | h'⟩ | ⟨h, h'⟩
        all_goals
          clear HEX
          first
            | subst h
            | skip
          go_wp2_with (go_at_call 20; (with_reducible refine (known_any _).mono ?_); rintro e w9 ⟨rfl, O9⟩)
          go_ret
          exact ⟨rfl, QR.then O9⟩
  · go_ret
    exact ⟨rfl, Only.refl _ _⟩
end Go.Proofs.Ytiekhgignmbaeaa
