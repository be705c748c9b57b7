/-
  box: Add.
-/
import Derived.Test.YthaodlegpjedoaaVHas
import Derived.Deep.RegionLaw
namespace Go.Proofs.Ythaodlegpjedoaa
open Go.RowKit Go.Instr

theorem step_append_ms {ops : Array Oper} {o : Oper} {a : Act} {w : World} {K : Act → World → Prop} {Q : Exit → Act → World → Prop} {E : Prop} (hgd : o.guard = none) (s x : Operand)
    (ho : o.op = .call { callee := .builtin .append, args := #[s, x], argTypes := #[24, 24] }) {S : Nat → Prop} (A : Option Addr) (n c : Nat) (l : List Mg) (hs : a.eval s = .slice A n c) (h : Mo S w A n c l)
    (A2 : Option Addr) (m c2 : Nat) (r : List Mg) (hx : a.eval x = .slice A2 m c2) (h2 : Ms (fun x => S x ∧ x ∉ blks A) w A2 m r) (hS : ∀ x, w.heap.size ≤ x → S x) (hn : n + m ≤ 1000000000000) (q : Nat) (hq : n + m = q)
    (hK : ∀ A' c' w', Mo S w' A' q c' (l ++ r) → Only (blks A) w w' → (∀ k ∈ blks A', k ∈ blks A ∨ w.heap.size ≤ k) → K (a.put o.dst (.slice A' q c')) w') :
    if Region.wanted o (yielded ops a.tmps) = true then Oper.wp Try.prog o a w K Q else E := by
  subst hq
  have hw : Region.wanted o (yielded ops a.tmps) = true := by simp [Region.wanted, hgd]
  rw [if_pos hw]
  obtain ⟨A', c', w', hrun, k1, k2, k3⟩ := run_append_ms o.type A n c l h A2 m c2 r h2 hS hn
  unfold Oper.wp execOp
  simp only [ho, resolve, invoke, builtin, Sem.run_bind, Sem.run_pure, Result.andThen_ok, List.map_toArray, List.map_cons, List.map_nil, hs, hx, hrun]
  exact hK _ _ _ k1 k2 k3

set_option maxRecDepth 100000 in
theorem refusal_any {w : World} (b : Bx) {A : Option Addr} {c : Nat} (f d : Int) (P : Option Addr) (m cp : Nat) :
    Calls Try.prog 65 #[bxv b A c, .int .i64 f, .int .i64 d, .slice P m cp] w fun e w' => e = .returned (.int .i64 (addE b f d m)) ∧ Only [] w w' := by
  obtain ⟨s, v, x, l⟩ := b
  obtain ⟨n, hl⟩ : ∃ n, l.length = n := ⟨_, rfl⟩
  rw [bxv_eq hl]
  obtain ⟨q, hq⟩ : ∃ q, addE ⟨s, v, x, l⟩ f d m = q := ⟨_, rfl⟩
  rw [hq]
  have hq' : q = if markOk f d = false then 1 else if 1200 < m then 5 else if 24 ≤ n then 6 else if 1048576 ≤ x then 10 else 0 := by rw [← hq]; unfold addE; simp only; rw [hl]
  have cM := fun W => mayMark_any f d W
  have hO0 : Only [] w (w.alloc (.cells #[.string (St s), .int .i64 v, .int .i64 x, .slice A n c] 26)) := (Only.refl _ _).alloc _
  clear hq hl
  generalize markOk f d = p at *
  generalize St s = t at *
  cases p
  · have HQ := Lib.hid hq'
    clear hq'
    go_enter Try.func65, Try.ntmps65
    go_wp2_with (go_at_call 56; with_reducible refine (cM _).mono ?_; rintro e w3 ⟨rfl, rfl⟩)
    go_ret
    exact ⟨by rw [HQ.out]; rfl, hO0⟩
  · rw [if_neg (by simp)] at hq'
    by_cases h1 : 1200 < m
    · rw [if_pos h1] at hq'
      have i1 : (1200 : Int) < (m : Int) := by omega
      have HQ := Lib.hid hq'
      clear hq' h1
      go_enter Try.func65, Try.ntmps65
      go_wp2_with (go_at_call 56; with_reducible refine (cM _).mono ?_; rintro e w3 ⟨rfl, rfl⟩)
      go_ret
      exact ⟨by rw [HQ.out]; rfl, hO0⟩
    · rw [if_neg h1] at hq'
      have i1 : ¬ (1200 : Int) < (m : Int) := by omega
      by_cases h2 : 24 ≤ n
      · rw [if_pos h2] at hq'
        have i2 : (24 : Int) ≤ (n : Int) := by omega
        have HQ := Lib.hid hq'
        clear hq' h1 h2
        go_enter Try.func65, Try.ntmps65
        go_wp2_with (go_at_call 56; with_reducible refine (cM _).mono ?_; rintro e w3 ⟨rfl, rfl⟩)
        go_ret
        exact ⟨by rw [HQ.out]; rfl, hO0⟩
      · rw [if_neg h2] at hq'
        have i2 : ¬ (24 : Int) ≤ (n : Int) := by omega
        by_cases h3 : 1048576 ≤ x
        · rw [if_pos h3] at hq'
          have HQ := Lib.hid hq'
          clear hq' h1 h2
          go_enter Try.func65, Try.ntmps65
          go_wp2_with (go_at_call 56; with_reducible refine (cM _).mono ?_; rintro e w3 ⟨rfl, rfl⟩)
          go_ret
          exact ⟨by rw [HQ.out]; rfl, hO0⟩
        · rw [if_neg h3] at hq'
          have HQ := Lib.hid hq'
          clear hq' h1 h2
          go_enter Try.func65, Try.ntmps65
          go_wp2_with (go_at_call 56; with_reducible refine (cM _).mono ?_; rintro e w3 ⟨rfl, rfl⟩)
          go_ret
          exact ⟨by rw [HQ.out]; rfl, hO0⟩

/-- A mailbox stored whole. -/
theorem bk_store {w : World} {g : Nat} {t : TypeId} {a0 a1 a2 a3 : Value} (h : Bk w g t #[a0, a1, a2, a3]) (b0 b1 b2 b3 : Value) :
    Bk ((((w.setCell ⟨g, 0, none⟩ b0).setCell ⟨g, 1, none⟩ b1).setCell ⟨g, 2, none⟩ b2).setCell ⟨g, 3, none⟩ b3) g t #[b0, b1, b2, b3] := by
  simpa using (((h.set 0 b0).set 1 b1).set 2 b2).set 3 b3
theorem only_store {rs : List Nat} {w w' : World} {g : Nat} (o : Only rs w w') (hg : g ∈ rs ∨ w.heap.size ≤ g) (b0 b1 b2 b3 : Value) :
    Only rs w ((((w'.setCell ⟨g, 0, none⟩ b0).setCell ⟨g, 1, none⟩ b1).setCell ⟨g, 2, none⟩ b2).setCell ⟨g, 3, none⟩ b3) :=
  ((((o.setCell (p := ⟨g, 0, none⟩) hg b0).setCell (p := ⟨g, 1, none⟩) hg b1).setCell (p := ⟨g, 2, none⟩) hg b2).setCell (p := ⟨g, 3, none⟩) hg b3)
theorem Ms.store {S : Nat → Prop} {w : World} {A : Option Addr} {n g : Nat} {l : List Mg} (h : Ms S w A n l) (hg : ¬ S g) (b0 b1 b2 b3 : Value) :
    Ms S ((((w.setCell ⟨g, 0, none⟩ b0).setCell ⟨g, 1, none⟩ b1).setCell ⟨g, 2, none⟩ b2).setCell ⟨g, 3, none⟩ b3) A n l :=
  h.only (only_store (Only.refl [g] w) (.inl (by simp)) b0 b1 b2 b3) (fun x hx hm => by simp at hm; subst hm; exact hg hx)
theorem bxc_eq {s : List UInt8} {v x : Int} {l : List Mg} {n : Nat} (h : l.length = n) (A : Option Addr) (c : Nat) : bxc ⟨s, v, x, l⟩ A c = #[.string (St s), .int .i64 v, .int .i64 x, .slice A n c] := by
  subst h
  rfl
/-- What a message's append wants. -/
theorem add_piece {S : Nat → Prop} {w w3 w4 : World} {A1 A4 : Option Addr} {n m c1 c4 : Nat} {l : List Mg} {x f d : Int} {p : List UInt8} (hM : Mo (fun y => S y ∧ y ≠ w.heap.size ∧ y ≠ w.heap.size + 1) w3 A1 n c1 l) (hO : Only [] w w3) (O4 : Only [] w3 w4) (hp : p.length = m)
    (V4 : Own w4 5 A4 m c4 (bvs p)) (B4 : ∀ k ∈ blks A4, w3.heap.size ≤ k) (hS : ∀ x, w.heap.size ≤ x → S x) (h2 : w.heap.size + 1 < w3.heap.size) :
    Mo (fun y => S y ∧ y ≠ w.heap.size ∧ y ≠ w.heap.size + 1) (w4.alloc (.cells #[.int .i64 x, .int .i64 f, .int .i64 d, .slice A4 m c4] 62)) A1 n c1 l ∧
      Ms (fun y => (S y ∧ y ≠ w.heap.size ∧ y ≠ w.heap.size + 1) ∧ y ∉ blks A1) (w4.alloc (.cells #[.int .i64 x, .int .i64 f, .int .i64 d, .slice A4 m c4] 62)) (some ⟨w4.heap.size, 0, none⟩) 1 [⟨x, f, d, p⟩] ∧
      ∀ y, (w4.alloc (.cells #[.int .i64 x, .int .i64 f, .int .i64 d, .slice A4 m c4] 62)).heap.size ≤ y → S y ∧ y ≠ w.heap.size ∧ y ≠ w.heap.size + 1 := by
  have z1 := hO.size
  have z2 := O4.size
  have hM4 := hM.keep O4
  subst hp
  refine ⟨(hM.keep O4).keep ((Only.refl [] w4).alloc _), Ms.of_bk (Ab := A4) (cb := c4) (t := 62) (Bk.new w4 62 _) ⟨⟨hS _ (by omega), by omega, by omega⟩, fun hm => by have := hM4.lt hm; omega⟩ (V4.sl.alloc _) (fun _ ad e => ?_), fun y hy => ?_⟩
  · subst e
    have h1 := B4 ad.block (by simp)
    exact ⟨⟨hS _ (by omega), by omega, by omega⟩, fun hm => by have := hM.lt hm; omega⟩
  · simp at hy
    exact ⟨hS _ (by omega), by omega, by omega⟩
/-- Add's answer. -/
def Added (S : Nat → Prop) (w : World) (b : Bx) (u : Int) (er : Int) (e : Ending) (w' : World) : Prop :=
  ∃ A' c', e = .returned (.tuple #[bxv b A' c', .int .i64 u, .int .i64 er]) ∧ Ms S w' A' b.l.length b.l ∧ Only [] w w'
set_option maxRecDepth 100000 in
set_option maxHeartbeats 4000000 in
theorem Add_any {S : Nat → Prop} {w : World} (b : Bx) {A : Option Addr} {c : Nat} (h : Ms S w A b.l.length b.l) (hn : b.l.length ≤ 1000000) (hb : ∀ m ∈ b.l, m.body.length ≤ 1000000) (hx : 0 ≤ b.next) (hS : ∀ x, w.heap.size ≤ x → S x) (f d : Int)
    (P : Option Addr) (m cp : Nat) (p : List UInt8) (hp : Sl w P m (bvs p)) :
    Calls Try.prog 31 #[bxv b A c, .int .i64 f, .int .i64 d, .slice P m cp] w (Added S w (addB b f d p) (addU b f d p.length) (addE b f d p.length)) := by
  have hpl : p.length = m := by simpa using hp.len
  rw [hpl]
  obtain ⟨s, v, x, l⟩ := b
  obtain ⟨n, hl⟩ : ∃ n, l.length = n := ⟨_, rfl⟩
  have cR := fun (W : World) (A' : Option Addr) (c' : Nat) => refusal_any (w := W) ⟨s, v, x, l⟩ (A := A') (c := c') f d P m cp
  simp only at h hn hb hx
  simp only [bxv_eq hl] at cR ⊢
  rw [hl] at h hn
  obtain ⟨q, hq⟩ : ∃ q, addE ⟨s, v, x, l⟩ f d m = q := ⟨_, rfl⟩
  rw [hq] at cR
  rw [hq]
  obtain ⟨b', hb'⟩ : ∃ b', addB ⟨s, v, x, l⟩ f d p = b' := ⟨_, rfl⟩
  obtain ⟨u', hu'⟩ : ∃ u', addU ⟨s, v, x, l⟩ f d m = u' := ⟨_, rfl⟩
  rw [hb', hu']
  have hO1 : Only [] w ((w.alloc (.cells #[.string (St s), .int .i64 v, .int .i64 x, .slice A n c] 26)).alloc (.cells #[.string ⟨#[]⟩, .int .i64 0, .int .i64 0, .slice none 0 0] 26)) := ((Only.refl _ _).alloc _).alloc _
  have hS1 : ∀ y, ((w.alloc (.cells #[.string (St s), .int .i64 v, .int .i64 x, .slice A n c] 26)).alloc (.cells #[.string ⟨#[]⟩, .int .i64 0, .int .i64 0, .slice none 0 0] 26)).heap.size ≤ y → S y := fun y hy => hS y (by have := hO1.size; omega)
  have b1 := (Bk.new w 26 #[.string (St s), .int .i64 v, .int .i64 x, .slice A n c]).alloc (.cells #[.string ⟨#[]⟩, .int .i64 0, .int .i64 0, .slice none 0 0] 26)
  have b2 := Bk.new (w.alloc (.cells #[.string (St s), .int .i64 v, .int .i64 x, .slice A n c] 26)) 26 #[.string ⟨#[]⟩, .int .i64 0, .int .i64 0, .slice none 0 0]
  rw [World.size_alloc] at b2
  have hT : ∀ y, ((w.alloc (.cells #[.string (St s), .int .i64 v, .int .i64 x, .slice A n c] 26)).alloc (.cells #[.string ⟨#[]⟩, .int .i64 0, .int .i64 0, .slice none 0 0] 26)).heap.size ≤ y → S y ∧ y ≠ w.heap.size ∧ y ≠ w.heap.size + 1 := fun y hy => ⟨hS1 y hy, by simp at hy; omega, by simp at hy; omega⟩
  have HM := Lib.hid (messages_any (c := c) ((h.lt.mono (S' := fun y => S y ∧ y ≠ w.heap.size ∧ y ≠ w.heap.size + 1) (fun y hy => ⟨hy.1, by omega, by omega⟩)).keep hO1) hn hb hT)
  have HB1 := Lib.hid b1
  have HB2 := Lib.hid b2
  have HS := Lib.hid hS
  have HP := Lib.hid hp
  have HO1 := Lib.hid hO1
  have HL := Lib.hid hl
  have HPL := Lib.hid hpl
  have HX := Lib.hid hx
  obtain ⟨t, ht⟩ : ∃ t, St s = t := ⟨_, rfl⟩
  have HT := Lib.hid ht
  rw [ht] at HM HB1 HB2 HO1 cR ⊢
  clear h hb hx hS hp hO1 hS1 hT b1 b2 hl hpl ht
  go_enter Try.func31, Try.ntmps31
  go_wp2_with (go_at_call 62; with_reducible refine HM.out.mono ?_; rintro e w1 ⟨A1, c1, rfl, M1, O1, B1⟩; obtain ⟨k0, k1, k2, k3⟩ := bk_four (HB1.out.only O1 (by simp)); have kf := (HB1.out.only O1 (by simp)).free 3)
  have hg1 : w.heap.size < w1.heap.size := lt_of_block (HB1.out.only O1 (by simp))
  obtain ⟨w2, hw2⟩ : ∃ w2, w1.setCell ⟨w.heap.size, 3, none⟩ (.slice A1 n c1) = w2 := ⟨_, rfl⟩
  have B1' : Bk w2 w.heap.size 26 #[.string t, .int .i64 v, .int .i64 x, .slice A1 n c1] := by rw [← hw2]; exact (HB1.out.only O1 (by simp)).set 3 _
  have B2' : Bk w2 (w.heap.size + 1) 26 #[.string ⟨#[]⟩, .int .i64 0, .int .i64 0, .slice none 0 0] := by rw [← hw2]; exact (HB2.out.only O1 (by simp)).far (by simp) _
  have M2 : Mo (fun y => S y ∧ y ≠ w.heap.size ∧ y ≠ w.heap.size + 1) w2 A1 n c1 l := by
    rw [← hw2]
    exact M1.only (rs := [w.heap.size]) ((Only.refl _ _).setCell (.inl (by simp)) _) (fun y hy hm => by simp at hm; exact hy.2.1 hm)
  have O2 : Only [] w w2 := by rw [← hw2]; exact ((HO1.out).then O1).setCell (.inr (Nat.le_refl _)) _
  rw [hw2]
  have HA1 : Hid (∀ k ∈ blks A1, w.heap.size ≤ k) := fun k hk => by have := B1 k hk; have := HO1.out.size; omega
  clear hw2 M1 k0 k1 k2 k3 kf HM HB1 HB2 HO1 hg1 O1 B1
  refine (cR _ _ _).mono ?_
  rintro e w3 ⟨rfl, O3⟩
  have hB1 := Lib.hid (B1'.only O3 (by simp))
  have hB2 := Lib.hid (B2'.only O3 (by simp))
  have hM := Lib.hid (M2.keep O3)
  have hO := Lib.hid (O2.then O3)
  obtain ⟨k0, k1, k2, k3⟩ := bk_four hB1.out
  obtain ⟨j0, j1, j2, j3⟩ := bk_four hB2.out
  have f0 := hB2.out.free 0
  have f1 := hB2.out.free 1
  have f2 := hB2.out.free 2
  have f3 := hB2.out.free 3
  clear B1' B2' M2 O2 O3 cR
  by_cases hq0 : q = 0
  · subst hq0
    have e1 : addB ⟨s, v, x, l⟩ f d p = ⟨s, v, x + 1, l ++ [⟨x, f, d, p⟩]⟩ := by unfold addB; rw [HPL.out, hq, if_pos rfl]
    have e2 : addU ⟨s, v, x, l⟩ f d m = x := by unfold addU; rw [hq, if_pos rfl]
    have hlt := hq
    unfold addE at hlt
    simp only [HL.out] at hlt
    have h24 : n < 24 ∧ m ≤ 1200 ∧ x < 1048576 := by
      split at hlt
      · cases hlt
      · split at hlt
        · cases hlt
        · split at hlt
          · cases hlt
          · split at hlt
            · cases hlt
            · omega
    obtain ⟨h24, hm12, hx20⟩ := h24
    have HBX := Lib.hid (hb'.symm.trans e1)
    have HUX := Lib.hid (hu'.symm.trans e2)
    clear hq e1 e2 hlt hn hb' hu'
    have HJ := Lib.hid (fun (W : World) (o : Only [] w W) => join_as W P cp m p HPL.out (HP.out.keep o) (by omega))
    have HAP := Lib.hid (fun (w4 : World) (A4 : Option Addr) (c4 : Nat) (O4 : Only [] w3 w4) (V4 : Own w4 5 A4 m c4 (bvs p)) (B4 : ∀ k ∈ blks A4, w3.heap.size ≤ k) => add_piece (x := x) (f := f) (d := d) hM.out hO.out O4 HPL.out V4 B4 HS.out hB2.out.lt)
    have HMX : Hid (∀ k ∈ blks A1, k ≠ w.heap.size ∧ k ≠ w.heap.size + 1) := fun k hk => (hM.out.2.1 k hk).2
    have HFIN : Hid (∀ (w4 : World) (o : Obj) (w5 : World) (L2 : Option Addr) (c2 : Nat) (y : Value) (z : Int), Only [] w3 w4 → Only (blks A1) (w4.alloc o) w5 → Bk w5 (w.heap.size + 1) 26 #[.string ⟨#[]⟩, .int .i64 0, .int .i64 0, .slice none 0 0] → Mo (fun y => S y ∧ y ≠ w.heap.size ∧ y ≠ w.heap.size + 1) w5 L2 (n + 1) c2 (l ++ [⟨x, f, d, p⟩]) →
        Bk ((((((w5.setCell ⟨w.heap.size, 3, none⟩ y).setCell ⟨w.heap.size, 2, none⟩ (.int .i64 z)).setCell ⟨w.heap.size + 1, 0, none⟩ (.string t)).setCell ⟨w.heap.size + 1, 1, none⟩ (.int .i64 v)).setCell ⟨w.heap.size + 1, 2, none⟩ (.int .i64 (x + 1))).setCell ⟨w.heap.size + 1, 3, none⟩ (.slice L2 (n + 1) c2)) (w.heap.size + 1) 26 (bxc b' L2 c2) ∧
        Added S w b' u' 0 (.returned (.tuple #[bxv b' L2 c2, .int .i64 x, .int .i64 0])) ((((((w5.setCell ⟨w.heap.size, 3, none⟩ y).setCell ⟨w.heap.size, 2, none⟩ (.int .i64 z)).setCell ⟨w.heap.size + 1, 0, none⟩ (.string t)).setCell ⟨w.heap.size + 1, 1, none⟩ (.int .i64 v)).setCell ⟨w.heap.size + 1, 2, none⟩ (.int .i64 (x + 1))).setCell ⟨w.heap.size + 1, 3, none⟩ (.slice L2 (n + 1) c2))) := by
      intro w4 o w5 L2 c2 y z O4 O5 gB2 M5
      have hl1 : (l ++ [(⟨x, f, d, p⟩ : Mg)]).length = n + 1 := by rw [List.length_append, HL.out]; rfl
      refine ⟨?_, L2, c2, by rw [HUX.out], ?_, ?_⟩
      · rw [HBX.out, bxc_eq hl1, HT.out]
        exact bk_store ((gB2.far (by simp) _).far (by simp) _) _ _ _ _
      · rw [HBX.out]
        show Ms S _ L2 (l ++ [(⟨x, f, d, p⟩ : Mg)]).length _
        rw [hl1]
        have h1 := M5.ms.only (rs := [w.heap.size]) (((Only.refl _ _).setCell (p := ⟨w.heap.size, 3, none⟩) (.inl (by simp)) y).setCell (p := ⟨w.heap.size, 2, none⟩) (.inl (by simp)) (.int .i64 z)) (fun k hk hm => by simp at hm; exact hk.2.1 hm)
        exact (h1.store (fun h => h.2.2 rfl) _ _ _ _).mono (fun k hk => hk.1)
      · have hA : ∀ k ∈ blks A1, w.heap.size ≤ k := HA1.out
        refine only_store ((((((hO.out.then O4).alloc o).mono (ss := blks A1) (fun _ h => nomatch h)).trans O5 (fun k hk => .inl hk)).mono (ss := []) (fun k hk => .inr (hA k hk))).setCell (.inr (Nat.le_refl _)) _ |>.setCell (.inr (Nat.le_refl _)) _) (.inr (by omega)) _ _ _ _
    have HX2 := HX.out
    have hg1 : w.heap.size < w3.heap.size := hB1.out.lt
    have fg2 := hB1.out.free 2
    have fg3 := hB1.out.free 3
    go_wp2_with fail
    go_region_law (first
      | (refine step_append_ms rfl (.tmp 29) (.tmp 37) rfl A1 n c1 l (by simp [Act.eval]) (HAP.out w4 A4 c4 O4 V4 B4).1 _ 1 1 [⟨x, f, d, p⟩] (by simp [Act.eval]) (HAP.out w4 A4 c4 O4 V4 B4).2.1 (HAP.out w4 A4 c4 O4 V4 B4).2.2 (by omega) (n + 1) rfl ?_; intro L2 c2 w5 M5 O5 B5; have hgx := fun k hk => HMX.out k hk; have i5 := O5.cellSome i3a (fun hk => (hgx _ hk).1 rfl); have gB := (((hB1.out.only O4 (by simp)).alloc (.cells #[.int .i64 x, .int .i64 f, .int .i64 d, .slice A4 m c4] 62)).only O5 (fun hk => (hgx _ hk).1 rfl)); have fg5 := gB.free 3; have fg52 := gB.free 2; obtain ⟨i50, i51, i52, i53⟩ := bk_four gB; have gB2 := (((hB2.out.only O4 (by simp)).alloc (.cells #[.int .i64 x, .int .i64 f, .int .i64 d, .slice A4 m c4] 62)).only O5 (fun hk => (hgx _ hk).2 rfl)); obtain ⟨j50, j51, j52, j53⟩ := bk_four gB2; have f50 := gB2.free 0; have f51 := gB2.free 1; have f52 := gB2.free 2; have f53 := gB2.free 3; have hfin := fun y z => HFIN.out w4 _ w5 L2 c2 y z O4 O5 gB2 M5; clear gB gB2)
      | (go_simp; go_at_call 66; refine (HJ.out _ hO.out.drew).mono ?_; rintro e w4 ⟨A4, c4, rfl, V4, O4, B4⟩; have O4 : Only [] w3 w4 := ((Only.refl [] w3).drew).then O4; have i3 := O4.cellSome k3 (by simp); have i3a := ((Only.refl [] w4).alloc (.cells #[.int .i64 x, .int .i64 f, .int .i64 d, .slice A4 m c4] 62)).cellSome i3 (by simp)))
    all_goals
      go_wp2_with fail
      refine box_ret2 (s := 8) (u := 9) (v := 10) ?_ (w.heap.size + 1) b' L2 c2 (.int .i64 x) (.int .i64 0) ?_ ?_ ?_ ?_ ?_
      · kernel_rfl
      · rfl
      · rfl
      · rfl
      · exact (hfin _ _).1
      · exact (hfin _ _).2
  · have hne : (q != 0) = true := bne_iff_ne.2 hq0
    have e1 : addB ⟨s, v, x, l⟩ f d p = ⟨s, v, x, l⟩ := by unfold addB; rw [HPL.out, hq, if_neg hq0]
    have e2 : addU ⟨s, v, x, l⟩ f d m = 0 := by unfold addU; rw [hq, if_neg hq0]
    have HBX := Lib.hid (hb'.symm.trans e1)
    have HUX := Lib.hid (hu'.symm.trans e2)
    clear hq e1 e2 hb' hu'
    go_wp2_with fail
    refine box_ret2 (s := 8) (u := 9) (v := 10) (by kernel_rfl) (w.heap.size + 1) ⟨s, v, x, l⟩ A1 c1 (.int .i64 0) (.int .i64 q) rfl rfl rfl ?_ ?_
    · rw [bxc_eq HL.out, HT.out]
      exact bk_store hB2.out _ _ _ _
    · rw [HBX.out, HUX.out]
      refine ⟨A1, c1, rfl, ?_, only_store hO.out (.inr (by omega)) _ _ _ _⟩
      show Ms S _ A1 l.length l
      rw [HL.out]
      exact (hM.out.ms.store (fun h => h.2.2 rfl) _ _ _ _).mono (fun y hy => hy.1)
end Go.Proofs.Ythaodlegpjedoaa
