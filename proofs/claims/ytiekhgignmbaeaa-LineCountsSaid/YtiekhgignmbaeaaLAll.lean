/-
  The laws' helper all: all events of bytes that come in pieces.
-/
import Derived.Test.YtiekhgignmbaeaaLEvs
namespace Go.Proofs.Ytiekhgignmbaeaa
open Go.RowKit Go.Instr

theorem low6 (n : Int) : bits .and .i64 n 63 = n % 64 := by
  have h6 : (BitVec.ofInt 64 63).toNat = 2 ^ 6 - 1 := by decide
  have key : (BitVec.ofInt 64 n &&& BitVec.ofInt 64 63).toNat = (n % ((2 ^ 64 : Nat) : Int)).toNat % 2 ^ 6 := by
    rw [BitVec.toNat_and, BitVec.toNat_ofInt, h6, Nat.and_two_pow_sub_one_eq_mod]
  show IntKind.i64.wrap ((BitVec.ofInt 64 n &&& BitVec.ofInt 64 63).toNat : Nat) = n % 64
  rw [key, IntKind.wrap_i64]
  omega

/-- What the loops of all hold: so many bytes have been fed, t of them are not told yet. -/
def AllJ (X : List Nat) (w wr : World) (g : Nat) (b : List UInt8) (A : Option Addr) (n c j : Nat) (F : List Nat) (s : LS) (t : List UInt8) (o : List Ev) : Prop :=
  EvRow (g :: (F ++ X)) wr A n c o ∧ (∀ x ∈ X, x < w.heap.size) ∧ Ln false wr g F s ∧ Only [g] w wr ∧ (∀ x ∈ F, w.heap.size ≤ x) ∧ Sim s t ∧ t.length ≤ j ∧ n + t.length ≤ j ∧ o ++ evs (t ++ b.drop j) = evs b ∧ (∀ x ∈ blks A, w.heap.size ≤ x)

section
variable {X : List Nat} {w wr : World} {g : Nat} {b : List UInt8} {A : Option Addr} {n c j : Nat} {F : List Nat} {s : LS} {t : List UInt8} {o : List Ev}
theorem AllJ.keep {w1 : World} (h : AllJ X w wr g b A n c j F s t o) (O : Only [] wr w1) : AllJ X w w1 g b A n c j F s t o := by
  obtain ⟨a1, aX, a2, a3, a4, a5, a6, a7, a8, a9⟩ := h
  exact ⟨a1.keep O, aX, a2.keep O, a3.then O, a4, a5, a6, a7, a8, a9⟩
/-- A call of the object turned it alone. -/
theorem AllJ.moved {w1 : World} {F1 : List Nat} {s1 : LS} {j1 : Nat} {t1 : List UInt8} (h : AllJ X w wr g b A n c j F s t o) (L : Ln false w1 g F1 s1) (O : Only (g :: F) wr w1) (B : ∀ k ∈ F1, k ∈ F ∨ wr.heap.size ≤ k) (hs : Sim s1 t1) (h1 : n + t1.length ≤ j1) (he : o ++ evs (t1 ++ b.drop j1) = evs b) : AllJ X w w1 g b A n c j1 F1 s1 t1 o := by
  obtain ⟨a1, aX, a2, a3, a4, a5, a6, a7, a8, a9⟩ := h
  refine ⟨a1.only O (fun x hx => by rcases List.mem_cons.1 hx with rfl | hx; simp; simp [hx]) (fun x hx => ?_), aX, L, a3.trans O (fun x hx => ?_), fun x hx => ?_, hs, by omega, h1, he, a9⟩
  · rcases List.mem_cons.1 hx with rfl | hx
    · exact .inl (by simp)
    · rcases List.mem_append.1 hx with hx | hx
      · exact (B x hx).imp (fun h => by simp [h]) (fun h => h)
      · exact .inl (by simp [hx])
  · rcases List.mem_cons.1 hx with rfl | hx
    · exact .inl (by simp)
    · exact .inr (a4 x hx)
  · rcases B x hx with h | h
    · exact a4 x h
    · have := a3.size; omega
theorem AllJ.fed {w1 : World} {F1 : List Nat} {x : List UInt8} {N1 : Nat} (h : AllJ X w wr g b A n c j F s t o) (hj : j ≤ N1) (hN : N1 ≤ b.length) (hx : x = (b.drop j).take (N1 - j)) (L : Ln false w1 g F1 (feedS s x)) (O : Only (g :: F) wr w1) (B : ∀ k ∈ F1, k ∈ F ∨ wr.heap.size ≤ k) (hS : Sim (feedS s x) (t ++ x)) :
    AllJ X w w1 g b A n c N1 F1 (feedS s x) (t ++ x) o := by
  have hxl : x.length = N1 - j := by rw [hx, List.length_take, List.length_drop]; omega
  refine h.moved L O B hS ?_ ?_
  · have := h.2.2.2.2.2.2.2.1; rw [List.length_append]; omega
  · have h8 := h.2.2.2.2.2.2.2.2.1
    have e : x ++ b.drop N1 = b.drop j := by
      rw [hx]
      have := List.take_append_drop (N1 - j) (b.drop j)
      rw [List.drop_drop, show j + (N1 - j) = N1 by omega] at this
      exact this
    rw [List.append_assoc, e]
    exact h8
theorem AllJ.still {w1 : World} {F1 : List Nat} (h : AllJ X w wr g b A n c j F s t o) (hn : ¬ nl s.b < s.b.length) (L : Ln false w1 g F1 (nextS s)) (O : Only (g :: F) wr w1) (B : ∀ k ∈ F1, k ∈ F) : AllJ X w w1 g b A n c j F1 (nextS s) t o ∧ ∀ x ∈ t, x ≠ 10 := by
  obtain ⟨h1, _, h3⟩ := sim_none h.2.2.2.2.2.1 hn
  exact ⟨h.moved L O (fun k hk => .inl (B k hk)) h3 h.2.2.2.2.2.2.2.1 h.2.2.2.2.2.2.2.2.1, mem_of_nl h1⟩
theorem AllJ.told {w1 w2 w3 : World} {F1 : List Nat} {A' : Option Addr} {c' : Nat} (h : AllJ X w wr g b A n c j F s t o) (hn : nl s.b < s.b.length) (L : Ln false w1 g F1 (nextS s)) (O : Only (g :: F) wr w1) (B : ∀ k ∈ F1, k ∈ F) (O2 : Only [] w1 w2) (E : EvRow (g :: (F1 ++ X)) w3 A' (n + 1) c' (o ++ [evOf false (t.take (nl t))])) (O3 : Only (blks A) w2 w3) (B3 : ∀ k ∈ blks A', k ∈ blks A ∨ w2.heap.size ≤ k) :
    AllJ X w w3 g b A' (n + 1) c' j F1 (nextS s) (t.drop (nl t + 1)) (o ++ [evOf false (t.take (nl t))]) := by
  obtain ⟨a1, aX, a2, a3, a4, a5, a6, a7, a8, a9⟩ := h
  obtain ⟨h1, _, h3⟩ := sim_some a5 hn
  have hz := a3.size; have hz1 := O.size; have hz2 := O2.size
  have hgA : ∀ k ∈ blks A, k ∉ g :: (F ++ X) := a1.2.1
  refine ⟨E, aX, (L.keep O2).only O3 (fun hm => hgA g hm (by simp)) (fun k hk hm => hgA k hm (by simp [B k hk])), ?_, fun x hx => a4 x (B x hx), h3, ?_, ?_, ?_, fun x hx => ?_⟩
  · refine ((a3.trans O (fun x hx => ?_)).then O2).trans O3 (fun x hx => .inr (a9 x hx))
    rcases List.mem_cons.1 hx with rfl | hx
    · exact .inl (by simp)
    · exact .inr (a4 x hx)
  · rw [List.length_drop]; omega
  · rw [List.length_drop]; omega
  · rw [← a8, evs_append h1, List.append_assoc]
    rfl
  · rcases B3 x hx with h | h
    · exact a9 x h
    · omega
end

theorem EvRow.alloc2 {G : List Nat} {w : World} {A : Option Addr} {n c : Nat} {es : List Ev} (h : EvRow G w A n c es) (o o2 : Obj) : EvRow G ((w.alloc o).alloc o2) A n c es := h.keep (((Only.refl [] w).alloc o).alloc o2)
def AllPost (X : List Nat) (w : World) (g : Nat) (b : List UInt8) (e : Ending) (w' : World) : Prop :=
  ∃ A n c, e = .returned (.slice A n c) ∧ EvRow X w' A n c (evs b) ∧ Only [g] w w' ∧ n ≤ b.length ∧ ∀ x ∈ blks A, w.heap.size ≤ x

set_option maxRecDepth 100000 in
set_option maxHeartbeats 4000000 in
theorem all_any (X : List Nat) {w : World} {g : Nat} (hX : ∀ x ∈ X, x < w.heap.size) (h : Ln false w g [] K0) (A0 : Option Addr) (n0 c0 : Nat) (b : List UInt8) (hb : Sl w A0 n0 (bvs b)) (hc0 : n0 ≤ c0) (hn0 : n0 ≤ 4096) (hbg : 0 < n0 → ∀ k ∈ blks A0, k ≠ g)
    (A1 : Option Addr) (m c1 : Nat) (vs : List Int) (hv : Sl w A1 m (ivs vs)) (hm : m ≤ 200) (hvg : 0 < m → ∀ k ∈ blks A1, k ≠ g) :
    Calls Try.prog 21 #[.pointer (some ⟨g, 0, none⟩), .slice A0 n0 c0, .slice A1 m c1] w (AllPost X w g b) := by
  have HBL : Hid (b.length = n0) := by show _ = _; simpa using hb.len
  have HVL : Hid (vs.length = m) := by show _ = _; simpa using hv.len
  have hgl := h.lt
  have H0 := Lib.hid h
  clear h
  go_enter Try.func21, Try.ntmps21
  go_wp2
  go_loopw [7, 8, 9] (fun out at_ i wr => ∃ (k j n c : Nat) (A : Option Addr) (F : List Nat) (s : LS) (t : List UInt8) (o : List Ev), k ≤ m + 1 ∧ i = .int .i64 (k : Int) ∧ j ≤ n0 ∧ at_ = .int .i64 (j : Int) ∧ out = .slice A n c ∧ Hid (AllJ X w wr g b A n c j F s t o) ∧ Hid (∀ x ∈ t, x ≠ 10) ∧ Hid (k = m + 1 → j = n0)) (fun _ _ i _ => m + 1 - (intOf i).toNat)
  case atStart => exact ⟨0, 0, 0, 0, none, [], K0, [], [], Nat.zero_le _, rfl, Nat.zero_le _, rfl, rfl, ⟨EvRow.nil _ _, hX, H0.out, Only.refl _ _, (fun _ hx => nomatch hx), sim_new, Nat.le_refl _, Nat.le_refl _, by simp, (fun _ hx => nomatch hx)⟩, (fun _ hx => nomatch hx), fun h => by omega⟩
  case round =>
    obtain ⟨k, j, n, c, A, F, s, t, o, hk, rfl, hj, rfl, rfl, HJ, HT, HE⟩ := hrel
    by_cases hlt : k ≤ m
    · have hlt' : (k : Int) ≤ (m : Int) := by omega
      -- the end of the piece
      obtain ⟨N1, hN1, hjN, hNE, hpiece⟩ : ∃ N1 : Nat, N1 ≤ n0 ∧ j ≤ N1 ∧ (k = m → N1 = n0) ∧ (k < m → ∃ v : Int, ∃ r : Nat, ∃ ad : Addr, A1 = some ad ∧ wr.cell? (ad.add k) = some (.int .i64 v) ∧ bits .and .i64 v 63 = (r : Int) ∧ r ≤ 63 ∧ min (n0 : Int) ((j : Int) + (r : Int)) = (N1 : Int)) := by
        by_cases hkm : k < m
        · have hvl : k < vs.length := by rw [HVL.out]; exact hkm
          obtain ⟨ad, u, e, hu, hcell⟩ := hv.at_ hkm
          rw [ivs_get vs k hvl] at hu
          injection hu with hu
          subst hu
          have hcell2 := HJ.out.2.2.2.1.cellSome hcell (by rw [add_block]; have := hvg (by omega) ad.block (by rw [e]; simp); simpa using this)
          refine ⟨min n0 (j + (vs[k] % 64).toNat), by omega, by omega, fun h => by omega, fun _ => ⟨vs[k], (vs[k] % 64).toNat, ad, e, hcell2, ?_, by omega, by omega⟩⟩
          rw [low6]
          omega
        · exact ⟨n0, Nat.le_refl _, hj, fun _ => rfl, fun h => absurd h hkm⟩
      have hJ := HJ.out
      have hsl := sim_len hJ.2.2.2.2.2.1
      have htl := hJ.2.2.2.2.2.2.1
      obtain ⟨x, hx⟩ : ∃ x, x = (b.drop j).take (N1 - j) := ⟨_, rfl⟩
      have hbl := HBL.out
      have hxl : x.length = N1 - j := by rw [hx, List.length_take, List.length_drop]; omega
      obtain ⟨f1, f2⟩ := sim_feed (x := x) hJ.2.2.2.2.2.1 (by omega)
      have hbr : Sl wr A0 n0 (bvs b) := hb.only' hJ.2.2.2.1 (fun hp ad e hm => by subst e; simp at hm; exact hbg hp ad.block (by simp) hm)
      have hcut := (hbr.cut (k := j) (cap := c0) hj hc0).pre (k := N1 - j) (by omega)
      rw [bvs_drop, bvs_take, ← hx] at hcut
      obtain ⟨A2, hA2⟩ : ∃ A2, (if c0 = j then A0 else Option.map (fun x => x.add j) A0) = A2 := ⟨_, rfl⟩
      rw [hA2] at hcut
      have HF := Lib.hid (fun c2 => feed_as hJ.2.2.1 A2 (N1 - j) c2 hcut f1 rfl)
      have HX := Lib.hid hx
      have HS := Lib.hid f2
      have hjN' : (j : Int) ≤ (N1 : Int) := by omega
      have hNc : (N1 : Int) ≤ (c0 : Int) := by omega
      have hNc' : N1 ≤ c0 := by omega
      have HBL2 := Lib.hid hbl
      clear hJ hsl htl hx hbl hxl f1 f2 hbr hcut
      have hkm : (k : Int) < (m : Int) ∧ k < m ∨ ¬ (k : Int) < (m : Int) ∧ k = m := by omega
      have HKM := Lib.hid hkm
      clear hkm
      have HE1 : Hid (k + 1 = m + 1 → N1 = n0) := fun h => hNE (by omega)
      rcases HKM.out with ⟨hk1, hk2⟩ | ⟨hk1, hk2⟩
      case' inl =>
        obtain ⟨v, r, ad, rfl, hcell, hand, hr, hmin⟩ := hpiece hk2
        have HP := Lib.hid hpiece
        clear hpiece HKM
        go_wp2_with (first
          | (go_at_call 12; (with_reducible refine (HF.out _).mono ?_); clear HF; rintro e w1 ⟨F1, rfl, L1, O1, B1⟩; have HJ1 := Lib.hid (HJ.out.fed hjN (by rw [HBL2.out]; exact hN1) HX.out L1 O1 B1 HS.out)))
      case' inr =>
        have hNn := hNE hk2
        have HP := Lib.hid hpiece
        clear hpiece HKM
        subst hNn
        go_wp2_with (first
          | (go_at_call 12; (with_reducible refine (HF.out _).mono ?_); clear HF; rintro e w1 ⟨F1, rfl, L1, O1, B1⟩; have HJ1 := Lib.hid (HJ.out.fed hjN (by rw [HBL2.out]; exact hN1) HX.out L1 O1 B1 HS.out)))
      all_goals
        clear HE HT HS HX HJ hNE L1 O1 B1
        go_loopw [7, 11] (fun out kk wq => ∃ (q n c : Nat) (A : Option Addr) (F : List Nat) (s : LS) (t : List UInt8) (o : List Ev), kk = .int .i64 (q : Int) ∧ out = .slice A n c ∧ Hid (AllJ X w wq g b A n c N1 F s t o) ∧ q ≤ n) (fun _ kk _ => 5000 - (intOf kk).toNat)
        case atStart => exact ⟨0, n, c, A, F1, _, _, o, rfl, rfl, HJ1.out, Nat.zero_le _⟩
        case round =>
          obtain ⟨q, n2, c2, A3, F3, s3, t3, o3, rfl, rfl, HJ3, hq⟩ := hrel
          have hqb : n2 ≤ 4096 := by have := HJ3.out.2.2.2.2.2.2.2.1; omega
          have hq5 : (q : Int) < 5000 := by omega
          by_cases hsn : nl s3.b < s3.b.length
          · obtain ⟨_, g2, _⟩ := sim_some HJ3.out.2.2.2.2.2.1 hsn
            obtain ⟨E, hE⟩ : ∃ E, E = evOf false (t3.take (nl t3)) := ⟨_, rfl⟩
            rw [← hE] at g2
            have HN := Lib.hid (next_as (k := (E.kind : Int)) (n := E.data.length) (d := E.data) (b := true) HJ3.out.2.2.1 g2 rfl rfl rfl rfl rfl)
            have HSN := Lib.hid hsn
            have HEE := Lib.hid hE
            clear hsn g2 hE
            go_wp2_with (first
              | (at_builtin; refine wpList_append_ev rfl (.tmp 54) (.tmp 56) rfl A3 n2 c2 o3 rfl ER4 E (w4.heap.size + 1) A4 c4 36 rfl HBK HSL HFR HGS (by omega) ?_; intro A6 c6 w6 E6 O6 B6)
              | (go_at_call 14; (with_reducible refine HN.out.mono ?_); clear HN; rintro e w4 ⟨A4, c4, F4, rfl, V4, B4, L4, O4, S4⟩; have ER4 := ((HJ3.out.1.only (G' := g :: (F4 ++ X)) O4 (fun x hx => by rcases List.mem_cons.1 hx with rfl | hx; simp; simp [hx]) (fun x hx => .inl (by rcases List.mem_cons.1 hx with rfl | hx; simp; rcases List.mem_append.1 hx with hx | hx; simp [S4 x hx]; simp [hx]))).alloc2 (.cells #[.int .i64 (E.kind : Int), .slice A4 E.data.length c4] 36) (.cells #[.int .i64 (E.kind : Int), .slice A4 E.data.length c4] 36))
                 have QA : Only [] w4 ((w4.alloc (.cells #[.int .i64 (E.kind : Int), .slice A4 E.data.length c4] 36)).alloc (.cells #[.int .i64 (E.kind : Int), .slice A4 E.data.length c4] 36)) := ((Only.refl [] w4).alloc _).alloc _
                 have HBK : Bk ((w4.alloc (.cells #[.int .i64 (E.kind : Int), .slice A4 E.data.length c4] 36)).alloc (.cells #[.int .i64 (E.kind : Int), .slice A4 E.data.length c4] 36)) (w4.heap.size + 1) 36 #[.int .i64 (E.kind : Int), .slice A4 E.data.length c4] := (by have := Bk.new (w4.alloc (.cells #[.int .i64 (E.kind : Int), .slice A4 E.data.length c4] 36)) 36 #[.int .i64 (E.kind : Int), .slice A4 E.data.length c4]; rwa [World.size_alloc] at this)
                 have HSL := V4.keep QA
                 have HFR : ∀ k ∈ blks A4, k < ((w4.alloc (.cells #[.int .i64 (E.kind : Int), .slice A4 E.data.length c4] 36)).alloc (.cells #[.int .i64 (E.kind : Int), .slice A4 E.data.length c4] 36)).heap.size ∧ k ∉ g :: (F4 ++ X) ∧ k ∉ blks A3 := (fun k hk => ⟨Nat.lt_of_lt_of_le (B4 k hk).2 QA.size, (fun hm => by have h1 := (B4 k hk).1; have h2 := HJ3.out.2.2.1.lt; have h3 := HJ3.out.2.2.1.flt; have h4 := HJ3.out.2.1; have h5 := HJ3.out.2.2.2.1.size; rcases List.mem_cons.1 hm with h | h; omega; rcases List.mem_append.1 h with h | h; (have := h3 _ (S4 _ h); omega); (have := h4 _ h; omega)), (fun hm => by have h1 := (B4 k hk).1; have h2 := HJ3.out.1.lt k hm; omega)⟩)
                 have HGS : ∀ k ∈ g :: (F4 ++ X), k < ((w4.alloc (.cells #[.int .i64 (E.kind : Int), .slice A4 E.data.length c4] 36)).alloc (.cells #[.int .i64 (E.kind : Int), .slice A4 E.data.length c4] 36)).heap.size := (fun k hk => Nat.lt_of_lt_of_le (by rcases List.mem_cons.1 hk with rfl | h; exact L4.lt; rcases List.mem_append.1 h with h | h; exact L4.flt k h; (have h4 := HJ3.out.2.1 k h; have h5 := HJ3.out.2.2.2.1.size; have h6 := O4.size; omega)) QA.size)))
            have HJ6 := HJ3.out.told HSN.out L4 O4 S4 QA (by rw [← HEE.out]; exact E6) O6 B6
            refine ⟨⟨q + 1, n2 + 1, c6, A6, F4, _, _, _, by go_num, rfl, HJ6, by omega⟩, ?_⟩
            simp [intOf]
            omega
          · obtain ⟨_, g2, _⟩ := sim_none HJ3.out.2.2.2.2.2.1 hsn
            have HN := Lib.hid (next_as (k := 0) (n := 0) (d := []) (b := false) HJ3.out.2.2.1 g2 rfl rfl rfl rfl rfl)
            have HSN := Lib.hid hsn
            clear hsn g2
            go_wp2_with (go_at_call 14; (with_reducible refine HN.out.mono ?_); clear HN; rintro e w4 ⟨A4, c4, F4, rfl, V4, B4, L4, O4, S4⟩)
            obtain ⟨HJ5, HT5⟩ := HJ3.out.still HSN.out L4 O4 S4
            refine ⟨⟨k + 1, N1, n2, c2, A3, F4, _, t3, o3, by omega, ?_, by omega, rfl, rfl, HJ5.keep ((Only.refl [] w4).alloc _), HT5, (by first | exact HE1.out | exact fun _ => rfl)⟩, ?_⟩
            · first
                | go_num
                | (rw [hk2]; go_num)
            · simp [intOf]
              omega
    · have hkm : k = m + 1 := by omega
      have hlt' : ¬ (k : Int) ≤ (m : Int) := by omega
      have hfin := HJ.out
      have hjn := HE.out hkm
      clear HE
      obtain ⟨a1, aX, a2, a3, a4, a5, a6, a7, a8, a9⟩ := hfin
      have ho : o = evs b := by
        rw [hjn, ← HBL.out, List.drop_length, List.append_nil, evs_none (by rw [nl_none HT.out]; omega), List.append_nil] at a8
        exact a8
      have hlen : n ≤ b.length := by rw [HBL.out]; omega
      rw [ho] at a1
      have A1' := Lib.hid a1
      have HLEN := Lib.hid hlen
      clear HJ HT a1 a2 a4 a5 a6 a7 a8 hkm hjn ho hlen
      go_wp2
      go_ret
      exact ⟨A, n, c, rfl, A1'.out.only (Only.refl [] _) (fun _ hx => nomatch hx) (fun x hx => .inl (by simp [hx])), a3, HLEN.out, a9⟩
end Go.Proofs.Ytiekhgignmbaeaa
