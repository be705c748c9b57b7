/-
  head.Stuff.
-/
import Derived.Test.YtmameghebikjbaaDoorHLen
namespace Go.Proofs.YtmameghebikjbaaDoor
open Go.RowKit Go.Instr
attribute [local go_sem] Oper.semAt_some

def sentK (b : List UInt8) (k : Nat) : List UInt8 := (((lns b).take k).map sentOf).flatten
theorem sentK_succ {b ln : List UInt8} {k : Nat} (h : (lns b)[k]? = some ln) : sentK b (k + 1) = sentK b k ++ sentOf ln := by
  obtain ⟨hk, e⟩ := List.getElem?_eq_some_iff.1 h
  unfold sentK
  rw [List.take_succ_eq_append_getElem hk, List.map_append, List.flatten_append, e]
  simp
theorem sent_len (ls : List (List UInt8)) (h : ∀ l ∈ ls, l ≠ []) : ((ls.map sentOf).flatten).length ≤ 4 * ls.flatten.length := by
  induction ls with
  | nil => simp
  | cons l r ih =>
    have h1 := ih (fun m hm => h m (by simp [hm]))
    have h2 : 0 < l.length := List.length_pos_iff.2 (h l (by simp))
    have h3 := tx_len l
    have h4 : (sentOf l).length ≤ (tx l).length + 3 := by
      unfold sentOf dotted
      split <;> simp
    rw [List.map_cons, List.flatten_cons, List.flatten_cons, List.length_append, List.length_append]
    omega
theorem sentK_len (b : List UInt8) (k : Nat) : (sentK b k).length ≤ 4 * b.length := by
  have h1 := sent_len ((lns b).take k) (fun l hl => lns_ne (List.mem_of_mem_take hl))
  have h2 := take_flat_le b k
  unfold sentK
  omega
theorem prefix_dot (t : List UInt8) : Lib.hasPrefix t [46] = decide (t.head? = some 46) := by
  cases t with
  | nil => rfl
  | cons x r =>
    unfold Lib.hasPrefix
    by_cases h : x = 46
    · subst h; simp
    · have e : ([46] : List UInt8).isPrefixOf (x :: r) = ((46 == x) && ([] : List UInt8).isPrefixOf r) := rfl
      have e2 : ((46 : UInt8) == x) = false := by rw [beq_eq_false_iff_ne]; exact fun e => h e.symm
      rw [e, e2]
      simp [h]

section
variable {w : World} {A : Option Addr} {n c : Nat} {l : List UInt8}
set_option maxRecDepth 100000 in
set_option maxHeartbeats 4000000 in
theorem Stuff_any (hs : Bt w A n c l) (hbig : n ≤ 1048576) (hA : ∀ x ∈ blks A, x < w.heap.size) : Calls Tryd.prog 21 #[.slice A n c] w (Fresh w (stuff l)) := by
  have HL := Lib.hid hs.len
  obtain ⟨i0, hi, hz0, hz1, hz2⟩ := info_parts infoByte
  obtain ⟨w1, hw1⟩ : ∃ w1, (w.alloc (.cells #[.slice none 0 0] 22)).alloc (.cells #[.slice A n c] 22) = w1 := ⟨_, rfl⟩
  have hsz1 : w1.heap.size = w.heap.size + 2 := by rw [← hw1]; simp
  have hO1 : Only [] w w1 := by rw [← hw1]; exact ((Only.refl _ _).alloc _).alloc _
  have hN1 : Bk w1 w.heap.size 22 #[.slice none 0 0] := by rw [← hw1]; exact (Bk.new _ _ _).alloc _
  have hIt : Iter w1 (w.heap.size + 1) ((w.heap.size + 1) :: blks A) l 0 n := by
    have := iter_start (hs.keep ((Only.refl _ w).alloc (.cells #[.slice none 0 0] 22))) (fun x hx => by have := hA x hx; simp; omega)
    rw [hw1] at this
    simpa using this
  have HW := Lib.hid hw1
  obtain ⟨base, hbase⟩ : ∃ base, w1.heap.size + 2 = base := ⟨_, rfl⟩
  obtain ⟨Z, hZ⟩ : ∃ Z, stuff l = Z := ⟨_, rfl⟩
  have HZ := Lib.hid hZ
  rw [hZ]
  clear hw1 hZ
  refine (callsIn_wide (n := 5)).1 ?_
  refine callsIn_of_wp_marks Tryd.func21 rfl trivial ?_ rfl
  simp only [Tryd.ntmps21, List.size_toArray, List.length_cons, List.length_nil, Nat.reduceAdd, Nat.reduceSub, Array.replicate_succ, Array.replicate_zero, List.push_toArray, List.append_toArray, List.nil_append, List.cons_append]
  gi_wp2_with (refine ⟨trivial, ?_⟩; gi_at_call 32; refine (callsIn_wide.2 (Lines_any _ _ _ _)).mono ?_; rintro e w9 ⟨rfl, rfl⟩)
  rw [HW.out]
  have hS : ∀ k ∈ ((w.heap.size + 1) :: blks A), k < w1.heap.size := fun k hk => by
    rcases List.mem_cons.1 hk with rfl | hk
    · omega
    · have := hA k hk; omega
  refine range_lines (by omega) rfl hIt hS (by simp)
    (fun k W => ∃ A' s c', Bk W w.heap.size 22 #[.slice A' s c'] ∧ Only [] w W ∧ Own W 5 A' s c' (bvs (sentK l k)) ∧ ∀ x ∈ blks A', base ≤ x)
    (fun _ _ _ => False)
    (fun k W W' ⟨A', s, c', h1, h2, h3, h4⟩ o => ⟨A', s, c', h1.only o (by simp; omega), h2.trans o (fun x hx => by simp at hx; omega), h3.only o (fun x hx hm => by have := h4 x hx; simp at hm; omega), h4⟩)
    (fun _ _ _ _ h _ => h)
    ⟨none, 0, 0, hN1, hO1, Own.nil _ _, fun _ hx => nomatch hx⟩
    (fun v => { tmps := #[.slice A n c, undef, .slice none 0 0, .pointer (some ⟨w.heap.size, 0, none⟩), v, undef, .slice A n c, .func (.func 49) #[] #[.pointer (some ⟨w.heap.size + 1, 0, none⟩)], v, undef, undef, undef, undef, undef, undef, undef, undef, undef, undef, undef, undef, undef, undef, undef], defers := [] }) ?assign ?body ?done ?stop
  case assign =>
    intro l v W K hK
    gi_wp2
    exact hK
  case body =>
    rintro q k ln A2 W ⟨A', s, c', hN, hO, hV, hb⟩ hln hB hA2 hsz
    have hsucc := sentK_succ hln
    have hlen1 := sentK_len l (k + 1)
    have hlen0 := sentK_len l k
    have hsl := hV.len
    rw [bvs_length] at hsl
    have hTx0 := hB.tx
    have hsent : sentOf ln = dotted (tx ln) ++ [13, 10] := rfl
    have hpre := prefix_dot (tx ln)
    have hT0 := textOf_any hB
    obtain ⟨m, hm⟩ : ∃ m, ln.length = m := ⟨_, rfl⟩
    obtain ⟨T, hT⟩ : ∃ T, tx ln = T := ⟨_, rfl⟩
    rw [hT] at hTx0 hsent hpre hT0
    obtain ⟨t, ht⟩ : ∃ t, T.length = t := ⟨_, rfl⟩
    rw [ht, hm] at hTx0 hT0
    rw [hm]
    rw [HL.out] at hlen0 hlen1
    obtain ⟨S0, hS0⟩ : ∃ S0, sentK l k = S0 := ⟨_, rfl⟩
    rw [hS0] at hV hsucc hlen0 hsl
    rw [hsent] at hsucc
    have htl : t + s + 3 ≤ 8388608 + 4 := by
      rw [hsucc, List.length_append, List.length_append] at hlen1
      have : T.length ≤ (dotted T).length := by unfold dotted; split <;> simp
      simp at hlen1
      omega
    obtain ⟨gb, hgb⟩ : ∃ gb, w.heap.size = gb := ⟨_, rfl⟩
    rw [hgb] at hN hS hA2 ⊢
    have hgA : gb ∉ blks A' := fun hm => by have := hb gb hm; omega
    have hgA2 : gb ∉ blks A2 := fun hm => by
      rcases List.mem_cons.1 (hA2 _ hm) with h | h
      · omega
      · have := hA _ h; omega
    have hA2b : ∀ x ∈ blks A2, x < base := fun x hx => by have := hS x (hA2 x hx); omega
    have cT : ∀ W1, W = W1 → Calls Tryd.prog 34 #[.slice A2 m m] W1 fun e w' => e = .returned (.slice A2 t m) ∧ Only [] W1 w' := fun W1 h => h ▸ hT0
    have hTx := Lib.hid hTx0
    have HT := Lib.hid ht
    have HSU := Lib.hid hsucc
    have HSL := Lib.hid hsl
    have HGB := Lib.hid hgb
    clear hm hT ht hsucc hsl hsent hS0 hT0 hTx0 hlen0 hlen1 hgb
    have hA2c : ∀ x ∈ blks A2, x < base ∧ x < W.heap.size ∧ x ∉ [gb] := fun x hx => ⟨hA2b x hx, by have := hS x (hA2 x hx); omega, fun h => hgA2 (by rw [← List.mem_singleton.1 h]; exact hx)⟩
    obtain ⟨p, hp⟩ : ∃ p, Lib.hasPrefix T [46] = p := ⟨_, rfl⟩
    have cP : ∀ b2 o2 d W1, OnlyB base [gb] W W1 → W1.cell? ⟨b2, o2, none⟩ = some (.int .u8 46) → Calls Tryd.prog 41 #[.slice A2 t m, .slice (some ⟨b2, o2, none⟩) 1 d] W1 fun e w' => e = .returned (.bool p) ∧ Only [] W1 w' := fun b2 o2 d W1 hO h => by
      refine (hasPrefix_any (hTx.out.onlyB hO hA2c) b2 o2 d 46 h).mono fun e w' he => ⟨?_, he.2 ▸ Only.refl _ _⟩
      rw [he.1, hp]
    obtain ⟨S2, hS2⟩ : ∃ S2, dotted T = S2 := ⟨_, rfl⟩
    have hfin : ∀ (A6 : Option Addr) (v c6 : Nat) (w6 : World), OnlyB base [gb] W w6 → Bk w6 gb 22 #[.slice A6 v c6] → Own w6 5 A6 v c6 (bvs (S0 ++ (S2 ++ [13, 10]))) → (∀ x ∈ blks A6, base ≤ x) →
        Keeps (w1.heap.size :: (w1.heap.size + 1) :: (gb + 1) :: blks A) W w6 ∧ ∃ A' s c', Bk w6 gb 22 #[.slice A' s c'] ∧ Only [] w w6 ∧ Own w6 5 A' s c' (bvs (sentK l (k + 1))) ∧ ∀ x ∈ blks A', base ≤ x := by
      intro A6 v c6 w6 o6 b6 v6 h6
      have hg := HGB.out
      refine ⟨o6.keeps (fun x hx => ?_), A6, v, c6, b6, hO.thenB o6 (by omega) (fun x hx => by rw [List.mem_singleton.1 hx]; omega), by rw [HSU.out, hS2]; exact v6, h6⟩
      rcases List.mem_cons.1 hx with rfl | hx
      · exact ⟨by omega, by omega, fun h => by have := List.mem_singleton.1 h; omega⟩
      · rcases List.mem_cons.1 hx with rfl | hx
        · exact ⟨by omega, by omega, fun h => by have := List.mem_singleton.1 h; omega⟩
        · have h1 := hS x hx
          refine ⟨by omega, by omega, fun h => ?_⟩
          have h2 := List.mem_singleton.1 h
          rcases List.mem_cons.1 hx with h3 | h3
          · omega
          · have := hA _ h3; omega
    have HFIN := Lib.hid hfin
    clear hfin
    have hmono : ∀ (A6 : Option Addr) (wa : World) (A5 : Option Addr), base ≤ wa.heap.size → (∀ x ∈ blks A5, base ≤ x) → (∀ x ∈ blks A6, x ∈ blks A5 ∨ wa.heap.size ≤ x) → ∀ x ∈ blks A6, base ≤ x := fun A6 wa A5 h0 h1 h2 x hx => by
      rcases h2 x hx with h | h
      · exact h1 x h
      · omega
    rw [hp] at hpre
    have HTL := Lib.hid htl
    have hbW : base ≤ W.heap.size := by omega
    have HBW := Lib.hid hbW
    clear hbW hsz hA2b htl hp
    by_cases hd : T.head? = some 46
    · obtain rfl : p = true := by rw [hpre, decide_eq_true hd]
      have hS2e : S2 = 46 :: T := by rw [← hS2]; unfold dotted; rw [if_pos hd]
      obtain ⟨S1, hS1⟩ : ∃ S1, S0 ++ (46 :: T) = S1 := ⟨_, rfl⟩
      have hS1e : bvs (S0 ++ [46]) ++ bvs T = bvs S1 := by rw [← hS1, ← bvs_append, List.append_assoc]; rfl
      have hS2f : bvs S1 ++ bvs [13, 10] = bvs (S0 ++ (S2 ++ [13, 10])) := by rw [← hS1, hS2e, ← bvs_append, List.append_assoc]
      have HS2 := Lib.hid hS2e
      have HS2f := Lib.hid hS2f
      have HS1e := Lib.hid hS1e
      clear hpre hd hS1 hS2e hS2f hS1e hS2
      obtain ⟨u, hu⟩ : ∃ u, s + 1 + t = u := ⟨_, rfl⟩
      obtain ⟨v, hv⟩ : ∃ v, u + 2 = v := ⟨_, rfl⟩
      have hub : u ≤ 8388616 := by have := HTL.out; omega
      have hsb : s + 1 ≤ 8388616 := by have := HTL.out; omega
      have HU := Lib.hid hu
      have HV := Lib.hid hv
      clear hu hv
      gi_wp2_with first
        | (refine ⟨trivial, ?_⟩; gi_at_call 34; refine (CallsIn.inRound q (callsIn_wide.2 (cT _ rfl))).mono ?_; rintro e w2 ⟨rfl, hO2⟩; have k0 := mark0 w2 (.int .u8 46); have B2 : OnlyB base [gb] W (w2.alloc (.cells #[.int .u8 46] 5 (1, 2))) := OnlyB.of (hO2.alloc _) (fun _ hx => nomatch hx))
        | (refine ⟨trivial, ?_⟩; gi_at_call 41; refine (CallsIn.inRound q (callsIn_wide.2 (cP _ _ _ _ B2 (lit0 _ _ _ _)))).mono ?_; rintro e w3 ⟨rfl, hO3⟩; have hW3 := (hO2.alloc (.cells #[.int .u8 46] 5 (1, 2))).then hO3; have B3 := B2.only_ hO3 (fun _ hx => nomatch hx); have hN3 := hN.only hW3 (fun hm => nomatch hm); have hV3 := hV.keep hW3; have f3 := hN3.free 0; have e3 : w3.cell? ⟨gb, 0, none⟩ = some (.slice A' s c') := (by rw [hN3.cell]; rfl))
        | (gi_at_builtin; refine wpListIn_append_lit rfl (.tmp 20) (.const (.string ⟨#[13, 10]⟩)) 22 9 rfl 5 i0 Tryd.underlying22 Tryd.underlying9 hi hz0 hz1 hz2 A5 u c5 _ rfl (hV5.setFar (p := ⟨gb, 0, none⟩) hgA5 _) ⟨#[13, 10]⟩ rfl (by show u + 2 ≤ _; omega) v HV.out _ HS2f.out ?_; intro A6 c6 w6 hV6 hO6 hB6; have hN6 := (hN5.set 0 (.slice A5 u c5)).only hO6 hgA5; have hb6 := hB6 base (by have := B5.size; have := HBW.out; simpa [World.setCell] using (by omega : base ≤ w5.heap.size)) hb5; have B6 := (B5.set (p := ⟨gb, 0, none⟩) (by simp) (.slice A5 u c5)).only_ hO6 (fun x hx => .inr (hb5 x hx)); have f6 := hN6.free 0; have e6 : w6.cell? ⟨gb, 0, none⟩ = some (.slice A5 u c5) := (by rw [hN6.cell]; rfl))
        | (gi_at_builtin; refine wpListIn_append_as rfl (.tmp 17) (.tmp 18) 22 rfl 5 i0 (.int .u8 0) 1 Tryd.underlying22 hi hz0 hz1 hz2 rfl A4 (s + 1) c4 _ rfl (hV4.setFar (p := ⟨gb, 0, none⟩) hgA4 _) A2 t m _ rfl (hTx.out.onlyB (B4.set (p := ⟨gb, 0, none⟩) (by simp) _) hA2c).sl (bvs_one _) (by unfold maxLen; have := HU.out; omega) (by have := HU.out; omega) u HU.out _ HS1e.out ?_; intro A5 c5 w5 hV5 hO5 hB5; have hN5 := (hN4.set 0 (.slice A4 (s + 1) c4)).only hO5 hgA4; have hb5 := hmono A5 _ A4 (by have := B4.size; have := HBW.out; simpa [World.setCell] using (by omega : base ≤ w4.heap.size)) hb4 hB5; have B5 := (B4.set (p := ⟨gb, 0, none⟩) (by simp) (.slice A4 (s + 1) c4)).only_ hO5 (fun x hx => .inr (hb4 x hx)); have hgA5 := hV5.ne hN5 (by decide); have f5 := hN5.free 0; have e5 : w5.cell? ⟨gb, 0, none⟩ = some (.slice A4 (s + 1) c4) := (by rw [hN5.cell]; rfl))
        | (gi_at_builtin; refine wpListIn_append_lit rfl (.tmp 15) (.const (.string ⟨#[46]⟩)) 22 9 rfl 5 i0 Tryd.underlying22 Tryd.underlying9 hi hz0 hz1 hz2 A' s c' _ rfl hV3 ⟨#[46]⟩ rfl (by show s + 1 ≤ _; omega) (s + 1) rfl (bvs (S0 ++ [46])) (by rw [bvs_append]) ?_; intro A4 c4 w4 hV4 hO4 hB4; have hN4 := hN3.only hO4 hgA; have hb4 := hB4 base (by have := B3.size; have := HBW.out; omega) hb; have B4 := B3.only_ hO4 (fun x hx => .inr (hb x hx)); have hgA4 := hV4.ne hN4 (by decide); have f4 := hN4.free 0; have e4 : w4.cell? ⟨gb, 0, none⟩ = some (.slice A' s c') := (by rw [hN4.cell]; rfl))
      have hgA6 := hV6.ne hN6 (by decide)
      exact HFIN.out A6 v c6 _ (B6.set (p := ⟨gb, 0, none⟩) (by simp) _) (hN6.set 0 (.slice A6 v c6)) (hV6.setFar (p := ⟨gb, 0, none⟩) hgA6 _) hb6
    · obtain rfl : p = false := by rw [hpre, decide_eq_false hd]
      have hS2e : S2 = T := by rw [← hS2]; unfold dotted; rw [if_neg hd]
      obtain ⟨S1, hS1⟩ : ∃ S1, S0 ++ T = S1 := ⟨_, rfl⟩
      have hS1e : bvs S0 ++ bvs T = bvs S1 := by rw [← hS1, bvs_append]
      have hS2f : bvs S1 ++ bvs [13, 10] = bvs (S0 ++ (S2 ++ [13, 10])) := by rw [← hS1, hS2e, ← bvs_append, List.append_assoc]
      have HS2f := Lib.hid hS2f
      have HS1e := Lib.hid hS1e
      clear hpre hd hS1 hS2e hS2f hS1e hS2
      obtain ⟨u, hu⟩ : ∃ u, s + t = u := ⟨_, rfl⟩
      obtain ⟨v, hv⟩ : ∃ v, u + 2 = v := ⟨_, rfl⟩
      have hub : u ≤ 8388616 := by have := HTL.out; omega
      have HU := Lib.hid hu
      have HV := Lib.hid hv
      clear hu hv
      gi_wp2_with first
        | (refine ⟨trivial, ?_⟩; gi_at_call 34; refine (CallsIn.inRound q (callsIn_wide.2 (cT _ rfl))).mono ?_; rintro e w2 ⟨rfl, hO2⟩; have k0 := mark0 w2 (.int .u8 46); have B2 : OnlyB base [gb] W (w2.alloc (.cells #[.int .u8 46] 5 (1, 2))) := OnlyB.of (hO2.alloc _) (fun _ hx => nomatch hx))
        | (refine ⟨trivial, ?_⟩; gi_at_call 41; refine (CallsIn.inRound q (callsIn_wide.2 (cP _ _ _ _ B2 (lit0 _ _ _ _)))).mono ?_; rintro e w3 ⟨rfl, hO3⟩; have hW3 := (hO2.alloc (.cells #[.int .u8 46] 5 (1, 2))).then hO3; have B3 := B2.only_ hO3 (fun _ hx => nomatch hx); have hN3 := hN.only hW3 (fun hm => nomatch hm); have hV3 := hV.keep hW3; have f3 := hN3.free 0; have e3 : w3.cell? ⟨gb, 0, none⟩ = some (.slice A' s c') := (by rw [hN3.cell]; rfl))
        | (gi_at_builtin; refine wpListIn_append_lit rfl (.tmp 20) (.const (.string ⟨#[13, 10]⟩)) 22 9 rfl 5 i0 Tryd.underlying22 Tryd.underlying9 hi hz0 hz1 hz2 A5 u c5 _ rfl (hV5.setFar (p := ⟨gb, 0, none⟩) hgA5 _) ⟨#[13, 10]⟩ rfl (by show u + 2 ≤ _; omega) v HV.out _ HS2f.out ?_; intro A6 c6 w6 hV6 hO6 hB6; have hN6 := (hN5.set 0 (.slice A5 u c5)).only hO6 hgA5; have hb6 := hB6 base (by have := B5.size; have := HBW.out; simpa [World.setCell] using (by omega : base ≤ w5.heap.size)) hb5; have B6 := (B5.set (p := ⟨gb, 0, none⟩) (by simp) (.slice A5 u c5)).only_ hO6 (fun x hx => .inr (hb5 x hx)); have f6 := hN6.free 0; have e6 : w6.cell? ⟨gb, 0, none⟩ = some (.slice A5 u c5) := (by rw [hN6.cell]; rfl))
        | (gi_at_builtin; refine wpListIn_append_as rfl (.tmp 17) (.tmp 18) 22 rfl 5 i0 (.int .u8 0) 1 Tryd.underlying22 hi hz0 hz1 hz2 rfl A' s c' _ rfl hV3 A2 t m _ rfl (hTx.out.onlyB B3 hA2c).sl (bvs_one _) (by unfold maxLen; have := HU.out; omega) (by have := HU.out; omega) u HU.out _ HS1e.out ?_; intro A5 c5 w5 hV5 hO5 hB5; have hN5 := hN3.only hO5 hgA; have hb5 := hmono A5 _ A' (by have := B3.size; have := HBW.out; omega) hb hB5; have B5 := B3.only_ hO5 (fun x hx => .inr (hb x hx)); have hgA5 := hV5.ne hN5 (by decide); have f5 := hN5.free 0; have e5 : w5.cell? ⟨gb, 0, none⟩ = some (.slice A' s c') := (by rw [hN5.cell]; rfl))
      have hgA6 := hV6.ne hN6 (by decide)
      exact HFIN.out A6 v c6 _ (B6.set (p := ⟨gb, 0, none⟩) (by simp) _) (hN6.set 0 (.slice A6 v c6)) (hV6.setFar (p := ⟨gb, 0, none⟩) hgA6 _) hb6
  case done =>
    rintro D W ⟨A', s, c', hN, hO, hV, hb⟩ hD hK
    have c0 : W.cell? ⟨w.heap.size, 0, none⟩ = some (.slice A' s c') := by rw [hN.cell]; rfl
    have hsl := hV.len
    rw [bvs_length] at hsl
    have hlen := sentK_len l (lns l).length
    rw [HL.out] at hlen
    have hEZ : bvs (sentK l (lns l).length) ++ bvs [46, 13, 10] = bvs Z := by
      rw [← HZ.out]
      unfold stuff sentK
      rw [List.take_length, bvs_append]
    have hZl : Z.length = s + 3 := by
      have := congrArg List.length hEZ
      rw [List.length_append, bvs_length, bvs_length, bvs_length, hsl] at this
      exact this.symm
    obtain ⟨v, hv⟩ : ∃ v, s + 3 = v := ⟨_, rfl⟩
    have hs3 : s + 3 ≤ 8388616 := by omega
    have HEZ := Lib.hid hEZ
    have HV := Lib.hid hv
    have HZL := Lib.hid (hZl.trans hv)
    clear hsl hlen hEZ hv hZl
    have HD := Lib.hid hD
    clear hD
    gi_wp2_with (gi_at_builtin; refine wpListIn_append_lit rfl (.tmp 22) (.const (.string ⟨#[46, 13, 10]⟩)) 22 9 rfl 5 i0 Tryd.underlying22 Tryd.underlying9 hi hz0 hz1 hz2 A' s c' _ rfl hV ⟨#[46, 13, 10]⟩ rfl (by show s + 3 ≤ _; omega) v HV.out _ HEZ.out ?_; intro A6 c6 w6 hV6 hO6 hB6)
    have hd0 := HD.out
    have hb6 := hB6 (w1.heap.size + 1) (by have := (Array.getElem?_eq_some_iff.1 hK).1; omega) (fun x hx => by have := hb x hx; omega)
    have hK6 : w6.heap[D]? = some (.deferred (some [])) := (hO6.block _ (Array.getElem?_eq_some_iff.1 hK).1 (fun hm => by have := hb _ hm; omega)).trans hK
    refine ⟨by simp, .inl ⟨_, _, rfl, run_takeDeferred hK6, ?_⟩⟩
    refine ⟨_, results_tmp rfl _ _ _, A6, c6, by rw [HZL.out]; rfl, by rw [HZL.out]; exact hV6.only (putObj_only _ _ _) (fun x hx hm => by have := hb6 x hx; simp at hm; omega), (hO.trans hO6 (fun x hx => .inr (by have := hb x hx; omega))).trans (putObj_only _ _ _) (fun x hx => by simp at hx; omega), fun x hx => by have := hb6 x hx; omega⟩
  case stop =>
    rintro D cd k W hk h
    exact h.elim
end
end Go.Proofs.YtmameghebikjbaaDoor
