/-
  Texts of the seat, laid one behind the other: ZMeant ZDeep.
-/
import Derived.Test.YtkcnnbglmckmnaaDoorA11
namespace Go.Proofs.YtkcnnbglmckmnaaDoor
open Go.RowKit Go.Instr
def kz (o : Option Ky) : Ky := o.getD Ky.none
theorem kz_bd {T : List Tkn} (hT : OkT T) : BdK (kz (parseK (prs 16) T)) := by
  cases h : parseK (prs 16) T with
  | none => exact bd_small 0 0
  | some k => exact parse_bd hT h
theorem ParseR.plain {w : World} {o : Option Ky} {e : Ending} {w' : World} (h : ParseR w o e w') : ∃ (kd n : Int) (s t : ByteArray) (SA : Option Addr) (ns sc : Nat) (KA : Option Addr) (nk kc : Nat) (er : Int), e = .returned (.tuple #[.agg #[.int .i64 kd, .int .i64 n, .string s, .string t, .slice SA ns sc, .slice KA nk kc], .int .i64 er]) ∧ Only [] w w' ∧
    Hid ((er == 0) = o.isSome) ∧ Hid (KyIs (fun x => w.heap.size ≤ x ∧ x < w'.heap.size) w' (kz o) [.int .i64 kd, .int .i64 n, .string s, .string t, .slice SA ns sc, .slice KA nk kc]) ∧ Hid (er = if o.isSome = true then 0 else 3) := by
  obtain ⟨kd, n, s, t, SA, ns, sc, KA, nk, kc, er, rfl, h1, h2⟩ := h
  refine ⟨kd, n, s, t, SA, ns, sc, KA, nk, kc, er, rfl, h1, ?_⟩
  cases o with
  | none =>
    obtain ⟨rfl, h3⟩ := h2.out
    exact ⟨rfl, h3, rfl⟩
  | some k =>
    obtain ⟨rfl, h3⟩ := h2.out
    exact ⟨rfl, h3, rfl⟩
set_option maxRecDepth 100000 in
set_option maxHeartbeats 2000000 in
theorem meant_any {w : World} {A MA : Option Addr} {n c mn mc : Nat} {T : List Tkn} {m : Mss} (h : Gr 2 w A n (gx tkl T)) (hl : T.length = n) (hc : n ≤ c) (hn : n ≤ 100000) (ht : ∀ t ∈ T, t.2.length ≤ 140737488355328) (hB : Bt w MA mn mc m.body) (hmn : mn ≤ 4096) (hA : ∀ x ∈ blks MA, x < w.heap.size) (hM : MaxF w) :
    Calls Tryd.prog 19 #[.slice A n c, .agg #[.int .i64 m.uid, .int .i64 m.flags, .int .i64 m.date, .slice MA mn mc]] w fun e w' => e = .returned (.tuple #[.bool (meansK m 1 1 (max m.uid 1) (kz (parseK (prs 16) T))), .bool (parseK (prs 16) T).isSome]) ∧ Only [] w w' := by
  have hO0 : Only [] w (w.alloc (.cells #[.int .i64 m.uid, .int .i64 m.flags, .int .i64 m.date, .slice MA mn mc] 37)) := (Only.refl _ _).alloc _
  have hB0 := Bk.new w 37 #[.int .i64 m.uid, .int .i64 m.flags, .int .i64 m.date, .slice MA mn mc]
  have hP := fParse_any (c := c) (h.keep hO0) hl hc hn ht
  have hbd := kz_bd (T := T) ⟨ht, by omega⟩
  obtain ⟨o, ho⟩ : ∃ o, parseK (prs 16) T = o := ⟨_, rfl⟩
  rw [ho] at hP hbd ⊢
  obtain ⟨mx, hmx⟩ : ∃ mx, max m.uid 1 = mx := ⟨_, rfl⟩
  rw [hmx]
  have HP := Lib.hid hP
  have HO0 := Lib.hid hO0
  have HB0 := Lib.hid hB0
  have HB := Lib.hid hB
  have HA := Lib.hid hA
  have HM := Lib.hid hM
  have HBD := Lib.hid hbd
  obtain ⟨R, hR⟩ : ∃ R, meansK m 1 1 mx (kz o) = R := ⟨_, rfl⟩
  rw [hR]
  have HRR := Lib.hid hR
  clear hP hO0 hB0 hB hA hM hbd ho ht hl h hR
  go_enter Tryd.func19, Tryd.ntmps19
  go_wp2_with first
    | (go_at_call 11; refine HP.out.mono ?_; intro e w1 hPR; obtain ⟨kd, n1, s1, s2, SA, ns, sc, KA, nk, kc, er, rfl, O1, HER, HKY, _⟩ := hPR.plain; have O1 := Lib.hid O1; have oa : Only [] w1 (w1.alloc (.cells #[.int .i64 kd, .int .i64 n1, .string s1, .string s2, .slice SA ns sc, .slice KA nk kc] 27)) := ((Only.refl _ _).alloc _); have ob := (HO0.out.then O1.out).then oa; obtain ⟨m0, m1, m2, m3⟩ := (HB0.out.only O1.out (fun hm => nomatch hm)).four; have hlw := (HB0.out.only O1.out (fun hm => nomatch hm)).lt; have hc1 := match_any (m := m) (pl := 1) (la := 1) (lu := mx) (kz o) _ _ _ MA mn mc (HKY.out.keep oa) (HB.out.keep ob) hmn (fun x hx => Nat.lt_of_lt_of_le (HA.out x hx) ob.size) (HM.out.keep ob) HBD.out; rw [HRR.out] at hc1; have HC1 := Lib.hid hc1; have OB := Lib.hid ob; clear HP hc1 oa ob)
    | (go_at_call 16; refine HC1.out.mono ?_; rintro e w2 ⟨rfl, O2⟩; have O2 := Lib.hid O2; clear HC1)
  go_ret2
  refine ⟨?_, OB.out.then O2.out⟩
  show Ending.returned (.tuple #[.bool R, .bool (er == 0)]) = _
  rw [HER.out]
def atomsT (l : List (List UInt8)) : List Tkn := l.map fun s => (1, s)
theorem atomsT_len (l : List (List UInt8)) : (atomsT l).length = l.length := by simp [atomsT]
def tvL (l : List (List UInt8)) : List Value := l.map fun s => .string (St s)
set_option maxRecDepth 100000 in
set_option maxHeartbeats 2000000 in
theorem atoms_any {w : World} {A : Option Addr} {n c : Nat} {l : List (List UInt8)} (h : Sl w A n (tvL l)) (hn : n ≤ 1000) : Calls Tryd.prog 20 #[.slice A n c] w fun e w' => ∃ A' c', e = .returned (.slice A' n c') ∧ Gw 2 w' 45 A' n c' (gx tkl (atomsT l)) ∧ (∀ x ∈ blks A', w.heap.size ≤ x) ∧ Only [] w w' := by
  obtain ⟨i0, hi0, hi1⟩ := Option.map_eq_some_iff.1 infoTok3
  simp only [Prod.mk.injEq] at hi1
  obtain ⟨hz0, hz1, hz2⟩ := hi1
  have hl : l.length = n := by have := h.len; simpa [tvL] using this
  have HS := Lib.hid h
  have HL := Lib.hid hl
  clear h hl
  go_enter Tryd.func20, Tryd.ntmps20
  go_wp2
  go_loopw [3, 4] (fun sv iv wr => ∃ (k : Nat) (A' : Option Addr) (c' : Nat), sv = .slice A' k c' ∧ iv = .int .i64 (k : Int) ∧ k ≤ n ∧ Hid (Gw 2 wr 45 A' k c' (gx tkl (atomsT (l.take k)))) ∧ Hid (∀ x ∈ blks A', w.heap.size ≤ x) ∧ Hid (Only [] w wr)) (fun _ iv _ => n - (intOf iv).toNat)
  case atStart => exact ⟨0, none, 0, rfl, rfl, Nat.zero_le _, Gw.nil _ _ _, (fun _ h => nomatch h), Only.refl _ _⟩
  case round =>
    obtain ⟨k, A', c', rfl, rfl, hk, HG, HA, HO⟩ := hrel
    by_cases hlt : k < n
    · have hlt' : (k : Int) < (n : Int) := by omega
      have hkl : k < l.length := by rw [HL.out]; exact hlt
      obtain ⟨ad, u, rfl, hu, hc⟩ := (HS.out.keep HO.out).at_ hlt
      have hu' : u = .string (St l[k]) := by
        unfold tvL at hu
        rw [List.getElem?_map, List.getElem?_eq_getElem hkl] at hu
        simpa using hu.symm
      rw [hu'] at hc
      clear hu hu'
      have HTK : Hid (atomsT (l.take (k + 1)) = atomsT (l.take k) ++ [(1, l[k])]) := by show _ = _; unfold atomsT; rw [List.take_succ_eq_append_getElem hkl, List.map_append]; rfl
      obtain ⟨x, hx⟩ : ∃ x, l[k] = x := ⟨_, rfl⟩
      rw [hx] at hc HTK
      clear hx
      have HBN := Lib.hid (Bk.new wr 45 #[.int .i64 1, .string (St x)])
      have HGK := Lib.hid (HG.out.keep ((Only.refl [] wr).alloc (.cells #[.int .i64 1, .string (St x)] 45)))
      go_wp2_with (at_builtin; refine wpList_append_gw rfl (.tmp 11) (.tmp 17) 2 22 rfl 45 i0 (.agg #[.int .i64 0, .string ⟨#[]⟩]) 24 Tryd.underlying22 hi0 hz0 hz1 hz2 rfl (by omega) A' k c' _ rfl HGK.out (some ⟨wr.heap.size, 0, none⟩) 1 1 (tkl (1, x)) rfl (Gr.of_bk HBN.out rfl) (tkl_one _) (by unfold maxLen; omega) (by omega) (k + 1) rfl ?_; intro A2 c2 w5 HG2 HO2 HBB2; have HG2 := Lib.hid HG2; have HO2 := Lib.hid HO2; have HBB2 := Lib.hid HBB2)
      go_roundw
      case rel =>
        refine ⟨k + 1, A2, c2, rfl, by go_num, by omega, ?_, fun y hy => ?_, ?_⟩
        · show Gw _ _ _ _ _ _ _
          rw [HTK.out, gx_append, gx_one]
          exact HG2.out
        · rcases HBB2.out y hy with h1 | h1
          · exact HA.out y h1
          · rw [World.size_alloc] at h1
            have := HO.out.size
            omega
        · exact (HO.out.alloc _).trans HO2.out (fun y hy => .inr (HA.out y hy))
      case measure => simp [intOf]; omega
    · obtain rfl : k = n := by omega
      rw [List.take_of_length_le (by rw [HL.out]; exact Nat.le_refl _)] at HG
      go_wp2
      go_ret
      exact ⟨A', c', rfl, HG.out, HA.out, HO.out⟩
end Go.Proofs.YtkcnnbglmckmnaaDoor
namespace Go.Proofs.YtkcnnbglmckmnaaDoor
open Go.RowKit Go.Instr
def deepX (b : Bool) : Tkn := if b = true then (3, []) else (1, notW)
def deepT (b : Bool) (n : Nat) : List Tkn := List.replicate n (deepX b) ++ (1, seenW) :: List.replicate (if b = true then n else 0) (4, [])
def deepK (b : Bool) (n : Nat) : Ky := andK [if b = true then nestA n (flagK 1) else nestN n (flagK 1)]
theorem deep_parse (b : Bool) (n : Nat) : parseK (prs 16) (deepT b n) = if n < 5 then some (deepK b n) else none := by
  have h1 := seen_one (prs 16)
  unfold deepT deepX deepK
  cases b with
  | true =>
    have h := keyD_ins (prs 16) h1 n 5 []
    rw [List.append_nil] at h
    simp only [if_true]
    by_cases hn : n < 5
    · rw [if_pos hn] at h ⊢
      exact parse_some _ h
    · rw [if_neg hn] at h ⊢
      exact parse_none _ h
  | false =>
    have h := keyD_nots (prs 16) h1 [] n 5
    simp only [if_false, List.replicate_zero, Bool.false_eq_true]
    by_cases hn : n < 5
    · rw [if_pos hn] at h ⊢
      exact parse_some _ h
    · rw [if_neg hn] at h ⊢
      exact parse_none _ h
theorem deep_means (b : Bool) (n : Nat) : meansK ⟨0, 1, 0, []⟩ 1 1 1 (deepK b n) = (b || decide (n % 2 = 0)) := by
  unfold meansK deepK
  rw [match_one]
  have hf : flagB 1 1 = true := by rfl
  cases b with
  | true =>
    simp only [if_true, Bool.true_or]
    rw [match_nestA, match_flag]
    exact hf
  | false =>
    simp only [if_false, Bool.false_or, Bool.false_eq_true]
    rw [match_nestN, match_flag, hf]
    by_cases h : n % 2 = 0
    · rw [if_pos h, decide_eq_true h]
    · rw [if_neg h, decide_eq_false h]; rfl
theorem deep_ok (b : Bool) {n : Nat} (h : n ≤ 8) : OkT (deepT b n) ∧ (deepT b n).length = n + 1 + (if b = true then n else 0) := by
  have hl : (deepT b n).length = n + 1 + (if b = true then n else 0) := by
    unfold deepT
    simp only [List.length_append, List.length_replicate, List.length_cons]
    omega
  refine ⟨⟨fun t ht => ?_, by rw [hl]; split <;> omega⟩, hl⟩
  unfold deepT at ht
  rcases List.mem_append.1 ht with ht | ht
  · rw [List.eq_of_mem_replicate ht]
    unfold deepX
    split <;> decide
  · rcases List.mem_cons.1 ht with rfl | ht
    · decide
    · rw [List.eq_of_mem_replicate ht]; decide
theorem deep_known {w : World} (hM : MaxF w) (N : Int) (b : Bool) (hN : N < 0 ∨ 8 < N) : Calls Tryd.prog 8 #[.int .i64 N, .bool b] w fun e w' => e = .returned (.bool true) ∧ Only [] w w' := by
  have HK := Lib.hid (known_any w hM)
  by_cases h : N < 0
  · clear hN hM
    go_enter Tryd.func8, Tryd.ntmps8
    go_wp2_with (go_at_call 14; refine HK.out.mono ?_; rintro e w2 ⟨rfl, O2⟩)
    go_ret
    exact ⟨rfl, O2⟩
  · have h8 : 8 < N := by omega
    have h0 : 0 ≤ N := by omega
    clear hN hM h
    go_enter Tryd.func8, Tryd.ntmps8
    go_wp2_with (go_at_call 14; refine HK.out.mono ?_; rintro e w2 ⟨rfl, O2⟩)
    go_ret
    exact ⟨rfl, O2⟩
set_option maxRecDepth 100000 in
set_option maxHeartbeats 4000000 in
theorem deep_true {w : World} (hM : MaxF w) (n : Nat) (hn : n ≤ 8) : Calls Tryd.prog 8 #[.int .i64 (n : Int), .bool true] w fun e w' => e = .returned (.bool true) ∧ Only [] w w' := by
  obtain ⟨i0, hi0, hi1⟩ := Option.map_eq_some_iff.1 infoTok3
  simp only [Prod.mk.injEq] at hi1
  obtain ⟨hz0, hz1, hz2⟩ := hi1
  have HM := Lib.hid hM
  have hn0 : (0 : Int) ≤ (n : Int) := by omega
  have hn8 : (n : Int) ≤ 8 := by omega
  clear hM
  go_enter Tryd.func8, Tryd.ntmps8
  go_wp2_with fail
  go_loopw [5, 6] (fun sv iv wr => ∃ (k : Nat) (A : Option Addr) (c : Nat), sv = .slice A k c ∧ iv = .int .i64 (k : Int) ∧ k ≤ n ∧ Hid (Gw 2 wr 45 A k c (gx tkl (List.replicate k (3, [])))) ∧ Hid (∀ x ∈ blks A, w.heap.size ≤ x) ∧ Hid (Only [] w wr)) (fun _ iv _ => n - (intOf iv).toNat)
  case atStart => exact ⟨0, none, 0, rfl, rfl, Nat.zero_le _, Gw.nil _ _ _, (fun _ h => nomatch h), Only.refl _ _⟩
  case round =>
    obtain ⟨k, A, c, rfl, rfl, hk, HG, HA, HO⟩ := hrel
    by_cases hlt : k < n
    · have hlt' : (k : Int) < (n : Int) := by omega
      have HBN := Lib.hid (Bk.new wr 45 #[.int .i64 3, .string ⟨#[]⟩])
      have HGK := Lib.hid (HG.out.keep ((Only.refl [] wr).alloc (.cells #[.int .i64 3, .string ⟨#[]⟩] 45)))
      go_wp2_with (at_builtin; refine wpList_append_gw rfl (.tmp 24) (.tmp 26) 2 22 rfl 45 i0 (.agg #[.int .i64 0, .string ⟨#[]⟩]) 24 Tryd.underlying22 hi0 hz0 hz1 hz2 rfl (by omega) A k c _ rfl HGK.out (some ⟨wr.heap.size, 0, none⟩) 1 1 (tkl (3, [])) rfl (Gr.of_bk HBN.out rfl) (tkl_one _) (by unfold maxLen; omega) (by omega) (k + 1) rfl ?_; intro A2 c2 w5 HG2 HO2 HBB2; have HG2 := Lib.hid HG2; have HO2 := Lib.hid HO2; have HBB2 := Lib.hid HBB2)
      go_roundw
      case rel =>
        refine ⟨k + 1, A2, c2, rfl, by go_num, by omega, ?_, fun y hy => ?_, ?_⟩
        · show Gw _ _ _ _ _ _ _
          rw [List.replicate_succ', gx_append, gx_one]
          exact HG2.out
        · rcases HBB2.out y hy with h1 | h1
          · exact HA.out y h1
          · rw [World.size_alloc] at h1
            have := HO.out.size
            omega
        · exact (HO.out.alloc _).trans HO2.out (fun y hy => .inr (HA.out y hy))
      case measure => simp [intOf]; omega
    · obtain rfl : k = n := by omega
      have HBN := Lib.hid (Bk.new wr 45 #[.int .i64 1, .string ⟨#[115, 101, 101, 110]⟩])
      have HGK := Lib.hid (HG.out.keep ((Only.refl [] wr).alloc (.cells #[.int .i64 1, .string ⟨#[115, 101, 101, 110]⟩] 45)))
      go_wp2_with (at_builtin; refine wpList_append_gw rfl (.tmp 32) (.tmp 34) 2 22 rfl 45 i0 (.agg #[.int .i64 0, .string ⟨#[]⟩]) 24 Tryd.underlying22 hi0 hz0 hz1 hz2 rfl (by omega) A k c _ rfl HGK.out (some ⟨wr.heap.size, 0, none⟩) 1 1 (tkl (1, seenW)) rfl (Gr.of_bk HBN.out rfl) (tkl_one _) (by unfold maxLen; omega) (by omega) (k + 1) rfl ?_; intro A2 c2 w5 HG2 HO2 HBB2; have HG2 := Lib.hid HG2; have HO2 := Lib.hid HO2; have HBB2 := Lib.hid HBB2)
      have hO5 : Only [] w w5 := (HO.out.alloc _).trans HO2.out (fun y hy => .inr (HA.out y hy))
      have hA5 : ∀ y ∈ blks A2, w.heap.size ≤ y := fun y hy => by
        rcases HBB2.out y hy with h1 | h1
        · exact HA.out y h1
        · rw [World.size_alloc] at h1
          have := HO.out.size
          omega
      have hG5 : Gw 2 w5 45 A2 (k + 1) c2 (gx tkl (List.replicate k (3, []) ++ [(1, seenW)])) := by
        rw [gx_append, gx_one]
        exact HG2.out
      have HG5 := Lib.hid hG5
      have HA5 := Lib.hid hA5
      have HO5 := Lib.hid hO5
      clear hG5 hA5 hO5 HG2 HO2 HBB2 HGK HBN HG HA HO
      go_loopw [5, 7] (fun sv iv wr => ∃ (j : Nat) (A : Option Addr) (c : Nat), sv = .slice A (k + 1 + j) c ∧ iv = .int .i64 (j : Int) ∧ j ≤ k ∧ Hid (Gw 2 wr 45 A (k + 1 + j) c (gx tkl (List.replicate k (3, []) ++ [(1, seenW)] ++ List.replicate j (4, [])))) ∧ Hid (∀ x ∈ blks A, w.heap.size ≤ x) ∧ Hid (Only [] w wr)) (fun _ iv _ => k - (intOf iv).toNat)
      case atStart => exact ⟨0, A2, c2, rfl, rfl, Nat.zero_le _, by show Gw _ _ _ _ _ _ _; rw [List.replicate_zero, List.append_nil]; exact HG5.out, HA5.out, HO5.out⟩
      case round =>
        obtain ⟨j, A, c, rfl, rfl, hj, HG, HA, HO⟩ := hrel
        by_cases hlt2 : j < k
        · have hlt' : (j : Int) < (k : Int) := by omega
          have HBN := Lib.hid (Bk.new wr 45 #[.int .i64 4, .string ⟨#[]⟩])
          have HGK := Lib.hid (HG.out.keep ((Only.refl [] wr).alloc (.cells #[.int .i64 4, .string ⟨#[]⟩] 45)))
          obtain ⟨q, hq⟩ : ∃ q, k + 1 + j = q := ⟨_, rfl⟩
          have HQ := Lib.hid hq
          have hq20 : q ≤ 20 := by omega
          rw [hq] at HGK
          have hqi : ((k : Int) + 1 + (j : Int)) = (q : Int) := by omega
          rw [hq]
          clear hq
          go_wp2_with (at_builtin; refine wpList_append_gw rfl (.tmp 44) (.tmp 46) 2 22 rfl 45 i0 (.agg #[.int .i64 0, .string ⟨#[]⟩]) 24 Tryd.underlying22 hi0 hz0 hz1 hz2 rfl (by omega) A q c _ rfl HGK.out (some ⟨wr.heap.size, 0, none⟩) 1 1 (tkl (4, [])) rfl (Gr.of_bk HBN.out rfl) (tkl_one _) (by unfold maxLen; omega) (by omega) (q + 1) rfl ?_; intro A2 c2 w5 HG2 HO2 HBB2; have HG2 := Lib.hid HG2; have HO2 := Lib.hid HO2; have HBB2 := Lib.hid HBB2)
          go_roundw
          case rel =>
            refine ⟨j + 1, A2, c2, by rw [← HQ.out]; rfl, by go_num, by omega, ?_, fun y hy => ?_, ?_⟩
            · show Gw _ _ _ _ _ _ _
              rw [List.replicate_succ', ← List.append_assoc, gx_append, gx_one, show k + 1 + (j + 1) = q + 1 by have := HQ.out; omega]
              exact HG2.out
            · rcases HBB2.out y hy with h1 | h1
              · exact HA.out y h1
              · rw [World.size_alloc] at h1
                have := HO.out.size
                omega
            · exact (HO.out.alloc _).trans HO2.out (fun y hy => .inr (HA.out y hy))
          case measure => simp [intOf]; omega
        · obtain rfl : j = k := by omega
          have hT : gx tkl (List.replicate j ((3, []) : Tkn) ++ [(1, seenW)] ++ List.replicate j (4, [])) = gx tkl (deepT true j) := by unfold deepT deepX; simp
          rw [hT] at HG
          obtain ⟨hok, hlen⟩ := deep_ok true hn
          simp only [if_true] at hlen
          obtain ⟨q, hq⟩ : ∃ q, j + 1 + j = q := ⟨_, rfl⟩
          have hq20 : q ≤ 20 := by omega
          rw [hq] at HG hlen ⊢
          clear hq hT
          have hP := fParse_any (c := c) (HG.out.reads) hlen HG.out.cap (by omega) hok.1
          rw [deep_parse] at hP
          have hme := deep_means true j
          by_cases h5 : j < 5
          · rw [if_pos h5] at hP
            have hbd := parse_bd hok (by rw [deep_parse, if_pos h5])
            have HP := Lib.hid hP
            have HBD := Lib.hid hbd
            have h5' : (j : Int) ≤ 4 := by omega
            obtain ⟨R, hR⟩ : ∃ R, meansK ⟨0, 1, 0, []⟩ 1 1 1 (deepK true j) = R := ⟨_, rfl⟩
            rw [hR] at hme
            have HR := Lib.hid hR
            clear hP hbd hok hlen h5 hR
            have hRt : R = true := by rw [hme]; rfl
            subst hRt
            clear hme
            go_wp2_with first
              | (go_at_call 11; refine HP.out.mono ?_; intro e w1 hPR; obtain ⟨kd, n1, s1, s2, SA, ns, sc, KA, nk, kc, er, rfl, O1, _, HKY, her⟩ := hPR.plain; obtain rfl : er = 0 := her.out; have O1 := Lib.hid O1; have oa : Only [] w1 (w1.alloc (.cells #[.int .i64 kd, .int .i64 n1, .string s1, .string s2, .slice SA ns sc, .slice KA nk kc] 27)) := ((Only.refl _ _).alloc _); have ob := (HO.out.then O1.out).then oa; have hc1 := match_any (m := ⟨0, 1, 0, []⟩) (pl := 1) (la := 1) (lu := 1) _ _ _ _ none 0 0 (HKY.out.keep oa) (Bt.none_ _) (by omega) (fun x hx => nomatch hx) (HM.out.keep ob) HBD.out; rw [show kz (some (deepK true j)) = deepK true j from rfl, HR.out] at hc1; have HC1 := Lib.hid hc1; have OB := Lib.hid ob; clear HP hc1 oa ob hPR her)
              | (go_at_call 16; refine HC1.out.mono ?_; rintro e w2 ⟨rfl, O2⟩; have HKN := Lib.hid (known_any w2 (HM.out.keep (OB.out.then O2))); have O2 := Lib.hid O2; clear HC1)
              | (go_at_call 14; refine HKN.out.mono ?_; rintro e w3 ⟨rfl, O3⟩; have O3 := Lib.hid O3; clear HKN)
            all_goals (go_ret; exact ⟨rfl, (OB.out.then O2.out).then O3.out⟩)
          · rw [if_neg h5] at hP
            have HP := Lib.hid hP
            have h5' : (4 : Int) < (j : Int) := by omega
            clear hP hok hlen h5 hme
            go_wp2_with first
              | (go_at_call 11; refine HP.out.mono ?_; intro e w1 hPR; obtain ⟨kd, n1, s1, s2, SA, ns, sc, KA, nk, kc, er, rfl, O1, _, _, her⟩ := hPR.plain; obtain rfl : er = 3 := her.out; have ob := (HO.out.then O1).alloc (.cells #[.int .i64 kd, .int .i64 n1, .string s1, .string s2, .slice SA ns sc, .slice KA nk kc] 27); have HKN := Lib.hid (known_any _ (HM.out.keep ob)); have OB := Lib.hid ob; clear HP ob hPR her)
              | (go_at_call 14; refine HKN.out.mono ?_; rintro e w3 ⟨rfl, O3⟩; have O3 := Lib.hid O3; clear HKN)
            all_goals (go_ret; exact ⟨rfl, OB.out.then O3.out⟩)
set_option maxRecDepth 100000 in
set_option maxHeartbeats 4000000 in
theorem deep_false {w : World} (hM : MaxF w) (n : Nat) (hn : n ≤ 8) : Calls Tryd.prog 8 #[.int .i64 (n : Int), .bool false] w fun e w' => e = .returned (.bool true) ∧ Only [] w w' := by
  obtain ⟨i0, hi0, hi1⟩ := Option.map_eq_some_iff.1 infoTok3
  simp only [Prod.mk.injEq] at hi1
  obtain ⟨hz0, hz1, hz2⟩ := hi1
  have HM := Lib.hid hM
  have hn0 : (0 : Int) ≤ (n : Int) := by omega
  have hn8 : (n : Int) ≤ 8 := by omega
  clear hM
  go_enter Tryd.func8, Tryd.ntmps8
  go_wp2_with fail
  go_loopw [5, 6] (fun sv iv wr => ∃ (k : Nat) (A : Option Addr) (c : Nat), sv = .slice A k c ∧ iv = .int .i64 (k : Int) ∧ k ≤ n ∧ Hid (Gw 2 wr 45 A k c (gx tkl (List.replicate k (1, notW)))) ∧ Hid (∀ x ∈ blks A, w.heap.size ≤ x) ∧ Hid (Only [] w wr)) (fun _ iv _ => n - (intOf iv).toNat)
  case atStart => exact ⟨0, none, 0, rfl, rfl, Nat.zero_le _, Gw.nil _ _ _, (fun _ h => nomatch h), Only.refl _ _⟩
  case round =>
    obtain ⟨k, A, c, rfl, rfl, hk, HG, HA, HO⟩ := hrel
    by_cases hlt : k < n
    · have hlt' : (k : Int) < (n : Int) := by omega
      have HBN := Lib.hid (Bk.new wr 45 #[.int .i64 1, .string ⟨#[110, 111, 116]⟩])
      have HGK := Lib.hid (HG.out.keep ((Only.refl [] wr).alloc (.cells #[.int .i64 1, .string ⟨#[110, 111, 116]⟩] 45)))
      go_wp2_with (at_builtin; refine wpList_append_gw rfl (.tmp 28) (.tmp 30) 2 22 rfl 45 i0 (.agg #[.int .i64 0, .string ⟨#[]⟩]) 24 Tryd.underlying22 hi0 hz0 hz1 hz2 rfl (by omega) A k c _ rfl HGK.out (some ⟨wr.heap.size, 0, none⟩) 1 1 (tkl (1, notW)) rfl (Gr.of_bk HBN.out rfl) (tkl_one _) (by unfold maxLen; omega) (by omega) (k + 1) rfl ?_; intro A2 c2 w5 HG2 HO2 HBB2; have HG2 := Lib.hid HG2; have HO2 := Lib.hid HO2; have HBB2 := Lib.hid HBB2)
      go_roundw
      case rel =>
        refine ⟨k + 1, A2, c2, rfl, by go_num, by omega, ?_, fun y hy => ?_, ?_⟩
        · show Gw _ _ _ _ _ _ _
          rw [List.replicate_succ', gx_append, gx_one]
          exact HG2.out
        · rcases HBB2.out y hy with h1 | h1
          · exact HA.out y h1
          · rw [World.size_alloc] at h1
            have := HO.out.size
            omega
        · exact (HO.out.alloc _).trans HO2.out (fun y hy => .inr (HA.out y hy))
      case measure => simp [intOf]; omega
    · obtain rfl : k = n := by omega
      have HBN := Lib.hid (Bk.new wr 45 #[.int .i64 1, .string ⟨#[115, 101, 101, 110]⟩])
      have HGK := Lib.hid (HG.out.keep ((Only.refl [] wr).alloc (.cells #[.int .i64 1, .string ⟨#[115, 101, 101, 110]⟩] 45)))
      go_wp2_with (at_builtin; refine wpList_append_gw rfl (.tmp 32) (.tmp 34) 2 22 rfl 45 i0 (.agg #[.int .i64 0, .string ⟨#[]⟩]) 24 Tryd.underlying22 hi0 hz0 hz1 hz2 rfl (by omega) A k c _ rfl HGK.out (some ⟨wr.heap.size, 0, none⟩) 1 1 (tkl (1, seenW)) rfl (Gr.of_bk HBN.out rfl) (tkl_one _) (by unfold maxLen; omega) (by omega) (k + 1) rfl ?_; intro A2 c2 w5 HG2 HO2 HBB2; have HG2 := Lib.hid HG2; have HO2 := Lib.hid HO2; have HBB2 := Lib.hid HBB2)
      have hO5 : Only [] w w5 := (HO.out.alloc _).trans HO2.out (fun y hy => .inr (HA.out y hy))
      have hA5 : ∀ y ∈ blks A2, w.heap.size ≤ y := fun y hy => by
        rcases HBB2.out y hy with h1 | h1
        · exact HA.out y h1
        · rw [World.size_alloc] at h1
          have := HO.out.size
          omega
      have hG5 : Gw 2 w5 45 A2 (k + 1) c2 (gx tkl (List.replicate k (1, notW) ++ [(1, seenW)])) := by
        rw [gx_append, gx_one]
        exact HG2.out
      have HG5 := Lib.hid hG5
      have HA5 := Lib.hid hA5
      have HO5 := Lib.hid hO5
      clear hG5 hA5 hO5 HG2 HO2 HBB2 HGK HBN HG HA HO
      go_loopw [5, 7] (fun sv iv wr => sv = .slice A2 (k + 1) c2 ∧ iv = .int .i64 0 ∧ wr = w5) (fun _ _ _ => 0)
      case atStart => exact ⟨rfl, rfl, rfl⟩
      case round =>
        obtain ⟨rfl, rfl, rfl⟩ := hrel
        have hT : gx tkl (List.replicate k ((1, notW) : Tkn) ++ [(1, seenW)]) = gx tkl (deepT false k) := by unfold deepT deepX; simp
        rw [hT] at HG5
        obtain ⟨hok, hlen⟩ := deep_ok false hn
        simp only [if_false, Bool.false_eq_true, Nat.add_zero] at hlen
        obtain ⟨q, hq⟩ : ∃ q, k + 1 = q := ⟨_, rfl⟩
        have hq20 : q ≤ 20 := by omega
        rw [hq] at HG5 hlen ⊢
        have HG := HG5
        have HA := HA5
        have HO := HO5
        obtain ⟨A, hAe⟩ : ∃ A, A2 = A := ⟨_, rfl⟩
        obtain ⟨c, hce⟩ : ∃ c, c2 = c := ⟨_, rfl⟩
        subst hAe hce
        clear hq hT HG5 HA5 HO5
        have hP := fParse_any (c := c2) (HG.out.reads) hlen HG.out.cap (by omega) hok.1
        rw [deep_parse] at hP
        have hme := deep_means false k
        by_cases h5 : k < 5
        · rw [if_pos h5] at hP
          have hbd := parse_bd hok (by rw [deep_parse, if_pos h5])
          have HP := Lib.hid hP
          have HBD := Lib.hid hbd
          have h5' : (k : Int) ≤ 4 := by omega
          obtain ⟨R, hR⟩ : ∃ R, meansK ⟨0, 1, 0, []⟩ 1 1 1 (deepK false k) = R := ⟨_, rfl⟩
          rw [hR] at hme
          have HR := Lib.hid hR
          clear hP hbd hok hlen h5 hR
          by_cases h2 : k % 2 = 0
          · have hRt : R = true := by rw [hme, decide_eq_true h2]; rfl
            subst hRt
            have hm2 : (k : Int).tmod 2 = 0 := by rw [Int.tmod_eq_emod_of_nonneg (by omega)]; omega
            clear hme h2
            go_wp2_with first
              | (go_at_call 11; refine HP.out.mono ?_; intro e w1 hPR; obtain ⟨kd, n1, s1, s2, SA, ns, sc, KA, nk, kc, er, rfl, O1, _, HKY, her⟩ := hPR.plain; obtain rfl : er = 0 := her.out; have O1 := Lib.hid O1; have oa : Only [] w1 (w1.alloc (.cells #[.int .i64 kd, .int .i64 n1, .string s1, .string s2, .slice SA ns sc, .slice KA nk kc] 27)) := ((Only.refl _ _).alloc _); have ob := (HO.out.then O1.out).then oa; have hc1 := match_any (m := ⟨0, 1, 0, []⟩) (pl := 1) (la := 1) (lu := 1) _ _ _ _ none 0 0 (HKY.out.keep oa) (Bt.none_ _) (by omega) (fun x hx => nomatch hx) (HM.out.keep ob) HBD.out; rw [show kz (some (deepK false k)) = deepK false k from rfl, HR.out] at hc1; have HC1 := Lib.hid hc1; have OB := Lib.hid ob; clear HP hc1 oa ob hPR her)
              | (go_at_call 16; refine HC1.out.mono ?_; rintro e w2 ⟨rfl, O2⟩; have HKN := Lib.hid (known_any w2 (HM.out.keep (OB.out.then O2))); have O2 := Lib.hid O2; clear HC1)
              | (go_at_call 14; refine HKN.out.mono ?_; rintro e w3 ⟨rfl, O3⟩; have O3 := Lib.hid O3; clear HKN)
            all_goals (go_ret; exact ⟨rfl, (OB.out.then O2.out).then O3.out⟩)
          · have hRt : R = false := by rw [hme, decide_eq_false h2]; rfl
            subst hRt
            have hm2 : (k : Int).tmod 2 = 1 := by rw [Int.tmod_eq_emod_of_nonneg (by omega)]; omega
            clear hme h2
            go_wp2_with first
              | (go_at_call 11; refine HP.out.mono ?_; intro e w1 hPR; obtain ⟨kd, n1, s1, s2, SA, ns, sc, KA, nk, kc, er, rfl, O1, _, HKY, her⟩ := hPR.plain; obtain rfl : er = 0 := her.out; have O1 := Lib.hid O1; have oa : Only [] w1 (w1.alloc (.cells #[.int .i64 kd, .int .i64 n1, .string s1, .string s2, .slice SA ns sc, .slice KA nk kc] 27)) := ((Only.refl _ _).alloc _); have ob := (HO.out.then O1.out).then oa; have hc1 := match_any (m := ⟨0, 1, 0, []⟩) (pl := 1) (la := 1) (lu := 1) _ _ _ _ none 0 0 (HKY.out.keep oa) (Bt.none_ _) (by omega) (fun x hx => nomatch hx) (HM.out.keep ob) HBD.out; rw [show kz (some (deepK false k)) = deepK false k from rfl, HR.out] at hc1; have HC1 := Lib.hid hc1; have OB := Lib.hid ob; clear HP hc1 oa ob hPR her)
              | (go_at_call 16; refine HC1.out.mono ?_; rintro e w2 ⟨rfl, O2⟩; have HKN := Lib.hid (known_any w2 (HM.out.keep (OB.out.then O2))); have O2 := Lib.hid O2; clear HC1)
              | (go_at_call 14; refine HKN.out.mono ?_; rintro e w3 ⟨rfl, O3⟩; have O3 := Lib.hid O3; clear HKN)
            all_goals (go_ret; exact ⟨rfl, (OB.out.then O2.out).then O3.out⟩)
        · rw [if_neg h5] at hP
          have HP := Lib.hid hP
          have h5' : (4 : Int) < (k : Int) := by omega
          clear hP hok hlen h5 hme
          go_wp2_with first
            | (go_at_call 11; refine HP.out.mono ?_; intro e w1 hPR; obtain ⟨kd, n1, s1, s2, SA, ns, sc, KA, nk, kc, er, rfl, O1, _, _, her⟩ := hPR.plain; obtain rfl : er = 3 := her.out; have ob := (HO.out.then O1).alloc (.cells #[.int .i64 kd, .int .i64 n1, .string s1, .string s2, .slice SA ns sc, .slice KA nk kc] 27); have HKN := Lib.hid (known_any _ (HM.out.keep ob)); have OB := Lib.hid ob; clear HP ob hPR her)
            | (go_at_call 14; refine HKN.out.mono ?_; rintro e w3 ⟨rfl, O3⟩; have O3 := Lib.hid O3; clear HKN)
          all_goals (go_ret; exact ⟨rfl, OB.out.then O3.out⟩)
theorem deep_any {w : World} (hM : MaxF w) (N : Int) (b : Bool) : Calls Tryd.prog 8 #[.int .i64 N, .bool b] w fun e w' => e = .returned (.bool true) ∧ Only [] w w' := by
  by_cases h : N < 0 ∨ 8 < N
  · exact deep_known hM N b h
  · obtain ⟨n, rfl⟩ : ∃ n : Nat, N = (n : Int) := ⟨N.toNat, by omega⟩
    cases b with
    | true => exact deep_true hM n (by omega)
    | false => exact deep_false hM n (by omega)
end Go.Proofs.YtkcnnbglmckmnaaDoor
