/-
  Texts of the seat, laid one behind the other: ZAll ZKids ZLow.
-/
import Derived.Test.YtkcnnbglmckmnaaDoorA7
import Derived.Test.YtkcnnbglmckmnaaDoorA3
import Derived.Test.YtkcnnbglmckmnaaDoorA9
import Derived.LoopTactic
import Derived.OwnWalk
import Derived.Test.YtkcnnbglmckmnaaDoorA4
import Derived.Test.YtkcnnbglmckmnaaDoorA6
namespace Go.Proofs.YtkcnnbglmckmnaaDoor
open Go.RowKit Go.Instr
theorem infoKy3 : (Tryd.prog.info? 27).map (fun i => (i.zero, i.size, i.bytes)) = some (some (.agg #[.int .i64 0, .int .i64 0, .string ⟨#[]⟩, .string ⟨#[]⟩, .slice none 0 0, .slice none 0 0]), 6, 96) := by kernel_rfl
def lenC : Option Value → Nat
  | some (.slice _ n _) => n
  | _ => 0
theorem Rdr.len {b : Nat} {w : World} {g : Nat} {T : List Tkn} {d : Int} (h : Rdr b w g T d) : lenC (w.cell? ⟨g, 0, none⟩) = T.length := by
  obtain ⟨A, c, h0, _⟩ := h.cells
  rw [h0]
  rfl
def KeyC (ps : List UInt8 → Option (List (Int × Int))) (D : Nat) : Prop := ∀ (b g : Nat) (w : World) (T : List Tkn) (d : Int), Rdr b w g T d → b ≤ w.heap.size → 0 ≤ d → d + (D : Int) = 5 →
  Calls Tryd.prog 36 #[.pointer (some ⟨g, 0, none⟩)] w (KeyR b g d w (keyD ps D T))
structure AllS (w : World) (g p : Nat) (W : World) (A : Option Addr) (n c : Nat) (ks : List Ky) (xs : List Value) (K : Nat → Prop) : Prop where
  row : Gw 6 W 27 A n c xs
  len : ks.length = n
  kys : KysIs K W ks xs
  apart : ∀ x, K x → p < x ∧ x < W.heap.size ∧ x ∉ blks A
  above : ∀ x ∈ blks A, p < x
  bk : Bk W p 27 zkA
  only : Only [g] w W
theorem AllS.step {w W w1 w5 : World} {g p : Nat} {A A2 : Option Addr} {n c c2 : Nat} {ks : List Ky} {xs vs : List Value} {K : Nat → Prop} {k : Ky} {X : Obj} (h : AllS w g p W A n c ks xs K) (hp : w.heap.size ≤ p) (hg : g < p) (O1 : Only [g] W w1) (hk : KyIs (fun x => W.heap.size ≤ x ∧ x < w1.heap.size) w1 k vs)
    (HG : Gw 6 w5 27 A2 (n + 1) c2 (xs ++ vs)) (HO : Only (blks A) ((w1.alloc X).alloc X) w5) (HB : ∀ x ∈ blks A2, x ∈ blks A ∨ ((w1.alloc X).alloc X).heap.size ≤ x) :
    ∃ K', AllS w g p w5 A2 (n + 1) c2 (ks ++ [k]) (xs ++ vs) K' := by
  have hpW := h.bk.lt
  have s1 := O1.size
  have s4 : w1.heap.size + 1 + 1 ≤ w5.heap.size := by have := HO.size; rwa [World.size_alloc, World.size_alloc] at this
  have oA : Only [] w1 ((w1.alloc X).alloc X) := ((Only.refl _ _).alloc _).alloc _
  rw [World.size_alloc, World.size_alloc] at HB
  have hAg : ∀ x ∈ blks A, x ∉ [g] := fun x hx hm => by have := h.above x hx; simp at hm; omega
  have hAlt : ∀ x ∈ blks A, x < W.heap.size := fun x hx => h.row.lt hx
  refine ⟨fun x => K x ∨ (W.heap.size ≤ x ∧ x < w1.heap.size), HG, by rw [List.length_append, h.len]; rfl, ?_, ?_, ?_, ?_, ?_⟩
  · refine KysIs.append ?_ (KysIs.one ?_)
    · refine KysIs.mono (fun x hx => .inl hx) ?_
      refine KysIs.only HO (fun x hx => (h.apart x hx).2.2) ?_
      refine KysIs.keep ?_ oA
      exact KysIs.only O1 (fun x hx hm => by have := (h.apart x hx).1; simp at hm; omega) h.kys
    · refine KyIs.mono (fun x hx => .inr hx) ?_
      refine KyIs.only HO (fun x hx hm => by have := hAlt x hm; omega) ?_
      exact hk.keep oA
  · rintro x (hx | hx)
    · obtain ⟨h1, h2, h3⟩ := h.apart x hx
      refine ⟨h1, by omega, fun hm => ?_⟩
      rcases HB x hm with h4 | h4
      · exact h3 h4
      · omega
    · refine ⟨by omega, by omega, fun hm => ?_⟩
      rcases HB x hm with h4 | h4
      · have := hAlt x h4; omega
      · omega
  · intro x hx
    rcases HB x hx with h4 | h4
    · exact h.above x h4
    · omega
  · have h1 := h.bk.only O1 (fun hm => by simp at hm; omega)
    exact ((h1.alloc X).alloc X).only HO (fun hm => by have := h.above p hm; omega)
  · exact (((h.only.trans O1 (fun x hx => .inl hx)).alloc _).alloc _).trans HO (fun x hx => .inr (by have := h.above x hx; omega))
section
variable (key : List Tkn → Option (Ky × List Tkn)) (w : World) (b g p : Nat) (d : Int) (G : Option (List Ky × List Tkn))
def ALJ (a : Act) (W : World) : Prop :=
  ∃ (A : Option Addr) (n c : Nat) (ks : List Ky) (xs : List Value) (T : List Tkn) (K : Nat → Prop) (f : Nat), ∃ (u1 u5 u6 u7 u8 u9 u10 u11 u12 u13 u14 u15 u16 u17 u18 u19 u20 u21 u22 u23 u24 u25 u26 u27 u28 u29 u30 u31 u32 u33 u34 u35 u36 : Value), a = { tmps := #[.pointer (some ⟨g, 0, none⟩), u1, .pointer (some ⟨p, 0, none⟩), .bool false, .slice A n c, u5, u6, u7, u8, u9, u10, u11, u12, u13, u14, u15, u16, u17, u18, u19, u20, u21, u22, u23, u24, u25, u26, u27, u28, u29, u30, u31, u32, u33, u34, u35, u36], defers := [] } ∧
    AllS w g p W A n c ks xs K ∧ Rdr b W g T d ∧ T.length < f ∧ n + T.length ≤ 100000 ∧ Hid ((allK key f T).map (fun q => (ks ++ q.1, q.2)) = G)
end
theorem one6 (kd n1 : Int) (s1 s2 : ByteArray) (SA : Option Addr) (ns sc : Nat) (KA : Option Addr) (nk kc : Nat) : One1 [.int .i64 kd, .int .i64 n1, .string s1, .string s2, .slice SA ns sc, .slice KA nk kc] := by
  intro u hu
  simp only [List.mem_cons, List.not_mem_nil, or_false] at hu
  rcases hu with rfl | rfl | rfl | rfl | rfl | rfl <;> rfl
def andO (o : Option (List Ky × List Tkn)) : Option (Ky × List Tkn) := o.map fun q => (andK q.1, q.2)
set_option maxRecDepth 100000 in
set_option maxHeartbeats 1000000 in
theorem all_any {ps : List UInt8 → Option (List (Int × Int))} {D : Nat} (hKC : KeyC ps D) {b g : Nat} {w : World} {T : List Tkn} {d : Int} (h : Rdr b w g T d) (hb : b ≤ w.heap.size) (hd0 : 0 ≤ d) (hd : d + (D : Int) = 5) :
    Calls Tryd.prog 22 #[.pointer (some ⟨g, 0, none⟩)] w (KeyR b g d w (andO (allK (keyD ps D) (T.length + 1) T))) := by
  obtain ⟨i0, hi0, hi1⟩ := Option.map_eq_some_iff.1 infoKy3
  simp only [Prod.mk.injEq] at hi1
  obtain ⟨hz0, hz1, hz2⟩ := hi1
  obtain ⟨G, hG⟩ : ∃ G, allK (keyD ps D) (T.length + 1) T = G := ⟨_, rfl⟩
  rw [hG]
  have HG := Lib.hid hG
  clear hG
  have hgb := h.lt
  have HO0 : Hid (Only [] w (w.alloc (.cells zkA 27))) := (Only.refl _ _).alloc _
  have HR0 := Lib.hid (h.keep HO0.out)
  have HCNT := Lib.hid h.count
  obtain ⟨p, hp⟩ : ∃ p, w.heap.size = p := ⟨_, rfl⟩
  have HP := Lib.hid hp
  have HB0 : Hid (Bk (w.alloc (.cells zkA 27)) p 27 zkA) := by rw [← hp]; exact Bk.new _ _ _
  have hgp : g < p := by omega
  have hbp : b ≤ p := by omega
  have HIO : Hid (some i0 = Tryd.prog.info? 27) := hi0.symm
  clear h
  unfold zkA at HO0 HR0 HB0
  go_enter Tryd.func22, Tryd.ntmps22
  go_wp2_with fail
  refine wp_scope_back 0 (ALJ (keyD ps D) w b g p d G) (fun _ W => lenC (W.cell? ⟨g, 0, none⟩)) rfl ?pass ?first
  case first =>
    intro pp
    go_wp2_with fail
    rename_i hK
    refine wp_label (hK _ _ (pp _ _ ?_))
    exact ⟨none, 0, 0, [], [], T, fun _ => False, T.length + 1, _, _, _, _, _, _, _, _, _, _, _, _, _, _, _, _, _, _, _, _, _, _, _, _, _, _, _, _, _, _, _, _, _, rfl, ⟨Gw.nil _ _ _, rfl, KysIs.nil, fun _ h => h.elim, (fun _ h => (nomatch h)), HB0.out, HO0.out.mono (fun _ h => (nomatch h))⟩, HR0.out, by omega, by have := HCNT.out; omega, by show _ = _; rw [HG.out]; cases G <;> rfl⟩
  case pass =>
    clear HO0 HR0 HB0 HG HCNT
    rintro a' W ⟨A, n, c, ks, xs, T', K, f, u1, u5, u6, u7, u8, u9, u10, u11, u12, u13, u14, u15, u16, u17, u18, u19, u20, u21, u22, u23, u24, u25, u26, u27, u28, u29, u30, u31, u32, u33, u34, u35, u36, rfl, hS, hR, hf, hn, HE⟩
    have hsz := hS.only.size
    have hC := hKC b g W T' d hR (by omega) hd0 hd
    obtain ⟨f', rfl⟩ : ∃ f', f = f' + 1 := ⟨f - 1, by omega⟩
    have HLEN := Lib.hid hR.len
    have HS := Lib.hid hS
    have HR := Lib.hid hR
    have hgW : g < W.heap.size := by omega
    have hpW : p < W.heap.size := hS.bk.lt
    clear hS hR
    cases hk : keyD ps D T' with
    | none =>
      rw [hk] at hC
      have HN : Hid (G = none) := by show _ = _; rw [← HE.out, allK, hk]; rfl
      clear HE hk
      go_wp2_with (go_at_call 36; refine hC.mono ?_; rintro e w1 ⟨kd, n1, s1, s2, SA, ns, sc, KA, nk, kc, bo, rfl, O1, HK1⟩; obtain ⟨hbo, d1, T1, hd1, hd2, hR1⟩ := HK1.out; subst hbo; have HR1 := Lib.hid hR1; have HD1 := Lib.hid hd1; have HD2 := Lib.hid hd2; clear hR1 hd1 hd2 HK1; have B1 := HS.out.bk.only O1 (fun hm => by simp at hm; omega); have B1 := Lib.hid B1; unfold zkA at B1; have O1 := Lib.hid O1; have hpw1 := B1.out.lt; obtain ⟨⟨q0, q1, q2, q3, q4, q5⟩, f0, f1, f2, f3, f4, f5⟩ := B1.out.six; clear hC)
      simp only [Exit.jump]
      refine key_ret (s := 2) (u := 3) (by kernel_rfl) p _ rfl rfl ((bk_store6 B1.out _ _ _ _ _ _).alloc _) ?_
      refine ⟨_, _, _, _, _, _, _, _, _, _, _, rfl, (only_store6 (HS.out.only.trans O1.out (fun x hx => .inl hx)) (.inr (by rw [HP.out]; exact Nat.le_refl _)) _ _ _ _ _ _).alloc _, ?_⟩
      show KeyO _ _ _ _ _ (andO G) _ _
      rw [HN.out]
      exact ⟨rfl, d1, T1, HD1.out, HD2.out, HR1.out.only ((only_store6 (Only.refl [p] _) (.inl (by simp)) _ _ _ _ _ _).alloc _) (fun x hx => by simp at hx; rw [hx]; exact hbp)⟩
    | some pq =>
      obtain ⟨k, q⟩ := pq
      have hlq : q.length < T'.length := keyD_len ps D hk
      rw [hk] at hC
      cases q with
      | nil =>
        have HN : Hid (G = some (ks ++ [k], [])) := by show _ = _; rw [← HE.out, allK, hk]; rfl
        clear HE hk
        go_wp2_with first
          | (go_at_call 36; refine hC.mono ?_; rintro e w1 ⟨kd, n1, s1, s2, SA, ns, sc, KA, nk, kc, bo, rfl, O1, HK1⟩; obtain ⟨hbo, hKY, hR1⟩ := HK1.out; subst hbo; have O1 := Lib.hid O1; have HKY := Lib.hid hKY; have HR1 := Lib.hid hR1; have HGK := (HS.out.row.only O1.out (fun x hx hm => by have := HS.out.above x hx; simp at hm; omega)).keep (((Only.refl [] w1).alloc (.cells #[.int .i64 kd, .int .i64 n1, .string s1, .string s2, .slice SA ns sc, .slice KA nk kc] 27)).alloc (.cells #[.int .i64 kd, .int .i64 n1, .string s1, .string s2, .slice SA ns sc, .slice KA nk kc] 27)); have HGK := Lib.hid HGK; have HBN := Bk.new (w1.alloc (.cells #[.int .i64 kd, .int .i64 n1, .string s1, .string s2, .slice SA ns sc, .slice KA nk kc] 27)) 27 #[.int .i64 kd, .int .i64 n1, .string s1, .string s2, .slice SA ns sc, .slice KA nk kc]; rw [World.size_alloc] at HBN; have HBN := Lib.hid HBN; clear hC hKY hR1 HK1)
          | (at_builtin; refine wpList_append_gw rfl (.tmp 15) (.tmp 17) 6 25 rfl 27 i0 (.agg #[.int .i64 0, .int .i64 0, .string ⟨#[]⟩, .string ⟨#[]⟩, .slice none 0 0, .slice none 0 0]) 96 Tryd.underlying25 hi0 hz0 hz1 hz2 rfl (by omega) A n c xs rfl HGK.out (some ⟨w1.heap.size + 1, 0, none⟩) 1 1 [.int .i64 kd, .int .i64 n1, .string s1, .string s2, .slice SA ns sc, .slice KA nk kc] rfl (Gr.of_bk HBN.out rfl) (one6 _ _ _ _ _ _ _ _ _ _) (by unfold maxLen; omega) (by omega) (n + 1) rfl ?_; intro A2 c2 w5 HG2 HO2 HBB2; obtain ⟨K', hS5⟩ := HS.out.step (by rw [HP.out]; exact Nat.le_refl _) hgp O1.out HKY.out HG2 HO2 HBB2; have hR5 := (HR1.out.keep (((Only.refl [] w1).alloc (.cells #[.int .i64 kd, .int .i64 n1, .string s1, .string s2, .slice SA ns sc, .slice KA nk kc] 27)).alloc (.cells #[.int .i64 kd, .int .i64 n1, .string s1, .string s2, .slice SA ns sc, .slice KA nk kc] 27))).only HO2 (fun x hx => by have := HS.out.above x hx; omega); obtain ⟨A3, c3, k0, _⟩ := hR5.cells; replace k0 : w5.cell? ⟨g, 0, none⟩ = some (.slice A3 0 c3) := k0; have B5 := Lib.hid hS5.bk; unfold zkA at B5; obtain ⟨⟨q0, q1, q2, q3, q4, q5⟩, f0, f1, f2, f3, f4, f5⟩ := B5.out.six; have HS5 := Lib.hid hS5; have HR5 := Lib.hid hR5; clear hS5 hR5 HG2 HO2 HBB2)
        simp only [Exit.jump]
        refine key_ret (s := 2) (u := 3) (by kernel_rfl) p _ rfl rfl (bk_store6 B5.out _ _ _ _ _ _) ?_
        have hO6 : Only [p] w5 (store6 w5 p (.int .i64 11) (.int .i64 0) (.string ⟨#[]⟩) (.string ⟨#[]⟩) (.slice none 0 0) (.slice A2 (n + 1) c2)) := only_store6 (Only.refl [p] _) (.inl (by simp)) _ _ _ _ _ _
        refine ⟨_, _, _, _, _, _, _, _, _, _, _, rfl, only_store6 HS5.out.only (.inr (by rw [HP.out]; exact Nat.le_refl _)) _ _ _ _ _ _, ?_⟩
        show KeyO _ _ _ _ _ (andO G) _ _
        rw [HN.out]
        have hlt := fun x hx => HS5.out.row.lt (x := x) hx
        refine ⟨rfl, KyIs.ofKids 11 (HS5.out.row.reads.only hO6 (fun x hx hm => by have := HS5.out.above x hx; simp at hm; omega)) (fun x hx => ?_) HS5.out.len HS5.out.row.cap (KysIs.mono (fun x hx => ?_) (KysIs.only hO6 (fun x hx hm => by have := (HS5.out.apart x hx).1; simp at hm; omega) HS5.out.kys)), HR5.out.only hO6 (fun x hx => by simp at hx; rw [hx]; exact hbp)⟩
        · have h1 := hlt x hx
          have h2 := HS5.out.above x hx
          have h3 := hO6.size
          rw [HP.out]
          exact ⟨by omega, Nat.lt_of_lt_of_le h1 h3⟩
        · have h1 := HS5.out.apart x hx
          have h3 := hO6.size
          rw [HP.out]
          exact ⟨by omega, Nat.lt_of_lt_of_le h1.2.1 h3⟩
      | cons t r =>
        obtain ⟨m, hm⟩ : ∃ m, r.length = m := ⟨_, rfl⟩
        have h0m : 0 < m + 1 := by omega
        have h0m' : (0 : Int) < ((m + 1 : Nat) : Int) := by omega
        have hlq' : m + 1 < T'.length := by rw [← hm]; simpa using hlq
        obtain ⟨t1, t2⟩ := t
        by_cases h4 : t1 = 4
        · have HN : Hid (G = some (ks ++ [k], (t1, t2) :: r)) := by show _ = _; rw [← HE.out, allK, hk]; simp only; rw [if_neg (by simp [moreT, h4])]; rfl
          have hb4 : (t1 != 4) = false := by rw [h4]; rfl
          clear HE hk hlq h4
          go_wp2_with first
            | (go_at_call 36; refine hC.mono ?_; rintro e w1 ⟨kd, n1, s1, s2, SA, ns, sc, KA, nk, kc, bo, rfl, O1, HK1⟩; obtain ⟨hbo, hKY, hR1⟩ := HK1.out; subst hbo; have O1 := Lib.hid O1; have HKY := Lib.hid hKY; have HR1 := Lib.hid hR1; have HGK := (HS.out.row.only O1.out (fun x hx hm => by have := HS.out.above x hx; simp at hm; omega)).keep (((Only.refl [] w1).alloc (.cells #[.int .i64 kd, .int .i64 n1, .string s1, .string s2, .slice SA ns sc, .slice KA nk kc] 27)).alloc (.cells #[.int .i64 kd, .int .i64 n1, .string s1, .string s2, .slice SA ns sc, .slice KA nk kc] 27)); have HGK := Lib.hid HGK; have HBN := Bk.new (w1.alloc (.cells #[.int .i64 kd, .int .i64 n1, .string s1, .string s2, .slice SA ns sc, .slice KA nk kc] 27)) 27 #[.int .i64 kd, .int .i64 n1, .string s1, .string s2, .slice SA ns sc, .slice KA nk kc]; rw [World.size_alloc] at HBN; have HBN := Lib.hid HBN; clear hC hKY hR1 HK1)
            | (at_builtin; refine wpList_append_gw rfl (.tmp 15) (.tmp 17) 6 25 rfl 27 i0 (.agg #[.int .i64 0, .int .i64 0, .string ⟨#[]⟩, .string ⟨#[]⟩, .slice none 0 0, .slice none 0 0]) 96 Tryd.underlying25 hi0 hz0 hz1 hz2 rfl (by omega) A n c xs rfl HGK.out (some ⟨w1.heap.size + 1, 0, none⟩) 1 1 [.int .i64 kd, .int .i64 n1, .string s1, .string s2, .slice SA ns sc, .slice KA nk kc] rfl (Gr.of_bk HBN.out rfl) (one6 _ _ _ _ _ _ _ _ _ _) (by unfold maxLen; omega) (by omega) (n + 1) rfl ?_; intro A2 c2 w5 HG2 HO2 HBB2; obtain ⟨K', hS5⟩ := HS.out.step (by rw [HP.out]; exact Nat.le_refl _) hgp O1.out HKY.out HG2 HO2 HBB2; have hR5 := (HR1.out.keep (((Only.refl [] w1).alloc (.cells #[.int .i64 kd, .int .i64 n1, .string s1, .string s2, .slice SA ns sc, .slice KA nk kc] 27)).alloc (.cells #[.int .i64 kd, .int .i64 n1, .string s1, .string s2, .slice SA ns sc, .slice KA nk kc] 27))).only HO2 (fun x hx => by have := HS.out.above x hx; omega); obtain ⟨ad, c3, A3, c4, k0, _, k1, _⟩ := hR5.cut; rw [hm] at k0; have B5 := Lib.hid hS5.bk; unfold zkA at B5; obtain ⟨⟨q0, q1, q2, q3, q4, q5⟩, f0, f1, f2, f3, f4, f5⟩ := B5.out.six; have HS5 := Lib.hid hS5; have HR5 := Lib.hid hR5; clear hS5 hR5 HG2 HO2 HBB2)
          simp only [Exit.jump]
          refine key_ret (s := 2) (u := 3) (by kernel_rfl) p _ rfl rfl (bk_store6 B5.out _ _ _ _ _ _) ?_
          have hO6 : Only [p] w5 (store6 w5 p (.int .i64 11) (.int .i64 0) (.string ⟨#[]⟩) (.string ⟨#[]⟩) (.slice none 0 0) (.slice A2 (n + 1) c2)) := only_store6 (Only.refl [p] _) (.inl (by simp)) _ _ _ _ _ _
          refine ⟨_, _, _, _, _, _, _, _, _, _, _, rfl, only_store6 HS5.out.only (.inr (by rw [HP.out]; exact Nat.le_refl _)) _ _ _ _ _ _, ?_⟩
          show KeyO _ _ _ _ _ (andO G) _ _
          rw [HN.out]
          have hlt := fun x hx => HS5.out.row.lt (x := x) hx
          refine ⟨rfl, KyIs.ofKids 11 (HS5.out.row.reads.only hO6 (fun x hx hm => by have := HS5.out.above x hx; simp at hm; omega)) (fun x hx => ?_) HS5.out.len HS5.out.row.cap (KysIs.mono (fun x hx => ?_) (KysIs.only hO6 (fun x hx hm => by have := (HS5.out.apart x hx).1; simp at hm; omega) HS5.out.kys)), HR5.out.only hO6 (fun x hx => by simp at hx; rw [hx]; exact hbp)⟩
          · have h1 := hlt x hx
            have h2 := HS5.out.above x hx
            have h3 := hO6.size
            rw [HP.out]
            exact ⟨by omega, Nat.lt_of_lt_of_le h1 h3⟩
          · have h1 := HS5.out.apart x hx
            have h3 := hO6.size
            rw [HP.out]
            exact ⟨by omega, Nat.lt_of_lt_of_le h1.2.1 h3⟩
        · have HN : Hid ((allK (keyD ps D) f' ((t1, t2) :: r)).map (fun q => ((ks ++ [k]) ++ q.1, q.2)) = G) := by
            show _ = _
            rw [← HE.out, allK, hk]
            simp only
            rw [if_pos (by simp [moreT, h4])]
            cases allK (keyD ps D) f' ((t1, t2) :: r) <;> simp
          have hb4 : (t1 != 4) = true := by rw [bne_iff_ne]; exact h4
          have HLQ := Lib.hid hlq
          have HM := Lib.hid hm
          clear HE hk hlq h4
          go_wp2_with first
            | (go_at_call 36; refine hC.mono ?_; rintro e w1 ⟨kd, n1, s1, s2, SA, ns, sc, KA, nk, kc, bo, rfl, O1, HK1⟩; obtain ⟨hbo, hKY, hR1⟩ := HK1.out; subst hbo; have O1 := Lib.hid O1; have HKY := Lib.hid hKY; have HR1 := Lib.hid hR1; have HGK := (HS.out.row.only O1.out (fun x hx hm => by have := HS.out.above x hx; simp at hm; omega)).keep (((Only.refl [] w1).alloc (.cells #[.int .i64 kd, .int .i64 n1, .string s1, .string s2, .slice SA ns sc, .slice KA nk kc] 27)).alloc (.cells #[.int .i64 kd, .int .i64 n1, .string s1, .string s2, .slice SA ns sc, .slice KA nk kc] 27)); have HGK := Lib.hid HGK; have HBN := Bk.new (w1.alloc (.cells #[.int .i64 kd, .int .i64 n1, .string s1, .string s2, .slice SA ns sc, .slice KA nk kc] 27)) 27 #[.int .i64 kd, .int .i64 n1, .string s1, .string s2, .slice SA ns sc, .slice KA nk kc]; rw [World.size_alloc] at HBN; have HBN := Lib.hid HBN; clear hC hKY hR1 HK1)
            | (at_builtin; refine wpList_append_gw rfl (.tmp 15) (.tmp 17) 6 25 rfl 27 i0 (.agg #[.int .i64 0, .int .i64 0, .string ⟨#[]⟩, .string ⟨#[]⟩, .slice none 0 0, .slice none 0 0]) 96 Tryd.underlying25 hi0 hz0 hz1 hz2 rfl (by omega) A n c xs rfl HGK.out (some ⟨w1.heap.size + 1, 0, none⟩) 1 1 [.int .i64 kd, .int .i64 n1, .string s1, .string s2, .slice SA ns sc, .slice KA nk kc] rfl (Gr.of_bk HBN.out rfl) (one6 _ _ _ _ _ _ _ _ _ _) (by unfold maxLen; omega) (by omega) (n + 1) rfl ?_; intro A2 c2 w5 HG2 HO2 HBB2; obtain ⟨K', hS5⟩ := HS.out.step (by rw [HP.out]; exact Nat.le_refl _) hgp O1.out HKY.out HG2 HO2 HBB2; have hR5 := (HR1.out.keep (((Only.refl [] w1).alloc (.cells #[.int .i64 kd, .int .i64 n1, .string s1, .string s2, .slice SA ns sc, .slice KA nk kc] 27)).alloc (.cells #[.int .i64 kd, .int .i64 n1, .string s1, .string s2, .slice SA ns sc, .slice KA nk kc] 27))).only HO2 (fun x hx => by have := HS.out.above x hx; omega); obtain ⟨ad, c3, A3, c4, k0, _, k1, _⟩ := hR5.cut; rw [hm] at k0; have B5 := Lib.hid hS5.bk; unfold zkA at B5; obtain ⟨⟨q0, q1, q2, q3, q4, q5⟩, f0, f1, f2, f3, f4, f5⟩ := B5.out.six; have HS5 := Lib.hid hS5; have HR5 := Lib.hid hR5; clear hS5 hR5 HG2 HO2 HBB2)
          go_step3
          refine And.intro rfl (And.intro (show ALJ (keyD ps D) w b g p d G _ _ from ⟨A2, n + 1, c2, ks ++ [k], xs ++ [.int .i64 kd, .int .i64 n1, .string s1, .string s2, .slice SA ns sc, .slice KA nk kc], (t1, t2) :: r, K', f', _, _, _, _, _, _, _, _, _, _, _, _, _, _, _, _, _, _, _, _, _, _, _, _, _, _, _, _, _, _, _, _, _, rfl, HS5.out, HR5.out, by have := HLQ.out; omega, by have := HLQ.out; omega, HN⟩) ?_)
          show lenC (w5.cell? ⟨g, 0, none⟩) < lenC (W.cell? ⟨g, 0, none⟩)
          rw [HR5.out.len, HLEN.out]
          exact HLQ.out
end Go.Proofs.YtkcnnbglmckmnaaDoor
namespace Go.Proofs.YtkcnnbglmckmnaaDoor
open Go.RowKit Go.Instr
theorem set6 {α : Type} (A C : List α) (b0 b1 b2 b3 b4 b5 a0 a1 a2 a3 a4 a5 : α) (i : Nat) (h : A.length = i) :
    ((((((A ++ b0 :: b1 :: b2 :: b3 :: b4 :: b5 :: C).set i a0).set (i + 1) a1).set (i + 2) a2).set (i + 3) a3).set (i + 4) a4).set (i + 5) a5 = A ++ a0 :: a1 :: a2 :: a3 :: a4 :: a5 :: C := by
  subst h
  simp [List.set_append_right]
theorem split6 {α : Type} {xs : List α} {k n : Nat} (h : xs.length = n * 6) (hk : k < n) : ∃ b0 b1 b2 b3 b4 b5 C, xs = xs.take (k * 6) ++ b0 :: b1 :: b2 :: b3 :: b4 :: b5 :: C ∧ (xs.take (k * 6)).length = k * 6 := by
  have e := List.take_append_drop (k * 6) xs
  have hl : (xs.drop (k * 6)).length = n * 6 - k * 6 := by rw [List.length_drop, h]
  obtain ⟨D, hD⟩ : ∃ D, xs.drop (k * 6) = D := ⟨_, rfl⟩
  rw [hD] at e hl
  match D, hl with
  | b0 :: b1 :: b2 :: b3 :: b4 :: b5 :: C, _ => exact ⟨b0, b1, b2, b3, b4, b5, C, e.symm, by rw [List.length_take, h]; omega⟩
  | [], hl => simp at hl; omega
  | [_], hl => simp at hl; omega
  | [_, _], hl => simp at hl; omega
  | [_, _, _], hl => simp at hl; omega
  | [_, _, _, _], hl => simp at hl; omega
  | [_, _, _, _, _], hl => simp at hl; omega
def storeK (w : World) (g o : Nat) (b0 b1 b2 b3 b4 b5 : Value) : World :=
  (((((w.setCell ⟨g, o, none⟩ b0).setCell ⟨g, o + 1, none⟩ b1).setCell ⟨g, o + 2, none⟩ b2).setCell ⟨g, o + 3, none⟩ b3).setCell ⟨g, o + 4, none⟩ b4).setCell ⟨g, o + 5, none⟩ b5
theorem only_storeK {rs : List Nat} {w w' : World} {g o : Nat} (h : Only rs w w') (hg : g ∈ rs ∨ w.heap.size ≤ g) (b0 b1 b2 b3 b4 b5 : Value) : Only rs w (storeK w' g o b0 b1 b2 b3 b4 b5) :=
  (((((h.setCell (p := ⟨g, o, none⟩) hg b0).setCell (p := ⟨g, o + 1, none⟩) hg b1).setCell (p := ⟨g, o + 2, none⟩) hg b2).setCell (p := ⟨g, o + 3, none⟩) hg b3).setCell (p := ⟨g, o + 4, none⟩) hg b4).setCell (p := ⟨g, o + 5, none⟩) hg b5
structure KdS (w : World) (g p kb n : Nat) (W : World) (ks : List Ky) (xs : List Value) (K : Nat → Prop) : Prop where
  row : Gw 6 W 27 (some ⟨kb, 0, none⟩) n n xs
  kys : KysIs K W ks (xs.take (ks.length * 6))
  apart : ∀ x, K x → kb < x ∧ x < W.heap.size
  bk : Bk W p 27 #[.int .i64 0, .int .i64 0, .string ⟨#[]⟩, .string ⟨#[]⟩, .slice none 0 0, .slice none 0 0]
  only : Only [g] w W
theorem KdS.lt {w W : World} {g p kb n : Nat} {ks : List Ky} {xs : List Value} {K : Nat → Prop} (h : KdS w g p kb n W ks xs K) : kb < W.heap.size := h.row.lt (by simp)
theorem KdS.step {w W w1 : World} {g p kb n k : Nat} {ks : List Ky} {xs : List Value} {K : Nat → Prop} {y : Ky} {b0 b1 b2 b3 b4 b5 : Value} (h : KdS w g p kb n W ks xs K) (hl : ks.length = k) (hk : k < n) (hp : w.heap.size ≤ p) (hgp : g < p) (hpk : p < kb) (O1 : Only [g] W w1)
    (hy : KyIs (fun x => W.heap.size ≤ x ∧ x < w1.heap.size) w1 y [b0, b1, b2, b3, b4, b5]) :
    ∃ xs' K', KdS w g p kb n (storeK w1 kb (k * 6) b0 b1 b2 b3 b4 b5) (ks ++ [y]) xs' K' := by
  subst hl
  have hlt := h.lt
  have s1 := O1.size
  have r1 := h.row.only O1 (fun x hx hm => by simp at hx hm; omega)
  have r2 := (((((r1.set (ks.length * 6) b0).set (ks.length * 6 + 1) b1).set (ks.length * 6 + 2) b2).set (ks.length * 6 + 3) b3).set (ks.length * 6 + 4) b4).set (ks.length * 6 + 5) b5
  obtain ⟨u0, u1, u2, u3, u4, u5, C, e, hlen⟩ := split6 h.row.len hk
  rw [e, set6 _ _ _ _ _ _ _ _ _ _ _ _ _ _ _ hlen] at r2
  have O2 : Only [kb] w1 (storeK w1 kb (ks.length * 6) b0 b1 b2 b3 b4 b5) := only_storeK (Only.refl [kb] w1) (.inl (by simp)) _ _ _ _ _ _
  have s2 := O2.size
  refine ⟨_, fun x => K x ∨ (W.heap.size ≤ x ∧ x < w1.heap.size), r2, ?_, ?_, ?_, ?_⟩
  · have e2 : (xs.take (ks.length * 6) ++ b0 :: b1 :: b2 :: b3 :: b4 :: b5 :: C).take ((ks ++ [y]).length * 6) = xs.take (ks.length * 6) ++ [b0, b1, b2, b3, b4, b5] := by
      rw [List.length_append, List.length_singleton, show (ks.length + 1) * 6 = (xs.take (ks.length * 6)).length + 6 by omega, List.take_append, Nat.add_sub_cancel_left, List.take_of_length_le (by omega)]
      rfl
    rw [e2]
    refine KysIs.append ?_ (KysIs.one ?_)
    · refine KysIs.mono (fun x hx => .inl hx) ?_
      refine KysIs.only O2 (fun x hx hm => by have := (h.apart x hx).1; simp at hm; omega) ?_
      exact KysIs.only O1 (fun x hx hm => by have := (h.apart x hx).1; simp at hm; omega) h.kys
    · refine KyIs.mono (fun x hx => .inr hx) ?_
      exact KyIs.only O2 (fun x hx hm => by have := hx.1; simp at hm; omega) hy
  · rintro x (hx | hx)
    · have := h.apart x hx
      omega
    · omega
  · exact (h.bk.only O1 (fun hm => by simp at hm; omega)).only O2 (fun hm => by simp at hm; omega)
  · exact (h.only.trans O1 (fun x hx => .inl hx)).trans O2 (fun x hx => .inr (by simp at hx; omega))
set_option maxRecDepth 100000 in
set_option maxHeartbeats 2000000 in
theorem kids_any {ps : List UInt8 → Option (List (Int × Int))} {D : Nat} (hKC : KeyC ps D) {b g : Nat} {w : World} {T : List Tkn} {d : Int} (h : Rdr b w g T d) (hb : b ≤ w.heap.size) (hd0 : 0 ≤ d) (hd : d + (D : Int) + 1 = 5) (kind : Int) (n : Nat) (hn : n ≤ 2) :
    Calls Tryd.prog 76 #[.pointer (some ⟨g, 0, none⟩), .int .i64 kind, .int .i64 (n : Int)] w (KeyR b g d w ((kidsN (keyD ps D) n T).map fun q => (.mk kind 0 [] [] [] q.1, q.2))) := by
  obtain ⟨i0, hi0, hi1⟩ := Option.map_eq_some_iff.1 infoKy3
  simp only [Prod.mk.injEq] at hi1
  obtain ⟨hz0, hz1, hz2⟩ := hi1
  have hgb := h.lt
  have hgw : g < w.heap.size := by omega
  obtain ⟨p, hp⟩ : ∃ p, w.heap.size = p := ⟨_, rfl⟩
  have HP := Lib.hid hp
  have hgp : g < p := by omega
  have hbp : b ≤ p := by omega
  have hne : g ≠ p := by omega
  have hne1 : g ≠ p + 1 := by omega
  have hdd : d ≤ 4 := by omega
  have HR0 := Lib.hid (h.keep ((Only.refl _ _).alloc (.cells #[.int .i64 0, .int .i64 0, .string ⟨#[]⟩, .string ⟨#[]⟩, .slice none 0 0, .slice none 0 0] 27)))
  have HB0 : Hid (Bk (w.alloc (.cells #[.int .i64 0, .int .i64 0, .string ⟨#[]⟩, .string ⟨#[]⟩, .slice none 0 0, .slice none 0 0] 27)) p 27 #[.int .i64 0, .int .i64 0, .string ⟨#[]⟩, .string ⟨#[]⟩, .slice none 0 0, .slice none 0 0]) := by rw [← hp]; exact Bk.new _ _ _
  obtain ⟨G, hG⟩ : ∃ G, kidsN (keyD ps D) n T = G := ⟨_, rfl⟩
  rw [hG]
  have HG := Lib.hid hG
  have HHD := Lib.hid hd
  clear hG h
  go_enter Tryd.func76, Tryd.ntmps76
  go_wp2_with (at_make; refine wpList_make_full _ rfl (.tmp 11) (.tmp 11) 25 rfl 0 27 i0 _ 6 Tryd.underlying25 hi0 hz0 hz1 _ _ _ _ n rfl rfl rfl rfl (by rw [hz2]; omega) (by unfold maxLen; omega) (Nat.zero_le _) ?_; intro w2 HG2 hgr; rw [World.size_alloc, HP.out] at HG2 ⊢; have O2 : Only [] (w.alloc (.cells #[.int .i64 0, .int .i64 0, .string ⟨#[]⟩, .string ⟨#[]⟩, .slice none 0 0, .slice none 0 0] 27)) w2 := Only.of_grown hgr; have hR2 := HR0.out.keep O2; obtain ⟨_, _, _, c1, _, f1, _⟩ := hR2.cells; have HR2 := Lib.hid hR2; have B2 := Lib.hid (HB0.out.only O2 (fun hm => nomatch hm)); have O2 := Lib.hid O2; have HG2 : Hid (Gw 6 w2 27 (some ⟨p + 1, 0, none⟩) n n _) := HG2; clear hR2 hgr)
  have hS0 : ∃ xs, KdS w g p (p + 1) n (w2.setCell ⟨g, 1, none⟩ (.int .i64 (d + 1))) [] xs (fun _ => False) := by
    refine ⟨_, HG2.out.only ((Only.refl [g] _).setCell (.inl (by simp)) _) (fun x hx hm => by simp at hx hm; omega), KysIs.nil, fun _ h => h.elim, B2.out.far (p := ⟨g, 1, none⟩) (by simp; omega) _, ?_⟩
    exact ((((Only.refl [g] w).alloc _).then O2.out)).setCell (.inl (by simp)) _
  obtain ⟨xs0, hS0⟩ := hS0
  have HS0 := Lib.hid hS0
  have HR3 := Lib.hid (HR2.out.deep (d + 1))
  obtain ⟨w3, hw3⟩ : ∃ w3, w2.setCell ⟨g, 1, none⟩ (.int .i64 (d + 1)) = w3 := ⟨_, rfl⟩
  rw [hw3] at HS0 HR3 ⊢
  clear hS0 HG2 B2 O2 HR2 c1 f1 hw3 HR0 HB0
  go_loopw [22] (fun iv wr => ∃ (k : Nat) (ks : List Ky) (xs : List Value) (K : Nat → Prop) (T' : List Tkn), iv = .int .i64 (k : Int) ∧ k ≤ n ∧ ks.length = k ∧ Hid (KdS w g p (p + 1) n wr ks xs K) ∧ Hid (Rdr b wr g T' (d + 1)) ∧ Hid ((kidsN (keyD ps D) (n - k) T').map (fun q => (ks ++ q.1, q.2)) = G)) (fun iv _ => n - (intOf iv).toNat)
  case atStart => exact ⟨0, [], xs0, fun _ => False, T, rfl, Nat.zero_le _, rfl, HS0.out, HR3.out, by show _ = _; rw [Nat.sub_zero, HG.out]; cases G <;> rfl⟩
  case round =>
    obtain ⟨k, ks, xs, K, T', rfl, hkn, hks, HS, HR, HE⟩ := hrel
    have hpW := HS.out.bk.lt
    have hgW : g < wr.heap.size := by omega
    by_cases hlt : k < n
    · have hlt' : (k : Int) < (n : Int) := by omega
      have hC := hKC b g wr T' (d + 1) HR.out (by omega) (by omega) (by have := HHD.out; omega)
      obtain ⟨nk, hnk⟩ : ∃ nk, n - k = nk + 1 := ⟨n - k - 1, by omega⟩
      have hnk' : n - (k + 1) = nk := by omega
      rw [hnk] at HE
      have HNK := Lib.hid hnk'
      clear hnk hnk'
      cases hk : keyD ps D T' with
      | none =>
        rw [hk] at hC
        have HN : Hid (G = none) := by show _ = _; rw [← HE.out, kidsN, hk]; rfl
        clear HE hk
        obtain ⟨u0, u1, u2, u3, u4, u5, C, hxs, hlen⟩ := split6 HS.out.row.len hlt
        go_wp2_with (go_at_call 36; refine hC.mono ?_; rintro e w4 ⟨kd, n1, s1, s2, SA, ns, sc, KA, nk, kc, bo, rfl, O4, HK4⟩; obtain ⟨hbo, d1, T1, hd1, hd2, hR4⟩ := HK4.out; subst hbo; have r4 := HS.out.row.only O4 (fun x hx hm => by simp at hx hm; omega); have rr := r4.reads; obtain ⟨ad0, he0, hcell⟩ := rr.2 (by omega); injection he0 with he0; subst he0; rw [hxs] at hcell; have z0 := hcell (k * 6) u0 (by rw [List.getElem?_append_right (by omega), hlen]; simp); have z1 := hcell (k * 6 + 1) u1 (by rw [List.getElem?_append_right (by omega), hlen]; simp); have z2 := hcell (k * 6 + 2) u2 (by rw [List.getElem?_append_right (by omega), hlen]; simp); have z3 := hcell (k * 6 + 3) u3 (by rw [List.getElem?_append_right (by omega), hlen]; simp); have z4 := hcell (k * 6 + 4) u4 (by rw [List.getElem?_append_right (by omega), hlen]; simp); have z5 := hcell (k * 6 + 5) u5 (by rw [List.getElem?_append_right (by omega), hlen]; simp); rw [add_none, Nat.zero_add] at z0 z1 z2 z3 z4 z5; have y0 := r4.free (k * 6); have y1 := r4.free (k * 6 + 1); have y2 := r4.free (k * 6 + 2); have y3 := r4.free (k * 6 + 3); have y4 := r4.free (k * 6 + 4); have y5 := r4.free (k * 6 + 5); have B4 := HS.out.bk.only O4 (fun hm => by simp at hm; omega); obtain ⟨⟨q0, q1, q2, q3, q4, q5⟩, g0, g1, g2, g3, g4, g5⟩ := B4.six; have B4 := Lib.hid B4; have O4 := Lib.hid O4; clear r4 rr hcell hxs hlen; have HR4 := Lib.hid hR4; have HD1 := Lib.hid hd1; have HD2 := Lib.hid hd2; clear hR4 hd1 hd2 HK4 hC)
        have hst : Only [p + 1] w4 (storeK w4 (p + 1) (k * 6) (.int .i64 kd) (.int .i64 n1) (.string s1) (.string s2) (.slice SA ns sc) (.slice KA nk kc)) := only_storeK (Only.refl _ _) (.inl (by simp)) _ _ _ _ _ _
        refine key_ret (s := 6) (u := 7) (by kernel_rfl) p _ rfl rfl (bk_store6 (B4.out.only hst (fun hm => by simp at hm)) _ _ _ _ _ _) ?_
        refine ⟨_, _, _, _, _, _, _, _, _, _, _, rfl, only_store6 ((HS.out.only.trans O4.out (fun x hx => .inl hx)).trans hst (fun x hx => .inr (by simp at hx; omega))) (.inr (by rw [HP.out]; exact Nat.le_refl _)) _ _ _ _ _ _, ?_⟩
        show KeyO _ _ _ _ _ (Option.map _ G) _ _
        rw [HN.out]
        exact ⟨rfl, d1, T1, by have := HD1.out; omega, HD2.out, (HR4.out.only hst (fun x hx => by simp at hx; omega)).only (only_store6 (Only.refl [p] _) (.inl (by simp)) _ _ _ _ _ _) (fun x hx => by simp at hx; rw [hx]; exact hbp)⟩
      | some pq =>
        obtain ⟨y, q⟩ := pq
        rw [hk] at hC
        have HN : Hid ((kidsN (keyD ps D) nk q).map (fun q => ((ks ++ [y]) ++ q.1, q.2)) = G) := by
          show _ = _
          rw [← HE.out, kidsN, hk]
          simp only
          cases kidsN (keyD ps D) nk q <;> simp
        clear HE hk
        obtain ⟨u0, u1, u2, u3, u4, u5, C, hxs, hlen⟩ := split6 HS.out.row.len hlt
        go_wp2_with (go_at_call 36; refine hC.mono ?_; rintro e w4 ⟨kd, n1, s1, s2, SA, ns, sc, KA, nk2, kc, bo, rfl, O4, HK4⟩; obtain ⟨hbo, hKY, hR4⟩ := HK4.out; subst hbo; have r4 := HS.out.row.only O4 (fun x hx hm => by simp at hx hm; omega); have rr := r4.reads; obtain ⟨ad0, he0, hcell⟩ := rr.2 (by omega); injection he0 with he0; subst he0; rw [hxs] at hcell; have z0 := hcell (k * 6) u0 (by rw [List.getElem?_append_right (by omega), hlen]; simp); have z1 := hcell (k * 6 + 1) u1 (by rw [List.getElem?_append_right (by omega), hlen]; simp); have z2 := hcell (k * 6 + 2) u2 (by rw [List.getElem?_append_right (by omega), hlen]; simp); have z3 := hcell (k * 6 + 3) u3 (by rw [List.getElem?_append_right (by omega), hlen]; simp); have z4 := hcell (k * 6 + 4) u4 (by rw [List.getElem?_append_right (by omega), hlen]; simp); have z5 := hcell (k * 6 + 5) u5 (by rw [List.getElem?_append_right (by omega), hlen]; simp); rw [add_none, Nat.zero_add] at z0 z1 z2 z3 z4 z5; have y0 := r4.free (k * 6); have y1 := r4.free (k * 6 + 1); have y2 := r4.free (k * 6 + 2); have y3 := r4.free (k * 6 + 3); have y4 := r4.free (k * 6 + 4); have y5 := r4.free (k * 6 + 5); have B4 := HS.out.bk.only O4 (fun hm => by simp at hm; omega); obtain ⟨⟨q0, q1, q2, q3, q4, q5⟩, g0, g1, g2, g3, g4, g5⟩ := B4.six; have B4 := Lib.hid B4; have O4 := Lib.hid O4; clear r4 rr hcell hxs hlen; have HR4 := Lib.hid hR4; have HKY := Lib.hid hKY; clear hR4 hKY HK4 hC)
        go_roundw
        case rel =>
          obtain ⟨xs', K', hS5⟩ := HS.out.step hks hlt (by rw [HP.out]; exact Nat.le_refl _) hgp (by omega) O4.out HKY.out
          exact ⟨k + 1, ks ++ [y], xs', K', q, by go_num, by omega, by rw [List.length_append, hks]; rfl, hS5, HR4.out.only (only_storeK (Only.refl [p + 1] _) (.inl (by simp)) _ _ _ _ _ _) (fun x hx => by simp at hx; omega), by show _ = _; rw [HNK.out]; exact HN.out⟩
        case measure => simp [intOf]; omega
    · obtain rfl : k = n := by omega
      obtain ⟨_, _, _, c1, _, f1, _⟩ := HR.out.cells
      obtain ⟨⟨q0, q1, q2, q3, q4, q5⟩, g0, g1, g2, g3, g4, g5⟩ := HS.out.bk.six
      have HN : Hid (G = some (ks, T')) := by
        show _ = _
        rw [← HE.out, Nat.sub_self]
        simp [kidsN]
      clear HE
      go_wp2_with fail
      have O5 : Only [g] wr (wr.setCell ⟨g, 1, none⟩ (.int .i64 d)) := (Only.refl [g] _).setCell (.inl (by simp)) _
      have O6 : Only [p] (wr.setCell ⟨g, 1, none⟩ (.int .i64 d)) (store6 (wr.setCell ⟨g, 1, none⟩ (.int .i64 d)) p (.int .i64 kind) (.int .i64 0) (.string ⟨#[]⟩) (.string ⟨#[]⟩) (.slice none 0 0) (.slice (some ⟨p + 1, 0, none⟩) k k)) := only_store6 (Only.refl [p] _) (.inl (by simp)) _ _ _ _ _ _
      refine key_ret (s := 6) (u := 7) (by kernel_rfl) p _ rfl rfl (bk_store6 (HS.out.bk.only O5 (fun hm => by simp at hm; omega)) _ _ _ _ _ _) ?_
      refine ⟨_, _, _, _, _, _, _, _, _, _, _, rfl, only_store6 (HS.out.only.trans O5 (fun x hx => .inl hx)) (.inr (by rw [HP.out]; exact Nat.le_refl _)) _ _ _ _ _ _, ?_⟩
      show KeyO _ _ _ _ _ (Option.map _ G) _ _
      rw [HN.out]
      have hxl := HS.out.row.len
      have hty : xs.take (ks.length * 6) = xs := List.take_of_length_le (by rw [hks, hxl]; exact Nat.le_refl _)
      have hky := HS.out.kys
      rw [hty] at hky
      have hlt := HS.out.lt
      have s6 := O6.size
      have s5 := O5.size
      refine ⟨rfl, KyIs.ofKids kind ((HS.out.row.reads.only O5 (fun x hx hm => by simp at hx hm; omega)).only O6 (fun x hx hm => by simp at hx hm; omega)) (fun x hx => ?_) hks (Nat.le_refl _) (KysIs.mono (fun x hx => ?_) (KysIs.only O6 (fun x hx hm => by have := (HS.out.apart x hx).1; simp at hm; omega) (KysIs.only O5 (fun x hx hm => by have := (HS.out.apart x hx).1; simp at hm; omega) hky))), (HR.out.deep d).only O6 (fun x hx => by simp at hx; rw [hx]; exact hbp)⟩
      · simp at hx
        rw [HP.out, hx]
        exact ⟨by omega, Nat.lt_of_lt_of_le hlt (Nat.le_trans s5 s6)⟩
      · have h1 := HS.out.apart x hx
        rw [HP.out]
        exact ⟨by omega, Nat.lt_of_lt_of_le h1.2 (Nat.le_trans s5 s6)⟩
end Go.Proofs.YtkcnnbglmckmnaaDoor
namespace Go.Proofs.YtkcnnbglmckmnaaDoor
theorem lowB_same {x : UInt8} (h : x.toNat < 65) : lowB x = x := by
  unfold lowB
  rw [if_neg]
  rintro ⟨h1, _⟩
  rw [UInt8.le_iff_toNat_le] at h1
  have e1 : (65 : UInt8).toNat = 65 := rfl
  omega
theorem lowB_ge {x : UInt8} (h : 65 ≤ x.toNat) : 65 ≤ (lowB x).toNat := by
  unfold lowB
  split
  · rename_i hx
    have h1 := hx.2
    rw [UInt8.le_iff_toNat_le] at h1
    have e1 : (90 : UInt8).toNat = 90 := rfl
    rw [UInt8.toNat_add]
    have e2 : (32 : UInt8).toNat = 32 := rfl
    omega
  · exact h
theorem lowB_iff {x c : UInt8} (hc : c.toNat < 65) : lowB x = c ↔ x = c := by
  by_cases h : x.toNat < 65
  · rw [lowB_same h]
  · have h2 := lowB_ge (x := x) (by omega)
    constructor
    · rintro rfl
      omega
    · rintro rfl
      omega
theorem isDig_low (x : UInt8) : isDig (lowB x) = isDig x := by
  by_cases h : x.toNat < 65
  · rw [lowB_same h]
  · have h2 := lowB_ge (x := x) (by omega)
    unfold isDig
    rw [decide_eq_false (p := (lowB x).toNat ≤ 57) (by omega), decide_eq_false (p := x.toNat ≤ 57) (by omega), Bool.and_false, Bool.and_false]
theorem lowT_dig {l : List UInt8} (h : l.all isDig = true) : lowT l = l := by
  unfold lowT
  conv => rhs; rw [← List.map_id l]
  refine List.map_congr_left fun x hx => ?_
  rw [List.all_eq_true] at h
  have := h x hx
  unfold isDig at this
  simp only [Bool.and_eq_true, decide_eq_true_eq] at this
  exact lowB_same (by omega)
theorem all_low (l : List UInt8) : (lowT l).all isDig = l.all isDig := by
  unfold lowT
  rw [List.all_map]
  congr 1
  funext x
  exact isDig_low x
theorem numL_low (l : List UInt8) : numL (lowT l) = numL l := by
  unfold numL
  have h1 : lowT l = [42] ↔ l = [42] := by
    cases l with
    | nil => exact Iff.rfl
    | cons x r =>
      cases r with
      | nil =>
        simp only [lowT, List.map_cons, List.map_nil, List.cons.injEq, and_true]
        exact lowB_iff (by decide)
      | cons y z => simp [lowT]
  have h2 : (lowT l).head? = some 48 ↔ l.head? = some 48 := by
    cases l with
    | nil => exact Iff.rfl
    | cons x r =>
      simp only [lowT, List.map_cons, List.head?_cons, Option.some.injEq]
      exact lowB_iff (by decide)
  rw [lowT_len, all_low]
  simp only [h1, h2]
  by_cases hd : l.all isDig = true
  · rw [lowT_dig hd]
  · simp only [hd, if_false, Bool.false_eq_true]
theorem ix_low {c : UInt8} (hc : c.toNat < 65) : ∀ l : List UInt8, ix c (lowT l) = ix c l
  | [] => rfl
  | x :: r => by
    show ix c (lowB x :: lowT r) = _
    rw [ix_cons, ix_cons, ix_low hc r]
    simp only [lowB_iff hc]
theorem lowT_take (l : List UInt8) (k : Nat) : lowT (l.take k) = (lowT l).take k := by simp [lowT]
theorem lowT_drop (l : List UInt8) (k : Nat) : lowT (l.drop k) = (lowT l).drop k := by simp [lowT]
theorem rOf_low (l : List UInt8) : rOf (lowT l) = rOf l := by
  unfold rOf
  simp only [ix_low (c := 58) (by decide), lowT_len, ← lowT_take, ← lowT_drop, numL_low]
theorem cm_low : ∀ l : List UInt8, cm (lowT l) = (cm l).map lowT
  | [] => rfl
  | x :: r => by
    show cm (lowB x :: lowT r) = _
    rw [cm, cm, cm_low r]
    by_cases h : x = 44
    · rw [if_pos h, if_pos ((lowB_iff (by decide)).2 h)]
      rfl
    · rw [if_neg h, if_neg (fun e => h ((lowB_iff (by decide)).1 e))]
      cases cm r <;> rfl
theorem rgs_low : ∀ l : List (List UInt8), rgs (l.map lowT) = rgs l
  | [] => rfl
  | t :: r => by
    rw [List.map_cons, rgs, rgs, rOf_low, rgs_low r]
theorem prs_low (m : Nat) (l : List UInt8) : prs m (lowT l) = prs m l := by
  unfold prs
  rw [cm_low, List.length_map, rgs_low]
end Go.Proofs.YtkcnnbglmckmnaaDoor
