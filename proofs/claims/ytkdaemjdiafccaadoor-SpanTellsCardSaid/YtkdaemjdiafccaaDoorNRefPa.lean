/-
  The document's Parse of sets.
-/
import Derived.Test.YtkdaemjdiafccaaDoorNParse
namespace Go.Proofs.YtkdaemjdiafccaaDoor
open Go.RowKit Go.Instr
attribute [local go_sem] Oper.semAt_some

theorem gives_skp {P : Program} {T : World → World → Prop} {φ : Value → World → Prop} {w w' : World} {r : Result Next} (hr : r = .ok .skip w') (h : φ undef w') (ht : T w w') : GivesR P T w φ r := by
  rw [hr]; exact ⟨h, ht⟩
theorem pre_txt (t : TypeId) (hu : Tryd.prog.underlying t = some .string) (s : ByteArray) (k : Nat) (K : Int) (hK : K = (k : Int)) (hk : k ≤ s.size) (W : World) :
    (Instr.slice t (.string s) none (some (.int .i64 K)) none).run Tryd.prog W = .ok (.string (St (s.data.toList.take k))) W := by
  subst hK
  rw [run_slice_string_to_if W t s .i64 _ hu, if_pos ⟨by omega, by omega⟩]
  congr 2
  apply ByteArray.ext
  apply Array.toList_inj.1
  rw [Lib.extract_data, St_list, Int.toNat_natCast]
  simp
theorem suf_txt2 (t : TypeId) (hu : Tryd.prog.underlying t = some .string) (s : ByteArray) (k : Nat) (K : Int) (hK : K = (k : Int)) (hk : k ≤ s.size) (W : World) :
    (Instr.slice t (.string s) (some (.int .i64 K)) none none).run Tryd.prog W = .ok (.string (St (s.data.toList.drop k))) W := by
  subst hK
  exact suf_txt t hu s k hk W
set_option maxRecDepth 100000 in
set_option maxHeartbeats 8000000 in
theorem refParse_any (s : ByteArray) (w : World) (hbig : s.size ≤ 140737488355327) : Calls Tryd.prog 10 #[.string s] w fun e w' => ∃ A c, e = .returned (.tuple #[.slice A (lstO (prs 16 s.data.toList)).length c, .int .i64 (errO (prs 16 s.data.toList))]) ∧
    Ro w' A (lstO (prs 16 s.data.toList)).length c (lstO (prs 16 s.data.toList)) ∧ (∀ x ∈ blks A, w.heap.size ≤ x) ∧ Only [] w w' := by
  obtain ⟨G, hG⟩ : ∃ G, prs 16 s.data.toList = G := ⟨_, rfl⟩
  rw [hG]
  have HG := Lib.hid hG
  clear hG
  go_enter Tryd.func10, Tryd.ntmps10
  go_wp2_with fail
  go_loopw [0, 4] (fun sv lv wr => Only [] w wr ∧ ∃ (t : ByteArray) (A : Option Addr) (n c : Nat) (l : List Rg), sv = .string t ∧ lv = .slice A n c ∧ Ro wr A n c l ∧ (∀ x ∈ blks A, w.heap.size ≤ x) ∧ n ≤ 16 ∧ t.size ≤ 140737488355327 ∧ Hid (G = (prs (16 - n) t.data.toList).map (l ++ ·))) (fun _ lv _ => 17 - lenV lv)
  case atStart => exact ⟨Only.refl _ _, s, none, 0, 0, [], rfl, rfl, Ro.nil _, (fun _ hx => nomatch hx), by omega, hbig, by show _ = _; rw [← HG.out]; simp⟩
  case round =>
    clear HG hbig
    obtain ⟨hO, t, A, n, c, l, rfl, rfl, hR, hA, hn, ht, HE⟩ := hrel
    obtain ⟨S, hS⟩ : ∃ S, t.data.toList = S := ⟨_, rfl⟩
    have hSl : S.length = t.size := by rw [← hS]; simp
    have hcom := fun W => refCol_any t 44 (by omega) W
    rw [show (((44 : UInt8).toNat : Nat) : Int) = 44 from rfl, hS, ← hSl] at hcom
    rw [hS] at HE
    obtain ⟨p, hp⟩ : ∃ p, S.take (ix 44 S) = p := ⟨_, rfl⟩
    have hixl := ix_le 44 S
    have hpl : p.length ≤ S.length := by rw [← hp, List.length_take]; omega
    obtain ⟨g, hg⟩ : ∃ g, wr.heap.size = g := ⟨_, rfl⟩
    obtain ⟨W0, hW0⟩ : ∃ W0, wr.alloc (.cells #[.int .i64 0, .int .i64 0] 35) = W0 := ⟨_, rfl⟩
    have HB0 : Hid (Bk W0 g 35 #[.int .i64 0, .int .i64 0]) := by
      show Bk _ _ _ _
      rw [← hW0, ← hg]
      exact Bk.new _ _ _
    have HB : Hid (Bk W0.drew g 35 #[.int .i64 0, .int .i64 0]) := HB0.out.drew
    have HO0 : Hid (Only [] w W0) := by
      show Only _ _ _
      rw [← hW0]
      exact hO.alloc _
    have HG0 : Hid (w.heap.size ≤ g) := by
      show _ ≤ _
      rw [← hg]
      exact hO.size
    have HR : Hid (Ro W0 A n c l) := by
      show Ro _ _ _ _ _
      rw [← hW0]
      exact hR.keep ((Only.refl _ _).alloc _)
    have HAG : Hid (∀ x ∈ blks A, x < g) := fun x hx => by rw [← hg]; exact hR.lt hx
    have HA := Lib.hid hA
    have HW0 := Lib.hid hW0
    have HPP := Lib.hid hp
    have HGW := Lib.hid hg
    have HN16 := Lib.hid hn
    clear hR hA hO hW0
    by_cases hk : ix 44 S < S.length
    · rw [if_pos hk] at hcom
      have HPS := Lib.hid hk
      have hpre := pre_txt 9 Tryd.underlying9 t (ix 44 S) _ rfl (by omega)
      have hsuf := suf_txt2 9 Tryd.underlying9 t (ix 44 S + 1) ((ix 44 S : Int) + 1) (by omega) (by omega)
      rw [hS, hp] at hpre
      rw [hS] at hsuf
      obtain ⟨tp, htp⟩ : ∃ t, St p = t := ⟨_, rfl⟩
      obtain ⟨t2, ht2⟩ : ∃ t, St (S.drop (ix 44 S + 1)) = t := ⟨_, rfl⟩
      have HTP : Hid (tp.data.toList = p ∧ tp.size = p.length) := ⟨by rw [← htp, St_list], by rw [← htp, St_size]⟩
      have HTPB : Hid (tp.size ≤ 140737488355328) := by show _ ≤ _; rw [← htp, St_size]; omega
      have HT2 : Hid (t2.size ≤ 140737488355327 ∧ t2.data.toList = S.drop (ix 44 S + 1)) := ⟨by rw [← ht2, St_size, List.length_drop]; omega, by rw [← ht2, St_list]⟩
      have hcol := fun W => refCol_any tp 58 HTPB.out W
      rw [show (((58 : UInt8).toNat : Nat) : Int) = 58 from rfl, HTP.out.1, HTP.out.2] at hcol
      rw [htp] at hpre
      rw [ht2] at hsuf
      have hks : IntKind.i64.wrap ((ix 44 S : Int) + 1) = (ix 44 S : Int) + 1 := IntWalk.i64_in _ (by omega)
      obtain ⟨kk, hkk⟩ : ∃ k, ix 44 S = k := ⟨_, rfl⟩
      rw [hkk] at hcom hpre hsuf hks
      clear hS hSl hp hixl hpl htp ht2 hk hkk hn ht hg
      by_cases hj : ix 58 p < p.length
      · rw [if_pos hj] at hcol
        have hrof : (numL (p.take (ix 58 p)) = 0 ∨ numL (p.drop (ix 58 p + 1)) = 0 → rOf (S.take (ix 44 S)) = none) ∧ (numL (p.take (ix 58 p)) ≠ 0 → numL (p.drop (ix 58 p + 1)) ≠ 0 → rOf (S.take (ix 44 S)) = some ((numL (p.take (ix 58 p)) : Int), (numL (p.drop (ix 58 p + 1)) : Int))) := by
          rw [HPP.out]
          unfold rOf
          simp only [if_pos hj]
          exact ⟨fun h => if_pos h, fun h1 h2 => if_neg (fun h => h.elim h1 h2)⟩
        have hpa := pre_txt 9 Tryd.underlying9 tp (ix 58 p) _ rfl (by rw [HTP.out.2]; omega)
        have hpb := suf_txt2 9 Tryd.underlying9 tp (ix 58 p + 1) ((ix 58 p : Int) + 1) (by omega) (by rw [HTP.out.2]; omega)
        rw [HTP.out.1] at hpa hpb
        have ca := fun W => refNumber_any (St (p.take (ix 58 p))) W (by rw [St_size, List.length_take]; have := HTP.out.2; have := HTPB.out; omega)
        have cb := fun W => refNumber_any (St (p.drop (ix 58 p + 1))) W (by rw [St_size, List.length_drop]; have := HTP.out.2; have := HTPB.out; omega)
        rw [St_list] at ca cb
        obtain ⟨x, hx⟩ : ∃ x, numL (p.take (ix 58 p)) = x := ⟨_, rfl⟩
        obtain ⟨y, hy⟩ : ∃ y, numL (p.drop (ix 58 p + 1)) = y := ⟨_, rfl⟩
        obtain ⟨ta, hta⟩ : ∃ t, St (p.take (ix 58 p)) = t := ⟨_, rfl⟩
        obtain ⟨tb, htb⟩ : ∃ t, St (p.drop (ix 58 p + 1)) = t := ⟨_, rfl⟩
        rw [hx] at hrof ca
        rw [hy] at hrof cb
        rw [hta] at ca hpa
        rw [htb] at cb hpb
        have hjs : IntKind.i64.wrap ((ix 58 p : Int) + 1) = (ix 58 p : Int) + 1 := IntWalk.i64_in _ (by have := HTP.out.2; have := HTPB.out; omega)
        obtain ⟨j, hjn⟩ : ∃ j, ix 58 p = j := ⟨_, rfl⟩
        rw [hjn] at hcol hpa hpb hjs
        have HRO := Lib.hid hrof
        clear hrof hx hy hta htb hj hjn
        go_wp2_with first
          | (go_at_call 21; with_reducible refine (hcom _).mono ?_; rintro e w5 ⟨rfl, rfl⟩)
          | (go_at_call 21; with_reducible refine (hcol _).mono ?_; rintro e w5 ⟨rfl, rfl⟩)
        rw [HW0.out, HGW.out]
        apply region_writes (rs := [g]) (Ws := [10]) (by kernel_rfl) (by kernel_rfl)
        apply rel_val (hrf := Tk_refl)
        case hw => rfl
        case hy => intro wS hN hF; skip; first | (go_simp; done) | (go_simp; with_reducible rfl)
        case' hk => skip
        try simp only [Act.put, List.setIfInBounds_toArray, List.set_cons_zero, List.set_cons_succ]
        apply rel_val (hrf := Tk_refl)
        case hw => rfl
        case hy => intro wS hN hF; skip; first | (go_simp; done) | (go_simp; with_reducible rfl)
        case' hk => skip
        try simp only [Act.put, List.setIfInBounds_toArray, List.set_cons_zero, List.set_cons_succ]
        apply rel_val (v := .string ta) (hrf := Tk_refl)
        case hw => rfl
        case hy =>
          intro wS hN hF
          have hq := hpa wS; go_simp
        case' hk => skip
        try simp only [Act.put, List.setIfInBounds_toArray, List.set_cons_zero, List.set_cons_succ]
        apply rel_call (v := .int .i64 (x : Int)) (f := 22) (args := #[.string ta])
        case hw => rfl
        case hy => intro wS hN hF; go_simp
        case hc => intro wS hN hF; exact call_same (ca wS)
        case' hk => skip
        try simp only [Act.put, List.setIfInBounds_toArray, List.set_cons_zero, List.set_cons_succ]
        apply rel_val (hrf := Tk_refl)
        case hw => rfl
        case hy => intro wS hN hF; skip; first | (go_simp; done) | (go_simp; with_reducible rfl)
        case' hk => skip
        try simp only [Act.put, List.setIfInBounds_toArray, List.set_cons_zero, List.set_cons_succ]
        apply rel_val (hrf := Tk_refl)
        case hw => rfl
        case hy => intro wS hN hF; skip; first | (go_simp; done) | (go_simp; with_reducible rfl)
        case' hk => skip
        try simp only [Act.put, List.setIfInBounds_toArray, List.set_cons_zero, List.set_cons_succ]
        apply rel_val (hrf := Tk_refl)
        case hw => rfl
        case hy => intro wS hN hF; skip; first | (go_simp; done) | (go_simp; with_reducible rfl)
        case' hk => skip
        try simp only [Act.put, List.setIfInBounds_toArray, List.set_cons_zero, List.set_cons_succ]
        apply rel_val (v := .string tb) (hrf := Tk_refl)
        case hw => rfl
        case hy =>
          intro wS hN hF
          have hq := hpb wS; go_simp
        case' hk => skip
        try simp only [Act.put, List.setIfInBounds_toArray, List.set_cons_zero, List.set_cons_succ]
        apply rel_call (v := .int .i64 (y : Int)) (f := 22) (args := #[.string tb])
        case hw => rfl
        case hy => intro wS hN hF; go_simp
        case hc => intro wS hN hF; exact call_same (cb wS)
        case' hk => skip
        try simp only [Act.put, List.setIfInBounds_toArray, List.set_cons_zero, List.set_cons_succ]
        apply rel_val (hrf := Tk_refl)
        case hw => rfl
        case hy => intro wS hN hF; skip; first | (go_simp; done) | (go_simp; with_reducible rfl)
        case' hk => skip
        try simp only [Act.put, List.setIfInBounds_toArray, List.set_cons_zero, List.set_cons_succ]
        apply rel_fact (φ := fun _ W9 => Bk W9 g 35 #[.int .i64 (x : Int), .int .i64 (y : Int)]) (x := 9999) (hs := lasts0 (by kernel_rfl) (fun v W1 W2 h ho => h.only ho (fun hm => nomatch hm)))
        case hw => rfl
        case hy =>
          intro wS hN hF
          have hO9 := hN.pre (by kernel_rfl)
          have hb9 := HB.out.only hO9 (fun hm => nomatch hm)
          have e0 : wS.cell? ⟨g, 0, none⟩ = some (.int .i64 0) := by rw [hb9.cell]; rfl
          have e1 : wS.cell? ⟨g, 1, none⟩ = some (.int .i64 0) := by rw [hb9.cell]; rfl
          have f0 := hb9.free 0
          have f1 := hb9.free 1
          have hb10 := two_sets hb9 (x : Int) (y : Int)
          have hO10 : Only [g] wS ((wS.setCell ⟨g, 0, none⟩ (.int .i64 (x : Int))).setCell ⟨g, 1, none⟩ (.int .i64 (y : Int))) := ((Only.refl _ _).setCell (.inl (by simp)) _).setCell (.inl (by simp)) _
          refine gives_skp (w' := (wS.setCell ⟨g, 0, none⟩ (.int .i64 (x : Int))).setCell ⟨g, 1, none⟩ (.int .i64 (y : Int))) ?_ hb10 (Tk_writes rfl hO10 (fun z hz => .inl (by simp at hz; simp [hz])))
          clear hb10 hO10 hb9 hO9
          go_simp
        case' hk => intro v10
        try simp only [Act.put]
        refine rel_end ?_
        intro W9 hO9 hF9
        have hE9 := facts_at hF9 0 rfl
        clear hF9 hcom hcol hpa hpb ca cb hjs
        have HR9 : Hid (Ro W9 A n c l) := (HR.out.keep (Only.refl [] W0).drew).only hO9.only (fun z hz hm => by have := HAG.out z hz; simp only [List.mem_singleton] at hm; omega)
        have HO9 : Hid (Only [] w W9) := HO0.out.drew.trans hO9.only (fun z hz => .inr (by simp only [List.mem_singleton] at hz; have := HG0.out; omega))
        clear hO9
        have d0 : W9.cell? ⟨g, 0, none⟩ = some (.int .i64 (x : Int)) := by rw [hE9.cell]; rfl
        have d1 : W9.cell? ⟨g, 1, none⟩ = some (.int .i64 (y : Int)) := by rw [hE9.cell]; rfl
        have hgl := hE9.lt
        by_cases hx0 : x = 0
        · have hxb : ((x : Int) == 0) = true := by rw [hx0]; rfl
          have hR0 : rOf (S.take (ix 44 S)) = none := HRO.out.1 (.inl hx0)
          clear hx0
          have HN : Hid (G = none) := by
            show _ = _
            rw [HE.out, prs_bad hR0]
            rfl
          clear hE9 HE HPS HRO
          go_wp2_with fail
          go_ret2
          exact ⟨none, 0, by rw [HN.out]; rfl, by rw [HN.out]; exact Ro.nil _, (fun _ hx => nomatch hx), HO9.out⟩
        · have hxb : ((x : Int) == 0) = false := by rw [beq_eq_false_iff_ne]; omega
          by_cases hy0 : y = 0
          · have hyb : ((y : Int) == 0) = true := by rw [hy0]; rfl
            have hR0 : rOf (S.take (ix 44 S)) = none := HRO.out.1 (.inr hy0)
            clear hy0 hx0
            have HN : Hid (G = none) := by
              show _ = _
              rw [HE.out, prs_bad hR0]
              rfl
            clear hE9 HE HPS HRO
            go_wp2_with fail
            go_ret2
            exact ⟨none, 0, by rw [HN.out]; rfl, by rw [HN.out]; exact Ro.nil _, (fun _ hx => nomatch hx), HO9.out⟩
          · have hyb : ((y : Int) == 0) = false := by rw [beq_eq_false_iff_ne]; omega
            replace HRO := Lib.hid (HRO.out.2 hx0 hy0)
            by_cases h16 : n = 16
            · have h16b : (16 : Int) ≤ (n : Int) := by omega
              clear hx0 hy0
              have HN : Hid (G = none) := by
                show _ = _
                rw [HE.out, show 16 - n = 0 by omega, prs_zero]
                rfl
              clear hE9 HE HPS HRO
              go_wp2_with fail
              go_ret2
              exact ⟨none, 0, by rw [HN.out]; rfl, by rw [HN.out]; exact Ro.nil _, (fun _ hx => nomatch hx), HO9.out⟩
            · have hn' : n < 16 := by have := HN16.out; omega
              have h16b : ¬ (16 : Int) ≤ (n : Int) := by omega
              clear hx0 hy0 h16
              have HG2 := Lib.hid (show G = ((prs (15 - n) (S.drop (ix 44 S + 1))).map (((x : Int), (y : Int)) :: ·)).map (l ++ ·) from by rw [HE.out, show 16 - n = (15 - n) + 1 by omega, prs_more HRO.out HPS.out rfl])
              have HN2 := Lib.hid hn'
              clear hE9 HE hn'
              go_wp2_with (at_builtin; refine wpList_append_rg rfl (.tmp 50) (.tmp 52) rfl A n c l rfl (HR9.out.keep ((Only.refl _ _).alloc _)) (x : Int) (y : Int) W9.heap.size _ rfl (Bk.new _ _ _) (by have := HN16.out; omega) ?_; intro A2 c2 w2 V2 O2 B2)
              have O9 : Only [] w w2 := (HO9.out.alloc _).trans O2 (fun z hz => .inr (HA.out z hz))
              have hA2 : ∀ z ∈ blks A2, w.heap.size ≤ z := fun z hz => by
                rcases B2 z hz with h | h
                · exact HA.out z h
                · rw [World.size_alloc] at h; have := HO9.out.size; omega
              refine ⟨⟨O9, t2, A2, n + 1, c2, l ++ [((x : Int), (y : Int))], rfl, rfl, V2, hA2, by have := HN2.out; omega, HT2.out.1, ?_⟩, ?_⟩
              · show _ = _
                rw [HT2.out.2, HG2.out, show 16 - (n + 1) = 15 - n by have := HN2.out; omega]
                cases prs (15 - n) (S.drop (ix 44 S + 1)) <;> simp
              · show 17 - (n + 1) < 17 - n
                have := HN2.out
                omega
      · rw [if_neg hj] at hcol
        have hrof : (numL p = 0 ∨ numL p = 0 → rOf (S.take (ix 44 S)) = none) ∧ (numL p ≠ 0 → numL p ≠ 0 → rOf (S.take (ix 44 S)) = some ((numL p : Int), (numL p : Int))) := by
          rw [HPP.out]
          unfold rOf
          simp only [if_neg hj]
          exact ⟨fun h => if_pos h, fun h1 h2 => if_neg (fun h => h.elim h1 h2)⟩
        have ca := fun W => refNumber_any tp W HTPB.out
        rw [HTP.out.1] at ca
        obtain ⟨x, hx⟩ : ∃ x, numL p = x := ⟨_, rfl⟩
        rw [hx] at hrof ca
        have HRO := Lib.hid hrof
        have e0 : W0.cell? ⟨g, 0, none⟩ = some (.int .i64 0) := by rw [HB0.out.cell]; rfl
        have e1 : W0.cell? ⟨g, 1, none⟩ = some (.int .i64 0) := by rw [HB0.out.cell]; rfl
        have f0 := HB0.out.free 0
        have f1 := HB0.out.free 1
        have hb10 := Lib.hid (two_sets HB0.out (x : Int) (x : Int))
        have hO10 : Hid (Only [g] W0 ((W0.setCell ⟨g, 0, none⟩ (.int .i64 (x : Int))).setCell ⟨g, 1, none⟩ (.int .i64 (x : Int)))) := ((Only.refl _ _).setCell (.inl (by simp)) _).setCell (.inl (by simp)) _
        have HR9 := Lib.hid (HR.out.only hO10.out (fun z hz hm => by have := HAG.out z hz; simp only [List.mem_singleton] at hm; omega))
        have HO9 := Lib.hid (HO0.out.trans hO10.out (fun z hz => .inr (by simp only [List.mem_singleton] at hz; have := HG0.out; omega)))
        clear hrof hx hj
        by_cases hx0 : x = 0
        · have hxb : ((x : Int) == 0) = true := by rw [hx0]; rfl
          have hR0 : rOf (S.take (ix 44 S)) = none := HRO.out.1 (.inl hx0)
          clear hx0
          have HN : Hid (G = none) := by
            show _ = _
            rw [HE.out, prs_bad hR0]
            rfl
          clear HE HPS HRO
          go_wp2_with first
              | (go_at_call 21; with_reducible refine (hcom _).mono ?_; rintro e w5 ⟨rfl, rfl⟩)
              | (go_at_call 21; with_reducible refine (hcol _).mono ?_; rintro e w5 ⟨rfl, rfl⟩; rw [HW0.out, HGW.out])
              | (go_at_call 22; with_reducible refine (ca _).mono ?_; rintro e w5 ⟨rfl, rfl⟩)
          go_ret2
          exact ⟨none, 0, by rw [HN.out]; rfl, by rw [HN.out]; exact Ro.nil _, (fun _ hx => nomatch hx), HO9.out⟩
        · have hxb : ((x : Int) == 0) = false := by rw [beq_eq_false_iff_ne]; omega
          replace HRO := Lib.hid (HRO.out.2 hx0 hx0)
          by_cases h16 : n = 16
          · have h16b : (16 : Int) ≤ (n : Int) := by omega
            clear hx0
            have HN : Hid (G = none) := by
              show _ = _
              rw [HE.out, show 16 - n = 0 by omega, prs_zero]
              rfl
            clear HE HPS HRO
            go_wp2_with first
                | (go_at_call 21; with_reducible refine (hcom _).mono ?_; rintro e w5 ⟨rfl, rfl⟩)
                | (go_at_call 21; with_reducible refine (hcol _).mono ?_; rintro e w5 ⟨rfl, rfl⟩; rw [HW0.out, HGW.out])
                | (go_at_call 22; with_reducible refine (ca _).mono ?_; rintro e w5 ⟨rfl, rfl⟩)
            go_ret2
            exact ⟨none, 0, by rw [HN.out]; rfl, by rw [HN.out]; exact Ro.nil _, (fun _ hx => nomatch hx), HO9.out⟩
          · have hn' : n < 16 := by have := HN16.out; omega
            have h16b : ¬ (16 : Int) ≤ (n : Int) := by omega
            clear hx0 h16
            have HN2 := Lib.hid hn'
            have HBN : Hid (Bk (((W0.setCell ⟨g, 0, none⟩ (.int .i64 (x : Int))).setCell ⟨g, 1, none⟩ (.int .i64 (x : Int))).alloc (.cells #[.int .i64 (x : Int), .int .i64 (x : Int)] 35)) W0.heap.size 35 #[.int .i64 (x : Int), .int .i64 (x : Int)]) := by
              have h := Bk.new ((W0.setCell ⟨g, 0, none⟩ (.int .i64 (x : Int))).setCell ⟨g, 1, none⟩ (.int .i64 (x : Int))) 35 #[.int .i64 (x : Int), .int .i64 (x : Int)]
              show Bk _ _ _ _
              simpa using h
            have HG2 := Lib.hid (show G = ((prs (15 - n) (S.drop (ix 44 S + 1))).map (((x : Int), (x : Int)) :: ·)).map (l ++ ·) from by rw [HE.out, show 16 - n = (15 - n) + 1 by omega, prs_more HRO.out HPS.out rfl])
            clear HE hn'
            go_wp2_with first
                | (go_at_call 21; with_reducible refine (hcom _).mono ?_; rintro e w5 ⟨rfl, rfl⟩)
                | (go_at_call 21; with_reducible refine (hcol _).mono ?_; rintro e w5 ⟨rfl, rfl⟩; rw [HW0.out, HGW.out])
                | (go_at_call 22; with_reducible refine (ca _).mono ?_; rintro e w5 ⟨rfl, rfl⟩)
                | (at_builtin; refine wpList_append_rg rfl (.tmp 50) (.tmp 52) rfl A n c l rfl (HR9.out.keep ((Only.refl _ _).alloc _)) (x : Int) (x : Int) W0.heap.size _ rfl HBN.out (by have := HN16.out; omega) ?_; intro A2 c2 w2 V2 O2 B2)
            have O9 : Only [] w w2 := (HO9.out.alloc _).trans O2 (fun z hz => .inr (HA.out z hz))
            have hA2 : ∀ z ∈ blks A2, w.heap.size ≤ z := fun z hz => by
              rcases B2 z hz with h | h
              · exact HA.out z h
              · rw [World.size_alloc] at h; have := HO9.out.size; omega
            refine ⟨⟨O9, t2, A2, n + 1, c2, l ++ [((x : Int), (x : Int))], rfl, rfl, V2, hA2, by have := HN2.out; omega, HT2.out.1, ?_⟩, ?_⟩
            · show _ = _
              rw [HT2.out.2, HG2.out, show 16 - (n + 1) = 15 - n by have := HN2.out; omega]
              cases prs (15 - n) (S.drop (ix 44 S + 1)) <;> simp
            · show 17 - (n + 1) < 17 - n
              have := HN2.out
              omega
    · rw [if_neg hk] at hcom
      have HPS : Hid (ix 44 S = S.length) := by show _ = _; omega
      have hpS : p = S := by rw [← hp, List.take_of_length_le (by omega)]
      obtain ⟨tp, htp⟩ : ∃ tp, t = tp := ⟨_, rfl⟩
      subst htp
      have HTP : Hid (t.data.toList = p ∧ t.size = p.length) := ⟨by rw [hS, hpS], by rw [hpS, hSl]⟩
      have HTPB : Hid (t.size ≤ 140737488355328) := by show _ ≤ _; omega
      have hcol := fun W => refCol_any t 58 HTPB.out W
      rw [show (((58 : UInt8).toNat : Nat) : Int) = 58 from rfl, HTP.out.1, HTP.out.2] at hcol
      clear hS hSl hp hixl hpl hk hn ht hg hpS
      by_cases hj : ix 58 p < p.length
      · rw [if_pos hj] at hcol
        have hrof : (numL (p.take (ix 58 p)) = 0 ∨ numL (p.drop (ix 58 p + 1)) = 0 → rOf (S.take (ix 44 S)) = none) ∧ (numL (p.take (ix 58 p)) ≠ 0 → numL (p.drop (ix 58 p + 1)) ≠ 0 → rOf (S.take (ix 44 S)) = some ((numL (p.take (ix 58 p)) : Int), (numL (p.drop (ix 58 p + 1)) : Int))) := by
          rw [HPP.out]
          unfold rOf
          simp only [if_pos hj]
          exact ⟨fun h => if_pos h, fun h1 h2 => if_neg (fun h => h.elim h1 h2)⟩
        have hpa := pre_txt 9 Tryd.underlying9 t (ix 58 p) _ rfl (by rw [HTP.out.2]; omega)
        have hpb := suf_txt2 9 Tryd.underlying9 t (ix 58 p + 1) ((ix 58 p : Int) + 1) (by omega) (by rw [HTP.out.2]; omega)
        rw [HTP.out.1] at hpa hpb
        have ca := fun W => refNumber_any (St (p.take (ix 58 p))) W (by rw [St_size, List.length_take]; have := HTP.out.2; have := HTPB.out; omega)
        have cb := fun W => refNumber_any (St (p.drop (ix 58 p + 1))) W (by rw [St_size, List.length_drop]; have := HTP.out.2; have := HTPB.out; omega)
        rw [St_list] at ca cb
        obtain ⟨x, hx⟩ : ∃ x, numL (p.take (ix 58 p)) = x := ⟨_, rfl⟩
        obtain ⟨y, hy⟩ : ∃ y, numL (p.drop (ix 58 p + 1)) = y := ⟨_, rfl⟩
        obtain ⟨ta, hta⟩ : ∃ t, St (p.take (ix 58 p)) = t := ⟨_, rfl⟩
        obtain ⟨tb, htb⟩ : ∃ t, St (p.drop (ix 58 p + 1)) = t := ⟨_, rfl⟩
        rw [hx] at hrof ca
        rw [hy] at hrof cb
        rw [hta] at ca hpa
        rw [htb] at cb hpb
        have hjs : IntKind.i64.wrap ((ix 58 p : Int) + 1) = (ix 58 p : Int) + 1 := IntWalk.i64_in _ (by have := HTP.out.2; have := HTPB.out; omega)
        obtain ⟨j, hjn⟩ : ∃ j, ix 58 p = j := ⟨_, rfl⟩
        rw [hjn] at hcol hpa hpb hjs
        have HRO := Lib.hid hrof
        clear hrof hx hy hta htb hj hjn
        go_wp2_with first
          | (go_at_call 21; with_reducible refine (hcom _).mono ?_; rintro e w5 ⟨rfl, rfl⟩)
          | (go_at_call 21; with_reducible refine (hcol _).mono ?_; rintro e w5 ⟨rfl, rfl⟩)
        rw [HW0.out, HGW.out]
        apply region_writes (rs := [g]) (Ws := [10]) (by kernel_rfl) (by kernel_rfl)
        apply rel_val (hrf := Tk_refl)
        case hw => rfl
        case hy => intro wS hN hF; skip; first | (go_simp; done) | (go_simp; with_reducible rfl)
        case' hk => skip
        try simp only [Act.put, List.setIfInBounds_toArray, List.set_cons_zero, List.set_cons_succ]
        apply rel_val (hrf := Tk_refl)
        case hw => rfl
        case hy => intro wS hN hF; skip; first | (go_simp; done) | (go_simp; with_reducible rfl)
        case' hk => skip
        try simp only [Act.put, List.setIfInBounds_toArray, List.set_cons_zero, List.set_cons_succ]
        apply rel_val (v := .string ta) (hrf := Tk_refl)
        case hw => rfl
        case hy =>
          intro wS hN hF
          have hq := hpa wS; go_simp
        case' hk => skip
        try simp only [Act.put, List.setIfInBounds_toArray, List.set_cons_zero, List.set_cons_succ]
        apply rel_call (v := .int .i64 (x : Int)) (f := 22) (args := #[.string ta])
        case hw => rfl
        case hy => intro wS hN hF; go_simp
        case hc => intro wS hN hF; exact call_same (ca wS)
        case' hk => skip
        try simp only [Act.put, List.setIfInBounds_toArray, List.set_cons_zero, List.set_cons_succ]
        apply rel_val (hrf := Tk_refl)
        case hw => rfl
        case hy => intro wS hN hF; skip; first | (go_simp; done) | (go_simp; with_reducible rfl)
        case' hk => skip
        try simp only [Act.put, List.setIfInBounds_toArray, List.set_cons_zero, List.set_cons_succ]
        apply rel_val (hrf := Tk_refl)
        case hw => rfl
        case hy => intro wS hN hF; skip; first | (go_simp; done) | (go_simp; with_reducible rfl)
        case' hk => skip
        try simp only [Act.put, List.setIfInBounds_toArray, List.set_cons_zero, List.set_cons_succ]
        apply rel_val (hrf := Tk_refl)
        case hw => rfl
        case hy => intro wS hN hF; skip; first | (go_simp; done) | (go_simp; with_reducible rfl)
        case' hk => skip
        try simp only [Act.put, List.setIfInBounds_toArray, List.set_cons_zero, List.set_cons_succ]
        apply rel_val (v := .string tb) (hrf := Tk_refl)
        case hw => rfl
        case hy =>
          intro wS hN hF
          have hq := hpb wS; go_simp
        case' hk => skip
        try simp only [Act.put, List.setIfInBounds_toArray, List.set_cons_zero, List.set_cons_succ]
        apply rel_call (v := .int .i64 (y : Int)) (f := 22) (args := #[.string tb])
        case hw => rfl
        case hy => intro wS hN hF; go_simp
        case hc => intro wS hN hF; exact call_same (cb wS)
        case' hk => skip
        try simp only [Act.put, List.setIfInBounds_toArray, List.set_cons_zero, List.set_cons_succ]
        apply rel_val (hrf := Tk_refl)
        case hw => rfl
        case hy => intro wS hN hF; skip; first | (go_simp; done) | (go_simp; with_reducible rfl)
        case' hk => skip
        try simp only [Act.put, List.setIfInBounds_toArray, List.set_cons_zero, List.set_cons_succ]
        apply rel_fact (φ := fun _ W9 => Bk W9 g 35 #[.int .i64 (x : Int), .int .i64 (y : Int)]) (x := 9999) (hs := lasts0 (by kernel_rfl) (fun v W1 W2 h ho => h.only ho (fun hm => nomatch hm)))
        case hw => rfl
        case hy =>
          intro wS hN hF
          have hO9 := hN.pre (by kernel_rfl)
          have hb9 := HB.out.only hO9 (fun hm => nomatch hm)
          have e0 : wS.cell? ⟨g, 0, none⟩ = some (.int .i64 0) := by rw [hb9.cell]; rfl
          have e1 : wS.cell? ⟨g, 1, none⟩ = some (.int .i64 0) := by rw [hb9.cell]; rfl
          have f0 := hb9.free 0
          have f1 := hb9.free 1
          have hb10 := two_sets hb9 (x : Int) (y : Int)
          have hO10 : Only [g] wS ((wS.setCell ⟨g, 0, none⟩ (.int .i64 (x : Int))).setCell ⟨g, 1, none⟩ (.int .i64 (y : Int))) := ((Only.refl _ _).setCell (.inl (by simp)) _).setCell (.inl (by simp)) _
          refine gives_skp (w' := (wS.setCell ⟨g, 0, none⟩ (.int .i64 (x : Int))).setCell ⟨g, 1, none⟩ (.int .i64 (y : Int))) ?_ hb10 (Tk_writes rfl hO10 (fun z hz => .inl (by simp at hz; simp [hz])))
          clear hb10 hO10 hb9 hO9
          go_simp
        case' hk => intro v10
        try simp only [Act.put]
        refine rel_end ?_
        intro W9 hO9 hF9
        have hE9 := facts_at hF9 0 rfl
        clear hF9 hcom hcol hpa hpb ca cb hjs
        have HR9 : Hid (Ro W9 A n c l) := (HR.out.keep (Only.refl [] W0).drew).only hO9.only (fun z hz hm => by have := HAG.out z hz; simp only [List.mem_singleton] at hm; omega)
        have HO9 : Hid (Only [] w W9) := HO0.out.drew.trans hO9.only (fun z hz => .inr (by simp only [List.mem_singleton] at hz; have := HG0.out; omega))
        clear hO9
        have d0 : W9.cell? ⟨g, 0, none⟩ = some (.int .i64 (x : Int)) := by rw [hE9.cell]; rfl
        have d1 : W9.cell? ⟨g, 1, none⟩ = some (.int .i64 (y : Int)) := by rw [hE9.cell]; rfl
        have hgl := hE9.lt
        by_cases hx0 : x = 0
        · have hxb : ((x : Int) == 0) = true := by rw [hx0]; rfl
          have hR0 : rOf (S.take (ix 44 S)) = none := HRO.out.1 (.inl hx0)
          clear hx0
          have HN : Hid (G = none) := by
            show _ = _
            rw [HE.out, prs_bad hR0]
            rfl
          clear hE9 HE HPS HRO
          go_wp2_with fail
          go_ret2
          exact ⟨none, 0, by rw [HN.out]; rfl, by rw [HN.out]; exact Ro.nil _, (fun _ hx => nomatch hx), HO9.out⟩
        · have hxb : ((x : Int) == 0) = false := by rw [beq_eq_false_iff_ne]; omega
          by_cases hy0 : y = 0
          · have hyb : ((y : Int) == 0) = true := by rw [hy0]; rfl
            have hR0 : rOf (S.take (ix 44 S)) = none := HRO.out.1 (.inr hy0)
            clear hy0 hx0
            have HN : Hid (G = none) := by
              show _ = _
              rw [HE.out, prs_bad hR0]
              rfl
            clear hE9 HE HPS HRO
            go_wp2_with fail
            go_ret2
            exact ⟨none, 0, by rw [HN.out]; rfl, by rw [HN.out]; exact Ro.nil _, (fun _ hx => nomatch hx), HO9.out⟩
          · have hyb : ((y : Int) == 0) = false := by rw [beq_eq_false_iff_ne]; omega
            replace HRO := Lib.hid (HRO.out.2 hx0 hy0)
            by_cases h16 : n = 16
            · have h16b : (16 : Int) ≤ (n : Int) := by omega
              clear hx0 hy0
              have HN : Hid (G = none) := by
                show _ = _
                rw [HE.out, show 16 - n = 0 by omega, prs_zero]
                rfl
              clear hE9 HE HPS HRO
              go_wp2_with fail
              go_ret2
              exact ⟨none, 0, by rw [HN.out]; rfl, by rw [HN.out]; exact Ro.nil _, (fun _ hx => nomatch hx), HO9.out⟩
            · have hn' : n < 16 := by have := HN16.out; omega
              have h16b : ¬ (16 : Int) ≤ (n : Int) := by omega
              clear hx0 hy0 h16
              have HG2 := Lib.hid (show G = some (l ++ [((x : Int), (y : Int))]) from by rw [HE.out, show 16 - n = (15 - n) + 1 by omega, prs_end HRO.out HPS.out]; rfl)
              have HN2 := Lib.hid hn'
              clear hE9 HE hn'
              go_wp2_with (at_builtin; refine wpList_append_rg rfl (.tmp 50) (.tmp 52) rfl A n c l rfl (HR9.out.keep ((Only.refl _ _).alloc _)) (x : Int) (y : Int) W9.heap.size _ rfl (Bk.new _ _ _) (by have := HN16.out; omega) ?_; intro A2 c2 w2 V2 O2 B2)
              have O9 : Only [] w w2 := (HO9.out.alloc _).trans O2 (fun z hz => .inr (HA.out z hz))
              have hA2 : ∀ z ∈ blks A2, w.heap.size ≤ z := fun z hz => by
                rcases B2 z hz with h | h
                · exact HA.out z h
                · rw [World.size_alloc] at h; have := HO9.out.size; omega
              go_ret2
              have hlen : (lstO G).length = n + 1 := by rw [HG2.out]; show (l ++ [((x : Int), (y : Int))]).length = n + 1; have := HR9.out.len; simp; omega
              have hlst : lstO G = l ++ [((x : Int), (y : Int))] := by rw [HG2.out]; rfl
              have herr : errO G = 0 := by rw [HG2.out]; rfl
              exact ⟨A2, c2, by rw [hlen, herr]; rfl, by rw [hlen, hlst]; exact V2, hA2, O9⟩
      · rw [if_neg hj] at hcol
        have hrof : (numL p = 0 ∨ numL p = 0 → rOf (S.take (ix 44 S)) = none) ∧ (numL p ≠ 0 → numL p ≠ 0 → rOf (S.take (ix 44 S)) = some ((numL p : Int), (numL p : Int))) := by
          rw [HPP.out]
          unfold rOf
          simp only [if_neg hj]
          exact ⟨fun h => if_pos h, fun h1 h2 => if_neg (fun h => h.elim h1 h2)⟩
        have ca := fun W => refNumber_any t W HTPB.out
        rw [HTP.out.1] at ca
        obtain ⟨x, hx⟩ : ∃ x, numL p = x := ⟨_, rfl⟩
        rw [hx] at hrof ca
        have HRO := Lib.hid hrof
        have e0 : W0.cell? ⟨g, 0, none⟩ = some (.int .i64 0) := by rw [HB0.out.cell]; rfl
        have e1 : W0.cell? ⟨g, 1, none⟩ = some (.int .i64 0) := by rw [HB0.out.cell]; rfl
        have f0 := HB0.out.free 0
        have f1 := HB0.out.free 1
        have hb10 := Lib.hid (two_sets HB0.out (x : Int) (x : Int))
        have hO10 : Hid (Only [g] W0 ((W0.setCell ⟨g, 0, none⟩ (.int .i64 (x : Int))).setCell ⟨g, 1, none⟩ (.int .i64 (x : Int)))) := ((Only.refl _ _).setCell (.inl (by simp)) _).setCell (.inl (by simp)) _
        have HR9 := Lib.hid (HR.out.only hO10.out (fun z hz hm => by have := HAG.out z hz; simp only [List.mem_singleton] at hm; omega))
        have HO9 := Lib.hid (HO0.out.trans hO10.out (fun z hz => .inr (by simp only [List.mem_singleton] at hz; have := HG0.out; omega)))
        clear hrof hx hj
        by_cases hx0 : x = 0
        · have hxb : ((x : Int) == 0) = true := by rw [hx0]; rfl
          have hR0 : rOf (S.take (ix 44 S)) = none := HRO.out.1 (.inl hx0)
          clear hx0
          have HN : Hid (G = none) := by
            show _ = _
            rw [HE.out, prs_bad hR0]
            rfl
          clear HE HPS HRO
          go_wp2_with first
              | (go_at_call 21; with_reducible refine (hcom _).mono ?_; rintro e w5 ⟨rfl, rfl⟩)
              | (go_at_call 21; with_reducible refine (hcol _).mono ?_; rintro e w5 ⟨rfl, rfl⟩; rw [HW0.out, HGW.out])
              | (go_at_call 22; with_reducible refine (ca _).mono ?_; rintro e w5 ⟨rfl, rfl⟩)
          go_ret2
          exact ⟨none, 0, by rw [HN.out]; rfl, by rw [HN.out]; exact Ro.nil _, (fun _ hx => nomatch hx), HO9.out⟩
        · have hxb : ((x : Int) == 0) = false := by rw [beq_eq_false_iff_ne]; omega
          replace HRO := Lib.hid (HRO.out.2 hx0 hx0)
          by_cases h16 : n = 16
          · have h16b : (16 : Int) ≤ (n : Int) := by omega
            clear hx0
            have HN : Hid (G = none) := by
              show _ = _
              rw [HE.out, show 16 - n = 0 by omega, prs_zero]
              rfl
            clear HE HPS HRO
            go_wp2_with first
                | (go_at_call 21; with_reducible refine (hcom _).mono ?_; rintro e w5 ⟨rfl, rfl⟩)
                | (go_at_call 21; with_reducible refine (hcol _).mono ?_; rintro e w5 ⟨rfl, rfl⟩; rw [HW0.out, HGW.out])
                | (go_at_call 22; with_reducible refine (ca _).mono ?_; rintro e w5 ⟨rfl, rfl⟩)
            go_ret2
            exact ⟨none, 0, by rw [HN.out]; rfl, by rw [HN.out]; exact Ro.nil _, (fun _ hx => nomatch hx), HO9.out⟩
          · have hn' : n < 16 := by have := HN16.out; omega
            have h16b : ¬ (16 : Int) ≤ (n : Int) := by omega
            clear hx0 h16
            have HN2 := Lib.hid hn'
            have HBN : Hid (Bk (((W0.setCell ⟨g, 0, none⟩ (.int .i64 (x : Int))).setCell ⟨g, 1, none⟩ (.int .i64 (x : Int))).alloc (.cells #[.int .i64 (x : Int), .int .i64 (x : Int)] 35)) W0.heap.size 35 #[.int .i64 (x : Int), .int .i64 (x : Int)]) := by
              have h := Bk.new ((W0.setCell ⟨g, 0, none⟩ (.int .i64 (x : Int))).setCell ⟨g, 1, none⟩ (.int .i64 (x : Int))) 35 #[.int .i64 (x : Int), .int .i64 (x : Int)]
              show Bk _ _ _ _
              simpa using h
            have HG2 := Lib.hid (show G = some (l ++ [((x : Int), (x : Int))]) from by rw [HE.out, show 16 - n = (15 - n) + 1 by omega, prs_end HRO.out HPS.out]; rfl)
            clear HE hn'
            go_wp2_with first
                | (go_at_call 21; with_reducible refine (hcom _).mono ?_; rintro e w5 ⟨rfl, rfl⟩)
                | (go_at_call 21; with_reducible refine (hcol _).mono ?_; rintro e w5 ⟨rfl, rfl⟩; rw [HW0.out, HGW.out])
                | (go_at_call 22; with_reducible refine (ca _).mono ?_; rintro e w5 ⟨rfl, rfl⟩)
                | (at_builtin; refine wpList_append_rg rfl (.tmp 50) (.tmp 52) rfl A n c l rfl (HR9.out.keep ((Only.refl _ _).alloc _)) (x : Int) (x : Int) W0.heap.size _ rfl HBN.out (by have := HN16.out; omega) ?_; intro A2 c2 w2 V2 O2 B2)
            have O9 : Only [] w w2 := (HO9.out.alloc _).trans O2 (fun z hz => .inr (HA.out z hz))
            have hA2 : ∀ z ∈ blks A2, w.heap.size ≤ z := fun z hz => by
              rcases B2 z hz with h | h
              · exact HA.out z h
              · rw [World.size_alloc] at h; have := HO9.out.size; omega
            go_ret2
            have hlen : (lstO G).length = n + 1 := by rw [HG2.out]; show (l ++ [((x : Int), (x : Int))]).length = n + 1; have := HR9.out.len; simp; omega
            have hlst : lstO G = l ++ [((x : Int), (x : Int))] := by rw [HG2.out]; rfl
            have herr : errO G = 0 := by rw [HG2.out]; rfl
            exact ⟨A2, c2, by rw [hlen, herr]; rfl, by rw [hlen, hlst]; exact V2, hA2, O9⟩
end Go.Proofs.YtkdaemjdiafccaaDoor
