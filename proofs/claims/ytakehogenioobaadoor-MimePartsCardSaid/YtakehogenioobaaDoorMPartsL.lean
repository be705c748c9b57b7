/-
  The law MimeParts.
-/
import Derived.Test.YtakehogenioobaaDoorMMess
import Derived.Test.YtakehogenioobaaDoorMSect
namespace Go.Proofs.YtakehogenioobaaDoor
open Go.RowKit Go.Instr

theorem hp_len (l : List UInt8) (z : Bool) : (hp l z).length ≤ 56 + l.length := by
  cases z <;> simp [hp, hdO, vMsg, ctN, kdN, bdN, pmN, qOf] <;> omega
def catL (ls : List (List UInt8)) (k : Nat) : Nat := ((ls.take k).map List.length).sum
theorem catL_succ {ls : List (List UInt8)} {k : Nat} (h : k < ls.length) : catL ls (k + 1) = catL ls k + ls[k].length := by
  unfold catL
  rw [List.take_succ_eq_append_getElem h, List.map_append, List.sum_append]
  simp
theorem segs_len (l : List UInt8) : ∀ ls : List (List UInt8), (segs l ls).length = (ls.map List.length).sum + ls.length * (l.length + 6)
  | [] => by simp [segs]
  | p :: r => by
    have ih := segs_len l r
    have e : segs l (p :: r) = sg l p ++ segs l r := by simp [segs]
    rw [e, List.length_append, ih, List.map_cons, List.sum_cons, List.length_cons, Nat.add_mul]
    simp only [sg, mk, List.length_append, List.length_cons, List.length_nil]
    omega
theorem parts_facts {M : List UInt8} {ls : List (List UInt8)} (hmap : (parts M).map (subB M) = ls) : ∃ G, Hid (parts M = G) ∧ G.length = ls.length ∧
    Hid (∀ k (h : k < G.length) (h' : k < ls.length), subB M G[k] = ls[k] ∧ G[k].1 ≤ G[k].2 ∧ G[k].2 ≤ M.length) ∧ Hid (∀ k (h' : k < ls.length), sec [(k : Int) + 1] M = some ls[k]) ∧ Hid (ls ≠ [] → sec [(ls.length : Int) + 1] M = none) ∧ Hid (ls = [] → sec [1] M = some (M.drop (hd M))) := by
  have hord := parts_ord M
  have hs1 : ∀ x, sec [x] M = if parts M = [] ∧ x = 1 ∧ ([] : List Int) = [] then some (M.drop (hd M)) else if x < 1 ∨ ((parts M).length : Int) < x then none else sec [] (subB M ((parts M).getD (x.toNat - 1) (0, 0))) := fun x => by conv => lhs; rw [sec]
  obtain ⟨G, hG⟩ : ∃ G, parts M = G := ⟨_, rfl⟩
  rw [hG] at hmap hord hs1
  have hl : G.length = ls.length := by rw [← hmap, List.length_map]
  have hat : ∀ k (h : k < G.length) (h' : k < ls.length), subB M G[k] = ls[k] := fun k h h' => by
    have e : (G.map (subB M))[k]? = ls[k]? := by rw [hmap]
    rw [List.getElem?_map, List.getElem?_eq_getElem h, List.getElem?_eq_getElem h'] at e
    exact Option.some.inj e
  refine ⟨G, hG, hl, fun k h h' => ⟨hat k h h', ?_⟩, fun k h' => ?_, fun hne => ?_, fun he => ?_⟩
  · have := Ord.get hord (i := k) (p := G[k]) (List.getElem?_eq_getElem h)
    exact this.2
  · have h : k < G.length := by omega
    rw [hs1, if_neg (fun h2 => by rw [h2.1] at h; simp at h), if_neg (by omega)]
    have e : ((k : Int) + 1).toNat - 1 = k := by omega
    rw [e, show G.getD k (0, 0) = G[k] by simp [List.getD, h], hat k h h']
    rfl
  · rw [hs1, if_neg (fun h2 => by
      have : G.length = 0 := by rw [h2.1]; rfl
      exact hne (List.eq_nil_of_length_eq_zero (by omega))), if_pos (by omega)]
  · have : G = [] := List.eq_nil_of_length_eq_zero (by rw [hl, he]; rfl)
    rw [hs1, if_pos ⟨this, rfl, rfl⟩]
theorem pz_one {W : World} {g : Nat} {x : Int} (h : W.cell? ⟨g, 0, none⟩ = some (.int .i64 x)) : Pz W (some ⟨g, 0, none⟩) 1 1 [x] :=
  ⟨⟨rfl, fun _ => ⟨_, rfl, fun j u hu => by
    have hj : j < 1 := by have := (List.getElem?_eq_some_iff.1 hu).1; simpa [ivs] using this
    obtain rfl : j = 0 := by omega
    rw [add_none, Nat.zero_add, h]
    simpa [ivs] using hu⟩⟩, Nat.le_refl _, fun e => nomatch e⟩
set_option maxRecDepth 100000 in
set_option maxHeartbeats 8000000 in
theorem parts_any (s : ByteArray) (A1 : Option Addr) (n1 c1 : Nat) (ls : List (List UInt8)) (z : Bool) (w : World) (hs : s.size ≤ 140737488351232) (hR : Rw w A1 n1 ls) (hj : ∀ l ∈ ls, l.length ≤ 140737488351232) :
    Calls Tryd.prog 3 #[.string s, .slice A1 n1 c1, .bool z] w fun e w' => e = .returned (.bool true) ∧ Only [] w w' := by
  by_cases hcl : Cl s
  case neg =>
    have c1 := clean_is s hs false ⟨fun h => absurd h (by decide), fun h => absurd h hcl⟩ w
    go_enter Tryd.func3, Tryd.ntmps3
    go_wp2_with (go_at_call 8; (with_reducible refine c1.mono ?_); rintro e w1 ⟨rfl, rfl⟩)
    go_ret
    exact ⟨rfl, Only.refl _ _⟩
  have cl := clean_is s hs true ⟨fun _ => hcl, fun _ => rfl⟩ w
  by_cases hn16 : n1 ≤ 16
  case neg =>
    have hn16' : (16 : Int) < (n1 : Int) := by omega
    go_enter Tryd.func3, Tryd.ntmps3
    go_wp2_with (go_at_call 8; (with_reducible refine cl.mono ?_); rintro e w1 ⟨rfl, rfl⟩)
    go_ret
    exact ⟨rfl, Only.refl _ _⟩
  have hn16' : (n1 : Int) ≤ 16 := by omega
  have HR := Lib.hid hR
  have HRL := Lib.hid hR.len
  have HRS := Lib.hid hR.below
  have HJ := Lib.hid hj
  have HCL := Lib.hid hcl
  have hcat : Hid (∀ k, k ≤ n1 → catL ls k ≤ k * 140737488351232) := by
    intro k
    induction k with
    | zero => intro _; simp [catL]
    | succ k ih =>
      intro hk
      have hkl : k < ls.length := by rw [hR.len]; omega
      have h1 := ih (by omega)
      have h2 := hj _ (List.getElem_mem hkl)
      rw [catL_succ hkl]
      omega
  clear hR hj hcl hs
  go_enter Tryd.func3, Tryd.ntmps3
  go_wp2_with (go_at_call 8; (with_reducible refine cl.mono ?_); rintro e w1 ⟨rfl, rfl⟩)
  go_loopw [8, 7, 9] (fun i t _ wr => ∃ (k S : Nat), k ≤ n1 ∧ i = .int .i64 (k : Int) ∧ t = .int .i64 (S : Int) ∧ Hid (S = catL ls k + k) ∧ Hid (∀ p ∈ ls.take k, ∀ x ∈ p, x ≠ 45) ∧ w = wr) (fun i _ _ _ => n1 - (intOf i).toNat)
  case atStart => exact ⟨0, 0, Nat.zero_le _, rfl, rfl, rfl, (fun p hp => by simp at hp), rfl⟩
  case round =>
    obtain ⟨k, S, hk, rfl, rfl, HS, HT, rfl⟩ := hrel
    have hSb : S ≤ 2251799813685248 := by
      have h1 := HS.out
      have h2 := hcat.out k hk
      omega
    by_cases hlt : k < n1
    · have hlt' : (k : Int) < (n1 : Int) := by omega
      have hkl : k < ls.length := by rw [HRL.out]; exact hlt
      obtain ⟨ad, Ai, ci, rfl, e1, hSi⟩ := HR.out.at_ hlt hkl
      have hcs := catL_succ hkl
      have hpl := HJ.out _ (List.getElem_mem hkl)
      have htk : (∀ x ∈ ls[k], x ≠ 45) → ∀ p ∈ ls.take (k + 1), ∀ x ∈ p, x ≠ 45 := fun h p hp => by
        rw [List.take_succ_eq_append_getElem hkl] at hp
        rcases List.mem_append.1 hp with hp | hp
        · exact HT.out p hp
        · rw [List.mem_singleton.1 hp]; exact h
      obtain ⟨PL, hPL⟩ : ∃ PL, ls[k] = PL := ⟨_, rfl⟩
      rw [hPL] at e1 hSi hcs hpl htk
      obtain ⟨p, hp⟩ : ∃ p, PL.length = p := ⟨_, rfl⟩
      rw [hp] at e1 hSi hcs hpl
      have HPL := Lib.hid hp
      have HTK := Lib.hid htk
      have HSN : Hid (S + 1 + p = catL ls (k + 1) + (k + 1)) := by show _ = _; have := HS.out; omega
      have hSi2 := Lib.hid hSi
      have hsum : (S : Int) + 1 + (p : Int) ≤ 2533274790395904 := by omega
      have hsum0 : (S : Int) + 1 ≤ 2533274790395904 := by omega
      have hkb : (k : Int) + 1 ≤ 16 := by omega
      have hSN : ((S + 1 + p : Nat) : Int) = (S : Int) + 1 + (p : Int) := by omega
      clear htk hp hPL hcs hSi HS
      go_wp2_with fail
      go_loopw [9] (fun kk wq => ∃ j : Nat, j ≤ p ∧ kk = .int .i64 (j : Int) ∧ Hid (∀ x ∈ PL.take j, x ≠ 45) ∧ w = wq) (fun kk _ => p - (intOf kk).toNat)
      case atStart => exact ⟨0, Nat.zero_le _, rfl, (fun x hx => by simp at hx), rfl⟩
      case round =>
        obtain ⟨j, hjp, rfl, HTJ, rfl⟩ := hrel
        by_cases hltj : j < p
        · have hltj' : (j : Int) < (p : Int) := by omega
          have hjl : j < PL.length := by rw [HPL.out]; exact hltj
          obtain ⟨ad2, u, rfl, hu, hc2⟩ := hSi2.out.at_ hltj
          rw [bvs_get PL j hjl] at hu
          injection hu with hu
          subst hu
          unfold bv at hc2
          have hjb : (j : Int) + 1 ≤ 140737488351232 := by omega
          by_cases h45 : PL[j] = 45
          · have hten : ((PL[j].toNat : Nat) : Int) = 45 := by rw [h45]; rfl
            rw [hten] at hc2
            clear hten h45
            go_wp2_with fail
            go_ret
            exact ⟨rfl, Only.refl _ _⟩
          · have hne : ((PL[j].toNat : Nat) : Int) ≠ 45 := fun e => h45 (UInt8.toNat_inj.1 (by show _ = 45; omega))
            have HT2 : Hid (∀ x ∈ PL.take (j + 1), x ≠ 45) := fun x hx => by
              rw [List.take_succ_eq_append_getElem hjl] at hx
              rcases List.mem_append.1 hx with hx | hx
              · exact HTJ.out x hx
              · rw [List.mem_singleton.1 hx]; exact h45
            generalize hyy : ((PL[j].toNat : Nat) : Int) = y at hc2 hne
            have hyb : (y == 45) = false := by rw [beq_eq_false_iff_ne]; exact hne
            clear hyy hne h45
            go_wp2_with fail
            go_roundw
            case rel => exact ⟨j + 1, by omega, by go_num, HT2.out, trivial⟩
            case measure => simp [intOf]; omega
        · obtain rfl : j = p := by omega
          rw [List.take_of_length_le (by rw [HPL.out]; exact Nat.le_refl _)] at HTJ
          go_wp2_with fail
          go_roundw
          case rel => exact ⟨k + 1, S + 1 + j, by omega, by go_num, by rw [hSN], HSN.out, HTK.out HTJ.out, trivial⟩
          case measure => simp [intOf]; omega
    · obtain rfl : k = n1 := by omega
      rw [List.take_of_length_le (by rw [HRL.out]; exact Nat.le_refl _)] at HT
      by_cases h15 : S ≤ 1500
      case neg =>
        have h15' : (1500 : Int) < (S : Int) := by omega
        go_wp2_with fail
        go_ret
        exact ⟨rfl, Only.refl _ _⟩
      have h15' : (S : Int) ≤ 1500 := by omega
      obtain ⟨l, hl⟩ : ∃ l, s.data.toList = l := ⟨_, rfl⟩
      have hll : l.length = s.size := by rw [← hl]; simp
      have hsz := HCL.out.2.2
      have hbd : ∀ x ∈ l, isC x := by rw [← hl]; exact HCL.out.1
      have hne : l ≠ [] := fun e => by rw [e] at hll; have := HCL.out.2.1; simp at hll; omega
      have hml : (msg l z ls).length ≤ 4096 := by
        have h1 := hp_len l z
        have h2 := segs_len l ls
        have h3 := HS.out
        have h4 := HRL.out
        have h5 : catL ls k = (ls.map List.length).sum := by unfold catL; rw [List.take_of_length_le (by omega)]
        have h6 : ls.length * (l.length + 6) ≤ 16 * 36 := Nat.mul_le_mul (by omega) (by omega)
        rw [msg_eq]
        simp only [List.length_append, mend, mk, bhN, List.length_cons, List.length_nil]
        omega
      have cM := message_any s hsz z A1 k c1 ls w HR.out hn16 (by rw [hl]; exact hml)
      rw [hl] at cM
      have hmap := msg_parts hbd hne z ls (fun p hp => nm_dash (HT.out p hp)) (by rw [HRL.out]; exact hn16)
      obtain ⟨M, hM⟩ : ∃ M, msg l z ls = M := ⟨_, rfl⟩
      rw [hM] at cM hml hmap
      obtain ⟨G, HG, hGl, HGA, HSC, HSN, HSE⟩ := parts_facts hmap
      rw [HRL.out] at hGl HSN
      have HGL := Lib.hid hGl
      have HML := Lib.hid hml
      clear hl hll hbd hne hml hmap hM hGl HS h15 hcat HT HCL
      go_wp2_with first
        | (go_at_call 9; (with_reducible refine cM.mono ?_); rintro e w1 ⟨A3, q, c3, rfl, HQ, hG3, hB3, hO1⟩
           have hq4 : q ≤ 4096 := (by rw [HQ.out]; exact HML.out)
           have hBM := hG3.bt
           have cP0 := Parts_any hBM hq4 hG3.lt
           rw [HG.out] at cP0
           have cP : Calls Tryd.prog 10 #[.slice A3 q c3] w1 fun e w' => ∃ A' c', e = .returned (.slice A' k c') ∧ Hid (Pt w' A' k c' G) ∧ Only [] w1 w' := cP0.mono fun e w' ⟨A', c', h1, h2, h3, _⟩ => ⟨A', c', by rw [h1, HGL.out], by rw [← HGL.out]; exact h2, h3⟩
           clear cP0)
        | (go_at_call 10; (with_reducible refine cP.mono ?_); rintro e w2 ⟨A', c', rfl, hP, hO2⟩)
      have hO12 := hO1.then hO2
      go_loopw [12, 13, 14] (fun i _ _ wr => ∃ r : Nat, r ≤ k ∧ i = .int .i64 (r : Int) ∧ Only [] w2 wr) (fun i _ _ _ => k - (intOf i).toNat)
      case atStart => exact ⟨0, Nat.zero_le _, rfl, Only.refl _ _⟩
      case round =>
        obtain ⟨r, hr, rfl, hOr⟩ := hrel
        by_cases hltr : r < k
        · have hltr' : (r : Int) < (k : Int) := by omega
          have hrl : r < ls.length := by rw [HRL.out]; exact hltr
          have hrG : r < G.length := by rw [HGL.out]; exact hltr
          obtain ⟨g, rfl, e1, e2⟩ := (hP.out.keep hOr).at_ hltr hrG
          obtain ⟨a1, a2, a3⟩ := HGA.out r hrG hrl
          obtain ⟨ad, Ai, ci, rfl, e3, hSi⟩ := (HR.out.keep (hO12.then hOr)).at_ hltr hrl
          have hsc := HSC.out r hrl
          obtain ⟨PL, hPL⟩ : ∃ PL, ls[r] = PL := ⟨_, rfl⟩
          rw [hPL] at a1 e3 hSi hsc
          obtain ⟨p, hp⟩ : ∃ p, PL.length = p := ⟨_, rfl⟩
          rw [hp] at e3 hSi
          obtain ⟨pp, hpp⟩ : ∃ pp, G[r] = pp := ⟨_, rfl⟩
          rw [hpp] at e1 e2 a1 a2 a3
          obtain ⟨f, t⟩ := pp
          simp only at e1 e2 a2 a3
          have htq : t ≤ q := by have := HQ.out; omega
          obtain ⟨A2, c2, hcut, hB2, hbl⟩ := bt_mid (hBM.keep (hO2.then hOr)) a2 htq
          rw [show (M.take t).drop f = PL from a1] at hB2
          obtain ⟨n2, hn2⟩ : ∃ n2, t - f = n2 := ⟨_, rfl⟩
          rw [hn2] at hcut hB2
          have HCUT := Lib.hid hcut
          have HB2 := Lib.hid hB2.sl
          have HSI := Lib.hid hSi
          obtain ⟨tp, htp⟩ : ∃ tp, St PL = tp := ⟨_, rfl⟩
          have HTP := Lib.hid htp
          have HSEC : Hid (∀ W gg, Only [] w1 W → W.cell? ⟨gg, 0, none⟩ = some (.int .i64 ((r : Int) + 1)) → Calls Tryd.prog 11 #[.slice A3 q c3, .slice (some ⟨gg, 0, none⟩) 1 1] W fun e w' => ∃ A' c', e = .returned (.tuple #[.slice A' p c', .bool true]) ∧ Hid (Sl w' A' p (bvs PL)) ∧ Only [] W w') := fun W gg o hc => by
            have := Section_any [(r : Int) + 1] (by simp) (fun x hx => by simp at hx; subst hx; omega) W A3 q c3 M _ 1 1 (hBM.keep o) hq4 (blks_keep hG3.lt o) (pz_one hc)
            rw [hsc] at this
            refine this.mono fun e w' ⟨v, b, h1, h2, h3⟩ => ?_
            obtain ⟨h4, A', c', h5, h6⟩ := h2.out
            subst h4 h5
            exact ⟨A', c', by rw [h1, hp], by rw [← hp]; exact h6.sl, h3⟩
          have h1 : ¬ (f : Int) < 0 := by omega
          have h2 : ¬ (t : Int) < (f : Int) := by omega
          have h3 : ¬ (q : Int) < (t : Int) := by omega
          have qq : (tp.toList == tp.toList) = true := by simp
          have qn : (tp.toList != tp.toList) = false := by simp
          have hrb : (r : Int) + 1 ≤ 16 := by omega
          clear a1 a3 hsc hPL hp hpp hcut hB2 hbl hn2 htp hSi
          go_wp2_with fail
          apply region_only (by kernel_rfl) (by kernel_rfl)
          apply rel_val (hrf := Tk_refl)
          case hw => rfl
          case hy => intro wS hN hF; skip; first | (go_simp; done) | (go_simp; with_reducible rfl)
          case' hk => skip
          try simp only [Act.put, List.setIfInBounds_toArray, List.set_cons_zero, List.set_cons_succ]
          apply rel_val (hrf := Tk_refl)
          case hw => rfl
          case hy => intro wS hN hF; skip; first | (go_simp; done) | (go_simp; with_reducible rfl)
          case' hk => skip
          try simp only [Act.put, List.setIfInBounds_toArray, List.set_cons_zero, List.set_cons_succ]
          apply rel_val (hrf := Tk_refl)
          case hw => rfl
          case hy => intro wS hN hF; skip; first | (go_simp; done) | (go_simp; with_reducible rfl)
          case' hk => skip
          try simp only [Act.put, List.setIfInBounds_toArray, List.set_cons_zero, List.set_cons_succ]
          apply rel_val (hrf := Tk_refl)
          case hw => rfl
          case hy => intro wS hN hF; skip; first | (go_simp; done) | (go_simp; with_reducible rfl)
          case' hk => skip
          try simp only [Act.put, List.setIfInBounds_toArray, List.set_cons_zero, List.set_cons_succ]
          apply rel_val (hrf := Tk_refl)
          case hw => rfl
          case hy => intro wS hN hF; have hO := hN.pre (by kernel_rfl); have h0 := hO.cellSome (p := ⟨g, r * 2, none⟩) e1 (fun hm => nomatch hm); first | (go_simp; done) | (go_simp; with_reducible rfl)
          case' hk => skip
          try simp only [Act.put, List.setIfInBounds_toArray, List.set_cons_zero, List.set_cons_succ]
          apply rel_val (v := .bool false) (hrf := Tk_refl)
          case hw => rfl
          case hy =>
            intro wS hN hF
            go_simp
          case' hk => skip
          try simp only [Act.put, List.setIfInBounds_toArray, List.set_cons_zero, List.set_cons_succ]
          apply rel_val (v := .bool false) (hrf := Tk_refl)
          case hw => rfl
          case hy =>
            intro wS hN hF
            go_simp
          case' hk => skip
          try simp only [Act.put, List.setIfInBounds_toArray, List.set_cons_zero, List.set_cons_succ]
          apply rel_val (hrf := Tk_refl)
          case hw => rfl
          case hy => intro wS hN hF; skip; first | (go_simp; done) | (go_simp; with_reducible rfl)
          case' hk => skip
          try simp only [Act.put, List.setIfInBounds_toArray, List.set_cons_zero, List.set_cons_succ]
          apply rel_val (hrf := Tk_refl)
          case hw => rfl
          case hy => intro wS hN hF; skip; first | (go_simp; done) | (go_simp; with_reducible rfl)
          case' hk => skip
          try simp only [Act.put, List.setIfInBounds_toArray, List.set_cons_zero, List.set_cons_succ]
          apply rel_val (hrf := Tk_refl)
          case hw => rfl
          case hy => intro wS hN hF; skip; first | (go_simp; done) | (go_simp; with_reducible rfl)
          case' hk => skip
          try simp only [Act.put, List.setIfInBounds_toArray, List.set_cons_zero, List.set_cons_succ]
          apply rel_val (hrf := Tk_refl)
          case hw => rfl
          case hy => intro wS hN hF; skip; first | (go_simp; done) | (go_simp; with_reducible rfl)
          case' hk => skip
          try simp only [Act.put, List.setIfInBounds_toArray, List.set_cons_zero, List.set_cons_succ]
          apply rel_val (hrf := Tk_refl)
          case hw => rfl
          case hy => intro wS hN hF; have hO := hN.pre (by kernel_rfl); have h0 := hO.cellSome (p := ⟨g, r * 2, none⟩) e1 (fun hm => nomatch hm); first | (go_simp; done) | (go_simp; with_reducible rfl)
          case' hk => skip
          try simp only [Act.put, List.setIfInBounds_toArray, List.set_cons_zero, List.set_cons_succ]
          apply rel_val (hrf := Tk_refl)
          case hw => rfl
          case hy => intro wS hN hF; skip; first | (go_simp; done) | (go_simp; with_reducible rfl)
          case' hk => skip
          try simp only [Act.put, List.setIfInBounds_toArray, List.set_cons_zero, List.set_cons_succ]
          apply rel_val (hrf := Tk_refl)
          case hw => rfl
          case hy => intro wS hN hF; skip; first | (go_simp; done) | (go_simp; with_reducible rfl)
          case' hk => skip
          try simp only [Act.put, List.setIfInBounds_toArray, List.set_cons_zero, List.set_cons_succ]
          apply rel_val (hrf := Tk_refl)
          case hw => rfl
          case hy => intro wS hN hF; skip; first | (go_simp; done) | (go_simp; with_reducible rfl)
          case' hk => skip
          try simp only [Act.put, List.setIfInBounds_toArray, List.set_cons_zero, List.set_cons_succ]
          apply rel_val (hrf := Tk_refl)
          case hw => rfl
          case hy => intro wS hN hF; skip; first | (go_simp; done) | (go_simp; with_reducible rfl)
          case' hk => skip
          try simp only [Act.put, List.setIfInBounds_toArray, List.set_cons_zero, List.set_cons_succ]
          apply rel_val (hrf := Tk_refl)
          case hw => rfl
          case hy => intro wS hN hF; have hO := hN.pre (by kernel_rfl); have h1 := hO.cellSome (p := ⟨g, r * 2 + 1, none⟩) e2 (fun hm => nomatch hm); first | (go_simp; done) | (go_simp; with_reducible rfl)
          case' hk => skip
          try simp only [Act.put, List.setIfInBounds_toArray, List.set_cons_zero, List.set_cons_succ]
          apply rel_val (v := .bool false) (hrf := Tk_refl)
          case hw => rfl
          case hy =>
            intro wS hN hF
            go_simp
          case' hk => skip
          try simp only [Act.put, List.setIfInBounds_toArray, List.set_cons_zero, List.set_cons_succ]
          apply rel_val (v := .bool false) (hrf := Tk_refl)
          case hw => rfl
          case hy =>
            intro wS hN hF
            go_simp
          case' hk => skip
          try simp only [Act.put, List.setIfInBounds_toArray, List.set_cons_zero, List.set_cons_succ]
          apply rel_val (v := .bool false) (hrf := Tk_refl)
          case hw => rfl
          case hy =>
            intro wS hN hF
            go_simp
          case' hk => skip
          try simp only [Act.put, List.setIfInBounds_toArray, List.set_cons_zero, List.set_cons_succ]
          apply rel_val (hrf := Tk_refl)
          case hw => rfl
          case hy => intro wS hN hF; skip; first | (go_simp; done) | (go_simp; with_reducible rfl)
          case' hk => skip
          try simp only [Act.put, List.setIfInBounds_toArray, List.set_cons_zero, List.set_cons_succ]
          apply rel_val (hrf := Tk_refl)
          case hw => rfl
          case hy => intro wS hN hF; skip; first | (go_simp; done) | (go_simp; with_reducible rfl)
          case' hk => skip
          try simp only [Act.put, List.setIfInBounds_toArray, List.set_cons_zero, List.set_cons_succ]
          apply rel_val (hrf := Tk_refl)
          case hw => rfl
          case hy => intro wS hN hF; skip; first | (go_simp; done) | (go_simp; with_reducible rfl)
          case' hk => skip
          try simp only [Act.put, List.setIfInBounds_toArray, List.set_cons_zero, List.set_cons_succ]
          apply rel_val (hrf := Tk_refl)
          case hw => rfl
          case hy => intro wS hN hF; skip; first | (go_simp; done) | (go_simp; with_reducible rfl)
          case' hk => skip
          try simp only [Act.put, List.setIfInBounds_toArray, List.set_cons_zero, List.set_cons_succ]
          apply rel_val (hrf := Tk_refl)
          case hw => rfl
          case hy => intro wS hN hF; have hO := hN.pre (by kernel_rfl); have h1 := hO.cellSome (p := ⟨g, r * 2 + 1, none⟩) e2 (fun hm => nomatch hm); first | (go_simp; done) | (go_simp; with_reducible rfl)
          case' hk => skip
          try simp only [Act.put, List.setIfInBounds_toArray, List.set_cons_zero, List.set_cons_succ]
          apply rel_val (hrf := Tk_refl)
          case hw => rfl
          case hy => intro wS hN hF; skip; first | (go_simp; done) | (go_simp; with_reducible rfl)
          case' hk => skip
          try simp only [Act.put, List.setIfInBounds_toArray, List.set_cons_zero, List.set_cons_succ]
          apply rel_val (hrf := Tk_refl)
          case hw => rfl
          case hy => intro wS hN hF; skip; first | (go_simp; done) | (go_simp; with_reducible rfl)
          case' hk => skip
          try simp only [Act.put, List.setIfInBounds_toArray, List.set_cons_zero, List.set_cons_succ]
          apply rel_val (v := .bool false) (hrf := Tk_refl)
          case hw => rfl
          case hy =>
            intro wS hN hF
            go_simp
          case' hk => skip
          try simp only [Act.put, List.setIfInBounds_toArray, List.set_cons_zero, List.set_cons_succ]
          apply rel_val (v := .bool false) (hrf := Tk_refl)
          case hw => rfl
          case hy =>
            intro wS hN hF
            go_simp
          case' hk => skip
          try simp only [Act.put, List.setIfInBounds_toArray, List.set_cons_zero, List.set_cons_succ]
          apply rel_val (v := .bool false) (hrf := Tk_refl)
          case hw => rfl
          case hy =>
            intro wS hN hF
            go_simp
          case' hk => skip
          try simp only [Act.put, List.setIfInBounds_toArray, List.set_cons_zero, List.set_cons_succ]
          apply rel_val (hrf := Tk_refl)
          case hw => rfl
          case hy => intro wS hN hF; skip; first | (go_simp; done) | (go_simp; with_reducible rfl)
          case' hk => skip
          try simp only [Act.put, List.setIfInBounds_toArray, List.set_cons_zero, List.set_cons_succ]
          apply rel_val (hrf := Tk_refl)
          case hw => rfl
          case hy => intro wS hN hF; skip; first | (go_simp; done) | (go_simp; with_reducible rfl)
          case' hk => skip
          try simp only [Act.put, List.setIfInBounds_toArray, List.set_cons_zero, List.set_cons_succ]
          apply rel_val (hrf := Tk_refl)
          case hw => rfl
          case hy => intro wS hN hF; skip; first | (go_simp; done) | (go_simp; with_reducible rfl)
          case' hk => skip
          try simp only [Act.put, List.setIfInBounds_toArray, List.set_cons_zero, List.set_cons_succ]
          apply rel_val (hrf := Tk_refl)
          case hw => rfl
          case hy => intro wS hN hF; skip; first | (go_simp; done) | (go_simp; with_reducible rfl)
          case' hk => skip
          try simp only [Act.put, List.setIfInBounds_toArray, List.set_cons_zero, List.set_cons_succ]
          apply rel_val (hrf := Tk_refl)
          case hw => rfl
          case hy => intro wS hN hF; skip; first | (go_simp; done) | (go_simp; with_reducible rfl)
          case' hk => skip
          try simp only [Act.put, List.setIfInBounds_toArray, List.set_cons_zero, List.set_cons_succ]
          apply rel_val (hrf := Tk_refl)
          case hw => rfl
          case hy => intro wS hN hF; have hO := hN.pre (by kernel_rfl); have h0 := hO.cellSome (p := ⟨g, r * 2, none⟩) e1 (fun hm => nomatch hm); first | (go_simp; done) | (go_simp; with_reducible rfl)
          case' hk => skip
          try simp only [Act.put, List.setIfInBounds_toArray, List.set_cons_zero, List.set_cons_succ]
          apply rel_val (hrf := Tk_refl)
          case hw => rfl
          case hy => intro wS hN hF; skip; first | (go_simp; done) | (go_simp; with_reducible rfl)
          case' hk => skip
          try simp only [Act.put, List.setIfInBounds_toArray, List.set_cons_zero, List.set_cons_succ]
          apply rel_val (hrf := Tk_refl)
          case hw => rfl
          case hy => intro wS hN hF; skip; first | (go_simp; done) | (go_simp; with_reducible rfl)
          case' hk => skip
          try simp only [Act.put, List.setIfInBounds_toArray, List.set_cons_zero, List.set_cons_succ]
          apply rel_val (hrf := Tk_refl)
          case hw => rfl
          case hy => intro wS hN hF; skip; first | (go_simp; done) | (go_simp; with_reducible rfl)
          case' hk => skip
          try simp only [Act.put, List.setIfInBounds_toArray, List.set_cons_zero, List.set_cons_succ]
          apply rel_val (hrf := Tk_refl)
          case hw => rfl
          case hy => intro wS hN hF; skip; first | (go_simp; done) | (go_simp; with_reducible rfl)
          case' hk => skip
          try simp only [Act.put, List.setIfInBounds_toArray, List.set_cons_zero, List.set_cons_succ]
          apply rel_val (hrf := Tk_refl)
          case hw => rfl
          case hy => intro wS hN hF; have hO := hN.pre (by kernel_rfl); have h1 := hO.cellSome (p := ⟨g, r * 2 + 1, none⟩) e2 (fun hm => nomatch hm); first | (go_simp; done) | (go_simp; with_reducible rfl)
          case' hk => skip
          try simp only [Act.put, List.setIfInBounds_toArray, List.set_cons_zero, List.set_cons_succ]
          apply rel_val (v := .slice A2 n2 c2) (hrf := Tk_refl)
          case hw => rfl
          case hy =>
            intro wS hN hF
            have x := HCUT.out wS
            go_simp
          case' hk => skip
          try simp only [Act.put, List.setIfInBounds_toArray, List.set_cons_zero, List.set_cons_succ]
          apply rel_val (v := .string tp) (hrf := Tk_refl)
          case hw => rfl
          case hy =>
            intro wS hN hF
            have hO := hN.pre (by kernel_rfl)
            have hcv := run_str_sl (P := Tryd.prog) 24 9 5 A2 n2 c2 PL Tryd.underlying24 Tryd.underlying5 Tryd.underlying9 ((HB2.out.drew).keep hO)
            rw [HTP.out] at hcv
            go_simp
          case' hk => skip
          try simp only [Act.put, List.setIfInBounds_toArray, List.set_cons_zero, List.set_cons_succ]
          apply rel_val (hrf := Tk_refl)
          case hw => rfl
          case hy => intro wS hN hF; skip; first | (go_simp; done) | (go_simp; with_reducible rfl)
          case' hk => skip
          try simp only [Act.put, List.setIfInBounds_toArray, List.set_cons_zero, List.set_cons_succ]
          apply rel_val (hrf := Tk_refl)
          case hw => rfl
          case hy => intro wS hN hF; skip; first | (go_simp; done) | (go_simp; with_reducible rfl)
          case' hk => skip
          try simp only [Act.put, List.setIfInBounds_toArray, List.set_cons_zero, List.set_cons_succ]
          apply rel_val (hrf := Tk_refl)
          case hw => rfl
          case hy => intro wS hN hF; skip; first | (go_simp; done) | (go_simp; with_reducible rfl)
          case' hk => skip
          try simp only [Act.put, List.setIfInBounds_toArray, List.set_cons_zero, List.set_cons_succ]
          apply rel_val (hrf := Tk_refl)
          case hw => rfl
          case hy => intro wS hN hF; have hO := hN.pre (by kernel_rfl); have h3 := hO.cellSome (p := ad.add r) e3 (fun hm => nomatch hm); first | (go_simp; done) | (go_simp; with_reducible rfl)
          case' hk => skip
          try simp only [Act.put, List.setIfInBounds_toArray, List.set_cons_zero, List.set_cons_succ]
          apply rel_val (v := .string tp) (hrf := Tk_refl)
          case hw => rfl
          case hy =>
            intro wS hN hF
            have hO := hN.pre (by kernel_rfl)
            have hcv := run_str_sl (P := Tryd.prog) 24 9 5 Ai p ci PL Tryd.underlying24 Tryd.underlying5 Tryd.underlying9 ((HSI.out.drew).keep hO)
            rw [HTP.out] at hcv
            go_simp
          case' hk => skip
          try simp only [Act.put, List.setIfInBounds_toArray, List.set_cons_zero, List.set_cons_succ]
          apply rel_val (v := .bool false) (hrf := Tk_refl)
          case hw => rfl
          case hy =>
            intro wS hN hF
            go_simp
          case' hk => skip
          try simp only [Act.put, List.setIfInBounds_toArray, List.set_cons_zero, List.set_cons_succ]
          apply rel_val (v := .bool false) (hrf := Tk_refl)
          case hw => rfl
          case hy =>
            intro wS hN hF
            go_simp
          case' hk => skip
          try simp only [Act.put, List.setIfInBounds_toArray, List.set_cons_zero, List.set_cons_succ]
          refine rel_end ?_
          intro wS hO8 hF
          clear hF
          have hO8' : Only [] wr.drew wS := hO8.only
          have hOx : Only [] wr wS := (Only.refl [] wr).drew.then hO8'
          clear h1 h2 h3
          go_wp2_with (go_at_call 11; (with_reducible refine (HSEC.out _ _ (((hO2.then hOr).then hOx).then ((Only.refl [] wS).alloc _)) (lit0 _ _ _ _)).mono ?_); rintro e w6 ⟨A6, c6, rfl, HS6, hO6⟩)
          have hOr6 : Only [] wr w6 := (hOx.then ((Only.refl [] wS).alloc _)).then hO6
          have e36 := hOr6.cellSome (p := ad.add r) e3 (fun hm => nomatch hm)
          have HSI6 := Lib.hid (HSI.out.keep hOr6)
          apply region_only (by kernel_rfl) (by kernel_rfl)
          apply rel_val (hrf := Tk_refl)
          case hw => rfl
          case hy => intro wS hN hF; skip; first | (go_simp; done) | (go_simp; with_reducible rfl)
          case' hk => skip
          try simp only [Act.put, List.setIfInBounds_toArray, List.set_cons_zero, List.set_cons_succ]
          apply rel_val (v := .bool false) (hrf := Tk_refl)
          case hw => rfl
          case hy =>
            intro wS hN hF
            go_simp
          case' hk => skip
          try simp only [Act.put, List.setIfInBounds_toArray, List.set_cons_zero, List.set_cons_succ]
          apply rel_val (v := .bool false) (hrf := Tk_refl)
          case hw => rfl
          case hy =>
            intro wS hN hF
            go_simp
          case' hk => skip
          try simp only [Act.put, List.setIfInBounds_toArray, List.set_cons_zero, List.set_cons_succ]
          apply rel_val (hrf := Tk_refl)
          case hw => rfl
          case hy => intro wS hN hF; skip; first | (go_simp; done) | (go_simp; with_reducible rfl)
          case' hk => skip
          try simp only [Act.put, List.setIfInBounds_toArray, List.set_cons_zero, List.set_cons_succ]
          apply rel_val (v := .string tp) (hrf := Tk_refl)
          case hw => rfl
          case hy =>
            intro wS hN hF
            have hO := hN.pre (by kernel_rfl)
            have hcv := run_str_sl (P := Tryd.prog) 24 9 5 A6 p c6 PL Tryd.underlying24 Tryd.underlying5 Tryd.underlying9 ((HS6.out.drew).keep hO)
            rw [HTP.out] at hcv
            go_simp
          case' hk => skip
          try simp only [Act.put, List.setIfInBounds_toArray, List.set_cons_zero, List.set_cons_succ]
          apply rel_val (hrf := Tk_refl)
          case hw => rfl
          case hy => intro wS hN hF; skip; first | (go_simp; done) | (go_simp; with_reducible rfl)
          case' hk => skip
          try simp only [Act.put, List.setIfInBounds_toArray, List.set_cons_zero, List.set_cons_succ]
          apply rel_val (hrf := Tk_refl)
          case hw => rfl
          case hy => intro wS hN hF; skip; first | (go_simp; done) | (go_simp; with_reducible rfl)
          case' hk => skip
          try simp only [Act.put, List.setIfInBounds_toArray, List.set_cons_zero, List.set_cons_succ]
          apply rel_val (hrf := Tk_refl)
          case hw => rfl
          case hy => intro wS hN hF; skip; first | (go_simp; done) | (go_simp; with_reducible rfl)
          case' hk => skip
          try simp only [Act.put, List.setIfInBounds_toArray, List.set_cons_zero, List.set_cons_succ]
          apply rel_val (hrf := Tk_refl)
          case hw => rfl
          case hy => intro wS hN hF; have hO := hN.pre (by kernel_rfl); have h3 := hO.cellSome (p := ad.add r) e36 (fun hm => nomatch hm); first | (go_simp; done) | (go_simp; with_reducible rfl)
          case' hk => skip
          try simp only [Act.put, List.setIfInBounds_toArray, List.set_cons_zero, List.set_cons_succ]
          apply rel_val (v := .string tp) (hrf := Tk_refl)
          case hw => rfl
          case hy =>
            intro wS hN hF
            have hO := hN.pre (by kernel_rfl)
            have hcv := run_str_sl (P := Tryd.prog) 24 9 5 Ai p ci PL Tryd.underlying24 Tryd.underlying5 Tryd.underlying9 ((HSI6.out.drew).keep hO)
            rw [HTP.out] at hcv
            go_simp
          case' hk => skip
          try simp only [Act.put, List.setIfInBounds_toArray, List.set_cons_zero, List.set_cons_succ]
          apply rel_val (v := .bool false) (hrf := Tk_refl)
          case hw => rfl
          case hy =>
            intro wS hN hF
            go_simp
          case' hk => skip
          try simp only [Act.put, List.setIfInBounds_toArray, List.set_cons_zero, List.set_cons_succ]
          apply rel_val (v := .bool false) (hrf := Tk_refl)
          case hw => rfl
          case hy =>
            intro wS hN hF
            go_simp
          case' hk => skip
          try simp only [Act.put, List.setIfInBounds_toArray, List.set_cons_zero, List.set_cons_succ]
          refine rel_end ?_
          intro wS2 hO9 hF2
          clear hF2
          have hO9' : Only [] w6.drew wS2 := hO9.only
          go_wp2_with fail
          go_roundw
          case rel => exact ⟨r + 1, by omega, by go_num, (hOr.then hOr6).drew.then hO9'⟩
          case measure => simp [intOf]; omega
        · obtain rfl : r = k := by omega
          have hOe := hO12.then hOr
          rcases Nat.eq_zero_or_pos r with h0 | h0
          · have hls : ls = [] := List.eq_nil_of_length_eq_zero (by rw [HRL.out]; exact h0)
            have hsc := HSE.out hls
            have HSEC : Hid (∀ W gg, Only [] w1 W → W.cell? ⟨gg, 0, none⟩ = some (.int .i64 1) → Calls Tryd.prog 11 #[.slice A3 q c3, .slice (some ⟨gg, 0, none⟩) 1 1] W fun e w' => ∃ v, e = .returned (.tuple #[v, .bool true]) ∧ Only [] W w') := fun W gg o hc => by
              have := Section_any [1] (by simp) (fun x hx => by simp at hx; subst hx; omega) W A3 q c3 M _ 1 1 (hBM.keep o) hq4 (blks_keep hG3.lt o) (pz_one hc)
              rw [hsc] at this
              refine this.mono fun e w' ⟨v, b, h1, h2, h3⟩ => ?_
              obtain ⟨h4, A', c', h5, h6⟩ := h2.out
              subst h4 h5
              exact ⟨_, h1, h3⟩
            subst h0
            clear hsc hls
            go_wp2_with first
              | (go_at_call 11; (with_reducible refine (HSEC.out _ _ ((hO2.then hOr).then ((Only.refl [] wr).alloc _)) (lit0 _ _ _ _)).mono ?_); rintro e w6 ⟨v6, rfl, hO6⟩)
              | (go_at_call 12; (with_reducible refine (known_any _).mono ?_); rintro e w9 ⟨rfl, hO9⟩)
            go_ret
            exact ⟨rfl, ((hOe.then ((Only.refl [] wr).alloc _)).then hO6).then hO9⟩
          · have hls : ls ≠ [] := fun e => by have := HRL.out; rw [e] at this; simp at this; omega
            have hsc := HSN.out hls
            have hrb : (r : Int) + 1 ≤ 17 := by omega
            have hr0 : ((r : Int) == 0) = false := by rw [beq_eq_false_iff_ne]; omega
            have HSEC : Hid (∀ W gg, Only [] w1 W → W.cell? ⟨gg, 0, none⟩ = some (.int .i64 ((r : Int) + 1)) → Calls Tryd.prog 11 #[.slice A3 q c3, .slice (some ⟨gg, 0, none⟩) 1 1] W fun e w' => ∃ v, e = .returned (.tuple #[v, .bool false]) ∧ Only [] W w') := fun W gg o hc => by
              have := Section_any [(r : Int) + 1] (by simp) (fun x hx => by simp at hx; subst hx; omega) W A3 q c3 M _ 1 1 (hBM.keep o) hq4 (blks_keep hG3.lt o) (pz_one hc)
              rw [hsc] at this
              refine this.mono fun e w' ⟨v, b, h1, h2, h3⟩ => ?_
              obtain ⟨h4, h5⟩ := h2.out
              subst h4 h5
              exact ⟨_, h1, h3⟩
            clear hsc hls
            go_wp2_with first
              | (go_at_call 11; (with_reducible refine (HSEC.out _ _ ((hO2.then hOr).then ((Only.refl [] wr).alloc _)) (lit0 _ _ _ _)).mono ?_); rintro e w6 ⟨v6, rfl, hO6⟩)
              | (go_at_call 12; (with_reducible refine (known_any _).mono ?_); rintro e w9 ⟨rfl, hO9⟩)
            go_ret
            exact ⟨rfl, ((hOe.then ((Only.refl [] wr).alloc _)).then hO6).then hO9⟩
end Go.Proofs.YtakehogenioobaaDoor
