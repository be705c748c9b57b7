/-
  LexTells.
-/
import Derived.Test.YtbbgdcnnacakjaaDoorYRefS
import Derived.Test.YtbbgdcnnacakjaaDoorYLitsM
namespace Go.Proofs.YtbbgdcnnacakjaaDoor
open Go.RowKit Go.Instr

def tokG (G : Except Int (List Tkn)) : List Tkn := match G with
  | .error _ => []
  | .ok T => T
def errG (G : Except Int (List Tkn)) : Int := match G with
  | .error x => x
  | .ok _ => 0
section
variable {w w' : World} {G : Except Int (List Tkn)} {e : Ending}
theorem gr_none : Gr 2 w' none 0 (gx tkl []) := ⟨rfl, fun h => absurd h (by omega)⟩
theorem lexr_uni (h : LexR w G e w') : ∃ A c, e = .returned (.tuple #[.slice A (tokG G).length c, .int .i64 (errG G)]) ∧ Only [] w w' ∧ Gr 2 w' A (tokG G).length (gx tkl (tokG G)) := by
  obtain ⟨hO, h⟩ := h
  cases G with
  | error x => exact ⟨none, 0, h, hO, gr_none⟩
  | ok T =>
    obtain ⟨A, c, he, hg, _⟩ := h
    exact ⟨A, c, he, hO, hg.reads⟩
theorem linep_uni (h : LineP w G e w') : ∃ A c, e = .returned (.tuple #[.slice A (tokG G).length c, .int .i64 (errG G)]) ∧ Only [] w w' ∧ Gr 2 w' A (tokG G).length (gx tkl (tokG G)) ∧ (tokG G).length ≤ 64 := by
  obtain ⟨hO, h⟩ := h
  cases G with
  | error x => exact ⟨none, 0, h, hO, gr_none, Nat.zero_le _⟩
  | ok T =>
    obtain ⟨A, c, he, hg, _, hl⟩ := h
    exact ⟨A, c, he, hO, hg.reads, hl⟩
end
theorem txt_eq {a b : ByteArray} (h : a.data.toList = b.data.toList) : a = b := ByteArray.ext (Array.toList_inj.1 h)
section
variable {w : World} {A B : Option Addr} {n c m d : Nat} {ls bs : List (List UInt8)}
set_option maxRecDepth 100000 in
set_option maxHeartbeats 8000000 in
theorem lextells_any (hs : Rb w A n ls) (hb : Rb w B m bs) (s : ByteArray) (hM : MaxL w) (hn : n ≤ 140737488351232) (hm : m ≤ 140737488351232) (hl : ∀ l ∈ ls, l.length ≤ 140737488351232) (hsz : s.size ≤ 140737488351232) :
    Calls Tryd.prog 3 #[.slice A n c, .slice B m d, .string s] w fun e w' => e = .returned (.bool true) ∧ Only [] w w' := by
  have HL1 := Lib.hid (long_any (c := c) hs (by omega))
  have HL2 := Lib.hid (long_any (c := d) hb (by omega))
  have HS := Lib.hid hs
  have HNL := Lib.hid hs.len
  have HL := Lib.hid hl
  have HM := Lib.hid hM
  obtain ⟨G, hG⟩ : ∃ G, lexL ls bs = G := ⟨_, rfl⟩
  have hX := Lex_any (lc := c) (bc := d) hs hb (by omega) (by omega) (fun l h => by have := hl l h; omega)
  have hY := fun W (o : Only [] w W) => refLex_any (lc := c) (bc := d) (hs.keep o) (hb.keep o) (by omega) (by omega) (fun l h => by have := hl l h; omega)
  rw [hG] at hX hY
  obtain ⟨T, hT⟩ : ∃ T, tokG G = T := ⟨_, rfl⟩
  obtain ⟨p, hp⟩ : ∃ p, T.length = p := ⟨_, rfl⟩
  obtain ⟨x, hx⟩ : ∃ x, errG G = x := ⟨_, rfl⟩
  have HX : Hid (Calls Tryd.prog 10 #[.slice A n c, .slice B m d] w fun e w' => ∃ A' c', e = .returned (.tuple #[.slice A' p c', .int .i64 x]) ∧ Only [] w w' ∧ Gr 2 w' A' p (gx tkl T)) := hX.mono fun e w' h => by
    have := lexr_uni h
    rwa [hT, hp, hx] at this
  have HY : Hid (∀ W, Only [] w W → Calls Tryd.prog 11 #[.slice A n c, .slice B m d] W fun e w' => ∃ A' c', e = .returned (.tuple #[.slice A' p c', .int .i64 x]) ∧ Only [] W w' ∧ Gr 2 w' A' p (gx tkl T) ∧ p ≤ 64) := fun W o => (hY W o).mono fun e w' h => by
    have := linep_uni h
    rwa [hT, hp, hx] at this
  have HP := Lib.hid hp
  clear hs hb hM hl hX hY hG hT hp hx
  go_enter Tryd.func3, Tryd.ntmps3
  by_cases h5 : 500 < s.size
  · have h5' : (500 : Int) < (s.size : Int) := by omega
    go_wp2_with first
      | (go_at_call 9; (with_reducible refine HL1.out.mono ?_); rintro e w2 ⟨⟨b, rfl⟩, rfl⟩; cases b)
      | (go_at_call 9; (with_reducible refine HL2.out.mono ?_); rintro e w2 ⟨⟨b, rfl⟩, rfl⟩; cases b)
    all_goals go_ret
    all_goals exact ⟨rfl, Only.refl _ _⟩
  have h5' : ¬ (500 : Int) < (s.size : Int) := by omega
  have hs5 : s.size ≤ 500 := by omega
  go_wp2_with first
    | (go_at_call 9; (with_reducible refine HL1.out.mono ?_); rintro e w2 ⟨⟨b, rfl⟩, rfl⟩; cases b)
    | (go_at_call 9; (with_reducible refine HL2.out.mono ?_); rintro e w2 ⟨⟨b, rfl⟩, rfl⟩; cases b)
    | (go_at_call 10; (with_reducible refine HX.out.mono ?_); rintro e w3 ⟨A3, c3, rfl, O3, hg3⟩; have HO3 := Lib.hid O3; have HG3 := Lib.hid hg3; clear O3 hg3)
    | (go_at_call 11; (with_reducible refine (HY.out _ HO3.out).mono ?_); rintro e w4 ⟨A4, c4, rfl, O4, hg4, hp64⟩; have HO4 := Lib.hid O4; have HG4 := Lib.hid hg4; clear O4 hg4)
  rotate_left
  · go_ret
    exact ⟨rfl, Only.refl _ _⟩
  · go_ret
    exact ⟨rfl, Only.refl _ _⟩
  clear HX HY
  go_loopw [11] (fun iv wr => Only [] w4 wr ∧ ∃ k : Nat, iv = .int .i64 (k : Int) ∧ k ≤ n) (fun iv _ => n - (intOf iv).toNat)
  case atStart => exact ⟨Only.refl _ _, 0, rfl, by omega⟩
  case round =>
    obtain ⟨hO, k, rfl, hk⟩ := hrel
    have HO := Lib.hid hO
    have HOW : Hid (Only [] w wr) := (HO3.out.then HO4.out).then hO
    clear hO
    by_cases hlt : k < n
    · have hlt' : (k : Int) < (n : Int) := by omega
      have hkl : k < ls.length := by rw [HNL.out]; exact hlt
      obtain ⟨ad, Ai, ci, rfl, c1w, b1⟩ := HS.out.at_ hlt hkl
      have c1 := HOW.out.cellSome c1w (fun h => nomatch h)
      have hll := HL.out _ (List.getElem_mem hkl)
      have hW := Wants_any (b1.keep HOW.out) (by omega)
      have hR := fun W (o : Only [] w W) => refWants_any (b1.keep o) (by omega)
      have hc := fun W (o : Only [] w W) => o.cellSome c1w (fun h => nomatch h)
      obtain ⟨y, hy⟩ : ∃ y, ls[k].length = y := ⟨_, rfl⟩
      obtain ⟨o, ho⟩ : ∃ o, wantL ls[k] = o := ⟨_, rfl⟩
      rw [hy] at c1 hW
      rw [ho] at hW
      have HC : Hid (∀ W, Only [] w W → W.cell? (ad.add k) = some (.slice Ai y ci)) := fun W o => by have := hc W o; rwa [hy] at this
      have HR : Hid (∀ W, Only [] w W → Calls Tryd.prog 13 #[.slice Ai y ci] W fun e w' => e = .returned (numO o) ∧ W = w') := fun W o => by have := hR W o; rwa [hy, ho] at this
      have HQ : Hid (∃ k' : Nat, Value.int .i64 ((k : Int) + 1) = .int .i64 (k' : Int) ∧ k' ≤ n) := ⟨k + 1, by simp, by omega⟩
      have HMS : Hid (n - (intOf (.int .i64 ((k : Int) + 1))).toNat < n - (intOf (.int .i64 (k : Int))).toNat) := by
        show n - ((k : Int) + 1).toNat < n - (k : Int).toNat
        omega
      clear c1w b1 hll hR hc hy ho
      cases o with
      | none =>
        simp only [numO] at hW HR
        go_wp2_with first
          | (go_at_call 12; (with_reducible refine hW.mono ?_); rintro e w5 ⟨rfl, O5⟩; have hc5 := HC.out _ (HOW.out.then O5))
          | (go_at_call 13; (with_reducible refine (HR.out _ (HOW.out.then O5)).mono ?_); rintro e w6 ⟨rfl, rfl⟩)
        exact ⟨⟨HO.out.then O5, HQ.out⟩, HMS.out⟩
      | some z =>
        simp only [numO] at hW HR
        have hzz : ((z : Int) != (z : Int)) = false := by simp
        go_wp2_with first
          | (go_at_call 12; (with_reducible refine hW.mono ?_); rintro e w5 ⟨rfl, O5⟩; have hc5 := HC.out _ (HOW.out.then O5))
          | (go_at_call 13; (with_reducible refine (HR.out _ (HOW.out.then O5)).mono ?_); rintro e w6 ⟨rfl, rfl⟩)
        exact ⟨⟨HO.out.then O5, HQ.out⟩, HMS.out⟩
    · obtain rfl : k = n := by omega
      have hkk : ¬ (k : Int) < (k : Int) := by omega
      have HSM : Hid (Calls Tryd.prog 14 #[.slice A3 p c3, .slice A4 p c4] wr fun e w' => e = .returned (.bool true) ∧ Only [] wr w') := same_any (HG3.out.keep (HO4.out.then HO.out)) (HG4.out.keep HO.out) HP.out hp64
      have hxx : (x == x) = true := by simp
      go_wp2_with first
        | (go_at_call 14; (with_reducible refine HSM.out.mono ?_); rintro e w5 ⟨rfl, O5⟩)
        | (go_at_call 15; refine (Quote_any s _ (HM.out.keep (HOW.out.then O5)) (by omega)).mono ?_; rintro e w6 ⟨t1, rfl, E1, z1, O6⟩)
        | (go_at_call 16; refine (refQuote_any s _ hs5).mono ?_; rintro e w7 ⟨t2, rfl, E2, rfl⟩; obtain rfl : t2 = t1 := txt_eq (E2.out.trans E1.out.symm))
        | (go_at_call 17; refine (known_any _).mono ?_; rintro e w8 ⟨rfl, O8⟩)
      go_ret
      exact ⟨rfl, ((HOW.out.then O5).then O6).then O8⟩
end
end Go.Proofs.YtbbgdcnnacakjaaDoor
