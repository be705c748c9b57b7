/-
  mime.Section.
-/
import Derived.Test.YtakehogenioobaaDoorMCount
namespace Go.Proofs.YtakehogenioobaaDoor
open Go.RowKit Go.Instr

/-- A path. -/
def ivs (q : List Int) : List Value := q.map (Value.int .i64)
theorem ivs_len (q : List Int) : (ivs q).length = q.length := by simp [ivs]
structure Pz (w : World) (A : Option Addr) (n c : Nat) (q : List Int) : Prop where
  sl : Sl w A n (ivs q)
  cap : n ≤ c
  nil : A = none → c = 0
theorem Pz.only {w w' : World} {A : Option Addr} {n c : Nat} {q : List Int} {rs : List Nat} (h : Pz w A n c q) (o : Only rs w w') (hd : ∀ x ∈ blks A, x ∉ rs) : Pz w' A n c q :=
  ⟨h.sl.only o (fun ad e => hd _ (by rw [e]; simp)), h.cap, h.nil⟩
theorem Pz.keep {w w' : World} {A : Option Addr} {n c : Nat} {q : List Int} (h : Pz w A n c q) (o : Only [] w w') : Pz w' A n c q := h.only o (fun _ _ hm => nomatch hm)
theorem Pz.len {w : World} {A : Option Addr} {n c : Nat} {q : List Int} (h : Pz w A n c q) : q.length = n := by
  have := h.sl.len
  rwa [ivs_len] at this
theorem pz_tail {w : World} {A : Option Addr} {n c : Nat} {x : Int} {q : List Int} (h : Pz w A n c (x :: q)) : ∃ ad A2 c2, A = some ad ∧ w.cell? ad = some (.int .i64 x) ∧ (∀ W, (Instr.slice 32 (.slice A n c) (some (.int .i64 1)) none none).run Tryd.prog W = .ok (.slice A2 (n - 1) c2) W) ∧ Pz w A2 (n - 1) c2 q := by
  have hl := h.len
  have hcap := h.cap
  have hn : 0 < n := by rw [← hl]; simp
  obtain ⟨ad, rfl, hc⟩ := h.sl.2 hn
  have h0 : w.cell? ad = some (.int .i64 x) := by
    have := hc 0 (.int .i64 x) rfl
    rwa [add_zero] at this
  have hcut := h.sl.cut (k := 1) (by omega) hcap
  refine ⟨ad, if c = 1 then some ad else some (ad.add 1), c - 1, rfl, h0, fun W => ?_, ⟨?_, by omega, fun e => ?_⟩⟩
  · have h1 : (1 : Int) ≤ (n : Int) := by omega
    have h2 : (1 : Int) ≤ (c : Int) := by omega
    by_cases hc1 : c = 1
    · subst hc1
      obtain rfl : n = 1 := by omega
      go_simp
    · have hc2 : ¬ (c : Int) = 1 := by omega
      go_simp
  · have e : (ivs (x :: q)).drop 1 = ivs q := rfl
    rw [e] at hcut
    split <;> rename_i hc1
    · rw [if_pos hc1] at hcut; exact hcut
    · rw [if_neg hc1] at hcut; exact hcut
  · split at e <;> cases e
/-- What Section answers: bytes in a row of the call's own, or nothing. -/
def SecV (R : Option (List UInt8)) (w' : World) (v : Value) (b : Bool) : Prop :=
  match R with
  | some l => b = true ∧ ∃ A' c', v = .slice A' l.length c' ∧ Own w' 5 A' l.length c' (bvs l)
  | none => b = false ∧ v = .slice none 0 0
def Sect (w : World) (R : Option (List UInt8)) (e : Ending) (w' : World) : Prop := ∃ v b, e = .returned (.tuple #[v, .bool b]) ∧ Hid (SecV R w' v b) ∧ Only [] w w'
set_option maxRecDepth 100000 in
set_option maxHeartbeats 2000000 in
theorem Section_any : ∀ (q : List Int), q.length ≤ 4 → (∀ x ∈ q, -1000000 ≤ x ∧ x ≤ 1000000) → ∀ (w : World) (A : Option Addr) (n c : Nat) (l : List UInt8) (AQ : Option Addr) (nq cq : Nat), Bt w A n c l → n ≤ 4096 → (∀ x ∈ blks A, x < w.heap.size) → Pz w AQ nq cq q →
    Calls Tryd.prog 11 #[.slice A n c, .slice AQ nq cq] w (Sect w (sec q l))
  | [], _, _, w, A, n, c, l, AQ, nq, cq, hs, hbig, hA, hq => by
    obtain rfl : nq = 0 := hq.len.symm
    have hnl := hs.len
    have cC := clone_any (w := w) c hs.sl (by omega)
    show Calls _ _ _ _ (Sect w (some l))
    clear hq hs hA
    go_enter Tryd.func11, Tryd.ntmps11
    go_wp2_with (go_at_call 17; (with_reducible refine cC.mono ?_); rintro e w1 ⟨A2, c2, rfl, hV, hO, _⟩)
    go_ret2
    refine ⟨_, true, rfl, ⟨rfl, A2, c2, ?_, ?_⟩, hO⟩
    · rw [hnl]; rfl
    · rw [hnl]; exact hV
  | x :: r, hq4, hqb, w, A, n, c, l, AQ, nq, cq, hs, hbig, hA, hq => by
    have hx := hqb x (by simp)
    have ih := fun w1 A1 n1 c1 l1 A2 n2 c2 => Section_any r (by simp at hq4; omega) (fun y hy => hqb y (by simp [hy])) w1 A1 n1 c1 l1 A2 n2 c2
    have hql := hq.len
    rw [List.length_cons] at hql hq4
    obtain ⟨ad, AR, cR, rfl, hc0, hcut, hR⟩ := pz_tail hq
    obtain ⟨nr, rfl⟩ : ∃ nr, nq = nr + 1 := ⟨nq - 1, by omega⟩
    rw [Nat.add_sub_cancel] at hcut hR
    have hnr : r.length = nr := by omega
    have hnq0 : (((nr + 1 : Nat) : Int) == 0) = false := by rw [beq_eq_false_iff_ne]; omega
    have hnq4 : ((nr + 1 : Nat) : Int) ≤ 4 := by omega
    have hnqp : (0 : Int) < ((nr + 1 : Nat) : Int) := by omega
    have hsec : sec (x :: r) l = if parts l = [] ∧ x = 1 ∧ r = [] then some (l.drop (hd l)) else if x < 1 ∨ ((parts l).length : Int) < x then none else sec r (subB l ((parts l).getD (x.toNat - 1) (0, 0))) := by rw [sec]
    have cP0 := Parts_any hs hbig hA
    have hord := parts_ord l
    have hmost := parts_most l
    have hnl := hs.len
    obtain ⟨G, hG⟩ : ∃ G, parts l = G := ⟨_, rfl⟩
    rw [hG] at cP0 hord hmost hsec
    obtain ⟨m, hm⟩ : ∃ m, G.length = m := ⟨_, rfl⟩
    have cP : Calls Tryd.prog 10 #[.slice A n c] w.drew fun e w' => ∃ A' c', e = .returned (.slice A' m c') ∧ Hid (Pt w' A' m c' G) ∧ Only [] w w' := by
      have := Parts_any (hs.keep ((Only.refl [] w).drew)) hbig (w := w.drew) hA
      rw [hG] at this
      exact this.mono fun e w' ⟨A', c', h1, h2, h3, _⟩ => ⟨A', c', by rw [h1, hm], by rw [← hm]; exact h2, ((Only.refl [] w).drew).then h3⟩
    have cB := fun w1 (o : Only [] w w1) => Body_any (hs.keep o) (by omega) (blks_keep hA o)
    rw [hsec]
    have HM := Lib.hid hm
    have HR := Lib.hid hR
    have HBT := Lib.hid hs
    have HORD := Lib.hid hord
    have HNL := Lib.hid hnl
    clear cP0 hsec hG hord hs hq hR hqb hql hnl
    by_cases hG0 : G = []
    · subst hG0
      obtain rfl : m = 0 := HM.out.symm
      by_cases hx1 : x = 1
      · subst hx1
        cases r with
        | nil =>
          obtain rfl : nr = 0 := hnr.symm
          rw [if_pos ⟨rfl, rfl, rfl⟩]
          obtain ⟨bd, hbd⟩ : ∃ bd, l.drop (hd l) = bd := ⟨_, rfl⟩
          rw [hbd] at cB
          rw [hbd]
          clear ih hnr hbd
          go_enter Tryd.func11, Tryd.ntmps11
          go_wp2_with fail
          go_region
          go_wp2_with first
            | (go_at_call 10; (with_reducible refine cP.mono ?_); rintro e w1 ⟨A', c', rfl, hP, hO⟩)
            | (go_at_call 18; (with_reducible refine (cB _ hO).mono ?_); rintro e w2 ⟨A2, c2, rfl, hV, hO2, _⟩)
          go_ret2
          exact ⟨_, true, rfl, ⟨rfl, A2, c2, rfl, hV⟩, hO.then hO2⟩
        | cons y r2 =>
          have hnr0 : ((nr : Int) == 0) = false := by rw [beq_eq_false_iff_ne]; rw [← hnr]; simp; omega
          rw [if_neg (by simp), if_pos (.inr (by simp))]
          clear ih hnr cB
          go_enter Tryd.func11, Tryd.ntmps11
          go_wp2_with fail
          go_region
          go_wp2_with (go_at_call 10; (with_reducible refine cP.mono ?_); rintro e w1 ⟨A', c', rfl, hP, hO⟩)
          go_ret2
          exact ⟨_, false, rfl, ⟨rfl, rfl⟩, hO⟩
      · have hxb : (x == 1) = false := by rw [beq_eq_false_iff_ne]; exact hx1
        rw [if_neg (fun h => hx1 h.2.1), if_pos (by simp; omega)]
        clear ih cB
        by_cases hxl : x < 1
        · clear hx1
          go_enter Tryd.func11, Tryd.ntmps11
          go_wp2_with fail
          go_region
          go_wp2_with (go_at_call 10; (with_reducible refine cP.mono ?_); rintro e w1 ⟨A', c', rfl, hP, hO⟩)
          go_ret2
          exact ⟨_, false, rfl, ⟨rfl, rfl⟩, hO⟩
        · have hxp : 0 < x := by omega
          clear hx1
          go_enter Tryd.func11, Tryd.ntmps11
          go_wp2_with fail
          go_region
          go_wp2_with (go_at_call 10; (with_reducible refine cP.mono ?_); rintro e w1 ⟨A', c', rfl, hP, hO⟩)
          go_ret2
          exact ⟨_, false, rfl, ⟨rfl, rfl⟩, hO⟩
    · have hmp : 0 < m := by
        rw [← HM.out]
        exact List.length_pos_iff.2 hG0
      have hm0 : ((m : Int) == 0) = false := by rw [beq_eq_false_iff_ne]; omega
      rw [if_neg (fun h => hG0 h.1)]
      by_cases hxl : x < 1
      · rw [if_pos (.inl hxl)]
        clear ih cB hG0
        go_enter Tryd.func11, Tryd.ntmps11
        go_wp2_with fail
        go_region
        go_wp2_with (go_at_call 10; (with_reducible refine cP.mono ?_); rintro e w1 ⟨A', c', rfl, hP, hO⟩)
        go_ret2
        exact ⟨_, false, rfl, ⟨rfl, rfl⟩, hO⟩
      · by_cases hxm : (m : Int) < x
        · rw [if_pos (.inr (by rw [HM.out]; exact hxm))]
          clear ih cB hG0
          go_enter Tryd.func11, Tryd.ntmps11
          go_wp2_with fail
          go_region
          go_wp2_with (go_at_call 10; (with_reducible refine cP.mono ?_); rintro e w1 ⟨A', c', rfl, hP, hO⟩)
          go_ret2
          exact ⟨_, false, rfl, ⟨rfl, rfl⟩, hO⟩
        · rw [if_neg (by rw [HM.out]; rintro (h | h); exact hxl h; exact hxm h)]
          obtain ⟨k, hk⟩ : ∃ k : Nat, x = (k : Int) + 1 := ⟨x.toNat - 1, by omega⟩
          subst hk
          have hkm : k < m := by omega
          have hkG : k < G.length := by rw [HM.out]; exact hkm
          have hkm' : (k : Int) < (m : Int) := by omega
          have hk1 : ((k : Int) + 1).toNat - 1 = k := by omega
          rw [hk1, show G.getD k (0, 0) = G[k] by simp [List.getD, hkG]]
          have hog := Ord.get HORD.out (i := k) (p := G[k]) (List.getElem?_eq_getElem hkG)
          have hPc : ∀ W A' c', Pt W A' m c' G → ∃ g, A' = some ⟨g, 0, none⟩ ∧ W.cell? ⟨g, k * 2, none⟩ = some (.int .i64 (G[k].1 : Int)) ∧ W.cell? ⟨g, k * 2 + 1, none⟩ = some (.int .i64 (G[k].2 : Int)) := fun W A' c' h => h.at_ hkm hkG
          obtain ⟨p, hp⟩ : ∃ p, G[k] = p := ⟨_, rfl⟩
          rw [hp] at hog hPc ⊢
          obtain ⟨f, t⟩ := p
          simp only at hog hPc
          have cB2 := fun w2 (o : Only [] w w2) => bytesOf_any ((HBT.out).keep o) f t hog.2.1 (by have := HNL.out; omega)
          have hlen := HNL.out
          have ih2 := fun w2 A2 c2 h1 h3 h4 => ih w2 A2 (t - f) c2 (subB l (f, t)) AR nr cR h1 (by omega) h3 h4
          obtain ⟨R, hR⟩ : ∃ R, sec r (subB l (f, t)) = R := ⟨_, rfl⟩
          rw [hR] at ih2
          rw [hR]
          obtain ⟨n1, hn1⟩ : ∃ n1, t - f = n1 := ⟨_, rfl⟩
          rw [hn1] at cB2 ih2
          unfold pv at cB2
          clear hp hR hn1 ih cB hG0 hlen hxl hk1
          go_enter Tryd.func11, Tryd.ntmps11
          go_wp2_with fail
          go_region
          go_wp2_with first
            | (go_at_call 10; (with_reducible refine cP.mono ?_); rintro e w1 ⟨A', c', rfl, hP, hO⟩; obtain ⟨g, rfl, e1, e2⟩ := hPc _ _ _ hP.out)
            | (go_at_call 19; (with_reducible refine (cB2 _ hO).mono ?_); rintro e w2 ⟨A2, c2, rfl, hO2, hB2, hbl⟩; have hA2 : ∀ x ∈ blks A2, x < w2.heap.size := (fun x hx => by rw [hbl] at hx; exact Nat.lt_of_lt_of_le (hA x hx) (hO.then hO2).size))
            | (go_at_call 11; (with_reducible refine (ih2 _ _ _ hB2 hA2 (HR.out.keep (hO.then hO2))).mono ?_); rintro e w3 ⟨v, b, rfl, hE, hO3⟩)
          go_ret2
          exact ⟨v, b, rfl, hE, (hO.then hO2).then hO3⟩
end Go.Proofs.YtakehogenioobaaDoor
