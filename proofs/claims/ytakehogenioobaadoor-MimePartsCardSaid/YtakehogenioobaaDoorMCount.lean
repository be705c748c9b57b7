/-
  mime.Count; the laws' known.
-/
import Derived.Test.YtakehogenioobaaDoorMParts
import Derived.Test.YtakehogenioobaaDoorMMsg
namespace Go.Proofs.YtakehogenioobaaDoor
open Go.RowKit Go.Instr

theorem sum_take {G : List (Nat × Nat)} {f : Nat × Nat → Nat} {k : Nat} (h : k < G.length) : ((G.take (k + 1)).map f).sum = ((G.take k).map f).sum + f G[k] := by
  rw [List.take_succ_eq_append_getElem h, List.map_append, List.sum_append]
  simp
section
set_option maxRecDepth 100000 in
set_option maxHeartbeats 2000000 in
theorem countAt_any : ∀ (D d : Nat), d + D = 4 → ∀ (w : World) (A : Option Addr) (n c : Nat) (l : List UInt8), Bt w A n c l → n ≤ 4096 → (∀ x ∈ blks A, x < w.heap.size) →
    Calls Tryd.prog 20 #[.int .i64 (d : Int), .slice A n c] w fun e w' => e = .returned (.int .i64 (cnt D l : Nat)) ∧ Only [] w w'
  | 0, d, hd, w, A, n, c, l, _, _, _ => by
    obtain rfl : d = 4 := by omega
    go_enter Tryd.func20, Tryd.ntmps20
    go_wp2_with fail
    go_ret
    exact ⟨rfl, Only.refl _ _⟩
  | D + 1, d, hd, w, A, n, c, l, hs, hbig, hA => by
    have hd4 : ((d : Int) == 4) = false := by rw [beq_eq_false_iff_ne]; omega
    have hd5 : (d : Int) ≤ 4 := by omega
    have hnl := hs.len
    have ih := fun w1 A1 n1 c1 l1 => countAt_any D (d + 1) (by omega) w1 A1 n1 c1 l1
    have cP := Parts_any hs hbig hA
    have hord := parts_ord l
    have hmost := parts_most l
    have hcnt : cnt (D + 1) l = if parts l = [] then 1 else ((parts l).map fun p => cnt D (subB l p)).sum := rfl
    obtain ⟨G, hG⟩ : ∃ G, parts l = G := ⟨_, rfl⟩
    rw [hG] at cP hord hmost hcnt
    rw [hcnt]
    obtain ⟨m, hm⟩ : ∃ m, G.length = m := ⟨_, rfl⟩
    have hbound : ∀ k, ((G.take k).map fun p => cnt D (subB l p)).sum ≤ 16 * 16 ^ D := fun k => by
      have h1 := sum_le (l := (G.take k).map fun p => cnt D (subB l p)) (m := 16 ^ D) (fun x hx => by
        obtain ⟨p, _, rfl⟩ := List.mem_map.1 hx
        exact cnt_le D _)
      refine Nat.le_trans h1 (Nat.mul_le_mul_right _ ?_)
      rw [List.length_map, List.length_take]
      omega
    have h16 : 16 ^ D ≤ 16 ^ 4 := Nat.pow_le_pow_right (by omega) (by omega)
    have hdd : ((d + 1 : Nat) : Int) = (d : Int) + 1 := by omega
    rw [hdd] at ih
    have hm16 : m ≤ 16 := by omega
    have HORD := Lib.hid hord
    have HM := Lib.hid hm
    have HB := Lib.hid hbound
    have HNL := Lib.hid hnl
    have HBT := Lib.hid hs
    have cP' : Calls Tryd.prog 10 #[.slice A n c] w fun e w' => ∃ A' c', e = .returned (.slice A' m c') ∧ Hid (Pt w' A' m c' G) ∧ Only [] w w' := cP.mono fun e w' ⟨A', c', h1, h2, h3, _⟩ => ⟨A', c', by rw [h1, hm], by rw [← hm]; exact h2, h3⟩
    clear hG hord hmost hcnt hbound hm hnl hs cP hdd
    by_cases hG0 : G = []
    · subst hG0
      obtain rfl : m = 0 := HM.out.symm
      rw [if_pos rfl]
      clear ih HORD HB HM
      go_enter Tryd.func20, Tryd.ntmps20
      go_wp2_with (go_at_call 10; (with_reducible refine cP'.mono ?_); rintro e w1 ⟨A', c', rfl, hP, hO⟩)
      go_ret
      exact ⟨rfl, hO⟩
    · rw [if_neg hG0]
      have hmp : 0 < m := by
        rw [← HM.out]
        exact List.length_pos_iff.2 hG0
      have hm0 : ((m : Int) == 0) = false := by rw [beq_eq_false_iff_ne]; omega
      obtain ⟨S, hS⟩ : ∃ S : Nat → Nat, S = fun k => ((G.take k).map fun p => cnt D (subB l p)).sum := ⟨_, rfl⟩
      have hSm : ((G.map fun p => cnt D (subB l p)).sum) = S m := by rw [hS, ← HM.out]; simp
      have HS0 : Hid (S 0 = 0) := by rw [hS]; rfl
      have HSk : Hid (∀ k (h : k < G.length), S (k + 1) = S k + cnt D (subB l G[k])) := fun k h => by
        rw [hS]
        exact sum_take (f := fun p => cnt D (subB l p)) h
      have HSB : Hid (∀ k, S k ≤ 1048576) := fun k => by
        have := HB.out k
        rw [hS]
        show ((G.take k).map fun p => cnt D (subB l p)).sum ≤ _
        have h2 : 16 * 16 ^ D ≤ 16 * 16 ^ 4 := Nat.mul_le_mul_left _ h16
        omega
      rw [hSm]
      clear hSm hS HB h16 hG0 hmp
      go_enter Tryd.func20, Tryd.ntmps20
      go_wp2_with (go_at_call 10; (with_reducible refine cP'.mono ?_); rintro e w1 ⟨A', c', rfl, hP, hO⟩)
      go_loopw [18, 6, 8] (fun i s _ wr => ∃ k : Nat, k ≤ m ∧ i = .int .i64 (k : Int) ∧ s = .int .i64 (S k : Nat) ∧ Only [] w1 wr) (fun i _ _ _ => m - (intOf i).toNat)
      case atStart => exact ⟨0, Nat.zero_le _, rfl, by rw [HS0.out]; rfl, Only.refl _ _⟩
      case round =>
        obtain ⟨k, hk, rfl, rfl, hOr⟩ := hrel
        by_cases hlt : k < m
        · have hlt' : (k : Int) < (m : Int) := by omega
          have hkG : k < G.length := by rw [HM.out]; exact hlt
          obtain ⟨g, rfl, e1, e2⟩ := (hP.out.keep hOr).at_ hlt hkG
          have hog := Ord.get HORD.out (i := k) (p := G[k]) (List.getElem?_eq_getElem hkG)
          have hst := HSk.out k hkG
          obtain ⟨p, hp⟩ : ∃ p, G[k] = p := ⟨_, rfl⟩
          rw [hp] at e1 e2 hog hst
          obtain ⟨f, t⟩ := p
          simp only at e1 e2 hog
          have cB := fun w2 (o : Only [] w w2) => bytesOf_any ((HBT.out).keep o) f t hog.2.1 (by have := HNL.out; omega)
          have hlen := HNL.out
          have ih2 := fun w2 A2 c2 h1 h3 => ih w2 A2 (t - f) c2 (subB l (f, t)) h1 (by omega) h3
          obtain ⟨q, hq⟩ : ∃ q, cnt D (subB l (f, t)) = q := ⟨_, rfl⟩
          obtain ⟨n1, hn1⟩ : ∃ n1, t - f = n1 := ⟨_, rfl⟩
          rw [hq] at hst ih2
          rw [hn1] at cB ih2
          unfold pv at cB
          obtain ⟨s0, hs0⟩ : ∃ s0, S k = s0 := ⟨_, rfl⟩
          have hb1 : (s0 : Int) + (q : Int) ≤ 1048576 := by have := HSB.out (k + 1); omega
          have HST : Hid (((S (k + 1) : Nat) : Int) = (s0 : Int) + (q : Int)) := by show _ = _; omega
          rw [hs0]
          have hOx := (hO.then hOr).then ((Only.refl [] wr).alloc (.cells #[.int .i64 (f : Int), .int .i64 (t : Int)] 29))
          clear hp hst hq hn1 hs0 hog hlen ih
          go_wp2_with first
            | (go_at_call 19; (with_reducible refine (cB _ hOx).mono ?_); rintro e w2 ⟨A2, c2, rfl, hO2, hB2, hbl⟩; have hA2 : ∀ x ∈ blks A2, x < w2.heap.size := (fun x hx => by rw [hbl] at hx; exact Nat.lt_of_lt_of_le (hA x hx) (hOx.then hO2).size))
            | (go_at_call 20; (with_reducible refine (ih2 _ _ _ hB2 hA2).mono ?_); rintro e w3 ⟨rfl, hO3⟩)
          go_roundw
          case rel => exact ⟨k + 1, by omega, by go_num, by rw [HST.out], ((hOr.then ((Only.refl [] wr).alloc _)).then hO2).then hO3⟩
          case measure => simp [intOf]; omega
        · obtain rfl : k = m := by omega
          go_wp2_with fail
          go_ret
          exact ⟨rfl, hO.then hOr⟩
variable {w : World} {A : Option Addr} {n c : Nat} {l : List UInt8}
theorem Count_any (hs : Bt w A n c l) (hbig : n ≤ 4096) (hA : ∀ x ∈ blks A, x < w.heap.size) : Calls Tryd.prog 13 #[.slice A n c] w fun e w' => e = .returned (.int .i64 (cnt 4 l : Nat)) ∧ Only [] w w' := by
  have c1 := countAt_any 4 0 rfl w A n c l hs hbig hA
  obtain ⟨q, hq⟩ : ∃ q, cnt 4 l = q := ⟨_, rfl⟩
  rw [hq] at c1 ⊢
  rw [show ((0 : Nat) : Int) = 0 from rfl] at c1
  clear hq
  go_enter Tryd.func13, Tryd.ntmps13
  go_wp2_with (go_at_call 20; (with_reducible refine c1.mono ?_); rintro e w1 ⟨rfl, hO⟩)
  go_ret
  exact ⟨rfl, hO⟩
end
theorem x_bt (w : World) (fr : Nat × Nat) : Bt (w.alloc (.cells #[.int .u8 120] 5 fr)) (some ⟨w.heap.size, 0, none⟩) 1 1 [120] := by
  refine ⟨?_, Nat.le_refl _, by omega, fun e => nomatch e⟩
  exact Sl.of_new w #[.int .u8 120] 5 fr
set_option maxRecDepth 100000 in
set_option maxHeartbeats 1000000 in
theorem known_any (w : World) : Calls Tryd.prog 12 #[] w fun e w' => e = .returned (.bool true) ∧ Only [] w w' := by
  have k0 := mark0 w (.int .u8 120)
  have cT := Type_any (x_bt w (1, 2)) (by omega) (by intro x hx; simp at hx; subst hx; simp)
  have cC := fun w1 => Count_any (x_bt w1 (1, 2)) (by omega) (by intro x hx; simp at hx; subst hx; simp)
  obtain ⟨e1, e2, e3, e4⟩ := ty_x
  rw [e1, e2, e3] at cT
  rw [e4] at cC
  rw [show St txN = ⟨#[116, 101, 120, 116]⟩ from rfl, show St plN = ⟨#[112, 108, 97, 105, 110]⟩ from rfl, show St [] = ⟨#[]⟩ from rfl] at cT
  go_enter Tryd.func12, Tryd.ntmps12
  go_wp2_with first
    | (go_at_call 14; (with_reducible refine cT.mono ?_); rintro e w1 ⟨rfl, hO1⟩; have k1 := mark0 w1 (.int .u8 120))
    | (go_at_call 13; (with_reducible refine (cC w1).mono ?_); rintro e w2 ⟨rfl, hO2⟩)
  go_ret
  exact ⟨rfl, (((Only.refl [] w).alloc _).then hO1).then (((Only.refl [] w1).alloc _).then hO2)⟩
end Go.Proofs.YtakehogenioobaaDoor
