/-
  mime.Type.
-/
import Derived.Test.YtakehogenioobaaDoorMBound
import Derived.Test.YtakehogenioobaaDoorHGet
namespace Go.Proofs.YtakehogenioobaaDoor
open Go.RowKit Go.Instr

theorem trim_blank {x : UInt8} {r : List UInt8} (h : isB x = true) : (trimB (x :: r)).length ≤ r.length := by
  rw [← trim_swap, List.dropWhile_cons, if_pos h, trim_swap]
  exact trimB_len r
theorem fl_vals (M : Nat) : ∀ (ts : List (List UInt8)) (st : Option (List UInt8 × List UInt8)) (m : Nat), m + (ts.map List.length).sum ≤ M → (∀ p, st = some p → p.2.length ≤ m) → ∀ p ∈ fl st ts, p.2.length ≤ M
  | [], st, m, h1, h2, p, hp => by
    rw [fl_nil] at hp
    cases st with
    | none => cases hp
    | some q =>
      rw [Option.toList_some, List.mem_singleton] at hp
      rw [hp]
      have := h2 q rfl
      simp at h1
      omega
  | t :: r, st, m, h1, h2, p, hp => by
    rw [List.map_cons, List.sum_cons] at h1
    cases hB : begB t with
    | true =>
      rw [fl_blank hB] at hp
      refine fl_vals M r _ (m + t.length) (by omega) (fun q hq => ?_) p hp
      cases st with
      | none => cases hq
      | some q0 =>
        simp at hq
        rw [← hq]
        have h3 := h2 q0 rfl
        cases t with
        | nil => cases hB
        | cons x t2 =>
          have h4 := trim_blank (r := t2) (show isB x = true from hB)
          show (q0.2 ++ 32 :: trimB (x :: t2)).length ≤ _
          rw [List.length_append, List.length_cons, List.length_cons]
          omega
    | false =>
      rw [fl_text hB, List.mem_append] at hp
      rcases hp with hp | hp
      · cases st with
        | none => cases hp
        | some q =>
          rw [Option.toList_some, List.mem_singleton] at hp
          rw [hp]
          have := h2 q rfl
          omega
      · refine fl_vals M r _ t.length (by omega) (fun q hq => ?_) p hp
        unfold fieldOf at hq
        split at hq
        · injection hq with hq
          rw [← hq]
          have h3 := trimB_len (t.drop (cln t + 1))
          rw [List.length_drop] at h3
          show (trimB (t.drop (cln t + 1))).length ≤ _
          omega
        · cases hq
theorem sum_tx : ∀ ls : List (List UInt8), ((ls.map tx).map List.length).sum ≤ ls.flatten.length
  | [] => by simp
  | l :: r => by
    have h1 := sum_tx r
    have h2 := tx_len l
    rw [List.map_cons, List.map_cons, List.sum_cons, List.flatten_cons, List.length_append]
    omega
theorem vl_len (l : List UInt8) : (vlOf l).length ≤ l.length := by
  unfold vlOf getF
  cases h : (flds l).find? fun p => sameT p.1 ctN with
  | none => simp
  | some p =>
    have hm := List.mem_of_find?_eq_some h
    have h1 := sum_tx (hls l)
    have h2 := hd_le l
    have := fl_vals l.length ((hls l).map tx) none 0 (by rw [show (hls l).flatten.length = hd l from rfl] at h1; omega) (fun _ h => nomatch h) p hm
    simpa using this
theorem take_len_le (l : List UInt8) (k : Nat) : (l.take k).length ≤ l.length := by rw [List.length_take]; omega
theorem drop_len_le (l : List UInt8) (k : Nat) : (l.drop k).length ≤ l.length := by rw [List.length_drop]; omega
theorem lows_len (l : List UInt8) : (lows l).length = l.length := by simp [lows]

section
variable {w : World} {A : Option Addr} {n c : Nat} {l : List UInt8}
set_option maxRecDepth 100000 in
set_option maxHeartbeats 1000000 in
theorem Type_any (hs : Bt w A n c l) (hbig : n ≤ 4096) (hA : ∀ x ∈ blks A, x < w.heap.size) : Calls Tryd.prog 14 #[.slice A n c] w fun e w' => e = .returned (.tuple #[.string (St (tyM l)), .string (St (tyS l)), .string (St (tyB l))]) ∧ Only [] w w' := by
  have hvl := vl_len l
  have hnl := hs.len
  obtain ⟨bo, hbo⟩ : ∃ bo, (getF l ctN).isSome = bo := ⟨_, rfl⟩
  have cG : Calls Tryd.prog 21 #[.slice A n c, .string ⟨#[67, 111, 110, 116, 101, 110, 116, 45, 84, 121, 112, 101]⟩] w fun e w' => e = .returned (.tuple #[.string (St (vlOf l)), .bool bo]) ∧ Only [] w w' := by
    have := Get_any hs hbig hA ⟨#[67, 111, 110, 116, 101, 110, 116, 45, 84, 121, 112, 101]⟩ (by decide)
    rw [show (ByteArray.mk #[67, 111, 110, 116, 101, 110, 116, 45, 84, 121, 112, 101]).data.toList = ctN from rfl] at this
    exact this.mono fun e w' ⟨t, he, ht, ho⟩ => by rw [he, ht.out, hbo]; exact ⟨rfl, ho⟩
  clear hbo hs
  have hM : tyM l = mnOf (knOf (vlOf l)) := rfl
  have hS : tyS l = sbOf (knOf (vlOf l)) := rfl
  have hBd : tyB l = bdOf (vlOf l) := rfl
  rw [hM, hS, hBd]
  obtain ⟨v, hv⟩ : ∃ v, vlOf l = v := ⟨_, rfl⟩
  rw [hv] at hvl cG ⊢
  have hv4 : v.length ≤ 4096 := by omega
  clear hM hS hBd hv hvl hnl
  have c1 := fun w1 => sCut_any v (by omega) 59 w1
  have hk : knOf v = lows (trimB (v.take (fi 59 v))) := rfl
  have hb : bdOf v = bnds (pcs (v.drop (fi 59 v + 1))) := rfl
  rw [hk, hb]
  have h1 := take_len_le v (fi 59 v)
  have h2 := drop_len_le v (fi 59 v + 1)
  obtain ⟨k, hk0⟩ : ∃ k, v.take (fi 59 v) = k := ⟨_, rfl⟩
  obtain ⟨r, hr0⟩ : ∃ r, v.drop (fi 59 v + 1) = r := ⟨_, rfl⟩
  rw [hk0] at h1 c1 ⊢
  rw [hr0] at h2 c1 ⊢
  have c2 := fun w1 => sTrim_any k (by omega) w1
  have h3 := trimB_len k
  have c3 : ∀ w1, Calls Tryd.prog 23 #[.string (St (trimB k))] w1 fun e w' => e = .returned (.string (St (lows (trimB k)))) ∧ Only [] w1 w' := fun w1 => (mSmall_any (St (trimB k)) (by rw [St_size]; omega) w1).mono fun e w' ⟨t, he, ht, ho⟩ => by rw [he, ht.out, St_list]; exact ⟨rfl, ho⟩
  have h4 := lows_len (trimB k)
  obtain ⟨g, hg⟩ : ∃ g, lows (trimB k) = g := ⟨_, rfl⟩
  rw [hg] at c3 h4 ⊢
  have c4 := fun w1 => sCut_any g (by omega) 47 w1
  have c5 := fun w1 => boundaryOf_any r (by omega) w1
  obtain ⟨t1, ht1⟩ : ∃ t, St v = t := ⟨_, rfl⟩
  obtain ⟨t2, ht2⟩ : ∃ t, St k = t := ⟨_, rfl⟩
  obtain ⟨t3, ht3⟩ : ∃ t, St r = t := ⟨_, rfl⟩
  obtain ⟨t4, ht4⟩ : ∃ t, St (trimB k) = t := ⟨_, rfl⟩
  obtain ⟨t5, ht5⟩ : ∃ t, St g = t := ⟨_, rfl⟩
  obtain ⟨t6, ht6⟩ : ∃ t, St (bnds (pcs r)) = t := ⟨_, rfl⟩
  obtain ⟨z1, hz1⟩ : ∃ z, decide (fi 59 v < v.length) = z := ⟨_, rfl⟩
  obtain ⟨z2, hz2⟩ : ∃ z, decide (fi 47 g < g.length) = z := ⟨_, rfl⟩
  have hmn : mnOf g = if g.take (fi 47 g) = [] ∨ g.drop (fi 47 g + 1) = [] then txN else g.take (fi 47 g) := rfl
  have hsb : sbOf g = if g.take (fi 47 g) = [] ∨ g.drop (fi 47 g + 1) = [] then plN else g.drop (fi 47 g + 1) := rfl
  rw [hmn, hsb]
  obtain ⟨a, ha⟩ : ∃ a, g.take (fi 47 g) = a := ⟨_, rfl⟩
  obtain ⟨b, hb0⟩ : ∃ b, g.drop (fi 47 g + 1) = b := ⟨_, rfl⟩
  rw [ha, hb0] at c4 ⊢
  obtain ⟨t7, ht7⟩ : ∃ t, St a = t := ⟨_, rfl⟩
  obtain ⟨t8, ht8⟩ : ∃ t, St b = t := ⟨_, rfl⟩
  rw [ht1] at cG c1
  rw [ht2, ht3, hz1] at c1
  rw [ht2, ht4] at c2
  rw [ht4, ht5] at c3
  rw [ht5, ht7, ht8, hz2] at c4
  rw [ht3, ht6] at c5
  rw [ht6]
  have hl7 : t7.toList = a := by rw [← ht7, Lib.toList_data, St_list]
  have hl8 : t8.toList = b := by rw [← ht8, Lib.toList_data, St_list]
  have HT7 := Lib.hid ht7
  have HT8 := Lib.hid ht8
  clear h1 h2 h3 h4 hk hb hk0 hr0 hg ht1 ht2 ht3 ht4 ht5 ht6 hz1 hz2 hmn hsb ha hb0 ht7 ht8 hv4
  cases a with
  | nil =>
    rw [if_pos (.inl rfl), if_pos (.inl rfl)]
    go_enter Tryd.func14, Tryd.ntmps14
    go_wp2_with first
      | (go_at_call 21; (with_reducible refine cG.mono ?_); rintro e w1 ⟨rfl, hO1⟩)
      | (go_at_call 22; (with_reducible refine (c1 _).mono ?_); rintro e w2 ⟨rfl, hO2⟩; clear c1)
      | (go_at_call 24; (with_reducible refine (c2 _).mono ?_); rintro e w3 ⟨rfl, hO3⟩)
      | (go_at_call 23; (with_reducible refine (c3 _).mono ?_); rintro e w4 ⟨rfl, hO4⟩)
      | (go_at_call 22; (with_reducible refine (c4 _).mono ?_); rintro e w5 ⟨rfl, hO5⟩)
      | (go_at_call 25; (with_reducible refine (c5 _).mono ?_); rintro e w6 ⟨rfl, hO6⟩)
    go_ret3
    exact ⟨rfl, ((((hO1.then hO2).then hO3).then hO4).then hO5).then hO6⟩
  | cons x a =>
    cases b with
    | nil =>
      rw [if_pos (.inr rfl), if_pos (.inr rfl)]
      go_enter Tryd.func14, Tryd.ntmps14
      go_wp2_with first
        | (go_at_call 21; (with_reducible refine cG.mono ?_); rintro e w1 ⟨rfl, hO1⟩)
        | (go_at_call 22; (with_reducible refine (c1 _).mono ?_); rintro e w2 ⟨rfl, hO2⟩; clear c1)
        | (go_at_call 24; (with_reducible refine (c2 _).mono ?_); rintro e w3 ⟨rfl, hO3⟩)
        | (go_at_call 23; (with_reducible refine (c3 _).mono ?_); rintro e w4 ⟨rfl, hO4⟩)
        | (go_at_call 22; (with_reducible refine (c4 _).mono ?_); rintro e w5 ⟨rfl, hO5⟩)
        | (go_at_call 25; (with_reducible refine (c5 _).mono ?_); rintro e w6 ⟨rfl, hO6⟩)
      go_ret3
      exact ⟨rfl, ((((hO1.then hO2).then hO3).then hO4).then hO5).then hO6⟩
    | cons y b =>
      rw [if_neg (by simp), if_neg (by simp)]
      go_enter Tryd.func14, Tryd.ntmps14
      go_wp2_with first
        | (go_at_call 21; (with_reducible refine cG.mono ?_); rintro e w1 ⟨rfl, hO1⟩)
        | (go_at_call 22; (with_reducible refine (c1 _).mono ?_); rintro e w2 ⟨rfl, hO2⟩; clear c1)
        | (go_at_call 24; (with_reducible refine (c2 _).mono ?_); rintro e w3 ⟨rfl, hO3⟩)
        | (go_at_call 23; (with_reducible refine (c3 _).mono ?_); rintro e w4 ⟨rfl, hO4⟩)
        | (go_at_call 22; (with_reducible refine (c4 _).mono ?_); rintro e w5 ⟨rfl, hO5⟩)
        | (go_at_call 25; (with_reducible refine (c5 _).mono ?_); rintro e w6 ⟨rfl, hO6⟩)
      go_ret3
      rw [HT7.out, HT8.out]
      exact ⟨rfl, ((((hO1.then hO2).then hO3).then hO4).then hO5).then hO6⟩
end
end Go.Proofs.YtakehogenioobaaDoor
