/-
  The walk of the law LineLong.
-/
import Derived.Test.YtiekhgignmbaeaaLAll
import Derived.Test.YtiekhgignmbaeaaLWants
namespace Go.Proofs.Ytiekhgignmbaeaa
open Go.RowKit Go.Instr

theorem evs_line (q t : List UInt8) (h : ∀ x ∈ q, x ≠ 10) : evs (q ++ 10 :: t) = evOf false q :: evs t := by
  have hn : nl (q ++ 10 :: t) = q.length := by rw [nl_append _ _ h, nl_cons]; simp
  rw [evs_cons (by rw [hn, List.length_append, List.length_cons]; omega), hn, List.take_left]
  simp
theorem evs_nil : evs [] = [] := evs_none (by simp)
theorem tr_cr (l : List UInt8) : tr (l ++ [13]) = l := by
  unfold tr Lib.trimSuffix
  rw [if_pos]
  · simp
  · unfold Lib.hasSuffix
    rw [List.isSuffixOf_iff_suffix]
    exact ⟨l, rfl⟩
/-- What is told of the two lines. -/
theorem evs_long (N : Nat) (q : List UInt8) (h10 : ∀ x ∈ q, x ≠ 10) (ht : tr q = List.replicate N 120) : evs (q ++ [10, 121, 10]) = [if 300 < N then ⟨2, []⟩ else ⟨1, List.replicate N 120⟩, ⟨1, [121]⟩] := by
  have h2 : evs [121, 10] = [⟨1, [121]⟩] := by
    have := evs_line [121] [] (by simp)
    rw [show ([121] : List UInt8) ++ 10 :: [] = [121, 10] from rfl] at this
    rw [this, evs_nil]
    unfold evOf
    rw [tr_clean (by simp)]
    simp
  rw [show q ++ [10, 121, 10] = q ++ 10 :: [121, 10] from rfl, evs_line q _ h10, h2]
  unfold evOf
  rw [ht]
  simp

/-- Two events, cell by cell. -/
def TwoEv (w : World) (g : Nat) (K1 D1 : Nat) (e : Ending) (w' : World) : Prop :=
  ∃ bb c A7 c7 A8 c8, e = .returned (.slice (some ⟨bb, 0, none⟩) 2 c) ∧ w'.cell? ⟨bb, 0, none⟩ = some (.int .i64 (K1 : Int)) ∧ w'.cell? ⟨bb, 1, none⟩ = some (.slice A7 D1 c7) ∧ w'.cell? ⟨bb, 2, none⟩ = some (.int .i64 1) ∧ w'.cell? ⟨bb, 3, none⟩ = some (.slice A8 1 c8) ∧ Sl w' A8 1 (bvs [121]) ∧ Only [g] w w'
theorem all_two {w : World} {g : Nat} (h : Ln false w g [] K0) (A0 : Option Addr) (n0 c0 : Nat) (b : List UInt8) (hb : Sl w A0 n0 (bvs b)) (hc0 : n0 ≤ c0) (hn0 : n0 ≤ 4096) (hbg : 0 < n0 → ∀ k ∈ blks A0, k ≠ g)
    (A1 : Option Addr) (m c1 : Nat) (vs : List Int) (hv : Sl w A1 m (ivs vs)) (hm : m ≤ 200) (hvg : 0 < m → ∀ k ∈ blks A1, k ≠ g) (K1 D1 : Nat) (d1 : List UInt8) (he : evs b = [⟨K1, d1⟩, ⟨1, [121]⟩]) (hd : d1.length = D1) :
    Calls Try.prog 21 #[.pointer (some ⟨g, 0, none⟩), .slice A0 n0 c0, .slice A1 m c1] w (TwoEv w g K1 D1) := by
  refine (all_any [] (fun _ hx => nomatch hx) h A0 n0 c0 b hb hc0 hn0 hbg A1 m c1 vs hv hm hvg).mono ?_
  rintro e w' ⟨A, n, c, rfl, E, O, _, _⟩
  subst hd
  rw [he] at E
  have hn : n = 2 := by have := E.len; simp at this; omega
  subst hn
  obtain ⟨bb, rfl, A7, c7, p0, p1, _⟩ := E.at_ 0 (by simp)
  obtain ⟨bb2, hA, A8, c8, q0, q1, V8⟩ := E.at_ 1 (by simp)
  injection hA with hA
  injection hA with hA
  subst hA
  exact ⟨bb, c, A7, c7, A8, c8, rfl, p0, p1, q0, q1, V8, O⟩

set_option maxRecDepth 100000 in
set_option maxHeartbeats 8000000 in
theorem long_any (n : Int) (cr : Bool) (A1 : Option Addr) (m c1 : Nat) (vs : List Int) (w : World) (hv : Sl w A1 m (ivs vs)) (hmx : m ≤ 140737488351232) :
    Calls Try.prog 5 #[.int .i64 n, .bool cr, .slice A1 m c1] w fun e w' => e = .returned (.bool true) ∧ Only [] w w' := by
  obtain ⟨i0, hi, hz0, hz1, hz2⟩ := info_parts infoByte
  by_cases hbig : 0 ≤ n ∧ n ≤ 1000 ∧ m ≤ 60
  · obtain ⟨h1, h2, h3⟩ := hbig
    obtain ⟨N, rfl⟩ : ∃ N : Nat, n = (N : Int) := ⟨n.toNat, by omega⟩
    have h3' : (m : Int) ≤ 60 := by omega
    have hmk := fun W => make_zeros N (by omega) W
    have HV := Lib.hid hv
    obtain ⟨K1, d1, D1, hE1, hD1, hcase⟩ : ∃ (K1 : Nat) (d1 : List UInt8) (D1 : Nat), (if 300 < N then (⟨2, []⟩ : Ev) else ⟨1, List.replicate N 120⟩) = ⟨K1, d1⟩ ∧ d1.length = D1 ∧ (((300 : Int) < (N : Int) ∧ K1 = 2 ∧ D1 = 0) ∨ ((N : Int) ≤ 300 ∧ K1 = 1 ∧ D1 = N)) := by
      by_cases h : 300 < N
      · exact ⟨2, [], 0, by rw [if_pos h], rfl, .inl ⟨by omega, rfl, rfl⟩⟩
      · exact ⟨1, List.replicate N 120, N, by rw [if_neg h], by simp, .inr ⟨by omega, rfl, rfl⟩⟩
    have HE1 := Lib.hid hE1
    have HD1 := Lib.hid hD1
    have HCASE := Lib.hid hcase
    clear hv hE1 hD1 hcase
    go_enter Try.func5, Try.ntmps5
    go_wp2_with (go_at_call 11; (with_reducible refine (new_g w).mono ?_); rintro e w1 ⟨g, rfl, L1, O1, P1⟩)
    have HOWN := Lib.hid (own_zeros w1 N (by unfold maxLen; omega))
    have HG1 := Lib.hid L1.lt
    go_loopw [9] (fun i wr => ∃ k : Nat, k ≤ N ∧ i = .int .i64 (k : Int) ∧ Own wr 5 (some ⟨w1.heap.size, 0, none⟩) N N (bvs (List.replicate k 120 ++ List.replicate (N - k) 0)) ∧ Ln false wr g [] K0 ∧ Only [] w wr) (fun i _ => N - (intOf i).toNat)
    case atStart => exact ⟨0, Nat.zero_le _, rfl, by simpa using HOWN.out, L1.keep ((Only.refl [] w1).alloc _), O1.alloc _⟩
    case round =>
      obtain ⟨k, hk, rfl, HW, LW, QW⟩ := hrel
      by_cases hlt : k < N
      · have hlt' : (k : Int) < (N : Int) := by omega
        have hf := HW.free k
        obtain ⟨ad, u, hA, hu, hcell⟩ := HW.sl.at_ hlt
        injection hA with hA
        subst hA
        rw [add_none, Nat.zero_add] at hcell
        have HWK := Lib.hid HW
        clear HW hu
        go_wp2
        go_roundw
        case rel =>
          refine ⟨k + 1, by omega, by go_num, ?_, ?_, QW.setCell (.inr (by have := O1.size; simpa using this)) _⟩
          · have h := HWK.out.stored k (.int .u8 120)
            have e : (bvs (List.replicate k 120 ++ List.replicate (N - k) 0)).set k (.int .u8 120) = bvs (List.replicate (k + 1) 120 ++ List.replicate (N - (k + 1)) 0) := by
              obtain ⟨r, hr⟩ : ∃ r, N - k = r + 1 := ⟨N - k - 1, by omega⟩
              rw [hr, show N - (k + 1) = r by omega]
              unfold bvs
              rw [List.map_append, List.set_append_right _ _ (by simp), List.length_map, List.length_replicate, Nat.sub_self, List.map_append, List.replicate_succ, List.map_cons, List.set_cons_zero, List.replicate_succ']
              simp [bv]
            rw [e] at h
            exact h
          · exact LW.only (rs := [w1.heap.size]) ((Only.refl _ _).setCell (.inl (by simp)) _) (by have := HG1.out; simp; omega) (fun _ hx => nomatch hx)
        case measure => simp [intOf]; omega
      · obtain rfl : k = N := by omega
        rw [Nat.sub_self, List.replicate_zero, List.append_nil] at HW
        have hgw : ∀ x ∈ blks (some (⟨w1.heap.size, 0, none⟩ : Addr)), x ≠ g := fun x hx => by have := HG1.out; simp at hx; omega
        have hgB : g ≠ w1.heap.size := by have := HG1.out; omega
        have hvg : ∀ W, Only [] w W → 0 < m → ∀ k ∈ blks A1, k ≠ g := fun W hW hp k hk => by
          have h1 := HV.out.lt hp
          have h2 := P1 g (by simp)
          cases A1 with
          | none => cases hk
          | some a => simp at hk; have := h1 a rfl; omega
        have HVG := Lib.hid hvg
        have h10 : ∀ x ∈ List.replicate k (120 : UInt8), x ≠ 10 := fun x hx => by rw [(List.mem_replicate.1 hx).2]; decide
        have h13 : ∀ x ∈ List.replicate k (120 : UInt8), x ≠ 13 := fun x hx => by rw [(List.mem_replicate.1 hx).2]; decide
        have HX0 : Hid (evs (List.replicate k 120 ++ [10, 121, 10]) = [⟨K1, d1⟩, ⟨1, [121]⟩]) := by show _ = _; rw [evs_long k _ h10 (tr_clean h13), HE1.out]
        have HX1 : Hid (evs (List.replicate k 120 ++ [13] ++ [10, 121, 10]) = [⟨K1, d1⟩, ⟨1, [121]⟩]) := by
          show _ = _
          rw [evs_long k _ (fun x hx => by rcases List.mem_append.1 hx with h | h; exact h10 x h; simp at h; rw [h]; decide) (tr_cr _), HE1.out]
        have HW2 := Lib.hid HW
        have HLW := Lib.hid LW
        have HGB := Lib.hid hgB
        have HZ1 := Lib.hid O1.size
        clear h10 h13 hvg HW LW hgw hgB HOWN L1 O1
        cases cr
        all_goals rcases HCASE.out with ⟨hN, rfl, rfl⟩ | ⟨hN, rfl, hDk⟩
        all_goals
          clear HCASE
          try (have hDk' := hDk.symm; clear hDk; subst hDk')
          go_wp2_with (first
            | (go_at_call 20; (with_reducible refine (known_any _).mono ?_); rintro e w9 ⟨rfl, O9⟩)
            | (go_at_call 21; (with_reducible refine (all_two L4 A4 _ c4 _ HV4.sl HV4.cap (by omega) HBG A1 m c1 vs (HV.out.keep Q4) (by omega) (HVG.out _ Q4) _ _ d1 HEV.out HD1.out).mono ?_); rintro e w6 ⟨bb, c6, A7, c7, A8, c8, rfl, p0, p1, q0, q1, V8, O6⟩; have hcv := str_of V8 c8)
            | (at_builtin; refine wpList_append_sl rfl (.tmp 39) (.tmp 40) 27 rfl 5 i0 (.int .u8 0) 1 Try.underlying27 hi hz0 hz1 hz2 rfl A3 (k + 1) c3 _ rfl (HV3.alloc _) (some ⟨w3.heap.size, 0, none⟩) 3 3 (bvs [10, 121, 10]) rfl (Sl.of_new w3 #[.int .u8 10, .int .u8 121, .int .u8 10] _ _) (bvs_one _) (by unfold maxLen; omega) (by omega) ?_; intro A4 c4 w4 HV4 HO4 HB4
               rw [← bvs_append] at HV4
               have Q4 := own_step (Q3.alloc _) HO4 (fun x hx => by rcases HB3 x hx with h | h; (simp at h; have := HZ1.out; omega); (have := Q3.size; have := QW.size; simp at h; omega))
               have L4 := (L3.keep ((Only.refl [] w3).alloc _)).only HO4 (fun hm => by rcases HB3 g hm with h | h; (simp at h; exact HGB.out h); (have h5 := HLW.out.lt; simp at h; omega)) (fun _ hx => nomatch hx)
               have HBG : 0 < k + 1 + 3 → ∀ x ∈ blks A4, x ≠ g := (fun _ x hx => by rcases HB4 x hx with h | h; (intro e; subst e; rcases HB3 x h with h6 | h6; (simp at h6; exact HGB.out h6); (have h5 := HLW.out.lt; simp at h6; omega)); (intro e; subst e; have h5 := L3.lt; simp at h; omega))
               have HEV := HX1)
            | (at_builtin; refine wpList_append_sl rfl (.tmp 36) (.tmp 37) 27 rfl 5 i0 (.int .u8 0) 1 Try.underlying27 hi hz0 hz1 hz2 rfl (some ⟨w1.heap.size, 0, none⟩) k k _ rfl (HW2.out.alloc _) (some ⟨wr.heap.size, 0, none⟩) 1 1 (bvs [13]) rfl (Sl.of_new wr #[.int .u8 13] _ _) (bvs_one _) (by unfold maxLen; omega) (by omega) ?_; intro A3 c3 w3 HV3 HO3 HB3
               rw [← bvs_append] at HV3
               have Q3 := own_step (QW.alloc _) HO3 (fun x hx => by simp at hx; have := HZ1.out; omega)
               have L3 := (HLW.out.keep ((Only.refl [] wr).alloc _)).only HO3 (by simp; exact HGB.out) (fun _ hx => nomatch hx))
            | (at_builtin; refine wpList_append_sl rfl (.tmp 39) (.tmp 40) 27 rfl 5 i0 (.int .u8 0) 1 Try.underlying27 hi hz0 hz1 hz2 rfl (some ⟨w1.heap.size, 0, none⟩) k k _ rfl (HW2.out.alloc _) (some ⟨wr.heap.size, 0, none⟩) 3 3 (bvs [10, 121, 10]) rfl (Sl.of_new wr #[.int .u8 10, .int .u8 121, .int .u8 10] _ _) (bvs_one _) (by unfold maxLen; omega) (by omega) ?_; intro A4 c4 w4 HV4 HO4 HB4
               rw [← bvs_append] at HV4
               have Q4 := own_step (QW.alloc _) HO4 (fun x hx => by simp at hx; have := HZ1.out; omega)
               have L4 := (HLW.out.keep ((Only.refl [] wr).alloc _)).only HO4 (by simp; exact HGB.out) (fun _ hx => nomatch hx)
               have HBG : 0 < k + 3 → ∀ x ∈ blks A4, x ≠ g := (fun _ x hx => by rcases HB4 x hx with h | h; (intro e; subst e; simp at h; exact HGB.out h); (intro e; subst e; have h5 := HLW.out.lt; simp at h; omega))
               have HEV := HX0))
          go_ret
          exact ⟨rfl, (own_step Q4 O6 P1).then O9⟩
  · have hbig' : n < 0 ∨ (0 ≤ n ∧ 1000 < n) ∨ (0 ≤ n ∧ n ≤ 1000 ∧ (60 : Int) < (m : Int)) := by omega
    clear hbig
    rcases hbig' with h1 | ⟨h1, h2⟩ | ⟨h1, h2, h3⟩
    all_goals
      go_enter Try.func5, Try.ntmps5
      go_wp2
      go_ret
      exact ⟨rfl, Only.refl _ _⟩
end Go.Proofs.Ytiekhgignmbaeaa
