/-
  The law MimeMany.
-/
import Derived.Test.YtakehogenioobaaDoorMCount
import Derived.Test.YtakehogenioobaaDoorMConv
namespace Go.Proofs.YtakehogenioobaaDoor
open Go.RowKit Go.Instr

def pc8 : List UInt8 := [45, 45, 113, 13, 10, 120, 13, 10]
theorem rep_more : ∀ n, rep n ++ pc8 = rep (n + 1)
  | 0 => rfl
  | n + 1 => by
    have ih := rep_more n
    rw [rep, rep, ← ih]
    simp
theorem many_more (n : Nat) : many n ++ pc8 = many (n + 1) := by
  unfold many oneH
  rw [← rep_more]
  simp
theorem many_len : ∀ n, (many n).length = 41 + 8 * n
  | 0 => by decide
  | n + 1 => by
    rw [← many_more, List.length_append, many_len n]
    show 41 + 8 * n + 8 = _
    omega
def P41 : Array Value := #[.int .u8 67, .int .u8 111, .int .u8 110, .int .u8 116, .int .u8 101, .int .u8 110, .int .u8 116, .int .u8 45, .int .u8 84, .int .u8 121, .int .u8 112, .int .u8 101, .int .u8 58, .int .u8 32, .int .u8 109, .int .u8 117, .int .u8 108, .int .u8 116, .int .u8 105, .int .u8 112, .int .u8 97, .int .u8 114, .int .u8 116, .int .u8 47, .int .u8 120, .int .u8 59, .int .u8 32, .int .u8 98, .int .u8 111, .int .u8 117, .int .u8 110, .int .u8 100, .int .u8 97, .int .u8 114, .int .u8 121, .int .u8 61, .int .u8 113, .int .u8 13, .int .u8 10, .int .u8 13, .int .u8 10]
def P8 : Array Value := #[.int .u8 45, .int .u8 45, .int .u8 113, .int .u8 13, .int .u8 10, .int .u8 120, .int .u8 13, .int .u8 10]
theorem P41_eq : P41.toList = bvs (many 0) := rfl
theorem bvs_ones (l : List UInt8) : ∀ u ∈ bvs l, u.oneCell' = true := fun u hu => by
  unfold bvs at hu
  obtain ⟨b, _, rfl⟩ := List.mem_map.1 hu
  rfl
theorem many_all (n : Nat) (hn : n ≤ 20) : ∃ b G, Hid (many n = b) ∧ Hid (parts b = G) ∧ b.length = 41 + 8 * n ∧ G.length = min n 16 ∧ Hid (n ≤ 16 → ∀ i (h : i < G.length), (G[i]).2 = (G[i]).1 + 1 ∧ (G[i]).2 ≤ 300) := by
  have h1 := many_parts n
  have h2 := many_len n
  obtain ⟨b, hb⟩ : ∃ b, many n = b := ⟨_, rfl⟩
  rw [hb] at h1 h2
  have h3 := parts_ord b
  obtain ⟨G, hG⟩ : ∃ G, parts b = G := ⟨_, rfl⟩
  rw [hG] at h1 h3
  refine ⟨b, G, hb, hG, h2, h1.1, fun h i hi => ⟨h1.2 h _ (List.getElem_mem hi), ?_⟩⟩
  have := Ord.get h3 (i := i) (p := G[i]) (List.getElem?_eq_getElem hi)
  omega
set_option maxRecDepth 100000 in
set_option maxHeartbeats 4000000 in
theorem many_any (N : Int) (w : World) (h1 : -9223372036854775808 ≤ N) (h2 : N ≤ 9223372036854775807) :
    Calls Tryd.prog 7 #[.int .i64 N] w fun e w' => e = .returned (.bool true) ∧ Only [] w w' := by
  by_cases hn0 : N < 0
  · go_enter Tryd.func7, Tryd.ntmps7
    go_wp2_with (go_at_call 12; (with_reducible refine (known_any _).mono ?_); rintro e w1 ⟨rfl, hO1⟩)
    go_ret
    exact ⟨rfl, hO1⟩
  by_cases hn1 : 20 < N
  · have hn0' : 0 ≤ N := by omega
    go_enter Tryd.func7, Tryd.ntmps7
    go_wp2_with (go_at_call 12; (with_reducible refine (known_any _).mono ?_); rintro e w1 ⟨rfl, hO1⟩)
    go_ret
    exact ⟨rfl, hO1⟩
  obtain ⟨n, rfl⟩ : ∃ n : Nat, N = (n : Int) := ⟨N.toNat, by omega⟩
  have hn : n ≤ 20 := by omega
  have hn' : (n : Int) ≤ 20 := by omega
  clear h1 h2 hn0 hn1
  have kc : (convert 24 24 (.slice (some ⟨w.heap.size, 0, none⟩) 41 41)).run Tryd.prog (w.alloc (.cells P41 5)) = .ok (.slice (some ⟨w.heap.size, 0, none⟩) 41 41) (w.alloc (.cells P41 5 (41, 42))) := Lib.run_convert_bytes_const w 24 5 P41 41 41 Tryd.underlying24 Tryd.underlying5
  have hG0 := gro_const w P41 (many 0) 41 (41, 42) P41_eq rfl (Nat.le_refl _) (by unfold maxLen; omega)
  have hO0 : Only [] w (w.alloc (.cells P41 5 (41, 42))) := (Only.refl _ _).alloc _
  unfold P41 at kc hG0 hO0
  obtain ⟨bb, G, HBB, HG, hbl, hGl, HGS⟩ := many_all n hn
  obtain ⟨i0, hi, hz0, hz1, hz2⟩ := info_parts infoByte
  obtain ⟨m, hm⟩ : ∃ m, G.length = m := ⟨_, rfl⟩
  rw [hm] at hGl
  have HM := Lib.hid hm
  have HBL := Lib.hid hbl
  clear hm hbl
  go_enter Tryd.func7, Tryd.ntmps7
  go_wp2_with fail
  go_loopw [4, 3] (fun i b wr => ∃ (k : Nat) (A : Option Addr) (q c : Nat), k ≤ n ∧ i = .int .i64 (k : Int) ∧ b = .slice A q c ∧ Hid (q = 41 + 8 * k) ∧ Gro wr A q c (bvs (many k)) ∧ (∀ x ∈ blks A, w.heap.size ≤ x) ∧ Only [] w wr) (fun i _ _ => n - (intOf i).toNat)
  case atStart => exact ⟨0, _, 41, 41, Nat.zero_le _, rfl, rfl, rfl, hG0, (fun x hx => by simp at hx; omega), hO0⟩
  case round =>
    obtain ⟨k, A, q, c, hk, rfl, rfl, HQ, hG, hbA, hO⟩ := hrel
    have hq3 : q ≤ 300 := by have := HQ.out; omega
    by_cases hlt : k < n
    · have hlt' : (k : Int) < (n : Int) := by omega
      have k8 : (convert 24 24 (.slice (some ⟨wr.heap.size, 0, none⟩) 8 8)).run Tryd.prog (wr.alloc (.cells P8 5)) = .ok (.slice (some ⟨wr.heap.size, 0, none⟩) 8 8) (wr.alloc (.cells P8 5 (8, 9))) := Lib.run_convert_bytes_const wr 24 5 P8 8 8 Tryd.underlying24 Tryd.underlying5
      have hS8 : Sl (wr.alloc (.cells P8 5 (8, 9))) (some ⟨wr.heap.size, 0, none⟩) 8 (bvs pc8) := Sl.of_new wr P8 5 (8, 9)
      have hG8 := hG.alloc (.cells P8 5 (8, 9))
      unfold P8 at k8 hS8 hG8
      go_wp2_with (at_builtin; refine wpList_append_gro rfl (.tmp 21) (.tmp 23) 24 rfl 5 i0 (.int .u8 0) 1 Tryd.underlying24 hi hz0 hz1 hz2 rfl A q c _ rfl hG8 (some ⟨wr.heap.size, 0, none⟩) 8 8 _ rfl hS8 (bvs_one _) (by unfold maxLen; omega) (by omega) ?_; intro A9 c9 w9 hG9 hO9 hB9)
      go_roundw
      case rel =>
        refine ⟨k + 1, A9, q + 8, c9, by omega, by go_num, rfl, (by show _ = _; have := HQ.out; omega), ?_, fun x hx => ?_, (hO.then ((Only.refl [] wr).alloc _)).trans hO9 (fun x hx => .inr (hbA x hx))⟩
        · rw [← many_more, bvs_append]; exact hG9
        · have := hO.size
          rcases hB9 x hx with h | h
          · exact hbA x h
          · simp at h; omega
      case measure => simp [intOf]; omega
    · obtain rfl : k = n := by omega
      rw [HBB.out] at hG
      have cP0 := Parts_any hG.bt (by omega) hG.lt
      rw [HG.out] at cP0
      have cP : Calls Tryd.prog 10 #[.slice A q c] wr fun e w' => ∃ A' c', e = .returned (.slice A' m c') ∧ Hid (Pt w' A' m c' G) ∧ Only [] wr w' := cP0.mono fun e w' ⟨A', c', h1, h2, h3, _⟩ => ⟨A', c', by rw [h1, HM.out], by rw [← HM.out]; exact h2, h3⟩
      clear cP0 hG
      by_cases hk16 : k ≤ 16
      · obtain rfl : m = k := by omega
        clear hGl
        have hk16' : (m : Int) ≤ 16 := by omega
        have hGS := HGS.out hk16
        have HGS2 := Lib.hid hGS
        clear hGS
        go_wp2_with (go_at_call 10; (with_reducible refine cP.mono ?_); rintro e w1 ⟨A', c', rfl, hP, hO1⟩)
        go_loopw [6] (fun i wq => ∃ j : Nat, j ≤ m ∧ i = .int .i64 (j : Int) ∧ Only [] w1 wq) (fun i _ => m - (intOf i).toNat)
        case atStart => exact ⟨0, Nat.zero_le _, rfl, Only.refl _ _⟩
        case round =>
          obtain ⟨j, hj, rfl, hOj⟩ := hrel
          by_cases hjm : j < m
          · have hjm' : (j : Int) < (m : Int) := by omega
            have hjG : j < G.length := by rw [HM.out]; exact hjm
            obtain ⟨g, rfl, e1, e2⟩ := (hP.out.keep hOj).at_ hjm hjG
            obtain ⟨g1, g2⟩ := HGS2.out j hjG
            obtain ⟨p, hp⟩ : ∃ p, G[j] = p := ⟨_, rfl⟩
            rw [hp] at e1 e2 g1 g2
            obtain ⟨f, t⟩ := p
            simp only at e1 e2 g1 g2
            subst g1
            have h1 : (((f + 1 : Nat) : Int) - (f : Int)) = 1 := by omega
            have h2 : (f : Int) + 1 - (f : Int) = 1 := by omega
            clear hp
            go_wp2_with fail
            go_region
            go_wp2_with fail
            go_roundw
            case rel => exact ⟨j + 1, by omega, by go_num, hOj.drew⟩
            case measure => simp [intOf]; omega
          · obtain rfl : j = m := by omega
            go_wp2_with (go_at_call 12; (with_reducible refine (known_any _).mono ?_); rintro e w3 ⟨rfl, hO3⟩)
            go_ret
            exact ⟨rfl, ((hO.then hO1).then hOj).then hO3⟩
      · obtain rfl : m = 16 := by omega
        clear hGl
        have hk16' : ¬ (k : Int) ≤ 16 := by omega
        have hk17 : (16 : Int) < (k : Int) := by omega
        go_wp2_with (go_at_call 10; (with_reducible refine cP.mono ?_); rintro e w1 ⟨A', c', rfl, hP, hO1⟩)
        go_loopw [6] (fun i wq => i = .int .i64 0 ∧ wq = w1) (fun i _ => 16 - (intOf i).toNat)
        case atStart => exact ⟨rfl, rfl⟩
        case round =>
          obtain ⟨rfl, rfl⟩ := hrel
          go_wp2_with (go_at_call 12; (with_reducible refine (known_any _).mono ?_); rintro e w3 ⟨rfl, hO3⟩)
          go_ret
          exact ⟨rfl, (hO.then hO1).then hO3⟩
end Go.Proofs.YtakehogenioobaaDoor
