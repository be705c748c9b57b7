/-
  head.Top.
-/
import Derived.Test.YtmameghebikjbaaDoorHLen
namespace Go.Proofs.YtmameghebikjbaaDoor
open Go.RowKit Go.Instr
attribute [local go_sem] Oper.semAt_some

section
variable {w : World} {A : Option Addr} {n c : Nat} {l : List UInt8}
set_option maxRecDepth 100000 in
set_option maxHeartbeats 4000000 in
theorem Top_any (hs : Bt w A n c l) (hbig : n ≤ 1048576) (hA : ∀ x ∈ blks A, x < w.heap.size) (N : Int) (hN1 : -9223372036854775808 ≤ N) (hN2 : N ≤ 9223372036854775807) :
    Calls Tryd.prog 19 #[.slice A n c, .int .i64 N] w (Fresh w (l.take (topLen l N))) := by
  have hle : hd l ≤ n := by have h1 := hd_le l; have h2 := hs.len; omega
  have hTle : topLen l N ≤ n := by have h1 := topLen_le l N; have h2 := hs.len; omega
  have hcap := hs.cap
  obtain ⟨H, hH⟩ : ∃ H, hd l = H := ⟨_, rfl⟩
  obtain ⟨T, hT⟩ : ∃ T, topLen l N = T := ⟨_, rfl⟩
  obtain ⟨p, hp0⟩ : ∃ p, l.drop H = p := ⟨_, rfl⟩
  have hTp : T = H + sumK p N.toNat := by rw [← hT, ← hp0, ← hH]; rfl
  have c1 : ∀ W1, Only [] w W1 → Calls Tryd.prog 37 #[.slice A n c] W1 fun e w' => e = .returned (.int .i64 (H : Nat)) ∧ Only [] W1 w' := fun W1 o => by
    have := headLen_any (hs.keep o) hbig (fun x hx => Nat.lt_of_lt_of_le (hA x hx) o.size)
    rwa [hH] at this
  rw [hT] at hTle ⊢
  rw [hH] at hle
  have hcut := hs.cut hle
  rw [hp0] at hcut
  have hpl : p.length = n - H := hcut.len
  have hpreT := hs.pre hTle
  have hTlen := hpreT.len
  obtain ⟨P, hP⟩ : ∃ P, l.take T = P := ⟨_, rfl⟩
  rw [hP] at hpreT hTlen ⊢
  have hle1 : (H : Int) ≤ (n : Int) := by omega
  have hle2 : (n : Int) ≤ (c : Int) := by omega
  have hTc : (T : Int) ≤ (c : Int) := by omega
  have hnil := hs.nil
  have HTP := Lib.hid hTp
  have HPL := Lib.hid hpl
  have HTL := Lib.hid hTlen
  have HA := Lib.hid hA
  clear hH hT hp0 hTp hpl hTlen hP hs hA
  by_cases hcH : c = H
  · rw [if_pos hcH] at hcut
    have h0 : c - H = 0 := by omega
    have h1 : n - H = 0 := by omega
    rw [h0, h1] at hcut
    rw [h1] at HPL
    obtain rfl : n = c := by omega
    subst hcH
    clear h0 h1
    refine (callsIn_wide (n := 5)).1 ?_
    refine callsIn_of_wp_marks Tryd.func19 rfl trivial ?_ rfl
    simp only [Tryd.ntmps19, List.size_toArray, List.length_cons, List.length_nil, Nat.reduceAdd, Nat.reduceSub, Array.replicate_succ, Array.replicate_zero, List.push_toArray, List.append_toArray, List.nil_append, List.cons_append]
    gi_wp2_with first
      | (refine ⟨trivial, ?_⟩; gi_at_call 37; refine (callsIn_wide.2 (c1 _ ((Only.refl _ _).alloc _))).mono ?_; rintro e w2 ⟨rfl, hO2⟩)
      | (refine ⟨trivial, ?_⟩; gi_at_call 32; refine (callsIn_wide.2 (Lines_any _ _ _ _)).mono ?_; rintro e w9 ⟨rfl, rfl⟩)
    have hsz2 : w.heap.size + 1 ≤ w2.heap.size := by have := hO2.size; simpa using this
    have hOw2 : Only [] w w2 := ((Only.refl _ _).alloc _).then hO2
    obtain ⟨gn, hgn⟩ : ∃ gn, w.heap.size = gn := ⟨_, rfl⟩
    obtain ⟨gl, hgl⟩ : ∃ gl, w2.heap.size = gl := ⟨_, rfl⟩
    have hNn : Bk w2 gn 3 #[.int .i64 N] := by rw [← hgn]; exact (Bk.new w _ _).only hO2 (fun hm => nomatch hm)
    obtain ⟨w1, hw1⟩ : ∃ w1, (w2.alloc (.cells #[.int .i64 (n : Int)] 3)).alloc (.cells #[.slice A 0 0] 22) = w1 := ⟨_, rfl⟩
    have hsz1 : w1.heap.size = gl + 2 := by rw [← hw1]; simp [hgl]
    have hO1 : Only [] w w1 := by rw [← hw1]; exact (hOw2.alloc _).alloc _
    have hN1' : Bk w1 gn 3 #[.int .i64 N] := by rw [← hw1]; exact (hNn.alloc _).alloc _
    have hL1 : Bk w1 gl 3 #[.int .i64 (n : Int)] := by rw [← hw1, ← hgl]; exact (Bk.new _ _ _).alloc _
    have hblk : ∀ x ∈ blks A, x < w.heap.size := fun x hx => HA.out x hx
    have hIt : Iter w1 (gl + 1) ((gl + 1) :: blks A) p 0 0 := by
      have := iter_start (hcut.keep (hOw2.alloc (.cells #[.int .i64 (n : Int)] 3))) (fun x hx => by have := hblk x hx; simp; omega)
      rw [hw1] at this
      simpa [hgl] using this
    rw [hgl]
    rw [hgn] at hsz2
    rw [hgn]
    rw [hw1]
    have hS : ∀ k ∈ ((gl + 1) :: blks A), k < w1.heap.size := fun k hk => by
      rcases List.mem_cons.1 hk with rfl | hk
      · omega
      · have := hblk k hk; omega
    clear hw1 hNn
    refine range_lines (by omega) rfl hIt hS (by simp)
      (fun k W => Bk W gn 3 #[.int .i64 (N - (k : Int))] ∧ Bk W gl 3 #[.int .i64 ((n + sumK p k : Nat) : Int)] ∧ Only [] w W ∧ Hid ((k : Int) ≤ N ∨ k = 0))
      (fun cd k W => cd = .exit 0 ∧ Bk W gl 3 #[.int .i64 (T : Int)] ∧ Only [] w W)
      (fun k W W' h o => ⟨h.1.only o (by simp; omega), h.2.1.only o (by simp; omega), h.2.2.1.trans o (fun x hx => by simp at hx; omega), h.2.2.2⟩)
      (fun cd k W W' h o => ⟨h.1, h.2.1.only o (by simp; omega), h.2.2.trans o (fun x hx => by simp at hx; omega)⟩)
      ⟨by simpa using hN1', by simpa [sumK] using hL1, hO1, .inr rfl⟩
      (fun v => { tmps := #[.slice A n n, .int .i64 N, undef, .pointer (some ⟨gn, 0, none⟩), .slice none 0 0, .pointer (some ⟨gl, 0, none⟩), v, .slice A n n, .int .i64 (n : Int), .slice A n n, .int .i64 (n : Int), .slice A 0 0, .func (.func 49) #[] #[.pointer (some ⟨gl + 1, 0, none⟩)], v, undef, undef, undef, undef, undef, undef, undef, undef, undef, undef, undef, undef], defers := [] }) ?assign ?body ?done ?stop
    case assign =>
      intro l v W K hK
      gi_wp2
      exact hK
    case body =>
      rintro q k ln A2 W ⟨hNk, hLk, hO, HK⟩ hln hB hA2 hsz
      have hsum := sumK_succ hln
      have hsle := sumK_le p (k + 1)
      rw [HPL.out] at hsle
      have c0 : W.cell? ⟨gn, 0, none⟩ = some (.int .i64 (N - (k : Int))) := by rw [hNk.cell]; rfl
      have f0 := hNk.free 0
      have f1 := hLk.free 0
      obtain ⟨m, hm⟩ : ∃ m, ln.length = m := ⟨_, rfl⟩
      obtain ⟨s, hs⟩ : ∃ s, n + sumK p k = s := ⟨_, rfl⟩
      rw [hs] at hLk
      rw [hm] at hsum ⊢
      have c1' : W.cell? ⟨gl, 0, none⟩ = some (.int .i64 (s : Int)) := by rw [hLk.cell]; rfl
      obtain ⟨M, hM⟩ : ∃ M, N - (k : Int) = M := ⟨_, rfl⟩
      rw [hM] at c0 hNk
      have hngl : gn ≠ gl := by omega
      by_cases hpos : M ≤ 0
      · have HE : Hid (s = T) := by
          show _ = _
          rw [HTP.out, ← hs]
          have : N.toNat = k := by rcases HK.out with h | h <;> omega
          rw [this]
        clear hs hM hm hsum HK
        gi_wp2
        rw [HE.out] at hLk
        exact ⟨Keeps.refl _ _, rfl, hLk, hO⟩
      · have hpos' : 0 < M := by omega
        obtain ⟨u, hu⟩ : ∃ u, s + m = u := ⟨_, rfl⟩
        have hu' : (s : Int) + (m : Int) = (u : Int) := by omega
        have hub : (u : Int) ≤ 2097152 := by omega
        have HE : Hid (n + sumK p (k + 1) = u) := by show _ = _; omega
        have HM : Hid (N - ((k + 1 : Nat) : Int) = M - 1) := by show _ = _; omega
        have HK2 : Hid (((k + 1 : Nat) : Int) ≤ N ∨ k + 1 = 0) := .inl (by omega)
        have hM9 : M ≤ 9223372036854775807 := by omega
        clear hs hM hm hsum hu HK hsle
        gi_wp2
        have hOall : Only [gn, gl] W ((W.setCell ⟨gl, 0, none⟩ (.int .i64 (u : Int))).setCell ⟨gn, 0, none⟩ (.int .i64 (M - 1))) := ((Only.refl _ _).setCell (.inl (by simp)) _).setCell (.inl (by simp)) _
        refine ⟨keepS hOall (by omega) (fun k hk => by have := hS k (by simpa using hk); omega) (fun x hx => ?_), ?_, ?_, hO.trans hOall (fun x hx => by simp at hx; omega), HK2⟩
        · have hx' : x = gn ∨ x = gl := by simpa using hx
          refine ⟨fun h => ?_, by omega, by omega⟩
          have h := (by simpa using h : x ∈ (gl + 1) :: blks A)
          rcases List.mem_cons.1 h with h | h
          · omega
          · have := hblk _ h; omega
        · rw [HM.out]
          simpa using (hNk.far (p := ⟨gl, 0, none⟩) hngl (.int .i64 (u : Int))).set 0 (.int .i64 (M - 1))
        · rw [show (n : Int) + ((sumK p (k + 1) : Nat) : Int) = (u : Int) by have := HE.out; omega]
          simpa using (hLk.set 0 (.int .i64 (u : Int))).far (p := ⟨gn, 0, none⟩) (Ne.symm hngl) (.int .i64 (M - 1))
    case done =>
      rintro D W ⟨hNk, hLk, hO, HK⟩ hD hK
      have HE : Hid (n + sumK p (lns p).length = T) := by
        show _ = _
        rw [HTP.out]
        unfold sumK
        rw [List.take_length]
        rcases HK.out with h | h
        · rw [List.take_of_length_le (by omega)]
        · rw [List.eq_nil_of_length_eq_zero h]
          simp
      rw [HE.out] at hLk
      have c1' : W.cell? ⟨gl, 0, none⟩ = some (.int .i64 (T : Int)) := by rw [hLk.cell]; rfl
      have hDlt := (Array.getElem?_eq_some_iff.1 hK).1
      have HD : Hid (w.heap.size ≤ D) := (by show _ ≤ _; omega)
      clear hD
      gi_wp2_with (refine ⟨trivial, ?_⟩; gi_at_call 33; refine (callsIn_wide.2 (clone_any _ (hpreT.keep hO).sl (by omega))).mono ?_; rintro e w3 ⟨A3, c3, rfl, hV3, hO3, hB3⟩)
      have hK3 := (hO3.block D hDlt (fun hm => nomatch hm)).trans hK
      refine ⟨by simp, .inl ⟨_, _, rfl, run_takeDeferred hK3, ?_⟩⟩
      refine ⟨_, results_tmp rfl _ _ _, A3, c3, by rw [HTL.out]; rfl, by rw [HTL.out]; exact hV3.only (putObj_only _ _ _) (fun x hx hm => by have := hB3 x hx; simp at hm; omega), (hO.then hO3).trans (putObj_only _ _ _) (fun x hx => by simp at hx; right; have := HD.out; omega), fun x hx => Nat.le_trans hO.size (hB3 x hx)⟩
    case stop =>
      rintro D cd k W hk ⟨rfl, hLk, hO⟩ hD hK
      have c1' : W.cell? ⟨gl, 0, none⟩ = some (.int .i64 (T : Int)) := by rw [hLk.cell]; rfl
      have hDlt := (Array.getElem?_eq_some_iff.1 hK).1
      have HD : Hid (w.heap.size ≤ D) := (by show _ ≤ _; omega)
      clear hD
      gi_wp2_with (refine ⟨trivial, ?_⟩; gi_at_call 33; refine (callsIn_wide.2 (clone_any _ (hpreT.keep hO).sl (by omega))).mono ?_; rintro e w3 ⟨A3, c3, rfl, hV3, hO3, hB3⟩)
      have hK3 := (hO3.block D hDlt (fun hm => nomatch hm)).trans hK
      refine ⟨by simp, .inl ⟨_, _, rfl, run_takeDeferred hK3, ?_⟩⟩
      refine ⟨_, results_tmp rfl _ _ _, A3, c3, by rw [HTL.out]; rfl, by rw [HTL.out]; exact hV3.only (putObj_only _ _ _) (fun x hx hm => by have := hB3 x hx; simp at hm; omega), (hO.then hO3).trans (putObj_only _ _ _) (fun x hx => by simp at hx; right; have := HD.out; omega), fun x hx => Nat.le_trans hO.size (hB3 x hx)⟩
  · rw [if_neg hcH] at hcut
    cases A with
    | none => have := hnil rfl; omega
    | some ad =>
      have hcut2 : Bt w (some (ad.add H)) (n - H) (c - H) p := hcut
      clear hcut hnil
      refine (callsIn_wide (n := 5)).1 ?_
      refine callsIn_of_wp_marks Tryd.func19 rfl trivial ?_ rfl
      simp only [Tryd.ntmps19, List.size_toArray, List.length_cons, List.length_nil, Nat.reduceAdd, Nat.reduceSub, Array.replicate_succ, Array.replicate_zero, List.push_toArray, List.append_toArray, List.nil_append, List.cons_append]
      gi_wp2_with first
        | (refine ⟨trivial, ?_⟩; gi_at_call 37; refine (callsIn_wide.2 (c1 _ ((Only.refl _ _).alloc _))).mono ?_; rintro e w2 ⟨rfl, hO2⟩)
        | (refine ⟨trivial, ?_⟩; gi_at_call 32; refine (callsIn_wide.2 (Lines_any _ _ _ _)).mono ?_; rintro e w9 ⟨rfl, rfl⟩)
      have hsz2 : w.heap.size + 1 ≤ w2.heap.size := by have := hO2.size; simpa using this
      have hOw2 : Only [] w w2 := ((Only.refl _ _).alloc _).then hO2
      obtain ⟨gn, hgn⟩ : ∃ gn, w.heap.size = gn := ⟨_, rfl⟩
      obtain ⟨gl, hgl⟩ : ∃ gl, w2.heap.size = gl := ⟨_, rfl⟩
      have hNn : Bk w2 gn 3 #[.int .i64 N] := by rw [← hgn]; exact (Bk.new w _ _).only hO2 (fun hm => nomatch hm)
      obtain ⟨w1, hw1⟩ : ∃ w1, (w2.alloc (.cells #[.int .i64 (H : Int)] 3)).alloc (.cells #[.slice (some (ad.add H)) (n - H) (c - H)] 22) = w1 := ⟨_, rfl⟩
      have hsz1 : w1.heap.size = gl + 2 := by rw [← hw1]; simp [hgl]
      have hO1 : Only [] w w1 := by rw [← hw1]; exact (hOw2.alloc _).alloc _
      have hN1' : Bk w1 gn 3 #[.int .i64 N] := by rw [← hw1]; exact (hNn.alloc _).alloc _
      have hL1 : Bk w1 gl 3 #[.int .i64 (H : Int)] := by rw [← hw1, ← hgl]; exact (Bk.new _ _ _).alloc _
      have hblk : ∀ x ∈ blks (some (ad.add H)), x < w.heap.size := fun x hx => HA.out x (by simpa [add_block] using hx)
      have hIt : Iter w1 (gl + 1) ((gl + 1) :: blks (some (ad.add H))) p 0 (n - H) := by
        have := iter_start (hcut2.keep (hOw2.alloc (.cells #[.int .i64 (H : Int)] 3))) (fun x hx => by have := hblk x hx; simp; omega)
        rw [hw1] at this
        simpa [hgl] using this
      rw [hgl]
      rw [hgn] at hsz2
      rw [hgn]
      rw [hw1]
      have hS : ∀ k ∈ ((gl + 1) :: blks (some (ad.add H))), k < w1.heap.size := fun k hk => by
        rcases List.mem_cons.1 hk with rfl | hk
        · omega
        · have := hblk k hk; omega
      clear hw1 hNn
      refine range_lines (by omega) rfl hIt hS (by simp)
        (fun k W => Bk W gn 3 #[.int .i64 (N - (k : Int))] ∧ Bk W gl 3 #[.int .i64 ((H + sumK p k : Nat) : Int)] ∧ Only [] w W ∧ Hid ((k : Int) ≤ N ∨ k = 0))
        (fun cd k W => cd = .exit 0 ∧ Bk W gl 3 #[.int .i64 (T : Int)] ∧ Only [] w W)
        (fun k W W' h o => ⟨h.1.only o (by simp; omega), h.2.1.only o (by simp; omega), h.2.2.1.trans o (fun x hx => by simp at hx; omega), h.2.2.2⟩)
        (fun cd k W W' h o => ⟨h.1, h.2.1.only o (by simp; omega), h.2.2.trans o (fun x hx => by simp at hx; omega)⟩)
        ⟨by simpa using hN1', by simpa [sumK] using hL1, hO1, .inr rfl⟩
        (fun v => { tmps := #[.slice (some ad) n c, .int .i64 N, undef, .pointer (some ⟨gn, 0, none⟩), .slice none 0 0, .pointer (some ⟨gl, 0, none⟩), v, .slice (some ad) n c, .int .i64 (H : Int), .slice (some ad) n c, .int .i64 (H : Int), .slice (some (ad.add H)) (n - H) (c - H), .func (.func 49) #[] #[.pointer (some ⟨gl + 1, 0, none⟩)], v, undef, undef, undef, undef, undef, undef, undef, undef, undef, undef, undef, undef], defers := [] }) ?assign ?body ?done ?stop
      case assign =>
        intro l v W K hK
        gi_wp2
        exact hK
      case body =>
        rintro q k ln A2 W ⟨hNk, hLk, hO, HK⟩ hln hB hA2 hsz
        have hsum := sumK_succ hln
        have hsle := sumK_le p (k + 1)
        rw [HPL.out] at hsle
        have c0 : W.cell? ⟨gn, 0, none⟩ = some (.int .i64 (N - (k : Int))) := by rw [hNk.cell]; rfl
        have f0 := hNk.free 0
        have f1 := hLk.free 0
        obtain ⟨m, hm⟩ : ∃ m, ln.length = m := ⟨_, rfl⟩
        obtain ⟨s, hs⟩ : ∃ s, H + sumK p k = s := ⟨_, rfl⟩
        rw [hs] at hLk
        rw [hm] at hsum ⊢
        have c1' : W.cell? ⟨gl, 0, none⟩ = some (.int .i64 (s : Int)) := by rw [hLk.cell]; rfl
        obtain ⟨M, hM⟩ : ∃ M, N - (k : Int) = M := ⟨_, rfl⟩
        rw [hM] at c0 hNk
        have hngl : gn ≠ gl := by omega
        by_cases hpos : M ≤ 0
        · have HE : Hid (s = T) := by
            show _ = _
            rw [HTP.out, ← hs]
            have : N.toNat = k := by rcases HK.out with h | h <;> omega
            rw [this]
          clear hs hM hm hsum HK
          gi_wp2
          rw [HE.out] at hLk
          exact ⟨Keeps.refl _ _, rfl, hLk, hO⟩
        · have hpos' : 0 < M := by omega
          obtain ⟨u, hu⟩ : ∃ u, s + m = u := ⟨_, rfl⟩
          have hu' : (s : Int) + (m : Int) = (u : Int) := by omega
          have hub : (u : Int) ≤ 2097152 := by omega
          have HE : Hid (H + sumK p (k + 1) = u) := by show _ = _; omega
          have HM : Hid (N - ((k + 1 : Nat) : Int) = M - 1) := by show _ = _; omega
          have HK2 : Hid (((k + 1 : Nat) : Int) ≤ N ∨ k + 1 = 0) := .inl (by omega)
          have hM9 : M ≤ 9223372036854775807 := by omega
          clear hs hM hm hsum hu HK hsle
          gi_wp2
          have hOall : Only [gn, gl] W ((W.setCell ⟨gl, 0, none⟩ (.int .i64 (u : Int))).setCell ⟨gn, 0, none⟩ (.int .i64 (M - 1))) := ((Only.refl _ _).setCell (.inl (by simp)) _).setCell (.inl (by simp)) _
          refine ⟨keepS hOall (by omega) (fun k hk => by have := hS k (by simpa using hk); omega) (fun x hx => ?_), ?_, ?_, hO.trans hOall (fun x hx => by simp at hx; omega), HK2⟩
          · have hx' : x = gn ∨ x = gl := by simpa using hx
            refine ⟨fun h => ?_, by omega, by omega⟩
            have h := (by simpa using h : x ∈ (gl + 1) :: blks (some (ad.add H)))
            rcases List.mem_cons.1 h with h | h
            · omega
            · have := hblk _ h; omega
          · rw [HM.out]
            simpa using (hNk.far (p := ⟨gl, 0, none⟩) hngl (.int .i64 (u : Int))).set 0 (.int .i64 (M - 1))
          · rw [show (H : Int) + ((sumK p (k + 1) : Nat) : Int) = (u : Int) by have := HE.out; omega]
            simpa using (hLk.set 0 (.int .i64 (u : Int))).far (p := ⟨gn, 0, none⟩) (Ne.symm hngl) (.int .i64 (M - 1))
      case done =>
        rintro D W ⟨hNk, hLk, hO, HK⟩ hD hK
        have HE : Hid (H + sumK p (lns p).length = T) := by
          show _ = _
          rw [HTP.out]
          unfold sumK
          rw [List.take_length]
          rcases HK.out with h | h
          · rw [List.take_of_length_le (by omega)]
          · rw [List.eq_nil_of_length_eq_zero h]
            simp
        rw [HE.out] at hLk
        have c1' : W.cell? ⟨gl, 0, none⟩ = some (.int .i64 (T : Int)) := by rw [hLk.cell]; rfl
        have hDlt := (Array.getElem?_eq_some_iff.1 hK).1
        have HD : Hid (w.heap.size ≤ D) := (by show _ ≤ _; omega)
        clear hD
        gi_wp2_with (refine ⟨trivial, ?_⟩; gi_at_call 33; refine (callsIn_wide.2 (clone_any _ (hpreT.keep hO).sl (by omega))).mono ?_; rintro e w3 ⟨A3, c3, rfl, hV3, hO3, hB3⟩)
        have hK3 := (hO3.block D hDlt (fun hm => nomatch hm)).trans hK
        refine ⟨by simp, .inl ⟨_, _, rfl, run_takeDeferred hK3, ?_⟩⟩
        refine ⟨_, results_tmp rfl _ _ _, A3, c3, by rw [HTL.out]; rfl, by rw [HTL.out]; exact hV3.only (putObj_only _ _ _) (fun x hx hm => by have := hB3 x hx; simp at hm; omega), (hO.then hO3).trans (putObj_only _ _ _) (fun x hx => by simp at hx; right; have := HD.out; omega), fun x hx => Nat.le_trans hO.size (hB3 x hx)⟩
      case stop =>
        rintro D cd k W hk ⟨rfl, hLk, hO⟩ hD hK
        have c1' : W.cell? ⟨gl, 0, none⟩ = some (.int .i64 (T : Int)) := by rw [hLk.cell]; rfl
        have hDlt := (Array.getElem?_eq_some_iff.1 hK).1
        have HD : Hid (w.heap.size ≤ D) := (by show _ ≤ _; omega)
        clear hD
        gi_wp2_with (refine ⟨trivial, ?_⟩; gi_at_call 33; refine (callsIn_wide.2 (clone_any _ (hpreT.keep hO).sl (by omega))).mono ?_; rintro e w3 ⟨A3, c3, rfl, hV3, hO3, hB3⟩)
        have hK3 := (hO3.block D hDlt (fun hm => nomatch hm)).trans hK
        refine ⟨by simp, .inl ⟨_, _, rfl, run_takeDeferred hK3, ?_⟩⟩
        refine ⟨_, results_tmp rfl _ _ _, A3, c3, by rw [HTL.out]; rfl, by rw [HTL.out]; exact hV3.only (putObj_only _ _ _) (fun x hx hm => by have := hB3 x hx; simp at hm; omega), (hO.then hO3).trans (putObj_only _ _ _) (fun x hx => by simp at hx; right; have := HD.out; omega), fun x hx => Nat.le_trans hO.size (hB3 x hx)⟩
end
end Go.Proofs.YtmameghebikjbaaDoor
