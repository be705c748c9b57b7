/-
  mime.boundaryOf.
-/
import Derived.Test.YtakehogenioobaaDoorMRange2
import Derived.Test.YtakehogenioobaaDoorMLeaf
import Derived.Test.YtakehogenioobaaDoorHSame
import Derived.Test.YtakehogenioobaaDoorHLen
namespace Go.Proofs.YtakehogenioobaaDoor
open Go.RowKit Go.Instr
attribute [local go_sem] Oper.semAt_some

theorem pcs_len : ∀ (l : List UInt8), ∀ t ∈ pcs l, t.length ≤ l.length
  | [], t, h => by simp [pcs] at h; rw [h]; simp
  | x :: r, t, h => by
    rw [pcs] at h
    have ih := pcs_len r
    split at h
    · rcases List.mem_cons.1 h with rfl | h
      · simp
      · have := ih t h; rw [List.length_cons]; omega
    · split at h
      · rw [List.mem_singleton.1 h]; simp
      · rename_i l2 r2 he
        rw [he] at ih
        rcases List.mem_cons.1 h with rfl | h
        · have := ih l2 (by simp); simp; omega
        · have := ih t (by simp [h]); rw [List.length_cons]; omega
theorem bnds_at {l t : List UInt8} {k : Nat} (h : (pcs l)[k]? = some t) : bnds ((pcs l).drop k) = if isBd t = true then bare (trimB (t.drop (fi 61 t + 1))) else bnds ((pcs l).drop (k + 1)) := by
  obtain ⟨hk, e⟩ := List.getElem?_eq_some_iff.1 h
  rw [List.drop_eq_getElem_cons hk, e, bnds]
/-- A result that is a text in a cell. -/
theorem results_text {fn : Func} {p : Tmp} (h : fn.results = #[.cell p 9]) (tmps : Array Value) (w : World) (a : Addr) (s : ByteArray) (hp : tmps.getD p undef = .pointer (some a)) (hc : w.cell? a = some (.string s)) : (results fn tmps).run Tryd.prog w = .ok (.string s) w := by
  have hp' : tmps[p]?.getD undef = .pointer (some a) := by simpa using hp
  simp [results, h, hp', asAddr, loadVar, go_sem, hc]

set_option maxRecDepth 100000 in
set_option maxHeartbeats 2000000 in
theorem boundaryOf_any (l : List UInt8) (hb : l.length ≤ 4096) (w : World) : Calls Tryd.prog 25 #[.string (St l)] w fun e w' => e = .returned (.string (St (bnds (pcs l)))) ∧ Only [] w w' := by
  obtain ⟨T, hT⟩ : ∃ T, St (bnds (pcs l)) = T := ⟨_, rfl⟩
  rw [hT]
  obtain ⟨w1, hw1⟩ : ∃ w1, (((w.alloc (.cells #[.string ⟨#[]⟩] 9)).alloc (.cells #[.string (St l)] 9)).alloc (.cells #[.string ⟨#[59]⟩] 9)).alloc (.cells #[.int .i64 0] 3) = w1 := ⟨_, rfl⟩
  have hsz1 : w1.heap.size = w.heap.size + 4 := by rw [← hw1]; simp
  have hO1 : Only [] w w1 := by rw [← hw1]; exact ((((Only.refl _ _).alloc _).alloc _).alloc _).alloc _
  have hN1 : Bk w1 w.heap.size 9 #[.string ⟨#[]⟩] := by rw [← hw1]; exact (((Bk.new _ _ _).alloc _).alloc _).alloc _
  have hIt : IterP w1 (w.heap.size + 1) l 0 l := by
    have e0 := Bk.new (w.alloc (.cells #[.string ⟨#[]⟩] 9)) 9 #[.string (St l)]
    have e1 := Bk.new ((w.alloc (.cells #[.string ⟨#[]⟩] 9)).alloc (.cells #[.string (St l)] 9)) 9 #[.string ⟨#[59]⟩]
    have e2 := Bk.new (((w.alloc (.cells #[.string ⟨#[]⟩] 9)).alloc (.cells #[.string (St l)] 9)).alloc (.cells #[.string ⟨#[59]⟩] 9)) 3 #[.int .i64 0]
    simp only [World.size_alloc] at e0 e1 e2
    refine ⟨List.length_pos_iff.2 (pcs_ne l), by simp, by omega, ?_, ?_, ?_⟩
    · rw [← hw1]; exact (e0.alloc _).alloc _
    · rw [← hw1]; exact e1.alloc _
    · rw [← hw1]; exact e2
  have cS := Split_any l (w.alloc (.cells #[.string ⟨#[]⟩] 9))
  rw [hw1, World.size_alloc] at cS
  have HL := Lib.hid hb
  have HT := Lib.hid hT
  obtain ⟨tl, htl⟩ : ∃ tl, St l = tl := ⟨_, rfl⟩
  rw [htl] at cS
  rw [htl]
  clear hw1 hT htl
  refine (callsIn_wide (n := 5)).1 ?_
  refine callsIn_of_wp_marks Tryd.func25 rfl trivial ?_ rfl
  simp only [Tryd.ntmps25, List.size_toArray, List.length_cons, List.length_nil, Nat.reduceAdd, Nat.reduceSub, Array.replicate_succ, Array.replicate_zero, List.push_toArray, List.append_toArray, List.nil_append, List.cons_append]
  gi_wp2_with (refine ⟨trivial, ?_⟩; gi_at_call 39; refine (callsIn_wide.2 cS).mono ?_; rintro e w9 ⟨rfl, rfl⟩)
  have hS : ∀ k ∈ [w.heap.size + 1, w.heap.size + 2, w.heap.size + 3], k < w1.heap.size := fun k hk => by
    simp at hk
    omega
  refine range_pieces (by omega) rfl hIt hS (by simp) (by simp) (by simp)
    (fun k W => Only [] w W ∧ Bk W w.heap.size 9 #[.string ⟨#[]⟩] ∧ Hid (bnds (pcs l) = bnds ((pcs l).drop k)))
    (fun cd k W => cd = .ret ∧ Bk W w.heap.size 9 #[.string T] ∧ Only [] w W)
    (fun k W W' h o => ⟨h.1.trans o (fun x hx => by simp at hx; omega), h.2.1.only o (by simp; omega), h.2.2⟩)
    (fun cd k W W' h o => ⟨h.1, h.2.1.only o (by simp; omega), h.2.2.trans o (fun x hx => by simp at hx; omega)⟩)
    ⟨hO1, hN1, rfl⟩
    (fun v => { tmps := #[.string tl, undef, .pointer (some ⟨w.heap.size, 0, none⟩), v, undef, undef, undef, .string tl, .func (.func 77) #[] #[.pointer (some ⟨w.heap.size + 2, 0, none⟩), .pointer (some ⟨w.heap.size + 1, 0, none⟩), .pointer (some ⟨w.heap.size + 3, 0, none⟩)], v, undef, undef, undef, undef, undef, undef, undef, undef, undef, undef, undef, undef, undef, undef, undef], defers := [] }) ?assign ?body ?done ?stop
  case assign =>
    intro l v W K hK
    gi_wp2
    exact hK
  case body =>
    rintro q k t W ⟨hO, hN, HH⟩ hln hsz
    have hat := bnds_at hln
    have htl : t.length ≤ 4096 := Nat.le_trans (pcs_len l t (List.mem_of_getElem? hln)) HL.out
    have f0 := hN.free 0
    have c0 : W.cell? ⟨w.heap.size, 0, none⟩ = some (.string ⟨#[]⟩) := by rw [hN.cell]; rfl
    have cC := sCut_any t (by omega) 61 W
    obtain ⟨m, hm⟩ : ∃ m, fi 61 t = m := ⟨_, rfl⟩
    have hbd : isBd t = (decide (m < t.length) && sameT (trimB (t.take m)) bdN) := by unfold isBd; rw [hm]
    rw [hm] at cC hat
    obtain ⟨nm, hnm⟩ : ∃ nm, t.take m = nm := ⟨_, rfl⟩
    obtain ⟨vl, hvl⟩ : ∃ vl, t.drop (m + 1) = vl := ⟨_, rfl⟩
    have hnl : nm.length ≤ 4096 := by rw [← hnm, List.length_take]; omega
    have hvll : vl.length ≤ 4096 := by rw [← hvl, List.length_drop]; omega
    rw [hnm] at cC hbd
    rw [hvl] at cC hat
    have cT := fun W1 => sTrim_any nm (by omega) W1
    have hnt := trimB_len nm
    have cS := fun W1 => Same_any (St (trimB nm)) ⟨#[98, 111, 117, 110, 100, 97, 114, 121]⟩ (by rw [St_size]; omega) (by decide) W1
    rw [St_list, show (ByteArray.mk #[98, 111, 117, 110, 100, 97, 114, 121]).data.toList = bdN from rfl] at cS
    have cV := fun W1 => sTrim_any vl (by omega) W1
    have hvt := trimB_len vl
    have cB := fun W1 => bare_any (trimB vl) (by omega) W1
    obtain ⟨t1, ht1⟩ : ∃ t1, St t = t1 := ⟨_, rfl⟩
    obtain ⟨t2, ht2⟩ : ∃ t2, St nm = t2 := ⟨_, rfl⟩
    obtain ⟨t3, ht3⟩ : ∃ t3, St vl = t3 := ⟨_, rfl⟩
    obtain ⟨t4, ht4⟩ : ∃ t4, St (trimB nm) = t4 := ⟨_, rfl⟩
    obtain ⟨t5, ht5⟩ : ∃ t5, St (trimB vl) = t5 := ⟨_, rfl⟩
    obtain ⟨t6, ht6⟩ : ∃ t6, St (bare (trimB vl)) = t6 := ⟨_, rfl⟩
    obtain ⟨z1, hz1⟩ : ∃ z, decide (m < t.length) = z := ⟨_, rfl⟩
    obtain ⟨z2, hz2⟩ : ∃ z, sameT (trimB nm) bdN = z := ⟨_, rfl⟩
    rw [hz1, hz2] at hbd
    rw [ht1, ht2, ht3, hz1] at cC
    rw [ht2, ht4] at cT
    rw [ht4, hz2] at cS
    rw [ht3, ht5] at cV
    rw [ht5, ht6] at cB
    rw [hbd] at hat
    have HAT := Lib.hid hat
    have HT6 := Lib.hid ht6
    rw [ht1]
    clear hm hnm hvl hz1 hz2 hbd hat ht1 ht2 ht3 ht4 ht5 ht6 hnl hvll hnt hvt htl
    cases z1 with
    | false =>
      have HE : Hid (bnds (pcs l) = bnds ((pcs l).drop (k + 1))) := by
        show _ = _
        rw [HH.out, HAT.out, if_neg (by simp)]
      clear HAT HT6
      gi_wp2_with first
        | (refine ⟨trivial, ?_⟩; gi_at_call 22; refine (CallsIn.inRound q (callsIn_wide.2 cC)).mono ?_; rintro e w2 ⟨rfl, hO2⟩)
        | (refine ⟨trivial, ?_⟩)
      refine ⟨keepS hO2 (by omega) hS (fun x hx => nomatch hx), hO.then hO2, hN.only hO2 (fun hm => nomatch hm), HE⟩
    | true =>
      cases z2 with
      | false =>
        have HE : Hid (bnds (pcs l) = bnds ((pcs l).drop (k + 1))) := by
          show _ = _
          rw [HH.out, HAT.out, if_neg (by decide)]
        clear HAT HT6
        gi_wp2_with first
          | (refine ⟨trivial, ?_⟩; gi_at_call 22; refine (CallsIn.inRound q (callsIn_wide.2 cC)).mono ?_; rintro e w2 ⟨rfl, hO2⟩)
          | (refine ⟨trivial, ?_⟩; gi_at_call 24; refine (CallsIn.inRound q (callsIn_wide.2 (cT w2))).mono ?_; rintro e w3 ⟨rfl, hO3⟩)
          | (refine ⟨trivial, ?_⟩; gi_at_call 30; refine (CallsIn.inRound q (callsIn_wide.2 (cS w3))).mono ?_; rintro e w4 ⟨rfl, hO4⟩)
        have hO5 := (hO2.then hO3).then hO4
        refine ⟨keepS hO5 (by omega) hS (fun x hx => nomatch hx), hO.then hO5, hN.only hO5 (fun hm => nomatch hm), HE⟩
      | true =>
        have HE : Hid (T = t6) := by
          show _ = _
          rw [← HT.out, HH.out, HAT.out, if_pos (by decide)]
          exact HT6.out
        clear HAT HT6
        gi_wp2_with first
          | (refine ⟨trivial, ?_⟩; gi_at_call 22; refine (CallsIn.inRound q (callsIn_wide.2 cC)).mono ?_; rintro e w2 ⟨rfl, hO2⟩)
          | (refine ⟨trivial, ?_⟩; gi_at_call 24; refine (CallsIn.inRound q (callsIn_wide.2 (cT w2))).mono ?_; rintro e w3 ⟨rfl, hO3⟩; clear cT)
          | (refine ⟨trivial, ?_⟩; gi_at_call 30; refine (CallsIn.inRound q (callsIn_wide.2 (cS w3))).mono ?_; rintro e w4 ⟨rfl, hO4⟩; clear cS)
          | (refine ⟨trivial, ?_⟩; gi_at_call 24; refine (CallsIn.inRound q (callsIn_wide.2 (cV w4))).mono ?_; rintro e w5 ⟨rfl, hO5⟩)
          | (refine ⟨trivial, ?_⟩; gi_at_call 40; refine (CallsIn.inRound q (callsIn_wide.2 (cB w5))).mono ?_; rintro e w6 ⟨rfl, rfl⟩; have hO25 : Only [] W w5 := ((hO2.then hO3).then hO4).then hO5; have hN5 := hN.only hO25 (fun hm => nomatch hm); have f5 := hN5.free 0; have c5 : w5.cell? ⟨w.heap.size, 0, none⟩ = some (.string ⟨#[]⟩) := (by rw [hN5.cell]; rfl))
        have hO6 : Only [w.heap.size] W (w5.setCell ⟨w.heap.size, 0, none⟩ (.string t6)) := (hO25.mono (fun x hx => nomatch hx)).setCell (.inl (by simp)) _
        refine ⟨keepS hO6 (by omega) hS (fun x hx => ?_), rfl, ?_, hO.trans hO6 (fun x hx => by simp at hx; omega)⟩
        · rw [List.mem_singleton] at hx
          subst hx
          refine ⟨by simp, by omega, by omega⟩
        · rw [HE.out]
          simpa using hN5.set 0 (.string t6)
  case done =>
    rintro D W ⟨hO, hN, HH⟩ hD hK
    have HE : Hid (T = ⟨#[]⟩) := by
      show _ = _
      rw [← HT.out, HH.out, List.drop_length]
      rfl
    have f0 := hN.free 0
    have c0 : W.cell? ⟨w.heap.size, 0, none⟩ = some (.string ⟨#[]⟩) := by rw [hN.cell]; rfl
    gi_wp2
    have hN2 := hN.set 0 (.string ⟨#[]⟩)
    refine ⟨by simp, .inl ⟨_, _, rfl, run_takeDeferred ((Below.heap_setCell _ _ _ _ (by simp; omega)).trans hK), ?_⟩⟩
    refine ⟨_, results_text rfl _ _ ⟨w.heap.size, 0, none⟩ ⟨#[]⟩ rfl ?_, by rw [HE.out], ((hO.setCell (.inr (Nat.le_refl _)) _)).trans (putObj_only _ _ _) (fun x hx => by simp at hx; omega)⟩
    rw [(hN2.only (putObj_only _ D _) (by simp; omega)).cell]
    rfl
  case stop =>
    rintro D cd k W hk ⟨rfl, hN, hO⟩ hD hK
    gi_wp2
    refine ⟨by simp, .inl ⟨_, _, rfl, run_takeDeferred hK, ?_⟩⟩
    refine ⟨_, results_text rfl _ _ ⟨w.heap.size, 0, none⟩ T rfl ?_, rfl, hO.trans (putObj_only _ _ _) (fun x hx => by simp at hx; omega)⟩
    rw [(hN.only (putObj_only W D _) (by simp; omega)).cell]
    rfl
end Go.Proofs.YtakehogenioobaaDoor
