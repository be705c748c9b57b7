/-
  'for text := range strings.SplitSeq(s, ";")': the law of the loop, in our words. The iterator turns one of the three cells that it has captured, behind each round.
-/
import Derived.Test.YtakehogenioobaaDoorMStr
import Derived.Test.YtakehogenioobaaDoorHRange
namespace Go.Proofs.YtakehogenioobaaDoor
open Go.RowKit Go.Instr

theorem Split_any (l : List UInt8) (w : World) : Calls Tryd.prog 39 #[.string (St l), .string ⟨#[59]⟩] w fun e w' =>
    e = .returned (.func (.func 77) #[] #[.pointer (some ⟨w.heap.size + 1, 0, none⟩), .pointer (some ⟨w.heap.size, 0, none⟩), .pointer (some ⟨w.heap.size + 2, 0, none⟩)]) ∧
    ((w.alloc (.cells #[.string (St l)] 9)).alloc (.cells #[.string ⟨#[59]⟩] 9)).alloc (.cells #[.int .i64 0] 3) = w' := by
  obtain ⟨t, ht⟩ : ∃ t, St l = t := ⟨_, rfl⟩
  rw [ht]
  have c1 : Calls Tryd.prog 55 #[.string t, .string ⟨#[59]⟩, .int .i64 0] w fun e w' =>
      e = .returned (.func (.func 77) #[] #[.pointer (some ⟨w.heap.size + 1, 0, none⟩), .pointer (some ⟨w.heap.size, 0, none⟩), .pointer (some ⟨w.heap.size + 2, 0, none⟩)]) ∧
      ((w.alloc (.cells #[.string t] 9)).alloc (.cells #[.string ⟨#[59]⟩] 9)).alloc (.cells #[.int .i64 0] 3) = w' := by
    clear ht
    go_enter Tryd.func55, Tryd.ntmps55
    go_wp2
    go_ret
    exact ⟨rfl, rfl⟩
  clear ht
  go_enter Tryd.func39, Tryd.ntmps39
  go_wp2_with (go_at_call 55; (with_reducible refine c1.mono ?_); rintro e w9 ⟨rfl, rfl⟩)
  go_ret
  exact ⟨rfl, rfl⟩

/-- The iterator: k pieces have been told, r is left. -/
def IterP (W : World) (X : Nat) (b : List UInt8) (k : Nat) (r : List UInt8) : Prop :=
  k < (pcs b).length ∧ (pcs b).drop k = pcs r ∧ r.length ≤ 1048576 ∧ Bk W X 9 #[.string (St r)] ∧ Bk W (X + 1) 9 #[.string ⟨#[59]⟩] ∧ Bk W (X + 2) 3 #[.int .i64 0]
theorem IterP.only {W W' : World} {X k : Nat} {b r : List UInt8} {rs : List Nat} (h : IterP W X b k r) (o : Only rs W W') (h0 : X ∉ rs) (h1 : X + 1 ∉ rs) (h2 : X + 2 ∉ rs) : IterP W' X b k r :=
  ⟨h.1, h.2.1, h.2.2.1, h.2.2.2.1.only o h0, h.2.2.2.2.1.only o h1, h.2.2.2.2.2.only o h2⟩
theorem IterP.keeps {W W' : World} {X k : Nat} {b r : List UInt8} {S : List Nat} (h : IterP W X b k r) (o : Keeps S W W') (h0 : X ∈ S) (h1 : X + 1 ∈ S) (h2 : X + 2 ∈ S) : IterP W' X b k r :=
  ⟨h.1, h.2.1, h.2.2.1, h.2.2.2.1.keeps o h0, h.2.2.2.2.1.keeps o h1, h.2.2.2.2.2.keeps o h2⟩
def leftP (X : Nat) (w : World) : Nat := match w.cell? ⟨X, 0, none⟩ with
  | some (.string s) => s.size
  | _ => 0
theorem leftP_eq {W : World} {X k : Nat} {b r : List UInt8} (h : IterP W X b k r) : leftP X W = r.length := by
  unfold leftP
  rw [h.2.2.2.1.cell]
  exact St_size r
theorem piece_at {b r : List UInt8} {k : Nat} (hk : k < (pcs b).length) (hr : (pcs b).drop k = pcs r) : (fi 59 r < r.length → (pcs b)[k]? = some (r.take (fi 59 r)) ∧ k + 1 < (pcs b).length ∧ (pcs b).drop (k + 1) = pcs (r.drop (fi 59 r + 1))) ∧ (¬ fi 59 r < r.length → (pcs b)[k]? = some r ∧ k + 1 = (pcs b).length) := by
  have h1 := pcs_step r
  rw [List.drop_eq_getElem_cons hk] at hr
  constructor
  · intro h
    rw [if_pos h, ← hr] at h1
    injection h1 with h1 h2
    refine ⟨by rw [List.getElem?_eq_getElem hk, h1], ?_, h2⟩
    refine Decidable.byContradiction fun h3 => ?_
    rw [List.drop_of_length_le (by omega)] at h2
    exact pcs_ne _ h2.symm
  · intro h
    rw [if_neg h, ← hr] at h1
    injection h1 with h1 h2
    refine ⟨by rw [List.getElem?_eq_getElem hk, h1], ?_⟩
    have := congrArg List.length h2
    simp at this
    omega

attribute [local go_sem] Oper.semAt_some
set_option maxRecDepth 100000 in
set_option maxHeartbeats 2000000 in
theorem split1_in (n l X : Nat) (hn : 1 ≤ n) (S : List Nat) (b : List UInt8) (J Jx : Nat → World → Prop) (hX0 : X ∈ S) (hX1 : X + 1 ∈ S) (hX2 : X + 2 ∈ S) (hJ : ∀ k W W', J k W → Only [X] W W' → J k W')
    (hY : ∀ k t W, J k W → (pcs b)[k]? = some t → YieldAt Fence.wide (n - 1) Tryd.prog l #[.string (St t)] W (roundEnd S J Jx k W))
    (W : World) (r : List UInt8) (h : IterP W X b 0 r) (h0 : J 0 W) :
    CallsIn Fence.wide n Tryd.prog 77 #[.func (.yield l) #[] #[], .pointer (some ⟨X + 1, 0, none⟩), .pointer (some ⟨X, 0, none⟩), .pointer (some ⟨X + 2, 0, none⟩)] W fun e W' => (∃ v, e = .returned v) ∧ (J (pcs b).length W' ∨ ∃ k, k ≤ (pcs b).length ∧ Jx k W') := by
  refine callsIn_of_wp Tryd.func77 rfl trivial ?_ rfl
  simp only [Tryd.ntmps77, List.size_toArray, List.length_cons, List.length_nil, Nat.reduceAdd, Nat.reduceSub, Array.replicate_succ, Array.replicate_zero, List.push_toArray, List.append_toArray, List.nil_append, List.cons_append]
  have hmix : Tryd.prog.follows .mixedOrders = true := by kernel_rfl
  have hcs : (ByteArray.mk #[59]).size = 1 := rfl
  have hc1 : W.cell? ⟨X + 1, 0, none⟩ = some (.string ⟨#[59]⟩) := by rw [h.2.2.2.2.1.cell]; rfl
  gi_wp2
  gi_loopw [7, 8] (fun _ _ wr => ∃ k r, IterP wr X b k r ∧ J k wr) (fun _ _ wr => leftP X wr)
  case atStart => exact ⟨0, r, h, h0⟩
  case round =>
    obtain ⟨k, r, hI, hJk⟩ := hrel
    have hI' := hI
    obtain ⟨hk, hr, hrl, hB0, hB1, hB2⟩ := hI
    have e0 : wr.cell? ⟨X, 0, none⟩ = some (.string (St r)) := by rw [hB0.cell]; rfl
    have e1 : wr.cell? ⟨X + 1, 0, none⟩ = some (.string ⟨#[59]⟩) := by rw [hB1.cell]; rfl
    have e2 : wr.cell? ⟨X + 2, 0, none⟩ = some (.int .i64 0) := by rw [hB2.cell]; rfl
    have hIx := sIndex_any r 59 wr
    have hle := leftP_eq hI'
    obtain ⟨hp1, hp2⟩ := piece_at hk hr
    by_cases hm : fi 59 r < r.length
    · obtain ⟨ht, hk1, hdr⟩ := hp1 hm
      rw [if_pos hm] at hIx
      have P1 := run_pre_str (P := Tryd.prog) 9 Tryd.underlying9 r (fi 59 r) (fi 59 r : Int) rfl (by omega)
      have P2 := run_suf_str (P := Tryd.prog) 9 Tryd.underlying9 r (fi 59 r + 1) ((fi 59 r : Int) + 1) (by omega) (by omega)
      obtain ⟨fn, tmps, assign, body, hy, hR⟩ := hY k _ wr hJk ht
      have hdl : (r.drop (fi 59 r + 1)).length < r.length := by rw [List.length_drop]; omega
      have hdm : (r.drop (fi 59 r + 1)).length ≤ 1048576 := by omega
      obtain ⟨r2, hr2⟩ : ∃ r2, r.drop (fi 59 r + 1) = r2 := ⟨_, rfl⟩
      rw [hr2] at hdl hdm hdr P2
      obtain ⟨m, hm0⟩ : ∃ m, fi 59 r = m := ⟨_, rfl⟩
      rw [hm0] at hIx P1 P2 hm hy
      have hmi : (m : Int) ≤ 1048576 := by omega
      have hmi0 : (0 : Int) ≤ (m : Int) := by omega
      have hnl : ¬ (m : Int) < 0 := by omega
      obtain ⟨tr, htr⟩ : ∃ t, St r = t := ⟨_, rfl⟩
      obtain ⟨tp, htp⟩ : ∃ t, St (r.take m) = t := ⟨_, rfl⟩
      obtain ⟨ts, hts⟩ : ∃ t, St r2 = t := ⟨_, rfl⟩
      rw [htr] at e0 hIx P1 P2 hB0
      rw [htp] at P1 hy
      rw [hts] at P2
      have HTS := Lib.hid hts
      clear htr htp hts hm0 hr2 hm ht hp1 hp2
      gi_wp2_with (refine ⟨trivial, ?_⟩; gi_at_call 78; refine (callsIn_wide.2 hIx).mono ?_; rintro e w1 ⟨rfl, rfl⟩)
      refine hR.mono ?_
      rintro e W3 (⟨rfl, hJ3, hK3⟩ | ⟨rfl, hJx3⟩)
      · have hB03 := hB0.keeps hK3 hX0
        have hB13 := hB1.keeps hK3 hX1
        have hB23 := hB2.keeps hK3 hX2
        have e03 : W3.cell? ⟨X, 0, none⟩ = some (.string tr) := by rw [hB03.cell]; rfl
        have e13 : W3.cell? ⟨X + 1, 0, none⟩ = some (.string ⟨#[59]⟩) := by rw [hB13.cell]; rfl
        have hf3 := hB03.free 0
        have hO4 : Only [X] W3 (W3.setCell ⟨X, 0, none⟩ (.string ts)) := (Only.refl _ _).setCell (.inl (by simp)) _
        have hI4 : IterP (W3.setCell ⟨X, 0, none⟩ (.string ts)) X b (k + 1) r2 := by
          refine ⟨hk1, hdr, hdm, ?_, hB13.only hO4 (by simp), hB23.only hO4 (by simp)⟩
          rw [HTS.out]
          simpa using hB03.set 0 (.string ts)
        have hJ4 := hJ _ _ _ hJ3 hO4
        gi_wp2
        go_roundw
        case rel => exact ⟨k + 1, r2, hI4, hJ4⟩
        case measure => rw [leftP_eq hI4, hle]; exact hdl
      · gi_wp2
        refine bodyPost_ret (results_none rfl _ _ _) rfl ?_
        exact ⟨⟨_, rfl⟩, .inr ⟨k + 1, by omega, hJx3⟩⟩
    · obtain ⟨ht, hk1⟩ := hp2 hm
      rw [if_neg hm] at hIx
      obtain ⟨fn, tmps, assign, body, hy, hR⟩ := hY k _ wr hJk ht
      obtain ⟨tr, htr⟩ : ∃ t, St r = t := ⟨_, rfl⟩
      rw [htr] at e0 hIx hy
      clear htr hp1 hp2 hm ht
      gi_wp2_with (refine ⟨trivial, ?_⟩; gi_at_call 78; refine (callsIn_wide.2 hIx).mono ?_; rintro e w1 ⟨rfl, rfl⟩)
      refine hR.mono ?_
      rintro e W3 (⟨rfl, hJ3, hK3⟩ | ⟨rfl, hJx3⟩)
      · gi_wp2
        go_end0
        exact ⟨⟨_, rfl⟩, .inl (hk1 ▸ hJ3)⟩
      · gi_wp2
        go_end0
        exact ⟨⟨_, rfl⟩, .inr ⟨k + 1, by omega, hJx3⟩⟩
end Go.Proofs.YtakehogenioobaaDoor
