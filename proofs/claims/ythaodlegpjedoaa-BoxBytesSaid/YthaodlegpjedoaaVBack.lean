/-
  The law BoxBack.
-/
import Derived.Test.YthaodlegpjedoaaVDec3
import Derived.Test.YthaodlegpjedoaaVBxA
import Derived.Test.YthaodlegpjedoaaVIs4
import Derived.Test.YthaodlegpjedoaaVGone
namespace Go.Proofs.Ythaodlegpjedoaa
open Go.RowKit Go.Instr

theorem encB_as {S : Nat → Prop} {w : World} {s : List UInt8} {v x : Int} {l : List Mg} {n ne c : Nat} {A : Option Addr} {eb : List UInt8} (hB : isB ⟨s, v, x, l⟩ = true) (hl : l.length = n) (h : Ms S w A n l) (hn : n ≤ 140737488355328) (he : encB ⟨s, v, x, l⟩ = eb) (hne : eb.length = ne) :
    Calls Try.prog 20 #[.agg #[.string (St s), .int .i64 v, .int .i64 x, .slice A n c]] w fun e w' => ∃ A' c', e = .returned (.tuple #[.slice A' ne c', .int .i64 0]) ∧ Own w' 5 A' ne c' (bvs eb) ∧ Only [] w w' ∧ ∀ k ∈ blks A', w.heap.size ≤ k := by
  have hh := Encode_any (w := w) ⟨s, v, x, l⟩ (A := A) (c := c) (by show Ms S w A l.length l; rw [hl]; exact h) (by show l.length ≤ _; rw [hl]; exact hn)
  rw [bxv_eq hl] at hh
  refine hh.mono fun e w' he' => ?_
  rcases he' with ⟨_, A', c', e1, e2⟩ | ⟨hf, _⟩
  · rw [he, hne] at e1 e2
    exact ⟨A', c', e1, e2⟩
  · rw [hB] at hf
    cases hf
theorem dec_back {s : List UInt8} {v x : Int} {l : List Mg} {n ne : Nat} {eb : List UInt8} (hB : isB ⟨s, v, x, l⟩ = true) (hl : l.length = n) (he : encB ⟨s, v, x, l⟩ = eb) {w : World} {P : Option Addr} {cp : Nat} (h : Sl w P ne (bvs eb)) (hn : ne ≤ 1000000000000) :
    Calls Try.prog 22 #[.slice P ne cp] w fun e w' => ∃ A' c', e = .returned (.tuple #[.agg #[.string (St s), .int .i64 v, .int .i64 x, .slice A' n c'], .int .i64 0]) ∧ Ms AnyB w' A' n l ∧ Only [] w w' := by
  refine (Decode_any (cp := cp) h hn).mono fun e w' he' => ?_
  have hd : decO eb = some ⟨s, v, x, l⟩ := by rw [← he]; exact decO_back hB
  obtain ⟨A', c', e1, e2, e3⟩ := he'
  rw [decB_some hd] at e1 e2
  simp only at e1 e2
  rw [bxv_eq hl] at e1
  rw [hl] at e2
  exact ⟨A', c', e1, e2, e3⟩
theorem same_as {S S' : Nat → Prop} {w : World} {s : List UInt8} {v x : Int} {l : List Mg} {n c1 c2 : Nat} {A1 A2 : Option Addr} (hl : l.length = n) (h1 : Ms S w A1 n l) (h2 : Ms S' w A2 n l) (hn : n ≤ 140737488355328) :
    Calls Try.prog 17 #[.agg #[.string (St s), .int .i64 v, .int .i64 x, .slice A1 n c1], .agg #[.string (St s), .int .i64 v, .int .i64 x, .slice A2 n c2]] w fun e w' => e = .returned (.bool true) ∧ Only [] w w' := by
  subst hl
  have hh := refSame_any (w := w) ⟨s, v, x, l⟩ ⟨s, v, x, l⟩ (A1 := A1) (A2 := A2) (e1 := c1) (e2 := c2) h1 h2 hn hn
  have e : sameB ⟨s, v, x, l⟩ ⟨s, v, x, l⟩ = true := by unfold sameB; simp
  rw [e, bxv_eq rfl] at hh
  exact hh
theorem enc_len_box {b : Bx} (h : isB b = true) : (encB b).length ≤ 100000 := by
  rw [isB_iff] at h
  obtain ⟨h1, _, _, h4, h5⟩ := h
  have hs : b.name.length ≤ 12 := by
    unfold nameL at h1
    simp only [Bool.and_eq_true, decide_eq_true_eq] at h1
    omega
  have r1 := row_len b.name (by omega)
  have r2 := encsLen_le [b.val, b.next, (b.l.length : Int)]
  have r3 := encMs_len (l := b.l) (fun m hm => (rises_at h5 hm).2.2.2)
  unfold encsLen at r2
  simp only [List.length_cons, List.length_nil] at r2
  unfold encB
  rw [List.length_append, List.length_append]
  omega
set_option maxRecDepth 100000 in
set_option maxHeartbeats 8000000 in
theorem back_any {w : World} (b : Bx) {A : Option Addr} {c : Nat} (h : Ms AnyB w A b.l.length b.l) (hn : b.l.length ≤ 140737488351232) (hnm : b.name.length ≤ 140737488351232) :
    Calls Try.prog 5 #[bxv b A c] w fun e w' => e = .returned (.bool true) ∧ Only [] w w' := by
  have cL := fun (W : World) (o : Only [] w W) => large_any b (c := c) (h.keep o) (by omega)
  have cI := fun (W : World) (o : Only [] w W) => refIs_any b (c := c) (h.keep o) (by omega) (by omega)
  obtain ⟨r, hr⟩ : ∃ r, isB b = r := ⟨_, rfl⟩
  rw [hr] at cI
  obtain ⟨s, v, x, l⟩ := b
  obtain ⟨n, hl⟩ : ∃ n, l.length = n := ⟨_, rfl⟩
  simp only at h hn hnm
  simp only [bxv_eq hl] at cL cI ⊢
  rw [hl] at h hn
  have hO0 : Only [] w (w.alloc (.cells #[.string (St s), .int .i64 v, .int .i64 x, .slice A n c] 26)) := (Only.refl _ _).alloc _
  have HCL := Lib.hid cL
  have HCI := Lib.hid cI
  have B0 := Lib.hid (Bk.new w 26 #[.string (St s), .int .i64 v, .int .i64 x, .slice A n c])
  have HKN := Lib.hid known_any
  obtain ⟨eb, heb⟩ : ∃ eb, encB ⟨s, v, x, l⟩ = eb := ⟨_, rfl⟩
  obtain ⟨ne, hne⟩ : ∃ ne, eb.length = ne := ⟨_, rfl⟩
  have HEN : Hid (r = true → ∀ W, Only [] w W → Calls Try.prog 20 #[.agg #[.string (St s), .int .i64 v, .int .i64 x, .slice A n c]] W fun e w' => ∃ A' c', e = .returned (.tuple #[.slice A' ne c', .int .i64 0]) ∧ Own w' 5 A' ne c' (bvs eb) ∧ Only [] W w' ∧ ∀ k ∈ blks A', W.heap.size ≤ k) :=
    fun e W o => encB_as (by rw [hr]; exact e) hl (h.keep o) (by omega) heb hne
  have HDE : Hid (r = true → ∀ W P cp, Sl W P ne (bvs eb) → Calls Try.prog 22 #[.slice P ne cp] W fun e w' => ∃ A' c', e = .returned (.tuple #[.agg #[.string (St s), .int .i64 v, .int .i64 x, .slice A' n c'], .int .i64 0]) ∧ Ms AnyB w' A' n l ∧ Only [] W w') :=
    fun e W P cp hs => dec_back (by rw [hr]; exact e) hl heb hs (by have := enc_len_box (b := ⟨s, v, x, l⟩) (by rw [hr]; exact e); rw [heb, hne] at this; omega)
  have HSA := Lib.hid (fun (W : World) (A2 : Option Addr) (c2 : Nat) (o : Only [] w W) (h2 : Ms AnyB W A2 n l) => same_as (s := s) (v := v) (x := x) (c1 := c) (c2 := c2) hl (h.keep o) h2 (by omega))
  obtain ⟨t, ht⟩ : ∃ t, St s = t := ⟨_, rfl⟩
  rw [ht] at HCL HCI B0 hO0 HEN HDE HSA ⊢
  clear cL cI h hl hr heb hne ht hnm
  go_enter Try.func5, Try.ntmps5
  go_wp2_with fail
  refine (HCL.out _ hO0).mono ?_
  rintro e w2 ⟨B, rfl, O2⟩
  obtain ⟨c0, c1, c2, c3⟩ := bk_four (B0.out.only O2 (by simp))
  cases B
  case true =>
    go_wp2
    go_ret
    exact ⟨rfl, hO0.then O2⟩
  cases r
  · go_wp2_with (go_at_call 15; go_must (with_reducible refine (HCI.out _ (hO0.then O2)).mono ?_); rintro e w3 ⟨rfl, O3⟩)
    go_ret
    exact ⟨rfl, (hO0.then O2).then O3⟩
  go_wp2_with (first
    | (go_at_call 15; go_must (with_reducible refine (HCI.out _ (hO0.then O2)).mono ?_); rintro e w3 ⟨rfl, O3⟩; have Q3 := (hO0.then O2).then O3; have B3 := (B0.out.only O2 (by simp)).only O3 (by simp); clear c0 c1 c2 c3; obtain ⟨c0, c1, c2, c3⟩ := bk_four B3)
    | (go_at_call 20; go_must (refine (HEN.out (by trivial) _ Q3).mono ?_); rintro e w4 ⟨A4, c4, rfl, V4, O4, F4⟩; have Q4 := Q3.then O4; have B4 := B3.only O4 (by simp); clear c0 c1 c2 c3; obtain ⟨c0, c1, c2, c3⟩ := bk_four B4)
    | (go_at_call 22; go_must (refine (HDE.out (by trivial) _ A4 c4 V4.sl).mono ?_); rintro e w5 ⟨A5, c5, rfl, M5, O5⟩; have Q5 := (Q4.then O5).alloc (.cells #[.string t, .int .i64 v, .int .i64 x, .slice A5 n c5] 26); have B5 := (B4.only O5 (by simp)).alloc (.cells #[.string t, .int .i64 v, .int .i64 x, .slice A5 n c5] 26); clear c0 c1 c2 c3; obtain ⟨c0, c1, c2, c3⟩ := bk_four B5; have M6 := M5.keep ((Only.refl [] w5).alloc (.cells #[.string t, .int .i64 v, .int .i64 x, .slice A5 n c5] 26)))
    | (go_at_call 17; go_must (refine (HSA.out _ A5 c5 Q5 M6).mono ?_); rintro e w6 ⟨rfl, O6⟩)
    | (go_at_call 18; go_must (with_reducible refine (HKN.out _).mono ?_); rintro e w7 ⟨rfl, O7⟩))
  go_ret
  exact ⟨rfl, (Q5.then O6).then O7⟩
end Go.Proofs.Ythaodlegpjedoaa
