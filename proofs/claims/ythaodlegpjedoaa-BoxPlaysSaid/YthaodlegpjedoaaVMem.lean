/-
  box: copies of messages (slices.Clone, messages), rows of numbers (Contains, among).
-/
import Derived.Test.YthaodlegpjedoaaVIs3
import Derived.Test.YthaodlegpjedoaaJoin
import Derived.Test.YthaodlegpjedoaaInts
import Derived.Lib.SliceRun
namespace Go.Proofs.Ythaodlegpjedoaa
open Go.RowKit Go.Instr

set_option maxRecDepth 100000 in
theorem Clone_any {S : Nat → Prop} {w : World} {A : Option Addr} {n c : Nat} {l : List Mg} (h : Ms S w A n l) (hn : n ≤ 1000000000) (hS : ∀ x, w.heap.size ≤ x → S x) :
    Calls Try.prog 84 #[.slice A n c] w fun e w' => ∃ A' c', e = .returned (.slice A' n c') ∧ Mo S w' A' n c' l ∧ Only [] w w' ∧ ∀ k ∈ blks A', w.heap.size ≤ k := by
  cases A with
  | none =>
    have h0 : n = 0 := by
      rcases Nat.eq_zero_or_pos n with h0 | h0
      · exact h0
      · obtain ⟨_, xs, _, h5, _⟩ := h
        obtain ⟨ad, e, _⟩ := h5 h0
        cases e
    subst h0
    obtain rfl : l = [] := List.eq_nil_of_length_eq_zero h.len
    have hnil : ∀ W, (binOp .eql 24 (.slice none 0 c) (.slice none 0 0)).run Try.prog W = .ok (.bool true) W := fun W => Lib.run_eql_slice_nil W _ _ _ _ _ _ _ Try.underlying24
    go_enter Try.func84, Try.ntmps84
    go_wp2
    go_ret
    exact ⟨none, 0, rfl, Mo.nil _ _, Only.refl _ _, fun _ hk => nomatch hk⟩
  | some ad =>
    have hnil : ∀ W, (binOp .eql 24 (.slice (some ad) n c) (.slice none 0 0)).run Try.prog W = .ok (.bool false) W := fun W => Lib.run_eql_slice_nil W _ _ _ _ _ _ _ Try.underlying24
    have h1 := (h.lt.keep ((Only.refl [] w).alloc (.cells #[] 62))).mono (S' := fun x => S x ∧ x ∉ blks (some ⟨w.heap.size, 0, none⟩)) (fun x hx => ⟨hx.1, fun hm => by simp at hm; omega⟩)
    have h2 := Mo.empty w (hS _ (Nat.le_refl _))
    have hO : Only [] w (w.alloc (.cells #[] 62)) := (Only.refl [] w).alloc _
    have hS' : ∀ x, (w.alloc (.cells #[] 62)).heap.size ≤ x → S x := fun x hx => hS x (by simp at hx; omega)
    go_enter Try.func84, Try.ntmps84
    go_wp2_with (refine wpList_append_ms rfl _ _ rfl _ 0 0 [] rfl h2 (some ad) n c l rfl h1 hS' (by omega) n (by omega) ?_; intro A' c' w' M1 O1 B1)
    go_ret
    refine ⟨A', c', rfl, M1, ⟨O1.os, O1.tape, O1.output, Nat.le_trans (by simp) O1.size, fun k hk _ => (O1.block k (by simp; omega) (fun hm => by simp at hm; omega)).trans (hO.block k hk (fun hm => nomatch hm))⟩, fun k hk => ?_⟩
    rcases B1 k hk with h4 | h4
    · simp at h4; omega
    · simp at h4; omega
/-- Join of one row, its length named. -/
theorem join_as (w : World) (A : Option Addr) (c m : Nat) (q : List UInt8) (hlen : q.length = m) (hs : Sl w A m (bvs q)) (hm : m ≤ 1000000000000) :
    Calls Try.prog 66 #[.slice (some ⟨w.heap.size, 0, none⟩) 1 1] (w.alloc (.cells #[.slice A m c] 29)) fun e w' => ∃ P cp, e = .returned (.slice P m cp) ∧ Own w' 5 P m cp (bvs q) ∧ Only [] w w' ∧ ∀ k ∈ blks P, w.heap.size ≤ k := by
  refine (join_one w A c m q hlen hs hm).mono fun e w' hh => ?_
  obtain ⟨⟨P, cp, he, hv, ho, hb⟩, _⟩ := hh
  rw [hlen] at he hv
  exact ⟨P, cp, he, hv, ho, hb⟩
set_option maxRecDepth 100000 in
set_option maxHeartbeats 2000000 in
theorem messages_any {S : Nat → Prop} {w : World} {A : Option Addr} {n c : Nat} {l : List Mg} (h : Ms S w A n l) (hn : n ≤ 1000000) (hb : ∀ m ∈ l, m.body.length ≤ 1000000) (hS : ∀ x, w.heap.size ≤ x → S x) :
    Calls Try.prog 62 #[.slice A n c] w fun e w' => ∃ A' c', e = .returned (.slice A' n c') ∧ Mo S w' A' n c' l ∧ Only [] w w' ∧ ∀ k ∈ blks A', w.heap.size ≤ k := by
  have HC := Lib.hid (Clone_any (c := c) h (by omega) hS)
  have HL := Lib.hid h.len
  have HB := Lib.hid hb
  have HS := Lib.hid hS
  clear h hb hS
  go_enter Try.func62, Try.ntmps62
  go_wp2_with (go_at_call 84; with_reducible refine HC.out.mono ?_; rintro e w1 ⟨A', c', rfl, M1, O1, B1⟩)
  have HM := Lib.hid M1
  have HB1 := Lib.hid B1
  clear M1 HC B1
  go_loopw [9] (fun iv wr => Only [] w wr ∧ w1.heap.size ≤ wr.heap.size ∧ ∃ k : Nat, iv = .int .i64 (k : Int) ∧ k ≤ n ∧ Hid (Mo S wr A' n c' l)) (fun iv _ => n - (intOf iv).toNat)
  case atStart => exact ⟨O1, Nat.le_refl _, 0, rfl, Nat.zero_le _, HM.out⟩
  case round =>
    obtain ⟨hO, hsz, k, rfl, hk, HK⟩ := hrel
    by_cases hlt : k < n
    · have hlt' : (k : Int) < (n : Int) := by omega
      have hkl : k < l.length := by rw [HL.out]; exact hlt
      obtain ⟨g, hA⟩ := HK.out.form (by omega)
      obtain ⟨ad, hA2⟩ : ∃ ad, A' = some ad := ⟨_, hA⟩
      have hadg : ad = ⟨g, 0, none⟩ := by rw [hA] at hA2; injection hA2 with h; exact h.symm
      subst hA2
      obtain ⟨Ab, cb, hm, hf0, hf1, hf3⟩ := HK.out.apart rfl hkl
      have hadlt : ad.block < wr.heap.size := HK.out.lt (by simp)
      have hadw : w.heap.size ≤ ad.block := HB1.out _ (by simp)
      obtain ⟨m0, m1, m2, m3, hsl, hst⟩ := hm
      have hby := HB.out _ (List.getElem_mem hkl)
      have HSB := Lib.hid (fun (W : World) (o : Only [] wr W) (P : Option Addr) (cp : Nat) (hs : Sl W P l[k].body.length (bvs l[k].body)) (hP : 0 < l[k].body.length → ∀ a, P = some a → S a.block ∧ a.block ≠ ad.block) => (HK.out.keep o).setBody rfl hkl P cp hs hP)
      obtain ⟨m, hm⟩ : ∃ m, l[k] = m := ⟨_, rfl⟩
      rw [hm] at m0 m1 m2 m3 hsl hst HSB hby
      clear hm
      obtain ⟨u, f, d, y⟩ := m
      simp only at m0 m1 m2 m3 hsl hst HSB hby
      obtain ⟨z, hz⟩ : ∃ z, y.length = z := ⟨_, rfl⟩
      rw [hz] at m3 hsl HSB hby
      have hO1 : Only [] wr (wr.alloc (.cells #[.int .i64 u, .int .i64 f, .int .i64 d, .slice Ab z cb] 62)) := (Only.refl [] wr).alloc _
      have hj := (join_as (wr.alloc (.cells #[.int .i64 u, .int .i64 f, .int .i64 d, .slice Ab z cb] 62)) Ab cb z y hz (hsl.keep hO1) (by omega))
      rw [World.size_alloc] at hj
      have HJ := Lib.hid hj
      clear hj
      clear hz hsl hst hadg hA
      have hadb : (ad.add (k * 4)).block < wr.heap.size := by rw [add_block]; exact hadlt
      go_wp2_with (go_at_call 66; with_reducible refine HJ.out.mono ?_; rintro e w3 ⟨P, cp, rfl, HV, HO3, HB3⟩; have hO3 := hO1.then HO3; have hf3' := (hO3.frozen (p := ⟨(ad.add (k * 4)).block, (ad.add (k * 4)).off + 3, none⟩) hadb (by simp)).trans hf3; have hfree : (ad.add (k * 4)).block < w3.heap.size := Nat.lt_of_lt_of_le hadb hO3.size; have hc3 := hO3.cellSome m3 (by simp))
      go_roundw
      case rel =>
        refine ⟨(hO.then hO3).setCell (.inr (by show w.heap.size ≤ (ad.add (k * 4)).block; rw [add_block]; exact hadw)) _, by have := hO3.size; simp [World.setCell]; omega, k + 1, by go_num, by omega, ?_⟩
        exact HSB.out w3 hO3 P cp HV.sl (fun _ a e => by
          subst e
          have := HB3 a.block (by simp)
          exact ⟨HS.out _ (by omega), by omega⟩)
      case measure => simp [intOf]; omega
    · obtain rfl : k = n := by omega
      go_wp2
      go_ret
      exact ⟨A', c', rfl, HK.out, hO, HB1.out⟩
end Go.Proofs.Ythaodlegpjedoaa
