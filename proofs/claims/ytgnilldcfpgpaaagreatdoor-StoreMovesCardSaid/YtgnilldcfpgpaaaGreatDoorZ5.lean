/-
  Texts of the seat, laid one behind the other: VMem VHas VAdd SLeaf Det.
-/
import Derived.Test.YtgnilldcfpgpaaaGreatDoorZ4
import Derived.Test.YtgnilldcfpgpaaaGreatDoorZ1
import Derived.Lib.SliceRun
import Derived.Deep.RegionLaw
import Derived.Lib.OthersKept
import Derived.Shelf.Abstract
import Derived.Deep.LoopGhost
import Derived.Laws.RangeAny
import Derived.Test.YtgnilldcfpgpaaaGreatDoorZ3
import Derived.Still
namespace Go.Proofs.YtgnilldcfpgpaaaGreatDoor
open Go.RowKit Go.Instr
set_option maxRecDepth 100000 in
theorem Clone_any {S : Nat → Prop} {w : World} {A : Option Addr} {n c : Nat} {l : List Mg} (h : Ms S w A n l) (hn : n ≤ 1000000000) (hS : ∀ x, w.heap.size ≤ x → S x) :
    Calls Tryz.prog 192 #[.slice A n c] w fun e w' => ∃ A' c', e = .returned (.slice A' n c') ∧ Mo S w' A' n c' l ∧ Only [] w w' ∧ ∀ k ∈ blks A', w.heap.size ≤ k := by
  cases A with
  | none =>
    have h0 : n = 0 := by
      rcases Nat.eq_zero_or_pos n with h0 | h0
      · exact h0
      · obtain ⟨_, xs, _, h5, _⟩ := h
        obtain ⟨ad, e, _⟩ := h5 h0
        cases e
    subst h0
    obtain rfl : l = [] := List.eq_nil_of_length_eq_zero h.len
    have hnil : ∀ W, (binOp .eql 69 (.slice none 0 c) (.slice none 0 0)).run Tryz.prog W = .ok (.bool true) W := fun W => Lib.run_eql_slice_nil W _ _ _ _ _ _ _ Tryz.underlying69
    go_enter Tryz.func192, Tryz.ntmps192
    go_wp2
    go_ret
    exact ⟨none, 0, rfl, Mo.nil _ _, Only.refl _ _, fun _ hk => nomatch hk⟩
  | some ad =>
    have hnil : ∀ W, (binOp .eql 69 (.slice (some ad) n c) (.slice none 0 0)).run Tryz.prog W = .ok (.bool false) W := fun W => Lib.run_eql_slice_nil W _ _ _ _ _ _ _ Tryz.underlying69
    have h1 := (h.lt.keep ((Only.refl [] w).alloc (.cells #[] 82))).mono (S' := fun x => S x ∧ x ∉ blks (some ⟨w.heap.size, 0, none⟩)) (fun x hx => ⟨hx.1, fun hm => by simp at hm; omega⟩)
    have h2 := Mo.empty w (hS _ (Nat.le_refl _))
    have hO : Only [] w (w.alloc (.cells #[] 82)) := (Only.refl [] w).alloc _
    have hS' : ∀ x, (w.alloc (.cells #[] 82)).heap.size ≤ x → S x := fun x hx => hS x (by simp at hx; omega)
    go_enter Tryz.func192, Tryz.ntmps192
    go_wp2_with (refine wpList_append_ms rfl _ _ rfl _ 0 0 [] rfl h2 (some ad) n c l rfl h1 hS' (by omega) n (by omega) ?_; intro A' c' w' M1 O1 B1)
    go_ret
    refine ⟨A', c', rfl, M1, ⟨O1.os, O1.tape, O1.output, Nat.le_trans (by simp) O1.size, fun k hk _ => (O1.block k (by simp; omega) (fun hm => by simp at hm; omega)).trans (hO.block k hk (fun hm => nomatch hm))⟩, fun k hk => ?_⟩
    rcases B1 k hk with h4 | h4
    · simp at h4; omega
    · simp at h4; omega
theorem join_as (w : World) (A : Option Addr) (c m : Nat) (q : List UInt8) (hlen : q.length = m) (hs : Sl w A m (bvs q)) (hm : m ≤ 1000000000000) :
    Calls Tryz.prog 137 #[.slice (some ⟨w.heap.size, 0, none⟩) 1 1] (w.alloc (.cells #[.slice A m c] 27)) fun e w' => ∃ P cp, e = .returned (.slice P m cp) ∧ Own w' 5 P m cp (bvs q) ∧ Only [] w w' ∧ ∀ k ∈ blks P, w.heap.size ≤ k := by
  refine (join_one w A c m q hlen hs hm).mono fun e w' hh => ?_
  obtain ⟨⟨P, cp, he, hv, ho, hb⟩, _⟩ := hh
  rw [hlen] at he hv
  exact ⟨P, cp, he, hv, ho, hb⟩
set_option maxRecDepth 100000 in
set_option maxHeartbeats 2000000 in
theorem messages_any {S : Nat → Prop} {w : World} {A : Option Addr} {n c : Nat} {l : List Mg} (h : Ms S w A n l) (hn : n ≤ 1000000) (hb : ∀ m ∈ l, m.body.length ≤ 1000000) (hS : ∀ x, w.heap.size ≤ x → S x) :
    Calls Tryz.prog 146 #[.slice A n c] w fun e w' => ∃ A' c', e = .returned (.slice A' n c') ∧ Mo S w' A' n c' l ∧ Only [] w w' ∧ ∀ k ∈ blks A', w.heap.size ≤ k := by
  have HC := Lib.hid (Clone_any (c := c) h (by omega) hS)
  have HL := Lib.hid h.len
  have HB := Lib.hid hb
  have HS := Lib.hid hS
  clear h hb hS
  go_enter Tryz.func146, Tryz.ntmps146
  go_wp2_with (go_at_call 192; with_reducible refine HC.out.mono ?_; rintro e w1 ⟨A', c', rfl, M1, O1, B1⟩)
  have HM := Lib.hid M1
  have HB1 := Lib.hid B1
  clear M1 HC B1
  go_loopw [9] (fun iv wr => Only [] w wr ∧ w1.heap.size ≤ wr.heap.size ∧ ∃ k : Nat, iv = .int .i64 (k : Int) ∧ k ≤ n ∧ Hid (Mo S wr A' n c' l)) (fun iv _ => n - (intOf iv).toNat)
  case atStart => exact ⟨O1, Nat.le_refl _, 0, rfl, Nat.zero_le _, HM.out⟩
  case round =>
    obtain ⟨hO, hsz, k, rfl, hk, HK⟩ := hrel
    by_cases hlt : k < n
    · have hlt' : (k : Int) < (n : Int) := by omega
      have hkl : k < l.length := by rw [HL.out]; exact hlt
      obtain ⟨g, hA⟩ := HK.out.form (by omega)
      obtain ⟨ad, hA2⟩ : ∃ ad, A' = some ad := ⟨_, hA⟩
      have hadg : ad = ⟨g, 0, none⟩ := by rw [hA] at hA2; injection hA2 with h; exact h.symm
      subst hA2
      obtain ⟨Ab, cb, hm, hf0, hf1, hf3⟩ := HK.out.apart rfl hkl
      have hadlt : ad.block < wr.heap.size := HK.out.lt (by simp)
      have hadw : w.heap.size ≤ ad.block := HB1.out _ (by simp)
      obtain ⟨m0, m1, m2, m3, hsl, hst⟩ := hm
      have hby := HB.out _ (List.getElem_mem hkl)
      have HSB := Lib.hid (fun (W : World) (o : Only [] wr W) (P : Option Addr) (cp : Nat) (hs : Sl W P l[k].body.length (bvs l[k].body)) (hP : 0 < l[k].body.length → ∀ a, P = some a → S a.block ∧ a.block ≠ ad.block) => (HK.out.keep o).setBody rfl hkl P cp hs hP)
      obtain ⟨m, hm⟩ : ∃ m, l[k] = m := ⟨_, rfl⟩
      rw [hm] at m0 m1 m2 m3 hsl hst HSB hby
      clear hm
      obtain ⟨u, f, d, y⟩ := m
      simp only at m0 m1 m2 m3 hsl hst HSB hby
      obtain ⟨z, hz⟩ : ∃ z, y.length = z := ⟨_, rfl⟩
      rw [hz] at m3 hsl HSB hby
      have hO1 : Only [] wr (wr.alloc (.cells #[.int .i64 u, .int .i64 f, .int .i64 d, .slice Ab z cb] 82)) := (Only.refl [] wr).alloc _
      have hj := (join_as (wr.alloc (.cells #[.int .i64 u, .int .i64 f, .int .i64 d, .slice Ab z cb] 82)) Ab cb z y hz (hsl.keep hO1) (by omega))
      rw [World.size_alloc] at hj
      have HJ := Lib.hid hj
      clear hj
      clear hz hsl hst hadg hA
      have hadb : (ad.add (k * 4)).block < wr.heap.size := by rw [add_block]; exact hadlt
      go_wp2_with (go_at_call 137; with_reducible refine HJ.out.mono ?_; rintro e w3 ⟨P, cp, rfl, HV, HO3, HB3⟩; have hO3 := hO1.then HO3; have hf3' := (hO3.frozen (p := ⟨(ad.add (k * 4)).block, (ad.add (k * 4)).off + 3, none⟩) hadb (by simp)).trans hf3; have hfree : (ad.add (k * 4)).block < w3.heap.size := Nat.lt_of_lt_of_le hadb hO3.size; have hc3 := hO3.cellSome m3 (by simp))
      go_roundw
      case rel =>
        refine ⟨(hO.then hO3).setCell (.inr (by show w.heap.size ≤ (ad.add (k * 4)).block; rw [add_block]; exact hadw)) _, by have := hO3.size; simp [World.setCell]; omega, k + 1, by go_num, by omega, ?_⟩
        exact HSB.out w3 hO3 P cp HV.sl (fun _ a e => by
          subst e
          have := HB3 a.block (by simp)
          exact ⟨HS.out _ (by omega), by omega⟩)
      case measure => simp [intOf]; omega
    · obtain rfl : k = n := by omega
      go_wp2
      go_ret
      exact ⟨A', c', rfl, HK.out, hO, HB1.out⟩
end Go.Proofs.YtgnilldcfpgpaaaGreatDoor
namespace Go.Proofs.YtgnilldcfpgpaaaGreatDoor
open Go.RowKit Go.Instr
theorem has_hit {us : List Int} {u : Int} {k : Nat} (h : k < us.length) (he : us[k] = u) : hasU us u = true := by
  unfold hasU
  exact List.contains_iff_mem.2 (he ▸ List.getElem_mem h)
theorem has_none {us : List Int} {u : Int} (h : ∀ j (hj : j < us.length), us[j] ≠ u) : hasU us u = false := by
  rw [Bool.eq_false_iff]
  intro e
  obtain ⟨j, hj, he⟩ := List.mem_iff_getElem.1 (List.contains_iff_mem.1 e)
  exact h j hj he
theorem Sl.int_at {w : World} {A : Option Addr} {n : Nat} {us : List Int} (h : Sl w A n (ivs us)) {k : Nat} (hk : k < n) (hk' : k < us.length) : ∃ ad, A = some ad ∧ w.cell? (ad.add k) = some (.int .i64 us[k]) := by
  obtain ⟨ad, u, e, hu, hc⟩ := h.at_ hk
  rw [ivs_get _ _ hk'] at hu
  injection hu with hu
  subst hu
  exact ⟨ad, e, hc⟩
set_option maxRecDepth 100000 in
theorem Index_any {w : World} {A : Option Addr} {n c : Nat} {us : List Int} (hs : Sl w A n (ivs us)) (hn : n ≤ 140737488355328) (u : Int) :
    Calls Tryz.prog 193 #[.slice A n c, .int .i64 u] w fun e w' => ∃ I : Int, e = .returned (.int .i64 I) ∧ Hid (decide (0 ≤ I) = hasU us u) ∧ w = w' := by
  have HS := Lib.hid hs
  have HL : Hid (us.length = n) := by show _ = _; simpa using hs.len
  clear hs
  go_enter Tryz.func193, Tryz.ntmps193
  go_wp2
  go_loop [8] (fun iv => ∃ k : Nat, iv = .int .i64 (k : Int) ∧ k ≤ n ∧ Hid (∀ j (hj : j < us.length), j < k → us[j] ≠ u)) (fun iv => n - (intOf iv).toNat)
  case atStart => exact ⟨0, rfl, Nat.zero_le _, fun j hj h => absurd h (by omega)⟩
  case round =>
    obtain ⟨k, rfl, hk, HK⟩ := hrel
    by_cases hlt : k < n
    · have hlt' : (k : Int) < (n : Int) := by omega
      have hkl : k < us.length := by rw [HL.out]; exact hlt
      obtain ⟨ad, rfl, hc⟩ := HS.out.int_at hlt hkl
      by_cases hx : us[k] = u
      · have HE : Hid (decide ((0 : Int) ≤ (k : Int)) = hasU us u) := by show _ = _; rw [has_hit hkl hx]; exact decide_eq_true (by omega)
        rw [hx] at hc
        clear hx
        go_wp2
        go_ret
        exact ⟨k, rfl, HE.out, rfl⟩
      · have hx2 : (u == us[k]) = false := beq_eq_false_iff_ne.2 (fun e => hx e.symm)
        have HR : Hid (∀ j (hj : j < us.length), j < k + 1 → us[j] ≠ u) := fun j hj h => by
          rcases Nat.lt_or_ge j k with h1 | h1
          · exact HK.out j hj h1
          · obtain rfl : j = k := by omega
            exact hx
        clear hx
        generalize us[k] = y at hc hx2
        go_wp2
        go_round
        case rel => exact ⟨k + 1, by go_num, by omega, HR⟩
        case measure => simp [intOf]; omega
    · obtain rfl : k = n := by omega
      have HE : Hid (decide ((0 : Int) ≤ -1) = hasU us u) := by show _ = _; rw [has_none fun j hj => HK.out j hj (by rw [← HL.out]; exact hj)]; rfl
      go_wp2
      go_ret
      exact ⟨-1, rfl, HE.out, rfl⟩
theorem Contains_any {w : World} {A : Option Addr} {n c : Nat} {us : List Int} (hs : Sl w A n (ivs us)) (hn : n ≤ 140737488355328) (u : Int) :
    Calls Tryz.prog 147 #[.slice A n c, .int .i64 u] w fun e w' => e = .returned (.bool (hasU us u)) ∧ w = w' := by
  have hI := Index_any (c := c) hs hn u
  clear hs
  go_enter Tryz.func147, Tryz.ntmps147
  go_wp2_with (go_at_call 193; with_reducible refine hI.mono ?_; rintro e w2 ⟨I, rfl, HI, rfl⟩)
  go_ret
  exact ⟨by rw [← HI.out]; rfl, rfl⟩
end Go.Proofs.YtgnilldcfpgpaaaGreatDoor
namespace Go.Proofs.YtgnilldcfpgpaaaGreatDoor
open Go.RowKit Go.Instr
theorem step_append_ms {ops : Array Oper} {o : Oper} {a : Act} {w : World} {K : Act → World → Prop} {Q : Exit → Act → World → Prop} {E : Prop} (hgd : o.guard = none) (s x : Operand)
    (ho : o.op = .call { callee := .builtin .append, args := #[s, x], argTypes := #[69, 69] }) {S : Nat → Prop} (A : Option Addr) (n c : Nat) (l : List Mg) (hs : a.eval s = .slice A n c) (h : Mo S w A n c l)
    (A2 : Option Addr) (m c2 : Nat) (r : List Mg) (hx : a.eval x = .slice A2 m c2) (h2 : Ms (fun x => S x ∧ x ∉ blks A) w A2 m r) (hS : ∀ x, w.heap.size ≤ x → S x) (hn : n + m ≤ 1000000000000) (q : Nat) (hq : n + m = q)
    (hK : ∀ A' c' w', Mo S w' A' q c' (l ++ r) → Only (blks A) w w' → (∀ k ∈ blks A', k ∈ blks A ∨ w.heap.size ≤ k) → K (a.put o.dst (.slice A' q c')) w') :
    if Region.wanted o (yielded ops a.tmps) = true then Oper.wp Tryz.prog o a w K Q else E := by
  subst hq
  have hw : Region.wanted o (yielded ops a.tmps) = true := by simp [Region.wanted, hgd]
  rw [if_pos hw]
  obtain ⟨A', c', w', hrun, k1, k2, k3⟩ := run_append_ms o.type A n c l h A2 m c2 r h2 hS hn
  unfold Oper.wp execOp
  simp only [ho, resolve, invoke, builtin, Sem.run_bind, Sem.run_pure, Result.andThen_ok, List.map_toArray, List.map_cons, List.map_nil, hs, hx, hrun]
  exact hK _ _ _ k1 k2 k3
set_option maxRecDepth 100000 in
theorem refusal_any {w : World} (b : Bx) {A : Option Addr} {c : Nat} (f d : Int) (P : Option Addr) (m cp : Nat) :
    Calls Tryz.prog 199 #[bxv b A c, .int .i64 f, .int .i64 d, .slice P m cp] w fun e w' => e = .returned (.int .i64 (addE b f d m)) ∧ Only [] w w' := by
  obtain ⟨s, v, x, l⟩ := b
  obtain ⟨n, hl⟩ : ∃ n, l.length = n := ⟨_, rfl⟩
  rw [bxv_eq hl]
  obtain ⟨q, hq⟩ : ∃ q, addE ⟨s, v, x, l⟩ f d m = q := ⟨_, rfl⟩
  rw [hq]
  have hq' : q = if markOk f d = false then 1 else if 1200 < m then 5 else if 24 ≤ n then 6 else if 1048576 ≤ x then 10 else 0 := by rw [← hq]; unfold addE; simp only; rw [hl]
  have cM := fun W => mayMark_any f d W
  have hO0 : Only [] w (w.alloc (.cells #[.string (St s), .int .i64 v, .int .i64 x, .slice A n c] 71)) := (Only.refl _ _).alloc _
  clear hq hl
  generalize markOk f d = p at *
  generalize St s = t at *
  cases p
  · have HQ := Lib.hid hq'
    clear hq'
    go_enter Tryz.func199, Tryz.ntmps199
    go_wp2_with (go_at_call 228; with_reducible refine (cM _).mono ?_; rintro e w3 ⟨rfl, rfl⟩)
    go_ret
    exact ⟨by rw [HQ.out]; rfl, hO0⟩
  · rw [if_neg (by simp)] at hq'
    by_cases h1 : 1200 < m
    · rw [if_pos h1] at hq'
      have i1 : (1200 : Int) < (m : Int) := by omega
      have HQ := Lib.hid hq'
      clear hq' h1
      go_enter Tryz.func199, Tryz.ntmps199
      go_wp2_with (go_at_call 228; with_reducible refine (cM _).mono ?_; rintro e w3 ⟨rfl, rfl⟩)
      go_ret
      exact ⟨by rw [HQ.out]; rfl, hO0⟩
    · rw [if_neg h1] at hq'
      have i1 : ¬ (1200 : Int) < (m : Int) := by omega
      by_cases h2 : 24 ≤ n
      · rw [if_pos h2] at hq'
        have i2 : (24 : Int) ≤ (n : Int) := by omega
        have HQ := Lib.hid hq'
        clear hq' h1 h2
        go_enter Tryz.func199, Tryz.ntmps199
        go_wp2_with (go_at_call 228; with_reducible refine (cM _).mono ?_; rintro e w3 ⟨rfl, rfl⟩)
        go_ret
        exact ⟨by rw [HQ.out]; rfl, hO0⟩
      · rw [if_neg h2] at hq'
        have i2 : ¬ (24 : Int) ≤ (n : Int) := by omega
        by_cases h3 : 1048576 ≤ x
        · rw [if_pos h3] at hq'
          have HQ := Lib.hid hq'
          clear hq' h1 h2
          go_enter Tryz.func199, Tryz.ntmps199
          go_wp2_with (go_at_call 228; with_reducible refine (cM _).mono ?_; rintro e w3 ⟨rfl, rfl⟩)
          go_ret
          exact ⟨by rw [HQ.out]; rfl, hO0⟩
        · rw [if_neg h3] at hq'
          have HQ := Lib.hid hq'
          clear hq' h1 h2
          go_enter Tryz.func199, Tryz.ntmps199
          go_wp2_with (go_at_call 228; with_reducible refine (cM _).mono ?_; rintro e w3 ⟨rfl, rfl⟩)
          go_ret
          exact ⟨by rw [HQ.out]; rfl, hO0⟩
theorem bk_store {w : World} {g : Nat} {t : TypeId} {a0 a1 a2 a3 : Value} (h : Bk w g t #[a0, a1, a2, a3]) (b0 b1 b2 b3 : Value) :
    Bk ((((w.setCell ⟨g, 0, none⟩ b0).setCell ⟨g, 1, none⟩ b1).setCell ⟨g, 2, none⟩ b2).setCell ⟨g, 3, none⟩ b3) g t #[b0, b1, b2, b3] := by
  simpa using (((h.set 0 b0).set 1 b1).set 2 b2).set 3 b3
theorem only_store {rs : List Nat} {w w' : World} {g : Nat} (o : Only rs w w') (hg : g ∈ rs ∨ w.heap.size ≤ g) (b0 b1 b2 b3 : Value) :
    Only rs w ((((w'.setCell ⟨g, 0, none⟩ b0).setCell ⟨g, 1, none⟩ b1).setCell ⟨g, 2, none⟩ b2).setCell ⟨g, 3, none⟩ b3) :=
  ((((o.setCell (p := ⟨g, 0, none⟩) hg b0).setCell (p := ⟨g, 1, none⟩) hg b1).setCell (p := ⟨g, 2, none⟩) hg b2).setCell (p := ⟨g, 3, none⟩) hg b3)
theorem Ms.store {S : Nat → Prop} {w : World} {A : Option Addr} {n g : Nat} {l : List Mg} (h : Ms S w A n l) (hg : ¬ S g) (b0 b1 b2 b3 : Value) :
    Ms S ((((w.setCell ⟨g, 0, none⟩ b0).setCell ⟨g, 1, none⟩ b1).setCell ⟨g, 2, none⟩ b2).setCell ⟨g, 3, none⟩ b3) A n l :=
  h.only (only_store (Only.refl [g] w) (.inl (by simp)) b0 b1 b2 b3) (fun x hx hm => by simp at hm; subst hm; exact hg hx)
theorem bxc_eq {s : List UInt8} {v x : Int} {l : List Mg} {n : Nat} (h : l.length = n) (A : Option Addr) (c : Nat) : bxc ⟨s, v, x, l⟩ A c = #[.string (St s), .int .i64 v, .int .i64 x, .slice A n c] := by
  subst h
  rfl
theorem add_piece {S : Nat → Prop} {w w3 w4 : World} {A1 A4 : Option Addr} {n m c1 c4 : Nat} {l : List Mg} {x f d : Int} {p : List UInt8} (hM : Mo (fun y => S y ∧ y ≠ w.heap.size ∧ y ≠ w.heap.size + 1) w3 A1 n c1 l) (hO : Only [] w w3) (O4 : Only [] w3 w4) (hp : p.length = m)
    (V4 : Own w4 5 A4 m c4 (bvs p)) (B4 : ∀ k ∈ blks A4, w3.heap.size ≤ k) (hS : ∀ x, w.heap.size ≤ x → S x) (h2 : w.heap.size + 1 < w3.heap.size) :
    Mo (fun y => S y ∧ y ≠ w.heap.size ∧ y ≠ w.heap.size + 1) (w4.alloc (.cells #[.int .i64 x, .int .i64 f, .int .i64 d, .slice A4 m c4] 82)) A1 n c1 l ∧
      Ms (fun y => (S y ∧ y ≠ w.heap.size ∧ y ≠ w.heap.size + 1) ∧ y ∉ blks A1) (w4.alloc (.cells #[.int .i64 x, .int .i64 f, .int .i64 d, .slice A4 m c4] 82)) (some ⟨w4.heap.size, 0, none⟩) 1 [⟨x, f, d, p⟩] ∧
      ∀ y, (w4.alloc (.cells #[.int .i64 x, .int .i64 f, .int .i64 d, .slice A4 m c4] 82)).heap.size ≤ y → S y ∧ y ≠ w.heap.size ∧ y ≠ w.heap.size + 1 := by
  have z1 := hO.size
  have z2 := O4.size
  have hM4 := hM.keep O4
  subst hp
  refine ⟨(hM.keep O4).keep ((Only.refl [] w4).alloc _), Ms.of_bk (Ab := A4) (cb := c4) (t := 82) (Bk.new w4 82 _) ⟨⟨hS _ (by omega), by omega, by omega⟩, fun hm => by have := hM4.lt hm; omega⟩ (V4.sl.alloc _) (fun _ ad e => ?_), fun y hy => ?_⟩
  · subst e
    have h1 := B4 ad.block (by simp)
    exact ⟨⟨hS _ (by omega), by omega, by omega⟩, fun hm => by have := hM.lt hm; omega⟩
  · simp at hy
    exact ⟨hS _ (by omega), by omega, by omega⟩
def Added (S : Nat → Prop) (w : World) (b : Bx) (u : Int) (er : Int) (e : Ending) (w' : World) : Prop :=
  ∃ A' c', e = .returned (.tuple #[bxv b A' c', .int .i64 u, .int .i64 er]) ∧ Ms S w' A' b.l.length b.l ∧ Only [] w w'
set_option maxRecDepth 100000 in
set_option maxHeartbeats 4000000 in
theorem Add_any {S : Nat → Prop} {w : World} (b : Bx) {A : Option Addr} {c : Nat} (h : Ms S w A b.l.length b.l) (hn : b.l.length ≤ 1000000) (hb : ∀ m ∈ b.l, m.body.length ≤ 1000000) (hx : 0 ≤ b.next) (hS : ∀ x, w.heap.size ≤ x → S x) (f d : Int)
    (P : Option Addr) (m cp : Nat) (p : List UInt8) (hp : Sl w P m (bvs p)) :
    Calls Tryz.prog 155 #[bxv b A c, .int .i64 f, .int .i64 d, .slice P m cp] w (Added S w (addB b f d p) (addU b f d p.length) (addE b f d p.length)) := by
  have hpl : p.length = m := by simpa using hp.len
  rw [hpl]
  obtain ⟨s, v, x, l⟩ := b
  obtain ⟨n, hl⟩ : ∃ n, l.length = n := ⟨_, rfl⟩
  have cR := fun (W : World) (A' : Option Addr) (c' : Nat) => refusal_any (w := W) ⟨s, v, x, l⟩ (A := A') (c := c') f d P m cp
  simp only at h hn hb hx
  simp only [bxv_eq hl] at cR ⊢
  rw [hl] at h hn
  obtain ⟨q, hq⟩ : ∃ q, addE ⟨s, v, x, l⟩ f d m = q := ⟨_, rfl⟩
  rw [hq] at cR
  rw [hq]
  obtain ⟨b', hb'⟩ : ∃ b', addB ⟨s, v, x, l⟩ f d p = b' := ⟨_, rfl⟩
  obtain ⟨u', hu'⟩ : ∃ u', addU ⟨s, v, x, l⟩ f d m = u' := ⟨_, rfl⟩
  rw [hb', hu']
  have hO1 : Only [] w ((w.alloc (.cells #[.string (St s), .int .i64 v, .int .i64 x, .slice A n c] 71)).alloc (.cells #[.string ⟨#[]⟩, .int .i64 0, .int .i64 0, .slice none 0 0] 71)) := ((Only.refl _ _).alloc _).alloc _
  have hS1 : ∀ y, ((w.alloc (.cells #[.string (St s), .int .i64 v, .int .i64 x, .slice A n c] 71)).alloc (.cells #[.string ⟨#[]⟩, .int .i64 0, .int .i64 0, .slice none 0 0] 71)).heap.size ≤ y → S y := fun y hy => hS y (by have := hO1.size; omega)
  have b1 := (Bk.new w 71 #[.string (St s), .int .i64 v, .int .i64 x, .slice A n c]).alloc (.cells #[.string ⟨#[]⟩, .int .i64 0, .int .i64 0, .slice none 0 0] 71)
  have b2 := Bk.new (w.alloc (.cells #[.string (St s), .int .i64 v, .int .i64 x, .slice A n c] 71)) 71 #[.string ⟨#[]⟩, .int .i64 0, .int .i64 0, .slice none 0 0]
  rw [World.size_alloc] at b2
  have hT : ∀ y, ((w.alloc (.cells #[.string (St s), .int .i64 v, .int .i64 x, .slice A n c] 71)).alloc (.cells #[.string ⟨#[]⟩, .int .i64 0, .int .i64 0, .slice none 0 0] 71)).heap.size ≤ y → S y ∧ y ≠ w.heap.size ∧ y ≠ w.heap.size + 1 := fun y hy => ⟨hS1 y hy, by simp at hy; omega, by simp at hy; omega⟩
  have HM := Lib.hid (messages_any (c := c) ((h.lt.mono (S' := fun y => S y ∧ y ≠ w.heap.size ∧ y ≠ w.heap.size + 1) (fun y hy => ⟨hy.1, by omega, by omega⟩)).keep hO1) hn hb hT)
  have HB1 := Lib.hid b1
  have HB2 := Lib.hid b2
  have HS := Lib.hid hS
  have HP := Lib.hid hp
  have HO1 := Lib.hid hO1
  have HL := Lib.hid hl
  have HPL := Lib.hid hpl
  have HX := Lib.hid hx
  obtain ⟨t, ht⟩ : ∃ t, St s = t := ⟨_, rfl⟩
  have HT := Lib.hid ht
  rw [ht] at HM HB1 HB2 HO1 cR ⊢
  clear h hb hx hS hp hO1 hS1 hT b1 b2 hl hpl ht
  go_enter Tryz.func155, Tryz.ntmps155
  go_wp2_with (go_at_call 146; with_reducible refine HM.out.mono ?_; rintro e w1 ⟨A1, c1, rfl, M1, O1, B1⟩; obtain ⟨k0, k1, k2, k3⟩ := bk_four (HB1.out.only O1 (by simp)); have kf := (HB1.out.only O1 (by simp)).free 3)
  have hg1 : w.heap.size < w1.heap.size := lt_of_block (HB1.out.only O1 (by simp))
  obtain ⟨w2, hw2⟩ : ∃ w2, w1.setCell ⟨w.heap.size, 3, none⟩ (.slice A1 n c1) = w2 := ⟨_, rfl⟩
  have B1' : Bk w2 w.heap.size 71 #[.string t, .int .i64 v, .int .i64 x, .slice A1 n c1] := by rw [← hw2]; exact (HB1.out.only O1 (by simp)).set 3 _
  have B2' : Bk w2 (w.heap.size + 1) 71 #[.string ⟨#[]⟩, .int .i64 0, .int .i64 0, .slice none 0 0] := by rw [← hw2]; exact (HB2.out.only O1 (by simp)).far (by simp) _
  have M2 : Mo (fun y => S y ∧ y ≠ w.heap.size ∧ y ≠ w.heap.size + 1) w2 A1 n c1 l := by
    rw [← hw2]
    exact M1.only (rs := [w.heap.size]) ((Only.refl _ _).setCell (.inl (by simp)) _) (fun y hy hm => by simp at hm; exact hy.2.1 hm)
  have O2 : Only [] w w2 := by rw [← hw2]; exact ((HO1.out).then O1).setCell (.inr (Nat.le_refl _)) _
  rw [hw2]
  have HA1 : Hid (∀ k ∈ blks A1, w.heap.size ≤ k) := fun k hk => by have := B1 k hk; have := HO1.out.size; omega
  clear hw2 M1 k0 k1 k2 k3 kf HM HB1 HB2 HO1 hg1 O1 B1
  refine (cR _ _ _).mono ?_
  rintro e w3 ⟨rfl, O3⟩
  have hB1 := Lib.hid (B1'.only O3 (by simp))
  have hB2 := Lib.hid (B2'.only O3 (by simp))
  have hM := Lib.hid (M2.keep O3)
  have hO := Lib.hid (O2.then O3)
  obtain ⟨k0, k1, k2, k3⟩ := bk_four hB1.out
  obtain ⟨j0, j1, j2, j3⟩ := bk_four hB2.out
  have f0 := hB2.out.free 0
  have f1 := hB2.out.free 1
  have f2 := hB2.out.free 2
  have f3 := hB2.out.free 3
  clear B1' B2' M2 O2 O3 cR
  by_cases hq0 : q = 0
  · subst hq0
    have e1 : addB ⟨s, v, x, l⟩ f d p = ⟨s, v, x + 1, l ++ [⟨x, f, d, p⟩]⟩ := by unfold addB; rw [HPL.out, hq, if_pos rfl]
    have e2 : addU ⟨s, v, x, l⟩ f d m = x := by unfold addU; rw [hq, if_pos rfl]
    have hlt := hq
    unfold addE at hlt
    simp only [HL.out] at hlt
    have h24 : n < 24 ∧ m ≤ 1200 ∧ x < 1048576 := by
      split at hlt
      · cases hlt
      · split at hlt
        · cases hlt
        · split at hlt
          · cases hlt
          · split at hlt
            · cases hlt
            · omega
    obtain ⟨h24, hm12, hx20⟩ := h24
    have HBX := Lib.hid (hb'.symm.trans e1)
    have HUX := Lib.hid (hu'.symm.trans e2)
    clear hq e1 e2 hlt hn hb' hu'
    have HJ := Lib.hid (fun (W : World) (o : Only [] w W) => join_as W P cp m p HPL.out (HP.out.keep o) (by omega))
    have HAP := Lib.hid (fun (w4 : World) (A4 : Option Addr) (c4 : Nat) (O4 : Only [] w3 w4) (V4 : Own w4 5 A4 m c4 (bvs p)) (B4 : ∀ k ∈ blks A4, w3.heap.size ≤ k) => add_piece (x := x) (f := f) (d := d) hM.out hO.out O4 HPL.out V4 B4 HS.out hB2.out.lt)
    have HMX : Hid (∀ k ∈ blks A1, k ≠ w.heap.size ∧ k ≠ w.heap.size + 1) := fun k hk => (hM.out.2.1 k hk).2
    have HFIN : Hid (∀ (w4 : World) (o : Obj) (w5 : World) (L2 : Option Addr) (c2 : Nat) (y : Value) (z : Int), Only [] w3 w4 → Only (blks A1) (w4.alloc o) w5 → Bk w5 (w.heap.size + 1) 71 #[.string ⟨#[]⟩, .int .i64 0, .int .i64 0, .slice none 0 0] → Mo (fun y => S y ∧ y ≠ w.heap.size ∧ y ≠ w.heap.size + 1) w5 L2 (n + 1) c2 (l ++ [⟨x, f, d, p⟩]) →
        Bk ((((((w5.setCell ⟨w.heap.size, 3, none⟩ y).setCell ⟨w.heap.size, 2, none⟩ (.int .i64 z)).setCell ⟨w.heap.size + 1, 0, none⟩ (.string t)).setCell ⟨w.heap.size + 1, 1, none⟩ (.int .i64 v)).setCell ⟨w.heap.size + 1, 2, none⟩ (.int .i64 (x + 1))).setCell ⟨w.heap.size + 1, 3, none⟩ (.slice L2 (n + 1) c2)) (w.heap.size + 1) 71 (bxc b' L2 c2) ∧
        Added S w b' u' 0 (.returned (.tuple #[bxv b' L2 c2, .int .i64 x, .int .i64 0])) ((((((w5.setCell ⟨w.heap.size, 3, none⟩ y).setCell ⟨w.heap.size, 2, none⟩ (.int .i64 z)).setCell ⟨w.heap.size + 1, 0, none⟩ (.string t)).setCell ⟨w.heap.size + 1, 1, none⟩ (.int .i64 v)).setCell ⟨w.heap.size + 1, 2, none⟩ (.int .i64 (x + 1))).setCell ⟨w.heap.size + 1, 3, none⟩ (.slice L2 (n + 1) c2))) := by
      intro w4 o w5 L2 c2 y z O4 O5 gB2 M5
      have hl1 : (l ++ [(⟨x, f, d, p⟩ : Mg)]).length = n + 1 := by rw [List.length_append, HL.out]; rfl
      refine ⟨?_, L2, c2, by rw [HUX.out], ?_, ?_⟩
      · rw [HBX.out, bxc_eq hl1, HT.out]
        exact bk_store ((gB2.far (by simp) _).far (by simp) _) _ _ _ _
      · rw [HBX.out]
        show Ms S _ L2 (l ++ [(⟨x, f, d, p⟩ : Mg)]).length _
        rw [hl1]
        have h1 := M5.ms.only (rs := [w.heap.size]) (((Only.refl _ _).setCell (p := ⟨w.heap.size, 3, none⟩) (.inl (by simp)) y).setCell (p := ⟨w.heap.size, 2, none⟩) (.inl (by simp)) (.int .i64 z)) (fun k hk hm => by simp at hm; exact hk.2.1 hm)
        exact (h1.store (fun h => h.2.2 rfl) _ _ _ _).mono (fun k hk => hk.1)
      · have hA : ∀ k ∈ blks A1, w.heap.size ≤ k := HA1.out
        refine only_store ((((((hO.out.then O4).alloc o).mono (ss := blks A1) (fun _ h => nomatch h)).trans O5 (fun k hk => .inl hk)).mono (ss := []) (fun k hk => .inr (hA k hk))).setCell (.inr (Nat.le_refl _)) _ |>.setCell (.inr (Nat.le_refl _)) _) (.inr (by omega)) _ _ _ _
    have HX2 := HX.out
    have hg1 : w.heap.size < w3.heap.size := hB1.out.lt
    have fg2 := hB1.out.free 2
    have fg3 := hB1.out.free 3
    go_wp2_with fail
    go_region_law (first
      | (refine step_append_ms rfl (.tmp 29) (.tmp 37) rfl A1 n c1 l (by simp [Act.eval]) (HAP.out w4 A4 c4 O4 V4 B4).1 _ 1 1 [⟨x, f, d, p⟩] (by simp [Act.eval]) (HAP.out w4 A4 c4 O4 V4 B4).2.1 (HAP.out w4 A4 c4 O4 V4 B4).2.2 (by omega) (n + 1) rfl ?_; intro L2 c2 w5 M5 O5 B5; have hgx := fun k hk => HMX.out k hk; have i5 := O5.cellSome i3a (fun hk => (hgx _ hk).1 rfl); have gB := (((hB1.out.only O4 (by simp)).alloc (.cells #[.int .i64 x, .int .i64 f, .int .i64 d, .slice A4 m c4] 82)).only O5 (fun hk => (hgx _ hk).1 rfl)); have fg5 := gB.free 3; have fg52 := gB.free 2; obtain ⟨i50, i51, i52, i53⟩ := bk_four gB; have gB2 := (((hB2.out.only O4 (by simp)).alloc (.cells #[.int .i64 x, .int .i64 f, .int .i64 d, .slice A4 m c4] 82)).only O5 (fun hk => (hgx _ hk).2 rfl)); obtain ⟨j50, j51, j52, j53⟩ := bk_four gB2; have f50 := gB2.free 0; have f51 := gB2.free 1; have f52 := gB2.free 2; have f53 := gB2.free 3; have hfin := fun y z => HFIN.out w4 _ w5 L2 c2 y z O4 O5 gB2 M5; clear gB gB2)
      | (go_simp; go_at_call 137; refine (HJ.out _ hO.out.drew).mono ?_; rintro e w4 ⟨A4, c4, rfl, V4, O4, B4⟩; have O4 : Only [] w3 w4 := ((Only.refl [] w3).drew).then O4; have i3 := O4.cellSome k3 (by simp); have i3a := ((Only.refl [] w4).alloc (.cells #[.int .i64 x, .int .i64 f, .int .i64 d, .slice A4 m c4] 82)).cellSome i3 (by simp)))
    all_goals
      go_wp2_with fail
      refine box_ret2 (s := 8) (u := 9) (v := 10) ?_ (w.heap.size + 1) b' L2 c2 (.int .i64 x) (.int .i64 0) ?_ ?_ ?_ ?_ ?_
      · kernel_rfl
      · rfl
      · rfl
      · rfl
      · exact (hfin _ _).1
      · exact (hfin _ _).2
  · have hne : (q != 0) = true := bne_iff_ne.2 hq0
    have e1 : addB ⟨s, v, x, l⟩ f d p = ⟨s, v, x, l⟩ := by unfold addB; rw [HPL.out, hq, if_neg hq0]
    have e2 : addU ⟨s, v, x, l⟩ f d m = 0 := by unfold addU; rw [hq, if_neg hq0]
    have HBX := Lib.hid (hb'.symm.trans e1)
    have HUX := Lib.hid (hu'.symm.trans e2)
    clear hq e1 e2 hb' hu'
    go_wp2_with fail
    refine box_ret2 (s := 8) (u := 9) (v := 10) (by kernel_rfl) (w.heap.size + 1) ⟨s, v, x, l⟩ A1 c1 (.int .i64 0) (.int .i64 q) rfl rfl rfl ?_ ?_
    · rw [bxc_eq HL.out, HT.out]
      exact bk_store hB2.out _ _ _ _
    · rw [HBX.out, HUX.out]
      refine ⟨A1, c1, rfl, ?_, only_store hO.out (.inr (by omega)) _ _ _ _⟩
      show Ms S _ A1 l.length l
      rw [HL.out]
      exact (hM.out.ms.store (fun h => h.2.2 rfl) _ _ _ _).mono (fun y hy => hy.1)
end Go.Proofs.YtgnilldcfpgpaaaGreatDoor
namespace Go.Proofs.YtgnilldcfpgpaaaGreatDoor
open Go.RowKit Go.Instr
def okpr (r : Nat) : Bool := decide (33 ≤ r) && decide (r ≤ 126)
set_option maxRecDepth 100000 in
theorem Pass1_any (r : Nat) (w : World) : Calls Tryz.prog 188 #[.int .i32 (r : Int)] w fun e w' => e = .returned (.bool (!okpr r)) ∧ w = w' := by
  obtain ⟨q, hq⟩ : ∃ q, (!okpr r) = q := ⟨_, rfl⟩
  rw [hq]
  by_cases h1 : r < 33
  · have HQ : Hid (q = true) := by show _ = _; rw [← hq]; unfold okpr; simp; omega
    have i1 : (r : Int) < 33 := by omega
    clear hq h1
    go_enter Tryz.func188, Tryz.ntmps188
    go_wp2
    go_ret
    exact ⟨by rw [HQ.out]; rfl, rfl⟩
  · have i1 : ¬ (r : Int) < 33 := by omega
    by_cases h2 : r ≤ 126
    · have HQ : Hid (q = false) := by show _ = _; rw [← hq]; unfold okpr; simp; omega
      have i2 : ¬ (126 : Int) < (r : Int) := by omega
      clear hq h1 h2
      go_enter Tryz.func188, Tryz.ntmps188
      go_wp2
      go_ret
      exact ⟨by rw [HQ.out]; rfl, rfl⟩
    · have HQ : Hid (q = true) := by show _ = _; rw [← hq]; unfold okpr; simp; omega
      have i2 : (126 : Int) < (r : Int) := by omega
      clear hq h1 h2
      go_enter Tryz.func188, Tryz.ntmps188
      go_wp2
      go_ret
      exact ⟨by rw [HQ.out]; rfl, rfl⟩
theorem enters_Pass1 : ∀ args w, (callFunc 188 args).run Tryz.prog w = .ok (.enter 188 args) w := Go.Proofs.enters_of Tryz.func188 (by kernel_rfl) rfl
theorem rune_okp (s : ByteArray) (pos : Nat) (h : pos < s.size) : okpr (Utf8.decode s pos).1 = okp (s[pos]'h) ∧ (okp (s[pos]'h) = true → (Utf8.decode s pos).2 = 1) := by
  by_cases ha : (s[pos]'h).toNat < 128
  · rw [decode_ascii s pos h ha]
    exact ⟨rfl, fun _ => rfl⟩
  · have hd := decode_high s pos h (by omega)
    have h1 : okp (s[pos]'h) = false := by unfold okp; simp; omega
    have h2 : okpr (Utf8.decode s pos).1 = false := by unfold okpr; simp; omega
    rw [h1, h2]
    exact ⟨rfl, fun e => by cases e⟩
set_option maxHeartbeats 2000000 in
set_option maxRecDepth 1000000 in
theorem indexFuncP_any (s : ByteArray) (w : World) : Calls Tryz.prog 238 #[.string s, .func (.func 188) #[] #[], .bool true] w fun e w' => ∃ I : Int, e = .returned (.int .i64 I) ∧ Hid (decide (0 ≤ I) = !(s.data.toList.all okp)) ∧ Only [] w w' := by
  have eg := enters_Pass1
  go_enter Tryz.func238, Tryz.ntmps238
  go_wp2
  go_loopg [] s.size (fun gf wx => ∃ pos : Nat, wx.heap[w.heap.size]? = some (.stringIter s pos) ∧ Below w.heap.size w wx ∧ Hid ((s.data.toList.take pos).all okp = true) ∧ pos ≤ s.size ∧ s.size ≤ pos + gf)
  case atStart => exact ⟨0, World.iter_heap w s 0, (Below.refl _ w).alloc (Nat.le_refl _) _, by show _ = _; simp, Nat.zero_le _, by omega⟩
  case round =>
    obtain ⟨pos, hit, hbw, HA, hle, hfu⟩ := hrel
    by_cases hps : pos < s.size
    · obtain ⟨g', rfl⟩ : ∃ g', gk = g' + 1 := ⟨gk - 1, by omega⟩
      have hnx : ∀ ty, (Instr.next (.pointer (some ⟨w.heap.size, 0, none⟩)) true ty).run Tryz.prog wr = _ := fun ty => Lib.run_next_any_at wr w.heap.size s pos ty hit hps
      obtain ⟨hr1, hr2⟩ := rune_okp s pos hps
      have hpl : pos < s.data.toList.length := by rw [Array.length_toList]; exact hps
      have hge : s.data.toList[pos] = s[pos]'hps := by rw [Array.getElem_toList]; rfl
      have hsuc := allp_take_succ hpl
      have hbad := allp_bad hpl
      rw [hge] at hsuc hbad
      obtain ⟨R, hR⟩ : ∃ R, (Utf8.decode s pos).1 = R := ⟨_, rfl⟩
      obtain ⟨K, hK⟩ : ∃ K, (Utf8.decode s pos).2 = K := ⟨_, rfl⟩
      rw [hR] at hr1
      rw [hK] at hr2
      rw [hR, hK] at hnx
      have hit2 := Lib.iterAt_heap wr w.heap.size s pos (pos + K) hit
      have hbw2 := Lib.below_iterAt hbw (k := w.heap.size) (Nat.le_refl _) s (pos + K)
      obtain ⟨W, hWd⟩ : ∃ W, wr.iterAt w.heap.size s (pos + K) = W := ⟨_, rfl⟩
      rw [hWd] at hnx hit2 hbw2
      have cS := Pass1_any R W
      rw [hr1] at cS
      obtain ⟨b, hb⟩ : ∃ b, okp (s[pos]'hps) = b := ⟨_, rfl⟩
      rw [hb] at cS hr2 hsuc hbad
      cases b
      · have HE : Hid (decide ((0 : Int) ≤ (pos : Int)) = !(s.data.toList.all okp)) := by
          show _ = _
          rw [hbad rfl]
          exact decide_eq_true (by omega)
        clear hbad hsuc hr1 hr2 hb hge hR hK hWd
        go_wp2_with (go_at_fn 188; refine cS.mono ?_; rintro e W' ⟨rfl, rfl⟩)
        go_ret
        exact ⟨pos, rfl, HE.out, Only.of_below hbw2⟩
      · obtain rfl := hr2 rfl
        have HS : Hid ((s.data.toList.take (pos + 1)).all okp = true) := by show _ = _; rw [hsuc, HA.out]; rfl
        clear hbad hsuc hr1 hr2 hb hge hR hK hWd
        go_wp2_with (go_at_fn 188; refine cS.mono ?_; rintro e W' ⟨rfl, rfl⟩)
        go_roundg g'
        case measure => omega
        case rel => exact ⟨pos + 1, hit2, hbw2, HS, by omega, by omega⟩
    · have hend : ∀ ty, (Instr.next (.pointer (some ⟨w.heap.size, 0, none⟩)) true ty).run Tryz.prog wr = _ := fun ty => Lib.run_next_end_at wr w.heap.size s pos ty hit hps
      have HE : Hid (decide ((0 : Int) ≤ -1) = !(s.data.toList.all okp)) := by
        show _ = _
        have := HA.out
        rw [List.take_of_length_le (by rw [Array.length_toList]; exact Nat.le_of_not_lt hps)] at this
        rw [this]
        rfl
      go_wp2
      go_ret
      exact ⟨-1, rfl, HE.out, Only.of_below hbw⟩
theorem IndexFuncP_any (s : ByteArray) (w : World) : Calls Tryz.prog 222 #[.string s, .func (.func 188) #[] #[]] w fun e w' => ∃ I : Int, e = .returned (.int .i64 I) ∧ Hid (decide (0 ≤ I) = !(s.data.toList.all okp)) ∧ Only [] w w' := by
  have hI := indexFuncP_any s w
  go_enter Tryz.func222, Tryz.ntmps222
  go_wp2_with (go_at_call 238; with_reducible refine hI.mono ?_; rintro e w2 ⟨I, rfl, HI, O2⟩)
  go_ret
  exact ⟨I, rfl, HI.out, O2⟩
theorem ContainsFuncP_any (s : ByteArray) (w : World) : Calls Tryz.prog 186 #[.string s, .func (.func 188) #[] #[]] w fun e w' => e = .returned (.bool (!(s.data.toList.all okp))) ∧ Only [] w w' := by
  have hI := IndexFuncP_any s w
  go_enter Tryz.func186, Tryz.ntmps186
  go_wp2_with (go_at_call 222; with_reducible refine hI.mono ?_; rintro e w2 ⟨I, rfl, HI, O2⟩)
  go_ret
  exact ⟨by rw [← HI.out]; rfl, O2⟩
set_option maxRecDepth 100000 in
theorem mayPass_any (s : List UInt8) (w : World) : Calls Tryz.prog 131 #[.string (St s)] w fun e w' => e = .returned (.bool (passOk s)) ∧ Only [] w w' := by
  have hC := ContainsFuncP_any (St s) w
  rw [St_list] at hC
  obtain ⟨q, hq⟩ : ∃ q, passOk s = q := ⟨_, rfl⟩
  rw [hq]
  have hs := St_size s
  by_cases h1 : 1 ≤ s.length
  · by_cases h2 : s.length ≤ 12
    · have HQ : Hid (q = s.all okp) := by show _ = _; rw [← hq]; unfold passOk; simp [h1, h2]
      have i1 : (1 : Int) ≤ ((St s).size : Int) := by omega
      have i2 : ((St s).size : Int) ≤ 12 := by omega
      clear hq hs h1 h2
      obtain ⟨p, hp⟩ : ∃ p, s.all okp = p := ⟨_, rfl⟩
      rw [hp] at hC HQ
      generalize St s = t at *
      clear hp
      cases p
      all_goals
        go_enter Tryz.func131, Tryz.ntmps131
        go_wp2_with (go_at_call 186; go_must (with_reducible refine hC.mono ?_); rintro e w2 ⟨rfl, O2⟩)
        go_ret
        exact ⟨by rw [HQ.out]; rfl, O2⟩
    · have HQ : Hid (q = false) := by show _ = _; rw [← hq]; unfold passOk; simp [h2]
      have i1 : (1 : Int) ≤ ((St s).size : Int) := by omega
      have i2 : ¬ ((St s).size : Int) ≤ 12 := by omega
      clear hq hs h1 h2 hC
      generalize St s = t at *
      go_enter Tryz.func131, Tryz.ntmps131
      go_wp2
      go_ret
      exact ⟨by rw [HQ.out]; rfl, Only.refl _ _⟩
  · have HQ : Hid (q = false) := by show _ = _; rw [← hq]; unfold passOk; simp [h1]
    have i1 : ¬ (1 : Int) ≤ ((St s).size : Int) := by omega
    clear hq hs h1 hC
    generalize St s = t at *
    go_enter Tryz.func131, Tryz.ntmps131
    go_wp2
    go_ret
    exact ⟨by rw [HQ.out]; rfl, Only.refl _ _⟩
set_option maxRecDepth 100000 in
theorem upTo_any (n m : Int) (w : World) : Calls Tryz.prog 133 #[.int .i64 n, .int .i64 m] w fun e w' => e = .returned (.bool (inR n 0 m)) ∧ w = w' := by
  obtain ⟨q, hq⟩ : ∃ q, inR n 0 m = q := ⟨_, rfl⟩
  rw [hq]
  by_cases h1 : (0 : Int) ≤ n
  · by_cases h2 : n ≤ m
    · have HQ : Hid (q = true) := by show _ = _; rw [← hq]; unfold inR; simp [h1, h2]
      clear hq
      go_enter Tryz.func133, Tryz.ntmps133
      go_wp2
      go_ret
      exact ⟨by rw [HQ.out]; rfl, rfl⟩
    · have HQ : Hid (q = false) := by show _ = _; rw [← hq]; unfold inR; simp [h2]
      clear hq
      go_enter Tryz.func133, Tryz.ntmps133
      go_wp2
      go_ret
      exact ⟨by rw [HQ.out]; rfl, rfl⟩
  · have HQ : Hid (q = false) := by show _ = _; rw [← hq]; unfold inR; simp [h1]
    clear hq
    go_enter Tryz.func133, Tryz.ntmps133
    go_wp2
    go_ret
    exact ⟨by rw [HQ.out]; rfl, rfl⟩
def lastI (l : List Int) (k : Nat) : Int := (l.take k).getLast?.getD 0
theorem lastI_succ {l : List Int} {k : Nat} (h : k < l.length) : lastI l (k + 1) = l[k] := by
  unfold lastI
  rw [List.take_succ_eq_append_getElem h, List.getLast?_concat]
  rfl
theorem ups_next {l : List Int} {k : Nat} (h : k < l.length) (hp : ups 0 (l.take k) = true) : ups 0 (l.take (k + 1)) = (decide (lastI l k < l[k]) && decide (l[k] ≤ 1048576)) := by
  rw [List.take_succ_eq_append_getElem h, ups_snoc, hp]
  rfl
set_option maxRecDepth 100000 in
set_option maxHeartbeats 2000000 in
theorem mayUIDs_any {w : World} {A : Option Addr} {n c : Nat} {l : List Int} (h : Sl w A n (ivs l)) (hn : n ≤ 140737488355328) :
    Calls Tryz.prog 132 #[.slice A n c] w fun e w' => e = .returned (.bool (uidsOk l)) ∧ w = w' := by
  have hl : l.length = n := by simpa [ivs] using h.len
  obtain ⟨q, hq⟩ : ∃ q, uidsOk l = q := ⟨_, rfl⟩
  rw [hq]
  by_cases hbig : 24 < n
  · have HQ : Hid (q = false) := by show _ = _; rw [← hq]; unfold uidsOk; rw [hl]; simp; intro _; omega
    have i1 : (24 : Int) < (n : Int) := by omega
    clear hq h hl hn
    go_enter Tryz.func132, Tryz.ntmps132
    go_wp2
    go_ret
    exact ⟨by rw [HQ.out]; rfl, rfl⟩
  have i1 : ¬ (24 : Int) < (n : Int) := by omega
  have HQ := Lib.hid hq
  have HL := Lib.hid hl
  have HS := Lib.hid h
  clear hq h hl
  go_enter Tryz.func132, Tryz.ntmps132
  go_wp2
  go_loop [3, 11] (fun lv iv => ∃ k : Nat, iv = .int .i64 (k : Int) ∧ lv = .int .i64 (lastI l k) ∧ k ≤ n ∧ Hid (ups 0 (l.take k) = true)) (fun _ iv => n - (intOf iv).toNat)
  case atStart => exact ⟨0, rfl, rfl, Nat.zero_le _, by show _ = _; rfl⟩
  case round =>
    obtain ⟨k, rfl, rfl, hk, HU⟩ := hrel
    by_cases hlt : k < n
    · have hkl : k < l.length := by rw [HL.out]; exact hlt
      have hlt' : (k : Int) < (n : Int) := by omega
      obtain ⟨ad, rfl, hc⟩ := HS.out.int_at hlt hkl
      have hnx := ups_next hkl HU.out
      have hla := lastI_succ hkl
      have hbad : ups 0 (l.take (k + 1)) = false → Hid (q = false) := fun hb => by show _ = _; rw [← HQ.out]; exact ups_bad hb
      generalize l[k] = u at hc hnx hla
      generalize lastI l k = z at *
      by_cases h1 : u ≤ z
      · have HB := hbad (by rw [hnx]; simp; omega)
        clear hbad hnx hla
        go_wp2
        go_ret
        exact ⟨by rw [HB.out]; rfl, rfl⟩
      · by_cases h2 : (1048576 : Int) < u
        · have HB := hbad (by rw [hnx]; simp; omega)
          clear hbad hnx hla
          go_wp2
          go_ret
          exact ⟨by rw [HB.out]; rfl, rfl⟩
        · have HN : Hid (ups 0 (l.take (k + 1)) = true) := by show _ = _; rw [hnx]; simp; omega
          have HLA := Lib.hid hla
          have hk1 : k + 1 ≤ n := by omega
          have HMM : Hid (n - (intOf (.int .i64 ((k : Int) + 1))).toNat < n - (intOf (.int .i64 (k : Int))).toNat) := by
            show _ < _
            simp [intOf]
            omega
          clear hbad hnx hla
          go_wp2
          go_round
          case rel => exact ⟨k + 1, by go_num, by rw [HLA.out], hk1, HN.out⟩
          case measure => exact HMM.out
    · obtain rfl : k = n := by omega
      have HE : Hid (q = true) := by
        show _ = _
        rw [← HQ.out]
        unfold uidsOk
        have := HU.out
        rw [List.take_of_length_le (by rw [HL.out]; exact Nat.le_refl _)] at this
        rw [this, HL.out]
        simp
        omega
      go_wp2
      go_ret
      exact ⟨by rw [HE.out]; rfl, rfl⟩
end Go.Proofs.YtgnilldcfpgpaaaGreatDoor
namespace Go.Proofs.YtgnilldcfpgpaaaGreatDoor
open Go
section
variable {P : Program} {ops : Array Oper} {S : World → Prop} {Q : Exit → Act → World → Prop} {md : Region.Mode}
def Gives (P : Program) (S : World → Prop) (v : Value) : Result Next → Prop
  | .ok (.value u) w' => u = v ∧ S w'
  | .ok (.enter f args) w' => Calls P f args w' (fun e w'' => e = .returned v ∧ S w'')
  | .ok .skip w' => v = undef ∧ S w'
  | _ => False
def GivesIn (P : Program) (S : World → Prop) (x : Sem Next) (v : Value) : Prop := ∀ w, S w → Gives P S v (x.run P w)
def detOp (P : Program) (ops : Array Oper) (S : World → Prop) (o : Oper) (K : Act → Prop) (a : Act) : Prop :=
  (Region.wanted o (yielded ops a.tmps) = true ∧ ∃ v, GivesIn P S (execOp a.eval o) v ∧ K (a.put o.dst v)) ∨ (Region.wanted o (yielded ops a.tmps) = false ∧ K (a.put o.dst undef))
def detWalk (P : Program) (ops : Array Oper) (S : World → Prop) (Q : Exit → Act → World → Prop) : List Oper → Act → Prop
  | [], a => ∀ w, S w → Q .normal a w
  | o :: l, a => detOp P ops S o (detWalk P ops S Q l) a
def detAny (P : Program) (md : Region.Mode) (ops : Array Oper) (S : World → Prop) (Q : Exit → Act → World → Prop) : Nat → Array Bool → Act → Prop
  | 0, listed, a => Region.ready md ops listed = [] ∧ ∀ w, S w → Q .normal a w
  | fuel + 1, listed, a => (Region.ready md ops listed = [] → ∀ w, S w → Q .normal a w) ∧
    ∀ i ∈ Region.ready md ops listed, ∃ o, ops[i]? = some o ∧ detOp P ops S o (detAny P md ops S Q fuel (listed.setIfInBounds i true)) a
theorem detOp_mono {o : Oper} {K K' : Act → Prop} {a : Act} (h : ∀ a, K a → K' a) (hh : detOp P ops S o K a) : detOp P ops S o K' a := by
  rcases hh with ⟨hw, v, hg, hk⟩ | ⟨hw, hk⟩
  · exact .inl ⟨hw, v, hg, h _ hk⟩
  · exact .inr ⟨hw, h _ hk⟩
theorem detAny_sound : ∀ (fuel : Nat) (listed : Array Bool) (a : Act) (w : World), S w → detAny P md ops S Q fuel listed a → wpAny P md ops Q fuel listed a w
  | 0, _, _, w, hS, h => ⟨h.1, h.2 w hS⟩
  | fuel + 1, listed, a, w, hS, h => ⟨fun hr => h.1 hr w hS, fun i hi => by
    obtain ⟨o, ho, hd⟩ := h.2 i hi
    unfold wpOp
    simp only [ho]
    rcases hd with ⟨hw, v, hg, hk⟩ | ⟨hw, hk⟩
    · simp only [hw, if_true]
      left
      unfold Oper.wp
      have h2 := hg w hS
      generalize (execOp a.eval o).run P w = r at h2 ⊢
      cases r with
      | ok n w' =>
        cases n <;> simp only [Gives, Oper.upon] at h2 ⊢
        case value u =>
          obtain ⟨rfl, h3⟩ := h2
          exact detAny_sound fuel _ _ _ h3 hk
        case skip =>
          obtain ⟨rfl, h3⟩ := h2
          exact detAny_sound fuel _ _ _ h3 hk
        case enter f args =>
          refine Calls.mono h2 fun e w'' he => ?_
          obtain ⟨rfl, h3⟩ := he
          exact detAny_sound fuel _ _ _ h3 hk
      | halt x w' => simp only [Gives] at h2
    · simp only [hw, Bool.false_eq_true, if_false]
      exact detAny_sound fuel _ _ _ hS hk⟩
theorem detOp_swap {oi oj : Oper} {v : Value} (hap : oi.apart ops oj = true) (hsi : ∀ cs b, oi.op ≠ .select cs b) (hsj : ∀ cs b, oj.op ≠ .select cs b) {K : Act → Prop} {a : Act}
    (h : detOp P ops S oj K (a.put oi.dst v)) : detOp P ops S oj (fun a' => K (a'.put oi.dst v)) a ∧
      ∀ u, (execOp (a.put oj.dst u).eval oi = execOp a.eval oi ∧ Region.wanted oi (yielded ops (a.put oj.dst u).tmps) = Region.wanted oi (yielded ops a.tmps)) := by
  obtain ⟨h1, h2, h3⟩ := Oper.apart_spec hap
  refine ⟨?_, fun u => ⟨execOp_put oi hsi a oj.dst u h3, wanted_put oi a oj.dst u h3⟩⟩
  unfold detOp at h ⊢
  rw [wanted_put oj a oi.dst v h1, execOp_put oj hsj a oi.dst v h1] at h
  rcases h with ⟨hw, u, hg, hk⟩ | ⟨hw, hk⟩
  · exact .inl ⟨hw, u, hg, by show K _; rw [← Act.put_comm a v u h2]; exact hk⟩
  · exact .inr ⟨hw, by show K _; rw [← Act.put_comm a v undef h2]; exact hk⟩
theorem detAny_first {i : Nat} {oi : Oper} (hi : ops[i]? = some oi) (hsel : ∀ (j : Nat) (o : Oper) cs b, ops[j]? = some o → o.op ≠ .select cs b) :
    ∀ (fuel : Nat) (listed : Array Bool) (a : Act),
      (∀ j oj, ops[j]? = some oj → j ≠ i → listed.getD j true = false → (∀ e ∈ oj.after, Region.binds md e = true → e.on ≠ i) → oi.apart ops oj = true) →
      i ∈ Region.ready md ops listed → detOp P ops S oi (detAny P md ops S Q fuel (listed.setIfInBounds i true)) a → detAny P md ops S Q (fuel + 1) listed a := by
  intro fuel
  induction fuel with
  | zero =>
    intro listed a _ hr H
    refine ⟨fun h => (by rw [h] at hr; cases hr), fun j hj => ?_⟩
    by_cases hji : j = i
    · subst hji; exact ⟨oi, hi, H⟩
    · have h0 := ready_mono hj hji
      rcases H with ⟨_, v, _, hk⟩ | ⟨_, hk⟩ <;> (rw [hk.1] at h0; cases h0)
  | succ fuel ih =>
    intro listed a hfree hr H
    refine ⟨fun h => (by rw [h] at hr; cases hr), fun j hj => ?_⟩
    by_cases hji : j = i
    · subst hji; exact ⟨oi, hi, H⟩
    · obtain ⟨hjun, oj, hoj, hall⟩ := mem_ready.1 hj
      have hnot : ∀ e ∈ oj.after, Region.binds md e = true → e.on ≠ i := fun e he hb heq => by
        have h1 := hall e he hb
        have h0 := (mem_ready.1 hr).1
        rw [heq] at h1
        rcases Nat.lt_or_ge i listed.size with h' | h'
        · simp [h'] at h0 h1; rw [h0] at h1; cases h1
        · simp [Array.getElem?_eq_none h'] at h1
      have hap := hfree j oj hoj hji hjun hnot
      have hfree' : ∀ k ok, ops[k]? = some ok → k ≠ i → (listed.setIfInBounds j true).getD k true = false →
          (∀ e ∈ ok.after, Region.binds md e = true → e.on ≠ i) → oi.apart ops ok = true := fun k ok hk hki hun hno => by
        refine hfree k ok hk hki ?_ hno
        by_cases hjk : j = k
        · subst hjk; exact hjun
        · rw [getD_set_ne true hjk] at hun; exact hun
      have next : ∀ v, detAny P md ops S Q (fuel + 1) (listed.setIfInBounds i true) (a.put oi.dst v) →
          detOp P ops S oj (fun a' => detAny P md ops S Q fuel ((listed.setIfInBounds j true).setIfInBounds i true) (a'.put oi.dst v)) a ∧
          ∀ u, (execOp (a.put oj.dst u).eval oi = execOp a.eval oi ∧ Region.wanted oi (yielded ops (a.put oj.dst u).tmps) = Region.wanted oi (yielded ops a.tmps)) := fun v hv => by
        obtain ⟨oj', hoj', hd⟩ := hv.2 j (ready_mono hj hji)
        rw [hoj] at hoj'
        injection hoj' with hoj'
        subst hoj'
        rw [Array.setIfInBounds_comm _ _ hji]
        exact detOp_swap hap (fun cs b => hsel i oi cs b hi) (fun cs b => hsel j oj cs b hoj) hd
      have step : ∀ v, detOp P ops S oj (fun a' => detAny P md ops S Q fuel ((listed.setIfInBounds j true).setIfInBounds i true) (a'.put oi.dst v)) a →
          (∀ u, (execOp (a.put oj.dst u).eval oi = execOp a.eval oi ∧ Region.wanted oi (yielded ops (a.put oj.dst u).tmps) = Region.wanted oi (yielded ops a.tmps))) →
          ((Region.wanted oi (yielded ops a.tmps) = true ∧ GivesIn P S (execOp a.eval oi) v) ∨ (Region.wanted oi (yielded ops a.tmps) = false ∧ v = undef)) →
          detOp P ops S oj (detAny P md ops S Q (fuel + 1) (listed.setIfInBounds j true)) a := fun v hd hsame hv => by
        have put : ∀ u, detAny P md ops S Q fuel ((listed.setIfInBounds j true).setIfInBounds i true) ((a.put oj.dst u).put oi.dst v) → detAny P md ops S Q (fuel + 1) (listed.setIfInBounds j true) (a.put oj.dst u) := fun u hu => by
          refine ih _ _ hfree' (ready_mono hr (Ne.symm hji)) ?_
          unfold detOp
          rw [(hsame u).1, (hsame u).2]
          rcases hv with ⟨hw, hg⟩ | ⟨hw, rfl⟩
          · exact .inl ⟨hw, v, hg, hu⟩
          · exact .inr ⟨hw, hu⟩
        rcases hd with ⟨hw, u, hg, hk⟩ | ⟨hw, hk⟩
        · exact .inl ⟨hw, u, hg, put u hk⟩
        · exact .inr ⟨hw, put undef hk⟩
      refine ⟨oj, hoj, ?_⟩
      rcases H with ⟨hw, v, hg, hk⟩ | ⟨hw, hk⟩
      · exact step v (next v hk).1 (next v hk).2 (.inl ⟨hw, hg⟩)
      · exact step undef (next undef hk).1 (next undef hk).2 (.inr ⟨hw, rfl⟩)
theorem detAny_lex (hs : Region.noSelect ops = true) : ∀ (l : List Oper) (k : Nat) (listed : Array Bool) (a : Act), (∀ j, l[j]? = ops[k + j]?) →
    Region.lexFrom md ops l.length k listed = true → detWalk P ops S Q l a → detAny P md ops S Q l.length listed a
  | [], _, _, _, _, hB, h => ⟨by simpa [Region.lexFrom] using hB, h⟩
  | o :: l, k, listed, a, hl, hB, h => by
    have h0 : ops[k]? = some o := by simpa using (hl 0).symm
    simp only [List.length_cons, Region.lexFrom, Bool.and_eq_true] at hB
    obtain ⟨⟨hr, hf⟩, hB'⟩ := hB
    exact detAny_first h0 (Region.noSelect_spec hs) l.length listed a (Region.free_spec h0 hf) (by simpa using hr)
      (detOp_mono (fun a' h' => detAny_lex hs l (k + 1) _ a' (fun j => by have := hl (j + 1); simpa [Nat.add_assoc, Nat.add_comm 1 j] using this) hB' h') h)
theorem wp_region_det (S : World → Prop) {id : Nat} {a : Act} {w : World} {l : List Oper} (hm : P.follows .mixedOrders = true) (hB : Region.lexB .any l.toArray = true) (hS : S w.drew)
    (h : detWalk P l.toArray S Q l a) : (Code.region id l.toArray true).wp P Q a w := by
  simp only [Region.lexB, Bool.and_eq_true] at hB
  refine wp_region_any hm (detAny_sound _ _ _ _ hS ?_)
  have := detAny_lex (md := .any) hB.1 l 0 (Array.replicate l.toArray.size false) a (by simp) (by simpa using hB.2) h
  simpa using this
theorem det_value {o : Oper} {l : List Oper} {a : Act} (v : Value) (hw : Region.wanted o (yielded ops a.tmps) = true) (h : ∀ w, S w → (execOp a.eval o).run P w = .ok (.value v) w)
    (hk : detWalk P ops S Q l (a.put o.dst v)) : detWalk P ops S Q (o :: l) a :=
  .inl ⟨hw, v, fun w hS => by rw [h w hS]; exact ⟨rfl, hS⟩, hk⟩
theorem det_call {o : Oper} {l : List Oper} {a : Act} (v : Value) (f : FuncId) (args : Array Value) (hw : Region.wanted o (yielded ops a.tmps) = true) (h : ∀ w, (execOp a.eval o).run P w = .ok (.enter f args) w)
    (hc : ∀ w, S w → Calls P f args w fun e w' => e = .returned v ∧ S w') (hk : detWalk P ops S Q l (a.put o.dst v)) : detWalk P ops S Q (o :: l) a :=
  .inl ⟨hw, v, fun w hS => by rw [h w]; exact hc w hS, hk⟩
theorem det_same {f : FuncId} {args : Array Value} {v : Value} {w : World} (hS : S w) (h : Calls P f args w fun e w' => e = .returned v ∧ w = w') : Calls P f args w fun e w' => e = .returned v ∧ S w' :=
  h.mono fun _ _ ⟨he, hw⟩ => ⟨he, hw ▸ hS⟩
theorem det_only {f : FuncId} {args : Array Value} {v : Value} {w : World} (hk : ∀ w', Only [] w w' → S w') (h : Calls P f args w fun e w' => e = .returned v ∧ Only [] w w') : Calls P f args w fun e w' => e = .returned v ∧ S w' :=
  h.mono fun _ _ ⟨he, hw⟩ => ⟨he, hk _ hw⟩
def Stays (w : World) (g : Nat) (t : TypeId) (cs : Array Value) (W : World) : Prop := Only [] w W ∧ Bk W g t cs
theorem Stays.only {w W W' : World} {g : Nat} {t : TypeId} {cs : Array Value} (h : Stays w g t cs W) (o : Only [] W W') : Stays w g t cs W' := ⟨h.1.then o, h.2.only o (by simp)⟩
theorem Stays.start {w : World} {g : Nat} {t : TypeId} {cs : Array Value} (h : Bk w g t cs) : Stays w g t cs w.drew := ⟨(Only.refl [] w).drew, h⟩
end
end Go.Proofs.YtgnilldcfpgpaaaGreatDoor
