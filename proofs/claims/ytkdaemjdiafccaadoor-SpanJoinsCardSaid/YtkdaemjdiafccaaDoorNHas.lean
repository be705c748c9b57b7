/-
  span.Has: is a number within some range? (slices.ContainsFunc and slices.IndexFunc at ranges.)
-/
import Derived.Test.YtkdaemjdiafccaaDoorNLeaf
import Derived.Test.YtkdaemjdiafccaaDoorQuiet
namespace Go.Proofs.YtkdaemjdiafccaaDoor
open Go.RowKit Go.Instr

set_option maxHeartbeats 1000000 in
set_option maxRecDepth 100000 in
theorem Has1_any (a b n last : Int) (w : World) (pL pN : Addr) (hl : w.cell? pL = some (.int .i64 last)) (hn : w.cell? pN = some (.int .i64 n)) :
    Calls Tryd.prog 28 #[.agg #[.int .i64 a, .int .i64 b], .pointer (some pL), .pointer (some pN)] w fun e w' => e = .returned (.bool (hasR n last (a, b))) ∧ Only [] w w' := by
  have ca := fun W => end_any a last W
  have cb := fun W => end_any b last W
  have HE : Hid (hasR n last (a, b) = (decide (min (endV a last) (endV b last) ≤ n) && decide (n ≤ max (endV a last) (endV b last)))) := rfl
  have kl := block_lt_of_cell hl
  have kn := block_lt_of_cell hn
  generalize endV a last = x at ca HE
  generalize endV b last = y at cb HE
  go_enter Tryd.func28, Tryd.ntmps28
  go_wp2_with fail
  go_quiet (first
    | (go_at_call 29; with_reducible exact quiet_back (ca _))
    | (go_at_call 29; with_reducible exact quiet_back (cb _)))
  go_wp2_with fail
  · rename_i h
    go_ret
    exact ⟨by rw [HE.out, decide_eq_true h]; rfl, ((Only.refl _ _).alloc _).drewN _⟩
  · rename_i h
    go_ret
    exact ⟨by rw [HE.out, decide_eq_false (by omega)]; rfl, ((Only.refl _ _).alloc _).drewN _⟩

/-- What a function value says of a range, whatever else was laid since. -/
def Says (g : Nat) (lb : Array Value) (p : Rg → Bool) (w : World) : Prop := ∀ W, Only [] w W → ∀ a b : Int, Calls Tryd.prog g (#[.agg #[.int .i64 a, .int .i64 b]] ++ lb) W fun e w' => e = .returned (.bool (p (a, b))) ∧ Only [] W w'
theorem any_hit {l : List Rg} {p : Rg → Bool} {k : Nat} (h : k < l.length) (hx : p l[k] = true) : (l.drop k).any p = true := by
  rw [List.drop_eq_getElem_cons h, List.any_cons, hx]; rfl
theorem any_miss {l : List Rg} {p : Rg → Bool} {k : Nat} (h : k < l.length) (hx : p l[k] = false) : (l.drop k).any p = (l.drop (k + 1)).any p := by
  rw [List.drop_eq_getElem_cons h, List.any_cons, hx]; rfl
set_option maxRecDepth 100000 in
theorem IndexFunc_any {w : World} {A : Option Addr} {n c : Nat} {l : List Rg} (hs : Rs w A n l) (hn : n ≤ 140737488355328) (g : Nat) (lb : Array Value) (eg : ∀ args w, (callFunc g args).run Tryd.prog w = .ok (.enter g args) w) (p : Rg → Bool) (hp : Says g lb p w) :
    Calls Tryd.prog 40 #[.slice A n c, .func (.func g) #[] lb] w fun e w' => ∃ I : Int, e = .returned (.int .i64 I) ∧ Hid (decide (0 ≤ I) = l.any p) ∧ Only [] w w' := by
  have HS := Lib.hid hs
  have HLN := Lib.hid hs.len
  have HP := Lib.hid hp
  clear hs hp
  go_enter Tryd.func40, Tryd.ntmps40
  go_wp2
  go_loopw [8] (fun iv wr => Only [] w wr ∧ ∃ k : Nat, iv = .int .i64 (k : Int) ∧ k ≤ n ∧ Hid ((l.drop k).any p = l.any p)) (fun iv _ => n - (intOf iv).toNat)
  case atStart => exact ⟨Only.refl _ _, 0, rfl, by omega, rfl⟩
  case round =>
    obtain ⟨hO, k, rfl, hk, HK⟩ := hrel
    by_cases hlt : k < n
    · have hlt' : (k : Int) < (n : Int) := by omega
      have hkl : k < l.length := by rw [HLN.out]; exact hlt
      obtain ⟨ad, rfl, c1, c2⟩ := (HS.out.keep hO).at_ hlt hkl
      have hhit := any_hit (p := p) hkl
      have hmiss := any_miss (p := p) hkl
      obtain ⟨r, hr⟩ : ∃ r, l[k] = r := ⟨_, rfl⟩
      rw [hr] at c1 c2 hhit hmiss
      obtain ⟨a, b⟩ := r
      simp only [nxt] at c1 c2
      have hc := HP.out wr hO a b
      clear hr
      have hki : (k : Int) + 1 ≤ 140737488355328 := by omega
      obtain ⟨pb, hpb⟩ : ∃ q, p (a, b) = q := ⟨_, rfl⟩
      rw [hpb] at hc hmiss hhit
      cases pb
      · have HR : Hid (∃ k' : Nat, Value.int .i64 ((k : Int) + 1) = .int .i64 (k' : Int) ∧ k' ≤ n ∧ Hid ((l.drop k').any p = l.any p)) :=
          ⟨k + 1, by simp, by omega, by show _ = _; rw [← hmiss rfl, HK.out]⟩
        have HM : Hid (n - (intOf (.int .i64 ((k : Int) + 1))).toNat < n - (intOf (.int .i64 (k : Int))).toNat) := by
          show _ < _
          simp [intOf]
          omega
        clear hmiss hhit hpb
        go_wp2_with (go_at_fn g; with_reducible refine hc.mono ?_; rintro e w2 ⟨rfl, O2⟩)
        exact ⟨⟨hO.then O2, HR.out⟩, HM.out⟩
      · have HE : Hid (decide (0 ≤ (k : Int)) = l.any p) := by
          show _ = _
          rw [← HK.out, hhit rfl]
          exact decide_eq_true (by omega)
        clear hmiss hhit hpb
        go_wp2_with (go_at_fn g; with_reducible refine hc.mono ?_; rintro e w2 ⟨rfl, O2⟩)
        go_ret
        exact ⟨k, rfl, HE.out, hO.then O2⟩
    · obtain rfl : k = n := by omega
      have HE : Hid (decide ((0 : Int) ≤ -1) = l.any p) := by
        show _ = _
        rw [← HK.out, List.drop_of_length_le (by rw [HLN.out]; exact Nat.le_refl _)]
        rfl
      go_wp2
      go_ret
      exact ⟨-1, rfl, HE.out, hO⟩
theorem ContainsFunc_any {w : World} {A : Option Addr} {n c : Nat} {l : List Rg} (hs : Rs w A n l) (hn : n ≤ 140737488355328) (g : Nat) (lb : Array Value) (eg : ∀ args w, (callFunc g args).run Tryd.prog w = .ok (.enter g args) w) (p : Rg → Bool) (hp : Says g lb p w) :
    Calls Tryd.prog 27 #[.slice A n c, .func (.func g) #[] lb] w fun e w' => e = .returned (.bool (l.any p)) ∧ Only [] w w' := by
  have hI := IndexFunc_any (c := c) hs hn g lb eg p hp
  clear hs hp eg
  go_enter Tryd.func27, Tryd.ntmps27
  go_wp2_with (go_at_call 40; with_reducible refine hI.mono ?_; rintro e w2 ⟨I, rfl, HI, O2⟩)
  go_ret
  exact ⟨by rw [← HI.out]; rfl, O2⟩

theorem enters_Has1 : ∀ args w, (callFunc 28 args).run Tryd.prog w = .ok (.enter 28 args) w := Go.Proofs.enters_of Tryd.func28 (by kernel_rfl) rfl
set_option maxRecDepth 100000 in
theorem Has_any {w : World} {A : Option Addr} {n c : Nat} {l : List Rg} (hs : Rs w A n l) (hn : n ≤ 140737488355328) (x last : Int) :
    Calls Tryd.prog 14 #[.slice A n c, .int .i64 x, .int .i64 last] w fun e w' => e = .returned (.bool (hasL l x last)) ∧ Only [] w w' := by
  have HC : Hid (Calls Tryd.prog 27 #[.slice A n c, .func (.func 28) #[] #[.pointer (some ⟨w.heap.size + 1, 0, none⟩), .pointer (some ⟨w.heap.size, 0, none⟩)]] ((w.alloc (.cells #[.int .i64 x] 3)).alloc (.cells #[.int .i64 last] 3)) fun e w' => e = .returned (.bool (l.any (hasR x last))) ∧ Only [] w w') := by
    have o2 : Only [] w ((w.alloc (.cells #[.int .i64 x] 3)).alloc (.cells #[.int .i64 last] 3)) := ((Only.refl _ _).alloc _).alloc _
    refine (ContainsFunc_any (hs.keep o2) hn _ _ enters_Has1 (hasR x last) ?_).mono fun e w' ⟨h1, h2⟩ => ⟨h1, o2.then h2⟩
    intro W hO a b
    have b1 := Bk.new w 3 #[.int .i64 x]
    have b2 := Bk.new (w.alloc (.cells #[.int .i64 x] 3)) 3 #[.int .i64 last]
    rw [World.size_alloc] at b2
    have c1 := ((b1.alloc (.cells #[.int .i64 last] 3)).only hO (fun hm => nomatch hm)).cell 0
    have c2 := (b2.only hO (fun hm => nomatch hm)).cell 0
    exact Has1_any a b x last W _ _ c2 c1
  clear hs
  by_cases h : 1 ≤ x
  · have HE : Hid (hasL l x last = l.any (hasR x last)) := by
      show _ = _
      unfold hasL
      rw [decide_eq_true h]
      rfl
    go_enter Tryd.func14, Tryd.ntmps14
    go_wp2_with (go_at_call 27; with_reducible refine HC.out.mono ?_; rintro e w2 ⟨rfl, O2⟩)
    go_ret
    exact ⟨by rw [HE.out]; rfl, O2⟩
  · have HE : Hid (hasL l x last = false) := by
      show _ = _
      unfold hasL
      rw [decide_eq_false h]
      rfl
    clear HC
    go_enter Tryd.func14, Tryd.ntmps14
    go_wp2
    go_ret
    exact ⟨by rw [HE.out]; rfl, ((Only.refl _ _).alloc _).alloc _⟩
end Go.Proofs.YtkdaemjdiafccaaDoor
