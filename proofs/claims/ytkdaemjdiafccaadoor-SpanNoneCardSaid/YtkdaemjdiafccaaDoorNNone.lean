/-
  The law SpanNone: what may not be is not printed; below 1 nothing is in a set.
-/
import Derived.Test.YtkdaemjdiafccaaDoorNKnown
import Derived.Laws.Append
namespace Go.Proofs.YtkdaemjdiafccaaDoor
open Go.RowKit Go.Instr

section
variable {P : Program} (w : World)
/-- append of n noughts behind a row without room: new memory. -/
theorem run_append_noughts (t u ty e : TypeId) (i : TypeInfo) (z : Value) (ht : P.underlying t = some (.slice e)) (hu : P.underlying u = some (.int .i64)) (hi : P.info? e = some i) (hz : i.zero = some z)
    (b : Addr) (sLen sCap : Nat) (olds : List Value) (hlo : olds.length = sLen * i.size) (holds : ∀ j v, olds[j]? = some v → w.cell? (b.add j) = some v)
    (n : Nat) (N : Int) (hN : N = (n : Int)) (hn0 : 0 < n * i.size) (hb : n ≤ 1000000) (hby : i.bytes ≤ 1000) (hg : sCap < sLen + n) (h63 : sLen ≤ 1000000) (hfit : Builtin.nextslicecap (sLen + n) sCap * i.bytes ≤ 281474976710656) :
    (Builtin.append_ #[t, u] ty #[.slice (some b) sLen sCap, .int .i64 N]).run P w =
      .ok (.slice (some ⟨w.heap.size, 0, none⟩) (sLen + n) (grownCap w (sLen + n) sCap e))
        (w.drew.alloc (.cells (olds.toArray ++ Builtin.zeroCells z.cells n ++ Builtin.zeroCells z.cells (grownCap w (sLen + n) sCap e - (sLen + n))) e)) := by
  subst hN
  have hn : ¬ (sLen + n ≤ sCap) := by omega
  have h63' : ¬ (9223372036854775807 < ((sLen : Int) + (n : Int))) := by omega
  have h48' : ¬ (281474976710656 < Builtin.nextslicecap (sLen + n) sCap * i.bytes) := by omega
  have hfo := run_firstCells_some (P := P) w.drew i.size sLen b sLen sCap olds hlo (by simpa using holds)
  have hw : IntKind.i64.wrap (n : Int) = (n : Int) := IntWalk.i64_in _ (by omega)
  have hneg : ¬ ((n : Int) < 0) := by omega
  have hne : ¬ n * i.size = 0 := by omega
  have hprod : ((n : Int) * (i.bytes : Int)) ≤ 1000000000 := by
    have : n * i.bytes ≤ 1000000 * 1000 := Nat.mul_le_mul hb hby
    have h2 : ((n * i.bytes : Nat) : Int) ≤ 1000000000 := by omega
    rwa [Int.natCast_mul] at h2
  have hmul : ¬ (281474976710656 < (n : Int) * (i.bytes : Int)) := by omega
  simp [Builtin.append_, run_underlying ht, run_underlying hu, sizeOf, typeInfo, zeroValue, hi, hz, asInt, asIntOf, hn, hw, hneg, hmul, h63', h48', Question.forced, hfo, newRow, grownCap]
  exact fun h => absurd h hne
end
theorem wpList_append_20 {ops : Array Oper} {rest : List Oper} {o : Oper} {a : Act} {w : World} {Q : Exit → Act → World → Prop} (hgd : o.guard = none) (s x : Operand)
    (ho : o.op = .call { callee := .builtin .append, args := #[s, x], argTypes := #[22, 3] }) (g : Nat) (hs : a.eval s = .slice (some ⟨g, 0, none⟩) 1 1) (hx : a.eval x = .int .i64 20) (p q : Int) (hb : Bk w g 35 #[.int .i64 p, .int .i64 q])
    (hK : ∀ A' c' w', Only [] w w' → wpList Tryd.prog ops Q rest (a.put o.dst (.slice A' 21 c')) w') : wpList Tryd.prog ops Q (o :: rest) a w := by
  obtain ⟨i0, hi, hz0, hz1, hz2⟩ := info_parts infoRg
  refine wpList_plain hgd fun K hK2 => ?_
  have hrun := run_append_noughts (P := Tryd.prog) w 22 3 o.type 35 i0 _ Tryd.underlying22 Tryd.underlying3 hi hz0 ⟨g, 0, none⟩ 1 1 [.int .i64 p, .int .i64 q] (by rw [hz1]; rfl) (fun j u hu => by rw [add_none, Nat.zero_add, hb.cell]; simpa using hu)
    20 20 rfl (by rw [hz1]; omega) (by omega) (by rw [hz2]; omega) (by omega) (by omega) (by rw [hz2]; exact growslice_fits (by omega) (by omega))
  unfold Oper.wp execOp
  simp only [ho, resolve, invoke, builtin, Sem.run_bind, Sem.run_pure, Result.andThen_ok, List.map_toArray, List.map_cons, List.map_nil, hs, hx, hrun]
  exact hK2 _ _ (hK _ _ _ ((Only.refl _ _).drew.alloc _))
/-- What is too long may not be, whatever it holds. -/
theorem mayBe_long {w : World} {A : Option Addr} {n c : Nat} (h : 16 < n) : Calls Tryd.prog 23 #[.slice A n c] w fun e w' => e = .returned (.bool false) ∧ Only [] w w' := by
  have k1 : (1 : Int) ≤ (n : Int) := by omega
  have k2 : ¬ (n : Int) ≤ 16 := by omega
  go_enter Tryd.func23, Tryd.ntmps23
  go_wp2
  go_ret
  exact ⟨rfl, Only.refl _ _⟩
theorem Print_long {w : World} {A : Option Addr} {n c : Nat} (h : 16 < n) : Calls Tryd.prog 12 #[.slice A n c] w fun e w' => e = .returned (.string ⟨#[]⟩) ∧ Only [] w w' := by
  have cM := mayBe_long (w := w) (A := A) (c := c) h
  clear h
  go_enter Tryd.func12, Tryd.ntmps12
  go_wp2_with (go_at_call 23; with_reducible refine cM.mono ?_; rintro e w2 ⟨rfl, O2⟩)
  go_ret
  exact ⟨rfl, O2⟩
theorem Print_no {w : World} (hL : Laid w) {A : Option Addr} {n c : Nat} {l : List Rg} (hs : Rs w A n l) (hn : n ≤ 1000) (hok : okS l = false) : Calls Tryd.prog 12 #[.slice A n c] w fun e w' => e = .returned (.string ⟨#[]⟩) ∧ Only [] w w' := by
  have h := Print_any (c := c) hL hs (by omega)
  have e : prL l = [] := by unfold prL; rw [hok]; rfl
  rwa [e] at h
set_option maxHeartbeats 1000000 in
theorem None_any {w : World} {A : Option Addr} {n c : Nat} {l : List Rg} (x last : Int) (hs : Rs w A n l) (hL : Laid w) : Calls Tryd.prog 8 #[.slice A n c, .int .i64 x, .int .i64 last] w fun e w' => e = .returned (.bool true) ∧ Only [] w w' := by
  by_cases h40 : 40 < n
  · have h40' : (40 : Int) < (n : Int) := by omega
    clear hs hL
    go_enter Tryd.func8, Tryd.ntmps8
    go_wp2
    go_ret
    exact ⟨rfl, Only.refl _ _⟩
  · have h40' : ¬ (40 : Int) < (n : Int) := by omega
    by_cases hx : 0 < x
    · clear hs hL
      go_enter Tryd.func8, Tryd.ntmps8
      go_wp2
      go_ret
      exact ⟨rfl, Only.refl _ _⟩
    · have HS := Lib.hid hs
      have HL := Lib.hid hL
      have CH : ∀ W, Only [] w W → Calls Tryd.prog 14 #[.slice A n c, .int .i64 x, .int .i64 last] W fun e w' => e = .returned (.bool false) ∧ Only [] W w' := fun W o => by
        have h := Has_any (c := c) (HS.out.keep o) (by omega) x last
        have e : hasL l x last = false := by
          unfold hasL
          rw [decide_eq_false (by omega)]
          rfl
        rwa [e] at h
      have CN : ∀ W, Only [] w W → Calls Tryd.prog 12 #[.slice none 0 0] W fun e w' => e = .returned (.string ⟨#[]⟩) ∧ Only [] W w' := fun W o => Print_no (HL.out.only o) (Rs.nil W none) (by omega) (by decide)
      have CO : ∀ W, Only [] w W → Calls Tryd.prog 12 #[.slice (some ⟨W.heap.size, 0, none⟩) 1 1] (W.alloc (.cells #[.int .i64 0, .int .i64 1] 35)) fun e w' => e = .returned (.string ⟨#[]⟩) ∧ Only [] W w' := fun W o =>
        (Print_no (HL.out.only (o.alloc _)) (Rs.of_bk (Bk.new W 35 #[.int .i64 0, .int .i64 1])) (by omega) (by decide)).mono fun _ _ ⟨h1, h2⟩ => ⟨h1, ((Only.refl _ _).alloc _).then h2⟩
      have O0 : Only [] w (w.alloc (.cells #[.int .i64 1, .int .i64 1] 35)) := (Only.refl _ _).alloc _
      clear hs hL h40
      go_enter Tryd.func8, Tryd.ntmps8
      go_wp2_with first
        | (at_builtin; refine wpList_append_20 rfl (.tmp 16) _ rfl w.heap.size rfl rfl 1 1 (Bk.new _ _ _) ?_; intro A1 c1 w1 O1; replace O1 := O0.then O1)
        | (go_at_call 14; with_reducible refine (CH _ O1).mono ?_; rintro e w2 ⟨rfl, O2⟩; replace O2 := O1.then O2; clear CH)
        | (go_at_call 12; with_reducible refine (CN _ O2).mono ?_; rintro e w3 ⟨rfl, O3⟩; replace O3 := O2.then O3; clear CN)
        | (go_at_call 12; with_reducible refine (Print_long (by omega)).mono ?_; rintro e w4 ⟨rfl, O4⟩; replace O4 := O3.then O4)
        | (go_at_call 12; with_reducible refine (CO _ O4).mono ?_; rintro e w5 ⟨rfl, O5⟩; replace O5 := O4.then O5; clear CO)
        | (go_at_call 17; with_reducible refine (known_any (HL.out.only O5)).mono ?_; rintro e w6 ⟨rfl, O6⟩)
      go_ret
      exact ⟨rfl, O5.then O6⟩
end Go.Proofs.YtkdaemjdiafccaaDoor
