/-
  head's leaves: bytes.Lines, textOf, next, beginsBlank, small; the document's next, Text, blank.
-/
import Derived.Test.YtakehogenioobaaDoorHLib
import Derived.Test.YtakehogenioobaaDoorStr
import Derived.Lib.SmallJoins
import Derived.Lib.SlBytesConst
import Derived.WalkKit
import Derived.Handy
import Derived.Deep.DeepMust
import Derived.WalkLawsBesides
import Derived.WalkMore
import Derived.IntWalk
namespace Go.Proofs.YtakehogenioobaaDoor
open Go.RowKit Go.Instr

section
variable {w : World} {A : Option Addr} {n c : Nat} {l : List UInt8}
theorem lit0 (w : World) (v : Value) (t : TypeId) (fr : Nat × Nat) : (w.alloc (.cells #[v] t fr)).cell? ⟨w.heap.size, 0, none⟩ = some v := World.cell?_alloc_mark w #[v] t fr 0
theorem lit1 (w : World) (E : Obj) (v : Value) (t : TypeId) (fr : Nat × Nat) : ((w.alloc E).alloc (.cells #[v] t fr)).cell? ⟨w.heap.size + 1, 0, none⟩ = some v := by
  have h := World.cell?_alloc_mark (w.alloc E) #[v] t fr 0
  rw [World.size_alloc] at h
  exact h
/-- '[]byte("x")' of one byte: the block, at the heap's end, gets its mark. -/
theorem mark0 (w : World) (v : Value) : (convert 24 24 (.slice (some ⟨w.heap.size, 0, none⟩) 1 1)).run Tryd.prog (w.alloc (.cells #[v] 5)) = .ok (.slice (some ⟨w.heap.size, 0, none⟩) 1 1) (w.alloc (.cells #[v] 5 (1, 2))) :=
  Lib.run_convert_bytes_const (P := Tryd.prog) w 24 5 #[v] 1 1 Tryd.underlying24 Tryd.underlying5
theorem mark1 (w : World) (E : Obj) (v : Value) : (convert 24 24 (.slice (some ⟨w.heap.size + 1, 0, none⟩) 1 1)).run Tryd.prog ((w.alloc E).alloc (.cells #[v] 5)) = .ok (.slice (some ⟨w.heap.size + 1, 0, none⟩) 1 1) ((w.alloc E).alloc (.cells #[v] 5 (1, 2))) := by
  have := mark0 (w.alloc E) v
  rwa [World.size_alloc] at this
theorem suf_take (l : List UInt8) (x : UInt8) : l.take (Lib.trimSuffix l [x]).length = Lib.trimSuffix l [x] := by
  unfold Lib.trimSuffix
  split
  · rw [List.length_take, List.take_eq_take_iff]; omega
  · simp
theorem suf_le (l : List UInt8) (x : UInt8) : (Lib.trimSuffix l [x]).length ≤ l.length := Lib.trimSuffix_le l [x]
theorem Bt.suf (h : Bt w A n c l) (x : UInt8) : Bt w A (Lib.trimSuffix l [x]).length c (Lib.trimSuffix l [x]) := by
  have h1 := h.len
  have := h.pre (k := (Lib.trimSuffix l [x]).length) (by have := suf_le l x; omega)
  rwa [suf_take] at this
theorem Bt.tx (h : Bt w A n c l) : Bt w A (tx l).length c (tx l) := (h.suf 10).suf 13

theorem Lines_any (w : World) (A : Option Addr) (n c : Nat) : Calls Tryd.prog 44 #[.slice A n c] w fun e w' => e = .returned (.func (.func 60) #[] #[.pointer (some ⟨w.heap.size, 0, none⟩)]) ∧ w.alloc (.cells #[.slice A n c] 24) = w' := by
  go_enter Tryd.func44, Tryd.ntmps44
  go_wp2
  go_ret
  exact ⟨rfl, rfl⟩

theorem textOf_any (hs : Bt w A n c l) : Calls Tryd.prog 45 #[.slice A n c] w fun e w' => e = .returned (.slice A (tx l).length c) ∧ Only [] w w' := by
  obtain ⟨l1, hl1⟩ : ∃ l1, Lib.trimSuffix l [10] = l1 := ⟨_, rfl⟩
  have hs1 := hs.suf 10
  rw [hl1] at hs1
  obtain ⟨m, hm⟩ : ∃ m, l1.length = m := ⟨_, rfl⟩
  have hT : tx l = Lib.trimSuffix l1 [13] := by unfold tx tr; rw [hl1]
  rw [hT]
  obtain ⟨m2, hm2⟩ : ∃ m2, (Lib.trimSuffix l1 [13]).length = m2 := ⟨_, rfl⟩
  have c1 : ∀ b2 o2 d w1, Only [] w w1 → w1.cell? ⟨b2, o2, none⟩ = some (.int .u8 10) → Calls Tryd.prog 42 #[.slice A n c, .slice (some ⟨b2, o2, none⟩) 1 d] w1 fun e w' => e = .returned (.slice A m c) ∧ w1 = w' := fun b2 o2 d w1 hO h => by
    have := suffix_any (hs.keep hO) b2 o2 d 10 h
    rwa [hl1, hm] at this
  have c2 : ∀ b2 o2 d w1, Only [] w w1 → w1.cell? ⟨b2, o2, none⟩ = some (.int .u8 13) → Calls Tryd.prog 42 #[.slice A m c, .slice (some ⟨b2, o2, none⟩) 1 d] w1 fun e w' => e = .returned (.slice A m2 c) ∧ w1 = w' := fun b2 o2 d w1 hO h => by
    rw [hm] at hs1
    have := suffix_any (hs1.keep hO) b2 o2 d 13 h
    rwa [hm2] at this
  rw [hm2]
  clear hm hm2 hl1 hT hs1
  have k0 := mark0 w (.int .u8 10)
  have k1 := mark1 w (.cells #[.int .u8 10] 5 (1, 2)) (.int .u8 13)
  go_enter Tryd.func45, Tryd.ntmps45
  go_wp2_with first
    | (go_at_call 42; with_reducible refine (c1 _ _ _ _ ((Only.refl _ _).alloc _) (lit0 _ _ _ _)).mono ?_; rintro e w1 ⟨rfl, rfl⟩)
    | (go_at_call 42; with_reducible refine (c2 _ _ _ _ (((Only.refl _ _).alloc _).alloc _) (lit1 _ _ _ _ _)).mono ?_; rintro e w1 ⟨rfl, rfl⟩)
  go_ret
  exact ⟨rfl, ((Only.refl _ _).alloc _).alloc _⟩

theorem tx_next (l : List UInt8) : tx (l.take (nl l)) = tx (l.take (nl l + 1)) := by
  have hno : ∀ y, (l.take (nl l)).getLast? = some y → y ≠ 10 := fun y hy => by
    have hm := List.mem_of_getLast? hy
    obtain ⟨k, hk, rfl⟩ := List.getElem_of_mem hm
    rw [List.length_take] at hk
    rw [List.getElem_take]
    exact nl_before (by omega) (by omega)
  rcases Nat.lt_or_ge (nl l) l.length with h | h
  · rw [List.take_succ_eq_append_getElem h, nl_at h, tx_line]
    unfold tx
    rw [trimSuffix_not hno]
  · rw [List.take_of_length_le h, List.take_of_length_le (by omega)]

theorem next_any (hs : Bt w A n c l) (hbig : n ≤ 4611686018427387904) : Calls Tryd.prog 46 #[.slice A n c] w fun e w' => ∃ A2 n2 c2, e = .returned (.tuple #[.slice A (tx (l.take (nl l + 1))).length c, .slice A2 n2 c2]) ∧ Only [] w w' ∧
    Bt w' A (tx (l.take (nl l + 1))).length c (tx (l.take (nl l + 1))) ∧ Bt w' A2 n2 c2 (l.drop (nl l + 1)) ∧ ∀ k ∈ blks A2, k ∈ blks A := by
  rw [← tx_next]
  obtain ⟨m, hm⟩ : ∃ m, nl l = m := ⟨_, rfl⟩
  rw [hm]
  obtain ⟨T, hT⟩ : ∃ T, tx (l.take m) = T := ⟨_, rfl⟩
  obtain ⟨bo, hbo⟩ : ∃ bo, decide (fi 10 l < l.length) = bo := ⟨_, rfl⟩
  have c1 : ∀ b2 o2 d w1, Only [] w w1 → w1.cell? ⟨b2, o2, none⟩ = some (.int .u8 10) → Calls Tryd.prog 41 #[.slice A n c, .slice (some ⟨b2, o2, none⟩) 1 d] w1 fun e w' => ∃ A2 n2 c2, e = .returned (.tuple #[.slice A m c, .slice A2 n2 c2, .bool bo]) ∧ Only [] w1 w' ∧
      Bt w' A m c (l.take m) ∧ Bt w' A2 n2 c2 (l.drop (m + 1)) ∧ ∀ k ∈ blks A2, k ∈ blks A := fun b2 o2 d w1 hO h => by
    have := cut_any (hs.keep hO) hbig b2 o2 d 10 h
    rwa [hbo, show fi 10 l = m from hm] at this
  have c2 : ∀ w1, Bt w1 A m c (l.take m) → Calls Tryd.prog 45 #[.slice A m c] w1 fun e w' => e = .returned (.slice A T.length c) ∧ Only [] w1 w' := fun w1 h => by
    have := textOf_any h
    rwa [hT] at this
  have hTB : ∀ w1, Bt w1 A m c (l.take m) → Bt w1 A T.length c T := fun w1 h => by
    have := h.tx
    rwa [hT] at this
  rw [hT]
  obtain ⟨q, hq⟩ : ∃ q, T.length = q := ⟨_, rfl⟩
  rw [hq] at c2 hTB ⊢
  have k0 := mark0 w (.int .u8 10)
  have hO0 : Only [] w (w.alloc (.cells #[.int .u8 10] 5 (1, 2))) := (Only.refl _ _).alloc _
  clear hm hT hbo hq
  go_enter Tryd.func46, Tryd.ntmps46
  go_wp2_with first
    | (go_at_call 41; with_reducible refine (c1 _ _ _ _ hO0 (lit0 _ _ _ _)).mono ?_; rintro e w1 ⟨A2, n2, c2', rfl, hO1, hB1, hB2, hbl⟩)
    | (go_at_call 45; with_reducible refine (c2 _ hB1).mono ?_; rintro e w2 ⟨rfl, hO2⟩)
  go_ret2
  exact ⟨_, _, _, rfl, (hO0.then hO1).then hO2, (hTB _ hB1).keep hO2, hB2.keep hO2, hbl⟩

theorem beginsBlank_any (hs : Bt w A n c l) : Calls Tryd.prog 47 #[.slice A n c] w fun e w' => e = .returned (.bool (begB l)) ∧ w = w' := by
  have hl := hs.len
  cases l with
  | nil =>
    subst hl
    go_enter Tryd.func47, Tryd.ntmps47
    go_wp2
    go_ret
    exact ⟨rfl, rfl⟩
  | cons x t =>
    have hn : 0 < n := by simp at hl; omega
    have hn' : (0 : Int) < (n : Int) := by omega
    obtain ⟨ad, rfl, hc⟩ := hs.sl.2 hn
    have h0 : w.cell? ad = some (.int .u8 (x.toNat : Int)) := by
      have := hc 0 (bv x) rfl
      rwa [add_zero] at this
    obtain ⟨I, hI⟩ : ∃ I, Lib.indexByte [32, 9] x = I := ⟨_, rfl⟩
    obtain ⟨bo, hbo⟩ : ∃ bo, decide (I ≥ 0) = bo := ⟨_, rfl⟩
    have hB : begB (x :: t) = bo := by
      show ([32, 9] : List UInt8).contains x = bo
      rw [← hbo, ← hI]
      by_cases h1 : x = 32
      · subst h1; rfl
      · by_cases h2 : x = 9
        · subst h2; rfl
        · have e1 : (32 == x) = false := by rw [beq_eq_false_iff_ne]; exact fun h => h1 h.symm
          have e2 : (9 == x) = false := by rw [beq_eq_false_iff_ne]; exact fun h => h2 h.symm
          have e3 : Lib.indexByte [32, 9] x = -1 := by
            rw [index_fi]
            unfold fi
            simp [List.findIdx_cons, e1, e2]
          rw [e3]
          simp [h1, h2]
    rw [hB]
    have c1 : Calls Tryd.prog 62 #[.string ⟨#[32, 9]⟩, .int .u8 (x.toNat : Int)] w fun e w' => e = .returned (.int .i64 I) ∧ w = w' := by
      refine (Tryd.strings_IndexByte ⟨#[32, 9]⟩ (x.toNat : Int) w).mono fun e w' he => ⟨?_, he.2.symm⟩
      rw [he.1, ← hI]
      simp
    clear hc hs hl hI hB
    by_cases hI0 : 0 ≤ I
    · obtain rfl : bo = true := by rw [← hbo]; exact decide_eq_true hI0
      clear hbo
      go_enter Tryd.func47, Tryd.ntmps47
      go_wp2_with (go_at_call 62; with_reducible refine c1.mono ?_; rintro e w1 ⟨rfl, rfl⟩)
      go_ret
      exact ⟨rfl, rfl⟩
    · obtain rfl : bo = false := by rw [← hbo]; exact decide_eq_false hI0
      have hI1 : decide (0 ≤ I) = false := decide_eq_false hI0
      clear hbo
      go_enter Tryd.func47, Tryd.ntmps47
      go_wp2_with (go_at_call 62; with_reducible refine c1.mono ?_; rintro e w1 ⟨rfl, rfl⟩)
      go_ret
      exact ⟨by rw [← hI1]; rfl, rfl⟩

theorem small_any (x : UInt8) (w : World) : Calls Tryd.prog 49 #[.int .u8 (x.toNat : Int)] w fun e w' => e = .returned (.int .u8 ((low x).toNat : Int)) ∧ w = w' := by
  have hx := byte_lt x
  obtain ⟨k, hk⟩ : ∃ k : Nat, x.toNat = k := ⟨_, rfl⟩
  have hlow : (low x).toNat = if 65 ≤ k ∧ k ≤ 90 then k + 32 else k := by
    unfold low
    rw [← hk]
    by_cases h : 65 ≤ x.toNat ∧ x.toNat ≤ 90
    · rw [if_pos h, if_pos ⟨UInt8.le_iff_toNat_le.2 h.1, UInt8.le_iff_toNat_le.2 h.2⟩, UInt8.toNat_add]
      show (x.toNat + 32) % 256 = _
      omega
    · rw [if_neg h, if_neg (fun h2 : 65 ≤ x ∧ x ≤ 90 => h ⟨by have := UInt8.le_iff_toNat_le.1 h2.1; exact this, by have := UInt8.le_iff_toNat_le.1 h2.2; exact this⟩)]
  rw [hlow, hk]
  rw [hk] at hx
  clear hlow hk
  have hr : k < 65 ∨ 90 < k ∨ (65 ≤ k ∧ k ≤ 90) := by omega
  rcases hr with h | h | ⟨h1, h2⟩
  · have h' : (k : Int) < 65 := by omega
    rw [if_neg (by omega)]
    go_enter Tryd.func49, Tryd.ntmps49
    go_wp2
    go_ret
    exact ⟨rfl, rfl⟩
  · have h' : (90 : Int) < (k : Int) := by omega
    have h'' : (65 : Int) ≤ (k : Int) := by omega
    rw [if_neg (by omega)]
    go_enter Tryd.func49, Tryd.ntmps49
    go_wp2
    go_ret
    exact ⟨rfl, rfl⟩
  · have h1' : (65 : Int) ≤ (k : Int) := by omega
    have h2' : (k : Int) ≤ 90 := by omega
    rw [if_pos ⟨h1, h2⟩]
    go_enter Tryd.func49, Tryd.ntmps49
    go_wp2
    go_ret
    refine ⟨?_, rfl⟩
    show Ending.returned (.int .u8 ((k : Int) - 65 + 97)) = _
    rw [show (k : Int) - 65 + 97 = ((k + 32 : Nat) : Int) by omega]
end
end Go.Proofs.YtakehogenioobaaDoor
