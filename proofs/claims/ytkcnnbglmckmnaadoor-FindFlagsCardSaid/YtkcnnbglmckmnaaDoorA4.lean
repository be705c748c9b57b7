/-
  Texts of the seat, laid one behind the other: HLib HLeaf HLow ZTxt ZSmall Gro HRange0 HRange HWords.
-/
import Derived.Test.YtkcnnbglmckmnaaDoorA3
import Derived.Test.YtkcnnbglmckmnaaDoorA1
import Derived.Test.YtkcnnbglmckmnaaDoorA2
import Derived.Lib.SmallJoins
import Derived.Lib.SlBytesConst
import Derived.WalkKit
import Derived.Deep.DeepMust
import Derived.WalkLawsBesides
import Derived.WalkMore
import Derived.IntWalk
import Derived.Lib.ConvBytes
import Derived.Lib.IndexMore
import Derived.ArgAppend
import Derived.Deep.Upon
import Derived.RangeFuncNested
import Derived.RangeFuncCalls
import Derived.OwnWalkIn
import Derived.TacticsInMore
import Derived.LoopNIn
import Derived.LoopIn
import Derived.Shelf.RegionOpen
namespace Go.Proofs.YtkcnnbglmckmnaaDoor
open Go.RowKit
theorem index_any (A : Option Addr) (n c : Nat) (l : List UInt8) (w : World) (h0 : 0 < n) (h : Sl w A n (bvs l)) : Calls Tryd.prog 105 #[.slice A n c, .int .u8 10] w fun e w' => e = .returned (.int .i64 (Lib.indexByte l 10)) ∧ w = w' := by
  have hl : l.length = n := by simpa using h.len
  obtain ⟨ad, rfl, _⟩ := h.2 h0
  refine (Tryd.bytes_IndexByte_at ad n c (nums l) 10 w (by rw [nums_len, hl]) (cells_of h)).mono fun e w' he => ⟨?_, he.2.symm⟩
  rw [he.1, nums_bytes]
  rfl
section
variable {w : World} {A : Option Addr} {n c : Nat} {l : List UInt8}
theorem clone_any (c : Nat) (hs : Sl w A n (bvs l)) (hn : n ≤ 140737488355328) :
    Calls Tryd.prog 64 #[.slice A n c] w fun e w' => ∃ A' c', e = .returned (.slice A' n c') ∧ Own w' 5 A' n c' (bvs l) ∧ Only [] w w' ∧ ∀ k ∈ blks A', w.heap.size ≤ k := by
  have hl : l.length = n := by simpa using hs.len
  subst hl
  cases A with
  | none =>
    obtain ⟨rfl, _⟩ := sl_empty hs
    refine (Tryd.bytes_Clone_nil 0 c w).mono fun e w' he => ?_
    obtain ⟨rfl, rfl⟩ := he
    exact ⟨none, 0, rfl, Own.nil _ _, Only.refl _ _, fun k hk => nomatch hk⟩
  | some ad =>
    refine (Tryd.bytes_Clone_at ad l.length c (nums l) w (nums_len l) hn (cells_of hs)).mono fun e w' he => ?_
    obtain ⟨v, rfl, h1, _, h3⟩ := he
    rw [nums_vals] at h1
    have hform : ∃ A' c', v = .slice A' l.length c' ∧ ∀ k ∈ blks A', w.heap.size ≤ k := by
      rcases h1.2 with ⟨rfl, h0⟩ | ⟨g, cap, cur, rfl, hb, _⟩
      · exact ⟨none, 0, by rw [h0], fun _ hk => nomatch hk⟩
      · exact ⟨_, _, rfl, fun k hk => by simp at hk; omega⟩
    obtain ⟨A', c', rfl, hb⟩ := hform
    exact ⟨A', c', rfl, own_base h1 (fun _ _ => Nat.zero_le _), Only.of_below h3, hb⟩
theorem suffix_any (hs : Bt w A n c l) (b2 o2 d : Nat) (x : UInt8) (h2 : w.cell? ⟨b2, o2, none⟩ = some (bv x)) :
    Calls Tryd.prog 106 #[.slice A n c, .slice (some ⟨b2, o2, none⟩) 1 d] w fun e w' => e = .returned (.slice A (Lib.trimSuffix l [x]).length c) ∧ w = w' := by
  have hl := hs.len
  have hcap := hs.cap; have hmax := hs.max
  subst hl
  refine (Tryd.bytes_TrimSuffix_all A (some ⟨b2, o2, none⟩) l.length c 1 d (nums l) (nums [x]) w (nums_len l) rfl hcap (by omega) (sl_in hs.sl) (one_in h2)).mono fun e w' he => ⟨he.1.trans (congrArg Ending.returned ?_), he.2.symm⟩
  rcases Nat.eq_zero_or_pos l.length with h0 | h0
  · obtain rfl : l = [] := List.eq_nil_of_length_eq_zero h0
    unfold Lib.trimSuffixV
    split
    · unfold Lib.bytesTrimSuffix
      simp [nums, Lib.bytesOf, Lib.hasSuffix, Lib.trimSuffix]
    · simp [Lib.trimSuffix, Lib.hasSuffix]
  · obtain ⟨b, o, rfl, _⟩ := (sl_in hs.sl) h0
    unfold Lib.trimSuffixV Lib.bytesTrimSuffix
    simp only [nums, List.map_cons, List.map_nil]
    rw [show (l.map fun b => (b.toNat : Int)) = nums l from rfl, nums_bytes, show Lib.bytesOf [(x.toNat : Int)] = [x] by simpa [nums] using nums_bytes [x]]
    unfold Lib.trimSuffix
    by_cases hh : Lib.hasSuffix l [x] = true
    · simp [hh, Lib.sliceTo]
    · simp [hh]
theorem cut_any (hs : Bt w A n c l) (hbig : n ≤ 4611686018427387904) (b2 o2 d : Nat) (x : UInt8) (h2 : w.cell? ⟨b2, o2, none⟩ = some (bv x)) :
    Calls Tryd.prog 63 #[.slice A n c, .slice (some ⟨b2, o2, none⟩) 1 d] w fun e w' => ∃ A2 n2 c2, e = .returned (.tuple #[.slice A (fi x l) c, .slice A2 n2 c2, .bool (decide (fi x l < l.length))]) ∧ Only [] w w' ∧
      Bt w' A (fi x l) c (l.take (fi x l)) ∧ Bt w' A2 n2 c2 (l.drop (fi x l + 1)) ∧ ∀ k ∈ blks A2, k ∈ blks A := by
  have hl := hs.len
  subst hl
  have hcap := hs.cap; have hmax := hs.max; have hfi := fi_le x l
  obtain ⟨I, hI⟩ : ∃ I, I = Lib.indexByte l x := ⟨_, rfl⟩
  have hI2 : I = if fi x l < l.length then (fi x l : Int) else -1 := by rw [hI, index_fi]
  have hidx : Calls Tryd.prog 85 #[.slice A l.length c, .slice (some ⟨b2, o2, none⟩) 1 d] w fun e w' => e = .returned (.int .i64 I) ∧ ∃ q, w' = w.drewN q := by
    cases A with
    | none =>
      obtain rfl := hs.nil rfl
      obtain ⟨rfl, _⟩ := sl_empty hs.sl
      refine (Tryd.bytes_Index_one_nil b2 o2 d x.toNat w h2).mono fun e w' he => ⟨?_, 0, he.2⟩
      rw [he.1, hI]
      rfl
    | some ad =>
      refine (Tryd.bytes_Index_one_at ad l.length c b2 o2 d (nums l) x.toNat w (nums_len l) (cells_of hs.sl) h2).mono fun e w' he => ⟨?_, 0, he.2⟩
      rw [he.1, hI, nums_bytes]
      simp
  refine (Tryd.bytes_Cut_of A (some ⟨b2, o2, none⟩) l.length c 1 d I w hcap (by rw [hI2]; split <;> omega) (fun h0 => by rw [hI2] at h0 ⊢; split at h0 <;> rename_i h1; (rw [if_pos h1]; omega); omega) (by omega) hidx).mono fun e w' he => ?_
  obtain ⟨he, q, rfl⟩ := he
  have hO : Only [] w (w.drewN q) := (Only.refl _ _).drewN q
  by_cases h1 : fi x l < l.length
  · have hI3 : I = (fi x l : Int) := by rw [hI2, if_pos h1]
    refine ⟨_, _, _, he.trans (congrArg Ending.returned ?_), hO, (hs.pre hfi).keep hO, (hs.cut (k := fi x l + 1) (by omega)).keep hO, fun k hk => by rwa [blks_from] at hk⟩
    unfold Lib.cutV
    rw [hI3, if_pos (by omega), decide_eq_true h1]
    rfl
  · have hI3 : I = -1 := by rw [hI2, if_neg h1]
    have hfe : fi x l = l.length := by omega
    refine ⟨none, 0, 0, he.trans (congrArg Ending.returned ?_), hO, (hs.pre hfi).keep hO, ?_, fun k hk => nomatch hk⟩
    · unfold Lib.cutV
      rw [hI3, if_neg (by omega), decide_eq_false h1, hfe]
    · rw [List.drop_of_length_le (by omega)]
      exact Bt.none_ _
theorem trim_any (hs : Bt w A n c l) :
    Calls Tryd.prog 65 #[.slice A n c, .string ⟨#[32, 9]⟩] w fun e w' => ∃ A2 c2, e = .returned (.slice A2 (trimB l).length c2) ∧ Only [] w w' ∧ Bt w' A2 (trimB l).length c2 (trimB l) ∧ ∀ k ∈ blks A2, k ∈ blks A := by
  have hl := hs.len
  subst hl
  refine (Tryd.bytes_Trim_laid (by kernel_rfl) A l.length c (nums l) ⟨#[32, 9]⟩ w (nums_len l) hs.cap hs.max (sl_in hs.sl) (nums_small l) (by decide) (ascii_of_all (by decide))).mono fun e w' he => ?_
  obtain ⟨he, hB⟩ := he
  have hO : Only [] w w' := Only.of_below hB
  rw [nums_bytes] at he
  obtain ⟨R, hR⟩ : ∃ R, R = dropR l := ⟨_, rfl⟩
  have hR1 : Lib.trimRightS l [32, 9] = R := hR.symm
  have hR2 : trimB l = R.dropWhile isB := by rw [hR]; rfl
  have hRl : R.length ≤ l.length := by
    rw [hR]
    unfold dropR
    rw [List.length_reverse]
    refine Nat.le_trans (List.dropWhile_suffix _).length_le ?_
    rw [List.length_reverse]
    exact Nat.le_refl _
  have hRt : l.take R.length = R := by
    have : R.reverse <:+ l.reverse := by rw [hR]; unfold dropR; rw [List.reverse_reverse]; exact List.dropWhile_suffix _
    have h2 : R <+: l := by
      obtain ⟨p, hp⟩ := this
      refine ⟨p.reverse, ?_⟩
      have := congrArg List.reverse hp
      rw [List.reverse_append, List.reverse_reverse, List.reverse_reverse] at this
      exact this
    obtain ⟨p, hp⟩ := h2
    rw [← hp, List.take_left]
  have hT : (trimB l).length ≤ R.length := by rw [hR2]; exact (List.dropWhile_suffix _).length_le
  have hD : R.drop (R.length - (trimB l).length) = trimB l := by
    obtain ⟨p, hp⟩ : trimB l <:+ R := by rw [hR2]; exact List.dropWhile_suffix _
    have hpl : R.length = p.length + (trimB l).length := by rw [← hp, List.length_append]
    rw [show R.length - (trimB l).length = p.length by omega]
    conv => lhs; rw [← hp]
    rw [List.drop_left]
  rw [show Lib.trimRightS l ((⟨#[32, 9]⟩ : ByteArray).data.toList) = R from hR1, show Lib.trimS l ((⟨#[32, 9]⟩ : ByteArray).data.toList) = trimB l from rfl] at he
  unfold Lib.leftV at he
  by_cases h0 : (trimB l).length = 0
  · have h3 : trimB l = [] := List.eq_nil_of_length_eq_zero h0
    rw [h0, Nat.sub_zero, if_pos rfl] at he
    rw [h3]
    exact ⟨none, 0, he, hO, Bt.none_ _, fun k hk => nomatch hk⟩
  · rw [if_neg (by omega)] at he
    have hp := (hs.pre hRl).cut (k := R.length - (trimB l).length) (by omega)
    rw [hRt, hD, show R.length - (R.length - (trimB l).length) = (trimB l).length by omega] at hp
    refine ⟨_, _, he.trans (congrArg Ending.returned ?_), hO, hp.keep hO, fun k hk => by rwa [blks_from] at hk⟩
    unfold Lib.fromV
    rw [show R.length - (R.length - (trimB l).length) = (trimB l).length by omega]
end
end Go.Proofs.YtkcnnbglmckmnaaDoor
namespace Go.Proofs.YtkcnnbglmckmnaaDoor
open Go.RowKit Go.Instr
section
variable {w : World} {A : Option Addr} {n c : Nat} {l : List UInt8}
theorem lit0 (w : World) (v : Value) (t : TypeId) (fr : Nat × Nat) : (w.alloc (.cells #[v] t fr)).cell? ⟨w.heap.size, 0, none⟩ = some v := World.cell?_alloc_mark w #[v] t fr 0
theorem lit1 (w : World) (E : Obj) (v : Value) (t : TypeId) (fr : Nat × Nat) : ((w.alloc E).alloc (.cells #[v] t fr)).cell? ⟨w.heap.size + 1, 0, none⟩ = some v := by
  have h := World.cell?_alloc_mark (w.alloc E) #[v] t fr 0
  rw [World.size_alloc] at h
  exact h
theorem mark0 (w : World) (v : Value) : (convert 35 35 (.slice (some ⟨w.heap.size, 0, none⟩) 1 1)).run Tryd.prog (w.alloc (.cells #[v] 5)) = .ok (.slice (some ⟨w.heap.size, 0, none⟩) 1 1) (w.alloc (.cells #[v] 5 (1, 2))) :=
  Lib.run_convert_bytes_const (P := Tryd.prog) w 35 5 #[v] 1 1 Tryd.underlying35 Tryd.underlying5
theorem mark1 (w : World) (E : Obj) (v : Value) : (convert 35 35 (.slice (some ⟨w.heap.size + 1, 0, none⟩) 1 1)).run Tryd.prog ((w.alloc E).alloc (.cells #[v] 5)) = .ok (.slice (some ⟨w.heap.size + 1, 0, none⟩) 1 1) ((w.alloc E).alloc (.cells #[v] 5 (1, 2))) := by
  have := mark0 (w.alloc E) v
  rwa [World.size_alloc] at this
theorem suf_take (l : List UInt8) (x : UInt8) : l.take (Lib.trimSuffix l [x]).length = Lib.trimSuffix l [x] := by
  unfold Lib.trimSuffix
  split
  · rw [List.length_take, List.take_eq_take_iff]; omega
  · simp
theorem suf_le (l : List UInt8) (x : UInt8) : (Lib.trimSuffix l [x]).length ≤ l.length := Lib.trimSuffix_le l [x]
theorem Bt.suf (h : Bt w A n c l) (x : UInt8) : Bt w A (Lib.trimSuffix l [x]).length c (Lib.trimSuffix l [x]) := by
  have h1 := h.len
  have := h.pre (k := (Lib.trimSuffix l [x]).length) (by have := suf_le l x; omega)
  rwa [suf_take] at this
theorem Bt.tx (h : Bt w A n c l) : Bt w A (tx l).length c (tx l) := (h.suf 10).suf 13
theorem Lines_any (w : World) (A : Option Addr) (n c : Nat) : Calls Tryd.prog 82 #[.slice A n c] w fun e w' => e = .returned (.func (.func 104) #[] #[.pointer (some ⟨w.heap.size, 0, none⟩)]) ∧ w.alloc (.cells #[.slice A n c] 35) = w' := by
  go_enter Tryd.func82, Tryd.ntmps82
  go_wp2
  go_ret
  exact ⟨rfl, rfl⟩
theorem textOf_any (hs : Bt w A n c l) : Calls Tryd.prog 83 #[.slice A n c] w fun e w' => e = .returned (.slice A (tx l).length c) ∧ Only [] w w' := by
  obtain ⟨l1, hl1⟩ : ∃ l1, Lib.trimSuffix l [10] = l1 := ⟨_, rfl⟩
  have hs1 := hs.suf 10
  rw [hl1] at hs1
  obtain ⟨m, hm⟩ : ∃ m, l1.length = m := ⟨_, rfl⟩
  have hT : tx l = Lib.trimSuffix l1 [13] := by unfold tx tr; rw [hl1]
  rw [hT]
  obtain ⟨m2, hm2⟩ : ∃ m2, (Lib.trimSuffix l1 [13]).length = m2 := ⟨_, rfl⟩
  have c1 : ∀ b2 o2 d w1, Only [] w w1 → w1.cell? ⟨b2, o2, none⟩ = some (.int .u8 10) → Calls Tryd.prog 106 #[.slice A n c, .slice (some ⟨b2, o2, none⟩) 1 d] w1 fun e w' => e = .returned (.slice A m c) ∧ w1 = w' := fun b2 o2 d w1 hO h => by
    have := suffix_any (hs.keep hO) b2 o2 d 10 h
    rwa [hl1, hm] at this
  have c2 : ∀ b2 o2 d w1, Only [] w w1 → w1.cell? ⟨b2, o2, none⟩ = some (.int .u8 13) → Calls Tryd.prog 106 #[.slice A m c, .slice (some ⟨b2, o2, none⟩) 1 d] w1 fun e w' => e = .returned (.slice A m2 c) ∧ w1 = w' := fun b2 o2 d w1 hO h => by
    rw [hm] at hs1
    have := suffix_any (hs1.keep hO) b2 o2 d 13 h
    rwa [hm2] at this
  rw [hm2]
  clear hm hm2 hl1 hT hs1
  have k0 := mark0 w (.int .u8 10)
  have k1 := mark1 w (.cells #[.int .u8 10] 5 (1, 2)) (.int .u8 13)
  go_enter Tryd.func83, Tryd.ntmps83
  go_wp2_with first
    | (go_at_call 106; with_reducible refine (c1 _ _ _ _ ((Only.refl _ _).alloc _) (lit0 _ _ _ _)).mono ?_; rintro e w1 ⟨rfl, rfl⟩)
    | (go_at_call 106; with_reducible refine (c2 _ _ _ _ (((Only.refl _ _).alloc _).alloc _) (lit1 _ _ _ _ _)).mono ?_; rintro e w1 ⟨rfl, rfl⟩)
  go_ret
  exact ⟨rfl, ((Only.refl _ _).alloc _).alloc _⟩
theorem tx_next (l : List UInt8) : tx (l.take (nl l)) = tx (l.take (nl l + 1)) := by
  have hno : ∀ y, (l.take (nl l)).getLast? = some y → y ≠ 10 := fun y hy => by
    have hm := List.mem_of_getLast? hy
    obtain ⟨k, hk, rfl⟩ := List.getElem_of_mem hm
    rw [List.length_take] at hk
    rw [List.getElem_take]
    exact nl_before (by omega) (by omega)
  rcases Nat.lt_or_ge (nl l) l.length with h | h
  · rw [List.take_succ_eq_append_getElem h, nl_at h, tx_line]
    unfold tx
    rw [trimSuffix_not hno]
  · rw [List.take_of_length_le h, List.take_of_length_le (by omega)]
theorem next_any (hs : Bt w A n c l) (hbig : n ≤ 4611686018427387904) : Calls Tryd.prog 61 #[.slice A n c] w fun e w' => ∃ A2 n2 c2, e = .returned (.tuple #[.slice A (tx (l.take (nl l + 1))).length c, .slice A2 n2 c2]) ∧ Only [] w w' ∧
    Bt w' A (tx (l.take (nl l + 1))).length c (tx (l.take (nl l + 1))) ∧ Bt w' A2 n2 c2 (l.drop (nl l + 1)) ∧ ∀ k ∈ blks A2, k ∈ blks A := by
  rw [← tx_next]
  obtain ⟨m, hm⟩ : ∃ m, nl l = m := ⟨_, rfl⟩
  rw [hm]
  obtain ⟨T, hT⟩ : ∃ T, tx (l.take m) = T := ⟨_, rfl⟩
  obtain ⟨bo, hbo⟩ : ∃ bo, decide (fi 10 l < l.length) = bo := ⟨_, rfl⟩
  have c1 : ∀ b2 o2 d w1, Only [] w w1 → w1.cell? ⟨b2, o2, none⟩ = some (.int .u8 10) → Calls Tryd.prog 63 #[.slice A n c, .slice (some ⟨b2, o2, none⟩) 1 d] w1 fun e w' => ∃ A2 n2 c2, e = .returned (.tuple #[.slice A m c, .slice A2 n2 c2, .bool bo]) ∧ Only [] w1 w' ∧
      Bt w' A m c (l.take m) ∧ Bt w' A2 n2 c2 (l.drop (m + 1)) ∧ ∀ k ∈ blks A2, k ∈ blks A := fun b2 o2 d w1 hO h => by
    have := cut_any (hs.keep hO) hbig b2 o2 d 10 h
    rwa [hbo, show fi 10 l = m from hm] at this
  have c2 : ∀ w1, Bt w1 A m c (l.take m) → Calls Tryd.prog 83 #[.slice A m c] w1 fun e w' => e = .returned (.slice A T.length c) ∧ Only [] w1 w' := fun w1 h => by
    have := textOf_any h
    rwa [hT] at this
  have hTB : ∀ w1, Bt w1 A m c (l.take m) → Bt w1 A T.length c T := fun w1 h => by
    have := h.tx
    rwa [hT] at this
  rw [hT]
  obtain ⟨q, hq⟩ : ∃ q, T.length = q := ⟨_, rfl⟩
  rw [hq] at c2 hTB ⊢
  have k0 := mark0 w (.int .u8 10)
  have hO0 : Only [] w (w.alloc (.cells #[.int .u8 10] 5 (1, 2))) := (Only.refl _ _).alloc _
  clear hm hT hbo hq
  go_enter Tryd.func61, Tryd.ntmps61
  go_wp2_with first
    | (go_at_call 63; with_reducible refine (c1 _ _ _ _ hO0 (lit0 _ _ _ _)).mono ?_; rintro e w1 ⟨A2, n2, c2', rfl, hO1, hB1, hB2, hbl⟩)
    | (go_at_call 83; with_reducible refine (c2 _ hB1).mono ?_; rintro e w2 ⟨rfl, hO2⟩)
  go_ret2
  exact ⟨_, _, _, rfl, (hO0.then hO1).then hO2, (hTB _ hB1).keep hO2, hB2.keep hO2, hbl⟩
theorem beginsBlank_any (hs : Bt w A n c l) : Calls Tryd.prog 62 #[.slice A n c] w fun e w' => e = .returned (.bool (begB l)) ∧ w = w' := by
  have hl := hs.len
  cases l with
  | nil =>
    subst hl
    go_enter Tryd.func62, Tryd.ntmps62
    go_wp2
    go_ret
    exact ⟨rfl, rfl⟩
  | cons x t =>
    have hn : 0 < n := by simp at hl; omega
    have hn' : (0 : Int) < (n : Int) := by omega
    obtain ⟨ad, rfl, hc⟩ := hs.sl.2 hn
    have h0 : w.cell? ad = some (.int .u8 (x.toNat : Int)) := by
      have := hc 0 (bv x) rfl
      rwa [add_zero] at this
    obtain ⟨I, hI⟩ : ∃ I, Lib.indexByte [32, 9] x = I := ⟨_, rfl⟩
    obtain ⟨bo, hbo⟩ : ∃ bo, decide (I ≥ 0) = bo := ⟨_, rfl⟩
    have hB : begB (x :: t) = bo := by
      show ([32, 9] : List UInt8).contains x = bo
      rw [← hbo, ← hI]
      by_cases h1 : x = 32
      · subst h1; rfl
      · by_cases h2 : x = 9
        · subst h2; rfl
        · have e1 : (32 == x) = false := by rw [beq_eq_false_iff_ne]; exact fun h => h1 h.symm
          have e2 : (9 == x) = false := by rw [beq_eq_false_iff_ne]; exact fun h => h2 h.symm
          have e3 : Lib.indexByte [32, 9] x = -1 := by
            rw [index_fi]
            unfold fi
            simp [List.findIdx_cons, e1, e2]
          rw [e3]
          simp [h1, h2]
    rw [hB]
    have c1 : Calls Tryd.prog 84 #[.string ⟨#[32, 9]⟩, .int .u8 (x.toNat : Int)] w fun e w' => e = .returned (.int .i64 I) ∧ w = w' := by
      refine (Tryd.strings_IndexByte ⟨#[32, 9]⟩ (x.toNat : Int) w).mono fun e w' he => ⟨?_, he.2.symm⟩
      rw [he.1, ← hI]
      simp
    clear hc hs hl hI hB
    by_cases hI0 : 0 ≤ I
    · obtain rfl : bo = true := by rw [← hbo]; exact decide_eq_true hI0
      clear hbo
      go_enter Tryd.func62, Tryd.ntmps62
      go_wp2_with (go_at_call 84; with_reducible refine c1.mono ?_; rintro e w1 ⟨rfl, rfl⟩)
      go_ret
      exact ⟨rfl, rfl⟩
    · obtain rfl : bo = false := by rw [← hbo]; exact decide_eq_false hI0
      have hI1 : decide (0 ≤ I) = false := decide_eq_false hI0
      clear hbo
      go_enter Tryd.func62, Tryd.ntmps62
      go_wp2_with (go_at_call 84; with_reducible refine c1.mono ?_; rintro e w1 ⟨rfl, rfl⟩)
      go_ret
      exact ⟨by rw [← hI1]; rfl, rfl⟩
theorem small_any (x : UInt8) (w : World) : Calls Tryd.prog 66 #[.int .u8 (x.toNat : Int)] w fun e w' => e = .returned (.int .u8 ((low x).toNat : Int)) ∧ w = w' := by
  have hx := byte_lt x
  obtain ⟨k, hk⟩ : ∃ k : Nat, x.toNat = k := ⟨_, rfl⟩
  have hlow : (low x).toNat = if 65 ≤ k ∧ k ≤ 90 then k + 32 else k := by
    unfold low
    rw [← hk]
    by_cases h : 65 ≤ x.toNat ∧ x.toNat ≤ 90
    · rw [if_pos h, if_pos ⟨UInt8.le_iff_toNat_le.2 h.1, UInt8.le_iff_toNat_le.2 h.2⟩, UInt8.toNat_add]
      show (x.toNat + 32) % 256 = _
      omega
    · rw [if_neg h, if_neg (fun h2 : 65 ≤ x ∧ x ≤ 90 => h ⟨by have := UInt8.le_iff_toNat_le.1 h2.1; exact this, by have := UInt8.le_iff_toNat_le.1 h2.2; exact this⟩)]
  rw [hlow, hk]
  rw [hk] at hx
  clear hlow hk
  have hr : k < 65 ∨ 90 < k ∨ (65 ≤ k ∧ k ≤ 90) := by omega
  rcases hr with h | h | ⟨h1, h2⟩
  · have h' : (k : Int) < 65 := by omega
    rw [if_neg (by omega)]
    go_enter Tryd.func66, Tryd.ntmps66
    go_wp2
    go_ret
    exact ⟨rfl, rfl⟩
  · have h' : (90 : Int) < (k : Int) := by omega
    have h'' : (65 : Int) ≤ (k : Int) := by omega
    rw [if_neg (by omega)]
    go_enter Tryd.func66, Tryd.ntmps66
    go_wp2
    go_ret
    exact ⟨rfl, rfl⟩
  · have h1' : (65 : Int) ≤ (k : Int) := by omega
    have h2' : (k : Int) ≤ 90 := by omega
    rw [if_pos ⟨h1, h2⟩]
    go_enter Tryd.func66, Tryd.ntmps66
    go_wp2
    go_ret
    refine ⟨?_, rfl⟩
    show Ending.returned (.int .u8 ((k : Int) - 65 + 97)) = _
    rw [show (k : Int) - 65 + 97 = ((k + 32 : Nat) : Int) by omega]
end
end Go.Proofs.YtkcnnbglmckmnaaDoor
namespace Go.Proofs.YtkcnnbglmckmnaaDoor
open Go.RowKit Go.Instr
def Cg (w : World) (g : Nat) (l : List UInt8) : Prop := ∀ j (h : j < l.length), w.cell? ⟨g, j, none⟩ = some (bv l[j]) ∧ w.frozen? ⟨g, j, none⟩ = false
theorem Cg.set {w : World} {g : Nat} {l : List UInt8} (h : Cg w g l) {k : Nat} (hk : k < l.length) (y : UInt8) : Cg (w.setCell ⟨g, k, none⟩ (bv y)) g (l.set k y) := by
  intro j hj
  rw [List.length_set] at hj
  refine ⟨?_, by rw [World.frozen?_setCell]; exact (h j hj).2⟩
  by_cases e : k = j
  · subst e
    rw [List.getElem_set_self]
    exact World.cell?_setCell_same' _ _ _ (by rw [(h k hk).1]; rfl)
  · rw [List.getElem_set_ne e]
    rw [World.cell?_setCell_other _ _ _ _ (by intro h2; cases h2; exact e rfl)]
    exact (h j hj).1
theorem Cg.sl {w : World} {g : Nat} {l : List UInt8} (h : Cg w g l) : Sl w (some ⟨g, 0, none⟩) l.length (bvs l) :=
  ⟨by simp, fun _ => ⟨_, rfl, fun j u hu => by
    have hj : j < l.length := by have := (List.getElem?_eq_some_iff.1 hu).1; simpa using this
    rw [bvs_get l j hj] at hu
    rw [add_none, Nat.zero_add, (h j hj).1, hu]⟩⟩
theorem conv_bytes (s : ByteArray) (w : World) : ∃ w' c, (convert 9 35 (.string s)).run Tryd.prog w = .ok (.slice (some ⟨w.heap.size, 0, none⟩) s.size c) w' ∧ Cg w' w.heap.size s.data.toList ∧ Only [] w w' := by
  refine ⟨_, _, Lib.run_convert_string_bytes (P := Tryd.prog) w 9 35 5 s Tryd.underlying9 Tryd.underlying35 Tryd.underlying5, ?_, ?_⟩
  · intro j hj
    have hj' : j < s.size := by simpa using hj
    refine ⟨?_, ?_⟩
    · rw [Lib.bytesWorld_cell w 5 s j hj', List.getD_eq_getElem?_getD, List.getElem?_eq_getElem hj]
      rfl
    · have hn := Lib.bytesWorld_at_new w 5 s
      have hsz : s.size ≤ (Lib.bytesCells w 5 s).size := by simp [Lib.bytesCells]
      unfold World.frozen?
      rw [hn]
      simp
      omega
  · exact ⟨rfl, rfl, rfl, by rw [Lib.bytesWorld_size]; omega, fun k hk _ => Lib.bytesWorld_at_old w _ s k hk⟩
def lowK (l : List UInt8) (k : Nat) : List UInt8 := (l.take k).map low ++ l.drop k
theorem lowK_len (l : List UInt8) (k : Nat) : (lowK l k).length = l.length := by unfold lowK; simp; omega
theorem lowK_at {l : List UInt8} {k : Nat} (h : k < l.length) (h' : k < (lowK l k).length) : (lowK l k)[k] = l[k] := by
  have e : (lowK l k)[k]? = l[k]? := by
    unfold lowK
    rw [List.getElem?_append_right (by simp; omega), show k - ((l.take k).map low).length = 0 by simp; omega, List.getElem?_drop]
    simp
  rw [List.getElem?_eq_getElem h', List.getElem?_eq_getElem h] at e
  exact Option.some.inj e
theorem lowK_set {l : List UInt8} {k : Nat} (h : k < l.length) : (lowK l k).set k (low l[k]) = lowK l (k + 1) := by
  unfold lowK
  rw [List.set_append_right _ _ (by simp; omega), List.take_succ_eq_append_getElem h, List.map_append, List.append_assoc]
  congr 1
  rw [List.drop_eq_getElem_cons h, show k - ((l.take k).map low).length = 0 by simp; omega]
  rfl
theorem lowK_same {l : List UInt8} {k : Nat} (h : k < l.length) (hx : low l[k] = l[k]) : lowK l (k + 1) = lowK l k := by
  rw [← lowK_set h, hx]
  have h' : k < (lowK l k).length := by rw [lowK_len]; exact h
  conv => lhs; rw [← lowK_at h h']
  exact List.set_getElem_self h'
theorem lowK_all (l : List UInt8) {k : Nat} (h : l.length ≤ k) : lowK l k = lows l := by
  unfold lowK
  rw [List.take_of_length_le h, List.drop_of_length_le h]
  simp [lows]
end Go.Proofs.YtkcnnbglmckmnaaDoor
namespace Go.Proofs.YtkcnnbglmckmnaaDoor
def Inside (a b : List UInt8) : Prop := ∃ i, i + b.length ≤ a.length ∧ (a.drop i).take b.length = b
def insideK (a b : List UInt8) : Bool := (List.range (a.length + 1 - b.length)).any fun i => decide ((a.drop i).take b.length = b)
theorem insideK_iff (a b : List UInt8) : insideK a b = true ↔ b.length ≤ a.length ∧ Inside a b := by
  unfold insideK Inside
  rw [List.any_eq_true]
  constructor
  · rintro ⟨i, hi, h⟩
    rw [List.mem_range] at hi
    have := of_decide_eq_true h
    exact ⟨by omega, i, by omega, this⟩
  · rintro ⟨hb, i, hi, h⟩
    exact ⟨i, List.mem_range.2 (by omega), decide_eq_true h⟩
theorem insideK_long {a b : List UInt8} (h : a.length < b.length) : insideK a b = false := by
  cases hk : insideK a b with
  | false => rfl
  | true =>
    have := ((insideK_iff a b).1 hk).1
    omega
theorem insideK_at {a b : List UInt8} {i : Nat} (hi : i + b.length ≤ a.length) (h : (a.drop i).take b.length = b) : insideK a b = true := (insideK_iff a b).2 ⟨by omega, i, hi, h⟩
theorem insideK_not {a b : List UInt8} (h : ∀ i, i + b.length ≤ a.length → (a.drop i).take b.length ≠ b) : insideK a b = false := by
  cases hk : insideK a b with
  | false => rfl
  | true =>
    obtain ⟨_, i, hi, he⟩ := (insideK_iff a b).1 hk
    exact absurd he (h i hi)
theorem lowT_len (l : List UInt8) : (lowT l).length = l.length := by simp [lowT]
theorem long_inside {l m : List UInt8} (h : l.length < m.length) : insideK (lowT l) (lowT m) = false := insideK_long (by rw [lowT_len, lowT_len]; exact h)
end Go.Proofs.YtkcnnbglmckmnaaDoor
namespace Go.Proofs.YtkcnnbglmckmnaaDoor
open Go.RowKit Go.Instr
set_option maxRecDepth 100000 in
set_option maxHeartbeats 1000000 in
theorem fsmall_any (s : ByteArray) (hbig : s.size ≤ 140737488355328) (w : World) : Calls Tryd.prog 40 #[.string s] w fun e w' => ∃ t : ByteArray, e = .returned (.string t) ∧ Hid (t = St (lowT s.data.toList)) ∧ Only [] w w' := by
  obtain ⟨w1, c, hcv, hC1, hO1⟩ := conv_bytes s w
  show Calls _ _ _ _ fun e w' => ∃ t : ByteArray, e = .returned (.string t) ∧ Hid (t = St (lows s.data.toList)) ∧ Only [] w w'
  obtain ⟨l, hl⟩ : ∃ l, s.data.toList = l := ⟨_, rfl⟩
  have hsl : l.length = s.size := by rw [← hl]; simp
  rw [hl] at hC1 ⊢
  obtain ⟨n, hn⟩ : ∃ n, s.size = n := ⟨_, rfl⟩
  rw [hn] at hcv hsl hbig
  have HL := Lib.hid hsl
  clear hn hl hsl
  go_enter Tryd.func40, Tryd.ntmps40
  go_wp2
  go_loopw [10] (fun i wr => ∃ k : Nat, k ≤ n ∧ i = .int .i64 (k : Int) ∧ Cg wr w.heap.size (lowK l k) ∧ Only [] w wr) (fun i _ => n - (intOf i).toNat)
  case atStart => exact ⟨0, Nat.zero_le _, rfl, by simpa [lowK] using hC1, hO1⟩
  case round =>
    obtain ⟨k, hk, rfl, hC, hO⟩ := hrel
    by_cases hlt : k < n
    · have hkl : k < l.length := by rw [HL.out]; exact hlt
      have hkK : k < (lowK l k).length := by rw [lowK_len]; exact hkl
      obtain ⟨hc, hf⟩ := hC k hkK
      rw [lowK_at hkl hkK] at hc
      have hlt' : (k : Int) < (n : Int) := by omega
      obtain ⟨x, hx⟩ : ∃ x, l[k] = x := ⟨_, rfl⟩
      have hset := lowK_set hkl
      have hsame := lowK_same hkl
      rw [hx] at hc hset hsame
      have hb := byte_lt x
      obtain ⟨y, hy⟩ : ∃ y : Nat, x.toNat = y := ⟨_, rfl⟩
      have hc' : wr.cell? ⟨w.heap.size, k, none⟩ = some (.int .u8 (y : Int)) := by rw [hc, ← hy]; rfl
      have hlow : (low x).toNat = if 65 ≤ y ∧ y ≤ 90 then y + 32 else y := by
        unfold low
        rw [← hy]
        by_cases h : 65 ≤ x.toNat ∧ x.toNat ≤ 90
        · rw [if_pos h, if_pos ⟨UInt8.le_iff_toNat_le.2 h.1, UInt8.le_iff_toNat_le.2 h.2⟩, UInt8.toNat_add]
          show (x.toNat + 32) % 256 = _
          omega
        · rw [if_neg h, if_neg (fun h2 : 65 ≤ x ∧ x ≤ 90 => h ⟨by have := UInt8.le_iff_toNat_le.1 h2.1; exact this, by have := UInt8.le_iff_toNat_le.1 h2.2; exact this⟩)]
      rw [hy] at hb
      have hr : y < 65 ∨ 90 < y ∨ (65 ≤ y ∧ y ≤ 90) := by omega
      rcases hr with h | h | ⟨h1, h2⟩
      · have h' : (y : Int) < 65 := by omega
        have HS : Hid (lowK l (k + 1) = lowK l k) := hsame (UInt8.toNat_inj.1 (by rw [hlow, if_neg (by omega), hy]))
        clear hlow hsame hset hx hy hc
        go_wp2
        go_roundw
        case rel => exact ⟨k + 1, by omega, by go_num, by rw [HS.out]; exact hC, hO⟩
        case measure => simp [intOf]; omega
      · have h' : (90 : Int) < (y : Int) := by omega
        have h'' : (65 : Int) ≤ (y : Int) := by omega
        have HS : Hid (lowK l (k + 1) = lowK l k) := hsame (UInt8.toNat_inj.1 (by rw [hlow, if_neg (by omega), hy]))
        clear hlow hsame hset hx hy hc
        go_wp2
        go_roundw
        case rel => exact ⟨k + 1, by omega, by go_num, by rw [HS.out]; exact hC, hO⟩
        case measure => simp [intOf]; omega
      · have h1' : (65 : Int) ≤ (y : Int) := by omega
        have h2' : (y : Int) ≤ 90 := by omega
        have HC : Hid (Cg (wr.setCell ⟨w.heap.size, k, none⟩ (.int .u8 ((y : Int) - 65 + 97))) w.heap.size (lowK l (k + 1))) := by
          show Cg _ _ _
          have := hC.set hkK (low x)
          rw [hset] at this
          unfold bv at this
          rw [hlow, if_pos ⟨h1, h2⟩] at this
          rw [show (y : Int) - 65 + 97 = ((y + 32 : Nat) : Int) by omega]
          exact this
        clear hlow hsame hset hx hy hc
        go_wp2
        go_roundw
        case rel => exact ⟨k + 1, by omega, by go_num, HC.out, hO.setCell (.inr (Nat.le_refl _)) _⟩
        case measure => simp [intOf]; omega
    · obtain rfl : k = n := by omega
      rw [lowK_all l (by rw [HL.out]; exact Nat.le_refl _)] at hC
      have hS := hC.sl
      have hll : (lows l).length = k := by simp [lows, HL.out]
      rw [hll] at hS
      have hcv2 := run_str_sl (P := Tryd.prog) 35 9 5 _ k c (lows l) Tryd.underlying35 Tryd.underlying5 Tryd.underlying9 hS
      obtain ⟨t, ht⟩ : ∃ t, St (lows l) = t := ⟨_, rfl⟩
      rw [ht] at hcv2
      have HT := Lib.hid ht
      clear ht hll
      go_wp2
      go_ret
      exact ⟨t, rfl, HT.out.symm, hO⟩
theorem contains_inside (a b : List UInt8) : Lib.contains a b = insideK a b := by
  have hocc : ∀ i, Lib.occAt a b i = true ↔ (a.drop i).take b.length = b := fun i => by
    unfold Lib.occAt
    rw [List.isPrefixOf_iff_prefix, List.prefix_iff_eq_take]
    exact eq_comm
  unfold Lib.contains
  rcases Lib.index_spec a b with ⟨h1, h2⟩ | ⟨i, h1, h2, h3, _⟩
  · rw [h1, insideK_not]
    · rfl
    · intro i hi he
      have := h2 i (by omega)
      rw [(hocc i).2 he] at this
      cases this
  · have hr := Lib.index_room a b (by omega)
    rw [h1] at hr ⊢
    rw [insideK_at (i := i) (by omega) ((hocc i).1 h3)]
    exact decide_eq_true (by omega)
def MaxF (w : World) : Prop := ∃ m : Int, w.cell? ⟨0, 0, none⟩ = some (.int .i64 m)
theorem MaxF.keep {w w' : World} (h : MaxF w) (o : Only [] w w') : MaxF w' := by
  obtain ⟨m, h⟩ := h
  exact ⟨m, o.cellSome h (fun hm => nomatch hm)⟩
theorem maxF_of {w : World} (h : w.ShapedOpen Tryd.prog) : MaxF w := Tryd.laysM144.s1_3 w h
def inT (s t : List UInt8) : Bool := insideK (lowT s) (lowT t)
theorem inT_long {s t : List UInt8} (h : s.length < t.length) : inT s t = false := long_inside h
set_option maxRecDepth 100000 in
theorem contains_any (s t : ByteArray) (w : World) (hM : MaxF w) (hs : s.size < 4294967281) (ht : t.size ≤ 140737488355328) : Calls Tryd.prog 27 #[.string s, .string t] w fun e w' => e = .returned (.bool (inT s.data.toList t.data.toList)) ∧ Only [] w w' := by
  have hsl : s.data.toList.length = s.size := by simp
  have htl : t.data.toList.length = t.size := by simp
  obtain ⟨B, hB⟩ : ∃ B, inT s.data.toList t.data.toList = B := ⟨_, rfl⟩
  rw [hB]
  by_cases hlen : t.size ≤ s.size
  · have hlen' : (t.size : Int) ≤ (s.size : Int) := by omega
    have cs := fun W => fsmall_any s (by omega) W
    have ct := fun W => fsmall_any t ht W
    have HS : Hid (∀ W x y, MaxF W → x = St (lowT s.data.toList) → y = St (lowT t.data.toList) → Calls Tryd.prog 39 #[.string x, .string y] W fun e w' => e = .returned (.bool B) ∧ W = w') := by
      intro W x y hW hx hy
      obtain ⟨m, hm⟩ := hW
      refine (Tryd.strings_Contains x y m W ?_ hm).mono fun e w' h => ⟨?_, h.2.symm⟩
      · rw [hx, St_size, lowT_len, hsl]; exact hs
      · rw [h.1, hx, hy, St_list, St_list, contains_inside, ← hB]; rfl
    have HM := Lib.hid hM
    clear hB hsl htl hlen hs ht hM
    go_enter Tryd.func27, Tryd.ntmps27
    go_wp2_with first
      | (go_at_call 40; refine (cs _).mono ?_; rintro e w1 ⟨x, rfl, HX, O1⟩; have O1 := Lib.hid O1; clear cs)
      | (go_at_call 40; refine (ct _).mono ?_; rintro e w2 ⟨y, rfl, HY, O2⟩; have O2 := Lib.hid O2; clear ct)
      | (go_at_call 39; refine (HS.out _ _ _ ((HM.out.keep O1.out).keep O2.out) HX.out HY.out).mono ?_; rintro e w3 ⟨rfl, rfl⟩)
    go_ret
    exact ⟨rfl, O1.out.then O2.out⟩
  · have hlen' : (s.size : Int) < (t.size : Int) := by omega
    have HE : Hid (B = false) := by show _ = _; rw [← hB]; exact inT_long (by omega)
    clear hB hsl htl hlen hs ht hM
    go_enter Tryd.func27, Tryd.ntmps27
    go_wp2_with fail
    go_ret
    exact ⟨by rw [HE.out]; rfl, Only.refl _ _⟩
end Go.Proofs.YtkcnnbglmckmnaaDoor
namespace Go.Proofs.YtkcnnbglmckmnaaDoor
open Go.RowKit
section
variable {w w' : World} {A : Option Addr} {n c : Nat} {xs : List Value} {rs : List Nat}
theorem blks_cut (A : Option Addr) (c k : Nat) : blks (if c = k then A else A.map (·.add k)) = blks A := by
  split
  · rfl
  · cases A with
    | none => rfl
    | some a => simp [add_block]
end
end Go.Proofs.YtkcnnbglmckmnaaDoor
namespace Go.Proofs.YtkcnnbglmckmnaaDoor
open Go.RowKit
structure Keeps (S : List Nat) (w w' : World) : Prop where
  size : w.heap.size ≤ w'.heap.size
  block : ∀ k ∈ S, w'.heap[k]? = w.heap[k]?
theorem Keeps.trans {S : List Nat} {a b c : World} (h : Keeps S a b) (k : Keeps S b c) : Keeps S a c := ⟨Nat.le_trans h.size k.size, fun i hi => (k.block i hi).trans (h.block i hi)⟩
theorem Only.keeps {rs S : List Nat} {w w' : World} (h : Only rs w w') (hs : ∀ k ∈ S, k < w.heap.size ∧ k ∉ rs) : Keeps S w w' := ⟨h.size, fun k hk => h.block k (hs k hk).1 (hs k hk).2⟩
theorem Keeps.mono {S S' : List Nat} {w w' : World} (h : Keeps S w w') (hs : ∀ k ∈ S', k ∈ S) : Keeps S' w w' := ⟨h.size, fun k hk => h.block k (hs k hk)⟩
theorem Sl.keeps {S : List Nat} {w w' : World} {A : Option Addr} {n : Nat} {xs : List Value} (h : Sl w A n xs) (o : Keeps S w w') (hd : 0 < n → ∀ k ∈ blks A, k ∈ S) : Sl w' A n xs :=
  ⟨h.1, fun hn => by
    obtain ⟨ad, e, hc⟩ := h.2 hn
    refine ⟨ad, e, fun j u hu => ?_⟩
    rw [World.cell?_of_block (o.block _ (by rw [add_block]; exact hd hn _ (by rw [e]; simp)))]
    exact hc j u hu⟩
theorem Bk.keeps {S : List Nat} {w w' : World} {g : Nat} {t : TypeId} {cs : Array Value} (h : Bk w g t cs) (o : Keeps S w w') (hg : g ∈ S) : Bk w' g t cs := (o.block g hg).trans h
theorem putObj_only (w : World) (l : Nat) (o : Obj) : Only [l] w (w.putObj l o) :=
  ⟨rfl, rfl, rfl, by simp, fun k _ hk => World.putObj_heap_other (by simpa using hk)⟩
def linePost (S : List Nat) (I : Nat → World → Prop) (Ix : Code → Nat → World → Prop) (k : Nat) (W : World) : Exit → Act → World → Prop
  | .normal, _, W' => Keeps S W W' ∧ I (k + 1) W'
  | .ret, _, W' => Keeps S W W' ∧ Ix .ret (k + 1) W'
  | .exit id, _, W' => Keeps S W W' ∧ Ix (.exit id) (k + 1) W'
  | .goto t, _, W' => Keeps S W W' ∧ Ix (.goto t) (k + 1) W'
  | .panic _, _, _ => False
  | .outgrown, _, _ => False
def roundEnd (S : List Nat) (J Jx : Nat → World → Prop) (k : Nat) (W : World) (e : Ending) (W' : World) : Prop :=
  (e = .returned (.bool true) ∧ J (k + 1) W' ∧ Keeps S W W') ∨ (e = .returned (.bool false) ∧ Jx (k + 1) W')
end Go.Proofs.YtkcnnbglmckmnaaDoor
namespace Go.Proofs.YtkcnnbglmckmnaaDoor
open Go.RowKit
def Iter (W : World) (X : Nat) (S : List Nat) (b : List UInt8) (k : Nat) (N : Nat) : Prop :=
  k ≤ (lns b).length ∧ ∃ A c, Bk W X 35 #[.slice A N c] ∧ Sl W A N (bvs ((lns b).drop k).flatten) ∧ N ≤ c ∧ c ≤ 9223372036854775807 ∧ (∀ x ∈ blks A, x ∈ S) ∧ X ∉ blks A
theorem Iter.only {W W' : World} {X N : Nat} {S : List Nat} {b : List UInt8} {k : Nat} {rs : List Nat} (h : Iter W X S b k N) (o : Only rs W W') (hX : X ∉ rs) (hS : ∀ x ∈ S, x ∉ rs) : Iter W' X S b k N := by
  obtain ⟨hk, A, c, h1, h2, h3, h4, h5, h6⟩ := h
  exact ⟨hk, A, c, h1.only o hX, h2.only o (fun ad e hm => hS _ (h5 _ (by rw [e]; simp)) hm), h3, h4, h5, h6⟩
theorem Iter.keeps {W W' : World} {X N : Nat} {S : List Nat} {b : List UInt8} {k : Nat} (h : Iter W X S b k N) (o : Keeps S W W') (hX : X ∈ S) : Iter W' X S b k N := by
  obtain ⟨hk, A, c, h1, h2, h3, h4, h5, h6⟩ := h
  exact ⟨hk, A, c, h1.keeps o hX, h2.keeps o (fun _ => h5), h3, h4, h5, h6⟩
def leftN (X : Nat) (w : World) : Nat := match w.cell? ⟨X, 0, none⟩ with
  | some (.slice _ n _) => n
  | _ => 0
theorem leftN_eq {W : World} {X N : Nat} {S : List Nat} {b : List UInt8} {k : Nat} (h : Iter W X S b k N) : leftN X W = N := by
  obtain ⟨_, A, c, h1, _⟩ := h
  unfold leftN
  rw [h1.cell]
  rfl
theorem line_at {b r : List UInt8} {k : Nat} (hr : ((lns b).drop k).flatten = r) (hne : 0 < r.length) : (lns b)[k]? = some (r.take (nl r + 1)) ∧ ((lns b).drop (k + 1)).flatten = r.drop (nl r + 1) ∧ k + 1 ≤ (lns b).length := by
  have h1 := lns_drop b k
  rw [hr, lns_step r (List.length_pos_iff.1 hne)] at h1
  have hk : k < (lns b).length := by
    rcases Nat.lt_or_ge k (lns b).length with h | h
    · exact h
    · rw [List.drop_of_length_le h] at h1
      cases h1
  rw [List.drop_eq_getElem_cons hk] at h1
  injection h1 with h1 h2
  exact ⟨by rw [List.getElem?_eq_getElem hk, h1], by rw [← h2]; exact lns_flat _, hk⟩
attribute [local go_sem] Oper.semAt_some
set_option maxRecDepth 100000 in
set_option maxHeartbeats 2000000 in
theorem lines1_in (n l X : Nat) (hn : 1 ≤ n) (S : List Nat) (b : List UInt8) (J Jx : Nat → World → Prop) (hXS : X ∈ S) (hJ : ∀ k W W', J k W → Only [X] W W' → J k W')
    (hY : ∀ k ln A W, J k W → (lns b)[k]? = some ln → Bt W A ln.length ln.length ln → (∀ x ∈ blks A, x ∈ S) → YieldAt Fence.wide (n - 1) Tryd.prog l #[.slice A ln.length ln.length] W (roundEnd S J Jx k W))
    (W : World) (N : Nat) (h : Iter W X S b 0 N) (h0 : J 0 W) :
    CallsIn Fence.wide n Tryd.prog 104 #[.func (.yield l) #[] #[], .pointer (some ⟨X, 0, none⟩)] W fun e W' => (∃ v, e = .returned v) ∧ (J (lns b).length W' ∨ ∃ k, k ≤ (lns b).length ∧ Jx k W') := by
  refine callsIn_of_wp Tryd.func104 rfl trivial ?_ rfl
  simp only [Tryd.ntmps104, List.size_toArray, List.length_cons, List.length_nil, Nat.reduceAdd, Nat.reduceSub, Array.replicate_succ, Array.replicate_zero, List.push_toArray, List.append_toArray, List.nil_append, List.cons_append]
  have hmix : Tryd.prog.follows .mixedOrders = true := by kernel_rfl
  gi_wp2
  gi_loopw [3] (fun _ wr => ∃ k N, Iter wr X S b k N ∧ J k wr) (fun _ wr => leftN X wr)
  case atStart => exact ⟨0, N, h, h0⟩
  case round =>
    obtain ⟨k, N, hI, hJk⟩ := hrel
    have hI' := hI
    obtain ⟨hk, A, c, hX, hS, hNc, hc, hA, hXA⟩ := hI
    have hcx : wr.cell? ⟨X, 0, none⟩ = some (.slice A N c) := by rw [hX.cell]; rfl
    have hfx := hX.free 0
    rcases Nat.eq_zero_or_pos N with h0N | hN
    · subst h0N
      have hkl : k = (lns b).length := by
        have h1 : ((lns b).drop k).flatten = [] := List.eq_nil_of_length_eq_zero (by simpa using hS.len)
        have h2 := lns_drop b k
        rw [h1] at h2
        have := congrArg List.length h2
        rw [List.length_drop] at this
        simp [lns] at this
        omega
      gi_wp2
      go_end0
      exact ⟨⟨_, rfl⟩, .inl (hkl ▸ hJk)⟩
    · have hN' : (0 : Int) < (N : Int) := by omega
      obtain ⟨r, hr⟩ : ∃ r, ((lns b).drop k).flatten = r := ⟨_, rfl⟩
      rw [hr] at hS
      have hrl : r.length = N := by simpa using hS.len
      obtain ⟨hln, hrest, hk1⟩ := line_at hr (by omega)
      obtain ⟨ad, rfl, _⟩ := hS.2 hN
      have hI2 := index_nl r
      by_cases h1 : nl r < r.length
      · rw [if_pos h1] at hI2
        obtain ⟨m, hm⟩ : ∃ m, nl r = m := ⟨_, rfl⟩
        rw [hm] at hln hrest hI2 h1
        have hm1 : (m : Int) + 1 ≤ (c : Int) := by omega
        have hm2 : (m : Int) + 1 ≤ (N : Int) := by omega
        have goOn : ∀ (A2 : Option Addr) (c2 : Nat), A2 = (if c = m + 1 then some ad else (some ad).map (·.add (m + 1))) → c2 = c - (m + 1) → ∃ fn tmps assign body,
            (Instr.yield l #[.slice (some ad) (m + 1) (m + 1)]).run Tryd.prog (wr.setCell ⟨X, 0, none⟩ (.slice A2 (N - (m + 1)) c2)).drew = .ok (.round l fn tmps assign body) (wr.setCell ⟨X, 0, none⟩ (.slice A2 (N - (m + 1)) c2)).drew ∧
            RoundIn Fence.wide (n - 1) Tryd.prog l fn tmps assign body (wr.setCell ⟨X, 0, none⟩ (.slice A2 (N - (m + 1)) c2)).drew (fun e W' => (e = .returned (.bool true) ∧ J (k + 1) W' ∧ Iter W' X S b (k + 1) (N - (m + 1))) ∨ (e = .returned (.bool false) ∧ Jx (k + 1) W')) := by
          intro A2 c2 hA2 hc2
          have hO2 : Only [X] wr (wr.setCell ⟨X, 0, none⟩ (.slice A2 (N - (m + 1)) c2)).drew := ((Only.refl _ _).setCell (.inl (by simp)) _).drew
          have hSl : Sl (wr.setCell ⟨X, 0, none⟩ (.slice A2 (N - (m + 1)) c2)).drew (some ad) (m + 1) (bvs (r.take (m + 1))) := by
            have := (hS.pre (k := m + 1) (by omega)).only hO2 (fun ad' e hm => by injection e with e; subst e; simp at hm; exact hXA (by simp [hm]))
            rwa [bvs_take] at this
          obtain ⟨fn, tmps, assign, body, hy, hR⟩ := hY k _ (some ad) _ (hJ _ _ _ hJk hO2) hln (by rw [List.length_take, show min (m + 1) r.length = m + 1 by omega]; exact ⟨hSl, Nat.le_refl _, by omega, fun e => by cases e⟩) hA
          rw [List.length_take, show min (m + 1) r.length = m + 1 by omega] at hy
          refine ⟨fn, tmps, assign, body, hy, hR.mono ?_⟩
          have hbl : blks A2 = blks (some ad) := by rw [hA2]; exact blks_cut (some ad) c (m + 1)
          have hI2 : Iter (wr.setCell ⟨X, 0, none⟩ (.slice A2 (N - (m + 1)) c2)).drew X S b (k + 1) (N - (m + 1)) := by
            refine ⟨hk1, A2, c2, by have := (hX.set 0 (.slice A2 (N - (m + 1)) c2)).drew; exact this, ?_, by omega, by omega, by rw [hbl]; exact hA, by rw [hbl]; exact hXA⟩
            rw [hrest, ← bvs_drop]
            have hcut := hS.cut (k := m + 1) (by omega) hNc
            rw [← hA2] at hcut
            refine Sl.only hcut hO2 (fun ad' e hm => ?_)
            have : ad'.block ∈ blks (some ad) := by rw [← hbl, e]; simp
            rw [List.mem_singleton] at hm
            rw [hm] at this
            exact hXA this
          rintro e W' (⟨h2, h3, h4⟩ | h2)
          · exact .inl ⟨h2, h3, hI2.keeps h4 hXS⟩
          · exact .inr h2
        by_cases hcm : c = m + 1
        · subst hcm
          rw [show N - (m + 1) = 0 by omega] at goOn
          obtain ⟨fn, tmps, assign, body, hy, hR⟩ := goOn (some ad) 0 (by rw [if_pos rfl]) (by omega)
          gi_wp2_with (refine ⟨trivial, ?_⟩; gi_at_call 105; refine (callsIn_wide.2 (index_any _ _ _ _ _ hN hS)).mono ?_; rintro e w1 ⟨rfl, rfl⟩; rw [hI2])
          gi_region_o
          gi_wp2
          have hle : leftN X wr = N := leftN_eq hI'
          refine hR.mono ?_
          rintro e W3 (⟨rfl, hJ3, hI3⟩ | ⟨rfl, hJx3⟩)
          · gi_wp2
            go_roundw
            case rel => exact ⟨k + 1, _, hI3, hJ3⟩
            case measure => rw [leftN_eq hI3, hle]; omega
          · gi_wp2
            refine bodyPost_ret (results_none rfl _ _ _) rfl ?_
            exact ⟨⟨_, rfl⟩, .inr ⟨k + 1, hk1, hJx3⟩⟩
        · obtain ⟨fn, tmps, assign, body, hy, hR⟩ := goOn (some ⟨ad.block, ad.off + (m + 1), none⟩) (c - (m + 1)) (by rw [if_neg hcm]; simp [Addr.add]) rfl
          gi_wp2_with (refine ⟨trivial, ?_⟩; gi_at_call 105; refine (callsIn_wide.2 (index_any _ _ _ _ _ hN hS)).mono ?_; rintro e w1 ⟨rfl, rfl⟩; rw [hI2])
          gi_region_o
          gi_wp2
          have hle : leftN X wr = N := leftN_eq hI'
          refine hR.mono ?_
          rintro e W3 (⟨rfl, hJ3, hI3⟩ | ⟨rfl, hJx3⟩)
          · gi_wp2
            go_roundw
            case rel => exact ⟨k + 1, _, hI3, hJ3⟩
            case measure => rw [leftN_eq hI3, hle]; omega
          · gi_wp2
            refine bodyPost_ret (results_none rfl _ _ _) rfl ?_
            exact ⟨⟨_, rfl⟩, .inr ⟨k + 1, hk1, hJx3⟩⟩
      · rw [if_neg h1] at hI2
        have hnl : nl r = N := by have := nl_le r; omega
        rw [hnl, List.take_of_length_le (show r.length ≤ N + 1 by omega)] at hln
        rw [hnl, List.drop_of_length_le (show r.length ≤ N + 1 by omega)] at hrest
        obtain ⟨w2, hw2⟩ : ∃ w2, wr.setCell ⟨X, 0, none⟩ (.slice none 0 0) = w2 := ⟨_, rfl⟩
        have hO2 : Only [X] wr w2 := by rw [← hw2]; exact (Only.refl _ _).setCell (.inl (by simp)) _
        have hSl : Sl w2 (some ad) r.length (bvs r) := by
          rw [hrl]
          exact hS.only hO2 (fun ad' e hm => by injection e with e; subst e; simp at hm; exact hXA (by simp [hm]))
        obtain ⟨fn, tmps, assign, body, hy, hR⟩ := hY k r (some ad) w2 (hJ _ _ _ hJk hO2) hln ⟨hSl, Nat.le_refl _, by omega, fun e => by cases e⟩ hA
        rw [hrl] at hy
        have hle : leftN X wr = N := leftN_eq hI'
        have hI3 : Iter w2 X S b (k + 1) 0 := by
          refine ⟨hk1, none, 0, by rw [← hw2]; simpa using hX.set 0 (.slice none 0 0), ?_, Nat.le_refl _, by omega, (fun _ hx => nomatch hx), (fun hx => nomatch hx)⟩
          rw [hrest]
          exact Sl.none_
        gi_wp2_with first
          | (refine ⟨trivial, ?_⟩; gi_at_call 105; refine (callsIn_wide.2 (index_any _ _ _ _ _ hN hS)).mono ?_; rintro e w1 ⟨rfl, rfl⟩; rw [hI2])
          | (rw [hw2])
        refine hR.mono ?_
        rintro e W3 (⟨rfl, hJ3, hK3⟩ | ⟨rfl, hJx3⟩)
        · gi_wp2
          go_roundw
          case rel => exact ⟨k + 1, _, hI3.keeps hK3 hXS, hJ3⟩
          case measure => rw [leftN_eq (hI3.keeps hK3 hXS), hle]; omega
        · gi_wp2
          refine bodyPost_ret (results_none rfl _ _ _) rfl ?_
          exact ⟨⟨_, rfl⟩, .inr ⟨k + 1, hk1, hJx3⟩⟩
theorem range_lines {g : Operand} {p : Tmp} {assign body : Code} {Q : Exit → Act → World → Prop} {a : Act} {w : World} {n : Nat} (hn : 3 ≤ n) {X N : Nat} {b : List UInt8} {S : List Nat}
    (hg : a.eval g = .func (.func 104) #[] #[.pointer (some ⟨X, 0, none⟩)]) (hI : Iter w X S b 0 N) (hS : ∀ k ∈ S, k < w.heap.size) (hXS : X ∈ S)
    (I : Nat → World → Prop) (Ix : Code → Nat → World → Prop) (hst : ∀ k W W', I k W → Only [X, w.heap.size + 1] W W' → I k W') (hstx : ∀ c k W W', Ix c k W → Only [X, w.heap.size + 1] W W' → Ix c k W') (h0 : I 0 w) (a₁ : Value → Act)
    (hassign : ∀ (l : Nat) (v : Value) (W : World) (K : Act → World → Prop), K (a₁ v) W → assign.wpIn (Fence.wide.inRound l) (n - 1 - 1) Tryd.prog (Exit.then K (fun _ _ _ => False)) { tmps := a.tmps.setIfInBounds p v, defers := [] } W)
    (hbody : ∀ (l k : Nat) (ln : List UInt8) (A : Option Addr) (W : World), I k W → (lns b)[k]? = some ln → Bt W A ln.length ln.length ln → (∀ x ∈ blks A, x ∈ S) → w.heap.size + 2 ≤ W.heap.size →
      body.wpIn (Fence.wide.inRound l) (n - 1 - 1) Tryd.prog (linePost (w.heap.size :: (w.heap.size + 1) :: S) I Ix k W) (a₁ (.slice A ln.length ln.length)) W)
    (hdone : ∀ (D : Nat) (W : World), I (lns b).length W → D = w.heap.size → W.heap[D]? = some (.deferred (some [])) → Q .normal { a with defers := { target := .collected D, args := #[] } :: a.defers } W)
    (hstop : ∀ (D : Nat) (c : Code) (k : Nat) (W : World), k ≤ (lns b).length → Ix c k W → D = w.heap.size → W.heap[D]? = some (.deferred (some [])) → c.wpIn Fence.wide n Tryd.prog Q { a with defers := { target := .collected D, args := #[] } :: a.defers } W) :
    (Code.rangeFunc g #[p] assign body).wpIn Fence.wide n Tryd.prog Q a w := by
  have hXlt : X < w.heap.size := hS X hXS
  refine wpIn_rangeFunc fun fn hfn => ?_
  obtain ⟨rec, hrec⟩ : ∃ rec : LoopState → Option Code → Loop, rec = fun st pe => { state := st, pending := pe, fn, tmps := a.tmps, params := #[p], assign, body, defers := w.heap.size } := ⟨_, rfl⟩
  obtain ⟨W1, hW1⟩ : ∃ W1, (w.alloc (.deferred (some []))).alloc (.loop (rec .ready none)) = W1 := ⟨_, rfl⟩
  have hsz1 : W1.heap.size = w.heap.size + 2 := by rw [← hW1]; simp
  have hO1 : Only [] w W1 := by rw [← hW1]; exact ((Only.refl _ _).alloc _).alloc _
  have hL1 : W1.heap[w.heap.size + 1]? = some (.loop (rec .ready none)) := by
    rw [← hW1]; have := World.alloc_heap_new (w.alloc (.deferred (some []))) (.loop (rec .ready none)); rwa [World.size_alloc] at this
  have hK1 : W1.heap[w.heap.size]? = some (.deferred (some [])) := by
    rw [← hW1]; exact (Below.heap_alloc _ _ _ (by simp)).trans (World.alloc_heap_new w _)
  have lift : ∀ {rs : List Nat} {A B : World}, (∀ x ∈ rs, x = X ∨ x = w.heap.size + 1) → Only rs A B → Only [X, w.heap.size + 1] A B := fun hrs h => h.mono (fun x hx => by
    left
    rcases hrs x hx with rfl | rfl <;> simp)
  refine ⟨w.heap.size + 1, [{ target := .collected w.heap.size, args := #[] }], W1, { target := .fn (.func 104) #[.pointer (some ⟨X, 0, none⟩)], args := #[.func (.yield (w.heap.size + 1)) #[] #[]] }, W1, 104,
    #[.func (.yield (w.heap.size + 1)) #[] #[], .pointer (some ⟨X, 0, none⟩)], W1, ?_, ?_, fun _ _ => trivial, ?_, fun _ => by omega, ?_⟩
  · rw [← hW1, hrec]; exact run_enterLoop_outer _ _ _ _ _
  · simp only [resolve, hg]
    simp [go_sem]
  · simp only [invoke]
    exact enters_of Tryd.func104 (by kernel_rfl) rfl _ _
  · refine (lines1_in (n - 1) (w.heap.size + 1) X (by omega) S b
      (fun k W => I k W ∧ w.heap.size + 2 ≤ W.heap.size ∧ W.heap[w.heap.size + 1]? = some (.loop (rec .ready none)) ∧ W.heap[w.heap.size]? = some (.deferred (some [])))
      (fun k W => ∃ c, Ix c k W ∧ W.heap[w.heap.size + 1]? = some (.loop (rec .done (some c))) ∧ W.heap[w.heap.size]? = some (.deferred (some []))) hXS ?_ ?_ W1 N ?_ ?_).mono ?_
    · rintro k A B ⟨h1, h2, h3, h4⟩ hO
      exact ⟨hst k A B h1 (lift (fun x hx => .inl (by simpa using hx)) hO), Nat.le_trans h2 hO.size, (hO.block _ (by omega) (by simp; omega)).trans h3, (hO.block _ (by omega) (by simp; omega)).trans h4⟩
    · rintro k ln A W ⟨hi, hsz, hl, hk⟩ hln hSl hA
      have hy := run_yield (P := Tryd.prog) (args := #[.slice A ln.length ln.length]) hl (by rw [hrec]; rfl)
      rw [hrec] at hy
      have hy' : (Instr.yield (w.heap.size + 1) #[.slice A ln.length ln.length]).run Tryd.prog W = .ok (.round (w.heap.size + 1) fn (a.tmps.setIfInBounds p (.slice A ln.length ln.length)) assign body) W := by simpa using hy
      refine ⟨fn, _, assign, body, hy', roundIn_of_wpIn hfn ?_⟩
      refine wpIn_mono (hassign (w.heap.size + 1) (.slice A ln.length ln.length) W (fun a1 w1 => a1 = a₁ (.slice A ln.length ln.length) ∧ w1 = W) ⟨rfl, rfl⟩) ?_
      rintro e a2 w2 he
      cases e with
      | normal =>
        obtain ⟨rfl, rfl⟩ := he
        refine ⟨_, run_beginRound hl (by rw [hrec]), ?_⟩
        obtain ⟨W2, hW2⟩ : ∃ W2, w2.putObj (w.heap.size + 1) (.loop { rec .ready none with state := .busy }) = W2 := ⟨_, rfl⟩
        have hO2 : Only [w.heap.size + 1] w2 W2 := by rw [← hW2]; exact putObj_only _ _ _
        have hl2 : W2.heap[w.heap.size + 1]? = some (.loop (rec .busy none)) := by rw [← hW2, World.putObj_heap_same (by omega), hrec]
        have hk2 : W2.heap[w.heap.size]? = some (.deferred (some [])) := (hO2.block _ (by omega) (by simp)).trans hk
        have hsz2 : w.heap.size + 2 ≤ W2.heap.size := Nat.le_trans hsz hO2.size
        rw [hW2]
        refine wpIn_mono (hbody (w.heap.size + 1) k ln A W2 (hst k _ _ hi (lift (rs := [w.heap.size + 1]) (fun x hx => .inr (by simpa using hx)) hO2)) hln (hSl.only hO2 (fun x hx hm => by
          have := hS _ (hA x hx)
          rw [List.mem_singleton] at hm
          omega)) hA hsz2) ?_
        have fin : ∀ (jump : Option Code) (W3 : World), Keeps (w.heap.size :: (w.heap.size + 1) :: S) W2 W3 →
            ∃ W4, (Instr.endRound (w.heap.size + 1) jump).run Tryd.prog W3 = .ok (.bool jump.isNone) W4 ∧ Only [w.heap.size + 1] W3 W4 ∧ W4.heap[w.heap.size + 1]? = some (.loop (rec (if jump.isNone then .ready else .done) jump)) ∧
              W4.heap[w.heap.size]? = some (.deferred (some [])) ∧ w.heap.size + 2 ≤ W4.heap.size ∧ Keeps S w2 W4 := by
          intro jump W3 hk3
          have hl3 : W3.heap[w.heap.size + 1]? = some (.loop (rec .busy none)) := (hk3.block _ (by simp)).trans hl2
          have hd3 : W3.heap[w.heap.size]? = some (.deferred (some [])) := (hk3.block _ (by simp)).trans hk2
          have hsz3 : w.heap.size + 2 ≤ W3.heap.size := Nat.le_trans hsz2 hk3.size
          have hr := run_endRound (P := Tryd.prog) jump hl3
          have hO4 := putObj_only W3 (w.heap.size + 1) (.loop { rec .busy none with state := if jump.isNone then .ready else .done, pending := jump })
          refine ⟨_, hr, hO4, by rw [World.putObj_heap_same (by omega), hrec], (hO4.block _ (by omega) (by simp)).trans hd3, Nat.le_trans hsz3 hO4.size, ?_⟩
          have hSk : ∀ k ∈ S, k < w2.heap.size ∧ k ∉ [w.heap.size + 1] := fun k hk => by have := hS k hk; exact ⟨by omega, by simp; omega⟩
          refine ((hO2.keeps hSk).trans (hk3.mono (fun k hk => by simp [hk]))).trans (hO4.keeps (fun k hk => ?_))
          have := hS k hk
          exact ⟨by omega, by simp; omega⟩
        rintro e a3 W3 hp
        cases e with
        | normal =>
          obtain ⟨hk3, hi3⟩ := hp
          obtain ⟨W4, hr, hO4, hl4, hd4, hs4, hKs⟩ := fin none W3 hk3
          exact ⟨_, _, hr, .inl ⟨rfl, ⟨hst _ _ _ hi3 (lift (rs := [w.heap.size + 1]) (fun x hx => .inr (by simpa using hx)) hO4), hs4, hl4, hd4⟩, hKs⟩⟩
        | ret =>
          obtain ⟨hk3, hi3⟩ := hp
          obtain ⟨W4, hr, hO4, hl4, hd4, hs4, hKs⟩ := fin (some .ret) W3 hk3
          exact ⟨_, _, hr, .inr ⟨rfl, _, hstx _ _ _ _ hi3 (lift (rs := [w.heap.size + 1]) (fun x hx => .inr (by simpa using hx)) hO4), hl4, hd4⟩⟩
        | exit id =>
          obtain ⟨hk3, hi3⟩ := hp
          obtain ⟨W4, hr, hO4, hl4, hd4, hs4, hKs⟩ := fin (some (.exit id)) W3 hk3
          exact ⟨_, _, hr, .inr ⟨rfl, _, hstx _ _ _ _ hi3 (lift (rs := [w.heap.size + 1]) (fun x hx => .inr (by simpa using hx)) hO4), hl4, hd4⟩⟩
        | goto t =>
          obtain ⟨hk3, hi3⟩ := hp
          obtain ⟨W4, hr, hO4, hl4, hd4, hs4, hKs⟩ := fin (some (.goto t)) W3 hk3
          exact ⟨_, _, hr, .inr ⟨rfl, _, hstx _ _ _ _ hi3 (lift (rs := [w.heap.size + 1]) (fun x hx => .inr (by simpa using hx)) hO4), hl4, hd4⟩⟩
        | panic ch => exact hp.elim
        | outgrown => exact hp.elim
      | ret => exact he.elim
      | exit id => exact he.elim
      | goto t => exact he.elim
      | panic ch => exact he.elim
      | outgrown => exact he.elim
    · exact hI.only hO1 (fun hm => nomatch hm) (fun _ _ hm => nomatch hm)
    · exact ⟨hst _ _ _ h0 (lift (rs := []) (fun _ hx => nomatch hx) hO1), by omega, hL1, hK1⟩
    · rintro e W2 ⟨⟨v, rfl⟩, (⟨hi, hsz, hl, hd⟩ | ⟨k, hk, c, hi, hl, hd⟩)⟩
      · have hr := run_endLoop (P := Tryd.prog) hl (by rw [hrec]; simp)
        rw [show (rec .ready none).pending = none by rw [hrec]] at hr
        exact ⟨none, _, hr, hdone _ _ (hst _ _ _ hi (lift (rs := [w.heap.size + 1]) (fun x hx => .inr (by simpa using hx)) (putObj_only _ _ _))) rfl ((World.putObj_heap_other (by omega)).trans hd)⟩
      · have hr := run_endLoop (P := Tryd.prog) hl (by rw [hrec]; simp)
        rw [show (rec .done (some c)).pending = some c by rw [hrec]] at hr
        exact ⟨some c, _, hr, hstop _ c k _ hk (hstx _ _ _ _ hi (lift (rs := [w.heap.size + 1]) (fun x hx => .inr (by simpa using hx)) (putObj_only _ _ _))) rfl ((World.putObj_heap_other (by omega)).trans hd)⟩
end Go.Proofs.YtkcnnbglmckmnaaDoor
namespace Go.Proofs.YtkcnnbglmckmnaaDoor
open Go.RowKit Go.Instr
section
variable {P : Program} {w : World} {F : Fence} {n₀ : Nat}
def from_ (w : World) : Option Addr → Nat
  | none => w.heap.size
  | some a => a.block
theorem run_append_str2 (t u ty e : TypeId) (i : TypeInfo) (ht : P.underlying t = some (.slice e)) (hu : P.underlying u = some .string) (hi : P.info? e = some i) (hz : i.zero = some (.int .u8 0)) (hsize : i.size = 1) (hby : i.bytes = 1)
    (A : Option Addr) (n c : Nat) (xs : List Value) (hown : Own w e A n c xs) (s : ByteArray) (h63 : n + s.size ≤ 140737488355328) :
    ∃ A' c' w', (Builtin.append_ #[t, u] ty #[.slice A n c, .string s]).run P w = .ok (.slice A' (n + s.size) c') w' ∧ Own w' e A' (n + s.size) c' (xs ++ bvs s.data.toList) ∧ Only (blks A) w w' ∧
      ∀ base, base ≤ w.heap.size → (∀ k ∈ blks A, base ≤ k) → ∀ k ∈ blks A', base ≤ k := by
  have hlt : from_ w A ≤ w.heap.size := by
    cases A with
    | none => exact Nat.le_refl _
    | some ad => exact Nat.le_of_lt (hown.lt (k := ad.block) (by simp))
  obtain ⟨v', w', hr, h2, h3, _⟩ := Lib.run_append_own_string (P := P) w (from_ w A) t u ty e i ht hu hi hz hsize hby (.slice A n c) n xs (own_base hown (fun k hk => by
    cases A with
    | none => cases hk
    | some ad => simp [Value.ownBlock] at hk; subst hk; exact Nat.le_refl _)) s (by unfold maxLen; omega) (by omega) hlt
  have hform : ∃ A' c', v' = .slice A' (n + s.size) c' ∧ ∀ k ∈ blks A', from_ w A ≤ k := by
    rcases h2.2 with ⟨rfl, h0⟩ | ⟨g, cap, cur, rfl, hb, _⟩
    · exact ⟨none, 0, by rw [h0], fun _ hk => nomatch hk⟩
    · exact ⟨_, _, rfl, fun k hk => by simp at hk; omega⟩
  obtain ⟨A', c', rfl, hb⟩ := hform
  refine ⟨A', c', w', hr, own_base h2 (fun _ _ => Nat.zero_le _), ?_, fun base h0 h1 k hk => ?_⟩
  · have := Only.of_grown h3
    cases A with
    | none => simpa [Value.ownBlock] using this
    | some a => simpa [Value.ownBlock] using this
  · have := hb k hk
    cases A with
    | none => exact Nat.le_trans h0 this
    | some ad => exact Nat.le_trans (h1 ad.block (by simp)) this
theorem wpList_append_as {ops : Array Oper} {rest : List Oper} {o : Oper} {a : Act} {Q : Exit → Act → World → Prop} (hgd : o.guard = none) (s x : Operand) (t : TypeId)
    (ho : o.op = .call { callee := .builtin .append, args := #[s, x], argTypes := #[t, t] }) (e : TypeId) (i : TypeInfo) (z : Value) (bytes : Nat) (ht : P.underlying t = some (.slice e)) (hi : P.info? e = some i)
    (hz : i.zero = some z) (hsize : i.size = 1) (hby : i.bytes = bytes) (hzs : z.cells.size = 1) (A : Option Addr) (n c : Nat) (xs : List Value) (hs : a.eval s = .slice A n c) (hown : Own w e A n c xs)
    (A2 : Option Addr) (m c2 : Nat) (news : List Value) (hx : a.eval x = .slice A2 m c2) (hr : Sl w A2 m news) (h1 : ∀ u ∈ news, u.oneCell' = true) (h63 : n + m ≤ maxLen) (hbytes : (n + m) * bytes ≤ 140737488355328)
    (N : Nat) (hN : n + m = N) (L : List Value) (hL : xs ++ news = L)
    (h : ∀ A' c' w', Own w' e A' N c' L → Only (blks A) w w' → (∀ k ∈ blks A', k ∈ blks A ∨ w.heap.size ≤ k) → wpList P ops Q rest (a.put o.dst (.slice A' N c')) w') : wpList P ops Q (o :: rest) a w := by
  subst hN hL
  exact wpList_append_sl hgd s x t ho e i z bytes ht hi hz hsize hby hzs A n c xs hs hown A2 m c2 news hx hr h1 h63 hbytes h
theorem wpList_append_lit {ops : Array Oper} {rest : List Oper} {o : Oper} {a : Act} {Q : Exit → Act → World → Prop} (hgd : o.guard = none) (s x : Operand) (t u : TypeId)
    (ho : o.op = .call { callee := .builtin .append, args := #[s, x], argTypes := #[t, u] }) (e : TypeId) (i : TypeInfo) (ht : P.underlying t = some (.slice e)) (hu : P.underlying u = some .string) (hi : P.info? e = some i) (hz : i.zero = some (.int .u8 0)) (hsize : i.size = 1) (hby : i.bytes = 1)
    (A : Option Addr) (n c : Nat) (xs : List Value) (hs : a.eval s = .slice A n c) (hown : Own w e A n c xs) (tx : ByteArray) (hx : a.eval x = .string tx) (h63 : n + tx.size ≤ 140737488355328)
    (N : Nat) (hN : n + tx.size = N) (L : List Value) (hL : xs ++ bvs tx.data.toList = L)
    (h : ∀ A' c' w', Own w' e A' N c' L → Only (blks A) w w' → (∀ base, base ≤ w.heap.size → (∀ k ∈ blks A, base ≤ k) → ∀ k ∈ blks A', base ≤ k) → wpList P ops Q rest (a.put o.dst (.slice A' N c')) w') : wpList P ops Q (o :: rest) a w := by
  subst hN hL
  refine wpList_plain hgd fun K hK => ?_
  obtain ⟨A', c', w', hr, h2, h3, h4⟩ := run_append_str2 (P := P) t u o.type e i ht hu hi hz hsize hby A n c xs hown tx h63
  unfold Oper.wp execOp
  simp only [ho, resolve, invoke, builtin, Sem.run_bind, Sem.run_pure, Result.andThen_ok, List.map_toArray, List.map_cons, List.map_nil, hs, hx, hr]
  exact hK _ _ (h A' c' w' h2 h3 h4)
end
end Go.Proofs.YtkcnnbglmckmnaaDoor
