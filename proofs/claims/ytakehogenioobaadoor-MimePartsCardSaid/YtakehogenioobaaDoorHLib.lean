/-
  What head calls of the library: bytes.IndexByte, Clone, TrimSuffix, HasSuffix, HasPrefix, Count, Cut, Trim, strings.IndexByte; as our words say it, over whatever slice that reads so.
-/
import Derived.Test.YtakehogenioobaaDoorHMath
import Derived.Test.YtakehogenioobaaDoorRowsOf
import Derived.Test.YtakehogenioobaaDoorShelf
import Derived.Test.YtakehogenioobaaDoorShelfT
namespace Go.Proofs.YtakehogenioobaaDoor
open Go.RowKit

def nums (l : List UInt8) : List Int := l.map fun b => (b.toNat : Int)
theorem nums_len (l : List UInt8) : (nums l).length = l.length := by simp [nums]
theorem nums_bytes (l : List UInt8) : Lib.bytesOf (nums l) = l := by
  unfold nums Lib.bytesOf
  rw [List.map_map]
  conv => rhs; rw [← List.map_id l]
  refine List.map_congr_left fun b _ => ?_
  simp
theorem nums_get (l : List UInt8) (i : Nat) (h : i < l.length) : (nums l).getD i 0 = ((l[i].toNat : Nat) : Int) := by
  unfold nums
  rw [List.getD_eq_getElem?_getD, List.getElem?_map, List.getElem?_eq_getElem h]
  rfl
theorem nums_vals (l : List UInt8) : (nums l).map (Value.int .u8) = bvs l := by simp [nums, bvs, bv]
theorem nums_small (l : List UInt8) : ∀ x ∈ nums l, 0 ≤ x ∧ x < 256 := by
  intro x hx
  simp only [nums, List.mem_map] at hx
  obtain ⟨b, _, rfl⟩ := hx
  have := byte_lt b
  omega
theorem cells_of {w : World} {ad : Addr} {l : List UInt8} {n : Nat} (h : Sl w (some ad) n (bvs l)) : ∀ i, i < n → w.cell? (ad.add i) = some (.int .u8 ((nums l).getD i 0)) := by
  intro i hi
  have hl : l.length = n := by simpa using h.len
  obtain ⟨ad', e, hc⟩ := h.2 (by omega)
  injection e with e
  subst e
  rw [nums_get l i (by omega)]
  exact hc i _ (bvs_get l i (by omega))
theorem sl_in {w : World} {A : Option Addr} {l : List UInt8} {n : Nat} (h : Sl w A n (bvs l)) : Lib.BytesIn w A n (nums l) := fun hn => by
  obtain ⟨ad, rfl, _⟩ := h.2 hn
  exact Lib.BytesIn.of_cells (cells_of h) hn
theorem one_in {w : World} {b o : Nat} {x : UInt8} (h : w.cell? ⟨b, o, none⟩ = some (bv x)) : Lib.BytesIn w (some ⟨b, o, none⟩) 1 (nums [x]) := fun _ => ⟨b, o, rfl, fun i hi => by
  obtain rfl : i = 0 := by omega
  simpa [nums, bv] using h⟩
theorem sl_empty {w : World} {n : Nat} {l : List UInt8} (h : Sl w none n (bvs l)) : l = [] ∧ n = 0 := by
  have hl : l.length = n := by simpa using h.len
  rcases Nat.eq_zero_or_pos n with h0 | h0
  · exact ⟨List.eq_nil_of_length_eq_zero (by omega), h0⟩
  · obtain ⟨_, e, _⟩ := h.2 h0
    cases e

/-- A slice of bytes that reads so, with the room that it says it has. -/
structure Bt (w : World) (A : Option Addr) (n c : Nat) (l : List UInt8) : Prop where
  sl : Sl w A n (bvs l)
  cap : n ≤ c
  max : c ≤ 9223372036854775807
  nil : A = none → c = 0
section
variable {w w' : World} {A : Option Addr} {n c : Nat} {l : List UInt8}
theorem Bt.len (h : Bt w A n c l) : l.length = n := by simpa using h.sl.len
theorem Bt.only {rs : List Nat} (h : Bt w A n c l) (o : Only rs w w') (hd : ∀ x ∈ blks A, x ∉ rs) : Bt w' A n c l :=
  ⟨h.sl.only o (fun ad e => hd _ (by rw [e]; simp)), h.cap, h.max, h.nil⟩
theorem Bt.keep (h : Bt w A n c l) (o : Only [] w w') : Bt w' A n c l := h.only o (fun _ _ hm => nomatch hm)
theorem Bt.none_ (w : World) : Bt w none 0 0 [] := ⟨Sl.none_, Nat.le_refl _, Nat.zero_le _, fun _ => rfl⟩
theorem Bt.pre (h : Bt w A n c l) {k : Nat} (hk : k ≤ n) : Bt w A k c (l.take k) :=
  ⟨by have := h.sl.pre hk; rwa [bvs_take] at this, Nat.le_trans hk h.cap, h.max, h.nil⟩
theorem Bt.cut (h : Bt w A n c l) {k : Nat} (hk : k ≤ n) : Bt w (if c = k then A else A.map (·.add k)) (n - k) (c - k) (l.drop k) :=
  ⟨by have := h.sl.cut hk h.cap; rwa [bvs_drop] at this, by have := h.cap; omega, by have := h.max; omega, fun e => by
    split at e
    · omega
    · have : A = none := by cases A <;> simp_all
      have := h.nil this
      omega⟩
theorem blks_from (A : Option Addr) (c k : Nat) : blks (if c = k then A else A.map (·.add k)) = blks A := by
  split
  · rfl
  · cases A with
    | none => rfl
    | some a => simp [add_block]
theorem Own.bt {t : TypeId} (h : Own w t A n c (bvs l)) : Bt w A n c l := by
  refine ⟨h.sl, h.cap, ?_, ?_⟩
  · rcases h.2 with ⟨hv, _⟩ | ⟨g, cap, cur, hv, _, _, _, h2, _⟩
    · simp only [Value.slice.injEq] at hv; omega
    · simp only [Value.slice.injEq] at hv; unfold maxLen at h2; omega
  · rintro rfl
    rcases h.2 with ⟨hv, _⟩ | ⟨g, cap, cur, hv, _⟩
    · simp only [Value.slice.injEq] at hv; omega
    · simp only [Value.slice.injEq] at hv; cases hv.1
end

/-- bytes.IndexByte of 0A. -/
theorem index_any (A : Option Addr) (n c : Nat) (l : List UInt8) (w : World) (h0 : 0 < n) (h : Sl w A n (bvs l)) : Calls Tryd.prog 61 #[.slice A n c, .int .u8 10] w fun e w' => e = .returned (.int .i64 (Lib.indexByte l 10)) ∧ w = w' := by
  have hl : l.length = n := by simpa using h.len
  obtain ⟨ad, rfl, _⟩ := h.2 h0
  refine (Tryd.bytes_IndexByte_at ad n c (nums l) 10 w (by rw [nums_len, hl]) (cells_of h)).mono fun e w' he => ⟨?_, he.2.symm⟩
  rw [he.1, nums_bytes]
  rfl

section
variable {w : World} {A : Option Addr} {n c : Nat} {l : List UInt8}
/-- bytes.Clone. -/
theorem clone_any (c : Nat) (hs : Sl w A n (bvs l)) (hn : n ≤ 140737488355328) :
    Calls Tryd.prog 17 #[.slice A n c] w fun e w' => ∃ A' c', e = .returned (.slice A' n c') ∧ Own w' 5 A' n c' (bvs l) ∧ Only [] w w' ∧ ∀ k ∈ blks A', w.heap.size ≤ k := by
  have hl : l.length = n := by simpa using hs.len
  subst hl
  cases A with
  | none =>
    obtain ⟨rfl, _⟩ := sl_empty hs
    refine (Tryd.bytes_Clone_nil 0 c w).mono fun e w' he => ?_
    obtain ⟨rfl, rfl⟩ := he
    exact ⟨none, 0, rfl, Own.nil _ _, Only.refl _ _, fun k hk => nomatch hk⟩
  | some ad =>
    refine (Tryd.bytes_Clone_at ad l.length c (nums l) w (nums_len l) hn (cells_of hs)).mono fun e w' he => ?_
    obtain ⟨v, rfl, h1, _, h3⟩ := he
    rw [nums_vals] at h1
    have hform : ∃ A' c', v = .slice A' l.length c' ∧ ∀ k ∈ blks A', w.heap.size ≤ k := by
      rcases h1.2 with ⟨rfl, h0⟩ | ⟨g, cap, cur, rfl, hb, _⟩
      · exact ⟨none, 0, by rw [h0], fun _ hk => nomatch hk⟩
      · exact ⟨_, _, rfl, fun k hk => by simp at hk; omega⟩
    obtain ⟨A', c', rfl, hb⟩ := hform
    exact ⟨A', c', rfl, own_base h1 (fun _ _ => Nat.zero_le _), Only.of_below h3, hb⟩

/-- bytes.TrimSuffix of one byte. -/
theorem suffix_any (hs : Bt w A n c l) (b2 o2 d : Nat) (x : UInt8) (h2 : w.cell? ⟨b2, o2, none⟩ = some (bv x)) :
    Calls Tryd.prog 42 #[.slice A n c, .slice (some ⟨b2, o2, none⟩) 1 d] w fun e w' => e = .returned (.slice A (Lib.trimSuffix l [x]).length c) ∧ w = w' := by
  have hl := hs.len
  have hcap := hs.cap; have hmax := hs.max
  subst hl
  refine (Tryd.bytes_TrimSuffix_all A (some ⟨b2, o2, none⟩) l.length c 1 d (nums l) (nums [x]) w (nums_len l) rfl hcap (by omega) (sl_in hs.sl) (one_in h2)).mono fun e w' he => ⟨he.1.trans (congrArg Ending.returned ?_), he.2.symm⟩
  rcases Nat.eq_zero_or_pos l.length with h0 | h0
  · obtain rfl : l = [] := List.eq_nil_of_length_eq_zero h0
    unfold Lib.trimSuffixV
    split
    · unfold Lib.bytesTrimSuffix
      simp [nums, Lib.bytesOf, Lib.hasSuffix, Lib.trimSuffix]
    · simp [Lib.trimSuffix, Lib.hasSuffix]
  · obtain ⟨b, o, rfl, _⟩ := (sl_in hs.sl) h0
    unfold Lib.trimSuffixV Lib.bytesTrimSuffix
    simp only [nums, List.map_cons, List.map_nil]
    rw [show (l.map fun b => (b.toNat : Int)) = nums l from rfl, nums_bytes, show Lib.bytesOf [(x.toNat : Int)] = [x] by simpa [nums] using nums_bytes [x]]
    unfold Lib.trimSuffix
    by_cases hh : Lib.hasSuffix l [x] = true
    · simp [hh, Lib.sliceTo]
    · simp [hh]
theorem hasSuffix_any (hs : Bt w A n c l) (b2 o2 d : Nat) (x : UInt8) (h2 : w.cell? ⟨b2, o2, none⟩ = some (bv x)) :
    Calls Tryd.prog 59 #[.slice A n c, .slice (some ⟨b2, o2, none⟩) 1 d] w fun e w' => e = .returned (.bool (Lib.hasSuffix l [x])) ∧ w = w' := by
  have hl := hs.len
  have hcap := hs.cap; have hmax := hs.max
  refine (Tryd.bytes_HasSuffix_all A (some ⟨b2, o2, none⟩) n c 1 d (nums l) (nums [x]) w (by rw [nums_len, hl]) rfl hcap (by omega) (sl_in hs.sl) (one_in h2)).mono fun e w' he => ⟨?_, he.2.symm⟩
  rw [he.1, nums_bytes, nums_bytes]
/-- Where a byte stands first, or how many bytes there are. -/
def fi (x : UInt8) (l : List UInt8) : Nat := l.findIdx (· == x)
theorem fi_le (x : UInt8) (l : List UInt8) : fi x l ≤ l.length := List.findIdx_le_length
theorem fi_cons (x y : UInt8) (l : List UInt8) : fi x (y :: l) = if y = x then 0 else fi x l + 1 := by
  unfold fi
  rw [List.findIdx_cons]
  by_cases h : y = x
  · subst h; simp
  · have : (y == x) = false := by rw [beq_eq_false_iff_ne]; exact h
    rw [this, if_neg h]
    rfl
theorem index_fi (x : UInt8) : ∀ l : List UInt8, Lib.indexByte l x = if fi x l < l.length then (fi x l : Int) else -1
  | [] => rfl
  | y :: l => by
    rw [Lib.indexByte, index_fi x l, fi_cons]
    by_cases h : y = x
    · subst h; simp
    · have h' : (y == x) = false := by rw [beq_eq_false_iff_ne]; exact h
      rw [if_neg (by rw [h']; decide), if_neg h]
      by_cases h2 : fi x l < l.length
      · have e1 : ((fi x l : Int) == -1) = false := by rw [beq_eq_false_iff_ne]; omega
        simp only [h2, if_true, e1]
        rw [if_neg (by decide), if_pos (by rw [List.length_cons]; omega)]
        rfl
      · simp only [h2, if_false]
        rw [if_pos (by decide), if_neg (by rw [List.length_cons]; omega)]
/-- bytes.Cut at one byte. -/
theorem cut_any (hs : Bt w A n c l) (hbig : n ≤ 4611686018427387904) (b2 o2 d : Nat) (x : UInt8) (h2 : w.cell? ⟨b2, o2, none⟩ = some (bv x)) :
    Calls Tryd.prog 41 #[.slice A n c, .slice (some ⟨b2, o2, none⟩) 1 d] w fun e w' => ∃ A2 n2 c2, e = .returned (.tuple #[.slice A (fi x l) c, .slice A2 n2 c2, .bool (decide (fi x l < l.length))]) ∧ Only [] w w' ∧
      Bt w' A (fi x l) c (l.take (fi x l)) ∧ Bt w' A2 n2 c2 (l.drop (fi x l + 1)) ∧ ∀ k ∈ blks A2, k ∈ blks A := by
  have hl := hs.len
  subst hl
  have hcap := hs.cap; have hmax := hs.max; have hfi := fi_le x l
  obtain ⟨I, hI⟩ : ∃ I, I = Lib.indexByte l x := ⟨_, rfl⟩
  have hI2 : I = if fi x l < l.length then (fi x l : Int) else -1 := by rw [hI, index_fi]
  have hidx : Calls Tryd.prog 58 #[.slice A l.length c, .slice (some ⟨b2, o2, none⟩) 1 d] w fun e w' => e = .returned (.int .i64 I) ∧ ∃ q, w' = w.drewN q := by
    cases A with
    | none =>
      obtain rfl := hs.nil rfl
      obtain ⟨rfl, _⟩ := sl_empty hs.sl
      refine (Tryd.bytes_Index_one_nil b2 o2 d x.toNat w h2).mono fun e w' he => ⟨?_, 0, he.2⟩
      rw [he.1, hI]
      rfl
    | some ad =>
      refine (Tryd.bytes_Index_one_at ad l.length c b2 o2 d (nums l) x.toNat w (nums_len l) (cells_of hs.sl) h2).mono fun e w' he => ⟨?_, 0, he.2⟩
      rw [he.1, hI, nums_bytes]
      simp
  refine (Tryd.bytes_Cut_of A (some ⟨b2, o2, none⟩) l.length c 1 d I w hcap (by rw [hI2]; split <;> omega) (fun h0 => by rw [hI2] at h0 ⊢; split at h0 <;> rename_i h1; (rw [if_pos h1]; omega); omega) (by omega) hidx).mono fun e w' he => ?_
  obtain ⟨he, q, rfl⟩ := he
  have hO : Only [] w (w.drewN q) := (Only.refl _ _).drewN q
  by_cases h1 : fi x l < l.length
  · have hI3 : I = (fi x l : Int) := by rw [hI2, if_pos h1]
    refine ⟨_, _, _, he.trans (congrArg Ending.returned ?_), hO, (hs.pre hfi).keep hO, (hs.cut (k := fi x l + 1) (by omega)).keep hO, fun k hk => by rwa [blks_from] at hk⟩
    unfold Lib.cutV
    rw [hI3, if_pos (by omega), decide_eq_true h1]
    rfl
  · have hI3 : I = -1 := by rw [hI2, if_neg h1]
    have hfe : fi x l = l.length := by omega
    refine ⟨none, 0, 0, he.trans (congrArg Ending.returned ?_), hO, (hs.pre hfi).keep hO, ?_, fun k hk => nomatch hk⟩
    · unfold Lib.cutV
      rw [hI3, if_neg (by omega), decide_eq_false h1, hfe]
    · rw [List.drop_of_length_le (by omega)]
      exact Bt.none_ _
/-- bytes.Trim of blanks. -/
theorem trim_any (hs : Bt w A n c l) :
    Calls Tryd.prog 48 #[.slice A n c, .string ⟨#[32, 9]⟩] w fun e w' => ∃ A2 c2, e = .returned (.slice A2 (trimB l).length c2) ∧ Only [] w w' ∧ Bt w' A2 (trimB l).length c2 (trimB l) ∧ ∀ k ∈ blks A2, k ∈ blks A := by
  have hl := hs.len
  subst hl
  refine (Tryd.bytes_Trim_laid (by kernel_rfl) A l.length c (nums l) ⟨#[32, 9]⟩ w (nums_len l) hs.cap hs.max (sl_in hs.sl) (nums_small l) (by decide) (ascii_of_all (by decide))).mono fun e w' he => ?_
  obtain ⟨he, hB⟩ := he
  have hO : Only [] w w' := Only.of_below hB
  rw [nums_bytes] at he
  obtain ⟨R, hR⟩ : ∃ R, R = dropR l := ⟨_, rfl⟩
  have hR1 : Lib.trimRightS l [32, 9] = R := hR.symm
  have hR2 : trimB l = R.dropWhile isB := by rw [hR]; rfl
  have hRl : R.length ≤ l.length := by
    rw [hR]
    unfold dropR
    rw [List.length_reverse]
    refine Nat.le_trans (List.dropWhile_suffix _).length_le ?_
    rw [List.length_reverse]
    exact Nat.le_refl _
  have hRt : l.take R.length = R := by
    have : R.reverse <:+ l.reverse := by rw [hR]; unfold dropR; rw [List.reverse_reverse]; exact List.dropWhile_suffix _
    have h2 : R <+: l := by
      obtain ⟨p, hp⟩ := this
      refine ⟨p.reverse, ?_⟩
      have := congrArg List.reverse hp
      rw [List.reverse_append, List.reverse_reverse, List.reverse_reverse] at this
      exact this
    obtain ⟨p, hp⟩ := h2
    rw [← hp, List.take_left]
  have hT : (trimB l).length ≤ R.length := by rw [hR2]; exact (List.dropWhile_suffix _).length_le
  have hD : R.drop (R.length - (trimB l).length) = trimB l := by
    obtain ⟨p, hp⟩ : trimB l <:+ R := by rw [hR2]; exact List.dropWhile_suffix _
    have hpl : R.length = p.length + (trimB l).length := by rw [← hp, List.length_append]
    rw [show R.length - (trimB l).length = p.length by omega]
    conv => lhs; rw [← hp]
    rw [List.drop_left]
  rw [show Lib.trimRightS l ((⟨#[32, 9]⟩ : ByteArray).data.toList) = R from hR1, show Lib.trimS l ((⟨#[32, 9]⟩ : ByteArray).data.toList) = trimB l from rfl] at he
  unfold Lib.leftV at he
  by_cases h0 : (trimB l).length = 0
  · have h3 : trimB l = [] := List.eq_nil_of_length_eq_zero h0
    rw [h0, Nat.sub_zero, if_pos rfl] at he
    rw [h3]
    exact ⟨none, 0, he, hO, Bt.none_ _, fun k hk => nomatch hk⟩
  · rw [if_neg (by omega)] at he
    have hp := (hs.pre hRl).cut (k := R.length - (trimB l).length) (by omega)
    rw [hRt, hD, show R.length - (R.length - (trimB l).length) = (trimB l).length by omega] at hp
    refine ⟨_, _, he.trans (congrArg Ending.returned ?_), hO, hp.keep hO, fun k hk => by rwa [blks_from] at hk⟩
    unfold Lib.fromV
    rw [show R.length - (R.length - (trimB l).length) = (trimB l).length by omega]
end
end Go.Proofs.YtakehogenioobaaDoor
