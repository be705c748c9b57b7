/-
  Slices of bytes with the room that they say they have, as the library's contracts want them; where a byte stands first. Plain theorems: nothing of the program stands here.
-/
import Derived.Test.YtbbgdcnnacakjaaDoorAppend
import Derived.Shelf.Bytes.SlSmallAll
import Derived.Lib.Bytealg
namespace Go.Proofs.YtbbgdcnnacakjaaDoor
open Go.RowKit

def nums (l : List UInt8) : List Int := l.map fun b => (b.toNat : Int)
theorem nums_len (l : List UInt8) : (nums l).length = l.length := by simp [nums]
theorem nums_bytes (l : List UInt8) : Lib.bytesOf (nums l) = l := by
  unfold nums Lib.bytesOf
  rw [List.map_map]
  conv => rhs; rw [← List.map_id l]
  refine List.map_congr_left fun b _ => ?_
  simp
theorem nums_get (l : List UInt8) (i : Nat) (h : i < l.length) : (nums l).getD i 0 = ((l[i].toNat : Nat) : Int) := by
  unfold nums
  rw [List.getD_eq_getElem?_getD, List.getElem?_map, List.getElem?_eq_getElem h]
  rfl
theorem nums_vals (l : List UInt8) : (nums l).map (Value.int .u8) = bvs l := by simp [nums, bvs, bv]
theorem nums_small (l : List UInt8) : ∀ x ∈ nums l, 0 ≤ x ∧ x < 256 := by
  intro x hx
  simp only [nums, List.mem_map] at hx
  obtain ⟨b, _, rfl⟩ := hx
  have := byte_lt b
  omega
theorem cells_of {w : World} {ad : Addr} {l : List UInt8} {n : Nat} (h : Sl w (some ad) n (bvs l)) : ∀ i, i < n → w.cell? (ad.add i) = some (.int .u8 ((nums l).getD i 0)) := by
  intro i hi
  have hl : l.length = n := by simpa using h.len
  obtain ⟨ad', e, hc⟩ := h.2 (by omega)
  injection e with e
  subst e
  rw [nums_get l i (by omega)]
  exact hc i _ (bvs_get l i (by omega))
theorem sl_in {w : World} {A : Option Addr} {l : List UInt8} {n : Nat} (h : Sl w A n (bvs l)) : Lib.BytesIn w A n (nums l) := fun hn => by
  obtain ⟨ad, rfl, _⟩ := h.2 hn
  exact Lib.BytesIn.of_cells (cells_of h) hn
theorem one_in {w : World} {b o : Nat} {x : UInt8} (h : w.cell? ⟨b, o, none⟩ = some (bv x)) : Lib.BytesIn w (some ⟨b, o, none⟩) 1 (nums [x]) := fun _ => ⟨b, o, rfl, fun i hi => by
  obtain rfl : i = 0 := by omega
  simpa [nums, bv] using h⟩
theorem sl_empty {w : World} {n : Nat} {l : List UInt8} (h : Sl w none n (bvs l)) : l = [] ∧ n = 0 := by
  have hl : l.length = n := by simpa using h.len
  rcases Nat.eq_zero_or_pos n with h0 | h0
  · exact ⟨List.eq_nil_of_length_eq_zero (by omega), h0⟩
  · obtain ⟨_, e, _⟩ := h.2 h0
    cases e

/-- A slice of bytes that reads so, with the room that it says it has. -/
structure Bt (w : World) (A : Option Addr) (n c : Nat) (l : List UInt8) : Prop where
  sl : Sl w A n (bvs l)
  cap : n ≤ c
  max : c ≤ 9223372036854775807
  nil : A = none → c = 0
section
variable {w w' : World} {A : Option Addr} {n c : Nat} {l : List UInt8}
theorem Bt.len (h : Bt w A n c l) : l.length = n := by simpa using h.sl.len
theorem Bt.only {rs : List Nat} (h : Bt w A n c l) (o : Only rs w w') (hd : ∀ x ∈ blks A, x ∉ rs) : Bt w' A n c l :=
  ⟨h.sl.only o (fun ad e => hd _ (by rw [e]; simp)), h.cap, h.max, h.nil⟩
theorem Bt.keep (h : Bt w A n c l) (o : Only [] w w') : Bt w' A n c l := h.only o (fun _ _ hm => nomatch hm)
theorem Bt.none_ (w : World) : Bt w none 0 0 [] := ⟨Sl.none_, Nat.le_refl _, Nat.zero_le _, fun _ => rfl⟩
theorem Bt.pre (h : Bt w A n c l) {k : Nat} (hk : k ≤ n) : Bt w A k c (l.take k) :=
  ⟨by have := h.sl.pre hk; rwa [bvs_take] at this, Nat.le_trans hk h.cap, h.max, h.nil⟩
theorem Bt.cut (h : Bt w A n c l) {k : Nat} (hk : k ≤ n) : Bt w (if c = k then A else A.map (·.add k)) (n - k) (c - k) (l.drop k) :=
  ⟨by have := h.sl.cut hk h.cap; rwa [bvs_drop] at this, by have := h.cap; omega, by have := h.max; omega, fun e => by
    split at e
    · omega
    · have : A = none := by cases A <;> simp_all
      have := h.nil this
      omega⟩
theorem blks_from (A : Option Addr) (c k : Nat) : blks (if c = k then A else A.map (·.add k)) = blks A := by
  split
  · rfl
  · cases A with
    | none => rfl
    | some a => simp [add_block]
theorem Own.bt {t : TypeId} (h : Own w t A n c (bvs l)) : Bt w A n c l := by
  refine ⟨h.sl, h.cap, ?_, ?_⟩
  · rcases h.2 with ⟨hv, _⟩ | ⟨g, cap, cur, hv, _, _, _, h2, _⟩
    · simp only [Value.slice.injEq] at hv; omega
    · simp only [Value.slice.injEq] at hv; unfold maxLen at h2; omega
  · rintro rfl
    rcases h.2 with ⟨hv, _⟩ | ⟨g, cap, cur, hv, _⟩
    · simp only [Value.slice.injEq] at hv; omega
    · simp only [Value.slice.injEq] at hv; cases hv.1
end

/-- Where a byte stands first, or how many bytes there are. -/
def fi (x : UInt8) (l : List UInt8) : Nat := l.findIdx (· == x)
theorem fi_le (x : UInt8) (l : List UInt8) : fi x l ≤ l.length := List.findIdx_le_length
theorem fi_cons (x y : UInt8) (l : List UInt8) : fi x (y :: l) = if y = x then 0 else fi x l + 1 := by
  unfold fi
  rw [List.findIdx_cons]
  by_cases h : y = x
  · subst h; simp
  · have : (y == x) = false := by rw [beq_eq_false_iff_ne]; exact h
    rw [this, if_neg h]
    rfl
theorem index_fi (x : UInt8) : ∀ l : List UInt8, Lib.indexByte l x = if fi x l < l.length then (fi x l : Int) else -1
  | [] => rfl
  | y :: l => by
    rw [Lib.indexByte, index_fi x l, fi_cons]
    by_cases h : y = x
    · subst h; simp
    · have h' : (y == x) = false := by rw [beq_eq_false_iff_ne]; exact h
      rw [if_neg (by rw [h']; decide), if_neg h]
      by_cases h2 : fi x l < l.length
      · have e1 : ((fi x l : Int) == -1) = false := by rw [beq_eq_false_iff_ne]; omega
        simp only [h2, if_true, e1]
        rw [if_neg (by decide), if_pos (by rw [List.length_cons]; omega)]
        rfl
      · simp only [h2, if_false]
        rw [if_pos (by decide), if_neg (by rw [List.length_cons]; omega)]

/-! ### Rows of bytes, each with its room -/
def Rb (w : World) (A : Option Addr) (n : Nat) (ls : List (List UInt8)) : Prop :=
  ls.length = n ∧ ∃ vs : List Value, Sl w A n vs ∧ ∀ (i : Nat) (l : List UInt8), ls[i]? = some l → ∃ Ai ci, vs[i]? = some (.slice Ai l.length ci) ∧ Bt w Ai l.length ci l
section
variable {w w' : World} {A : Option Addr} {n : Nat} {ls : List (List UInt8)}
theorem Rb.len (h : Rb w A n ls) : ls.length = n := h.1
theorem Rb.none_ : Rb w none 0 [] := ⟨rfl, [], Sl.none_, fun i l h => by simp at h⟩
theorem Rb.keep (h : Rb w A n ls) (o : Only [] w w') : Rb w' A n ls := by
  obtain ⟨hl, vs, hs, hr⟩ := h
  exact ⟨hl, vs, hs.keep o, fun i l hi => by obtain ⟨Ai, ci, h1, h2⟩ := hr i l hi; exact ⟨Ai, ci, h1, h2.keep o⟩⟩
theorem Rb.at_ (h : Rb w A n ls) {k : Nat} (hk : k < n) (hk' : k < ls.length) : ∃ ad Ai ci, A = some ad ∧ w.cell? (ad.add k) = some (.slice Ai ls[k].length ci) ∧ Bt w Ai ls[k].length ci ls[k] := by
  obtain ⟨hl, vs, hs, hr⟩ := h
  obtain ⟨ad, u, rfl, hu, hc⟩ := hs.at_ hk
  obtain ⟨Ai, ci, h1, h2⟩ := hr k ls[k] (List.getElem?_eq_getElem hk')
  rw [hu] at h1
  injection h1 with h1
  subst h1
  exact ⟨ad, Ai, ci, rfl, hc, h2⟩
theorem Rb.one {g : Nat} {t : TypeId} {A : Option Addr} {c : Nat} {l : List UInt8} (h : Bk w g t #[.slice A l.length c]) (hs : Bt w A l.length c l) : Rb w (some ⟨g, 0, none⟩) 1 [l] :=
  ⟨rfl, _, Sl.of_bk h, fun i l' hi => by
    match i, hi with
    | 0, hi => simp at hi; subst hi; exact ⟨A, c, by simp, hs⟩⟩
end
end Go.Proofs.YtbbgdcnnacakjaaDoor
