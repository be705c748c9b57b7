/-
  base's appendLetters: the four letters of three bytes behind a row of the call's own.
-/
import Derived.Test.YtjfahkbhhpcnnaaBMath
import Derived.Test.YtjfahkbhhpcnnaaChecked
import Derived.Test.YtjfahkbhhpcnnaaRowsOf
import Derived.Test.YtjfahkbhhpcnnaaBits
import Derived.Test.YtjfahkbhhpcnnaaRelOps
import Derived.WalkKit
import Derived.Handy
import Derived.Deep.DeepMust
import Derived.WalkLawsBesides
import Derived.ScopeJumps
import Derived.WalkMore
import Derived.IntWalk
namespace Go.Proofs.Ytjfahkbhhpcnnaa
open Go.RowKit

def Grew (w : World) (A : Option Addr) (l : List UInt8) (e : Ending) (w' : World) : Prop :=
  ∃ A' c', e = .returned (.slice A' l.length c') ∧ Own w' 5 A' l.length c' (bvs l) ∧ Only (blks A) w w' ∧ ∀ k ∈ blks A', k ∈ blks A ∨ w.heap.size ≤ k

theorem u8_mask (k m : Nat) (hm : m = 2 ^ k - 1) (x : Nat) (h : x < 256) (h2 : m < 256 := by decide) : bits .and .u8 (x : Int) (m : Int) = ((x % 2 ^ k : Nat) : Int) := by
  subst hm
  rw [u8_and_nat x _ h h2, Nat.and_two_pow_sub_one_eq_mod]
theorem u8_join (k a b : Nat) (ha : a % 2 ^ k = 0) (hb : b < 2 ^ k) (h : a + b < 256) : bits .or .u8 (a : Int) (b : Int) = ((a + b : Nat) : Int) := by
  rw [u8_or_nat a b (by omega) (by omega), nat_join k a b ha hb]
theorem abc_at (k : Nat) (hk : k < 64) (h : k < ({ data := #[65, 66, 67, 68, 69, 70, 71, 72, 73, 74, 75, 76, 77, 78, 79, 80, 81, 82, 83, 84, 85, 86, 87, 88, 89, 90, 97, 98, 99, 100, 101, 102, 103, 104, 105, 106, 107, 108, 109, 110, 111, 112, 113, 114, 115, 116, 117, 118, 119, 120, 121, 122, 48, 49, 50, 51, 52, 53, 54, 55, 56, 57, 43, 47] } : ByteArray).size) : ({ data := #[65, 66, 67, 68, 69, 70, 71, 72, 73, 74, 75, 76, 77, 78, 79, 80, 81, 82, 83, 84, 85, 86, 87, 88, 89, 90, 97, 98, 99, 100, 101, 102, 103, 104, 105, 106, 107, 108, 109, 110, 111, 112, 113, 114, 115, 116, 117, 118, 119, 120, 121, 122, 48, 49, 50, 51, 52, 53, 54, 55, 56, 57, 43, 47] } : ByteArray)[k]'h = lt k := by
  unfold lt
  rw [List.getD_eq_getElem?_getD, List.getElem?_eq_getElem (show k < abc.length from hk)]
  rfl
theorem idx_ok {w : World} (i : Int) (k : Nat) (hk : k < 64) (e : i = (k : Int)) (h : i.toNat < ({ data := #[65, 66, 67, 68, 69, 70, 71, 72, 73, 74, 75, 76, 77, 78, 79, 80, 81, 82, 83, 84, 85, 86, 87, 88, 89, 90, 97, 98, 99, 100, 101, 102, 103, 104, 105, 106, 107, 108, 109, 110, 111, 112, 113, 114, 115, 116, 117, 118, 119, 120, 121, 122, 48, 49, 50, 51, 52, 53, 54, 55, 56, 57, 43, 47] } : ByteArray).size) :
    (Result.ok (Value.int .u8 (({ data := #[65, 66, 67, 68, 69, 70, 71, 72, 73, 74, 75, 76, 77, 78, 79, 80, 81, 82, 83, 84, 85, 86, 87, 88, 89, 90, 97, 98, 99, 100, 101, 102, 103, 104, 105, 106, 107, 108, 109, 110, 111, 112, 113, 114, 115, 116, 117, 118, 119, 120, 121, 122, 48, 49, 50, 51, 52, 53, 54, 55, 56, 57, 43, 47] } : ByteArray)[i.toNat]'h).toNat) w : Result Value).andThen (fun a w' => Result.ok (Next.value a) w') = Result.ok (Next.value (.int .u8 ((lt k).toNat : Int))) w := by
  subst e
  have := abc_at k hk (by simpa using h)
  show Result.ok (Next.value (.int .u8 _)) w = _
  simp only [Int.toNat_natCast, this]

theorem appendLetters_any (A : Option Addr) (n c : Nat) (l : List UInt8) (x y z : UInt8) (w : World) (hl : l.length = n) (hown : Own w 5 A n c (bvs l)) (hn : n ≤ 1099511627776) :
    Calls Try.prog 17 #[.slice A n c, bv x, bv y, bv z] w (Grew w A (l ++ [l0 x, l1 x y, l2 y z, l3 z])) := by
  obtain ⟨i0, hi, hz0, hz1, hz2⟩ := info_parts infoByte
  have bx : x.toNat < 256 := x.toNat_lt
  have by_ : y.toNat < 256 := y.toNat_lt
  have bz : z.toNat < 256 := z.toNat_lt
  unfold bv
  go_enter Try.func17, Try.ntmps17
  go_wp2_with fail
  apply region_writes (rs := blks A) (Ws := [22]) (by kernel_rfl) (by kernel_rfl)
  apply rel_val (hrf := Tk_refl)
  case hw => rfl
  case hy => intro wS hN hF; skip; first | (go_simp; done) | (go_simp; with_reducible rfl)
  case' hk => skip
  try simp only [Act.put, List.setIfInBounds_toArray, List.set_cons_zero, List.set_cons_succ]
  apply rel_val (hrf := Tk_refl)
  case hw => rfl
  case hy => intro wS hN hF; skip; first | (go_simp; done) | (go_simp; with_reducible rfl)
  case' hk => skip
  try simp only [Act.put, List.setIfInBounds_toArray, List.set_cons_zero, List.set_cons_succ]
  apply rel_val (hrf := Tk_refl)
  case hw => rfl
  case hy => intro wS hN hF; skip; first | (go_simp; done) | (go_simp; with_reducible rfl)
  case' hk => skip
  try simp only [Act.put, List.setIfInBounds_toArray, List.set_cons_zero, List.set_cons_succ]
  apply rel_val (v := .int .u8 ((l0 x).toNat : Int)) (hrf := Tk_refl)
  case hw => rfl
  case hy =>
    intro wS hN hF
    go_simp; rw [dif_pos (by omega)]; exact idx_ok _ _ (n0 x) (by omega) _
  case' hk => skip
  try simp only [Act.put, List.setIfInBounds_toArray, List.set_cons_zero, List.set_cons_succ]
  apply rel_val (hrf := Tk_refl)
  case hw => rfl
  case hy => intro wS hN hF; skip; first | (go_simp; done) | (go_simp; with_reducible rfl)
  case' hk => skip
  try simp only [Act.put, List.setIfInBounds_toArray, List.set_cons_zero, List.set_cons_succ]
  apply rel_val (v := .int .u8 ((x.toNat % 4 : Nat) : Int)) (hrf := Tk_refl)
  case hw => rfl
  case hy =>
    intro wS hN hF
    go_simp; exact u8_mask 2 3 rfl x.toNat bx
  case' hk => skip
  try simp only [Act.put, List.setIfInBounds_toArray, List.set_cons_zero, List.set_cons_succ]
  apply rel_val (v := .int .u8 ((x.toNat % 4 * 16 : Nat) : Int)) (hrf := Tk_refl)
  case hw => rfl
  case hy =>
    intro wS hN hF
    go_simp; rw [IntKind.wrap_u8']; omega
  case' hk => skip
  try simp only [Act.put, List.setIfInBounds_toArray, List.set_cons_zero, List.set_cons_succ]
  apply rel_val (hrf := Tk_refl)
  case hw => rfl
  case hy => intro wS hN hF; skip; first | (go_simp; done) | (go_simp; with_reducible rfl)
  case' hk => skip
  try simp only [Act.put, List.setIfInBounds_toArray, List.set_cons_zero, List.set_cons_succ]
  apply rel_val (v := .int .u8 ((y.toNat / 16 : Nat) : Int)) (hrf := Tk_refl)
  case hw => rfl
  case hy =>
    intro wS hN hF
    go_simp
  case' hk => skip
  try simp only [Act.put, List.setIfInBounds_toArray, List.set_cons_zero, List.set_cons_succ]
  apply rel_val (v := .int .u8 ((x.toNat % 4 * 16 + y.toNat / 16 : Nat) : Int)) (hrf := Tk_refl)
  case hw => rfl
  case hy =>
    intro wS hN hF
    go_simp; exact u8_join 4 (x.toNat % 4 * 16) (y.toNat / 16) (by omega) (by omega) (by omega)
  case' hk => skip
  try simp only [Act.put, List.setIfInBounds_toArray, List.set_cons_zero, List.set_cons_succ]
  apply rel_val (v := .int .u8 ((l1 x y).toNat : Int)) (hrf := Tk_refl)
  case hw => rfl
  case hy =>
    intro wS hN hF
    go_simp; rw [dif_pos (by omega)]; exact idx_ok _ _ (n1 x y) (by omega) _
  case' hk => skip
  try simp only [Act.put, List.setIfInBounds_toArray, List.set_cons_zero, List.set_cons_succ]
  apply rel_val (hrf := Tk_refl)
  case hw => rfl
  case hy => intro wS hN hF; skip; first | (go_simp; done) | (go_simp; with_reducible rfl)
  case' hk => skip
  try simp only [Act.put, List.setIfInBounds_toArray, List.set_cons_zero, List.set_cons_succ]
  apply rel_val (v := .int .u8 ((y.toNat % 16 : Nat) : Int)) (hrf := Tk_refl)
  case hw => rfl
  case hy =>
    intro wS hN hF
    go_simp; exact u8_mask 4 15 rfl y.toNat by_
  case' hk => skip
  try simp only [Act.put, List.setIfInBounds_toArray, List.set_cons_zero, List.set_cons_succ]
  apply rel_val (v := .int .u8 ((y.toNat % 16 * 4 : Nat) : Int)) (hrf := Tk_refl)
  case hw => rfl
  case hy =>
    intro wS hN hF
    go_simp; rw [IntKind.wrap_u8']; omega
  case' hk => skip
  try simp only [Act.put, List.setIfInBounds_toArray, List.set_cons_zero, List.set_cons_succ]
  apply rel_val (hrf := Tk_refl)
  case hw => rfl
  case hy => intro wS hN hF; skip; first | (go_simp; done) | (go_simp; with_reducible rfl)
  case' hk => skip
  try simp only [Act.put, List.setIfInBounds_toArray, List.set_cons_zero, List.set_cons_succ]
  apply rel_val (v := .int .u8 ((z.toNat / 64 : Nat) : Int)) (hrf := Tk_refl)
  case hw => rfl
  case hy =>
    intro wS hN hF
    go_simp
  case' hk => skip
  try simp only [Act.put, List.setIfInBounds_toArray, List.set_cons_zero, List.set_cons_succ]
  apply rel_val (v := .int .u8 ((y.toNat % 16 * 4 + z.toNat / 64 : Nat) : Int)) (hrf := Tk_refl)
  case hw => rfl
  case hy =>
    intro wS hN hF
    go_simp; exact u8_join 2 (y.toNat % 16 * 4) (z.toNat / 64) (by omega) (by omega) (by omega)
  case' hk => skip
  try simp only [Act.put, List.setIfInBounds_toArray, List.set_cons_zero, List.set_cons_succ]
  apply rel_val (v := .int .u8 ((l2 y z).toNat : Int)) (hrf := Tk_refl)
  case hw => rfl
  case hy =>
    intro wS hN hF
    go_simp; rw [dif_pos (by omega)]; exact idx_ok _ _ (n2 y z) (by omega) _
  case' hk => skip
  try simp only [Act.put, List.setIfInBounds_toArray, List.set_cons_zero, List.set_cons_succ]
  apply rel_val (hrf := Tk_refl)
  case hw => rfl
  case hy => intro wS hN hF; skip; first | (go_simp; done) | (go_simp; with_reducible rfl)
  case' hk => skip
  try simp only [Act.put, List.setIfInBounds_toArray, List.set_cons_zero, List.set_cons_succ]
  apply rel_val (v := .int .u8 ((z.toNat % 64 : Nat) : Int)) (hrf := Tk_refl)
  case hw => rfl
  case hy =>
    intro wS hN hF
    go_simp; exact u8_mask 6 63 rfl z.toNat bz
  case' hk => skip
  try simp only [Act.put, List.setIfInBounds_toArray, List.set_cons_zero, List.set_cons_succ]
  apply rel_val (v := .int .u8 ((l3 z).toNat : Int)) (hrf := Tk_refl)
  case hw => rfl
  case hy =>
    intro wS hN hF
    go_simp; rw [dif_pos (by omega)]; exact idx_ok _ _ (n3 z) (by omega) _
  case' hk => skip
  try simp only [Act.put, List.setIfInBounds_toArray, List.set_cons_zero, List.set_cons_succ]
  apply rel_fact (φ := fun v W => ∃ ad, v = .slice (some ad) 4 4 ∧ Sl W (some ad) 4 (bvs [l0 x, l1 x y, l2 y z, l3 z])) (x := 22) (hs := lasts0 (by kernel_rfl) (fun v W W' h ho => by obtain ⟨ad, h1, h2⟩ := h; exact ⟨ad, h1, h2.keep ho⟩))
  case hw => rfl
  case hy =>
    intro wS hN hF
    refine gives_value (u := .slice (some ⟨wS.heap.size, 0, none⟩) 4 4) (w' := wS.alloc (.cells #[bv (l0 x), bv (l1 x y), bv (l2 y z), bv (l3 z)] 5)) ?_ ⟨_, rfl, Sl.of_new _ _ _ _⟩ (Tk_only ((Only.refl [] _).alloc _))
    unfold bv
    go_simp
  case' hk => intro v21
  try simp only [Act.put, List.setIfInBounds_toArray, List.set_cons_zero, List.set_cons_succ]
  apply rel_fact (φ := fun v W => ∃ A' c', v = .slice A' (n + 4) c' ∧ Own W 5 A' (n + 4) c' (bvs l ++ bvs [l0 x, l1 x y, l2 y z, l3 z]) ∧ ∀ k ∈ blks A', k ∈ blks A ∨ w.heap.size ≤ k) (x := 9999) (hs := lasts0 (by kernel_rfl) (fun v W W' h ho => by obtain ⟨A2, c2, h1, h2, h3⟩ := h; exact ⟨A2, c2, h1, h2.keep ho, h3⟩))
  case hw => rfl
  case hy =>
    intro wS hN hF
    have hO : Only [] w.drew wS := hN.pre (by kernel_rfl)
    obtain ⟨ad, rfl, hs⟩ := hF.at_ 0 rfl (by kernel_rfl) (by kernel_rfl)
    refine gives_append_sl (.tmp 9) (.tmp 30) 22 rfl 5 i0 (.int .u8 0) 1 Try.underlying22 hi hz0 hz1 hz2 rfl A n c (bvs l) rfl (hown.drew.keep hO) (some ad) 4 4 _ rfl hs (bvs_one _) (by unfold maxLen; omega) (by omega) fun A' c' w' h2 h3 h4 => ⟨⟨A', c', rfl, h2, fun k hk => ?_⟩, Tk_writes rfl h3 (fun _ h => .inl h)⟩
    rcases h4 k hk with h | h
    · exact .inl h
    · exact .inr (by have := hO.size; simp at this; omega)
  case' hk => intro v22
  try simp only [Act.put, List.setIfInBounds_toArray, List.set_cons_zero, List.set_cons_succ]
  apply rel_fact (φ := fun v W => ∃ A' c', v = .slice A' (n + 4) c' ∧ Own W 5 A' (n + 4) c' (bvs l ++ bvs [l0 x, l1 x y, l2 y z, l3 z]) ∧ ∀ k ∈ blks A', k ∈ blks A ∨ w.heap.size ≤ k) (x := 9999) (hs := lasts0 (by kernel_rfl) (fun v W W' h ho => by obtain ⟨A2, c2, h1, h2, h3⟩ := h; exact ⟨A2, c2, h1, h2.keep ho, h3⟩))
  case hw => rfl
  case hy =>
    intro wS hN hF
    have h := hF.at_ 0 rfl (by kernel_rfl) (by kernel_rfl)
    refine gives_value (u := v22) (w' := wS) ?_ h (Tk_refl _)
    go_simp
  case' hk => intro v23
  try simp only [Act.put, List.setIfInBounds_toArray, List.set_cons_zero, List.set_cons_succ]
  refine rel_end ?_
  intro wS hO hF
  obtain ⟨A', c', rfl, h2, h3⟩ := facts_at hF 0 rfl
  clear hF
  go_wp2
  go_ret
  have hlen : (l ++ [l0 x, l1 x y, l2 y z, l3 z]).length = n + 4 := by rw [List.length_append, hl]; rfl
  exact ⟨A', c', by rw [hlen]; rfl, by rw [hlen, bvs_append]; exact h2, (Only.refl _ w).drew.trans hO.only (fun _ hx => .inl hx), h3⟩
end Go.Proofs.Ytjfahkbhhpcnnaa
