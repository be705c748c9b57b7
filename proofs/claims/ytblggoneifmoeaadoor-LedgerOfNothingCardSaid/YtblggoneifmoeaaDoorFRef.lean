/-
  frame.One; the reference's Decode and One.
-/
import Derived.Test.YtblggoneifmoeaaDoorFDec
import Derived.BigQuiet
namespace Go.Proofs.YtblggoneifmoeaaDoor
open Go.RowKit

theorem neq_true {x y : Nat} (h : x ≠ y) : ((x : Int) != (y : Int)) = true := by rw [bne_iff_ne]; omega
theorem neq_false {x y : Nat} (h : x = y) : ((x : Int) != (y : Int)) = false := by rw [h]; simp

theorem Fresh2.err {w w' : World} {l : List UInt8} {y : Nat} (x : Nat) (hb : y = x ∧ l = []) (o : Only [] w w') : Fresh2 w l (y : Nat) (.returned (.tuple #[.slice none 0 0, .int .i64 (x : Int)])) w' := by
  obtain ⟨rfl, rfl⟩ := hb
  exact ⟨none, 0, rfl, Own.nil _ _, o, fun k hk => (by cases hk)⟩

set_option maxRecDepth 100000 in
set_option maxHeartbeats 800000 in
theorem one_any (A : Option Addr) (n c : Nat) (b : List UInt8) (w : World) (hs : Sl w A n (bvs b)) (ht : Tab w) (hc : n ≤ c) (hn : n ≤ 100000000000) :
    Calls Tryd.prog 51 #[.slice A n c] w (Fresh2 w (oneBody b) (oneBad b : Nat)) := by
  have hl : b.length = n := by simpa using hs.len
  have HD := Lib.hid (decode_any A n c b w hs ht hc hn)
  have hle := bad_le b
  have hsz : size b ≤ n := by
    by_cases h : bad b = 0
    · have := size_pos h; omega
    · rw [size_bad h]; omega
  by_cases h0 : bad b = 0
  · have hne : ((bad b : Int) != 0) = false := by rw [h0]; rfl
    by_cases h1 : size b < n
    · have HB := Lib.hid (one_1 h0 (by omega))
      clear hl h0
      go_enter Tryd.func51, Tryd.ntmps51
      go_wp2_with fail
      refine HD.out.mono ?_
      rintro e w1 ⟨A1, c1, rfl, V1, O1, B1⟩
      go_wp2
      go_ret2
      exact Fresh2.err 3 HB.out O1
    · have HB := Lib.hid (one_2 h0 (by omega))
      clear hl h0
      go_enter Tryd.func51, Tryd.ntmps51
      go_wp2_with fail
      refine HD.out.mono ?_
      rintro e w1 ⟨A1, c1, rfl, V1, O1, B1⟩
      go_wp2
      go_ret2
      rw [HB.out.1, HB.out.2]
      exact ⟨A1, c1, rfl, V1, O1, B1⟩
  · have hne : ((bad b : Int) != 0) = true := by rw [bne_iff_ne]; omega
    have HB := Lib.hid (one_0 h0)
    clear hl h0
    go_enter Tryd.func51, Tryd.ntmps51
    go_wp2_with fail
    refine HD.out.mono ?_
    rintro e w1 ⟨A1, c1, rfl, V1, O1, B1⟩
    go_wp2
    go_ret2
    exact Fresh2.err _ HB.out O1

end Go.Proofs.YtblggoneifmoeaaDoor
