/-
  bytes.Clone and strings.Clone in our words.
-/
import Derived.Test.YtblggoneifmoeaaDoorDWords
import Derived.Test.YtblggoneifmoeaaDoorShelf
import Derived.Test.YtblggoneifmoeaaDoorBits
import Derived.WalkKit
import Derived.Lib.SliceRun
import Derived.Handy
import Derived.Deep.DeepMust
namespace Go.Proofs.YtblggoneifmoeaaDoor
open Go.RowKit Go.Maps

set_option maxRecDepth 100000 in
theorem clone_any (A : Option Addr) (n c : Nat) (l : List UInt8) (w : World) (hs : Sl w A n (bvs l)) (hn : n ≤ 1000000000000) :
    Calls Tryd.prog 29 #[.slice A n c] w (Fresh w l) := by
  obtain ⟨i0, hi, hz0, hz1, hz2⟩ := info_parts infoByte
  have hl : l.length = n := by simpa using hs.len
  cases A with
  | none =>
    have h0 : n = 0 := by
      rcases Nat.eq_zero_or_pos n with h0 | h0
      · exact h0
      · obtain ⟨ad, e, _⟩ := hs.2 h0
        cases e
    subst h0
    obtain rfl : l = [] := List.eq_nil_of_length_eq_zero hl
    clear hl hs
    have hnil : ∀ W, (binOp .eql 23 (.slice none 0 c) (.slice none 0 0)).run Tryd.prog W = .ok (.bool true) W := fun W => Lib.run_eql_slice_nil W _ _ _ _ _ _ _ Tryd.underlying23
    go_enter Tryd.func29, Tryd.ntmps29
    go_wp2
    go_ret
    exact ⟨none, 0, rfl, Own.nil _ _, Only.refl _ _, fun _ h => by cases h⟩
  | some ad =>
    have ho0 : Own (w.alloc (.cells #[] 5)) 5 (some ⟨w.heap.size, 0, none⟩) 0 0 [] := World.ownsRow_lit w #[] 0 (Nat.zero_le _) (Nat.zero_le _) rfl
    have HL := Lib.hid hl
    clear hl
    have hnil : ∀ W, (binOp .eql 23 (.slice (some ad) n c) (.slice none 0 0)).run Tryd.prog W = .ok (.bool false) W := fun W => Lib.run_eql_slice_nil W _ _ _ _ _ _ _ Tryd.underlying23
    go_enter Tryd.func29, Tryd.ntmps29
    go_wp2_with (at_builtin; refine wpList_append_sl rfl (.tmp 5) (.tmp 6) 23 rfl 5 i0 (.int .u8 0) 1 Tryd.underlying23 hi hz0 hz1 hz2 rfl _ _ _ _ rfl ho0 (some ad) n c _ rfl (hs.alloc _) (bvs_one _) (by unfold maxLen; omega) (by omega) ?_; intro A1 c1 w1 HV1 HO1 HB1; rw [List.nil_append] at HV1; rw [Nat.zero_add] at HV1)
    go_ret
    have z1 : ∀ k ∈ blks A1, w.heap.size ≤ k := fun k hk => by
      rcases HB1 k hk with h1 | h1
      · simp at h1; omega
      · simp at h1; omega
    have P1 : Only [] w w1 := ((Only.refl [] w).alloc _).trans HO1 (fun x hx => .inr (by simp at hx; omega))
    refine ⟨A1, c1, ?_, ?_, P1, z1⟩
    · rw [HL.out]; rfl
    · rw [HL.out]; exact HV1

theorem sclone_any (s : ByteArray) (w : World) (hs : s.size ≤ 281474976710656) : Calls Tryd.prog 76 #[.string s] w fun e w' => e = .returned (.string s) ∧ Only [] w w' := by
  have HC := Tryd.stringslite_Clone s w hs
  go_enter Tryd.func76, Tryd.ntmps76
  go_wp2_with (go_at_call 79; refine HC.mono ?_; rintro e w1 ⟨rfl, hb⟩)
  go_ret
  exact ⟨rfl, Only.of_below hb⟩
end Go.Proofs.YtblggoneifmoeaaDoor
