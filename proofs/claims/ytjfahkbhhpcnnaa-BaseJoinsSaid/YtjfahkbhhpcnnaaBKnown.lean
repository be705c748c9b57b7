/-
  What base's laws share: known; Encode and Decode as the laws call them.
-/
import Derived.Test.YtjfahkbhhpcnnaaBRefD
import Derived.Test.YtjfahkbhhpcnnaaFrameP
import Derived.Lib.SmallJoins
import Derived.WalkKit
import Derived.Handy
import Derived.Deep.DeepMust
import Derived.WalkLawsBesides
import Derived.ScopeJumps
import Derived.WalkMore
import Derived.IntWalk
namespace Go.Proofs.Ytjfahkbhhpcnnaa
open Go.RowKit

open Go.Instr

theorem Encode_t (A : Option Addr) (n c : Nat) (b : List UInt8) (w : World) (hb : Sl w A n (bvs b)) (hc : n ≤ c) (hn : n ≤ 1048576) :
    Calls Try.prog 11 #[.slice A n c] w fun e w' => ∃ t : ByteArray, e = .returned (.string t) ∧ Hid (t = St (enc64 b)) ∧ Only [] w w' :=
  (Encode_any A n c b w hb hc hn).mono fun _ _ he => ⟨_, he.1, rfl, he.2⟩
theorem refEncode_t (A : Option Addr) (n c : Nat) (b : List UInt8) (t : ByteArray) (w : World) (ht : Hid (t = St (enc64 b))) (hb : Sl w A n (bvs b)) (hn : n ≤ 1048576) :
    Calls Try.prog 12 #[.slice A n c] w fun e w' => e = .returned (.string t) ∧ Only [] w w' := by
  rw [ht.out]
  exact refEncode_any A n c b w hb hn
def DYes (w : World) (b : List UInt8) (e : Ending) (w' : World) : Prop :=
  ∃ A n c, e = .returned (.tuple #[.slice A n c, .int .i64 0]) ∧ Own w' 5 A n c (bvs b) ∧ (∀ k ∈ blks A, w.heap.size ≤ k) ∧ Only [] w w'
theorem Decode_yes (s : ByteArray) (b : List UInt8) (w : World) (hs : s.size ≤ 1048576) (h : Hid (dec64 s.data.toList = some b)) : Calls Try.prog 9 #[.string s] w (DYes w b) := by
  refine (Decode_any s w hs).mono fun e w' he => ?_
  rw [h.out] at he
  rcases he with ⟨b', A, n, c, hb, h1, h2, h3, h4⟩ | ⟨hb, _⟩
  · injection hb with hb
    subst hb
    exact ⟨A, n, c, h1, h2, h3, h4⟩
  · cases hb
theorem Decode_no (s : ByteArray) (w : World) (hs : s.size ≤ 1048576) (h : Hid (dec64 s.data.toList = none)) : Calls Try.prog 9 #[.string s] w fun e w' => e = .returned (.tuple #[.slice none 0 0, .int .i64 3]) ∧ Only [] w w' := by
  refine (Decode_any s w hs).mono fun e w' he => ?_
  rw [h.out] at he
  rcases he with ⟨b', A, n, c, hb, _⟩ | ⟨_, h1, h2⟩
  · cases hb
  · exact ⟨h1, h2⟩
def RYes (w : World) (b : List UInt8) (e : Ending) (w' : World) : Prop :=
  ∃ A n c, e = .returned (.tuple #[.slice A n c, .int .i64 0]) ∧ Sl w' A n (bvs b) ∧ Only [] w w'
theorem refDecode_yes (s : ByteArray) (b : List UInt8) (w : World) (hs : s.size ≤ 1000000) (h : Hid (dec64 s.data.toList = some b)) : Calls Try.prog 10 #[.string s] w (RYes w b) := by
  refine (refDecode_any s w hs).mono fun e w' he => ?_
  unfold RefPost at he
  rw [ref_dec, h.out] at he
  rcases he with ⟨b', A, n, c, hb, h1, h2, h3⟩ | ⟨hb, _⟩
  · injection hb with hb
    subst hb
    exact ⟨A, n, c, h1, h2, h3⟩
  · cases hb
theorem refDecode_no (s : ByteArray) (w : World) (hs : s.size ≤ 1000000) (h : Hid (dec64 s.data.toList = none)) : Calls Try.prog 10 #[.string s] w fun e w' => e = .returned (.tuple #[.slice none 0 0, .int .i64 3]) ∧ Only [] w w' := by
  refine (refDecode_any s w hs).mono fun e w' he => ?_
  unfold RefPost at he
  rw [ref_dec, h.out] at he
  rcases he with ⟨b', A, n, c, hb, _⟩ | ⟨_, h1, h2⟩
  · cases hb
  · exact ⟨h1, h2⟩
theorem str_of {w : World} {A : Option Addr} {n : Nat} {l : List UInt8} (h : Sl w A n (bvs l)) (c : Nat) : (convert 22 9 (.slice A n c)).run Try.prog w = .ok (.string (St l)) w :=
  run_str_sl (P := Try.prog) 22 9 5 A n c l Try.underlying22 Try.underlying5 Try.underlying9 h

theorem known_any (w : World) : Calls Try.prog 13 #[] w fun e w' => e = .returned (.bool true) ∧ Only [] w w' := by
  have kc := fun (w : World) (C : Array Value) (n c g : Nat) (hg : g = w.heap.size) => Joins.run_convert_bytes_const_at (P := Try.prog) w 22 5 C n c g hg Try.underlying22 Try.underlying5
  have hd : Hid (dec64 (⟨#[89, 81, 61, 61]⟩ : ByteArray).data.toList = some [97]) := by show _ = _; decide +kernel
  have hE : Hid (St (enc64 [97]) = ⟨#[89, 81, 61, 61]⟩) := by show _ = _; decide +kernel
  go_enter Try.func13, Try.ntmps13
  go_wp2_with (first
    | (go_at_call 9; refine (Decode_yes _ [97] _ (by decide) hd).mono ?_; rintro e w1 ⟨A1, n1, c1, rfl, HV1, HB1, HO1⟩)
    | (go_at_call 11; refine (Encode_any (some ⟨w1.heap.size, 0, none⟩) 1 1 [97] _ (Sl.of_new w1 #[bv 97] _ _) (by omega) (by omega)).mono ?_; rw [hE.out]; rintro e w2 ⟨rfl, HO2⟩; have hcv := str_of ((HV1.alloc _).keep HO2).sl c1))
  go_ret
  exact ⟨rfl, (HO1.alloc _).then HO2⟩
end Go.Proofs.Ytjfahkbhhpcnnaa
