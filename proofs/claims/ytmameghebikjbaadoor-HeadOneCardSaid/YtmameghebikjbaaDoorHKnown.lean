/-
  The laws' own sample (head): known is true.
-/
import Derived.Test.YtmameghebikjbaaDoorHGet
namespace Go.Proofs.YtmameghebikjbaaDoor
open Go.RowKit Go.Instr
def kHead : List UInt8 := [83, 117, 98, 106, 101, 99, 116, 58, 32, 97, 13, 10, 32, 98, 13, 10, 13, 10, 120]
theorem kHead_get : getF kHead [115, 117, 98, 106, 101, 99, 116] = some [97, 32, 98] := by decide
theorem known_get {w : World} {A : Option Addr} {c : Nat} (hs : Bt w A 19 c kHead) (hA : ∀ x ∈ blks A, x < w.heap.size) : Calls Tryd.prog 26 #[.slice A 19 c, .string ⟨#[115, 117, 98, 106, 101, 99, 116]⟩] w fun e w' => e = .returned (.tuple #[.string ⟨#[97, 32, 98]⟩, .bool true]) ∧ Only [] w w' :=
  (Get_any hs (by omega) hA ⟨#[115, 117, 98, 106, 101, 99, 116]⟩ (by decide)).mono fun e w' ⟨t, he, ht, ho⟩ => by
    rw [show (ByteArray.mk #[115, 117, 98, 106, 101, 99, 116]).data.toList = [115, 117, 98, 106, 101, 99, 116] from rfl, kHead_get] at he ht
    rw [he, ht.out]
    exact ⟨rfl, ho⟩
def kCells : Array Value := #[.int .u8 83, .int .u8 117, .int .u8 98, .int .u8 106, .int .u8 101, .int .u8 99, .int .u8 116, .int .u8 58, .int .u8 32, .int .u8 97, .int .u8 13, .int .u8 10, .int .u8 32, .int .u8 98, .int .u8 13, .int .u8 10, .int .u8 13, .int .u8 10, .int .u8 120]
theorem known_bt (w : World) (fr : Nat × Nat) : Bt (w.alloc (.cells kCells 5 fr)) (some ⟨w.heap.size, 0, none⟩) 19 19 kHead := by
  refine ⟨?_, Nat.le_refl _, by omega, fun e => nomatch e⟩
  have h := Sl.of_new w kCells 5 fr
  exact h
set_option maxRecDepth 100000 in
set_option maxHeartbeats 1000000 in
theorem known_any (w : World) : Calls Tryd.prog 23 #[] w fun e w' => e = .returned (.bool true) ∧ Only [] w w' := by
  have kc := fun (w : World) (C : Array Value) (n c g : Nat) (hg : g = w.heap.size) => Joins.run_convert_bytes_const_at (P := Tryd.prog) w 22 5 C n c g hg Tryd.underlying22 Tryd.underlying5
  go_enter Tryd.func23, Tryd.ntmps23
  go_wp2_with (go_at_call 26; refine (known_get (known_bt w _) (by intro x hx; simp at hx; subst hx; simp)).mono ?_; rintro e w2 ⟨rfl, hO⟩)
  go_ret
  exact ⟨rfl, ((Only.refl [] w).alloc _).then hO⟩
end Go.Proofs.YtmameghebikjbaaDoor
