/-
  octet.Reader: Bytes, NewReader; the nil Reader.
-/
import Derived.Test.YthaodlegpjedoaaReader2
namespace Go.Proofs.Ythaodlegpjedoaa
open Go.RowKit

/-- What Bytes takes. -/
def rowTook (bad : Bool) (l : List UInt8) : List UInt8 := rawRow (takeBad bad l) (takeRest bad l) (takeV bad l)
def rowBad (bad : Bool) (l : List UInt8) : Bool := rawBad (takeBad bad l) (takeRest bad l) (takeV bad l)
def rowRest (bad : Bool) (l : List UInt8) : List UInt8 := rawRest (takeBad bad l) (takeRest bad l) (takeV bad l)

set_option maxRecDepth 100000 in
theorem rbytes_any {w : World} {g kb : Nat} {A : Option Addr} {c : Nat} {bad : Bool} {l : List UInt8} (h : Rd w g kb A c bad l) :
    Calls Try.prog 46 #[.pointer (some ⟨g, 0, none⟩)] w (TookRow w g kb (rowTook bad l) (rowBad bad l) (rowRest bad l)) := by
  go_enter Try.func46, Try.ntmps46
  go_wp2_with (first
    | (go_at_call 77; go_must (refine (num_any h).mono ?_); rintro e w1 ⟨rfl, A1, c1, HR, HO⟩)
    | (go_at_call 76; go_must (refine (rraw_any _ HR).mono ?_); rintro e w2 ⟨P, cp, A2, c2, rfl, HV, HB, HR2, HO2⟩))
  go_ret
  exact ⟨P, cp, A2, c2, rfl, HV, fun k hk => Nat.le_trans HO.size (HB k hk), HR2, HO.trans HO2 (fun x hx => .inl hx)⟩

/-- A Reader made anew, over a copy of the bytes. -/
def MadeR (w : World) (l : List UInt8) (e : Ending) (w' : World) : Prop :=
  ∃ g kb A c, e = .returned (.pointer (some ⟨g, 0, none⟩)) ∧ w.heap.size ≤ g ∧ w.heap.size ≤ kb ∧ Rd w' g kb A c false l ∧ Only [] w w'

set_option maxRecDepth 100000 in
theorem newReader_any (w : World) (A : Option Addr) (n c : Nat) (l : List UInt8) (hs : Sl w A n (bvs l)) (hn : n ≤ 1000000000000) :
    Calls Try.prog 45 #[.slice A n c] w (MadeR w l) := by
  have hl : l.length = n := by simpa using hs.len
  go_enter Try.func45, Try.ntmps45
  go_wp2_with (go_at_call 66; go_must (refine (join_one w A c n l hl hs hn).mono ?_); rintro e w1 ⟨⟨P, cp, rfl, HV, HO, HB⟩, hlt0⟩)
  go_ret
  have hsz := HO.size
  cases P with
  | none =>
    refine ⟨w1.heap.size, w.heap.size, none, cp, rfl, hsz, Nat.le_refl _, ⟨by rw [hl]; exact Bk.new _ _ _, HV.sl.alloc _, HV.cap, fun _ e => (by cases e), by omega, by simp; omega, fun e => (by cases e), by omega⟩, HO.alloc _⟩
  | some ad =>
    have hlt : ad.block < w1.heap.size := HV.lt (by simp)
    refine ⟨w1.heap.size, ad.block, some ad, cp, rfl, hsz, HB _ (by simp), ⟨by rw [hl]; exact Bk.new _ _ _, HV.sl.alloc _, HV.cap, fun a e => (by injection e with e; subst e; rfl), by omega, by simp; omega, fun e => (by cases e), by omega⟩, HO.alloc _⟩

set_option maxRecDepth 100000 in
theorem num_nil (w : World) : Calls Try.prog 77 #[.pointer none] w fun e w' => e = .returned (.int .i64 0) ∧ w = w' := by
  go_enter Try.func77, Try.ntmps77
  go_wp2_with (go_at_call 49; go_must (refine (good_nil _).mono ?_); rintro e w' ⟨rfl, rfl⟩)
  go_ret
  exact ⟨rfl, rfl⟩
set_option maxRecDepth 100000 in
theorem rraw_nil (n : Int) (w : World) : Calls Try.prog 76 #[.pointer none, .int .i64 n] w fun e w' => e = .returned (.slice none 0 0) ∧ w = w' := by
  by_cases hneg : n < 0
  · go_enter Try.func76, Try.ntmps76
    go_wp2_with (first
      | (go_at_call 48; go_must (refine (rbad_nil _).mono ?_); rintro e w' ⟨rfl, rfl⟩)
      | (go_at_call 49; go_must (refine (good_nil _).mono ?_); rintro e w' ⟨rfl, rfl⟩))
    go_ret
    exact ⟨rfl, rfl⟩
  · by_cases hpos : 0 < n
    · go_enter Try.func76, Try.ntmps76
      go_wp2_with (first
        | (go_at_call 78; go_must (refine (left_nil _).mono ?_); rintro e w' ⟨rfl, rfl⟩)
        | (go_at_call 48; go_must (refine (rbad_nil _).mono ?_); rintro e w' ⟨rfl, rfl⟩)
        | (go_at_call 49; go_must (refine (good_nil _).mono ?_); rintro e w' ⟨rfl, rfl⟩))
      go_ret
      exact ⟨rfl, rfl⟩
    · go_enter Try.func76, Try.ntmps76
      go_wp2_with (first
        | (go_at_call 78; go_must (refine (left_nil _).mono ?_); rintro e w' ⟨rfl, rfl⟩)
        | (go_at_call 49; go_must (refine (good_nil _).mono ?_); rintro e w' ⟨rfl, rfl⟩))
      go_ret
      exact ⟨rfl, rfl⟩
set_option maxRecDepth 100000 in
theorem rbytes_nil (w : World) : Calls Try.prog 46 #[.pointer none] w fun e w' => e = .returned (.slice none 0 0) ∧ w = w' := by
  go_enter Try.func46, Try.ntmps46
  go_wp2_with (first
    | (go_at_call 77; go_must (refine (num_nil _).mono ?_); rintro e w' ⟨rfl, rfl⟩)
    | (go_at_call 76; go_must (refine (rraw_nil _ _).mono ?_); rintro e w' ⟨rfl, rfl⟩))
  go_ret
  exact ⟨rfl, rfl⟩
end Go.Proofs.Ythaodlegpjedoaa
