/-
  Texts of the seat, laid one behind the other: SMay0 Crc Sum FrameS KeyL SKv Shelf DWords.
-/
import Derived.Test.YtgnilldcfpgpaaaGreatDoorZ5
import Derived.Test.YtgnilldcfpgpaaaGreatDoorZ4
import Derived.Test.YtgnilldcfpgpaaaGreatDoorZ1
import Derived.WalkKit
import Derived.Handy
import Derived.Laws.BitsAllLaws
import Derived.Deep.DeepMust
import Derived.Lib.LaidTab
import Derived.JoinedCond
import Derived.Test.YtgnilldcfpgpaaaGreatDoorRows
import Derived.Maps.OwnSet
import Derived.Maps.RangeWalk
import Derived.Maps.Ext
import Derived.Shelf.LaysM
import Derived.Shelf.Strconv.Clone
import Derived.Shelf.SlIter.Nil
import Derived.Shelf.SortM.Plain
import Derived.Shelf.SortM.SortNone
import Derived.Ground.GgzProg
import Derived.Ground.SlgmProg
import Derived.Test.YtgnilldcfpgpaaaGreatDoorProg
namespace Go.Proofs.YtgnilldcfpgpaaaGreatDoor
open Go.RowKit Go.Instr
def nmd : Nat → Nat
  | 1 => 1 | 2 => 2 | 3 => 2 | 4 => 6 | 5 => 226 | 6 => 58 | 7 => 10 | 8 => 14 | _ => 0
def TabN (w : World) : Prop := ∀ i, i < 9 → w.cell? ⟨0, i, none⟩ = some (.int .i64 ((nmd i : Nat) : Int))
theorem TabN.only {w w' : World} {rs : List Nat} (h : TabN w) (o : Only rs w w') (hn : 0 ∉ rs) : TabN w' := fun i hi => o.cellSome (h i hi) hn
theorem TabN.keep {w w' : World} (h : TabN w) (o : Only [] w w') : TabN w' := h.only o (fun hm => by cases hm)
def zeroF (c : Ch) : Nat → Bool
  | 0 => decide (c.pass = []) | 1 => decide (c.box = []) | 2 => decide (c.to = []) | 3 => decide (c.uids = []) | 4 => decide (c.mode = 0) | 5 => decide (c.flags = 0) | 6 => decide (c.date = 0) | _ => decide (c.body = [])
def mayF (c : Ch) : Nat → Bool
  | 0 => passOk c.pass | 1 => nameL c.box | 2 => nameL c.to | 3 => uidsOk c.uids | 4 => inR c.mode 0 2 | 5 => inR c.flags 0 31 | 6 => inR c.date 0 1073741824 | _ => decide (c.body.length ≤ 1200)
def namedB (kd k : Nat) : Bool := (nmd kd).testBit k
def goodF (c : Ch) (k : Nat) : Bool := if namedB c.kind.toNat k then mayF c k else zeroF c k
theorem isC_fields {c : Ch} (h1 : 1 ≤ c.kind) (h8 : c.kind ≤ 8) : isC c = (nameL c.user && (goodF c 0 && goodF c 1 && goodF c 2 && goodF c 3 && goodF c 4 && goodF c 5 && goodF c 6 && goodF c 7)) := by
  obtain ⟨kd, us, ps, bx, to, ui, md, fl, dt, bo⟩ := c
  simp only at h1 h8
  have n0 : nameL [] = false := rfl
  have p0 : passOk [] = false := rfl
  have u0 : uidsOk [] = true := rfl
  have z1 : inR 0 0 2 = true := rfl
  have z2 : inR 0 0 31 = true := rfl
  have z3 : inR 0 0 1073741824 = true := rfl
  have hu : uidsOk ui = false → ui ≠ [] := fun h e => by rw [e, u0] at h; cases h
  have hm : inR md 0 2 = false → md ≠ 0 := fun h e => by rw [e, z1] at h; cases h
  have hf : inR fl 0 31 = false → fl ≠ 0 := fun h e => by rw [e, z2] at h; cases h
  have hd : inR dt 0 1073741824 = false → dt ≠ 0 := fun h e => by rw [e, z3] at h; cases h
  have hb : ¬ bo.length ≤ 1200 → bo ≠ [] := fun h e => by rw [e] at h; simp at h
  have hcases : kd = 1 ∨ kd = 2 ∨ kd = 3 ∨ kd = 4 ∨ kd = 5 ∨ kd = 6 ∨ kd = 7 ∨ kd = 8 := by omega
  have hbb : decide (bo.length ≤ 1200) = false → decide (bo = []) = false := fun h => by simp at h ⊢; exact hb (by omega)
  have huu : uidsOk ui = false → decide (ui = []) = false := fun h => by simp; exact hu h
  have hmm : inR md 0 2 = false → decide (md = 0) = false := fun h => by simp; exact hm h
  have hff : inR fl 0 31 = false → decide (fl = 0) = false := fun h => by simp; exact hf h
  have hdd : inR dt 0 1073741824 = false → decide (dt = 0) = false := fun h => by simp; exact hd h
  clear hu hm hf hd hb n0 p0 u0 z1 z2 z3
  rcases hcases with rfl | rfl | rfl | rfl | rfl | rfl | rfl | rfl
  all_goals
    unfold isC goodF
    simp only [show namedB (Int.toNat 1) 0 = true from rfl, show namedB (Int.toNat 1) 1 = false from rfl, show namedB (Int.toNat 1) 2 = false from rfl, show namedB (Int.toNat 1) 3 = false from rfl, show namedB (Int.toNat 1) 4 = false from rfl, show namedB (Int.toNat 1) 5 = false from rfl, show namedB (Int.toNat 1) 6 = false from rfl, show namedB (Int.toNat 1) 7 = false from rfl,
      show namedB (Int.toNat 2) 0 = false from rfl, show namedB (Int.toNat 2) 1 = true from rfl, show namedB (Int.toNat 2) 2 = false from rfl, show namedB (Int.toNat 2) 3 = false from rfl, show namedB (Int.toNat 2) 4 = false from rfl, show namedB (Int.toNat 2) 5 = false from rfl, show namedB (Int.toNat 2) 6 = false from rfl, show namedB (Int.toNat 2) 7 = false from rfl, show namedB (Int.toNat 3) 0 = false from rfl, show namedB (Int.toNat 3) 1 = true from rfl, show namedB (Int.toNat 3) 2 = false from rfl, show namedB (Int.toNat 3) 3 = false from rfl, show namedB (Int.toNat 3) 4 = false from rfl, show namedB (Int.toNat 3) 5 = false from rfl, show namedB (Int.toNat 3) 6 = false from rfl, show namedB (Int.toNat 3) 7 = false from rfl, show namedB (Int.toNat 4) 0 = false from rfl, show namedB (Int.toNat 4) 1 = true from rfl, show namedB (Int.toNat 4) 2 = true from rfl, show namedB (Int.toNat 4) 3 = false from rfl, show namedB (Int.toNat 4) 4 = false from rfl, show namedB (Int.toNat 4) 5 = false from rfl, show namedB (Int.toNat 4) 6 = false from rfl, show namedB (Int.toNat 4) 7 = false from rfl, show namedB (Int.toNat 5) 0 = false from rfl, show namedB (Int.toNat 5) 1 = true from rfl, show namedB (Int.toNat 5) 2 = false from rfl, show namedB (Int.toNat 5) 3 = false from rfl, show namedB (Int.toNat 5) 4 = false from rfl, show namedB (Int.toNat 5) 5 = true from rfl, show namedB (Int.toNat 5) 6 = true from rfl, show namedB (Int.toNat 5) 7 = true from rfl, show namedB (Int.toNat 6) 0 = false from rfl, show namedB (Int.toNat 6) 1 = true from rfl, show namedB (Int.toNat 6) 2 = false from rfl, show namedB (Int.toNat 6) 3 = true from rfl, show namedB (Int.toNat 6) 4 = true from rfl, show namedB (Int.toNat 6) 5 = true from rfl, show namedB (Int.toNat 6) 6 = false from rfl, show namedB (Int.toNat 6) 7 = false from rfl, show namedB (Int.toNat 7) 0 = false from rfl, show namedB (Int.toNat 7) 1 = true from rfl, show namedB (Int.toNat 7) 2 = false from rfl, show namedB (Int.toNat 7) 3 = true from rfl, show namedB (Int.toNat 7) 4 = false from rfl, show namedB (Int.toNat 7) 5 = false from rfl, show namedB (Int.toNat 7) 6 = false from rfl, show namedB (Int.toNat 7) 7 = false from rfl, show namedB (Int.toNat 8) 0 = false from rfl, show namedB (Int.toNat 8) 1 = true from rfl, show namedB (Int.toNat 8) 2 = true from rfl, show namedB (Int.toNat 8) 3 = true from rfl, show namedB (Int.toNat 8) 4 = false from rfl, show namedB (Int.toNat 8) 5 = false from rfl, show namedB (Int.toNat 8) 6 = false from rfl, show namedB (Int.toNat 8) 7 = false from rfl, 
      zeroF, mayF, if_true, if_false, Bool.false_eq_true, Int.reduceEq, Int.reduceLE, decide_true, decide_false, Bool.true_and, Bool.false_or, Bool.true_or, or_self, or_true, or_false]
    generalize decide (ps = []) = a0 at *
    generalize decide (bx = []) = a1 at *
    generalize decide (to = []) = a2 at *
    generalize decide (ui = []) = a3 at *
    generalize decide (md = 0) = a4 at *
    generalize decide (fl = 0) = a5 at *
    generalize decide (dt = 0) = a6 at *
    generalize decide (bo = []) = a7 at *
    generalize passOk ps = m0 at *
    generalize nameL bx = m1 at *
    generalize nameL to = m2 at *
    generalize uidsOk ui = m3 at *
    generalize inR md 0 2 = m4 at *
    generalize inR fl 0 31 = m5 at *
    generalize inR dt 0 1073741824 = m6 at *
    generalize decide (bo.length ≤ 1200) = m7 at *
    generalize nameL us = n at *
    clear h1 h8
    revert hbb huu hmm hff hdd
    cases n <;> cases a7 <;> cases m7 <;> simp
    all_goals (cases m3 <;> cases a3 <;> simp)
    all_goals (cases m4 <;> cases a4 <;> simp)
    all_goals (cases m5 <;> cases a5 <;> simp)
    all_goals (cases m6 <;> cases a6 <;> simp)
    all_goals (cases m0 <;> cases a0 <;> cases m1 <;> cases a1 <;> simp)
def fieldsV (z m : Nat → Bool) : Value := .agg #[.int .i64 1, .bool (z 0), .bool (m 0), .int .i64 2, .bool (z 1), .bool (m 1), .int .i64 4, .bool (z 2), .bool (m 2), .int .i64 8, .bool (z 3), .bool (m 3), .int .i64 16, .bool (z 4), .bool (m 4), .int .i64 32, .bool (z 5), .bool (m 5), .int .i64 64, .bool (z 6), .bool (m 6), .int .i64 128, .bool (z 7), .bool (m 7)]
set_option maxRecDepth 100000 in
theorem fields_at (z m : Nat → Bool) (k : Nat) (hk : k < 8) (W : World) : (Instr.index 195 (fieldsV z m) (.int .i64 (k : Int))).run Tryz.prog W = .ok (.agg #[.int .i64 ((2 ^ k : Nat) : Int), .bool (z k), .bool (m k)]) W := by
  have hu : Tryz.prog.underlying 195 = some (.array 8 193) := Tryz.underlying195
  rcases (by omega : k = 0 ∨ k = 1 ∨ k = 2 ∨ k = 3 ∨ k = 4 ∨ k = 5 ∨ k = 6 ∨ k = 7) with rfl | rfl | rfl | rfl | rfl | rfl | rfl | rfl <;> rfl
set_option maxRecDepth 100000 in
theorem named_and (kd k : Nat) (h1 : 1 ≤ kd) (h8 : kd ≤ 8) (hk : k < 8) : (bits .and .i64 ((nmd kd : Nat) : Int) ((2 ^ k : Nat) : Int) != 0) = namedB kd k := by
  rcases (by omega : kd = 1 ∨ kd = 2 ∨ kd = 3 ∨ kd = 4 ∨ kd = 5 ∨ kd = 6 ∨ kd = 7 ∨ kd = 8) with rfl | rfl | rfl | rfl | rfl | rfl | rfl | rfl <;>
  rcases (by omega : k = 0 ∨ k = 1 ∨ k = 2 ∨ k = 3 ∨ k = 4 ∨ k = 5 ∨ k = 6 ∨ k = 7) with rfl | rfl | rfl | rfl | rfl | rfl | rfl | rfl <;> rfl
end Go.Proofs.YtgnilldcfpgpaaaGreatDoor
namespace Go.Proofs.YtgnilldcfpgpaaaGreatDoor
def poly : Nat := 3988292384
def bit1 (x : Nat) : Nat := if x % 2 = 1 then x / 2 ^^^ poly else x / 2
def bits4 (x : Nat) : Nat := bit1 (bit1 (bit1 (bit1 x)))
def bits8 (x : Nat) : Nat := bits4 (bits4 x)
theorem half_xor (a b : Nat) : (a ^^^ b) / 2 = a / 2 ^^^ b / 2 := by
  have := Nat.shiftRight_xor_distrib (a := a) (b := b) (i := 1)
  simpa [Nat.shiftRight_succ] using this
theorem odd_xor (a b : Nat) : (a ^^^ b) % 2 = (a % 2 + b % 2) % 2 := by
  have h := Nat.testBit_xor a b 0
  simp only [Nat.testBit_zero] at h
  have hm : (a ^^^ b) % 2 < 2 := Nat.mod_lt _ (by omega)
  generalize (a ^^^ b) % 2 = m at h hm ⊢
  obtain rfl | rfl : m = 0 ∨ m = 1 := by omega
  all_goals rcases Nat.mod_two_eq_zero_or_one a with ha | ha <;> rcases Nat.mod_two_eq_zero_or_one b with hb | hb <;> rw [ha, hb] at h <;> rw [ha, hb] <;> revert h <;> decide
theorem bit1_xor (a b : Nat) : bit1 (a ^^^ b) = bit1 a ^^^ bit1 b := by
  unfold bit1
  rw [odd_xor, half_xor]
  rcases Nat.mod_two_eq_zero_or_one a with ha | ha <;> rcases Nat.mod_two_eq_zero_or_one b with hb | hb <;> simp only [ha, hb]
  · simp
  · simp [Nat.xor_assoc]
  · simp only [if_true, Nat.zero_ne_one, if_false]
    rw [Nat.xor_assoc, Nat.xor_assoc, Nat.xor_comm (b / 2)]
  · simp only [Nat.reduceAdd, Nat.mod_self, Nat.zero_ne_one, if_false, if_true]
    rw [Nat.xor_assoc, ← Nat.xor_assoc poly, Nat.xor_comm poly (b / 2), Nat.xor_assoc (b / 2), Nat.xor_self, Nat.xor_zero]
theorem bits4_xor (a b : Nat) : bits4 (a ^^^ b) = bits4 a ^^^ bits4 b := by
  unfold bits4
  simp only [bit1_xor]
theorem bit1_even (h : Nat) : bit1 (2 * h) = h := by
  unfold bit1
  rw [if_neg (by omega)]
  omega
theorem bits4_high (h : Nat) : bits4 (16 * h) = h := by
  unfold bits4
  rw [show 16 * h = 2 * (2 * (2 * (2 * h))) from by omega, bit1_even, bit1_even, bit1_even, bit1_even]
theorem split16 (x : Nat) : x = 16 * (x / 16) ^^^ x % 16 := by
  have h := Nat.two_pow_add_eq_or_of_lt (i := 4) (b := x % 16) (by omega) (x / 16)
  have hx : 16 * (x / 16) + x % 16 = x := by omega
  have hd : (16 * (x / 16)) &&& (x % 16) = 0 := by
    apply Nat.eq_of_testBit_eq
    intro j
    rw [Nat.testBit_and, Nat.zero_testBit]
    by_cases hj : j < 4
    · have : Nat.testBit (16 * (x / 16)) j = false := by
        rw [show 16 * (x / 16) = 2 ^ 4 * (x / 16) from rfl, Nat.testBit_two_pow_mul]
        simp [show ¬ j ≥ 4 by omega]
      simp [this]
    · have : Nat.testBit (x % 16) j = false := by
        rw [show x % 16 = x % 2 ^ 4 from rfl, Nat.testBit_mod_two_pow]
        simp [hj]
      simp [this]
  have he : (16 * (x / 16)) ||| (x % 16) = x := by
    rw [← hx]
    have : (16 * (x / 16) + x % 16) / 16 = x / 16 := by omega
    have h2 : (16 * (x / 16) + x % 16) % 16 = x % 16 := by omega
    rw [this, h2]
    exact h.symm
  apply Nat.eq_of_testBit_eq
  intro j
  have ho := congrArg (fun n => Nat.testBit n j) he
  have ha := congrArg (fun n => Nat.testBit n j) hd
  simp only [Nat.testBit_or, Nat.testBit_and, Nat.zero_testBit] at ho ha
  rw [Nat.testBit_xor]
  revert ho ha
  cases Nat.testBit (16 * (x / 16)) j <;> cases Nat.testBit (x % 16) j <;> cases Nat.testBit x j <;> simp
theorem nib_eq (x : Nat) : x / 16 ^^^ bits4 (x % 16) = bits4 x := by
  have h := bits4_xor (16 * (x / 16)) (x % 16)
  rw [← split16, bits4_high] at h
  exact h.symm
theorem xor_lt {a b : Nat} (ha : a < 4294967296) (hb : b < 4294967296) : a ^^^ b < 4294967296 := Nat.xor_lt_two_pow (n := 32) ha hb
theorem bit1_lt {x : Nat} (h : x < 4294967296) : bit1 x < 4294967296 := by
  unfold bit1
  split
  · exact xor_lt (by omega) (by decide)
  · omega
theorem bits4_lt {x : Nat} (h : x < 4294967296) : bits4 x < 4294967296 := bit1_lt (bit1_lt (bit1_lt (bit1_lt h)))
def crc (s : Nat) (l : List UInt8) : Nat := l.foldl (fun s b => bits8 (s ^^^ b.toNat)) s
theorem crc_snoc (s : Nat) (l : List UInt8) (b : UInt8) : crc s (l ++ [b]) = bits8 (crc s l ^^^ b.toNat) := by simp [crc]
theorem crc_append (s : Nat) (l m : List UInt8) : crc s (l ++ m) = crc (crc s l) m := by simp [crc]
def sumOf (l : List UInt8) : Nat := 4294967295 - crc 4294967295 l
end Go.Proofs.YtgnilldcfpgpaaaGreatDoor
namespace Go.Proofs.YtgnilldcfpgpaaaGreatDoor
open Go.RowKit
def Tab (w : World) : Prop := ∀ i, i < 16 → w.cell? ⟨1, i, none⟩ = some (.int .u32 (bits4 i : Nat))
theorem Tab.only {w w' : World} {rs : List Nat} (h : Tab w) (o : Only rs w w') (hn : 1 ∉ rs) : Tab w' := fun i hi => o.cellSome (h i hi) hn
theorem Tab.keep {w w' : World} (h : Tab w) (o : Only [] w w') : Tab w' := h.only o (fun hm => by cases hm)
theorem xor32 (a b : Nat) (ha : a < 4294967296) (hb : b < 4294967296) : bits .xor .u32 (a : Int) (b : Int) = ((a ^^^ b : Nat) : Int) := u32_xor_nat a b ha hb
theorem low4 (a : Nat) (ha : a < 4294967296) : bits .and .u32 (a : Int) 15 = (a : Int) % 16 := by
  have e := u32_and_nat a 15 ha (by omega)
  rw [Nat.and_two_pow_sub_one_eq_mod a 4] at e
  simpa using e
theorem flip32 (a : Nat) (ha : a < 4294967296) : 4294967295 ^^^ a = 4294967295 - a := by
  apply Nat.eq_of_testBit_eq
  intro i
  rw [show 4294967295 - a = 2 ^ 32 - (a + 1) from by omega, Nat.testBit_two_pow_sub_succ (by omega), Nat.testBit_xor, show 4294967295 = 2 ^ 32 - 1 from rfl, Nat.testBit_two_pow_sub_one]
  by_cases hi : i < 32
  · simp [hi]
  · have : a.testBit i = false := Nat.testBit_lt_two_pow (Nat.lt_of_lt_of_le ha (Nat.pow_le_pow_right (n := 2) (by omega) (by omega : 32 ≤ i)))
    simp [hi, this]
theorem not32 (a : Nat) (ha : a < 4294967296) : bits .xor .u32 IntKind.u32.max (a : Int) = ((4294967295 - a : Nat) : Int) := by
  have e := u32_xor_nat 4294967295 a (by omega) ha
  rw [flip32 a ha] at e
  exact e
set_option maxHeartbeats 800000 in
theorem sum_any (A : Option Addr) (n c : Nat) (ls : List (List UInt8)) (w : World) (hr : Rw w A n ls) (ht : Tab w) (hn : n ≤ 4611686018427387904) (htot : ∀ r ∈ ls, r.length ≤ 1099511627776) :
    Calls Tryz.prog 229 #[.slice A n c] w fun e w' => e = .returned (.int .u32 (sumOf ls.flatten : Nat)) ∧ w = w' := by
  have hl : ls.length = n := hr.len
  go_enter Tryz.func229, Tryz.ntmps229
  go_wp2
  go_loop [3, 10] (fun s i => ∃ (k : Nat) (x : Nat), k ≤ n ∧ i = .int .i64 k ∧ s = .int .u32 x ∧ x < 4294967296 ∧ Hid (x = crc 4294967295 (cat ls k))) (fun _ i => n - (intOf i).toNat)
  case atStart => exact ⟨0, 4294967295, Nat.zero_le _, rfl, rfl, by omega, rfl⟩
  case round =>
    obtain ⟨k, x, hk, rfl, rfl, hx, HX⟩ := hrel
    by_cases hlt : k < n
    · have hkl : k < ls.length := by omega
      obtain ⟨ad, Ai, ci, rfl, hcell, hrow⟩ := hr.at_ hlt hkl
      have hrl := htot _ (List.getElem_mem hkl)
      have HC := Lib.hid (cat_succ ls k hkl)
      generalize hm : (ls[k]'hkl).length = m at *
      have HM := Lib.hid hm
      clear hm
      go_wp2
      go_loop [3, 16] (fun s i => ∃ (j : Nat) (y : Nat), j ≤ m ∧ i = .int .i64 j ∧ s = .int .u32 y ∧ y < 4294967296 ∧ Hid (y = crc x ((ls[k]'hkl).take j))) (fun _ i => m - (intOf i).toNat)
      case atStart => exact ⟨0, x, Nat.zero_le _, rfl, rfl, hx, rfl⟩
      case round =>
        obtain ⟨j, y, hj, rfl, rfl, hy, HY⟩ := hrel
        by_cases hlt2 : j < m
        · obtain ⟨ad2, u, rfl, hu, hcell2⟩ := hrow.at_ hlt2
          have hjl : j < (ls[k]'hkl).length := by rw [HM.out]; exact hlt2
          rw [bvs_get _ _ hjl] at hu
          obtain rfl : bv _ = u := by injection hu
          unfold bv at hcell2
          have hb := byte_lt ((ls[k]'hkl)[j]'hjl)
          obtain ⟨b, hbe⟩ : ∃ b, b = ((ls[k]'hkl)[j]'hjl).toNat := ⟨_, rfl⟩
          rw [← hbe] at hcell2 hb
          obtain ⟨y1, hy1⟩ : ∃ y1, y1 = y ^^^ b := ⟨_, rfl⟩
          obtain ⟨y2, hy2⟩ : ∃ y2, y2 = bits4 y1 := ⟨_, rfl⟩
          obtain ⟨y3, hy3⟩ : ∃ y3, y3 = bits4 y2 := ⟨_, rfl⟩
          have l1 : y1 < 4294967296 := by rw [hy1]; exact xor_lt hy (by omega)
          have l2 : y2 < 4294967296 := by rw [hy2]; exact bits4_lt l1
          have l3 : y3 < 4294967296 := by rw [hy3]; exact bits4_lt l2
          have e0 := xor32 y b hy (by omega)
          rw [← hy1] at e0
          have a1 := low4 y1 l1
          have a2 := low4 y2 l2
          have c1 := ht (y1 % 16) (by omega)
          have c2 := ht (y2 % 16) (by omega)
          have e1 := xor32 (y1 / 16) (bits4 (y1 % 16)) (by omega) (bits4_lt (by omega))
          have e2 := xor32 (y2 / 16) (bits4 (y2 % 16)) (by omega) (bits4_lt (by omega))
          rw [nib_eq, ← hy2] at e1
          rw [nib_eq, ← hy3] at e2
          generalize bits4 (y1 % 16) = t1 at c1 e1
          generalize bits4 (y2 % 16) = t2 at c2 e2
          have HN : Hid (y3 = crc x ((ls[k]'hkl).take (j + 1))) := by
            show y3 = _
            rw [List.take_succ_eq_append_getElem hjl, crc_snoc, ← HY.out, ← hbe, ← hy1, hy3, hy2]
            rfl
          have e1' : bits .xor .u32 ((y1 : Int) / 16) (t1 : Int) = (y2 : Int) := by simpa using e1
          have e2' : bits .xor .u32 ((y2 : Int) / 16) (t2 : Int) = (y3 : Int) := by simpa using e2
          clear e1 e2
          clear hu hbe hy1 hy2 hy3
          go_wp2
          go_round
          case rel => exact ⟨j + 1, y3, by omega, by go_num, rfl, l3, HN⟩
          case measure => simp [intOf]; omega
        · have HF : Hid (y = crc 4294967295 (cat ls (k + 1))) := by
            show y = _
            rw [HC.out, crc_append, ← HX.out, HY.out, List.take_of_length_le (by rw [HM.out]; omega)]
          go_wp2
          go_round
          case rel => exact ⟨k + 1, y, by omega, by go_num, rfl, hy, HF⟩
          case measure => simp [intOf]; omega
    · have HF : Hid (4294967295 - x = sumOf ls.flatten) := by
        show _ = _
        unfold sumOf
        rw [← cat_all ls (k := k) (by omega), ← HX.out]
      have e := not32 x hx
      rw [HF.out] at e
      clear HX
      go_wp2
      go_ret
      exact ⟨rfl, rfl⟩
end Go.Proofs.YtgnilldcfpgpaaaGreatDoor
namespace Go.Proofs.YtgnilldcfpgpaaaGreatDoor
open Go.ChangeShapes Go.WideShapes Go.ChangeAt Go.RowKit
theorem gTab : Tryz.prog.globalNamed "letterbox/octet.remainders" = some 1 := by kernel_rfl
theorem gTabType : (Tryz.prog.globals[1]?).map (·.type) = some 298 := by kernel_rfl
theorem cellsTab : Tryz.prog.cellsOf 298 = 16 := by kernel_rfl
theorem cellsWord : Tryz.prog.cellsOf 231 = 1 := by kernel_rfl
def tabNums : List Int := [0, 498536548, 997073096, 651767980, 1994146192, 1802195444, 1303535960, 1342533948, 3988292384, 4027552580, 3604390888, 3412177804, 2607071920, 2262029012, 2685067896, 3183342108]
theorem gNam : Tryz.prog.globalNamed "letterbox/store.named" = some 0 := by kernel_rfl
theorem gNamType : (Tryz.prog.globals[0]?).map (·.type) = some 196 := by kernel_rfl
theorem cellsNam : Tryz.prog.cellsOf 196 = 9 := by kernel_rfl
theorem cellsOne : Tryz.prog.cellsOf 3 = 1 := by kernel_rfl
def namNums : List Int := [0, 1, 2, 2, 6, 226, 58, 10, 14]
structure LaidS (W : World) : Prop where
  t : Tab W
  n : TabN W
  r : 1 < W.heap.size
  p : 0 < W.heap.size
theorem laid_of {W : World} (h : laidMetH Tryz.prog Rows.storeOfNothingRow.laid W) : LaidS W := by
  have ht : Lib.TabIs Tryz.prog W "letterbox/octet.remainders" .u32 tabNums :=
    Lib.tabIs_of_head gTab gTabType Tryz.underlying298 Tryz.underlying231 cellsWord cellsTab h
  have hn : Lib.TabIs Tryz.prog W "letterbox/store.named" .i64 namNums := by
    have h' : laidMet Tryz.prog [("letterbox/octet.remainders", Lib.tabData .u32 tabNums), ("letterbox/store.named", Lib.tabData .i64 namNums)] W := h
    obtain ⟨ps, ⟨_, _, _, _, _, _, _, _, _, _, h2, _⟩, _⟩ := h'
    obtain ⟨g', t', cs, fuel, p, q, hg', ht', hvar, hd, _, _⟩ := h2
    obtain rfl := Option.some.inj (gNam.symm.trans hg')
    obtain rfl := Option.some.inj (gNamType.symm.trans ht')
    unfold Lib.TabIs
    rw [hvar, ← Lib.cells_of_tab Tryz.underlying196 Tryz.underlying3 cellsOne cellsNam hd]
  have c0 := ht.cell gTab 0 (by simp [tabNums])
  have n0 := hn.cell gNam 0 (by simp [namNums])
  refine ⟨fun i hi => ?_, fun i hi => ?_, block_lt_of_cell c0, block_lt_of_cell n0⟩
  · have hb : ∀ i, i < 16 → tabNums[i]? = some ((bits4 i : Nat) : Int) := by decide +kernel
    rw [ht.cell gTab i (by simpa [tabNums] using hi), List.getD_eq_getElem?_getD, hb i hi]
    rfl
  · have hb : ∀ i, i < 9 → namNums[i]? = some ((nmd i : Nat) : Int) := by decide +kernel
    rw [hn.cell gNam i (by simpa [namNums] using hi), List.getD_eq_getElem?_getD, hb i hi]
    rfl
theorem fact_laid : laidOutB Tryz.checked.prog = true := by kernel_rfl
theorem fact_rowed : mapsRowed Tryz.checked.prog = true := by kernel_rfl
theorem fact_stops : (Tryz.checked.prog.stops == []) = true := by kernel_rfl
theorem fact_knobs : (Tryz.checked.prog.stopKnobs == []) = true := by kernel_rfl
theorem fact_heard : Tryz.checked.prog.stopsHeard = true := by kernel_rfl
theorem fact_enter : Tryz.checked.prog.mayEnter = true := by kernel_rfl
theorem closed_gen {P : Program} {f : FuncId} {fn : Func} {s : ChangeSpec} {c : OpenClaim}
    (a0 : (c.wf (OpenSpec.ofChange s)) = true) (a1 : (laidOutB P) = true) (a2 : (mapsRowed P) = true) (a3 : (fn.params.all (P.readableRec ·)) = true) (a4 : (namedTie P c.named s.vars) = true) (a5 : ((c.stops == [])) = true) (a6 : ((P.stops == [])) = true) (a7 : ((c.knobs == [])) = true) (a8 : ((P.stopKnobs == [])) = true) (a9 : ((c.inPlace == P.inPlace f)) = true) (a10 : ((c.unfollowed == P.unfollowed f)) = true) (a11 : ((c.recurses == P.recurses f)) = true) (a12 : ((c.named == P.varsNamed f)) = true) (a13 : ((c.maps == (fn.params.toList ++ s.plain.varTypes P).any (P.mapsRec ·))) = true) (a14 : ((c.ifaces == (fn.params.toList ++ s.plain.varTypes P).any (P.ifacesRec ·))) = true) (a15 : ((c.mapsOut == P.mapsAmong fn.resultTypes.toList)) = true) (a16 : ((c.loops == (fn.params.toList ++ s.plain.varTypes P).any (P.loopsFrom ·))) = true) (a17 : ((c.wideKeys == (fn.params.toList ++ s.plain.varTypes P ++ fn.resultTypes.toList).any (P.wideKeysFrom ·))) = true) (a18 : (s.vars.all (P.varReadable ·)) = true) (a19 : (fn.resultTypes.all (fun t => P.readableRec t && decide (t < P.types.size))) = true) (a20 : ((c.ifacesOut == fn.resultTypes.toList.any (P.ifacesRec ·))) = true) (a21 : ((c.loopsOut == fn.resultTypes.toList.any (P.loopsFrom ·))) = true) (a22 : ((c.plainKeys == P.plainKeys)) = true) (a23 : (c.shortTexts.isNone) = true) (a24 : (P.stopsHeard) = true) (a25 : (P.mayEnter) = true) (a26 : ((c.lifted == P.liftsFinal)) = true) (a27 : ((P.make == some c.make)) = true) (a28 : ((c.kinds == (if c.domain.isEmpty then [] else fn.params.toList.map fun t => match P.underlying t with | some (.int k) => some k | _ => none))) = true) (a29 : ((c.pinned == c.pinnedBy)) = true) (a30 : ((c.veiled == (fn.params.toList ++ s.plain.varTypes P ++ fn.resultTypes.toList).any (P.veiledRec ·))) = true) (a31 : (c.veiledFits P fn.params.toList (fn.params.toList ++ s.plain.varTypes P ++ fn.resultTypes.toList)) = true) : joinedFacts P f fn s c = true := by
  unfold joinedFacts
  simp only [Bool.and_eq_true]
  exact ⟨⟨⟨⟨⟨⟨⟨⟨⟨⟨⟨⟨⟨⟨⟨⟨⟨⟨⟨⟨⟨⟨⟨⟨⟨⟨⟨⟨⟨⟨⟨a0, a1⟩, a2⟩, a3⟩, a4⟩, a5⟩, a6⟩, a7⟩, a8⟩, a9⟩, a10⟩, a11⟩, a12⟩, a13⟩, a14⟩, a15⟩, a16⟩, a17⟩, a18⟩, a19⟩, a20⟩, a21⟩, a22⟩, a23⟩, a24⟩, a25⟩, a26⟩, a27⟩, a28⟩, a29⟩, a30⟩, a31⟩
end Go.Proofs.YtgnilldcfpgpaaaGreatDoor
namespace Go.Proofs.YtgnilldcfpgpaaaGreatDoor
open Go.RowKit Go.Maps
def keyLit (s : ByteArray) : Lit := .string s.data.toList
theorem keyed : Keyed Tryz.prog 9 := string_keyed Tryz.underlying9
theorem key_of (s : ByteArray) (h : s.size ≤ maxLen) : keyOf Tryz.prog 9 (.string s) = some (keyLit s) := WideMaps.keyOf_string_mk Tryz.underlying9 h
theorem same_key (a b : ByteArray) : (keyLit a).sameKey (keyLit b) = decide (a = b) := by
  rw [Bool.eq_iff_iff]
  simp only [keyLit, Lit.sameKey, beq_iff_eq, decide_eq_true_iff]
  exact ⟨name_ext, fun h => by rw [h]⟩
theorem before_key (a b : ByteArray) : (keyLit a).before (keyLit b) = bef a b := by rw [bef_eq]; rfl
section
variable {w w' : World} {m : Nat}
theorem Only.of_turned (h : w.mapTurned w' m) : Only [m] w w' := by
  have := Only.of_grown h.grown
  simpa using this
end
end Go.Proofs.YtgnilldcfpgpaaaGreatDoor
namespace Go.Proofs.YtgnilldcfpgpaaaGreatDoor
open Go.RowKit Go.Maps
def heldP (p : Value → Bool) (v : Value) : Option (DataW Value × List MemPlace) := if p v = true then some (.held v, []) else none
theorem heldP_mk {p : Value → Bool} {v : Value} (h : p v = true) : heldP p v = some (.held v, []) := by unfold heldP; rw [if_pos h]
theorem heldP_inv {p : Value → Bool} {v : Value} {y : DataW Value × List MemPlace} (h : heldP p v = some y) : p v = true ∧ y = (.held v, []) := by
  unfold heldP at h
  split at h
  · rename_i hc
    exact ⟨hc, by injection h with h; exact h.symm⟩
  · cases h
abbrev Kv := ByteArray × Value
def entK (p : Kv) : Lit × DataW Value := (keyLit p.1, .held p.2)
def DK (l : List Kv) : DataW Value := .map (l.map entK)
theorem fst_ent (s : ByteArray) : ((fun p : Lit × DataW Value => p.1.sameKey (keyLit s)) ∘ entK) = fun p : Kv => decide (p.1 = s) := by
  funext p
  exact same_key _ _
theorem atKey_DK (l : List Kv) (s : ByteArray) (z : DataW Value) : (DK l).atKey (keyLit s) z = match findL Prod.fst l s with | some p => .held p.2 | none => z := by
  unfold DK DataW.atKey findL
  simp only []
  rw [List.find?_map, fst_ent]
  cases List.find? (fun p : Kv => decide (p.1 = s)) l <;> rfl
theorem has_DK (l : List Kv) (s : ByteArray) : Maps.has (DK l) (keyLit s) = (findL Prod.fst l s).isSome := by
  unfold DK Maps.has findL
  simp only []
  rw [List.any_map, fst_ent, Bool.eq_iff_iff, List.find?_isSome, List.any_eq_true]
theorem size_DK (l : List Kv) : Maps.size (DK l) = l.length := by simp [DK, Maps.size]
theorem del_DK (l : List Kv) (s : ByteArray) : (DK l).del (keyLit s) = DK (delL Prod.fst l s) := by
  show DataW.map ((l.map entK).filter fun p => !p.1.sameKey (keyLit s)) = DataW.map ((delL Prod.fst l s).map entK)
  rw [List.filter_map]
  unfold delL
  congr 2
  congr 1
  funext p
  show (!(keyLit p.1).sameKey (keyLit s)) = _
  rw [same_key]
theorem insert_DK (x : Kv) : ∀ l : List Kv, DataW.insert (entK x) (l.map entK) = (insL Prod.fst x l).map entK
  | [] => rfl
  | g :: r => by
    unfold insL
    simp only [List.map_cons]
    unfold DataW.insert
    have : (entK x).1.before (entK g).1 = bef x.1 g.1 := before_key _ _
    rw [this]
    split
    · rfl
    · rw [List.map_cons, insert_DK x r]
theorem put_DK (x : Kv) (l : List Kv) : (DK l).put (keyLit x.1) (.held x.2) = DK (putL Prod.fst x l) := by
  show DataW.map (DataW.insert (entK x) ((l.map entK).filter fun p => !p.1.sameKey (keyLit x.1))) = _
  have hf : ((l.map entK).filter fun p => !p.1.sameKey (keyLit x.1)) = (delL Prod.fst l x.1).map entK := by
    rw [List.filter_map]
    unfold delL
    congr 1
    congr 1
    funext p
    show (!(keyLit p.1).sameKey (keyLit x.1)) = _
    rw [same_key]
  rw [hf]
  exact congrArg DataW.map (insert_DK x _)
def KvAt (n : Value → Bool) (w : World) (m : Nat) (l : List Kv) : Prop := w.ownsMap Tryz.prog 9 (heldP n) m l.length (DK l)
def KvIs (n : Value → Bool) (w : World) (mb : Option Nat) (l : List Kv) : Prop :=
  match mb with
  | none => l = []
  | some m => KvAt n w m l
section
variable {n : Value → Bool} {w w' : World} {m : Nat} {mb : Option Nat} {l : List Kv} {s : ByteArray} {rs : List Nat}
theorem KvAt.only (h : KvAt n w m l) (o : Only rs w w') (hn : m ∉ rs) : KvAt n w' m l := by
  have hlt := World.ownsMap.lt h
  obtain ⟨es, clock, hb, r⟩ := h
  exact ⟨es, clock, (o.block m hlt hn).trans hb, r⟩
theorem KvIs.only (h : KvIs n w mb l) (o : Only rs w w') (hn : ∀ m, mb = some m → m ∉ rs) : KvIs n w' mb l := by
  cases mb with
  | none => exact h
  | some m => exact KvAt.only h o (hn m rfl)
theorem KvIs.keep (h : KvIs n w mb l) (o : Only [] w w') : KvIs n w' mb l := h.only o fun _ _ hm => nomatch hm
theorem KvAt.lt (h : KvAt n w m l) : m < w.heap.size := World.ownsMap.lt h
theorem KvIs.lt (h : KvIs n w mb l) : ∀ m, mb = some m → m < w.heap.size := by
  rintro m rfl
  exact KvAt.lt h
theorem KvAt.of {k : Nat} (h : w.ownsMap Tryz.prog 9 (heldP n) m k (DK l)) : KvAt n w m l := by
  obtain ⟨es, clock, hb, F, _, hD⟩ := h
  refine ⟨es, clock, hb, F, ?_, hD⟩
  rw [← size_DK l, hD]
  simp [Maps.size, length_sorted]
def valK (z : Array Value) (l : List Kv) (s : ByteArray) : Value := match findL Prod.fst l s with
  | some p => p.2
  | none => .agg z
theorem look_kv (c : Bool) {t e : TypeId} (ht : Tryz.prog.underlying t = some (.map 9 e)) {z : Array Value} (hz : (zeroValue e).run Tryz.prog w = .ok (.agg z) w) (hzn : n (.agg z) = true) (h : KvIs n w mb l) (hs : s.size ≤ maxLen) :
    (Instr.lookup t (.map mb) (.string s) c).run Tryz.prog w = .ok (if c then .tuple #[valK z l s, .bool (findL Prod.fst l s).isSome] else valK z l s) w := by
  have hk := key_of s hs
  have hzd := heldP_mk hzn
  have hv : ∀ (v : Value) (ps : List MemPlace), heldP n v = some ((DK l).atKey (keyLit s) (.held (.agg z)), ps) → v = valK z l s := fun v ps hv => by
    obtain ⟨_, e2⟩ := heldP_inv hv
    rw [atKey_DK] at e2
    have e3 := congrArg Prod.fst e2
    clear e2 hv
    dsimp only at e3
    unfold valK
    revert e3
    cases findL Prod.fst l s with
    | none => exact fun e => (DataW.held.inj e).symm
    | some p => exact fun e => (DataW.held.inj e).symm
  cases mb with
  | none =>
    have hl : l = [] := h
    subst hl
    rw [Maps.look_nil c keyed ht hz hk]
    have e : findL Prod.fst ([] : List Kv) s = none := rfl
    have e2 : valK z [] s = .agg z := by unfold valK; rw [e]
    rw [e, e2]
    simp
  | some m =>
    cases c with
    | true =>
      obtain ⟨v, ps, hr, hv'⟩ := World.ownsMap.look_ok h keyed ht hz hzd hk
      rw [hr, hv v ps hv', has_DK]
      rfl
    | false =>
      obtain ⟨v, ps, hr, hv'⟩ := World.ownsMap.lookup h keyed ht hz hzd hk
      rw [hr, hv v ps hv']
      rfl
theorem len_kv {t e : TypeId} (ht : Tryz.prog.underlying t = some (.map 9 e)) (h : KvIs n w mb l) (ty : TypeId) : (Builtin.len_ #[t] ty #[.map mb]).run Tryz.prog w = .ok (.int .i64 (l.length : Int)) w := by
  cases mb with
  | none =>
    have hl : l = [] := h
    subst hl
    exact Maps.len_nil ht ty
  | some m =>
    have := World.ownsMap.len h ht ty
    rw [this, size_DK]
end
end Go.Proofs.YtgnilldcfpgpaaaGreatDoor
namespace Go.Proofs
open Go.Shelf
def Tryz.laysM316_ren : Go.Shelf.Ren := ⟨fun | 316 => 250 | n => n, fun | 9 => 9 | 3 => 3 | 4 => 4 | 37 => 27 | 0 => 0 | 127 => 305 | 5 => 5 | n => n, fun | n => n⟩
theorem Tryz.laysM316 : Go.Proofs.LaysM.n316 Tryz.prog Tryz.laysM316_ren := {
  mixed := by kernel_rfl
  f316 := Tryz.func250.trans (congrArg some (by kernel_rfl))
  t0 := Tryz.underlying0
  a0 := Tryz.isAgg0
  z0 := Tryz.sizeOf0
  v0 := Tryz.zeroValue0
  t3 := Tryz.underlying3
  a3 := Tryz.isAgg3
  z3 := Tryz.sizeOf3
  v3 := Tryz.zeroValue3
  t4 := Tryz.underlying4
  a4 := Tryz.isAgg4
  z4 := Tryz.sizeOf4
  v4 := Tryz.zeroValue4
  t9 := Tryz.underlying9
  a9 := Tryz.isAgg9
  z9 := Tryz.sizeOf9
  v9 := Tryz.zeroValue9
  t37 := Tryz.underlying27
  a37 := Tryz.isAgg27
  z37 := Tryz.sizeOf27
  v37 := Tryz.zeroValue27
  t127 := Tryz.underlying305
  a127 := Tryz.isAgg305
  z127 := Tryz.sizeOf305
  v127 := Tryz.zeroValue305
  t5 := Tryz.underlying5
  a5 := Tryz.isAgg5
  z5 := Tryz.sizeOf5
  v5 := Tryz.zeroValue5
  i0 := by kernel_rfl
  i3 := by kernel_rfl
  i4 := by kernel_rfl
  i5 := by kernel_rfl
  i9 := by kernel_rfl
  i37 := by kernel_rfl
  i127 := by kernel_rfl }
open Go.RowKit in
theorem Tryz.stringslite_Clone (s : ByteArray) (w : World) (hlim : s.size ≤ 281474976710656) :
    Calls Tryz.prog 250 #[.string s] w fun e w' => e = .returned (.string s) ∧ Below w.heap.size w w' := Any.stringslite_Clone Tryz.laysM316 s w hlim
end Go.Proofs
namespace Go.Proofs.YtgnilldcfpgpaaaGreatDoor
open Go.RowKit Go.Maps
structure Fc where
  f : Fl
  blk : Nat
  A : Option Addr
  cap : Nat
def ptrElem (v : Value) : Option (DataW Unit × List MemPlace) :=
  match v with
  | .pointer none => some (.nil, [])
  | .pointer (some ⟨b, 0, none⟩) => some (.lit (.int .i64 b), [])
  | _ => none
theorem ptrElem_nil : ptrElem (.pointer none) = some (.nil, []) := rfl
theorem ptrElem_some (b : Nat) : ptrElem (.pointer (some ⟨b, 0, none⟩)) = some (.lit (.int .i64 b), []) := rfl
theorem ptrElem_nil_inv {v : Value} {ps : List MemPlace} (h : ptrElem v = some (.nil, ps)) : v = .pointer none := by
  unfold ptrElem at h
  split at h <;> simp_all
theorem ptrElem_some_inv {v : Value} {ps : List MemPlace} {b : Nat} (h : ptrElem v = some (.lit (.int .i64 b), ps)) : v = .pointer (some ⟨b, 0, none⟩) := by
  unfold ptrElem at h
  split at h
  · simp at h
  · rename_i b'
    simp only [Option.some.injEq, Prod.mk.injEq, DataW.lit.injEq, Lit.int.injEq, true_and] at h
    have : b' = b := by omega
    rw [this]
  · cases h
def ent (c : Fc) : Lit × DataW Unit := (keyLit c.f.name, .lit (.int .i64 c.blk))
def Dm (cs : List Fc) : DataW Unit := .map (cs.map ent)
def findC (cs : List Fc) (s : ByteArray) : Option Fc := cs.find? fun c => decide (c.f.name = s)
def delC (cs : List Fc) (s : ByteArray) : List Fc := cs.filter fun c => !decide (c.f.name = s)
def insC (c : Fc) : List Fc → List Fc
  | [] => [c]
  | g :: r => if bef c.f.name g.f.name then c :: g :: r else g :: insC c r
theorem map_findC (cs : List Fc) (s : ByteArray) : (findC cs s).map (·.f) = get (cs.map (·.f)) s := by
  unfold findC get
  rw [List.find?_map]
  rfl
theorem map_delC (cs : List Fc) (s : ByteArray) : (delC cs s).map (·.f) = del (cs.map (·.f)) s := by
  unfold delC del
  rw [List.filter_map]
  rfl
theorem map_insC (c : Fc) : ∀ cs : List Fc, (insC c cs).map (·.f) = ins c.f (cs.map (·.f))
  | [] => rfl
  | g :: r => by
    unfold insC ins
    simp only [List.map_cons]
    split
    · rfl
    · rw [List.map_cons, map_insC c r]
theorem findC_some {cs : List Fc} {s : ByteArray} {c : Fc} (h : findC cs s = some c) : c ∈ cs ∧ c.f.name = s := ⟨List.mem_of_find?_eq_some h, by have := List.find?_some h; simpa using this⟩
theorem findC_none {cs : List Fc} {s : ByteArray} : findC cs s = none ↔ ∀ c ∈ cs, c.f.name ≠ s := by unfold findC; simp
theorem atKey_dm (cs : List Fc) (s : ByteArray) (z : DataW Unit) : (Dm cs).atKey (keyLit s) z = match findC cs s with | some c => .lit (.int .i64 c.blk) | none => z := by
  unfold Dm DataW.atKey findC
  simp only []
  rw [List.find?_map]
  have : ((fun p : Lit × DataW Unit => p.1.sameKey (keyLit s)) ∘ ent) = fun c : Fc => decide (c.f.name = s) := by
    funext c
    exact same_key _ _
  rw [this]
  cases List.find? (fun c : Fc => decide (c.f.name = s)) cs <;> rfl
theorem size_dm (cs : List Fc) : Maps.size (Dm cs) = cs.length := by simp [Dm, Maps.size]
theorem del_dm (cs : List Fc) (s : ByteArray) : (Dm cs).del (keyLit s) = Dm (delC cs s) := by
  show DataW.map ((cs.map ent).filter fun p => !p.1.sameKey (keyLit s)) = DataW.map ((delC cs s).map ent)
  rw [List.filter_map]
  unfold delC
  congr 2
  congr 1
  funext c
  show (!(keyLit c.f.name).sameKey (keyLit s)) = _
  rw [same_key]
theorem insert_dm (c : Fc) : ∀ cs : List Fc, DataW.insert (ent c) (cs.map ent) = (insC c cs).map ent
  | [] => rfl
  | g :: r => by
    unfold insC
    simp only [List.map_cons]
    unfold DataW.insert
    have : (ent c).1.before (ent g).1 = bef c.f.name g.f.name := before_key _ _
    rw [this]
    split
    · rfl
    · rw [List.map_cons, insert_dm c r]
theorem put_dm (c : Fc) (cs : List Fc) (h : findC cs c.f.name = none) : (Dm cs).put (keyLit c.f.name) (.lit (.int .i64 c.blk)) = Dm (insC c cs) := by
  show DataW.map (DataW.insert (keyLit c.f.name, .lit (.int .i64 c.blk)) ((cs.map ent).filter fun p => !p.1.sameKey (keyLit c.f.name))) = _
  have hf : ((cs.map ent).filter fun p => !p.1.sameKey (keyLit c.f.name)) = cs.map ent := by
    rw [List.filter_eq_self]
    intro p hp
    obtain ⟨x, hx, rfl⟩ := List.mem_map.1 hp
    have hn := findC_none.1 h x hx
    show (!(keyLit x.f.name).sameKey (keyLit c.f.name)) = true
    rw [same_key]
    simp [hn]
  rw [hf]
  exact congrArg DataW.map (insert_dm c cs)
theorem mem_insC {c g : Fc} : ∀ {cs : List Fc}, g ∈ insC c cs ↔ g = c ∨ g ∈ cs
  | [] => by simp [insC]
  | h :: r => by
    unfold insC
    split
    · simp
    · simp only [List.mem_cons, mem_insC (cs := r)]
      constructor
      · rintro (h | h | h)
        · exact .inr (.inl h)
        · exact .inl h
        · exact .inr (.inr h)
      · rintro (h | h | h)
        · exact .inr (.inl h)
        · exact .inl h
        · exact .inr (.inr h)
theorem perm_insC (c : Fc) : ∀ cs : List Fc, (insC c cs).Perm (c :: cs)
  | [] => List.Perm.refl _
  | g :: r => by
    unfold insC
    split
    · exact List.Perm.refl _
    · exact ((perm_insC c r).cons g).trans (List.Perm.swap _ _ _)
section
variable {w w' : World} {m n : Nat} {D : DataW Unit} {R : Value → Option (DataW Unit × List MemPlace)} {P : Program} {k : TypeId} {rs : List Nat}
theorem map_only (h : w.ownsMap P k R m n D) (o : Only rs w w') (hn : m ∉ rs) : w'.ownsMap P k R m n D := by
  have hlt := h.lt
  obtain ⟨es, clock, hb, r⟩ := h
  exact ⟨es, clock, (o.block m hlt hn).trans hb, r⟩
theorem map_tight (h : w.ownsMap P k R m n D) : w.ownsMap P k R m (Maps.size D) D := by
  obtain ⟨es, clock, hb, F, _, hD⟩ := h
  refine ⟨es, clock, hb, F, ?_, hD⟩
  rw [hD]
  simp [Maps.size, length_sorted]
theorem map_ne {g : Nat} {t : TypeId} {cs : Array Value} (h : w.ownsMap P k R m n D) (hg : Bk w g t cs) : m ≠ g := by
  rintro rfl
  obtain ⟨es, clock, hb, _⟩ := h
  unfold Bk at hg
  rw [hb] at hg
  cases hg
theorem map_own {t : TypeId} {A : Option Addr} {j c : Nat} {xs : List Value} (h : w.ownsMap P k R m n D) (hg : Own w t A j c xs) : m ∉ blks A := by
  intro hm
  obtain ⟨cur, hc⟩ := hg.bk hm
  exact map_ne h hc rfl
end
def MapIs (w : World) (mb : Option Nat) (cs : List Fc) : Prop :=
  match mb with
  | none => cs = []
  | some m => w.ownsMap Tryz.prog 9 ptrElem m cs.length (Dm cs)
def FileIs (w : World) (c : Fc) : Prop :=
  Bk w c.blk 118 #[.slice c.A c.f.data.length c.cap, .int .i64 c.f.lasts] ∧ Own w 5 c.A c.f.data.length c.cap (bvs c.f.data)
structure Dk (w : World) (d room u : Nat) (fz : Bool) (lf : Nat) (mb : Option Nat) (cs : List Fc) : Prop where
  bk : Bk w d 112 #[.int .i64 room, .int .i64 u, .map mb, .bool fz, .int .i64 lf]
  map : MapIs w mb cs
  file : ∀ c ∈ cs, FileIs w c
  good : Good (cs.map (·.f))
  nb : (cs.map (·.blk)).Nodup
  na : (cs.flatMap fun c => blks c.A).Nodup
  room' : room ≤ 1073741824
  u' : u ≤ 1073741824
  lf' : lf ≤ 9223372036854775807
  big : ∀ c ∈ cs, c.f.data.length ≤ 1073741824
def fpt (d : Nat) (mb : Option Nat) (cs : List Fc) : List Nat := d :: (mb.toList ++ (cs.map (·.blk) ++ cs.flatMap fun c => blks c.A))
section
variable {w w' w1 : World} {d room u lf : Nat} {fz : Bool} {mb : Option Nat} {cs p q : List Fc} {c : Fc} {rs : List Nat}
theorem mem_fpt {x : Nat} : x ∈ fpt d mb cs ↔ x = d ∨ mb = some x ∨ (∃ c ∈ cs, x = c.blk) ∨ ∃ c ∈ cs, x ∈ blks c.A := by
  unfold fpt
  simp only [List.mem_cons, List.mem_append, Option.mem_toList, List.mem_map, List.mem_flatMap]
  constructor
  · rintro (h | h | ⟨c, h, e⟩ | h)
    · exact .inl h
    · exact .inr (.inl h)
    · exact .inr (.inr (.inl ⟨c, h, e.symm⟩))
    · exact .inr (.inr (.inr h))
  · rintro (h | h | ⟨c, h, e⟩ | h)
    · exact .inl h
    · exact .inr (.inl h)
    · exact .inr (.inr (.inl ⟨c, h, e.symm⟩))
    · exact .inr (.inr (.inr h))
theorem FileIs.only (h : FileIs w c) (o : Only rs w w') (h1 : c.blk ∉ rs) (h2 : ∀ x ∈ blks c.A, x ∉ rs) : FileIs w' c := ⟨h.1.only o h1, h.2.only o h2⟩
theorem MapIs.only (h : MapIs w mb cs) (o : Only rs w w') (h1 : ∀ m, mb = some m → m ∉ rs) : MapIs w' mb cs := by
  cases mb with
  | none => exact h
  | some m => exact map_only h o (h1 m rfl)
theorem Dk.only (h : Dk w d room u fz lf mb cs) (o : Only rs w w') (hd : ∀ x ∈ fpt d mb cs, x ∉ rs) : Dk w' d room u fz lf mb cs :=
  { h with
    bk := h.bk.only o (hd _ (mem_fpt.2 (.inl rfl)))
    map := h.map.only o fun _ e => hd _ (mem_fpt.2 (.inr (.inl e)))
    file := fun c hc => (h.file c hc).only o (hd _ (mem_fpt.2 (.inr (.inr (.inl ⟨c, hc, rfl⟩))))) fun _ hx => hd _ (mem_fpt.2 (.inr (.inr (.inr ⟨c, hc, hx⟩)))) }
theorem Dk.keep (h : Dk w d room u fz lf mb cs) (o : Only [] w w') : Dk w' d room u fz lf mb cs := h.only o fun _ _ hm => by cases hm
theorem Dk.lt (h : Dk w d room u fz lf mb cs) {x : Nat} (hx : x ∈ fpt d mb cs) : x < w.heap.size := by
  rcases mem_fpt.1 hx with rfl | rfl | ⟨c, hc, rfl⟩ | ⟨c, hc, hx⟩
  · exact h.bk.lt
  · exact World.ownsMap.lt h.map
  · exact (h.file c hc).1.lt
  · exact (h.file c hc).2.lt hx
theorem Dk.d_blk (h : Dk w d room u fz lf mb cs) (hc : c ∈ cs) : c.blk ≠ d := (h.file c hc).1.ne h.bk (by decide)
theorem Dk.d_row (h : Dk w d room u fz lf mb cs) (hc : c ∈ cs) : d ∉ blks c.A := (h.file c hc).2.ne h.bk (by decide)
theorem Dk.d_map (h : Dk w d room u fz lf mb cs) {m : Nat} (e : mb = some m) : m ≠ d := by subst e; exact map_ne h.map h.bk
theorem Dk.m_blk (h : Dk w d room u fz lf mb cs) {m : Nat} (e : mb = some m) (hc : c ∈ cs) : c.blk ≠ m := by subst e; exact (map_ne h.map (h.file c hc).1).symm
theorem Dk.m_row (h : Dk w d room u fz lf mb cs) {m : Nat} (e : mb = some m) (hc : c ∈ cs) : m ∉ blks c.A := by subst e; exact map_own h.map (h.file c hc).2
theorem Dk.blk_row (h : Dk w d room u fz lf mb cs) {c' : Fc} (hc : c ∈ cs) (hc' : c' ∈ cs) : c.blk ∉ blks c'.A := (h.file c' hc').2.ne (h.file c hc).1 (by decide)
theorem Dk.cell (h : Dk w d room u fz lf mb cs) : w.cell? ⟨d, 0, none⟩ = some (.int .i64 room) ∧ w.cell? ⟨d, 1, none⟩ = some (.int .i64 u) ∧ w.cell? ⟨d, 2, none⟩ = some (.map mb) ∧ w.cell? ⟨d, 3, none⟩ = some (.bool fz) ∧ w.cell? ⟨d, 4, none⟩ = some (.int .i64 lf) :=
  ⟨h.bk.cell 0, h.bk.cell 1, h.bk.cell 2, h.bk.cell 3, h.bk.cell 4⟩
theorem Dk.fcell (h : Dk w d room u fz lf mb cs) (hc : c ∈ cs) : w.cell? ⟨c.blk, 0, none⟩ = some (.slice c.A c.f.data.length c.cap) ∧ w.cell? ⟨c.blk, 1, none⟩ = some (.int .i64 c.f.lasts) := ⟨(h.file c hc).1.cell 0, (h.file c hc).1.cell 1⟩
theorem Dk.lasts (h : Dk w d room u fz lf mb cs) (hc : c ∈ cs) : c.f.lasts ≤ c.f.data.length := h.good.lasts _ (List.mem_map_of_mem hc)
theorem Dk.setD (h : Dk w d room u fz lf mb cs) (i : Nat) (v : Value) {room' u' lf' : Nat} {fz' : Bool} {mb' : Option Nat}
    (hs : (#[.int .i64 room, .int .i64 u, .map mb, .bool fz, .int .i64 lf] : Array Value).setIfInBounds i v = #[.int .i64 room', .int .i64 u', .map mb', .bool fz', .int .i64 lf'])
    (hm : MapIs w mb' cs) (h1 : room' ≤ 1073741824) (h2 : u' ≤ 1073741824) (h3 : lf' ≤ 9223372036854775807) : Dk (w.setCell ⟨d, i, none⟩ v) d room' u' fz' lf' mb' cs := by
  have o : Only [d] w (w.setCell ⟨d, i, none⟩ v) := (Only.refl _ _).setCell (.inl (by simp)) v
  refine { h with bk := by have := h.bk.set i v; rwa [hs] at this, map := hm.only o fun m e hx => ?_, file := fun c hc => (h.file c hc).only o (by simpa using h.d_blk hc) fun x hx hm => ?_, room' := h1, u' := h2, lf' := h3 }
  · simp only [List.mem_singleton] at hx
    subst hx e
    exact map_ne hm h.bk rfl
  · simp only [List.mem_singleton] at hm
    subst hm
    exact h.d_row hc hx
theorem Dk.setUsed (h : Dk w d room u fz lf mb cs) (u' : Nat) (h2 : u' ≤ 1073741824) : Dk (w.setCell ⟨d, 1, none⟩ (.int .i64 u')) d room u' fz lf mb cs :=
  h.setD 1 _ rfl h.map h.room' h2 h.lf'
theorem Dk.setFused (h : Dk w d room u fz lf mb cs) (b : Bool) : Dk (w.setCell ⟨d, 3, none⟩ (.bool b)) d room u b lf mb cs :=
  h.setD 3 _ rfl h.map h.room' h.u' h.lf'
theorem Dk.setLeft (h : Dk w d room u fz lf mb cs) (k : Nat) (h2 : k ≤ 9223372036854775807) : Dk (w.setCell ⟨d, 4, none⟩ (.int .i64 k)) d room u fz k mb cs :=
  h.setD 4 _ rfl h.map h.room' h.u' h2
theorem good_swap (h : Good ((p ++ c :: q).map (·.f))) {g : Fl} (hn : g.name = c.f.name) (hl : g.lasts ≤ g.data.length) : Good ((p.map (·.f)) ++ g :: q.map (·.f)) := by
  rw [List.map_append, List.map_cons] at h
  refine ⟨?_, by have := h.len; simpa using this, fun f hf => ?_, fun f hf => ?_⟩
  · have hr := h.rise
    rw [List.pairwise_append, List.pairwise_cons] at hr ⊢
    obtain ⟨h1, ⟨h2, h3⟩, h4⟩ := hr
    refine ⟨h1, ⟨fun x hx => by rw [hn]; exact h2 x hx, h3⟩, fun x hx y hy => ?_⟩
    rcases List.mem_cons.1 hy with rfl | hy
    · rw [hn]; exact h4 x hx _ (by simp)
    · exact h4 x hx y (by simp [hy])
  · rcases List.mem_append.1 hf with hf | hf
    · exact h.names f (by simp [hf])
    · rcases List.mem_cons.1 hf with rfl | hf
      · rw [hn]; exact h.names c.f (by simp)
      · exact h.names f (by simp [hf])
  · rcases List.mem_append.1 hf with hf | hf
    · exact h.lasts f (by simp [hf])
    · rcases List.mem_cons.1 hf with rfl | hf
      · exact hl
      · exact h.lasts f (by simp [hf])
theorem flatMap_sub {α β : Type} {l l' : List α} (h : l.Sublist l') (g : α → List β) : (l.flatMap g).Sublist (l'.flatMap g) := by
  induction h with
  | slnil => exact List.Sublist.refl _
  | cons a _ ih => rw [List.flatMap_cons]; exact ih.trans (List.sublist_append_right _ _)
  | cons_cons a _ ih => rw [List.flatMap_cons, List.flatMap_cons]; exact List.Sublist.append (List.Sublist.refl _) ih
theorem nodup_mid {α : Type} {a b m m' : List α} (h : (a ++ (m ++ b)).Nodup) (h' : m'.Nodup) (hn : ∀ x ∈ m', x ∈ m ∨ (x ∉ a ∧ x ∉ b)) : (a ++ (m' ++ b)).Nodup := by
  rw [List.nodup_append, List.nodup_append] at *
  obtain ⟨h1, ⟨h2, h3, h4⟩, h5⟩ := h
  refine ⟨h1, ⟨h', h3, fun x hx y hy e => ?_⟩, fun x hx y hy e => ?_⟩
  · subst e
    rcases hn x hx with h | h
    · exact h4 x h x hy rfl
    · exact h.2 hy
  · subst e
    rcases List.mem_append.1 hy with hy | hy
    · rcases hn x hy with h | h
      · exact h5 x hx x (by simp [h]) rfl
      · exact h.1 hx
    · exact h5 x hx x (by simp [hy]) rfl
theorem Own.nodup {w : World} {t : TypeId} {A : Option Addr} {n c : Nat} {xs : List Value} (_ : Own w t A n c xs) : (blks A).Nodup := by cases A <;> simp
theorem Dk.setData (h : Dk w d room u fz lf mb (p ++ c :: q)) (o : Only (blks c.A) w w1) {A' : Option Addr} {cap' : Nat} {data' : List UInt8} (hv : Own w1 5 A' data'.length cap' (bvs data'))
    (hb : ∀ x ∈ blks A', x ∈ blks c.A ∨ w.heap.size ≤ x) (hl : c.f.lasts ≤ data'.length) (hbig : data'.length ≤ 1073741824) :
    Dk (w1.setCell ⟨c.blk, 0, none⟩ (.slice A' data'.length cap')) d room u fz lf mb (p ++ { f := { c.f with data := data' }, blk := c.blk, A := A', cap := cap' } :: q) := by
  have hc : c ∈ p ++ c :: q := by simp
  have o2 : Only (c.blk :: blks c.A) w (w1.setCell ⟨c.blk, 0, none⟩ (.slice A' data'.length cap')) := (o.mono fun x hx => .inl (by simp [hx])).setCell (.inl (by simp)) _
  have hbk1 := (h.file c hc).1.only o (h.blk_row hc hc)
  have hother : ∀ c' ∈ p ++ q, FileIs (w1.setCell ⟨c.blk, 0, none⟩ (.slice A' data'.length cap')) c' := by
    intro c' hc'
    have hm : c' ∈ p ++ c :: q := by
      rcases List.mem_append.1 hc' with h1 | h1 <;> simp [h1]
    have hnb : c'.blk ≠ c.blk := by
      have := h.nb
      rw [List.map_append, List.map_cons] at this
      have hp := (List.perm_middle.nodup_iff).1 this
      rw [List.nodup_cons] at hp
      intro e
      apply hp.1
      rw [← List.map_append, ← e]
      exact List.mem_map_of_mem hc'
    have hna : ∀ x ∈ blks c'.A, x ∉ blks c.A := by
      have := h.na
      rw [List.flatMap_append, List.flatMap_cons] at this
      rw [List.nodup_append, List.nodup_append] at this
      obtain ⟨_, ⟨_, _, h4⟩, h5⟩ := this
      intro x hx hx'
      rcases List.mem_append.1 hc' with h1 | h1
      · exact h5 x (List.mem_flatMap.2 ⟨c', h1, hx⟩) x (by simp [hx']) rfl
      · exact h4 x hx' x (List.mem_flatMap.2 ⟨c', h1, hx⟩) rfl
    refine (h.file c' hm).only o2 (fun hx => ?_) fun x hx hm' => ?_
    · rcases List.mem_cons.1 hx with e | hx
      · exact hnb e
      · exact h.blk_row hm hc hx
    · rcases List.mem_cons.1 hm' with rfl | hm'
      · exact h.blk_row hc hm hx
      · exact hna x hx hm'
  refine { bk := h.bk.only o2 (fun hx => ?_), map := ?_, file := fun c' hc' => ?_, good := ?_, nb := ?_, na := ?_, room' := h.room', u' := h.u', lf' := h.lf', big := fun c' hc' => ?_ }
  · rcases List.mem_cons.1 hx with e | hx
    · exact h.d_blk hc e.symm
    · exact h.d_row hc hx
  · have hm := h.map.only o2 fun m e hx => by
      rcases List.mem_cons.1 hx with e' | hx
      · exact h.m_blk e hc e'.symm
      · exact h.m_row e hc hx
    cases mb with
    | none => simp [MapIs] at hm
    | some m =>
      unfold MapIs at hm ⊢
      simp only [] at hm ⊢
      have e : Dm (p ++ c :: q) = Dm (p ++ { f := { c.f with data := data' }, blk := c.blk, A := A', cap := cap' } :: q) := by simp [Dm, ent]
      rw [← e]
      simpa using hm
  · rcases List.mem_append.1 hc' with h1 | h1
    · exact hother c' (by simp [h1])
    · rcases List.mem_cons.1 h1 with rfl | h1
      · refine ⟨by have := hbk1.set 0 (.slice A' data'.length cap'); simpa using this, hv.setFar (fun hx => ?_) _⟩
        rcases hb _ hx with hx | hx
        · exact h.blk_row hc hc hx
        · exact Nat.not_lt.2 hx (h.file c hc).1.lt
      · exact hother c' (by simp [h1])
  · have := good_swap h.good (g := { c.f with data := data' }) rfl hl
    simpa using this
  · have := h.nb
    simpa using this
  · have hna := h.na
    simp only [List.flatMap_append, List.flatMap_cons] at hna ⊢
    refine nodup_mid hna hv.nodup fun x hx => ?_
    rcases hb x hx with h1 | h1
    · exact .inl h1
    · refine .inr ⟨fun hm => ?_, fun hm => ?_⟩
      · obtain ⟨c', hc', hx'⟩ := List.mem_flatMap.1 hm
        have := (h.file c' (by simp [hc'])).2.lt hx'
        omega
      · obtain ⟨c', hc', hx'⟩ := List.mem_flatMap.1 hm
        have := (h.file c' (by simp [hc'])).2.lt hx'
        omega
  · rcases List.mem_append.1 hc' with h1 | h1
    · exact h.big c' (by simp [h1])
    · rcases List.mem_cons.1 h1 with rfl | h1
      · exact hbig
      · exact h.big c' (by simp [h1])
theorem Dk.setLasts (h : Dk w d room u fz lf mb (p ++ c :: q)) (n : Nat) (hl : n ≤ c.f.data.length) :
    Dk (w.setCell ⟨c.blk, 1, none⟩ (.int .i64 n)) d room u fz lf mb (p ++ { f := { c.f with lasts := n }, blk := c.blk, A := c.A, cap := c.cap } :: q) := by
  have hc : c ∈ p ++ c :: q := by simp
  have o2 : Only [c.blk] w (w.setCell ⟨c.blk, 1, none⟩ (.int .i64 n)) := (Only.refl _ _).setCell (.inl (by simp)) _
  have hother : ∀ c' ∈ p ++ q, FileIs (w.setCell ⟨c.blk, 1, none⟩ (.int .i64 n)) c' := by
    intro c' hc'
    have hm : c' ∈ p ++ c :: q := by
      rcases List.mem_append.1 hc' with h1 | h1 <;> simp [h1]
    have hnb : c'.blk ≠ c.blk := by
      have := h.nb
      rw [List.map_append, List.map_cons] at this
      have hp := (List.perm_middle.nodup_iff).1 this
      rw [List.nodup_cons] at hp
      intro e
      apply hp.1
      rw [← List.map_append, ← e]
      exact List.mem_map_of_mem hc'
    refine (h.file c' hm).only o2 (by simpa using hnb) fun x hx hm' => ?_
    simp only [List.mem_singleton] at hm'
    subst hm'
    exact h.blk_row hc hm hx
  refine { bk := h.bk.only o2 (by simpa using (h.d_blk hc).symm), map := ?_, file := fun c' hc' => ?_, good := ?_, nb := ?_, na := ?_, room' := h.room', u' := h.u', lf' := h.lf', big := fun c' hc' => ?_ }
  · have hm := h.map.only o2 fun m e hx => by
      simp only [List.mem_singleton] at hx
      exact h.m_blk e hc hx.symm
    cases mb with
    | none => simp [MapIs] at hm
    | some m =>
      unfold MapIs at hm ⊢
      simp only [] at hm ⊢
      have e : Dm (p ++ c :: q) = Dm (p ++ { f := { c.f with lasts := n }, blk := c.blk, A := c.A, cap := c.cap } :: q) := by simp [Dm, ent]
      rw [← e]
      simpa using hm
  · rcases List.mem_append.1 hc' with h1 | h1
    · exact hother c' (by simp [h1])
    · rcases List.mem_cons.1 h1 with rfl | h1
      · exact ⟨by have := (h.file c hc).1.set 1 (.int .i64 n); simpa using this, (h.file c hc).2.setFar (fun hx => h.blk_row hc hc hx) _⟩
      · exact hother c' (by simp [h1])
  · have := good_swap h.good (g := { c.f with lasts := n }) rfl hl
    simpa using this
  · have := h.nb
    simpa using this
  · have := h.na
    simpa using this
  · rcases List.mem_append.1 hc' with h1 | h1
    · exact h.big c' (by simp [h1])
    · rcases List.mem_cons.1 h1 with rfl | h1
      · exact h.big c hc
      · exact h.big c' (by simp [h1])
theorem Dk.dropFile {m : Nat} (h : Dk w d room u fz lf (some m) cs) (s : ByteArray) (ho : w'.ownsMap Tryz.prog 9 ptrElem m cs.length ((Dm cs).del (keyLit s))) (ht : w.mapTurned w' m) : Dk w' d room u fz lf (some m) (delC cs s) := by
  have o := Only.of_turned ht
  have hsub : ∀ c ∈ delC cs s, c ∈ cs := fun c hc => (List.mem_filter.1 hc).1
  refine { bk := h.bk.only o (by simpa using (h.d_map rfl).symm), map := ?_, file := fun c hc => (h.file c (hsub c hc)).only o (by simpa using h.m_blk rfl (hsub c hc)) (fun x hx hm => ?_), good := ?_, nb := ?_, na := ?_, room' := h.room', u' := h.u', lf' := h.lf', big := fun c hc => h.big c (hsub c hc) }
  · rw [del_dm] at ho
    have := map_tight ho
    rw [size_dm] at this
    exact this
  · simp only [List.mem_singleton] at hm
    subst hm
    exact h.m_row rfl (hsub c hc) hx
  · rw [map_delC]
    have g := h.good
    exact ⟨g.rise.filter _, Nat.le_trans (List.length_filter_le _ _) g.len, fun f hf => g.names f (mem_del.1 hf).1, fun f hf => g.lasts f (mem_del.1 hf).1⟩
  · exact h.nb.sublist (List.filter_sublist.map _)
  · exact h.na.sublist (flatMap_sub List.filter_sublist _)
theorem Dk.addFile {m : Nat} (h : Dk w d room u fz lf (some m) cs) (hn : findC cs c.f.name = none) (ho : w'.ownsMap Tryz.prog 9 ptrElem m (cs.length + 1) ((Dm cs).put (keyLit c.f.name) (.lit (.int .i64 c.blk)))) (ht : w.mapTurned w' m)
    (hf : FileIs w c) (h1 : c.blk ∉ cs.map (·.blk)) (h2 : ∀ x ∈ blks c.A, x ∉ cs.flatMap fun c => blks c.A) (hlen : cs.length < 4096) (hs : c.f.name.size ≤ 64) (hl : c.f.lasts ≤ c.f.data.length) (hbig : c.f.data.length ≤ 1073741824) :
    Dk w' d room u fz lf (some m) (insC c cs) := by
  have o := Only.of_turned ht
  have hfile : ∀ x : Fc, FileIs w x → FileIs w' x := fun x hx => hx.only o (by simpa using (map_ne h.map hx.1).symm) fun y hy hm => by
    simp only [List.mem_singleton] at hm
    subst hm
    exact map_own h.map hx.2 hy
  refine { bk := h.bk.only o (by simpa using (h.d_map rfl).symm), map := ?_, file := fun x hx => ?_, good := ?_, nb := ?_, na := ?_, room' := h.room', u' := h.u', lf' := h.lf', big := fun x hx => ?_ }
  · rw [put_dm c cs hn] at ho
    have := map_tight ho
    rw [size_dm] at this
    exact this
  · rcases mem_insC.1 hx with rfl | hx
    · exact hfile x hf
    · exact hfile x (h.file x hx)
  · rw [map_insC]
    have g := h.good
    refine ⟨rise_ins g.rise fun x hx => ?_, ?_, fun x hx => ?_, fun x hx => ?_⟩
    · obtain ⟨y, hy, rfl⟩ := List.mem_map.1 hx
      exact findC_none.1 hn y hy
    · rw [length_ins, List.length_map]; omega
    · rcases mem_ins.1 hx with rfl | hx
      · exact hs
      · exact g.names x hx
    · rcases mem_ins.1 hx with rfl | hx
      · exact hl
      · exact g.lasts x hx
  · have hp := (perm_insC c cs).map (·.blk)
    rw [hp.nodup_iff, List.map_cons, List.nodup_cons]
    exact ⟨h1, h.nb⟩
  · have hp := (perm_insC c cs).flatMap_right fun c => blks c.A
    rw [hp.nodup_iff, List.flatMap_cons, List.nodup_append]
    exact ⟨hf.2.nodup, h.na, fun x hx y hy e => h2 x hx (e ▸ hy)⟩
  · rcases mem_insC.1 hx with rfl | hx
    · exact hbig
    · exact h.big x hx
end
def Disk (w : World) (d : Nat) (F : List Nat) (S : Dst) : Prop :=
  ∃ lf mb cs, Dk w d S.room (used S.fs) S.fuse.isSome lf mb cs ∧ cs.map (·.f) = S.fs ∧ (∀ k, S.fuse = some k → lf = k) ∧ used S.fs ≤ S.room ∧ F = fpt d mb cs
section
variable {w w' : World} {d : Nat} {F rs : List Nat} {S : Dst}
theorem Disk.only (h : Disk w d F S) (o : Only rs w w') (hd : ∀ x ∈ F, x ∉ rs) : Disk w' d F S := by
  obtain ⟨lf, mb, cs, hk, h1, h2, h3, rfl⟩ := h
  exact ⟨lf, mb, cs, hk.only o hd, h1, h2, h3, rfl⟩
theorem Disk.keep (h : Disk w d F S) (o : Only [] w w') : Disk w' d F S := h.only o fun _ _ hm => by cases hm
theorem Disk.lt (h : Disk w d F S) {x : Nat} (hx : x ∈ F) : x < w.heap.size := by
  obtain ⟨lf, mb, cs, hk, h1, h2, h3, rfl⟩ := h
  exact hk.lt hx
theorem Disk.good (h : Disk w d F S) : Good S.fs ∧ S.room ≤ 1073741824 ∧ used S.fs ≤ S.room := by
  obtain ⟨lf, mb, cs, hk, h1, h2, h3, rfl⟩ := h
  exact ⟨h1 ▸ hk.good, hk.room', h3⟩
end
def Did (d : Nat) (F : List Nat) (S' : Dst) (v : Value) (w : World) (e : Ending) (w' : World) : Prop :=
  e = .returned v ∧ ∃ F', Disk w' d F' S' ∧ Only F w w' ∧ ∀ x ∈ F', x ∈ F ∨ w.heap.size ≤ x
end Go.Proofs.YtgnilldcfpgpaaaGreatDoor
