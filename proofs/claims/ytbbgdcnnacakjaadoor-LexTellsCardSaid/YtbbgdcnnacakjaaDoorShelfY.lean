/-
  DERIVED: THE SHELF's CONTRACTS AT THIS DUMP, IN PLAIN WORDS (tools/lay-plain.mjs out of 'YtbbgdcnnacakjaaDoorShelfY.lean', which tools/lay-shelf.mjs wrote): THE SAME DECLARATIONS UNDER THE SAME NAMES: 'import', 'namespace', 'open', 'def', 'theorem' AND NOTHING ELSE: no command of the shelf's: FOR A HAND-IN. Each laying: the table of numbers ('.._ren') and one theorem, a field a fact of the dump's own or the kernel's comparison; each contract: ONE APPLICATION.
-/
import Derived.Ground.SlbvProg
import Derived.Shelf.Bytes.SlTrim
import Derived.Test.YtbbgdcnnacakjaaDoorProg
namespace Go.Proofs
open Go.Shelf
def Tryd.laysSlV8_ren : Go.Shelf.Ren := ⟨fun | 8 => 22 | 9 => 30 | 11 => 31 | 12 => 32 | 14 => 33 | 16 => 43 | 17 => 44 | 18 => 45 | 20 => 57 | n => n, fun | 22 => 32 | 9 => 9 | 3 => 3 | 4 => 4 | 5 => 5 | 28 => 60 | 27 => 59 | 0 => 0 | 31 => 63 | 33 => 72 | 21 => 21 | 36 => 91 | 37 => 92 | 40 => 95 | 39 => 94 | n => n, fun | 0 => 1 | 1 => 2 | n => n⟩
theorem Tryd.laysSlV8 : Go.Proofs.SlLaysV.n8 Tryd.prog Tryd.laysSlV8_ren := {
  mixed := by kernel_rfl
  f8 := Tryd.func22.trans (congrArg some (by kernel_rfl))
  f9 := Tryd.func30.trans (congrArg some (by kernel_rfl))
  f11 := Tryd.func31.trans (congrArg some (by kernel_rfl))
  f12 := Tryd.func32.trans (congrArg some (by kernel_rfl))
  f14 := Tryd.func33.trans (congrArg some (by kernel_rfl))
  f16 := Tryd.func43.trans (congrArg some (by kernel_rfl))
  f17 := Tryd.func44.trans (congrArg some (by kernel_rfl))
  f18 := Tryd.func45.trans (congrArg some (by kernel_rfl))
  f20 := Tryd.func57.trans (congrArg some (by kernel_rfl))
  t0 := Tryd.underlying0
  a0 := Tryd.isAgg0
  z0 := Tryd.sizeOf0
  v0 := Tryd.zeroValue0
  t3 := Tryd.underlying3
  a3 := Tryd.isAgg3
  z3 := Tryd.sizeOf3
  v3 := Tryd.zeroValue3
  t4 := Tryd.underlying4
  a4 := Tryd.isAgg4
  z4 := Tryd.sizeOf4
  v4 := Tryd.zeroValue4
  t5 := Tryd.underlying5
  a5 := Tryd.isAgg5
  z5 := Tryd.sizeOf5
  v5 := Tryd.zeroValue5
  t9 := Tryd.underlying9
  a9 := Tryd.isAgg9
  z9 := Tryd.sizeOf9
  v9 := Tryd.zeroValue9
  t21 := Tryd.underlying21
  a21 := Tryd.isAgg21
  z21 := Tryd.sizeOf21
  v21 := Tryd.zeroValue21
  t22 := Tryd.underlying32
  a22 := Tryd.isAgg32
  z22 := Tryd.sizeOf32
  v22 := Tryd.zeroValue32
  t27 := Tryd.underlying59
  a27 := Tryd.isAgg59
  z27 := Tryd.sizeOf59
  t28 := Tryd.underlying60
  a28 := Tryd.isAgg60
  z28 := Tryd.sizeOf60
  v28 := Tryd.zeroValue60
  t31 := Tryd.underlying63
  a31 := Tryd.isAgg63
  z31 := Tryd.sizeOf63
  v31 := Tryd.zeroValue63
  t33 := Tryd.underlying72
  a33 := Tryd.isAgg72
  z33 := Tryd.sizeOf72
  v33 := Tryd.zeroValue72
  t36 := Tryd.underlying91
  a36 := Tryd.isAgg91
  z36 := Tryd.sizeOf91
  t37 := Tryd.underlying92
  a37 := Tryd.isAgg92
  z37 := Tryd.sizeOf92
  v37 := Tryd.zeroValue92
  t39 := Tryd.underlying94
  a39 := Tryd.isAgg94
  z39 := Tryd.sizeOf94
  v39 := Tryd.zeroValue94
  t40 := Tryd.underlying95
  a40 := Tryd.isAgg95
  z40 := Tryd.sizeOf95
  v40 := Tryd.zeroValue95 }
open Go.RowKit Go.Lib in
/-- bytes.TrimLeft at one byte. -/
theorem Tryd.bytes_TrimLeft_one (p : Option Addr) (n c : Nat) (bs : List UInt8) (cc : UInt8) (w : World)
    (hb : bs.length = n) (hnc : n ≤ c) (hbig : c ≤ 9223372036854775807) (h1 : Lib.BytesAt w p n bs) (h0 : 0 < n) (hc : cc.toNat < 128) :
    Calls Tryd.prog 22 #[.slice p n c, .string ⟨#[cc]⟩] w fun e w' => e = .returned (Lib.leftV p n c (n - (Lib.trimLeftS bs [cc]).length)) ∧ w' = w := Any.bytes_TrimLeft_one Tryd.laysSlV8 p n c bs cc w hb hnc hbig h1 h0 hc
end Go.Proofs
