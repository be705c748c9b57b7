/-
  No cell of these rows narrows 'for every input' (looked for: loops, veiled, ifaces, maps, wideKeys, modest, calm, conditions, laid).
  DERIVED. THE GIVEN ROWS OF THIS SEAT. 9 by the template 'for every input the law returns true; each argument reads behind the call as it read before'; 0 by the template 'total and deterministic' (their statements: YthaodlegpjedoaaTotals.lean).
  GIVEN WITH THE SEED: the statements are not yours to turn. If you find one false, say at which input.
  Laid BY PROGRAM, IN A SANDBOX (cutbox-rows.mjs): the forced cells as the released guide's own fill.sh prints them over the translation 142e662ecadeae06… (all of the seat's roots in one cut). By AI agents, Wed Nov 11 2026. No macro, syntax, notation, axiom, sorry.
-/
import Derived.Test.YthaodlegpjedoaaChecked
import GoSem.Claim
import GoSem.ClaimJoined
import GoSem.ClaimMapViews
import Derived.JoinedTies
import Derived.KernelRfl
namespace Go.Proofs.Ythaodlegpjedoaa
/- THE CELL 'sum', in the pinned program and in every row, IS THE sha256 OF THE DUMP (.gsa) THAT YthaodlegpjedoaaProg.lean LOADS. Nothing in Lean hashes anything: it is a label: what it is worth is what the hold of that sum in a sandbox is worth. -/
noncomputable def Try.pinned : Pinned := { name := "ythaodlegpjedoaa", sum := "142e662ecadeae066c52fdf8222bb10750189fa74e0a9b6bd9ac2d03f35cf3b2", checked := Try.checked }
namespace Rows
def none {H : Type} : Left H := { results := [], args := [] }

/-- 'letterboxlaw13.BoxPlays': WHATEVER THE INPUT: true; the input reads as it did. -/
def boxPlaysSpec : ChangeSpec := { name := "boxPlays", fn := fun _ => fun
  | [d1, d2, d3] => { results := [.lit (.bool true)], args := [d1, d2, d3] }
  | _ => none }
def boxPlaysRow : OpenClaim := { program := "ythaodlegpjedoaa", sum := "142e662ecadeae066c52fdf8222bb10750189fa74e0a9b6bd9ac2d03f35cf3b2", func := "letterbox/letterboxlaw13.BoxPlays", spec := "boxPlays", unfollowed := true, recurses := true, apart := false }
def BoxPlaysSaid : Prop := boxPlaysRow.holds Try.pinned (OpenSpec.ofChange boxPlaysSpec)

/-- ITS FALSE NEIGHBOUR: 'it returns false'. Refute it at one input. -/
def boxPlaysWrong : ChangeSpec := { name := "boxPlays", fn := fun _ => fun
  | [d1, d2, d3] => { results := [.lit (.bool false)], args := [d1, d2, d3] }
  | _ => none }
def BoxPlaysWrongFalsely : Prop := boxPlaysRow.holds Try.pinned (OpenSpec.ofChange boxPlaysWrong)

/-- 'letterboxlaw13.BoxBytes': WHATEVER THE INPUT: true; the input reads as it did. -/
def boxBytesSpec : ChangeSpec := { name := "boxBytes", fn := fun _ => fun
  | [d1, d2, d3, d4] => { results := [.lit (.bool true)], args := [d1, d2, d3, d4] }
  | _ => none }
def boxBytesRow : OpenClaim := { program := "ythaodlegpjedoaa", sum := "142e662ecadeae066c52fdf8222bb10750189fa74e0a9b6bd9ac2d03f35cf3b2", func := "letterbox/letterboxlaw13.BoxBytes", spec := "boxBytes", unfollowed := true, recurses := true, apart := false }
def BoxBytesSaid : Prop := boxBytesRow.holds Try.pinned (OpenSpec.ofChange boxBytesSpec)

/-- ITS FALSE NEIGHBOUR: 'it returns false'. Refute it at one input. -/
def boxBytesWrong : ChangeSpec := { name := "boxBytes", fn := fun _ => fun
  | [d1, d2, d3, d4] => { results := [.lit (.bool false)], args := [d1, d2, d3, d4] }
  | _ => none }
def BoxBytesWrongFalsely : Prop := boxBytesRow.holds Try.pinned (OpenSpec.ofChange boxBytesWrong)

/-- 'letterboxlaw13.BoxBack': WHATEVER THE INPUT: true; the input reads as it did. -/
def boxBackSpec : ChangeSpec := { name := "boxBack", fn := fun _ => fun
  | [d] => { results := [.lit (.bool true)], args := [d] }
  | _ => none }
def boxBackRow : OpenClaim := { program := "ythaodlegpjedoaa", sum := "142e662ecadeae066c52fdf8222bb10750189fa74e0a9b6bd9ac2d03f35cf3b2", func := "letterbox/letterboxlaw13.BoxBack", spec := "boxBack", unfollowed := true, recurses := true, apart := false }
def BoxBackSaid : Prop := boxBackRow.holds Try.pinned (OpenSpec.ofChange boxBackSpec)

/-- ITS FALSE NEIGHBOUR: 'it returns false'. Refute it at one input. -/
def boxBackWrong : ChangeSpec := { name := "boxBack", fn := fun _ => fun
  | [d] => { results := [.lit (.bool false)], args := [d] }
  | _ => none }
def BoxBackWrongFalsely : Prop := boxBackRow.holds Try.pinned (OpenSpec.ofChange boxBackWrong)

/-- 'letterboxlaw13.BoxStamps': WHATEVER THE INPUT: true; the input reads as it did. -/
def boxStampsSpec : ChangeSpec := { name := "boxStamps", fn := fun _ => fun
  | [d1, d2] => { results := [.lit (.bool true)], args := [d1, d2] }
  | _ => none }
def boxStampsRow : OpenClaim := { program := "ythaodlegpjedoaa", sum := "142e662ecadeae066c52fdf8222bb10750189fa74e0a9b6bd9ac2d03f35cf3b2", func := "letterbox/letterboxlaw13.BoxStamps", spec := "boxStamps", apart := false }
def BoxStampsSaid : Prop := boxStampsRow.holds Try.pinned (OpenSpec.ofChange boxStampsSpec)

/-- ITS FALSE NEIGHBOUR: 'it returns false'. Refute it at one input. -/
def boxStampsWrong : ChangeSpec := { name := "boxStamps", fn := fun _ => fun
  | [d1, d2] => { results := [.lit (.bool false)], args := [d1, d2] }
  | _ => none }
def BoxStampsWrongFalsely : Prop := boxStampsRow.holds Try.pinned (OpenSpec.ofChange boxStampsWrong)

/-- 'letterboxlaw13.BoxUIDs': WHATEVER THE INPUT: true; the input reads as it did. -/
def boxUIDsSpec : ChangeSpec := { name := "boxUIDs", fn := fun _ => fun
  | [d] => { results := [.lit (.bool true)], args := [d] }
  | _ => none }
def boxUIDsRow : OpenClaim := { program := "ythaodlegpjedoaa", sum := "142e662ecadeae066c52fdf8222bb10750189fa74e0a9b6bd9ac2d03f35cf3b2", func := "letterbox/letterboxlaw13.BoxUIDs", spec := "boxUIDs", apart := false }
def BoxUIDsSaid : Prop := boxUIDsRow.holds Try.pinned (OpenSpec.ofChange boxUIDsSpec)

/-- ITS FALSE NEIGHBOUR: 'it returns false'. Refute it at one input. -/
def boxUIDsWrong : ChangeSpec := { name := "boxUIDs", fn := fun _ => fun
  | [d] => { results := [.lit (.bool false)], args := [d] }
  | _ => none }
def BoxUIDsWrongFalsely : Prop := boxUIDsRow.holds Try.pinned (OpenSpec.ofChange boxUIDsWrong)

/-- 'letterboxlaw13.BoxOwn': WHATEVER THE INPUT: true; the input reads as it did. -/
def boxOwnSpec : ChangeSpec := { name := "boxOwn", fn := fun _ => fun
  | [d1, d2, d3] => { results := [.lit (.bool true)], args := [d1, d2, d3] }
  | _ => none }
def boxOwnRow : OpenClaim := { program := "ythaodlegpjedoaa", sum := "142e662ecadeae066c52fdf8222bb10750189fa74e0a9b6bd9ac2d03f35cf3b2", func := "letterbox/letterboxlaw13.BoxOwn", spec := "boxOwn", apart := false }
def BoxOwnSaid : Prop := boxOwnRow.holds Try.pinned (OpenSpec.ofChange boxOwnSpec)

/-- ITS FALSE NEIGHBOUR: 'it returns false'. Refute it at one input. -/
def boxOwnWrong : ChangeSpec := { name := "boxOwn", fn := fun _ => fun
  | [d1, d2, d3] => { results := [.lit (.bool false)], args := [d1, d2, d3] }
  | _ => none }
def BoxOwnWrongFalsely : Prop := boxOwnRow.holds Try.pinned (OpenSpec.ofChange boxOwnWrong)

/-- 'letterboxlaw13.BoxFull': WHATEVER THE INPUT: true; the input reads as it did. -/
def boxFullSpec : ChangeSpec := { name := "boxFull", fn := fun _ => fun
  | [d1, d2] => { results := [.lit (.bool true)], args := [d1, d2] }
  | _ => none }
def boxFullRow : OpenClaim := { program := "ythaodlegpjedoaa", sum := "142e662ecadeae066c52fdf8222bb10750189fa74e0a9b6bd9ac2d03f35cf3b2", func := "letterbox/letterboxlaw13.BoxFull", spec := "boxFull", apart := false }
def BoxFullSaid : Prop := boxFullRow.holds Try.pinned (OpenSpec.ofChange boxFullSpec)

/-- ITS FALSE NEIGHBOUR: 'it returns false'. Refute it at one input. -/
def boxFullWrong : ChangeSpec := { name := "boxFull", fn := fun _ => fun
  | [d1, d2] => { results := [.lit (.bool false)], args := [d1, d2] }
  | _ => none }
def BoxFullWrongFalsely : Prop := boxFullRow.holds Try.pinned (OpenSpec.ofChange boxFullWrong)

/-- 'letterboxlaw13.BoxMarks': WHATEVER THE INPUT: true; the input reads as it did. -/
def boxMarksSpec : ChangeSpec := { name := "boxMarks", fn := fun _ => fun
  | [d1, d2, d3, d4] => { results := [.lit (.bool true)], args := [d1, d2, d3, d4] }
  | _ => none }
def boxMarksRow : OpenClaim := { program := "ythaodlegpjedoaa", sum := "142e662ecadeae066c52fdf8222bb10750189fa74e0a9b6bd9ac2d03f35cf3b2", func := "letterbox/letterboxlaw13.BoxMarks", spec := "boxMarks", apart := false }
def BoxMarksSaid : Prop := boxMarksRow.holds Try.pinned (OpenSpec.ofChange boxMarksSpec)

/-- ITS FALSE NEIGHBOUR: 'it returns false'. Refute it at one input. -/
def boxMarksWrong : ChangeSpec := { name := "boxMarks", fn := fun _ => fun
  | [d1, d2, d3, d4] => { results := [.lit (.bool false)], args := [d1, d2, d3, d4] }
  | _ => none }
def BoxMarksWrongFalsely : Prop := boxMarksRow.holds Try.pinned (OpenSpec.ofChange boxMarksWrong)

/-- 'letterboxlaw13.BoxGone': WHATEVER THE INPUT: true; the input reads as it did. -/
def boxGoneSpec : ChangeSpec := { name := "boxGone", fn := fun _ => fun
  | [d1, d2] => { results := [.lit (.bool true)], args := [d1, d2] }
  | _ => none }
def boxGoneRow : OpenClaim := { program := "ythaodlegpjedoaa", sum := "142e662ecadeae066c52fdf8222bb10750189fa74e0a9b6bd9ac2d03f35cf3b2", func := "letterbox/letterboxlaw13.BoxGone", spec := "boxGone", unfollowed := true, recurses := true, apart := false }
def BoxGoneSaid : Prop := boxGoneRow.holds Try.pinned (OpenSpec.ofChange boxGoneSpec)

/-- ITS FALSE NEIGHBOUR: 'it returns false'. Refute it at one input. -/
def boxGoneWrong : ChangeSpec := { name := "boxGone", fn := fun _ => fun
  | [d1, d2] => { results := [.lit (.bool false)], args := [d1, d2] }
  | _ => none }
def BoxGoneWrongFalsely : Prop := boxGoneRow.holds Try.pinned (OpenSpec.ofChange boxGoneWrong)

/- THE SECOND FORM. 'bulk': how many values and letters a reading holds, each counted each time it is reached (what is shared counts as often as it is met; a slice's spare places count too). A statement '..UptoSaid' is the law's where the arguments, and the package variables that the reading takes, are together of bulk at most 1048576: NARROWER than '..Said'. Prove '..Said' where nothing that the law and all that it calls make is longer than what came in: it says more and counts as full. Else prove '..UptoSaid'. A law counts once. -/
mutual
def uptoBulk {H : Type} : DataW H → Nat
  | .lit (.string bytes) => bytes.length + 1
  | .lit _ => 1
  | .nil => 1
  | .ptr d => uptoBulk d + 1
  | .slice elems spare => uptoBulkAll elems + uptoBulkAll spare + 1
  | .agg parts => uptoBulkAll parts + 1
  | .iface _ d => uptoBulk d + 1
  | .map entries => uptoBulkEntries entries + 1
  | .held _ => 1
def uptoBulkAll {H : Type} : List (DataW H) → Nat
  | [] => 0
  | d :: r => uptoBulk d + uptoBulkAll r
def uptoBulkEntries {H : Type} : List (Lit × DataW H) → Nat
  | [] => 0
  | x :: r => uptoBulkEntry x + uptoBulkEntries r
def uptoBulkEntry {H : Type} : Lit × DataW H → Nat
  | (.string bytes, d) => bytes.length + uptoBulk d + 1
  | (_, d) => uptoBulk d + 1
 end
def uptoSmall : (H : Type) → List (DataW H) → Bool := fun _ ds => decide (uptoBulkAll ds ≤ 1048576)
def OpenSpec.upto (s : _root_.Go.ChangeSpec) : _root_.Go.OpenSpec := { _root_.Go.OpenSpec.ofChange s with cond := some uptoSmall }

/-- 'letterboxlaw13.BoxPlays', WHERE WHAT IT READS IS OF BULK AT MOST 1048576: true; the input reads as it did. -/
def boxPlaysUptoRow : OpenClaim := { program := "ythaodlegpjedoaa", sum := "142e662ecadeae066c52fdf8222bb10750189fa74e0a9b6bd9ac2d03f35cf3b2", func := "letterbox/letterboxlaw13.BoxPlays", spec := "boxPlays", unfollowed := true, recurses := true, apart := false, narrowed := true }
def BoxPlaysUptoSaid : Prop := boxPlaysUptoRow.holds Try.pinned (OpenSpec.upto boxPlaysSpec)

/-- 'letterboxlaw13.BoxBytes', WHERE WHAT IT READS IS OF BULK AT MOST 1048576: true; the input reads as it did. -/
def boxBytesUptoRow : OpenClaim := { program := "ythaodlegpjedoaa", sum := "142e662ecadeae066c52fdf8222bb10750189fa74e0a9b6bd9ac2d03f35cf3b2", func := "letterbox/letterboxlaw13.BoxBytes", spec := "boxBytes", unfollowed := true, recurses := true, apart := false, narrowed := true }
def BoxBytesUptoSaid : Prop := boxBytesUptoRow.holds Try.pinned (OpenSpec.upto boxBytesSpec)

/-- 'letterboxlaw13.BoxBack', WHERE WHAT IT READS IS OF BULK AT MOST 1048576: true; the input reads as it did. -/
def boxBackUptoRow : OpenClaim := { program := "ythaodlegpjedoaa", sum := "142e662ecadeae066c52fdf8222bb10750189fa74e0a9b6bd9ac2d03f35cf3b2", func := "letterbox/letterboxlaw13.BoxBack", spec := "boxBack", unfollowed := true, recurses := true, apart := false, narrowed := true }
def BoxBackUptoSaid : Prop := boxBackUptoRow.holds Try.pinned (OpenSpec.upto boxBackSpec)

/-- 'letterboxlaw13.BoxStamps', WHERE WHAT IT READS IS OF BULK AT MOST 1048576: true; the input reads as it did. -/
def boxStampsUptoRow : OpenClaim := { program := "ythaodlegpjedoaa", sum := "142e662ecadeae066c52fdf8222bb10750189fa74e0a9b6bd9ac2d03f35cf3b2", func := "letterbox/letterboxlaw13.BoxStamps", spec := "boxStamps", apart := false, narrowed := true }
def BoxStampsUptoSaid : Prop := boxStampsUptoRow.holds Try.pinned (OpenSpec.upto boxStampsSpec)

/-- 'letterboxlaw13.BoxUIDs', WHERE WHAT IT READS IS OF BULK AT MOST 1048576: true; the input reads as it did. -/
def boxUIDsUptoRow : OpenClaim := { program := "ythaodlegpjedoaa", sum := "142e662ecadeae066c52fdf8222bb10750189fa74e0a9b6bd9ac2d03f35cf3b2", func := "letterbox/letterboxlaw13.BoxUIDs", spec := "boxUIDs", apart := false, narrowed := true }
def BoxUIDsUptoSaid : Prop := boxUIDsUptoRow.holds Try.pinned (OpenSpec.upto boxUIDsSpec)

/-- 'letterboxlaw13.BoxOwn', WHERE WHAT IT READS IS OF BULK AT MOST 1048576: true; the input reads as it did. -/
def boxOwnUptoRow : OpenClaim := { program := "ythaodlegpjedoaa", sum := "142e662ecadeae066c52fdf8222bb10750189fa74e0a9b6bd9ac2d03f35cf3b2", func := "letterbox/letterboxlaw13.BoxOwn", spec := "boxOwn", apart := false, narrowed := true }
def BoxOwnUptoSaid : Prop := boxOwnUptoRow.holds Try.pinned (OpenSpec.upto boxOwnSpec)

/-- 'letterboxlaw13.BoxFull', WHERE WHAT IT READS IS OF BULK AT MOST 1048576: true; the input reads as it did. -/
def boxFullUptoRow : OpenClaim := { program := "ythaodlegpjedoaa", sum := "142e662ecadeae066c52fdf8222bb10750189fa74e0a9b6bd9ac2d03f35cf3b2", func := "letterbox/letterboxlaw13.BoxFull", spec := "boxFull", apart := false, narrowed := true }
def BoxFullUptoSaid : Prop := boxFullUptoRow.holds Try.pinned (OpenSpec.upto boxFullSpec)

/-- 'letterboxlaw13.BoxMarks', WHERE WHAT IT READS IS OF BULK AT MOST 1048576: true; the input reads as it did. -/
def boxMarksUptoRow : OpenClaim := { program := "ythaodlegpjedoaa", sum := "142e662ecadeae066c52fdf8222bb10750189fa74e0a9b6bd9ac2d03f35cf3b2", func := "letterbox/letterboxlaw13.BoxMarks", spec := "boxMarks", apart := false, narrowed := true }
def BoxMarksUptoSaid : Prop := boxMarksUptoRow.holds Try.pinned (OpenSpec.upto boxMarksSpec)

/-- 'letterboxlaw13.BoxGone', WHERE WHAT IT READS IS OF BULK AT MOST 1048576: true; the input reads as it did. -/
def boxGoneUptoRow : OpenClaim := { program := "ythaodlegpjedoaa", sum := "142e662ecadeae066c52fdf8222bb10750189fa74e0a9b6bd9ac2d03f35cf3b2", func := "letterbox/letterboxlaw13.BoxGone", spec := "boxGone", unfollowed := true, recurses := true, apart := false, narrowed := true }
def BoxGoneUptoSaid : Prop := boxGoneUptoRow.holds Try.pinned (OpenSpec.upto boxGoneSpec)

end Rows
end Go.Proofs.Ythaodlegpjedoaa
