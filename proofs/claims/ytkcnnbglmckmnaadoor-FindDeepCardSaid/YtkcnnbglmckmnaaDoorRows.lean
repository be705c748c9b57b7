/-
  NARROWER THAN 'FOR EVERY INPUT', by the rows' own cells (each row's printed sentence says how): FindParses: laid · FindMatches: loops, laid · FindNot: laid · FindFlags: laid · FindTexts: laid · FindDeep: laid · FindSets: laid.
  DERIVED. THE GIVEN ROWS OF THIS SEAT. 7 by the template 'for every input the law returns true; each argument reads behind the call as it read before'; 0 by the template 'total and deterministic' (their statements: YtkcnnbglmckmnaaDoorTotals.lean).
  GIVEN WITH THE SEED: the statements are not yours to turn. If you find one false, say at which input.
  Laid BY PROGRAM, IN A SANDBOX (cutbox-rows.mjs): the forced cells as the released guide's own fill.sh prints them over the translation 86a28d87378dd812… (all of the seat's roots in one cut). By AI agents, Wed Nov 11 2026. No macro, syntax, notation, axiom, sorry.
-/
import Derived.Test.YtkcnnbglmckmnaaDoorChecked
import GoSem.PinnedTables
import GoSem.Claim
import GoSem.ClaimJoined
import GoSem.ClaimMapViews
import Derived.JoinedTies
import Derived.KernelRfl
namespace Go.Proofs.YtkcnnbglmckmnaaDoor
/- THE CELL 'sum', in the pinned program and in every row, IS THE sha256 OF THE DUMP (.gsa) THAT YtkcnnbglmckmnaaDoorProg.lean LOADS. Nothing in Lean hashes anything: it is a label: what it is worth is what the hold of that sum in a sandbox is worth. -/
noncomputable def Tryd.pinned : Pinned := { name := "ytkcnnbglmckmnaadoor", sum := "86a28d87378dd812521184c48117376009f888c2175d899adcbc6ace9ffc8099", checked := Tryd.checked }
namespace Rows
def none {H : Type} : Left H := { results := [], args := [] }

/- WHAT THE LISTED PACKAGE-LEVEL VARIABLES READ AS WHEN THE CALL BEGINS. Each datum BY PROGRAM (the guide's laid-datum.mjs) off the statement by which the dump's own 'gosem.cut.vars' lays the variable. In a bare row this is a premise. The card (YtkcnnbglmckmnaaDoorCards.lean) ties it to the program's text. -/
def laid_unicode_utf8_acceptRanges {H : Type} : DataW H := .agg [.agg [.lit (.int .u8 128), .lit (.int .u8 191)], .agg [.lit (.int .u8 160), .lit (.int .u8 191)], .agg [.lit (.int .u8 128), .lit (.int .u8 159)], .agg [.lit (.int .u8 144), .lit (.int .u8 191)], .agg [.lit (.int .u8 128), .lit (.int .u8 143)], .agg [.lit (.int .u8 0), .lit (.int .u8 0)], .agg [.lit (.int .u8 0), .lit (.int .u8 0)], .agg [.lit (.int .u8 0), .lit (.int .u8 0)], .agg [.lit (.int .u8 0), .lit (.int .u8 0)], .agg [.lit (.int .u8 0), .lit (.int .u8 0)], .agg [.lit (.int .u8 0), .lit (.int .u8 0)], .agg [.lit (.int .u8 0), .lit (.int .u8 0)], .agg [.lit (.int .u8 0), .lit (.int .u8 0)], .agg [.lit (.int .u8 0), .lit (.int .u8 0)], .agg [.lit (.int .u8 0), .lit (.int .u8 0)], .agg [.lit (.int .u8 0), .lit (.int .u8 0)]]
/-- One of Go's own tables, pinned by name: the form's constant. -/
def laid_unicode_utf8_first : DataW Unit := Go.Pinned.utf8First

/-- 'letterboxlaw18.FindParses': WHATEVER THE INPUT: true; the input reads as it did. -/
def findParsesSpec : ChangeSpec := { name := "findParses", fn := fun _ => fun
  | [d] => { results := [.lit (.bool true)], args := [d] }
  | _ => none }
def findParsesRow : OpenClaim := { program := "ytkcnnbglmckmnaadoor", sum := "86a28d87378dd812521184c48117376009f888c2175d899adcbc6ace9ffc8099", func := "letterbox/letterboxlaw18.FindParses", spec := "findParses", inPlace := ["internal/bytealg.IndexByteString", "internal/bytealg.IndexString", "internal/bytealg.IndexByte", "internal/bytealg.Index"], unfollowed := true, recurses := true, named := ["internal/bytealg.MaxLen", "unicode/utf8.first", "unicode/utf8.acceptRanges"], apart := false, laid := [("unicode/utf8.acceptRanges", laid_unicode_utf8_acceptRanges), ("unicode/utf8.first", laid_unicode_utf8_first)] }
def FindParsesSaid : Prop := findParsesRow.holds Tryd.pinned (OpenSpec.ofChange findParsesSpec)

/-- ITS FALSE NEIGHBOUR: 'it returns false'. Refute it at one input. -/
def findParsesWrong : ChangeSpec := { name := "findParses", fn := fun _ => fun
  | [d] => { results := [.lit (.bool false)], args := [d] }
  | _ => none }
def FindParsesWrongFalsely : Prop := findParsesRow.holds Tryd.pinned (OpenSpec.ofChange findParsesWrong)

/-- 'letterboxlaw18.FindMatches': WHATEVER THE INPUT: true; the input reads as it did. -/
def findMatchesSpec : ChangeSpec := { name := "findMatches", fn := fun _ => fun
  | [d1, d2, d3, d4, d5, d6] => { results := [.lit (.bool true)], args := [d1, d2, d3, d4, d5, d6] }
  | _ => none }
def findMatchesRow : OpenClaim := { program := "ytkcnnbglmckmnaadoor", sum := "86a28d87378dd812521184c48117376009f888c2175d899adcbc6ace9ffc8099", func := "letterbox/letterboxlaw18.FindMatches", spec := "findMatches", inPlace := ["internal/bytealg.IndexByteString", "internal/bytealg.IndexString", "internal/bytealg.IndexByte", "internal/bytealg.Index"], unfollowed := true, recurses := true, named := ["internal/bytealg.MaxLen", "unicode/utf8.first", "unicode/utf8.acceptRanges"], loops := true, apart := false, laid := [("unicode/utf8.acceptRanges", laid_unicode_utf8_acceptRanges), ("unicode/utf8.first", laid_unicode_utf8_first)] }
def FindMatchesSaid : Prop := findMatchesRow.holds Tryd.pinned (OpenSpec.ofChange findMatchesSpec)

/-- ITS FALSE NEIGHBOUR: 'it returns false'. Refute it at one input. -/
def findMatchesWrong : ChangeSpec := { name := "findMatches", fn := fun _ => fun
  | [d1, d2, d3, d4, d5, d6] => { results := [.lit (.bool false)], args := [d1, d2, d3, d4, d5, d6] }
  | _ => none }
def FindMatchesWrongFalsely : Prop := findMatchesRow.holds Tryd.pinned (OpenSpec.ofChange findMatchesWrong)

/-- 'letterboxlaw18.FindNot': WHATEVER THE INPUT: true; the input reads as it did. -/
def findNotSpec : ChangeSpec := { name := "findNot", fn := fun _ => fun
  | [d1, d2, d3] => { results := [.lit (.bool true)], args := [d1, d2, d3] }
  | _ => none }
def findNotRow : OpenClaim := { program := "ytkcnnbglmckmnaadoor", sum := "86a28d87378dd812521184c48117376009f888c2175d899adcbc6ace9ffc8099", func := "letterbox/letterboxlaw18.FindNot", spec := "findNot", inPlace := ["internal/bytealg.IndexByteString", "internal/bytealg.IndexString", "internal/bytealg.IndexByte", "internal/bytealg.Index"], unfollowed := true, recurses := true, named := ["internal/bytealg.MaxLen", "unicode/utf8.first", "unicode/utf8.acceptRanges"], apart := false, laid := [("unicode/utf8.acceptRanges", laid_unicode_utf8_acceptRanges), ("unicode/utf8.first", laid_unicode_utf8_first)] }
def FindNotSaid : Prop := findNotRow.holds Tryd.pinned (OpenSpec.ofChange findNotSpec)

/-- ITS FALSE NEIGHBOUR: 'it returns false'. Refute it at one input. -/
def findNotWrong : ChangeSpec := { name := "findNot", fn := fun _ => fun
  | [d1, d2, d3] => { results := [.lit (.bool false)], args := [d1, d2, d3] }
  | _ => none }
def FindNotWrongFalsely : Prop := findNotRow.holds Tryd.pinned (OpenSpec.ofChange findNotWrong)

/-- 'letterboxlaw18.FindFlags': WHATEVER THE INPUT: true; the input reads as it did. -/
def findFlagsSpec : ChangeSpec := { name := "findFlags", fn := fun _ => fun
  | [d1, d2] => { results := [.lit (.bool true)], args := [d1, d2] }
  | _ => none }
def findFlagsRow : OpenClaim := { program := "ytkcnnbglmckmnaadoor", sum := "86a28d87378dd812521184c48117376009f888c2175d899adcbc6ace9ffc8099", func := "letterbox/letterboxlaw18.FindFlags", spec := "findFlags", inPlace := ["internal/bytealg.IndexByteString", "internal/bytealg.IndexString", "internal/bytealg.IndexByte", "internal/bytealg.Index"], unfollowed := true, recurses := true, named := ["internal/bytealg.MaxLen", "unicode/utf8.first", "unicode/utf8.acceptRanges"], apart := false, laid := [("unicode/utf8.acceptRanges", laid_unicode_utf8_acceptRanges), ("unicode/utf8.first", laid_unicode_utf8_first)] }
def FindFlagsSaid : Prop := findFlagsRow.holds Tryd.pinned (OpenSpec.ofChange findFlagsSpec)

/-- ITS FALSE NEIGHBOUR: 'it returns false'. Refute it at one input. -/
def findFlagsWrong : ChangeSpec := { name := "findFlags", fn := fun _ => fun
  | [d1, d2] => { results := [.lit (.bool false)], args := [d1, d2] }
  | _ => none }
def FindFlagsWrongFalsely : Prop := findFlagsRow.holds Tryd.pinned (OpenSpec.ofChange findFlagsWrong)

/-- 'letterboxlaw18.FindTexts': WHATEVER THE INPUT: true; the input reads as it did. -/
def findTextsSpec : ChangeSpec := { name := "findTexts", fn := fun _ => fun
  | [d1, d2, d3, d4] => { results := [.lit (.bool true)], args := [d1, d2, d3, d4] }
  | _ => none }
def findTextsRow : OpenClaim := { program := "ytkcnnbglmckmnaadoor", sum := "86a28d87378dd812521184c48117376009f888c2175d899adcbc6ace9ffc8099", func := "letterbox/letterboxlaw18.FindTexts", spec := "findTexts", inPlace := ["internal/bytealg.IndexByteString", "internal/bytealg.IndexString", "internal/bytealg.IndexByte", "internal/bytealg.Index"], unfollowed := true, recurses := true, named := ["internal/bytealg.MaxLen", "unicode/utf8.first", "unicode/utf8.acceptRanges"], apart := false, laid := [("unicode/utf8.acceptRanges", laid_unicode_utf8_acceptRanges), ("unicode/utf8.first", laid_unicode_utf8_first)] }
def FindTextsSaid : Prop := findTextsRow.holds Tryd.pinned (OpenSpec.ofChange findTextsSpec)

/-- ITS FALSE NEIGHBOUR: 'it returns false'. Refute it at one input. -/
def findTextsWrong : ChangeSpec := { name := "findTexts", fn := fun _ => fun
  | [d1, d2, d3, d4] => { results := [.lit (.bool false)], args := [d1, d2, d3, d4] }
  | _ => none }
def FindTextsWrongFalsely : Prop := findTextsRow.holds Tryd.pinned (OpenSpec.ofChange findTextsWrong)

/-- 'letterboxlaw18.FindDeep': WHATEVER THE INPUT: true; the input reads as it did. -/
def findDeepSpec : ChangeSpec := { name := "findDeep", fn := fun _ => fun
  | [d1, d2] => { results := [.lit (.bool true)], args := [d1, d2] }
  | _ => none }
def findDeepRow : OpenClaim := { program := "ytkcnnbglmckmnaadoor", sum := "86a28d87378dd812521184c48117376009f888c2175d899adcbc6ace9ffc8099", func := "letterbox/letterboxlaw18.FindDeep", spec := "findDeep", inPlace := ["internal/bytealg.IndexByteString", "internal/bytealg.IndexString", "internal/bytealg.IndexByte", "internal/bytealg.Index"], unfollowed := true, recurses := true, named := ["internal/bytealg.MaxLen", "unicode/utf8.first", "unicode/utf8.acceptRanges"], apart := false, laid := [("unicode/utf8.acceptRanges", laid_unicode_utf8_acceptRanges), ("unicode/utf8.first", laid_unicode_utf8_first)] }
def FindDeepSaid : Prop := findDeepRow.holds Tryd.pinned (OpenSpec.ofChange findDeepSpec)

/-- ITS FALSE NEIGHBOUR: 'it returns false'. Refute it at one input. -/
def findDeepWrong : ChangeSpec := { name := "findDeep", fn := fun _ => fun
  | [d1, d2] => { results := [.lit (.bool false)], args := [d1, d2] }
  | _ => none }
def FindDeepWrongFalsely : Prop := findDeepRow.holds Tryd.pinned (OpenSpec.ofChange findDeepWrong)

/-- 'letterboxlaw18.FindSets': WHATEVER THE INPUT: true; the input reads as it did. -/
def findSetsSpec : ChangeSpec := { name := "findSets", fn := fun _ => fun
  | [d1, d2, d3, d4] => { results := [.lit (.bool true)], args := [d1, d2, d3, d4] }
  | _ => none }
def findSetsRow : OpenClaim := { program := "ytkcnnbglmckmnaadoor", sum := "86a28d87378dd812521184c48117376009f888c2175d899adcbc6ace9ffc8099", func := "letterbox/letterboxlaw18.FindSets", spec := "findSets", inPlace := ["internal/bytealg.IndexByteString", "internal/bytealg.IndexString", "internal/bytealg.IndexByte", "internal/bytealg.Index"], unfollowed := true, recurses := true, named := ["internal/bytealg.MaxLen", "unicode/utf8.first", "unicode/utf8.acceptRanges"], apart := false, laid := [("unicode/utf8.acceptRanges", laid_unicode_utf8_acceptRanges), ("unicode/utf8.first", laid_unicode_utf8_first)] }
def FindSetsSaid : Prop := findSetsRow.holds Tryd.pinned (OpenSpec.ofChange findSetsSpec)

/-- ITS FALSE NEIGHBOUR: 'it returns false'. Refute it at one input. -/
def findSetsWrong : ChangeSpec := { name := "findSets", fn := fun _ => fun
  | [d1, d2, d3, d4] => { results := [.lit (.bool false)], args := [d1, d2, d3, d4] }
  | _ => none }
def FindSetsWrongFalsely : Prop := findSetsRow.holds Tryd.pinned (OpenSpec.ofChange findSetsWrong)

/- THE SECOND FORM. 'bulk': how many values and letters a reading holds, each counted each time it is reached (what is shared counts as often as it is met; a slice's spare places count too). A statement '..UptoSaid' is the law's where the arguments, and the package variables that the reading takes, are together of bulk at most 1048576: NARROWER than '..Said'. Prove '..Said' where nothing that the law and all that it calls make is longer than what came in: it says more and counts as full. Else prove '..UptoSaid'. A law counts once. -/
mutual
def uptoBulk {H : Type} : DataW H → Nat
  | .lit (.string bytes) => bytes.length + 1
  | .lit _ => 1
  | .nil => 1
  | .ptr d => uptoBulk d + 1
  | .slice elems spare => uptoBulkAll elems + uptoBulkAll spare + 1
  | .agg parts => uptoBulkAll parts + 1
  | .iface _ d => uptoBulk d + 1
  | .map entries => uptoBulkEntries entries + 1
  | .held _ => 1
def uptoBulkAll {H : Type} : List (DataW H) → Nat
  | [] => 0
  | d :: r => uptoBulk d + uptoBulkAll r
def uptoBulkEntries {H : Type} : List (Lit × DataW H) → Nat
  | [] => 0
  | x :: r => uptoBulkEntry x + uptoBulkEntries r
def uptoBulkEntry {H : Type} : Lit × DataW H → Nat
  | (.string bytes, d) => bytes.length + uptoBulk d + 1
  | (_, d) => uptoBulk d + 1
 end
def uptoSmall : (H : Type) → List (DataW H) → Bool := fun _ ds => decide (uptoBulkAll ds ≤ 1048576)
def OpenSpec.upto (s : _root_.Go.ChangeSpec) : _root_.Go.OpenSpec := { _root_.Go.OpenSpec.ofChange s with cond := some uptoSmall }

/-- 'letterboxlaw18.FindParses', WHERE WHAT IT READS IS OF BULK AT MOST 1048576: true; the input reads as it did. -/
def findParsesUptoRow : OpenClaim := { program := "ytkcnnbglmckmnaadoor", sum := "86a28d87378dd812521184c48117376009f888c2175d899adcbc6ace9ffc8099", func := "letterbox/letterboxlaw18.FindParses", spec := "findParses", inPlace := ["internal/bytealg.IndexByteString", "internal/bytealg.IndexString", "internal/bytealg.IndexByte", "internal/bytealg.Index"], unfollowed := true, recurses := true, named := ["internal/bytealg.MaxLen", "unicode/utf8.first", "unicode/utf8.acceptRanges"], apart := false, laid := [("unicode/utf8.acceptRanges", laid_unicode_utf8_acceptRanges), ("unicode/utf8.first", laid_unicode_utf8_first)], narrowed := true }
def FindParsesUptoSaid : Prop := findParsesUptoRow.holds Tryd.pinned (OpenSpec.upto findParsesSpec)

/-- 'letterboxlaw18.FindMatches', WHERE WHAT IT READS IS OF BULK AT MOST 1048576: true; the input reads as it did. -/
def findMatchesUptoRow : OpenClaim := { program := "ytkcnnbglmckmnaadoor", sum := "86a28d87378dd812521184c48117376009f888c2175d899adcbc6ace9ffc8099", func := "letterbox/letterboxlaw18.FindMatches", spec := "findMatches", inPlace := ["internal/bytealg.IndexByteString", "internal/bytealg.IndexString", "internal/bytealg.IndexByte", "internal/bytealg.Index"], unfollowed := true, recurses := true, named := ["internal/bytealg.MaxLen", "unicode/utf8.first", "unicode/utf8.acceptRanges"], loops := true, apart := false, laid := [("unicode/utf8.acceptRanges", laid_unicode_utf8_acceptRanges), ("unicode/utf8.first", laid_unicode_utf8_first)], narrowed := true }
def FindMatchesUptoSaid : Prop := findMatchesUptoRow.holds Tryd.pinned (OpenSpec.upto findMatchesSpec)

/-- 'letterboxlaw18.FindNot', WHERE WHAT IT READS IS OF BULK AT MOST 1048576: true; the input reads as it did. -/
def findNotUptoRow : OpenClaim := { program := "ytkcnnbglmckmnaadoor", sum := "86a28d87378dd812521184c48117376009f888c2175d899adcbc6ace9ffc8099", func := "letterbox/letterboxlaw18.FindNot", spec := "findNot", inPlace := ["internal/bytealg.IndexByteString", "internal/bytealg.IndexString", "internal/bytealg.IndexByte", "internal/bytealg.Index"], unfollowed := true, recurses := true, named := ["internal/bytealg.MaxLen", "unicode/utf8.first", "unicode/utf8.acceptRanges"], apart := false, laid := [("unicode/utf8.acceptRanges", laid_unicode_utf8_acceptRanges), ("unicode/utf8.first", laid_unicode_utf8_first)], narrowed := true }
def FindNotUptoSaid : Prop := findNotUptoRow.holds Tryd.pinned (OpenSpec.upto findNotSpec)

/-- 'letterboxlaw18.FindFlags', WHERE WHAT IT READS IS OF BULK AT MOST 1048576: true; the input reads as it did. -/
def findFlagsUptoRow : OpenClaim := { program := "ytkcnnbglmckmnaadoor", sum := "86a28d87378dd812521184c48117376009f888c2175d899adcbc6ace9ffc8099", func := "letterbox/letterboxlaw18.FindFlags", spec := "findFlags", inPlace := ["internal/bytealg.IndexByteString", "internal/bytealg.IndexString", "internal/bytealg.IndexByte", "internal/bytealg.Index"], unfollowed := true, recurses := true, named := ["internal/bytealg.MaxLen", "unicode/utf8.first", "unicode/utf8.acceptRanges"], apart := false, laid := [("unicode/utf8.acceptRanges", laid_unicode_utf8_acceptRanges), ("unicode/utf8.first", laid_unicode_utf8_first)], narrowed := true }
def FindFlagsUptoSaid : Prop := findFlagsUptoRow.holds Tryd.pinned (OpenSpec.upto findFlagsSpec)

/-- 'letterboxlaw18.FindTexts', WHERE WHAT IT READS IS OF BULK AT MOST 1048576: true; the input reads as it did. -/
def findTextsUptoRow : OpenClaim := { program := "ytkcnnbglmckmnaadoor", sum := "86a28d87378dd812521184c48117376009f888c2175d899adcbc6ace9ffc8099", func := "letterbox/letterboxlaw18.FindTexts", spec := "findTexts", inPlace := ["internal/bytealg.IndexByteString", "internal/bytealg.IndexString", "internal/bytealg.IndexByte", "internal/bytealg.Index"], unfollowed := true, recurses := true, named := ["internal/bytealg.MaxLen", "unicode/utf8.first", "unicode/utf8.acceptRanges"], apart := false, laid := [("unicode/utf8.acceptRanges", laid_unicode_utf8_acceptRanges), ("unicode/utf8.first", laid_unicode_utf8_first)], narrowed := true }
def FindTextsUptoSaid : Prop := findTextsUptoRow.holds Tryd.pinned (OpenSpec.upto findTextsSpec)

/-- 'letterboxlaw18.FindDeep', WHERE WHAT IT READS IS OF BULK AT MOST 1048576: true; the input reads as it did. -/
def findDeepUptoRow : OpenClaim := { program := "ytkcnnbglmckmnaadoor", sum := "86a28d87378dd812521184c48117376009f888c2175d899adcbc6ace9ffc8099", func := "letterbox/letterboxlaw18.FindDeep", spec := "findDeep", inPlace := ["internal/bytealg.IndexByteString", "internal/bytealg.IndexString", "internal/bytealg.IndexByte", "internal/bytealg.Index"], unfollowed := true, recurses := true, named := ["internal/bytealg.MaxLen", "unicode/utf8.first", "unicode/utf8.acceptRanges"], apart := false, laid := [("unicode/utf8.acceptRanges", laid_unicode_utf8_acceptRanges), ("unicode/utf8.first", laid_unicode_utf8_first)], narrowed := true }
def FindDeepUptoSaid : Prop := findDeepUptoRow.holds Tryd.pinned (OpenSpec.upto findDeepSpec)

/-- 'letterboxlaw18.FindSets', WHERE WHAT IT READS IS OF BULK AT MOST 1048576: true; the input reads as it did. -/
def findSetsUptoRow : OpenClaim := { program := "ytkcnnbglmckmnaadoor", sum := "86a28d87378dd812521184c48117376009f888c2175d899adcbc6ace9ffc8099", func := "letterbox/letterboxlaw18.FindSets", spec := "findSets", inPlace := ["internal/bytealg.IndexByteString", "internal/bytealg.IndexString", "internal/bytealg.IndexByte", "internal/bytealg.Index"], unfollowed := true, recurses := true, named := ["internal/bytealg.MaxLen", "unicode/utf8.first", "unicode/utf8.acceptRanges"], apart := false, laid := [("unicode/utf8.acceptRanges", laid_unicode_utf8_acceptRanges), ("unicode/utf8.first", laid_unicode_utf8_first)], narrowed := true }
def FindSetsUptoSaid : Prop := findSetsUptoRow.holds Tryd.pinned (OpenSpec.upto findSetsSpec)

end Rows
end Go.Proofs.YtkcnnbglmckmnaaDoor
