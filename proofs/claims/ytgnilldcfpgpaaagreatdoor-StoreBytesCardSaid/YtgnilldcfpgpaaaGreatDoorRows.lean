/-
  NARROWER THAN 'FOR EVERY INPUT', by the rows' own cells (each row's printed sentence says how): StorePlays: laid · StoreBytes: laid · StoreBack: laid · StoreLasts: laid · StoreErrs: laid · StoreReopens: laid · StoreOfNothing: laid · StoreUsers: laid · StoreMoves: laid · StoreCopies: laid.
  DERIVED. THE GIVEN ROWS OF THIS SEAT. 10 by the template 'for every input the law returns true; each argument reads behind the call as it read before'; 0 by the template 'total and deterministic' (their statements: YtgnilldcfpgpaaaGreatDoorTotals.lean).
  GIVEN WITH THE SEED: the statements are not yours to turn. If you find one false, say at which input.
  Laid BY PROGRAM, IN A SANDBOX (cutbox-rows.mjs): the forced cells as the released guide's own fill.sh prints them over the translation 4dce1e2f3b26ef83… (all of the seat's roots in one cut). By AI agents, Wed Nov 11 2026. No macro, syntax, notation, axiom, sorry.
-/
import Derived.Test.YtgnilldcfpgpaaaGreatDoorChecked
import GoSem.Claim
import GoSem.ClaimJoined
import GoSem.ClaimMapViews
import Derived.JoinedTies
import Derived.KernelRfl
namespace Go.Proofs.YtgnilldcfpgpaaaGreatDoor
/- THE CELL 'sum', in the pinned program and in every row, IS THE sha256 OF THE DUMP (.gsa) THAT YtgnilldcfpgpaaaGreatDoorProg.lean LOADS. Nothing in Lean hashes anything: it is a label: what it is worth is what the hold of that sum in a sandbox is worth. -/
noncomputable def Tryz.pinned : Pinned := { name := "ytgnilldcfpgpaaagreatdoor", sum := "4dce1e2f3b26ef832b18a6b2a6d983dd094ba14509042ae9e33ef832cc16d109", checked := Tryz.checked }
namespace Rows
def none {H : Type} : Left H := { results := [], args := [] }

/- WHAT THE LISTED PACKAGE-LEVEL VARIABLES READ AS WHEN THE CALL BEGINS. Each datum BY PROGRAM (the guide's laid-datum.mjs) off the statement by which the dump's own 'gosem.cut.vars' lays the variable. In a bare row this is a premise. The card (YtgnilldcfpgpaaaGreatDoorCards.lean) ties it to the program's text. -/
def laid_letterbox_octet_remainders {H : Type} : DataW H := .agg [.lit (.int .u32 0), .lit (.int .u32 498536548), .lit (.int .u32 997073096), .lit (.int .u32 651767980), .lit (.int .u32 1994146192), .lit (.int .u32 1802195444), .lit (.int .u32 1303535960), .lit (.int .u32 1342533948), .lit (.int .u32 3988292384), .lit (.int .u32 4027552580), .lit (.int .u32 3604390888), .lit (.int .u32 3412177804), .lit (.int .u32 2607071920), .lit (.int .u32 2262029012), .lit (.int .u32 2685067896), .lit (.int .u32 3183342108)]
def laid_letterbox_store_named {H : Type} : DataW H := .agg [.lit (.int .i64 0), .lit (.int .i64 1), .lit (.int .i64 2), .lit (.int .i64 2), .lit (.int .i64 6), .lit (.int .i64 226), .lit (.int .i64 58), .lit (.int .i64 10), .lit (.int .i64 14)]

/-- 'letterboxlaw14.StorePlays': WHATEVER THE INPUT: true; the input reads as it did. -/
def storePlaysSpec : ChangeSpec := { name := "storePlays", fn := fun _ => fun
  | [d] => { results := [.lit (.bool true)], args := [d] }
  | _ => none }
def storePlaysRow : OpenClaim := { program := "ytgnilldcfpgpaaagreatdoor", sum := "4dce1e2f3b26ef832b18a6b2a6d983dd094ba14509042ae9e33ef832cc16d109", func := "letterbox/letterboxlaw14.StorePlays", spec := "storePlays", inPlace := ["maps.clone"], unfollowed := true, recurses := true, named := ["letterbox/octet.remainders", "letterbox/store.named"], apart := false, laid := [("letterbox/octet.remainders", laid_letterbox_octet_remainders), ("letterbox/store.named", laid_letterbox_store_named)] }
def StorePlaysSaid : Prop := storePlaysRow.holds Tryz.pinned (OpenSpec.ofChange storePlaysSpec)

/-- ITS FALSE NEIGHBOUR: 'it returns false'. Refute it at one input. -/
def storePlaysWrong : ChangeSpec := { name := "storePlays", fn := fun _ => fun
  | [d] => { results := [.lit (.bool false)], args := [d] }
  | _ => none }
def StorePlaysWrongFalsely : Prop := storePlaysRow.holds Tryz.pinned (OpenSpec.ofChange storePlaysWrong)

/-- 'letterboxlaw14.StoreBytes': WHATEVER THE INPUT: true; the input reads as it did. -/
def storeBytesSpec : ChangeSpec := { name := "storeBytes", fn := fun _ => fun
  | [d1, d2] => { results := [.lit (.bool true)], args := [d1, d2] }
  | _ => none }
def storeBytesRow : OpenClaim := { program := "ytgnilldcfpgpaaagreatdoor", sum := "4dce1e2f3b26ef832b18a6b2a6d983dd094ba14509042ae9e33ef832cc16d109", func := "letterbox/letterboxlaw14.StoreBytes", spec := "storeBytes", inPlace := ["maps.clone"], unfollowed := true, recurses := true, named := ["letterbox/store.named", "letterbox/octet.remainders"], apart := false, laid := [("letterbox/octet.remainders", laid_letterbox_octet_remainders), ("letterbox/store.named", laid_letterbox_store_named)] }
def StoreBytesSaid : Prop := storeBytesRow.holds Tryz.pinned (OpenSpec.ofChange storeBytesSpec)

/-- ITS FALSE NEIGHBOUR: 'it returns false'. Refute it at one input. -/
def storeBytesWrong : ChangeSpec := { name := "storeBytes", fn := fun _ => fun
  | [d1, d2] => { results := [.lit (.bool false)], args := [d1, d2] }
  | _ => none }
def StoreBytesWrongFalsely : Prop := storeBytesRow.holds Tryz.pinned (OpenSpec.ofChange storeBytesWrong)

/-- 'letterboxlaw14.StoreBack': WHATEVER THE INPUT: true; the input reads as it did. -/
def storeBackSpec : ChangeSpec := { name := "storeBack", fn := fun _ => fun
  | [d1, d2, d3] => { results := [.lit (.bool true)], args := [d1, d2, d3] }
  | _ => none }
def storeBackRow : OpenClaim := { program := "ytgnilldcfpgpaaagreatdoor", sum := "4dce1e2f3b26ef832b18a6b2a6d983dd094ba14509042ae9e33ef832cc16d109", func := "letterbox/letterboxlaw14.StoreBack", spec := "storeBack", inPlace := ["maps.clone"], unfollowed := true, recurses := true, named := ["letterbox/store.named", "letterbox/octet.remainders"], apart := false, laid := [("letterbox/octet.remainders", laid_letterbox_octet_remainders), ("letterbox/store.named", laid_letterbox_store_named)] }
def StoreBackSaid : Prop := storeBackRow.holds Tryz.pinned (OpenSpec.ofChange storeBackSpec)

/-- ITS FALSE NEIGHBOUR: 'it returns false'. Refute it at one input. -/
def storeBackWrong : ChangeSpec := { name := "storeBack", fn := fun _ => fun
  | [d1, d2, d3] => { results := [.lit (.bool false)], args := [d1, d2, d3] }
  | _ => none }
def StoreBackWrongFalsely : Prop := storeBackRow.holds Tryz.pinned (OpenSpec.ofChange storeBackWrong)

/-- 'letterboxlaw14.StoreLasts': WHATEVER THE INPUT: true; the input reads as it did. -/
def storeLastsSpec : ChangeSpec := { name := "storeLasts", fn := fun _ => fun
  | [d1, d2, d3] => { results := [.lit (.bool true)], args := [d1, d2, d3] }
  | _ => none }
def storeLastsRow : OpenClaim := { program := "ytgnilldcfpgpaaagreatdoor", sum := "4dce1e2f3b26ef832b18a6b2a6d983dd094ba14509042ae9e33ef832cc16d109", func := "letterbox/letterboxlaw14.StoreLasts", spec := "storeLasts", inPlace := ["maps.clone"], unfollowed := true, recurses := true, named := ["letterbox/octet.remainders", "letterbox/store.named"], apart := false, laid := [("letterbox/octet.remainders", laid_letterbox_octet_remainders), ("letterbox/store.named", laid_letterbox_store_named)] }
def StoreLastsSaid : Prop := storeLastsRow.holds Tryz.pinned (OpenSpec.ofChange storeLastsSpec)

/-- ITS FALSE NEIGHBOUR: 'it returns false'. Refute it at one input. -/
def storeLastsWrong : ChangeSpec := { name := "storeLasts", fn := fun _ => fun
  | [d1, d2, d3] => { results := [.lit (.bool false)], args := [d1, d2, d3] }
  | _ => none }
def StoreLastsWrongFalsely : Prop := storeLastsRow.holds Tryz.pinned (OpenSpec.ofChange storeLastsWrong)

/-- 'letterboxlaw14.StoreErrs': WHATEVER THE INPUT: true; the input reads as it did. -/
def storeErrsSpec : ChangeSpec := { name := "storeErrs", fn := fun _ => fun
  | [d] => { results := [.lit (.bool true)], args := [d] }
  | _ => none }
def storeErrsRow : OpenClaim := { program := "ytgnilldcfpgpaaagreatdoor", sum := "4dce1e2f3b26ef832b18a6b2a6d983dd094ba14509042ae9e33ef832cc16d109", func := "letterbox/letterboxlaw14.StoreErrs", spec := "storeErrs", inPlace := ["maps.clone"], unfollowed := true, recurses := true, named := ["letterbox/octet.remainders", "letterbox/store.named"], apart := false, laid := [("letterbox/octet.remainders", laid_letterbox_octet_remainders), ("letterbox/store.named", laid_letterbox_store_named)] }
def StoreErrsSaid : Prop := storeErrsRow.holds Tryz.pinned (OpenSpec.ofChange storeErrsSpec)

/-- ITS FALSE NEIGHBOUR: 'it returns false'. Refute it at one input. -/
def storeErrsWrong : ChangeSpec := { name := "storeErrs", fn := fun _ => fun
  | [d] => { results := [.lit (.bool false)], args := [d] }
  | _ => none }
def StoreErrsWrongFalsely : Prop := storeErrsRow.holds Tryz.pinned (OpenSpec.ofChange storeErrsWrong)

/-- 'letterboxlaw14.StoreReopens': WHATEVER THE INPUT: true; the input reads as it did. -/
def storeReopensSpec : ChangeSpec := { name := "storeReopens", fn := fun _ => fun
  | [d] => { results := [.lit (.bool true)], args := [d] }
  | _ => none }
def storeReopensRow : OpenClaim := { program := "ytgnilldcfpgpaaagreatdoor", sum := "4dce1e2f3b26ef832b18a6b2a6d983dd094ba14509042ae9e33ef832cc16d109", func := "letterbox/letterboxlaw14.StoreReopens", spec := "storeReopens", inPlace := ["maps.clone"], unfollowed := true, recurses := true, named := ["letterbox/octet.remainders", "letterbox/store.named"], apart := false, laid := [("letterbox/octet.remainders", laid_letterbox_octet_remainders), ("letterbox/store.named", laid_letterbox_store_named)] }
def StoreReopensSaid : Prop := storeReopensRow.holds Tryz.pinned (OpenSpec.ofChange storeReopensSpec)

/-- ITS FALSE NEIGHBOUR: 'it returns false'. Refute it at one input. -/
def storeReopensWrong : ChangeSpec := { name := "storeReopens", fn := fun _ => fun
  | [d] => { results := [.lit (.bool false)], args := [d] }
  | _ => none }
def StoreReopensWrongFalsely : Prop := storeReopensRow.holds Tryz.pinned (OpenSpec.ofChange storeReopensWrong)

/-- 'letterboxlaw14.StoreOfNothing': WHATEVER THE INPUT: true; the input reads as it did. -/
def storeOfNothingSpec : ChangeSpec := { name := "storeOfNothing", fn := fun _ => fun
  | [d] => { results := [.lit (.bool true)], args := [d] }
  | _ => none }
def storeOfNothingRow : OpenClaim := { program := "ytgnilldcfpgpaaagreatdoor", sum := "4dce1e2f3b26ef832b18a6b2a6d983dd094ba14509042ae9e33ef832cc16d109", func := "letterbox/letterboxlaw14.StoreOfNothing", spec := "storeOfNothing", inPlace := ["maps.clone"], unfollowed := true, recurses := true, named := ["letterbox/store.named", "letterbox/octet.remainders"], apart := false, laid := [("letterbox/octet.remainders", laid_letterbox_octet_remainders), ("letterbox/store.named", laid_letterbox_store_named)] }
def StoreOfNothingSaid : Prop := storeOfNothingRow.holds Tryz.pinned (OpenSpec.ofChange storeOfNothingSpec)

/-- ITS FALSE NEIGHBOUR: 'it returns false'. Refute it at one input. -/
def storeOfNothingWrong : ChangeSpec := { name := "storeOfNothing", fn := fun _ => fun
  | [d] => { results := [.lit (.bool false)], args := [d] }
  | _ => none }
def StoreOfNothingWrongFalsely : Prop := storeOfNothingRow.holds Tryz.pinned (OpenSpec.ofChange storeOfNothingWrong)

/-- 'letterboxlaw14.StoreUsers': WHATEVER THE INPUT: true; the input reads as it did. -/
def storeUsersSpec : ChangeSpec := { name := "storeUsers", fn := fun _ => fun
  | [d] => { results := [.lit (.bool true)], args := [d] }
  | _ => none }
def storeUsersRow : OpenClaim := { program := "ytgnilldcfpgpaaagreatdoor", sum := "4dce1e2f3b26ef832b18a6b2a6d983dd094ba14509042ae9e33ef832cc16d109", func := "letterbox/letterboxlaw14.StoreUsers", spec := "storeUsers", inPlace := ["maps.clone"], unfollowed := true, recurses := true, named := ["letterbox/octet.remainders", "letterbox/store.named"], apart := false, laid := [("letterbox/octet.remainders", laid_letterbox_octet_remainders), ("letterbox/store.named", laid_letterbox_store_named)] }
def StoreUsersSaid : Prop := storeUsersRow.holds Tryz.pinned (OpenSpec.ofChange storeUsersSpec)

/-- ITS FALSE NEIGHBOUR: 'it returns false'. Refute it at one input. -/
def storeUsersWrong : ChangeSpec := { name := "storeUsers", fn := fun _ => fun
  | [d] => { results := [.lit (.bool false)], args := [d] }
  | _ => none }
def StoreUsersWrongFalsely : Prop := storeUsersRow.holds Tryz.pinned (OpenSpec.ofChange storeUsersWrong)

/-- 'letterboxlaw14.StoreMoves': WHATEVER THE INPUT: true; the input reads as it did. -/
def storeMovesSpec : ChangeSpec := { name := "storeMoves", fn := fun _ => fun
  | [d1, d2] => { results := [.lit (.bool true)], args := [d1, d2] }
  | _ => none }
def storeMovesRow : OpenClaim := { program := "ytgnilldcfpgpaaagreatdoor", sum := "4dce1e2f3b26ef832b18a6b2a6d983dd094ba14509042ae9e33ef832cc16d109", func := "letterbox/letterboxlaw14.StoreMoves", spec := "storeMoves", inPlace := ["maps.clone"], unfollowed := true, recurses := true, named := ["letterbox/octet.remainders", "letterbox/store.named"], apart := false, laid := [("letterbox/octet.remainders", laid_letterbox_octet_remainders), ("letterbox/store.named", laid_letterbox_store_named)] }
def StoreMovesSaid : Prop := storeMovesRow.holds Tryz.pinned (OpenSpec.ofChange storeMovesSpec)

/-- ITS FALSE NEIGHBOUR: 'it returns false'. Refute it at one input. -/
def storeMovesWrong : ChangeSpec := { name := "storeMoves", fn := fun _ => fun
  | [d1, d2] => { results := [.lit (.bool false)], args := [d1, d2] }
  | _ => none }
def StoreMovesWrongFalsely : Prop := storeMovesRow.holds Tryz.pinned (OpenSpec.ofChange storeMovesWrong)

/-- 'letterboxlaw14.StoreCopies': WHATEVER THE INPUT: true; the input reads as it did. -/
def storeCopiesSpec : ChangeSpec := { name := "storeCopies", fn := fun _ => fun
  | [d1, d2, d3] => { results := [.lit (.bool true)], args := [d1, d2, d3] }
  | _ => none }
def storeCopiesRow : OpenClaim := { program := "ytgnilldcfpgpaaagreatdoor", sum := "4dce1e2f3b26ef832b18a6b2a6d983dd094ba14509042ae9e33ef832cc16d109", func := "letterbox/letterboxlaw14.StoreCopies", spec := "storeCopies", inPlace := ["maps.clone"], unfollowed := true, recurses := true, named := ["letterbox/octet.remainders", "letterbox/store.named"], apart := false, laid := [("letterbox/octet.remainders", laid_letterbox_octet_remainders), ("letterbox/store.named", laid_letterbox_store_named)] }
def StoreCopiesSaid : Prop := storeCopiesRow.holds Tryz.pinned (OpenSpec.ofChange storeCopiesSpec)

/-- ITS FALSE NEIGHBOUR: 'it returns false'. Refute it at one input. -/
def storeCopiesWrong : ChangeSpec := { name := "storeCopies", fn := fun _ => fun
  | [d1, d2, d3] => { results := [.lit (.bool false)], args := [d1, d2, d3] }
  | _ => none }
def StoreCopiesWrongFalsely : Prop := storeCopiesRow.holds Tryz.pinned (OpenSpec.ofChange storeCopiesWrong)

/- THE SECOND FORM. 'bulk': how many values and letters a reading holds, each counted each time it is reached (what is shared counts as often as it is met; a slice's spare places count too). A statement '..UptoSaid' is the law's where the arguments, and the package variables that the reading takes, are together of bulk at most 1048576: NARROWER than '..Said'. Prove '..Said' where nothing that the law and all that it calls make is longer than what came in: it says more and counts as full. Else prove '..UptoSaid'. A law counts once. -/
mutual
def uptoBulk {H : Type} : DataW H → Nat
  | .lit (.string bytes) => bytes.length + 1
  | .lit _ => 1
  | .nil => 1
  | .ptr d => uptoBulk d + 1
  | .slice elems spare => uptoBulkAll elems + uptoBulkAll spare + 1
  | .agg parts => uptoBulkAll parts + 1
  | .iface _ d => uptoBulk d + 1
  | .map entries => uptoBulkEntries entries + 1
  | .held _ => 1
def uptoBulkAll {H : Type} : List (DataW H) → Nat
  | [] => 0
  | d :: r => uptoBulk d + uptoBulkAll r
def uptoBulkEntries {H : Type} : List (Lit × DataW H) → Nat
  | [] => 0
  | x :: r => uptoBulkEntry x + uptoBulkEntries r
def uptoBulkEntry {H : Type} : Lit × DataW H → Nat
  | (.string bytes, d) => bytes.length + uptoBulk d + 1
  | (_, d) => uptoBulk d + 1
 end
def uptoSmall : (H : Type) → List (DataW H) → Bool := fun _ ds => decide (uptoBulkAll ds ≤ 1048576)
def OpenSpec.upto (s : _root_.Go.ChangeSpec) : _root_.Go.OpenSpec := { _root_.Go.OpenSpec.ofChange s with cond := some uptoSmall }

/-- 'letterboxlaw14.StorePlays', WHERE WHAT IT READS IS OF BULK AT MOST 1048576: true; the input reads as it did. -/
def storePlaysUptoRow : OpenClaim := { program := "ytgnilldcfpgpaaagreatdoor", sum := "4dce1e2f3b26ef832b18a6b2a6d983dd094ba14509042ae9e33ef832cc16d109", func := "letterbox/letterboxlaw14.StorePlays", spec := "storePlays", inPlace := ["maps.clone"], unfollowed := true, recurses := true, named := ["letterbox/octet.remainders", "letterbox/store.named"], apart := false, laid := [("letterbox/octet.remainders", laid_letterbox_octet_remainders), ("letterbox/store.named", laid_letterbox_store_named)], narrowed := true }
def StorePlaysUptoSaid : Prop := storePlaysUptoRow.holds Tryz.pinned (OpenSpec.upto storePlaysSpec)

/-- 'letterboxlaw14.StoreBytes', WHERE WHAT IT READS IS OF BULK AT MOST 1048576: true; the input reads as it did. -/
def storeBytesUptoRow : OpenClaim := { program := "ytgnilldcfpgpaaagreatdoor", sum := "4dce1e2f3b26ef832b18a6b2a6d983dd094ba14509042ae9e33ef832cc16d109", func := "letterbox/letterboxlaw14.StoreBytes", spec := "storeBytes", inPlace := ["maps.clone"], unfollowed := true, recurses := true, named := ["letterbox/store.named", "letterbox/octet.remainders"], apart := false, laid := [("letterbox/octet.remainders", laid_letterbox_octet_remainders), ("letterbox/store.named", laid_letterbox_store_named)], narrowed := true }
def StoreBytesUptoSaid : Prop := storeBytesUptoRow.holds Tryz.pinned (OpenSpec.upto storeBytesSpec)

/-- 'letterboxlaw14.StoreBack', WHERE WHAT IT READS IS OF BULK AT MOST 1048576: true; the input reads as it did. -/
def storeBackUptoRow : OpenClaim := { program := "ytgnilldcfpgpaaagreatdoor", sum := "4dce1e2f3b26ef832b18a6b2a6d983dd094ba14509042ae9e33ef832cc16d109", func := "letterbox/letterboxlaw14.StoreBack", spec := "storeBack", inPlace := ["maps.clone"], unfollowed := true, recurses := true, named := ["letterbox/store.named", "letterbox/octet.remainders"], apart := false, laid := [("letterbox/octet.remainders", laid_letterbox_octet_remainders), ("letterbox/store.named", laid_letterbox_store_named)], narrowed := true }
def StoreBackUptoSaid : Prop := storeBackUptoRow.holds Tryz.pinned (OpenSpec.upto storeBackSpec)

/-- 'letterboxlaw14.StoreLasts', WHERE WHAT IT READS IS OF BULK AT MOST 1048576: true; the input reads as it did. -/
def storeLastsUptoRow : OpenClaim := { program := "ytgnilldcfpgpaaagreatdoor", sum := "4dce1e2f3b26ef832b18a6b2a6d983dd094ba14509042ae9e33ef832cc16d109", func := "letterbox/letterboxlaw14.StoreLasts", spec := "storeLasts", inPlace := ["maps.clone"], unfollowed := true, recurses := true, named := ["letterbox/octet.remainders", "letterbox/store.named"], apart := false, laid := [("letterbox/octet.remainders", laid_letterbox_octet_remainders), ("letterbox/store.named", laid_letterbox_store_named)], narrowed := true }
def StoreLastsUptoSaid : Prop := storeLastsUptoRow.holds Tryz.pinned (OpenSpec.upto storeLastsSpec)

/-- 'letterboxlaw14.StoreErrs', WHERE WHAT IT READS IS OF BULK AT MOST 1048576: true; the input reads as it did. -/
def storeErrsUptoRow : OpenClaim := { program := "ytgnilldcfpgpaaagreatdoor", sum := "4dce1e2f3b26ef832b18a6b2a6d983dd094ba14509042ae9e33ef832cc16d109", func := "letterbox/letterboxlaw14.StoreErrs", spec := "storeErrs", inPlace := ["maps.clone"], unfollowed := true, recurses := true, named := ["letterbox/octet.remainders", "letterbox/store.named"], apart := false, laid := [("letterbox/octet.remainders", laid_letterbox_octet_remainders), ("letterbox/store.named", laid_letterbox_store_named)], narrowed := true }
def StoreErrsUptoSaid : Prop := storeErrsUptoRow.holds Tryz.pinned (OpenSpec.upto storeErrsSpec)

/-- 'letterboxlaw14.StoreReopens', WHERE WHAT IT READS IS OF BULK AT MOST 1048576: true; the input reads as it did. -/
def storeReopensUptoRow : OpenClaim := { program := "ytgnilldcfpgpaaagreatdoor", sum := "4dce1e2f3b26ef832b18a6b2a6d983dd094ba14509042ae9e33ef832cc16d109", func := "letterbox/letterboxlaw14.StoreReopens", spec := "storeReopens", inPlace := ["maps.clone"], unfollowed := true, recurses := true, named := ["letterbox/octet.remainders", "letterbox/store.named"], apart := false, laid := [("letterbox/octet.remainders", laid_letterbox_octet_remainders), ("letterbox/store.named", laid_letterbox_store_named)], narrowed := true }
def StoreReopensUptoSaid : Prop := storeReopensUptoRow.holds Tryz.pinned (OpenSpec.upto storeReopensSpec)

/-- 'letterboxlaw14.StoreOfNothing', WHERE WHAT IT READS IS OF BULK AT MOST 1048576: true; the input reads as it did. -/
def storeOfNothingUptoRow : OpenClaim := { program := "ytgnilldcfpgpaaagreatdoor", sum := "4dce1e2f3b26ef832b18a6b2a6d983dd094ba14509042ae9e33ef832cc16d109", func := "letterbox/letterboxlaw14.StoreOfNothing", spec := "storeOfNothing", inPlace := ["maps.clone"], unfollowed := true, recurses := true, named := ["letterbox/store.named", "letterbox/octet.remainders"], apart := false, laid := [("letterbox/octet.remainders", laid_letterbox_octet_remainders), ("letterbox/store.named", laid_letterbox_store_named)], narrowed := true }
def StoreOfNothingUptoSaid : Prop := storeOfNothingUptoRow.holds Tryz.pinned (OpenSpec.upto storeOfNothingSpec)

/-- 'letterboxlaw14.StoreUsers', WHERE WHAT IT READS IS OF BULK AT MOST 1048576: true; the input reads as it did. -/
def storeUsersUptoRow : OpenClaim := { program := "ytgnilldcfpgpaaagreatdoor", sum := "4dce1e2f3b26ef832b18a6b2a6d983dd094ba14509042ae9e33ef832cc16d109", func := "letterbox/letterboxlaw14.StoreUsers", spec := "storeUsers", inPlace := ["maps.clone"], unfollowed := true, recurses := true, named := ["letterbox/octet.remainders", "letterbox/store.named"], apart := false, laid := [("letterbox/octet.remainders", laid_letterbox_octet_remainders), ("letterbox/store.named", laid_letterbox_store_named)], narrowed := true }
def StoreUsersUptoSaid : Prop := storeUsersUptoRow.holds Tryz.pinned (OpenSpec.upto storeUsersSpec)

/-- 'letterboxlaw14.StoreMoves', WHERE WHAT IT READS IS OF BULK AT MOST 1048576: true; the input reads as it did. -/
def storeMovesUptoRow : OpenClaim := { program := "ytgnilldcfpgpaaagreatdoor", sum := "4dce1e2f3b26ef832b18a6b2a6d983dd094ba14509042ae9e33ef832cc16d109", func := "letterbox/letterboxlaw14.StoreMoves", spec := "storeMoves", inPlace := ["maps.clone"], unfollowed := true, recurses := true, named := ["letterbox/octet.remainders", "letterbox/store.named"], apart := false, laid := [("letterbox/octet.remainders", laid_letterbox_octet_remainders), ("letterbox/store.named", laid_letterbox_store_named)], narrowed := true }
def StoreMovesUptoSaid : Prop := storeMovesUptoRow.holds Tryz.pinned (OpenSpec.upto storeMovesSpec)

/-- 'letterboxlaw14.StoreCopies', WHERE WHAT IT READS IS OF BULK AT MOST 1048576: true; the input reads as it did. -/
def storeCopiesUptoRow : OpenClaim := { program := "ytgnilldcfpgpaaagreatdoor", sum := "4dce1e2f3b26ef832b18a6b2a6d983dd094ba14509042ae9e33ef832cc16d109", func := "letterbox/letterboxlaw14.StoreCopies", spec := "storeCopies", inPlace := ["maps.clone"], unfollowed := true, recurses := true, named := ["letterbox/octet.remainders", "letterbox/store.named"], apart := false, laid := [("letterbox/octet.remainders", laid_letterbox_octet_remainders), ("letterbox/store.named", laid_letterbox_store_named)], narrowed := true }
def StoreCopiesUptoSaid : Prop := storeCopiesUptoRow.holds Tryz.pinned (OpenSpec.upto storeCopiesSpec)

end Rows
end Go.Proofs.YtgnilldcfpgpaaaGreatDoor
