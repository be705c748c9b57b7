/-
  NARROWER THAN 'FOR EVERY INPUT', by the rows' own cells (each row's printed sentence says how): LedgerKeeps: laid · LedgerJumps: laid · LedgerOfNothing: laid · LedgerTorn: laid · LedgerApart: laid.
  DERIVED. THE GIVEN ROWS OF THIS SEAT. 5 by the template 'for every input the law returns true; each argument reads behind the call as it read before'; 0 by the template 'total and deterministic' (their statements: YtblggoneifmoeaaDoorTotals.lean).
  GIVEN WITH THE SEED: the statements are not yours to turn. If you find one false, say at which input.
  Laid BY PROGRAM, IN A SANDBOX (cutbox-rows.mjs): the forced cells as the released guide's own fill.sh prints them over the translation 8a8d802a166df6ba… (all of the seat's roots in one cut). By AI agents, Wed Nov 11 2026. No macro, syntax, notation, axiom, sorry.
-/
import Derived.Test.YtblggoneifmoeaaDoorChecked
import GoSem.Claim
import GoSem.ClaimJoined
import GoSem.ClaimMapViews
import Derived.JoinedTies
import Derived.KernelRfl
namespace Go.Proofs.YtblggoneifmoeaaDoor
/- THE CELL 'sum', in the pinned program and in every row, IS THE sha256 OF THE DUMP (.gsa) THAT YtblggoneifmoeaaDoorProg.lean LOADS. Nothing in Lean hashes anything: it is a label: what it is worth is what the hold of that sum in a sandbox is worth. -/
noncomputable def Tryd.pinned : Pinned := { name := "ytblggoneifmoeaadoor", sum := "8a8d802a166df6ba52fae51627d5966bf07611234568b0ebdc04ef13bac7e92b", checked := Tryd.checked }
namespace Rows
def none {H : Type} : Left H := { results := [], args := [] }

/- WHAT THE LISTED PACKAGE-LEVEL VARIABLES READ AS WHEN THE CALL BEGINS. Each datum BY PROGRAM (the guide's laid-datum.mjs) off the statement by which the dump's own 'gosem.cut.vars' lays the variable. In a bare row this is a premise. The card (YtblggoneifmoeaaDoorCards.lean) ties it to the program's text. -/
def laid_letterbox_octet_remainders {H : Type} : DataW H := .agg [.lit (.int .u32 0), .lit (.int .u32 498536548), .lit (.int .u32 997073096), .lit (.int .u32 651767980), .lit (.int .u32 1994146192), .lit (.int .u32 1802195444), .lit (.int .u32 1303535960), .lit (.int .u32 1342533948), .lit (.int .u32 3988292384), .lit (.int .u32 4027552580), .lit (.int .u32 3604390888), .lit (.int .u32 3412177804), .lit (.int .u32 2607071920), .lit (.int .u32 2262029012), .lit (.int .u32 2685067896), .lit (.int .u32 3183342108)]

/-- 'letterboxlaw5.LedgerKeeps': WHATEVER THE INPUT: true; the input reads as it did. -/
def ledgerKeepsSpec : ChangeSpec := { name := "ledgerKeeps", fn := fun _ => fun
  | [d1, d2, d3, d4] => { results := [.lit (.bool true)], args := [d1, d2, d3, d4] }
  | _ => none }
def ledgerKeepsRow : OpenClaim := { program := "ytblggoneifmoeaadoor", sum := "8a8d802a166df6ba52fae51627d5966bf07611234568b0ebdc04ef13bac7e92b", func := "letterbox/letterboxlaw5.LedgerKeeps", spec := "ledgerKeeps", unfollowed := true, recurses := true, named := ["letterbox/octet.remainders"], apart := false, laid := [("letterbox/octet.remainders", laid_letterbox_octet_remainders)] }
def LedgerKeepsSaid : Prop := ledgerKeepsRow.holds Tryd.pinned (OpenSpec.ofChange ledgerKeepsSpec)

/-- ITS FALSE NEIGHBOUR: 'it returns false'. Refute it at one input. -/
def ledgerKeepsWrong : ChangeSpec := { name := "ledgerKeeps", fn := fun _ => fun
  | [d1, d2, d3, d4] => { results := [.lit (.bool false)], args := [d1, d2, d3, d4] }
  | _ => none }
def LedgerKeepsWrongFalsely : Prop := ledgerKeepsRow.holds Tryd.pinned (OpenSpec.ofChange ledgerKeepsWrong)

/-- 'letterboxlaw5.LedgerJumps': WHATEVER THE INPUT: true; the input reads as it did. -/
def ledgerJumpsSpec : ChangeSpec := { name := "ledgerJumps", fn := fun _ => fun
  | [d1, d2, d3, d4] => { results := [.lit (.bool true)], args := [d1, d2, d3, d4] }
  | _ => none }
def ledgerJumpsRow : OpenClaim := { program := "ytblggoneifmoeaadoor", sum := "8a8d802a166df6ba52fae51627d5966bf07611234568b0ebdc04ef13bac7e92b", func := "letterbox/letterboxlaw5.LedgerJumps", spec := "ledgerJumps", unfollowed := true, recurses := true, named := ["letterbox/octet.remainders"], apart := false, laid := [("letterbox/octet.remainders", laid_letterbox_octet_remainders)] }
def LedgerJumpsSaid : Prop := ledgerJumpsRow.holds Tryd.pinned (OpenSpec.ofChange ledgerJumpsSpec)

/-- ITS FALSE NEIGHBOUR: 'it returns false'. Refute it at one input. -/
def ledgerJumpsWrong : ChangeSpec := { name := "ledgerJumps", fn := fun _ => fun
  | [d1, d2, d3, d4] => { results := [.lit (.bool false)], args := [d1, d2, d3, d4] }
  | _ => none }
def LedgerJumpsWrongFalsely : Prop := ledgerJumpsRow.holds Tryd.pinned (OpenSpec.ofChange ledgerJumpsWrong)

/-- 'letterboxlaw5.LedgerOfNothing': WHATEVER THE INPUT: true; the input reads as it did. -/
def ledgerOfNothingSpec : ChangeSpec := { name := "ledgerOfNothing", fn := fun _ => fun
  | [d1, d2] => { results := [.lit (.bool true)], args := [d1, d2] }
  | _ => none }
def ledgerOfNothingRow : OpenClaim := { program := "ytblggoneifmoeaadoor", sum := "8a8d802a166df6ba52fae51627d5966bf07611234568b0ebdc04ef13bac7e92b", func := "letterbox/letterboxlaw5.LedgerOfNothing", spec := "ledgerOfNothing", unfollowed := true, recurses := true, named := ["letterbox/octet.remainders"], apart := false, laid := [("letterbox/octet.remainders", laid_letterbox_octet_remainders)] }
def LedgerOfNothingSaid : Prop := ledgerOfNothingRow.holds Tryd.pinned (OpenSpec.ofChange ledgerOfNothingSpec)

/-- ITS FALSE NEIGHBOUR: 'it returns false'. Refute it at one input. -/
def ledgerOfNothingWrong : ChangeSpec := { name := "ledgerOfNothing", fn := fun _ => fun
  | [d1, d2] => { results := [.lit (.bool false)], args := [d1, d2] }
  | _ => none }
def LedgerOfNothingWrongFalsely : Prop := ledgerOfNothingRow.holds Tryd.pinned (OpenSpec.ofChange ledgerOfNothingWrong)

/-- 'letterboxlaw5.LedgerTorn': WHATEVER THE INPUT: true; the input reads as it did. -/
def ledgerTornSpec : ChangeSpec := { name := "ledgerTorn", fn := fun _ => fun
  | [d1, d2] => { results := [.lit (.bool true)], args := [d1, d2] }
  | _ => none }
def ledgerTornRow : OpenClaim := { program := "ytblggoneifmoeaadoor", sum := "8a8d802a166df6ba52fae51627d5966bf07611234568b0ebdc04ef13bac7e92b", func := "letterbox/letterboxlaw5.LedgerTorn", spec := "ledgerTorn", unfollowed := true, recurses := true, named := ["letterbox/octet.remainders"], apart := false, laid := [("letterbox/octet.remainders", laid_letterbox_octet_remainders)] }
def LedgerTornSaid : Prop := ledgerTornRow.holds Tryd.pinned (OpenSpec.ofChange ledgerTornSpec)

/-- ITS FALSE NEIGHBOUR: 'it returns false'. Refute it at one input. -/
def ledgerTornWrong : ChangeSpec := { name := "ledgerTorn", fn := fun _ => fun
  | [d1, d2] => { results := [.lit (.bool false)], args := [d1, d2] }
  | _ => none }
def LedgerTornWrongFalsely : Prop := ledgerTornRow.holds Tryd.pinned (OpenSpec.ofChange ledgerTornWrong)

/-- 'letterboxlaw5.LedgerApart': WHATEVER THE INPUT: true; the input reads as it did. -/
def ledgerApartSpec : ChangeSpec := { name := "ledgerApart", fn := fun _ => fun
  | [d1, d2, d3, d4] => { results := [.lit (.bool true)], args := [d1, d2, d3, d4] }
  | _ => none }
def ledgerApartRow : OpenClaim := { program := "ytblggoneifmoeaadoor", sum := "8a8d802a166df6ba52fae51627d5966bf07611234568b0ebdc04ef13bac7e92b", func := "letterbox/letterboxlaw5.LedgerApart", spec := "ledgerApart", unfollowed := true, recurses := true, named := ["letterbox/octet.remainders"], apart := false, laid := [("letterbox/octet.remainders", laid_letterbox_octet_remainders)] }
def LedgerApartSaid : Prop := ledgerApartRow.holds Tryd.pinned (OpenSpec.ofChange ledgerApartSpec)

/-- ITS FALSE NEIGHBOUR: 'it returns false'. Refute it at one input. -/
def ledgerApartWrong : ChangeSpec := { name := "ledgerApart", fn := fun _ => fun
  | [d1, d2, d3, d4] => { results := [.lit (.bool false)], args := [d1, d2, d3, d4] }
  | _ => none }
def LedgerApartWrongFalsely : Prop := ledgerApartRow.holds Tryd.pinned (OpenSpec.ofChange ledgerApartWrong)

/- THE SECOND FORM. 'bulk': how many values and letters a reading holds, each counted each time it is reached (what is shared counts as often as it is met; a slice's spare places count too). A statement '..UptoSaid' is the law's where the arguments, and the package variables that the reading takes, are together of bulk at most 1048576: NARROWER than '..Said'. Prove '..Said' where nothing that the law and all that it calls make is longer than what came in: it says more and counts as full. Else prove '..UptoSaid'. A law counts once. -/
mutual
def uptoBulk {H : Type} : DataW H → Nat
  | .lit (.string bytes) => bytes.length + 1
  | .lit _ => 1
  | .nil => 1
  | .ptr d => uptoBulk d + 1
  | .slice elems spare => uptoBulkAll elems + uptoBulkAll spare + 1
  | .agg parts => uptoBulkAll parts + 1
  | .iface _ d => uptoBulk d + 1
  | .map entries => uptoBulkEntries entries + 1
  | .held _ => 1
def uptoBulkAll {H : Type} : List (DataW H) → Nat
  | [] => 0
  | d :: r => uptoBulk d + uptoBulkAll r
def uptoBulkEntries {H : Type} : List (Lit × DataW H) → Nat
  | [] => 0
  | x :: r => uptoBulkEntry x + uptoBulkEntries r
def uptoBulkEntry {H : Type} : Lit × DataW H → Nat
  | (.string bytes, d) => bytes.length + uptoBulk d + 1
  | (_, d) => uptoBulk d + 1
 end
def uptoSmall : (H : Type) → List (DataW H) → Bool := fun _ ds => decide (uptoBulkAll ds ≤ 1048576)
def OpenSpec.upto (s : _root_.Go.ChangeSpec) : _root_.Go.OpenSpec := { _root_.Go.OpenSpec.ofChange s with cond := some uptoSmall }

/-- 'letterboxlaw5.LedgerKeeps', WHERE WHAT IT READS IS OF BULK AT MOST 1048576: true; the input reads as it did. -/
def ledgerKeepsUptoRow : OpenClaim := { program := "ytblggoneifmoeaadoor", sum := "8a8d802a166df6ba52fae51627d5966bf07611234568b0ebdc04ef13bac7e92b", func := "letterbox/letterboxlaw5.LedgerKeeps", spec := "ledgerKeeps", unfollowed := true, recurses := true, named := ["letterbox/octet.remainders"], apart := false, laid := [("letterbox/octet.remainders", laid_letterbox_octet_remainders)], narrowed := true }
def LedgerKeepsUptoSaid : Prop := ledgerKeepsUptoRow.holds Tryd.pinned (OpenSpec.upto ledgerKeepsSpec)

/-- 'letterboxlaw5.LedgerJumps', WHERE WHAT IT READS IS OF BULK AT MOST 1048576: true; the input reads as it did. -/
def ledgerJumpsUptoRow : OpenClaim := { program := "ytblggoneifmoeaadoor", sum := "8a8d802a166df6ba52fae51627d5966bf07611234568b0ebdc04ef13bac7e92b", func := "letterbox/letterboxlaw5.LedgerJumps", spec := "ledgerJumps", unfollowed := true, recurses := true, named := ["letterbox/octet.remainders"], apart := false, laid := [("letterbox/octet.remainders", laid_letterbox_octet_remainders)], narrowed := true }
def LedgerJumpsUptoSaid : Prop := ledgerJumpsUptoRow.holds Tryd.pinned (OpenSpec.upto ledgerJumpsSpec)

/-- 'letterboxlaw5.LedgerOfNothing', WHERE WHAT IT READS IS OF BULK AT MOST 1048576: true; the input reads as it did. -/
def ledgerOfNothingUptoRow : OpenClaim := { program := "ytblggoneifmoeaadoor", sum := "8a8d802a166df6ba52fae51627d5966bf07611234568b0ebdc04ef13bac7e92b", func := "letterbox/letterboxlaw5.LedgerOfNothing", spec := "ledgerOfNothing", unfollowed := true, recurses := true, named := ["letterbox/octet.remainders"], apart := false, laid := [("letterbox/octet.remainders", laid_letterbox_octet_remainders)], narrowed := true }
def LedgerOfNothingUptoSaid : Prop := ledgerOfNothingUptoRow.holds Tryd.pinned (OpenSpec.upto ledgerOfNothingSpec)

/-- 'letterboxlaw5.LedgerTorn', WHERE WHAT IT READS IS OF BULK AT MOST 1048576: true; the input reads as it did. -/
def ledgerTornUptoRow : OpenClaim := { program := "ytblggoneifmoeaadoor", sum := "8a8d802a166df6ba52fae51627d5966bf07611234568b0ebdc04ef13bac7e92b", func := "letterbox/letterboxlaw5.LedgerTorn", spec := "ledgerTorn", unfollowed := true, recurses := true, named := ["letterbox/octet.remainders"], apart := false, laid := [("letterbox/octet.remainders", laid_letterbox_octet_remainders)], narrowed := true }
def LedgerTornUptoSaid : Prop := ledgerTornUptoRow.holds Tryd.pinned (OpenSpec.upto ledgerTornSpec)

/-- 'letterboxlaw5.LedgerApart', WHERE WHAT IT READS IS OF BULK AT MOST 1048576: true; the input reads as it did. -/
def ledgerApartUptoRow : OpenClaim := { program := "ytblggoneifmoeaadoor", sum := "8a8d802a166df6ba52fae51627d5966bf07611234568b0ebdc04ef13bac7e92b", func := "letterbox/letterboxlaw5.LedgerApart", spec := "ledgerApart", unfollowed := true, recurses := true, named := ["letterbox/octet.remainders"], apart := false, laid := [("letterbox/octet.remainders", laid_letterbox_octet_remainders)], narrowed := true }
def LedgerApartUptoSaid : Prop := ledgerApartUptoRow.holds Tryd.pinned (OpenSpec.upto ledgerApartSpec)

end Rows
end Go.Proofs.YtblggoneifmoeaaDoor
