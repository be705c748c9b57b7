/-
  DERIVED. GIVEN WITH THE SEED: THE CARDS: each row of YtblggoneifmoeaaDoorRows.lean that lists a variable, with what it lists TIED to the program's text (the seventh form; the later family's looks); each row that meets fmt, with fmt's text TOLD by the authors' own Lean function (tested against real Go, not proved from fmt's source: count such statements apart). THE CARD IS WHAT COUNTS. Prove the row's statement (the work); the ties are given (YtblggoneifmoeaaDoorTie.lean); close each card by the builder's one call (the guide's Derived/Test/ToyasCard.lean, 'card_holds'). Laid BY PROGRAM, IN A SANDBOX (cutbox-door.mjs). By AI agents, Wed Nov 11 2026. No macro, syntax, notation, axiom, sorry.
-/
import Derived.Test.YtblggoneifmoeaaDoorRows
import GoSem.ClaimSeven
namespace Go.Proofs.YtblggoneifmoeaaDoor
namespace Rows

/-- THE TIED CARD OF 'letterboxlaw5.LedgerKeeps'. -/
def ledgerKeepsCard : Claim7 := { stood := { row := ledgerKeepsRow, standIns := [], harness := (true, "cbeed64a879e4c6f30842517625745b2d7657e7b1ba6c5b49362144052834660"), looks := false }, kinds := [], alts := [], laidByText := true, laidKinds := [.data], laidTests := true, laidLooks := .later }
def LedgerKeepsCardSaid : Prop := Claim7.holds Tryd.pinned (.plain (OpenSpec.ofChange ledgerKeepsSpec)) ledgerKeepsCard

/-- THE TIED CARD OF 'letterboxlaw5.LedgerJumps'. -/
def ledgerJumpsCard : Claim7 := { stood := { row := ledgerJumpsRow, standIns := [], harness := (true, "cbeed64a879e4c6f30842517625745b2d7657e7b1ba6c5b49362144052834660"), looks := false }, kinds := [], alts := [], laidByText := true, laidKinds := [.data], laidTests := true, laidLooks := .later }
def LedgerJumpsCardSaid : Prop := Claim7.holds Tryd.pinned (.plain (OpenSpec.ofChange ledgerJumpsSpec)) ledgerJumpsCard

/-- THE TIED CARD OF 'letterboxlaw5.LedgerOfNothing'. -/
def ledgerOfNothingCard : Claim7 := { stood := { row := ledgerOfNothingRow, standIns := [], harness := (true, "cbeed64a879e4c6f30842517625745b2d7657e7b1ba6c5b49362144052834660"), looks := false }, kinds := [], alts := [], laidByText := true, laidKinds := [.data], laidTests := true, laidLooks := .later }
def LedgerOfNothingCardSaid : Prop := Claim7.holds Tryd.pinned (.plain (OpenSpec.ofChange ledgerOfNothingSpec)) ledgerOfNothingCard

/-- THE TIED CARD OF 'letterboxlaw5.LedgerTorn'. -/
def ledgerTornCard : Claim7 := { stood := { row := ledgerTornRow, standIns := [], harness := (true, "cbeed64a879e4c6f30842517625745b2d7657e7b1ba6c5b49362144052834660"), looks := false }, kinds := [], alts := [], laidByText := true, laidKinds := [.data], laidTests := true, laidLooks := .later }
def LedgerTornCardSaid : Prop := Claim7.holds Tryd.pinned (.plain (OpenSpec.ofChange ledgerTornSpec)) ledgerTornCard

/-- THE TIED CARD OF 'letterboxlaw5.LedgerApart'. -/
def ledgerApartCard : Claim7 := { stood := { row := ledgerApartRow, standIns := [], harness := (true, "cbeed64a879e4c6f30842517625745b2d7657e7b1ba6c5b49362144052834660"), looks := false }, kinds := [], alts := [], laidByText := true, laidKinds := [.data], laidTests := true, laidLooks := .later }
def LedgerApartCardSaid : Prop := Claim7.holds Tryd.pinned (.plain (OpenSpec.ofChange ledgerApartSpec)) ledgerApartCard

/-- THE SECOND FORM's CARD OF 'letterboxlaw5.LedgerKeeps'. -/
def ledgerKeepsUptoCard : Claim7 := { stood := { row := ledgerKeepsUptoRow, standIns := [], harness := (true, "cbeed64a879e4c6f30842517625745b2d7657e7b1ba6c5b49362144052834660"), looks := false }, kinds := [], alts := [], laidByText := true, laidKinds := [.data], laidTests := true, laidLooks := .later }
def LedgerKeepsUptoCardSaid : Prop := Claim7.holds Tryd.pinned (.plain (OpenSpec.upto ledgerKeepsSpec)) ledgerKeepsUptoCard

/-- THE SECOND FORM's CARD OF 'letterboxlaw5.LedgerJumps'. -/
def ledgerJumpsUptoCard : Claim7 := { stood := { row := ledgerJumpsUptoRow, standIns := [], harness := (true, "cbeed64a879e4c6f30842517625745b2d7657e7b1ba6c5b49362144052834660"), looks := false }, kinds := [], alts := [], laidByText := true, laidKinds := [.data], laidTests := true, laidLooks := .later }
def LedgerJumpsUptoCardSaid : Prop := Claim7.holds Tryd.pinned (.plain (OpenSpec.upto ledgerJumpsSpec)) ledgerJumpsUptoCard

/-- THE SECOND FORM's CARD OF 'letterboxlaw5.LedgerOfNothing'. -/
def ledgerOfNothingUptoCard : Claim7 := { stood := { row := ledgerOfNothingUptoRow, standIns := [], harness := (true, "cbeed64a879e4c6f30842517625745b2d7657e7b1ba6c5b49362144052834660"), looks := false }, kinds := [], alts := [], laidByText := true, laidKinds := [.data], laidTests := true, laidLooks := .later }
def LedgerOfNothingUptoCardSaid : Prop := Claim7.holds Tryd.pinned (.plain (OpenSpec.upto ledgerOfNothingSpec)) ledgerOfNothingUptoCard

/-- THE SECOND FORM's CARD OF 'letterboxlaw5.LedgerTorn'. -/
def ledgerTornUptoCard : Claim7 := { stood := { row := ledgerTornUptoRow, standIns := [], harness := (true, "cbeed64a879e4c6f30842517625745b2d7657e7b1ba6c5b49362144052834660"), looks := false }, kinds := [], alts := [], laidByText := true, laidKinds := [.data], laidTests := true, laidLooks := .later }
def LedgerTornUptoCardSaid : Prop := Claim7.holds Tryd.pinned (.plain (OpenSpec.upto ledgerTornSpec)) ledgerTornUptoCard

/-- THE SECOND FORM's CARD OF 'letterboxlaw5.LedgerApart'. -/
def ledgerApartUptoCard : Claim7 := { stood := { row := ledgerApartUptoRow, standIns := [], harness := (true, "cbeed64a879e4c6f30842517625745b2d7657e7b1ba6c5b49362144052834660"), looks := false }, kinds := [], alts := [], laidByText := true, laidKinds := [.data], laidTests := true, laidLooks := .later }
def LedgerApartUptoCardSaid : Prop := Claim7.holds Tryd.pinned (.plain (OpenSpec.upto ledgerApartSpec)) ledgerApartUptoCard
end Rows
end Go.Proofs.YtblggoneifmoeaaDoor
