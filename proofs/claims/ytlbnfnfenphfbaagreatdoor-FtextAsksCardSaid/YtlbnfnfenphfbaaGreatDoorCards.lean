/-
  DERIVED. GIVEN WITH THE SEED: THE CARDS: each row of YtlbnfnfenphfbaaGreatDoorRows.lean that lists a variable, with what it lists TIED to the program's text (the seventh form; the later family's looks); each row that meets fmt, with fmt's text TOLD by the authors' own Lean function (tested against real Go, not proved from fmt's source: count such statements apart). THE CARD IS WHAT COUNTS. Prove the row's statement (the work); the ties are given (YtlbnfnfenphfbaaGreatDoorTie.lean); close each card by the builder's one call (the guide's Derived/Test/ToyasCard.lean, 'card_holds'). Laid BY PROGRAM, IN A SANDBOX (cutbox-door.mjs). By AI agents, Wed Nov 11 2026. No macro, syntax, notation, axiom, sorry.
-/
import Derived.Test.YtlbnfnfenphfbaaGreatDoorRows
import GoSem.ClaimSeven
namespace Go.Proofs.YtlbnfnfenphfbaaGreatDoor
namespace Rows

/-- THE TIED CARD OF 'scarplaw3.FtextAsks'. -/
def ftextAsksCard : Claim7 := { stood := { row := ftextAsksRow, standIns := [], harness := (true, "9624611da2764e021605f566731ebd859fb6af06686785b1e1ae922378ed7595"), looks := true }, kinds := [], alts := [], laidByText := true, laidKinds := [.data, .data, .data, .data, .sentinel, .sentinel, .pinned], laidTests := true, laidLooks := .later }
def FtextAsksCardSaid : Prop := Claim7.holds Tryz.pinned (.plain (OpenSpec.ofChange ftextAsksSpec)) ftextAsksCard

/-- THE TIED CARD OF 'scarplaw3.FtextRounds'. -/
def ftextRoundsCard : Claim7 := { stood := { row := ftextRoundsRow, standIns := [], harness := (true, "9624611da2764e021605f566731ebd859fb6af06686785b1e1ae922378ed7595"), looks := true }, kinds := [], alts := [], laidByText := true, laidKinds := [.data, .data, .data, .data, .sentinel, .sentinel, .pinned], laidTests := true, laidLooks := .later }
def FtextRoundsCardSaid : Prop := Claim7.holds Tryz.pinned (.plain (OpenSpec.ofChange ftextRoundsSpec)) ftextRoundsCard

/-- THE TIED CARD OF 'scarplaw3.FtextWhole'. -/
def ftextWholeCard : Claim7 := { stood := { row := ftextWholeRow, standIns := [], harness := (true, "9624611da2764e021605f566731ebd859fb6af06686785b1e1ae922378ed7595"), looks := true }, kinds := [], alts := [], laidByText := true, laidKinds := [.data, .data, .data, .data, .sentinel, .sentinel, .pinned], laidTests := true, laidLooks := .later }
def FtextWholeCardSaid : Prop := Claim7.holds Tryz.pinned (.plain (OpenSpec.ofChange ftextWholeSpec)) ftextWholeCard

/-- THE SECOND FORM's CARD OF 'scarplaw3.FtextAsks'. -/
def ftextAsksUptoCard : Claim7 := { stood := { row := ftextAsksUptoRow, standIns := [], harness := (true, "9624611da2764e021605f566731ebd859fb6af06686785b1e1ae922378ed7595"), looks := true }, kinds := [], alts := [], laidByText := true, laidKinds := [.data, .data, .data, .data, .sentinel, .sentinel, .pinned], laidTests := true, laidLooks := .later }
def FtextAsksUptoCardSaid : Prop := Claim7.holds Tryz.pinned (.plain (OpenSpec.upto ftextAsksSpec)) ftextAsksUptoCard

/-- THE SECOND FORM's CARD OF 'scarplaw3.FtextRounds'. -/
def ftextRoundsUptoCard : Claim7 := { stood := { row := ftextRoundsUptoRow, standIns := [], harness := (true, "9624611da2764e021605f566731ebd859fb6af06686785b1e1ae922378ed7595"), looks := true }, kinds := [], alts := [], laidByText := true, laidKinds := [.data, .data, .data, .data, .sentinel, .sentinel, .pinned], laidTests := true, laidLooks := .later }
def FtextRoundsUptoCardSaid : Prop := Claim7.holds Tryz.pinned (.plain (OpenSpec.upto ftextRoundsSpec)) ftextRoundsUptoCard

/-- THE SECOND FORM's CARD OF 'scarplaw3.FtextWhole'. -/
def ftextWholeUptoCard : Claim7 := { stood := { row := ftextWholeUptoRow, standIns := [], harness := (true, "9624611da2764e021605f566731ebd859fb6af06686785b1e1ae922378ed7595"), looks := true }, kinds := [], alts := [], laidByText := true, laidKinds := [.data, .data, .data, .data, .sentinel, .sentinel, .pinned], laidTests := true, laidLooks := .later }
def FtextWholeUptoCardSaid : Prop := Claim7.holds Tryz.pinned (.plain (OpenSpec.upto ftextWholeSpec)) ftextWholeUptoCard
end Rows
end Go.Proofs.YtlbnfnfenphfbaaGreatDoor
