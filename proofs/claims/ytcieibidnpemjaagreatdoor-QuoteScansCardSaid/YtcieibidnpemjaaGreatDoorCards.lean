/-
  DERIVED. GIVEN WITH THE SEED: THE CARDS: each row of YtcieibidnpemjaaGreatDoorRows.lean that lists a variable, with what it lists TIED to the program's text (the seventh form; the later family's looks); each row that meets fmt, with fmt's text TOLD by the authors' own Lean function (tested against real Go, not proved from fmt's source: count such statements apart). THE CARD IS WHAT COUNTS. Prove the row's statement (the work); the ties are given (YtcieibidnpemjaaGreatDoorTie.lean); close each card by the builder's one call (the guide's Derived/Test/ToyasCard.lean, 'card_holds'). Laid BY PROGRAM, IN A SANDBOX (cutbox-door.mjs). By AI agents, Wed Nov 11 2026. No macro, syntax, notation, axiom, sorry.
-/
import Derived.Test.YtcieibidnpemjaaGreatDoorRows
import GoSem.ClaimSeven
namespace Go.Proofs.YtcieibidnpemjaaGreatDoor
namespace Rows

/-- THE TIED CARD OF 'cavillaw10.QuoteScans'. -/
def quoteScansCard : Claim7 := { stood := { row := quoteScansRow, standIns := [], harness := (true, "ed9e98ddbde3e69c3b2911344df71bc4861a396e93cb12743f83a72ca0ed10ed"), looks := true }, kinds := [], alts := [], laidByText := true, laidKinds := [.data, .data, .data, .data, .data, .sentinel, .sentinel, .pinned], laidTests := true, laidLooks := .later }
def QuoteScansCardSaid : Prop := Claim7.holds Tryz.pinned (.plain (OpenSpec.ofChange quoteScansSpec)) quoteScansCard

/-- THE SECOND FORM's CARD OF 'cavillaw10.QuoteScans'. -/
def quoteScansUptoCard : Claim7 := { stood := { row := quoteScansUptoRow, standIns := [], harness := (true, "ed9e98ddbde3e69c3b2911344df71bc4861a396e93cb12743f83a72ca0ed10ed"), looks := true }, kinds := [], alts := [], laidByText := true, laidKinds := [.data, .data, .data, .data, .data, .sentinel, .sentinel, .pinned], laidTests := true, laidLooks := .later }
def QuoteScansUptoCardSaid : Prop := Claim7.holds Tryz.pinned (.plain (OpenSpec.upto quoteScansSpec)) quoteScansUptoCard
end Rows
end Go.Proofs.YtcieibidnpemjaaGreatDoor
