/-
  DERIVED. GIVEN WITH THE SEED: THE CARDS: each row of YtpjgapnihmiceaaDoorRows.lean that lists a variable, with what it lists TIED to the program's text (the seventh form; the later family's looks); each row that meets fmt, with fmt's text TOLD by the authors' own Lean function (tested against real Go, not proved from fmt's source: count such statements apart). THE CARD IS WHAT COUNTS. Prove the row's statement (the work); the ties are given (YtpjgapnihmiceaaDoorTie.lean); close each card by the builder's one call (the guide's Derived/Test/ToyasCard.lean, 'card_holds'). Laid BY PROGRAM, IN A SANDBOX (cutbox-door.mjs). By AI agents, Wed Nov 11 2026. No macro, syntax, notation, axiom, sorry.
-/
import Derived.Test.YtpjgapnihmiceaaDoorRows
import GoSem.ClaimSeven
namespace Go.Proofs.YtpjgapnihmiceaaDoor
namespace Rows

/-- THE TIED CARD OF 'cavillaw15.ViewNodes'. -/
def viewNodesCard : Claim7 := { stood := { row := viewNodesRow, standIns := [], harness := (true, "9d305e2570f0edae638e9aefa464df6bbb3d660e974ec894503a45ac937ccd21"), looks := true }, kinds := [], alts := [], laidByText := true, laidKinds := [.handle], laidTests := true, laidLooks := .later }
def ViewNodesCardSaid : Prop := Claim7.holds Tryd.pinned (.plain (OpenSpec.ofChange viewNodesSpec)) viewNodesCard

/-- THE SECOND FORM's CARD OF 'cavillaw15.ViewNodes'. -/
def viewNodesUptoCard : Claim7 := { stood := { row := viewNodesUptoRow, standIns := [], harness := (true, "9d305e2570f0edae638e9aefa464df6bbb3d660e974ec894503a45ac937ccd21"), looks := true }, kinds := [], alts := [], laidByText := true, laidKinds := [.handle], laidTests := true, laidLooks := .later }
def ViewNodesUptoCardSaid : Prop := Claim7.holds Tryd.pinned (.plain (OpenSpec.upto viewNodesSpec)) viewNodesUptoCard
end Rows
end Go.Proofs.YtpjgapnihmiceaaDoor
