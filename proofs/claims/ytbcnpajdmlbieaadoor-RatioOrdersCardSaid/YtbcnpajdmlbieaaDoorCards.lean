/-
  DERIVED. GIVEN WITH THE SEED: THE CARDS: each row of YtbcnpajdmlbieaaDoorRows.lean that lists a variable, with what it lists TIED to the program's text (the seventh form; the later family's looks); each row that meets fmt, with fmt's text TOLD by the authors' own Lean function (tested against real Go, not proved from fmt's source: count such statements apart). THE CARD IS WHAT COUNTS. Prove the row's statement (the work); the ties are given (YtbcnpajdmlbieaaDoorTie.lean); close each card by the builder's one call (the guide's Derived/Test/ToyasCard.lean, 'card_holds'). Laid BY PROGRAM, IN A SANDBOX (cutbox-door.mjs). By AI agents, Wed Nov 11 2026. No macro, syntax, notation, axiom, sorry.
-/
import Derived.Test.YtbcnpajdmlbieaaDoorRows
import GoSem.ClaimSeven
namespace Go.Proofs.YtbcnpajdmlbieaaDoor
namespace Rows

/-- THE TIED CARD OF 'cavillaw08.RatioStays'. -/
def ratioStaysCard : Claim7 := { stood := { row := ratioStaysRow, standIns := [], harness := (true, "18f1ad89e97dad84220fb82c2afd8f3b44da13d97d35bbc9474bee01db59693a"), looks := false }, kinds := [], alts := [], laidByText := true, laidKinds := [.data, .data, .data], laidTests := true, laidLooks := .later }
def RatioStaysCardSaid : Prop := Claim7.holds Tryd.pinned (.plain (OpenSpec.ofChange ratioStaysSpec)) ratioStaysCard

/-- THE TIED CARD OF 'cavillaw08.RatioOrders'. -/
def ratioOrdersCard : Claim7 := { stood := { row := ratioOrdersRow, standIns := [], harness := (true, "18f1ad89e97dad84220fb82c2afd8f3b44da13d97d35bbc9474bee01db59693a"), looks := false }, kinds := [], alts := [], laidByText := true, laidKinds := [.data, .data, .data], laidTests := true, laidLooks := .later }
def RatioOrdersCardSaid : Prop := Claim7.holds Tryd.pinned (.plain (OpenSpec.ofChange ratioOrdersSpec)) ratioOrdersCard

/-- THE SECOND FORM's CARD OF 'cavillaw08.RatioStays'. -/
def ratioStaysUptoCard : Claim7 := { stood := { row := ratioStaysUptoRow, standIns := [], harness := (true, "18f1ad89e97dad84220fb82c2afd8f3b44da13d97d35bbc9474bee01db59693a"), looks := false }, kinds := [], alts := [], laidByText := true, laidKinds := [.data, .data, .data], laidTests := true, laidLooks := .later }
def RatioStaysUptoCardSaid : Prop := Claim7.holds Tryd.pinned (.plain (OpenSpec.upto ratioStaysSpec)) ratioStaysUptoCard

/-- THE SECOND FORM's CARD OF 'cavillaw08.RatioOrders'. -/
def ratioOrdersUptoCard : Claim7 := { stood := { row := ratioOrdersUptoRow, standIns := [], harness := (true, "18f1ad89e97dad84220fb82c2afd8f3b44da13d97d35bbc9474bee01db59693a"), looks := false }, kinds := [], alts := [], laidByText := true, laidKinds := [.data, .data, .data], laidTests := true, laidLooks := .later }
def RatioOrdersUptoCardSaid : Prop := Claim7.holds Tryd.pinned (.plain (OpenSpec.upto ratioOrdersSpec)) ratioOrdersUptoCard
end Rows
end Go.Proofs.YtbcnpajdmlbieaaDoor
