/-
  DERIVED. GIVEN WITH THE SEED: THE CARDS: each row of YtmkpomnhmepmcaaDoorRows.lean that lists a variable, with what it lists TIED to the program's text (the seventh form; the later family's looks); each row that meets fmt, with fmt's text TOLD by the authors' own Lean function (tested against real Go, not proved from fmt's source: count such statements apart). THE CARD IS WHAT COUNTS. Prove the row's statement (the work); the ties are given (YtmkpomnhmepmcaaDoorTie.lean); close each card by the builder's one call (the guide's Derived/Test/ToyasCard.lean, 'card_holds'). Laid BY PROGRAM, IN A SANDBOX (cutbox-door.mjs). By AI agents, Wed Nov 11 2026. No macro, syntax, notation, axiom, sorry.
-/
import Derived.Test.YtmkpomnhmepmcaaDoorRows
import GoSem.ClaimSeven
namespace Go.Proofs.YtmkpomnhmepmcaaDoor
namespace Rows

/-- THE TIED CARD OF 'cavillaw04.EditApplies'. -/
def editAppliesCard : Claim7 := { stood := { row := editAppliesRow, standIns := [], harness := (true, "d76d3afddade8e373fb9d0d58c439632d8c04cd1c5b591669303be0b2d6d05f0"), looks := true }, kinds := [], alts := [], laidByText := true, laidKinds := [.data, .handle], laidTests := true, laidLooks := .later }
def EditAppliesCardSaid : Prop := Claim7.holds Tryd.pinned (.plain (OpenSpec.ofChange editAppliesSpec)) editAppliesCard

/-- THE TIED CARD OF 'cavillaw04.EditMaps'. -/
def editMapsCard : Claim7 := { stood := { row := editMapsRow, standIns := [], harness := (true, "d76d3afddade8e373fb9d0d58c439632d8c04cd1c5b591669303be0b2d6d05f0"), looks := true }, kinds := [], alts := [], laidByText := true, laidKinds := [.data], laidTests := true, laidLooks := .later }
def EditMapsCardSaid : Prop := Claim7.holds Tryd.pinned (.plain (OpenSpec.ofChange editMapsSpec)) editMapsCard

/-- THE TIED CARD OF 'cavillaw04.EditBack'. -/
def editBackCard : Claim7 := { stood := { row := editBackRow, standIns := [], harness := (true, "d76d3afddade8e373fb9d0d58c439632d8c04cd1c5b591669303be0b2d6d05f0"), looks := true }, kinds := [], alts := [], laidByText := true, laidKinds := [.data], laidTests := true, laidLooks := .later }
def EditBackCardSaid : Prop := Claim7.holds Tryd.pinned (.plain (OpenSpec.ofChange editBackSpec)) editBackCard

/-- THE TIED CARD OF 'cavillaw04.EditKeeps'. -/
def editKeepsCard : Claim7 := { stood := { row := editKeepsRow, standIns := [], harness := (true, "d76d3afddade8e373fb9d0d58c439632d8c04cd1c5b591669303be0b2d6d05f0"), looks := true }, kinds := [], alts := [], laidByText := true, laidKinds := [.data], laidTests := true, laidLooks := .later }
def EditKeepsCardSaid : Prop := Claim7.holds Tryd.pinned (.plain (OpenSpec.ofChange editKeepsSpec)) editKeepsCard

/-- THE SECOND FORM's CARD OF 'cavillaw04.EditApplies'. -/
def editAppliesUptoCard : Claim7 := { stood := { row := editAppliesUptoRow, standIns := [], harness := (true, "d76d3afddade8e373fb9d0d58c439632d8c04cd1c5b591669303be0b2d6d05f0"), looks := true }, kinds := [], alts := [], laidByText := true, laidKinds := [.data, .handle], laidTests := true, laidLooks := .later }
def EditAppliesUptoCardSaid : Prop := Claim7.holds Tryd.pinned (.plain (OpenSpec.upto editAppliesSpec)) editAppliesUptoCard

/-- THE SECOND FORM's CARD OF 'cavillaw04.EditMaps'. -/
def editMapsUptoCard : Claim7 := { stood := { row := editMapsUptoRow, standIns := [], harness := (true, "d76d3afddade8e373fb9d0d58c439632d8c04cd1c5b591669303be0b2d6d05f0"), looks := true }, kinds := [], alts := [], laidByText := true, laidKinds := [.data], laidTests := true, laidLooks := .later }
def EditMapsUptoCardSaid : Prop := Claim7.holds Tryd.pinned (.plain (OpenSpec.upto editMapsSpec)) editMapsUptoCard

/-- THE SECOND FORM's CARD OF 'cavillaw04.EditBack'. -/
def editBackUptoCard : Claim7 := { stood := { row := editBackUptoRow, standIns := [], harness := (true, "d76d3afddade8e373fb9d0d58c439632d8c04cd1c5b591669303be0b2d6d05f0"), looks := true }, kinds := [], alts := [], laidByText := true, laidKinds := [.data], laidTests := true, laidLooks := .later }
def EditBackUptoCardSaid : Prop := Claim7.holds Tryd.pinned (.plain (OpenSpec.upto editBackSpec)) editBackUptoCard

/-- THE SECOND FORM's CARD OF 'cavillaw04.EditKeeps'. -/
def editKeepsUptoCard : Claim7 := { stood := { row := editKeepsUptoRow, standIns := [], harness := (true, "d76d3afddade8e373fb9d0d58c439632d8c04cd1c5b591669303be0b2d6d05f0"), looks := true }, kinds := [], alts := [], laidByText := true, laidKinds := [.data], laidTests := true, laidLooks := .later }
def EditKeepsUptoCardSaid : Prop := Claim7.holds Tryd.pinned (.plain (OpenSpec.upto editKeepsSpec)) editKeepsUptoCard
end Rows
end Go.Proofs.YtmkpomnhmepmcaaDoor
