/-
  DERIVED. GIVEN WITH THE SEED: THE CARDS: each row of YtijikbfcobnclaaDoorRows.lean that lists a variable, with what it lists TIED to the program's text (the seventh form; the later family's looks); each row that meets fmt, with fmt's text TOLD by the authors' own Lean function (tested against real Go, not proved from fmt's source: count such statements apart). THE CARD IS WHAT COUNTS. Prove the row's statement (the work); the ties are given (YtijikbfcobnclaaDoorTie.lean); close each card by the builder's one call (the guide's Derived/Test/ToyasCard.lean, 'card_holds'). Laid BY PROGRAM, IN A SANDBOX (cutbox-door.mjs). By AI agents, Wed Nov 11 2026. No macro, syntax, notation, axiom, sorry.
-/
import Derived.Test.YtijikbfcobnclaaDoorRows
import GoSem.ClaimSeven
namespace Go.Proofs.YtijikbfcobnclaaDoor
namespace Rows

/-- THE TIED CARD OF 'cavillaw06.TokenKinds'. -/
def tokenKindsCard : Claim7 := { stood := { row := tokenKindsRow, standIns := [], harness := (true, "3f864c94b06c4ca3aff2b484100f5d63ea0de289b0a94c55b3d40d21bc7a31a1"), looks := false }, kinds := [], alts := [], laidByText := true, laidKinds := [.data], laidTests := true, laidLooks := .later }
def TokenKindsCardSaid : Prop := Claim7.holds Tryd.pinned (.plain (OpenSpec.ofChange tokenKindsSpec)) tokenKindsCard

/-- THE TIED CARD OF 'cavillaw06.TokenOperators'. -/
def tokenOperatorsCard : Claim7 := { stood := { row := tokenOperatorsRow, standIns := [], harness := (true, "3f864c94b06c4ca3aff2b484100f5d63ea0de289b0a94c55b3d40d21bc7a31a1"), looks := false }, kinds := [], alts := [], laidByText := true, laidKinds := [.data], laidTests := true, laidLooks := .later }
def TokenOperatorsCardSaid : Prop := Claim7.holds Tryd.pinned (.plain (OpenSpec.ofChange tokenOperatorsSpec)) tokenOperatorsCard

/-- THE TIED CARD OF 'cavillaw06.TokenBack'. -/
def tokenBackCard : Claim7 := { stood := { row := tokenBackRow, standIns := [], harness := (true, "3f864c94b06c4ca3aff2b484100f5d63ea0de289b0a94c55b3d40d21bc7a31a1"), looks := false }, kinds := [], alts := [], laidByText := true, laidKinds := [.data], laidTests := true, laidLooks := .later }
def TokenBackCardSaid : Prop := Claim7.holds Tryd.pinned (.plain (OpenSpec.ofChange tokenBackSpec)) tokenBackCard

/-- THE TIED CARD OF 'cavillaw06.TokenLongest'. -/
def tokenLongestCard : Claim7 := { stood := { row := tokenLongestRow, standIns := [], harness := (true, "3f864c94b06c4ca3aff2b484100f5d63ea0de289b0a94c55b3d40d21bc7a31a1"), looks := false }, kinds := [], alts := [], laidByText := true, laidKinds := [.data], laidTests := true, laidLooks := .later }
def TokenLongestCardSaid : Prop := Claim7.holds Tryd.pinned (.plain (OpenSpec.ofChange tokenLongestSpec)) tokenLongestCard

/-- THE SECOND FORM's CARD OF 'cavillaw06.TokenKinds'. -/
def tokenKindsUptoCard : Claim7 := { stood := { row := tokenKindsUptoRow, standIns := [], harness := (true, "3f864c94b06c4ca3aff2b484100f5d63ea0de289b0a94c55b3d40d21bc7a31a1"), looks := false }, kinds := [], alts := [], laidByText := true, laidKinds := [.data], laidTests := true, laidLooks := .later }
def TokenKindsUptoCardSaid : Prop := Claim7.holds Tryd.pinned (.plain (OpenSpec.upto tokenKindsSpec)) tokenKindsUptoCard

/-- THE SECOND FORM's CARD OF 'cavillaw06.TokenOperators'. -/
def tokenOperatorsUptoCard : Claim7 := { stood := { row := tokenOperatorsUptoRow, standIns := [], harness := (true, "3f864c94b06c4ca3aff2b484100f5d63ea0de289b0a94c55b3d40d21bc7a31a1"), looks := false }, kinds := [], alts := [], laidByText := true, laidKinds := [.data], laidTests := true, laidLooks := .later }
def TokenOperatorsUptoCardSaid : Prop := Claim7.holds Tryd.pinned (.plain (OpenSpec.upto tokenOperatorsSpec)) tokenOperatorsUptoCard

/-- THE SECOND FORM's CARD OF 'cavillaw06.TokenBack'. -/
def tokenBackUptoCard : Claim7 := { stood := { row := tokenBackUptoRow, standIns := [], harness := (true, "3f864c94b06c4ca3aff2b484100f5d63ea0de289b0a94c55b3d40d21bc7a31a1"), looks := false }, kinds := [], alts := [], laidByText := true, laidKinds := [.data], laidTests := true, laidLooks := .later }
def TokenBackUptoCardSaid : Prop := Claim7.holds Tryd.pinned (.plain (OpenSpec.upto tokenBackSpec)) tokenBackUptoCard

/-- THE SECOND FORM's CARD OF 'cavillaw06.TokenLongest'. -/
def tokenLongestUptoCard : Claim7 := { stood := { row := tokenLongestUptoRow, standIns := [], harness := (true, "3f864c94b06c4ca3aff2b484100f5d63ea0de289b0a94c55b3d40d21bc7a31a1"), looks := false }, kinds := [], alts := [], laidByText := true, laidKinds := [.data], laidTests := true, laidLooks := .later }
def TokenLongestUptoCardSaid : Prop := Claim7.holds Tryd.pinned (.plain (OpenSpec.upto tokenLongestSpec)) tokenLongestUptoCard
end Rows
end Go.Proofs.YtijikbfcobnclaaDoor
