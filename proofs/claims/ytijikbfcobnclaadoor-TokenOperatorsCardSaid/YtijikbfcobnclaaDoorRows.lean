/-
  NARROWER THAN 'FOR EVERY INPUT', by the rows' own cells (each row's printed sentence says how): TokenKinds: laid · TokenOperators: laid · TokenBack: laid · TokenLongest: laid.
  DERIVED. THE GIVEN ROWS OF THIS SEAT. 4 by the template 'for every input the law returns true; each argument reads behind the call as it read before'; 0 by the template 'total and deterministic' (their statements: YtijikbfcobnclaaDoorTotals.lean).
  GIVEN WITH THE SEED: the statements are not yours to turn. If you find one false, say at which input.
  Laid BY PROGRAM, IN A SANDBOX (cutbox-rows.mjs): the forced cells as the released guide's own fill.sh prints them over the translation 10af68c48c54e55a… (all of the seat's roots in one cut). By AI agents, Wed Nov 11 2026. No macro, syntax, notation, axiom, sorry.
-/
import Derived.Test.YtijikbfcobnclaaDoorChecked
import GoSem.Claim
import GoSem.ClaimJoined
import GoSem.ClaimMapViews
import Derived.JoinedTies
import Derived.KernelRfl
namespace Go.Proofs.YtijikbfcobnclaaDoor
/- THE CELL 'sum', in the pinned program and in every row, IS THE sha256 OF THE DUMP (.gsa) THAT YtijikbfcobnclaaDoorProg.lean LOADS. Nothing in Lean hashes anything: it is a label: what it is worth is what the hold of that sum in a sandbox is worth. -/
noncomputable def Tryd.pinned : Pinned := { name := "ytijikbfcobnclaadoor", sum := "10af68c48c54e55ad9ce9e3ccf1ebf9d8b09f8aa04eedcc490a777d659a80a06", checked := Tryd.checked }
namespace Rows
def none {H : Type} : Left H := { results := [], args := [] }

/- WHAT THE LISTED PACKAGE-LEVEL VARIABLES READ AS WHEN THE CALL BEGINS. Each datum BY PROGRAM (the guide's laid-datum.mjs) off the statement by which the dump's own 'gosem.cut.vars' lays the variable. In a bare row this is a premise. The card (YtijikbfcobnclaaDoorCards.lean) ties it to the program's text. -/
def laid_cavil_token_texts {H : Type} : DataW H := .agg [.lit (.string []), .lit (.string [110, 97, 109, 101]), .lit (.string [105, 110, 116]), .lit (.string [102, 108, 111, 97, 116]), .lit (.string [99, 104, 97, 114]), .lit (.string [115, 116, 114, 105, 110, 103]), .lit (.string []), .lit (.string []), .lit (.string []), .lit (.string []), .lit (.string [98, 114, 101, 97, 107]), .lit (.string [99, 97, 115, 101]), .lit (.string [99, 104, 97, 110]), .lit (.string [99, 111, 110, 115, 116]), .lit (.string [99, 111, 110, 116, 105, 110, 117, 101]), .lit (.string [100, 101, 102, 97, 117, 108, 116]), .lit (.string [100, 101, 102, 101, 114]), .lit (.string [101, 108, 115, 101]), .lit (.string [102, 97, 108, 108, 116, 104, 114, 111, 117, 103, 104]), .lit (.string [102, 111, 114]), .lit (.string [102, 117, 110, 99]), .lit (.string [103, 111]), .lit (.string [103, 111, 116, 111]), .lit (.string [105, 102]), .lit (.string [105, 109, 112, 111, 114, 116]), .lit (.string [105, 110, 116, 101, 114, 102, 97, 99, 101]), .lit (.string [109, 97, 112]), .lit (.string [112, 97, 99, 107, 97, 103, 101]), .lit (.string [114, 97, 110, 103, 101]), .lit (.string [114, 101, 116, 117, 114, 110]), .lit (.string [115, 101, 108, 101, 99, 116]), .lit (.string [115, 116, 114, 117, 99, 116]), .lit (.string [115, 119, 105, 116, 99, 104]), .lit (.string [116, 121, 112, 101]), .lit (.string [118, 97, 114]), .lit (.string []), .lit (.string []), .lit (.string []), .lit (.string []), .lit (.string []), .lit (.string [43]), .lit (.string [45]), .lit (.string [42]), .lit (.string [47]), .lit (.string [37]), .lit (.string [38]), .lit (.string [124]), .lit (.string [94]), .lit (.string [60, 60]), .lit (.string [62, 62]), .lit (.string [38, 94]), .lit (.string [43, 61]), .lit (.string [45, 61]), .lit (.string [42, 61]), .lit (.string [47, 61]), .lit (.string [37, 61]), .lit (.string [38, 61]), .lit (.string [124, 61]), .lit (.string [94, 61]), .lit (.string [60, 60, 61]), .lit (.string [62, 62, 61]), .lit (.string [38, 94, 61]), .lit (.string [38, 38]), .lit (.string [124, 124]), .lit (.string [60, 45]), .lit (.string [43, 43]), .lit (.string [45, 45]), .lit (.string [61, 61]), .lit (.string [60]), .lit (.string [62]), .lit (.string [61]), .lit (.string [33]), .lit (.string [126]), .lit (.string [33, 61]), .lit (.string [60, 61]), .lit (.string [62, 61]), .lit (.string [58, 61]), .lit (.string [46, 46, 46]), .lit (.string [40]), .lit (.string [91]), .lit (.string [123]), .lit (.string [44]), .lit (.string [46]), .lit (.string [41]), .lit (.string [93]), .lit (.string [125]), .lit (.string [59]), .lit (.string [58])]

/-- 'cavillaw06.TokenKinds': WHATEVER THE INPUT: true; the input reads as it did. -/
def tokenKindsSpec : ChangeSpec := { name := "tokenKinds", fn := fun _ => fun
  | [d1, d2] => { results := [.lit (.bool true)], args := [d1, d2] }
  | _ => none }
def tokenKindsRow : OpenClaim := { program := "ytijikbfcobnclaadoor", sum := "10af68c48c54e55ad9ce9e3ccf1ebf9d8b09f8aa04eedcc490a777d659a80a06", func := "cavil/cavillaw06.TokenKinds", spec := "tokenKinds", named := ["cavil/token.texts"], apart := false, laid := [("cavil/token.texts", laid_cavil_token_texts)] }
def TokenKindsSaid : Prop := tokenKindsRow.holds Tryd.pinned (OpenSpec.ofChange tokenKindsSpec)

/-- ITS FALSE NEIGHBOUR: 'it returns false'. Refute it at one input. -/
def tokenKindsWrong : ChangeSpec := { name := "tokenKinds", fn := fun _ => fun
  | [d1, d2] => { results := [.lit (.bool false)], args := [d1, d2] }
  | _ => none }
def TokenKindsWrongFalsely : Prop := tokenKindsRow.holds Tryd.pinned (OpenSpec.ofChange tokenKindsWrong)

/-- 'cavillaw06.TokenOperators': WHATEVER THE INPUT: true; the input reads as it did. -/
def tokenOperatorsSpec : ChangeSpec := { name := "tokenOperators", fn := fun _ => fun
  | [d1, d2] => { results := [.lit (.bool true)], args := [d1, d2] }
  | _ => none }
def tokenOperatorsRow : OpenClaim := { program := "ytijikbfcobnclaadoor", sum := "10af68c48c54e55ad9ce9e3ccf1ebf9d8b09f8aa04eedcc490a777d659a80a06", func := "cavil/cavillaw06.TokenOperators", spec := "tokenOperators", named := ["cavil/token.texts"], apart := false, laid := [("cavil/token.texts", laid_cavil_token_texts)] }
def TokenOperatorsSaid : Prop := tokenOperatorsRow.holds Tryd.pinned (OpenSpec.ofChange tokenOperatorsSpec)

/-- ITS FALSE NEIGHBOUR: 'it returns false'. Refute it at one input. -/
def tokenOperatorsWrong : ChangeSpec := { name := "tokenOperators", fn := fun _ => fun
  | [d1, d2] => { results := [.lit (.bool false)], args := [d1, d2] }
  | _ => none }
def TokenOperatorsWrongFalsely : Prop := tokenOperatorsRow.holds Tryd.pinned (OpenSpec.ofChange tokenOperatorsWrong)

/-- 'cavillaw06.TokenBack': WHATEVER THE INPUT: true; the input reads as it did. -/
def tokenBackSpec : ChangeSpec := { name := "tokenBack", fn := fun _ => fun
  | [d1, d2] => { results := [.lit (.bool true)], args := [d1, d2] }
  | _ => none }
def tokenBackRow : OpenClaim := { program := "ytijikbfcobnclaadoor", sum := "10af68c48c54e55ad9ce9e3ccf1ebf9d8b09f8aa04eedcc490a777d659a80a06", func := "cavil/cavillaw06.TokenBack", spec := "tokenBack", named := ["cavil/token.texts"], apart := false, laid := [("cavil/token.texts", laid_cavil_token_texts)] }
def TokenBackSaid : Prop := tokenBackRow.holds Tryd.pinned (OpenSpec.ofChange tokenBackSpec)

/-- ITS FALSE NEIGHBOUR: 'it returns false'. Refute it at one input. -/
def tokenBackWrong : ChangeSpec := { name := "tokenBack", fn := fun _ => fun
  | [d1, d2] => { results := [.lit (.bool false)], args := [d1, d2] }
  | _ => none }
def TokenBackWrongFalsely : Prop := tokenBackRow.holds Tryd.pinned (OpenSpec.ofChange tokenBackWrong)

/-- 'cavillaw06.TokenLongest': WHATEVER THE INPUT: true; the input reads as it did. -/
def tokenLongestSpec : ChangeSpec := { name := "tokenLongest", fn := fun _ => fun
  | [d1, d2] => { results := [.lit (.bool true)], args := [d1, d2] }
  | _ => none }
def tokenLongestRow : OpenClaim := { program := "ytijikbfcobnclaadoor", sum := "10af68c48c54e55ad9ce9e3ccf1ebf9d8b09f8aa04eedcc490a777d659a80a06", func := "cavil/cavillaw06.TokenLongest", spec := "tokenLongest", named := ["cavil/token.texts"], apart := false, laid := [("cavil/token.texts", laid_cavil_token_texts)] }
def TokenLongestSaid : Prop := tokenLongestRow.holds Tryd.pinned (OpenSpec.ofChange tokenLongestSpec)

/-- ITS FALSE NEIGHBOUR: 'it returns false'. Refute it at one input. -/
def tokenLongestWrong : ChangeSpec := { name := "tokenLongest", fn := fun _ => fun
  | [d1, d2] => { results := [.lit (.bool false)], args := [d1, d2] }
  | _ => none }
def TokenLongestWrongFalsely : Prop := tokenLongestRow.holds Tryd.pinned (OpenSpec.ofChange tokenLongestWrong)

/- THE SECOND FORM. 'bulk': how many values and letters a reading holds, each counted each time it is reached (what is shared counts as often as it is met; a slice's spare places count too). A statement '..UptoSaid' is the law's where the arguments, and the package variables that the reading takes, are together of bulk at most 1048576: NARROWER than '..Said'. Prove '..Said' where nothing that the law and all that it calls make is longer than what came in: it says more and counts as full. Else prove '..UptoSaid'. A law counts once. -/
mutual
def uptoBulk {H : Type} : DataW H → Nat
  | .lit (.string bytes) => bytes.length + 1
  | .lit _ => 1
  | .nil => 1
  | .ptr d => uptoBulk d + 1
  | .slice elems spare => uptoBulkAll elems + uptoBulkAll spare + 1
  | .agg parts => uptoBulkAll parts + 1
  | .iface _ d => uptoBulk d + 1
  | .map entries => uptoBulkEntries entries + 1
  | .held _ => 1
def uptoBulkAll {H : Type} : List (DataW H) → Nat
  | [] => 0
  | d :: r => uptoBulk d + uptoBulkAll r
def uptoBulkEntries {H : Type} : List (Lit × DataW H) → Nat
  | [] => 0
  | x :: r => uptoBulkEntry x + uptoBulkEntries r
def uptoBulkEntry {H : Type} : Lit × DataW H → Nat
  | (.string bytes, d) => bytes.length + uptoBulk d + 1
  | (_, d) => uptoBulk d + 1
 end
def uptoSmall : (H : Type) → List (DataW H) → Bool := fun _ ds => decide (uptoBulkAll ds ≤ 1048576)
def OpenSpec.upto (s : _root_.Go.ChangeSpec) : _root_.Go.OpenSpec := { _root_.Go.OpenSpec.ofChange s with cond := some uptoSmall }

/-- 'cavillaw06.TokenKinds', WHERE WHAT IT READS IS OF BULK AT MOST 1048576: true; the input reads as it did. -/
def tokenKindsUptoRow : OpenClaim := { program := "ytijikbfcobnclaadoor", sum := "10af68c48c54e55ad9ce9e3ccf1ebf9d8b09f8aa04eedcc490a777d659a80a06", func := "cavil/cavillaw06.TokenKinds", spec := "tokenKinds", named := ["cavil/token.texts"], apart := false, laid := [("cavil/token.texts", laid_cavil_token_texts)], narrowed := true }
def TokenKindsUptoSaid : Prop := tokenKindsUptoRow.holds Tryd.pinned (OpenSpec.upto tokenKindsSpec)

/-- 'cavillaw06.TokenOperators', WHERE WHAT IT READS IS OF BULK AT MOST 1048576: true; the input reads as it did. -/
def tokenOperatorsUptoRow : OpenClaim := { program := "ytijikbfcobnclaadoor", sum := "10af68c48c54e55ad9ce9e3ccf1ebf9d8b09f8aa04eedcc490a777d659a80a06", func := "cavil/cavillaw06.TokenOperators", spec := "tokenOperators", named := ["cavil/token.texts"], apart := false, laid := [("cavil/token.texts", laid_cavil_token_texts)], narrowed := true }
def TokenOperatorsUptoSaid : Prop := tokenOperatorsUptoRow.holds Tryd.pinned (OpenSpec.upto tokenOperatorsSpec)

/-- 'cavillaw06.TokenBack', WHERE WHAT IT READS IS OF BULK AT MOST 1048576: true; the input reads as it did. -/
def tokenBackUptoRow : OpenClaim := { program := "ytijikbfcobnclaadoor", sum := "10af68c48c54e55ad9ce9e3ccf1ebf9d8b09f8aa04eedcc490a777d659a80a06", func := "cavil/cavillaw06.TokenBack", spec := "tokenBack", named := ["cavil/token.texts"], apart := false, laid := [("cavil/token.texts", laid_cavil_token_texts)], narrowed := true }
def TokenBackUptoSaid : Prop := tokenBackUptoRow.holds Tryd.pinned (OpenSpec.upto tokenBackSpec)

/-- 'cavillaw06.TokenLongest', WHERE WHAT IT READS IS OF BULK AT MOST 1048576: true; the input reads as it did. -/
def tokenLongestUptoRow : OpenClaim := { program := "ytijikbfcobnclaadoor", sum := "10af68c48c54e55ad9ce9e3ccf1ebf9d8b09f8aa04eedcc490a777d659a80a06", func := "cavil/cavillaw06.TokenLongest", spec := "tokenLongest", named := ["cavil/token.texts"], apart := false, laid := [("cavil/token.texts", laid_cavil_token_texts)], narrowed := true }
def TokenLongestUptoSaid : Prop := tokenLongestUptoRow.holds Tryd.pinned (OpenSpec.upto tokenLongestSpec)

end Rows
end Go.Proofs.YtijikbfcobnclaaDoor
