/-
  NARROWER THAN 'FOR EVERY INPUT', by the rows' own cells (each row's printed sentence says how): EditApplies: laid · EditMaps: laid · EditBack: laid · EditKeeps: laid.
  DERIVED. THE GIVEN ROWS OF THIS SEAT. 4 by the template 'for every input the law returns true; each argument reads behind the call as it read before'; 0 by the template 'total and deterministic' (their statements: YtmkpomnhmepmcaaDoorTotals.lean).
  GIVEN WITH THE SEED: the statements are not yours to turn. If you find one false, say at which input.
  Laid BY PROGRAM, IN A SANDBOX (cutbox-rows.mjs): the forced cells as the released guide's own fill.sh prints them over the translation 55a55a03599a5d65… (all of the seat's roots in one cut). By AI agents, Wed Nov 11 2026. No macro, syntax, notation, axiom, sorry.
-/
import Derived.Test.YtmkpomnhmepmcaaDoorChecked
import GoSem.Claim
import GoSem.ClaimJoined
import GoSem.ClaimMapViews
import Derived.JoinedTies
import Derived.KernelRfl
namespace Go.Proofs.YtmkpomnhmepmcaaDoor
/- THE CELL 'sum', in the pinned program and in every row, IS THE sha256 OF THE DUMP (.gsa) THAT YtmkpomnhmepmcaaDoorProg.lean LOADS. Nothing in Lean hashes anything: it is a label: what it is worth is what the hold of that sum in a sandbox is worth. -/
noncomputable def Tryd.pinned : Pinned := { name := "ytmkpomnhmepmcaadoor", sum := "55a55a03599a5d654cf280a0b20f1087a2e849574717e781eb5303ad29d7ebf9", checked := Tryd.checked }
namespace Rows
def none {H : Type} : Left H := { results := [], args := [] }

/- WHAT THE LISTED PACKAGE-LEVEL VARIABLES READ AS WHEN THE CALL BEGINS. Each datum BY PROGRAM (the guide's laid-datum.mjs) off the statement by which the dump's own 'gosem.cut.vars' lays the variable. In a bare row this is a premise. The card (YtmkpomnhmepmcaaDoorCards.lean) ties it to the program's text. -/
def laid_cavil_utf_heads {H : Type} : DataW H := .agg [.lit (.int .u8 0), .lit (.int .u8 0), .lit (.int .u8 192), .lit (.int .u8 224), .lit (.int .u8 240)]
def laid_errors_errorType {H : Type} : DataW H := .iface "internal/reflectlite.rtype" (.agg [.ptr (.lit (.string [101, 114, 114, 111, 114]))])

/-- 'cavillaw04.EditApplies': WHATEVER THE INPUT: true; the input reads as it did. -/
def editAppliesSpec : ChangeSpec := { name := "editApplies", fn := fun _ => fun
  | [d1, d2] => { results := [.lit (.bool true)], args := [d1, d2] }
  | _ => none }
def editAppliesRow : OpenClaim := { program := "ytmkpomnhmepmcaadoor", sum := "55a55a03599a5d654cf280a0b20f1087a2e849574717e781eb5303ad29d7ebf9", func := "cavil/cavillaw04.EditApplies", spec := "editApplies", inPlace := ["internal/reflectlite.TypeOf", "internal/reflectlite.ValueOf", "(internal/reflectlite.Value).Type", "(internal/reflectlite.Value).IsNil", "(internal/reflectlite.Value).Elem", "(internal/reflectlite.Value).Set"], unfollowed := true, recurses := true, named := ["cavil/utf.heads", "errors.errorType"], apart := false, laid := [("cavil/utf.heads", laid_cavil_utf_heads), ("errors.errorType", laid_errors_errorType)] }
def EditAppliesSaid : Prop := editAppliesRow.holds Tryd.pinned (OpenSpec.ofChange editAppliesSpec)

/-- ITS FALSE NEIGHBOUR: 'it returns false'. Refute it at one input. -/
def editAppliesWrong : ChangeSpec := { name := "editApplies", fn := fun _ => fun
  | [d1, d2] => { results := [.lit (.bool false)], args := [d1, d2] }
  | _ => none }
def EditAppliesWrongFalsely : Prop := editAppliesRow.holds Tryd.pinned (OpenSpec.ofChange editAppliesWrong)

/-- 'cavillaw04.EditMaps': WHATEVER THE INPUT: true; the input reads as it did. -/
def editMapsSpec : ChangeSpec := { name := "editMaps", fn := fun _ => fun
  | [d1, d2] => { results := [.lit (.bool true)], args := [d1, d2] }
  | _ => none }
def editMapsRow : OpenClaim := { program := "ytmkpomnhmepmcaadoor", sum := "55a55a03599a5d654cf280a0b20f1087a2e849574717e781eb5303ad29d7ebf9", func := "cavil/cavillaw04.EditMaps", spec := "editMaps", unfollowed := true, recurses := true, named := ["cavil/utf.heads"], apart := false, laid := [("cavil/utf.heads", laid_cavil_utf_heads)] }
def EditMapsSaid : Prop := editMapsRow.holds Tryd.pinned (OpenSpec.ofChange editMapsSpec)

/-- ITS FALSE NEIGHBOUR: 'it returns false'. Refute it at one input. -/
def editMapsWrong : ChangeSpec := { name := "editMaps", fn := fun _ => fun
  | [d1, d2] => { results := [.lit (.bool false)], args := [d1, d2] }
  | _ => none }
def EditMapsWrongFalsely : Prop := editMapsRow.holds Tryd.pinned (OpenSpec.ofChange editMapsWrong)

/-- 'cavillaw04.EditBack': WHATEVER THE INPUT: true; the input reads as it did. -/
def editBackSpec : ChangeSpec := { name := "editBack", fn := fun _ => fun
  | [d1, d2] => { results := [.lit (.bool true)], args := [d1, d2] }
  | _ => none }
def editBackRow : OpenClaim := { program := "ytmkpomnhmepmcaadoor", sum := "55a55a03599a5d654cf280a0b20f1087a2e849574717e781eb5303ad29d7ebf9", func := "cavil/cavillaw04.EditBack", spec := "editBack", inPlace := ["internal/reflectlite.TypeOf"], unfollowed := true, recurses := true, named := ["cavil/utf.heads"], apart := false, laid := [("cavil/utf.heads", laid_cavil_utf_heads)] }
def EditBackSaid : Prop := editBackRow.holds Tryd.pinned (OpenSpec.ofChange editBackSpec)

/-- ITS FALSE NEIGHBOUR: 'it returns false'. Refute it at one input. -/
def editBackWrong : ChangeSpec := { name := "editBack", fn := fun _ => fun
  | [d1, d2] => { results := [.lit (.bool false)], args := [d1, d2] }
  | _ => none }
def EditBackWrongFalsely : Prop := editBackRow.holds Tryd.pinned (OpenSpec.ofChange editBackWrong)

/-- 'cavillaw04.EditKeeps': WHATEVER THE INPUT: true; the input reads as it did. -/
def editKeepsSpec : ChangeSpec := { name := "editKeeps", fn := fun _ => fun
  | [d1, d2] => { results := [.lit (.bool true)], args := [d1, d2] }
  | _ => none }
def editKeepsRow : OpenClaim := { program := "ytmkpomnhmepmcaadoor", sum := "55a55a03599a5d654cf280a0b20f1087a2e849574717e781eb5303ad29d7ebf9", func := "cavil/cavillaw04.EditKeeps", spec := "editKeeps", unfollowed := true, recurses := true, named := ["cavil/utf.heads"], apart := false, laid := [("cavil/utf.heads", laid_cavil_utf_heads)] }
def EditKeepsSaid : Prop := editKeepsRow.holds Tryd.pinned (OpenSpec.ofChange editKeepsSpec)

/-- ITS FALSE NEIGHBOUR: 'it returns false'. Refute it at one input. -/
def editKeepsWrong : ChangeSpec := { name := "editKeeps", fn := fun _ => fun
  | [d1, d2] => { results := [.lit (.bool false)], args := [d1, d2] }
  | _ => none }
def EditKeepsWrongFalsely : Prop := editKeepsRow.holds Tryd.pinned (OpenSpec.ofChange editKeepsWrong)

/- THE SECOND FORM. 'bulk': how many values and letters a reading holds, each counted each time it is reached (what is shared counts as often as it is met; a slice's spare places count too). A statement '..UptoSaid' is the law's where the arguments, and the package variables that the reading takes, are together of bulk at most 1048576: NARROWER than '..Said'. Prove '..Said' where nothing that the law and all that it calls make is longer than what came in: it says more and counts as full. Else prove '..UptoSaid'. A law counts once. -/
mutual
def uptoBulk {H : Type} : DataW H → Nat
  | .lit (.string bytes) => bytes.length + 1
  | .lit _ => 1
  | .nil => 1
  | .ptr d => uptoBulk d + 1
  | .slice elems spare => uptoBulkAll elems + uptoBulkAll spare + 1
  | .agg parts => uptoBulkAll parts + 1
  | .iface _ d => uptoBulk d + 1
  | .map entries => uptoBulkEntries entries + 1
  | .held _ => 1
def uptoBulkAll {H : Type} : List (DataW H) → Nat
  | [] => 0
  | d :: r => uptoBulk d + uptoBulkAll r
def uptoBulkEntries {H : Type} : List (Lit × DataW H) → Nat
  | [] => 0
  | x :: r => uptoBulkEntry x + uptoBulkEntries r
def uptoBulkEntry {H : Type} : Lit × DataW H → Nat
  | (.string bytes, d) => bytes.length + uptoBulk d + 1
  | (_, d) => uptoBulk d + 1
 end
def uptoSmall : (H : Type) → List (DataW H) → Bool := fun _ ds => decide (uptoBulkAll ds ≤ 1048576)
def OpenSpec.upto (s : _root_.Go.ChangeSpec) : _root_.Go.OpenSpec := { _root_.Go.OpenSpec.ofChange s with cond := some uptoSmall }

/-- 'cavillaw04.EditApplies', WHERE WHAT IT READS IS OF BULK AT MOST 1048576: true; the input reads as it did. -/
def editAppliesUptoRow : OpenClaim := { program := "ytmkpomnhmepmcaadoor", sum := "55a55a03599a5d654cf280a0b20f1087a2e849574717e781eb5303ad29d7ebf9", func := "cavil/cavillaw04.EditApplies", spec := "editApplies", inPlace := ["internal/reflectlite.TypeOf", "internal/reflectlite.ValueOf", "(internal/reflectlite.Value).Type", "(internal/reflectlite.Value).IsNil", "(internal/reflectlite.Value).Elem", "(internal/reflectlite.Value).Set"], unfollowed := true, recurses := true, named := ["cavil/utf.heads", "errors.errorType"], apart := false, laid := [("cavil/utf.heads", laid_cavil_utf_heads), ("errors.errorType", laid_errors_errorType)], narrowed := true }
def EditAppliesUptoSaid : Prop := editAppliesUptoRow.holds Tryd.pinned (OpenSpec.upto editAppliesSpec)

/-- 'cavillaw04.EditMaps', WHERE WHAT IT READS IS OF BULK AT MOST 1048576: true; the input reads as it did. -/
def editMapsUptoRow : OpenClaim := { program := "ytmkpomnhmepmcaadoor", sum := "55a55a03599a5d654cf280a0b20f1087a2e849574717e781eb5303ad29d7ebf9", func := "cavil/cavillaw04.EditMaps", spec := "editMaps", unfollowed := true, recurses := true, named := ["cavil/utf.heads"], apart := false, laid := [("cavil/utf.heads", laid_cavil_utf_heads)], narrowed := true }
def EditMapsUptoSaid : Prop := editMapsUptoRow.holds Tryd.pinned (OpenSpec.upto editMapsSpec)

/-- 'cavillaw04.EditBack', WHERE WHAT IT READS IS OF BULK AT MOST 1048576: true; the input reads as it did. -/
def editBackUptoRow : OpenClaim := { program := "ytmkpomnhmepmcaadoor", sum := "55a55a03599a5d654cf280a0b20f1087a2e849574717e781eb5303ad29d7ebf9", func := "cavil/cavillaw04.EditBack", spec := "editBack", inPlace := ["internal/reflectlite.TypeOf"], unfollowed := true, recurses := true, named := ["cavil/utf.heads"], apart := false, laid := [("cavil/utf.heads", laid_cavil_utf_heads)], narrowed := true }
def EditBackUptoSaid : Prop := editBackUptoRow.holds Tryd.pinned (OpenSpec.upto editBackSpec)

/-- 'cavillaw04.EditKeeps', WHERE WHAT IT READS IS OF BULK AT MOST 1048576: true; the input reads as it did. -/
def editKeepsUptoRow : OpenClaim := { program := "ytmkpomnhmepmcaadoor", sum := "55a55a03599a5d654cf280a0b20f1087a2e849574717e781eb5303ad29d7ebf9", func := "cavil/cavillaw04.EditKeeps", spec := "editKeeps", unfollowed := true, recurses := true, named := ["cavil/utf.heads"], apart := false, laid := [("cavil/utf.heads", laid_cavil_utf_heads)], narrowed := true }
def EditKeepsUptoSaid : Prop := editKeepsUptoRow.holds Tryd.pinned (OpenSpec.upto editKeepsSpec)

end Rows
end Go.Proofs.YtmkpomnhmepmcaaDoor
