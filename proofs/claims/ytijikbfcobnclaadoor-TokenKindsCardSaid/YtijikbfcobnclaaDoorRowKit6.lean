/-
  What the rows of stage 6 need: from the rows' condition (the table of texts) to what the walks are told.
-/
import Derived.Test.YtijikbfcobnclaaDoorRowKitG
import Derived.Test.YtijikbfcobnclaaDoorTkA
namespace Go.Proofs.YtijikbfcobnclaaDoor
open Go.ChangeShapes Go.WideShapes Go.ChangeAt Go.RowKit Go.Deep

/-- The variable that the rows list, and its name. -/
def laid6 : List (String × DataW Unit) := Rows.tokenKindsRow.laid
def nTexts : String := Rows.tokenKindsRow.named.getD 0 ""
theorem gTexts : Tryd.prog.globalNamed nTexts = some 0 := by kernel_rfl
theorem tTexts : (Tryd.prog.globals[0]?).map (·.type) = some 34 := by kernel_rfl
theorem is_tab : laid6 = [(nTexts, (.agg (tabL.map fun l => .lit (.string l)) : DataW Unit))] := by kernel_rfl
theorem door_met6 (os : Os) (args : Array Value) : laidMetH Tryd.prog laid6 ((World.doorLaid Tryd.prog 14 os).forCall (fun _ _ => 0) ⟨#[], args, []⟩).memory :=
  laidMetH_of_parts3 (fuel := 8) (laidMet_of_run' 8 (by kernel_rfl) (by kernel_rfl)) (by kernel_rfl) (by kernel_rfl)
/-- WHAT THE CONDITION GIVES THE WALKS. -/
theorem of_laid6 {W : World} (h : laidMetH Tryd.prog laid6 W) : TabAt W := by
  have h' : laidMet Tryd.prog [(nTexts, (.agg (tabL.map fun l => .lit (.string l)) : DataW Unit))] W := by
    have := h
    rw [is_tab] at this
    exact this
  obtain ⟨ps, ⟨g', t', cs, fuel, p, q, hg', ht', hvar, hd, _, _⟩, _⟩ := h'
  obtain rfl := Option.some.inj (gTexts.symm.trans hg')
  obtain rfl := Option.some.inj (tTexts.symm.trans ht')
  have hc := cells_of_strs Tryd.underlying34 Tryd.underlying9 (by kernel_rfl) hd
  intro k hk
  obtain ⟨l, hl⟩ : ∃ l, tabL[k]? = some l := ⟨_, List.getElem?_eq_getElem (by simpa [tabL] using hk)⟩
  obtain ⟨s, hs, hcs⟩ := hc k l hl
  have hv := World.var?_cell gTexts hvar k
  rw [hv]
  have e : s = tx k := by
    apply bytes_inj
    rw [tx_toList, hs]
    unfold txl
    rw [List.getD_eq_getElem?_getD, hl]
    rfl
  rw [← e]
  simpa using hcs
end Go.Proofs.YtijikbfcobnclaaDoor
