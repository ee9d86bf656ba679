/-
  What every row over this translation needs: from the row's conditions (the listed variables, a slice of bytes that came in) to what the walks are told.
-/
import Derived.Test.YtdafkfepgodhaaaDoorRows
import Derived.Test.YtdafkfepgodhaaaDoorErrEnds
import Derived.ProofKit
import Derived.LaidMore
import Derived.OpenShut
import Derived.Stop.Joined
import Derived.ChangeOld
import Derived.Lib.LaidTab
namespace Go.Proofs.YtdafkfepgodhaaaDoor
open Go.ChangeShapes Go.WideShapes Go.ChangeAt Go.RowKit

theorem own : ownKnob Tryd.prog.godebug = none := by kernel_rfl
theorem laidOut : laidOutB Tryd.prog = true := by kernel_rfl
/-- The variables that the rows list, and their names. -/
def laid2 : List (String × DataW Unit) := Rows.utfDecodesRow.laid
def nHeads : String := Rows.utfDecodesRow.named.getD 0 ""
def nErr : String := Rows.utfDecodesRow.named.getD 1 ""
theorem gHeads : Tryd.prog.globalNamed nHeads = some 0 := by kernel_rfl
theorem gErr : Tryd.prog.globalNamed nErr = some 1 := by kernel_rfl
theorem tHeads : (Tryd.prog.globals[0]?).map (·.type) = some 49 := by kernel_rfl
theorem oneErr : ((List.range Tryd.prog.types.size).filter fun t => Tryd.prog.rowNamed t [101, 114, 114, 111, 114]) = [24] := by kernel_rfl

/-- The door's own heap meets the condition. -/
theorem door_met (os : Os) (args : Array Value) : laidMetH Tryd.prog laid2 ((World.doorLaid Tryd.prog 21 os).forCall (fun _ _ => 0) ⟨#[], args, []⟩).memory :=
  laidMetH_of_parts3 (fuel := 8) (laidMet_of_run' 8 (by kernel_rfl) (by kernel_rfl)) (by kernel_rfl) (by kernel_rfl)
/-- WHAT THE CONDITION GIVES THE WALKS. -/
theorem of_laid {W : World} (h : laidMetH Tryd.prog laid2 W) : Heads W ∧ ErrType W := by
  have h' : laidMet Tryd.prog [(nHeads, Lib.tabData .u8 [0, 0, 192, 224, 240])] W ∧ handlesMet Tryd.prog [(nErr, Rows.laid_errors_errorType)] W := h
  refine ⟨?_, ?_⟩
  · have ht := Lib.tabIs_of_head gHeads tHeads Tryd.underlying49 Tryd.underlying5 (by kernel_rfl) (by kernel_rfl) h'.1
    intro k h1 h4
    have hc := ht.cell gHeads k (by simp; omega)
    rw [hc]
    match k, h1, h4 with
    | 1, _, _ => rfl
    | 2, _, _ => rfl
    | 3, _, _ => rfl
    | 4, _, _ => rfl
  · obtain ⟨name, u, ty, e1, e2, e3, e4, e5⟩ := h'.2 _ (List.mem_singleton.2 rfl)
    have en : name = [101, 114, 114, 111, 114] := (Option.some.inj e1).symm
    subst en
    have eu : some u = some 76 := e2.symm.trans (by kernel_rfl)
    obtain rfl := Option.some.inj eu
    have hm : ty ∈ (List.range Tryd.prog.types.size).filter fun t => Tryd.prog.rowNamed t [101, 114, 114, 111, 114] := List.mem_filter.2 ⟨List.mem_range.2 e3, e4⟩
    rw [oneErr] at hm
    obtain rfl := List.mem_singleton.1 hm
    have hh : typeHandle Tryd.prog 24 = .pointer (some ⟨2, 24, none⟩) := by kernel_rfl
    rw [hh] at e5
    unfold ErrType
    simpa using World.var?_cell gErr e5 0

/-- What is known of a slice of integers that came in. -/
def IsRow (k : IntKind) (w : World) (a : Option Addr) (len cap : Nat) (zs : List Int) : Prop :=
  (a = none ∧ len = 0 ∧ cap = 0 ∧ zs = []) ∨
  ∃ x, a = some x ∧ len ≤ cap ∧ cap ≤ maxLen ∧ zs.length = cap ∧ (∀ i, i < zs.length → w.cell? (x.add i) = some (.int k (zs.getD i 0))) ∧ ∀ n ∈ zs, (Lit.int k n).wf = true
theorem IsRow.byts {w : World} {a : Option Addr} {len cap : Nat} {zs : List Int} (h : IsRow .u8 w a len cap zs) :
    Byts w w.heap.size a (zs.take len) ∧ (zs.take len).length = len ∧ len ≤ cap ∧ cap ≤ 9223372036854775807 := by
  rcases h with ⟨rfl, rfl, rfl, rfl⟩ | ⟨x, rfl, hl, hm, hz, hc, hw⟩
  · exact ⟨Byts.nil, rfl, by omega, by omega⟩
  · unfold maxLen at hm
    have hlen : (zs.take len).length = len := by rw [List.length_take]; omega
    refine ⟨⟨fun n hn => bounds_u8 (hw n (List.mem_of_mem_take hn)), fun hp => ?_⟩, hlen, hl, hm⟩
    obtain ⟨b, off, rfl, hcell⟩ := ints_at hc (by omega)
    have h0 := hcell 0 (by omega)
    refine ⟨b, off, rfl, ?_, fun i y hy => ?_⟩
    · rcases Nat.lt_or_ge b w.heap.size with h1 | h1
      · exact h1
      · simp [World.cell?, Array.getElem?_eq_none h1] at h0
    · rw [List.getElem?_take] at hy
      split at hy
      · have hi := (List.getElem?_eq_some_iff.1 hy).1
        rw [hcell i hi]
        simp [List.getD, hy]
      · cases hy
/-- A slice of bytes that came in, opened. -/
theorem open_row8 {H : Type} {enc : TypeId × Value → H} {W : World} {a : Option Addr} {len cap : Nat} {sp : Nat → Bool} {d : DataW H} {p : List MemPlace}
    (h : DataW.Trod enc Tryd.prog W 0 sp true 22 (.slice a len cap) d p) (hsp : ∀ b, sp b = true) : ∃ zs, IsRow .u8 W a len cap zs := by
  obtain ⟨fuel, hf⟩ := h
  rcases open_ints Tryd.underlying22 Tryd.underlying5 (by kernel_rfl) hf with ⟨hcs, _⟩ | ⟨x, l, c, zs, hcs, _, hl, hm, hz, _, hcell, hwz⟩
  · simp [Value.cells] at hcs
    obtain ⟨rfl, rfl, rfl⟩ := hcs
    exact ⟨[], .inl ⟨rfl, rfl, rfl, rfl⟩⟩
  · simp [Value.cells] at hcs
    obtain ⟨rfl, rfl, rfl⟩ := hcs
    exact ⟨zs, .inr ⟨_, rfl, hl, hm, by simpa [hsp] using hz, hcell, hwz⟩⟩
end Go.Proofs.YtdafkfepgodhaaaDoor
