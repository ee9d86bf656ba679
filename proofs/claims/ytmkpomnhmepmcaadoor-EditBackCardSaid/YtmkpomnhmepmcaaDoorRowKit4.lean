/-
  What the rows of stage 4 need: from the rows' conditions (the listed variables, a slice of bytes, a slice of edits) to what the walks are told.
-/
import Derived.Test.YtmkpomnhmepmcaaDoorRows
import Derived.Test.YtmkpomnhmepmcaaDoorErrEnds
import Derived.Test.YtmkpomnhmepmcaaDoorEdBase
import Derived.ProofKit
import Derived.LaidMore
import Derived.OpenShut
import Derived.Stop.Joined
import Derived.ChangeOld
import Derived.Lib.LaidTab
import Derived.Deep.Slices
namespace Go.Proofs.YtmkpomnhmepmcaaDoor
open Go.ChangeShapes Go.WideShapes Go.ChangeAt Go.RowKit Go.Deep

theorem own : ownKnob Tryd.prog.godebug = none := by kernel_rfl
theorem laidOut : laidOutB Tryd.prog = true := by kernel_rfl
/-- The variables that the rows list, and their names. -/
def laid1 : List (String × DataW Unit) := Rows.editMapsRow.laid
def laid2 : List (String × DataW Unit) := Rows.editAppliesRow.laid
def nHeads : String := Rows.editAppliesRow.named.getD 0 ""
def nErr : String := Rows.editAppliesRow.named.getD 1 ""
theorem gHeads : Tryd.prog.globalNamed nHeads = some 1 := by kernel_rfl
theorem gErr : Tryd.prog.globalNamed nErr = some 0 := by kernel_rfl
theorem tHeads : (Tryd.prog.globals[1]?).map (·.type) = some 100 := by kernel_rfl
theorem oneErr : ((List.range Tryd.prog.types.size).filter fun t => Tryd.prog.rowNamed t [101, 114, 114, 111, 114]) = [26] := by kernel_rfl

/-- The door's own heap meets the conditions. -/
theorem door_met1 (os : Os) (args : Array Value) : laidMetH Tryd.prog laid1 ((World.doorLaid Tryd.prog 21 os).forCall (fun _ _ => 0) ⟨#[], args, []⟩).memory :=
  laidMetH_of_parts3 (fuel := 8) (laidMet_of_run' 8 (by kernel_rfl) (by kernel_rfl)) (by kernel_rfl) (by kernel_rfl)
theorem door_met2 (os : Os) (args : Array Value) : laidMetH Tryd.prog laid2 ((World.doorLaid Tryd.prog 21 os).forCall (fun _ _ => 0) ⟨#[], args, []⟩).memory :=
  laidMetH_of_parts3 (fuel := 8) (laidMet_of_run' 8 (by kernel_rfl) (by kernel_rfl)) (by kernel_rfl) (by kernel_rfl)
/-- WHAT THE CONDITION GIVES THE WALKS: utf's table. -/
theorem heads_of {W : World} (h : laidMet Tryd.prog [(nHeads, Lib.tabData .u8 [0, 0, 192, 224, 240])] W) : Heads W := by
  have ht := Lib.tabIs_of_head gHeads tHeads Tryd.underlying100 Tryd.underlying5 (by kernel_rfl) (by kernel_rfl) h
  intro k h1 h4
  have hc := ht.cell gHeads k (by simp; omega)
  rw [hc]
  match k, h1, h4 with
  | 1, _, _ => rfl
  | 2, _, _ => rfl
  | 3, _, _ => rfl
  | 4, _, _ => rfl
theorem of_laid1 {W : World} (h : laidMetH Tryd.prog laid1 W) : Heads W := by
  have h' : laidMet Tryd.prog [(nHeads, Lib.tabData .u8 [0, 0, 192, 224, 240])] W := h
  exact heads_of h'
theorem of_laid2 {W : World} (h : laidMetH Tryd.prog laid2 W) : Heads W ∧ ErrType W := by
  have h' : laidMet Tryd.prog [(nHeads, Lib.tabData .u8 [0, 0, 192, 224, 240])] W ∧ handlesMet Tryd.prog [(nErr, Rows.laid_errors_errorType)] W := h
  refine ⟨heads_of h'.1, ?_⟩
  obtain ⟨name, u, ty, e1, e2, e3, e4, e5⟩ := h'.2 _ (List.mem_singleton.2 rfl)
  have en : name = [101, 114, 114, 111, 114] := (Option.some.inj e1).symm
  subst en
  have eu : some u = some 82 := e2.symm.trans (by kernel_rfl)
  obtain rfl := Option.some.inj eu
  have hm : ty ∈ (List.range Tryd.prog.types.size).filter fun t => Tryd.prog.rowNamed t [101, 114, 114, 111, 114] := List.mem_filter.2 ⟨List.mem_range.2 e3, e4⟩
  rw [oneErr] at hm
  obtain rfl := List.mem_singleton.1 hm
  have hh : typeHandle Tryd.prog 26 = .pointer (some ⟨2, 26, none⟩) := by kernel_rfl
  rw [hh] at e5
  unfold ErrType
  simpa using World.var?_cell gErr e5 0
/-- A slice of bytes that came in, opened. -/
theorem open_bytes {H : Type} {enc : TypeId × Value → H} {W : World} {fuel : Nat} {cs : List Value} {x : DataW H × List MemPlace} {sp : Nat → Bool} (h : DataW.trod enc Tryd.prog W 0 sp true fuel 22 cs = some x) :
    ∃ A len cap l, cs = [.slice A len cap] ∧ l.length = len ∧ len ≤ cap ∧ cap ≤ 9223372036854775807 ∧ Byts W W.heap.size A l := by
  rcases open_ints Tryd.underlying22 Tryd.underlying5 (by kernel_rfl) h with ⟨hcs, _⟩ | ⟨x, l, c, zs, hcs, _, hl, hm, hz, _, hcell, hwz⟩
  · exact ⟨none, 0, 0, [], hcs, rfl, Nat.le_refl _, by omega, Byts.nil⟩
  · unfold maxLen at hm
    have hlz : l ≤ zs.length := by rw [hz]; split <;> omega
    have hlen : (zs.take l).length = l := by rw [List.length_take]; omega
    refine ⟨some x, l, c, zs.take l, hcs, hlen, hl, hm, ⟨fun n hn => bounds_u8 (hwz n (List.mem_of_mem_take hn)), fun hp => ?_⟩⟩
    obtain ⟨b, off, rfl, hc⟩ := ints_at hcell (by omega)
    have h0 := hc 0 (by omega)
    refine ⟨b, off, rfl, ?_, fun i y hy => ?_⟩
    · rcases Nat.lt_or_ge b W.heap.size with h1 | h1
      · exact h1
      · simp [World.cell?, Array.getElem?_eq_none h1] at h0
    · rw [List.getElem?_take] at hy
      split at hy
      · have hi := (List.getElem?_eq_some_iff.1 hy).1
        rw [hc i hi]
        simp [List.getD, hy]
      · cases hy
theorem list3 {α : Type} {l : List α} (h : l.length = 3) : ∃ a b c, l = [a, b, c] := by
  match l, h with
  | [a, b, c], _ => exact ⟨a, b, c, rfl⟩
set_option maxRecDepth 100000 in
/-- A slice of edits that came in, opened. -/
theorem open_eds {H : Type} {enc : TypeId × Value → H} {W : World} {fuel : Nat} {cs : List Value} {x : DataW H × List MemPlace} {sp : Nat → Bool} (h : DataW.trod enc Tryd.prog W 0 sp true fuel 23 cs = some x) :
    ∃ A len cap l, cs = [.slice A len cap] ∧ l.length = len ∧ len ≤ cap ∧ cap ≤ 9223372036854775807 ∧ CellsV edCells W W.heap.size A l := by
  have hC : Tryd.prog.cellsOf 45 = 3 := by kernel_rfl
  have hCi : Tryd.prog.cellsOf 3 = 1 := by kernel_rfl
  have hCs : Tryd.prog.cellsOf 9 = 1 := by kernel_rfl
  rcases open_slice Tryd.underlying23 h with ⟨hcs, _⟩ | ⟨a, len, cap, m, n, D, Pl, hcs, hb, hl, hm, hmm, _, hx⟩
  · exact ⟨none, 0, 0, [], hcs, rfl, Nat.le_refl _, by omega, CellsV.nil⟩
  · unfold maxLen at hm
    have hlm : len ≤ m := by rw [hmm]; split <;> omega
    have each : ∀ i, i < len → ∃ e : Ei, W.cell? (a.add (i * 3)) = some (.int .i64 e.f) ∧ W.cell? (a.add (i * 3 + 1)) = some (.int .i64 e.t) ∧ W.cell? (a.add (i * 3 + 2)) = some (.string e.s) := fun i hi => by
      obtain ⟨cs', h1, h2⟩ := hx i (by omega)
      rw [hC] at h1
      obtain ⟨_, hlen, hcell⟩ := World.cells?_some h1
      obtain ⟨xs, k, _, _, _, hxl, hf⟩ := DataW.trod_struct Tryd.underlying45 h2
      obtain ⟨c0, c1, c2, rfl⟩ := list3 hlen
      obtain ⟨y0, y1, y2, rfl⟩ := list3 (show xs.length = 3 from hxl)
      have g0 := hf 0 _ rfl
      have g1 := hf 1 _ rfl
      have g2 := hf 2 _ rfl
      simp [hCi, hCs] at g0 g1 g2
      obtain ⟨e0, h0, _, _⟩ := DataW.trod_int Tryd.underlying3 g0
      obtain ⟨e1, h1', _, _⟩ := DataW.trod_int Tryd.underlying3 g1
      obtain ⟨e2, h2', _, _⟩ := DataW.trod_string Tryd.underlying9 g2
      have d0 := hcell 0 (by omega)
      have d1 := hcell 1 (by omega)
      have d2 := hcell 2 (by omega)
      rw [add_add] at d0 d1 d2
      simp at h0 h1' h2' d0 d1 d2
      exact ⟨⟨e0, e1, e2⟩, by rw [d0, h0], by rw [d1, h1'], by rw [d2, h2']⟩
    have pick : ∃ F : Nat → Ei, ∀ i, i < len → W.cell? (a.add (i * 3)) = some (.int .i64 (F i).f) ∧ W.cell? (a.add (i * 3 + 1)) = some (.int .i64 (F i).t) ∧ W.cell? (a.add (i * 3 + 2)) = some (.string (F i).s) := by
      refine ⟨fun i => if hi : i < len then (each i hi).choose else ⟨0, 0, ⟨#[]⟩⟩, fun i hi => ?_⟩
      simp only [dif_pos hi]
      exact (each i hi).choose_spec
    obtain ⟨F, hF⟩ := pick
    refine ⟨some a, len, cap, (List.range len).map F, hcs, by simp, hl, hm, fun hp => ?_⟩
    have hp' : 0 < len := by simpa using hp
    have h0 := (hF 0 hp').1
    obtain ⟨b, off, spot⟩ := a
    have hspot : spot = none := by simpa [Addr.add] using World.cell?_spot h0
    subst hspot
    have hadd : ∀ j, (⟨b, off, none⟩ : Addr).add j = ⟨b, off + j, none⟩ := fun j => Go.WideShapes.add_plain _ _ _
    refine ⟨b, off, rfl, ?_, fun j u hu => ?_⟩
    · rcases Nat.lt_or_ge b W.heap.size with h1 | h1
      · exact h1
      · rw [hadd] at h0
        simp [World.cell?, Array.getElem?_eq_none h1] at h0
    · have hj := (List.getElem?_eq_some_iff.1 hu).1
      rw [flat_length ed_enc, List.length_map, List.length_range] at hj
      have hx : ((List.range len).map F)[j / 3]? = some (F (j / 3)) := by
        rw [List.getElem?_map, List.getElem?_range (by omega)]
        rfl
      obtain ⟨c0, c1, c2⟩ := hF (j / 3) (by omega)
      rw [hadd] at c0 c1 c2
      rcases (show j % 3 = 0 ∨ j % 3 = 1 ∨ j % 3 = 2 by omega) with h2 | h2 | h2
      · have := flat_get ed_enc (j := 0) hx rfl
        rw [show j / 3 * 3 + 0 = j by omega] at this
        rw [this] at hu
        cases hu
        rw [show off + j = off + j / 3 * 3 by omega]
        exact c0
      · have := flat_get ed_enc (j := 1) hx rfl
        rw [show j / 3 * 3 + 1 = j by omega] at this
        rw [this] at hu
        cases hu
        rw [show off + j = off + (j / 3 * 3 + 1) by omega]
        exact c1
      · have := flat_get ed_enc (j := 2) hx rfl
        rw [show j / 3 * 3 + 2 = j by omega] at this
        rw [this] at hu
        cases hu
        rw [show off + j = off + (j / 3 * 3 + 2) by omega]
        exact c2
theorem int_bounds {n : Int} (h : (Lit.int .i64 n).wf = true) : -9223372036854775808 ≤ n ∧ n ≤ 9223372036854775807 := by
  simpa [Lit.wf, IntKind.min, IntKind.max, IntKind.signed, IntKind.bits] using h
end Go.Proofs.YtmkpomnhmepmcaaDoor
