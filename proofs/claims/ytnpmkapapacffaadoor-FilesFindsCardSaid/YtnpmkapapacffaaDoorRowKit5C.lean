/-
  An array of two strings that came in by value, opened.
-/
import Derived.Test.YtnpmkapapacffaaDoorRowKit5B
namespace Go.Proofs.YtnpmkapapacffaaDoor
open Go.ChangeShapes Go.WideShapes Go.ChangeAt Go.RowKit

set_option maxRecDepth 100000 in
theorem open_strs2 {H : Type} {enc : TypeId × Value → H} {W : World} {b0 : Nat} {sp : Nat → Bool} {v : Value} {d : DataW H} {p : List MemPlace} (hv : Value.okWide Tryd.prog W .any b0 36 v) (h : DataW.Trod enc Tryd.prog W 0 sp true 36 v d p) :
    ∃ s t : ByteArray, v = .agg #[.string s, .string t] := by
  have hu : Tryd.prog.underlying 36 = some (.array 2 9) := Tryd.underlying36
  have hc : Tryd.prog.cellsOf 9 = 1 := by kernel_rfl
  have hc2 : Tryd.prog.cellsOf 36 = 2 := by kernel_rfl
  simp only [Value.okWide, hu] at hv
  obtain ⟨cs, rfl, h2, _⟩ := hv
  obtain ⟨fuel, hf⟩ := h
  obtain ⟨xs, m, _, _, hlen, hxl, hi⟩ := DataW.trod_array hu hf
  obtain ⟨l⟩ := cs
  simp only [Value.cells] at hlen hi
  rw [hc2] at hlen
  match l, hlen with
  | [c0, c1], _ =>
    have t0 := hi 0 (by omega)
    have t1 := hi 1 (by omega)
    rw [hc] at t0 t1
    have e0 : xs[0]? = some (xs[0]'(by omega)) := List.getElem?_eq_getElem _
    have e1 : xs[1]? = some (xs[1]'(by omega)) := List.getElem?_eq_getElem _
    rw [e0] at t0
    rw [e1] at t1
    obtain ⟨a0, he0, _, _⟩ := DataW.trod_string Tryd.underlying9 t0
    obtain ⟨a1, he1, _, _⟩ := DataW.trod_string Tryd.underlying9 t1
    simp at he0 he1
    exact ⟨a0, a1, by rw [he0, he1]⟩
end Go.Proofs.YtnpmkapapacffaaDoor
