/-
  What rows over spans need: from a reading of a slice of structs of two int's, of such a struct, of an array of two int's, to what the walks are told.
-/
import Derived.Test.YtnbnohphdehfoaaRowKit2
import Derived.Test.YtnbnohphdehfoaaAppV
import Derived.Deep.SlicePairs
namespace Go.Proofs.Ytnbnohphdehfoaa
open Go.ChangeShapes Go.WideShapes Go.ChangeAt Go.RowKit Go.Joins Go.Deep

/-- A slice of spans that came in, opened. -/
theorem open_spans {H : Type} {enc : TypeId × Value → H} {W : World} {fuel : Nat} {cs : List Value} {x : DataW H × List MemPlace} {sp : Nat → Bool} (h : DataW.trod enc Try.prog W 0 sp true fuel 34 cs = some x) :
    ∃ A len cap l, cs = [.slice A len cap] ∧ l.length = len ∧ len ≤ cap ∧ cap ≤ 9223372036854775807 ∧ CellsV pairCells W W.heap.size A l := by
  rcases open_slice_pairs Try.underlying34 Try.underlying23 (by kernel_rfl) rfl rfl (by kernel_rfl) (by kernel_rfl) h with ⟨hcs, _⟩ | ⟨a, len, cap, m, n, V0, V1, D0, D1, P0, P1, hcs, hb, hl, hm, hmm, hx, hi⟩
  · exact ⟨none, 0, 0, [], hcs, rfl, Nat.le_refl _, by omega, CellsV.nil⟩
  · unfold maxLen at hm
    have hlm : len ≤ m := by rw [hmm]; split <;> omega
    have hv : ∀ i, i < len → W.cell? (a.add (i * 2)) = some (.int .i64 (intOf (V0 i))) ∧ W.cell? (a.add (i * 2 + 1)) = some (.int .i64 (intOf (V1 i))) := fun i hil => by
      obtain ⟨k0, k1, t0, t1⟩ := hi i (by omega)
      obtain ⟨e0, he0, _, _⟩ := DataW.trod_int Try.underlying3 t0
      obtain ⟨e1, he1, _, _⟩ := DataW.trod_int Try.underlying3 t1
      simp only [List.cons.injEq, and_true] at he0 he1
      rw [k0, k1, he0, he1]
      exact ⟨rfl, rfl⟩
    refine ⟨some a, len, cap, (List.range len).map fun i => (intOf (V0 i), intOf (V1 i)), hcs, by simp, hl, hm, fun hp => ?_⟩
    have hp' : 0 < len := by simpa using hp
    have h0 := (hv 0 hp').1
    obtain ⟨b, off, spot⟩ := a
    have hspot : spot = none := by simpa [Addr.add] using World.cell?_spot h0
    subst hspot
    have hadd : ∀ j, (⟨b, off, none⟩ : Addr).add j = ⟨b, off + j, none⟩ := fun j => Go.WideShapes.add_plain _ _ _
    refine ⟨b, off, rfl, ?_, fun j u hu => ?_⟩
    · rcases Nat.lt_or_ge b W.heap.size with h1 | h1
      · exact h1
      · rw [hadd] at h0
        simp [World.cell?, Array.getElem?_eq_none h1] at h0
    · have hj := (List.getElem?_eq_some_iff.1 hu).1
      rw [flat_length pair_enc, List.length_map, List.length_range] at hj
      have hx : ((List.range len).map fun i => (intOf (V0 i), intOf (V1 i)))[j / 2]? = some (intOf (V0 (j / 2)), intOf (V1 (j / 2))) := by
        rw [List.getElem?_map, List.getElem?_range (by omega)]
        rfl
      obtain ⟨c0, c1⟩ := hv (j / 2) (by omega)
      rw [hadd] at c0 c1
      rcases Nat.mod_two_eq_zero_or_one j with h2 | h2
      · have := flat_get pair_enc (j := 0) hx rfl
        rw [show j / 2 * 2 + 0 = j by omega] at this
        rw [this] at hu
        cases hu
        rw [show off + j = off + j / 2 * 2 by omega]
        exact c0
      · have := flat_get pair_enc (j := 1) hx rfl
        rw [show j / 2 * 2 + 1 = j by omega] at this
        rw [this] at hu
        cases hu
        rw [show off + j = off + (j / 2 * 2 + 1) by omega]
        exact c1
/-- A span that came in by value. -/
theorem open_span {H : Type} {enc : TypeId × Value → H} {W : World} {b0 : Nat} {sp : Nat → Bool} {v : Value} {d : DataW H} {p : List MemPlace} (hv : Value.okWide Try.prog W .any b0 23 v) (h : DataW.Trod enc Try.prog W 0 sp true 23 v d p) :
    ∃ x y : Int, v = .agg #[.int .i64 x, .int .i64 y] := by
  obtain ⟨s, t, y, z, m, rfl, rfl, rfl, hy, hz⟩ := open_agg2 Try.underlying23 (by kernel_rfl) (show Try.prog.cellsOf 23 = 2 by kernel_rfl) hv h
  obtain ⟨e0, he0, _, _⟩ := DataW.trod_int Try.underlying3 hy
  obtain ⟨e1, he1, _, _⟩ := DataW.trod_int Try.underlying3 hz
  simp only [List.cons.injEq, and_true] at he0 he1
  exact ⟨e0, e1, by rw [he0, he1]⟩
/-- An array of two int's that came in by value. -/
theorem open_two {H : Type} {enc : TypeId × Value → H} {W : World} {b0 : Nat} {sp : Nat → Bool} {v : Value} {d : DataW H} {p : List MemPlace} (hv : Value.okWide Try.prog W .any b0 24 v) (h : DataW.Trod enc Try.prog W 0 sp true 24 v d p) :
    ∃ x y : Int, v = .agg #[.int .i64 x, .int .i64 y] := by
  have hu : Try.prog.underlying 24 = some (.array 2 3) := Try.underlying24
  have hc : Try.prog.cellsOf 3 = 1 := by kernel_rfl
  have hc2 : Try.prog.cellsOf 24 = 2 := by kernel_rfl
  simp only [Value.okWide, hu] at hv
  obtain ⟨cs, rfl, h2, _⟩ := hv
  obtain ⟨fuel, hf⟩ := h
  obtain ⟨xs, m, _, _, hlen, hxl, hi⟩ := DataW.trod_array hu hf
  obtain ⟨l⟩ := cs
  simp only [Value.cells] at hlen hi
  rw [hc2] at hlen
  match l, hlen with
  | [c0, c1], _ =>
    have t0 := hi 0 (by omega)
    have t1 := hi 1 (by omega)
    rw [hc] at t0 t1
    have e0 : xs[0]? = some (xs[0]'(by omega)) := List.getElem?_eq_getElem _
    have e1 : xs[1]? = some (xs[1]'(by omega)) := List.getElem?_eq_getElem _
    rw [e0] at t0
    rw [e1] at t1
    obtain ⟨a0, he0, _, _⟩ := DataW.trod_int Try.underlying3 t0
    obtain ⟨a1, he1, _, _⟩ := DataW.trod_int Try.underlying3 t1
    simp at he0 he1
    exact ⟨a0, a1, by rw [he0, he1]⟩
end Go.Proofs.Ytnbnohphdehfoaa
