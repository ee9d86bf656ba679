/-
  Bytes as cells; where utf's table lies.
-/
import Derived.Test.YtmkpomnhmepmcaaDoorUtfDec
namespace Go.Proofs.YtmkpomnhmepmcaaDoor
open Go.RowKit

/-- The cells that hold the bytes l. -/
def cellsOf (l : List Int) : Array Value := (l.map fun x => Value.int .u8 x).toArray
theorem Heads.lt {w : World} (h : Heads w) : 1 < w.heap.size := by
  have h1 := h 1 (by omega) (by omega)
  rcases Nat.lt_or_ge 1 w.heap.size with h2 | h2
  · exact h2
  · simp [World.cell?, Array.getElem?_eq_none h2] at h1
end Go.Proofs.YtmkpomnhmepmcaaDoor
