/-
  What every row without a card needs over this translation: from a reading of what came in to what the walks are told.
-/
import Derived.Test.YtnbnohphdehfoaaRows
import Derived.Test.YtnbnohphdehfoaaBase
import Derived.ProofKit
import Derived.OpenShut
import Derived.Lib.SmallJoins
namespace Go.Proofs.Ytnbnohphdehfoaa
open Go.ChangeShapes Go.WideShapes Go.ChangeAt Go.RowKit

theorem own : ownKnob Try.prog.godebug = none := by kernel_rfl
theorem laidOut : laidOutB Try.prog = true := by kernel_rfl
/-- A slice of integers that came in, opened: what the walks are told of it. -/
theorem open_nums {H : Type} {enc : TypeId × Value → H} {W : World} {T E : TypeId} {k : IntKind} {fuel : Nat} {cs : List Value} {x : DataW H × List MemPlace} {sp : Nat → Bool}
    (hT : Try.prog.underlying T = some (.slice E)) (hE : Try.prog.underlying E = some (.int k)) (hc : Try.prog.cellsOf E = 1) (h : DataW.trod enc Try.prog W 0 sp true fuel T cs = some x) :
    ∃ A len cap l, cs = [.slice A len cap] ∧ l.length = len ∧ len ≤ cap ∧ cap ≤ 9223372036854775807 ∧ NumsK k W W.heap.size A l ∧ ∀ n ∈ l, (Lit.int k n).wf = true := by
  rcases open_ints hT hE hc h with ⟨hcs, _⟩ | ⟨a, len, cap, zs, hcs, _, hl, hm, hz, _, hcell, hwz⟩
  · exact ⟨none, 0, 0, [], hcs, rfl, Nat.le_refl _, by omega, NumsK.nil, by simp⟩
  · unfold maxLen at hm
    have hlen : (zs.take len).length = len := by
      rw [List.length_take]
      have : zs.length = cap ∨ zs.length = len := by rw [hz]; split <;> simp
      omega
    refine ⟨some a, len, cap, zs.take len, hcs, hlen, hl, hm, fun hp => ?_, fun n hn => hwz n (List.mem_of_mem_take hn)⟩
    obtain ⟨b, off, rfl, hcell'⟩ := ints_at hcell (by rw [List.length_take] at hp; omega)
    have h0 := hcell' 0 (by rw [List.length_take] at hp; omega)
    refine ⟨b, off, rfl, ?_, fun i y hy => ?_⟩
    · rcases Nat.lt_or_ge b W.heap.size with h1 | h1
      · exact h1
      · simp [World.cell?, Array.getElem?_eq_none h1] at h0
    · rw [List.getElem?_take] at hy
      split at hy
      · have hi := (List.getElem?_eq_some_iff.1 hy).1
        rw [hcell' i hi]
        simp [List.getD, hy]
      · cases hy
theorem int_bounds {n : Int} (h : (Lit.int .i64 n).wf = true) : -9223372036854775808 ≤ n ∧ n ≤ 9223372036854775807 := by
  simpa [Lit.wf, IntKind.min, IntKind.max, IntKind.signed, IntKind.bits] using h
end Go.Proofs.Ytnbnohphdehfoaa
