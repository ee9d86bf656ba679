/-
  errors.As at a target of type *api.Lack where the error is an api.Lack; and 'Off' of the laws: the place that an error tells, or -1.
-/
import Derived.Test.YtnpmkapapacffaaDoorLkWalk
namespace Go.Proofs.YtnpmkapapacffaaDoor
open Go.RowKit Go.Extern.Stop Go.Stop Go.Extern

set_option maxHeartbeats 4000000 in
theorem as_hit (o : ByteArray) (k : Int) (tb : Nat) (u v : Value) (w : World) (hg : w.cell? ⟨0, 0, none⟩ = some (.iface 111 (.agg #[.pointer (some ⟨4, 28, none⟩)])))
    (ht0 : w.cell? ⟨tb, 0, none⟩ = some u) (ht1 : w.cell? ⟨tb, 1, none⟩ = some v) (hf0 : w.frozen? ⟨tb, 0, none⟩ = false) (hf1 : w.frozen? ⟨tb, 1, none⟩ = false) :
    Calls Tryd.prog 34 #[.iface 64 (.agg #[.string o, .iface 57 (.int .i64 k)]), .iface 66 (.pointer (some ⟨tb, 0, none⟩))] w fun ev w' => ev = .returned (.bool true) ∧
      w' = (((((w.alloc (.cells #[.pointer (some ⟨tb, 0, none⟩)] 66)).alloc (.cells #[.pointer (some ⟨4, 66, none⟩), .pointer (some ⟨w.heap.size, 0, none⟩), .int .u64 150] 91)).alloc (.cells #[.pointer (some ⟨4, 66, none⟩), .pointer (some ⟨w.heap.size, 0, none⟩), .int .u64 150] 91)).alloc (.cells #[.string o, .iface 57 (.int .i64 k)] 64)).setCell ⟨tb, 0, none⟩ (.string o)).setCell ⟨tb, 1, none⟩ (.iface 57 (.int .i64 k)) := by
  have r1 := asRun1
  have r2 := asRun2
  have r3 := asRun3
  have r4 := asRun4
  have r5 := asRun5
  have r6 := asRun6
  have r7 := asRun7
  have r8 := asRun8
  have r9 := asRun9
  have rT := runTypeOf
  have tO := asTypeOfS
  have mA := asMethodAssignableTo
  have aS := asAssignableS
  have f6 := asValueOfP
  have vS := asValueOfS
  have f7 := asTypeP
  have mK := asMethodKind
  have mE := asMethodElem
  have mI := asMethodImplements
  have k27 := asKindP
  have k25 := asKindS
  have e27 := asElemP
  have i25 := asImplementsS
  have hlt : 0 < w.heap.size := by
    rcases Nat.lt_or_ge 0 w.heap.size with h | h
    · exact h
    · simp [World.cell?, Array.getElem?_eq_none h] at hg
  have htl : tb < w.heap.size := by
    rcases Nat.lt_or_ge tb w.heap.size with h | h
    · exact h
    · simp [World.cell?, Array.getElem?_eq_none h] at ht0
  have n8 := asIsNilP ⟨w.heap.size, 0, none⟩ ⟨tb, 0, none⟩ ((w.alloc (.cells #[.pointer (some ⟨tb, 0, none⟩)] 66)).alloc (.cells #[.pointer (some ⟨4, 66, none⟩), .pointer (some ⟨w.heap.size, 0, none⟩), .int .u64 150] 91)) (by simp)
  have hg2 : ((w.alloc (.cells #[.pointer (some ⟨tb, 0, none⟩)] 66)).alloc (.cells #[.pointer (some ⟨4, 66, none⟩), .pointer (some ⟨w.heap.size, 0, none⟩), .int .u64 150] 91)).cell? ⟨0, 0, none⟩ = some (.iface 111 (.agg #[.pointer (some ⟨4, 28, none⟩)])) := by
    rw [World.cell?_alloc_lt _ _ ⟨0, 0, none⟩ (by simp <;> omega), World.cell?_alloc_lt _ _ ⟨0, 0, none⟩ hlt]; exact hg
  have el := asElemVP ⟨w.heap.size, 0, none⟩ ⟨tb, 0, none⟩ (((w.alloc (.cells #[.pointer (some ⟨tb, 0, none⟩)] 66)).alloc (.cells #[.pointer (some ⟨4, 66, none⟩), .pointer (some ⟨w.heap.size, 0, none⟩), .int .u64 150] 91)).alloc (.cells #[.pointer (some ⟨4, 66, none⟩), .pointer (some ⟨w.heap.size, 0, none⟩), .int .u64 150] 91)) (by rw [World.cell?_alloc_lt _ _ ⟨w.heap.size, 0, none⟩ (by simp <;> omega)]; simp)
  have old0 : ∀ j, ((((w.alloc (.cells #[.pointer (some ⟨tb, 0, none⟩)] 66)).alloc (.cells #[.pointer (some ⟨4, 66, none⟩), .pointer (some ⟨w.heap.size, 0, none⟩), .int .u64 150] 91)).alloc (.cells #[.pointer (some ⟨4, 66, none⟩), .pointer (some ⟨w.heap.size, 0, none⟩), .int .u64 150] 91)).alloc (.cells #[.string o, .iface 57 (.int .i64 k)] 64)).cell? ⟨tb, j, none⟩ = w.cell? ⟨tb, j, none⟩ := fun j => by
    rw [World.cell?_alloc_lt _ _ ⟨tb, j, none⟩ (by simp <;> omega), World.cell?_alloc_lt _ _ ⟨tb, j, none⟩ (by simp <;> omega), World.cell?_alloc_lt _ _ ⟨tb, j, none⟩ (by simp <;> omega), World.cell?_alloc_lt _ _ ⟨tb, j, none⟩ htl]
  have oldf : ∀ j, ((((w.alloc (.cells #[.pointer (some ⟨tb, 0, none⟩)] 66)).alloc (.cells #[.pointer (some ⟨4, 66, none⟩), .pointer (some ⟨w.heap.size, 0, none⟩), .int .u64 150] 91)).alloc (.cells #[.pointer (some ⟨4, 66, none⟩), .pointer (some ⟨w.heap.size, 0, none⟩), .int .u64 150] 91)).alloc (.cells #[.string o, .iface 57 (.int .i64 k)] 64)).frozen? ⟨tb, j, none⟩ = w.frozen? ⟨tb, j, none⟩ := fun j => by
    rw [World.frozen?_alloc_old _ _ ⟨tb, j, none⟩ (by simp <;> omega), World.frozen?_alloc_old _ _ ⟨tb, j, none⟩ (by simp <;> omega), World.frozen?_alloc_old _ _ ⟨tb, j, none⟩ (by simp <;> omega), World.frozen?_alloc_old _ _ ⟨tb, j, none⟩ (Nat.ne_of_lt htl)]
  have st := asSet tb (w.heap.size + 1 + 1 + 1) o 57 (.int .i64 k) u v ((((w.alloc (.cells #[.pointer (some ⟨tb, 0, none⟩)] 66)).alloc (.cells #[.pointer (some ⟨4, 66, none⟩), .pointer (some ⟨w.heap.size, 0, none⟩), .int .u64 150] 91)).alloc (.cells #[.pointer (some ⟨4, 66, none⟩), .pointer (some ⟨w.heap.size, 0, none⟩), .int .u64 150] 91)).alloc (.cells #[.string o, .iface 57 (.int .i64 k)] 64))
    (by rw [World.cell?_alloc_at _ _ _ _ (by simp)]; rfl) (by rw [World.cell?_alloc_at _ _ _ _ (by simp)]; rfl) (by rw [old0]; exact ht0) (by rw [old0]; exact ht1) (by rw [oldf]; exact hf0) (by rw [oldf]; exact hf1)
  have H0 := Lib.hid old0
  have H1 := Lib.hid oldf
  clear old0 oldf
  go_enter Tryd.func34, Tryd.ntmps34
  go_wp2
  refine wp_loop_rounds 1 ?_
  rw [rounds_succ]
  go_wp2
  go_ret
  exact ⟨rfl, rfl⟩
end Go.Proofs.YtnpmkapapacffaaDoor
