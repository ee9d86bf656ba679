/-
  The contract of the reference's Bytes: the bytes of 'U.enc r' in a block of their own.
-/
import Derived.Test.YtmkpomnhmepmcaaDoorUtfCell
namespace Go.Proofs.YtmkpomnhmepmcaaDoor
open Go.RowKit

set_option maxHeartbeats 1000000 in
theorem Bytes_1 (r : Int) (w : World) (h0 : 0 ≤ r) (h1 : r < 128) :
    Calls Tryd.prog 46 #[.int .i64 r] w fun e w' => e = .returned (.slice (some ⟨w.heap.size, 0, none⟩) 1 1) ∧ w' = w.alloc (.cells #[.int .u8 r] 5) := by
  go_enter Tryd.func46, Tryd.ntmps46
  go_wp2
  go_ret
  exact ⟨rfl, rfl⟩
set_option maxHeartbeats 1000000 in
theorem Bytes_2 (r : Int) (w : World) (h0 : 128 ≤ r) (h1 : r < 2048) :
    Calls Tryd.prog 46 #[.int .i64 r] w fun e w' => e = .returned (.slice (some ⟨w.heap.size, 0, none⟩) 2 2) ∧ w' = w.alloc (.cells #[.int .u8 (192 + r / 64), .int .u8 (128 + r % 64)] 5) := by
  go_enter Tryd.func46, Tryd.ntmps46
  go_wp2
  go_ret
  exact ⟨rfl, rfl⟩
set_option maxHeartbeats 1000000 in
theorem Bytes_3 (r : Int) (w : World) (h0 : 2048 ≤ r) (h1 : r < 65536) :
    Calls Tryd.prog 46 #[.int .i64 r] w fun e w' => e = .returned (.slice (some ⟨w.heap.size, 0, none⟩) 3 3) ∧ w' = w.alloc (.cells #[.int .u8 (224 + r / 4096), .int .u8 (128 + r / 64 % 64), .int .u8 (128 + r % 64)] 5) := by
  go_enter Tryd.func46, Tryd.ntmps46
  go_wp2
  go_ret
  exact ⟨rfl, rfl⟩
set_option maxHeartbeats 1000000 in
theorem Bytes_4 (r : Int) (w : World) (h0 : 65536 ≤ r) (h1 : r ≤ 1114111) :
    Calls Tryd.prog 46 #[.int .i64 r] w fun e w' => e = .returned (.slice (some ⟨w.heap.size, 0, none⟩) 4 4) ∧ w' = w.alloc (.cells #[.int .u8 (240 + r / 262144), .int .u8 (128 + r / 4096 % 64), .int .u8 (128 + r / 64 % 64), .int .u8 (128 + r % 64)] 5) := by
  go_enter Tryd.func46, Tryd.ntmps46
  go_wp2
  go_ret
  exact ⟨rfl, rfl⟩
theorem Bytes_any (r : Int) (w : World) (h : U.isRune r = true) :
    Calls Tryd.prog 46 #[.int .i64 r] w fun e w' => e = .returned (.slice (some ⟨w.heap.size, 0, none⟩) (U.rlen r) (U.rlen r)) ∧ w' = w.alloc (.cells (cellsOf (U.enc r)) 5) := by
  have hr := U.isRune_iff.1 h
  rcases U.rlen_inv r with ⟨e, h1⟩ | ⟨e, h1⟩ | ⟨e, h1⟩ | ⟨e, h1⟩
  · have hc : cellsOf (U.enc r) = #[.int .u8 r] := by simp [cellsOf, U.enc, h1]
    rw [e, hc]
    exact Bytes_1 r w (by omega) (by omega)
  · have hc : cellsOf (U.enc r) = #[.int .u8 (192 + r / 64), .int .u8 (128 + r % 64)] := by simp [cellsOf, U.enc, h1, show ¬ r < 128 by omega]
    rw [e, hc]
    exact Bytes_2 r w (by omega) (by omega)
  · have hc : cellsOf (U.enc r) = #[.int .u8 (224 + r / 4096), .int .u8 (128 + r / 64 % 64), .int .u8 (128 + r % 64)] := by simp [cellsOf, U.enc, h1, show ¬ r < 128 by omega, show ¬ r < 2048 by omega]
    rw [e, hc]
    exact Bytes_3 r w (by omega) (by omega)
  · have hc : cellsOf (U.enc r) = #[.int .u8 (240 + r / 262144), .int .u8 (128 + r / 4096 % 64), .int .u8 (128 + r / 64 % 64), .int .u8 (128 + r % 64)] := by simp [cellsOf, U.enc, show ¬ r < 128 by omega, show ¬ r < 2048 by omega, show ¬ r < 65536 by omega]
    rw [e, hc]
    exact Bytes_4 r w (by omega) (by omega)
end Go.Proofs.YtmkpomnhmepmcaaDoor
