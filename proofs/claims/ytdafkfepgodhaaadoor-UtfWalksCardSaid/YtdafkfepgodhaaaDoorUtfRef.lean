/-
  The contracts of the reference's Bytes and Encode: the bytes of 'U.enc r' in a block of their own.
-/
import Derived.Test.YtdafkfepgodhaaaDoorUtfEnc
namespace Go.Proofs.YtdafkfepgodhaaaDoor
open Go.RowKit

set_option maxHeartbeats 1000000 in
theorem Bytes_1 (r : Int) (w : World) (h0 : 0 ≤ r) (h1 : r < 128) :
    Calls Tryd.prog 27 #[.int .i64 r] w fun e w' => e = .returned (.slice (some ⟨w.heap.size, 0, none⟩) 1 1) ∧ w' = w.alloc (.cells #[.int .u8 r] 5) := by
  go_enter Tryd.func27, Tryd.ntmps27
  go_wp2
  go_ret
  exact ⟨rfl, rfl⟩
set_option maxHeartbeats 1000000 in
theorem Bytes_2 (r : Int) (w : World) (h0 : 128 ≤ r) (h1 : r < 2048) :
    Calls Tryd.prog 27 #[.int .i64 r] w fun e w' => e = .returned (.slice (some ⟨w.heap.size, 0, none⟩) 2 2) ∧ w' = w.alloc (.cells #[.int .u8 (192 + r / 64), .int .u8 (128 + r % 64)] 5) := by
  go_enter Tryd.func27, Tryd.ntmps27
  go_wp2
  go_ret
  exact ⟨rfl, rfl⟩
set_option maxHeartbeats 1000000 in
theorem Bytes_3 (r : Int) (w : World) (h0 : 2048 ≤ r) (h1 : r < 65536) :
    Calls Tryd.prog 27 #[.int .i64 r] w fun e w' => e = .returned (.slice (some ⟨w.heap.size, 0, none⟩) 3 3) ∧ w' = w.alloc (.cells #[.int .u8 (224 + r / 4096), .int .u8 (128 + r / 64 % 64), .int .u8 (128 + r % 64)] 5) := by
  go_enter Tryd.func27, Tryd.ntmps27
  go_wp2
  go_ret
  exact ⟨rfl, rfl⟩
set_option maxHeartbeats 1000000 in
theorem Bytes_4 (r : Int) (w : World) (h0 : 65536 ≤ r) (h1 : r ≤ 1114111) :
    Calls Tryd.prog 27 #[.int .i64 r] w fun e w' => e = .returned (.slice (some ⟨w.heap.size, 0, none⟩) 4 4) ∧ w' = w.alloc (.cells #[.int .u8 (240 + r / 262144), .int .u8 (128 + r / 4096 % 64), .int .u8 (128 + r / 64 % 64), .int .u8 (128 + r % 64)] 5) := by
  go_enter Tryd.func27, Tryd.ntmps27
  go_wp2
  go_ret
  exact ⟨rfl, rfl⟩
theorem Bytes_any (r : Int) (w : World) (h : U.isRune r = true) :
    Calls Tryd.prog 27 #[.int .i64 r] w fun e w' => e = .returned (.slice (some ⟨w.heap.size, 0, none⟩) (U.rlen r) (U.rlen r)) ∧ w' = w.alloc (.cells (cellsOf (U.enc r)) 5) := by
  have hr := U.isRune_iff.1 h
  rcases U.rlen_inv r with ⟨e, h1⟩ | ⟨e, h1⟩ | ⟨e, h1⟩ | ⟨e, h1⟩
  · have hc : cellsOf (U.enc r) = #[.int .u8 r] := by simp [cellsOf, U.enc, h1]
    rw [e, hc]
    exact Bytes_1 r w (by omega) (by omega)
  · have hc : cellsOf (U.enc r) = #[.int .u8 (192 + r / 64), .int .u8 (128 + r % 64)] := by simp [cellsOf, U.enc, h1, show ¬ r < 128 by omega]
    rw [e, hc]
    exact Bytes_2 r w (by omega) (by omega)
  · have hc : cellsOf (U.enc r) = #[.int .u8 (224 + r / 4096), .int .u8 (128 + r / 64 % 64), .int .u8 (128 + r % 64)] := by simp [cellsOf, U.enc, h1, show ¬ r < 128 by omega, show ¬ r < 2048 by omega]
    rw [e, hc]
    exact Bytes_3 r w (by omega) (by omega)
  · have hc : cellsOf (U.enc r) = #[.int .u8 (240 + r / 262144), .int .u8 (128 + r / 4096 % 64), .int .u8 (128 + r / 64 % 64), .int .u8 (128 + r % 64)] := by simp [cellsOf, U.enc, show ¬ r < 128 by omega, show ¬ r < 2048 by omega, show ¬ r < 65536 by omega]
    rw [e, hc]
    exact Bytes_4 r w (by omega) (by omega)
set_option maxHeartbeats 1000000 in
theorem refEncode_none (r : Int) (w : World) (h : U.isRune r = false) :
    Calls Tryd.prog 10 #[.int .i64 r] w fun e w' => e = .returned (.tuple #[.slice none 0 0, .int .i64 4]) ∧ w = w' := by
  go_enter Tryd.func10, Tryd.ntmps10
  go_wp2_with (go_at_call 26; refine (Rune_any _ _).mono ?_; rintro e w' ⟨rfl, rfl⟩)
  go_ret2
  exact ⟨rfl, rfl⟩
set_option maxHeartbeats 1000000 in
theorem refEncode_some (r : Int) (w : World) (h : U.isRune r = true) :
    Calls Tryd.prog 10 #[.int .i64 r] w fun e w' => e = .returned (.tuple #[.slice (some ⟨w.heap.size, 0, none⟩) (U.rlen r) (U.rlen r), .int .i64 0]) ∧ w' = w.alloc (.cells (cellsOf (U.enc r)) 5) := by
  go_enter Tryd.func10, Tryd.ntmps10
  go_wp2_with (first | (go_at_call 26; refine (Rune_any _ _).mono ?_; rintro e w' ⟨rfl, rfl⟩) | (go_at_call 27; refine (Bytes_any _ _ h).mono ?_; rintro e w' ⟨rfl, rfl⟩))
  go_ret2
  exact ⟨rfl, rfl⟩
end Go.Proofs.YtdafkfepgodhaaaDoor
