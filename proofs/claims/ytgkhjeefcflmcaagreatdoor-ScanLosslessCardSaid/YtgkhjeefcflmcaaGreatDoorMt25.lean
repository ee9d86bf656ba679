/-
  The contract of utf.Encode: the bytes of 'U.enc r' in a block of its own, or ErrRange.
-/
import Derived.Test.YtgkhjeefcflmcaaGreatDoorMt00
namespace Go.Proofs.YtgkhjeefcflmcaaGreatDoor
open Go.RowKit
theorem i32_and63 {x : Int} (h0 : 0 ≤ x) (h1 : x < 2147483648) : bits .and .i32 x 63 = x % 64 := bits_mask .i32 31 (by decide) wraps_i32 6 (by decide) x h0 h1
theorem byte_or0 {c : Int} (h0 : 0 ≤ c) (h1 : c ≤ 255) : bits .or .u8 0 c = c := by
 simpa using byte_all (p := fun c => bits .or .u8 0 c == c) (by decide +kernel) h0 h1
set_option maxHeartbeats 400000 in
theorem encode_none (r : Int) (w : World) (h : U.isRune r = false) :
  Calls Tryz.prog 230 #[.int .i32 r] w fun e w' => e = .returned (.tuple #[.slice none 0 0, errno 4]) ∧ w = w' := by
 go_enter Tryz.func230, Tryz.ntmps230
 go_wp2_with (go_at_call 113; refine (isRune_any _ _).mono ?_; rintro e w' ⟨rfl, rfl⟩)
 go_ret2
 exact ⟨rfl, rfl⟩
set_option maxHeartbeats 1000000 in
theorem encode_1 (r : Int) (w : World) (h : U.isRune r = true) (hl : (U.rlen r : Int) = 1) (h0 : 0 ≤ r) (h1 : r ≤ 127) (hh : w.cell? ⟨2, 1, none⟩ = some (.int .u8 0)) (hg : 2 < w.heap.size) :
  Calls Tryz.prog 230 #[.int .i32 r] w fun e w' => e = .returned (.tuple #[.slice (some ⟨w.heap.size, 0, none⟩) 1 1, .nilIface]) ∧ w' = w.alloc (.cells #[.int .u8 r] 5) := by
 have hmk : ∀ w : World, (Instr.makeSlice 22 (.int .i64 1) (.int .i64 1)).run Tryz.prog w = .ok (.slice (some ⟨w.heap.size, 0, none⟩) 1 1) (w.alloc (.cells #[.int .u8 0] 5)) := fun _ => by kernel_rfl
 go_enter Tryz.func230, Tryz.ntmps230
 go_wp2_with (first | (go_at_call 113; refine (isRune_any _ _).mono ?_; rintro e w' ⟨rfl, rfl⟩) | (go_at_call 114; refine (length_any _ _).mono ?_; rintro e w' ⟨rfl, rfl⟩))
 refine wp_loop_rounds 1 ?_
 rw [rounds_succ]
 go_wp2
 go_ret2
 exact ⟨rfl, by rw [byte_or0 h0 (by omega)]⟩
set_option maxHeartbeats 1000000 in
theorem encode_2 (r : Int) (w : World) (h : U.isRune r = true) (hl : (U.rlen r : Int) = 2) (h0 : 128 ≤ r) (h1 : r ≤ 2047) (hh : w.cell? ⟨2, 2, none⟩ = some (.int .u8 192)) (hg : 2 < w.heap.size) :
  Calls Tryz.prog 230 #[.int .i32 r] w fun e w' => e = .returned (.tuple #[.slice (some ⟨w.heap.size, 0, none⟩) 2 2, .nilIface]) ∧ w' = w.alloc (.cells #[.int .u8 (192 + r / 64), .int .u8 (128 + r % 64)] 5) := by
 have hmk : ∀ w : World, (Instr.makeSlice 22 (.int .i64 2) (.int .i64 2)).run Tryz.prog w = .ok (.slice (some ⟨w.heap.size, 0, none⟩) 2 2) (w.alloc (.cells #[.int .u8 0, .int .u8 0] 5)) := fun _ => by kernel_rfl
 go_enter Tryz.func230, Tryz.ntmps230
 go_wp2_with (first | (go_at_call 113; refine (isRune_any _ _).mono ?_; rintro e w' ⟨rfl, rfl⟩) | (go_at_call 114; refine (length_any _ _).mono ?_; rintro e w' ⟨rfl, rfl⟩))
 refine wp_loop_rounds 2 ?_
 rw [rounds_succ]
 go_wp2
 rw [rounds_succ]
 go_wp2
 go_ret2
 exact ⟨rfl, by rw [i32_and63 (show 0 ≤ r by omega) (by omega), u8_or128 _ (show 0 ≤ r % 64 % 256 by omega) (by omega), show r % 64 % 256 = r % 64 by omega]⟩
set_option maxHeartbeats 1000000 in
theorem encode_3 (r : Int) (w : World) (h : U.isRune r = true) (hl : (U.rlen r : Int) = 3) (h0 : 2048 ≤ r) (h1 : r ≤ 65535) (hh : w.cell? ⟨2, 3, none⟩ = some (.int .u8 224)) (hg : 2 < w.heap.size) :
  Calls Tryz.prog 230 #[.int .i32 r] w fun e w' => e = .returned (.tuple #[.slice (some ⟨w.heap.size, 0, none⟩) 3 3, .nilIface]) ∧ w' = w.alloc (.cells #[.int .u8 (224 + r / 4096), .int .u8 (128 + r / 64 % 64), .int .u8 (128 + r % 64)] 5) := by
 have hmk : ∀ w : World, (Instr.makeSlice 22 (.int .i64 3) (.int .i64 3)).run Tryz.prog w = .ok (.slice (some ⟨w.heap.size, 0, none⟩) 3 3) (w.alloc (.cells #[.int .u8 0, .int .u8 0, .int .u8 0] 5)) := fun _ => by kernel_rfl
 go_enter Tryz.func230, Tryz.ntmps230
 go_wp2_with (first | (go_at_call 113; refine (isRune_any _ _).mono ?_; rintro e w' ⟨rfl, rfl⟩) | (go_at_call 114; refine (length_any _ _).mono ?_; rintro e w' ⟨rfl, rfl⟩))
 refine wp_loop_rounds 3 ?_
 rw [rounds_succ]
 go_wp2
 rw [rounds_succ]
 go_wp2
 rw [rounds_succ]
 go_wp2
 go_ret2
 exact ⟨rfl, by rw [i32_and63 (show 0 ≤ r / 64 by omega) (by omega), i32_and63 (show 0 ≤ r by omega) (by omega), u8_or128 _ (show 0 ≤ r / 64 % 64 % 256 by omega) (by omega), show r / 64 % 64 % 256 = r / 64 % 64 by omega, u8_or128 _ (show 0 ≤ r % 64 % 256 by omega) (by omega), show r % 64 % 256 = r % 64 by omega, show r / 64 / 64 = r / 4096 by omega]⟩
set_option maxHeartbeats 1000000 in
theorem encode_4 (r : Int) (w : World) (h : U.isRune r = true) (hl : (U.rlen r : Int) = 4) (h0 : 65536 ≤ r) (h1 : r ≤ 1114111) (hh : w.cell? ⟨2, 4, none⟩ = some (.int .u8 240)) (hg : 2 < w.heap.size) :
  Calls Tryz.prog 230 #[.int .i32 r] w fun e w' => e = .returned (.tuple #[.slice (some ⟨w.heap.size, 0, none⟩) 4 4, .nilIface]) ∧ w' = w.alloc (.cells #[.int .u8 (240 + r / 262144), .int .u8 (128 + r / 4096 % 64), .int .u8 (128 + r / 64 % 64), .int .u8 (128 + r % 64)] 5) := by
 have hmk : ∀ w : World, (Instr.makeSlice 22 (.int .i64 4) (.int .i64 4)).run Tryz.prog w = .ok (.slice (some ⟨w.heap.size, 0, none⟩) 4 4) (w.alloc (.cells #[.int .u8 0, .int .u8 0, .int .u8 0, .int .u8 0] 5)) := fun _ => by kernel_rfl
 go_enter Tryz.func230, Tryz.ntmps230
 go_wp2_with (first | (go_at_call 113; refine (isRune_any _ _).mono ?_; rintro e w' ⟨rfl, rfl⟩) | (go_at_call 114; refine (length_any _ _).mono ?_; rintro e w' ⟨rfl, rfl⟩))
 refine wp_loop_rounds 4 ?_
 rw [rounds_succ]
 go_wp2
 rw [rounds_succ]
 go_wp2
 rw [rounds_succ]
 go_wp2
 rw [rounds_succ]
 go_wp2
 go_ret2
 exact ⟨rfl, by rw [i32_and63 (show 0 ≤ r / 64 / 64 by omega) (by omega), i32_and63 (show 0 ≤ r / 64 by omega) (by omega), i32_and63 (show 0 ≤ r by omega) (by omega), u8_or128 _ (show 0 ≤ r / 64 / 64 % 64 % 256 by omega) (by omega), show r / 64 / 64 % 64 % 256 = r / 64 / 64 % 64 by omega, u8_or128 _ (show 0 ≤ r / 64 % 64 % 256 by omega) (by omega), show r / 64 % 64 % 256 = r / 64 % 64 by omega, u8_or128 _ (show 0 ≤ r % 64 % 256 by omega) (by omega), show r % 64 % 256 = r % 64 by omega, show r / 64 / 64 / 64 = r / 262144 by omega, show r / 64 / 64 % 64 = r / 4096 % 64 by omega]⟩
theorem encode_some (r : Int) (w : World) (h : U.isRune r = true) (hh : Heads w) :
  Calls Tryz.prog 230 #[.int .i32 r] w fun e w' => e = .returned (.tuple #[.slice (some ⟨w.heap.size, 0, none⟩) (U.rlen r) (U.rlen r), .nilIface]) ∧ w' = w.alloc (.cells (cellsOf (U.enc r)) 5) := by
 have hr := U.isRune_iff.1 h
 have hg := hh.lt
 rcases U.rlen_inv r with ⟨e, h1⟩ | ⟨e, h1⟩ | ⟨e, h1⟩ | ⟨e, h1⟩
 ·have hc : cellsOf (U.enc r) = #[.int .u8 r] := by simp [cellsOf, U.enc, h1]
  rw [e, hc]
  exact encode_1 r w h (by rw [e]; rfl) (by omega) (by omega) (by simpa [U.hd] using hh 1 (by omega) (by omega)) hg
 ·have hc : cellsOf (U.enc r) = #[.int .u8 (192 + r / 64), .int .u8 (128 + r % 64)] := by simp [cellsOf, U.enc, h1, show ¬ r < 128 by omega]
  rw [e, hc]
  exact encode_2 r w h (by rw [e]; rfl) (by omega) (by omega) (by simpa [U.hd] using hh 2 (by omega) (by omega)) hg
 ·have hc : cellsOf (U.enc r) = #[.int .u8 (224 + r / 4096), .int .u8 (128 + r / 64 % 64), .int .u8 (128 + r % 64)] := by simp [cellsOf, U.enc, h1, show ¬ r < 128 by omega, show ¬ r < 2048 by omega]
  rw [e, hc]
  exact encode_3 r w h (by rw [e]; rfl) (by omega) (by omega) (by simpa [U.hd] using hh 3 (by omega) (by omega)) hg
 ·have hc : cellsOf (U.enc r) = #[.int .u8 (240 + r / 262144), .int .u8 (128 + r / 4096 % 64), .int .u8 (128 + r / 64 % 64), .int .u8 (128 + r % 64)] := by simp [cellsOf, U.enc, show ¬ r < 128 by omega, show ¬ r < 2048 by omega, show ¬ r < 65536 by omega]
  rw [e, hc]
  exact encode_4 r w h (by rw [e]; rfl) (by omega) (by omega) (by simpa [U.hd] using hh 4 (by omega) (by omega)) hg
end Go.Proofs.YtgkhjeefcflmcaaGreatDoor
