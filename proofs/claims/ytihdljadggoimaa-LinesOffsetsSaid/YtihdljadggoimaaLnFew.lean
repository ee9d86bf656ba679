/-
  The contracts of the laws' 'few' (a table cut to fifty lines) and 'works' (the chapter's example).
-/
import Derived.Test.YtihdljadggoimaaLnNew
namespace Go.Proofs.Ytihdljadggoimaa
open Go.RowKit

def fewN (n : Nat) : Nat := (min (n : Int) 50).toNat
def fewZ (z : Int) : Int := min z 100000
set_option maxRecDepth 100000 in
set_option maxHeartbeats 4000000 in
theorem few_run (A : Option Addr) (n cap : Nat) (z : Int) (w : World) (hcap : n ≤ cap) :
    Calls Try.prog 7 #[.agg #[.slice A n cap, .int .i64 z]] w fun e w' => e = .returned (.agg #[.slice A (fewN n) cap, .int .i64 (fewZ z)]) ∧ Below w.heap.size w w' := by
  go_enter Try.func7, Try.ntmps7
  go_wp2_with fail
  go_region
  go_wp2
  (try simp only [Exit.inBlock, Exit.then])
  refine bodyPost_ret (v := .agg #[.slice A (fewN n) cap, .int .i64 (fewZ z)]) (by rw [results_cell1 rfl]; unfold fewN fewZ; go_simp; try rfl) rfl ⟨rfl, ?_⟩
  exact ((((Below.refl _ _).alloc (Nat.le_refl _) _).alloc (by simp) _).drew)
theorem ex_starts : Ln.starts [97, 10, 98] = [0, 2] := by decide
theorem ex_valid : Ln.Valid [0, 2] 3 := by
  have := Ln.starts_valid [97, 10, 98]
  rw [ex_starts] at this
  exact this
theorem ex_pos : posOut true [0, 2] 3 2 = (2, 1, 0) := by decide
set_option maxHeartbeats 1000000 in
theorem works_run (w : World) : Calls Try.prog 11 #[] w fun e w' => e = .returned (.bool true) ∧ Below w.heap.size w w' := by
  have B1 : Hid (Below w.heap.size w (w.alloc (.cells #[.int .u8 97, .int .u8 10, .int .u8 98] 5))) := (Below.refl _ _).alloc (Nat.le_refl _) _
  have Y1 : Hid (NumsK .u8 (w.alloc (.cells #[.int .u8 97, .int .u8 10, .int .u8 98] 5)) (w.alloc (.cells #[.int .u8 97, .int .u8 10, .int .u8 98] 5)).heap.size (some ⟨w.heap.size, 0, none⟩) [97, 10, 98]) := by
    intro _
    refine ⟨_, _, rfl, by simp, fun i x hx => ?_⟩
    rw [World.cell?_alloc_at _ _ _ _ rfl]
    match i, hx with
    | 0, hx => cases hx; rfl
    | 1, hx => cases hx; rfl
    | 2, hx => cases hx; rfl
  go_enter Try.func11, Try.ntmps11
  go_wp2_with fail
  refine (new_run (some ⟨w.heap.size, 0, none⟩) 3 3 [97, 10, 98] _ Y1.out rfl (by omega)).mono ?_
  rintro e w1 ⟨v, rfl, ⟨A, cap, rfl, hc, hm, y⟩, hw1⟩
  have B2 : Hid (Below w.heap.size w w1) := B1.out.trans (hw1.mono (by simp))
  have hs := B2.out.size
  have Y := Lib.hid y
  have HC := Lib.hid hc
  clear hw1 y hc
  rw [ex_starts] at Y HC
  simp only [ex_starts, List.length_cons, List.length_nil]
  go_wp2_with fail
  refine (pos_run A 2 cap [0, 2] 3 2 true w1 (show (true = true ↔ _) from ⟨fun _ => ex_valid, fun _ => rfl⟩) Y.out rfl HC.out hm (by omega) (by omega) 2 1 0 ex_pos).mono ?_
  rw [show errOf 0 = .nilIface from rfl]
  rintro e w2 ⟨rfl, hw2⟩
  go_wp2
  go_ret
  exact ⟨rfl, B2.out.trans (hw2.mono hs)⟩
end Go.Proofs.Ytihdljadggoimaa
