/-
  Stage 6: the laws' 'works' (the chapter's example).
-/
import Derived.Test.YtijikbfcobnclaaDoorTkRefOp
import Derived.Test.YtijikbfcobnclaaDoorConvLit
namespace Go.Proofs.YtijikbfcobnclaaDoor
open Go.RowKit

theorem Below.drewN {B : Nat} {w w' : World} (h : Below B w w') (n : Nat) : Below B w (w'.drewN n) := by
  induction n with
  | zero => exact h
  | succ n ih => exact ih.drew
theorem byts_new4 (w : World) (a b c d : Int) (ha : 0 ≤ a ∧ a ≤ 255) (hb : 0 ≤ b ∧ b ≤ 255) (hc : 0 ≤ c ∧ c ≤ 255) (hd : 0 ≤ d ∧ d ≤ 255) (T : TypeId) (m : Nat × Nat) : Byts (w.alloc (.cells #[.int .u8 a, .int .u8 b, .int .u8 c, .int .u8 d] T m)) (w.heap.size + 1) (some ⟨w.heap.size, 0, none⟩) [a, b, c, d] :=
  ⟨fun z hz => by simp at hz; omega, fun _ => ⟨_, _, rfl, by omega, fun i x hx => by
    rw [World.cell?_alloc_mark]
    match i, hx with
    | 0, hx => cases hx; rfl
    | 1, hx => cases hx; rfl
    | 2, hx => cases hx; rfl
    | 3, hx => cases hx; rfl⟩⟩
theorem op_works : OpIs [38, 94, 61, 120] 61 3 := by
  refine .inr ⟨by omega, by omega, rfl, by unfold Beg; decide +kernel, fun j h1 h2 _ => ?_⟩
  rw [tx_size]
  exact (txl_op h1 h2).2
set_option maxRecDepth 100000 in
set_option maxHeartbeats 1000000 in
theorem works_run (w : World) (ht : TabAt w) :
    Calls Tryd.prog 19 #[] w fun e w' => e = .returned (.bool true) ∧ Below w.heap.size w w' := by
  have hlt := ht.lt
  have b1 : Below w.heap.size w (w.alloc (.cells #[.int .u8 38, .int .u8 94, .int .u8 61, .int .u8 120] 5 (4, 5))) := (Below.refl _ _).alloc (Nat.le_refl _) _
  have HT : Hid (TabAt (w.alloc (.cells #[.int .u8 38, .int .u8 94, .int .u8 61, .int .u8 120] 5 (4, 5)))) := ht.below hlt b1
  have HB := Lib.hid b1
  have HY := Lib.hid (byts_new4 w 38 94 61 120 (by omega) (by omega) (by omega) (by omega) 5 (4, 5))
  have HO : Hid (OpIs (if (0 : Int) < 0 then [] else [38, 94, 61, 120].drop (0 : Int).toNat) 61 3) := op_works
  have HP : Hid (precA 48 = 5) := by show _ = _; decide
  have hcl := conv_lit w #[.int .u8 38, .int .u8 94, .int .u8 61, .int .u8 120] 4 4
  simp at hcl
  clear ht b1
  go_enter Tryd.func19, Tryd.ntmps19
  go_wp2_with fail
  refine (Operator_run _ 4 4 0 [38, 94, 61, 120] 61 3 _ _ HY.out rfl (by omega) (by omega) HT.out HO).mono ?_
  rintro e w1 ⟨rfl, n, rfl⟩
  unfold opT
  go_wp2_with fail
  refine (Prec_run 48 5 _ HP).mono ?_
  rintro e w2 ⟨rfl, rfl⟩
  go_wp2_with fail
  go_ret
  exact ⟨rfl, Below.drewN HB.out n⟩
end Go.Proofs.YtijikbfcobnclaaDoor
