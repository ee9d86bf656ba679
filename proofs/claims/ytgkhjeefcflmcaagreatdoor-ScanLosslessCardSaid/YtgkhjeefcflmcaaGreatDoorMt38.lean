/-
  Layer 11 (scan): next, by the rule that applies.
-/
import Derived.Test.YtgkhjeefcflmcaaGreatDoorMt37
import Derived.Test.YtgkhjeefcflmcaaGreatDoorMt33
import Derived.Test.YtgkhjeefcflmcaaGreatDoorMt22
import Derived.Test.YtgkhjeefcflmcaaGreatDoorMt35
namespace Go.Proofs.YtgkhjeefcflmcaaGreatDoor
open Go.RowKit Go.Sort
set_option linter.unusedSimpArgs false
set_option linter.unusedVariables false
def piV (t : Tk) (br : Bool) : Value := .agg #[.int .i64 t.k, .int .i64 t.f, .int .i64 t.t, .bool t.a, .int .i64 t.e, .bool br]
structure PAt (w : World) (b : Nat) (t : Tk) (br : Bool) : Prop where
 c0 : w.cell? ⟨b, 0, none⟩ = some (.int .i64 t.k)
 c1 : w.cell? ⟨b, 1, none⟩ = some (.int .i64 t.f)
 c2 : w.cell? ⟨b, 2, none⟩ = some (.int .i64 t.t)
 c3 : w.cell? ⟨b, 3, none⟩ = some (.bool t.a)
 c4 : w.cell? ⟨b, 4, none⟩ = some (.int .i64 t.e)
 c5 : w.cell? ⟨b, 5, none⟩ = some (.bool br)
 f0 : w.frozen? ⟨b, 0, none⟩ = false
 f1 : w.frozen? ⟨b, 1, none⟩ = false
 f2 : w.frozen? ⟨b, 2, none⟩ = false
 f3 : w.frozen? ⟨b, 3, none⟩ = false
 f4 : w.frozen? ⟨b, 4, none⟩ = false
 f5 : w.frozen? ⟨b, 5, none⟩ = false
theorem PAt.keep {w w' : World} {b B : Nat} {t : Tk} {br : Bool} (h : PAt w b t br) (hb : Below B w w') (hB : b < B) : PAt w' b t br :=
  ⟨(hb.cell (p := ⟨b, 0, none⟩) hB).trans h.c0, (hb.cell (p := ⟨b, 1, none⟩) hB).trans h.c1, (hb.cell (p := ⟨b, 2, none⟩) hB).trans h.c2, (hb.cell (p := ⟨b, 3, none⟩) hB).trans h.c3, (hb.cell (p := ⟨b, 4, none⟩) hB).trans h.c4, (hb.cell (p := ⟨b, 5, none⟩) hB).trans h.c5,
   (hb.frozen (p := ⟨b, 0, none⟩) hB).trans h.f0, (hb.frozen (p := ⟨b, 1, none⟩) hB).trans h.f1, (hb.frozen (p := ⟨b, 2, none⟩) hB).trans h.f2, (hb.frozen (p := ⟨b, 3, none⟩) hB).trans h.f3, (hb.frozen (p := ⟨b, 4, none⟩) hB).trans h.f4, (hb.frozen (p := ⟨b, 5, none⟩) hB).trans h.f5⟩
theorem PAt.lt {w : World} {b : Nat} {t : Tk} {br : Bool} (h : PAt w b t br) : b < w.heap.size := World.block_lt_of_cell? w _ h.c0
theorem PAt.new (w : World) (t : Tk) (br : Bool) (T : TypeId) : PAt (w.alloc (.cells #[.int .i64 t.k, .int .i64 t.f, .int .i64 t.t, .bool t.a, .int .i64 t.e, .bool br] T)) w.heap.size t br := by
 constructor <;> first | exact World.cell?_alloc_at _ _ _ _ rfl | exact World.frozen?_alloc_at _ _ _ _ rfl
def AnsF (w : World) (S : Nat) (A : Option Addr) (n cap a : Nat) (f : Nat) (xs : Array Value) : Prop :=
 ∀ V t br, Below S w V → CAt V (S + 1) A n cap a t br → Calls Tryz.prog f (#[.pointer (some ⟨S + 1, 0, none⟩)] ++ xs) V fun e V' => e = .returned (.bool false) ∧ ∃ t' br', Left V (S + 1) A n cap a t' br' V'
def AnsT (w : World) (S : Nat) (A : Option Addr) (n cap a : Nat) (f : Nat) (xs : Array Value) (T : Tk) (bb : Bool) : Prop :=
 ∀ V t br, Below S w V → CAt V (S + 1) A n cap a t br → Calls Tryz.prog f (#[.pointer (some ⟨S + 1, 0, none⟩)] ++ xs) V fun e V' => e = .returned (.bool true) ∧ Left V (S + 1) A n cap a T bb V'
theorem below_set6 {S : Nat} {w W : World} {b : Nat} (h : Below S w W) (hb : S ≤ b) (v0 v1 v2 v3 v4 v5 : Value) :
  Below S w ((((((W.setCell ⟨b, 0, none⟩ v0).setCell ⟨b, 1, none⟩ v1).setCell ⟨b, 2, none⟩ v2).setCell ⟨b, 3, none⟩ v3).setCell ⟨b, 4, none⟩ v4).setCell ⟨b, 5, none⟩ v5) :=
 (below_set5 h hb v0 v1 v2 v3 v4).setCell (p := ⟨b, 5, none⟩) hb _
set_option maxRecDepth 100000 in
set_option maxHeartbeats 4000000 in
theorem next_0 (w : World) (S b o n cap a : Nat) (T : Tk) (bb : Bool) (hS : w.heap.size = S) (H0 : Hid (AnsT w S (some ⟨b, o, none⟩) n cap a 44 #[] T bb)) :
  Calls Tryz.prog 28 #[.slice (some ⟨b, o, none⟩) n cap, .int .i64 (a : Int)] w fun e w' => e = .returned (piV T bb) ∧ Below S w w' := by
 obtain ⟨W0, hW0⟩ : ∃ W0, w.alloc (.cells #[.int .i64 0, .int .i64 0, .int .i64 0, .bool false, .int .i64 0, .bool false] 48) = W0 := ⟨_, rfl⟩
 have hs0 : W0.heap.size = S + 1 := by rw [← hW0, ← hS]; simp
 obtain ⟨W1, hW1⟩ : ∃ W1, W0.alloc (.cells #[.slice (some ⟨b, o, none⟩) n cap, .int .i64 (a : Int), .int .i64 0, .int .i64 0, .int .i64 0, .bool false, .int .i64 0, .bool false] 82) = W1 := ⟨_, rfl⟩
 have hC := CAt.new W0 (some ⟨b, o, none⟩) n cap a 82
 rw [hs0, hW1] at hC
 have hP := PAt.new w ⟨0, 0, 0, false, 0⟩ false 48
 rw [hS] at hP
 replace hP : PAt W0 S ⟨0, 0, 0, false, 0⟩ false := by rw [← hW0]; exact hP
 replace hP : PAt W1 S ⟨0, 0, 0, false, 0⟩ false := by rw [← hW1]; exact hP.keep ((Below.refl _ W0).alloc (Nat.le_refl _) _) (by omega)
 have hB : Below S w W1 := by rw [← hW1, ← hW0, ← hS]; exact ((Below.refl _ _).alloc (Nat.le_refl _) _).alloc (by simp) _
 have C0 := Lib.hid hC
 have P0 := Lib.hid hP
 have B0 := Lib.hid hB
 show Calls _ _ _ _ fun e w' => e = .returned (.agg #[.int .i64 T.k, .int .i64 T.f, .int .i64 T.t, .bool T.a, .int .i64 T.e, .bool bb]) ∧ Below S w w'
 have HW1 := Lib.hid hW1
 clear hC hP hB hW1
 go_enter Tryz.func28, Tryz.ntmps28
 go_wp2_with fail
 rw [HW1.out]
 clear hW0 HW1 hs0 hS
 refine (H0.out _ _ _ B0.out C0.out).mono ?_
 rintro e V ⟨rfl, hC, hB⟩
 have B := Lib.hid (B0.out.trans (hB.mono (Nat.le_succ S)))
 obtain ⟨c0, c1, c2, c3, c4, c5, c6, c7, f2, f3, f4, f5, f6, f7⟩ := hC
 obtain ⟨p0, p1, p2, p3, p4, p5, g0, g1, g2, g3, g4, g5⟩ := P0.out.keep hB (Nat.lt_succ_self S)
 clear hB H0 C0 B0 P0
 go_wp2_with fail
 refine bodyPost_ret (v := .agg #[.int .i64 T.k, .int .i64 T.f, .int .i64 T.t, .bool T.a, .int .i64 T.e, .bool bb]) (by rw [results_cell1 rfl]; go_simp; try rfl) rfl ⟨rfl, ?_⟩
 exact below_set6 B.out (Nat.le_refl _) _ _ _ _ _ _
set_option maxRecDepth 100000 in
set_option maxHeartbeats 4000000 in
theorem next_1 (w : World) (S b o n cap a : Nat) (T : Tk) (bb : Bool) (hS : w.heap.size = S) (H0 : Hid (AnsF w S (some ⟨b, o, none⟩) n cap a 44 #[])) (H1 : Hid (AnsT w S (some ⟨b, o, none⟩) n cap a 45 #[] T bb)) :
  Calls Tryz.prog 28 #[.slice (some ⟨b, o, none⟩) n cap, .int .i64 (a : Int)] w fun e w' => e = .returned (piV T bb) ∧ Below S w w' := by
 obtain ⟨W0, hW0⟩ : ∃ W0, w.alloc (.cells #[.int .i64 0, .int .i64 0, .int .i64 0, .bool false, .int .i64 0, .bool false] 48) = W0 := ⟨_, rfl⟩
 have hs0 : W0.heap.size = S + 1 := by rw [← hW0, ← hS]; simp
 obtain ⟨W1, hW1⟩ : ∃ W1, W0.alloc (.cells #[.slice (some ⟨b, o, none⟩) n cap, .int .i64 (a : Int), .int .i64 0, .int .i64 0, .int .i64 0, .bool false, .int .i64 0, .bool false] 82) = W1 := ⟨_, rfl⟩
 have hC := CAt.new W0 (some ⟨b, o, none⟩) n cap a 82
 rw [hs0, hW1] at hC
 have hP := PAt.new w ⟨0, 0, 0, false, 0⟩ false 48
 rw [hS] at hP
 replace hP : PAt W0 S ⟨0, 0, 0, false, 0⟩ false := by rw [← hW0]; exact hP
 replace hP : PAt W1 S ⟨0, 0, 0, false, 0⟩ false := by rw [← hW1]; exact hP.keep ((Below.refl _ W0).alloc (Nat.le_refl _) _) (by omega)
 have hB : Below S w W1 := by rw [← hW1, ← hW0, ← hS]; exact ((Below.refl _ _).alloc (Nat.le_refl _) _).alloc (by simp) _
 have C0 := Lib.hid hC
 have P0 := Lib.hid hP
 have B0 := Lib.hid hB
 show Calls _ _ _ _ fun e w' => e = .returned (.agg #[.int .i64 T.k, .int .i64 T.f, .int .i64 T.t, .bool T.a, .int .i64 T.e, .bool bb]) ∧ Below S w w'
 have HW1 := Lib.hid hW1
 clear hC hP hB hW1
 go_enter Tryz.func28, Tryz.ntmps28
 go_wp2_with fail
 rw [HW1.out]
 clear hW0 HW1 hs0 hS
 refine (H0.out _ _ _ B0.out C0.out).mono ?_
 rintro e V0 ⟨rfl, t0, br0, hC, hB⟩
 have C1 := Lib.hid hC
 have B1 := Lib.hid (B0.out.trans (hB.mono (Nat.le_succ S)))
 have P1 := Lib.hid (P0.out.keep hB (Nat.lt_succ_self S))
 clear hC hB H0 C0 B0 P0
 go_wp2_with fail
 refine (H1.out _ _ _ B1.out C1.out).mono ?_
 rintro e V ⟨rfl, hC, hB⟩
 have B := Lib.hid (B1.out.trans (hB.mono (Nat.le_succ S)))
 obtain ⟨c0, c1, c2, c3, c4, c5, c6, c7, f2, f3, f4, f5, f6, f7⟩ := hC
 obtain ⟨p0, p1, p2, p3, p4, p5, g0, g1, g2, g3, g4, g5⟩ := P1.out.keep hB (Nat.lt_succ_self S)
 clear hB H1 C1 B1 P1
 go_wp2_with fail
 refine bodyPost_ret (v := .agg #[.int .i64 T.k, .int .i64 T.f, .int .i64 T.t, .bool T.a, .int .i64 T.e, .bool bb]) (by rw [results_cell1 rfl]; go_simp; try rfl) rfl ⟨rfl, ?_⟩
 exact below_set6 B.out (Nat.le_refl _) _ _ _ _ _ _
set_option maxRecDepth 100000 in
set_option maxHeartbeats 4000000 in
theorem next_2 (w : World) (S b o n cap a : Nat) (T : Tk) (bb : Bool) (hS : w.heap.size = S) (H0 : Hid (AnsF w S (some ⟨b, o, none⟩) n cap a 44 #[])) (H1 : Hid (AnsF w S (some ⟨b, o, none⟩) n cap a 45 #[])) (H2 : Hid (AnsT w S (some ⟨b, o, none⟩) n cap a 46 #[] T bb)) :
  Calls Tryz.prog 28 #[.slice (some ⟨b, o, none⟩) n cap, .int .i64 (a : Int)] w fun e w' => e = .returned (piV T bb) ∧ Below S w w' := by
 obtain ⟨W0, hW0⟩ : ∃ W0, w.alloc (.cells #[.int .i64 0, .int .i64 0, .int .i64 0, .bool false, .int .i64 0, .bool false] 48) = W0 := ⟨_, rfl⟩
 have hs0 : W0.heap.size = S + 1 := by rw [← hW0, ← hS]; simp
 obtain ⟨W1, hW1⟩ : ∃ W1, W0.alloc (.cells #[.slice (some ⟨b, o, none⟩) n cap, .int .i64 (a : Int), .int .i64 0, .int .i64 0, .int .i64 0, .bool false, .int .i64 0, .bool false] 82) = W1 := ⟨_, rfl⟩
 have hC := CAt.new W0 (some ⟨b, o, none⟩) n cap a 82
 rw [hs0, hW1] at hC
 have hP := PAt.new w ⟨0, 0, 0, false, 0⟩ false 48
 rw [hS] at hP
 replace hP : PAt W0 S ⟨0, 0, 0, false, 0⟩ false := by rw [← hW0]; exact hP
 replace hP : PAt W1 S ⟨0, 0, 0, false, 0⟩ false := by rw [← hW1]; exact hP.keep ((Below.refl _ W0).alloc (Nat.le_refl _) _) (by omega)
 have hB : Below S w W1 := by rw [← hW1, ← hW0, ← hS]; exact ((Below.refl _ _).alloc (Nat.le_refl _) _).alloc (by simp) _
 have C0 := Lib.hid hC
 have P0 := Lib.hid hP
 have B0 := Lib.hid hB
 show Calls _ _ _ _ fun e w' => e = .returned (.agg #[.int .i64 T.k, .int .i64 T.f, .int .i64 T.t, .bool T.a, .int .i64 T.e, .bool bb]) ∧ Below S w w'
 have HW1 := Lib.hid hW1
 clear hC hP hB hW1
 go_enter Tryz.func28, Tryz.ntmps28
 go_wp2_with fail
 rw [HW1.out]
 clear hW0 HW1 hs0 hS
 refine (H0.out _ _ _ B0.out C0.out).mono ?_
 rintro e V0 ⟨rfl, t0, br0, hC, hB⟩
 have C1 := Lib.hid hC
 have B1 := Lib.hid (B0.out.trans (hB.mono (Nat.le_succ S)))
 have P1 := Lib.hid (P0.out.keep hB (Nat.lt_succ_self S))
 clear hC hB H0 C0 B0 P0
 go_wp2_with fail
 refine (H1.out _ _ _ B1.out C1.out).mono ?_
 rintro e V1 ⟨rfl, t1, br1, hC, hB⟩
 have C2 := Lib.hid hC
 have B2 := Lib.hid (B1.out.trans (hB.mono (Nat.le_succ S)))
 have P2 := Lib.hid (P1.out.keep hB (Nat.lt_succ_self S))
 clear hC hB H1 C1 B1 P1
 go_wp2_with fail
 refine (H2.out _ _ _ B2.out C2.out).mono ?_
 rintro e V ⟨rfl, hC, hB⟩
 have B := Lib.hid (B2.out.trans (hB.mono (Nat.le_succ S)))
 obtain ⟨c0, c1, c2, c3, c4, c5, c6, c7, f2, f3, f4, f5, f6, f7⟩ := hC
 obtain ⟨p0, p1, p2, p3, p4, p5, g0, g1, g2, g3, g4, g5⟩ := P2.out.keep hB (Nat.lt_succ_self S)
 clear hB H2 C2 B2 P2
 go_wp2_with fail
 refine bodyPost_ret (v := .agg #[.int .i64 T.k, .int .i64 T.f, .int .i64 T.t, .bool T.a, .int .i64 T.e, .bool bb]) (by rw [results_cell1 rfl]; go_simp; try rfl) rfl ⟨rfl, ?_⟩
 exact below_set6 B.out (Nat.le_refl _) _ _ _ _ _ _
set_option maxRecDepth 100000 in
set_option maxHeartbeats 4000000 in
theorem next_3 (w : World) (S b o n cap a : Nat) (T : Tk) (bb : Bool) (hS : w.heap.size = S) (H0 : Hid (AnsF w S (some ⟨b, o, none⟩) n cap a 44 #[])) (H1 : Hid (AnsF w S (some ⟨b, o, none⟩) n cap a 45 #[])) (H2 : Hid (AnsF w S (some ⟨b, o, none⟩) n cap a 46 #[])) (H3 : Hid (AnsT w S (some ⟨b, o, none⟩) n cap a 47 #[] T bb)) :
  Calls Tryz.prog 28 #[.slice (some ⟨b, o, none⟩) n cap, .int .i64 (a : Int)] w fun e w' => e = .returned (piV T bb) ∧ Below S w w' := by
 obtain ⟨W0, hW0⟩ : ∃ W0, w.alloc (.cells #[.int .i64 0, .int .i64 0, .int .i64 0, .bool false, .int .i64 0, .bool false] 48) = W0 := ⟨_, rfl⟩
 have hs0 : W0.heap.size = S + 1 := by rw [← hW0, ← hS]; simp
 obtain ⟨W1, hW1⟩ : ∃ W1, W0.alloc (.cells #[.slice (some ⟨b, o, none⟩) n cap, .int .i64 (a : Int), .int .i64 0, .int .i64 0, .int .i64 0, .bool false, .int .i64 0, .bool false] 82) = W1 := ⟨_, rfl⟩
 have hC := CAt.new W0 (some ⟨b, o, none⟩) n cap a 82
 rw [hs0, hW1] at hC
 have hP := PAt.new w ⟨0, 0, 0, false, 0⟩ false 48
 rw [hS] at hP
 replace hP : PAt W0 S ⟨0, 0, 0, false, 0⟩ false := by rw [← hW0]; exact hP
 replace hP : PAt W1 S ⟨0, 0, 0, false, 0⟩ false := by rw [← hW1]; exact hP.keep ((Below.refl _ W0).alloc (Nat.le_refl _) _) (by omega)
 have hB : Below S w W1 := by rw [← hW1, ← hW0, ← hS]; exact ((Below.refl _ _).alloc (Nat.le_refl _) _).alloc (by simp) _
 have C0 := Lib.hid hC
 have P0 := Lib.hid hP
 have B0 := Lib.hid hB
 show Calls _ _ _ _ fun e w' => e = .returned (.agg #[.int .i64 T.k, .int .i64 T.f, .int .i64 T.t, .bool T.a, .int .i64 T.e, .bool bb]) ∧ Below S w w'
 have HW1 := Lib.hid hW1
 clear hC hP hB hW1
 go_enter Tryz.func28, Tryz.ntmps28
 go_wp2_with fail
 rw [HW1.out]
 clear hW0 HW1 hs0 hS
 refine (H0.out _ _ _ B0.out C0.out).mono ?_
 rintro e V0 ⟨rfl, t0, br0, hC, hB⟩
 have C1 := Lib.hid hC
 have B1 := Lib.hid (B0.out.trans (hB.mono (Nat.le_succ S)))
 have P1 := Lib.hid (P0.out.keep hB (Nat.lt_succ_self S))
 clear hC hB H0 C0 B0 P0
 go_wp2_with fail
 refine (H1.out _ _ _ B1.out C1.out).mono ?_
 rintro e V1 ⟨rfl, t1, br1, hC, hB⟩
 have C2 := Lib.hid hC
 have B2 := Lib.hid (B1.out.trans (hB.mono (Nat.le_succ S)))
 have P2 := Lib.hid (P1.out.keep hB (Nat.lt_succ_self S))
 clear hC hB H1 C1 B1 P1
 go_wp2_with fail
 refine (H2.out _ _ _ B2.out C2.out).mono ?_
 rintro e V2 ⟨rfl, t2, br2, hC, hB⟩
 have C3 := Lib.hid hC
 have B3 := Lib.hid (B2.out.trans (hB.mono (Nat.le_succ S)))
 have P3 := Lib.hid (P2.out.keep hB (Nat.lt_succ_self S))
 clear hC hB H2 C2 B2 P2
 go_wp2_with fail
 refine (H3.out _ _ _ B3.out C3.out).mono ?_
 rintro e V ⟨rfl, hC, hB⟩
 have B := Lib.hid (B3.out.trans (hB.mono (Nat.le_succ S)))
 obtain ⟨c0, c1, c2, c3, c4, c5, c6, c7, f2, f3, f4, f5, f6, f7⟩ := hC
 obtain ⟨p0, p1, p2, p3, p4, p5, g0, g1, g2, g3, g4, g5⟩ := P3.out.keep hB (Nat.lt_succ_self S)
 clear hB H3 C3 B3 P3
 go_wp2_with fail
 refine bodyPost_ret (v := .agg #[.int .i64 T.k, .int .i64 T.f, .int .i64 T.t, .bool T.a, .int .i64 T.e, .bool bb]) (by rw [results_cell1 rfl]; go_simp; try rfl) rfl ⟨rfl, ?_⟩
 exact below_set6 B.out (Nat.le_refl _) _ _ _ _ _ _
set_option maxRecDepth 100000 in
set_option maxHeartbeats 4000000 in
theorem next_4 (w : World) (S b o n cap a : Nat) (T : Tk) (bb : Bool) (hS : w.heap.size = S) (H0 : Hid (AnsF w S (some ⟨b, o, none⟩) n cap a 44 #[])) (H1 : Hid (AnsF w S (some ⟨b, o, none⟩) n cap a 45 #[])) (H2 : Hid (AnsF w S (some ⟨b, o, none⟩) n cap a 46 #[])) (H3 : Hid (AnsF w S (some ⟨b, o, none⟩) n cap a 47 #[])) (H4 : Hid (AnsT w S (some ⟨b, o, none⟩) n cap a 48 #[.func (.func 49) #[] #[]] T bb)) :
  Calls Tryz.prog 28 #[.slice (some ⟨b, o, none⟩) n cap, .int .i64 (a : Int)] w fun e w' => e = .returned (piV T bb) ∧ Below S w w' := by
 obtain ⟨W0, hW0⟩ : ∃ W0, w.alloc (.cells #[.int .i64 0, .int .i64 0, .int .i64 0, .bool false, .int .i64 0, .bool false] 48) = W0 := ⟨_, rfl⟩
 have hs0 : W0.heap.size = S + 1 := by rw [← hW0, ← hS]; simp
 obtain ⟨W1, hW1⟩ : ∃ W1, W0.alloc (.cells #[.slice (some ⟨b, o, none⟩) n cap, .int .i64 (a : Int), .int .i64 0, .int .i64 0, .int .i64 0, .bool false, .int .i64 0, .bool false] 82) = W1 := ⟨_, rfl⟩
 have hC := CAt.new W0 (some ⟨b, o, none⟩) n cap a 82
 rw [hs0, hW1] at hC
 have hP := PAt.new w ⟨0, 0, 0, false, 0⟩ false 48
 rw [hS] at hP
 replace hP : PAt W0 S ⟨0, 0, 0, false, 0⟩ false := by rw [← hW0]; exact hP
 replace hP : PAt W1 S ⟨0, 0, 0, false, 0⟩ false := by rw [← hW1]; exact hP.keep ((Below.refl _ W0).alloc (Nat.le_refl _) _) (by omega)
 have hB : Below S w W1 := by rw [← hW1, ← hW0, ← hS]; exact ((Below.refl _ _).alloc (Nat.le_refl _) _).alloc (by simp) _
 have C0 := Lib.hid hC
 have P0 := Lib.hid hP
 have B0 := Lib.hid hB
 show Calls _ _ _ _ fun e w' => e = .returned (.agg #[.int .i64 T.k, .int .i64 T.f, .int .i64 T.t, .bool T.a, .int .i64 T.e, .bool bb]) ∧ Below S w w'
 have HW1 := Lib.hid hW1
 clear hC hP hB hW1
 go_enter Tryz.func28, Tryz.ntmps28
 go_wp2_with fail
 rw [HW1.out]
 clear hW0 HW1 hs0 hS
 refine (H0.out _ _ _ B0.out C0.out).mono ?_
 rintro e V0 ⟨rfl, t0, br0, hC, hB⟩
 have C1 := Lib.hid hC
 have B1 := Lib.hid (B0.out.trans (hB.mono (Nat.le_succ S)))
 have P1 := Lib.hid (P0.out.keep hB (Nat.lt_succ_self S))
 clear hC hB H0 C0 B0 P0
 go_wp2_with fail
 refine (H1.out _ _ _ B1.out C1.out).mono ?_
 rintro e V1 ⟨rfl, t1, br1, hC, hB⟩
 have C2 := Lib.hid hC
 have B2 := Lib.hid (B1.out.trans (hB.mono (Nat.le_succ S)))
 have P2 := Lib.hid (P1.out.keep hB (Nat.lt_succ_self S))
 clear hC hB H1 C1 B1 P1
 go_wp2_with fail
 refine (H2.out _ _ _ B2.out C2.out).mono ?_
 rintro e V2 ⟨rfl, t2, br2, hC, hB⟩
 have C3 := Lib.hid hC
 have B3 := Lib.hid (B2.out.trans (hB.mono (Nat.le_succ S)))
 have P3 := Lib.hid (P2.out.keep hB (Nat.lt_succ_self S))
 clear hC hB H2 C2 B2 P2
 go_wp2_with fail
 refine (H3.out _ _ _ B3.out C3.out).mono ?_
 rintro e V3 ⟨rfl, t3, br3, hC, hB⟩
 have C4 := Lib.hid hC
 have B4 := Lib.hid (B3.out.trans (hB.mono (Nat.le_succ S)))
 have P4 := Lib.hid (P3.out.keep hB (Nat.lt_succ_self S))
 clear hC hB H3 C3 B3 P3
 go_wp2_with fail
 refine (H4.out _ _ _ B4.out C4.out).mono ?_
 rintro e V ⟨rfl, hC, hB⟩
 have B := Lib.hid (B4.out.trans (hB.mono (Nat.le_succ S)))
 obtain ⟨c0, c1, c2, c3, c4, c5, c6, c7, f2, f3, f4, f5, f6, f7⟩ := hC
 obtain ⟨p0, p1, p2, p3, p4, p5, g0, g1, g2, g3, g4, g5⟩ := P4.out.keep hB (Nat.lt_succ_self S)
 clear hB H4 C4 B4 P4
 go_wp2_with fail
 refine bodyPost_ret (v := .agg #[.int .i64 T.k, .int .i64 T.f, .int .i64 T.t, .bool T.a, .int .i64 T.e, .bool bb]) (by rw [results_cell1 rfl]; go_simp; try rfl) rfl ⟨rfl, ?_⟩
 exact below_set6 B.out (Nat.le_refl _) _ _ _ _ _ _
set_option maxRecDepth 100000 in
set_option maxHeartbeats 4000000 in
theorem next_5 (w : World) (S b o n cap a : Nat) (T : Tk) (bb : Bool) (hS : w.heap.size = S) (H0 : Hid (AnsF w S (some ⟨b, o, none⟩) n cap a 44 #[])) (H1 : Hid (AnsF w S (some ⟨b, o, none⟩) n cap a 45 #[])) (H2 : Hid (AnsF w S (some ⟨b, o, none⟩) n cap a 46 #[])) (H3 : Hid (AnsF w S (some ⟨b, o, none⟩) n cap a 47 #[])) (H4 : Hid (AnsF w S (some ⟨b, o, none⟩) n cap a 48 #[.func (.func 49) #[] #[]])) (H5 : Hid (AnsT w S (some ⟨b, o, none⟩) n cap a 48 #[.func (.func 50) #[] #[]] T bb)) :
  Calls Tryz.prog 28 #[.slice (some ⟨b, o, none⟩) n cap, .int .i64 (a : Int)] w fun e w' => e = .returned (piV T bb) ∧ Below S w w' := by
 obtain ⟨W0, hW0⟩ : ∃ W0, w.alloc (.cells #[.int .i64 0, .int .i64 0, .int .i64 0, .bool false, .int .i64 0, .bool false] 48) = W0 := ⟨_, rfl⟩
 have hs0 : W0.heap.size = S + 1 := by rw [← hW0, ← hS]; simp
 obtain ⟨W1, hW1⟩ : ∃ W1, W0.alloc (.cells #[.slice (some ⟨b, o, none⟩) n cap, .int .i64 (a : Int), .int .i64 0, .int .i64 0, .int .i64 0, .bool false, .int .i64 0, .bool false] 82) = W1 := ⟨_, rfl⟩
 have hC := CAt.new W0 (some ⟨b, o, none⟩) n cap a 82
 rw [hs0, hW1] at hC
 have hP := PAt.new w ⟨0, 0, 0, false, 0⟩ false 48
 rw [hS] at hP
 replace hP : PAt W0 S ⟨0, 0, 0, false, 0⟩ false := by rw [← hW0]; exact hP
 replace hP : PAt W1 S ⟨0, 0, 0, false, 0⟩ false := by rw [← hW1]; exact hP.keep ((Below.refl _ W0).alloc (Nat.le_refl _) _) (by omega)
 have hB : Below S w W1 := by rw [← hW1, ← hW0, ← hS]; exact ((Below.refl _ _).alloc (Nat.le_refl _) _).alloc (by simp) _
 have C0 := Lib.hid hC
 have P0 := Lib.hid hP
 have B0 := Lib.hid hB
 show Calls _ _ _ _ fun e w' => e = .returned (.agg #[.int .i64 T.k, .int .i64 T.f, .int .i64 T.t, .bool T.a, .int .i64 T.e, .bool bb]) ∧ Below S w w'
 have HW1 := Lib.hid hW1
 clear hC hP hB hW1
 go_enter Tryz.func28, Tryz.ntmps28
 go_wp2_with fail
 rw [HW1.out]
 clear hW0 HW1 hs0 hS
 refine (H0.out _ _ _ B0.out C0.out).mono ?_
 rintro e V0 ⟨rfl, t0, br0, hC, hB⟩
 have C1 := Lib.hid hC
 have B1 := Lib.hid (B0.out.trans (hB.mono (Nat.le_succ S)))
 have P1 := Lib.hid (P0.out.keep hB (Nat.lt_succ_self S))
 clear hC hB H0 C0 B0 P0
 go_wp2_with fail
 refine (H1.out _ _ _ B1.out C1.out).mono ?_
 rintro e V1 ⟨rfl, t1, br1, hC, hB⟩
 have C2 := Lib.hid hC
 have B2 := Lib.hid (B1.out.trans (hB.mono (Nat.le_succ S)))
 have P2 := Lib.hid (P1.out.keep hB (Nat.lt_succ_self S))
 clear hC hB H1 C1 B1 P1
 go_wp2_with fail
 refine (H2.out _ _ _ B2.out C2.out).mono ?_
 rintro e V2 ⟨rfl, t2, br2, hC, hB⟩
 have C3 := Lib.hid hC
 have B3 := Lib.hid (B2.out.trans (hB.mono (Nat.le_succ S)))
 have P3 := Lib.hid (P2.out.keep hB (Nat.lt_succ_self S))
 clear hC hB H2 C2 B2 P2
 go_wp2_with fail
 refine (H3.out _ _ _ B3.out C3.out).mono ?_
 rintro e V3 ⟨rfl, t3, br3, hC, hB⟩
 have C4 := Lib.hid hC
 have B4 := Lib.hid (B3.out.trans (hB.mono (Nat.le_succ S)))
 have P4 := Lib.hid (P3.out.keep hB (Nat.lt_succ_self S))
 clear hC hB H3 C3 B3 P3
 go_wp2_with fail
 refine (H4.out _ _ _ B4.out C4.out).mono ?_
 rintro e V4 ⟨rfl, t4, br4, hC, hB⟩
 have C5 := Lib.hid hC
 have B5 := Lib.hid (B4.out.trans (hB.mono (Nat.le_succ S)))
 have P5 := Lib.hid (P4.out.keep hB (Nat.lt_succ_self S))
 clear hC hB H4 C4 B4 P4
 go_wp2_with fail
 refine (H5.out _ _ _ B5.out C5.out).mono ?_
 rintro e V ⟨rfl, hC, hB⟩
 have B := Lib.hid (B5.out.trans (hB.mono (Nat.le_succ S)))
 obtain ⟨c0, c1, c2, c3, c4, c5, c6, c7, f2, f3, f4, f5, f6, f7⟩ := hC
 obtain ⟨p0, p1, p2, p3, p4, p5, g0, g1, g2, g3, g4, g5⟩ := P5.out.keep hB (Nat.lt_succ_self S)
 clear hB H5 C5 B5 P5
 go_wp2_with fail
 refine bodyPost_ret (v := .agg #[.int .i64 T.k, .int .i64 T.f, .int .i64 T.t, .bool T.a, .int .i64 T.e, .bool bb]) (by rw [results_cell1 rfl]; go_simp; try rfl) rfl ⟨rfl, ?_⟩
 exact below_set6 B.out (Nat.le_refl _) _ _ _ _ _ _
set_option maxRecDepth 100000 in
set_option maxHeartbeats 4000000 in
theorem next_6 (w : World) (S b o n cap a : Nat) (T : Tk) (bb : Bool) (hS : w.heap.size = S) (H0 : Hid (AnsF w S (some ⟨b, o, none⟩) n cap a 44 #[])) (H1 : Hid (AnsF w S (some ⟨b, o, none⟩) n cap a 45 #[])) (H2 : Hid (AnsF w S (some ⟨b, o, none⟩) n cap a 46 #[])) (H3 : Hid (AnsF w S (some ⟨b, o, none⟩) n cap a 47 #[])) (H4 : Hid (AnsF w S (some ⟨b, o, none⟩) n cap a 48 #[.func (.func 49) #[] #[]])) (H5 : Hid (AnsF w S (some ⟨b, o, none⟩) n cap a 48 #[.func (.func 50) #[] #[]])) (H6 : Hid (AnsT w S (some ⟨b, o, none⟩) n cap a 51 #[] T bb)) :
  Calls Tryz.prog 28 #[.slice (some ⟨b, o, none⟩) n cap, .int .i64 (a : Int)] w fun e w' => e = .returned (piV T bb) ∧ Below S w w' := by
 obtain ⟨W0, hW0⟩ : ∃ W0, w.alloc (.cells #[.int .i64 0, .int .i64 0, .int .i64 0, .bool false, .int .i64 0, .bool false] 48) = W0 := ⟨_, rfl⟩
 have hs0 : W0.heap.size = S + 1 := by rw [← hW0, ← hS]; simp
 obtain ⟨W1, hW1⟩ : ∃ W1, W0.alloc (.cells #[.slice (some ⟨b, o, none⟩) n cap, .int .i64 (a : Int), .int .i64 0, .int .i64 0, .int .i64 0, .bool false, .int .i64 0, .bool false] 82) = W1 := ⟨_, rfl⟩
 have hC := CAt.new W0 (some ⟨b, o, none⟩) n cap a 82
 rw [hs0, hW1] at hC
 have hP := PAt.new w ⟨0, 0, 0, false, 0⟩ false 48
 rw [hS] at hP
 replace hP : PAt W0 S ⟨0, 0, 0, false, 0⟩ false := by rw [← hW0]; exact hP
 replace hP : PAt W1 S ⟨0, 0, 0, false, 0⟩ false := by rw [← hW1]; exact hP.keep ((Below.refl _ W0).alloc (Nat.le_refl _) _) (by omega)
 have hB : Below S w W1 := by rw [← hW1, ← hW0, ← hS]; exact ((Below.refl _ _).alloc (Nat.le_refl _) _).alloc (by simp) _
 have C0 := Lib.hid hC
 have P0 := Lib.hid hP
 have B0 := Lib.hid hB
 show Calls _ _ _ _ fun e w' => e = .returned (.agg #[.int .i64 T.k, .int .i64 T.f, .int .i64 T.t, .bool T.a, .int .i64 T.e, .bool bb]) ∧ Below S w w'
 have HW1 := Lib.hid hW1
 clear hC hP hB hW1
 go_enter Tryz.func28, Tryz.ntmps28
 go_wp2_with fail
 rw [HW1.out]
 clear hW0 HW1 hs0 hS
 refine (H0.out _ _ _ B0.out C0.out).mono ?_
 rintro e V0 ⟨rfl, t0, br0, hC, hB⟩
 have C1 := Lib.hid hC
 have B1 := Lib.hid (B0.out.trans (hB.mono (Nat.le_succ S)))
 have P1 := Lib.hid (P0.out.keep hB (Nat.lt_succ_self S))
 clear hC hB H0 C0 B0 P0
 go_wp2_with fail
 refine (H1.out _ _ _ B1.out C1.out).mono ?_
 rintro e V1 ⟨rfl, t1, br1, hC, hB⟩
 have C2 := Lib.hid hC
 have B2 := Lib.hid (B1.out.trans (hB.mono (Nat.le_succ S)))
 have P2 := Lib.hid (P1.out.keep hB (Nat.lt_succ_self S))
 clear hC hB H1 C1 B1 P1
 go_wp2_with fail
 refine (H2.out _ _ _ B2.out C2.out).mono ?_
 rintro e V2 ⟨rfl, t2, br2, hC, hB⟩
 have C3 := Lib.hid hC
 have B3 := Lib.hid (B2.out.trans (hB.mono (Nat.le_succ S)))
 have P3 := Lib.hid (P2.out.keep hB (Nat.lt_succ_self S))
 clear hC hB H2 C2 B2 P2
 go_wp2_with fail
 refine (H3.out _ _ _ B3.out C3.out).mono ?_
 rintro e V3 ⟨rfl, t3, br3, hC, hB⟩
 have C4 := Lib.hid hC
 have B4 := Lib.hid (B3.out.trans (hB.mono (Nat.le_succ S)))
 have P4 := Lib.hid (P3.out.keep hB (Nat.lt_succ_self S))
 clear hC hB H3 C3 B3 P3
 go_wp2_with fail
 refine (H4.out _ _ _ B4.out C4.out).mono ?_
 rintro e V4 ⟨rfl, t4, br4, hC, hB⟩
 have C5 := Lib.hid hC
 have B5 := Lib.hid (B4.out.trans (hB.mono (Nat.le_succ S)))
 have P5 := Lib.hid (P4.out.keep hB (Nat.lt_succ_self S))
 clear hC hB H4 C4 B4 P4
 go_wp2_with fail
 refine (H5.out _ _ _ B5.out C5.out).mono ?_
 rintro e V5 ⟨rfl, t5, br5, hC, hB⟩
 have C6 := Lib.hid hC
 have B6 := Lib.hid (B5.out.trans (hB.mono (Nat.le_succ S)))
 have P6 := Lib.hid (P5.out.keep hB (Nat.lt_succ_self S))
 clear hC hB H5 C5 B5 P5
 go_wp2_with fail
 refine (H6.out _ _ _ B6.out C6.out).mono ?_
 rintro e V ⟨rfl, hC, hB⟩
 have B := Lib.hid (B6.out.trans (hB.mono (Nat.le_succ S)))
 obtain ⟨c0, c1, c2, c3, c4, c5, c6, c7, f2, f3, f4, f5, f6, f7⟩ := hC
 obtain ⟨p0, p1, p2, p3, p4, p5, g0, g1, g2, g3, g4, g5⟩ := P6.out.keep hB (Nat.lt_succ_self S)
 clear hB H6 C6 B6 P6
 go_wp2_with fail
 refine bodyPost_ret (v := .agg #[.int .i64 T.k, .int .i64 T.f, .int .i64 T.t, .bool T.a, .int .i64 T.e, .bool bb]) (by rw [results_cell1 rfl]; go_simp; try rfl) rfl ⟨rfl, ?_⟩
 exact below_set6 B.out (Nat.le_refl _) _ _ _ _ _ _
set_option maxRecDepth 100000 in
set_option maxHeartbeats 4000000 in
theorem next_7 (w : World) (S b o n cap a : Nat) (T : Tk) (bb : Bool) (hS : w.heap.size = S) (H0 : Hid (AnsF w S (some ⟨b, o, none⟩) n cap a 44 #[])) (H1 : Hid (AnsF w S (some ⟨b, o, none⟩) n cap a 45 #[])) (H2 : Hid (AnsF w S (some ⟨b, o, none⟩) n cap a 46 #[])) (H3 : Hid (AnsF w S (some ⟨b, o, none⟩) n cap a 47 #[])) (H4 : Hid (AnsF w S (some ⟨b, o, none⟩) n cap a 48 #[.func (.func 49) #[] #[]])) (H5 : Hid (AnsF w S (some ⟨b, o, none⟩) n cap a 48 #[.func (.func 50) #[] #[]])) (H6 : Hid (AnsF w S (some ⟨b, o, none⟩) n cap a 51 #[])) (H7 : Hid (∀ V t br, Below S w V → CAt V (S + 1) (some ⟨b, o, none⟩) n cap a t br → Calls Tryz.prog 52 #[.pointer (some ⟨S + 1, 0, none⟩)] V fun e V' => e = .returned (.tuple #[]) ∧ Left V (S + 1) (some ⟨b, o, none⟩) n cap a T bb V')) :
  Calls Tryz.prog 28 #[.slice (some ⟨b, o, none⟩) n cap, .int .i64 (a : Int)] w fun e w' => e = .returned (piV T bb) ∧ Below S w w' := by
 obtain ⟨W0, hW0⟩ : ∃ W0, w.alloc (.cells #[.int .i64 0, .int .i64 0, .int .i64 0, .bool false, .int .i64 0, .bool false] 48) = W0 := ⟨_, rfl⟩
 have hs0 : W0.heap.size = S + 1 := by rw [← hW0, ← hS]; simp
 obtain ⟨W1, hW1⟩ : ∃ W1, W0.alloc (.cells #[.slice (some ⟨b, o, none⟩) n cap, .int .i64 (a : Int), .int .i64 0, .int .i64 0, .int .i64 0, .bool false, .int .i64 0, .bool false] 82) = W1 := ⟨_, rfl⟩
 have hC := CAt.new W0 (some ⟨b, o, none⟩) n cap a 82
 rw [hs0, hW1] at hC
 have hP := PAt.new w ⟨0, 0, 0, false, 0⟩ false 48
 rw [hS] at hP
 replace hP : PAt W0 S ⟨0, 0, 0, false, 0⟩ false := by rw [← hW0]; exact hP
 replace hP : PAt W1 S ⟨0, 0, 0, false, 0⟩ false := by rw [← hW1]; exact hP.keep ((Below.refl _ W0).alloc (Nat.le_refl _) _) (by omega)
 have hB : Below S w W1 := by rw [← hW1, ← hW0, ← hS]; exact ((Below.refl _ _).alloc (Nat.le_refl _) _).alloc (by simp) _
 have C0 := Lib.hid hC
 have P0 := Lib.hid hP
 have B0 := Lib.hid hB
 show Calls _ _ _ _ fun e w' => e = .returned (.agg #[.int .i64 T.k, .int .i64 T.f, .int .i64 T.t, .bool T.a, .int .i64 T.e, .bool bb]) ∧ Below S w w'
 have HW1 := Lib.hid hW1
 clear hC hP hB hW1
 go_enter Tryz.func28, Tryz.ntmps28
 go_wp2_with fail
 rw [HW1.out]
 clear hW0 HW1 hs0 hS
 refine (H0.out _ _ _ B0.out C0.out).mono ?_
 rintro e V0 ⟨rfl, t0, br0, hC, hB⟩
 have C1 := Lib.hid hC
 have B1 := Lib.hid (B0.out.trans (hB.mono (Nat.le_succ S)))
 have P1 := Lib.hid (P0.out.keep hB (Nat.lt_succ_self S))
 clear hC hB H0 C0 B0 P0
 go_wp2_with fail
 refine (H1.out _ _ _ B1.out C1.out).mono ?_
 rintro e V1 ⟨rfl, t1, br1, hC, hB⟩
 have C2 := Lib.hid hC
 have B2 := Lib.hid (B1.out.trans (hB.mono (Nat.le_succ S)))
 have P2 := Lib.hid (P1.out.keep hB (Nat.lt_succ_self S))
 clear hC hB H1 C1 B1 P1
 go_wp2_with fail
 refine (H2.out _ _ _ B2.out C2.out).mono ?_
 rintro e V2 ⟨rfl, t2, br2, hC, hB⟩
 have C3 := Lib.hid hC
 have B3 := Lib.hid (B2.out.trans (hB.mono (Nat.le_succ S)))
 have P3 := Lib.hid (P2.out.keep hB (Nat.lt_succ_self S))
 clear hC hB H2 C2 B2 P2
 go_wp2_with fail
 refine (H3.out _ _ _ B3.out C3.out).mono ?_
 rintro e V3 ⟨rfl, t3, br3, hC, hB⟩
 have C4 := Lib.hid hC
 have B4 := Lib.hid (B3.out.trans (hB.mono (Nat.le_succ S)))
 have P4 := Lib.hid (P3.out.keep hB (Nat.lt_succ_self S))
 clear hC hB H3 C3 B3 P3
 go_wp2_with fail
 refine (H4.out _ _ _ B4.out C4.out).mono ?_
 rintro e V4 ⟨rfl, t4, br4, hC, hB⟩
 have C5 := Lib.hid hC
 have B5 := Lib.hid (B4.out.trans (hB.mono (Nat.le_succ S)))
 have P5 := Lib.hid (P4.out.keep hB (Nat.lt_succ_self S))
 clear hC hB H4 C4 B4 P4
 go_wp2_with fail
 refine (H5.out _ _ _ B5.out C5.out).mono ?_
 rintro e V5 ⟨rfl, t5, br5, hC, hB⟩
 have C6 := Lib.hid hC
 have B6 := Lib.hid (B5.out.trans (hB.mono (Nat.le_succ S)))
 have P6 := Lib.hid (P5.out.keep hB (Nat.lt_succ_self S))
 clear hC hB H5 C5 B5 P5
 go_wp2_with fail
 refine (H6.out _ _ _ B6.out C6.out).mono ?_
 rintro e V6 ⟨rfl, t6, br6, hC, hB⟩
 have C7 := Lib.hid hC
 have B7 := Lib.hid (B6.out.trans (hB.mono (Nat.le_succ S)))
 have P7 := Lib.hid (P6.out.keep hB (Nat.lt_succ_self S))
 clear hC hB H6 C6 B6 P6
 go_wp2_with fail
 refine (H7.out _ _ _ B7.out C7.out).mono ?_
 rintro e V ⟨rfl, hC, hB⟩
 have B := Lib.hid (B7.out.trans (hB.mono (Nat.le_succ S)))
 obtain ⟨c0, c1, c2, c3, c4, c5, c6, c7, f2, f3, f4, f5, f6, f7⟩ := hC
 obtain ⟨p0, p1, p2, p3, p4, p5, g0, g1, g2, g3, g4, g5⟩ := P7.out.keep hB (Nat.lt_succ_self S)
 clear hB H7 C7 B7 P7
 go_wp2_with fail
 refine bodyPost_ret (v := .agg #[.int .i64 T.k, .int .i64 T.f, .int .i64 T.t, .bool T.a, .int .i64 T.e, .bool bb]) (by rw [results_cell1 rfl]; go_simp; try rfl) rfl ⟨rfl, ?_⟩
 exact below_set6 B.out (Nat.le_refl _) _ _ _ _ _ _
end Go.Proofs.YtgkhjeefcflmcaaGreatDoor
namespace Go.Proofs.YtgkhjeefcflmcaaGreatDoor
open Go.RowKit Go.Sort
set_option linter.unusedSimpArgs false
set_option linter.unusedVariables false
def endP : Pc := ⟨0, 0, 0, true⟩
theorem stO_end {p : Pc} (h : p.k = 0) (hb : p.b = true) (x last : Nat) : stO p x last = stO endP x last := by
 unfold stO
 rw [if_pos h, if_pos (show endP.k = 0 from rfl), hb]
 rfl
theorem stO_yes {x last : Nat} (h : endsA last = true) : stO endP x last = [⟨86, x, x, true, 0⟩] := by
 unfold stO
 rw [if_pos (show endP.k = 0 from rfl), if_pos ⟨rfl, h⟩]
end Go.Proofs.YtgkhjeefcflmcaaGreatDoor
namespace Go.Proofs.YtgkhjeefcflmcaaGreatDoor
open Go.RowKit Go.Sort
set_option linter.unusedSimpArgs false
set_option linter.unusedVariables false
theorem drop_cons2 {l : List UInt8} {i n : Nat} (hn : l.length = n) (h : i < n) : ∃ c t, l.drop i = c :: t ∧ l[i]? = some c := by
 cases hx : l.drop i with
 | nil => have := congrArg List.length hx; rw [List.length_drop, hn] at this; simp only [List.length_nil] at this; omega
 | cons c t =>
  refine ⟨c, t, rfl, ?_⟩
  have := List.getElem?_drop (xs := l) (i := i) (j := 0)
  rw [hx] at this
  exact this.symm
end Go.Proofs.YtgkhjeefcflmcaaGreatDoor
