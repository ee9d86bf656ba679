/-
  Stage 8: ratio's Make at 0; what Make holds on its way.
-/
import Derived.Test.YtbcnpajdmlbieaaDoorRtL
import Derived.Test.YtbcnpajdmlbieaaDoorLmR
namespace Go.Proofs.YtbcnpajdmlbieaaDoor
open Go.RowKit Go.Sort

theorem make_boxes (w : World) (s : Bool) (n : Nat) (t : Bool) (m : Nat) (T U V : TypeId) : IntAt (((w.alloc (boxI s n T)).alloc (boxI t m U)).alloc (boxRZ V)) w.heap.size s n ∧ IntAt (((w.alloc (boxI s n T)).alloc (boxI t m U)).alloc (boxRZ V)) (w.heap.size + 1) t m ∧ RatAt (((w.alloc (boxI s n T)).alloc (boxI t m U)).alloc (boxRZ V)) (w.heap.size + 1 + 1) false 0 false 0 ∧ Below w.heap.size w (((w.alloc (boxI s n T)).alloc (boxI t m U)).alloc (boxRZ V)) ∧ (((w.alloc (boxI s n T)).alloc (boxI t m U)).alloc (boxRZ V)).heap.size = w.heap.size + 1 + 1 + 1 := by
  obtain ⟨h1, h2, h3, h4⟩ := two_ints w s n t m T U
  refine ⟨h1.alloc (by omega) _, h2.alloc (by omega) _, ?_, h3.alloc (by omega) _, by simp⟩
  have := RatAt.zero ((w.alloc (boxI s n T)).alloc (boxI t m U)) V
  rwa [h4] at this
theorem make_cells {W : World} {S R n m g : Nat} {s t x : Bool} (I1 : IntAt W S s n) (I2 : IntAt W (S + 1) t m) (I3 : IntAt W R x g) : W.cell? ⟨S, 0, none⟩ = some (.bool s) ∧ W.cell? ⟨S, 1, none⟩ = some (.int .u64 (wd n 0 : Int)) ∧ W.cell? ⟨S, 2, none⟩ = some (.int .u64 (wd n 1 : Int)) ∧ W.cell? ⟨S, 3, none⟩ = some (.int .u64 (wd n 2 : Int)) ∧ W.cell? ⟨S, 4, none⟩ = some (.int .u64 (wd n 3 : Int)) ∧ W.cell? ⟨S, 5, none⟩ = some (.int .u64 (wd n 4 : Int)) ∧ W.cell? ⟨S, 6, none⟩ = some (.int .u64 (wd n 5 : Int)) ∧ W.cell? ⟨S, 7, none⟩ = some (.int .u64 (wd n 6 : Int)) ∧ W.cell? ⟨S, 8, none⟩ = some (.int .u64 (wd n 7 : Int)) ∧ W.cell? ⟨S + 1, 0, none⟩ = some (.bool t) ∧ W.cell? ⟨S + 1, 1, none⟩ = some (.int .u64 (wd m 0 : Int)) ∧ W.cell? ⟨S + 1, 2, none⟩ = some (.int .u64 (wd m 1 : Int)) ∧ W.cell? ⟨S + 1, 3, none⟩ = some (.int .u64 (wd m 2 : Int)) ∧ W.cell? ⟨S + 1, 4, none⟩ = some (.int .u64 (wd m 3 : Int)) ∧ W.cell? ⟨S + 1, 5, none⟩ = some (.int .u64 (wd m 4 : Int)) ∧ W.cell? ⟨S + 1, 6, none⟩ = some (.int .u64 (wd m 5 : Int)) ∧ W.cell? ⟨S + 1, 7, none⟩ = some (.int .u64 (wd m 6 : Int)) ∧ W.cell? ⟨S + 1, 8, none⟩ = some (.int .u64 (wd m 7 : Int)) ∧ W.cell? ⟨R, 0, none⟩ = some (.bool x) ∧ W.cell? ⟨R, 1, none⟩ = some (.int .u64 (wd g 0 : Int)) ∧ W.cell? ⟨R, 2, none⟩ = some (.int .u64 (wd g 1 : Int)) ∧ W.cell? ⟨R, 3, none⟩ = some (.int .u64 (wd g 2 : Int)) ∧ W.cell? ⟨R, 4, none⟩ = some (.int .u64 (wd g 3 : Int)) ∧ W.cell? ⟨R, 5, none⟩ = some (.int .u64 (wd g 4 : Int)) ∧ W.cell? ⟨R, 6, none⟩ = some (.int .u64 (wd g 5 : Int)) ∧ W.cell? ⟨R, 7, none⟩ = some (.int .u64 (wd g 6 : Int)) ∧ W.cell? ⟨R, 8, none⟩ = some (.int .u64 (wd g 7 : Int)) := by
  obtain ⟨⟨a0, x0⟩, ⟨a1, x1⟩, ⟨a2, x2⟩, ⟨a3, x3⟩, ⟨a4, x4⟩, ⟨a5, x5⟩, ⟨a6, x6⟩, ⟨a7, x7⟩, ⟨a8, x8⟩⟩ := I1.nine
  obtain ⟨⟨b0, y0⟩, ⟨b1, y1⟩, ⟨b2, y2⟩, ⟨b3, y3⟩, ⟨b4, y4⟩, ⟨b5, y5⟩, ⟨b6, y6⟩, ⟨b7, y7⟩, ⟨b8, y8⟩⟩ := I2.nine
  obtain ⟨⟨c0, z0⟩, ⟨c1, z1⟩, ⟨c2, z2⟩, ⟨c3, z3⟩, ⟨c4, z4⟩, ⟨c5, z5⟩, ⟨c6, z6⟩, ⟨c7, z7⟩, ⟨c8, z8⟩⟩ := I3.nine
  exact ⟨a0, a1, a2, a3, a4, a5, a6, a7, a8, b0, b1, b2, b3, b4, b5, b6, b7, b8, c0, c1, c2, c3, c4, c5, c6, c7, c8⟩
/-- What Make holds at its last but one statement. -/
structure MkInv (w W : World) (S R E : Nat) (s : Bool) (n : Nat) (t : Bool) (m : Nat) (x : Bool) (g : Nat) : Prop where
  i1 : IntAt W S s n
  i2 : IntAt W (S + 1) t m
  i3 : IntAt W R x g
  i4 : RatAt W (S + 1 + 1) false 0 false 0
  bl : Below S w W
  er : ErrAt W E 0
  sz : E + 1 ≤ W.heap.size
  r1 : S + 1 + 1 + 1 ≤ R
  r2 : R + 1 ≤ E
theorem MkInv.alloc {w W : World} {S R E n m g : Nat} {s t x : Bool} (h : MkInv w W S R E s n t m x g) (o : Obj) : MkInv w (W.alloc o) S R E s n t m x g :=
  have h1 := h.r1; have h2 := h.r2; have h3 := h.sz
  ⟨h.i1.alloc (by omega) o, h.i2.alloc (by omega) o, h.i3.alloc (by omega) o, h.i4.alloc (by omega) o, h.bl.alloc (by omega) o, h.er.below (below_alloc W o), by simp; omega, h1, h2⟩
theorem MkInv.drew {w W : World} {S R E n m g : Nat} {s t x : Bool} (h : MkInv w W S R E s n t m x g) : MkInv w W.drew S R E s n t m x g := ⟨h.i1.drew, h.i2.drew, h.i3.drew, h.i4.drew, h.bl.drew, h.er.drew, h.sz, h.r1, h.r2⟩
theorem MkInv.ste {w W V : World} {S R E n m g : Nat} {s t x : Bool} (h : MkInv w W S R E s n t m x g) (k : Ste W V E 0) : MkInv w V S R E s n t m x g :=
  have h1 := h.r1; have h2 := h.r2; have h3 := h.sz
  ⟨h.i1.ste k (by omega) (by omega), h.i2.ste k (by omega) (by omega), h.i3.ste k (by omega) (by omega), h.i4.ste k (by omega) (by omega), k.below S w (by omega) (by omega) h.bl, k.err, Nat.le_trans h3 k.size, h1, h2⟩
theorem MkInv.but {w W V : World} {S R E L n m g : Nat} {s t x : Bool} (h : MkInv w W S R E s n t m x g) (k : But1 W V L) (hL : E < L) : MkInv w V S R E s n t m x g :=
  have h1 := h.r1; have h2 := h.r2; have h3 := h.sz
  ⟨h.i1.but k (by omega), h.i2.but k (by omega), h.i3.but k (by omega), h.i4.but k (by omega), k.2.1 S w (by omega) h.bl, ⟨(k.1 ⟨E, 0, none⟩ (by show E ≠ L; omega)).1.trans h.er.cell, (k.1 ⟨E, 0, none⟩ (by show E ≠ L; omega)).2.trans h.er.free⟩, by rw [k.2.2]; exact h3, h1, h2⟩
theorem MkInv.cells {w W : World} {S R E n m g : Nat} {s t x : Bool} (h : MkInv w W S R E s n t m x g) : W.cell? ⟨S, 0, none⟩ = some (.bool s) ∧ W.cell? ⟨S, 1, none⟩ = some (.int .u64 (wd n 0 : Int)) ∧ W.cell? ⟨S, 2, none⟩ = some (.int .u64 (wd n 1 : Int)) ∧ W.cell? ⟨S, 3, none⟩ = some (.int .u64 (wd n 2 : Int)) ∧ W.cell? ⟨S, 4, none⟩ = some (.int .u64 (wd n 3 : Int)) ∧ W.cell? ⟨S, 5, none⟩ = some (.int .u64 (wd n 4 : Int)) ∧ W.cell? ⟨S, 6, none⟩ = some (.int .u64 (wd n 5 : Int)) ∧ W.cell? ⟨S, 7, none⟩ = some (.int .u64 (wd n 6 : Int)) ∧ W.cell? ⟨S, 8, none⟩ = some (.int .u64 (wd n 7 : Int)) ∧ W.cell? ⟨S + 1, 0, none⟩ = some (.bool t) ∧ W.cell? ⟨S + 1, 1, none⟩ = some (.int .u64 (wd m 0 : Int)) ∧ W.cell? ⟨S + 1, 2, none⟩ = some (.int .u64 (wd m 1 : Int)) ∧ W.cell? ⟨S + 1, 3, none⟩ = some (.int .u64 (wd m 2 : Int)) ∧ W.cell? ⟨S + 1, 4, none⟩ = some (.int .u64 (wd m 3 : Int)) ∧ W.cell? ⟨S + 1, 5, none⟩ = some (.int .u64 (wd m 4 : Int)) ∧ W.cell? ⟨S + 1, 6, none⟩ = some (.int .u64 (wd m 5 : Int)) ∧ W.cell? ⟨S + 1, 7, none⟩ = some (.int .u64 (wd m 6 : Int)) ∧ W.cell? ⟨S + 1, 8, none⟩ = some (.int .u64 (wd m 7 : Int)) ∧ W.cell? ⟨R, 0, none⟩ = some (.bool x) ∧ W.cell? ⟨R, 1, none⟩ = some (.int .u64 (wd g 0 : Int)) ∧ W.cell? ⟨R, 2, none⟩ = some (.int .u64 (wd g 1 : Int)) ∧ W.cell? ⟨R, 3, none⟩ = some (.int .u64 (wd g 2 : Int)) ∧ W.cell? ⟨R, 4, none⟩ = some (.int .u64 (wd g 3 : Int)) ∧ W.cell? ⟨R, 5, none⟩ = some (.int .u64 (wd g 4 : Int)) ∧ W.cell? ⟨R, 6, none⟩ = some (.int .u64 (wd g 5 : Int)) ∧ W.cell? ⟨R, 7, none⟩ = some (.int .u64 (wd g 6 : Int)) ∧ W.cell? ⟨R, 8, none⟩ = some (.int .u64 (wd g 7 : Int)) := make_cells h.i1 h.i2 h.i3
/-- And behind it: the ratio in its box. -/
def MkOut (w W : World) (S R E : Nat) (s : Bool) (n : Nat) (t : Bool) (m : Nat) (x : Bool) (g : Nat) (z : Bool) (q p : Nat) (v : Value) : Prop := ∃ L, v = .pointer (some ⟨L, 0, none⟩) ∧ E < L ∧ RatAt W L z q false p ∧ MkInv w W S R E s n t m x g
/-- What Make answers: a ratio in lowest terms, or ErrZero. -/
def makeV (s : Bool) (n : Nat) (t : Bool) (m : Nat) : Value := if m = 0 then .tuple #[ratV false 0 false 0, errV 10] else .tuple #[ratV (sgn (s != t) (n / Nat.gcd n m)) (n / Nat.gcd n m) false (m / Nat.gcd n m), .nilIface]
set_option maxRecDepth 100000 in
set_option maxHeartbeats 4000000 in
theorem Make_zero0 (s : Bool) (n : Nat) (t : Bool) (w : World) :
    Calls Tryd.prog 15 #[intV s n, intV t 0] w fun e w' => e = .returned (.tuple #[.agg #[.bool false, .int .u64 0, .int .u64 0, .int .u64 0, .int .u64 0, .int .u64 0, .int .u64 0, .int .u64 0, .int .u64 0, .bool false, .int .u64 0, .int .u64 0, .int .u64 0, .int .u64 0, .int .u64 0, .int .u64 0, .int .u64 0, .int .u64 0], .iface 56 (.int .i64 10)]) ∧ Below w.heap.size w w' := by
  have HS := Lib.hid (fun W => sign_run t 0 0 W (Nat.pow_pos (by decide)) (Lib.hid rfl))
  obtain ⟨S, hS⟩ : ∃ S, w.heap.size = S := ⟨_, rfl⟩
  obtain ⟨W, hW⟩ : ∃ W, ((w.alloc (boxI s n 25)).alloc (boxI t 0 25)).alloc (boxRZ 27) = W := ⟨_, rfl⟩
  have T := make_boxes w s n t 0 25 25 27
  rw [hW, hS] at T
  have HT := Lib.hid T
  obtain ⟨⟨a0, x0⟩, ⟨a1, x1⟩, ⟨a2, x2⟩, ⟨a3, x3⟩, ⟨a4, x4⟩, ⟨a5, x5⟩, ⟨a6, x6⟩, ⟨a7, x7⟩, ⟨a8, x8⟩⟩ := T.2.1.nine
  rw [hS]
  clear T
  unfold intV at HS ⊢
  go_enter Tryd.func15, Tryd.ntmps15
  go_wp2_with fail
  refine (HS.out _).mono ?_
  rintro e w1 ⟨rfl, hw1⟩
  have hWs : W.heap.size = S + 1 + 1 + 1 := HT.out.2.2.2.2
  have I3 := HT.out.2.2.1.keep hw1 (by omega)
  have B1 : Hid (Below S w w1) := HT.out.2.2.2.1.trans (hw1.mono (by omega))
  have H3 := Lib.hid I3
  clear hw1 HT hW hWs I3 a0 a1 a2 a3 a4 a5 a6 a7 a8 x0 x1 x2 x3 x4 x5 x6 x7 x8
  go_wp2_with (refine wpList_store_rat rfl (.tmp 4) (.tmp 12) rfl (b := S + 1 + 1) (s := false) (n := 0) (t := false) (d := 0) rfl ratV_zero.symm H3.out ?_)
  refine bodyPost_ret (v := .tuple #[ratV false 0 false 0, .iface 56 (.int .i64 10)]) (results_rat rfl rfl rfl (st18_at H3.out)) rfl ⟨by rw [ratV_zero], ?_⟩
  exact (st18_but w1 (S + 1 + 1) false 0 false 0).2.1 S w (by omega) B1.out
theorem Make_zero (s : Bool) (n : Nat) (t : Bool) (w : World) :
    Calls Tryd.prog 15 #[intV s n, intV t 0] w fun e w' => e = .returned (makeV s n t 0) ∧ Below w.heap.size w w' :=
  (Make_zero0 s n t w).mono fun e w' ⟨he, hw⟩ => ⟨by rw [he, makeV, if_pos rfl, ratV_zero, errV_pos (show 10 ≠ 0 by decide)]; rfl, hw⟩
end Go.Proofs.YtbcnpajdmlbieaaDoor
