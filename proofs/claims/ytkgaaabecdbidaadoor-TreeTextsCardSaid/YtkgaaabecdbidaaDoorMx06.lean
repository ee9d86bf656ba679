/-
  Stage 8: the walk's steps at boxes of numbers and ratios, by laws: values stay folded.
-/
import Derived.Test.YtkgaaabecdbidaaDoorMx05
import Derived.Deep.RegionHeld3
import Derived.Lib.ItoaMem
import Derived.Lib.AppendIntMem
import Derived.Test.YtkgaaabecdbidaaDoorMx00
import Derived.Lib.ItoaNum
import Derived.Lib.Repeat
import Derived.Test.YtkgaaabecdbidaaDoorMx03
namespace Go.Proofs.YtkgaaabecdbidaaDoor
open Go.RowKit Go.Sort
abbrev boxRZ (T : TypeId) : Obj := .cells #[.bool false, .int .u64 0, .int .u64 0, .int .u64 0, .int .u64 0, .int .u64 0, .int .u64 0, .int .u64 0, .int .u64 0, .bool false, .int .u64 0, .int .u64 0, .int .u64 0, .int .u64 0, .int .u64 0, .int .u64 0, .int .u64 0, .int .u64 0] T
theorem RatAt.zero (w : World) (T : TypeId) : RatAt (w.alloc (boxRZ T)) w.heap.size false 0 false 0 := by
 have := RatAt.new w false 0 false 0 T
 simpa only [boxR, wd_zero, Int.natCast_zero] using this
theorem ErrAt.new (w : World) (T : TypeId) : ErrAt (w.alloc (.cells #[.nilIface] T)) w.heap.size 0 := ⟨World.cell?_alloc_at _ _ _ _ rfl, World.frozen?_alloc_at _ _ _ _ rfl⟩
theorem ErrAt.but1 {w w' : World} {b k c : Nat} (h : ErrAt w b k) (g : But1 w w' c) (hne : b ≠ c) : ErrAt w' b k := ⟨(g.1 ⟨b, 0, none⟩ hne).1.trans h.cell, (g.1 ⟨b, 0, none⟩ hne).2.trans h.free⟩
theorem IntO.of_range {w : World} {b o n : Nat} {s : Bool} (h : w.rangeAt b o [.bool s, .int .u64 (wd n 0 : Int), .int .u64 (wd n 1 : Int), .int .u64 (wd n 2 : Int), .int .u64 (wd n 3 : Int), .int .u64 (wd n 4 : Int), .int .u64 (wd n 5 : Int), .int .u64 (wd n 6 : Int), .int .u64 (wd n 7 : Int)]) (hf : ∀ i, i < 9 → w.frozen? ⟨b, o + i, none⟩ = false) : IntO w b o s n := by
 refine ⟨h 0 _ rfl, hf 0 (by decide), fun i hi => ?_⟩
 have hfi := hf (i + 1) (by omega)
 have e : o + (i + 1) = o + 1 + i := by omega
 rw [e] at hfi
 refine ⟨?_, hfi⟩
 have := h (i + 1) (.int .u64 (wd n i : Int))
 rw [e] at this
 apply this
 rcases i with _ | _ | _ | _ | _ | _ | _ | _ | i
 all_goals first | rfl | omega
theorem IntO.there {w : World} {b o n : Nat} {s : Bool} (h : IntO w b o s n) : w.there b o 9 := by
 intro j hj
 rcases j with _ | j
 ·exact ⟨by show (w.cell? ⟨b, o, none⟩).isSome = true; rw [h.sign]; rfl, h.free⟩
 ·have := h.words j (by omega)
  have e : o + (j + 1) = o + 1 + j := by omega
  rw [e]
  exact ⟨by rw [this.1]; rfl, this.2⟩
theorem IntO.set {w : World} {b o n m : Nat} {s t : Bool} (h : IntO w b o s n) : IntO (w.setCells b o [.bool t, .int .u64 (wd m 0 : Int), .int .u64 (wd m 1 : Int), .int .u64 (wd m 2 : Int), .int .u64 (wd m 3 : Int), .int .u64 (wd m 4 : Int), .int .u64 (wd m 5 : Int), .int .u64 (wd m 6 : Int), .int .u64 (wd m 7 : Int)]) b o t m :=
 IntO.of_range (World.rangeAt_setCells_same w b o _ h.there) fun i hi => by rw [World.frozen?_setCells]; exact (h.there i hi).2
theorem IntO.apart {w : World} {b o n p m : Nat} {s t : Bool} (h : IntO w b o s n) (hap : o + 9 ≤ p ∨ p + 9 ≤ o) : IntO (w.setCells b p [.bool t, .int .u64 (wd m 0 : Int), .int .u64 (wd m 1 : Int), .int .u64 (wd m 2 : Int), .int .u64 (wd m 3 : Int), .int .u64 (wd m 4 : Int), .int .u64 (wd m 5 : Int), .int .u64 (wd m 6 : Int), .int .u64 (wd m 7 : Int)]) b o s n := by
 have hh : ∀ q, o ≤ q → q < o + 9 → (w.setCells b p [.bool t, .int .u64 (wd m 0 : Int), .int .u64 (wd m 1 : Int), .int .u64 (wd m 2 : Int), .int .u64 (wd m 3 : Int), .int .u64 (wd m 4 : Int), .int .u64 (wd m 5 : Int), .int .u64 (wd m 6 : Int), .int .u64 (wd m 7 : Int)]).cell? ⟨b, q, none⟩ = w.cell? ⟨b, q, none⟩ := fun q h1 h2 =>
  World.cell?_setCells_out b _ p w ⟨b, q, none⟩ (fun _ _ => by
   show q < p ∨ p + 9 ≤ q
   omega)
 refine ⟨(hh o (Nat.le_refl _) (by omega)).trans h.sign, by rw [World.frozen?_setCells]; exact h.free, fun i hi => ⟨(hh (o + 1 + i) (by omega) (by omega)).trans (h.words i hi).1, by rw [World.frozen?_setCells]; exact (h.words i hi).2⟩⟩
theorem RatAt.range {w : World} {b n d : Nat} {s t : Bool} (h : RatAt w b s n t d) : w.rangeAt b 0 [.bool s, .int .u64 (wd n 0 : Int), .int .u64 (wd n 1 : Int), .int .u64 (wd n 2 : Int), .int .u64 (wd n 3 : Int), .int .u64 (wd n 4 : Int), .int .u64 (wd n 5 : Int), .int .u64 (wd n 6 : Int), .int .u64 (wd n 7 : Int), .bool t, .int .u64 (wd d 0 : Int), .int .u64 (wd d 1 : Int), .int .u64 (wd d 2 : Int), .int .u64 (wd d 3 : Int), .int .u64 (wd d 4 : Int), .int .u64 (wd d 5 : Int), .int .u64 (wd d 6 : Int), .int .u64 (wd d 7 : Int)] := by
 intro j v hv
 rw [Nat.zero_add]
 obtain ⟨⟨a0, x0⟩, ⟨a1, x1⟩, ⟨a2, x2⟩, ⟨a3, x3⟩, ⟨a4, x4⟩, ⟨a5, x5⟩, ⟨a6, x6⟩, ⟨a7, x7⟩, ⟨a8, x8⟩⟩ := h.num.nine0
 obtain ⟨⟨p0, y0⟩, ⟨p1, y1⟩, ⟨p2, y2⟩, ⟨p3, y3⟩, ⟨p4, y4⟩, ⟨p5, y5⟩, ⟨p6, y6⟩, ⟨p7, y7⟩, ⟨p8, y8⟩⟩ := h.den.nine9
 rcases j with _ | _ | _ | _ | _ | _ | _ | _ | _ | _ | _ | _ | _ | _ | _ | _ | _ | _ | j
 ·exact a0.trans hv
 ·exact a1.trans hv
 ·exact a2.trans hv
 ·exact a3.trans hv
 ·exact a4.trans hv
 ·exact a5.trans hv
 ·exact a6.trans hv
 ·exact a7.trans hv
 ·exact a8.trans hv
 ·exact p0.trans hv
 ·exact p1.trans hv
 ·exact p2.trans hv
 ·exact p3.trans hv
 ·exact p4.trans hv
 ·exact p5.trans hv
 ·exact p6.trans hv
 ·exact p7.trans hv
 ·exact p8.trans hv
 ·simp at hv
theorem RatAt.there {w : World} {b n d : Nat} {s t : Bool} (h : RatAt w b s n t d) : w.there b 0 18 := by
 intro j hj
 rcases Nat.lt_or_ge j 9 with h1 | h1
 ·exact h.num.there j h1
 ·have := h.den.there (j - 9) (by omega)
  have e : 9 + (j - 9) = 0 + j := by omega
  rwa [e] at this
theorem IntO.range {w : World} {b o n : Nat} {s : Bool} (h : IntO w b o s n) : w.rangeAt b o [.bool s, .int .u64 (wd n 0 : Int), .int .u64 (wd n 1 : Int), .int .u64 (wd n 2 : Int), .int .u64 (wd n 3 : Int), .int .u64 (wd n 4 : Int), .int .u64 (wd n 5 : Int), .int .u64 (wd n 6 : Int), .int .u64 (wd n 7 : Int)] := by
 intro j v hv
 rcases j with _ | j
 ·exact h.sign.trans hv
 ·have e : o + (j + 1) = o + 1 + j := by omega
  rw [e]
  have hj : j < 8 := by
   have := (List.getElem?_eq_some_iff.1 hv).1
   simp at this
   omega
  rw [(h.words j hj).1, ← hv]
  rcases j with _ | _ | _ | _ | _ | _ | _ | _ | j
  all_goals first | rfl | omega
theorem IntAt.o {w : World} {b n : Nat} {s : Bool} (h : IntAt w b s n) : IntO w b 0 s n := ⟨h.sign, h.free, h.words⟩
theorem IntO.at {w : World} {b n : Nat} {s : Bool} (h : IntO w b 0 s n) : IntAt w b s n := ⟨h.sign, h.free, h.words⟩
end Go.Proofs.YtkgaaabecdbidaaDoor
namespace Go.Proofs.YtkgaaabecdbidaaDoor
open Go.RowKit Go.Sort
theorem make_cells {W : World} {S R n m g : Nat} {s t x : Bool} (I1 : IntAt W S s n) (I2 : IntAt W (S + 1) t m) (I3 : IntAt W R x g) : W.cell? ⟨S, 0, none⟩ = some (.bool s) ∧ W.cell? ⟨S, 1, none⟩ = some (.int .u64 (wd n 0 : Int)) ∧ W.cell? ⟨S, 2, none⟩ = some (.int .u64 (wd n 1 : Int)) ∧ W.cell? ⟨S, 3, none⟩ = some (.int .u64 (wd n 2 : Int)) ∧ W.cell? ⟨S, 4, none⟩ = some (.int .u64 (wd n 3 : Int)) ∧ W.cell? ⟨S, 5, none⟩ = some (.int .u64 (wd n 4 : Int)) ∧ W.cell? ⟨S, 6, none⟩ = some (.int .u64 (wd n 5 : Int)) ∧ W.cell? ⟨S, 7, none⟩ = some (.int .u64 (wd n 6 : Int)) ∧ W.cell? ⟨S, 8, none⟩ = some (.int .u64 (wd n 7 : Int)) ∧ W.cell? ⟨S + 1, 0, none⟩ = some (.bool t) ∧ W.cell? ⟨S + 1, 1, none⟩ = some (.int .u64 (wd m 0 : Int)) ∧ W.cell? ⟨S + 1, 2, none⟩ = some (.int .u64 (wd m 1 : Int)) ∧ W.cell? ⟨S + 1, 3, none⟩ = some (.int .u64 (wd m 2 : Int)) ∧ W.cell? ⟨S + 1, 4, none⟩ = some (.int .u64 (wd m 3 : Int)) ∧ W.cell? ⟨S + 1, 5, none⟩ = some (.int .u64 (wd m 4 : Int)) ∧ W.cell? ⟨S + 1, 6, none⟩ = some (.int .u64 (wd m 5 : Int)) ∧ W.cell? ⟨S + 1, 7, none⟩ = some (.int .u64 (wd m 6 : Int)) ∧ W.cell? ⟨S + 1, 8, none⟩ = some (.int .u64 (wd m 7 : Int)) ∧ W.cell? ⟨R, 0, none⟩ = some (.bool x) ∧ W.cell? ⟨R, 1, none⟩ = some (.int .u64 (wd g 0 : Int)) ∧ W.cell? ⟨R, 2, none⟩ = some (.int .u64 (wd g 1 : Int)) ∧ W.cell? ⟨R, 3, none⟩ = some (.int .u64 (wd g 2 : Int)) ∧ W.cell? ⟨R, 4, none⟩ = some (.int .u64 (wd g 3 : Int)) ∧ W.cell? ⟨R, 5, none⟩ = some (.int .u64 (wd g 4 : Int)) ∧ W.cell? ⟨R, 6, none⟩ = some (.int .u64 (wd g 5 : Int)) ∧ W.cell? ⟨R, 7, none⟩ = some (.int .u64 (wd g 6 : Int)) ∧ W.cell? ⟨R, 8, none⟩ = some (.int .u64 (wd g 7 : Int)) := by
 obtain ⟨⟨a0, x0⟩, ⟨a1, x1⟩, ⟨a2, x2⟩, ⟨a3, x3⟩, ⟨a4, x4⟩, ⟨a5, x5⟩, ⟨a6, x6⟩, ⟨a7, x7⟩, ⟨a8, x8⟩⟩ := I1.nine
 obtain ⟨⟨b0, y0⟩, ⟨b1, y1⟩, ⟨b2, y2⟩, ⟨b3, y3⟩, ⟨b4, y4⟩, ⟨b5, y5⟩, ⟨b6, y6⟩, ⟨b7, y7⟩, ⟨b8, y8⟩⟩ := I2.nine
 obtain ⟨⟨c0, z0⟩, ⟨c1, z1⟩, ⟨c2, z2⟩, ⟨c3, z3⟩, ⟨c4, z4⟩, ⟨c5, z5⟩, ⟨c6, z6⟩, ⟨c7, z7⟩, ⟨c8, z8⟩⟩ := I3.nine
 exact ⟨a0, a1, a2, a3, a4, a5, a6, a7, a8, b0, b1, b2, b3, b4, b5, b6, b7, b8, c0, c1, c2, c3, c4, c5, c6, c7, c8⟩
structure MkInv (w W : World) (S R E : Nat) (s : Bool) (n : Nat) (t : Bool) (m : Nat) (x : Bool) (g : Nat) : Prop where
 i1 : IntAt W S s n
 i2 : IntAt W (S + 1) t m
 i3 : IntAt W R x g
 i4 : RatAt W (S + 1 + 1) false 0 false 0
 bl : Below S w W
 er : ErrAt W E 0
 sz : E + 1 ≤ W.heap.size
 r1 : S + 1 + 1 + 1 ≤ R
 r2 : R + 1 ≤ E
theorem MkInv.alloc {w W : World} {S R E n m g : Nat} {s t x : Bool} (h : MkInv w W S R E s n t m x g) (o : Obj) : MkInv w (W.alloc o) S R E s n t m x g :=
 have h1 := h.r1; have h2 := h.r2; have h3 := h.sz
 ⟨h.i1.alloc (by omega) o, h.i2.alloc (by omega) o, h.i3.alloc (by omega) o, h.i4.alloc (by omega) o, h.bl.alloc (by omega) o, h.er.below (below_alloc W o), by simp; omega, h1, h2⟩
theorem MkInv.drew {w W : World} {S R E n m g : Nat} {s t x : Bool} (h : MkInv w W S R E s n t m x g) : MkInv w W.drew S R E s n t m x g := ⟨h.i1.drew, h.i2.drew, h.i3.drew, h.i4.drew, h.bl.drew, h.er.drew, h.sz, h.r1, h.r2⟩
theorem MkInv.but {w W V : World} {S R E L n m g : Nat} {s t x : Bool} (h : MkInv w W S R E s n t m x g) (k : But1 W V L) (hL : E < L) : MkInv w V S R E s n t m x g :=
 have h1 := h.r1; have h2 := h.r2; have h3 := h.sz
 ⟨h.i1.but k (by omega), h.i2.but k (by omega), h.i3.but k (by omega), h.i4.but k (by omega), k.2.1 S w (by omega) h.bl, ⟨(k.1 ⟨E, 0, none⟩ (by show E ≠ L; omega)).1.trans h.er.cell, (k.1 ⟨E, 0, none⟩ (by show E ≠ L; omega)).2.trans h.er.free⟩, by rw [k.2.2]; exact h3, h1, h2⟩
theorem MkInv.cells {w W : World} {S R E n m g : Nat} {s t x : Bool} (h : MkInv w W S R E s n t m x g) : W.cell? ⟨S, 0, none⟩ = some (.bool s) ∧ W.cell? ⟨S, 1, none⟩ = some (.int .u64 (wd n 0 : Int)) ∧ W.cell? ⟨S, 2, none⟩ = some (.int .u64 (wd n 1 : Int)) ∧ W.cell? ⟨S, 3, none⟩ = some (.int .u64 (wd n 2 : Int)) ∧ W.cell? ⟨S, 4, none⟩ = some (.int .u64 (wd n 3 : Int)) ∧ W.cell? ⟨S, 5, none⟩ = some (.int .u64 (wd n 4 : Int)) ∧ W.cell? ⟨S, 6, none⟩ = some (.int .u64 (wd n 5 : Int)) ∧ W.cell? ⟨S, 7, none⟩ = some (.int .u64 (wd n 6 : Int)) ∧ W.cell? ⟨S, 8, none⟩ = some (.int .u64 (wd n 7 : Int)) ∧ W.cell? ⟨S + 1, 0, none⟩ = some (.bool t) ∧ W.cell? ⟨S + 1, 1, none⟩ = some (.int .u64 (wd m 0 : Int)) ∧ W.cell? ⟨S + 1, 2, none⟩ = some (.int .u64 (wd m 1 : Int)) ∧ W.cell? ⟨S + 1, 3, none⟩ = some (.int .u64 (wd m 2 : Int)) ∧ W.cell? ⟨S + 1, 4, none⟩ = some (.int .u64 (wd m 3 : Int)) ∧ W.cell? ⟨S + 1, 5, none⟩ = some (.int .u64 (wd m 4 : Int)) ∧ W.cell? ⟨S + 1, 6, none⟩ = some (.int .u64 (wd m 5 : Int)) ∧ W.cell? ⟨S + 1, 7, none⟩ = some (.int .u64 (wd m 6 : Int)) ∧ W.cell? ⟨S + 1, 8, none⟩ = some (.int .u64 (wd m 7 : Int)) ∧ W.cell? ⟨R, 0, none⟩ = some (.bool x) ∧ W.cell? ⟨R, 1, none⟩ = some (.int .u64 (wd g 0 : Int)) ∧ W.cell? ⟨R, 2, none⟩ = some (.int .u64 (wd g 1 : Int)) ∧ W.cell? ⟨R, 3, none⟩ = some (.int .u64 (wd g 2 : Int)) ∧ W.cell? ⟨R, 4, none⟩ = some (.int .u64 (wd g 3 : Int)) ∧ W.cell? ⟨R, 5, none⟩ = some (.int .u64 (wd g 4 : Int)) ∧ W.cell? ⟨R, 6, none⟩ = some (.int .u64 (wd g 5 : Int)) ∧ W.cell? ⟨R, 7, none⟩ = some (.int .u64 (wd g 6 : Int)) ∧ W.cell? ⟨R, 8, none⟩ = some (.int .u64 (wd g 7 : Int)) := make_cells h.i1 h.i2 h.i3
end Go.Proofs.YtkgaaabecdbidaaDoor
namespace Go.Proofs.YtkgaaabecdbidaaDoor
open Go.RowKit Go.Sort
set_option linter.unusedSimpArgs false
structure PairAt (w : World) (b k : Nat) (s : Bool) (n : Nat) (t : Bool) (d : Nat) (s' : Bool) (n' : Nat) (t' : Bool) (d' : Nat) : Prop where
 err : ErrAt w b k
 an : IntO w b 1 s n
 ad : IntO w b 10 t d
 bn : IntO w b 19 s' n'
 bd : IntO w b 28 t' d'
abbrev boxP (s : Bool) (n : Nat) (t : Bool) (d : Nat) (s' : Bool) (n' : Nat) (t' : Bool) (d' : Nat) (T : TypeId) : Obj := .cells #[.nilIface, .bool s, .int .u64 (wd n 0 : Int), .int .u64 (wd n 1 : Int), .int .u64 (wd n 2 : Int), .int .u64 (wd n 3 : Int), .int .u64 (wd n 4 : Int), .int .u64 (wd n 5 : Int), .int .u64 (wd n 6 : Int), .int .u64 (wd n 7 : Int), .bool t, .int .u64 (wd d 0 : Int), .int .u64 (wd d 1 : Int), .int .u64 (wd d 2 : Int), .int .u64 (wd d 3 : Int), .int .u64 (wd d 4 : Int), .int .u64 (wd d 5 : Int), .int .u64 (wd d 6 : Int), .int .u64 (wd d 7 : Int), .bool s', .int .u64 (wd n' 0 : Int), .int .u64 (wd n' 1 : Int), .int .u64 (wd n' 2 : Int), .int .u64 (wd n' 3 : Int), .int .u64 (wd n' 4 : Int), .int .u64 (wd n' 5 : Int), .int .u64 (wd n' 6 : Int), .int .u64 (wd n' 7 : Int), .bool t', .int .u64 (wd d' 0 : Int), .int .u64 (wd d' 1 : Int), .int .u64 (wd d' 2 : Int), .int .u64 (wd d' 3 : Int), .int .u64 (wd d' 4 : Int), .int .u64 (wd d' 5 : Int), .int .u64 (wd d' 6 : Int), .int .u64 (wd d' 7 : Int)] T
theorem PairAt.new (w : World) (s : Bool) (n : Nat) (t : Bool) (d : Nat) (s' : Bool) (n' : Nat) (t' : Bool) (d' : Nat) (T : TypeId) : PairAt (w.alloc (boxP s n t d s' n' t' d' T)) w.heap.size 0 s n t d s' n' t' d' := by
 refine ⟨⟨World.cell?_alloc_at _ _ _ _ rfl, World.frozen?_alloc_at _ _ _ _ rfl⟩, ⟨World.cell?_alloc_at _ _ _ _ rfl, World.frozen?_alloc_at _ _ _ _ rfl, fun i hi => ?_⟩, ⟨World.cell?_alloc_at _ _ _ _ rfl, World.frozen?_alloc_at _ _ _ _ rfl, fun i hi => ?_⟩, ⟨World.cell?_alloc_at _ _ _ _ rfl, World.frozen?_alloc_at _ _ _ _ rfl, fun i hi => ?_⟩, ⟨World.cell?_alloc_at _ _ _ _ rfl, World.frozen?_alloc_at _ _ _ _ rfl, fun i hi => ?_⟩⟩
 all_goals
  rcases i with _ | _ | _ | _ | _ | _ | _ | _ | i
  all_goals first | exact ⟨World.cell?_alloc_at _ _ _ _ rfl, World.frozen?_alloc_at _ _ _ _ rfl⟩ | omega
theorem PairAt.keep {w w' : World} {b k n d n' d' B : Nat} {s t s' t' : Bool} (h : PairAt w b k s n t d s' n' t' d') (hb : Below B w w') (hB : b < B) : PairAt w' b k s n t d s' n' t' d' :=
 ⟨⟨(hb.cell (p := ⟨b, 0, none⟩) hB).trans h.err.cell, (hb.frozen (p := ⟨b, 0, none⟩) hB).trans h.err.free⟩, h.an.keep hb hB, h.ad.keep hb hB, h.bn.keep hb hB, h.bd.keep hb hB⟩
theorem PairAt.drew {w : World} {b k n d n' d' : Nat} {s t s' t' : Bool} (h : PairAt w b k s n t d s' n' t' d') : PairAt w.drew b k s n t d s' n' t' d' := ⟨h.err.drew, h.an.drew, h.ad.drew, h.bn.drew, h.bd.drew⟩
structure BegInv (w W : World) (S B k : Nat) (s : Bool) (n : Nat) (t : Bool) (d : Nat) (s' : Bool) (n' : Nat) (t' : Bool) (d' : Nat) : Prop where
 ra : RatAt W S s n t d
 rb : RatAt W (S + 1) s' n' t' d'
 pr : PairAt W B k s n t d s' n' t' d'
 bl : Below S w W
 sz : B < W.heap.size
 hB : B = S + 1 + 1
theorem BegInv.below {w W V : World} {S B k n d n' d' : Nat} {s t s' t' : Bool} (h : BegInv w W S B k s n t d s' n' t' d') (g : Below W.heap.size W V) : BegInv w V S B k s n t d s' n' t' d' :=
 have h1 := h.sz; have h2 := h.hB
 ⟨h.ra.keep g (by omega), h.rb.keep g (by omega), h.pr.keep g h1, h.bl.trans (g.mono (by omega)), Nat.lt_of_lt_of_le h1 g.size, h2⟩
theorem BegInv.drew {w W : World} {S B k n d n' d' : Nat} {s t s' t' : Bool} (h : BegInv w W S B k s n t d s' n' t' d') : BegInv w W.drew S B k s n t d s' n' t' d' := ⟨h.ra.drew, h.rb.drew, h.pr.drew, h.bl.drew, h.sz, h.hB⟩
end Go.Proofs.YtkgaaabecdbidaaDoor
namespace Go.Proofs.YtkgaaabecdbidaaDoor
open Go.RowKit Go.Sort
set_option linter.unusedSimpArgs false
structure CrInv (w W : World) (S B : Nat) (k : Nat) (s : Bool) (n : Nat) (t : Bool) (d : Nat) (s' : Bool) (n' : Nat) (t' : Bool) (d' : Nat) : Prop where
 st : Ste w W B k
 pr : PairAt W B k s n t d s' n' t' d'
 i1 : IntAt W S false 0
 i2 : IntAt W (S + 1) false 0
 hw : w.heap.size = S
 hB : B < S
 sz : S + 1 + 1 ≤ W.heap.size
theorem CrInv.drew {w W : World} {S B k n d n' d' : Nat} {s t s' t' : Bool} (h : CrInv w W S B k s n t d s' n' t' d') : CrInv w W.drew S B k s n t d s' n' t' d' := ⟨h.st.drew, h.pr.drew, h.i1.drew, h.i2.drew, h.hw, h.hB, h.sz⟩
theorem PairAt.but {w w' : World} {b c k n d n' d' : Nat} {s t s' t' : Bool} (h : PairAt w b k s n t d s' n' t' d') (g : But1 w w' c) (hne : b ≠ c) : PairAt w' b k s n t d s' n' t' d' :=
 ⟨h.err.but1 g hne, h.an.but g hne, h.ad.but g hne, h.bn.but g hne, h.bd.but g hne⟩
end Go.Proofs.YtkgaaabecdbidaaDoor
namespace Go.Proofs.YtkgaaabecdbidaaDoor
open Go.RowKit Go.Sort
set_option linter.unusedSimpArgs false
structure OpInv (w W : World) (S B k : Nat) (s : Bool) (n : Nat) (t : Bool) (d : Nat) (s' : Bool) (n' : Nat) (t' : Bool) (d' : Nat) : Prop where
 ra : RatAt W S s n t d
 rb : RatAt W (S + 1) s' n' t' d'
 rz : RatAt W (S + 1 + 1) false 0 false 0
 er : ErrAt W B k
 bl : Below S w W
 hB : S + 1 + 1 < B
 sz : B < W.heap.size
theorem OpInv.below {w W V : World} {S B k n d n' d' : Nat} {s t s' t' : Bool} (h : OpInv w W S B k s n t d s' n' t' d') (g : Below W.heap.size W V) : OpInv w V S B k s n t d s' n' t' d' :=
 have h1 := h.hB; have h2 := h.sz
 ⟨h.ra.keep g (by omega), h.rb.keep g (by omega), h.rz.keep g (by omega), h.er.below g, h.bl.trans (g.mono (by omega)), h1, Nat.lt_of_lt_of_le h2 g.size⟩
theorem OpInv.drew {w W : World} {S B k n d n' d' : Nat} {s t s' t' : Bool} (h : OpInv w W S B k s n t d s' n' t' d') : OpInv w W.drew S B k s n t d s' n' t' d' := ⟨h.ra.drew, h.rb.drew, h.rz.drew, h.er.drew, h.bl.drew, h.hB, h.sz⟩
theorem OpInv.but {w W V : World} {S B k c n d n' d' : Nat} {s t s' t' : Bool} (h : OpInv w W S B k s n t d s' n' t' d') (g : But1 W V c) (hc : B < c) : OpInv w V S B k s n t d s' n' t' d' :=
 have h1 := h.hB; have h2 := h.sz
 ⟨h.ra.but g (by omega), h.rb.but g (by omega), h.rz.but g (by omega), h.er.but1 g (by omega), g.2.1 S w (by omega) h.bl, h1, by rw [g.2.2]; exact h2⟩
end Go.Proofs.YtkgaaabecdbidaaDoor
namespace Go.Proofs.YtkgaaabecdbidaaDoor
open Go.RowKit Go.Sort
set_option linter.unusedSimpArgs false
def decS (n : Nat) : ByteArray := ⟨(Lib.decDigits n).toArray⟩
theorem empty_right (s : ByteArray) : s ++ (⟨#[]⟩ : ByteArray) = s := by
 apply ByteArray.ext
 simp [ByteArray.data_append]
end Go.Proofs.YtkgaaabecdbidaaDoor
namespace Go.Proofs.YtkgaaabecdbidaaDoor
open Go.RowKit Go.Sort
set_option linter.unusedSimpArgs false
def Tab (w : World) : Prop := Lib.TabIs Tryd.prog w "internal/strconv.uint64pow10" .u64 Lib.pow10Tab
theorem tab_glob : Tryd.prog.globalNamed "internal/strconv.uint64pow10" = some 1 := by kernel_rfl
theorem Tab.below {w w' : World} (h : Tab w) (hb : Below w.heap.size w w') : Tab w' := by
 unfold Tab Lib.TabIs World.var? at h ⊢
 rw [tab_glob] at h ⊢
 simp only [Option.bind_some] at h ⊢
 have hlt : 1 < w.heap.size := by
  rcases Nat.lt_or_ge 1 w.heap.size with h' | h'
  ·exact h'
  ·rw [Array.getElem?_eq_none h'] at h; cases h
 rw [hb.block _ hlt]
 exact h
end Go.Proofs.YtkgaaabecdbidaaDoor
namespace Go.Proofs.YtkgaaabecdbidaaDoor
open Go.RowKit
theorem nDigits_le : ∀ (k n : Nat), 1 ≤ k → n < 10 ^ k → Lib.nDigits n ≤ k
 | 0, _, h, _ => by omega
 | 1, n, _, h => by rw [Lib.nDigits_small (by simpa using h)]; exact Nat.le_refl 1
 | k + 2, n, _, h => by
  by_cases hs : n < 10
  ·rw [Lib.nDigits_small hs]; omega
  ·rw [Lib.nDigits_big hs]
   have := nDigits_le (k + 1) (n / 10) (by omega) (by rw [Nat.pow_succ] at h; exact Nat.div_lt_of_lt_mul (by rw [Nat.mul_comm]; exact h))
   omega
theorem decDigits_le {k n : Nat} (hk : 1 ≤ k) (h : n < 10 ^ k) : (Lib.decDigits n).length ≤ k := by rw [Lib.decDigits_length]; exact nDigits_le k n hk h
theorem decDigits_small {n : Nat} (h : n < 10) : Lib.decDigits n = [UInt8.ofNat (48 + n)] := Lib.decDigits_one h
theorem decDigits_big {n : Nat} (h : ¬ n < 10) : Lib.decDigits n = Lib.decDigits (n / 10) ++ [UInt8.ofNat (48 + n % 10)] := by
 rw [Lib.decDigits, dif_neg h]
def pad (k r : Nat) : List UInt8 := List.replicate (k - (Lib.decDigits r).length) 48 ++ Lib.decDigits r
theorem pad_one {r : Nat} (h : r < 10) : pad 1 r = [UInt8.ofNat (48 + r)] := by
 unfold pad
 rw [decDigits_small h]
 rfl
theorem pad_succ {k r : Nat} (hk : 1 ≤ k) : pad (k + 1) r = pad k (r / 10) ++ [UInt8.ofNat (48 + r % 10)] := by
 unfold pad
 by_cases h : r < 10
 ·have h1 : r / 10 = 0 := Nat.div_eq_of_lt h
  have h2 : r % 10 = r := Nat.mod_eq_of_lt h
  rw [h1, h2, decDigits_small h, decDigits_small (show 0 < 10 by omega)]
  obtain ⟨j, rfl⟩ : ∃ j, k = j + 1 := ⟨k - 1, by omega⟩
  show List.replicate (j + 1 + 1 - 1) 48 ++ [_] = (List.replicate (j + 1 - 1) 48 ++ [UInt8.ofNat (48 + 0)]) ++ [_]
  have h3 : (UInt8.ofNat (48 + 0)) = 48 := rfl
  rw [h3, show j + 1 + 1 - 1 = j + 1 by omega, show j + 1 - 1 = j by omega, List.replicate_succ']
 ·rw [decDigits_big h, List.length_append, List.append_assoc]
  have : k + 1 - ((Lib.decDigits (r / 10)).length + [UInt8.ofNat (48 + r % 10)].length) = k - (Lib.decDigits (r / 10)).length := by
   show k + 1 - (_ + 1) = _
   omega
  rw [this]
theorem dec_pieces : ∀ (k q r : Nat), 1 ≤ k → 1 ≤ q → r < 10 ^ k → Lib.decDigits (q * 10 ^ k + r) = Lib.decDigits q ++ pad k r
 | 0, _, _, h, _, _ => by omega
 | 1, q, r, _, hq, hr => by
  have hr : r < 10 := by simpa using hr
  rw [decDigits_big (by rw [Nat.pow_one]; omega), pad_one hr, Nat.pow_one]
  have h1 : (q * 10 + r) / 10 = q := by omega
  have h2 : (q * 10 + r) % 10 = r := by omega
  rw [h1, h2]
 | k + 2, q, r, _, hq, hr => by
  have hb : q * 10 ^ (k + 2) + r = (q * 10 ^ (k + 1)) * 10 + r := by rw [Nat.pow_succ, ← Nat.mul_assoc]
  have hp : 1 ≤ 10 ^ (k + 1) := Nat.pow_pos (by decide)
  have hq1 : 1 ≤ q * 10 ^ (k + 1) := Nat.mul_pos hq hp
  have h1 : (q * 10 ^ (k + 2) + r) / 10 = q * 10 ^ (k + 1) + r / 10 := by rw [hb]; omega
  have h2 : (q * 10 ^ (k + 2) + r) % 10 = r % 10 := by rw [hb]; omega
  have hr2 : r / 10 < 10 ^ (k + 1) := Nat.div_lt_of_lt_mul (by rw [Nat.mul_comm, ← Nat.pow_succ]; exact hr)
  rw [decDigits_big (by rw [hb]; omega), h1, h2, dec_pieces (k + 1) q (r / 10) (by omega) hq hr2, List.append_assoc, ← pad_succ (by omega)]
theorem repeat_zero : ∀ (n : Nat), Lib.repeatL [48] n = List.replicate n 48
 | 0 => rfl
 | n + 1 => by
  rw [List.replicate_succ]
  show [48] ++ Lib.repeatL [48] n = _
  rw [repeat_zero n]
  rfl
theorem bytes_app (a b : List UInt8) : (⟨a.toArray⟩ : ByteArray) ++ ⟨b.toArray⟩ = ⟨(a ++ b).toArray⟩ := by
 apply ByteArray.ext
 simp [ByteArray.data_append]
theorem bytes_assoc (a b c : ByteArray) : (a ++ b) ++ c = a ++ (b ++ c) := by
 apply ByteArray.ext
 simp [ByteArray.data_append]
theorem bytes_size_app (a b : ByteArray) : (a ++ b).size = a.size + b.size := by
 show (a ++ b).data.size = a.data.size + b.data.size
 rw [ByteArray.data_append, Array.size_append]
end Go.Proofs.YtkgaaabecdbidaaDoor
namespace Go.Proofs.YtkgaaabecdbidaaDoor
open Go.RowKit Go.Sort
set_option linter.unusedSimpArgs false
def txt (s : Bool) (n : Nat) : ByteArray := if sgn s n then (⟨#[45]⟩ : ByteArray) ++ decS n else decS n
end Go.Proofs.YtkgaaabecdbidaaDoor
namespace Go.Proofs.YtkgaaabecdbidaaDoor
open Go.RowKit Go.Sort
set_option linter.unusedSimpArgs false
theorem decS_size (n : Nat) : (decS n).size = (Lib.decDigits n).length := by simp [decS, ByteArray.size]
theorem fits_dec {n : Nat} (h : Fits n) : n < 10 ^ 155 := Nat.lt_of_lt_of_le h (by decide)
theorem decS_le {n : Nat} (h : Fits n) : (decS n).size ≤ 155 := by rw [decS_size]; exact decDigits_le (by decide) (fits_dec h)
def TD (n q : Nat) (t : ByteArray) : Prop := decS n = decS q ++ t
theorem TD.start (n : Nat) : TD n n ⟨#[]⟩ := (empty_right _).symm
theorem TD.size {n q : Nat} {t : ByteArray} (h : TD n q t) : t.size ≤ (decS n).size := by
 rw [show decS n = decS q ++ t from h, bytes_size_app]; omega
theorem TD.step {n q c : Nat} {t : ByteArray} (h : TD n q t) (h0 : q / 10000000000000000000 ≠ 0) (hc : 19 - (decS (q % 10000000000000000000)).size = c) :
  TD n (q / 10000000000000000000) ((((⟨(Lib.repeatL [48] c).toArray⟩ : ByteArray) ++ decS (q % 10000000000000000000))) ++ t) := by
 unfold TD at h ⊢
 rw [h, ← bytes_assoc]
 congr 1
 have e : q = q / 10000000000000000000 * 10 ^ 19 + q % 10000000000000000000 := by
  rw [show (10 : Nat) ^ 19 = 10000000000000000000 by decide]
  omega
 have hr : q % 10000000000000000000 < 10 ^ 19 := Nat.mod_lt _ (by decide)
 have h2 := dec_pieces 19 (q / 10000000000000000000) (q % 10000000000000000000) (by decide) (Nat.pos_of_ne_zero h0) hr
 rw [← e] at h2
 rw [decS_size] at hc
 show (⟨(Lib.decDigits q).toArray⟩ : ByteArray) = ⟨_⟩ ++ (⟨_⟩ ++ ⟨_⟩)
 rw [bytes_app, bytes_app, h2, repeat_zero, ← hc]
 rfl
end Go.Proofs.YtkgaaabecdbidaaDoor
namespace Go.Proofs.YtkgaaabecdbidaaDoor
open Go.RowKit
set_option linter.unusedSimpArgs false
def numS (k : Int) : ByteArray := txt false k.toNat
def spS : ByteArray := ⟨#[32]⟩
def kidsAt (g : Int → ByteArray) (T : List Nd) (tok : Int) : List Int → ByteArray → ByteArray × List Int
 | [], s => (s, [])
 | c :: r, s => if (kd T c).f = tok then kidsAt g T tok r (s ++ spS ++ g c) else (s, c :: r)
def bodyT (g : Int → ByteArray) (T : List Nd) (i : Nat) : Nat → Int → List Int → ByteArray → ByteArray
 | 0, _, _, s => s
 | h + 1, tok, l, s => bodyT g T i h (tok + 1) (kidsAt g T tok l s).2 (if ownB T i tok then (kidsAt g T tok l s).1 ++ spS ++ numS tok else (kidsAt g T tok l s).1)
def textF (T : List Nd) (i : Nat) : ByteArray :=
 bodyT (fun c => if c.toNat < i then textF T c.toNat else ⟨#[]⟩) T i (((nd T i).t - (nd T i).f).toNat + 1) (nd T i).f (nd T i).kids ((⟨#[40]⟩ : ByteArray) ++ numS (nd T i).k) ++ (⟨#[41]⟩ : ByteArray)
termination_by i
decreasing_by assumption
def kidT (T : List Nd) (i : Nat) (c : Int) : ByteArray := if c.toNat < i then textF T c.toNat else ⟨#[]⟩
theorem textF_eq (T : List Nd) (i : Nat) : textF T i = bodyT (kidT T i) T i (((nd T i).t - (nd T i).f).toNat + 1) (nd T i).f (nd T i).kids ((⟨#[40]⟩ : ByteArray) ++ numS (nd T i).k) ++ (⟨#[41]⟩ : ByteArray) := by
 rw [textF]
 rfl
theorem numS_size {k : Int} (h : k < 1000) : (numS k).size ≤ 3 := by
 unfold numS txt
 rw [show sgn false k.toNat = false by simp [sgn], if_neg (by decide), decS_size]
 exact decDigits_le (by decide) (by omega)
def kidSum (g : Int → ByteArray) (l : List Int) : Nat := (l.map fun c => (g c).size + 1).sum
theorem kidsAt_size (g : Int → ByteArray) (T : List Nd) (tok : Int) : ∀ (l : List Int) (s : ByteArray), (kidsAt g T tok l s).1.size + kidSum g (kidsAt g T tok l s).2 = s.size + kidSum g l := by
 intro l
 induction l with
 | nil => intro s; rfl
 | cons c r ih =>
  intro s
  unfold kidsAt
  split
  ·rw [ih]
   simp only [ByteArray.size_append, kidSum, List.map_cons, List.sum_cons, spS]
   have : (⟨#[32]⟩ : ByteArray).size = 1 := rfl
   omega
  ·rfl
theorem kidsAt_ge (g : Int → ByteArray) (T : List Nd) (tok : Int) : ∀ (l : List Int) (s : ByteArray), s.size ≤ (kidsAt g T tok l s).1.size := by
 intro l
 induction l with
 | nil => intro s; exact Nat.le_refl _
 | cons c r ih =>
  intro s
  unfold kidsAt
  split
  ·have := ih (s ++ spS ++ g c)
   simp only [ByteArray.size_append] at this
   omega
  ·exact Nat.le_refl _
theorem bodyT_le (g : Int → ByteArray) (T : List Nd) (i : Nat) : ∀ (h : Nat) (tok : Int) (l : List Int) (s : ByteArray), tok + h ≤ 1000 → (bodyT g T i h tok l s).size ≤ s.size + kidSum g l + h * 4 := by
 intro h
 induction h with
 | zero => intro tok l s _; simp [bodyT]
 | succ h ih =>
  intro tok l s ht
  unfold bodyT
  have h1 := ih (tok + 1) (kidsAt g T tok l s).2 (if ownB T i tok then (kidsAt g T tok l s).1 ++ spS ++ numS tok else (kidsAt g T tok l s).1) (by omega)
  have h2 := kidsAt_size g T tok l s
  have h3 := numS_size (k := tok) (by omega)
  have h4 : (if ownB T i tok then (kidsAt g T tok l s).1 ++ spS ++ numS tok else (kidsAt g T tok l s).1).size ≤ (kidsAt g T tok l s).1.size + 4 := by
   split
   ·simp only [ByteArray.size_append, spS]
    have : (⟨#[32]⟩ : ByteArray).size = 1 := rfl
    omega
   ·omega
  omega
theorem bodyT_ge (g : Int → ByteArray) (T : List Nd) (i : Nat) : ∀ (h : Nat) (tok : Int) (l : List Int) (s : ByteArray), s.size ≤ (bodyT g T i h tok l s).size := by
 intro h
 induction h with
 | zero => intro tok l s; exact Nat.le_refl _
 | succ h ih =>
  intro tok l s
  unfold bodyT
  refine Nat.le_trans (Nat.le_trans (kidsAt_ge g T tok l s) ?_) (ih _ _ _)
  split
  ·simp only [ByteArray.size_append]; omega
  ·exact Nat.le_refl _
theorem sum_count (P : Nat → Nat) (i : Nat) : ∀ L : List Nat, (∀ c ∈ L, c < i) → (L.map P).sum = ((List.range i).map fun k => L.count k * P k).sum := by
 intro L
 induction L with
 | nil =>
  intro _
  have : ((List.range i).map fun k => ([] : List Nat).count k * P k) = (List.range i).map fun _ => 0 := by simp
  have h0 : ∀ n, ((List.range n).map fun _ => 0).sum = 0 := by
   intro n
   induction n with
   | zero => rfl
   | succ n ih => rw [List.range_succ, List.map_append, List.sum_append, ih]; rfl
  rw [this, h0]
  rfl
 | cons c L ih =>
  intro h
  have hc := h c (List.mem_cons_self ..)
  rw [List.map_cons, List.sum_cons, ih fun d hd => h d (List.mem_cons_of_mem _ hd)]
  have hone : ∀ n, ((List.range n).map fun k => (c :: L).count k * P k).sum = ((List.range n).map fun k => L.count k * P k).sum + (if c < n then P c else 0) := by
   intro n
   induction n with
   | zero => simp
   | succ n ihn =>
    rw [List.range_succ, List.map_append, List.map_append, List.sum_append, List.sum_append, ihn]
    simp only [List.map_cons, List.map_nil, List.sum_cons, List.sum_nil, Nat.add_zero]
    by_cases e : c = n
    ·subst e
     rw [List.count_cons_self, if_neg (Nat.lt_irrefl _), if_pos (Nat.lt_succ_self _), Nat.add_mul]
     omega
    ·rw [List.count_cons_of_ne e]
     by_cases h1 : c < n
     ·rw [if_pos h1, if_pos (by omega)]; omega
     ·rw [if_neg h1, if_neg (by omega)]; omega
  rw [hone i, if_pos hc]
  omega
theorem sum_once (P : Nat → Nat) (i : Nat) (L : List Nat) (h : ∀ c ∈ L, c < i) (h1 : ∀ k, k < i → L.count k ≤ 1) : (L.map P).sum ≤ ((List.range i).map P).sum := by
 rw [sum_count P i L h]
 have : ∀ n, n ≤ i → ((List.range n).map fun k => L.count k * P k).sum ≤ ((List.range n).map P).sum := by
  intro n
  induction n with
  | zero => intro _; simp
  | succ n ih =>
   intro hn
   rw [List.range_succ, List.map_append, List.map_append, List.sum_append, List.sum_append]
   have h2 := ih (by omega)
   have h3 := h1 n (by omega)
   have h4 : L.count n * P n ≤ 1 * P n := Nat.mul_le_mul_right _ h3
   simp only [List.map_cons, List.map_nil, List.sum_cons, List.sum_nil, Nat.add_zero]
   omega
 exact this i (Nat.le_refl _)
theorem weigh (P : Nat → Nat) (b : Nat) (K : Nat → List Nat) (n : Nat) (hlt : ∀ i, i < n → ∀ c ∈ K i, c < i) (hone : ∀ c i, i < n → c < i → ((List.range (i + 1)).flatMap K).count c ≤ 1) (hP : ∀ i, i < n → P i ≤ b + ((K i).map P).sum) : ∀ i, i < n → P i ≤ b * (i + 1) := by
 intro i hi
 have h1 : ∀ j, j ≤ n → ((List.range j).map P).sum ≤ b * j + (((List.range j).flatMap K).map P).sum := by
  intro j
  induction j with
  | zero => intro _; simp
  | succ j ih =>
   intro hj
   rw [List.range_succ, List.map_append, List.sum_append, List.flatMap_append, List.map_append, List.sum_append]
   have h2 := ih (by omega)
   have h3 := hP j (by omega)
   simp only [List.map_cons, List.map_nil, List.sum_cons, List.sum_nil, Nat.add_zero, List.flatMap_cons, List.flatMap_nil, List.append_nil]
   rw [Nat.mul_add]
   omega
 have h2 := h1 (i + 1) (by omega)
 have h3 : (((List.range (i + 1)).flatMap K).map P).sum ≤ ((List.range i).map P).sum := by
  refine sum_once P i _ (fun c hc => ?_) (fun k hk => hone k i hi hk)
  obtain ⟨j, hj, hc⟩ := List.mem_flatMap.1 hc
  have hj' := List.mem_range.1 hj
  have := hlt j (by omega) c hc
  omega
 rw [List.range_succ, List.map_append, List.sum_append] at h2
 rw [show List.flatMap K (List.range i ++ [i]) = List.flatMap K (List.range (i + 1)) by rw [List.range_succ]] at h2
 simp only [List.map_cons, List.map_nil, List.sum_cons, List.sum_nil, Nat.add_zero] at h2
 omega
theorem count_toNat {l : List Int} (h : ∀ c ∈ l, 0 ≤ c) (k : Nat) : (l.map Int.toNat).count k = l.count (k : Int) := by
 induction l with
 | nil => rfl
 | cons c l ih =>
  have hc := h c (List.mem_cons_self ..)
  rw [List.map_cons, List.count_cons, List.count_cons, ih fun d hd => h d (List.mem_cons_of_mem _ hd)]
  congr 1
  by_cases e : c = (k : Int)
  ·subst e; simp
  ·have : ¬ c.toNat = k := by omega
   simp [e, this]
theorem count_upto {T : List Nd} (hk : ∀ i, i < T.length → ∀ c ∈ (nd T i).kids, 0 ≤ c) (c : Nat) : ∀ j, j ≤ T.length → ((List.range j).flatMap fun i => (nd T i).kids.map Int.toNat).count c = parN (T.take j) (c : Int) := by
 intro j
 induction j with
 | zero => intro _; simp [parN]
 | succ j ih =>
  intro hj
  rw [List.range_succ, List.flatMap_append, List.count_append, ih (by omega), par_take (at_nd (by omega)), List.flatMap_cons, List.flatMap_nil, List.append_nil, count_toNat (hk j (by omega))]
theorem par_take_le (T : List Nd) (c : Int) (j : Nat) : parN (T.take j) c ≤ parN T c := by
 have h : T = T.take j ++ T.drop j := (List.take_append_drop j T).symm
 have : parN T c = parN (T.take j) c + parN (T.drop j) c := by
  conv => lhs; rw [h]
  unfold parN
  rw [List.map_append, List.sum_append]
 omega
theorem textF_size {T : List Nd} {m : Int} (hV : Valid T m) (hm : m ≤ 100) {i : Nat} (hi : i < T.length) : (textF T i).size ≤ 1000 * (i + 1) := by
 have hw := weigh (fun i => (textF T i).size + 1) 1000 (fun i => (nd T i).kids.map Int.toNat) T.length (fun i hi c hc => by
  obtain ⟨d, hd, rfl⟩ := List.mem_map.1 hc
  have := hV.kid i hi d hd
  omega) (fun c i hi hc => by
  rw [count_upto (fun j hj d hd => (hV.kid j hj d hd).1) c (i + 1) (by omega)]
  have h1 := par_take_le T c (i + 1)
  have h2 := hV.par c (by omega)
  omega) (fun i hi => by
  obtain ⟨k1, k2, k3, k4, k5⟩ := hV.num i hi
  show (textF T i).size + 1 ≤ _
  rw [textF_eq, ByteArray.size_append]
  have h1 := bodyT_le (kidT T i) T i (((nd T i).t - (nd T i).f).toNat + 1) (nd T i).f (nd T i).kids ((⟨#[40]⟩ : ByteArray) ++ numS (nd T i).k) (by omega)
  have h2 : kidSum (kidT T i) (nd T i).kids = (((nd T i).kids.map Int.toNat).map fun i => (textF T i).size + 1).sum := by
   unfold kidSum
   rw [List.map_map]
   congr 1
   apply List.map_congr_left
   intro c hc
   have := hV.kid i hi c hc
   show (kidT T i c).size + 1 = _
   unfold kidT
   rw [if_pos (by omega)]
   rfl
  have h3 := numS_size (k := (nd T i).k) (by omega)
  have h4 : ((⟨#[40]⟩ : ByteArray) ++ numS (nd T i).k).size = 1 + (numS (nd T i).k).size := by rw [ByteArray.size_append]; rfl
  have h5 : (⟨#[41]⟩ : ByteArray).size = 1 := rfl
  omega) i hi
 have : (textF T i).size + 1 ≤ 1000 * (i + 1) := hw
 omega
end Go.Proofs.YtkgaaabecdbidaaDoor
