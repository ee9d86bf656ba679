/-
  Stage 8: ratio's Make at 0; what Make holds on its way.
-/
import Derived.Test.YtgoemhcngmpfbaaGreatDoorMx09
import Derived.Test.YtgoemhcngmpfbaaGreatDoorMx08
import Derived.Deep.RegionHeld3
namespace Go.Proofs.YtgoemhcngmpfbaaGreatDoor
open Go.RowKit Go.Sort
theorem make_boxes (w : World) (s : Bool) (n : Nat) (t : Bool) (m : Nat) (T U V : TypeId) : IntAt (((w.alloc (boxI s n T)).alloc (boxI t m U)).alloc (boxRZ V)) w.heap.size s n ∧ IntAt (((w.alloc (boxI s n T)).alloc (boxI t m U)).alloc (boxRZ V)) (w.heap.size + 1) t m ∧ RatAt (((w.alloc (boxI s n T)).alloc (boxI t m U)).alloc (boxRZ V)) (w.heap.size + 1 + 1) false 0 false 0 ∧ Below w.heap.size w (((w.alloc (boxI s n T)).alloc (boxI t m U)).alloc (boxRZ V)) ∧ (((w.alloc (boxI s n T)).alloc (boxI t m U)).alloc (boxRZ V)).heap.size = w.heap.size + 1 + 1 + 1 := by
 obtain ⟨h1, h2, h3, h4⟩ := two_ints w s n t m T U
 refine ⟨h1.alloc (by omega) _, h2.alloc (by omega) _, ?_, h3.alloc (by omega) _, by simp⟩
 have := RatAt.zero ((w.alloc (boxI s n T)).alloc (boxI t m U)) V
 rwa [h4] at this
theorem make_cells {W : World} {S R n m g : Nat} {s t x : Bool} (I1 : IntAt W S s n) (I2 : IntAt W (S + 1) t m) (I3 : IntAt W R x g) : W.cell? ⟨S, 0, none⟩ = some (.bool s) ∧ W.cell? ⟨S, 1, none⟩ = some (.int .u64 (wd n 0 : Int)) ∧ W.cell? ⟨S, 2, none⟩ = some (.int .u64 (wd n 1 : Int)) ∧ W.cell? ⟨S, 3, none⟩ = some (.int .u64 (wd n 2 : Int)) ∧ W.cell? ⟨S, 4, none⟩ = some (.int .u64 (wd n 3 : Int)) ∧ W.cell? ⟨S, 5, none⟩ = some (.int .u64 (wd n 4 : Int)) ∧ W.cell? ⟨S, 6, none⟩ = some (.int .u64 (wd n 5 : Int)) ∧ W.cell? ⟨S, 7, none⟩ = some (.int .u64 (wd n 6 : Int)) ∧ W.cell? ⟨S, 8, none⟩ = some (.int .u64 (wd n 7 : Int)) ∧ W.cell? ⟨S + 1, 0, none⟩ = some (.bool t) ∧ W.cell? ⟨S + 1, 1, none⟩ = some (.int .u64 (wd m 0 : Int)) ∧ W.cell? ⟨S + 1, 2, none⟩ = some (.int .u64 (wd m 1 : Int)) ∧ W.cell? ⟨S + 1, 3, none⟩ = some (.int .u64 (wd m 2 : Int)) ∧ W.cell? ⟨S + 1, 4, none⟩ = some (.int .u64 (wd m 3 : Int)) ∧ W.cell? ⟨S + 1, 5, none⟩ = some (.int .u64 (wd m 4 : Int)) ∧ W.cell? ⟨S + 1, 6, none⟩ = some (.int .u64 (wd m 5 : Int)) ∧ W.cell? ⟨S + 1, 7, none⟩ = some (.int .u64 (wd m 6 : Int)) ∧ W.cell? ⟨S + 1, 8, none⟩ = some (.int .u64 (wd m 7 : Int)) ∧ W.cell? ⟨R, 0, none⟩ = some (.bool x) ∧ W.cell? ⟨R, 1, none⟩ = some (.int .u64 (wd g 0 : Int)) ∧ W.cell? ⟨R, 2, none⟩ = some (.int .u64 (wd g 1 : Int)) ∧ W.cell? ⟨R, 3, none⟩ = some (.int .u64 (wd g 2 : Int)) ∧ W.cell? ⟨R, 4, none⟩ = some (.int .u64 (wd g 3 : Int)) ∧ W.cell? ⟨R, 5, none⟩ = some (.int .u64 (wd g 4 : Int)) ∧ W.cell? ⟨R, 6, none⟩ = some (.int .u64 (wd g 5 : Int)) ∧ W.cell? ⟨R, 7, none⟩ = some (.int .u64 (wd g 6 : Int)) ∧ W.cell? ⟨R, 8, none⟩ = some (.int .u64 (wd g 7 : Int)) := by
 obtain ⟨⟨a0, x0⟩, ⟨a1, x1⟩, ⟨a2, x2⟩, ⟨a3, x3⟩, ⟨a4, x4⟩, ⟨a5, x5⟩, ⟨a6, x6⟩, ⟨a7, x7⟩, ⟨a8, x8⟩⟩ := I1.nine
 obtain ⟨⟨b0, y0⟩, ⟨b1, y1⟩, ⟨b2, y2⟩, ⟨b3, y3⟩, ⟨b4, y4⟩, ⟨b5, y5⟩, ⟨b6, y6⟩, ⟨b7, y7⟩, ⟨b8, y8⟩⟩ := I2.nine
 obtain ⟨⟨c0, z0⟩, ⟨c1, z1⟩, ⟨c2, z2⟩, ⟨c3, z3⟩, ⟨c4, z4⟩, ⟨c5, z5⟩, ⟨c6, z6⟩, ⟨c7, z7⟩, ⟨c8, z8⟩⟩ := I3.nine
 exact ⟨a0, a1, a2, a3, a4, a5, a6, a7, a8, b0, b1, b2, b3, b4, b5, b6, b7, b8, c0, c1, c2, c3, c4, c5, c6, c7, c8⟩
structure MkInv (w W : World) (S R E : Nat) (s : Bool) (n : Nat) (t : Bool) (m : Nat) (x : Bool) (g : Nat) : Prop where
 i1 : IntAt W S s n
 i2 : IntAt W (S + 1) t m
 i3 : IntAt W R x g
 i4 : RatAt W (S + 1 + 1) false 0 false 0
 bl : Below S w W
 er : ErrAt W E 0
 sz : E + 1 ≤ W.heap.size
 r1 : S + 1 + 1 + 1 ≤ R
 r2 : R + 1 ≤ E
theorem MkInv.alloc {w W : World} {S R E n m g : Nat} {s t x : Bool} (h : MkInv w W S R E s n t m x g) (o : Obj) : MkInv w (W.alloc o) S R E s n t m x g :=
 have h1 := h.r1; have h2 := h.r2; have h3 := h.sz
 ⟨h.i1.alloc (by omega) o, h.i2.alloc (by omega) o, h.i3.alloc (by omega) o, h.i4.alloc (by omega) o, h.bl.alloc (by omega) o, h.er.below (below_alloc W o), by simp; omega, h1, h2⟩
theorem MkInv.drew {w W : World} {S R E n m g : Nat} {s t x : Bool} (h : MkInv w W S R E s n t m x g) : MkInv w W.drew S R E s n t m x g := ⟨h.i1.drew, h.i2.drew, h.i3.drew, h.i4.drew, h.bl.drew, h.er.drew, h.sz, h.r1, h.r2⟩
theorem MkInv.ste {w W V : World} {S R E n m g : Nat} {s t x : Bool} (h : MkInv w W S R E s n t m x g) (k : Ste W V E 0) : MkInv w V S R E s n t m x g :=
 have h1 := h.r1; have h2 := h.r2; have h3 := h.sz
 ⟨h.i1.ste k (by omega) (by omega), h.i2.ste k (by omega) (by omega), h.i3.ste k (by omega) (by omega), h.i4.ste k (by omega) (by omega), k.below S w (by omega) (by omega) h.bl, k.err, Nat.le_trans h3 k.size, h1, h2⟩
theorem MkInv.but {w W V : World} {S R E L n m g : Nat} {s t x : Bool} (h : MkInv w W S R E s n t m x g) (k : But1 W V L) (hL : E < L) : MkInv w V S R E s n t m x g :=
 have h1 := h.r1; have h2 := h.r2; have h3 := h.sz
 ⟨h.i1.but k (by omega), h.i2.but k (by omega), h.i3.but k (by omega), h.i4.but k (by omega), k.2.1 S w (by omega) h.bl, ⟨(k.1 ⟨E, 0, none⟩ (by show E ≠ L; omega)).1.trans h.er.cell, (k.1 ⟨E, 0, none⟩ (by show E ≠ L; omega)).2.trans h.er.free⟩, by rw [k.2.2]; exact h3, h1, h2⟩
theorem MkInv.cells {w W : World} {S R E n m g : Nat} {s t x : Bool} (h : MkInv w W S R E s n t m x g) : W.cell? ⟨S, 0, none⟩ = some (.bool s) ∧ W.cell? ⟨S, 1, none⟩ = some (.int .u64 (wd n 0 : Int)) ∧ W.cell? ⟨S, 2, none⟩ = some (.int .u64 (wd n 1 : Int)) ∧ W.cell? ⟨S, 3, none⟩ = some (.int .u64 (wd n 2 : Int)) ∧ W.cell? ⟨S, 4, none⟩ = some (.int .u64 (wd n 3 : Int)) ∧ W.cell? ⟨S, 5, none⟩ = some (.int .u64 (wd n 4 : Int)) ∧ W.cell? ⟨S, 6, none⟩ = some (.int .u64 (wd n 5 : Int)) ∧ W.cell? ⟨S, 7, none⟩ = some (.int .u64 (wd n 6 : Int)) ∧ W.cell? ⟨S, 8, none⟩ = some (.int .u64 (wd n 7 : Int)) ∧ W.cell? ⟨S + 1, 0, none⟩ = some (.bool t) ∧ W.cell? ⟨S + 1, 1, none⟩ = some (.int .u64 (wd m 0 : Int)) ∧ W.cell? ⟨S + 1, 2, none⟩ = some (.int .u64 (wd m 1 : Int)) ∧ W.cell? ⟨S + 1, 3, none⟩ = some (.int .u64 (wd m 2 : Int)) ∧ W.cell? ⟨S + 1, 4, none⟩ = some (.int .u64 (wd m 3 : Int)) ∧ W.cell? ⟨S + 1, 5, none⟩ = some (.int .u64 (wd m 4 : Int)) ∧ W.cell? ⟨S + 1, 6, none⟩ = some (.int .u64 (wd m 5 : Int)) ∧ W.cell? ⟨S + 1, 7, none⟩ = some (.int .u64 (wd m 6 : Int)) ∧ W.cell? ⟨S + 1, 8, none⟩ = some (.int .u64 (wd m 7 : Int)) ∧ W.cell? ⟨R, 0, none⟩ = some (.bool x) ∧ W.cell? ⟨R, 1, none⟩ = some (.int .u64 (wd g 0 : Int)) ∧ W.cell? ⟨R, 2, none⟩ = some (.int .u64 (wd g 1 : Int)) ∧ W.cell? ⟨R, 3, none⟩ = some (.int .u64 (wd g 2 : Int)) ∧ W.cell? ⟨R, 4, none⟩ = some (.int .u64 (wd g 3 : Int)) ∧ W.cell? ⟨R, 5, none⟩ = some (.int .u64 (wd g 4 : Int)) ∧ W.cell? ⟨R, 6, none⟩ = some (.int .u64 (wd g 5 : Int)) ∧ W.cell? ⟨R, 7, none⟩ = some (.int .u64 (wd g 6 : Int)) ∧ W.cell? ⟨R, 8, none⟩ = some (.int .u64 (wd g 7 : Int)) := make_cells h.i1 h.i2 h.i3
def MkOut (w W : World) (S R E : Nat) (s : Bool) (n : Nat) (t : Bool) (m : Nat) (x : Bool) (g : Nat) (z : Bool) (q p : Nat) (v : Value) : Prop := ∃ L, v = .pointer (some ⟨L, 0, none⟩) ∧ E < L ∧ RatAt W L z q false p ∧ MkInv w W S R E s n t m x g
def makeV (s : Bool) (n : Nat) (t : Bool) (m : Nat) : Value := if m = 0 then .tuple #[ratV false 0 false 0, errV 10] else .tuple #[ratV (sgn (s != t) (n / Nat.gcd n m)) (n / Nat.gcd n m) false (m / Nat.gcd n m), .nilIface]
set_option maxRecDepth 100000 in
set_option maxHeartbeats 4000000 in
theorem Make_zero0 (s : Bool) (n : Nat) (t : Bool) (w : World) :
  Calls Tryz.prog 9 #[intV s n, intV t 0] w fun e w' => e = .returned (.tuple #[.agg #[.bool false, .int .u64 0, .int .u64 0, .int .u64 0, .int .u64 0, .int .u64 0, .int .u64 0, .int .u64 0, .int .u64 0, .bool false, .int .u64 0, .int .u64 0, .int .u64 0, .int .u64 0, .int .u64 0, .int .u64 0, .int .u64 0, .int .u64 0], .iface 74 (.int .i64 10)]) ∧ Below w.heap.size w w' := by
 have HS := Lib.hid (fun W => sign_run t 0 0 W (Nat.pow_pos (by decide)) (Lib.hid rfl))
 obtain ⟨S, hS⟩ : ∃ S, w.heap.size = S := ⟨_, rfl⟩
 obtain ⟨W, hW⟩ : ∃ W, ((w.alloc (boxI s n 25)).alloc (boxI t 0 25)).alloc (boxRZ 27) = W := ⟨_, rfl⟩
 have T := make_boxes w s n t 0 25 25 27
 rw [hW, hS] at T
 have HT := Lib.hid T
 obtain ⟨⟨a0, x0⟩, ⟨a1, x1⟩, ⟨a2, x2⟩, ⟨a3, x3⟩, ⟨a4, x4⟩, ⟨a5, x5⟩, ⟨a6, x6⟩, ⟨a7, x7⟩, ⟨a8, x8⟩⟩ := T.2.1.nine
 rw [hS]
 clear T
 unfold intV at HS ⊢
 go_enter Tryz.func9, Tryz.ntmps9
 go_wp2_with fail
 refine (HS.out _).mono ?_
 rintro e w1 ⟨rfl, hw1⟩
 have hWs : W.heap.size = S + 1 + 1 + 1 := HT.out.2.2.2.2
 have I3 := HT.out.2.2.1.keep hw1 (by omega)
 have B1 : Hid (Below S w w1) := HT.out.2.2.2.1.trans (hw1.mono (by omega))
 have H3 := Lib.hid I3
 clear hw1 HT hW hWs I3 a0 a1 a2 a3 a4 a5 a6 a7 a8 x0 x1 x2 x3 x4 x5 x6 x7 x8
 go_wp2_with (refine wpList_store_rat rfl (.tmp 4) (.tmp 12) rfl (b := S + 1 + 1) (s := false) (n := 0) (t := false) (d := 0) rfl ratV_zero.symm H3.out ?_)
 refine bodyPost_ret (v := .tuple #[ratV false 0 false 0, .iface 74 (.int .i64 10)]) (results_rat rfl rfl rfl (st18_at H3.out)) rfl ⟨by rw [ratV_zero], ?_⟩
 exact (st18_but w1 (S + 1 + 1) false 0 false 0).2.1 S w (by omega) B1.out
theorem Make_zero (s : Bool) (n : Nat) (t : Bool) (w : World) :
  Calls Tryz.prog 9 #[intV s n, intV t 0] w fun e w' => e = .returned (makeV s n t 0) ∧ Below w.heap.size w w' :=
 (Make_zero0 s n t w).mono fun e w' ⟨he, hw⟩ => ⟨by rw [he, makeV, if_pos rfl, ratV_zero, errV_pos (show 10 ≠ 0 by decide)]; rfl, hw⟩
end Go.Proofs.YtgoemhcngmpfbaaGreatDoor
namespace Go.Proofs.YtgoemhcngmpfbaaGreatDoor
open Go.RowKit Go.Sort
def vld (s : Bool) (n : Nat) (t : Bool) (d : Nat) : Bool := (sgn s n == s) && (!t) && decide (0 < d) && (Nat.gcd n d == 1)
def chk (s : Bool) (n : Nat) (t : Bool) (d : Nat) : Nat := if vld s n t d then 0 else 8
set_option maxRecDepth 100000 in
set_option maxHeartbeats 8000000 in
theorem Check_run (s : Bool) (n : Nat) (t : Bool) (d : Nat) (w : World) (hn : Hid (Fits n)) (hd : Hid (Fits d)) :
  Calls Tryz.prog 18 #[ratV s n t d] w fun e w' => e = .returned (errV (chk s n t d)) ∧ Below w.heap.size w w' := by
 obtain ⟨S, hS⟩ : ∃ S, w.heap.size = S := ⟨_, rfl⟩
 obtain ⟨W, hW⟩ : ∃ W, w.alloc (boxR s n t d 27) = W := ⟨_, rfl⟩
 have T1 := RatAt.new w s n t d 27
 have T2 := below_alloc w (boxR s n t d 27)
 have T3 : (w.alloc (boxR s n t d 27)).heap.size = w.heap.size + 1 := by simp
 rw [hW] at T1 T2 T3
 rw [hS] at T1 T2 T3 ⊢
 have HC1 := Lib.hid (fun W => Canon_run s n W hn)
 have HC2 := Lib.hid (fun W => Canon_run t d W hd)
 obtain ⟨c, hc⟩ : ∃ c, sgZ t d = c := ⟨_, rfl⟩
 have HS := Lib.hid (fun W => sign_run t d c W hd hc)
 have HG := Lib.hid (fun W => Gcd_run s n t d W hn hd)
 have HO := Lib.hid (fun W => Of_run 1 W (by decide) (by decide))
 have hg : Fits (Nat.gcd n d) := by
  rcases Nat.eq_zero_or_pos n with h | h
  ·subst h; rw [Nat.gcd_zero_left]; exact hd.out
  ·exact Nat.lt_of_le_of_lt (Nat.gcd_le_left d h) hn.out
 have E1 := fun W => eqInt s n (sgn s n) n W hn.out hn.out
 have E2 := fun W => eqInt t d (sgn t d) d W hd.out hd.out
 obtain ⟨g, hgg⟩ : ∃ g, Nat.gcd n d = g := ⟨_, rfl⟩
 rw [hgg] at hg HG
 have E3 := fun W => neInt false g false 1 W hg (show Fits 1 from Nat.one_lt_pow (by decide) (by decide))
 have HR : Hid (chk s n t d = if decide (s = sgn s n ∧ n = n) = true ∧ decide (t = sgn t d ∧ d = d) = true ∧ 0 < c ∧ decide (false = false ∧ g = 1) = true then 0 else 8) := by
  show _ = _
  rw [← hc]
  unfold chk vld sgZ sgn
  rw [hgg]
  rcases Nat.eq_zero_or_pos d with h2 | h2
  ·subst h2; simp
  ·have h2' : d ≠ 0 := by omega
   by_cases h1 : n = 0 <;> by_cases h3 : g = 1 <;> cases s <;> cases t <;> simp [h1, h2, h2', h3]
 obtain ⟨s', hs'⟩ : ∃ s', sgn s n = s' := ⟨_, rfl⟩
 obtain ⟨t', ht'⟩ : ∃ t', sgn t d = t' := ⟨_, rfl⟩
 rw [hs'] at HC1 E1 HR
 rw [ht'] at HC2 E2 HR
 obtain ⟨c1, hc1⟩ : ∃ c, decide (s = s' ∧ n = n) = c := ⟨_, rfl⟩
 obtain ⟨c2, hc2⟩ : ∃ c, decide (t = t' ∧ d = d) = c := ⟨_, rfl⟩
 obtain ⟨c3, hc3⟩ : ∃ c, decide (false = false ∧ g = 1) = c := ⟨_, rfl⟩
 rw [hc1] at E1 HR
 rw [hc2] at E2 HR
 rw [hc3] at E3 HR
 have HK : Hid (∀ w1, Below W.drew.heap.size W.drew w1 → RatAt w1 S s n t d ∧ Below S w w1 ∧ S + 1 ≤ w1.heap.size) := fun w1 hw1 => by
  have hz : W.drew.heap.size = S + 1 := T3
  exact ⟨RatAt.keep (w := W.drew) T1.drew hw1 (by omega), T2.drew.trans (hw1.mono (by omega)), by have := hw1.size; omega⟩
 have hO : intV (decide ((1 : Int) < 0)) (1 : Int).natAbs = intV false 1 := rfl
 rw [hO] at HO
 have D0 := Lib.hid T1.drew.cells
 have HT1 := Lib.hid T1
 clear hO hc hc1 hc2 hc3 hs' ht' hgg hg T1 T2 T3 hn hd
 unfold intV at E1 E2 E3 HC1 HC2 HS HG HO
 unfold ratV
 cases c1 with
 | false =>
  have HV : Hid (chk s n t d = 8) := by show _ = _; rw [HR.out]; simp
  clear HR
  go_enter Tryz.func18, Tryz.ntmps18
  go_upto_region 1 with fail
  obtain ⟨⟨a0, x0⟩, ⟨a1, x1⟩, ⟨a2, x2⟩, ⟨a3, x3⟩, ⟨a4, x4⟩, ⟨a5, x5⟩, ⟨a6, x6⟩, ⟨a7, x7⟩, ⟨a8, x8⟩⟩ := HT1.out.num.nine0
  clear x0 x1 x2 x3 x4 x5 x6 x7 x8
  first | (go_region_with (go_at_call 51; ((with_reducible refine (HC1.out _).mono ?_); rintro e w2 ⟨rfl, hw2⟩); obtain ⟨L1, LB, lz⟩ := HK.out _ hw2; have HLB := Lib.hid LB; obtain ⟨⟨e0, f0⟩, ⟨e1, f1⟩, ⟨e2, f2⟩, ⟨e3, f3⟩, ⟨e4, f4⟩, ⟨e5, f5⟩, ⟨e6, f6⟩, ⟨e7, f7⟩, ⟨e8, f8⟩⟩ := L1.num.nine0; clear L1 LB lz hw2)) | fail
  all_goals go_wp2_with fail
  all_goals go_ret
  all_goals exact ⟨by rw [HV.out]; rfl, HLB.out⟩
 | true => cases c2 with
  | false =>
   have HV : Hid (chk s n t d = 8) := by show _ = _; rw [HR.out]; simp
   clear HR
   go_enter Tryz.func18, Tryz.ntmps18
   go_upto_region 1 with fail
   go_region_held3 (fun W' => W'.cell? ⟨S, 0, none⟩ = some (.bool s) ∧ W'.cell? ⟨S, 1, none⟩ = some (.int .u64 (wd n 0 : Int)) ∧ W'.cell? ⟨S, 2, none⟩ = some (.int .u64 (wd n 1 : Int)) ∧ W'.cell? ⟨S, 3, none⟩ = some (.int .u64 (wd n 2 : Int)) ∧ W'.cell? ⟨S, 4, none⟩ = some (.int .u64 (wd n 3 : Int)) ∧ W'.cell? ⟨S, 5, none⟩ = some (.int .u64 (wd n 4 : Int)) ∧ W'.cell? ⟨S, 6, none⟩ = some (.int .u64 (wd n 5 : Int)) ∧ W'.cell? ⟨S, 7, none⟩ = some (.int .u64 (wd n 6 : Int)) ∧ W'.cell? ⟨S, 8, none⟩ = some (.int .u64 (wd n 7 : Int)) ∧ W'.cell? ⟨S, 9, none⟩ = some (.bool t) ∧ W'.cell? ⟨S, 10, none⟩ = some (.int .u64 (wd d 0 : Int)) ∧ W'.cell? ⟨S, 11, none⟩ = some (.int .u64 (wd d 1 : Int)) ∧ W'.cell? ⟨S, 12, none⟩ = some (.int .u64 (wd d 2 : Int)) ∧ W'.cell? ⟨S, 13, none⟩ = some (.int .u64 (wd d 3 : Int)) ∧ W'.cell? ⟨S, 14, none⟩ = some (.int .u64 (wd d 4 : Int)) ∧ W'.cell? ⟨S, 15, none⟩ = some (.int .u64 (wd d 5 : Int)) ∧ W'.cell? ⟨S, 16, none⟩ = some (.int .u64 (wd d 6 : Int)) ∧ W'.cell? ⟨S, 17, none⟩ = some (.int .u64 (wd d 7 : Int))) (first | with_reducible exact D0.out | with_reducible exact D1.out | with_reducible exact D2.out)
    (first | (go_at_call 51; have HLX := HLB; clear HLX; ((with_reducible refine (HC2.out _).mono ?_); rintro e w3 ⟨rfl, hw3⟩); have M1 := HL1.out.keep hw3 (by omega); have D2 := Lib.hid M1.cells; have HM1 := Lib.hid M1; have HMB := Lib.hid (HLB.out.trans (hw3.mono (by omega))); have mz := Nat.le_trans lz hw3.size; clear M1 hw3) | (go_at_call 51; ((with_reducible refine (HC1.out _).mono ?_); rintro e w2 ⟨rfl, hw2⟩); obtain ⟨L1, LB, lz⟩ := HK.out _ hw2; have D1 := Lib.hid L1.cells; have HL1 := Lib.hid L1; have HLB := Lib.hid LB; clear L1 LB hw2))
   go_wp2_with fail
   go_ret
   exact ⟨by rw [HV.out]; rfl, HMB.out⟩
  | true =>
   go_enter Tryz.func18, Tryz.ntmps18
   go_upto_region 1 with fail
   go_region_held3 (fun W' => W'.cell? ⟨S, 0, none⟩ = some (.bool s) ∧ W'.cell? ⟨S, 1, none⟩ = some (.int .u64 (wd n 0 : Int)) ∧ W'.cell? ⟨S, 2, none⟩ = some (.int .u64 (wd n 1 : Int)) ∧ W'.cell? ⟨S, 3, none⟩ = some (.int .u64 (wd n 2 : Int)) ∧ W'.cell? ⟨S, 4, none⟩ = some (.int .u64 (wd n 3 : Int)) ∧ W'.cell? ⟨S, 5, none⟩ = some (.int .u64 (wd n 4 : Int)) ∧ W'.cell? ⟨S, 6, none⟩ = some (.int .u64 (wd n 5 : Int)) ∧ W'.cell? ⟨S, 7, none⟩ = some (.int .u64 (wd n 6 : Int)) ∧ W'.cell? ⟨S, 8, none⟩ = some (.int .u64 (wd n 7 : Int)) ∧ W'.cell? ⟨S, 9, none⟩ = some (.bool t) ∧ W'.cell? ⟨S, 10, none⟩ = some (.int .u64 (wd d 0 : Int)) ∧ W'.cell? ⟨S, 11, none⟩ = some (.int .u64 (wd d 1 : Int)) ∧ W'.cell? ⟨S, 12, none⟩ = some (.int .u64 (wd d 2 : Int)) ∧ W'.cell? ⟨S, 13, none⟩ = some (.int .u64 (wd d 3 : Int)) ∧ W'.cell? ⟨S, 14, none⟩ = some (.int .u64 (wd d 4 : Int)) ∧ W'.cell? ⟨S, 15, none⟩ = some (.int .u64 (wd d 5 : Int)) ∧ W'.cell? ⟨S, 16, none⟩ = some (.int .u64 (wd d 6 : Int)) ∧ W'.cell? ⟨S, 17, none⟩ = some (.int .u64 (wd d 7 : Int))) (first | with_reducible exact D0.out | with_reducible exact D1.out | with_reducible exact D2.out)
    (first | (go_at_call 51; have HLX := HLB; clear HLX; ((with_reducible refine (HC2.out _).mono ?_); rintro e w3 ⟨rfl, hw3⟩); have M1 := HL1.out.keep hw3 (by omega); have D2 := Lib.hid M1.cells; have HM1 := Lib.hid M1; have HMB := Lib.hid (HLB.out.trans (hw3.mono (by omega))); have mz := Nat.le_trans lz hw3.size; clear M1 hw3) | (go_at_call 51; ((with_reducible refine (HC1.out _).mono ?_); rintro e w2 ⟨rfl, hw2⟩); obtain ⟨L1, LB, lz⟩ := HK.out _ hw2; have D1 := Lib.hid L1.cells; have HL1 := Lib.hid L1; have HLB := Lib.hid LB; clear L1 LB hw2))
   obtain ⟨⟨a0, x0⟩, ⟨a1, x1⟩, ⟨a2, x2⟩, ⟨a3, x3⟩, ⟨a4, x4⟩, ⟨a5, x5⟩, ⟨a6, x6⟩, ⟨a7, x7⟩, ⟨a8, x8⟩⟩ := HM1.out.num.nine0
   obtain ⟨⟨p0, y0⟩, ⟨p1, y1⟩, ⟨p2, y2⟩, ⟨p3, y3⟩, ⟨p4, y4⟩, ⟨p5, y5⟩, ⟨p6, y6⟩, ⟨p7, y7⟩, ⟨p8, y8⟩⟩ := HM1.out.den.nine9
   clear x0 x1 x2 x3 x4 x5 x6 x7 x8 y0 y1 y2 y3 y4 y5 y6 y7 y8 D0 D1 D2 HK HL1 HLB
   by_cases hc0 : c ≤ 0
   ·have HV : Hid (chk s n t d = 8) := by show _ = _; rw [HR.out]; simp; intro h; omega
    clear HR
    go_wp2_with fail
    refine (HS.out _).mono ?_
    rintro e w4 ⟨rfl, hw4⟩
    have B4 := Lib.hid (HMB.out.trans (hw4.mono (by omega)))
    clear hw4
    go_wp2_with fail
    go_ret
    exact ⟨by rw [HV.out]; rfl, B4.out⟩
   ·go_wp2_with fail
    refine (HS.out _).mono ?_
    rintro e w4 ⟨rfl, hw4⟩
    have M4 := HM1.out.keep hw4 (by omega)
    have B4 := Lib.hid (HMB.out.trans (hw4.mono (by omega)))
    have z4 := Nat.le_trans mz hw4.size
    clear hw4 mz a0 a1 a2 a3 a4 a5 a6 a7 a8 p0 p1 p2 p3 p4 p5 p6 p7 p8 HM1 HMB
    obtain ⟨⟨a0, x0⟩, ⟨a1, x1⟩, ⟨a2, x2⟩, ⟨a3, x3⟩, ⟨a4, x4⟩, ⟨a5, x5⟩, ⟨a6, x6⟩, ⟨a7, x7⟩, ⟨a8, x8⟩⟩ := M4.num.nine0
    obtain ⟨⟨p0, y0⟩, ⟨p1, y1⟩, ⟨p2, y2⟩, ⟨p3, y3⟩, ⟨p4, y4⟩, ⟨p5, y5⟩, ⟨p6, y6⟩, ⟨p7, y7⟩, ⟨p8, y8⟩⟩ := M4.den.nine9
    clear x0 x1 x2 x3 x4 x5 x6 x7 x8 y0 y1 y2 y3 y4 y5 y6 y7 y8 M4
    go_wp2_with fail
    refine (HG.out _).mono ?_
    rintro e w5 ⟨rfl, hw5⟩
    have B5 := Lib.hid (B4.out.trans (hw5.mono (by omega)))
    have z5 := Nat.le_trans z4 hw5.size
    clear hw5 a0 a1 a2 a3 a4 a5 a6 a7 a8 p0 p1 p2 p3 p4 p5 p6 p7 p8 B4
    go_wp2_with fail
    refine (HO.out _).mono ?_
    rintro e w6 ⟨rfl, hw6⟩
    have B6 := Lib.hid (B5.out.trans (hw6.mono (by omega)))
    clear hw6 B5
    cases c3 with
    | true =>
     have HV : Hid (chk s n t d = 0) := by show _ = _; rw [HR.out]; simp; omega
     clear HR
     go_wp2_with fail
     go_ret
     exact ⟨by rw [HV.out]; rfl, B6.out⟩
    | false =>
     have HV : Hid (chk s n t d = 8) := by show _ = _; rw [HR.out]; simp
     clear HR
     go_wp2_with fail
     go_ret
     exact ⟨by rw [HV.out]; rfl, B6.out⟩
end Go.Proofs.YtgoemhcngmpfbaaGreatDoor
namespace Go.Proofs.YtgoemhcngmpfbaaGreatDoor
open Go.RowKit Go.Sort
set_option linter.unusedSimpArgs false
structure PairAt (w : World) (b k : Nat) (s : Bool) (n : Nat) (t : Bool) (d : Nat) (s' : Bool) (n' : Nat) (t' : Bool) (d' : Nat) : Prop where
 err : ErrAt w b k
 an : IntO w b 1 s n
 ad : IntO w b 10 t d
 bn : IntO w b 19 s' n'
 bd : IntO w b 28 t' d'
abbrev boxP (s : Bool) (n : Nat) (t : Bool) (d : Nat) (s' : Bool) (n' : Nat) (t' : Bool) (d' : Nat) (T : TypeId) : Obj := .cells #[.nilIface, .bool s, .int .u64 (wd n 0 : Int), .int .u64 (wd n 1 : Int), .int .u64 (wd n 2 : Int), .int .u64 (wd n 3 : Int), .int .u64 (wd n 4 : Int), .int .u64 (wd n 5 : Int), .int .u64 (wd n 6 : Int), .int .u64 (wd n 7 : Int), .bool t, .int .u64 (wd d 0 : Int), .int .u64 (wd d 1 : Int), .int .u64 (wd d 2 : Int), .int .u64 (wd d 3 : Int), .int .u64 (wd d 4 : Int), .int .u64 (wd d 5 : Int), .int .u64 (wd d 6 : Int), .int .u64 (wd d 7 : Int), .bool s', .int .u64 (wd n' 0 : Int), .int .u64 (wd n' 1 : Int), .int .u64 (wd n' 2 : Int), .int .u64 (wd n' 3 : Int), .int .u64 (wd n' 4 : Int), .int .u64 (wd n' 5 : Int), .int .u64 (wd n' 6 : Int), .int .u64 (wd n' 7 : Int), .bool t', .int .u64 (wd d' 0 : Int), .int .u64 (wd d' 1 : Int), .int .u64 (wd d' 2 : Int), .int .u64 (wd d' 3 : Int), .int .u64 (wd d' 4 : Int), .int .u64 (wd d' 5 : Int), .int .u64 (wd d' 6 : Int), .int .u64 (wd d' 7 : Int)] T
theorem PairAt.new (w : World) (s : Bool) (n : Nat) (t : Bool) (d : Nat) (s' : Bool) (n' : Nat) (t' : Bool) (d' : Nat) (T : TypeId) : PairAt (w.alloc (boxP s n t d s' n' t' d' T)) w.heap.size 0 s n t d s' n' t' d' := by
 refine ⟨⟨World.cell?_alloc_at _ _ _ _ rfl, World.frozen?_alloc_at _ _ _ _ rfl⟩, ⟨World.cell?_alloc_at _ _ _ _ rfl, World.frozen?_alloc_at _ _ _ _ rfl, fun i hi => ?_⟩, ⟨World.cell?_alloc_at _ _ _ _ rfl, World.frozen?_alloc_at _ _ _ _ rfl, fun i hi => ?_⟩, ⟨World.cell?_alloc_at _ _ _ _ rfl, World.frozen?_alloc_at _ _ _ _ rfl, fun i hi => ?_⟩, ⟨World.cell?_alloc_at _ _ _ _ rfl, World.frozen?_alloc_at _ _ _ _ rfl, fun i hi => ?_⟩⟩
 all_goals
  rcases i with _ | _ | _ | _ | _ | _ | _ | _ | i
  all_goals first | exact ⟨World.cell?_alloc_at _ _ _ _ rfl, World.frozen?_alloc_at _ _ _ _ rfl⟩ | omega
theorem PairAt.keep {w w' : World} {b k n d n' d' B : Nat} {s t s' t' : Bool} (h : PairAt w b k s n t d s' n' t' d') (hb : Below B w w') (hB : b < B) : PairAt w' b k s n t d s' n' t' d' :=
 ⟨⟨(hb.cell (p := ⟨b, 0, none⟩) hB).trans h.err.cell, (hb.frozen (p := ⟨b, 0, none⟩) hB).trans h.err.free⟩, h.an.keep hb hB, h.ad.keep hb hB, h.bn.keep hb hB, h.bd.keep hb hB⟩
theorem PairAt.ste {w w' : World} {b k j n d n' d' : Nat} {s t s' t' : Bool} (h : PairAt w b k s n t d s' n' t' d') (g : Ste w w' b j) : PairAt w' b j s n t d s' n' t' d' :=
 have hl := h.err.lt
 ⟨g.err, h.an.ste g hl (.inr (by omega)), h.ad.ste g hl (.inr (by omega)), h.bn.ste g hl (.inr (by omega)), h.bd.ste g hl (.inr (by omega))⟩
theorem PairAt.drew {w : World} {b k n d n' d' : Nat} {s t s' t' : Bool} (h : PairAt w b k s n t d s' n' t' d') : PairAt w.drew b k s n t d s' n' t' d' := ⟨h.err.drew, h.an.drew, h.ad.drew, h.bn.drew, h.bd.drew⟩
def pairV (s : Bool) (n : Nat) (t : Bool) (d : Nat) (s' : Bool) (n' : Nat) (t' : Bool) (d' : Nat) : Value := .agg #[.nilIface, .bool s, .int .u64 (wd n 0 : Int), .int .u64 (wd n 1 : Int), .int .u64 (wd n 2 : Int), .int .u64 (wd n 3 : Int), .int .u64 (wd n 4 : Int), .int .u64 (wd n 5 : Int), .int .u64 (wd n 6 : Int), .int .u64 (wd n 7 : Int), .bool t, .int .u64 (wd d 0 : Int), .int .u64 (wd d 1 : Int), .int .u64 (wd d 2 : Int), .int .u64 (wd d 3 : Int), .int .u64 (wd d 4 : Int), .int .u64 (wd d 5 : Int), .int .u64 (wd d 6 : Int), .int .u64 (wd d 7 : Int), .bool s', .int .u64 (wd n' 0 : Int), .int .u64 (wd n' 1 : Int), .int .u64 (wd n' 2 : Int), .int .u64 (wd n' 3 : Int), .int .u64 (wd n' 4 : Int), .int .u64 (wd n' 5 : Int), .int .u64 (wd n' 6 : Int), .int .u64 (wd n' 7 : Int), .bool t', .int .u64 (wd d' 0 : Int), .int .u64 (wd d' 1 : Int), .int .u64 (wd d' 2 : Int), .int .u64 (wd d' 3 : Int), .int .u64 (wd d' 4 : Int), .int .u64 (wd d' 5 : Int), .int .u64 (wd d' 6 : Int), .int .u64 (wd d' 7 : Int)]
set_option maxRecDepth 100000 in
set_option maxHeartbeats 4000000 in
theorem build_pair (w : World) (s : Bool) (n : Nat) (t : Bool) (d : Nat) (s' : Bool) (n' : Nat) (t' : Bool) (d' : Nat) :
  (Instr.build 137 #[(1, ratV s n t d), (2, ratV s' n' t' d')]).run Tryz.prog w = .ok (pairV s n t d s' n' t' d') w := by
 unfold ratV pairV
 go_simp
theorem wpList_build_pair {ops : Array Oper} {rest : List Oper} {op : Oper} {a : Act} {w : World} {Q : Exit → Act → World → Prop} (hgd : op.guard = none) (x y : Operand) (ho : op.op = .build 137 #[(1, x), (2, y)])
  {n d n' d' : Nat} {s t s' t' : Bool} (hx : a.eval x = ratV s n t d) (hy : a.eval y = ratV s' n' t' d')
  (hK : wpList Tryz.prog ops Q rest (a.put op.dst (pairV s n t d s' n' t' d')) w) : wpList Tryz.prog ops Q (op :: rest) a w := by
 refine wpList_plain hgd fun K hK' => ?_
 unfold Oper.wp execOp
 simp only [ho, List.map_toArray, List.map_cons, List.map_nil, hx, hy, build_pair, Sem.run_bind, Sem.run_pure, Result.andThen_ok]
 exact hK' _ _ hK
theorem wpList_box_pair {ops : Array Oper} {rest : List Oper} {op : Oper} {a : Act} {w : World} {Q : Exit → Act → World → Prop} (hgd : op.guard = none) (x : Operand) (ho : op.op = .box 137 x)
  {n d n' d' : Nat} {s t s' t' : Bool} (hx : a.eval x = pairV s n t d s' n' t' d')
  (hK : wpList Tryz.prog ops Q rest (a.put op.dst (.pointer (some ⟨w.heap.size, 0, none⟩))) (w.alloc (boxP s n t d s' n' t' d' 137))) : wpList Tryz.prog ops Q (op :: rest) a w := by
 refine wpList_plain hgd fun K hK' => ?_
 have hrun : (Instr.box 137 (pairV s n t d s' n' t' d')).run Tryz.prog w = .ok (.pointer (some ⟨w.heap.size, 0, none⟩)) (w.alloc (boxP s n t d s' n' t' d' 137)) := by
  unfold pairV
  go_simp
 unfold Oper.wp execOp
 simp only [ho, hx, Sem.run_bind, Sem.run_pure, Result.andThen_ok, hrun]
 exact hK' _ _ hK
def BegOut (w : World) (k : Nat) (s : Bool) (n : Nat) (t : Bool) (d : Nat) (s' : Bool) (n' : Nat) (t' : Bool) (d' : Nat) (e : Ending) (w' : World) : Prop :=
 ∃ B, e = .returned (.pointer (some ⟨B, 0, none⟩)) ∧ w.heap.size ≤ B ∧ PairAt w' B k s n t d s' n' t' d' ∧ Below w.heap.size w w'
theorem enters_Check : EntersP Tryz.prog 18 := entersP_of Tryz.func18 (by kernel_rfl) rfl
theorem enters_keep : EntersP Tryz.prog 79 := entersP_of Tryz.func79 (by kernel_rfl) rfl
theorem enters_do : EntersP Tryz.prog 39 := entersP_of Tryz.func39 (by kernel_rfl) rfl
theorem chk_le (s : Bool) (n : Nat) (t : Bool) (d : Nat) : chk s n t d = 0 ∨ chk s n t d = 8 := by unfold chk; split <;> simp
structure BegInv (w W : World) (S B k : Nat) (s : Bool) (n : Nat) (t : Bool) (d : Nat) (s' : Bool) (n' : Nat) (t' : Bool) (d' : Nat) : Prop where
 ra : RatAt W S s n t d
 rb : RatAt W (S + 1) s' n' t' d'
 pr : PairAt W B k s n t d s' n' t' d'
 bl : Below S w W
 sz : B < W.heap.size
 hB : B = S + 1 + 1
theorem BegInv.below {w W V : World} {S B k n d n' d' : Nat} {s t s' t' : Bool} (h : BegInv w W S B k s n t d s' n' t' d') (g : Below W.heap.size W V) : BegInv w V S B k s n t d s' n' t' d' :=
 have h1 := h.sz; have h2 := h.hB
 ⟨h.ra.keep g (by omega), h.rb.keep g (by omega), h.pr.keep g h1, h.bl.trans (g.mono (by omega)), Nat.lt_of_lt_of_le h1 g.size, h2⟩
theorem BegInv.ste {w W V : World} {S B k j n d n' d' : Nat} {s t s' t' : Bool} (h : BegInv w W S B k s n t d s' n' t' d') (g : Ste W V B j) : BegInv w V S B j s n t d s' n' t' d' :=
 have h1 := h.sz; have h2 := h.hB
 ⟨h.ra.ste g (by omega) (by omega), h.rb.ste g (by omega) (by omega), h.pr.ste g, g.below S w (by omega) (by omega) h.bl, Nat.lt_of_lt_of_le h1 g.size, h2⟩
theorem BegInv.drew {w W : World} {S B k n d n' d' : Nat} {s t s' t' : Bool} (h : BegInv w W S B k s n t d s' n' t' d') : BegInv w W.drew S B k s n t d s' n' t' d' := ⟨h.ra.drew, h.rb.drew, h.pr.drew, h.bl.drew, h.sz, h.hB⟩
set_option maxRecDepth 100000 in
set_option maxHeartbeats 4000000 in
theorem begin_run (s : Bool) (n : Nat) (t : Bool) (d : Nat) (s' : Bool) (n' : Nat) (t' : Bool) (d' : Nat) (w : World) (hn : Hid (Fits n)) (hd : Hid (Fits d)) (hn' : Hid (Fits n')) (hd' : Hid (Fits d')) :
  Calls Tryz.prog 89 #[ratV s n t d, ratV s' n' t' d'] w (BegOut w (kept (chk s n t d) (chk s' n' t' d')) s n t d s' n' t' d') := by
 obtain ⟨S, hS⟩ : ∃ S, w.heap.size = S := ⟨_, rfl⟩
 obtain ⟨W, hW⟩ : ∃ W, ((w.alloc (boxR s n t d 27)).alloc (boxR s' n' t' d' 27)) = W := ⟨_, rfl⟩
 have T1 := (RatAt.new w s n t d 27).alloc (by simp) (boxR s' n' t' d' 27)
 have T2 := RatAt.new (w.alloc (boxR s n t d 27)) s' n' t' d' 27
 have TB := (below_alloc w (boxR s n t d 27)).alloc (by simp) (boxR s' n' t' d' 27)
 have Tz : (w.alloc (boxR s n t d 27)).heap.size = w.heap.size + 1 := by simp
 have Ts : ((w.alloc (boxR s n t d 27)).alloc (boxR s' n' t' d' 27)).heap.size = w.heap.size + 1 + 1 := by simp
 rw [Tz] at T2
 rw [hW] at T1 T2 TB Ts
 rw [hS] at T1 T2 TB Ts
 have TP := PairAt.new W s n t d s' n' t' d' 137
 have HC1 := Lib.hid (fun W => Check_run s n t d W hn hd)
 have HC2 := Lib.hid (fun W => Check_run s' n' t' d' W hn' hd')
 have HO : Hid (∀ e w', BegOut w (kept (chk s n t d) (chk s' n' t' d')) s n t d s' n' t' d' e w' ↔ ∃ B, e = .returned (.pointer (some ⟨B, 0, none⟩)) ∧ S ≤ B ∧ PairAt w' B (kept (chk s n t d) (chk s' n' t' d')) s n t d s' n' t' d' ∧ Below S w w') := fun e w' => by rw [← hS]; exact Iff.rfl
 generalize chk s n t d = k1 at *
 generalize chk s' n' t' d' = k2 at *
 have hKK : kept 0 k1 = k1 := rfl
 have HK1 := Lib.hid (fun W h => Lib.hid (keep_run (S + 1 + 1) 0 k1 W h))
 rw [hKK] at HK1
 have HK2 := Lib.hid (fun W h => Lib.hid (keep_run (S + 1 + 1) k1 k2 W h))
 have TI : BegInv w (W.alloc (boxP s n t d s' n' t' d' 137)) S (S + 1 + 1) 0 s n t d s' n' t' d' :=
  ⟨T1.alloc (by omega) _, T2.alloc (by omega) _, by rw [Ts] at TP; exact TP, TB.alloc (by omega) _, by simp [Ts], rfl⟩
 have HI := Lib.hid TI
 have HT1 := Lib.hid T1
 have HT2 := Lib.hid T2
 clear T1 T2 TB Tz TP TI hKK hn hd hn' hd'
 go_enter Tryz.func89, Tryz.ntmps89
 go_wp2_with (first | (refine wpList_box_rat rfl (.tmp 0) rfl rfl ?_) | (refine wpList_box_rat rfl (.tmp 1) rfl rfl ?_) | (refine wpList_load_rat rfl (.tmp 2) rfl rfl HT1.out ?_) | (refine wpList_load_rat rfl (.tmp 3) rfl rfl HT2.out ?_) | (refine wpList_build_pair rfl (.tmp 6) (.tmp 7) rfl rfl rfl ?_) | (refine wpList_box_pair rfl (.tmp 8) rfl rfl ?_))
 clear HT1 HT2
 refine rg_begin (fun W' => ∃ j, BegInv w W' S (S + 1 + 1) j s n t d s' n' t' d') (by kernel_rfl) ⟨_, HI.out.drew⟩ (fun hS => ?_)
 refine rg_take 0 (.pointer (some ⟨S + 1 + 1, 0, none⟩)) rfl (by kernel_rfl) (by kernel_rfl) (by kernel_rfl) (fun _ _ _ h => h) rfl (fun w _ => ?_) hS ?_
 ·go_simp
 simp only [zA, zB, zC, Act.put, zD, zE, zF]
 refine rg_take 1 (.pointer (some ⟨S + 1 + 1, 0, none⟩)) rfl (by kernel_rfl) (by kernel_rfl) (by kernel_rfl) (fun _ _ _ h => h) rfl (fun w _ => ?_) hS ?_
 ·go_simp
 simp only [zA, zB, zC, Act.put, zD, zE, zF]
 refine rg_take 2 (.pointer (some ⟨S + 1 + 1, 0, none⟩)) rfl (by kernel_rfl) (by kernel_rfl) (by kernel_rfl) (fun _ _ _ h => h) rfl (fun w _ => ?_) hS ?_
 ·go_simp
 simp only [zA, zB, zC, Act.put, zD, zE, zF]
 refine rg_take 3 (ratV s n t d) rfl (by kernel_rfl) (by kernel_rfl) (by kernel_rfl) (fun _ _ _ h => h) rfl (fun w hSw => by obtain ⟨j, h⟩ := hSw; exact ld_rat (.tmp 2) rfl rfl h.ra) hS ?_
 simp only [zA, zB, zC, Act.put, zD, zE, zF]
 refine rg_one 4 (by kernel_rfl) (rs_of rfl rfl (wp_call rfl enters_Check rfl (HC1.out _) (fun w1 hw1 => ⟨⟨_, HI.out.drew.below hw1⟩, ?_⟩)))
 have hJ := HI.out.drew.below hw1
 clear hS hw1
 simp only [zA, zB, zC, Act.put, zD, zE, zF]
 refine rg_one 5 (by kernel_rfl) (rs_of rfl rfl (wp_call rfl enters_keep rfl (HK1.out _ (Lib.hid hJ.pr.err)).out (fun w2 hw2 => ⟨⟨_, hJ.ste hw2⟩, ?_⟩)))
 have HI1 := Lib.hid (hJ.ste hw2)
 clear hJ hw2 HI
 refine wpAnyH_done (by kernel_rfl) ?_ _
 simp only [zA, zB, zC, Act.put, zD, zE, zF]
 go_wp2_with fail
 refine rg_begin (fun W' => ∃ j, BegInv w W' S (S + 1 + 1) j s n t d s' n' t' d') (by kernel_rfl) ⟨_, HI1.out.drew⟩ (fun hS => ?_)
 refine rg_take 0 (.pointer (some ⟨S + 1 + 1, 0, none⟩)) rfl (by kernel_rfl) (by kernel_rfl) (by kernel_rfl) (fun _ _ _ h => h) rfl (fun w _ => ?_) hS ?_
 ·go_simp
 simp only [zA, zB, zC, Act.put, zD, zE, zF]
 refine rg_take 1 (.pointer (some ⟨S + 1 + 1, 0, none⟩)) rfl (by kernel_rfl) (by kernel_rfl) (by kernel_rfl) (fun _ _ _ h => h) rfl (fun w _ => ?_) hS ?_
 ·go_simp
 simp only [zA, zB, zC, Act.put, zD, zE, zF]
 refine rg_take 2 (.pointer (some ⟨S + 1 + 1, 0, none⟩)) rfl (by kernel_rfl) (by kernel_rfl) (by kernel_rfl) (fun _ _ _ h => h) rfl (fun w _ => ?_) hS ?_
 ·go_simp
 simp only [zA, zB, zC, Act.put, zD, zE, zF]
 refine rg_take 3 (ratV s' n' t' d') rfl (by kernel_rfl) (by kernel_rfl) (by kernel_rfl) (fun _ _ _ h => h) rfl (fun w hSw => by obtain ⟨j, h⟩ := hSw; exact ld_rat (.tmp 3) rfl rfl h.rb) hS ?_
 simp only [zA, zB, zC, Act.put, zD, zE, zF]
 refine rg_one 4 (by kernel_rfl) (rs_of rfl rfl (wp_call rfl enters_Check rfl (HC2.out _) (fun w3 hw3 => ⟨⟨_, HI1.out.drew.below hw3⟩, ?_⟩)))
 have hJ := HI1.out.drew.below hw3
 clear hS hw3
 simp only [zA, zB, zC, Act.put, zD, zE, zF]
 refine rg_one 5 (by kernel_rfl) (rs_of rfl rfl (wp_call rfl enters_keep rfl (HK2.out _ (Lib.hid hJ.pr.err)).out (fun w4 hw4 => ⟨⟨_, hJ.ste hw4⟩, ?_⟩)))
 have HI2 := Lib.hid (hJ.ste hw4)
 clear hJ hw4 HI1
 refine wpAnyH_done (by kernel_rfl) ?_ _
 simp only [zA, zB, zC, Act.put, zD, zE, zF]
 go_wp2_with fail
 go_ret
 have h2 := HI2.out
 exact (HO.out _ _).2 ⟨S + 1 + 1, rfl, by omega, h2.pr, h2.bl⟩
end Go.Proofs.YtgoemhcngmpfbaaGreatDoor
