/-
  Stage 8: ratio's sign and quotient; its steps: an error in a cell; 'failed', 'keep'.
-/
import Derived.Test.YtgoemhcngmpfbaaGreatDoorMx07
import Derived.Laws.EntriesVeiled
import Derived.Test.YtgoemhcngmpfbaaGreatDoorRows
import Derived.ProofKit
import Derived.LaidMore
import Derived.OpenShut
import Derived.Stop.Joined
import Derived.ChangeOld
import Derived.Lib.LaidTab
import Derived.Deep.Slices
import Derived.Test.YtgoemhcngmpfbaaGreatDoorMx00
import Derived.Deep.RegionHeld3
namespace Go.Proofs.YtgoemhcngmpfbaaGreatDoor
open Go.RowKit Go.Sort
def errV (k : Nat) : Value := if k = 0 then .nilIface else errno k
theorem errV_pos {k : Nat} (h : k ≠ 0) : errV k = .iface 74 (.int .i64 k) := if_neg h
def sgZ (s : Bool) (n : Nat) : Int := if n = 0 then 0 else if s then -1 else 1
theorem sgZ_eq (s : Bool) (n : Nat) : cmpS s n false 0 = sgZ s n := by
 unfold cmpS sgZ
 have h0 : sgn false 0 = false := rfl
 rw [h0]
 by_cases hn : n = 0
 ·subst hn
  rw [if_pos rfl]
  cases s <;> rfl
 ·rw [if_neg hn]
  have h1 : sgn s n = s := by rw [sgn, decide_eq_false hn]; simp
  rw [h1]
  cases s with
  | false => simp; exact cmpN_gt (by omega)
  | true => simp
set_option maxRecDepth 100000 in
set_option maxHeartbeats 2000000 in
theorem sign_run (s : Bool) (n : Nat) (c : Int) (w : World) (hn : Hid (Fits n)) (hc : Hid (sgZ s n = c)) :
  Calls Tryz.prog 37 #[intV s n] w fun e w' => e = .returned (.int .i64 c) ∧ Below w.heap.size w w' := by
 have HC := Lib.hid (fun W => Cmp_run s n false 0 c W hn (Nat.pow_pos (by decide)) (Lib.hid ((sgZ_eq s n).trans hc.out)))
 have HB := Lib.hid (below_alloc w (boxI s n 25))
 have h0 : intV false 0 = .agg #[.bool false, .int .u64 0, .int .u64 0, .int .u64 0, .int .u64 0, .int .u64 0, .int .u64 0, .int .u64 0, .int .u64 0] := intV_small (by decide) false
 rw [h0] at HC
 clear h0 hn hc
 unfold intV at HC ⊢
 go_enter Tryz.func37, Tryz.ntmps37
 go_wp2_with fail
 refine (HC.out _).mono ?_
 rintro e w1 ⟨rfl, hw1⟩
 have B1 : Hid (Below w.heap.size w w1) := HB.out.trans (hw1.mono (by simp))
 clear hw1
 go_wp2_with fail
 go_ret
 exact ⟨rfl, B1.out⟩
structure ErrAt (w : World) (b k : Nat) : Prop where
 cell : w.cell? ⟨b, 0, none⟩ = some (errV k)
 free : w.frozen? ⟨b, 0, none⟩ = false
set_option maxHeartbeats 2000000 in
theorem failed_zero (b : Nat) (w : World) (h : Hid (ErrAt w b 0)) :
  Calls Tryz.prog 78 #[.pointer (some ⟨b, 0, none⟩)] w fun e w' => e = .returned (.bool false) ∧ w = w' := by
 have h1 : w.cell? ⟨b, 0, none⟩ = some .nilIface := h.out.cell
 go_enter Tryz.func78, Tryz.ntmps78
 go_wp2_with fail
 go_ret
 exact ⟨rfl, rfl⟩
set_option maxHeartbeats 2000000 in
theorem failed_pos (b k : Nat) (hk : k ≠ 0) (w : World) (h : Hid (ErrAt w b k)) :
  Calls Tryz.prog 78 #[.pointer (some ⟨b, 0, none⟩)] w fun e w' => e = .returned (.bool true) ∧ w = w' := by
 have h1 : w.cell? ⟨b, 0, none⟩ = some (.iface 74 (.int .i64 k)) := h.out.cell.trans (by rw [errV_pos hk])
 go_enter Tryz.func78, Tryz.ntmps78
 go_wp2_with fail
 go_ret
 exact ⟨rfl, rfl⟩
structure Ste (w w' : World) (b k : Nat) : Prop where
 cell : ∀ c o, c < w.heap.size → ¬ (c = b ∧ o = 0) → w'.cell? ⟨c, o, none⟩ = w.cell? ⟨c, o, none⟩
 free : ∀ c o, c < w.heap.size → w'.frozen? ⟨c, o, none⟩ = w.frozen? ⟨c, o, none⟩
 err : ErrAt w' b k
 size : w.heap.size ≤ w'.heap.size
 below : ∀ B w0, B ≤ b → B ≤ w.heap.size → Below B w0 w → Below B w0 w'
theorem ErrAt.lt {w : World} {b k : Nat} (h : ErrAt w b k) : b < w.heap.size := by
 rcases Nat.lt_or_ge b w.heap.size with h1 | h1
 ·exact h1
 ·have := h.cell
  simp [World.cell?, Array.getElem?_eq_none h1] at this
theorem ErrAt.drew {w : World} {b k : Nat} (h : ErrAt w b k) : ErrAt w.drew b k := ⟨h.cell, h.free⟩
theorem ErrAt.below {w w' : World} {b k : Nat} (h : ErrAt w b k) (hb : Below w.heap.size w w') : ErrAt w' b k :=
 ⟨(hb.cell (p := ⟨b, 0, none⟩) h.lt).trans h.cell, (hb.frozen (p := ⟨b, 0, none⟩) h.lt).trans h.free⟩
theorem Ste.of_below {w w' : World} {b k : Nat} (h : ErrAt w b k) (hb : Below w.heap.size w w') : Ste w w' b k :=
 ⟨fun c o hc _ => hb.cell (p := ⟨c, o, none⟩) hc, fun c o hc => hb.frozen (p := ⟨c, o, none⟩) hc, h.below hb, hb.size, fun _ _ _ hB h0 => h0.trans (hb.mono hB)⟩
theorem Ste.refl {w : World} {b k : Nat} (h : ErrAt w b k) : Ste w w b k := Ste.of_below h (Below.refl _ _)
theorem Ste.trans {w v u : World} {b k j : Nat} (h : Ste w v b k) (g : Ste v u b j) : Ste w u b j :=
 ⟨fun c o hc hn => (g.cell c o (Nat.lt_of_lt_of_le hc h.size) hn).trans (h.cell c o hc hn), fun c o hc => (g.free c o (Nat.lt_of_lt_of_le hc h.size)).trans (h.free c o hc), g.err, Nat.le_trans h.size g.size,
  fun B w0 h1 h2 h3 => g.below B w0 h1 (Nat.le_trans h2 h.size) (h.below B w0 h1 h2 h3)⟩
theorem Ste.drew {w v : World} {b k : Nat} (h : Ste w v b k) : Ste w v.drew b k := ⟨h.cell, h.free, h.err.drew, h.size, fun B w0 h1 h2 h3 => (h.below B w0 h1 h2 h3).drew⟩
theorem Ste.of_drew {w v : World} {b k : Nat} (h : Ste w.drew v b k) : Ste w v b k := ⟨h.cell, h.free, h.err, h.size, fun B w0 h1 h2 h3 => h.below B w0 h1 h2 h3.drew⟩
theorem Ste.below_trans {w v u : World} {b k : Nat} (hb : Below w.heap.size w v) (h : Ste v u b k) : Ste w u b k :=
 ⟨fun c o hc hn => (h.cell c o (Nat.lt_of_lt_of_le hc hb.size) hn).trans (hb.cell (p := ⟨c, o, none⟩) hc), fun c o hc => (h.free c o (Nat.lt_of_lt_of_le hc hb.size)).trans (hb.frozen (p := ⟨c, o, none⟩) hc), h.err, Nat.le_trans hb.size h.size,
  fun B w0 h1 h2 h3 => h.below B w0 h1 (Nat.le_trans h2 hb.size) (h3.trans (hb.mono (by omega)))⟩
theorem ErrAt.set {w : World} {b k : Nat} (h : ErrAt w b k) (j : Nat) : Ste w (w.setCell ⟨b, 0, none⟩ (errV j)) b j :=
 ⟨fun c o _ hn => World.cell?_setCell_other _ _ _ _ (fun e => hn (by injection e with e1 e2; exact ⟨e1.symm, e2.symm⟩)), fun c o _ => by rw [World.frozen?_setCell],
  ⟨World.cell?_setCell_same _ _ _ h.cell, by rw [World.frozen?_setCell]; exact h.free⟩, by simp [World.setCell], fun B w0 h1 _ h3 => h3.setCell (p := ⟨b, 0, none⟩) h1 _⟩
theorem Ste.but {w v u : World} {b k c : Nat} (h : Ste w v b k) (g : But1 v u c) (hc : w.heap.size ≤ c) (hb : b < w.heap.size) : Ste w u b k :=
 ⟨fun d o hd hn => (g.1 ⟨d, o, none⟩ (by show d ≠ c; omega)).1.trans (h.cell d o hd hn), fun d o hd => (g.1 ⟨d, o, none⟩ (by show d ≠ c; omega)).2.trans (h.free d o hd),
  ⟨(g.1 ⟨b, 0, none⟩ (by show b ≠ c; omega)).1.trans h.err.cell, (g.1 ⟨b, 0, none⟩ (by show b ≠ c; omega)).2.trans h.err.free⟩, by rw [g.2.2]; exact h.size, fun B w0 h1 h2 h3 => g.2.1 B w0 (by omega) (h.below B w0 h1 h2 h3)⟩
theorem IntAt.ste {w w' : World} {b c k n : Nat} {s : Bool} (h : IntAt w c s n) (g : Ste w w' b k) (hc : c < w.heap.size) (hne : c ≠ b) : IntAt w' c s n :=
 ⟨(g.cell c 0 hc (fun e => hne e.1)).trans h.sign, (g.free c 0 hc).trans h.free, fun i hi => ⟨(g.cell c (1 + i) hc (fun e => hne e.1)).trans (h.words i hi).1, (g.free c (1 + i) hc).trans (h.words i hi).2⟩⟩
def kept (k j : Nat) : Nat := if k = 0 then j else k
theorem errV_one (j : Nat) : errV j = .nilIface ∨ ∃ v, errV j = .iface 74 v := by
 by_cases h : j = 0
 ·subst h; exact .inl rfl
 ·exact .inr ⟨_, errV_pos h⟩
set_option maxHeartbeats 2000000 in
theorem keep_run (b k j : Nat) (w : World) (h : Hid (ErrAt w b k)) :
  Calls Tryz.prog 79 #[.pointer (some ⟨b, 0, none⟩), errV j] w fun e w' => e = .returned (.tuple #[]) ∧ Ste w w' b (kept k j) := by
 by_cases hk : k = 0
 ·subst hk
  have HF := Lib.hid (failed_zero b w h)
  have h1 : w.cell? ⟨b, 0, none⟩ = some .nilIface := h.out.cell
  have h2 := h.out.free
  have HS := Lib.hid (h.out.set j)
  have hj := errV_one j
  generalize errV j = v at *
  rcases hj with rfl | ⟨x, rfl⟩
  all_goals
   go_enter Tryz.func79, Tryz.ntmps79
   go_wp2_with fail
   refine HF.out.mono ?_
   rintro e w1 ⟨rfl, rfl⟩
   go_wp2_with fail
   go_end0
   exact ⟨rfl, HS.out⟩
 ·have HF := Lib.hid (failed_pos b k hk w h)
  have HS : Hid (Ste w w b (kept k j)) := by rw [kept, if_neg hk]; exact Ste.refl h.out
  clear hk
  generalize errV j = v
  go_enter Tryz.func79, Tryz.ntmps79
  go_wp2_with fail
  refine HF.out.mono ?_
  rintro e w1 ⟨rfl, rfl⟩
  go_wp2_with fail
  go_end0
  exact ⟨rfl, HS.out⟩
set_option maxRecDepth 100000 in
set_option maxHeartbeats 4000000 in
theorem quotient_run (s : Bool) (n : Nat) (t : Bool) (m : Nat) (w : World) (hn : Hid (Fits n)) (hm : Hid (Fits m)) (hm0 : 0 < m) :
  Calls Tryz.prog 40 #[intV s n, intV t m] w fun e w' => e = .returned (.tuple #[intV (sgn (s != t) (n / m)) (n / m), .nilIface]) ∧ Below w.heap.size w w' := by
 obtain ⟨S, hS⟩ : ∃ S, w.heap.size = S := ⟨_, rfl⟩
 obtain ⟨W, hW⟩ : ∃ W, ((w.alloc (boxI s n 25)).alloc (boxI t m 25)).alloc (boxIZ 25) = W := ⟨_, rfl⟩
 have T := three_ints w s n t m 25 25 25
 rw [hW, hS] at T
 have HT := Lib.hid T
 obtain ⟨⟨a0, b0⟩, ⟨a1, b1⟩, ⟨a2, b2⟩, ⟨a3, b3⟩, ⟨a4, b4⟩, ⟨a5, b5⟩, ⟨a6, b6⟩, ⟨a7, b7⟩, ⟨a8, b8⟩⟩ := T.1.nine
 obtain ⟨⟨c0, d0⟩, ⟨c1, d1⟩, ⟨c2, d2⟩, ⟨c3, d3⟩, ⟨c4, d4⟩, ⟨c5, d5⟩, ⟨c6, d6⟩, ⟨c7, d7⟩, ⟨c8, d8⟩⟩ := T.2.1.nine
 clear T
 rw [hS]
 have HC := Lib.hid (fun W => Div_pos s n t m W hn hm hm0)
 obtain ⟨q, hq⟩ : ∃ q, n / m = q := ⟨_, rfl⟩
 obtain ⟨r, hr⟩ : ∃ r, n % m = r := ⟨_, rfl⟩
 rw [hq, hr] at HC
 rw [hq]
 obtain ⟨z, hz⟩ : ∃ z, sgn (s != t) q = z := ⟨_, rfl⟩
 obtain ⟨y, hy⟩ : ∃ y, sgn s r = y := ⟨_, rfl⟩
 rw [hz, hy] at HC
 rw [hz]
 clear hz hy hq hr hn hm hm0
 unfold intV at HC ⊢
 go_enter Tryz.func40, Tryz.ntmps40
 go_wp2_with fail
 refine (HC.out _).mono ?_
 rintro e w1 ⟨rfl, hw1⟩
 have hWs : W.heap.size = S + 1 + 1 + 1 := HT.out.2.2.2.2
 have I3 := HT.out.2.2.1.keep hw1 (by omega)
 have B1 : Below S w w1 := HT.out.2.2.2.1.trans (hw1.mono (by omega))
 have z1 : S + 1 + 1 + 1 ≤ w1.heap.size := by have := hw1.size; omega
 have HJ3 := Lib.hid ((I3.alloc (by omega) (boxI z q 25)).alloc (by simp; omega) (boxI y r 25))
 have HB2 : Hid (Below S w ((w1.alloc (boxI z q 25)).alloc (boxI y r 25))) := (B1.alloc (by omega) _).alloc (by simp; omega) _
 have P2 := (two_ints w1 z q y r 25 25)
 obtain ⟨wx, hwx⟩ : ∃ wx, (w1.alloc (boxI z q 25)).alloc (boxI y r 25) = wx := ⟨_, rfl⟩
 obtain ⟨R, hR⟩ : ∃ R, w1.heap.size = R := ⟨_, rfl⟩
 rw [hwx] at HJ3 HB2 P2
 rw [hR] at P2
 clear hw1 HT hW HC hWs I3 B1 a0 a1 a2 a3 a4 a5 a6 a7 a8 b0 b1 b2 b3 b4 b5 b6 b7 b8 c0 c1 c2 c3 c4 c5 c6 c7 c8 d0 d1 d2 d3 d4 d5 d6 d7 d8
 go_upto_region 2 with fail
 obtain ⟨⟨a0, b0⟩, ⟨a1, b1⟩, ⟨a2, b2⟩, ⟨a3, b3⟩, ⟨a4, b4⟩, ⟨a5, b5⟩, ⟨a6, b6⟩, ⟨a7, b7⟩, ⟨a8, b8⟩⟩ := P2.1.nine
 obtain ⟨⟨c0, d0⟩, ⟨c1, d1⟩, ⟨c2, d2⟩, ⟨c3, d3⟩, ⟨c4, d4⟩, ⟨c5, d5⟩, ⟨c6, d6⟩, ⟨c7, d7⟩, ⟨c8, d8⟩⟩ := HJ3.out.nine
 clear P2 hwx hR
 go_wp2_with fail
 refine bodyPost_ret (v := .tuple #[intV z q, .nilIface]) (by rw [results_cell_tmp rfl]; go_simp; try rfl) rfl ⟨rfl, ?_⟩
 exact (st9_but wx (S + 1 + 1) z q).2.1 S w (by omega) HB2.out
end Go.Proofs.YtgoemhcngmpfbaaGreatDoor
namespace Go.Proofs.YtgoemhcngmpfbaaGreatDoor
open Go.RowKit Go.Sort
def Enters (f : Nat) : Prop := ∀ (args : Array Value) (w : World), (callFunc f args).run Tryz.prog w = .ok (.enter f args) w
theorem enters_of {f : FuncId} {fn : Func} {c : Code} (hf : Tryz.prog.funcs[f]? = some fn) (hname : (fn.name == "runtime.NumGoroutine") = false) (hb : fn.body = some c) : Enters f := fun args w => by
 have h1 : fn.name ≠ "runtime.NumGoroutine" := by simpa using hname
 simp [callFunc, hf, h1, hb]
theorem enters_Mul : Enters 93 := enters_of Tryz.func93 (by kernel_rfl) rfl
theorem enters_quotient : Enters 40 := enters_of Tryz.func40 (by kernel_rfl) rfl
abbrev fnV (f : Nat) : Value := .func (.func f) #[] #[]
set_option maxRecDepth 100000 in
set_option maxHeartbeats 4000000 in
theorem do_past (f b k : Nat) (hk : k ≠ 0) (s : Bool) (n : Nat) (t : Bool) (m : Nat) (w : World) (h : Hid (ErrAt w b k)) :
  Calls Tryz.prog 39 #[.pointer (some ⟨b, 0, none⟩), fnV f, intV s n, intV t m] w fun e w' => e = .returned (intV false 0) ∧ Ste w w' b k := by
 have HB : Hid (∀ o1 o2 o3 o4 : Obj, Below w.heap.size w ((((w.alloc o1).alloc o2).alloc o3).alloc o4)) := fun o1 o2 o3 o4 => (((below_alloc w o1).alloc (by simp) o2).alloc (by simp; omega) o3).alloc (by simp; omega) o4
 have HE : Hid (∀ o1 o2 o3 o4 : Obj, ErrAt ((((w.alloc o1).alloc o2).alloc o3).alloc o4) b k) := fun o1 o2 o3 o4 => h.out.below (HB.out o1 o2 o3 o4)
 have HS : Hid (∀ o1 o2 o3 o4 : Obj, Ste w ((((w.alloc o1).alloc o2).alloc o3).alloc o4) b k) := fun o1 o2 o3 o4 => Ste.of_below h.out (HB.out o1 o2 o3 o4)
 have h0 : intV false 0 = .agg #[.bool false, .int .u64 0, .int .u64 0, .int .u64 0, .int .u64 0, .int .u64 0, .int .u64 0, .int .u64 0, .int .u64 0] := intV_small (by decide) false
 rw [h0]
 clear h0 h HB
 unfold intV
 go_enter Tryz.func39, Tryz.ntmps39
 go_wp2_with fail
 refine (failed_pos b k hk _ (HE.out _ _ _ _)).mono ?_
 rintro e w1 ⟨rfl, rfl⟩
 go_wp2_with fail
 refine bodyPost_ret (v := .agg #[.bool false, .int .u64 0, .int .u64 0, .int .u64 0, .int .u64 0, .int .u64 0, .int .u64 0, .int .u64 0, .int .u64 0]) (by rw [results_cell1 rfl]; go_simp) rfl ⟨rfl, ?_⟩
 exact HS.out _ _ _ _
set_option maxRecDepth 100000 in
set_option maxHeartbeats 4000000 in
theorem do_first (f b j : Nat) (s : Bool) (n : Nat) (t : Bool) (m : Nat) (z : Bool) (r : Nat) (w : World) (h : Hid (ErrAt w b 0))
  (hcf : Hid (Enters f)) (hop : Hid (∀ W, Calls Tryz.prog f #[intV s n, intV t m] W fun e w' => e = .returned (.tuple #[intV z r, errV j]) ∧ Below W.heap.size W w')) :
  Calls Tryz.prog 39 #[.pointer (some ⟨b, 0, none⟩), fnV f, intV s n, intV t m] w fun e w' => e = .returned (intV z r) ∧ Ste w w' b j := by
 obtain ⟨S, hS⟩ : ∃ S, w.heap.size = S := ⟨_, rfl⟩
 obtain ⟨W, hW⟩ : ∃ W, (((w.alloc (boxI s n 25)).alloc (boxI t m 25)).alloc (boxIZ 25)).alloc (boxIZ 25) = W := ⟨_, rfl⟩
 have T := four_ints w s n t m 25 25 25 25
 rw [hW] at T
 have HE := Lib.hid (h.out.below T.2.2.2.2.1)
 have hbl := h.out.lt
 rw [hS] at T hbl
 have HT := Lib.hid T
 obtain ⟨⟨a0, b0⟩, ⟨a1, b1⟩, ⟨a2, b2⟩, ⟨a3, b3⟩, ⟨a4, b4⟩, ⟨a5, b5⟩, ⟨a6, b6⟩, ⟨a7, b7⟩, ⟨a8, b8⟩⟩ := T.1.nine
 obtain ⟨⟨c0, d0⟩, ⟨c1, d1⟩, ⟨c2, d2⟩, ⟨c3, d3⟩, ⟨c4, d4⟩, ⟨c5, d5⟩, ⟨c6, d6⟩, ⟨c7, d7⟩, ⟨c8, d8⟩⟩ := T.2.1.nine
 have HV := errV_one j
 have HKJ := fun W h => Lib.hid (keep_run b 0 j W h)
 rw [show kept 0 j = j from rfl] at HKJ
 have HK := Lib.hid HKJ
 clear T h HKJ
 have HSw : Hid (w.heap.size = S) := hS
 obtain ⟨v, hv⟩ : ∃ v, errV j = v := ⟨_, rfl⟩
 rw [hv] at HV hop HK
 clear hv
 unfold intV at hop ⊢
 have hen : ∀ (args : Array Value) (w : World), (callFunc f args).run Tryz.prog w = .ok (.enter f args) w := hcf.out
 go_enter Tryz.func39, Tryz.ntmps39
 go_wp2_with fail
 refine (failed_zero b W HE).mono ?_
 rintro e w0 ⟨rfl, rfl⟩
 go_wp2_with fail
 refine (hop.out _).mono ?_
 rintro e w1 ⟨rfl, hw1⟩
 have hWs : W.heap.size = S + 1 + 1 + 1 + 1 := HT.out.2.2.2.2.2
 have I3 := HT.out.2.2.1.keep hw1 (by omega)
 have E1 := HE.out.below hw1
 have B1 : Below S w w1 := HT.out.2.2.2.2.1.trans (hw1.mono (by omega))
 have z1 : S + 1 + 1 + 1 + 1 ≤ w1.heap.size := by have := hw1.size; omega
 have HJ3 := Lib.hid (I3.alloc (by omega) (boxI z r 25))
 have HB2 : Hid (Below S w (w1.alloc (boxI z r 25))) := B1.alloc (by omega) _
 have HE2 := Lib.hid (E1.below (below_alloc w1 (boxI z r 25)))
 have HP := Lib.hid (IntAt.new w1 z r 25)
 have hs2 : (w1.alloc (boxI z r 25)).heap.size = w1.heap.size + 1 := by simp
 obtain ⟨wx, hwx⟩ : ∃ wx, w1.alloc (boxI z r 25) = wx := ⟨_, rfl⟩
 obtain ⟨R, hR⟩ : ∃ R, w1.heap.size = R := ⟨_, rfl⟩
 rw [hwx] at HJ3 HB2 HE2 HP hs2
 rw [hR] at HP z1 hs2
 have Hs2 := Lib.hid hs2
 clear hw1 HT hW hop hWs I3 B1 E1 hs2 HE a0 a1 a2 a3 a4 a5 a6 a7 a8 b0 b1 b2 b3 b4 b5 b6 b7 b8 c0 c1 c2 c3 c4 c5 c6 c7 c8 d0 d1 d2 d3 d4 d5 d6 d7 d8
 go_wp2_with fail
 refine (HK.out _ HE2).mono ?_
 rintro e w2 ⟨rfl, hw2⟩
 have J3 := HJ3.out.ste hw2 (by rw [Hs2.out]; omega) (by omega)
 have J4 := HP.out.ste hw2 (by rw [Hs2.out]; omega) (by omega)
 have HSt : Hid (Ste w w2 b j) := Ste.below_trans (by rw [HSw.out]; exact HB2.out) hw2
 obtain ⟨⟨a0, b0⟩, ⟨a1, b1⟩, ⟨a2, b2⟩, ⟨a3, b3⟩, ⟨a4, b4⟩, ⟨a5, b5⟩, ⟨a6, b6⟩, ⟨a7, b7⟩, ⟨a8, b8⟩⟩ := J4.nine
 obtain ⟨⟨c0, d0⟩, ⟨c1, d1⟩, ⟨c2, d2⟩, ⟨c3, d3⟩, ⟨c4, d4⟩, ⟨c5, d5⟩, ⟨c6, d6⟩, ⟨c7, d7⟩, ⟨c8, d8⟩⟩ := J3.nine
 clear hw2 hwx hR J3 J4 HK HP HE2 HB2 HJ3 hS
 go_wp2_with fail
 refine bodyPost_ret (v := intV z r) (by rw [results_cell1 rfl]; go_simp; try rfl) rfl ⟨rfl, ?_⟩
 exact HSt.out.but (st9_but w2 (S + 1 + 1) z r) (by rw [HSw.out]; omega) (by rw [HSw.out]; exact hbl)
end Go.Proofs.YtgoemhcngmpfbaaGreatDoor
namespace Go.Proofs.YtgoemhcngmpfbaaGreatDoor
open Go.RowKit Go.Sort
structure IntO (w : World) (b o : Nat) (s : Bool) (n : Nat) : Prop where
 sign : w.cell? ⟨b, o, none⟩ = some (.bool s)
 free : w.frozen? ⟨b, o, none⟩ = false
 words : WordsAt w b (o + 1) n 8
theorem IntO.keep {w w' : World} {b o n B : Nat} {s : Bool} (h : IntO w b o s n) (hb : Below B w w') (hB : b < B) : IntO w' b o s n :=
 ⟨(hb.cell (p := ⟨b, o, none⟩) hB).trans h.sign, (hb.frozen (p := ⟨b, o, none⟩) hB).trans h.free, h.words.keep hb hB⟩
theorem IntO.but {w w' : World} {b o c n : Nat} {s : Bool} (h : IntO w b o s n) (hw : But1 w w' c) (hne : b ≠ c) : IntO w' b o s n :=
 ⟨(hw.1 ⟨b, o, none⟩ hne).1.trans h.sign, (hw.1 ⟨b, o, none⟩ hne).2.trans h.free, h.words.but hw hne⟩
theorem IntO.drew {w : World} {b o n : Nat} {s : Bool} (h : IntO w b o s n) : IntO w.drew b o s n := ⟨h.sign, h.free, h.words⟩
theorem IntO.ste {w w' : World} {b o c k n : Nat} {s : Bool} (h : IntO w c o s n) (g : Ste w w' b k) (hc : c < w.heap.size) (hne : c ≠ b ∨ 0 < o) : IntO w' c o s n :=
 ⟨(g.cell c o hc (by omega)).trans h.sign, (g.free c o hc).trans h.free, fun i hi => ⟨(g.cell c (o + 1 + i) hc (by omega)).trans (h.words i hi).1, (g.free c (o + 1 + i) hc).trans (h.words i hi).2⟩⟩
theorem IntO.nine0 {w : World} {b n : Nat} {s : Bool} (h : IntO w b 0 s n) : (w.cell? ⟨b, 0, none⟩ = some (.bool s) ∧ w.frozen? ⟨b, 0, none⟩ = false) ∧ (w.cell? ⟨b, 1, none⟩ = some (.int .u64 (wd n 0 : Int)) ∧ w.frozen? ⟨b, 1, none⟩ = false) ∧ (w.cell? ⟨b, 2, none⟩ = some (.int .u64 (wd n 1 : Int)) ∧ w.frozen? ⟨b, 2, none⟩ = false) ∧ (w.cell? ⟨b, 3, none⟩ = some (.int .u64 (wd n 2 : Int)) ∧ w.frozen? ⟨b, 3, none⟩ = false) ∧ (w.cell? ⟨b, 4, none⟩ = some (.int .u64 (wd n 3 : Int)) ∧ w.frozen? ⟨b, 4, none⟩ = false) ∧ (w.cell? ⟨b, 5, none⟩ = some (.int .u64 (wd n 4 : Int)) ∧ w.frozen? ⟨b, 5, none⟩ = false) ∧ (w.cell? ⟨b, 6, none⟩ = some (.int .u64 (wd n 5 : Int)) ∧ w.frozen? ⟨b, 6, none⟩ = false) ∧ (w.cell? ⟨b, 7, none⟩ = some (.int .u64 (wd n 6 : Int)) ∧ w.frozen? ⟨b, 7, none⟩ = false) ∧ (w.cell? ⟨b, 8, none⟩ = some (.int .u64 (wd n 7 : Int)) ∧ w.frozen? ⟨b, 8, none⟩ = false) :=
 ⟨⟨h.sign, h.free⟩, h.words 0 (by decide), h.words 1 (by decide), h.words 2 (by decide), h.words 3 (by decide), h.words 4 (by decide), h.words 5 (by decide), h.words 6 (by decide), h.words 7 (by decide)⟩
theorem IntO.nine9 {w : World} {b n : Nat} {s : Bool} (h : IntO w b 9 s n) : (w.cell? ⟨b, 9, none⟩ = some (.bool s) ∧ w.frozen? ⟨b, 9, none⟩ = false) ∧ (w.cell? ⟨b, 10, none⟩ = some (.int .u64 (wd n 0 : Int)) ∧ w.frozen? ⟨b, 10, none⟩ = false) ∧ (w.cell? ⟨b, 11, none⟩ = some (.int .u64 (wd n 1 : Int)) ∧ w.frozen? ⟨b, 11, none⟩ = false) ∧ (w.cell? ⟨b, 12, none⟩ = some (.int .u64 (wd n 2 : Int)) ∧ w.frozen? ⟨b, 12, none⟩ = false) ∧ (w.cell? ⟨b, 13, none⟩ = some (.int .u64 (wd n 3 : Int)) ∧ w.frozen? ⟨b, 13, none⟩ = false) ∧ (w.cell? ⟨b, 14, none⟩ = some (.int .u64 (wd n 4 : Int)) ∧ w.frozen? ⟨b, 14, none⟩ = false) ∧ (w.cell? ⟨b, 15, none⟩ = some (.int .u64 (wd n 5 : Int)) ∧ w.frozen? ⟨b, 15, none⟩ = false) ∧ (w.cell? ⟨b, 16, none⟩ = some (.int .u64 (wd n 6 : Int)) ∧ w.frozen? ⟨b, 16, none⟩ = false) ∧ (w.cell? ⟨b, 17, none⟩ = some (.int .u64 (wd n 7 : Int)) ∧ w.frozen? ⟨b, 17, none⟩ = false) :=
 ⟨⟨h.sign, h.free⟩, h.words 0 (by decide), h.words 1 (by decide), h.words 2 (by decide), h.words 3 (by decide), h.words 4 (by decide), h.words 5 (by decide), h.words 6 (by decide), h.words 7 (by decide)⟩
def ratV (s : Bool) (n : Nat) (t : Bool) (d : Nat) : Value := .agg #[.bool s, .int .u64 (wd n 0 : Int), .int .u64 (wd n 1 : Int), .int .u64 (wd n 2 : Int), .int .u64 (wd n 3 : Int), .int .u64 (wd n 4 : Int), .int .u64 (wd n 5 : Int), .int .u64 (wd n 6 : Int), .int .u64 (wd n 7 : Int), .bool t, .int .u64 (wd d 0 : Int), .int .u64 (wd d 1 : Int), .int .u64 (wd d 2 : Int), .int .u64 (wd d 3 : Int), .int .u64 (wd d 4 : Int), .int .u64 (wd d 5 : Int), .int .u64 (wd d 6 : Int), .int .u64 (wd d 7 : Int)]
abbrev boxR (s : Bool) (n : Nat) (t : Bool) (d : Nat) (T : TypeId) : Obj := .cells #[.bool s, .int .u64 (wd n 0 : Int), .int .u64 (wd n 1 : Int), .int .u64 (wd n 2 : Int), .int .u64 (wd n 3 : Int), .int .u64 (wd n 4 : Int), .int .u64 (wd n 5 : Int), .int .u64 (wd n 6 : Int), .int .u64 (wd n 7 : Int), .bool t, .int .u64 (wd d 0 : Int), .int .u64 (wd d 1 : Int), .int .u64 (wd d 2 : Int), .int .u64 (wd d 3 : Int), .int .u64 (wd d 4 : Int), .int .u64 (wd d 5 : Int), .int .u64 (wd d 6 : Int), .int .u64 (wd d 7 : Int)] T
structure RatAt (w : World) (b : Nat) (s : Bool) (n : Nat) (t : Bool) (d : Nat) : Prop where
 num : IntO w b 0 s n
 den : IntO w b 9 t d
theorem RatAt.new (w : World) (s : Bool) (n : Nat) (t : Bool) (d : Nat) (T : TypeId) : RatAt (w.alloc (boxR s n t d T)) w.heap.size s n t d := by
 refine ⟨⟨World.cell?_alloc_at _ _ _ _ rfl, World.frozen?_alloc_at _ _ _ _ rfl, fun i hi => ?_⟩, ⟨World.cell?_alloc_at _ _ _ _ rfl, World.frozen?_alloc_at _ _ _ _ rfl, fun i hi => ?_⟩⟩
 all_goals
  rcases i with _ | _ | _ | _ | _ | _ | _ | _ | i
  all_goals first | exact ⟨World.cell?_alloc_at _ _ _ _ rfl, World.frozen?_alloc_at _ _ _ _ rfl⟩ | omega
theorem RatAt.keep {w w' : World} {b n d B : Nat} {s t : Bool} (h : RatAt w b s n t d) (hb : Below B w w') (hB : b < B) : RatAt w' b s n t d := ⟨h.num.keep hb hB, h.den.keep hb hB⟩
theorem RatAt.but {w w' : World} {b c n d : Nat} {s t : Bool} (h : RatAt w b s n t d) (hw : But1 w w' c) (hne : b ≠ c) : RatAt w' b s n t d := ⟨h.num.but hw hne, h.den.but hw hne⟩
theorem RatAt.drew {w : World} {b n d : Nat} {s t : Bool} (h : RatAt w b s n t d) : RatAt w.drew b s n t d := ⟨h.num.drew, h.den.drew⟩
theorem RatAt.alloc {w : World} {b n d : Nat} {s t : Bool} (h : RatAt w b s n t d) (hb : b < w.heap.size) (o : Obj) : RatAt (w.alloc o) b s n t d := h.keep (below_alloc w o) hb
theorem RatAt.ste {w w' : World} {b c k n d : Nat} {s t : Bool} (h : RatAt w c s n t d) (g : Ste w w' b k) (hc : c < w.heap.size) (hne : c ≠ b) : RatAt w' c s n t d := ⟨h.num.ste g hc (.inl hne), h.den.ste g hc (.inl hne)⟩
theorem RatAt.cells {w : World} {b n d : Nat} {s t : Bool} (h : RatAt w b s n t d) : w.cell? ⟨b, 0, none⟩ = some (.bool s) ∧ w.cell? ⟨b, 1, none⟩ = some (.int .u64 (wd n 0 : Int)) ∧ w.cell? ⟨b, 2, none⟩ = some (.int .u64 (wd n 1 : Int)) ∧ w.cell? ⟨b, 3, none⟩ = some (.int .u64 (wd n 2 : Int)) ∧ w.cell? ⟨b, 4, none⟩ = some (.int .u64 (wd n 3 : Int)) ∧ w.cell? ⟨b, 5, none⟩ = some (.int .u64 (wd n 4 : Int)) ∧ w.cell? ⟨b, 6, none⟩ = some (.int .u64 (wd n 5 : Int)) ∧ w.cell? ⟨b, 7, none⟩ = some (.int .u64 (wd n 6 : Int)) ∧ w.cell? ⟨b, 8, none⟩ = some (.int .u64 (wd n 7 : Int)) ∧ w.cell? ⟨b, 9, none⟩ = some (.bool t) ∧ w.cell? ⟨b, 10, none⟩ = some (.int .u64 (wd d 0 : Int)) ∧ w.cell? ⟨b, 11, none⟩ = some (.int .u64 (wd d 1 : Int)) ∧ w.cell? ⟨b, 12, none⟩ = some (.int .u64 (wd d 2 : Int)) ∧ w.cell? ⟨b, 13, none⟩ = some (.int .u64 (wd d 3 : Int)) ∧ w.cell? ⟨b, 14, none⟩ = some (.int .u64 (wd d 4 : Int)) ∧ w.cell? ⟨b, 15, none⟩ = some (.int .u64 (wd d 5 : Int)) ∧ w.cell? ⟨b, 16, none⟩ = some (.int .u64 (wd d 6 : Int)) ∧ w.cell? ⟨b, 17, none⟩ = some (.int .u64 (wd d 7 : Int)) := by
 obtain ⟨⟨a0, x0⟩, ⟨a1, x1⟩, ⟨a2, x2⟩, ⟨a3, x3⟩, ⟨a4, x4⟩, ⟨a5, x5⟩, ⟨a6, x6⟩, ⟨a7, x7⟩, ⟨a8, x8⟩⟩ := h.num.nine0
 obtain ⟨⟨c0, y0⟩, ⟨c1, y1⟩, ⟨c2, y2⟩, ⟨c3, y3⟩, ⟨c4, y4⟩, ⟨c5, y5⟩, ⟨c6, y6⟩, ⟨c7, y7⟩, ⟨c8, y8⟩⟩ := h.den.nine9
 exact ⟨a0, a1, a2, a3, a4, a5, a6, a7, a8, c0, c1, c2, c3, c4, c5, c6, c7, c8⟩
def st18 (w : World) (b : Nat) (s : Bool) (n : Nat) (t : Bool) (d : Nat) : World := ((((((((((st9 w b s n).setCell ⟨b, 9, none⟩ (.bool t)).setCell ⟨b, 10, none⟩ (.int .u64 (wd d 0 : Int))).setCell ⟨b, 11, none⟩ (.int .u64 (wd d 1 : Int))).setCell ⟨b, 12, none⟩ (.int .u64 (wd d 2 : Int))).setCell ⟨b, 13, none⟩ (.int .u64 (wd d 3 : Int))).setCell ⟨b, 14, none⟩ (.int .u64 (wd d 4 : Int))).setCell ⟨b, 15, none⟩ (.int .u64 (wd d 5 : Int))).setCell ⟨b, 16, none⟩ (.int .u64 (wd d 6 : Int))).setCell ⟨b, 17, none⟩ (.int .u64 (wd d 7 : Int)))
theorem st18_but (w : World) (b : Nat) (s : Bool) (n : Nat) (t : Bool) (d : Nat) : But1 w (st18 w b s n t d) b :=
 (((((((((st9_but w b s n).trans (But1.setCell _ b 9 _)).trans (But1.setCell _ b 10 _)).trans (But1.setCell _ b 11 _)).trans (But1.setCell _ b 12 _)).trans (But1.setCell _ b 13 _)).trans (But1.setCell _ b 14 _)).trans (But1.setCell _ b 15 _)).trans (But1.setCell _ b 16 _)).trans (But1.setCell _ b 17 _)
theorem agg9 (s : Bool) (n : Nat) : intV s n = .agg #[.bool s, .int .u64 (wd n 0 : Int), .int .u64 (wd n 1 : Int), .int .u64 (wd n 2 : Int), .int .u64 (wd n 3 : Int), .int .u64 (wd n 4 : Int), .int .u64 (wd n 5 : Int), .int .u64 (wd n 6 : Int), .int .u64 (wd n 7 : Int)] := rfl
set_option maxRecDepth 100000 in
set_option maxHeartbeats 4000000 in
theorem eqInt_of (k : Nat) (s : Bool) (n : Nat) (t : Bool) (m : Nat) (w : World) (hn : Fits n) (hm : Fits m) :
  (Op.equalIn (k + 3) 25 (intV s n) (intV t m)).run Tryz.prog w = .ok (decide (s = t ∧ n = m)) w := by
 have hf : Tryz.prog.underlying 25 = some (.struct (Tryz.prog.fieldsOf 25)) := by kernel_rfl
 have hp : Tryz.prog.stoodInHeld 25 = false := by kernel_rfl
 have hl : ((Tryz.prog.fieldsOf 25).toList.map fun f => (f.name == "_", f.type, f.offset)) = [(false, 4, 0), (false, 23, 1)] := by kernel_rfl
 have hb : Tryz.prog.plainKey 4 = true := by kernel_rfl
 have ub : Tryz.prog.underlying 4 = some .bool := by kernel_rfl
 rw [agg9, agg9, run_equalIn_struct (P := Tryz.prog) w _ _ _ _ hf hp]
 obtain ⟨f0, f1, hfs, h0, h1⟩ : ∃ f0 f1 : Field, (Tryz.prog.fieldsOf 25).toList = [f0, f1] ∧ (f0.name == "_", f0.type, f0.offset) = (false, 4, 0) ∧ (f1.name == "_", f1.type, f1.offset) = (false, 23, 1) := by
  generalize (Tryz.prog.fieldsOf 25).toList = l at hl
  rcases l with _ | ⟨f0, _ | ⟨f1, _ | ⟨f2, l⟩⟩⟩
  ·simp at hl
  ·simp at hl
  ·simp only [List.map_cons, List.map_nil, List.cons.injEq, and_true] at hl
   exact ⟨f0, f1, rfl, hl.1, hl.2⟩
  ·simp at hl
 simp only [Prod.mk.injEq] at h0 h1
 obtain ⟨n0, t0, o0⟩ := h0
 obtain ⟨n1, t1, o1⟩ := h1
 have n0' : f0.name ≠ "_" := by simpa using n0
 have n1' : f1.name ≠ "_" := by simpa using n1
 rw [hfs]
 have hpart : ∀ (x : Bool) (y : Nat), (part 23 #[.bool x, .int .u64 (wd y 0 : Int), .int .u64 (wd y 1 : Int), .int .u64 (wd y 2 : Int), .int .u64 (wd y 3 : Int), .int .u64 (wd y 4 : Int), .int .u64 (wd y 5 : Int), .int .u64 (wd y 6 : Int), .int .u64 (wd y 7 : Int)] 1).run Tryz.prog w = .ok (wordsV y) w := fun x y => by kernel_rfl
 have hpb : ∀ (x : Bool) (y : Nat), (part 4 #[.bool x, .int .u64 (wd y 0 : Int), .int .u64 (wd y 1 : Int), .int .u64 (wd y 2 : Int), .int .u64 (wd y 3 : Int), .int .u64 (wd y 4 : Int), .int .u64 (wd y 5 : Int), .int .u64 (wd y 6 : Int), .int .u64 (wd y 7 : Int)] 0).run Tryz.prog w = .ok (.bool x) w := fun x y => run_part_plain w hb rfl
 have e0 : ∀ k, (Op.equalIn (k + 1) 4 (.bool s) (.bool t)).run Tryz.prog w = .ok (s == t) w := fun k => run_equalIn_bool w k 4 s t ub
 have e1 := eqWords_any k 23 (by kernel_rfl) n m w hn hm
 by_cases hs : s = t
 ·subst hs
  have es : (s == s) = true := beq_self_eq_true s
  simp only [Op.eqFields, if_pos n0', if_pos n1', t0, t1, o0, o1, Sem.run_bind, hpb, Result.andThen_ok, e0, es, Bool.not_true, Bool.false_eq_true, if_false, hpart, e1]
  by_cases hnm : n = m
  ·subst hnm; simp
  ·simp [hnm]
 ·have es : (s == t) = false := by simpa using hs
  simp [Op.eqFields, n0', t0, o0, hpb, e0, es, hs]
theorem eqInt (s : Bool) (n : Nat) (t : Bool) (m : Nat) (w : World) (hn : Fits n) (hm : Fits m) : (binOp .eql 25 (intV s n) (intV t m)).run Tryz.prog w = .ok (.bool (decide (s = t ∧ n = m))) w := by
 have := eqInt_of 9997 s n t m w hn hm
 unfold intV at this ⊢
 rw [run_eql_struct, show (10000 : Nat) = 9997 + 3 from rfl, this]
 rfl
theorem neInt (s : Bool) (n : Nat) (t : Bool) (m : Nat) (w : World) (hn : Fits n) (hm : Fits m) : (binOp .neq 25 (intV s n) (intV t m)).run Tryz.prog w = .ok (.bool (!decide (s = t ∧ n = m))) w := by
 have := eqInt_of 9997 s n t m w hn hm
 unfold intV at this ⊢
 rw [run_neq_struct, show (10000 : Nat) = 9997 + 3 from rfl, this]
 rfl
theorem agg18 (s : Bool) (n : Nat) (t : Bool) (d : Nat) : ratV s n t d = .agg #[.bool s, .int .u64 (wd n 0 : Int), .int .u64 (wd n 1 : Int), .int .u64 (wd n 2 : Int), .int .u64 (wd n 3 : Int), .int .u64 (wd n 4 : Int), .int .u64 (wd n 5 : Int), .int .u64 (wd n 6 : Int), .int .u64 (wd n 7 : Int), .bool t, .int .u64 (wd d 0 : Int), .int .u64 (wd d 1 : Int), .int .u64 (wd d 2 : Int), .int .u64 (wd d 3 : Int), .int .u64 (wd d 4 : Int), .int .u64 (wd d 5 : Int), .int .u64 (wd d 6 : Int), .int .u64 (wd d 7 : Int)] := rfl
set_option maxRecDepth 100000 in
set_option maxHeartbeats 4000000 in
theorem eqRat_of (k : Nat) (s : Bool) (n : Nat) (t : Bool) (d : Nat) (s' : Bool) (n' : Nat) (t' : Bool) (d' : Nat) (w : World) (hn : Fits n) (hd : Fits d) (hn' : Fits n') (hd' : Fits d') :
  (Op.equalIn (k + 4) 27 (ratV s n t d) (ratV s' n' t' d')).run Tryz.prog w = .ok (decide (s = s' ∧ n = n') && decide (t = t' ∧ d = d')) w := by
 have hf : Tryz.prog.underlying 27 = some (.struct (Tryz.prog.fieldsOf 27)) := by kernel_rfl
 have hp : Tryz.prog.stoodInHeld 27 = false := by kernel_rfl
 have hl : ((Tryz.prog.fieldsOf 27).toList.map fun f => (f.name == "_", f.type, f.offset)) = [(false, 25, 0), (false, 25, 9)] := by kernel_rfl
 rw [agg18, agg18, run_equalIn_struct (P := Tryz.prog) w _ _ _ _ hf hp]
 obtain ⟨f0, f1, hfs, h0, h1⟩ : ∃ f0 f1 : Field, (Tryz.prog.fieldsOf 27).toList = [f0, f1] ∧ (f0.name == "_", f0.type, f0.offset) = (false, 25, 0) ∧ (f1.name == "_", f1.type, f1.offset) = (false, 25, 9) := by
  generalize (Tryz.prog.fieldsOf 27).toList = l at hl
  rcases l with _ | ⟨f0, _ | ⟨f1, _ | ⟨f2, l⟩⟩⟩
  ·simp at hl
  ·simp at hl
  ·simp only [List.map_cons, List.map_nil, List.cons.injEq, and_true] at hl
   exact ⟨f0, f1, rfl, hl.1, hl.2⟩
  ·simp at hl
 simp only [Prod.mk.injEq] at h0 h1
 obtain ⟨n0, t0, o0⟩ := h0
 obtain ⟨n1, t1, o1⟩ := h1
 have n0' : f0.name ≠ "_" := by simpa using n0
 have n1' : f1.name ≠ "_" := by simpa using n1
 rw [hfs]
 have hp0 : ∀ (x : Bool) (y : Nat) (x' : Bool) (y' : Nat), (part 25 #[.bool x, .int .u64 (wd y 0 : Int), .int .u64 (wd y 1 : Int), .int .u64 (wd y 2 : Int), .int .u64 (wd y 3 : Int), .int .u64 (wd y 4 : Int), .int .u64 (wd y 5 : Int), .int .u64 (wd y 6 : Int), .int .u64 (wd y 7 : Int), .bool x', .int .u64 (wd y' 0 : Int), .int .u64 (wd y' 1 : Int), .int .u64 (wd y' 2 : Int), .int .u64 (wd y' 3 : Int), .int .u64 (wd y' 4 : Int), .int .u64 (wd y' 5 : Int), .int .u64 (wd y' 6 : Int), .int .u64 (wd y' 7 : Int)] 0).run Tryz.prog w = .ok (intV x y) w := fun x y x' y' => by kernel_rfl
 have hp9 : ∀ (x : Bool) (y : Nat) (x' : Bool) (y' : Nat), (part 25 #[.bool x, .int .u64 (wd y 0 : Int), .int .u64 (wd y 1 : Int), .int .u64 (wd y 2 : Int), .int .u64 (wd y 3 : Int), .int .u64 (wd y 4 : Int), .int .u64 (wd y 5 : Int), .int .u64 (wd y 6 : Int), .int .u64 (wd y 7 : Int), .bool x', .int .u64 (wd y' 0 : Int), .int .u64 (wd y' 1 : Int), .int .u64 (wd y' 2 : Int), .int .u64 (wd y' 3 : Int), .int .u64 (wd y' 4 : Int), .int .u64 (wd y' 5 : Int), .int .u64 (wd y' 6 : Int), .int .u64 (wd y' 7 : Int)] 9).run Tryz.prog w = .ok (intV x' y') w := fun x y x' y' => by kernel_rfl
 have e0 := eqInt_of k s n s' n' w hn hn'
 have e1 := eqInt_of k t d t' d' w hd hd'
 obtain ⟨c0, hc0⟩ : ∃ c, decide (s = s' ∧ n = n') = c := ⟨_, rfl⟩
 obtain ⟨c1, hc1⟩ : ∃ c, decide (t = t' ∧ d = d') = c := ⟨_, rfl⟩
 rw [hc0] at e0 ⊢
 rw [hc1] at e1 ⊢
 clear hc0 hc1
 cases c0 with
 | true =>
  simp only [Op.eqFields, if_pos n0', if_pos n1', t0, t1, o0, o1, Sem.run_bind, hp0, Result.andThen_ok, e0, Bool.not_true, Bool.false_eq_true, if_false, hp9, e1]
  cases c1 <;> simp
 | false => simp [Op.eqFields, n0', t0, o0, hp0, e0]
theorem eqRat (s : Bool) (n : Nat) (t : Bool) (d : Nat) (s' : Bool) (n' : Nat) (t' : Bool) (d' : Nat) (w : World) (hn : Fits n) (hd : Fits d) (hn' : Fits n') (hd' : Fits d') :
  (binOp .eql 27 (ratV s n t d) (ratV s' n' t' d')).run Tryz.prog w = .ok (.bool (decide (s = s' ∧ n = n') && decide (t = t' ∧ d = d'))) w := by
 have := eqRat_of 9996 s n t d s' n' t' d' w hn hd hn' hd'
 unfold ratV at this ⊢
 rw [run_eql_struct, show (10000 : Nat) = 9996 + 4 from rfl, this]
 rfl
end Go.Proofs.YtgoemhcngmpfbaaGreatDoor
namespace Go.Proofs.YtgoemhcngmpfbaaGreatDoor
open Go.ChangeShapes Go.WideShapes Go.ChangeAt Go.RowKit Go.Deep
theorem own : ownKnob Tryz.prog.godebug = none := by kernel_rfl
theorem laidOut : laidOutB Tryz.prog = true := by kernel_rfl
section
variable {H : Type} {enc : TypeId × Value → H} {W : World} {sp : Nat → Bool} {fuel : Nat} {cs : List Value} {x : DataW H × List MemPlace}
end
end Go.Proofs.YtgoemhcngmpfbaaGreatDoor
namespace Go.Proofs.YtgoemhcngmpfbaaGreatDoor
open Go.RowKit
section
variable {P : Program} {ops : Array Oper} {Q : Exit → Act → World → Prop} {md : Region.Mode} {S : World → Prop}
theorem rg_take (i : Nat) {oi : Oper} (v : Value) {fuel : Nat} {listed : Array Bool} {a : Act} {w : World} (hi : ops[i]? = some oi)
  (hs : Region.noSelect ops = true) (hf : Region.free md ops listed i = true) (hr : (Region.ready md ops listed).contains i = true)
  (hQ : ∀ c a w, Q (.panic c) (a.put oi.dst v) w → Q (.panic c) a w) (hg : oi.guard = none) (hv : ∀ w, S w → (execOp a.eval oi).run P w = .ok (.value v) w) (hS : S w)
  (h : wpAnyH P md ops Q S fuel (listed.setIfInBounds i true) (a.put oi.dst v) w) : wpAnyH P md ops Q S (fuel + 1) listed a w :=
 wpAnyH_take hi hs hf hr hQ (.inl ⟨by simp [Region.wanted, hg], hv⟩) hS h
abbrev RStep (P : Program) (md : Region.Mode) (ops : Array Oper) (Q : Exit → Act → World → Prop) (S : World → Prop) (fuel : Nat) (listed : Array Bool) (i : Nat) (a : Act) (w : World) : Prop :=
 wpOp P ops Q i (fun a' w' => S w' ∧ wpAnyH P md ops Q S fuel (listed.setIfInBounds i true) a' w') a w
theorem rg_one (i : Nat) {fuel : Nat} {listed : Array Bool} {a : Act} {w : World} (hr : Region.ready md ops listed = [i]) (h : RStep P md ops Q S fuel listed i a w) : wpAnyH P md ops Q S (fuel + 1) listed a w :=
 wpAnyH_all hr (by simp) fun j hj => by
  obtain rfl : j = i := by simpa using hj
  exact h
theorem rg_two (i j : Nat) {fuel : Nat} {listed : Array Bool} {a : Act} {w : World} (hr : Region.ready md ops listed = [i, j]) (h : RStep P md ops Q S fuel listed i a w) (g : RStep P md ops Q S fuel listed j a w) : wpAnyH P md ops Q S (fuel + 1) listed a w :=
 wpAnyH_all hr (by simp) fun k hk => by
  rcases List.mem_cons.1 hk with rfl | hk
  ·exact h
  ·obtain rfl : k = j := by simpa using hk
   exact g
theorem rs_of {i : Nat} {o : Oper} {K : Act → World → Prop} {a : Act} {w : World} (ho : ops[i]? = some o) (hg : o.guard = none) (h : o.wp P a w K Q) : wpOp P ops Q i K a w := by
 unfold wpOp
 rw [ho]
 simp only [Region.wanted, hg, if_true]
 exact .inl h
theorem wp_value {o : Oper} {K : Act → World → Prop} {a : Act} {w w' : World} {v : Value} (h : (execOp a.eval o).run P w = .ok (.value v) w') (hk : K (a.put o.dst v) w') : o.wp P a w K Q := by
 unfold Oper.wp
 rw [h]
 exact hk
def EntersP (P : Program) (f : Nat) : Prop := ∀ (args : Array Value) (w : World), (callFunc f args).run P w = .ok (.enter f args) w
theorem entersP_of {f : FuncId} {fn : Func} {c : Code} (hf : P.funcs[f]? = some fn) (hname : (fn.name == "runtime.NumGoroutine") = false) (hb : fn.body = some c) : EntersP P f := fun args w => by
 have h1 : fn.name ≠ "runtime.NumGoroutine" := by simpa using hname
 simp [callFunc, hf, h1, hb]
theorem wp_call {o : Oper} {K : Act → World → Prop} {a : Act} {w : World} {f : Nat} {xs : List Operand} {ts : Array TypeId} (hop : o.op = .call { callee := .value (.func f), args := xs.toArray, argTypes := ts }) (hen : EntersP P f)
  {args : List Value} (hargs : xs.map a.eval = args) {v : Value} {R : World → Prop} (hc : Calls P f args.toArray w fun e w' => e = .returned v ∧ R w') (hk : ∀ w', R w' → K (a.put o.dst v) w') : o.wp P a w K Q := by
 have hrun : (execOp a.eval o).run P w = .ok (.enter f args.toArray) w := by
  have h1 : (resolve a.eval { callee := .value (.func f), args := xs.toArray, argTypes := ts } o.type).run P w = .ok { target := .fn (.func f) #[], args := args.toArray } w := by
   simp [resolve, Act.eval, Deferred.ofValue, ← hargs]
  unfold execOp
  simp only [hop, Sem.run_bind, h1, Result.andThen_ok, invoke, Array.append_empty, hen args.toArray w]
 unfold Oper.wp
 rw [hrun, Oper.upon_enter]
 refine hc.mono ?_
 rintro e w' ⟨rfl, hr⟩
 exact hk w' hr
theorem rg_begin (S : World → Prop) {id : Nat} {a : Act} {w : World} (hm : P.follows .mixedOrders = true) (hS : S w.drew)
  (h : S w.drew → wpAnyH P .any ops Q S ops.size (Array.replicate ops.size false) a w.drew) : (Code.region id ops true).wp P Q a w := wp_region_held_drew hm hS h
end
theorem zA {α : Type _} {xs : List α} {i : Nat} (h : i < xs.toArray.size) : xs.toArray[i] = xs[i]'(by simpa using h) := List.getElem_toArray h
theorem zB {α : Type _} (a : α) (l : List α) (h : 0 < (a :: l).length) : (a :: l)[0] = a := List.getElem_cons_zero a l h
theorem zC {α : Type _} (a : α) (l : List α) (i : Nat) (h : i + 1 < (a :: l).length) : (a :: l)[i + 1] = l[i]'(by simpa using h) := List.getElem_cons_succ a l i h
theorem zD {α : Type _} (l : List α) (i : Nat) (a : α) : l.toArray.setIfInBounds i a = (l.set i a).toArray := List.setIfInBounds_toArray l i a
theorem zE {α : Type _} {x : α} {xs : List α} {a : α} : (x :: xs).set 0 a = a :: xs := List.set_cons_zero
theorem zF {α : Type _} {x : α} {xs : List α} {i : Nat} {a : α} : (x :: xs).set (i + 1) a = x :: xs.set i a := List.set_cons_succ
end Go.Proofs.YtgoemhcngmpfbaaGreatDoor
