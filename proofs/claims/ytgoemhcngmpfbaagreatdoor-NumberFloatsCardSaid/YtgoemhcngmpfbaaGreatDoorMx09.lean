/-
  Stage 8: the walk's steps at boxes of numbers and ratios, by laws: values stay folded.
-/
import Derived.Test.YtgoemhcngmpfbaaGreatDoorMx08
import Derived.Test.YtgoemhcngmpfbaaGreatDoorMx07
namespace Go.Proofs.YtgoemhcngmpfbaaGreatDoor
open Go.RowKit Go.Sort
abbrev boxRZ (T : TypeId) : Obj := .cells #[.bool false, .int .u64 0, .int .u64 0, .int .u64 0, .int .u64 0, .int .u64 0, .int .u64 0, .int .u64 0, .int .u64 0, .bool false, .int .u64 0, .int .u64 0, .int .u64 0, .int .u64 0, .int .u64 0, .int .u64 0, .int .u64 0, .int .u64 0] T
theorem RatAt.zero (w : World) (T : TypeId) : RatAt (w.alloc (boxRZ T)) w.heap.size false 0 false 0 := by
 have := RatAt.new w false 0 false 0 T
 simpa only [boxR, wd_zero, Int.natCast_zero] using this
theorem ratV_zero : ratV false 0 false 0 = .agg #[.bool false, .int .u64 0, .int .u64 0, .int .u64 0, .int .u64 0, .int .u64 0, .int .u64 0, .int .u64 0, .int .u64 0, .bool false, .int .u64 0, .int .u64 0, .int .u64 0, .int .u64 0, .int .u64 0, .int .u64 0, .int .u64 0, .int .u64 0] := by
 simp only [ratV, wd_zero, Int.natCast_zero]
theorem ErrAt.new (w : World) (T : TypeId) : ErrAt (w.alloc (.cells #[.nilIface] T)) w.heap.size 0 := ⟨World.cell?_alloc_at _ _ _ _ rfl, World.frozen?_alloc_at _ _ _ _ rfl⟩
theorem ErrAt.but1 {w w' : World} {b k c : Nat} (h : ErrAt w b k) (g : But1 w w' c) (hne : b ≠ c) : ErrAt w' b k := ⟨(g.1 ⟨b, 0, none⟩ hne).1.trans h.cell, (g.1 ⟨b, 0, none⟩ hne).2.trans h.free⟩
theorem IntO.of_range {w : World} {b o n : Nat} {s : Bool} (h : w.rangeAt b o [.bool s, .int .u64 (wd n 0 : Int), .int .u64 (wd n 1 : Int), .int .u64 (wd n 2 : Int), .int .u64 (wd n 3 : Int), .int .u64 (wd n 4 : Int), .int .u64 (wd n 5 : Int), .int .u64 (wd n 6 : Int), .int .u64 (wd n 7 : Int)]) (hf : ∀ i, i < 9 → w.frozen? ⟨b, o + i, none⟩ = false) : IntO w b o s n := by
 refine ⟨h 0 _ rfl, hf 0 (by decide), fun i hi => ?_⟩
 have hfi := hf (i + 1) (by omega)
 have e : o + (i + 1) = o + 1 + i := by omega
 rw [e] at hfi
 refine ⟨?_, hfi⟩
 have := h (i + 1) (.int .u64 (wd n i : Int))
 rw [e] at this
 apply this
 rcases i with _ | _ | _ | _ | _ | _ | _ | _ | i
 all_goals first | rfl | omega
theorem IntO.there {w : World} {b o n : Nat} {s : Bool} (h : IntO w b o s n) : w.there b o 9 := by
 intro j hj
 rcases j with _ | j
 ·exact ⟨by show (w.cell? ⟨b, o, none⟩).isSome = true; rw [h.sign]; rfl, h.free⟩
 ·have := h.words j (by omega)
  have e : o + (j + 1) = o + 1 + j := by omega
  rw [e]
  exact ⟨by rw [this.1]; rfl, this.2⟩
theorem IntO.set {w : World} {b o n m : Nat} {s t : Bool} (h : IntO w b o s n) : IntO (w.setCells b o [.bool t, .int .u64 (wd m 0 : Int), .int .u64 (wd m 1 : Int), .int .u64 (wd m 2 : Int), .int .u64 (wd m 3 : Int), .int .u64 (wd m 4 : Int), .int .u64 (wd m 5 : Int), .int .u64 (wd m 6 : Int), .int .u64 (wd m 7 : Int)]) b o t m :=
 IntO.of_range (World.rangeAt_setCells_same w b o _ h.there) fun i hi => by rw [World.frozen?_setCells]; exact (h.there i hi).2
theorem IntO.apart {w : World} {b o n p m : Nat} {s t : Bool} (h : IntO w b o s n) (hap : o + 9 ≤ p ∨ p + 9 ≤ o) : IntO (w.setCells b p [.bool t, .int .u64 (wd m 0 : Int), .int .u64 (wd m 1 : Int), .int .u64 (wd m 2 : Int), .int .u64 (wd m 3 : Int), .int .u64 (wd m 4 : Int), .int .u64 (wd m 5 : Int), .int .u64 (wd m 6 : Int), .int .u64 (wd m 7 : Int)]) b o s n := by
 have hh : ∀ q, o ≤ q → q < o + 9 → (w.setCells b p [.bool t, .int .u64 (wd m 0 : Int), .int .u64 (wd m 1 : Int), .int .u64 (wd m 2 : Int), .int .u64 (wd m 3 : Int), .int .u64 (wd m 4 : Int), .int .u64 (wd m 5 : Int), .int .u64 (wd m 6 : Int), .int .u64 (wd m 7 : Int)]).cell? ⟨b, q, none⟩ = w.cell? ⟨b, q, none⟩ := fun q h1 h2 =>
  World.cell?_setCells_out b _ p w ⟨b, q, none⟩ (fun _ _ => by
   show q < p ∨ p + 9 ≤ q
   omega)
 refine ⟨(hh o (Nat.le_refl _) (by omega)).trans h.sign, by rw [World.frozen?_setCells]; exact h.free, fun i hi => ⟨(hh (o + 1 + i) (by omega) (by omega)).trans (h.words i hi).1, by rw [World.frozen?_setCells]; exact (h.words i hi).2⟩⟩
theorem st18_eq (w : World) (b : Nat) (s : Bool) (n : Nat) (t : Bool) (d : Nat) : st18 w b s n t d = (w.setCells b 0 [.bool s, .int .u64 (wd n 0 : Int), .int .u64 (wd n 1 : Int), .int .u64 (wd n 2 : Int), .int .u64 (wd n 3 : Int), .int .u64 (wd n 4 : Int), .int .u64 (wd n 5 : Int), .int .u64 (wd n 6 : Int), .int .u64 (wd n 7 : Int)]).setCells b 9 [.bool t, .int .u64 (wd d 0 : Int), .int .u64 (wd d 1 : Int), .int .u64 (wd d 2 : Int), .int .u64 (wd d 3 : Int), .int .u64 (wd d 4 : Int), .int .u64 (wd d 5 : Int), .int .u64 (wd d 6 : Int), .int .u64 (wd d 7 : Int)] := rfl
theorem st18_at {w : World} {b n d n' d' : Nat} {s t s' t' : Bool} (h : RatAt w b s n t d) : RatAt (st18 w b s' n' t' d') b s' n' t' d' := by
 rw [st18_eq]
 exact ⟨h.num.set.apart (.inl (by omega)), IntO.set (h.den.apart (.inr (by omega)))⟩
theorem RatAt.range {w : World} {b n d : Nat} {s t : Bool} (h : RatAt w b s n t d) : w.rangeAt b 0 [.bool s, .int .u64 (wd n 0 : Int), .int .u64 (wd n 1 : Int), .int .u64 (wd n 2 : Int), .int .u64 (wd n 3 : Int), .int .u64 (wd n 4 : Int), .int .u64 (wd n 5 : Int), .int .u64 (wd n 6 : Int), .int .u64 (wd n 7 : Int), .bool t, .int .u64 (wd d 0 : Int), .int .u64 (wd d 1 : Int), .int .u64 (wd d 2 : Int), .int .u64 (wd d 3 : Int), .int .u64 (wd d 4 : Int), .int .u64 (wd d 5 : Int), .int .u64 (wd d 6 : Int), .int .u64 (wd d 7 : Int)] := by
 intro j v hv
 rw [Nat.zero_add]
 obtain ⟨⟨a0, x0⟩, ⟨a1, x1⟩, ⟨a2, x2⟩, ⟨a3, x3⟩, ⟨a4, x4⟩, ⟨a5, x5⟩, ⟨a6, x6⟩, ⟨a7, x7⟩, ⟨a8, x8⟩⟩ := h.num.nine0
 obtain ⟨⟨p0, y0⟩, ⟨p1, y1⟩, ⟨p2, y2⟩, ⟨p3, y3⟩, ⟨p4, y4⟩, ⟨p5, y5⟩, ⟨p6, y6⟩, ⟨p7, y7⟩, ⟨p8, y8⟩⟩ := h.den.nine9
 rcases j with _ | _ | _ | _ | _ | _ | _ | _ | _ | _ | _ | _ | _ | _ | _ | _ | _ | _ | j
 ·exact a0.trans hv
 ·exact a1.trans hv
 ·exact a2.trans hv
 ·exact a3.trans hv
 ·exact a4.trans hv
 ·exact a5.trans hv
 ·exact a6.trans hv
 ·exact a7.trans hv
 ·exact a8.trans hv
 ·exact p0.trans hv
 ·exact p1.trans hv
 ·exact p2.trans hv
 ·exact p3.trans hv
 ·exact p4.trans hv
 ·exact p5.trans hv
 ·exact p6.trans hv
 ·exact p7.trans hv
 ·exact p8.trans hv
 ·simp at hv
theorem RatAt.there {w : World} {b n d : Nat} {s t : Bool} (h : RatAt w b s n t d) : w.there b 0 18 := by
 intro j hj
 rcases Nat.lt_or_ge j 9 with h1 | h1
 ·exact h.num.there j h1
 ·have := h.den.there (j - 9) (by omega)
  have e : 9 + (j - 9) = 0 + j := by omega
  rwa [e] at this
theorem load_rat {W : World} {b n d : Nat} {s t : Bool} (h : RatAt W b s n t d) : (loadVar 27 ⟨b, 0, none⟩).run Tryz.prog W = .ok (ratV s n t d) W :=
 run_loadVar_mid W b 0 27 [.bool s, .int .u64 (wd n 0 : Int), .int .u64 (wd n 1 : Int), .int .u64 (wd n 2 : Int), .int .u64 (wd n 3 : Int), .int .u64 (wd n 4 : Int), .int .u64 (wd n 5 : Int), .int .u64 (wd n 6 : Int), .int .u64 (wd n 7 : Int), .bool t, .int .u64 (wd d 0 : Int), .int .u64 (wd d 1 : Int), .int .u64 (wd d 2 : Int), .int .u64 (wd d 3 : Int), .int .u64 (wd d 4 : Int), .int .u64 (wd d 5 : Int), .int .u64 (wd d 6 : Int), .int .u64 (wd d 7 : Int)] (.struct (Tryz.prog.fieldsOf 27)) h.range (by kernel_rfl) rfl (by kernel_rfl)
theorem results_rat {fn : Func} {p u : Tmp} (hf : fn.results = #[.cell p 27, .tmp u]) {tmps : Array Value} {W : World} {b n d : Nat} {s t : Bool} {v : Value} (hp : tmps.getD p undef = .pointer (some ⟨b, 0, none⟩)) (hu : tmps.getD u undef = v) (h : RatAt W b s n t d) :
  (results fn tmps).run Tryz.prog W = .ok (.tuple #[ratV s n t d, v]) W := by
 rw [results_cell_tmp hf, hp, hu]
 simp [asAddr, load_rat h]
theorem infoRat : (Tryz.prog.info? 27).map (·.size) = some 18 := by kernel_rfl
theorem wpList_load_rat {ops : Array Oper} {rest : List Oper} {op : Oper} {a : Act} {w : World} {Q : Exit → Act → World → Prop} (hgd : op.guard = none) (x : Operand) (ho : op.op = .load 27 x)
  {b n d : Nat} {s t : Bool} (hx : a.eval x = .pointer (some ⟨b, 0, none⟩)) (h : RatAt w b s n t d)
  (hK : wpList Tryz.prog ops Q rest (a.put op.dst (ratV s n t d)) w) : wpList Tryz.prog ops Q (op :: rest) a w :=
 wpList_load_mid hgd 27 x ho b 0 hx [.bool s, .int .u64 (wd n 0 : Int), .int .u64 (wd n 1 : Int), .int .u64 (wd n 2 : Int), .int .u64 (wd n 3 : Int), .int .u64 (wd n 4 : Int), .int .u64 (wd n 5 : Int), .int .u64 (wd n 6 : Int), .int .u64 (wd n 7 : Int), .bool t, .int .u64 (wd d 0 : Int), .int .u64 (wd d 1 : Int), .int .u64 (wd d 2 : Int), .int .u64 (wd d 3 : Int), .int .u64 (wd d 4 : Int), .int .u64 (wd d 5 : Int), .int .u64 (wd d 6 : Int), .int .u64 (wd d 7 : Int)] (.struct (Tryz.prog.fieldsOf 27)) h.range (by kernel_rfl) rfl (by kernel_rfl) hK
theorem wpList_store_rat {ops : Array Oper} {rest : List Oper} {op : Oper} {a : Act} {w : World} {Q : Exit → Act → World → Prop} (hgd : op.guard = none) (x y : Operand) (ho : op.op = .store 27 x y)
  {b n d n0 d0 : Nat} {s t s0 t0 : Bool} (hx : a.eval x = .pointer (some ⟨b, 0, none⟩)) (hy : a.eval y = ratV s n t d) (h : RatAt w b s0 n0 t0 d0)
  (hK : wpList Tryz.prog ops Q rest (a.put op.dst undef) (st18 w b s n t d)) : wpList Tryz.prog ops Q (op :: rest) a w :=
 wpList_store_mid hgd 27 x y ho b 0 #[.bool s, .int .u64 (wd n 0 : Int), .int .u64 (wd n 1 : Int), .int .u64 (wd n 2 : Int), .int .u64 (wd n 3 : Int), .int .u64 (wd n 4 : Int), .int .u64 (wd n 5 : Int), .int .u64 (wd n 6 : Int), .int .u64 (wd n 7 : Int), .bool t, .int .u64 (wd d 0 : Int), .int .u64 (wd d 1 : Int), .int .u64 (wd d 2 : Int), .int .u64 (wd d 3 : Int), .int .u64 (wd d 4 : Int), .int .u64 (wd d 5 : Int), .int .u64 (wd d 6 : Int), .int .u64 (wd d 7 : Int)] hx hy h.there infoRat (by simp [Value.oneCell']) hK
theorem wpList_box_rat {ops : Array Oper} {rest : List Oper} {op : Oper} {a : Act} {w : World} {Q : Exit → Act → World → Prop} (hgd : op.guard = none) (x : Operand) (ho : op.op = .box 27 x)
  {n d : Nat} {s t : Bool} (hx : a.eval x = ratV s n t d)
  (hK : wpList Tryz.prog ops Q rest (a.put op.dst (.pointer (some ⟨w.heap.size, 0, none⟩))) (w.alloc (boxR s n t d 27))) : wpList Tryz.prog ops Q (op :: rest) a w := by
 refine wpList_plain hgd fun K hK' => ?_
 have hrun : (Instr.box 27 (ratV s n t d)).run Tryz.prog w = .ok (.pointer (some ⟨w.heap.size, 0, none⟩)) (w.alloc (boxR s n t d 27)) := by
  unfold ratV
  go_simp
 unfold Oper.wp execOp
 simp only [ho, hx, Sem.run_bind, Sem.run_pure, Result.andThen_ok, hrun]
 exact hK' _ _ hK
theorem IntO.range {w : World} {b o n : Nat} {s : Bool} (h : IntO w b o s n) : w.rangeAt b o [.bool s, .int .u64 (wd n 0 : Int), .int .u64 (wd n 1 : Int), .int .u64 (wd n 2 : Int), .int .u64 (wd n 3 : Int), .int .u64 (wd n 4 : Int), .int .u64 (wd n 5 : Int), .int .u64 (wd n 6 : Int), .int .u64 (wd n 7 : Int)] := by
 intro j v hv
 rcases j with _ | j
 ·exact h.sign.trans hv
 ·have e : o + (j + 1) = o + 1 + j := by omega
  rw [e]
  have hj : j < 8 := by
   have := (List.getElem?_eq_some_iff.1 hv).1
   simp at this
   omega
  rw [(h.words j hj).1, ← hv]
  rcases j with _ | _ | _ | _ | _ | _ | _ | _ | j
  all_goals first | rfl | omega
theorem IntAt.o {w : World} {b n : Nat} {s : Bool} (h : IntAt w b s n) : IntO w b 0 s n := ⟨h.sign, h.free, h.words⟩
theorem IntO.at {w : World} {b n : Nat} {s : Bool} (h : IntO w b 0 s n) : IntAt w b s n := ⟨h.sign, h.free, h.words⟩
theorem infoInt : (Tryz.prog.info? 25).map (·.size) = some 9 := by kernel_rfl
theorem load_int {W : World} {b o n : Nat} {s : Bool} (h : IntO W b o s n) : (loadVar 25 ⟨b, o, none⟩).run Tryz.prog W = .ok (intV s n) W :=
 run_loadVar_mid W b o 25 [.bool s, .int .u64 (wd n 0 : Int), .int .u64 (wd n 1 : Int), .int .u64 (wd n 2 : Int), .int .u64 (wd n 3 : Int), .int .u64 (wd n 4 : Int), .int .u64 (wd n 5 : Int), .int .u64 (wd n 6 : Int), .int .u64 (wd n 7 : Int)] (.struct (Tryz.prog.fieldsOf 25)) h.range (by kernel_rfl) rfl (by kernel_rfl)
theorem results_int {fn : Func} {p u : Tmp} (hf : fn.results = #[.cell p 25, .tmp u]) {tmps : Array Value} {W : World} {b n : Nat} {s : Bool} {v : Value} (hp : tmps.getD p undef = .pointer (some ⟨b, 0, none⟩)) (hu : tmps.getD u undef = v) (h : IntAt W b s n) :
  (results fn tmps).run Tryz.prog W = .ok (.tuple #[intV s n, v]) W := by
 rw [results_cell_tmp hf, hp, hu]
 simp [asAddr, load_int h.o]
theorem results_rat1 {fn : Func} {p : Tmp} (hf : fn.results = #[.cell p 27]) {tmps : Array Value} {W : World} {b n d : Nat} {s t : Bool} (hp : tmps.getD p undef = .pointer (some ⟨b, 0, none⟩)) (h : RatAt W b s n t d) :
  (results fn tmps).run Tryz.prog W = .ok (ratV s n t d) W := by
 rw [results_cell1 hf, hp]
 simp [asAddr, load_rat h]
theorem wpList_load_int {ops : Array Oper} {rest : List Oper} {op : Oper} {a : Act} {w : World} {Q : Exit → Act → World → Prop} (hgd : op.guard = none) (x : Operand) (ho : op.op = .load 25 x)
  {b o n : Nat} {s : Bool} (hx : a.eval x = .pointer (some ⟨b, o, none⟩)) (h : IntO w b o s n)
  (hK : wpList Tryz.prog ops Q rest (a.put op.dst (intV s n)) w) : wpList Tryz.prog ops Q (op :: rest) a w :=
 wpList_load_mid hgd 25 x ho b o hx [.bool s, .int .u64 (wd n 0 : Int), .int .u64 (wd n 1 : Int), .int .u64 (wd n 2 : Int), .int .u64 (wd n 3 : Int), .int .u64 (wd n 4 : Int), .int .u64 (wd n 5 : Int), .int .u64 (wd n 6 : Int), .int .u64 (wd n 7 : Int)] (.struct (Tryz.prog.fieldsOf 25)) h.range (by kernel_rfl) rfl (by kernel_rfl) hK
theorem st9_eq (w : World) (b : Nat) (s : Bool) (n : Nat) : st9 w b s n = w.setCells b 0 [.bool s, .int .u64 (wd n 0 : Int), .int .u64 (wd n 1 : Int), .int .u64 (wd n 2 : Int), .int .u64 (wd n 3 : Int), .int .u64 (wd n 4 : Int), .int .u64 (wd n 5 : Int), .int .u64 (wd n 6 : Int), .int .u64 (wd n 7 : Int)] := rfl
theorem wpList_store_int {ops : Array Oper} {rest : List Oper} {op : Oper} {a : Act} {w : World} {Q : Exit → Act → World → Prop} (hgd : op.guard = none) (x y : Operand) (ho : op.op = .store 25 x y)
  {b n n0 : Nat} {s s0 : Bool} (hx : a.eval x = .pointer (some ⟨b, 0, none⟩)) (hy : a.eval y = intV s n) (h : IntAt w b s0 n0)
  (hK : wpList Tryz.prog ops Q rest (a.put op.dst undef) (st9 w b s n)) : wpList Tryz.prog ops Q (op :: rest) a w :=
 wpList_store_mid hgd 25 x y ho b 0 #[.bool s, .int .u64 (wd n 0 : Int), .int .u64 (wd n 1 : Int), .int .u64 (wd n 2 : Int), .int .u64 (wd n 3 : Int), .int .u64 (wd n 4 : Int), .int .u64 (wd n 5 : Int), .int .u64 (wd n 6 : Int), .int .u64 (wd n 7 : Int)] hx hy h.o.there infoInt (by simp [Value.oneCell']) hK
theorem wpList_box_int {ops : Array Oper} {rest : List Oper} {op : Oper} {a : Act} {w : World} {Q : Exit → Act → World → Prop} (hgd : op.guard = none) (x : Operand) (ho : op.op = .box 25 x)
  {n : Nat} {s : Bool} (hx : a.eval x = intV s n)
  (hK : wpList Tryz.prog ops Q rest (a.put op.dst (.pointer (some ⟨w.heap.size, 0, none⟩))) (w.alloc (boxI s n 25))) : wpList Tryz.prog ops Q (op :: rest) a w := by
 refine wpList_plain hgd fun K hK' => ?_
 have hrun : (Instr.box 25 (intV s n)).run Tryz.prog w = .ok (.pointer (some ⟨w.heap.size, 0, none⟩)) (w.alloc (boxI s n 25)) := by
  unfold intV
  go_simp
 unfold Oper.wp execOp
 simp only [ho, hx, Sem.run_bind, Sem.run_pure, Result.andThen_ok, hrun]
 exact hK' _ _ hK
theorem ld_int {op : Oper} {a : Act} {w : World} (x : Operand) (ho : op.op = .load 25 x) {b o n : Nat} {s : Bool} (hx : a.eval x = .pointer (some ⟨b, o, none⟩)) (h : IntO w b o s n) : (execOp a.eval op).run Tryz.prog w = .ok (.value (intV s n)) w := by
 unfold execOp
 simp only [ho, hx, Instr.loadAt, Instr.sureAddr, Sem.run_bind, Sem.run_pure, Result.andThen_ok, load_int h]
theorem ld_rat {op : Oper} {a : Act} {w : World} (x : Operand) (ho : op.op = .load 27 x) {b n d : Nat} {s t : Bool} (hx : a.eval x = .pointer (some ⟨b, 0, none⟩)) (h : RatAt w b s n t d) : (execOp a.eval op).run Tryz.prog w = .ok (.value (ratV s n t d)) w := by
 unfold execOp
 simp only [ho, hx, Instr.loadAt, Instr.sureAddr, Sem.run_bind, Sem.run_pure, Result.andThen_ok, load_rat h]
theorem stores_rat {op : Oper} {a : Act} {w : World} {K : Act → World → Prop} {Q : Exit → Act → World → Prop} (x y : Operand) (ho : op.op = .store 27 x y)
  {b n d n0 d0 : Nat} {s t s0 t0 : Bool} (hx : a.eval x = .pointer (some ⟨b, 0, none⟩)) (hy : a.eval y = ratV s n t d) (h : RatAt w b s0 n0 t0 d0) (hK : K (a.put op.dst undef) (st18 w b s n t d)) : op.wp Tryz.prog a w K Q :=
 wp_store_mid 27 x y ho b 0 #[.bool s, .int .u64 (wd n 0 : Int), .int .u64 (wd n 1 : Int), .int .u64 (wd n 2 : Int), .int .u64 (wd n 3 : Int), .int .u64 (wd n 4 : Int), .int .u64 (wd n 5 : Int), .int .u64 (wd n 6 : Int), .int .u64 (wd n 7 : Int), .bool t, .int .u64 (wd d 0 : Int), .int .u64 (wd d 1 : Int), .int .u64 (wd d 2 : Int), .int .u64 (wd d 3 : Int), .int .u64 (wd d 4 : Int), .int .u64 (wd d 5 : Int), .int .u64 (wd d 6 : Int), .int .u64 (wd d 7 : Int)] hx hy h.there infoRat (by simp [Value.oneCell']) hK
theorem build_rat {a : Act} {w : World} {op : Oper} {x y : Operand} (ho : op.op = .build 27 #[(0, x), (1, y)]) {s t : Bool} {n d : Nat} (hx : a.eval x = intV s n) (hy : a.eval y = intV t d) : (execOp a.eval op).run Tryz.prog w = .ok (.value (ratV s n t d)) w := by
 have hrun : (Instr.build 27 #[(0, intV s n), (1, intV t d)]).run Tryz.prog w = .ok (ratV s n t d) w := by
  unfold intV ratV
  go_simp
 unfold execOp
 simp only [ho, List.map_toArray, List.map_cons, List.map_nil, hx, hy, hrun, Sem.run_bind, Sem.run_pure, Result.andThen_ok]
theorem wpList_build_rat {ops : Array Oper} {rest : List Oper} {op : Oper} {a : Act} {w : World} {Q : Exit → Act → World → Prop} (hgd : op.guard = none) (x y : Operand) (ho : op.op = .build 27 #[(0, x), (1, y)])
  {n d : Nat} {s t : Bool} (hx : a.eval x = intV s n) (hy : a.eval y = intV t d)
  (hK : wpList Tryz.prog ops Q rest (a.put op.dst (ratV s n t d)) w) : wpList Tryz.prog ops Q (op :: rest) a w := by
 refine wpList_plain hgd fun K hK' => ?_
 unfold Oper.wp
 rw [build_rat ho hx hy]
 exact hK' _ _ hK
theorem alloc_rat {a : Act} {w : World} {op : Oper} (ho : op.op = .alloc 27) : (execOp a.eval op).run Tryz.prog w = .ok (.value (.pointer (some ⟨w.heap.size, 0, none⟩))) (w.alloc (boxRZ 27)) := by
 unfold execOp
 simp only [ho]
 go_simp
end Go.Proofs.YtgoemhcngmpfbaaGreatDoor
namespace Go.Proofs.YtgoemhcngmpfbaaGreatDoor
open Go.RowKit Go.Sort
theorem WordsF.drew1 {w : World} {b o k : Nat} {f : Nat → Nat} (h : WordsF w b o f k) : WordsF w.drew b o f k := h
theorem drew_size (w : World) : w.drew.heap.size = w.heap.size := rfl
def st8 (w : World) (b n : Nat) : World := ((((((((w.setCell ⟨b, 0, none⟩ (.int .u64 (wd n 0 : Int))).setCell ⟨b, 1, none⟩ (.int .u64 (wd n 1 : Int))).setCell ⟨b, 2, none⟩ (.int .u64 (wd n 2 : Int))).setCell ⟨b, 3, none⟩ (.int .u64 (wd n 3 : Int))).setCell ⟨b, 4, none⟩ (.int .u64 (wd n 4 : Int))).setCell ⟨b, 5, none⟩ (.int .u64 (wd n 5 : Int))).setCell ⟨b, 6, none⟩ (.int .u64 (wd n 6 : Int))).setCell ⟨b, 7, none⟩ (.int .u64 (wd n 7 : Int)))
theorem st8_but (w : World) (b n : Nat) : But1 w (st8 w b n) b := But1.set8 w b _ _ _ _ _ _ _ _
theorem st8_at {w : World} {b n : Nat} {f : Nat → Nat} (h : WordsF w b 0 f 8) : WordsAt (st8 w b n) b 0 n 8 := h.set8 (g := wd n)
set_option maxRecDepth 100000 in
set_option maxHeartbeats 4000000 in
theorem Gcd_run (s : Bool) (n : Nat) (t : Bool) (m : Nat) (w : World) (hn : Hid (Fits n)) (hm : Hid (Fits m)) :
    Calls Tryz.prog 38 #[intV s n, intV t m] w fun e w' => e = .returned (intV false (Nat.gcd n m)) ∧ Below w.heap.size w w' := by
  obtain ⟨S, hS⟩ : ∃ S, w.heap.size = S := ⟨_, rfl⟩
  obtain ⟨W, hW⟩ : ∃ W, ((w.alloc (boxI s n 25)).alloc (boxI t m 25)).alloc (boxIZ 25) = W := ⟨_, rfl⟩
  have T := three_ints w s n t m 25 25 25
  rw [hW, hS] at T
  have HT := Lib.hid T
  obtain ⟨⟨a0, b0⟩, ⟨a1, b1⟩, ⟨a2, b2⟩, ⟨a3, b3⟩, ⟨a4, b4⟩, ⟨a5, b5⟩, ⟨a6, b6⟩, ⟨a7, b7⟩, ⟨a8, b8⟩⟩ := T.1.nine
  obtain ⟨⟨c0, d0⟩, ⟨c1, d1⟩, ⟨c2, d2⟩, ⟨c3, d3⟩, ⟨c4, d4⟩, ⟨c5, d5⟩, ⟨c6, d6⟩, ⟨c7, d7⟩, ⟨c8, d8⟩⟩ := T.2.1.nine
  clear T
  rw [hS]
  obtain ⟨g, hg⟩ : ∃ g, Nat.gcd n m = g := ⟨_, rfl⟩
  rw [hg]
  have HG0 := Lib.hid hg
  clear hg
  unfold intV
  go_enter Tryz.func38, Tryz.ntmps38
  have hWs : W.heap.size = S + 1 + 1 + 1 := HT.out.2.2.2.2
  have hWa : (W.alloc (boxZ 119)).heap.size = S + 1 + 1 + 1 + 1 := by simp [hWs]
  have A1 := HT.out.1.alloc (by omega) (boxZ 119)
  have A2 := A1.alloc (by omega) (boxZ 119)
  have C1 := HT.out.2.1.alloc (by omega) (boxZ 119)
  have C2 := C1.alloc (by omega) (boxZ 119)
  obtain ⟨⟨p0, p0'⟩, ⟨p1, p1'⟩, ⟨p2, p2'⟩, ⟨p3, p3'⟩, ⟨p4, p4'⟩, ⟨p5, p5'⟩, ⟨p6, p6'⟩, ⟨p7, p7'⟩⟩ := A1.drew.words.eightAt1
  obtain ⟨⟨q0, q0'⟩, ⟨q1, q1'⟩, ⟨q2, q2'⟩, ⟨q3, q3'⟩, ⟨q4, q4'⟩, ⟨q5, q5'⟩, ⟨q6, q6'⟩, ⟨q7, q7'⟩⟩ := A2.drew.words.eightAt1
  obtain ⟨⟨x0, x0'⟩, ⟨x1, x1'⟩, ⟨x2, x2'⟩, ⟨x3, x3'⟩, ⟨x4, x4'⟩, ⟨x5, x5'⟩, ⟨x6, x6'⟩, ⟨x7, x7'⟩⟩ := C1.drew.words.eightAt1
  obtain ⟨⟨y0, y0'⟩, ⟨y1, y1'⟩, ⟨y2, y2'⟩, ⟨y3, y3'⟩, ⟨y4, y4'⟩, ⟨y5, y5'⟩, ⟨y6, y6'⟩, ⟨y7, y7'⟩⟩ := C2.drew.words.eightAt1
  clear A1 A2 C1 C2
  go_wp2_with fail
  go_region
  all_goals go_upto_region 2 with fail
  all_goals first
  | (have hz1 : (W.alloc (boxO n 119)).heap.size = S + 1 + 1 + 1 + 1 := by simp [hWs]
     have hz2 : ((W.alloc (boxO n 119)).alloc (boxO m 119)).heap.size = S + 1 + 1 + 1 + 1 + 1 := by simp [hWs]
     show Code.wp _ _ _ _ ((W.alloc (boxO n 119)).alloc (boxO m 119)).drew
     have P2 := two_boxes W n m 119 119
     rw [hWs] at P2
     have KX := Lib.hid (show WordsAt ((W.alloc (boxO n 119)).alloc (boxO m 119)).drew (S + 1 + 1 + 1) 0 n 8 from P2.1)
     have KY := Lib.hid (show WordsAt ((W.alloc (boxO n 119)).alloc (boxO m 119)).drew (S + 1 + 1 + 1 + 1) 0 m 8 from P2.2.1)
     have KZ := Lib.hid ((HT.out.2.2.1.alloc (by omega) (boxO n 119)).alloc (by omega) (boxO m 119)).drew
     have KB : Hid (Below S w ((W.alloc (boxO n 119)).alloc (boxO m 119)).drew) := ((HT.out.2.2.2.1.alloc (by omega) _).alloc (by omega) _).drew
     have Ks : Hid (((W.alloc (boxO n 119)).alloc (boxO m 119)).drew.heap.size = S + 1 + 1 + 1 + 1 + 1) := hz2
     generalize ((W.alloc (boxO n 119)).alloc (boxO m 119)).drew = wx at *
     obtain ⟨X, hX⟩ : ∃ X, (S + 1 + 1 + 1) = X := ⟨_, rfl⟩
     obtain ⟨Y, hY⟩ : ∃ Y, (S + 1 + 1 + 1 + 1) = Y := ⟨_, rfl⟩
     have HXY : Hid (X ≠ Y ∧ X ≠ S + 1 + 1 ∧ Y ≠ S + 1 + 1 ∧ X < S + 1 + 1 + 1 + 1 + 1 ∧ Y < S + 1 + 1 + 1 + 1 + 1 ∧ S ≤ X ∧ S ≤ Y) := by show _ ∧ _; omega
     rw [hY, hX]
     rw [hX] at KX
     rw [hY] at KY
     clear P2 hz1 hz2 hX hY)
  | (have hz1 : (W.alloc (boxO m 119)).heap.size = S + 1 + 1 + 1 + 1 := by simp [hWs]
     have hz2 : ((W.alloc (boxO m 119)).alloc (boxO n 119)).heap.size = S + 1 + 1 + 1 + 1 + 1 := by simp [hWs]
     show Code.wp _ _ _ _ ((W.alloc (boxO m 119)).alloc (boxO n 119)).drew
     have P2 := two_boxes W m n 119 119
     rw [hWs] at P2
     have KX := Lib.hid (show WordsAt ((W.alloc (boxO m 119)).alloc (boxO n 119)).drew (S + 1 + 1 + 1 + 1) 0 n 8 from P2.2.1)
     have KY := Lib.hid (show WordsAt ((W.alloc (boxO m 119)).alloc (boxO n 119)).drew (S + 1 + 1 + 1) 0 m 8 from P2.1)
     have KZ := Lib.hid ((HT.out.2.2.1.alloc (by omega) (boxO m 119)).alloc (by omega) (boxO n 119)).drew
     have KB : Hid (Below S w ((W.alloc (boxO m 119)).alloc (boxO n 119)).drew) := ((HT.out.2.2.2.1.alloc (by omega) _).alloc (by omega) _).drew
     have Ks : Hid (((W.alloc (boxO m 119)).alloc (boxO n 119)).drew.heap.size = S + 1 + 1 + 1 + 1 + 1) := hz2
     generalize ((W.alloc (boxO m 119)).alloc (boxO n 119)).drew = wx at *
     obtain ⟨X, hX⟩ : ∃ X, (S + 1 + 1 + 1 + 1) = X := ⟨_, rfl⟩
     obtain ⟨Y, hY⟩ : ∃ Y, (S + 1 + 1 + 1) = Y := ⟨_, rfl⟩
     have HXY : Hid (X ≠ Y ∧ X ≠ S + 1 + 1 ∧ Y ≠ S + 1 + 1 ∧ X < S + 1 + 1 + 1 + 1 + 1 ∧ Y < S + 1 + 1 + 1 + 1 + 1 ∧ S ≤ X ∧ S ≤ Y) := by show _ ∧ _; omega
     rw [hX, hY]
     rw [hX] at KX
     rw [hY] at KY
     clear P2 hz1 hz2 hX hY)
  all_goals
    clear HT hW hWs hWa a0 a1 a2 a3 a4 a5 a6 a7 a8 b0 b1 b2 b3 b4 b5 b6 b7 b8 c0 c1 c2 c3 c4 c5 c6 c7 c8 d0 d1 d2 d3 d4 d5 d6 d7 d8 p0 p1 p2 p3 p4 p5 p6 p7 p0' p1' p2' p3' p4' p5' p6' p7' q0 q1 q2 q3 q4 q5 q6 q7 q0' q1' q2' q3' q4' q5' q6' q7' x0 x1 x2 x3 x4 x5 x6 x7 x0' x1' x2' x3' x4' x5' x6' x7' y0 y1 y2 y3 y4 y5 y6 y7 y0' y1' y2' y3' y4' y5' y6' y7'
    go_wp2_with fail
    go_loopg [16] (m + 1) (fun h s16 wr => ∃ (x y : Nat), Hid (y < h) ∧ Hid (Nat.gcd x y = g) ∧ Hid (Fits x ∧ Fits y) ∧ Hid (WordsAt wr X 0 x 8) ∧ Hid (WordsAt wr Y 0 y 8) ∧ Hid (IntAt wr (S + 1 + 1) false 0) ∧ Hid (Below S w wr) ∧ Hid (S + 1 + 1 + 1 + 1 + 1 ≤ wr.heap.size))
    case atStart => exact ⟨n, m, Nat.lt_succ_self m, HG0, ⟨hn.out, hm.out⟩, KX, KY, KZ, KB, Nat.le_of_eq Ks.out.symm⟩
    case round =>
      clear KX KY KZ KB Ks HG0
      obtain ⟨x, y, HY, HG, HF, KX, KY, KZ, KB, Ks⟩ := hrel
      have hne := fun W => neWords y 0 W HF.out.2 (Nat.pow_pos (by decide))
      simp only [wordsV, wd_zero, Int.natCast_zero] at hne
      obtain ⟨⟨a0, b0⟩, ⟨a1, b1⟩, ⟨a2, b2⟩, ⟨a3, b3⟩, ⟨a4, b4⟩, ⟨a5, b5⟩, ⟨a6, b6⟩, ⟨a7, b7⟩⟩ := KX.out.eight
      obtain ⟨⟨c0, d0⟩, ⟨c1, d1⟩, ⟨c2, d2⟩, ⟨c3, d3⟩, ⟨c4, d4⟩, ⟨c5, d5⟩, ⟨c6, d6⟩, ⟨c7, d7⟩⟩ := KY.out.eight
      by_cases hy : y = 0
      · subst hy
        have HV : Hid (x = g) := by have := HG.out; rwa [Nat.gcd_zero_right] at this
        rw [decide_eq_true rfl] at hne
        obtain ⟨⟨g0, h0⟩, ⟨g1, h1⟩, ⟨g2, h2⟩, ⟨g3, h3⟩, ⟨g4, h4⟩, ⟨g5, h5⟩, ⟨g6, h6⟩, ⟨g7, h7⟩, ⟨g8, h8⟩⟩ := KZ.out.nine
        go_wp2_with fail
        refine bodyPost_ret (v := intV false x) (by rw [results_cell1 rfl]; go_simp; try rfl) rfl ⟨by rw [HV.out]; rfl, ?_⟩
        exact (st9_but wr (S + 1 + 1) false x).2.1 S w (by omega) KB.out
      · rw [decide_eq_false hy] at hne
        have HC := Lib.hid (fun W => divide_run x y W HF.out.1 HF.out.2 (by omega))
        obtain ⟨q, hq⟩ : ∃ q, x / y = q := ⟨_, rfl⟩
        obtain ⟨r, hr⟩ : ∃ r, x % y = r := ⟨_, rfl⟩
        rw [hq, hr] at HC
        have HR : Hid (r < y ∧ Nat.gcd y r = g ∧ Fits r) := by
          have h1 := Nat.mod_lt x (show y > 0 by omega)
          rw [hr] at h1
          refine ⟨h1, ?_, Nat.lt_trans h1 HF.out.2⟩
          rw [← HG.out, ← hr, Nat.gcd_comm x y, Nat.gcd_rec y x, Nat.gcd_comm]
        unfold wordsV at HC
        clear hq hr hy
        go_wp2_with fail
        refine (HC.out _).mono ?_
        rintro e w1 ⟨rfl, hw1⟩
        have hxy := HXY.out
        have hks := Ks.out
        have LX := KX.out.keep hw1 (by omega)
        have LY := KY.out.keep hw1 (by omega)
        have LZ := KZ.out.keep hw1 (by omega)
        have LB : Below S w w1 := KB.out.trans (hw1.mono (by omega))
        have ls : S + 1 + 1 + 1 + 1 + 1 ≤ w1.heap.size := Nat.le_trans hks hw1.size
        obtain ⟨R, hR⟩ : ∃ R, w1.heap.size = R := ⟨_, rfl⟩
        rw [hR] at ls
        have hs1 : (w1.alloc (boxO q 119)).heap.size = R + 1 := by simp [hR]
        have hs2 : ((w1.alloc (boxO q 119)).alloc (boxO r 119)).heap.size = R + 1 + 1 := by simp [hR]
        have P2 := (two_boxes w1 q r 119 119).2.1
        have M1 := (LX.alloc (by omega) (boxO q 119)).alloc (by omega) (boxO r 119)
        have M2 := (LY.alloc (by omega) (boxO q 119)).alloc (by omega) (boxO r 119)
        have M3 := (LZ.alloc (by omega) (boxO q 119)).alloc (by omega) (boxO r 119)
        have M4 : Below S w ((w1.alloc (boxO q 119)).alloc (boxO r 119)) := (LB.alloc (by omega) _).alloc (by omega) _
        rw [hR] at P2
        obtain ⟨wy, hwy⟩ : ∃ wy, (w1.alloc (boxO q 119)).alloc (boxO r 119) = wy := ⟨_, rfl⟩
        rw [hwy] at P2 M1 M2 M3 M4 hs2
        clear hw1 LX LY LZ LB KX KY KZ KB Ks hs1 a0 a1 a2 a3 a4 a5 a6 a7 b0 b1 b2 b3 b4 b5 b6 b7 c0 c1 c2 c3 c4 c5 c6 c7 d0 d1 d2 d3 d4 d5 d6 d7 HC hne hxy hks
        go_upto_region 4 with fail
        have N1 := Lib.hid M1
        have N2 := Lib.hid M2
        have N3 := Lib.hid M3
        have N4 := Lib.hid M4
        have N5 := Lib.hid hs2
        have N6 := Lib.hid ls
        obtain ⟨⟨a0, b0⟩, ⟨a1, b1⟩, ⟨a2, b2⟩, ⟨a3, b3⟩, ⟨a4, b4⟩, ⟨a5, b5⟩, ⟨a6, b6⟩, ⟨a7, b7⟩⟩ := M1.eight
        obtain ⟨⟨c0, d0⟩, ⟨c1, d1⟩, ⟨c2, d2⟩, ⟨c3, d3⟩, ⟨c4, d4⟩, ⟨c5, d5⟩, ⟨c6, d6⟩, ⟨c7, d7⟩⟩ := M2.eight
        obtain ⟨⟨e0, f0⟩, ⟨e1, f1⟩, ⟨e2, f2⟩, ⟨e3, f3⟩, ⟨e4, f4⟩, ⟨e5, f5⟩, ⟨e6, f6⟩, ⟨e7, f7⟩⟩ := P2.eight
        have hne1 : ¬ X = Y := HXY.out.1
        have hne2 : ¬ Y = X := fun h => HXY.out.1 h.symm
        have hlx := HXY.out
        have hne3 : ¬ X = R + 1 := by omega
        have hne4 : ¬ R + 1 = X := by omega
        have hne5 : ¬ Y = R + 1 := by omega
        have hne6 : ¬ R + 1 = Y := by omega
        clear hlx
        clear hwy P2 M1 M2 M3 M4 hs2 ls hR
        go_region
        show Exit.inBlock _ _ _ _ (st8 (st8 wy X y) Y r).drew
        have b1' := st8_but wy X y
        have b2' := st8_but (st8 wy X y) Y r
        have KX := Lib.hid ((st8_at (n := y) N1.out).but b2' hne1)
        have KY := Lib.hid (st8_at (n := r) (N2.out.but b1' hne2))
        have KZ := Lib.hid ((N3.out.but b1' (fun h => HXY.out.2.1 h.symm)).but b2' (fun h => HXY.out.2.2.1 h.symm)).drew
        have KB := Lib.hid (b2'.2.1 S w (by have := HXY.out; omega) (b1'.2.1 S w (by have := HXY.out; omega) N4.out)).drew
        have Ks : Hid (S + 1 + 1 + 1 + 1 + 1 ≤ (st8 (st8 wy X y) Y r).heap.size) := by show _ ≤ _; rw [b2'.2.2, b1'.2.2, N5.out]; have := N6.out; omega
        have KX' : Hid (WordsAt (st8 (st8 wy X y) Y r).drew X 0 y 8) := WordsF.drew1 KX.out
        have KY' : Hid (WordsAt (st8 (st8 wy X y) Y r).drew Y 0 r 8) := WordsF.drew1 KY.out
        have Ks' : Hid (S + 1 + 1 + 1 + 1 + 1 ≤ (st8 (st8 wy X y) Y r).drew.heap.size) := Lib.hid (Nat.le_trans Ks.out (Nat.le_of_eq (drew_size _).symm))
        clear b1' b2' KX KY Ks N1 N2 N3 N4 N5 N6 a0 a1 a2 a3 a4 a5 a6 a7 b0 b1 b2 b3 b4 b5 b6 b7 c0 c1 c2 c3 c4 c5 c6 c7 d0 d1 d2 d3 d4 d5 d6 d7 e0 e1 e2 e3 e4 e5 e6 e7 f0 f1 f2 f3 f4 f5 f6 f7 hne1 hne2 hne3 hne4 hne5 hne6
        generalize (st8 (st8 wy X y) Y r).drew = wz at *
        go_wp2_with fail
        go_roundg y
        case measure => have := HY.out; omega
        case rel => exact ⟨y, r, HR.out.1, HR.out.2.1, ⟨HF.out.2, HR.out.2.2⟩, KX', KY', KZ, KB, Ks'⟩
end Go.Proofs.YtgoemhcngmpfbaaGreatDoor
