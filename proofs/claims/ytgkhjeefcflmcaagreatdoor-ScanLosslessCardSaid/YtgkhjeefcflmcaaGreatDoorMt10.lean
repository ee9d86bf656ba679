/-
  Stage 8: a ratio as a value and in its box; '==' of numbers and of ratios.
-/
import Derived.Test.YtgkhjeefcflmcaaGreatDoorMt09
import Derived.Test.YtgkhjeefcflmcaaGreatDoorMt00
import Derived.Deep.RegionHeld3
import Derived.Laws.EntriesVeiled
namespace Go.Proofs.YtgkhjeefcflmcaaGreatDoor
open Go.RowKit Go.Sort
structure IntO (w : World) (b o : Nat) (s : Bool) (n : Nat) : Prop where
 sign : w.cell? ⟨b, o, none⟩ = some (.bool s)
 free : w.frozen? ⟨b, o, none⟩ = false
 words : WordsAt w b (o + 1) n 8
theorem IntO.keep {w w' : World} {b o n B : Nat} {s : Bool} (h : IntO w b o s n) (hb : Below B w w') (hB : b < B) : IntO w' b o s n :=
 ⟨(hb.cell (p := ⟨b, o, none⟩) hB).trans h.sign, (hb.frozen (p := ⟨b, o, none⟩) hB).trans h.free, h.words.keep hb hB⟩
theorem IntO.but {w w' : World} {b o c n : Nat} {s : Bool} (h : IntO w b o s n) (hw : But1 w w' c) (hne : b ≠ c) : IntO w' b o s n :=
 ⟨(hw.1 ⟨b, o, none⟩ hne).1.trans h.sign, (hw.1 ⟨b, o, none⟩ hne).2.trans h.free, h.words.but hw hne⟩
theorem IntO.drew {w : World} {b o n : Nat} {s : Bool} (h : IntO w b o s n) : IntO w.drew b o s n := ⟨h.sign, h.free, h.words⟩
theorem IntO.ste {w w' : World} {b o c k n : Nat} {s : Bool} (h : IntO w c o s n) (g : Ste w w' b k) (hc : c < w.heap.size) (hne : c ≠ b ∨ 0 < o) : IntO w' c o s n :=
 ⟨(g.cell c o hc (by omega)).trans h.sign, (g.free c o hc).trans h.free, fun i hi => ⟨(g.cell c (o + 1 + i) hc (by omega)).trans (h.words i hi).1, (g.free c (o + 1 + i) hc).trans (h.words i hi).2⟩⟩
theorem IntO.nine0 {w : World} {b n : Nat} {s : Bool} (h : IntO w b 0 s n) : (w.cell? ⟨b, 0, none⟩ = some (.bool s) ∧ w.frozen? ⟨b, 0, none⟩ = false) ∧ (w.cell? ⟨b, 1, none⟩ = some (.int .u64 (wd n 0 : Int)) ∧ w.frozen? ⟨b, 1, none⟩ = false) ∧ (w.cell? ⟨b, 2, none⟩ = some (.int .u64 (wd n 1 : Int)) ∧ w.frozen? ⟨b, 2, none⟩ = false) ∧ (w.cell? ⟨b, 3, none⟩ = some (.int .u64 (wd n 2 : Int)) ∧ w.frozen? ⟨b, 3, none⟩ = false) ∧ (w.cell? ⟨b, 4, none⟩ = some (.int .u64 (wd n 3 : Int)) ∧ w.frozen? ⟨b, 4, none⟩ = false) ∧ (w.cell? ⟨b, 5, none⟩ = some (.int .u64 (wd n 4 : Int)) ∧ w.frozen? ⟨b, 5, none⟩ = false) ∧ (w.cell? ⟨b, 6, none⟩ = some (.int .u64 (wd n 5 : Int)) ∧ w.frozen? ⟨b, 6, none⟩ = false) ∧ (w.cell? ⟨b, 7, none⟩ = some (.int .u64 (wd n 6 : Int)) ∧ w.frozen? ⟨b, 7, none⟩ = false) ∧ (w.cell? ⟨b, 8, none⟩ = some (.int .u64 (wd n 7 : Int)) ∧ w.frozen? ⟨b, 8, none⟩ = false) :=
 ⟨⟨h.sign, h.free⟩, h.words 0 (by decide), h.words 1 (by decide), h.words 2 (by decide), h.words 3 (by decide), h.words 4 (by decide), h.words 5 (by decide), h.words 6 (by decide), h.words 7 (by decide)⟩
theorem IntO.nine9 {w : World} {b n : Nat} {s : Bool} (h : IntO w b 9 s n) : (w.cell? ⟨b, 9, none⟩ = some (.bool s) ∧ w.frozen? ⟨b, 9, none⟩ = false) ∧ (w.cell? ⟨b, 10, none⟩ = some (.int .u64 (wd n 0 : Int)) ∧ w.frozen? ⟨b, 10, none⟩ = false) ∧ (w.cell? ⟨b, 11, none⟩ = some (.int .u64 (wd n 1 : Int)) ∧ w.frozen? ⟨b, 11, none⟩ = false) ∧ (w.cell? ⟨b, 12, none⟩ = some (.int .u64 (wd n 2 : Int)) ∧ w.frozen? ⟨b, 12, none⟩ = false) ∧ (w.cell? ⟨b, 13, none⟩ = some (.int .u64 (wd n 3 : Int)) ∧ w.frozen? ⟨b, 13, none⟩ = false) ∧ (w.cell? ⟨b, 14, none⟩ = some (.int .u64 (wd n 4 : Int)) ∧ w.frozen? ⟨b, 14, none⟩ = false) ∧ (w.cell? ⟨b, 15, none⟩ = some (.int .u64 (wd n 5 : Int)) ∧ w.frozen? ⟨b, 15, none⟩ = false) ∧ (w.cell? ⟨b, 16, none⟩ = some (.int .u64 (wd n 6 : Int)) ∧ w.frozen? ⟨b, 16, none⟩ = false) ∧ (w.cell? ⟨b, 17, none⟩ = some (.int .u64 (wd n 7 : Int)) ∧ w.frozen? ⟨b, 17, none⟩ = false) :=
 ⟨⟨h.sign, h.free⟩, h.words 0 (by decide), h.words 1 (by decide), h.words 2 (by decide), h.words 3 (by decide), h.words 4 (by decide), h.words 5 (by decide), h.words 6 (by decide), h.words 7 (by decide)⟩
def ratV (s : Bool) (n : Nat) (t : Bool) (d : Nat) : Value := .agg #[.bool s, .int .u64 (wd n 0 : Int), .int .u64 (wd n 1 : Int), .int .u64 (wd n 2 : Int), .int .u64 (wd n 3 : Int), .int .u64 (wd n 4 : Int), .int .u64 (wd n 5 : Int), .int .u64 (wd n 6 : Int), .int .u64 (wd n 7 : Int), .bool t, .int .u64 (wd d 0 : Int), .int .u64 (wd d 1 : Int), .int .u64 (wd d 2 : Int), .int .u64 (wd d 3 : Int), .int .u64 (wd d 4 : Int), .int .u64 (wd d 5 : Int), .int .u64 (wd d 6 : Int), .int .u64 (wd d 7 : Int)]
abbrev boxR (s : Bool) (n : Nat) (t : Bool) (d : Nat) (T : TypeId) : Obj := .cells #[.bool s, .int .u64 (wd n 0 : Int), .int .u64 (wd n 1 : Int), .int .u64 (wd n 2 : Int), .int .u64 (wd n 3 : Int), .int .u64 (wd n 4 : Int), .int .u64 (wd n 5 : Int), .int .u64 (wd n 6 : Int), .int .u64 (wd n 7 : Int), .bool t, .int .u64 (wd d 0 : Int), .int .u64 (wd d 1 : Int), .int .u64 (wd d 2 : Int), .int .u64 (wd d 3 : Int), .int .u64 (wd d 4 : Int), .int .u64 (wd d 5 : Int), .int .u64 (wd d 6 : Int), .int .u64 (wd d 7 : Int)] T
structure RatAt (w : World) (b : Nat) (s : Bool) (n : Nat) (t : Bool) (d : Nat) : Prop where
 num : IntO w b 0 s n
 den : IntO w b 9 t d
theorem RatAt.new (w : World) (s : Bool) (n : Nat) (t : Bool) (d : Nat) (T : TypeId) : RatAt (w.alloc (boxR s n t d T)) w.heap.size s n t d := by
 refine ⟨⟨World.cell?_alloc_at _ _ _ _ rfl, World.frozen?_alloc_at _ _ _ _ rfl, fun i hi => ?_⟩, ⟨World.cell?_alloc_at _ _ _ _ rfl, World.frozen?_alloc_at _ _ _ _ rfl, fun i hi => ?_⟩⟩
 all_goals
  rcases i with _ | _ | _ | _ | _ | _ | _ | _ | i
  all_goals first | exact ⟨World.cell?_alloc_at _ _ _ _ rfl, World.frozen?_alloc_at _ _ _ _ rfl⟩ | omega
theorem RatAt.keep {w w' : World} {b n d B : Nat} {s t : Bool} (h : RatAt w b s n t d) (hb : Below B w w') (hB : b < B) : RatAt w' b s n t d := ⟨h.num.keep hb hB, h.den.keep hb hB⟩
theorem RatAt.but {w w' : World} {b c n d : Nat} {s t : Bool} (h : RatAt w b s n t d) (hw : But1 w w' c) (hne : b ≠ c) : RatAt w' b s n t d := ⟨h.num.but hw hne, h.den.but hw hne⟩
theorem RatAt.drew {w : World} {b n d : Nat} {s t : Bool} (h : RatAt w b s n t d) : RatAt w.drew b s n t d := ⟨h.num.drew, h.den.drew⟩
theorem RatAt.alloc {w : World} {b n d : Nat} {s t : Bool} (h : RatAt w b s n t d) (hb : b < w.heap.size) (o : Obj) : RatAt (w.alloc o) b s n t d := h.keep (below_alloc w o) hb
theorem RatAt.ste {w w' : World} {b c k n d : Nat} {s t : Bool} (h : RatAt w c s n t d) (g : Ste w w' b k) (hc : c < w.heap.size) (hne : c ≠ b) : RatAt w' c s n t d := ⟨h.num.ste g hc (.inl hne), h.den.ste g hc (.inl hne)⟩
theorem RatAt.cells {w : World} {b n d : Nat} {s t : Bool} (h : RatAt w b s n t d) : w.cell? ⟨b, 0, none⟩ = some (.bool s) ∧ w.cell? ⟨b, 1, none⟩ = some (.int .u64 (wd n 0 : Int)) ∧ w.cell? ⟨b, 2, none⟩ = some (.int .u64 (wd n 1 : Int)) ∧ w.cell? ⟨b, 3, none⟩ = some (.int .u64 (wd n 2 : Int)) ∧ w.cell? ⟨b, 4, none⟩ = some (.int .u64 (wd n 3 : Int)) ∧ w.cell? ⟨b, 5, none⟩ = some (.int .u64 (wd n 4 : Int)) ∧ w.cell? ⟨b, 6, none⟩ = some (.int .u64 (wd n 5 : Int)) ∧ w.cell? ⟨b, 7, none⟩ = some (.int .u64 (wd n 6 : Int)) ∧ w.cell? ⟨b, 8, none⟩ = some (.int .u64 (wd n 7 : Int)) ∧ w.cell? ⟨b, 9, none⟩ = some (.bool t) ∧ w.cell? ⟨b, 10, none⟩ = some (.int .u64 (wd d 0 : Int)) ∧ w.cell? ⟨b, 11, none⟩ = some (.int .u64 (wd d 1 : Int)) ∧ w.cell? ⟨b, 12, none⟩ = some (.int .u64 (wd d 2 : Int)) ∧ w.cell? ⟨b, 13, none⟩ = some (.int .u64 (wd d 3 : Int)) ∧ w.cell? ⟨b, 14, none⟩ = some (.int .u64 (wd d 4 : Int)) ∧ w.cell? ⟨b, 15, none⟩ = some (.int .u64 (wd d 5 : Int)) ∧ w.cell? ⟨b, 16, none⟩ = some (.int .u64 (wd d 6 : Int)) ∧ w.cell? ⟨b, 17, none⟩ = some (.int .u64 (wd d 7 : Int)) := by
 obtain ⟨⟨a0, x0⟩, ⟨a1, x1⟩, ⟨a2, x2⟩, ⟨a3, x3⟩, ⟨a4, x4⟩, ⟨a5, x5⟩, ⟨a6, x6⟩, ⟨a7, x7⟩, ⟨a8, x8⟩⟩ := h.num.nine0
 obtain ⟨⟨c0, y0⟩, ⟨c1, y1⟩, ⟨c2, y2⟩, ⟨c3, y3⟩, ⟨c4, y4⟩, ⟨c5, y5⟩, ⟨c6, y6⟩, ⟨c7, y7⟩, ⟨c8, y8⟩⟩ := h.den.nine9
 exact ⟨a0, a1, a2, a3, a4, a5, a6, a7, a8, c0, c1, c2, c3, c4, c5, c6, c7, c8⟩
def st18 (w : World) (b : Nat) (s : Bool) (n : Nat) (t : Bool) (d : Nat) : World := ((((((((((st9 w b s n).setCell ⟨b, 9, none⟩ (.bool t)).setCell ⟨b, 10, none⟩ (.int .u64 (wd d 0 : Int))).setCell ⟨b, 11, none⟩ (.int .u64 (wd d 1 : Int))).setCell ⟨b, 12, none⟩ (.int .u64 (wd d 2 : Int))).setCell ⟨b, 13, none⟩ (.int .u64 (wd d 3 : Int))).setCell ⟨b, 14, none⟩ (.int .u64 (wd d 4 : Int))).setCell ⟨b, 15, none⟩ (.int .u64 (wd d 5 : Int))).setCell ⟨b, 16, none⟩ (.int .u64 (wd d 6 : Int))).setCell ⟨b, 17, none⟩ (.int .u64 (wd d 7 : Int)))
theorem st18_but (w : World) (b : Nat) (s : Bool) (n : Nat) (t : Bool) (d : Nat) : But1 w (st18 w b s n t d) b :=
 (((((((((st9_but w b s n).trans (But1.setCell _ b 9 _)).trans (But1.setCell _ b 10 _)).trans (But1.setCell _ b 11 _)).trans (But1.setCell _ b 12 _)).trans (But1.setCell _ b 13 _)).trans (But1.setCell _ b 14 _)).trans (But1.setCell _ b 15 _)).trans (But1.setCell _ b 16 _)).trans (But1.setCell _ b 17 _)
theorem agg9 (s : Bool) (n : Nat) : intV s n = .agg #[.bool s, .int .u64 (wd n 0 : Int), .int .u64 (wd n 1 : Int), .int .u64 (wd n 2 : Int), .int .u64 (wd n 3 : Int), .int .u64 (wd n 4 : Int), .int .u64 (wd n 5 : Int), .int .u64 (wd n 6 : Int), .int .u64 (wd n 7 : Int)] := rfl
set_option maxRecDepth 100000 in
set_option maxHeartbeats 4000000 in
theorem eqInt_of (k : Nat) (s : Bool) (n : Nat) (t : Bool) (m : Nat) (w : World) (hn : Fits n) (hm : Fits m) :
  (Op.equalIn (k + 3) 92 (intV s n) (intV t m)).run Tryz.prog w = .ok (decide (s = t ∧ n = m)) w := by
 have hf : Tryz.prog.underlying 92 = some (.struct (Tryz.prog.fieldsOf 92)) := by kernel_rfl
 have hp : Tryz.prog.stoodInHeld 92 = false := by kernel_rfl
 have hl : ((Tryz.prog.fieldsOf 92).toList.map fun f => (f.name == "_", f.type, f.offset)) = [(false, 4, 0), (false, 90, 1)] := by kernel_rfl
 have hb : Tryz.prog.plainKey 4 = true := by kernel_rfl
 have ub : Tryz.prog.underlying 4 = some .bool := by kernel_rfl
 rw [agg9, agg9, run_equalIn_struct (P := Tryz.prog) w _ _ _ _ hf hp]
 obtain ⟨f0, f1, hfs, h0, h1⟩ : ∃ f0 f1 : Field, (Tryz.prog.fieldsOf 92).toList = [f0, f1] ∧ (f0.name == "_", f0.type, f0.offset) = (false, 4, 0) ∧ (f1.name == "_", f1.type, f1.offset) = (false, 90, 1) := by
  generalize (Tryz.prog.fieldsOf 92).toList = l at hl
  rcases l with _ | ⟨f0, _ | ⟨f1, _ | ⟨f2, l⟩⟩⟩
  ·simp at hl
  ·simp at hl
  ·simp only [List.map_cons, List.map_nil, List.cons.injEq, and_true] at hl
   exact ⟨f0, f1, rfl, hl.1, hl.2⟩
  ·simp at hl
 simp only [Prod.mk.injEq] at h0 h1
 obtain ⟨n0, t0, o0⟩ := h0
 obtain ⟨n1, t1, o1⟩ := h1
 have n0' : f0.name ≠ "_" := by simpa using n0
 have n1' : f1.name ≠ "_" := by simpa using n1
 rw [hfs]
 have hpart : ∀ (x : Bool) (y : Nat), (part 90 #[.bool x, .int .u64 (wd y 0 : Int), .int .u64 (wd y 1 : Int), .int .u64 (wd y 2 : Int), .int .u64 (wd y 3 : Int), .int .u64 (wd y 4 : Int), .int .u64 (wd y 5 : Int), .int .u64 (wd y 6 : Int), .int .u64 (wd y 7 : Int)] 1).run Tryz.prog w = .ok (wordsV y) w := fun x y => by kernel_rfl
 have hpb : ∀ (x : Bool) (y : Nat), (part 4 #[.bool x, .int .u64 (wd y 0 : Int), .int .u64 (wd y 1 : Int), .int .u64 (wd y 2 : Int), .int .u64 (wd y 3 : Int), .int .u64 (wd y 4 : Int), .int .u64 (wd y 5 : Int), .int .u64 (wd y 6 : Int), .int .u64 (wd y 7 : Int)] 0).run Tryz.prog w = .ok (.bool x) w := fun x y => run_part_plain w hb rfl
 have e0 : ∀ k, (Op.equalIn (k + 1) 4 (.bool s) (.bool t)).run Tryz.prog w = .ok (s == t) w := fun k => run_equalIn_bool w k 4 s t ub
 have e1 := eqWords_any k 90 (by kernel_rfl) n m w hn hm
 by_cases hs : s = t
 ·subst hs
  have es : (s == s) = true := beq_self_eq_true s
  simp only [Op.eqFields, if_pos n0', if_pos n1', t0, t1, o0, o1, Sem.run_bind, hpb, Result.andThen_ok, e0, es, Bool.not_true, Bool.false_eq_true, if_false, hpart, e1]
  by_cases hnm : n = m
  ·subst hnm; simp
  ·simp [hnm]
 ·have es : (s == t) = false := by simpa using hs
  simp [Op.eqFields, n0', t0, o0, hpb, e0, es, hs]
theorem eqInt (s : Bool) (n : Nat) (t : Bool) (m : Nat) (w : World) (hn : Fits n) (hm : Fits m) : (binOp .eql 92 (intV s n) (intV t m)).run Tryz.prog w = .ok (.bool (decide (s = t ∧ n = m))) w := by
 have := eqInt_of 9997 s n t m w hn hm
 unfold intV at this ⊢
 rw [run_eql_struct, show (10000 : Nat) = 9997 + 3 from rfl, this]
 rfl
theorem neInt (s : Bool) (n : Nat) (t : Bool) (m : Nat) (w : World) (hn : Fits n) (hm : Fits m) : (binOp .neq 92 (intV s n) (intV t m)).run Tryz.prog w = .ok (.bool (!decide (s = t ∧ n = m))) w := by
 have := eqInt_of 9997 s n t m w hn hm
 unfold intV at this ⊢
 rw [run_neq_struct, show (10000 : Nat) = 9997 + 3 from rfl, this]
 rfl
end Go.Proofs.YtgkhjeefcflmcaaGreatDoor
namespace Go.Proofs.YtgkhjeefcflmcaaGreatDoor
open Go.RowKit
section
variable {P : Program} {ops : Array Oper} {Q : Exit → Act → World → Prop} {md : Region.Mode} {S : World → Prop}
theorem rg_take (i : Nat) {oi : Oper} (v : Value) {fuel : Nat} {listed : Array Bool} {a : Act} {w : World} (hi : ops[i]? = some oi)
  (hs : Region.noSelect ops = true) (hf : Region.free md ops listed i = true) (hr : (Region.ready md ops listed).contains i = true)
  (hQ : ∀ c a w, Q (.panic c) (a.put oi.dst v) w → Q (.panic c) a w) (hg : oi.guard = none) (hv : ∀ w, S w → (execOp a.eval oi).run P w = .ok (.value v) w) (hS : S w)
  (h : wpAnyH P md ops Q S fuel (listed.setIfInBounds i true) (a.put oi.dst v) w) : wpAnyH P md ops Q S (fuel + 1) listed a w :=
 wpAnyH_take hi hs hf hr hQ (.inl ⟨by simp [Region.wanted, hg], hv⟩) hS h
abbrev RStep (P : Program) (md : Region.Mode) (ops : Array Oper) (Q : Exit → Act → World → Prop) (S : World → Prop) (fuel : Nat) (listed : Array Bool) (i : Nat) (a : Act) (w : World) : Prop :=
 wpOp P ops Q i (fun a' w' => S w' ∧ wpAnyH P md ops Q S fuel (listed.setIfInBounds i true) a' w') a w
theorem rg_one (i : Nat) {fuel : Nat} {listed : Array Bool} {a : Act} {w : World} (hr : Region.ready md ops listed = [i]) (h : RStep P md ops Q S fuel listed i a w) : wpAnyH P md ops Q S (fuel + 1) listed a w :=
 wpAnyH_all hr (by simp) fun j hj => by
  obtain rfl : j = i := by simpa using hj
  exact h
theorem rg_two (i j : Nat) {fuel : Nat} {listed : Array Bool} {a : Act} {w : World} (hr : Region.ready md ops listed = [i, j]) (h : RStep P md ops Q S fuel listed i a w) (g : RStep P md ops Q S fuel listed j a w) : wpAnyH P md ops Q S (fuel + 1) listed a w :=
 wpAnyH_all hr (by simp) fun k hk => by
  rcases List.mem_cons.1 hk with rfl | hk
  ·exact h
  ·obtain rfl : k = j := by simpa using hk
   exact g
theorem rs_of {i : Nat} {o : Oper} {K : Act → World → Prop} {a : Act} {w : World} (ho : ops[i]? = some o) (hg : o.guard = none) (h : o.wp P a w K Q) : wpOp P ops Q i K a w := by
 unfold wpOp
 rw [ho]
 simp only [Region.wanted, hg, if_true]
 exact .inl h
theorem wp_value {o : Oper} {K : Act → World → Prop} {a : Act} {w w' : World} {v : Value} (h : (execOp a.eval o).run P w = .ok (.value v) w') (hk : K (a.put o.dst v) w') : o.wp P a w K Q := by
 unfold Oper.wp
 rw [h]
 exact hk
def EntersP (P : Program) (f : Nat) : Prop := ∀ (args : Array Value) (w : World), (callFunc f args).run P w = .ok (.enter f args) w
theorem entersP_of {f : FuncId} {fn : Func} {c : Code} (hf : P.funcs[f]? = some fn) (hname : (fn.name == "runtime.NumGoroutine") = false) (hb : fn.body = some c) : EntersP P f := fun args w => by
 have h1 : fn.name ≠ "runtime.NumGoroutine" := by simpa using hname
 simp [callFunc, hf, h1, hb]
theorem wp_call {o : Oper} {K : Act → World → Prop} {a : Act} {w : World} {f : Nat} {xs : List Operand} {ts : Array TypeId} (hop : o.op = .call { callee := .value (.func f), args := xs.toArray, argTypes := ts }) (hen : EntersP P f)
  {args : List Value} (hargs : xs.map a.eval = args) {v : Value} {R : World → Prop} (hc : Calls P f args.toArray w fun e w' => e = .returned v ∧ R w') (hk : ∀ w', R w' → K (a.put o.dst v) w') : o.wp P a w K Q := by
 have hrun : (execOp a.eval o).run P w = .ok (.enter f args.toArray) w := by
  have h1 : (resolve a.eval { callee := .value (.func f), args := xs.toArray, argTypes := ts } o.type).run P w = .ok { target := .fn (.func f) #[], args := args.toArray } w := by
   simp [resolve, Act.eval, Deferred.ofValue, ← hargs]
  unfold execOp
  simp only [hop, Sem.run_bind, h1, Result.andThen_ok, invoke, Array.append_empty, hen args.toArray w]
 unfold Oper.wp
 rw [hrun, Oper.upon_enter]
 refine hc.mono ?_
 rintro e w' ⟨rfl, hr⟩
 exact hk w' hr
theorem rg_begin (S : World → Prop) {id : Nat} {a : Act} {w : World} (hm : P.follows .mixedOrders = true) (hS : S w.drew)
  (h : S w.drew → wpAnyH P .any ops Q S ops.size (Array.replicate ops.size false) a w.drew) : (Code.region id ops true).wp P Q a w := wp_region_held_drew hm hS h
end
theorem zA {α : Type _} {xs : List α} {i : Nat} (h : i < xs.toArray.size) : xs.toArray[i] = xs[i]'(by simpa using h) := List.getElem_toArray h
theorem zB {α : Type _} (a : α) (l : List α) (h : 0 < (a :: l).length) : (a :: l)[0] = a := List.getElem_cons_zero a l h
theorem zC {α : Type _} (a : α) (l : List α) (i : Nat) (h : i + 1 < (a :: l).length) : (a :: l)[i + 1] = l[i]'(by simpa using h) := List.getElem_cons_succ a l i h
theorem zD {α : Type _} (l : List α) (i : Nat) (a : α) : l.toArray.setIfInBounds i a = (l.set i a).toArray := List.setIfInBounds_toArray l i a
theorem zE {α : Type _} {x : α} {xs : List α} {a : α} : (x :: xs).set 0 a = a :: xs := List.set_cons_zero
theorem zF {α : Type _} {x : α} {xs : List α} {i : Nat} {a : α} : (x :: xs).set (i + 1) a = x :: xs.set i a := List.set_cons_succ
end Go.Proofs.YtgkhjeefcflmcaaGreatDoor
namespace Go.Proofs.YtgkhjeefcflmcaaGreatDoor
open Go.RowKit Go.Sort
abbrev boxRZ (T : TypeId) : Obj := .cells #[.bool false, .int .u64 0, .int .u64 0, .int .u64 0, .int .u64 0, .int .u64 0, .int .u64 0, .int .u64 0, .int .u64 0, .bool false, .int .u64 0, .int .u64 0, .int .u64 0, .int .u64 0, .int .u64 0, .int .u64 0, .int .u64 0, .int .u64 0] T
theorem RatAt.zero (w : World) (T : TypeId) : RatAt (w.alloc (boxRZ T)) w.heap.size false 0 false 0 := by
 have := RatAt.new w false 0 false 0 T
 simpa only [boxR, wd_zero, Int.natCast_zero] using this
theorem ratV_zero : ratV false 0 false 0 = .agg #[.bool false, .int .u64 0, .int .u64 0, .int .u64 0, .int .u64 0, .int .u64 0, .int .u64 0, .int .u64 0, .int .u64 0, .bool false, .int .u64 0, .int .u64 0, .int .u64 0, .int .u64 0, .int .u64 0, .int .u64 0, .int .u64 0, .int .u64 0] := by
 simp only [ratV, wd_zero, Int.natCast_zero]
theorem ErrAt.new (w : World) (T : TypeId) : ErrAt (w.alloc (.cells #[.nilIface] T)) w.heap.size 0 := ⟨World.cell?_alloc_at _ _ _ _ rfl, World.frozen?_alloc_at _ _ _ _ rfl⟩
theorem ErrAt.but1 {w w' : World} {b k c : Nat} (h : ErrAt w b k) (g : But1 w w' c) (hne : b ≠ c) : ErrAt w' b k := ⟨(g.1 ⟨b, 0, none⟩ hne).1.trans h.cell, (g.1 ⟨b, 0, none⟩ hne).2.trans h.free⟩
theorem IntO.of_range {w : World} {b o n : Nat} {s : Bool} (h : w.rangeAt b o [.bool s, .int .u64 (wd n 0 : Int), .int .u64 (wd n 1 : Int), .int .u64 (wd n 2 : Int), .int .u64 (wd n 3 : Int), .int .u64 (wd n 4 : Int), .int .u64 (wd n 5 : Int), .int .u64 (wd n 6 : Int), .int .u64 (wd n 7 : Int)]) (hf : ∀ i, i < 9 → w.frozen? ⟨b, o + i, none⟩ = false) : IntO w b o s n := by
 refine ⟨h 0 _ rfl, hf 0 (by decide), fun i hi => ?_⟩
 have hfi := hf (i + 1) (by omega)
 have e : o + (i + 1) = o + 1 + i := by omega
 rw [e] at hfi
 refine ⟨?_, hfi⟩
 have := h (i + 1) (.int .u64 (wd n i : Int))
 rw [e] at this
 apply this
 rcases i with _ | _ | _ | _ | _ | _ | _ | _ | i
 all_goals first | rfl | omega
theorem IntO.there {w : World} {b o n : Nat} {s : Bool} (h : IntO w b o s n) : w.there b o 9 := by
 intro j hj
 rcases j with _ | j
 ·exact ⟨by show (w.cell? ⟨b, o, none⟩).isSome = true; rw [h.sign]; rfl, h.free⟩
 ·have := h.words j (by omega)
  have e : o + (j + 1) = o + 1 + j := by omega
  rw [e]
  exact ⟨by rw [this.1]; rfl, this.2⟩
theorem IntO.set {w : World} {b o n m : Nat} {s t : Bool} (h : IntO w b o s n) : IntO (w.setCells b o [.bool t, .int .u64 (wd m 0 : Int), .int .u64 (wd m 1 : Int), .int .u64 (wd m 2 : Int), .int .u64 (wd m 3 : Int), .int .u64 (wd m 4 : Int), .int .u64 (wd m 5 : Int), .int .u64 (wd m 6 : Int), .int .u64 (wd m 7 : Int)]) b o t m :=
 IntO.of_range (World.rangeAt_setCells_same w b o _ h.there) fun i hi => by rw [World.frozen?_setCells]; exact (h.there i hi).2
theorem IntO.apart {w : World} {b o n p m : Nat} {s t : Bool} (h : IntO w b o s n) (hap : o + 9 ≤ p ∨ p + 9 ≤ o) : IntO (w.setCells b p [.bool t, .int .u64 (wd m 0 : Int), .int .u64 (wd m 1 : Int), .int .u64 (wd m 2 : Int), .int .u64 (wd m 3 : Int), .int .u64 (wd m 4 : Int), .int .u64 (wd m 5 : Int), .int .u64 (wd m 6 : Int), .int .u64 (wd m 7 : Int)]) b o s n := by
 have hh : ∀ q, o ≤ q → q < o + 9 → (w.setCells b p [.bool t, .int .u64 (wd m 0 : Int), .int .u64 (wd m 1 : Int), .int .u64 (wd m 2 : Int), .int .u64 (wd m 3 : Int), .int .u64 (wd m 4 : Int), .int .u64 (wd m 5 : Int), .int .u64 (wd m 6 : Int), .int .u64 (wd m 7 : Int)]).cell? ⟨b, q, none⟩ = w.cell? ⟨b, q, none⟩ := fun q h1 h2 =>
  World.cell?_setCells_out b _ p w ⟨b, q, none⟩ (fun _ _ => by
   show q < p ∨ p + 9 ≤ q
   omega)
 refine ⟨(hh o (Nat.le_refl _) (by omega)).trans h.sign, by rw [World.frozen?_setCells]; exact h.free, fun i hi => ⟨(hh (o + 1 + i) (by omega) (by omega)).trans (h.words i hi).1, by rw [World.frozen?_setCells]; exact (h.words i hi).2⟩⟩
theorem st18_eq (w : World) (b : Nat) (s : Bool) (n : Nat) (t : Bool) (d : Nat) : st18 w b s n t d = (w.setCells b 0 [.bool s, .int .u64 (wd n 0 : Int), .int .u64 (wd n 1 : Int), .int .u64 (wd n 2 : Int), .int .u64 (wd n 3 : Int), .int .u64 (wd n 4 : Int), .int .u64 (wd n 5 : Int), .int .u64 (wd n 6 : Int), .int .u64 (wd n 7 : Int)]).setCells b 9 [.bool t, .int .u64 (wd d 0 : Int), .int .u64 (wd d 1 : Int), .int .u64 (wd d 2 : Int), .int .u64 (wd d 3 : Int), .int .u64 (wd d 4 : Int), .int .u64 (wd d 5 : Int), .int .u64 (wd d 6 : Int), .int .u64 (wd d 7 : Int)] := rfl
theorem st18_at {w : World} {b n d n' d' : Nat} {s t s' t' : Bool} (h : RatAt w b s n t d) : RatAt (st18 w b s' n' t' d') b s' n' t' d' := by
 rw [st18_eq]
 exact ⟨h.num.set.apart (.inl (by omega)), IntO.set (h.den.apart (.inr (by omega)))⟩
theorem RatAt.range {w : World} {b n d : Nat} {s t : Bool} (h : RatAt w b s n t d) : w.rangeAt b 0 [.bool s, .int .u64 (wd n 0 : Int), .int .u64 (wd n 1 : Int), .int .u64 (wd n 2 : Int), .int .u64 (wd n 3 : Int), .int .u64 (wd n 4 : Int), .int .u64 (wd n 5 : Int), .int .u64 (wd n 6 : Int), .int .u64 (wd n 7 : Int), .bool t, .int .u64 (wd d 0 : Int), .int .u64 (wd d 1 : Int), .int .u64 (wd d 2 : Int), .int .u64 (wd d 3 : Int), .int .u64 (wd d 4 : Int), .int .u64 (wd d 5 : Int), .int .u64 (wd d 6 : Int), .int .u64 (wd d 7 : Int)] := by
 intro j v hv
 rw [Nat.zero_add]
 obtain ⟨⟨a0, x0⟩, ⟨a1, x1⟩, ⟨a2, x2⟩, ⟨a3, x3⟩, ⟨a4, x4⟩, ⟨a5, x5⟩, ⟨a6, x6⟩, ⟨a7, x7⟩, ⟨a8, x8⟩⟩ := h.num.nine0
 obtain ⟨⟨p0, y0⟩, ⟨p1, y1⟩, ⟨p2, y2⟩, ⟨p3, y3⟩, ⟨p4, y4⟩, ⟨p5, y5⟩, ⟨p6, y6⟩, ⟨p7, y7⟩, ⟨p8, y8⟩⟩ := h.den.nine9
 rcases j with _ | _ | _ | _ | _ | _ | _ | _ | _ | _ | _ | _ | _ | _ | _ | _ | _ | _ | j
 ·exact a0.trans hv
 ·exact a1.trans hv
 ·exact a2.trans hv
 ·exact a3.trans hv
 ·exact a4.trans hv
 ·exact a5.trans hv
 ·exact a6.trans hv
 ·exact a7.trans hv
 ·exact a8.trans hv
 ·exact p0.trans hv
 ·exact p1.trans hv
 ·exact p2.trans hv
 ·exact p3.trans hv
 ·exact p4.trans hv
 ·exact p5.trans hv
 ·exact p6.trans hv
 ·exact p7.trans hv
 ·exact p8.trans hv
 ·simp at hv
theorem RatAt.there {w : World} {b n d : Nat} {s t : Bool} (h : RatAt w b s n t d) : w.there b 0 18 := by
 intro j hj
 rcases Nat.lt_or_ge j 9 with h1 | h1
 ·exact h.num.there j h1
 ·have := h.den.there (j - 9) (by omega)
  have e : 9 + (j - 9) = 0 + j := by omega
  rwa [e] at this
theorem load_rat {W : World} {b n d : Nat} {s t : Bool} (h : RatAt W b s n t d) : (loadVar 94 ⟨b, 0, none⟩).run Tryz.prog W = .ok (ratV s n t d) W :=
 run_loadVar_mid W b 0 94 [.bool s, .int .u64 (wd n 0 : Int), .int .u64 (wd n 1 : Int), .int .u64 (wd n 2 : Int), .int .u64 (wd n 3 : Int), .int .u64 (wd n 4 : Int), .int .u64 (wd n 5 : Int), .int .u64 (wd n 6 : Int), .int .u64 (wd n 7 : Int), .bool t, .int .u64 (wd d 0 : Int), .int .u64 (wd d 1 : Int), .int .u64 (wd d 2 : Int), .int .u64 (wd d 3 : Int), .int .u64 (wd d 4 : Int), .int .u64 (wd d 5 : Int), .int .u64 (wd d 6 : Int), .int .u64 (wd d 7 : Int)] (.struct (Tryz.prog.fieldsOf 94)) h.range (by kernel_rfl) rfl (by kernel_rfl)
theorem results_rat {fn : Func} {p u : Tmp} (hf : fn.results = #[.cell p 94, .tmp u]) {tmps : Array Value} {W : World} {b n d : Nat} {s t : Bool} {v : Value} (hp : tmps.getD p undef = .pointer (some ⟨b, 0, none⟩)) (hu : tmps.getD u undef = v) (h : RatAt W b s n t d) :
  (results fn tmps).run Tryz.prog W = .ok (.tuple #[ratV s n t d, v]) W := by
 rw [results_cell_tmp hf, hp, hu]
 simp [asAddr, load_rat h]
theorem infoRat : (Tryz.prog.info? 94).map (·.size) = some 18 := by kernel_rfl
theorem wpList_load_rat {ops : Array Oper} {rest : List Oper} {op : Oper} {a : Act} {w : World} {Q : Exit → Act → World → Prop} (hgd : op.guard = none) (x : Operand) (ho : op.op = .load 94 x)
  {b n d : Nat} {s t : Bool} (hx : a.eval x = .pointer (some ⟨b, 0, none⟩)) (h : RatAt w b s n t d)
  (hK : wpList Tryz.prog ops Q rest (a.put op.dst (ratV s n t d)) w) : wpList Tryz.prog ops Q (op :: rest) a w :=
 wpList_load_mid hgd 94 x ho b 0 hx [.bool s, .int .u64 (wd n 0 : Int), .int .u64 (wd n 1 : Int), .int .u64 (wd n 2 : Int), .int .u64 (wd n 3 : Int), .int .u64 (wd n 4 : Int), .int .u64 (wd n 5 : Int), .int .u64 (wd n 6 : Int), .int .u64 (wd n 7 : Int), .bool t, .int .u64 (wd d 0 : Int), .int .u64 (wd d 1 : Int), .int .u64 (wd d 2 : Int), .int .u64 (wd d 3 : Int), .int .u64 (wd d 4 : Int), .int .u64 (wd d 5 : Int), .int .u64 (wd d 6 : Int), .int .u64 (wd d 7 : Int)] (.struct (Tryz.prog.fieldsOf 94)) h.range (by kernel_rfl) rfl (by kernel_rfl) hK
theorem wpList_store_rat {ops : Array Oper} {rest : List Oper} {op : Oper} {a : Act} {w : World} {Q : Exit → Act → World → Prop} (hgd : op.guard = none) (x y : Operand) (ho : op.op = .store 94 x y)
  {b n d n0 d0 : Nat} {s t s0 t0 : Bool} (hx : a.eval x = .pointer (some ⟨b, 0, none⟩)) (hy : a.eval y = ratV s n t d) (h : RatAt w b s0 n0 t0 d0)
  (hK : wpList Tryz.prog ops Q rest (a.put op.dst undef) (st18 w b s n t d)) : wpList Tryz.prog ops Q (op :: rest) a w :=
 wpList_store_mid hgd 94 x y ho b 0 #[.bool s, .int .u64 (wd n 0 : Int), .int .u64 (wd n 1 : Int), .int .u64 (wd n 2 : Int), .int .u64 (wd n 3 : Int), .int .u64 (wd n 4 : Int), .int .u64 (wd n 5 : Int), .int .u64 (wd n 6 : Int), .int .u64 (wd n 7 : Int), .bool t, .int .u64 (wd d 0 : Int), .int .u64 (wd d 1 : Int), .int .u64 (wd d 2 : Int), .int .u64 (wd d 3 : Int), .int .u64 (wd d 4 : Int), .int .u64 (wd d 5 : Int), .int .u64 (wd d 6 : Int), .int .u64 (wd d 7 : Int)] hx hy h.there infoRat (by simp [Value.oneCell']) hK
theorem wpList_box_rat {ops : Array Oper} {rest : List Oper} {op : Oper} {a : Act} {w : World} {Q : Exit → Act → World → Prop} (hgd : op.guard = none) (x : Operand) (ho : op.op = .box 94 x)
  {n d : Nat} {s t : Bool} (hx : a.eval x = ratV s n t d)
  (hK : wpList Tryz.prog ops Q rest (a.put op.dst (.pointer (some ⟨w.heap.size, 0, none⟩))) (w.alloc (boxR s n t d 94))) : wpList Tryz.prog ops Q (op :: rest) a w := by
 refine wpList_plain hgd fun K hK' => ?_
 have hrun : (Instr.box 94 (ratV s n t d)).run Tryz.prog w = .ok (.pointer (some ⟨w.heap.size, 0, none⟩)) (w.alloc (boxR s n t d 94)) := by
  unfold ratV
  go_simp
 unfold Oper.wp execOp
 simp only [ho, hx, Sem.run_bind, Sem.run_pure, Result.andThen_ok, hrun]
 exact hK' _ _ hK
theorem IntO.range {w : World} {b o n : Nat} {s : Bool} (h : IntO w b o s n) : w.rangeAt b o [.bool s, .int .u64 (wd n 0 : Int), .int .u64 (wd n 1 : Int), .int .u64 (wd n 2 : Int), .int .u64 (wd n 3 : Int), .int .u64 (wd n 4 : Int), .int .u64 (wd n 5 : Int), .int .u64 (wd n 6 : Int), .int .u64 (wd n 7 : Int)] := by
 intro j v hv
 rcases j with _ | j
 ·exact h.sign.trans hv
 ·have e : o + (j + 1) = o + 1 + j := by omega
  rw [e]
  have hj : j < 8 := by
   have := (List.getElem?_eq_some_iff.1 hv).1
   simp at this
   omega
  rw [(h.words j hj).1, ← hv]
  rcases j with _ | _ | _ | _ | _ | _ | _ | _ | j
  all_goals first | rfl | omega
theorem IntAt.o {w : World} {b n : Nat} {s : Bool} (h : IntAt w b s n) : IntO w b 0 s n := ⟨h.sign, h.free, h.words⟩
theorem IntO.at {w : World} {b n : Nat} {s : Bool} (h : IntO w b 0 s n) : IntAt w b s n := ⟨h.sign, h.free, h.words⟩
theorem infoInt : (Tryz.prog.info? 92).map (·.size) = some 9 := by kernel_rfl
theorem load_int {W : World} {b o n : Nat} {s : Bool} (h : IntO W b o s n) : (loadVar 92 ⟨b, o, none⟩).run Tryz.prog W = .ok (intV s n) W :=
 run_loadVar_mid W b o 92 [.bool s, .int .u64 (wd n 0 : Int), .int .u64 (wd n 1 : Int), .int .u64 (wd n 2 : Int), .int .u64 (wd n 3 : Int), .int .u64 (wd n 4 : Int), .int .u64 (wd n 5 : Int), .int .u64 (wd n 6 : Int), .int .u64 (wd n 7 : Int)] (.struct (Tryz.prog.fieldsOf 92)) h.range (by kernel_rfl) rfl (by kernel_rfl)
theorem results_int {fn : Func} {p u : Tmp} (hf : fn.results = #[.cell p 92, .tmp u]) {tmps : Array Value} {W : World} {b n : Nat} {s : Bool} {v : Value} (hp : tmps.getD p undef = .pointer (some ⟨b, 0, none⟩)) (hu : tmps.getD u undef = v) (h : IntAt W b s n) :
  (results fn tmps).run Tryz.prog W = .ok (.tuple #[intV s n, v]) W := by
 rw [results_cell_tmp hf, hp, hu]
 simp [asAddr, load_int h.o]
theorem results_rat1 {fn : Func} {p : Tmp} (hf : fn.results = #[.cell p 94]) {tmps : Array Value} {W : World} {b n d : Nat} {s t : Bool} (hp : tmps.getD p undef = .pointer (some ⟨b, 0, none⟩)) (h : RatAt W b s n t d) :
  (results fn tmps).run Tryz.prog W = .ok (ratV s n t d) W := by
 rw [results_cell1 hf, hp]
 simp [asAddr, load_rat h]
theorem wpList_load_int {ops : Array Oper} {rest : List Oper} {op : Oper} {a : Act} {w : World} {Q : Exit → Act → World → Prop} (hgd : op.guard = none) (x : Operand) (ho : op.op = .load 92 x)
  {b o n : Nat} {s : Bool} (hx : a.eval x = .pointer (some ⟨b, o, none⟩)) (h : IntO w b o s n)
  (hK : wpList Tryz.prog ops Q rest (a.put op.dst (intV s n)) w) : wpList Tryz.prog ops Q (op :: rest) a w :=
 wpList_load_mid hgd 92 x ho b o hx [.bool s, .int .u64 (wd n 0 : Int), .int .u64 (wd n 1 : Int), .int .u64 (wd n 2 : Int), .int .u64 (wd n 3 : Int), .int .u64 (wd n 4 : Int), .int .u64 (wd n 5 : Int), .int .u64 (wd n 6 : Int), .int .u64 (wd n 7 : Int)] (.struct (Tryz.prog.fieldsOf 92)) h.range (by kernel_rfl) rfl (by kernel_rfl) hK
theorem st9_eq (w : World) (b : Nat) (s : Bool) (n : Nat) : st9 w b s n = w.setCells b 0 [.bool s, .int .u64 (wd n 0 : Int), .int .u64 (wd n 1 : Int), .int .u64 (wd n 2 : Int), .int .u64 (wd n 3 : Int), .int .u64 (wd n 4 : Int), .int .u64 (wd n 5 : Int), .int .u64 (wd n 6 : Int), .int .u64 (wd n 7 : Int)] := rfl
theorem wpList_store_int {ops : Array Oper} {rest : List Oper} {op : Oper} {a : Act} {w : World} {Q : Exit → Act → World → Prop} (hgd : op.guard = none) (x y : Operand) (ho : op.op = .store 92 x y)
  {b n n0 : Nat} {s s0 : Bool} (hx : a.eval x = .pointer (some ⟨b, 0, none⟩)) (hy : a.eval y = intV s n) (h : IntAt w b s0 n0)
  (hK : wpList Tryz.prog ops Q rest (a.put op.dst undef) (st9 w b s n)) : wpList Tryz.prog ops Q (op :: rest) a w :=
 wpList_store_mid hgd 92 x y ho b 0 #[.bool s, .int .u64 (wd n 0 : Int), .int .u64 (wd n 1 : Int), .int .u64 (wd n 2 : Int), .int .u64 (wd n 3 : Int), .int .u64 (wd n 4 : Int), .int .u64 (wd n 5 : Int), .int .u64 (wd n 6 : Int), .int .u64 (wd n 7 : Int)] hx hy h.o.there infoInt (by simp [Value.oneCell']) hK
theorem wpList_box_int {ops : Array Oper} {rest : List Oper} {op : Oper} {a : Act} {w : World} {Q : Exit → Act → World → Prop} (hgd : op.guard = none) (x : Operand) (ho : op.op = .box 92 x)
  {n : Nat} {s : Bool} (hx : a.eval x = intV s n)
  (hK : wpList Tryz.prog ops Q rest (a.put op.dst (.pointer (some ⟨w.heap.size, 0, none⟩))) (w.alloc (boxI s n 92))) : wpList Tryz.prog ops Q (op :: rest) a w := by
 refine wpList_plain hgd fun K hK' => ?_
 have hrun : (Instr.box 92 (intV s n)).run Tryz.prog w = .ok (.pointer (some ⟨w.heap.size, 0, none⟩)) (w.alloc (boxI s n 92)) := by
  unfold intV
  go_simp
 unfold Oper.wp execOp
 simp only [ho, hx, Sem.run_bind, Sem.run_pure, Result.andThen_ok, hrun]
 exact hK' _ _ hK
theorem ld_int {op : Oper} {a : Act} {w : World} (x : Operand) (ho : op.op = .load 92 x) {b o n : Nat} {s : Bool} (hx : a.eval x = .pointer (some ⟨b, o, none⟩)) (h : IntO w b o s n) : (execOp a.eval op).run Tryz.prog w = .ok (.value (intV s n)) w := by
 unfold execOp
 simp only [ho, hx, Instr.loadAt, Instr.sureAddr, Sem.run_bind, Sem.run_pure, Result.andThen_ok, load_int h]
theorem ld_rat {op : Oper} {a : Act} {w : World} (x : Operand) (ho : op.op = .load 94 x) {b n d : Nat} {s t : Bool} (hx : a.eval x = .pointer (some ⟨b, 0, none⟩)) (h : RatAt w b s n t d) : (execOp a.eval op).run Tryz.prog w = .ok (.value (ratV s n t d)) w := by
 unfold execOp
 simp only [ho, hx, Instr.loadAt, Instr.sureAddr, Sem.run_bind, Sem.run_pure, Result.andThen_ok, load_rat h]
theorem stores_rat {op : Oper} {a : Act} {w : World} {K : Act → World → Prop} {Q : Exit → Act → World → Prop} (x y : Operand) (ho : op.op = .store 94 x y)
  {b n d n0 d0 : Nat} {s t s0 t0 : Bool} (hx : a.eval x = .pointer (some ⟨b, 0, none⟩)) (hy : a.eval y = ratV s n t d) (h : RatAt w b s0 n0 t0 d0) (hK : K (a.put op.dst undef) (st18 w b s n t d)) : op.wp Tryz.prog a w K Q :=
 wp_store_mid 94 x y ho b 0 #[.bool s, .int .u64 (wd n 0 : Int), .int .u64 (wd n 1 : Int), .int .u64 (wd n 2 : Int), .int .u64 (wd n 3 : Int), .int .u64 (wd n 4 : Int), .int .u64 (wd n 5 : Int), .int .u64 (wd n 6 : Int), .int .u64 (wd n 7 : Int), .bool t, .int .u64 (wd d 0 : Int), .int .u64 (wd d 1 : Int), .int .u64 (wd d 2 : Int), .int .u64 (wd d 3 : Int), .int .u64 (wd d 4 : Int), .int .u64 (wd d 5 : Int), .int .u64 (wd d 6 : Int), .int .u64 (wd d 7 : Int)] hx hy h.there infoRat (by simp [Value.oneCell']) hK
theorem build_rat {a : Act} {w : World} {op : Oper} {x y : Operand} (ho : op.op = .build 94 #[(0, x), (1, y)]) {s t : Bool} {n d : Nat} (hx : a.eval x = intV s n) (hy : a.eval y = intV t d) : (execOp a.eval op).run Tryz.prog w = .ok (.value (ratV s n t d)) w := by
 have hrun : (Instr.build 94 #[(0, intV s n), (1, intV t d)]).run Tryz.prog w = .ok (ratV s n t d) w := by
  unfold intV ratV
  go_simp
 unfold execOp
 simp only [ho, List.map_toArray, List.map_cons, List.map_nil, hx, hy, hrun, Sem.run_bind, Sem.run_pure, Result.andThen_ok]
theorem wpList_build_rat {ops : Array Oper} {rest : List Oper} {op : Oper} {a : Act} {w : World} {Q : Exit → Act → World → Prop} (hgd : op.guard = none) (x y : Operand) (ho : op.op = .build 94 #[(0, x), (1, y)])
  {n d : Nat} {s t : Bool} (hx : a.eval x = intV s n) (hy : a.eval y = intV t d)
  (hK : wpList Tryz.prog ops Q rest (a.put op.dst (ratV s n t d)) w) : wpList Tryz.prog ops Q (op :: rest) a w := by
 refine wpList_plain hgd fun K hK' => ?_
 unfold Oper.wp
 rw [build_rat ho hx hy]
 exact hK' _ _ hK
theorem alloc_rat {a : Act} {w : World} {op : Oper} (ho : op.op = .alloc 94) : (execOp a.eval op).run Tryz.prog w = .ok (.value (.pointer (some ⟨w.heap.size, 0, none⟩))) (w.alloc (boxRZ 94)) := by
 unfold execOp
 simp only [ho]
 go_simp
end Go.Proofs.YtgkhjeefcflmcaaGreatDoor
