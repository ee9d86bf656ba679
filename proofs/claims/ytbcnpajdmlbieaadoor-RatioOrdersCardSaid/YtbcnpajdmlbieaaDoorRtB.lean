/-
  Stage 8: a ratio as a value and in its box; '==' of numbers and of ratios.
-/
import Derived.Test.YtbcnpajdmlbieaaDoorRtDo
namespace Go.Proofs.YtbcnpajdmlbieaaDoor
open Go.RowKit Go.Sort

/-- A number at offset o of block b. -/
structure IntO (w : World) (b o : Nat) (s : Bool) (n : Nat) : Prop where
  sign : w.cell? ⟨b, o, none⟩ = some (.bool s)
  free : w.frozen? ⟨b, o, none⟩ = false
  words : WordsAt w b (o + 1) n 8
theorem IntO.keep {w w' : World} {b o n B : Nat} {s : Bool} (h : IntO w b o s n) (hb : Below B w w') (hB : b < B) : IntO w' b o s n :=
  ⟨(hb.cell (p := ⟨b, o, none⟩) hB).trans h.sign, (hb.frozen (p := ⟨b, o, none⟩) hB).trans h.free, h.words.keep hb hB⟩
theorem IntO.but {w w' : World} {b o c n : Nat} {s : Bool} (h : IntO w b o s n) (hw : But1 w w' c) (hne : b ≠ c) : IntO w' b o s n :=
  ⟨(hw.1 ⟨b, o, none⟩ hne).1.trans h.sign, (hw.1 ⟨b, o, none⟩ hne).2.trans h.free, h.words.but hw hne⟩
theorem IntO.drew {w : World} {b o n : Nat} {s : Bool} (h : IntO w b o s n) : IntO w.drew b o s n := ⟨h.sign, h.free, h.words⟩
theorem IntO.ste {w w' : World} {b o c k n : Nat} {s : Bool} (h : IntO w c o s n) (g : Ste w w' b k) (hc : c < w.heap.size) (hne : c ≠ b ∨ 0 < o) : IntO w' c o s n :=
  ⟨(g.cell c o hc (by omega)).trans h.sign, (g.free c o hc).trans h.free, fun i hi => ⟨(g.cell c (o + 1 + i) hc (by omega)).trans (h.words i hi).1, (g.free c (o + 1 + i) hc).trans (h.words i hi).2⟩⟩
theorem IntO.nine0 {w : World} {b n : Nat} {s : Bool} (h : IntO w b 0 s n) : (w.cell? ⟨b, 0, none⟩ = some (.bool s) ∧ w.frozen? ⟨b, 0, none⟩ = false) ∧ (w.cell? ⟨b, 1, none⟩ = some (.int .u64 (wd n 0 : Int)) ∧ w.frozen? ⟨b, 1, none⟩ = false) ∧ (w.cell? ⟨b, 2, none⟩ = some (.int .u64 (wd n 1 : Int)) ∧ w.frozen? ⟨b, 2, none⟩ = false) ∧ (w.cell? ⟨b, 3, none⟩ = some (.int .u64 (wd n 2 : Int)) ∧ w.frozen? ⟨b, 3, none⟩ = false) ∧ (w.cell? ⟨b, 4, none⟩ = some (.int .u64 (wd n 3 : Int)) ∧ w.frozen? ⟨b, 4, none⟩ = false) ∧ (w.cell? ⟨b, 5, none⟩ = some (.int .u64 (wd n 4 : Int)) ∧ w.frozen? ⟨b, 5, none⟩ = false) ∧ (w.cell? ⟨b, 6, none⟩ = some (.int .u64 (wd n 5 : Int)) ∧ w.frozen? ⟨b, 6, none⟩ = false) ∧ (w.cell? ⟨b, 7, none⟩ = some (.int .u64 (wd n 6 : Int)) ∧ w.frozen? ⟨b, 7, none⟩ = false) ∧ (w.cell? ⟨b, 8, none⟩ = some (.int .u64 (wd n 7 : Int)) ∧ w.frozen? ⟨b, 8, none⟩ = false) :=
  ⟨⟨h.sign, h.free⟩, h.words 0 (by decide), h.words 1 (by decide), h.words 2 (by decide), h.words 3 (by decide), h.words 4 (by decide), h.words 5 (by decide), h.words 6 (by decide), h.words 7 (by decide)⟩
theorem IntO.nine9 {w : World} {b n : Nat} {s : Bool} (h : IntO w b 9 s n) : (w.cell? ⟨b, 9, none⟩ = some (.bool s) ∧ w.frozen? ⟨b, 9, none⟩ = false) ∧ (w.cell? ⟨b, 10, none⟩ = some (.int .u64 (wd n 0 : Int)) ∧ w.frozen? ⟨b, 10, none⟩ = false) ∧ (w.cell? ⟨b, 11, none⟩ = some (.int .u64 (wd n 1 : Int)) ∧ w.frozen? ⟨b, 11, none⟩ = false) ∧ (w.cell? ⟨b, 12, none⟩ = some (.int .u64 (wd n 2 : Int)) ∧ w.frozen? ⟨b, 12, none⟩ = false) ∧ (w.cell? ⟨b, 13, none⟩ = some (.int .u64 (wd n 3 : Int)) ∧ w.frozen? ⟨b, 13, none⟩ = false) ∧ (w.cell? ⟨b, 14, none⟩ = some (.int .u64 (wd n 4 : Int)) ∧ w.frozen? ⟨b, 14, none⟩ = false) ∧ (w.cell? ⟨b, 15, none⟩ = some (.int .u64 (wd n 5 : Int)) ∧ w.frozen? ⟨b, 15, none⟩ = false) ∧ (w.cell? ⟨b, 16, none⟩ = some (.int .u64 (wd n 6 : Int)) ∧ w.frozen? ⟨b, 16, none⟩ = false) ∧ (w.cell? ⟨b, 17, none⟩ = some (.int .u64 (wd n 7 : Int)) ∧ w.frozen? ⟨b, 17, none⟩ = false) :=
  ⟨⟨h.sign, h.free⟩, h.words 0 (by decide), h.words 1 (by decide), h.words 2 (by decide), h.words 3 (by decide), h.words 4 (by decide), h.words 5 (by decide), h.words 6 (by decide), h.words 7 (by decide)⟩
/-- A ratio as a value; its box; a ratio in block b. -/
def ratV (s : Bool) (n : Nat) (t : Bool) (d : Nat) : Value := .agg #[.bool s, .int .u64 (wd n 0 : Int), .int .u64 (wd n 1 : Int), .int .u64 (wd n 2 : Int), .int .u64 (wd n 3 : Int), .int .u64 (wd n 4 : Int), .int .u64 (wd n 5 : Int), .int .u64 (wd n 6 : Int), .int .u64 (wd n 7 : Int), .bool t, .int .u64 (wd d 0 : Int), .int .u64 (wd d 1 : Int), .int .u64 (wd d 2 : Int), .int .u64 (wd d 3 : Int), .int .u64 (wd d 4 : Int), .int .u64 (wd d 5 : Int), .int .u64 (wd d 6 : Int), .int .u64 (wd d 7 : Int)]
abbrev boxR (s : Bool) (n : Nat) (t : Bool) (d : Nat) (T : TypeId) : Obj := .cells #[.bool s, .int .u64 (wd n 0 : Int), .int .u64 (wd n 1 : Int), .int .u64 (wd n 2 : Int), .int .u64 (wd n 3 : Int), .int .u64 (wd n 4 : Int), .int .u64 (wd n 5 : Int), .int .u64 (wd n 6 : Int), .int .u64 (wd n 7 : Int), .bool t, .int .u64 (wd d 0 : Int), .int .u64 (wd d 1 : Int), .int .u64 (wd d 2 : Int), .int .u64 (wd d 3 : Int), .int .u64 (wd d 4 : Int), .int .u64 (wd d 5 : Int), .int .u64 (wd d 6 : Int), .int .u64 (wd d 7 : Int)] T
structure RatAt (w : World) (b : Nat) (s : Bool) (n : Nat) (t : Bool) (d : Nat) : Prop where
  num : IntO w b 0 s n
  den : IntO w b 9 t d
theorem RatAt.new (w : World) (s : Bool) (n : Nat) (t : Bool) (d : Nat) (T : TypeId) : RatAt (w.alloc (boxR s n t d T)) w.heap.size s n t d := by
  refine ⟨⟨World.cell?_alloc_at _ _ _ _ rfl, World.frozen?_alloc_at _ _ _ _ rfl, fun i hi => ?_⟩, ⟨World.cell?_alloc_at _ _ _ _ rfl, World.frozen?_alloc_at _ _ _ _ rfl, fun i hi => ?_⟩⟩
  all_goals
    rcases i with _ | _ | _ | _ | _ | _ | _ | _ | i
    all_goals first | exact ⟨World.cell?_alloc_at _ _ _ _ rfl, World.frozen?_alloc_at _ _ _ _ rfl⟩ | omega
theorem RatAt.keep {w w' : World} {b n d B : Nat} {s t : Bool} (h : RatAt w b s n t d) (hb : Below B w w') (hB : b < B) : RatAt w' b s n t d := ⟨h.num.keep hb hB, h.den.keep hb hB⟩
theorem RatAt.but {w w' : World} {b c n d : Nat} {s t : Bool} (h : RatAt w b s n t d) (hw : But1 w w' c) (hne : b ≠ c) : RatAt w' b s n t d := ⟨h.num.but hw hne, h.den.but hw hne⟩
theorem RatAt.drew {w : World} {b n d : Nat} {s t : Bool} (h : RatAt w b s n t d) : RatAt w.drew b s n t d := ⟨h.num.drew, h.den.drew⟩
theorem RatAt.alloc {w : World} {b n d : Nat} {s t : Bool} (h : RatAt w b s n t d) (hb : b < w.heap.size) (o : Obj) : RatAt (w.alloc o) b s n t d := h.keep (below_alloc w o) hb
theorem RatAt.ste {w w' : World} {b c k n d : Nat} {s t : Bool} (h : RatAt w c s n t d) (g : Ste w w' b k) (hc : c < w.heap.size) (hne : c ≠ b) : RatAt w' c s n t d := ⟨h.num.ste g hc (.inl hne), h.den.ste g hc (.inl hne)⟩
theorem RatAt.cells {w : World} {b n d : Nat} {s t : Bool} (h : RatAt w b s n t d) : w.cell? ⟨b, 0, none⟩ = some (.bool s) ∧ w.cell? ⟨b, 1, none⟩ = some (.int .u64 (wd n 0 : Int)) ∧ w.cell? ⟨b, 2, none⟩ = some (.int .u64 (wd n 1 : Int)) ∧ w.cell? ⟨b, 3, none⟩ = some (.int .u64 (wd n 2 : Int)) ∧ w.cell? ⟨b, 4, none⟩ = some (.int .u64 (wd n 3 : Int)) ∧ w.cell? ⟨b, 5, none⟩ = some (.int .u64 (wd n 4 : Int)) ∧ w.cell? ⟨b, 6, none⟩ = some (.int .u64 (wd n 5 : Int)) ∧ w.cell? ⟨b, 7, none⟩ = some (.int .u64 (wd n 6 : Int)) ∧ w.cell? ⟨b, 8, none⟩ = some (.int .u64 (wd n 7 : Int)) ∧ w.cell? ⟨b, 9, none⟩ = some (.bool t) ∧ w.cell? ⟨b, 10, none⟩ = some (.int .u64 (wd d 0 : Int)) ∧ w.cell? ⟨b, 11, none⟩ = some (.int .u64 (wd d 1 : Int)) ∧ w.cell? ⟨b, 12, none⟩ = some (.int .u64 (wd d 2 : Int)) ∧ w.cell? ⟨b, 13, none⟩ = some (.int .u64 (wd d 3 : Int)) ∧ w.cell? ⟨b, 14, none⟩ = some (.int .u64 (wd d 4 : Int)) ∧ w.cell? ⟨b, 15, none⟩ = some (.int .u64 (wd d 5 : Int)) ∧ w.cell? ⟨b, 16, none⟩ = some (.int .u64 (wd d 6 : Int)) ∧ w.cell? ⟨b, 17, none⟩ = some (.int .u64 (wd d 7 : Int)) := by
  obtain ⟨⟨a0, x0⟩, ⟨a1, x1⟩, ⟨a2, x2⟩, ⟨a3, x3⟩, ⟨a4, x4⟩, ⟨a5, x5⟩, ⟨a6, x6⟩, ⟨a7, x7⟩, ⟨a8, x8⟩⟩ := h.num.nine0
  obtain ⟨⟨c0, y0⟩, ⟨c1, y1⟩, ⟨c2, y2⟩, ⟨c3, y3⟩, ⟨c4, y4⟩, ⟨c5, y5⟩, ⟨c6, y6⟩, ⟨c7, y7⟩, ⟨c8, y8⟩⟩ := h.den.nine9
  exact ⟨a0, a1, a2, a3, a4, a5, a6, a7, a8, c0, c1, c2, c3, c4, c5, c6, c7, c8⟩
/-- Eighteen stores. -/
def st18 (w : World) (b : Nat) (s : Bool) (n : Nat) (t : Bool) (d : Nat) : World := ((((((((((st9 w b s n).setCell ⟨b, 9, none⟩ (.bool t)).setCell ⟨b, 10, none⟩ (.int .u64 (wd d 0 : Int))).setCell ⟨b, 11, none⟩ (.int .u64 (wd d 1 : Int))).setCell ⟨b, 12, none⟩ (.int .u64 (wd d 2 : Int))).setCell ⟨b, 13, none⟩ (.int .u64 (wd d 3 : Int))).setCell ⟨b, 14, none⟩ (.int .u64 (wd d 4 : Int))).setCell ⟨b, 15, none⟩ (.int .u64 (wd d 5 : Int))).setCell ⟨b, 16, none⟩ (.int .u64 (wd d 6 : Int))).setCell ⟨b, 17, none⟩ (.int .u64 (wd d 7 : Int)))
theorem st18_but (w : World) (b : Nat) (s : Bool) (n : Nat) (t : Bool) (d : Nat) : But1 w (st18 w b s n t d) b :=
  (((((((((st9_but w b s n).trans (But1.setCell _ b 9 _)).trans (But1.setCell _ b 10 _)).trans (But1.setCell _ b 11 _)).trans (But1.setCell _ b 12 _)).trans (But1.setCell _ b 13 _)).trans (But1.setCell _ b 14 _)).trans (But1.setCell _ b 15 _)).trans (But1.setCell _ b 16 _)).trans (But1.setCell _ b 17 _)
/-! '==' -/
theorem agg9 (s : Bool) (n : Nat) : intV s n = .agg #[.bool s, .int .u64 (wd n 0 : Int), .int .u64 (wd n 1 : Int), .int .u64 (wd n 2 : Int), .int .u64 (wd n 3 : Int), .int .u64 (wd n 4 : Int), .int .u64 (wd n 5 : Int), .int .u64 (wd n 6 : Int), .int .u64 (wd n 7 : Int)] := rfl
set_option maxRecDepth 100000 in
set_option maxHeartbeats 4000000 in
theorem eqInt_of (k : Nat) (s : Bool) (n : Nat) (t : Bool) (m : Nat) (w : World) (hn : Fits n) (hm : Fits m) :
    (Op.equalIn (k + 3) 25 (intV s n) (intV t m)).run Tryd.prog w = .ok (decide (s = t ∧ n = m)) w := by
  have hf : Tryd.prog.underlying 25 = some (.struct (Tryd.prog.fieldsOf 25)) := by kernel_rfl
  have hp : Tryd.prog.stoodInHeld 25 = false := by kernel_rfl
  have hl : ((Tryd.prog.fieldsOf 25).toList.map fun f => (f.name == "_", f.type, f.offset)) = [(false, 4, 0), (false, 23, 1)] := by kernel_rfl
  have hb : Tryd.prog.plainKey 4 = true := by kernel_rfl
  have ub : Tryd.prog.underlying 4 = some .bool := by kernel_rfl
  rw [agg9, agg9, run_equalIn_struct (P := Tryd.prog) w _ _ _ _ hf hp]
  obtain ⟨f0, f1, hfs, h0, h1⟩ : ∃ f0 f1 : Field, (Tryd.prog.fieldsOf 25).toList = [f0, f1] ∧ (f0.name == "_", f0.type, f0.offset) = (false, 4, 0) ∧ (f1.name == "_", f1.type, f1.offset) = (false, 23, 1) := by
    generalize (Tryd.prog.fieldsOf 25).toList = l at hl
    rcases l with _ | ⟨f0, _ | ⟨f1, _ | ⟨f2, l⟩⟩⟩
    · simp at hl
    · simp at hl
    · simp only [List.map_cons, List.map_nil, List.cons.injEq, and_true] at hl
      exact ⟨f0, f1, rfl, hl.1, hl.2⟩
    · simp at hl
  simp only [Prod.mk.injEq] at h0 h1
  obtain ⟨n0, t0, o0⟩ := h0
  obtain ⟨n1, t1, o1⟩ := h1
  have n0' : f0.name ≠ "_" := by simpa using n0
  have n1' : f1.name ≠ "_" := by simpa using n1
  rw [hfs]
  have hpart : ∀ (x : Bool) (y : Nat), (part 23 #[.bool x, .int .u64 (wd y 0 : Int), .int .u64 (wd y 1 : Int), .int .u64 (wd y 2 : Int), .int .u64 (wd y 3 : Int), .int .u64 (wd y 4 : Int), .int .u64 (wd y 5 : Int), .int .u64 (wd y 6 : Int), .int .u64 (wd y 7 : Int)] 1).run Tryd.prog w = .ok (wordsV y) w := fun x y => by kernel_rfl
  have hpb : ∀ (x : Bool) (y : Nat), (part 4 #[.bool x, .int .u64 (wd y 0 : Int), .int .u64 (wd y 1 : Int), .int .u64 (wd y 2 : Int), .int .u64 (wd y 3 : Int), .int .u64 (wd y 4 : Int), .int .u64 (wd y 5 : Int), .int .u64 (wd y 6 : Int), .int .u64 (wd y 7 : Int)] 0).run Tryd.prog w = .ok (.bool x) w := fun x y => run_part_plain w hb rfl
  have e0 : ∀ k, (Op.equalIn (k + 1) 4 (.bool s) (.bool t)).run Tryd.prog w = .ok (s == t) w := fun k => run_equalIn_bool w k 4 s t ub
  have e1 := eqWords_any k 23 (by kernel_rfl) n m w hn hm
  by_cases hs : s = t
  · subst hs
    have es : (s == s) = true := beq_self_eq_true s
    simp only [Op.eqFields, if_pos n0', if_pos n1', t0, t1, o0, o1, Sem.run_bind, hpb, Result.andThen_ok, e0, es, Bool.not_true, Bool.false_eq_true, if_false, hpart, e1]
    by_cases hnm : n = m
    · subst hnm; simp
    · simp [hnm]
  · have es : (s == t) = false := by simpa using hs
    simp [Op.eqFields, n0', t0, o0, hpb, e0, es, hs]
theorem eqInt (s : Bool) (n : Nat) (t : Bool) (m : Nat) (w : World) (hn : Fits n) (hm : Fits m) : (binOp .eql 25 (intV s n) (intV t m)).run Tryd.prog w = .ok (.bool (decide (s = t ∧ n = m))) w := by
  have := eqInt_of 9997 s n t m w hn hm
  unfold intV at this ⊢
  rw [run_eql_struct, show (10000 : Nat) = 9997 + 3 from rfl, this]
  rfl
theorem neInt (s : Bool) (n : Nat) (t : Bool) (m : Nat) (w : World) (hn : Fits n) (hm : Fits m) : (binOp .neq 25 (intV s n) (intV t m)).run Tryd.prog w = .ok (.bool (!decide (s = t ∧ n = m))) w := by
  have := eqInt_of 9997 s n t m w hn hm
  unfold intV at this ⊢
  rw [run_neq_struct, show (10000 : Nat) = 9997 + 3 from rfl, this]
  rfl
theorem agg18 (s : Bool) (n : Nat) (t : Bool) (d : Nat) : ratV s n t d = .agg #[.bool s, .int .u64 (wd n 0 : Int), .int .u64 (wd n 1 : Int), .int .u64 (wd n 2 : Int), .int .u64 (wd n 3 : Int), .int .u64 (wd n 4 : Int), .int .u64 (wd n 5 : Int), .int .u64 (wd n 6 : Int), .int .u64 (wd n 7 : Int), .bool t, .int .u64 (wd d 0 : Int), .int .u64 (wd d 1 : Int), .int .u64 (wd d 2 : Int), .int .u64 (wd d 3 : Int), .int .u64 (wd d 4 : Int), .int .u64 (wd d 5 : Int), .int .u64 (wd d 6 : Int), .int .u64 (wd d 7 : Int)] := rfl
set_option maxRecDepth 100000 in
set_option maxHeartbeats 4000000 in
theorem eqRat_of (k : Nat) (s : Bool) (n : Nat) (t : Bool) (d : Nat) (s' : Bool) (n' : Nat) (t' : Bool) (d' : Nat) (w : World) (hn : Fits n) (hd : Fits d) (hn' : Fits n') (hd' : Fits d') :
    (Op.equalIn (k + 4) 27 (ratV s n t d) (ratV s' n' t' d')).run Tryd.prog w = .ok (decide (s = s' ∧ n = n') && decide (t = t' ∧ d = d')) w := by
  have hf : Tryd.prog.underlying 27 = some (.struct (Tryd.prog.fieldsOf 27)) := by kernel_rfl
  have hp : Tryd.prog.stoodInHeld 27 = false := by kernel_rfl
  have hl : ((Tryd.prog.fieldsOf 27).toList.map fun f => (f.name == "_", f.type, f.offset)) = [(false, 25, 0), (false, 25, 9)] := by kernel_rfl
  rw [agg18, agg18, run_equalIn_struct (P := Tryd.prog) w _ _ _ _ hf hp]
  obtain ⟨f0, f1, hfs, h0, h1⟩ : ∃ f0 f1 : Field, (Tryd.prog.fieldsOf 27).toList = [f0, f1] ∧ (f0.name == "_", f0.type, f0.offset) = (false, 25, 0) ∧ (f1.name == "_", f1.type, f1.offset) = (false, 25, 9) := by
    generalize (Tryd.prog.fieldsOf 27).toList = l at hl
    rcases l with _ | ⟨f0, _ | ⟨f1, _ | ⟨f2, l⟩⟩⟩
    · simp at hl
    · simp at hl
    · simp only [List.map_cons, List.map_nil, List.cons.injEq, and_true] at hl
      exact ⟨f0, f1, rfl, hl.1, hl.2⟩
    · simp at hl
  simp only [Prod.mk.injEq] at h0 h1
  obtain ⟨n0, t0, o0⟩ := h0
  obtain ⟨n1, t1, o1⟩ := h1
  have n0' : f0.name ≠ "_" := by simpa using n0
  have n1' : f1.name ≠ "_" := by simpa using n1
  rw [hfs]
  have hp0 : ∀ (x : Bool) (y : Nat) (x' : Bool) (y' : Nat), (part 25 #[.bool x, .int .u64 (wd y 0 : Int), .int .u64 (wd y 1 : Int), .int .u64 (wd y 2 : Int), .int .u64 (wd y 3 : Int), .int .u64 (wd y 4 : Int), .int .u64 (wd y 5 : Int), .int .u64 (wd y 6 : Int), .int .u64 (wd y 7 : Int), .bool x', .int .u64 (wd y' 0 : Int), .int .u64 (wd y' 1 : Int), .int .u64 (wd y' 2 : Int), .int .u64 (wd y' 3 : Int), .int .u64 (wd y' 4 : Int), .int .u64 (wd y' 5 : Int), .int .u64 (wd y' 6 : Int), .int .u64 (wd y' 7 : Int)] 0).run Tryd.prog w = .ok (intV x y) w := fun x y x' y' => by kernel_rfl
  have hp9 : ∀ (x : Bool) (y : Nat) (x' : Bool) (y' : Nat), (part 25 #[.bool x, .int .u64 (wd y 0 : Int), .int .u64 (wd y 1 : Int), .int .u64 (wd y 2 : Int), .int .u64 (wd y 3 : Int), .int .u64 (wd y 4 : Int), .int .u64 (wd y 5 : Int), .int .u64 (wd y 6 : Int), .int .u64 (wd y 7 : Int), .bool x', .int .u64 (wd y' 0 : Int), .int .u64 (wd y' 1 : Int), .int .u64 (wd y' 2 : Int), .int .u64 (wd y' 3 : Int), .int .u64 (wd y' 4 : Int), .int .u64 (wd y' 5 : Int), .int .u64 (wd y' 6 : Int), .int .u64 (wd y' 7 : Int)] 9).run Tryd.prog w = .ok (intV x' y') w := fun x y x' y' => by kernel_rfl
  have e0 := eqInt_of k s n s' n' w hn hn'
  have e1 := eqInt_of k t d t' d' w hd hd'
  obtain ⟨c0, hc0⟩ : ∃ c, decide (s = s' ∧ n = n') = c := ⟨_, rfl⟩
  obtain ⟨c1, hc1⟩ : ∃ c, decide (t = t' ∧ d = d') = c := ⟨_, rfl⟩
  rw [hc0] at e0 ⊢
  rw [hc1] at e1 ⊢
  clear hc0 hc1
  cases c0 with
  | true =>
    simp only [Op.eqFields, if_pos n0', if_pos n1', t0, t1, o0, o1, Sem.run_bind, hp0, Result.andThen_ok, e0, Bool.not_true, Bool.false_eq_true, if_false, hp9, e1]
    cases c1 <;> simp
  | false => simp [Op.eqFields, n0', t0, o0, hp0, e0]
theorem eqRat (s : Bool) (n : Nat) (t : Bool) (d : Nat) (s' : Bool) (n' : Nat) (t' : Bool) (d' : Nat) (w : World) (hn : Fits n) (hd : Fits d) (hn' : Fits n') (hd' : Fits d') :
    (binOp .eql 27 (ratV s n t d) (ratV s' n' t' d')).run Tryd.prog w = .ok (.bool (decide (s = s' ∧ n = n') && decide (t = t' ∧ d = d'))) w := by
  have := eqRat_of 9996 s n t d s' n' t' d' w hn hd hn' hd'
  unfold ratV at this ⊢
  rw [run_eql_struct, show (10000 : Nat) = 9996 + 4 from rfl, this]
  rfl
theorem neRat (s : Bool) (n : Nat) (t : Bool) (d : Nat) (s' : Bool) (n' : Nat) (t' : Bool) (d' : Nat) (w : World) (hn : Fits n) (hd : Fits d) (hn' : Fits n') (hd' : Fits d') :
    (binOp .neq 27 (ratV s n t d) (ratV s' n' t' d')).run Tryd.prog w = .ok (.bool (!(decide (s = s' ∧ n = n') && decide (t = t' ∧ d = d')))) w := by
  have := eqRat_of 9996 s n t d s' n' t' d' w hn hd hn' hd'
  unfold ratV at this ⊢
  rw [run_neq_struct, show (10000 : Nat) = 9996 + 4 from rfl, this]
  rfl
end Go.Proofs.YtbcnpajdmlbieaaDoor
