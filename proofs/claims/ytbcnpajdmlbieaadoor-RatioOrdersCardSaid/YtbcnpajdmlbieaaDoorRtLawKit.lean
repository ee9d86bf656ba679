/-
  Stage 8: errors against nil; what the laws' walks share.
-/
import Derived.Test.YtbcnpajdmlbieaaDoorRtMathC
namespace Go.Proofs.YtbcnpajdmlbieaaDoor
open Go.RowKit Go.Sort
set_option linter.unusedSimpArgs false

theorem fits_small (k : Nat) (hk : k < 100) : Fits k := Nat.lt_of_lt_of_le hk (Nat.le_trans (show 100 ≤ 18446744073709551616 by decide) (Nat.le_self_pow (by decide) _))
theorem eq_nil (k : Nat) (w : World) : (binOp .eql 29 (errV k) .nilIface).run Tryd.prog w = .ok (.bool (decide (k = 0))) w := by
  by_cases h : k = 0
  · subst h
    rw [errV_zero]
    have : (binOp .eql 29 .nilIface .nilIface).run Tryd.prog w = .ok (.bool true) w := by go_simp
    rw [this]; rfl
  · rw [errV_pos h, decide_eq_false h]
    go_simp
theorem ne_nil (k : Nat) (w : World) : (binOp .neq 29 (errV k) .nilIface).run Tryd.prog w = .ok (.bool (!decide (k = 0))) w := by
  by_cases h : k = 0
  · subst h
    rw [errV_zero]
    have : (binOp .neq 29 .nilIface .nilIface).run Tryd.prog w = .ok (.bool false) w := by go_simp
    rw [this]; rfl
  · rw [errV_pos h, decide_eq_false h]
    go_simp
theorem egE_nil (x : Operand) (k : Nat) (w : World) : (eqGuard .eql 29 x (.const .nilIface) (errV k) .nilIface).run Tryd.prog w = .ok () w := by
  by_cases h : k = 0
  · subst h
    rw [errV_zero]
    cases x <;> rfl
  · rw [errV_pos h]
    rfl
theorem egN_nil (x : Operand) (k : Nat) (w : World) : (eqGuard .neq 29 x (.const .nilIface) (errV k) .nilIface).run Tryd.prog w = .ok () w := by
  by_cases h : k = 0
  · subst h
    rw [errV_zero]
    cases x <;> rfl
  · rw [errV_pos h]
    rfl
theorem eqn_run {op : Oper} {a : Act} {w : World} {x : Operand} {u : TypeId} (ho : op.op = .binOp .eql 29 x (.const .nilIface) u) {k : Nat} (hx : a.eval x = errV k) : (execOp a.eval op).run Tryd.prog w = .ok (.value (.bool (decide (k = 0)))) w := by
  unfold execOp
  have hn : a.eval (.const .nilIface) = .nilIface := rfl
  simp only [ho, hx, hn, Sem.run_bind, Sem.run_pure, Result.andThen_ok, egE_nil, eq_nil]
theorem nen_run {op : Oper} {a : Act} {w : World} {x : Operand} {u : TypeId} (ho : op.op = .binOp .neq 29 x (.const .nilIface) u) {k : Nat} (hx : a.eval x = errV k) : (execOp a.eval op).run Tryd.prog w = .ok (.value (.bool (!decide (k = 0)))) w := by
  unfold execOp
  have hn : a.eval (.const .nilIface) = .nilIface := rfl
  simp only [ho, hx, hn, Sem.run_bind, Sem.run_pure, Result.andThen_ok, egN_nil, ne_nil]
theorem eqr_run {op : Oper} {a : Act} {w : World} {x y : Operand} {u : TypeId} (ho : op.op = .binOp .eql 27 x y u) {s t s' t' : Bool} {n d n' d' : Nat} (hx : a.eval x = ratV s n t d) (hy : a.eval y = ratV s' n' t' d')
    (hn : Fits n) (hd : Fits d) (hn' : Fits n') (hd' : Fits d') : (execOp a.eval op).run Tryd.prog w = .ok (.value (.bool (decide (s = s' ∧ n = n') && decide (t = t' ∧ d = d')))) w := by
  unfold execOp
  simp only [ho, hx, hy, Sem.run_bind, Sem.run_pure, Result.andThen_ok, eqg_rat, eqRat _ _ _ _ _ _ _ _ _ hn hd hn' hd']
theorem ner_run {op : Oper} {a : Act} {w : World} {x y : Operand} {u : TypeId} (ho : op.op = .binOp .neq 27 x y u) {s t s' t' : Bool} {n d n' d' : Nat} (hx : a.eval x = ratV s n t d) (hy : a.eval y = ratV s' n' t' d')
    (hn : Fits n) (hd : Fits d) (hn' : Fits n') (hd' : Fits d') : (execOp a.eval op).run Tryd.prog w = .ok (.value (.bool (!(decide (s = s' ∧ n = n') && decide (t = t' ∧ d = d'))))) w := by
  unfold execOp
  simp only [ho, hx, hy, Sem.run_bind, Sem.run_pure, Result.andThen_ok, eqg_rat, neRat _ _ _ _ _ _ _ _ _ hn hd hn' hd']
theorem eqn_run' {op : Oper} {a : Act} {w : World} {x : Operand} {u : TypeId} {k : Nat} {b : Bool} (hb : decide (k = 0) = b) (ho : op.op = .binOp .eql 29 x (.const .nilIface) u) (hx : a.eval x = errV k) : (execOp a.eval op).run Tryd.prog w = .ok (.value (.bool b)) w := by
  rw [← hb]
  exact eqn_run ho hx
theorem nen_run' {op : Oper} {a : Act} {w : World} {x : Operand} {u : TypeId} {k : Nat} {b : Bool} (hb : (!decide (k = 0)) = b) (ho : op.op = .binOp .neq 29 x (.const .nilIface) u) (hx : a.eval x = errV k) : (execOp a.eval op).run Tryd.prog w = .ok (.value (.bool b)) w := by
  rw [← hb]
  exact nen_run ho hx
theorem ner_run' {op : Oper} {a : Act} {w : World} {x y : Operand} {u : TypeId} {s t s' t' : Bool} {n d n' d' : Nat} (hb : (decide (s = s' ∧ n = n') && decide (t = t' ∧ d = d')) = true) (ho : op.op = .binOp .neq 27 x y u) (hx : a.eval x = ratV s n t d) (hy : a.eval y = ratV s' n' t' d')
    (hn : Fits n) (hd : Fits d) (hn' : Fits n') (hd' : Fits d') : (execOp a.eval op).run Tryd.prog w = .ok (.value (.bool false)) w := by
  have := ner_run (w := w) ho hx hy hn hd hn' hd'
  rwa [hb] at this
theorem eqr_self {op : Oper} {a : Act} {w : World} {x y : Operand} {u : TypeId} {s t : Bool} {n d : Nat} (ho : op.op = .binOp .eql 27 x y u) (hx : a.eval x = ratV s n t d) (hy : a.eval y = ratV s n t d)
    (hn : Fits n) (hd : Fits d) : (execOp a.eval op).run Tryd.prog w = .ok (.value (.bool true)) w := by
  have := eqr_run (w := w) ho hx hy hn hd hn hd
  simpa using this
theorem load_words {W : World} {b n : Nat} {s : Bool} (h : IntO W b 0 s n) : (loadVar 23 ⟨b, 1, none⟩).run Tryd.prog W = .ok (wordsV n) W := by
  obtain ⟨_, g1, g2, g3, g4, g5, g6, g7, g8⟩ := h.nine0
  refine run_loadVar_mid W b 1 23 [.int .u64 (wd n 0 : Int), .int .u64 (wd n 1 : Int), .int .u64 (wd n 2 : Int), .int .u64 (wd n 3 : Int), .int .u64 (wd n 4 : Int), .int .u64 (wd n 5 : Int), .int .u64 (wd n 6 : Int), .int .u64 (wd n 7 : Int)] (.array 8 22) ?_ (by kernel_rfl) rfl (by kernel_rfl)
  intro j v hv
  rcases j with _ | _ | _ | _ | _ | _ | _ | _ | j
  · exact g1.1.trans hv
  · exact g2.1.trans hv
  · exact g3.1.trans hv
  · exact g4.1.trans hv
  · exact g5.1.trans hv
  · exact g6.1.trans hv
  · exact g7.1.trans hv
  · exact g8.1.trans hv
  · simp at hv
theorem ld_words {op : Oper} {a : Act} {w : World} (x : Operand) (ho : op.op = .load 23 x) {b n : Nat} {s : Bool} (hx : a.eval x = .pointer (some ⟨b, 1, none⟩)) (h : IntO w b 0 s n) : (execOp a.eval op).run Tryd.prog w = .ok (.value (wordsV n)) w := by
  unfold execOp
  simp only [ho, hx, Instr.loadAt, Instr.sureAddr, Sem.run_bind, Sem.run_pure, Result.andThen_ok, load_words h]
theorem build_words {a : Act} {w : World} {op : Oper} {x : Operand} (ho : op.op = .build 25 #[(1, x)]) {n : Nat} (hx : a.eval x = wordsV n) : (execOp a.eval op).run Tryd.prog w = .ok (.value (intV false n)) w := by
  have hrun : (Instr.build 25 #[(1, wordsV n)]).run Tryd.prog w = .ok (intV false n) w := by
    unfold intV wordsV
    go_simp
  unfold execOp
  simp only [ho, List.map_toArray, List.map_cons, List.map_nil, hx, hrun, Sem.run_bind, Sem.run_pure, Result.andThen_ok]
theorem negI_run {z : Int} (h1 : -1 ≤ z) (h2 : z ≤ 1) (w : World) : (Op.unary .neg (.int .i64 z)).run Tryd.prog w = .ok (.int .i64 (-z)) w := by
  have h : z = -1 ∨ z = 0 ∨ z = 1 := by omega
  rcases h with rfl | rfl | rfl <;> rfl
theorem neg_run {op : Oper} {a : Act} {w : World} {x : Operand} {T : TypeId} (ho : op.op = .unOp .neg T x) {z : Int} (hx : a.eval x = .int .i64 z) (h1 : -1 ≤ z) (h2 : z ≤ 1) : (execOp a.eval op).run Tryd.prog w = .ok (.value (.int .i64 (-z))) w := by
  unfold execOp
  simp only [ho, hx, Sem.run_bind, Sem.run_pure, Result.andThen_ok, negI_run h1 h2]
/-! In a region in its text's order: an operation, by its run. -/
theorem wpList_val {ops : Array Oper} {rest : List Oper} {op : Oper} {a : Act} {w : World} {Q : Exit → Act → World → Prop} (hw : Region.wanted op (yielded ops a.tmps) = true) {v : Value} (hv : (execOp a.eval op).run Tryd.prog w = .ok (.value v) w)
    (hK : wpList Tryd.prog ops Q rest (a.put op.dst v) w) : wpList Tryd.prog ops Q (op :: rest) a w := by
  refine wpList_step fun K hK' => ?_
  rw [if_pos hw]
  unfold Oper.wp
  rw [hv]
  exact hK' _ _ hK
theorem errV_sum (s : Bool) (n : Nat) (t : Bool) (d : Nat) : errV (chk s n t d) = if vld s n t d then .nilIface else .iface 56 (.int .i64 (8 : Nat)) := by
  unfold chk
  split <;> rfl
end Go.Proofs.YtbcnpajdmlbieaaDoor
