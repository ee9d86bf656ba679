/-
  Stage 8: errors against nil; what the laws' walks share.
-/
import Derived.Test.YtbcnpajdmlbieaaGreatDoorMg33
import Derived.Test.YtbcnpajdmlbieaaGreatDoorMg00
import Derived.LaidEql
import Derived.Stop.Asserts
import Derived.RowKitTokens
import Derived.Test.YtbcnpajdmlbieaaGreatDoorMg28
import Derived.Test.YtbcnpajdmlbieaaGreatDoorMg30

namespace Go.Proofs.YtbcnpajdmlbieaaGreatDoor
open Go.RowKit Go.Sort
set_option linter.unusedSimpArgs false

theorem fits_small (k : Nat) (hk : k < 100) : Fits k := Nat.lt_of_lt_of_le hk (Nat.le_trans (show 100 ≤ 18446744073709551616 by decide) (Nat.le_self_pow (by decide) _))
theorem eq_nil (k : Nat) (w : World) : (binOp .eql 29 (errV k) .nilIface).run Tryz.prog w = .ok (.bool (decide (k = 0))) w := by
  by_cases h : k = 0
  · subst h
    rw [errV_zero]
    have : (binOp .eql 29 .nilIface .nilIface).run Tryz.prog w = .ok (.bool true) w := by go_simp
    rw [this]; rfl
  · rw [errV_pos h, decide_eq_false h]
    go_simp
theorem ne_nil (k : Nat) (w : World) : (binOp .neq 29 (errV k) .nilIface).run Tryz.prog w = .ok (.bool (!decide (k = 0))) w := by
  by_cases h : k = 0
  · subst h
    rw [errV_zero]
    have : (binOp .neq 29 .nilIface .nilIface).run Tryz.prog w = .ok (.bool false) w := by go_simp
    rw [this]; rfl
  · rw [errV_pos h, decide_eq_false h]
    go_simp
theorem egE_nil (x : Operand) (k : Nat) (w : World) : (eqGuard .eql 29 x (.const .nilIface) (errV k) .nilIface).run Tryz.prog w = .ok () w := by
  by_cases h : k = 0
  · subst h
    rw [errV_zero]
    cases x <;> rfl
  · rw [errV_pos h]
    rfl
theorem egN_nil (x : Operand) (k : Nat) (w : World) : (eqGuard .neq 29 x (.const .nilIface) (errV k) .nilIface).run Tryz.prog w = .ok () w := by
  by_cases h : k = 0
  · subst h
    rw [errV_zero]
    cases x <;> rfl
  · rw [errV_pos h]
    rfl
theorem eqn_run {op : Oper} {a : Act} {w : World} {x : Operand} {u : TypeId} (ho : op.op = .binOp .eql 29 x (.const .nilIface) u) {k : Nat} (hx : a.eval x = errV k) : (execOp a.eval op).run Tryz.prog w = .ok (.value (.bool (decide (k = 0)))) w := by
  unfold execOp
  have hn : a.eval (.const .nilIface) = .nilIface := rfl
  simp only [ho, hx, hn, Sem.run_bind, Sem.run_pure, Result.andThen_ok, egE_nil, eq_nil]
theorem nen_run {op : Oper} {a : Act} {w : World} {x : Operand} {u : TypeId} (ho : op.op = .binOp .neq 29 x (.const .nilIface) u) {k : Nat} (hx : a.eval x = errV k) : (execOp a.eval op).run Tryz.prog w = .ok (.value (.bool (!decide (k = 0)))) w := by
  unfold execOp
  have hn : a.eval (.const .nilIface) = .nilIface := rfl
  simp only [ho, hx, hn, Sem.run_bind, Sem.run_pure, Result.andThen_ok, egN_nil, ne_nil]
theorem eqr_run {op : Oper} {a : Act} {w : World} {x y : Operand} {u : TypeId} (ho : op.op = .binOp .eql 27 x y u) {s t s' t' : Bool} {n d n' d' : Nat} (hx : a.eval x = ratV s n t d) (hy : a.eval y = ratV s' n' t' d')
    (hn : Fits n) (hd : Fits d) (hn' : Fits n') (hd' : Fits d') : (execOp a.eval op).run Tryz.prog w = .ok (.value (.bool (decide (s = s' ∧ n = n') && decide (t = t' ∧ d = d')))) w := by
  unfold execOp
  simp only [ho, hx, hy, Sem.run_bind, Sem.run_pure, Result.andThen_ok, eqg_rat, eqRat _ _ _ _ _ _ _ _ _ hn hd hn' hd']
theorem ner_run {op : Oper} {a : Act} {w : World} {x y : Operand} {u : TypeId} (ho : op.op = .binOp .neq 27 x y u) {s t s' t' : Bool} {n d n' d' : Nat} (hx : a.eval x = ratV s n t d) (hy : a.eval y = ratV s' n' t' d')
    (hn : Fits n) (hd : Fits d) (hn' : Fits n') (hd' : Fits d') : (execOp a.eval op).run Tryz.prog w = .ok (.value (.bool (!(decide (s = s' ∧ n = n') && decide (t = t' ∧ d = d'))))) w := by
  unfold execOp
  simp only [ho, hx, hy, Sem.run_bind, Sem.run_pure, Result.andThen_ok, eqg_rat, neRat _ _ _ _ _ _ _ _ _ hn hd hn' hd']
theorem eqn_run' {op : Oper} {a : Act} {w : World} {x : Operand} {u : TypeId} {k : Nat} {b : Bool} (hb : decide (k = 0) = b) (ho : op.op = .binOp .eql 29 x (.const .nilIface) u) (hx : a.eval x = errV k) : (execOp a.eval op).run Tryz.prog w = .ok (.value (.bool b)) w := by
  rw [← hb]
  exact eqn_run ho hx
theorem nen_run' {op : Oper} {a : Act} {w : World} {x : Operand} {u : TypeId} {k : Nat} {b : Bool} (hb : (!decide (k = 0)) = b) (ho : op.op = .binOp .neq 29 x (.const .nilIface) u) (hx : a.eval x = errV k) : (execOp a.eval op).run Tryz.prog w = .ok (.value (.bool b)) w := by
  rw [← hb]
  exact nen_run ho hx
theorem ner_run' {op : Oper} {a : Act} {w : World} {x y : Operand} {u : TypeId} {s t s' t' : Bool} {n d n' d' : Nat} (hb : (decide (s = s' ∧ n = n') && decide (t = t' ∧ d = d')) = true) (ho : op.op = .binOp .neq 27 x y u) (hx : a.eval x = ratV s n t d) (hy : a.eval y = ratV s' n' t' d')
    (hn : Fits n) (hd : Fits d) (hn' : Fits n') (hd' : Fits d') : (execOp a.eval op).run Tryz.prog w = .ok (.value (.bool false)) w := by
  have := ner_run (w := w) ho hx hy hn hd hn' hd'
  rwa [hb] at this
theorem eqr_self {op : Oper} {a : Act} {w : World} {x y : Operand} {u : TypeId} {s t : Bool} {n d : Nat} (ho : op.op = .binOp .eql 27 x y u) (hx : a.eval x = ratV s n t d) (hy : a.eval y = ratV s n t d)
    (hn : Fits n) (hd : Fits d) : (execOp a.eval op).run Tryz.prog w = .ok (.value (.bool true)) w := by
  have := eqr_run (w := w) ho hx hy hn hd hn hd
  simpa using this
theorem load_words {W : World} {b n : Nat} {s : Bool} (h : IntO W b 0 s n) : (loadVar 23 ⟨b, 1, none⟩).run Tryz.prog W = .ok (wordsV n) W := by
  obtain ⟨_, g1, g2, g3, g4, g5, g6, g7, g8⟩ := h.nine0
  refine run_loadVar_mid W b 1 23 [.int .u64 (wd n 0 : Int), .int .u64 (wd n 1 : Int), .int .u64 (wd n 2 : Int), .int .u64 (wd n 3 : Int), .int .u64 (wd n 4 : Int), .int .u64 (wd n 5 : Int), .int .u64 (wd n 6 : Int), .int .u64 (wd n 7 : Int)] (.array 8 22) ?_ (by kernel_rfl) rfl (by kernel_rfl)
  intro j v hv
  rcases j with _ | _ | _ | _ | _ | _ | _ | _ | j
  · exact g1.1.trans hv
  · exact g2.1.trans hv
  · exact g3.1.trans hv
  · exact g4.1.trans hv
  · exact g5.1.trans hv
  · exact g6.1.trans hv
  · exact g7.1.trans hv
  · exact g8.1.trans hv
  · simp at hv
theorem ld_words {op : Oper} {a : Act} {w : World} (x : Operand) (ho : op.op = .load 23 x) {b n : Nat} {s : Bool} (hx : a.eval x = .pointer (some ⟨b, 1, none⟩)) (h : IntO w b 0 s n) : (execOp a.eval op).run Tryz.prog w = .ok (.value (wordsV n)) w := by
  unfold execOp
  simp only [ho, hx, Instr.loadAt, Instr.sureAddr, Sem.run_bind, Sem.run_pure, Result.andThen_ok, load_words h]
theorem build_words {a : Act} {w : World} {op : Oper} {x : Operand} (ho : op.op = .build 25 #[(1, x)]) {n : Nat} (hx : a.eval x = wordsV n) : (execOp a.eval op).run Tryz.prog w = .ok (.value (intV false n)) w := by
  have hrun : (Instr.build 25 #[(1, wordsV n)]).run Tryz.prog w = .ok (intV false n) w := by
    unfold intV wordsV
    go_simp
  unfold execOp
  simp only [ho, List.map_toArray, List.map_cons, List.map_nil, hx, hrun, Sem.run_bind, Sem.run_pure, Result.andThen_ok]
theorem negI_run {z : Int} (h1 : -1 ≤ z) (h2 : z ≤ 1) (w : World) : (Op.unary .neg (.int .i64 z)).run Tryz.prog w = .ok (.int .i64 (-z)) w := by
  have h : z = -1 ∨ z = 0 ∨ z = 1 := by omega
  rcases h with rfl | rfl | rfl <;> rfl
theorem neg_run {op : Oper} {a : Act} {w : World} {x : Operand} {T : TypeId} (ho : op.op = .unOp .neg T x) {z : Int} (hx : a.eval x = .int .i64 z) (h1 : -1 ≤ z) (h2 : z ≤ 1) : (execOp a.eval op).run Tryz.prog w = .ok (.value (.int .i64 (-z))) w := by
  unfold execOp
  simp only [ho, hx, Sem.run_bind, Sem.run_pure, Result.andThen_ok, negI_run h1 h2]
/-! In a region in its text's order: an operation, by its run. -/
theorem wpList_val {ops : Array Oper} {rest : List Oper} {op : Oper} {a : Act} {w : World} {Q : Exit → Act → World → Prop} (hw : Region.wanted op (yielded ops a.tmps) = true) {v : Value} (hv : (execOp a.eval op).run Tryz.prog w = .ok (.value v) w)
    (hK : wpList Tryz.prog ops Q rest (a.put op.dst v) w) : wpList Tryz.prog ops Q (op :: rest) a w := by
  refine wpList_step fun K hK' => ?_
  rw [if_pos hw]
  unfold Oper.wp
  rw [hv]
  exact hK' _ _ hK
theorem errV_sum (s : Bool) (n : Nat) (t : Bool) (d : Nat) : errV (chk s n t d) = if vld s n t d then .nilIface else .iface 62 (.int .i64 (8 : Nat)) := by
  unfold chk
  split <;> rfl
end Go.Proofs.YtbcnpajdmlbieaaGreatDoor

/-
  errors.Is between two errors of api's: it holds just where the numbers are the same. And 'Code' of the laws: the number of an error that is none or one of api's.
-/
namespace Go.Proofs.YtbcnpajdmlbieaaGreatDoor
open Go.RowKit Go.Extern.Stop Go.Stop Go.Extern Go.Extern.ReflectliteType Go.Extern.Rtype

theorem eqErrno (a b : Int) (w : World) : (binOp .eql 29 (.iface 62 (.int .i64 a)) (.iface 62 (.int .i64 b))).run Tryz.prog w = .ok (.bool (a == b)) w := by
  have hc : (Tryz.prog.info? 62).map (·.comparable) = some true := by kernel_rfl
  obtain ⟨i, hi, hcmp⟩ := Option.map_eq_some_iff.1 hc
  have h : ∀ d : Nat, (Op.equalIn (d + 2) 29 (.iface 62 (.int .i64 a)) (.iface 62 (.int .i64 b))).run Tryz.prog w = .ok (a == b) w := fun d => by
    simp [Op.equalIn, run_underlying Tryz.underlying29, run_underlying Tryz.underlying62, typeInfo, hi, hcmp]
  simp only [binOp]
  simp [Op.equal, Op.maxDepth, h 9998]
theorem isTypeOf (v : Value) (w : World) : (Extern.ReflectliteType.typeOf #[.iface 62 v]).run Tryz.prog w = .ok (.iface 127 (.agg #[.pointer (some ⟨6, 62, none⟩)])) w := by kernel_rfl
/-- The model's entry for reflectlite's Comparable. -/
def cmpEntry : Array Value → Sem Value := Extern.ReflectliteType.method fun t => do noPackHeld "Comparable" t; pure (.bool (← typeInfo t).comparable)
theorem isComparable (w : World) : (cmpEntry #[.agg #[.pointer (some ⟨6, 62, none⟩)]]).run Tryz.prog w = .ok (.bool true) w := by kernel_rfl
theorem runComparable (args : Array Value) (w : World) : (callFunc 144 args).run Tryz.prog w = ((cmpEntry args).run Tryz.prog w).andThen fun v w' => .ok (.value v) w' :=
  @run_callFunc_extern Tryz.prog 144 _ cmpEntry Tryz.func144 (by kernel_rfl) (by kernel_rfl) (by kernel_rfl) (by kernel_rfl) args w
theorem runTypeOf (args : Array Value) (w : World) : (callFunc 73 args).run Tryz.prog w = ((Extern.ReflectliteType.typeOf args).run Tryz.prog w).andThen fun v w' => .ok (.value v) w' :=
  @run_callFunc_extern Tryz.prog 73 _ Extern.ReflectliteType.typeOf Tryz.func73 (by kernel_rfl) (by kernel_rfl) (by kernel_rfl) (by kernel_rfl) args w
theorem isMethodComparable (v : Value) (w : World) : (Go.method 312 127 v "Comparable").run Tryz.prog w = .ok (144, v) w := by kernel_rfl
theorem noIsE (v : Value) (xT : TypeId) (w : World) : (Instr.typeAssert (.iface 62 v) xT 129 true).run Tryz.prog w = .ok (.tuple #[.nilIface, .bool false]) w := run_typeAssert_lacksB Tryz.underlying129 (by kernel_rfl) (by kernel_rfl) v xT w
theorem noUnwrapE (v : Value) (xT : TypeId) (w : World) : (Instr.typeAssert (.iface 62 v) xT 132 true).run Tryz.prog w = .ok (.tuple #[.nilIface, .bool false]) w := run_typeAssert_lacksB Tryz.underlying132 (by kernel_rfl) (by kernel_rfl) v xT w
theorem noUnwrapsE (v : Value) (xT : TypeId) (w : World) : (Instr.typeAssert (.iface 62 v) xT 134 true).run Tryz.prog w = .ok (.tuple #[.nilIface, .bool false]) w := run_typeAssert_lacksB Tryz.underlying134 (by kernel_rfl) (by kernel_rfl) v xT w
set_option maxHeartbeats 1000000 in
theorem is_errno (a c : Int) (w : World) :
    Calls Tryz.prog 44 #[errno a, errno c] w fun e w' => e = .returned (.bool (a == c)) ∧ w = w' := by
  have h8 := runTypeOf
  have h32 := runComparable
  have tT := isTypeOf
  have cT := isComparable
  have mR := isMethodComparable
  have nE := noIsE
  have uE := noUnwrapE
  have vE := noUnwrapsE
  have heq := eqErrno a c
  unfold errno
  by_cases hac : a = c
  · subst hac
    have hb : (a == a) = true := by simp
    go_enter Tryz.func44, Tryz.ntmps44
    go_wp2
    refine wp_loop_rounds 1 ?_
    rw [rounds_succ]
    go_wp2
    go_ret
    exact ⟨ret_bool hb.symm, rfl⟩
  · have hb : (a == c) = false := by simpa using hac
    clear hac
    go_enter Tryz.func44, Tryz.ntmps44
    go_wp2
    refine wp_loop_rounds 1 ?_
    rw [rounds_succ]
    go_wp2
    go_ret
    exact ⟨ret_bool hb.symm, rfl⟩
theorem is_errno_below (a c : Int) (w : World) :
    Calls Tryz.prog 44 #[errno a, errno c] w fun e w' => e = .returned (.bool (a == c)) ∧ Below w.heap.size w w' :=
  (is_errno a c w).mono fun _ _ ⟨h, hw⟩ => ⟨h, hw ▸ Below.refl _ _⟩
set_option maxHeartbeats 400000 in
theorem code_nil (w : World) : Calls Tryz.prog 14 #[.nilIface] w fun e w' => e = .returned (.int .i64 0) ∧ Below w.heap.size w w' := by
  go_enter Tryz.func14, Tryz.ntmps14
  go_wp2
  go_ret
  exact ⟨rfl, Below.refl _ _⟩
set_option maxHeartbeats 1000000 in
theorem code_of {x : Value} {t : TypeId} {v : Value} (hx : Hid (x = .iface t v)) (k : Nat) (h1 : 1 ≤ k) (h25 : k ≤ 25)
    (his : Hid (∀ (c : Int) (w : World), Calls Tryz.prog 44 #[.iface t v, errno c] w fun e w' => e = .returned (.bool ((k : Int) == c)) ∧ Below w.heap.size w w')) (w : World) :
    Calls Tryz.prog 14 #[x] w fun e w' => e = .returned (.int .i64 k) ∧ Below w.heap.size w w' := by
  rw [hx.out]
  clear hx
  go_enter Tryz.func14, Tryz.ntmps14
  go_wp2
  go_loopw [3] (fun c wr => ∃ j : Nat, 1 ≤ j ∧ j ≤ k ∧ c = .int .i64 j ∧ Below w.heap.size w wr) (fun c _ => k - (intOf c).toNat)
  case atStart => exact ⟨1, by omega, h1, rfl, Below.refl _ _⟩
  case round =>
    obtain ⟨j, hj1, hjk, rfl, hbw⟩ := hrel
    have hj25 : decide ((j : Int) ≤ 25) = true := by simp; omega
    by_cases hlt : j < k
    · have hb : ((k : Int) == (j : Int)) = false := by simp; omega
      go_wp2_with (go_at_call 44; refine (his.out _ _).mono ?_; rintro e w1 ⟨rfl, hw1⟩)
      go_roundw
      case rel => exact ⟨j + 1, by omega, by omega, by go_num, hbw.trans (hw1.mono hbw.size)⟩
      case measure => simp [intOf]; omega
    · have hb : ((k : Int) == (j : Int)) = true := by simp; omega
      have e : Hid (j = k) := show j = k by omega
      go_wp2_with (go_at_call 44; refine (his.out _ _).mono ?_; rintro e w1 ⟨rfl, hw1⟩)
      go_ret
      exact ⟨ret_int (by rw [e.out]), hbw.trans (hw1.mono hbw.size)⟩
theorem code_errno (k : Nat) (h1 : 1 ≤ k) (h25 : k ≤ 25) (w : World) :
    Calls Tryz.prog 14 #[errno k] w fun e w' => e = .returned (.int .i64 k) ∧ Below w.heap.size w w' :=
  code_of (show errno k = _ from rfl) k h1 h25 (fun c w => is_errno_below k c w) w
/-- No error, or one of api's, by its number. -/
def errOf (k : Nat) : Value := if k = 0 then .nilIface else errno k
theorem code_errOf (k : Nat) (h25 : k ≤ 25) (w : World) :
    Calls Tryz.prog 14 #[errOf k] w fun e w' => e = .returned (.int .i64 k) ∧ Below w.heap.size w w' := by
  unfold errOf
  split
  · next h => subst h; exact code_nil w
  · exact code_errno k (by omega) h25 w
end Go.Proofs.YtbcnpajdmlbieaaGreatDoor

/-
  Stage 8: the law RatioSums.
-/
namespace Go.Proofs.YtbcnpajdmlbieaaGreatDoor
open Go.RowKit Go.Sort
set_option linter.unusedSimpArgs false

set_option maxHeartbeats 4000000 in
set_option maxRecDepth 100000 in
theorem rats4 (w : World) (s0 : Bool) (n0 d0 : Nat) (s1 : Bool) (n1 d1 : Nat) (s2 : Bool) (n2 d2 : Nat) (s3 : Bool) (n3 d3 : Nat) :
    (Instr.buildSlice 49 4 #[(0, ratV s0 n0 false d0), (1, ratV s1 n1 false d1), (2, ratV s2 n2 false d2), (3, ratV s3 n3 false d3)]).run Tryz.prog w = .ok (.slice (some ⟨w.heap.size, 0, none⟩) 4 4) (w.alloc (.cells #[.bool s0, .int .u64 (wd n0 0 : Int), .int .u64 (wd n0 1 : Int), .int .u64 (wd n0 2 : Int), .int .u64 (wd n0 3 : Int), .int .u64 (wd n0 4 : Int), .int .u64 (wd n0 5 : Int), .int .u64 (wd n0 6 : Int), .int .u64 (wd n0 7 : Int), .bool false, .int .u64 (wd d0 0 : Int), .int .u64 (wd d0 1 : Int), .int .u64 (wd d0 2 : Int), .int .u64 (wd d0 3 : Int), .int .u64 (wd d0 4 : Int), .int .u64 (wd d0 5 : Int), .int .u64 (wd d0 6 : Int), .int .u64 (wd d0 7 : Int), .bool s1, .int .u64 (wd n1 0 : Int), .int .u64 (wd n1 1 : Int), .int .u64 (wd n1 2 : Int), .int .u64 (wd n1 3 : Int), .int .u64 (wd n1 4 : Int), .int .u64 (wd n1 5 : Int), .int .u64 (wd n1 6 : Int), .int .u64 (wd n1 7 : Int), .bool false, .int .u64 (wd d1 0 : Int), .int .u64 (wd d1 1 : Int), .int .u64 (wd d1 2 : Int), .int .u64 (wd d1 3 : Int), .int .u64 (wd d1 4 : Int), .int .u64 (wd d1 5 : Int), .int .u64 (wd d1 6 : Int), .int .u64 (wd d1 7 : Int), .bool s2, .int .u64 (wd n2 0 : Int), .int .u64 (wd n2 1 : Int), .int .u64 (wd n2 2 : Int), .int .u64 (wd n2 3 : Int), .int .u64 (wd n2 4 : Int), .int .u64 (wd n2 5 : Int), .int .u64 (wd n2 6 : Int), .int .u64 (wd n2 7 : Int), .bool false, .int .u64 (wd d2 0 : Int), .int .u64 (wd d2 1 : Int), .int .u64 (wd d2 2 : Int), .int .u64 (wd d2 3 : Int), .int .u64 (wd d2 4 : Int), .int .u64 (wd d2 5 : Int), .int .u64 (wd d2 6 : Int), .int .u64 (wd d2 7 : Int), .bool s3, .int .u64 (wd n3 0 : Int), .int .u64 (wd n3 1 : Int), .int .u64 (wd n3 2 : Int), .int .u64 (wd n3 3 : Int), .int .u64 (wd n3 4 : Int), .int .u64 (wd n3 5 : Int), .int .u64 (wd n3 6 : Int), .int .u64 (wd n3 7 : Int), .bool false, .int .u64 (wd d3 0 : Int), .int .u64 (wd d3 1 : Int), .int .u64 (wd d3 2 : Int), .int .u64 (wd d3 3 : Int), .int .u64 (wd d3 4 : Int), .int .u64 (wd d3 5 : Int), .int .u64 (wd d3 6 : Int), .int .u64 (wd d3 7 : Int)] 27)) := by
  unfold ratV
  go_simp
set_option maxHeartbeats 4000000 in
set_option maxRecDepth 100000 in
theorem errs4 (w : World) (a b c d : Nat) :
    (Instr.buildSlice 51 4 #[(0, errV a), (1, errV b), (2, errV c), (3, errV d)]).run Tryz.prog w = .ok (.slice (some ⟨w.heap.size, 0, none⟩) 4 4) (w.alloc (.cells #[errV a, errV b, errV c, errV d] 29)) := by
  rcases errV_one a with h | ⟨_, h⟩ <;> rw [h] <;> rcases errV_one b with h | ⟨_, h⟩ <;> rw [h] <;> rcases errV_one c with h | ⟨_, h⟩ <;> rw [h] <;> rcases errV_one d with h | ⟨_, h⟩ <;> rw [h] <;> go_simp
/-- An operation that changes the world, by its run. -/
theorem wpList_act {ops : Array Oper} {rest : List Oper} {op : Oper} {a : Act} {w w' : World} {Q : Exit → Act → World → Prop} (hw : Region.wanted op (yielded ops a.tmps) = true) {v : Value} (hv : (execOp a.eval op).run Tryz.prog w = .ok (.value v) w')
    (hK : wpList Tryz.prog ops Q rest (a.put op.dst v) w') : wpList Tryz.prog ops Q (op :: rest) a w := by
  refine wpList_step fun K hK' => ?_
  rw [if_pos hw]
  unfold Oper.wp
  rw [hv]
  exact hK' _ _ hK
theorem exec_rats4 {op : Oper} {a : Act} {w w' : World} (x y z u : Operand) (ho : op.op = .buildSlice 49 4 #[(0, x), (1, y), (2, z), (3, u)]) {s0 : Bool} {n0 d0 : Nat} {s1 : Bool} {n1 d1 : Nat} {s2 : Bool} {n2 d2 : Nat} {s3 : Bool} {n3 d3 : Nat}
    (hx : a.eval x = ratV s0 n0 false d0) (hy : a.eval y = ratV s1 n1 false d1) (hz : a.eval z = ratV s2 n2 false d2) (hu : a.eval u = ratV s3 n3 false d3)
    {K : Nat} (hK : w.heap.size = K) (hw : w.alloc (.cells #[.bool s0, .int .u64 (wd n0 0 : Int), .int .u64 (wd n0 1 : Int), .int .u64 (wd n0 2 : Int), .int .u64 (wd n0 3 : Int), .int .u64 (wd n0 4 : Int), .int .u64 (wd n0 5 : Int), .int .u64 (wd n0 6 : Int), .int .u64 (wd n0 7 : Int), .bool false, .int .u64 (wd d0 0 : Int), .int .u64 (wd d0 1 : Int), .int .u64 (wd d0 2 : Int), .int .u64 (wd d0 3 : Int), .int .u64 (wd d0 4 : Int), .int .u64 (wd d0 5 : Int), .int .u64 (wd d0 6 : Int), .int .u64 (wd d0 7 : Int), .bool s1, .int .u64 (wd n1 0 : Int), .int .u64 (wd n1 1 : Int), .int .u64 (wd n1 2 : Int), .int .u64 (wd n1 3 : Int), .int .u64 (wd n1 4 : Int), .int .u64 (wd n1 5 : Int), .int .u64 (wd n1 6 : Int), .int .u64 (wd n1 7 : Int), .bool false, .int .u64 (wd d1 0 : Int), .int .u64 (wd d1 1 : Int), .int .u64 (wd d1 2 : Int), .int .u64 (wd d1 3 : Int), .int .u64 (wd d1 4 : Int), .int .u64 (wd d1 5 : Int), .int .u64 (wd d1 6 : Int), .int .u64 (wd d1 7 : Int), .bool s2, .int .u64 (wd n2 0 : Int), .int .u64 (wd n2 1 : Int), .int .u64 (wd n2 2 : Int), .int .u64 (wd n2 3 : Int), .int .u64 (wd n2 4 : Int), .int .u64 (wd n2 5 : Int), .int .u64 (wd n2 6 : Int), .int .u64 (wd n2 7 : Int), .bool false, .int .u64 (wd d2 0 : Int), .int .u64 (wd d2 1 : Int), .int .u64 (wd d2 2 : Int), .int .u64 (wd d2 3 : Int), .int .u64 (wd d2 4 : Int), .int .u64 (wd d2 5 : Int), .int .u64 (wd d2 6 : Int), .int .u64 (wd d2 7 : Int), .bool s3, .int .u64 (wd n3 0 : Int), .int .u64 (wd n3 1 : Int), .int .u64 (wd n3 2 : Int), .int .u64 (wd n3 3 : Int), .int .u64 (wd n3 4 : Int), .int .u64 (wd n3 5 : Int), .int .u64 (wd n3 6 : Int), .int .u64 (wd n3 7 : Int), .bool false, .int .u64 (wd d3 0 : Int), .int .u64 (wd d3 1 : Int), .int .u64 (wd d3 2 : Int), .int .u64 (wd d3 3 : Int), .int .u64 (wd d3 4 : Int), .int .u64 (wd d3 5 : Int), .int .u64 (wd d3 6 : Int), .int .u64 (wd d3 7 : Int)] 27) = w') : (execOp a.eval op).run Tryz.prog w = .ok (.value (.slice (some ⟨K, 0, none⟩) 4 4)) w' := by
  have h := rats4 w s0 n0 d0 s1 n1 d1 s2 n2 d2 s3 n3 d3
  rw [hw, hK] at h
  unfold execOp
  simp only [ho, Array.map, List.mapM_toArray, hx, hy, hz, hu, Sem.run_bind, Sem.run_pure]
  simp [hx, hy, hz, hu, h]
theorem exec_errs4 {op : Oper} {a : Act} {w w' : World} (x y z u : Operand) (ho : op.op = .buildSlice 51 4 #[(0, x), (1, y), (2, z), (3, u)]) {e0 e1 e2 e3 : Nat}
    (hx : a.eval x = errV e0) (hy : a.eval y = errV e1) (hz : a.eval z = errV e2) (hu : a.eval u = errV e3)
    {K : Nat} (hK : w.heap.size = K) (hw : w.alloc (.cells #[errV e0, errV e1, errV e2, errV e3] 29) = w') : (execOp a.eval op).run Tryz.prog w = .ok (.value (.slice (some ⟨K, 0, none⟩) 4 4)) w' := by
  have h := errs4 w e0 e1 e2 e3
  rw [hw, hK] at h
  unfold execOp
  simp only [ho]
  simp [hx, hy, hz, hu, h]
theorem wpList_load_ratO {ops : Array Oper} {rest : List Oper} {op : Oper} {a : Act} {w : World} {Q : Exit → Act → World → Prop} (hgd : op.guard = none) (x : Operand) (ho : op.op = .load 27 x)
    {b o n d : Nat} {s t : Bool} (hx : a.eval x = .pointer (some ⟨b, o, none⟩)) (h : w.rangeAt b o [.bool s, .int .u64 (wd n 0 : Int), .int .u64 (wd n 1 : Int), .int .u64 (wd n 2 : Int), .int .u64 (wd n 3 : Int), .int .u64 (wd n 4 : Int), .int .u64 (wd n 5 : Int), .int .u64 (wd n 6 : Int), .int .u64 (wd n 7 : Int), .bool t, .int .u64 (wd d 0 : Int), .int .u64 (wd d 1 : Int), .int .u64 (wd d 2 : Int), .int .u64 (wd d 3 : Int), .int .u64 (wd d 4 : Int), .int .u64 (wd d 5 : Int), .int .u64 (wd d 6 : Int), .int .u64 (wd d 7 : Int)])
    (hK : wpList Tryz.prog ops Q rest (a.put op.dst (ratV s n t d)) w) : wpList Tryz.prog ops Q (op :: rest) a w :=
  wpList_load_mid hgd 27 x ho b o hx [.bool s, .int .u64 (wd n 0 : Int), .int .u64 (wd n 1 : Int), .int .u64 (wd n 2 : Int), .int .u64 (wd n 3 : Int), .int .u64 (wd n 4 : Int), .int .u64 (wd n 5 : Int), .int .u64 (wd n 6 : Int), .int .u64 (wd n 7 : Int), .bool t, .int .u64 (wd d 0 : Int), .int .u64 (wd d 1 : Int), .int .u64 (wd d 2 : Int), .int .u64 (wd d 3 : Int), .int .u64 (wd d 4 : Int), .int .u64 (wd d 5 : Int), .int .u64 (wd d 6 : Int), .int .u64 (wd d 7 : Int)] (.struct (Tryz.prog.fieldsOf 27)) h (by kernel_rfl) rfl (by kernel_rfl) hK
theorem ner_self {op : Oper} {a : Act} {w : World} {x y : Operand} {u : TypeId} {s t : Bool} {n d : Nat} (ho : op.op = .binOp .neq 27 x y u) (hx : a.eval x = ratV s n t d) (hy : a.eval y = ratV s n t d)
    (hn : Fits n) (hd : Fits d) : (execOp a.eval op).run Tryz.prog w = .ok (.value (.bool false)) w := ner_run' (by simp) ho hx hy hn hd hn hd
theorem DoIs.le {ka kb : Nat} {zr : Bool} {r : Nat} {zd : Bool} {dd : Nat} {zero fit : Prop} {Z : Bool} {N D K : Nat} (h : DoIs ka kb zr r zd dd zero fit Z N D K) : K ≤ 25 := by
  by_cases h1 : ka = 0
  · by_cases h2 : kb = 0
    · by_cases h3 : zero
      · have := (h.b3 h1 h2 h3).2.2.2; omega
      · by_cases h4 : fit
        · have := (h.ok h1 h2 h3 h4).2.2.2.1; omega
        · have := (h.b4 h1 h2 h3 h4).2.2.2; omega
    · have := (h.b2 h2).2.2.2; omega
  · have := (h.b1 h1).2.2.2; omega
theorem CmpIs.le {ka kb : Nat} {zp : Bool} {p : Nat} {zq : Bool} {q : Nat} {c : Int} {K : Nat} (h : CmpIs ka kb zp p zq q c K) : K ≤ 25 := by
  by_cases h1 : ka = 0
  · by_cases h2 : kb = 0
    · by_cases h3 : Fits p ∧ Fits q
      · have := (h.ok h1 h2 h3.1 h3.2).2; omega
      · have := (h.b4 h1 h2 h3).2; omega
    · have := (h.b2 h2).2; omega
  · have := (h.b1 h1).2; omega
theorem code_errV (k : Nat) (h : k ≤ 25) (w : World) : Calls Tryz.prog 14 #[errV k] w fun e w' => e = .returned (.int .i64 (k : Int)) ∧ Below w.heap.size w w' := code_errOf k h w
end Go.Proofs.YtbcnpajdmlbieaaGreatDoor
