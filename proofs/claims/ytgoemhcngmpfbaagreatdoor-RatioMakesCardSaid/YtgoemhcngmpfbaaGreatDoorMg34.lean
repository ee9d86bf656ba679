/-
  errors.Is between two errors of api's: it holds just where the numbers are the same. And 'Code' of the laws: the number of an error that is none or one of api's.
-/
import Derived.Test.YtgoemhcngmpfbaaGreatDoorMg00
import Derived.LaidEql
import Derived.Stop.Asserts
import Derived.RowKitTokens
import Derived.Test.YtgoemhcngmpfbaaGreatDoorMg32
import Derived.Test.YtgoemhcngmpfbaaGreatDoorMg28
import Derived.Test.YtgoemhcngmpfbaaGreatDoorMg33
import Derived.Test.YtgoemhcngmpfbaaGreatDoorMg25
import Derived.Test.YtgoemhcngmpfbaaGreatDoorMg16
import Derived.Test.YtgoemhcngmpfbaaGreatDoorMg30

namespace Go.Proofs.YtgoemhcngmpfbaaGreatDoor
open Go.RowKit Go.Extern.Stop Go.Stop Go.Extern Go.Extern.ReflectliteType Go.Extern.Rtype

theorem eqErrno (a b : Int) (w : World) : (binOp .eql 29 (.iface 74 (.int .i64 a)) (.iface 74 (.int .i64 b))).run Tryz.prog w = .ok (.bool (a == b)) w := by
  have hc : (Tryz.prog.info? 74).map (·.comparable) = some true := by kernel_rfl
  obtain ⟨i, hi, hcmp⟩ := Option.map_eq_some_iff.1 hc
  have h : ∀ d : Nat, (Op.equalIn (d + 2) 29 (.iface 74 (.int .i64 a)) (.iface 74 (.int .i64 b))).run Tryz.prog w = .ok (a == b) w := fun d => by
    simp [Op.equalIn, run_underlying Tryz.underlying29, run_underlying Tryz.underlying74, typeInfo, hi, hcmp]
  simp only [binOp]
  simp [Op.equal, Op.maxDepth, h 9998]
theorem isTypeOf (v : Value) (w : World) : (Extern.ReflectliteType.typeOf #[.iface 74 v]).run Tryz.prog w = .ok (.iface 165 (.agg #[.pointer (some ⟨10, 74, none⟩)])) w := by kernel_rfl
/-- The model's entry for reflectlite's Comparable. -/
def cmpEntry : Array Value → Sem Value := Extern.ReflectliteType.method fun t => do noPackHeld "Comparable" t; pure (.bool (← typeInfo t).comparable)
theorem isComparable (w : World) : (cmpEntry #[.agg #[.pointer (some ⟨10, 74, none⟩)]]).run Tryz.prog w = .ok (.bool true) w := by kernel_rfl
theorem runComparable (args : Array Value) (w : World) : (callFunc 221 args).run Tryz.prog w = ((cmpEntry args).run Tryz.prog w).andThen fun v w' => .ok (.value v) w' :=
  @run_callFunc_extern Tryz.prog 221 _ cmpEntry Tryz.func221 (by kernel_rfl) (by kernel_rfl) (by kernel_rfl) (by kernel_rfl) args w
theorem runTypeOf (args : Array Value) (w : World) : (callFunc 87 args).run Tryz.prog w = ((Extern.ReflectliteType.typeOf args).run Tryz.prog w).andThen fun v w' => .ok (.value v) w' :=
  @run_callFunc_extern Tryz.prog 87 _ Extern.ReflectliteType.typeOf Tryz.func87 (by kernel_rfl) (by kernel_rfl) (by kernel_rfl) (by kernel_rfl) args w
theorem isMethodComparable (v : Value) (w : World) : (Go.method 379 165 v "Comparable").run Tryz.prog w = .ok (221, v) w := by kernel_rfl
theorem noIsE (v : Value) (xT : TypeId) (w : World) : (Instr.typeAssert (.iface 74 v) xT 167 true).run Tryz.prog w = .ok (.tuple #[.nilIface, .bool false]) w := run_typeAssert_lacksB Tryz.underlying167 (by kernel_rfl) (by kernel_rfl) v xT w
theorem noUnwrapE (v : Value) (xT : TypeId) (w : World) : (Instr.typeAssert (.iface 74 v) xT 170 true).run Tryz.prog w = .ok (.tuple #[.nilIface, .bool false]) w := run_typeAssert_lacksB Tryz.underlying170 (by kernel_rfl) (by kernel_rfl) v xT w
theorem noUnwrapsE (v : Value) (xT : TypeId) (w : World) : (Instr.typeAssert (.iface 74 v) xT 172 true).run Tryz.prog w = .ok (.tuple #[.nilIface, .bool false]) w := run_typeAssert_lacksB Tryz.underlying172 (by kernel_rfl) (by kernel_rfl) v xT w
set_option maxHeartbeats 1000000 in
theorem is_errno (a c : Int) (w : World) :
    Calls Tryz.prog 50 #[errno a, errno c] w fun e w' => e = .returned (.bool (a == c)) ∧ w = w' := by
  have h8 := runTypeOf
  have h32 := runComparable
  have tT := isTypeOf
  have cT := isComparable
  have mR := isMethodComparable
  have nE := noIsE
  have uE := noUnwrapE
  have vE := noUnwrapsE
  have heq := eqErrno a c
  unfold errno
  by_cases hac : a = c
  · subst hac
    have hb : (a == a) = true := by simp
    go_enter Tryz.func50, Tryz.ntmps50
    go_wp2
    refine wp_loop_rounds 1 ?_
    rw [rounds_succ]
    go_wp2
    go_ret
    exact ⟨ret_bool hb.symm, rfl⟩
  · have hb : (a == c) = false := by simpa using hac
    clear hac
    go_enter Tryz.func50, Tryz.ntmps50
    go_wp2
    refine wp_loop_rounds 1 ?_
    rw [rounds_succ]
    go_wp2
    go_ret
    exact ⟨ret_bool hb.symm, rfl⟩
theorem is_errno_below (a c : Int) (w : World) :
    Calls Tryz.prog 50 #[errno a, errno c] w fun e w' => e = .returned (.bool (a == c)) ∧ Below w.heap.size w w' :=
  (is_errno a c w).mono fun _ _ ⟨h, hw⟩ => ⟨h, hw ▸ Below.refl _ _⟩
set_option maxHeartbeats 400000 in
theorem code_nil (w : World) : Calls Tryz.prog 17 #[.nilIface] w fun e w' => e = .returned (.int .i64 0) ∧ Below w.heap.size w w' := by
  go_enter Tryz.func17, Tryz.ntmps17
  go_wp2
  go_ret
  exact ⟨rfl, Below.refl _ _⟩
set_option maxHeartbeats 1000000 in
theorem code_of {x : Value} {t : TypeId} {v : Value} (hx : Hid (x = .iface t v)) (k : Nat) (h1 : 1 ≤ k) (h25 : k ≤ 25)
    (his : Hid (∀ (c : Int) (w : World), Calls Tryz.prog 50 #[.iface t v, errno c] w fun e w' => e = .returned (.bool ((k : Int) == c)) ∧ Below w.heap.size w w')) (w : World) :
    Calls Tryz.prog 17 #[x] w fun e w' => e = .returned (.int .i64 k) ∧ Below w.heap.size w w' := by
  rw [hx.out]
  clear hx
  go_enter Tryz.func17, Tryz.ntmps17
  go_wp2
  go_loopw [3] (fun c wr => ∃ j : Nat, 1 ≤ j ∧ j ≤ k ∧ c = .int .i64 j ∧ Below w.heap.size w wr) (fun c _ => k - (intOf c).toNat)
  case atStart => exact ⟨1, by omega, h1, rfl, Below.refl _ _⟩
  case round =>
    obtain ⟨j, hj1, hjk, rfl, hbw⟩ := hrel
    have hj25 : decide ((j : Int) ≤ 25) = true := by simp; omega
    by_cases hlt : j < k
    · have hb : ((k : Int) == (j : Int)) = false := by simp; omega
      go_wp2_with (go_at_call 50; refine (his.out _ _).mono ?_; rintro e w1 ⟨rfl, hw1⟩)
      go_roundw
      case rel => exact ⟨j + 1, by omega, by omega, by go_num, hbw.trans (hw1.mono hbw.size)⟩
      case measure => simp [intOf]; omega
    · have hb : ((k : Int) == (j : Int)) = true := by simp; omega
      have e : Hid (j = k) := show j = k by omega
      go_wp2_with (go_at_call 50; refine (his.out _ _).mono ?_; rintro e w1 ⟨rfl, hw1⟩)
      go_ret
      exact ⟨ret_int (by rw [e.out]), hbw.trans (hw1.mono hbw.size)⟩
theorem code_errno (k : Nat) (h1 : 1 ≤ k) (h25 : k ≤ 25) (w : World) :
    Calls Tryz.prog 17 #[errno k] w fun e w' => e = .returned (.int .i64 k) ∧ Below w.heap.size w w' :=
  code_of (show errno k = _ from rfl) k h1 h25 (fun c w => is_errno_below k c w) w
/-- No error, or one of api's, by its number. -/
def errOf (k : Nat) : Value := if k = 0 then .nilIface else errno k
theorem code_errOf (k : Nat) (h25 : k ≤ 25) (w : World) :
    Calls Tryz.prog 17 #[errOf k] w fun e w' => e = .returned (.int .i64 k) ∧ Below w.heap.size w w' := by
  unfold errOf
  split
  · next h => subst h; exact code_nil w
  · exact code_errno k (by omega) h25 w
end Go.Proofs.YtgoemhcngmpfbaaGreatDoor

/-
  Stage 8: errors against nil; what the laws' walks share.
-/
namespace Go.Proofs.YtgoemhcngmpfbaaGreatDoor
open Go.RowKit Go.Sort
set_option linter.unusedSimpArgs false

theorem fits_small (k : Nat) (hk : k < 100) : Fits k := Nat.lt_of_lt_of_le hk (Nat.le_trans (show 100 ≤ 18446744073709551616 by decide) (Nat.le_self_pow (by decide) _))
theorem eq_nil (k : Nat) (w : World) : (binOp .eql 29 (errV k) .nilIface).run Tryz.prog w = .ok (.bool (decide (k = 0))) w := by
  by_cases h : k = 0
  · subst h
    rw [errV_zero]
    have : (binOp .eql 29 .nilIface .nilIface).run Tryz.prog w = .ok (.bool true) w := by go_simp
    rw [this]; rfl
  · rw [errV_pos h, decide_eq_false h]
    go_simp
theorem ne_nil (k : Nat) (w : World) : (binOp .neq 29 (errV k) .nilIface).run Tryz.prog w = .ok (.bool (!decide (k = 0))) w := by
  by_cases h : k = 0
  · subst h
    rw [errV_zero]
    have : (binOp .neq 29 .nilIface .nilIface).run Tryz.prog w = .ok (.bool false) w := by go_simp
    rw [this]; rfl
  · rw [errV_pos h, decide_eq_false h]
    go_simp
theorem egE_nil (x : Operand) (k : Nat) (w : World) : (eqGuard .eql 29 x (.const .nilIface) (errV k) .nilIface).run Tryz.prog w = .ok () w := by
  by_cases h : k = 0
  · subst h
    rw [errV_zero]
    cases x <;> rfl
  · rw [errV_pos h]
    rfl
theorem egN_nil (x : Operand) (k : Nat) (w : World) : (eqGuard .neq 29 x (.const .nilIface) (errV k) .nilIface).run Tryz.prog w = .ok () w := by
  by_cases h : k = 0
  · subst h
    rw [errV_zero]
    cases x <;> rfl
  · rw [errV_pos h]
    rfl
theorem eqn_run {op : Oper} {a : Act} {w : World} {x : Operand} {u : TypeId} (ho : op.op = .binOp .eql 29 x (.const .nilIface) u) {k : Nat} (hx : a.eval x = errV k) : (execOp a.eval op).run Tryz.prog w = .ok (.value (.bool (decide (k = 0)))) w := by
  unfold execOp
  have hn : a.eval (.const .nilIface) = .nilIface := rfl
  simp only [ho, hx, hn, Sem.run_bind, Sem.run_pure, Result.andThen_ok, egE_nil, eq_nil]
theorem nen_run {op : Oper} {a : Act} {w : World} {x : Operand} {u : TypeId} (ho : op.op = .binOp .neq 29 x (.const .nilIface) u) {k : Nat} (hx : a.eval x = errV k) : (execOp a.eval op).run Tryz.prog w = .ok (.value (.bool (!decide (k = 0)))) w := by
  unfold execOp
  have hn : a.eval (.const .nilIface) = .nilIface := rfl
  simp only [ho, hx, hn, Sem.run_bind, Sem.run_pure, Result.andThen_ok, egN_nil, ne_nil]
theorem eqr_run {op : Oper} {a : Act} {w : World} {x y : Operand} {u : TypeId} (ho : op.op = .binOp .eql 27 x y u) {s t s' t' : Bool} {n d n' d' : Nat} (hx : a.eval x = ratV s n t d) (hy : a.eval y = ratV s' n' t' d')
    (hn : Fits n) (hd : Fits d) (hn' : Fits n') (hd' : Fits d') : (execOp a.eval op).run Tryz.prog w = .ok (.value (.bool (decide (s = s' ∧ n = n') && decide (t = t' ∧ d = d')))) w := by
  unfold execOp
  simp only [ho, hx, hy, Sem.run_bind, Sem.run_pure, Result.andThen_ok, eqg_rat, eqRat _ _ _ _ _ _ _ _ _ hn hd hn' hd']
theorem ner_run {op : Oper} {a : Act} {w : World} {x y : Operand} {u : TypeId} (ho : op.op = .binOp .neq 27 x y u) {s t s' t' : Bool} {n d n' d' : Nat} (hx : a.eval x = ratV s n t d) (hy : a.eval y = ratV s' n' t' d')
    (hn : Fits n) (hd : Fits d) (hn' : Fits n') (hd' : Fits d') : (execOp a.eval op).run Tryz.prog w = .ok (.value (.bool (!(decide (s = s' ∧ n = n') && decide (t = t' ∧ d = d'))))) w := by
  unfold execOp
  simp only [ho, hx, hy, Sem.run_bind, Sem.run_pure, Result.andThen_ok, eqg_rat, neRat _ _ _ _ _ _ _ _ _ hn hd hn' hd']
theorem eqn_run' {op : Oper} {a : Act} {w : World} {x : Operand} {u : TypeId} {k : Nat} {b : Bool} (hb : decide (k = 0) = b) (ho : op.op = .binOp .eql 29 x (.const .nilIface) u) (hx : a.eval x = errV k) : (execOp a.eval op).run Tryz.prog w = .ok (.value (.bool b)) w := by
  rw [← hb]
  exact eqn_run ho hx
theorem nen_run' {op : Oper} {a : Act} {w : World} {x : Operand} {u : TypeId} {k : Nat} {b : Bool} (hb : (!decide (k = 0)) = b) (ho : op.op = .binOp .neq 29 x (.const .nilIface) u) (hx : a.eval x = errV k) : (execOp a.eval op).run Tryz.prog w = .ok (.value (.bool b)) w := by
  rw [← hb]
  exact nen_run ho hx
theorem ner_run' {op : Oper} {a : Act} {w : World} {x y : Operand} {u : TypeId} {s t s' t' : Bool} {n d n' d' : Nat} (hb : (decide (s = s' ∧ n = n') && decide (t = t' ∧ d = d')) = true) (ho : op.op = .binOp .neq 27 x y u) (hx : a.eval x = ratV s n t d) (hy : a.eval y = ratV s' n' t' d')
    (hn : Fits n) (hd : Fits d) (hn' : Fits n') (hd' : Fits d') : (execOp a.eval op).run Tryz.prog w = .ok (.value (.bool false)) w := by
  have := ner_run (w := w) ho hx hy hn hd hn' hd'
  rwa [hb] at this
theorem eqr_self {op : Oper} {a : Act} {w : World} {x y : Operand} {u : TypeId} {s t : Bool} {n d : Nat} (ho : op.op = .binOp .eql 27 x y u) (hx : a.eval x = ratV s n t d) (hy : a.eval y = ratV s n t d)
    (hn : Fits n) (hd : Fits d) : (execOp a.eval op).run Tryz.prog w = .ok (.value (.bool true)) w := by
  have := eqr_run (w := w) ho hx hy hn hd hn hd
  simpa using this
theorem load_words {W : World} {b n : Nat} {s : Bool} (h : IntO W b 0 s n) : (loadVar 23 ⟨b, 1, none⟩).run Tryz.prog W = .ok (wordsV n) W := by
  obtain ⟨_, g1, g2, g3, g4, g5, g6, g7, g8⟩ := h.nine0
  refine run_loadVar_mid W b 1 23 [.int .u64 (wd n 0 : Int), .int .u64 (wd n 1 : Int), .int .u64 (wd n 2 : Int), .int .u64 (wd n 3 : Int), .int .u64 (wd n 4 : Int), .int .u64 (wd n 5 : Int), .int .u64 (wd n 6 : Int), .int .u64 (wd n 7 : Int)] (.array 8 22) ?_ (by kernel_rfl) rfl (by kernel_rfl)
  intro j v hv
  rcases j with _ | _ | _ | _ | _ | _ | _ | _ | j
  · exact g1.1.trans hv
  · exact g2.1.trans hv
  · exact g3.1.trans hv
  · exact g4.1.trans hv
  · exact g5.1.trans hv
  · exact g6.1.trans hv
  · exact g7.1.trans hv
  · exact g8.1.trans hv
  · simp at hv
theorem ld_words {op : Oper} {a : Act} {w : World} (x : Operand) (ho : op.op = .load 23 x) {b n : Nat} {s : Bool} (hx : a.eval x = .pointer (some ⟨b, 1, none⟩)) (h : IntO w b 0 s n) : (execOp a.eval op).run Tryz.prog w = .ok (.value (wordsV n)) w := by
  unfold execOp
  simp only [ho, hx, Instr.loadAt, Instr.sureAddr, Sem.run_bind, Sem.run_pure, Result.andThen_ok, load_words h]
theorem build_words {a : Act} {w : World} {op : Oper} {x : Operand} (ho : op.op = .build 25 #[(1, x)]) {n : Nat} (hx : a.eval x = wordsV n) : (execOp a.eval op).run Tryz.prog w = .ok (.value (intV false n)) w := by
  have hrun : (Instr.build 25 #[(1, wordsV n)]).run Tryz.prog w = .ok (intV false n) w := by
    unfold intV wordsV
    go_simp
  unfold execOp
  simp only [ho, List.map_toArray, List.map_cons, List.map_nil, hx, hrun, Sem.run_bind, Sem.run_pure, Result.andThen_ok]
theorem negI_run {z : Int} (h1 : -1 ≤ z) (h2 : z ≤ 1) (w : World) : (Op.unary .neg (.int .i64 z)).run Tryz.prog w = .ok (.int .i64 (-z)) w := by
  have h : z = -1 ∨ z = 0 ∨ z = 1 := by omega
  rcases h with rfl | rfl | rfl <;> rfl
theorem neg_run {op : Oper} {a : Act} {w : World} {x : Operand} {T : TypeId} (ho : op.op = .unOp .neg T x) {z : Int} (hx : a.eval x = .int .i64 z) (h1 : -1 ≤ z) (h2 : z ≤ 1) : (execOp a.eval op).run Tryz.prog w = .ok (.value (.int .i64 (-z))) w := by
  unfold execOp
  simp only [ho, hx, Sem.run_bind, Sem.run_pure, Result.andThen_ok, negI_run h1 h2]
/-! In a region in its text's order: an operation, by its run. -/
theorem wpList_val {ops : Array Oper} {rest : List Oper} {op : Oper} {a : Act} {w : World} {Q : Exit → Act → World → Prop} (hw : Region.wanted op (yielded ops a.tmps) = true) {v : Value} (hv : (execOp a.eval op).run Tryz.prog w = .ok (.value v) w)
    (hK : wpList Tryz.prog ops Q rest (a.put op.dst v) w) : wpList Tryz.prog ops Q (op :: rest) a w := by
  refine wpList_step fun K hK' => ?_
  rw [if_pos hw]
  unfold Oper.wp
  rw [hv]
  exact hK' _ _ hK
theorem errV_sum (s : Bool) (n : Nat) (t : Bool) (d : Nat) : errV (chk s n t d) = if vld s n t d then .nilIface else .iface 74 (.int .i64 (8 : Nat)) := by
  unfold chk
  split <;> rfl
end Go.Proofs.YtgoemhcngmpfbaaGreatDoor

/-
  The program's Neg and Whole of a ratio.
-/
namespace Go.Proofs.YtgoemhcngmpfbaaGreatDoor
open Go.RowKit Go.Sort
set_option linter.unusedSimpArgs false

theorem code_errE (k : Nat) (h : k ≤ 25) (w : World) : Calls Tryz.prog 17 #[errV k] w fun e w' => e = .returned (.int .i64 (k : Int)) ∧ Below w.heap.size w w' := code_errOf k h w
theorem enters_NegI : EntersP Tryz.prog 21 := entersP_of Tryz.func21 (by kernel_rfl) rfl
set_option maxRecDepth 100000 in
set_option maxHeartbeats 4000000 in
theorem RNeg_run (s : Bool) (n : Nat) (t : Bool) (d : Nat) (w : World) (hn : Hid (Fits n)) :
    Calls Tryz.prog 16 #[ratV s n t d] w fun e w' => e = .returned (ratV (sgn (!s) n) n t d) ∧ Below w.heap.size w w' := by
  have HN := Lib.hid (fun W => Neg_run s n W hn)
  generalize sgn (!s) n = z at *
  obtain ⟨S, hS⟩ : ∃ S, w.heap.size = S := ⟨_, rfl⟩
  have I0 := (Bs.start w hS).pushRat hS s n t d 27
  have hz : (w.alloc (boxR s n t d 27)).heap.size = S + 1 := by simp [hS]
  have I := I0.pushRatZ hz 27
  obtain ⟨W, hW⟩ : ∃ W, (w.alloc (boxR s n t d 27)).alloc (boxRZ 27) = W := ⟨_, rfl⟩
  rw [hW] at I
  replace I := Lib.hid I
  clear I0 hz
  rw [hS]
  go_enter Tryz.func16, Tryz.ntmps16
  go_upto_region 1 with (with_reducible refine wpList_box_rat rfl (.tmp 0) rfl rfl ?_)
  clear hW
  refine rg_begin (fun V => RatAt V S s n t d) (by kernel_rfl) (I.out.drew.rat 1 rfl) (fun hS => ?_)
  refine rg_take 0 (.pointer (some ⟨S, 0, none⟩)) rfl (by kernel_rfl) (by kernel_rfl) (by kernel_rfl) (fun _ _ _ h => h) rfl (fun w _ => ?_) hS ?_
  · go_simp
  simp only [List.getElem_toArray, List.getElem_cons_zero, List.getElem_cons_succ, Act.put, List.setIfInBounds_toArray, List.set_cons_zero, List.set_cons_succ]
  refine rg_take 1 (intV s n) rfl (by kernel_rfl) (by kernel_rfl) (by kernel_rfl) (fun _ _ _ h => h) rfl (fun w hSw => ld_int (.tmp 3) rfl rfl hSw.num) hS ?_
  simp only [List.getElem_toArray, List.getElem_cons_zero, List.getElem_cons_succ, Act.put, List.setIfInBounds_toArray, List.set_cons_zero, List.set_cons_succ]
  refine rg_take 3 (.pointer (some ⟨S, 9, none⟩)) rfl (by kernel_rfl) (by kernel_rfl) (by kernel_rfl) (fun _ _ _ h => h) rfl (fun w _ => ?_) hS ?_
  · go_simp
  simp only [List.getElem_toArray, List.getElem_cons_zero, List.getElem_cons_succ, Act.put, List.setIfInBounds_toArray, List.set_cons_zero, List.set_cons_succ]
  refine rg_take 4 (intV t d) rfl (by kernel_rfl) (by kernel_rfl) (by kernel_rfl) (fun _ _ _ h => h) rfl (fun w hSw => ld_int (.tmp 6) rfl rfl hSw.den) hS ?_
  simp only [List.getElem_toArray, List.getElem_cons_zero, List.getElem_cons_succ, Act.put, List.setIfInBounds_toArray, List.set_cons_zero, List.set_cons_succ]
  refine rg_one 2 (by kernel_rfl) (rs_of rfl rfl (wp_call rfl enters_NegI rfl (HN.out _) (fun w3 hw3 => ⟨(I.out.drew.below hw3).rat 1 rfl, ?_⟩)))
  have I3 := Lib.hid (I.out.drew.below hw3)
  have hS := I3.out.rat 1 rfl
  clear hw3 I
  simp only [List.getElem_toArray, List.getElem_cons_zero, List.getElem_cons_succ, Act.put, List.setIfInBounds_toArray, List.set_cons_zero, List.set_cons_succ]
  refine rg_take 5 (ratV z n t d) rfl (by kernel_rfl) (by kernel_rfl) (by kernel_rfl) (fun _ _ _ h => h) rfl (fun w hSw => build_rat (x := .tmp 5) (y := .tmp 7) rfl rfl rfl) hS ?_
  simp only [List.getElem_toArray, List.getElem_cons_zero, List.getElem_cons_succ, Act.put, List.setIfInBounds_toArray, List.set_cons_zero, List.set_cons_succ]
  have I4 := Lib.hid (I3.out.putRat 0 rfl z n t d rfl)
  refine rg_one 6 (by kernel_rfl) (rs_of rfl rfl (wp_store_mid 27 (.tmp 2) (.tmp 8) rfl (S + 1) 0 #[.bool z, .int .u64 (wd n 0 : Int), .int .u64 (wd n 1 : Int), .int .u64 (wd n 2 : Int), .int .u64 (wd n 3 : Int), .int .u64 (wd n 4 : Int), .int .u64 (wd n 5 : Int), .int .u64 (wd n 6 : Int), .int .u64 (wd n 7 : Int), .bool t, .int .u64 (wd d 0 : Int), .int .u64 (wd d 1 : Int), .int .u64 (wd d 2 : Int), .int .u64 (wd d 3 : Int), .int .u64 (wd d 4 : Int), .int .u64 (wd d 5 : Int), .int .u64 (wd d 6 : Int), .int .u64 (wd d 7 : Int)] rfl rfl (I3.out.rat 0 rfl).there infoRat (by simp [Value.oneCell']) ⟨I4.out.rat 1 rfl, ?_⟩))
  simp only [List.getElem_toArray, List.getElem_cons_zero, List.getElem_cons_succ, Act.put, List.setIfInBounds_toArray, List.set_cons_zero, List.set_cons_succ]
  refine wpAnyH_done (by kernel_rfl) ?_ _
  (try simp only [Exit.inBlock, Exit.then])
  go_wp2_with fail
  refine bodyPost_ret (v := ratV z n t d) (results_rat1 rfl rfl (I4.out.rat 0 rfl)) rfl ⟨rfl, ?_⟩
  exact I4.out.bl
theorem eqi_run {op : Oper} {a : Act} {w : World} {x y : Operand} {u : TypeId} {b : Bool} {s t : Bool} {n m : Nat} (hb : decide (s = t ∧ n = m) = b) (ho : op.op = .binOp .eql 25 x y u) (hx : a.eval x = intV s n) (hy : a.eval y = intV t m)
    (hn : Fits n) (hm : Fits m) : (execOp a.eval op).run Tryz.prog w = .ok (.value (.bool b)) w := by
  rw [← hb]
  unfold execOp
  simp only [ho, hx, hy, Sem.run_bind, Sem.run_pure, Result.andThen_ok, eqg_int, eqInt _ _ _ _ _ hn hm]
set_option maxRecDepth 100000 in
set_option maxHeartbeats 1000000 in
theorem is_nilE (c : Int) (w : World) : Calls Tryz.prog 50 #[.nilIface, errno c] w fun e w' => e = .returned (.bool false) ∧ Below w.heap.size w w' := by
  have heq : ∀ w, (binOp BinOp.eql 29 .nilIface (.iface 74 (.int .i64 c))).run Tryz.prog w = .ok (.bool false) w := fun w => by kernel_rfl
  unfold errno
  go_enter Tryz.func50, Tryz.ntmps50
  go_wp2
  go_ret
  exact ⟨rfl, Below.refl _ _⟩
theorem enters_IsE : EntersP Tryz.prog 50 := entersP_of Tryz.func50 (by kernel_rfl) rfl
theorem enters_OfI : EntersP Tryz.prog 52 := entersP_of Tryz.func52 (by kernel_rfl) rfl
theorem enters_ChkR : EntersP Tryz.prog 18 := entersP_of Tryz.func18 (by kernel_rfl) rfl
/-- Is a ratio valid and whole? -/
def whl (s : Bool) (n : Nat) (t : Bool) (d : Nat) : Bool := vld s n t d && decide (d = 1)
set_option maxRecDepth 100000 in
set_option maxHeartbeats 4000000 in
theorem Whole_run (s : Bool) (n : Nat) (t : Bool) (d : Nat) (w : World) (hn : Hid (Fits n)) (hd : Hid (Fits d)) :
    Calls Tryz.prog 19 #[ratV s n t d] w fun e w' => e = .returned (.bool (whl s n t d)) ∧ Below w.heap.size w w' := by
  have HC := Lib.hid (fun W => Check_run s n t d W hn hd)
  have HO := Lib.hid (fun W => Of_run 1 W (by decide) (by decide))
  have hO : intV (decide ((1 : Int) < 0)) (1 : Int).natAbs = intV false 1 := rfl
  rw [hO] at HO
  obtain ⟨S, hS⟩ : ∃ S, w.heap.size = S := ⟨_, rfl⟩
  have I := (Bs.start w hS).pushRat hS s n t d 27
  obtain ⟨W, hW⟩ : ∃ W, w.alloc (boxR s n t d 27) = W := ⟨_, rfl⟩
  rw [hW] at I
  replace I := Lib.hid I
  rw [hS]
  clear hO
  by_cases hv : vld s n t d = true
  · have ht : t = false := (vld_spec hv).2.1
    have hk : chk s n t d = 0 := by unfold chk; rw [if_pos hv]
    rw [hk] at HC
    have HI := Lib.hid (fun W => is_nilE 8 W)
    obtain ⟨b, hb⟩ : ∃ b, decide (t = false ∧ d = 1) = b := ⟨_, rfl⟩
    have hw : whl s n t d = b := by unfold whl; rw [hv, ← hb, ht]; simp
    rw [hw]
    have HB := Lib.hid hb
    clear hw hk ht hv hb
    go_enter Tryz.func19, Tryz.ntmps19
    go_upto_region 1 with (with_reducible refine wpList_box_rat rfl (.tmp 0) rfl rfl ?_)
    clear hW
    refine rg_begin (fun V => Bs w S [.rat S s n t d] V) (by kernel_rfl) I.out.drew (fun hS => ?_)
    refine rg_take 0 (ratV s n t d) rfl (by kernel_rfl) (by kernel_rfl) (by kernel_rfl) (fun _ _ _ h => h) rfl (fun w hSw => ld_rat (.tmp 1) rfl rfl (hSw.rat 0 rfl)) hS ?_
    simp only [List.getElem_toArray, List.getElem_cons_zero, List.getElem_cons_succ, Act.put, List.setIfInBounds_toArray, List.set_cons_zero, List.set_cons_succ]
    refine rg_take 2 (.iface 74 (.int .i64 8)) rfl (by kernel_rfl) (by kernel_rfl) (by kernel_rfl) (fun _ _ _ h => h) rfl (fun w _ => ?_) hS ?_
    · go_simp
    simp only [List.getElem_toArray, List.getElem_cons_zero, List.getElem_cons_succ, Act.put, List.setIfInBounds_toArray, List.set_cons_zero, List.set_cons_succ]
    refine rg_one 1 (by kernel_rfl) (rs_of rfl rfl (wp_call rfl enters_ChkR rfl (HC.out _) (fun V hV => ⟨hS.below hV, ?_⟩)))
    replace hS := hS.below hV
    clear hV I
    simp only [List.getElem_toArray, List.getElem_cons_zero, List.getElem_cons_succ, Act.put, List.setIfInBounds_toArray, List.set_cons_zero, List.set_cons_succ]
    refine rg_one 3 (by kernel_rfl) (rs_of rfl rfl (wp_call rfl enters_IsE rfl (HI.out _) (fun V1 hV => ⟨hS.below hV, ?_⟩)))
    replace hS := hS.below hV
    clear hV
    simp only [List.getElem_toArray, List.getElem_cons_zero, List.getElem_cons_succ, Act.put, List.setIfInBounds_toArray, List.set_cons_zero, List.set_cons_succ]
    refine rg_take 4 (.bool true) rfl (by kernel_rfl) (by kernel_rfl) (by kernel_rfl) (fun _ _ _ h => h) rfl (fun w _ => ?_) hS ?_
    · go_simp
    simp only [List.getElem_toArray, List.getElem_cons_zero, List.getElem_cons_succ, Act.put, List.setIfInBounds_toArray, List.set_cons_zero, List.set_cons_succ]
    refine rg_take 5 (.bool true) rfl (by kernel_rfl) (by kernel_rfl) (by kernel_rfl) (fun _ _ _ h => h) rfl (fun w _ => ?_) hS ?_
    · go_simp
    simp only [List.getElem_toArray, List.getElem_cons_zero, List.getElem_cons_succ, Act.put, List.setIfInBounds_toArray, List.set_cons_zero, List.set_cons_succ]
    refine rg_want 6 (.pointer (some ⟨S, 9, none⟩)) rfl (by kernel_rfl) (by kernel_rfl) (by kernel_rfl) (fun _ _ _ h => h) rfl (fun w _ => ?_) hS ?_
    · go_simp
    simp only [List.getElem_toArray, List.getElem_cons_zero, List.getElem_cons_succ, Act.put, List.setIfInBounds_toArray, List.set_cons_zero, List.set_cons_succ]
    refine rg_want 7 (intV t d) rfl (by kernel_rfl) (by kernel_rfl) (by kernel_rfl) (fun _ _ _ h => h) rfl (fun w hSw => ld_int (.tmp 9) rfl rfl (hSw.rat 0 rfl).den) hS ?_
    simp only [List.getElem_toArray, List.getElem_cons_zero, List.getElem_cons_succ, Act.put, List.setIfInBounds_toArray, List.set_cons_zero, List.set_cons_succ]
    refine rg_one 8 (by kernel_rfl) (rs_want rfl rfl (wp_call rfl enters_OfI rfl (HO.out _) (fun V2 hV => ⟨hS.below hV, ?_⟩)))
    replace hS := hS.below hV
    clear hV
    simp only [List.getElem_toArray, List.getElem_cons_zero, List.getElem_cons_succ, Act.put, List.setIfInBounds_toArray, List.set_cons_zero, List.set_cons_succ]
    refine rg_want 9 (.bool b) rfl (by kernel_rfl) (by kernel_rfl) (by kernel_rfl) (fun _ _ _ h => h) rfl (fun w hSw => eqi_run (x := .tmp 10) (y := .tmp 11) HB.out rfl rfl rfl hd.out fits_one) hS ?_
    simp only [List.getElem_toArray, List.getElem_cons_zero, List.getElem_cons_succ, Act.put, List.setIfInBounds_toArray, List.set_cons_zero, List.set_cons_succ]
    refine rg_take 10 (.bool b) rfl (by kernel_rfl) (by kernel_rfl) (by kernel_rfl) (fun _ _ _ h => h) rfl (fun w _ => ?_) hS ?_
    · go_simp
    simp only [List.getElem_toArray, List.getElem_cons_zero, List.getElem_cons_succ, Act.put, List.setIfInBounds_toArray, List.set_cons_zero, List.set_cons_succ]
    refine rg_take 11 (.bool b) rfl (by kernel_rfl) (by kernel_rfl) (by kernel_rfl) (fun _ _ _ h => h) rfl (fun w _ => ?_) hS ?_
    · go_simp
    simp only [List.getElem_toArray, List.getElem_cons_zero, List.getElem_cons_succ, Act.put, List.setIfInBounds_toArray, List.set_cons_zero, List.set_cons_succ]
    refine wpAnyH_done (by kernel_rfl) ?_ _
    have H3 := Lib.hid hS.bl
    clear hS
    go_wp2_with fail
    go_ret
    exact ⟨rfl, H3.out⟩
  · have hk : chk s n t d = 8 := by unfold chk; rw [if_neg hv]
    rw [hk] at HC
    have HI := Lib.hid (fun W => is_errno_below 8 8 W)
    have hw : whl s n t d = false := by unfold whl; simp only [Bool.not_eq_true] at hv; rw [hv]; rfl
    rw [hw]
    clear hw hk hv
    go_enter Tryz.func19, Tryz.ntmps19
    go_upto_region 1 with (with_reducible refine wpList_box_rat rfl (.tmp 0) rfl rfl ?_)
    clear hW
    refine rg_begin (fun V => Bs w S [.rat S s n t d] V) (by kernel_rfl) I.out.drew (fun hS => ?_)
    refine rg_take 0 (ratV s n t d) rfl (by kernel_rfl) (by kernel_rfl) (by kernel_rfl) (fun _ _ _ h => h) rfl (fun w hSw => ld_rat (.tmp 1) rfl rfl (hSw.rat 0 rfl)) hS ?_
    simp only [List.getElem_toArray, List.getElem_cons_zero, List.getElem_cons_succ, Act.put, List.setIfInBounds_toArray, List.set_cons_zero, List.set_cons_succ]
    refine rg_take 2 (.iface 74 (.int .i64 8)) rfl (by kernel_rfl) (by kernel_rfl) (by kernel_rfl) (fun _ _ _ h => h) rfl (fun w _ => ?_) hS ?_
    · go_simp
    simp only [List.getElem_toArray, List.getElem_cons_zero, List.getElem_cons_succ, Act.put, List.setIfInBounds_toArray, List.set_cons_zero, List.set_cons_succ]
    refine rg_one 1 (by kernel_rfl) (rs_of rfl rfl (wp_call rfl enters_ChkR rfl (HC.out _) (fun V hV => ⟨hS.below hV, ?_⟩)))
    replace hS := hS.below hV
    clear hV I
    simp only [List.getElem_toArray, List.getElem_cons_zero, List.getElem_cons_succ, Act.put, List.setIfInBounds_toArray, List.set_cons_zero, List.set_cons_succ]
    refine rg_one 3 (by kernel_rfl) (rs_of rfl rfl (wp_call rfl enters_IsE rfl (HI.out _) (fun V1 hV => ⟨hS.below hV, ?_⟩)))
    replace hS := hS.below hV
    clear hV
    simp only [List.getElem_toArray, List.getElem_cons_zero, List.getElem_cons_succ, Act.put, List.setIfInBounds_toArray, List.set_cons_zero, List.set_cons_succ]
    refine rg_take 4 (.bool false) rfl (by kernel_rfl) (by kernel_rfl) (by kernel_rfl) (fun _ _ _ h => h) rfl (fun w _ => ?_) hS ?_
    · go_simp
    simp only [List.getElem_toArray, List.getElem_cons_zero, List.getElem_cons_succ, Act.put, List.setIfInBounds_toArray, List.set_cons_zero, List.set_cons_succ]
    refine rg_take 5 (.bool false) rfl (by kernel_rfl) (by kernel_rfl) (by kernel_rfl) (fun _ _ _ h => h) rfl (fun w _ => ?_) hS ?_
    · go_simp
    simp only [List.getElem_toArray, List.getElem_cons_zero, List.getElem_cons_succ, Act.put, List.setIfInBounds_toArray, List.set_cons_zero, List.set_cons_succ]
    refine rg_skip 6 rfl (by kernel_rfl) (by kernel_rfl) (by kernel_rfl) (fun _ _ _ h => h) rfl hS ?_
    simp only [List.getElem_toArray, List.getElem_cons_zero, List.getElem_cons_succ, Act.put, List.setIfInBounds_toArray, List.set_cons_zero, List.set_cons_succ]
    refine rg_skip 7 rfl (by kernel_rfl) (by kernel_rfl) (by kernel_rfl) (fun _ _ _ h => h) rfl hS ?_
    simp only [List.getElem_toArray, List.getElem_cons_zero, List.getElem_cons_succ, Act.put, List.setIfInBounds_toArray, List.set_cons_zero, List.set_cons_succ]
    refine rg_skip 8 rfl (by kernel_rfl) (by kernel_rfl) (by kernel_rfl) (fun _ _ _ h => h) rfl hS ?_
    simp only [List.getElem_toArray, List.getElem_cons_zero, List.getElem_cons_succ, Act.put, List.setIfInBounds_toArray, List.set_cons_zero, List.set_cons_succ]
    refine rg_skip 9 rfl (by kernel_rfl) (by kernel_rfl) (by kernel_rfl) (fun _ _ _ h => h) rfl hS ?_
    simp only [List.getElem_toArray, List.getElem_cons_zero, List.getElem_cons_succ, Act.put, List.setIfInBounds_toArray, List.set_cons_zero, List.set_cons_succ]
    refine rg_take 10 (.bool false) rfl (by kernel_rfl) (by kernel_rfl) (by kernel_rfl) (fun _ _ _ h => h) rfl (fun w _ => ?_) hS ?_
    · go_simp
    simp only [List.getElem_toArray, List.getElem_cons_zero, List.getElem_cons_succ, Act.put, List.setIfInBounds_toArray, List.set_cons_zero, List.set_cons_succ]
    refine rg_take 11 (.bool false) rfl (by kernel_rfl) (by kernel_rfl) (by kernel_rfl) (fun _ _ _ h => h) rfl (fun w _ => ?_) hS ?_
    · go_simp
    simp only [List.getElem_toArray, List.getElem_cons_zero, List.getElem_cons_succ, Act.put, List.setIfInBounds_toArray, List.set_cons_zero, List.set_cons_succ]
    refine wpAnyH_done (by kernel_rfl) ?_ _
    have H3 := Lib.hid hS.bl
    clear hS
    go_wp2_with fail
    go_ret
    exact ⟨rfl, H3.out⟩
end Go.Proofs.YtgoemhcngmpfbaaGreatDoor

/-
  The document's Of.
-/
namespace Go.Proofs.YtgoemhcngmpfbaaGreatDoor
open Go.RowKit Go.Sort
set_option linter.unusedSimpArgs false
set_option maxRecDepth 100000 in
set_option maxHeartbeats 8000000 in
theorem Of_run8 (z : Int) (x : Bool) (N : Nat) (w : World) (hz : -1000000 ≤ z ∧ z ≤ 1000000) (hN : Hid (z.natAbs = N)) (hx : Hid (decide (z < 0) = x)) :
    Calls Tryz.prog 15 #[.int .i64 z] w fun e w' => e = .returned (ratV x N false 1) ∧ Below w.heap.size w w' := by
  obtain ⟨S, hS⟩ : ∃ S, w.heap.size = S := ⟨_, rfl⟩
  obtain ⟨W0, hW0⟩ : ∃ W, w.alloc (boxRZ 27) = W := ⟨_, rfl⟩
  have I := (Bs.start w hS).pushRatZ hS 27
  rw [hW0] at I
  replace I := Lib.hid I
  obtain ⟨M, hM⟩ : ∃ M, nl N = M := ⟨_, rfl⟩
  have HSM := Lib.hid (fun W => Small_run z x N M W hz hN hM hx)
  have HO := Lib.hid (fun W => One_run W)
  have hfN : Hid (Fits N) := by
    have h1 : N < 18446744073709551616 := by have := hN.out; omega
    exact Nat.lt_of_lt_of_le h1 (Nat.le_self_pow (by decide) _)
  have hf1 : Hid (Fits 1) := by show _ < _; decide
  replace hM := Lib.hid hM
  clear hz
  rw [hS]
  go_enter Tryz.func15, Tryz.ntmps15
  go_wp2_with fail
  refine (HSM.out _).mono ?_
  rintro e w1 ⟨⟨A, c⟩, rfl, hgg, hw⟩
  replace I := Lib.hid ((I.out.below hw).pushDig hgg)
  clear hw hgg HSM hW0
  have HT1 := Lib.hid (To_run x A M c N w1 hfN (I.out.dig 0 rfl).digs hM (I.out.dig 0 rfl).cap)
  go_wp2_with fail
  refine HT1.out.mono ?_
  rintro e x1 ⟨rfl, hw⟩
  replace I := Lib.hid (I.out.below hw)
  clear hw HT1
  obtain ⟨K4, hK4⟩ : ∃ K, x1.heap.size = K := ⟨_, rfl⟩
  obtain ⟨x2, hx2⟩ : ∃ W, x1.alloc (boxIZ 25) = W := ⟨_, rfl⟩
  have I2 := I.out.pushIntZ hK4 25
  rw [hx2] at I2
  have I3 := Lib.hid (I2.putInt 0 rfl x N rfl)
  have H0 := Lib.hid (I2.int 0 rfl)
  clear I2 I
  go_upto_region 2 with (with_reducible refine wpList_store_int rfl (.tmp 3) (.tmp 11) rfl (b := K4) (s := x) (n := N) rfl rfl H0.out ?_)
  clear hx2 H0
  generalize st9 x2 K4 x N = x3 at *
  have I := I3
  clear I3
  go_wp2_with fail
  refine (HO.out _).mono ?_
  rintro e x4 ⟨⟨B, cB⟩, rfl, hgg, hw⟩
  replace I := Lib.hid ((I.out.below hw).pushDig hgg)
  clear hw hgg HO
  have HT1 := Lib.hid (To_run false B 1 cB 1 x4 hf1 (I.out.dig 0 rfl).digs nl_one (I.out.dig 0 rfl).cap)
  go_wp2_with fail
  refine HT1.out.mono ?_
  rintro e x5 ⟨rfl, hw⟩
  replace I := Lib.hid (I.out.below hw)
  clear hw HT1
  obtain ⟨K5, hK5⟩ : ∃ K, x5.heap.size = K := ⟨_, rfl⟩
  obtain ⟨x6, hx6⟩ : ∃ W, x5.alloc (boxIZ 25) = W := ⟨_, rfl⟩
  have I2 := I.out.pushIntZ hK5 25
  rw [hx6] at I2
  have I3 := Lib.hid (I2.putInt 0 rfl false 1 rfl)
  have H0 := Lib.hid (I2.int 0 rfl)
  clear I2 I
  go_upto_region 3 with (with_reducible refine wpList_store_int rfl (.tmp 5) (.tmp 16) rfl (b := K5) (s := false) (n := 1) rfl rfl H0.out ?_)
  clear hx6 H0
  generalize st9 x6 K5 false 1 = x7 at *
  have H1 := Lib.hid (I3.out.int 2 rfl)
  have H2 := Lib.hid (I3.out.int 0 rfl)
  have H3 := Lib.hid (I3.out.rat 4 rfl)
  go_wp2_with (first | (with_reducible refine wpList_load_int rfl (.tmp 3) rfl rfl H1.out.o ?_) | (with_reducible refine wpList_load_int rfl (.tmp 5) rfl rfl H2.out.o ?_) | (with_reducible refine wpList_build_rat rfl (.tmp 18) (.tmp 19) rfl rfl rfl ?_) | (with_reducible refine wpList_store_rat rfl (.tmp 2) (.tmp 20) rfl (b := S) (s := x) (n := N) (t := false) (d := 1) rfl rfl H3.out ?_))
  have I4 := I3.out.putRat 4 rfl x N false 1 rfl
  exact bodyPost_ret (v := ratV x N false 1) (results_rat1 rfl rfl (I4.rat 4 rfl)) rfl ⟨rfl, I4.bl⟩
end Go.Proofs.YtgoemhcngmpfbaaGreatDoor
