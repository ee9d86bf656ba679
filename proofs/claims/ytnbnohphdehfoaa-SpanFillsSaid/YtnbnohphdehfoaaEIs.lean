/-
  errors.Is between two errors of api's: it holds just where the numbers are the same. And 'Code' of the laws: the number of an error that is none or one of api's.
-/
import Derived.Test.YtnbnohphdehfoaaBase
import Derived.LaidEql
import Derived.Stop.Asserts
import Derived.RowKitTokens
namespace Go.Proofs.Ytnbnohphdehfoaa
open Go.RowKit Go.Extern.Stop Go.Stop Go.Extern Go.Extern.ReflectliteType Go.Extern.Rtype

theorem eqErrno (a b : Int) (w : World) : (binOp .eql 29 (.iface 51 (.int .i64 a)) (.iface 51 (.int .i64 b))).run Try.prog w = .ok (.bool (a == b)) w := by
  have hc : (Try.prog.info? 51).map (·.comparable) = some true := by kernel_rfl
  obtain ⟨i, hi, hcmp⟩ := Option.map_eq_some_iff.1 hc
  have h : ∀ d : Nat, (Op.equalIn (d + 2) 29 (.iface 51 (.int .i64 a)) (.iface 51 (.int .i64 b))).run Try.prog w = .ok (a == b) w := fun d => by
    simp [Op.equalIn, run_underlying Try.underlying29, run_underlying Try.underlying51, typeInfo, hi, hcmp]
  simp only [binOp]
  simp [Op.equal, Op.maxDepth, h 9998]
theorem isTypeOf (v : Value) (w : World) : (Extern.ReflectliteType.typeOf #[.iface 51 v]).run Try.prog w = .ok (.iface 63 (.agg #[.pointer (some ⟨0, 51, none⟩)])) w := by kernel_rfl
/-- The model's entry for reflectlite's Comparable. -/
def cmpEntry : Array Value → Sem Value := Extern.ReflectliteType.method fun t => do noPackHeld "Comparable" t; pure (.bool (← typeInfo t).comparable)
theorem isComparable (w : World) : (cmpEntry #[.agg #[.pointer (some ⟨0, 51, none⟩)]]).run Try.prog w = .ok (.bool true) w := by kernel_rfl
theorem runComparable (args : Array Value) (w : World) : (callFunc 59 args).run Try.prog w = ((cmpEntry args).run Try.prog w).andThen fun v w' => .ok (.value v) w' :=
  @run_callFunc_extern Try.prog 59 _ cmpEntry Try.func59 (by kernel_rfl) (by kernel_rfl) (by kernel_rfl) (by kernel_rfl) args w
theorem runTypeOf (args : Array Value) (w : World) : (callFunc 32 args).run Try.prog w = ((Extern.ReflectliteType.typeOf args).run Try.prog w).andThen fun v w' => .ok (.value v) w' :=
  @run_callFunc_extern Try.prog 32 _ Extern.ReflectliteType.typeOf Try.func32 (by kernel_rfl) (by kernel_rfl) (by kernel_rfl) (by kernel_rfl) args w
theorem isMethodComparable (v : Value) (w : World) : (Go.method 210 63 v "Comparable").run Try.prog w = .ok (59, v) w := by kernel_rfl
theorem noIsE (v : Value) (xT : TypeId) (w : World) : (Instr.typeAssert (.iface 51 v) xT 65 true).run Try.prog w = .ok (.tuple #[.nilIface, .bool false]) w := run_typeAssert_lacksB Try.underlying65 (by kernel_rfl) (by kernel_rfl) v xT w
theorem noUnwrapE (v : Value) (xT : TypeId) (w : World) : (Instr.typeAssert (.iface 51 v) xT 68 true).run Try.prog w = .ok (.tuple #[.nilIface, .bool false]) w := run_typeAssert_lacksB Try.underlying68 (by kernel_rfl) (by kernel_rfl) v xT w
theorem noUnwrapsE (v : Value) (xT : TypeId) (w : World) : (Instr.typeAssert (.iface 51 v) xT 70 true).run Try.prog w = .ok (.tuple #[.nilIface, .bool false]) w := run_typeAssert_lacksB Try.underlying70 (by kernel_rfl) (by kernel_rfl) v xT w
set_option maxHeartbeats 1000000 in
theorem is_errno (a c : Int) (w : World) :
    Calls Try.prog 27 #[errno a, errno c] w fun e w' => e = .returned (.bool (a == c)) ∧ w = w' := by
  have h8 := runTypeOf
  have h32 := runComparable
  have tT := isTypeOf
  have cT := isComparable
  have mR := isMethodComparable
  have nE := noIsE
  have uE := noUnwrapE
  have vE := noUnwrapsE
  have heq := eqErrno a c
  unfold errno
  by_cases hac : a = c
  · subst hac
    have hb : (a == a) = true := by simp
    go_enter Try.func27, Try.ntmps27
    go_wp2
    refine wp_loop_rounds 1 ?_
    rw [rounds_succ]
    go_wp2
    go_ret
    exact ⟨ret_bool hb.symm, rfl⟩
  · have hb : (a == c) = false := by simpa using hac
    clear hac
    go_enter Try.func27, Try.ntmps27
    go_wp2
    refine wp_loop_rounds 1 ?_
    rw [rounds_succ]
    go_wp2
    go_ret
    exact ⟨ret_bool hb.symm, rfl⟩
theorem is_errno_below (a c : Int) (w : World) :
    Calls Try.prog 27 #[errno a, errno c] w fun e w' => e = .returned (.bool (a == c)) ∧ Below w.heap.size w w' :=
  (is_errno a c w).mono fun _ _ ⟨h, hw⟩ => ⟨h, hw ▸ Below.refl _ _⟩
set_option maxHeartbeats 400000 in
theorem code_nil (w : World) : Calls Try.prog 8 #[.nilIface] w fun e w' => e = .returned (.int .i64 0) ∧ Below w.heap.size w w' := by
  go_enter Try.func8, Try.ntmps8
  go_wp2
  go_ret
  exact ⟨rfl, Below.refl _ _⟩
set_option maxHeartbeats 1000000 in
theorem code_of {x : Value} {t : TypeId} {v : Value} (hx : Hid (x = .iface t v)) (k : Nat) (h1 : 1 ≤ k) (h25 : k ≤ 25)
    (his : Hid (∀ (c : Int) (w : World), Calls Try.prog 27 #[.iface t v, errno c] w fun e w' => e = .returned (.bool ((k : Int) == c)) ∧ Below w.heap.size w w')) (w : World) :
    Calls Try.prog 8 #[x] w fun e w' => e = .returned (.int .i64 k) ∧ Below w.heap.size w w' := by
  rw [hx.out]
  clear hx
  go_enter Try.func8, Try.ntmps8
  go_wp2
  go_loopw [3] (fun c wr => ∃ j : Nat, 1 ≤ j ∧ j ≤ k ∧ c = .int .i64 j ∧ Below w.heap.size w wr) (fun c _ => k - (intOf c).toNat)
  case atStart => exact ⟨1, by omega, h1, rfl, Below.refl _ _⟩
  case round =>
    obtain ⟨j, hj1, hjk, rfl, hbw⟩ := hrel
    have hj25 : decide ((j : Int) ≤ 25) = true := by simp; omega
    by_cases hlt : j < k
    · have hb : ((k : Int) == (j : Int)) = false := by simp; omega
      go_wp2_with (go_at_call 27; refine (his.out _ _).mono ?_; rintro e w1 ⟨rfl, hw1⟩)
      go_roundw
      case rel => exact ⟨j + 1, by omega, by omega, by go_num, hbw.trans (hw1.mono hbw.size)⟩
      case measure => simp [intOf]; omega
    · have hb : ((k : Int) == (j : Int)) = true := by simp; omega
      have e : Hid (j = k) := show j = k by omega
      go_wp2_with (go_at_call 27; refine (his.out _ _).mono ?_; rintro e w1 ⟨rfl, hw1⟩)
      go_ret
      exact ⟨ret_int (by rw [e.out]), hbw.trans (hw1.mono hbw.size)⟩
theorem code_errno (k : Nat) (h1 : 1 ≤ k) (h25 : k ≤ 25) (w : World) :
    Calls Try.prog 8 #[errno k] w fun e w' => e = .returned (.int .i64 k) ∧ Below w.heap.size w w' :=
  code_of (show errno k = _ from rfl) k h1 h25 (fun c w => is_errno_below k c w) w
/-- No error, or one of api's, by its number. -/
def errOf (k : Nat) : Value := if k = 0 then .nilIface else errno k
theorem code_errOf (k : Nat) (h25 : k ≤ 25) (w : World) :
    Calls Try.prog 8 #[errOf k] w fun e w' => e = .returned (.int .i64 k) ∧ Below w.heap.size w w' := by
  unfold errOf
  split
  · next h => subst h; exact code_nil w
  · exact code_errno k (by omega) h25 w
end Go.Proofs.Ytnbnohphdehfoaa
