/-
  errors.As at a target of type *api.Lack, and 'Off' of the laws: the place that an error tells, or -1.
-/
import Derived.Test.YtnpmkapapacffaaDoorLkAs
namespace Go.Proofs.YtnpmkapapacffaaDoor
open Go.RowKit Go.Extern.Stop Go.Stop Go.Extern

theorem rls (v x : Value) : ∃ s1 s2 s3 s4 s5 : String, ReflectliteValue.set #[v, x] = (do
    let (some (dst, a, fl), some (src, b, _)) := (← ReflectliteValue.parts v, ← ReflectliteValue.parts x)
      | unsupported (.noEntry s1)
    if fl / ReflectliteValue.flagAddr % 2 == 0 then unsupported (.noEntry s2)
    let val ← loadVar src b
    if ← Rtype.directlyAssignable dst src then storeVar dst a val
    else if ← Rtype.implements dst src then
      if (← Rtype.kind src) == 20 then
        match val with
        | .nilIface => unsupported (.noEntry s3)
        | _ => storeVar dst a val
      else storeVar dst a (.iface src val)
    else panicString (s4 ++ (← Rtype.spelt src) ++ s5 ++ (← Rtype.spelt dst))
    pure (.tuple #[])) := ⟨_, _, _, _, _, rfl⟩
theorem asPartsSa (a : Addr) (w : World) : (ReflectliteValue.parts (.agg #[.pointer (some ⟨4, 64, none⟩), .pointer (some a), .int .u64 409])).run Tryd.prog w = .ok (some (64, a, 409)) w := by kernel_rfl
theorem asPartsS (a : Addr) (w : World) : (ReflectliteValue.parts (.agg #[.pointer (some ⟨4, 64, none⟩), .pointer (some a), .int .u64 153])).run Tryd.prog w = .ok (some (64, a, 153)) w := by kernel_rfl
theorem asDirectS (w : World) : (Rtype.directlyAssignable 64 64).run Tryd.prog w = .ok true w := by kernel_rfl
theorem asSizeS (w : World) : (sizeOf 64).run Tryd.prog w = .ok 2 w := by kernel_rfl
theorem asSet (tb b : Nat) (x : ByteArray) (t : TypeId) (y u v : Value) (W : World) (hb0 : W.cell? ⟨b, 0, none⟩ = some (.string x)) (hb1 : W.cell? ⟨b, 1, none⟩ = some (.iface t y)) (ht0 : W.cell? ⟨tb, 0, none⟩ = some u) (ht1 : W.cell? ⟨tb, 1, none⟩ = some v) (hf0 : W.frozen? ⟨tb, 0, none⟩ = false) (hf1 : W.frozen? ⟨tb, 1, none⟩ = false) :
    (ReflectliteValue.set #[.agg #[.pointer (some ⟨4, 64, none⟩), .pointer (some ⟨tb, 0, none⟩), .int .u64 409], .agg #[.pointer (some ⟨4, 64, none⟩), .pointer (some ⟨b, 0, none⟩), .int .u64 153]]).run Tryd.prog W
      = .ok (.tuple #[]) ((W.setCell ⟨tb, 0, none⟩ (.string x)).setCell ⟨tb, 1, none⟩ (.iface t y)) := by
  have hl : (loadCells ⟨b, 0, none⟩ 2).run Tryd.prog W = .ok #[.string x, .iface t y] W :=
    run_loadCells_list (P := Tryd.prog) W ⟨b, 0, none⟩ [.string x, .iface t y] (fun j v hj => by
      match j, hj with
      | 0, hj => cases hj; exact hb0
      | 1, hj => cases hj; exact hb1)
  have hs : (storeCells ⟨tb, 0, none⟩ [.string x, .iface t y]).run Tryd.prog W = .ok () ((W.setCell ⟨tb, 0, none⟩ (.string x)).setCell ⟨tb, 1, none⟩ (.iface t y)) := by
    have h1 : (W.setCell ⟨tb, 0, none⟩ (.string x)).cell? ⟨tb, 1, none⟩ = some v := by
      rw [World.cell?_setCell_other _ _ _ _ (by simp)]; exact ht1
    have h2 : (W.setCell ⟨tb, 0, none⟩ (.string x)).frozen? ⟨tb, 1, none⟩ = false := by simpa using hf1
    have s1 : (store ⟨tb, 0, none⟩ (.string x)).run Tryd.prog W = .ok () (W.setCell ⟨tb, 0, none⟩ (.string x)) := by
      rw [run_store Tryd.prog W ⟨tb, 0, none⟩ (.string x) _ rfl]; simp [ht0, hf0]
    have s2 : (store ⟨tb, 1, none⟩ (.iface t y)).run Tryd.prog (W.setCell ⟨tb, 0, none⟩ (.string x)) = .ok () ((W.setCell ⟨tb, 0, none⟩ (.string x)).setCell ⟨tb, 1, none⟩ (.iface t y)) := by
      rw [run_store Tryd.prog _ ⟨tb, 1, none⟩ (.iface t y) _ rfl]; simp only [h1, h2]; rfl
    have a0 : (⟨tb, 0, none⟩ : Addr).add 0 = ⟨tb, 0, none⟩ := rfl
    have a1 : (⟨tb, 0, none⟩ : Addr).add (0 + 1) = ⟨tb, 1, none⟩ := rfl
    simp only [storeCells, Sem.run_bind, a0, a1, s1, s2, Result.andThen, Sem.run_pure]
  obtain ⟨s1, s2, s3, s4, s5, hr⟩ := rls (.agg #[.pointer (some ⟨4, 64, none⟩), .pointer (some ⟨tb, 0, none⟩), .int .u64 409]) (.agg #[.pointer (some ⟨4, 64, none⟩), .pointer (some ⟨b, 0, none⟩), .int .u64 153])
  rw [hr]
  simp only [Sem.run_bind, asPartsSa, asPartsS, Result.andThen]
  simp [ReflectliteValue.flagAddr, loadVar, isAgg, underlying, Tryd.underlying64, Result.andThen, asDirectS, storeVar, Value.cells, hl, hs]

def hdl (t : TypeId) : Value := .pointer (some ⟨4, t, none⟩)
theorem asRun1 (args : Array Value) (w : World) : (callFunc 55 args).run Tryd.prog w = ((ReflectliteValue.unpack (args.getD 0 (.tuple #[]))).run Tryd.prog w).andThen fun v w' => .ok (.value v) w' :=
  @run_callFunc_extern Tryd.prog 55 _ (fun args => ReflectliteValue.unpack (args.getD 0 (.tuple #[]))) Tryd.func55 (by kernel_rfl) (by kernel_rfl) (by kernel_rfl) (by kernel_rfl) args w
theorem asRun2 (args : Array Value) (w : World) : (callFunc 56 args).run Tryd.prog w = ((ReflectliteValue.methodAny (ReflectliteValue.valueError "reflectlite.Value.Type" 0) (fun t _ _ _ => ReflectliteType.toType t) args).run Tryd.prog w).andThen fun v w' => .ok (.value v) w' :=
  @run_callFunc_extern Tryd.prog 56 _ (ReflectliteValue.methodAny (ReflectliteValue.valueError "reflectlite.Value.Type" 0) (fun t _ _ _ => ReflectliteType.toType t)) Tryd.func56 (by kernel_rfl) (by kernel_rfl) (by kernel_rfl) (by kernel_rfl) args w
theorem asRun3 (args : Array Value) (w : World) : (callFunc 57 args).run Tryd.prog w = ((ReflectliteValue.method (ReflectliteValue.valueError "reflectlite.Value.IsNil" 0) ReflectliteValue.isNil args).run Tryd.prog w).andThen fun v w' => .ok (.value v) w' :=
  @run_callFunc_extern Tryd.prog 57 _ (ReflectliteValue.method (ReflectliteValue.valueError "reflectlite.Value.IsNil" 0) ReflectliteValue.isNil) Tryd.func57 (by kernel_rfl) (by kernel_rfl) (by kernel_rfl) (by kernel_rfl) args w
theorem asRun4 (args : Array Value) (w : World) : (callFunc 109 args).run Tryd.prog w = ((ReflectliteType.abiMethod (fun t => do pure (.int .u8 (← Rtype.kind t))) args).run Tryd.prog w).andThen fun v w' => .ok (.value v) w' :=
  @run_callFunc_extern Tryd.prog 109 _ (ReflectliteType.abiMethod fun t => do pure (.int .u8 (← Rtype.kind t))) Tryd.func109 (by kernel_rfl) (by kernel_rfl) (by kernel_rfl) (by kernel_rfl) args w
theorem asRun5 (args : Array Value) (w : World) : (callFunc 121 args).run Tryd.prog w = ((ReflectliteType.method ReflectliteType.elem args).run Tryd.prog w).andThen fun v w' => .ok (.value v) w' :=
  @run_callFunc_extern Tryd.prog 121 _ (ReflectliteType.method ReflectliteType.elem) Tryd.func121 (by kernel_rfl) (by kernel_rfl) (by kernel_rfl) (by kernel_rfl) args w
theorem asRun6 (args : Array Value) (w : World) : (callFunc 122 args).run Tryd.prog w = ((ReflectliteType.relation "Implements" ReflectliteType.implements_ args).run Tryd.prog w).andThen fun v w' => .ok (.value v) w' :=
  @run_callFunc_extern Tryd.prog 122 _ (ReflectliteType.relation "Implements" ReflectliteType.implements_) Tryd.func122 (by kernel_rfl) (by kernel_rfl) (by kernel_rfl) (by kernel_rfl) args w
theorem asRun7 (args : Array Value) (w : World) : (callFunc 119 args).run Tryd.prog w = ((ReflectliteType.relation "AssignableTo" ReflectliteType.assignableTo args).run Tryd.prog w).andThen fun v w' => .ok (.value v) w' :=
  @run_callFunc_extern Tryd.prog 119 _ (ReflectliteType.relation "AssignableTo" ReflectliteType.assignableTo) Tryd.func119 (by kernel_rfl) (by kernel_rfl) (by kernel_rfl) (by kernel_rfl) args w
theorem asRun8 (args : Array Value) (w : World) : (callFunc 71 args).run Tryd.prog w = ((ReflectliteValue.method (ReflectliteValue.valueError "reflectlite.Value.Elem" 0) ReflectliteValue.elem args).run Tryd.prog w).andThen fun v w' => .ok (.value v) w' :=
  @run_callFunc_extern Tryd.prog 71 _ (ReflectliteValue.method (ReflectliteValue.valueError "reflectlite.Value.Elem" 0) ReflectliteValue.elem) Tryd.func71 (by kernel_rfl) (by kernel_rfl) (by kernel_rfl) (by kernel_rfl) args w
theorem asRun9 (args : Array Value) (w : World) : (callFunc 72 args).run Tryd.prog w = ((ReflectliteValue.set args).run Tryd.prog w).andThen fun v w' => .ok (.value v) w' :=
  @run_callFunc_extern Tryd.prog 72 _ ReflectliteValue.set Tryd.func72 (by kernel_rfl) (by kernel_rfl) (by kernel_rfl) (by kernel_rfl) args w
end Go.Proofs.YtnpmkapapacffaaDoor
