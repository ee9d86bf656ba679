/-
  errors.As over api's errors, the target a variable of type api.At: Errno k is none (false); At is found, and the variable gets it. And 'Off' of the laws: the place that an error tells, or -1.
-/
import Derived.Test.YtgkhjeefcflmcaaGreatDoorMt00
import Derived.Lib.ItoaNum
import Derived.Lib.Repeat
namespace Go.Proofs.YtgkhjeefcflmcaaGreatDoor
open Go.RowKit Go.Extern.Stop Go.Stop Go.Extern
theorem asValueOfP (t : Addr) (w : World) : (ReflectliteValue.unpack (.iface 58 (.pointer (some t)))).run Tryz.prog w
  = .ok (.agg #[.pointer (some ⟨13, 58, none⟩), .pointer (some ⟨w.heap.size, 0, none⟩), .int .u64 150]) (w.alloc (.cells #[.pointer (some t)] 58)) := by kernel_rfl
theorem asTypeP (a : Addr) (w : World) : (ReflectliteValue.methodAny (ReflectliteValue.valueError "reflectlite.Value.Type" 0) (fun t _ _ _ => ReflectliteType.toType t) #[.agg #[.pointer (some ⟨13, 58, none⟩), .pointer (some a), .int .u64 150]]).run Tryz.prog w
  = .ok (.iface 103 (.agg #[.pointer (some ⟨13, 58, none⟩)])) w := by kernel_rfl
theorem asMethodKind (h : Value) (w : World) : (Go.method 456 103 (.agg #[h]) "Kind").run Tryz.prog w = .ok (289, h) w := by kernel_rfl
theorem asKindP (w : World) : ((ReflectliteType.abiMethod fun t => (fun a : Nat => Value.int IntKind.u8 (a : Int)) <$> Rtype.kind t) #[.pointer (some ⟨13, 58, none⟩)]).run Tryz.prog w = .ok (.int .u8 22) w := by kernel_rfl
theorem asKindS (w : World) : ((ReflectliteType.abiMethod fun t => (fun a : Nat => Value.int IntKind.u8 (a : Int)) <$> Rtype.kind t) #[.pointer (some ⟨13, 55, none⟩)]).run Tryz.prog w = .ok (.int .u8 25) w := by kernel_rfl
theorem rlm (z : Sem Value) (f : TypeId → Addr → Nat → Nat → Sem Value) (v : Value) :
  ReflectliteValue.method z f #[v] = (do match ← ReflectliteValue.parts v with | none => z | some (t, a, fl) => f t a fl (fl % 32)) := rfl
theorem asPartsP (a : Addr) (w : World) : (ReflectliteValue.parts (.agg #[.pointer (some ⟨13, 58, none⟩), .pointer (some a), .int .u64 150])).run Tryz.prog w = .ok (some (58, a, 150)) w := by kernel_rfl
theorem asIsNilP (a p : Addr) (W : World) (ha : W.cell? a = some (.pointer (some p))) :
  (ReflectliteValue.method (ReflectliteValue.valueError "reflectlite.Value.IsNil" 0) ReflectliteValue.isNil #[.agg #[.pointer (some ⟨13, 58, none⟩), .pointer (some a), .int .u64 150]]).run Tryz.prog W = .ok (.bool false) W := by
 rw [rlm]
 simp only [Sem.run_bind, asPartsP, Result.andThen]
 simp [ReflectliteValue.isNil, loadVar, isAgg, underlying, Tryz.underlying58, ha, Result.andThen]
theorem asMethodElem (h : Value) (w : World) : (Go.method 456 103 (.agg #[h]) "Elem").run Tryz.prog w = .ok (301, .agg #[h]) w := by kernel_rfl
theorem asMethodImplements (h : Value) (w : World) : (Go.method 456 103 (.agg #[h]) "Implements").run Tryz.prog w = .ok (302, .agg #[h]) w := by kernel_rfl
theorem asMethodAssignableTo (h : Value) (w : World) : (Go.method 456 103 (.agg #[h]) "AssignableTo").run Tryz.prog w = .ok (299, .agg #[h]) w := by kernel_rfl
theorem asElemP (w : World) : (ReflectliteType.method ReflectliteType.elem #[.agg #[.pointer (some ⟨13, 58, none⟩)]]).run Tryz.prog w = .ok (.iface 103 (.agg #[.pointer (some ⟨13, 55, none⟩)])) w := by kernel_rfl
theorem asImplementsS (w : World) : (ReflectliteType.relation "Implements" ReflectliteType.implements_ #[.agg #[.pointer (some ⟨13, 55, none⟩)], .iface 103 (.agg #[.pointer (some ⟨13, 25, none⟩)])]).run Tryz.prog w = .ok (.bool true) w := by kernel_rfl
theorem asTypeOfS (v : Value) (w : World) : (ReflectliteType.typeOf #[.iface 55 v]).run Tryz.prog w = .ok (.iface 103 (.agg #[.pointer (some ⟨13, 55, none⟩)])) w := by kernel_rfl
theorem asAssignableS (w : World) : (ReflectliteType.relation "AssignableTo" ReflectliteType.assignableTo #[.agg #[.pointer (some ⟨13, 55, none⟩)], .iface 103 (.agg #[.pointer (some ⟨13, 55, none⟩)])]).run Tryz.prog w = .ok (.bool true) w := by kernel_rfl
theorem asValueOfS (x y : Value) (w : World) : (ReflectliteValue.unpack (.iface 55 (.agg #[x, y]))).run Tryz.prog w
  = .ok (.agg #[.pointer (some ⟨13, 55, none⟩), .pointer (some ⟨w.heap.size, 0, none⟩), .int .u64 153]) (w.alloc (.cells #[x, y] 55)) := by kernel_rfl
theorem asElemOfP (w : World) : (Rtype.elem? 58).run Tryz.prog w = .ok (some 55) w := by kernel_rfl
theorem asMkS (p : Addr) (w : World) : (ReflectliteValue.mk 55 p ReflectliteValue.flagAddr).run Tryz.prog w = .ok (.agg #[.pointer (some ⟨13, 55, none⟩), .pointer (some p), .int .u64 409]) w := by kernel_rfl
theorem asElemVP (a p : Addr) (W : World) (ha : W.cell? a = some (.pointer (some p))) :
  (ReflectliteValue.method (ReflectliteValue.valueError "reflectlite.Value.Elem" 0) ReflectliteValue.elem #[.agg #[.pointer (some ⟨13, 58, none⟩), .pointer (some a), .int .u64 150]]).run Tryz.prog W
   = .ok (.agg #[.pointer (some ⟨13, 55, none⟩), .pointer (some p), .int .u64 409]) W := by
 rw [rlm]
 simp only [Sem.run_bind, asPartsP, Result.andThen]
 simp [ReflectliteValue.elem, loadVar, isAgg, underlying, Tryz.underlying58, ha, Result.andThen, asElemOfP, asMkS]
end Go.Proofs.YtgkhjeefcflmcaaGreatDoor
namespace Go.Proofs.YtgkhjeefcflmcaaGreatDoor
open Go.RowKit Go.Extern.Stop Go.Stop Go.Extern
theorem rls (v x : Value) : ∃ s1 s2 s3 s4 s5 : String, ReflectliteValue.set #[v, x] = (do
  let (some (dst, a, fl), some (src, b, _)) := (← ReflectliteValue.parts v, ← ReflectliteValue.parts x)
   | unsupported (.noEntry s1)
  if fl / ReflectliteValue.flagAddr % 2 == 0 then unsupported (.noEntry s2)
  let val ← loadVar src b
  if ← Rtype.directlyAssignable dst src then storeVar dst a val
  else if ← Rtype.implements dst src then
   if (← Rtype.kind src) == 20 then
    match val with
    | .nilIface => unsupported (.noEntry s3)
    | _ => storeVar dst a val
   else storeVar dst a (.iface src val)
  else panicString (s4 ++ (← Rtype.spelt src) ++ s5 ++ (← Rtype.spelt dst))
  pure (.tuple #[])) := ⟨_, _, _, _, _, rfl⟩
theorem asPartsSa (a : Addr) (w : World) : (ReflectliteValue.parts (.agg #[.pointer (some ⟨13, 55, none⟩), .pointer (some a), .int .u64 409])).run Tryz.prog w = .ok (some (55, a, 409)) w := by kernel_rfl
theorem asPartsS (a : Addr) (w : World) : (ReflectliteValue.parts (.agg #[.pointer (some ⟨13, 55, none⟩), .pointer (some a), .int .u64 153])).run Tryz.prog w = .ok (some (55, a, 153)) w := by kernel_rfl
theorem asDirectS (w : World) : (Rtype.directlyAssignable 55 55).run Tryz.prog w = .ok true w := by kernel_rfl
theorem asSet (tb b : Nat) (x : Int) (t : TypeId) (y u v : Value) (W : World) (hb0 : W.cell? ⟨b, 0, none⟩ = some (.int .i64 x)) (hb1 : W.cell? ⟨b, 1, none⟩ = some (.iface t y)) (ht0 : W.cell? ⟨tb, 0, none⟩ = some u) (ht1 : W.cell? ⟨tb, 1, none⟩ = some v) (hf0 : W.frozen? ⟨tb, 0, none⟩ = false) (hf1 : W.frozen? ⟨tb, 1, none⟩ = false) :
  (ReflectliteValue.set #[.agg #[.pointer (some ⟨13, 55, none⟩), .pointer (some ⟨tb, 0, none⟩), .int .u64 409], .agg #[.pointer (some ⟨13, 55, none⟩), .pointer (some ⟨b, 0, none⟩), .int .u64 153]]).run Tryz.prog W
   = .ok (.tuple #[]) ((W.setCell ⟨tb, 0, none⟩ (.int .i64 x)).setCell ⟨tb, 1, none⟩ (.iface t y)) := by
 have hl : (loadCells ⟨b, 0, none⟩ 2).run Tryz.prog W = .ok #[.int .i64 x, .iface t y] W :=
  run_loadCells_list (P := Tryz.prog) W ⟨b, 0, none⟩ [.int .i64 x, .iface t y] (fun j v hj => by
   match j, hj with
   | 0, hj => cases hj; exact hb0
   | 1, hj => cases hj; exact hb1)
 have hs : (storeCells ⟨tb, 0, none⟩ [.int .i64 x, .iface t y]).run Tryz.prog W = .ok () ((W.setCell ⟨tb, 0, none⟩ (.int .i64 x)).setCell ⟨tb, 1, none⟩ (.iface t y)) := by
  have h1 : (W.setCell ⟨tb, 0, none⟩ (.int .i64 x)).cell? ⟨tb, 1, none⟩ = some v := by
   rw [World.cell?_setCell_other _ _ _ _ (by simp)]; exact ht1
  have h2 : (W.setCell ⟨tb, 0, none⟩ (.int .i64 x)).frozen? ⟨tb, 1, none⟩ = false := by simpa using hf1
  have s1 : (store ⟨tb, 0, none⟩ (.int .i64 x)).run Tryz.prog W = .ok () (W.setCell ⟨tb, 0, none⟩ (.int .i64 x)) := by
   rw [run_store Tryz.prog W ⟨tb, 0, none⟩ (.int .i64 x) _ rfl]; simp [ht0, hf0]
  have s2 : (store ⟨tb, 1, none⟩ (.iface t y)).run Tryz.prog (W.setCell ⟨tb, 0, none⟩ (.int .i64 x)) = .ok () ((W.setCell ⟨tb, 0, none⟩ (.int .i64 x)).setCell ⟨tb, 1, none⟩ (.iface t y)) := by
   rw [run_store Tryz.prog _ ⟨tb, 1, none⟩ (.iface t y) _ rfl]; simp only [h1, h2]; rfl
  have a0 : (⟨tb, 0, none⟩ : Addr).add 0 = ⟨tb, 0, none⟩ := rfl
  have a1 : (⟨tb, 0, none⟩ : Addr).add (0 + 1) = ⟨tb, 1, none⟩ := rfl
  simp only [storeCells, Sem.run_bind, a0, a1, s1, s2, Result.andThen, Sem.run_pure]
 obtain ⟨s1, s2, s3, s4, s5, hr⟩ := rls (.agg #[.pointer (some ⟨13, 55, none⟩), .pointer (some ⟨tb, 0, none⟩), .int .u64 409]) (.agg #[.pointer (some ⟨13, 55, none⟩), .pointer (some ⟨b, 0, none⟩), .int .u64 153])
 rw [hr]
 simp only [Sem.run_bind, asPartsSa, asPartsS, Result.andThen]
 simp [ReflectliteValue.flagAddr, loadVar, isAgg, underlying, Tryz.underlying55, Result.andThen, asDirectS, storeVar, Value.cells, hl, hs]
def hdl (t : TypeId) : Value := .pointer (some ⟨13, t, none⟩)
theorem asRun1 (args : Array Value) (w : World) : (callFunc 40 args).run Tryz.prog w = ((ReflectliteValue.unpack (args.getD 0 (.tuple #[]))).run Tryz.prog w).andThen fun v w' => .ok (.value v) w' :=
 @run_callFunc_extern Tryz.prog 40 _ (fun args => ReflectliteValue.unpack (args.getD 0 (.tuple #[]))) Tryz.func40 (by kernel_rfl) (by kernel_rfl) (by kernel_rfl) (by kernel_rfl) args w
theorem asRun2 (args : Array Value) (w : World) : (callFunc 41 args).run Tryz.prog w = ((ReflectliteValue.methodAny (ReflectliteValue.valueError "reflectlite.Value.Type" 0) (fun t _ _ _ => ReflectliteType.toType t) args).run Tryz.prog w).andThen fun v w' => .ok (.value v) w' :=
 @run_callFunc_extern Tryz.prog 41 _ (ReflectliteValue.methodAny (ReflectliteValue.valueError "reflectlite.Value.Type" 0) (fun t _ _ _ => ReflectliteType.toType t)) Tryz.func41 (by kernel_rfl) (by kernel_rfl) (by kernel_rfl) (by kernel_rfl) args w
theorem asRun3 (args : Array Value) (w : World) : (callFunc 42 args).run Tryz.prog w = ((ReflectliteValue.method (ReflectliteValue.valueError "reflectlite.Value.IsNil" 0) ReflectliteValue.isNil args).run Tryz.prog w).andThen fun v w' => .ok (.value v) w' :=
 @run_callFunc_extern Tryz.prog 42 _ (ReflectliteValue.method (ReflectliteValue.valueError "reflectlite.Value.IsNil" 0) ReflectliteValue.isNil) Tryz.func42 (by kernel_rfl) (by kernel_rfl) (by kernel_rfl) (by kernel_rfl) args w
theorem asRun4 (args : Array Value) (w : World) : (callFunc 289 args).run Tryz.prog w = ((ReflectliteType.abiMethod (fun t => do pure (.int .u8 (← Rtype.kind t))) args).run Tryz.prog w).andThen fun v w' => .ok (.value v) w' :=
 @run_callFunc_extern Tryz.prog 289 _ (ReflectliteType.abiMethod fun t => do pure (.int .u8 (← Rtype.kind t))) Tryz.func289 (by kernel_rfl) (by kernel_rfl) (by kernel_rfl) (by kernel_rfl) args w
theorem asRun5 (args : Array Value) (w : World) : (callFunc 301 args).run Tryz.prog w = ((ReflectliteType.method ReflectliteType.elem args).run Tryz.prog w).andThen fun v w' => .ok (.value v) w' :=
 @run_callFunc_extern Tryz.prog 301 _ (ReflectliteType.method ReflectliteType.elem) Tryz.func301 (by kernel_rfl) (by kernel_rfl) (by kernel_rfl) (by kernel_rfl) args w
theorem asRun6 (args : Array Value) (w : World) : (callFunc 302 args).run Tryz.prog w = ((ReflectliteType.relation "Implements" ReflectliteType.implements_ args).run Tryz.prog w).andThen fun v w' => .ok (.value v) w' :=
 @run_callFunc_extern Tryz.prog 302 _ (ReflectliteType.relation "Implements" ReflectliteType.implements_) Tryz.func302 (by kernel_rfl) (by kernel_rfl) (by kernel_rfl) (by kernel_rfl) args w
theorem asRun7 (args : Array Value) (w : World) : (callFunc 299 args).run Tryz.prog w = ((ReflectliteType.relation "AssignableTo" ReflectliteType.assignableTo args).run Tryz.prog w).andThen fun v w' => .ok (.value v) w' :=
 @run_callFunc_extern Tryz.prog 299 _ (ReflectliteType.relation "AssignableTo" ReflectliteType.assignableTo) Tryz.func299 (by kernel_rfl) (by kernel_rfl) (by kernel_rfl) (by kernel_rfl) args w
theorem asRun8 (args : Array Value) (w : World) : (callFunc 63 args).run Tryz.prog w = ((ReflectliteValue.method (ReflectliteValue.valueError "reflectlite.Value.Elem" 0) ReflectliteValue.elem args).run Tryz.prog w).andThen fun v w' => .ok (.value v) w' :=
 @run_callFunc_extern Tryz.prog 63 _ (ReflectliteValue.method (ReflectliteValue.valueError "reflectlite.Value.Elem" 0) ReflectliteValue.elem) Tryz.func63 (by kernel_rfl) (by kernel_rfl) (by kernel_rfl) (by kernel_rfl) args w
theorem asRun9 (args : Array Value) (w : World) : (callFunc 64 args).run Tryz.prog w = ((ReflectliteValue.set args).run Tryz.prog w).andThen fun v w' => .ok (.value v) w' :=
 @run_callFunc_extern Tryz.prog 64 _ ReflectliteValue.set Tryz.func64 (by kernel_rfl) (by kernel_rfl) (by kernel_rfl) (by kernel_rfl) args w
end Go.Proofs.YtgkhjeefcflmcaaGreatDoor
namespace Go.Proofs.YtgkhjeefcflmcaaGreatDoor
open Go.RowKit Go.Extern.Stop Go.Stop Go.Extern
def ErrType (w : World) : Prop := w.cell? ⟨0, 0, none⟩ = some (.iface 103 (.agg #[.pointer (some ⟨13, 25, none⟩)]))
end Go.Proofs.YtgkhjeefcflmcaaGreatDoor
namespace Go.Proofs.YtgkhjeefcflmcaaGreatDoor
open Go.RowKit Go.Extern.Stop Go.Stop Go.Extern
set_option maxHeartbeats 4000000 in
theorem as_hit (o k : Int) (tb : Nat) (u v : Value) (w : World) (hg : w.cell? ⟨0, 0, none⟩ = some (.iface 103 (.agg #[.pointer (some ⟨13, 25, none⟩)])))
  (ht0 : w.cell? ⟨tb, 0, none⟩ = some u) (ht1 : w.cell? ⟨tb, 1, none⟩ = some v) (hf0 : w.frozen? ⟨tb, 0, none⟩ = false) (hf1 : w.frozen? ⟨tb, 1, none⟩ = false) :
  Calls Tryz.prog 26 #[.iface 55 (.agg #[.int .i64 o, .iface 35 (.int .i64 k)]), .iface 58 (.pointer (some ⟨tb, 0, none⟩))] w fun ev w' => ev = .returned (.bool true) ∧
   w' = (((((w.alloc (.cells #[.pointer (some ⟨tb, 0, none⟩)] 58)).alloc (.cells #[.pointer (some ⟨13, 58, none⟩), .pointer (some ⟨w.heap.size, 0, none⟩), .int .u64 150] 74)).alloc (.cells #[.pointer (some ⟨13, 58, none⟩), .pointer (some ⟨w.heap.size, 0, none⟩), .int .u64 150] 74)).alloc (.cells #[.int .i64 o, .iface 35 (.int .i64 k)] 55)).setCell ⟨tb, 0, none⟩ (.int .i64 o)).setCell ⟨tb, 1, none⟩ (.iface 35 (.int .i64 k)) := by
 have r1 := asRun1
 have r2 := asRun2
 have r3 := asRun3
 have r4 := asRun4
 have r5 := asRun5
 have r6 := asRun6
 have r7 := asRun7
 have r8 := asRun8
 have r9 := asRun9
 have rT := runTypeOf
 have tO := asTypeOfS
 have mA := asMethodAssignableTo
 have aS := asAssignableS
 have f6 := asValueOfP
 have vS := asValueOfS
 have f7 := asTypeP
 have mK := asMethodKind
 have mE := asMethodElem
 have mI := asMethodImplements
 have k27 := asKindP
 have k25 := asKindS
 have e27 := asElemP
 have i25 := asImplementsS
 have hlt : 0 < w.heap.size := by
  rcases Nat.lt_or_ge 0 w.heap.size with h | h
  ·exact h
  ·simp [World.cell?, Array.getElem?_eq_none h] at hg
 have htl : tb < w.heap.size := by
  rcases Nat.lt_or_ge tb w.heap.size with h | h
  ·exact h
  ·simp [World.cell?, Array.getElem?_eq_none h] at ht0
 have n8 := asIsNilP ⟨w.heap.size, 0, none⟩ ⟨tb, 0, none⟩ ((w.alloc (.cells #[.pointer (some ⟨tb, 0, none⟩)] 58)).alloc (.cells #[.pointer (some ⟨13, 58, none⟩), .pointer (some ⟨w.heap.size, 0, none⟩), .int .u64 150] 74)) (by simp)
 have hg2 : ((w.alloc (.cells #[.pointer (some ⟨tb, 0, none⟩)] 58)).alloc (.cells #[.pointer (some ⟨13, 58, none⟩), .pointer (some ⟨w.heap.size, 0, none⟩), .int .u64 150] 74)).cell? ⟨0, 0, none⟩ = some (.iface 103 (.agg #[.pointer (some ⟨13, 25, none⟩)])) := by
  rw [World.cell?_alloc_lt _ _ ⟨0, 0, none⟩ (by simp <;> omega), World.cell?_alloc_lt _ _ ⟨0, 0, none⟩ hlt]; exact hg
 have el := asElemVP ⟨w.heap.size, 0, none⟩ ⟨tb, 0, none⟩ (((w.alloc (.cells #[.pointer (some ⟨tb, 0, none⟩)] 58)).alloc (.cells #[.pointer (some ⟨13, 58, none⟩), .pointer (some ⟨w.heap.size, 0, none⟩), .int .u64 150] 74)).alloc (.cells #[.pointer (some ⟨13, 58, none⟩), .pointer (some ⟨w.heap.size, 0, none⟩), .int .u64 150] 74)) (by rw [World.cell?_alloc_lt _ _ ⟨w.heap.size, 0, none⟩ (by simp <;> omega)]; simp)
 have old0 : ∀ j, ((((w.alloc (.cells #[.pointer (some ⟨tb, 0, none⟩)] 58)).alloc (.cells #[.pointer (some ⟨13, 58, none⟩), .pointer (some ⟨w.heap.size, 0, none⟩), .int .u64 150] 74)).alloc (.cells #[.pointer (some ⟨13, 58, none⟩), .pointer (some ⟨w.heap.size, 0, none⟩), .int .u64 150] 74)).alloc (.cells #[.int .i64 o, .iface 35 (.int .i64 k)] 55)).cell? ⟨tb, j, none⟩ = w.cell? ⟨tb, j, none⟩ := fun j => by
  rw [World.cell?_alloc_lt _ _ ⟨tb, j, none⟩ (by simp <;> omega), World.cell?_alloc_lt _ _ ⟨tb, j, none⟩ (by simp <;> omega), World.cell?_alloc_lt _ _ ⟨tb, j, none⟩ (by simp <;> omega), World.cell?_alloc_lt _ _ ⟨tb, j, none⟩ htl]
 have oldf : ∀ j, ((((w.alloc (.cells #[.pointer (some ⟨tb, 0, none⟩)] 58)).alloc (.cells #[.pointer (some ⟨13, 58, none⟩), .pointer (some ⟨w.heap.size, 0, none⟩), .int .u64 150] 74)).alloc (.cells #[.pointer (some ⟨13, 58, none⟩), .pointer (some ⟨w.heap.size, 0, none⟩), .int .u64 150] 74)).alloc (.cells #[.int .i64 o, .iface 35 (.int .i64 k)] 55)).frozen? ⟨tb, j, none⟩ = w.frozen? ⟨tb, j, none⟩ := fun j => by
  rw [World.frozen?_alloc_old _ _ ⟨tb, j, none⟩ (by simp <;> omega), World.frozen?_alloc_old _ _ ⟨tb, j, none⟩ (by simp <;> omega), World.frozen?_alloc_old _ _ ⟨tb, j, none⟩ (by simp <;> omega), World.frozen?_alloc_old _ _ ⟨tb, j, none⟩ (Nat.ne_of_lt htl)]
 have st := asSet tb (w.heap.size + 1 + 1 + 1) o 35 (.int .i64 k) u v ((((w.alloc (.cells #[.pointer (some ⟨tb, 0, none⟩)] 58)).alloc (.cells #[.pointer (some ⟨13, 58, none⟩), .pointer (some ⟨w.heap.size, 0, none⟩), .int .u64 150] 74)).alloc (.cells #[.pointer (some ⟨13, 58, none⟩), .pointer (some ⟨w.heap.size, 0, none⟩), .int .u64 150] 74)).alloc (.cells #[.int .i64 o, .iface 35 (.int .i64 k)] 55))
  (by rw [World.cell?_alloc_at _ _ _ _ (by simp)]; rfl) (by rw [World.cell?_alloc_at _ _ _ _ (by simp)]; rfl) (by rw [old0]; exact ht0) (by rw [old0]; exact ht1) (by rw [oldf]; exact hf0) (by rw [oldf]; exact hf1)
 have H0 := Lib.hid old0
 have H1 := Lib.hid oldf
 clear old0 oldf
 go_enter Tryz.func26, Tryz.ntmps26
 go_wp2
 refine wp_loop_rounds 1 ?_
 rw [rounds_succ]
 go_wp2
 go_ret
 exact ⟨rfl, rfl⟩
end Go.Proofs.YtgkhjeefcflmcaaGreatDoor
namespace Go.Proofs.YtgkhjeefcflmcaaGreatDoor
open Go.RowKit Go.Extern.Stop Go.Stop Go.Extern
theorem ErrType.lt {w : World} (h : ErrType w) : 0 < w.heap.size := by
 unfold ErrType at h
 rcases Nat.lt_or_ge 0 w.heap.size with h1 | h1
 ·exact h1
 ·simp [World.cell?, Array.getElem?_eq_none h1] at h
theorem ErrType.alloc {w : World} (h : ErrType w) (o : Obj) : ErrType (w.alloc o) := by
 unfold ErrType
 rw [World.cell?_alloc_lt _ _ ⟨0, 0, none⟩ h.lt]
 exact h
theorem ErrType.below {w w' : World} {B : Nat} (h : ErrType w) (hb : Below B w w') (hB : 0 < B) : ErrType w' := (hb.cell (p := ⟨0, 0, none⟩) hB).trans h
set_option maxHeartbeats 1000000 in
theorem off_nil (w : World) : Calls Tryz.prog 19 #[.nilIface] w fun e w' => e = .returned (.int .i64 (-1)) ∧ Below w.heap.size w w' := by
 go_enter Tryz.func19, Tryz.ntmps19
 go_wp2
 go_ret
 exact ⟨rfl, (Below.refl _ _).alloc (Nat.le_refl _) _⟩
set_option maxHeartbeats 2000000 in
theorem off_at (o k : Int) (w : World) (hg : ErrType w) : Calls Tryz.prog 19 #[errAt o k] w fun e w' => e = .returned (.int .i64 o) ∧ Below w.heap.size w w' := by
 have hg1 := Lib.hid (hg.alloc (.cells #[.int .i64 0, .nilIface] 55))
 clear hg
 unfold errAt errno
 go_enter Tryz.func19, Tryz.ntmps19
 go_wp2_with (go_at_call 26; refine (as_hit o k w.heap.size (.int .i64 0) .nilIface _ hg1.out (by simp) (by simp) (by simp) (by simp)).mono ?_; rintro e w1 ⟨rfl, rfl⟩)
 go_ret
 refine ⟨rfl, ?_⟩
 go_light
 exact (((((Below.refl _ _).alloc (Nat.le_refl _) _).alloc (by simp) _).alloc (by simp; omega) _).alloc (by simp; omega) _).alloc (by simp; omega) _
end Go.Proofs.YtgkhjeefcflmcaaGreatDoor
namespace Go.Proofs.YtgkhjeefcflmcaaGreatDoor
open Go.RowKit
theorem bytes_app (a b : List UInt8) : (⟨a.toArray⟩ : ByteArray) ++ ⟨b.toArray⟩ = ⟨(a ++ b).toArray⟩ := by
 apply ByteArray.ext
 simp [ByteArray.data_append]
end Go.Proofs.YtgkhjeefcflmcaaGreatDoor
namespace Go.Proofs.YtgkhjeefcflmcaaGreatDoor
open Go.RowKit
def dig (B n i : Nat) : Nat := n / B ^ i % B
theorem dig_lt {B : Nat} (hB : 0 < B) (n i : Nat) : dig B n i < B := Nat.mod_lt _ hB
theorem dig_zero (B i : Nat) : dig B 0 i = 0 := by simp [dig]
theorem dig_high {B n i : Nat} (h : n < B ^ i) : dig B n i = 0 := by simp [dig, Nat.div_eq_of_lt h]
theorem mod_succ (B n i : Nat) : n % B ^ (i + 1) = n % B ^ i + B ^ i * dig B n i := Nat.mod_pow_succ
theorem div_succ (B n i : Nat) : n / B ^ (i + 1) = n / B ^ i / B := by rw [Nat.pow_succ, Nat.div_div_eq_div_mul]
theorem div_dig (B n i : Nat) : n / B ^ i = B * (n / B ^ (i + 1)) + dig B n i := by rw [div_succ]; exact (Nat.div_add_mod _ _).symm
theorem dig_mod {B i j n : Nat} (h : i < j) : dig B (n % B ^ j) i = dig B n i := by
 unfold dig
 rw [show j = i + (j - i) by omega, Nat.pow_add, Nat.mod_mul_right_div_self, show j - i = (j - i - 1) + 1 by omega, Nat.pow_succ]
 exact Nat.mod_mul_left_mod _ _ _
theorem dig_div {B n i j : Nat} : dig B (n / B ^ j) i = dig B n (i + j) := by
 unfold dig
 rw [Nat.div_div_eq_div_mul, ← Nat.pow_add, Nat.add_comm j i]
theorem mod_of_digs {B a b k : Nat} (h : ∀ i, i < k → dig B a i = dig B b i) : a % B ^ k = b % B ^ k := by
 induction k with
 | zero => simp [Nat.mod_one]
 | succ k ih => rw [mod_succ, mod_succ, ih fun i hi => h i (by omega), h k (by omega)]
theorem eq_of_digs {B a b k : Nat} (ha : a < B ^ k) (hb : b < B ^ k) (h : ∀ i, i < k → dig B a i = dig B b i) : a = b := by
 have := mod_of_digs h
 rwa [Nat.mod_eq_of_lt ha, Nat.mod_eq_of_lt hb] at this
def car (B α a β b γ i : Nat) : Nat := (α * (a % B ^ i) + β * (b % B ^ i) + γ) / B ^ i
theorem car_zero (B α a β b γ : Nat) : car B α a β b γ 0 = γ := by simp [car, Nat.mod_one]
theorem car_top (B α β γ i : Nat) {a b : Nat} (ha : a < B ^ i) (hb : b < B ^ i) : car B α a β b γ i = (α * a + β * b + γ) / B ^ i := by
 unfold car
 rw [Nat.mod_eq_of_lt ha, Nat.mod_eq_of_lt hb]
theorem lin_step {B : Nat} (hB : 0 < B) (α a β b γ i : Nat) :
  α * dig B a i + β * dig B b i + car B α a β b γ i = dig B (α * a + β * b + γ) i + B * car B α a β b γ (i + 1) := by
 have hP : 0 < B ^ i := Nat.pow_pos hB
 have e1 : α * (a % B ^ (i + 1)) + β * (b % B ^ (i + 1)) + γ = (α * (a % B ^ i) + β * (b % B ^ i) + γ) + B ^ i * (α * dig B a i + β * dig B b i) := by
  rw [mod_succ, mod_succ, Nat.mul_add, Nat.mul_add, Nat.mul_add, Nat.mul_left_comm α, Nat.mul_left_comm β]
  omega
 have e2 : (α * (a % B ^ (i + 1)) + β * (b % B ^ (i + 1)) + γ) / B ^ i = α * dig B a i + β * dig B b i + car B α a β b γ i := by
  rw [e1, Nat.add_mul_div_left _ _ hP, Nat.add_comm]
  rfl
 have e3 : car B α a β b γ (i + 1) = (α * dig B a i + β * dig B b i + car B α a β b γ i) / B := by
  rw [← e2, car, div_succ]
 have e4 : dig B (α * a + β * b + γ) i = (α * dig B a i + β * dig B b i + car B α a β b γ i) % B := by
  rw [← e2]
  unfold dig
  have ea := Nat.div_add_mod a (B ^ (i + 1))
  have eb := Nat.div_add_mod b (B ^ (i + 1))
  have e5 : α * a + β * b + γ = (α * (a % B ^ (i + 1)) + β * (b % B ^ (i + 1)) + γ) + B ^ i * (B * (α * (a / B ^ (i + 1)) + β * (b / B ^ (i + 1)))) := by
   conv => lhs; rw [← ea, ← eb]
   rw [← Nat.mul_assoc, ← Nat.pow_succ, Nat.succ_eq_add_one, Nat.mul_add, Nat.mul_add, Nat.mul_add, Nat.mul_left_comm α, Nat.mul_left_comm β]
   omega
  rw [e5, Nat.add_mul_div_left _ _ hP, Nat.add_mul_mod_self_left]
 rw [e3, e4]
 exact (Nat.mod_add_div _ _).symm
theorem lin_mod {B : Nat} (hB : 0 < B) (α a β b γ i : Nat) : (α * dig B a i + β * dig B b i + car B α a β b γ i) % B = dig B (α * a + β * b + γ) i := by
 rw [lin_step hB, Nat.add_mul_mod_self_left, Nat.mod_eq_of_lt (dig_lt hB _ _)]
theorem lin_div {B : Nat} (hB : 0 < B) (α a β b γ i : Nat) : (α * dig B a i + β * dig B b i + car B α a β b γ i) / B = car B α a β b γ (i + 1) := by
 rw [lin_step hB, Nat.add_mul_div_left _ _ hB, Nat.div_eq_of_lt (dig_lt hB _ _), Nat.zero_add]
theorem car_lt {B : Nat} (hB : 0 < B) (α a β b γ i : Nat) {c : Nat} (h : α + β ≤ c) (hc : γ < c) : car B α a β b γ i < c := by
 have hP : 0 < B ^ i := Nat.pow_pos hB
 have ha := Nat.mod_lt a hP
 have hb := Nat.mod_lt b hP
 have h1 : α * (a % B ^ i) ≤ α * (B ^ i - 1) := Nat.mul_le_mul_left _ (by omega)
 have h2 : β * (b % B ^ i) ≤ β * (B ^ i - 1) := Nat.mul_le_mul_left _ (by omega)
 have h3 : (α + β) * (B ^ i - 1) ≤ c * (B ^ i - 1) := Nat.mul_le_mul_right _ h
 have h4 : c * B ^ i = c * (B ^ i - 1) + c := by rw [← Nat.mul_succ]; congr 1; omega
 rw [Nat.add_mul] at h3
 exact (Nat.div_lt_iff_lt_mul hP).2 (by omega)
def brw (B a b i : Nat) : Nat := if a % B ^ i < b % B ^ i then 1 else 0
theorem brw_zero (B a b : Nat) : brw B a b 0 = 0 := by simp [brw, Nat.mod_one]
theorem brw_le (B a b i : Nat) : brw B a b i ≤ 1 := by unfold brw; split <;> omega
theorem brw_top (B i : Nat) {a b : Nat} (ha : a < B ^ i) (hb : b < B ^ i) : brw B a b i = if a < b then 1 else 0 := by
 unfold brw
 rw [Nat.mod_eq_of_lt ha, Nat.mod_eq_of_lt hb]
theorem sub_mod {B m a b q k i : Nat} (hB : 0 < B) (h : m + b = a + q * B ^ k) (hi : i ≤ k) : m % B ^ i + b % B ^ i = a % B ^ i + B ^ i * brw B a b i := by
 have hP : 0 < B ^ i := Nat.pow_pos hB
 have hm := Nat.mod_lt m hP
 have hb := Nat.mod_lt b hP
 have ha := Nat.mod_lt a hP
 have e : (m % B ^ i + b % B ^ i) % B ^ i = a % B ^ i := by
  rw [← Nat.add_mod, h, show k = i + (k - i) by omega, Nat.pow_add, Nat.mul_left_comm, Nat.add_mul_mod_self_left]
 unfold brw
 generalize m % B ^ i = x at *
 generalize b % B ^ i = y at *
 generalize a % B ^ i = z at *
 generalize B ^ i = P at *
 by_cases hs : x + y < P
 ·rw [Nat.mod_eq_of_lt hs] at e
  rw [if_neg (by omega)]
  omega
 ·have e2 := Nat.mod_eq_sub_mod (show P ≤ x + y by omega)
  rw [e2, Nat.mod_eq_of_lt (show x + y - P < P by omega)] at e
  rw [if_pos (by omega)]
  omega
theorem sub_step {B m a b q k i : Nat} (hB : 0 < B) (h : m + b = a + q * B ^ k) (hi : i < k) :
  dig B m i + dig B b i + brw B a b i = dig B a i + B * brw B a b (i + 1) := by
 have hP : 0 < B ^ i := Nat.pow_pos hB
 have e1 := sub_mod hB h (Nat.le_of_lt hi)
 have e2 := sub_mod (i := i + 1) hB h hi
 rw [mod_succ, mod_succ, mod_succ, Nat.pow_succ, Nat.mul_assoc] at e2
 apply Nat.eq_of_mul_eq_mul_left hP
 rw [Nat.mul_add, Nat.mul_add, Nat.mul_add]
 omega
theorem div_eq_step {B a b i : Nat} (h : a / B ^ (i + 1) = b / B ^ (i + 1)) (hd : dig B a i = dig B b i) : a / B ^ i = b / B ^ i := by
 rw [div_dig, div_dig B b, h, hd]
theorem lt_of_dig {B a b i : Nat} (hB : 0 < B) (h : a / B ^ (i + 1) = b / B ^ (i + 1)) (hd : dig B a i < dig B b i) : a < b := by
 have e : a / B ^ i < b / B ^ i := by rw [div_dig, div_dig B b, h]; omega
 have h1 := Nat.div_add_mod a (B ^ i)
 have h2 := Nat.div_add_mod b (B ^ i)
 have h3 := Nat.mod_lt a (Nat.pow_pos hB : 0 < B ^ i)
 have h4 : B ^ i * (a / B ^ i + 1) ≤ B ^ i * (b / B ^ i) := Nat.mul_le_mul_left _ e
 rw [Nat.mul_succ] at h4
 generalize B ^ i * (a / B ^ i) = x at *
 generalize B ^ i * (b / B ^ i) = y at *
 generalize a % B ^ i = u at *
 generalize b % B ^ i = v at *
 omega
def nlen (B n : Nat) : Nat := if h : 2 ≤ B ∧ n ≠ 0 then nlen B (n / B) + 1 else 0
termination_by n
decreasing_by exact Nat.div_lt_self (Nat.pos_of_ne_zero h.2) h.1
theorem nlen_zero (B : Nat) : nlen B 0 = 0 := by unfold nlen; simp
theorem nlen_pos {B n : Nat} (hB : 2 ≤ B) (h : n ≠ 0) : nlen B n = nlen B (n / B) + 1 := by
 rw [nlen]
 simp [hB, h]
theorem lt_nlen {B : Nat} (hB : 2 ≤ B) (n : Nat) : n < B ^ nlen B n := by
 induction n using Nat.strongRecOn with
 | _ n ih =>
  by_cases h : n = 0
  ·subst h; rw [nlen_zero]; simp
  ·rw [nlen_pos hB h, Nat.pow_succ]
   have := ih (n / B) (Nat.div_lt_self (Nat.pos_of_ne_zero h) hB)
   exact (Nat.div_lt_iff_lt_mul (by omega)).1 this
theorem nlen_le {B : Nat} (hB : 2 ≤ B) (n : Nat) (h : n ≠ 0) : B ^ (nlen B n - 1) ≤ n := by
 induction n using Nat.strongRecOn with
 | _ n ih =>
  rw [nlen_pos hB h, Nat.add_sub_cancel]
  by_cases h0 : n / B = 0
  ·rw [h0, nlen_zero]; simp; omega
  ·have h1 := ih (n / B) (Nat.div_lt_self (Nat.pos_of_ne_zero h) hB) h0
   have h2 : nlen B (n / B) = nlen B (n / B) - 1 + 1 := by rw [nlen_pos hB h0]; omega
   rw [h2, Nat.pow_succ]
   exact (Nat.le_div_iff_mul_le (by omega)).1 h1
theorem nlen_uniq {B n k : Nat} (hB : 2 ≤ B) (h : n < B ^ k) (h2 : k ≠ 0 → B ^ (k - 1) ≤ n) : nlen B n = k := by
 by_cases hn : n = 0
 ·subst hn
  rw [nlen_zero]
  by_cases hk : k = 0
  ·exact hk.symm
  ·have := h2 hk
   have := Nat.pow_pos (n := k - 1) (show 0 < B by omega)
   omega
 ·have a1 := lt_nlen hB n
  have a2 := nlen_le hB n hn
  have k0 : k ≠ 0 := fun e => by subst e; simp at h; omega
  have b2 := h2 k0
  have p1 : nlen B n - 1 < k := (Nat.pow_lt_pow_iff_right (by omega)).1 (Nat.lt_of_le_of_lt a2 h)
  have p2 : k - 1 < nlen B n := (Nat.pow_lt_pow_iff_right (by omega)).1 (Nat.lt_of_le_of_lt b2 a1)
  omega
theorem nlen_le_of_lt {B n k : Nat} (hB : 2 ≤ B) (h : n < B ^ k) : nlen B n ≤ k := by
 by_cases hn : n = 0
 ·subst hn; rw [nlen_zero]; omega
 ·have := (Nat.pow_lt_pow_iff_right (by omega)).1 (Nat.lt_of_le_of_lt (nlen_le hB n hn) h)
  omega
theorem nlen_eq_zero {B n : Nat} (hB : 2 ≤ B) : nlen B n = 0 ↔ n = 0 := by
 constructor
 ·intro h
  by_cases hn : n = 0
  ·exact hn
  ·rw [nlen_pos hB hn] at h; omega
 ·intro h; subst h; exact nlen_zero B
theorem dig_top {B n : Nat} (hB : 2 ≤ B) (h : n ≠ 0) : dig B n (nlen B n - 1) = n / B ^ (nlen B n - 1) ∧ 0 < n / B ^ (nlen B n - 1) := by
 have h1 := lt_nlen hB n
 have h2 := nlen_le hB n h
 have h3 : nlen B n = nlen B n - 1 + 1 := by rw [nlen_pos hB h]; omega
 have hP : 0 < B ^ (nlen B n - 1) := Nat.pow_pos (by omega)
 constructor
 ·unfold dig
  rw [h3, Nat.pow_succ] at h1
  exact Nat.mod_eq_of_lt ((Nat.div_lt_iff_lt_mul hP).2 (by rw [Nat.mul_comm]; exact h1))
 ·exact Nat.div_pos h2 hP
theorem long_step {B A D i : Nat} (hB : 0 < B) (hD : 0 < D) :
  dig B (A / D) i = (A / B ^ (i + 1) % D * B + dig B A i) / D ∧ A / B ^ i % D = (A / B ^ (i + 1) % D * B + dig B A i) % D ∧ A / B ^ (i + 1) % D * B + dig B A i < D * B := by
 have e := div_dig B A i
 have h := Nat.div_add_mod (A / B ^ (i + 1)) D
 have hr := Nat.mod_lt (A / B ^ (i + 1)) hD
 have hd := dig_lt hB A i
 obtain ⟨x, hx⟩ : ∃ x, A / B ^ (i + 1) / D = x := ⟨_, rfl⟩
 obtain ⟨r, hr0⟩ : ∃ r, A / B ^ (i + 1) % D = r := ⟨_, rfl⟩
 obtain ⟨d, hd0⟩ : ∃ d, dig B A i = d := ⟨_, rfl⟩
 rw [hx, hr0] at h
 rw [hr0] at hr
 rw [hd0] at hd e
 rw [hr0, hd0]
 have hlt : r * B + d < D * B := by
  have : (r + 1) * B ≤ D * B := Nat.mul_le_mul_right _ hr
  rw [Nat.succ_mul] at this
  omega
 have e2 : A / B ^ i = D * (B * x) + (r * B + d) := by
  rw [e, ← h, Nat.mul_add, Nat.mul_left_comm, Nat.mul_comm B r]
  omega
 refine ⟨?_, ?_, hlt⟩
 ·unfold dig
  rw [Nat.div_div_eq_div_mul, Nat.mul_comm D, ← Nat.div_div_eq_div_mul, e2, Nat.mul_add_div hD, Nat.mul_add_mod]
  exact Nat.mod_eq_of_lt ((Nat.div_lt_iff_lt_mul hD).2 (by rw [Nat.mul_comm B D]; exact hlt))
 ·rw [e2, Nat.mul_add_mod]
theorem guess_ge {P d D R h q : Nat} (hd : 0 < d) (hD : d * P ≤ D) (hR : R < (h + 1) * P) (hq : q * D ≤ R) : q ≤ h / d := by
 apply (Nat.le_div_iff_mul_le hd).2
 have h1 : q * (d * P) ≤ q * D := Nat.mul_le_mul_left _ hD
 have h2 : q * d * P < (h + 1) * P := by rw [Nat.mul_assoc]; omega
 have := Nat.lt_of_mul_lt_mul_right h2
 omega
theorem half_exact {q r y1 y0 u1 u0 : Nat} (hq : q * y1 + r = u1) (hge : (u1 * 4294967296 + u0) / (y1 * 4294967296 + y0) ≤ q) (h : q * y0 ≤ 4294967296 * r + u0) (hy : 0 < y1) :
  q = (u1 * 4294967296 + u0) / (y1 * 4294967296 + y0) := by
 apply Nat.le_antisymm _ hge
 apply (Nat.le_div_iff_mul_le (by omega)).2
 have e : q * (y1 * 4294967296 + y0) = q * y1 * 4294967296 + q * y0 := by rw [Nat.mul_add, Nat.mul_assoc]
 rw [e]
 generalize q * y1 = a at *
 generalize q * y0 = b at *
 omega
theorem half_less {q r y1 y0 u1 u0 : Nat} (hq : q * y1 + r = u1) (hge : (u1 * 4294967296 + u0) / (y1 * 4294967296 + y0) ≤ q) (h : 4294967296 * r + u0 < q * y0) (hy : 0 < y1) :
  (u1 * 4294967296 + u0) / (y1 * 4294967296 + y0) ≤ q - 1 ∧ 0 < q := by
 have hp : 0 < q := by
  rcases Nat.eq_zero_or_pos q with h0 | h0
  ·subst h0; simp at h
  ·exact h0
 refine ⟨?_, hp⟩
 apply Nat.le_of_lt_succ
 rw [show (q - 1).succ = q by omega]
 apply (Nat.div_lt_iff_lt_mul (by omega)).2
 have e : q * (y1 * 4294967296 + y0) = q * y1 * 4294967296 + q * y0 := by rw [Nat.mul_add, Nat.mul_assoc]
 rw [e]
 generalize q * y1 = a at *
 generalize q * y0 = b at *
 omega
theorem or_add {a b s : Nat} (h : b < 2 ^ s) : (a * 2 ^ s) ||| b = a * 2 ^ s + b := by
 rw [← Nat.shiftLeft_eq, ← Nat.shiftLeft_add_eq_or_of_lt h]
theorem shl_mod {x s t : Nat} : x * 2 ^ s % 2 ^ (s + t) = x % 2 ^ t * 2 ^ s := by
 rw [Nat.pow_add, Nat.mul_comm x, Nat.mul_mod_mul_left, Nat.mul_comm]
theorem dig_shl_pq {p q m i : Nat} (hp : 0 < p) (hq : 0 < q) : dig (p * q) (m * p) (i + 1) = dig (p * q) m (i + 1) % q * p + dig (p * q) m i / q := by
 have hB : 0 < p * q := Nat.mul_pos hp hq
 have h1 := lin_mod hB p m 0 0 0 (i + 1)
 simp only [Nat.zero_mul, Nat.add_zero] at h1
 rw [Nat.mul_comm m, ← h1]
 have e1 : car (p * q) p m 0 0 0 (i + 1) = dig (p * q) m i / q := by
  unfold car
  simp only [Nat.zero_mul, Nat.add_zero]
  rw [mod_succ]
  have hP : 0 < (p * q) ^ i := Nat.pow_pos hB
  have e2 : (p * q) ^ (i + 1) = p * ((p * q) ^ i * q) := by rw [Nat.pow_succ, Nat.mul_left_comm]
  rw [e2, Nat.mul_div_mul_left _ _ hp, ← Nat.div_div_eq_div_mul, Nat.add_mul_div_left _ _ hP, Nat.div_eq_of_lt (Nat.mod_lt _ hP), Nat.zero_add]
 rw [e1]
 have hlt : dig (p * q) m i / q < p := (Nat.div_lt_iff_lt_mul hq).2 (dig_lt hB _ _)
 have e0 : p * dig (p * q) m (i + 1) % (p * q) = p * (dig (p * q) m (i + 1) % q) := Nat.mul_mod_mul_left _ _ _
 have hx : p * (dig (p * q) m (i + 1) % q) + dig (p * q) m i / q < p * q := by
  have : dig (p * q) m (i + 1) % q < q := Nat.mod_lt _ hq
  have h3 : p * (dig (p * q) m (i + 1) % q + 1) ≤ p * q := Nat.mul_le_mul_left _ this
  rw [Nat.mul_succ] at h3
  omega
 rw [Nat.add_mod, e0, Nat.mod_eq_of_lt (show dig (p * q) m i / q < p * q from Nat.lt_of_le_of_lt (Nat.div_le_self _ _) (dig_lt hB _ _)), Nat.mod_eq_of_lt hx, Nat.mul_comm p]
theorem dig_shr_pq {p q m i : Nat} (hp : 0 < p) (hq : 0 < q) : dig (p * q) (m / p) i = dig (p * q) m (i + 1) % p * q + dig (p * q) m i / p := by
 have hB : 0 < p * q := Nat.mul_pos hp hq
 have e2 : m / p / (p * q) ^ i = q * (m / (p * q) ^ (i + 1)) + dig (p * q) m i / p := by
  rw [Nat.div_div_eq_div_mul, Nat.mul_comm p, ← Nat.div_div_eq_div_mul, div_dig, Nat.mul_assoc, Nat.mul_add_div hp]
 have hlt : dig (p * q) m i / p < q := (Nat.div_lt_iff_lt_mul hp).2 (by rw [Nat.mul_comm q]; exact dig_lt hB _ _)
 have e3 : q * (m / (p * q) ^ (i + 1)) % (p * q) = q * (dig (p * q) m (i + 1) % p) := by
  rw [Nat.mul_comm p q, Nat.mul_mod_mul_left]
  unfold dig
  rw [Nat.mod_mod_of_dvd _ (Nat.dvd_mul_left p q)]
 have hx : q * (dig (p * q) m (i + 1) % p) + dig (p * q) m i / p < p * q := by
  have : dig (p * q) m (i + 1) % p < p := Nat.mod_lt _ hp
  have h3 : q * (dig (p * q) m (i + 1) % p + 1) ≤ q * p := Nat.mul_le_mul_left _ this
  rw [Nat.mul_succ, Nat.mul_comm q p] at h3
  omega
 have e4 : dig (p * q) (m / p) i = (q * (m / (p * q) ^ (i + 1)) + dig (p * q) m i / p) % (p * q) := by rw [← e2]; rfl
 rw [e4, Nat.add_mod, e3, Nat.mod_eq_of_lt (show dig (p * q) m i / p < p * q from Nat.lt_of_le_of_lt (Nat.div_le_self _ _) (dig_lt hB _ _)), Nat.mod_eq_of_lt hx, Nat.mul_comm q]
theorem dig_shl {m i s t : Nat} : dig (2 ^ (s + t)) (m * 2 ^ s) (i + 1) = (dig (2 ^ (s + t)) m (i + 1) * 2 ^ s % 2 ^ (s + t)) ||| (dig (2 ^ (s + t)) m i / 2 ^ t) := by
 have hp : 0 < 2 ^ s := Nat.pow_pos (by decide)
 have hq : 0 < 2 ^ t := Nat.pow_pos (by decide)
 have := dig_shl_pq (m := m) (i := i) hp hq
 rw [← Nat.pow_add] at this
 rw [this, shl_mod, or_add]
 exact (Nat.div_lt_iff_lt_mul hq).2 (by rw [← Nat.pow_add]; exact dig_lt (Nat.pow_pos (by decide)) _ _)
theorem dig_shl0 {m s t : Nat} : dig (2 ^ (s + t)) (m * 2 ^ s) 0 = dig (2 ^ (s + t)) m 0 * 2 ^ s % 2 ^ (s + t) := by
 simp [dig, Nat.mul_mod]
theorem dig_shr {m i s t : Nat} : dig (2 ^ (s + t)) (m / 2 ^ s) i = (dig (2 ^ (s + t)) m i / 2 ^ s) ||| (dig (2 ^ (s + t)) m (i + 1) * 2 ^ t % 2 ^ (s + t)) := by
 have hp : 0 < 2 ^ s := Nat.pow_pos (by decide)
 have hq : 0 < 2 ^ t := Nat.pow_pos (by decide)
 have := dig_shr_pq (m := m) (i := i) hp hq
 rw [← Nat.pow_add] at this
 have e := shl_mod (x := dig (2 ^ (s + t)) m (i + 1)) (s := t) (t := s)
 rw [Nat.add_comm t s] at e
 rw [this, e, Nat.or_comm, or_add]
 exact (Nat.div_lt_iff_lt_mul hp).2 (by rw [← Nat.pow_add, Nat.add_comm t s]; exact dig_lt (Nat.pow_pos (by decide)) _ _)
end Go.Proofs.YtgkhjeefcflmcaaGreatDoor
