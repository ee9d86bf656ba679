/-
  errors.As at a target of type *api.Errno where the error is an api.Errno, or nil; and scan's errno.
-/
import Derived.Test.YtgkhjeefcflmcaaGreatDoorMt01
import Derived.Test.YtgkhjeefcflmcaaGreatDoorMt33
import Derived.Deep.QuietTactic
import Derived.BigQuiet
import Derived.StillTailTactics
import Derived.Shelf.Bytes.SlTrim
import Derived.Test.YtgkhjeefcflmcaaGreatDoorProg
import Derived.Test.YtgkhjeefcflmcaaGreatDoorMt02
import Derived.Shelf.Strings.Builder1
import Derived.Shelf.Strings.Builder2
import Derived.Shelf.Small.Utf8
import Derived.Shelf.Small.Bits
import Derived.Shelf.Small.Strs
import Derived.Shelf.Strings.BuilderF
import Derived.Shelf.Strings.BuilderK
import Derived.Shelf.Utf8.RuneCount
import Derived.Shelf.Strings.Builder2Cap
import Derived.Shelf.Strconv.Atoi
import Derived.Shelf.Strconv.Itoa0
import Derived.Shelf.Strconv.Itoa1
import Derived.Shelf.LaysM
import Derived.Shelf.Strconv.Itoa2
import Derived.Shelf.Strconv.Itoa3
import Derived.Shelf.Strconv.AtoiErrFast
import Derived.Shelf.Strconv.ParseIntEmpty
import Derived.Shelf.Strconv.AtoiFail
import Derived.Shelf.Strconv.Clone
import Derived.Shelf.Strconv.SyntaxError
import Derived.Shelf.LaysC
import Derived.Shelf.Strconv.ToError
import Derived.Shelf.Strconv.Lower
import Derived.Shelf.Strconv.ParseUint10
import Derived.Shelf.Strconv.ParseUint10Empty
import Derived.Shelf.Strconv.ParseUint10Any
import Derived.Shelf.Strconv.ParseInt10
import Derived.Shelf.Strconv.AtoiLong
import Derived.Shelf.Strconv.AtoiInnerAll
import Derived.Shelf.Strconv.RangeError
import Derived.Shelf.Strconv.ToErrorRange
import Derived.Shelf.Strconv.AtoiAll
import Derived.Shelf.Strconv.ErrVarAll
import Derived.Shelf.Strconv.ParseUintEmpty
import Derived.Shelf.Strconv.ParseUint10b64
import Derived.Shelf.Strconv.ParseUint10b32
import Derived.Shelf.Strconv.ParseUint10b16
import Derived.Shelf.Strconv.ParseUint10b8
import Derived.Shelf.Strconv.ParseUint10At
import Derived.Shelf.Strconv.ParseInt10At64
import Derived.Shelf.Strconv.ParseInt10At32
import Derived.Shelf.Strconv.ParseInt10At16
import Derived.Shelf.Strconv.ParseInt10At8
import Derived.Shelf.Strconv.ParseInt10All
import Derived.Shelf.Strings.Search1
import Derived.Shelf.Strings.Search2
import Derived.Shelf.Strings.Search3
import Derived.Shelf.Strings.Cut
import Derived.Shelf.Strings.Count
import Derived.Shelf.Strings.Shaped
import Derived.Shelf.Strings.Split
import Derived.Shelf.Strings.Replace
import Derived.Shelf.Strings.SplitShaped
import Derived.Shelf.Unicode.Decode
import Derived.Shelf.Strings.Runes
import Derived.Shelf.Strings.RuneCount
import Derived.Shelf.Strings.IndexAny
import Derived.Shelf.Strings.AsciiSet
import Derived.Shelf.Strings.IndexAnyAll
import Derived.Shelf.Bits.Mul64
import Derived.Shelf.Unicode.DecodeSlow
import Derived.Shelf.Unicode.DecodeAny
import Derived.Shelf.Strings.BuilderCap
import Derived.Shelf.Bytes.SlIndexSmall
import Derived.Shelf.Bytes.SlIndexAt
import Derived.Shelf.Bytes.SlSearch0
import Derived.Shelf.Bytes.SlSearch1
import Derived.Shelf.Bytes.SlSearch2
import Derived.Shelf.Bytes.SlIndexWhole
import Derived.Shelf.Bytes.SlSmallAll
import Derived.Shelf.Bytes.Small
import Derived.Shelf.Bytes.IndexByte
import Derived.Test.YtgkhjeefcflmcaaGreatDoorMt08
namespace Go.Proofs.YtgkhjeefcflmcaaGreatDoor
open Go.RowKit Go.Extern.Stop Go.Stop Go.Extern
set_option linter.unusedSimpArgs false
set_option linter.unusedVariables false
theorem enValueOfP (t : Addr) (w : World) : (ReflectliteValue.unpack (.iface 157 (.pointer (some t)))).run Tryz.prog w
  = .ok (.agg #[.pointer (some ⟨13, 157, none⟩), .pointer (some ⟨w.heap.size, 0, none⟩), .int .u64 150]) (w.alloc (.cells #[.pointer (some t)] 157)) := by kernel_rfl
theorem enTypeP (a : Addr) (w : World) : (ReflectliteValue.methodAny (ReflectliteValue.valueError "reflectlite.Value.Type" 0) (fun t _ _ _ => ReflectliteType.toType t) #[.agg #[.pointer (some ⟨13, 157, none⟩), .pointer (some a), .int .u64 150]]).run Tryz.prog w = .ok (.iface 103 (.agg #[.pointer (some ⟨13, 157, none⟩)])) w := by kernel_rfl
theorem enKindP (w : World) : ((ReflectliteType.abiMethod fun t => (fun a : Nat => Value.int IntKind.u8 (a : Int)) <$> Rtype.kind t) #[.pointer (some ⟨13, 157, none⟩)]).run Tryz.prog w = .ok (.int .u8 22) w := by kernel_rfl
theorem enKindS (w : World) : ((ReflectliteType.abiMethod fun t => (fun a : Nat => Value.int IntKind.u8 (a : Int)) <$> Rtype.kind t) #[.pointer (some ⟨13, 35, none⟩)]).run Tryz.prog w = .ok (.int .u8 2) w := by kernel_rfl
theorem enPartsP (a : Addr) (w : World) : (ReflectliteValue.parts (.agg #[.pointer (some ⟨13, 157, none⟩), .pointer (some a), .int .u64 150])).run Tryz.prog w = .ok (some (157, a, 150)) w := by kernel_rfl
theorem enIsNilP (a p : Addr) (W : World) (ha : W.cell? a = some (.pointer (some p))) :
  (ReflectliteValue.method (ReflectliteValue.valueError "reflectlite.Value.IsNil" 0) ReflectliteValue.isNil #[.agg #[.pointer (some ⟨13, 157, none⟩), .pointer (some a), .int .u64 150]]).run Tryz.prog W = .ok (.bool false) W := by
 rw [rlm]
 simp only [Sem.run_bind, enPartsP, Result.andThen]
 simp [ReflectliteValue.isNil, loadVar, isAgg, underlying, Tryz.underlying157, ha, Result.andThen]
theorem enElemP (w : World) : (ReflectliteType.method ReflectliteType.elem #[.agg #[.pointer (some ⟨13, 157, none⟩)]]).run Tryz.prog w = .ok (.iface 103 (.agg #[.pointer (some ⟨13, 35, none⟩)])) w := by kernel_rfl
theorem enImplementsS (w : World) : (ReflectliteType.relation "Implements" ReflectliteType.implements_ #[.agg #[.pointer (some ⟨13, 35, none⟩)], .iface 103 (.agg #[.pointer (some ⟨13, 25, none⟩)])]).run Tryz.prog w = .ok (.bool true) w := by kernel_rfl
theorem enTypeOfS (v : Value) (w : World) : (ReflectliteType.typeOf #[.iface 35 v]).run Tryz.prog w = .ok (.iface 103 (.agg #[.pointer (some ⟨13, 35, none⟩)])) w := by kernel_rfl
theorem enAssignableS (w : World) : (ReflectliteType.relation "AssignableTo" ReflectliteType.assignableTo #[.agg #[.pointer (some ⟨13, 35, none⟩)], .iface 103 (.agg #[.pointer (some ⟨13, 35, none⟩)])]).run Tryz.prog w = .ok (.bool true) w := by kernel_rfl
theorem enValueOfS (x : Int) (w : World) : (ReflectliteValue.unpack (.iface 35 (.int .i64 x))).run Tryz.prog w
  = .ok (.agg #[.pointer (some ⟨13, 35, none⟩), .pointer (some ⟨w.heap.size, 0, none⟩), .int .u64 130]) (w.alloc (.cells #[.int .i64 x] 35)) := by kernel_rfl
theorem enElemOfP (w : World) : (Rtype.elem? 157).run Tryz.prog w = .ok (some 35) w := by kernel_rfl
theorem enMkS (p : Addr) (w : World) : (ReflectliteValue.mk 35 p ReflectliteValue.flagAddr).run Tryz.prog w = .ok (.agg #[.pointer (some ⟨13, 35, none⟩), .pointer (some p), .int .u64 386]) w := by kernel_rfl
theorem enElemVP (a p : Addr) (W : World) (ha : W.cell? a = some (.pointer (some p))) :
  (ReflectliteValue.method (ReflectliteValue.valueError "reflectlite.Value.Elem" 0) ReflectliteValue.elem #[.agg #[.pointer (some ⟨13, 157, none⟩), .pointer (some a), .int .u64 150]]).run Tryz.prog W
   = .ok (.agg #[.pointer (some ⟨13, 35, none⟩), .pointer (some p), .int .u64 386]) W := by
 rw [rlm]
 simp only [Sem.run_bind, enPartsP, Result.andThen]
 simp [ReflectliteValue.elem, loadVar, isAgg, underlying, Tryz.underlying157, ha, Result.andThen, enElemOfP, enMkS]
theorem enPartsSa (a : Addr) (w : World) : (ReflectliteValue.parts (.agg #[.pointer (some ⟨13, 35, none⟩), .pointer (some a), .int .u64 386])).run Tryz.prog w = .ok (some (35, a, 386)) w := by kernel_rfl
theorem enPartsS (a : Addr) (w : World) : (ReflectliteValue.parts (.agg #[.pointer (some ⟨13, 35, none⟩), .pointer (some a), .int .u64 130])).run Tryz.prog w = .ok (some (35, a, 130)) w := by kernel_rfl
theorem enDirectS (w : World) : (Rtype.directlyAssignable 35 35).run Tryz.prog w = .ok true w := by kernel_rfl
theorem enSet (tb b : Nat) (x : Int) (u : Value) (W : World) (hb0 : W.cell? ⟨b, 0, none⟩ = some (.int .i64 x)) (ht0 : W.cell? ⟨tb, 0, none⟩ = some u) (hf0 : W.frozen? ⟨tb, 0, none⟩ = false) :
  (ReflectliteValue.set #[.agg #[.pointer (some ⟨13, 35, none⟩), .pointer (some ⟨tb, 0, none⟩), .int .u64 386], .agg #[.pointer (some ⟨13, 35, none⟩), .pointer (some ⟨b, 0, none⟩), .int .u64 130]]).run Tryz.prog W
   = .ok (.tuple #[]) (W.setCell ⟨tb, 0, none⟩ (.int .i64 x)) := by
 have s1 : (store ⟨tb, 0, none⟩ (.int .i64 x)).run Tryz.prog W = .ok () (W.setCell ⟨tb, 0, none⟩ (.int .i64 x)) := by
  rw [run_store Tryz.prog W ⟨tb, 0, none⟩ (.int .i64 x) _ rfl]; simp [ht0, hf0]
 have hs : (storeCells ⟨tb, 0, none⟩ [.int .i64 x]).run Tryz.prog W = .ok () (W.setCell ⟨tb, 0, none⟩ (.int .i64 x)) := by
  have a0 : (⟨tb, 0, none⟩ : Addr).add 0 = ⟨tb, 0, none⟩ := rfl
  simp only [storeCells, Sem.run_bind, a0, s1, Result.andThen, Sem.run_pure]
 obtain ⟨s1', s2, s3, s4, s5, hr⟩ := rls (.agg #[.pointer (some ⟨13, 35, none⟩), .pointer (some ⟨tb, 0, none⟩), .int .u64 386]) (.agg #[.pointer (some ⟨13, 35, none⟩), .pointer (some ⟨b, 0, none⟩), .int .u64 130])
 rw [hr]
 simp only [Sem.run_bind, enPartsSa, enPartsS, Result.andThen]
 simp [ReflectliteValue.flagAddr, loadVar, isAgg, underlying, Tryz.underlying35, Result.andThen, enDirectS, storeVar, Value.cells, hb0, hs]
set_option maxHeartbeats 4000000 in
theorem as_hitE (k : Int) (tb : Nat) (u : Value) (w : World) (hg : w.cell? ⟨0, 0, none⟩ = some (.iface 103 (.agg #[.pointer (some ⟨13, 25, none⟩)])))
  (ht0 : w.cell? ⟨tb, 0, none⟩ = some u) (hf0 : w.frozen? ⟨tb, 0, none⟩ = false) :
  Calls Tryz.prog 26 #[.iface 35 (.int .i64 k), .iface 157 (.pointer (some ⟨tb, 0, none⟩))] w fun ev w' => ev = .returned (.bool true) ∧
   w' = ((((w.alloc (.cells #[.pointer (some ⟨tb, 0, none⟩)] 157)).alloc (.cells #[.pointer (some ⟨13, 157, none⟩), .pointer (some ⟨w.heap.size, 0, none⟩), .int .u64 150] 74)).alloc (.cells #[.pointer (some ⟨13, 157, none⟩), .pointer (some ⟨w.heap.size, 0, none⟩), .int .u64 150] 74)).alloc (.cells #[.int .i64 k] 35)).setCell ⟨tb, 0, none⟩ (.int .i64 k) := by
 have r1 := asRun1
 have r2 := asRun2
 have r3 := asRun3
 have r4 := asRun4
 have r5 := asRun5
 have r6 := asRun6
 have r7 := asRun7
 have r8 := asRun8
 have r9 := asRun9
 have rT := runTypeOf
 have tO := enTypeOfS
 have mA := asMethodAssignableTo
 have aS := enAssignableS
 have f6 := enValueOfP
 have vS := enValueOfS
 have f7 := enTypeP
 have mK := asMethodKind
 have mE := asMethodElem
 have mI := asMethodImplements
 have k27 := enKindP
 have k25 := enKindS
 have e27 := enElemP
 have i25 := enImplementsS
 have hlt : 0 < w.heap.size := by
  rcases Nat.lt_or_ge 0 w.heap.size with h | h
  ·exact h
  ·simp [World.cell?, Array.getElem?_eq_none h] at hg
 have htl : tb < w.heap.size := by
  rcases Nat.lt_or_ge tb w.heap.size with h | h
  ·exact h
  ·simp [World.cell?, Array.getElem?_eq_none h] at ht0
 have n8 := enIsNilP ⟨w.heap.size, 0, none⟩ ⟨tb, 0, none⟩ ((w.alloc (.cells #[.pointer (some ⟨tb, 0, none⟩)] 157)).alloc (.cells #[.pointer (some ⟨13, 157, none⟩), .pointer (some ⟨w.heap.size, 0, none⟩), .int .u64 150] 74)) (by simp)
 have hg2 : ((w.alloc (.cells #[.pointer (some ⟨tb, 0, none⟩)] 157)).alloc (.cells #[.pointer (some ⟨13, 157, none⟩), .pointer (some ⟨w.heap.size, 0, none⟩), .int .u64 150] 74)).cell? ⟨0, 0, none⟩ = some (.iface 103 (.agg #[.pointer (some ⟨13, 25, none⟩)])) := by
  rw [World.cell?_alloc_lt _ _ ⟨0, 0, none⟩ (by simp <;> omega), World.cell?_alloc_lt _ _ ⟨0, 0, none⟩ hlt]; exact hg
 have el := enElemVP ⟨w.heap.size, 0, none⟩ ⟨tb, 0, none⟩ (((w.alloc (.cells #[.pointer (some ⟨tb, 0, none⟩)] 157)).alloc (.cells #[.pointer (some ⟨13, 157, none⟩), .pointer (some ⟨w.heap.size, 0, none⟩), .int .u64 150] 74)).alloc (.cells #[.pointer (some ⟨13, 157, none⟩), .pointer (some ⟨w.heap.size, 0, none⟩), .int .u64 150] 74)) (by rw [World.cell?_alloc_lt _ _ ⟨w.heap.size, 0, none⟩ (by simp <;> omega)]; simp)
 have old0 : ∀ j, ((((w.alloc (.cells #[.pointer (some ⟨tb, 0, none⟩)] 157)).alloc (.cells #[.pointer (some ⟨13, 157, none⟩), .pointer (some ⟨w.heap.size, 0, none⟩), .int .u64 150] 74)).alloc (.cells #[.pointer (some ⟨13, 157, none⟩), .pointer (some ⟨w.heap.size, 0, none⟩), .int .u64 150] 74)).alloc (.cells #[.int .i64 k] 35)).cell? ⟨tb, j, none⟩ = w.cell? ⟨tb, j, none⟩ := fun j => by
  rw [World.cell?_alloc_lt _ _ ⟨tb, j, none⟩ (by simp <;> omega), World.cell?_alloc_lt _ _ ⟨tb, j, none⟩ (by simp <;> omega), World.cell?_alloc_lt _ _ ⟨tb, j, none⟩ (by simp <;> omega), World.cell?_alloc_lt _ _ ⟨tb, j, none⟩ htl]
 have oldf : ∀ j, ((((w.alloc (.cells #[.pointer (some ⟨tb, 0, none⟩)] 157)).alloc (.cells #[.pointer (some ⟨13, 157, none⟩), .pointer (some ⟨w.heap.size, 0, none⟩), .int .u64 150] 74)).alloc (.cells #[.pointer (some ⟨13, 157, none⟩), .pointer (some ⟨w.heap.size, 0, none⟩), .int .u64 150] 74)).alloc (.cells #[.int .i64 k] 35)).frozen? ⟨tb, j, none⟩ = w.frozen? ⟨tb, j, none⟩ := fun j => by
  rw [World.frozen?_alloc_old _ _ ⟨tb, j, none⟩ (by simp <;> omega), World.frozen?_alloc_old _ _ ⟨tb, j, none⟩ (by simp <;> omega), World.frozen?_alloc_old _ _ ⟨tb, j, none⟩ (by simp <;> omega), World.frozen?_alloc_old _ _ ⟨tb, j, none⟩ (Nat.ne_of_lt htl)]
 have st := enSet tb (w.heap.size + 1 + 1 + 1) k u ((((w.alloc (.cells #[.pointer (some ⟨tb, 0, none⟩)] 157)).alloc (.cells #[.pointer (some ⟨13, 157, none⟩), .pointer (some ⟨w.heap.size, 0, none⟩), .int .u64 150] 74)).alloc (.cells #[.pointer (some ⟨13, 157, none⟩), .pointer (some ⟨w.heap.size, 0, none⟩), .int .u64 150] 74)).alloc (.cells #[.int .i64 k] 35))
  (by rw [World.cell?_alloc_at _ _ _ _ (by simp)]; rfl) (by rw [old0]; exact ht0) (by rw [oldf]; exact hf0)
 have H0 := Lib.hid old0
 have H1 := Lib.hid oldf
 clear old0 oldf
 go_enter Tryz.func26, Tryz.ntmps26
 go_wp2
 refine wp_loop_rounds 1 ?_
 rw [rounds_succ]
 go_wp2
 go_ret
 exact ⟨rfl, rfl⟩
set_option maxHeartbeats 4000000 in
theorem as_nilE (v : Value) (w : World) : Calls Tryz.prog 26 #[.nilIface, v] w fun ev w' => ev = .returned (.bool false) ∧ w' = w := by
 go_enter Tryz.func26, Tryz.ntmps26
 go_wp2_with fail
 go_ret
 exact ⟨rfl, rfl⟩
theorem as_hitB (k : Int) (tb : Nat) (u : Value) (w : World) (hg : ErrType w) (ht0 : w.cell? ⟨tb, 0, none⟩ = some u) (hf0 : w.frozen? ⟨tb, 0, none⟩ = false) :
  Calls Tryz.prog 26 #[.iface 35 (.int .i64 k), .iface 157 (.pointer (some ⟨tb, 0, none⟩))] w fun ev w' => ev = .returned (.bool true) ∧ (w'.cell? ⟨tb, 0, none⟩ = some (.int .i64 k) ∧ Below tb w w') := by
 have hlt : tb < w.heap.size := World.block_lt_of_cell? w _ ht0
 refine (as_hitE k tb u w hg ht0 hf0).mono ?_
 rintro e w' ⟨rfl, rfl⟩
 refine ⟨rfl, ?_, ?_⟩
 ·refine World.cell?_setCell_same' _ _ _ ?_
  have : ∀ (W : World) (o : Obj), tb < W.heap.size → (W.cell? ⟨tb, 0, none⟩).isSome = true → ((W.alloc o).cell? ⟨tb, 0, none⟩).isSome = true := fun W o h h2 => by rw [World.cell?_alloc_lt _ _ ⟨tb, 0, none⟩ h]; exact h2
  exact this _ _ (by simp; omega) (this _ _ (by simp; omega) (this _ _ (by simp; omega) (this _ _ hlt (by rw [ht0]; rfl))))
 ·exact (((((Below.refl tb w).alloc (by omega) _).alloc (by simp; omega) _).alloc (by simp; omega) _).alloc (by simp; omega) _).setCell (p := ⟨tb, 0, none⟩) (Nat.le_refl _) _
set_option maxRecDepth 100000 in
set_option maxHeartbeats 4000000 in
theorem errno_run (e : Nat) (w : World) (hg : ErrType w) : Calls Tryz.prog 72 #[errV e] w fun ev w' => ev = .returned (.int .i64 (e : Int)) ∧ Below w.heap.size w w' := by
 by_cases h0 : e = 0
 ·subst h0
  show Calls _ _ #[.nilIface] _ _
  have HA := Lib.hid (fun v V => as_nilE v V)
  go_enter Tryz.func72, Tryz.ntmps72
  go_wp2_with fail
  refine (HA.out _ _).mono ?_
  rintro ev w1 ⟨rfl, rfl⟩
  go_wp2_with fail
  go_ret
  exact ⟨rfl, (Below.refl _ _).alloc (Nat.le_refl _) _⟩
 ·have he : errV e = .iface 35 (.int .i64 (e : Int)) := by unfold errV; rw [if_neg h0]; rfl
  rw [he]
  have HA : Hid (Calls Tryz.prog 26 #[.iface 35 (.int .i64 (e : Int)), .iface 157 (.pointer (some ⟨w.heap.size, 0, none⟩))] (w.alloc (.cells #[.int .i64 0] 35)) fun ev w' => ev = .returned (.bool true) ∧ (w'.cell? ⟨w.heap.size, 0, none⟩ = some (.int .i64 (e : Int)) ∧ Below w.heap.size (w.alloc (.cells #[.int .i64 0] 35)) w')) :=
   as_hitB (e : Int) w.heap.size (.int .i64 0) _ (hg.alloc _) (World.cell?_alloc_at _ _ _ _ rfl) (World.frozen?_alloc_at _ _ _ _ rfl)
  clear he
  go_enter Tryz.func72, Tryz.ntmps72
  go_wp2_with fail
  refine HA.out.mono ?_
  rintro ev w1 ⟨rfl, hc, hw1⟩
  have HW := Lib.hid hw1
  clear hw1 HA
  go_wp2_with fail
  go_ret
  exact ⟨rfl, ((Below.refl _ w).alloc (Nat.le_refl _) _).trans HW.out⟩
end Go.Proofs.YtgkhjeefcflmcaaGreatDoor
namespace Go.Proofs.YtgkhjeefcflmcaaGreatDoor
open Go.RowKit Go.Sort
set_option linter.unusedSimpArgs false
set_option linter.unusedVariables false
structure CAt (w : World) (cb : Nat) (A : Option Addr) (n cap a : Nat) (t : Tk) (br : Bool) : Prop where
 c0 : w.cell? ⟨cb, 0, none⟩ = some (.slice A n cap)
 c1 : w.cell? ⟨cb, 1, none⟩ = some (.int .i64 (a : Int))
 c2 : w.cell? ⟨cb, 2, none⟩ = some (.int .i64 t.k)
 c3 : w.cell? ⟨cb, 3, none⟩ = some (.int .i64 t.f)
 c4 : w.cell? ⟨cb, 4, none⟩ = some (.int .i64 t.t)
 c5 : w.cell? ⟨cb, 5, none⟩ = some (.bool t.a)
 c6 : w.cell? ⟨cb, 6, none⟩ = some (.int .i64 t.e)
 c7 : w.cell? ⟨cb, 7, none⟩ = some (.bool br)
 f2 : w.frozen? ⟨cb, 2, none⟩ = false
 f3 : w.frozen? ⟨cb, 3, none⟩ = false
 f4 : w.frozen? ⟨cb, 4, none⟩ = false
 f5 : w.frozen? ⟨cb, 5, none⟩ = false
 f6 : w.frozen? ⟨cb, 6, none⟩ = false
 f7 : w.frozen? ⟨cb, 7, none⟩ = false
theorem CAt.keep {w w' : World} {cb B n cap a : Nat} {A : Option Addr} {t : Tk} {br : Bool} (h : CAt w cb A n cap a t br) (hb : Below B w w') (hB : cb < B) : CAt w' cb A n cap a t br :=
  ⟨(hb.cell (p := ⟨cb, 0, none⟩) hB).trans h.c0, (hb.cell (p := ⟨cb, 1, none⟩) hB).trans h.c1, (hb.cell (p := ⟨cb, 2, none⟩) hB).trans h.c2, (hb.cell (p := ⟨cb, 3, none⟩) hB).trans h.c3,
   (hb.cell (p := ⟨cb, 4, none⟩) hB).trans h.c4, (hb.cell (p := ⟨cb, 5, none⟩) hB).trans h.c5, (hb.cell (p := ⟨cb, 6, none⟩) hB).trans h.c6, (hb.cell (p := ⟨cb, 7, none⟩) hB).trans h.c7,
   (hb.frozen (p := ⟨cb, 2, none⟩) hB).trans h.f2, (hb.frozen (p := ⟨cb, 3, none⟩) hB).trans h.f3, (hb.frozen (p := ⟨cb, 4, none⟩) hB).trans h.f4, (hb.frozen (p := ⟨cb, 5, none⟩) hB).trans h.f5,
   (hb.frozen (p := ⟨cb, 6, none⟩) hB).trans h.f6, (hb.frozen (p := ⟨cb, 7, none⟩) hB).trans h.f7⟩
theorem CAt.lt {w : World} {cb n cap a : Nat} {A : Option Addr} {t : Tk} {br : Bool} (h : CAt w cb A n cap a t br) : cb < w.heap.size := World.block_lt_of_cell? w _ h.c0
theorem CAt.below {w w' : World} {cb n cap a : Nat} {A : Option Addr} {t : Tk} {br : Bool} (h : CAt w cb A n cap a t br) (hb : Below w.heap.size w w') : CAt w' cb A n cap a t br := h.keep hb h.lt
theorem CAt.new (w : World) (A : Option Addr) (n cap a : Nat) (T : TypeId) : CAt (w.alloc (.cells #[.slice A n cap, .int .i64 (a : Int), .int .i64 0, .int .i64 0, .int .i64 0, .bool false, .int .i64 0, .bool false] T)) w.heap.size A n cap a ⟨0, 0, 0, false, 0⟩ false := by
 constructor <;> first | exact World.cell?_alloc_at _ _ _ _ rfl | exact World.frozen?_alloc_at _ _ _ _ rfl
def piAt (p : Pc) (a : Nat) : Tk := ⟨p.k, a, (a + p.s : Nat), false, p.e⟩
def Left (V : World) (cb : Nat) (A : Option Addr) (n cap a : Nat) (t : Tk) (br : Bool) (V' : World) : Prop := CAt V' cb A n cap a t br ∧ Below cb V V'
set_option maxRecDepth 100000 in
set_option maxHeartbeats 8000000 in
theorem take_run (V : World) (cb : Nat) (A : Option Addr) (n cap a : Nat) (t : Tk) (br : Bool) (h : CAt V cb A n cap a t br) (k s e : Nat) (ha : a ≤ 1000) (hs : s ≤ 1000) :
  Calls Tryz.prog 66 #[.pointer (some ⟨cb, 0, none⟩), .int .i64 (k : Int), .int .i64 (s : Int), .int .i64 (e : Int)] V fun en V' => en = .returned (.tuple #[]) ∧ Left V cb A n cap a ⟨k, a, (a + s : Nat), false, e⟩ false V' := by
 have HC := Lib.hid h
 have hlim : a + s ≤ 2000 := by omega
 obtain ⟨c0, c1, c2, c3, c4, c5, c6, c7, f2, f3, f4, f5, f6, f7⟩ := h
 go_enter Tryz.func66, Tryz.ntmps66
 go_wp2_with fail
 go_still_tail 17, (by kernel_rfl)
 change wpList _ _ _ _ _ V.drew
 have HC2 := HC.out.below ((Below.refl _ V).drew)
 have HB2 : Hid (Below cb V V.drew) := (Below.refl cb V).drew
 clear c0 c1 c2 c3 c4 c5 c6 c7 f2 f3 f4 f5 f6 f7 HC
 generalize V.drew = w2 at *
 have HC3 := Lib.hid HC2
 obtain ⟨c0, c1, c2, c3, c4, c5, c6, c7, f2, f3, f4, f5, f6, f7⟩ := HC2
 go_wp2_with fail
 go_end0
 refine ⟨rfl, ?_, ?_⟩
 ·clear HC3
  constructor <;> go_simp
 ·exact (((((HB2.out.setCell (p := ⟨cb, 2, none⟩) (Nat.le_refl _) _).setCell (p := ⟨cb, 3, none⟩) (Nat.le_refl _) _).setCell (p := ⟨cb, 4, none⟩) (Nat.le_refl _) _).setCell (p := ⟨cb, 5, none⟩) (Nat.le_refl _) _).setCell (p := ⟨cb, 6, none⟩) (Nat.le_refl _) _).setCell (p := ⟨cb, 7, none⟩) (Nat.le_refl _) _
end Go.Proofs.YtgkhjeefcflmcaaGreatDoor
namespace Go.Proofs
open Go.Shelf
def Tryz.laysT8_ren : Go.Shelf.Ren := ⟨fun | 8 => 65 | 9 => 90 | 11 => 91 | 12 => 92 | 14 => 93 | 16 => 122 | 17 => 123 | 18 => 124 | 20 => 151 | n => n, fun | 22 => 22 | 9 => 9 | 3 => 3 | 4 => 4 | 5 => 5 | 28 => 151 | 27 => 150 | 0 => 0 | 31 => 154 | 33 => 182 | 21 => 21 | 36 => 241 | 37 => 173 | 40 => 244 | 39 => 243 | n => n, fun | 0 => 4 | 1 => 5 | n => n⟩
theorem Tryz.laysT8 : Go.Proofs.SlLaysV.n8 Tryz.prog Tryz.laysT8_ren := {
 mixed := by kernel_rfl
 f8 := Tryz.func65.trans (congrArg some (by kernel_rfl))
 f9 := Tryz.func90.trans (congrArg some (by kernel_rfl))
 f11 := Tryz.func91.trans (congrArg some (by kernel_rfl))
 f12 := Tryz.func92.trans (congrArg some (by kernel_rfl))
 f14 := Tryz.func93.trans (congrArg some (by kernel_rfl))
 f16 := Tryz.func122.trans (congrArg some (by kernel_rfl))
 f17 := Tryz.func123.trans (congrArg some (by kernel_rfl))
 f18 := Tryz.func124.trans (congrArg some (by kernel_rfl))
 f20 := Tryz.func151.trans (congrArg some (by kernel_rfl))
 t0 := Tryz.underlying0
 a0 := Tryz.isAgg0
 z0 := Tryz.sizeOf0
 v0 := Tryz.zeroValue0
 t3 := Tryz.underlying3
 a3 := Tryz.isAgg3
 z3 := Tryz.sizeOf3
 v3 := Tryz.zeroValue3
 t4 := Tryz.underlying4
 a4 := Tryz.isAgg4
 z4 := Tryz.sizeOf4
 v4 := Tryz.zeroValue4
 t5 := Tryz.underlying5
 a5 := Tryz.isAgg5
 z5 := Tryz.sizeOf5
 v5 := Tryz.zeroValue5
 t9 := Tryz.underlying9
 a9 := Tryz.isAgg9
 z9 := Tryz.sizeOf9
 v9 := Tryz.zeroValue9
 t21 := Tryz.underlying21
 a21 := Tryz.isAgg21
 z21 := Tryz.sizeOf21
 v21 := Tryz.zeroValue21
 t22 := Tryz.underlying22
 a22 := Tryz.isAgg22
 z22 := Tryz.sizeOf22
 v22 := Tryz.zeroValue22
 t27 := Tryz.underlying150
 a27 := Tryz.isAgg150
 z27 := Tryz.sizeOf150
 t28 := Tryz.underlying151
 a28 := Tryz.isAgg151
 z28 := Tryz.sizeOf151
 v28 := Tryz.zeroValue151
 t31 := Tryz.underlying154
 a31 := Tryz.isAgg154
 z31 := Tryz.sizeOf154
 v31 := Tryz.zeroValue154
 t33 := Tryz.underlying182
 a33 := Tryz.isAgg182
 z33 := Tryz.sizeOf182
 v33 := Tryz.zeroValue182
 t36 := Tryz.underlying241
 a36 := Tryz.isAgg241
 z36 := Tryz.sizeOf241
 t37 := Tryz.underlying173
 a37 := Tryz.isAgg173
 z37 := Tryz.sizeOf173
 v37 := Tryz.zeroValue173
 t39 := Tryz.underlying243
 a39 := Tryz.isAgg243
 z39 := Tryz.sizeOf243
 v39 := Tryz.zeroValue243
 t40 := Tryz.underlying244
 a40 := Tryz.isAgg244
 z40 := Tryz.sizeOf244
 v40 := Tryz.zeroValue244 }
end Go.Proofs
namespace Go.Proofs.YtgkhjeefcflmcaaGreatDoor
open Go.RowKit Go.Sort
set_option linter.unusedSimpArgs false
set_option linter.unusedVariables false
theorem bytesOf_bi : ∀ l : List UInt8, Lib.bytesOf (bi l) = l
 | [] => rfl
 | c :: t => by
  show UInt8.ofNat ((c.toNat : Int)).toNat :: Lib.bytesOf (bi t) = c :: t
  rw [bytesOf_bi t, Int.toNat_natCast, UInt8.ofNat_toNat]
theorem bi_256 (l : List UInt8) : ∀ x ∈ bi l, 0 ≤ x ∧ x < 256 := fun x hx => by
 have := bi_byt l x hx
 omega
theorem bi_getD {l : List UInt8} {i : Nat} (h : i < l.length) : (bi l).getD i 0 = ((l[i]).toNat : Int) := by
 unfold bi
 rw [List.getD_eq_getElem?_getD, List.getElem?_map, List.getElem?_eq_getElem h]
 rfl
theorem byts_in {w : World} {B : Nat} {A : Option Addr} {l : List UInt8} {n : Nat} (h : Byts w B A (bi l)) (hn : l.length = n) : Lib.BytesIn w A n (bi l) := fun h0 => by
 obtain ⟨b, o, rfl, _, _⟩ := h.2 (by rw [bi_length]; omega)
 refine ⟨b, o, rfl, fun i hi => ?_⟩
 rw [bi_getD (by omega)]
 exact byts_cell h (List.getElem?_eq_getElem (by omega))
theorem byts_add {w : World} {B b o : Nat} {l : List UInt8} {n : Nat} (h : Byts w B (some ⟨b, o, none⟩) (bi l)) (hn : l.length = n) : ∀ i, i < n → w.cell? ((⟨b, o, none⟩ : Addr).add i) = some (.int .u8 ((bi l).getD i 0)) := fun i hi => by
 have e : (⟨b, o, none⟩ : Addr).add i = ⟨b, o + i, none⟩ := by unfold Addr.add; split <;> simp_all
 rw [e, bi_getD (by omega)]
 exact byts_cell h (List.getElem?_eq_getElem (by omega))
theorem bl_contains (c : UInt8) : ([32, 9, 13] : List UInt8).contains c = isBl c := by
 unfold isBl
 by_cases h1 : c = 32
 ·subst h1; rfl
 ·by_cases h2 : c = 9
  ·subst h2; rfl
  ·by_cases h3 : c = 13
   ·subst h3; rfl
   ·simp [h1, h2, h3]
theorem trim_blk : ∀ l : List UInt8, (Lib.trimLeftS l [32, 9, 13]).length = l.length - blkN l
 | [] => rfl
 | c :: t => by
  have ih := trim_blk t
  unfold Lib.trimLeftS at ih ⊢
  rw [List.dropWhile_cons, bl_contains]
  by_cases h : isBl c = true
  ·rw [if_pos h, ih, show blkN (c :: t) = blkN t + 1 from if_pos h, List.length_cons]
   omega
  ·rw [if_neg h, show blkN (c :: t) = 0 from if_neg h]
   rfl
theorem trimL_run (b o n c : Nat) (l : List UInt8) (w : World) (B : Nat) (hb : Byts w B (some ⟨b, o, none⟩) (bi l)) (hn : l.length = n) (hnc : n ≤ c) (hc : c ≤ 9223372036854775807) :
  Calls Tryz.prog 65 #[.slice (some ⟨b, o, none⟩) n c, .string ⟨#[32, 9, 13]⟩] w fun e w' => ∃ A' c', e = .returned (.slice A' (n - blkN l) c') ∧ Below w.heap.size w w' := by
 have h := Any.bytes_TrimLeft_laid Tryz.laysT8 (by kernel_rfl) (some ⟨b, o, none⟩) n c (bi l) ⟨#[32, 9, 13]⟩ w (by rw [bi_length]; exact hn) hnc hc (byts_in hb hn) (bi_256 l) (by decide) (fun j b hb => by
  match j, hb with
  | 0, hb => cases hb; decide
  | 1, hb => cases hb; decide
  | 2, hb => cases hb; decide)
 rw [bytesOf_bi, show (⟨#[32, 9, 13]⟩ : ByteArray).data.toList = [32, 9, 13] from rfl, trim_blk, hn] at h
 refine Calls.mono h ?_
 rintro e w' ⟨rfl, hw⟩
 have hle := blkN_le l
 unfold Lib.leftV Lib.fromV
 split
 ·exact ⟨none, 0, by rw [show n - blkN l = 0 by omega], hw⟩
 ·exact ⟨_, _, by rw [show n - (n - (n - blkN l)) = n - blkN l by omega], hw⟩
theorem pref_two (x y : UInt8) : ∀ l : List UInt8, Lib.hasPrefix l [x, y] = twoF x y l
 | [] => rfl
 | [c] => by
  show ([x, y] : List UInt8).isPrefixOf [c] = false
  simp [List.isPrefixOf]
 | c :: d :: t => by
  show ([x, y] : List UInt8).isPrefixOf (c :: d :: t) = (c == x && d == y)
  simp [List.isPrefixOf, Bool.beq_comm, eq_comm, BEq.comm]
theorem pref_run (b o n c b2 : Nat) (l : List UInt8) (x y : UInt8) (w : World) (B : Nat) (hb : Byts w B (some ⟨b, o, none⟩) (bi l)) (hn : l.length = n) (hnc : n ≤ c) (c0 : w.cell? ⟨b2, 0, none⟩ = some (.int .u8 (x.toNat : Int))) (c1 : w.cell? ⟨b2, 1, none⟩ = some (.int .u8 (y.toNat : Int))) :
  Calls Tryz.prog 67 #[.slice (some ⟨b, o, none⟩) n c, .slice (some ⟨b2, 0, none⟩) 2 2] w fun e w' => e = .returned (.bool (twoF x y l)) ∧ w' = w := by
 have h := Tryz.bytes_HasPrefix_all (some ⟨b, o, none⟩) (some ⟨b2, 0, none⟩) n c 2 2 (bi l) (bi [x, y]) w (by rw [bi_length]; exact hn) rfl hnc (byts_in hb hn) (fun _ => ⟨b2, 0, rfl, fun i hi => by
  match i, hi with
  | 0, _ => exact c0
  | 1, _ => exact c1⟩)
 rw [bytesOf_bi, bytesOf_bi, pref_two] at h
 exact h
theorem idx_gen : ∀ t : List UInt8, Lib.index t [42, 47] = if (genF t).2.1 = true then ((genF t).1 : Int) - 2 else -1
 | [] => rfl
 | c :: t => by
  have ih := idx_gen t
  show (if ([42, 47] : List UInt8).isPrefixOf (c :: t) = true then 0 else if Lib.index t [42, 47] == -1 then -1 else Lib.index t [42, 47] + 1) = _
  by_cases h : c = 42 ∧ t.head? = some 47
  ·have e : genF (c :: t) = (2, true, false) := if_pos h
   rw [e]
   obtain ⟨rfl, h2⟩ := h
   cases t with
   | nil => cases h2
   | cons d u => cases h2; rfl
  ·have e : genF (c :: t) = ((genF t).1 + 1, (genF t).2.1, (c == 10) || (genF t).2.2) := if_neg h
   have hp : ¬ ([42, 47] : List UInt8).isPrefixOf (c :: t) = true := fun hh => by
    apply h
    cases t with
    | nil => simp [List.isPrefixOf] at hh
    | cons d u =>
     simp [List.isPrefixOf] at hh
     exact ⟨hh.1.symm, by rw [← hh.2]; rfl⟩
   rw [e, if_neg hp, ih]
   dsimp only
   cases he : (genF t).2.1 with
   | true =>
    have := genF_pos he
    rw [if_pos rfl, if_pos rfl, if_neg (by simp only [beq_iff_eq]; omega)]
    omega
   | false => rfl
theorem idxB_line : ∀ t : List UInt8, Lib.indexByte t 10 = if lineN t = t.length then -1 else (lineN t : Int)
 | [] => rfl
 | c :: t => by
  have ih := idxB_line t
  have hl := lineN_le t
  show (if c == 10 then 0 else if Lib.indexByte t 10 == -1 then -1 else Lib.indexByte t 10 + 1) = _
  by_cases h : c = 10
  ·subst h
   rw [show lineN (10 :: t) = 0 from rfl, if_neg (show ¬ 0 = (10 :: t).length by simp)]
   rfl
  ·rw [show lineN (c :: t) = lineN t + 1 from if_neg h, if_neg (by simpa using h), ih, List.length_cons]
   by_cases h2 : lineN t = t.length
   ·rw [if_pos h2, if_pos (show lineN t + 1 = t.length + 1 by omega)]; rfl
   ·rw [if_neg h2, if_neg (show ¬ lineN t + 1 = t.length + 1 by omega), if_neg (by simp only [beq_iff_eq]; omega)]
    omega
theorem gen_lined : ∀ t : List UInt8, (genF t).2.1 = true → (genF t).2.2 = decide (Lib.indexByte (t.take ((genF t).1 - 2)) 10 ≥ 0)
 | [], h => by cases h
 | c :: t, h => by
  by_cases hc : c = 42 ∧ t.head? = some 47
  ·have e : genF (c :: t) = (2, true, false) := if_pos hc
   rw [e]
   rfl
  ·have e : genF (c :: t) = ((genF t).1 + 1, (genF t).2.1, (c == 10) || (genF t).2.2) := if_neg hc
   rw [e] at h ⊢
   have h' : (genF t).2.1 = true := h
   have ih := gen_lined t h'
   have hp := genF_pos h'
   show ((c == 10) || (genF t).2.2) = decide (Lib.indexByte ((c :: t).take ((genF t).1 + 1 - 2)) 10 ≥ 0)
   rw [ih, show (genF t).1 + 1 - 2 = ((genF t).1 - 2) + 1 by omega, List.take_succ_cons]
   generalize t.take ((genF t).1 - 2) = u
   show _ = decide ((if c == 10 then 0 else if Lib.indexByte u 10 == -1 then -1 else Lib.indexByte u 10 + 1) ≥ 0)
   have hge := Lib.indexByte_ge u 10
   by_cases h10 : c = 10
   ·subst h10; simp
   ·rw [show (c == 10) = false by simpa using h10, Bool.false_or, if_neg (by simp)]
    by_cases hm : Lib.indexByte u 10 = -1
    ·rw [hm]; rfl
    ·rw [if_neg (by simpa using hm), decide_eq_true (by omega), decide_eq_true (by omega)]
theorem idxB_run (A : Option Addr) (n c : Nat) (l : List UInt8) (w : World) (B : Nat) (hb : Byts w B A (bi l)) (hn : l.length = n) (h0 : A = none → n = 0 ∧ c = 0) :
  Calls Tryz.prog 95 #[.slice A n c, .int .u8 10] w fun e w' => e = .returned (.int .i64 (Lib.indexByte l 10)) ∧ w' = w := by
 cases A with
 | none =>
  obtain ⟨rfl, rfl⟩ := h0 rfl
  have : l = [] := List.eq_nil_of_length_eq_zero hn
  subst this
  exact Tryz.bytes_IndexByte_nil 10 w
 | some p =>
  have h := Tryz.bytes_IndexByte_at p n c (bi l) 10 w (by rw [bi_length]; exact hn) (by
   intro i hi
   obtain ⟨b, o, e, _, _⟩ := hb.2 (by rw [bi_length]; omega)
   cases e
   exact byts_add hb hn i hi)
  rw [bytesOf_bi] at h
  exact h
end Go.Proofs.YtgkhjeefcflmcaaGreatDoor
namespace Go.Proofs.YtgkhjeefcflmcaaGreatDoor
open Go.RowKit
theorem conv_lit (w : World) (cs : Array Value) (n c : Nat) : (convert 22 22 (.slice (some ⟨w.heap.size, 0, none⟩) n c)).run Tryz.prog (w.alloc (.cells cs 5)) = .ok (.slice (some ⟨w.heap.size, 0, none⟩) n c) (w.alloc (.cells cs 5 (cs.size, cs.size + 1))) := by
 have hsh : (w.alloc (.cells cs 5)).shape? w.heap.size = some (5, cs.size) := by
  have : (w.alloc (.cells cs 5)).heap[w.heap.size]? = some (.cells cs 5) := by
   show (w.heap.push (.cells cs 5))[w.heap.size]? = _
   simp
  unfold World.shape?
  rw [this]
 have hfr : (w.alloc (.cells cs 5)).freeze ⟨w.heap.size, cs.size, none⟩ 1 = w.alloc (.cells cs 5 (cs.size, cs.size + 1)) := by
  have hm : ∀ (a : Array Obj) (x : Obj) (f : Obj → Obj), (a.push x).modify a.size f = a.push (f x) := by
   intro a x f
   apply Array.ext
   ·simp
   ·intro i h1 h2
    simp only [Array.getElem_modify, Array.getElem_push]
    by_cases h : a.size = i
    ·subst h
     simp
    ·have hi : i < a.size := by simp at h1; omega
     simp [h, hi]
  unfold World.freeze
  rw [if_neg (by decide)]
  show ({ w.alloc (.cells cs 5) with heap := (w.heap.push (.cells cs 5)).modify w.heap.size _ } : World) = _
  rw [hm]
  rfl
 simp [convert, run_underlying Tryz.underlying22, run_underlying Tryz.underlying5, markStringish, hsh]
 exact hfr
end Go.Proofs.YtgkhjeefcflmcaaGreatDoor
