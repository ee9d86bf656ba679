/-
  Stage 8: ratio's 'do': a step with two numbers.
-/
import Derived.Test.YtbcnpajdmlbieaaDoorRtA
import Derived.Laws.EntriesVeiled
namespace Go.Proofs.YtbcnpajdmlbieaaDoor
open Go.RowKit Go.Sort

/-- A call of function f enters it. -/
def Enters (f : Nat) : Prop := ∀ (args : Array Value) (w : World), (callFunc f args).run Tryd.prog w = .ok (.enter f args) w
theorem enters_of {f : FuncId} {fn : Func} {c : Code} (hf : Tryd.prog.funcs[f]? = some fn) (hname : (fn.name == "runtime.NumGoroutine") = false) (hb : fn.body = some c) : Enters f := fun args w => by
  have h1 : fn.name ≠ "runtime.NumGoroutine" := by simpa using hname
  simp [callFunc, hf, h1, hb]
theorem enters_Mul : Enters 22 := enters_of Tryd.func22 (by kernel_rfl) rfl
theorem enters_Add : Enters 21 := enters_of Tryd.func21 (by kernel_rfl) rfl
theorem enters_Sub : Enters 23 := enters_of Tryd.func23 (by kernel_rfl) rfl
theorem enters_quotient : Enters 32 := enters_of Tryd.func32 (by kernel_rfl) rfl
/-- A function as a value. -/
abbrev fnV (f : Nat) : Value := .func (.func f) #[] #[]
set_option maxRecDepth 100000 in
set_option maxHeartbeats 4000000 in
theorem do_past (f b k : Nat) (hk : k ≠ 0) (s : Bool) (n : Nat) (t : Bool) (m : Nat) (w : World) (h : Hid (ErrAt w b k)) :
    Calls Tryd.prog 20 #[.pointer (some ⟨b, 0, none⟩), fnV f, intV s n, intV t m] w fun e w' => e = .returned (intV false 0) ∧ Ste w w' b k := by
  have HB : Hid (∀ o1 o2 o3 o4 : Obj, Below w.heap.size w ((((w.alloc o1).alloc o2).alloc o3).alloc o4)) := fun o1 o2 o3 o4 => (((below_alloc w o1).alloc (by simp) o2).alloc (by simp; omega) o3).alloc (by simp; omega) o4
  have HE : Hid (∀ o1 o2 o3 o4 : Obj, ErrAt ((((w.alloc o1).alloc o2).alloc o3).alloc o4) b k) := fun o1 o2 o3 o4 => h.out.below (HB.out o1 o2 o3 o4)
  have HS : Hid (∀ o1 o2 o3 o4 : Obj, Ste w ((((w.alloc o1).alloc o2).alloc o3).alloc o4) b k) := fun o1 o2 o3 o4 => Ste.of_below h.out (HB.out o1 o2 o3 o4)
  have h0 : intV false 0 = .agg #[.bool false, .int .u64 0, .int .u64 0, .int .u64 0, .int .u64 0, .int .u64 0, .int .u64 0, .int .u64 0, .int .u64 0] := intV_small (by decide) false
  rw [h0]
  clear h0 h HB
  unfold intV
  go_enter Tryd.func20, Tryd.ntmps20
  go_wp2_with fail
  refine (failed_pos b k hk _ (HE.out _ _ _ _)).mono ?_
  rintro e w1 ⟨rfl, rfl⟩
  go_wp2_with fail
  refine bodyPost_ret (v := .agg #[.bool false, .int .u64 0, .int .u64 0, .int .u64 0, .int .u64 0, .int .u64 0, .int .u64 0, .int .u64 0, .int .u64 0]) (by rw [results_cell1 rfl]; go_simp) rfl ⟨rfl, ?_⟩
  exact HS.out _ _ _ _
set_option maxRecDepth 100000 in
set_option maxHeartbeats 4000000 in
theorem do_first (f b j : Nat) (s : Bool) (n : Nat) (t : Bool) (m : Nat) (z : Bool) (r : Nat) (w : World) (h : Hid (ErrAt w b 0))
    (hcf : Hid (Enters f)) (hop : Hid (∀ W, Calls Tryd.prog f #[intV s n, intV t m] W fun e w' => e = .returned (.tuple #[intV z r, errV j]) ∧ Below W.heap.size W w')) :
    Calls Tryd.prog 20 #[.pointer (some ⟨b, 0, none⟩), fnV f, intV s n, intV t m] w fun e w' => e = .returned (intV z r) ∧ Ste w w' b j := by
  obtain ⟨S, hS⟩ : ∃ S, w.heap.size = S := ⟨_, rfl⟩
  obtain ⟨W, hW⟩ : ∃ W, (((w.alloc (boxI s n 25)).alloc (boxI t m 25)).alloc (boxIZ 25)).alloc (boxIZ 25) = W := ⟨_, rfl⟩
  have T := four_ints w s n t m 25 25 25 25
  rw [hW] at T
  have HE := Lib.hid (h.out.below T.2.2.2.2.1)
  have hbl := h.out.lt
  rw [hS] at T hbl
  have HT := Lib.hid T
  obtain ⟨⟨a0, b0⟩, ⟨a1, b1⟩, ⟨a2, b2⟩, ⟨a3, b3⟩, ⟨a4, b4⟩, ⟨a5, b5⟩, ⟨a6, b6⟩, ⟨a7, b7⟩, ⟨a8, b8⟩⟩ := T.1.nine
  obtain ⟨⟨c0, d0⟩, ⟨c1, d1⟩, ⟨c2, d2⟩, ⟨c3, d3⟩, ⟨c4, d4⟩, ⟨c5, d5⟩, ⟨c6, d6⟩, ⟨c7, d7⟩, ⟨c8, d8⟩⟩ := T.2.1.nine
  have HV := errV_one j
  have HKJ := fun W h => Lib.hid (keep_run b 0 j W h)
  rw [show kept 0 j = j from rfl] at HKJ
  have HK := Lib.hid HKJ
  clear T h HKJ
  have HSw : Hid (w.heap.size = S) := hS
  obtain ⟨v, hv⟩ : ∃ v, errV j = v := ⟨_, rfl⟩
  rw [hv] at HV hop HK
  clear hv
  unfold intV at hop ⊢
  have hen : ∀ (args : Array Value) (w : World), (callFunc f args).run Tryd.prog w = .ok (.enter f args) w := hcf.out
  go_enter Tryd.func20, Tryd.ntmps20
  go_wp2_with fail
  refine (failed_zero b W HE).mono ?_
  rintro e w0 ⟨rfl, rfl⟩
  go_wp2_with fail
  refine (hop.out _).mono ?_
  rintro e w1 ⟨rfl, hw1⟩
  have hWs : W.heap.size = S + 1 + 1 + 1 + 1 := HT.out.2.2.2.2.2
  have I3 := HT.out.2.2.1.keep hw1 (by omega)
  have E1 := HE.out.below hw1
  have B1 : Below S w w1 := HT.out.2.2.2.2.1.trans (hw1.mono (by omega))
  have z1 : S + 1 + 1 + 1 + 1 ≤ w1.heap.size := by have := hw1.size; omega
  have HJ3 := Lib.hid (I3.alloc (by omega) (boxI z r 25))
  have HB2 : Hid (Below S w (w1.alloc (boxI z r 25))) := B1.alloc (by omega) _
  have HE2 := Lib.hid (E1.below (below_alloc w1 (boxI z r 25)))
  have HP := Lib.hid (IntAt.new w1 z r 25)
  have hs2 : (w1.alloc (boxI z r 25)).heap.size = w1.heap.size + 1 := by simp
  obtain ⟨wx, hwx⟩ : ∃ wx, w1.alloc (boxI z r 25) = wx := ⟨_, rfl⟩
  obtain ⟨R, hR⟩ : ∃ R, w1.heap.size = R := ⟨_, rfl⟩
  rw [hwx] at HJ3 HB2 HE2 HP hs2
  rw [hR] at HP z1 hs2
  have Hs2 := Lib.hid hs2
  clear hw1 HT hW hop hWs I3 B1 E1 hs2 HE a0 a1 a2 a3 a4 a5 a6 a7 a8 b0 b1 b2 b3 b4 b5 b6 b7 b8 c0 c1 c2 c3 c4 c5 c6 c7 c8 d0 d1 d2 d3 d4 d5 d6 d7 d8
  go_wp2_with fail
  refine (HK.out _ HE2).mono ?_
  rintro e w2 ⟨rfl, hw2⟩
  have J3 := HJ3.out.ste hw2 (by rw [Hs2.out]; omega) (by omega)
  have J4 := HP.out.ste hw2 (by rw [Hs2.out]; omega) (by omega)
  have HSt : Hid (Ste w w2 b j) := Ste.below_trans (by rw [HSw.out]; exact HB2.out) hw2
  obtain ⟨⟨a0, b0⟩, ⟨a1, b1⟩, ⟨a2, b2⟩, ⟨a3, b3⟩, ⟨a4, b4⟩, ⟨a5, b5⟩, ⟨a6, b6⟩, ⟨a7, b7⟩, ⟨a8, b8⟩⟩ := J4.nine
  obtain ⟨⟨c0, d0⟩, ⟨c1, d1⟩, ⟨c2, d2⟩, ⟨c3, d3⟩, ⟨c4, d4⟩, ⟨c5, d5⟩, ⟨c6, d6⟩, ⟨c7, d7⟩, ⟨c8, d8⟩⟩ := J3.nine
  clear hw2 hwx hR J3 J4 HK HP HE2 HB2 HJ3 hS
  go_wp2_with fail
  refine bodyPost_ret (v := intV z r) (by rw [results_cell1 rfl]; go_simp; try rfl) rfl ⟨rfl, ?_⟩
  exact HSt.out.but (st9_but w2 (S + 1 + 1) z r) (by rw [HSw.out]; omega) (by rw [HSw.out]; exact hbl)
end Go.Proofs.YtbcnpajdmlbieaaDoor
