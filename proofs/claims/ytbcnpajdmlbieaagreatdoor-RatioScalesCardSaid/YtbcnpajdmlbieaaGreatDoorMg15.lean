/-
  The walk's steps at boxes of the document's numbers, by laws.
-/
import Derived.Test.YtbcnpajdmlbieaaGreatDoorMg12
import Derived.Test.YtbcnpajdmlbieaaGreatDoorMg14
import Derived.Test.YtbcnpajdmlbieaaGreatDoorMg04

namespace Go.Proofs.YtbcnpajdmlbieaaGreatDoor
open Go.RowKit Go.Sort

theorem NumAt.range {w : World} {b L cap : Nat} {s : Bool} {A : Option Addr} (h : NumAt w b s A L cap) : w.rangeAt b 0 [.bool s, .slice A L cap] := by
  intro j v hv
  rw [Nat.zero_add]
  rcases j with _ | _ | j
  · exact h.c0.trans hv
  · exact h.c1.trans hv
  · simp at hv
theorem NumAt.there {w : World} {b L cap : Nat} {s : Bool} {A : Option Addr} (h : NumAt w b s A L cap) : w.there b 0 2 := by
  intro j hj
  rw [Nat.zero_add]
  rcases j with _ | _ | j
  · exact ⟨by rw [h.c0]; rfl, h.f0⟩
  · exact ⟨by rw [h.c1]; rfl, h.f1⟩
  · omega
theorem infoNum : (Tryz.prog.info? 70).map (·.size) = some 2 := by kernel_rfl
theorem load_num {W : World} {b L cap : Nat} {s : Bool} {A : Option Addr} (h : NumAt W b s A L cap) : (loadVar 70 ⟨b, 0, none⟩).run Tryz.prog W = .ok (.agg #[.bool s, .slice A L cap]) W :=
  run_loadVar_mid W b 0 70 [.bool s, .slice A L cap] (.struct (Tryz.prog.fieldsOf 70)) h.range (by kernel_rfl) rfl (by kernel_rfl)
theorem ld_num {op : Oper} {a : Act} {w : World} (x : Operand) (ho : op.op = .load 70 x) {b L cap : Nat} {s : Bool} {A : Option Addr} (hx : a.eval x = .pointer (some ⟨b, 0, none⟩)) (h : NumAt w b s A L cap) : (execOp a.eval op).run Tryz.prog w = .ok (.value (.agg #[.bool s, .slice A L cap])) w := by
  unfold execOp
  simp only [ho, hx, Instr.loadAt, Instr.sureAddr, Sem.run_bind, Sem.run_pure, Result.andThen_ok, load_num h]
theorem st2_eq (w : World) (b : Nat) (s : Bool) (A : Option Addr) (L cap : Nat) : st2 w b s A L cap = w.setCells b 0 [.bool s, .slice A L cap] := rfl
theorem stores_num {op : Oper} {a : Act} {w : World} {K : Act → World → Prop} {Q : Exit → Act → World → Prop} (x y : Operand) (ho : op.op = .store 70 x y)
    {b L M ca cb : Nat} {s t : Bool} {A B : Option Addr} (hx : a.eval x = .pointer (some ⟨b, 0, none⟩)) (hy : a.eval y = .agg #[.bool t, .slice B M cb]) (h : NumAt w b s A L ca) (hK : K (a.put op.dst undef) (st2 w b t B M cb)) : op.wp Tryz.prog a w K Q :=
  wp_store_mid 70 x y ho b 0 #[.bool t, .slice B M cb] hx hy h.there infoNum (by simp [Value.oneCell']) hK
theorem alloc_num {a : Act} {w : World} {op : Oper} (ho : op.op = .alloc 70) : (execOp a.eval op).run Tryz.prog w = .ok (.value (.pointer (some ⟨w.heap.size, 0, none⟩))) (w.alloc boxNZ) := by
  unfold execOp
  simp only [ho]
  go_simp
theorem results_num1 {fn : Func} {p : Tmp} (hf : fn.results = #[.cell p 70]) {tmps : Array Value} {W : World} {b L cap : Nat} {s : Bool} {A : Option Addr} (hp : tmps.getD p undef = .pointer (some ⟨b, 0, none⟩)) (h : NumAt W b s A L cap) :
    (results fn tmps).run Tryz.prog W = .ok (.agg #[.bool s, .slice A L cap]) W := by
  rw [results_cell1 hf, hp]
  simp [asAddr, load_num h]
theorem results_num2 {fn : Func} {p q : Tmp} (hf : fn.results = #[.cell p 70, .cell q 70]) {tmps : Array Value} {W : World} {b c L M ca cb : Nat} {s t : Bool} {A B : Option Addr} (hp : tmps.getD p undef = .pointer (some ⟨b, 0, none⟩)) (hq : tmps.getD q undef = .pointer (some ⟨c, 0, none⟩)) (h : NumAt W b s A L ca) (g : NumAt W c t B M cb) :
    (results fn tmps).run Tryz.prog W = .ok (.tuple #[.agg #[.bool s, .slice A L ca], .agg #[.bool t, .slice B M cb]]) W := by
  rw [results_cell2 hf, hp, hq]
  simp [asAddr, load_num h, load_num g]
/-- A call by a contract that names what it makes. -/
theorem wp_callx {P : Program} {Q : Exit → Act → World → Prop} {o : Oper} {K : Act → World → Prop} {a : Act} {w : World} {f : Nat} {xs : List Operand} {ts : Array TypeId} (hop : o.op = .call { callee := .value (.func f), args := xs.toArray, argTypes := ts }) (hen : EntersP P f)
    {args : List Value} (hargs : xs.map a.eval = args) {α : Type} {v : α → Value} {R : α → World → Prop} (hc : Calls P f args.toArray w fun e w' => ∃ x, e = .returned (v x) ∧ R x w') (hk : ∀ x w', R x w' → K (a.put o.dst (v x)) w') : o.wp P a w K Q := by
  have hrun : (execOp a.eval o).run P w = .ok (.enter f args.toArray) w := by
    have h1 : (resolve a.eval { callee := .value (.func f), args := xs.toArray, argTypes := ts } o.type).run P w = .ok { target := .fn (.func f) #[], args := args.toArray } w := by
      simp [resolve, Act.eval, Deferred.ofValue, ← hargs]
    unfold execOp
    simp only [hop, Sem.run_bind, h1, Result.andThen_ok, invoke, Array.append_empty, hen args.toArray w]
  unfold Oper.wp
  rw [hrun, Oper.upon_enter]
  refine hc.mono ?_
  rintro e w' ⟨x, rfl, hr⟩
  exact hk x w' hr
theorem enters_trim : EntersP Tryz.prog 67 := entersP_of Tryz.func67 (by kernel_rfl) rfl
theorem enters_mul7 : EntersP Tryz.prog 56 := entersP_of Tryz.func56 (by kernel_rfl) rfl
theorem enters_power : EntersP Tryz.prog 72 := entersP_of Tryz.func72 (by kernel_rfl) rfl
theorem enters_bits7 : EntersP Tryz.prog 71 := entersP_of Tryz.func71 (by kernel_rfl) rfl
end Go.Proofs.YtbcnpajdmlbieaaGreatDoor
