/-
  ViewWithin: for every source whose tokens stand in order, a node's place lies within its parent's: the law returns true and leaves its arguments as they were. Condition: none.
-/
import Derived.Test.YtpjgapnihmiceaaMx00
import Derived.Test.YtpjgapnihmiceaaMx10
import Derived.Test.YtpjgapnihmiceaaMx08
import Derived.Test.YtpjgapnihmiceaaMx09
namespace Go.Proofs.Ytpjgapnihmiceaa.vwithin
open Go.ChangeShapes Go.WideShapes Go.ChangeAt Go.RowKit Go.Joins
set_option maxRecDepth 100000 in
theorem lifted (os : Os) (started : os.Started) (H : Type) (enc : TypeId × Value → H) :
  ReturnsInHanded {} Try.checked os 4 .any (Rows.viewWithinSpec.pre6 enc Try.prog Try.f4 Rows.viewWithinRow.domain false) (Rows.viewWithinSpec.post enc Try.prog Try.f4 false true false false) := by
 refine returnsInHanded_of_change (C := Try.checked) own started (by kernel_rfl) Try.func4
  (ChangeSpec.witness6 (enc := enc) (C := Try.checked) false ⟨#[], #[.agg #[.slice none 0 0, .slice none 0 0, .slice none 0 0]], []⟩ 8 (by kernel_rfl) (by kernel_rfl) (by kernel_rfl) (by kernel_rfl)) ?_
 intro W base args ds gs before hval0 hW _ _
 have hval : ∀ (j : Nat) t v, Try.f4.params[j]? = some t → args[j]? = some v → Value.okWide Try.prog W .any base t v := hval0
 have hW' := hW
 obtain ⟨p, q, hA0, hV, rfl, hfz, hnd⟩ := hW
 have hA : DataW.TrodAll enc Try.prog W 0 (fun _ => true) true Try.f4.params.toList args.toList ds p := hA0
 rw [Try.params4] at hA hval
 obtain ⟨v0, vs0, d0, ds0, p0, q0, hargs, rfl, rfl, h0, r0⟩ := trodAll_cons hA
 obtain ⟨rfl, rfl, rfl⟩ := trodAll_nil r0
 obtain rfl : args = #[v0] := by cases args; simp_all
 obtain ⟨rfl, rfl⟩ := trodVars_none hV
 have k0 := h0
 have lt0 : ∀ x ∈ p0, x.block < W.heap.size := by obtain ⟨m, hm⟩ := k0; exact DataW.trod_lt m _ _ _ hm
 obtain ⟨A0, n0, c0, B0, m0, e0, C0, q0, g0, l0, L0, T0, rfl, ⟨hyl0, hyc0, hym0, hy0⟩, ⟨htl0, htc0, htm0, ht0⟩, ⟨hl0, hc0, hm0, hb0⟩⟩ := open_src (hval 0 28 v0 rfl rfl) h0
 have hcap0 := Nat.le_trans hc0 hm0
 clear hA0 hval0
 refine (Within_lawV New_run Op_run Span_run Word_run Kid_run A0 n0 c0 B0 m0 e0 C0 q0 g0 l0 L0 T0 W hy0 hyl0 hyc0 hym0 ht0 htl0 htc0 htm0 hb0 hl0 hcap0).mono fun e W' ⟨he, bel⟩ => ?_
 subst he
 exact ⟨_, rfl, _, _, _, [], _, [], hW', trodAll_mk1 (shut_bool Try.underlying4 _), (trodAll_cons_mk (Below.trod laidOut (by kernel_rfl) (of_decide_eq_true (by kernel_rfl)) k0 bel lt0) trodAll_mk0), rfl, bel.frame _, fun h => by cases h⟩
theorem holds : Rows.ViewWithinSaid :=
 OpenClaim.holds_of_wide 4 Try.f4 rfl rfl rfl rfl rfl rfl rfl ⟨rfl, rfl, rfl, rfl, rfl⟩ rfl rfl rfl rfl rfl (by kernel_rfl) Try.func4 (by kernel_rfl)
  (of_decide_eq_true (by kernel_rfl)) (by unfold Func.isWrapper; rw [if_neg (of_decide_eq_false (by kernel_rfl))]; exact ⟨rfl, rfl⟩)
  (fun os started H enc _ => lifted os started H enc)
end Go.Proofs.Ytpjgapnihmiceaa.vwithin
