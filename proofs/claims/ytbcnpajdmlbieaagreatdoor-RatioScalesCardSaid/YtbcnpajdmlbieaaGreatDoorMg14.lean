/-
  The document's product of numbers.
-/
import Derived.Test.YtbcnpajdmlbieaaGreatDoorMg13
import Derived.Test.YtbcnpajdmlbieaaGreatDoorMg00
import Derived.Deep.RegionHeld3
import Derived.Laws.EntriesVeiled
import Derived.Test.YtbcnpajdmlbieaaGreatDoorMg10

namespace Go.Proofs.YtbcnpajdmlbieaaGreatDoor
open Go.RowKit Go.Sort

set_option maxRecDepth 100000 in
set_option maxHeartbeats 8000000 in
theorem Mul_run7 (s : Bool) (A : Option Addr) (L ca n : Nat) (t : Bool) (B : Option Addr) (M cb m : Nat) (z : Bool) (r R : Nat) (w : World) (ha : Hid (Good w s A L ca n)) (hb : Hid (Good w t B M cb m)) (hs : L + M ≤ 10000)
    (hz : Hid (sgn (s != t) r = z)) (hr : Hid (n * m = r)) (hR : Hid (nl r = R)) :
    Calls Tryz.prog 56 #[.agg #[.bool s, .slice A L ca], .agg #[.bool t, .slice B M cb]] w fun e w' => ∃ C cc, e = .returned (.agg #[.bool z, .slice C R cc]) ∧ Good w' z C R cc r ∧ Below w.heap.size w w' := by
  have hcp := ha.out.cap
  have hcq := hb.out.cap
  unfold Cap at hcp hcq
  obtain ⟨S, hS⟩ : ∃ S, w.heap.size = S := ⟨_, rfl⟩
  obtain ⟨W0, hW0⟩ : ∃ W0, ((w.alloc (boxN s A L ca)).alloc (boxN t B M cb)).alloc boxNZ = W0 := ⟨_, rfl⟩
  have H0 := three_nums w s A L ca t B M cb S hS
  rw [hW0] at H0
  obtain ⟨T, hT⟩ : ∃ T, L + M + 1 = T := ⟨_, rfl⟩
  obtain ⟨w2, hmk, HD, HW, hsz⟩ := make_digs W0 T (by omega)
  rw [H0.2.2.2.2] at hmk HD HW hsz
  have hTz : (L : Int) + (M : Int) + 1 = (T : Int) := by omega
  have HP := Lib.hid (H0.1.keep HW (by omega))
  have HQ := Lib.hid (H0.2.1.keep HW (by omega))
  have HN := Lib.hid (H0.2.2.1.keep HW (by omega))
  have HB : Hid (Below S w w2) := H0.2.2.2.1.trans (HW.mono (by omega))
  have HZ : Hid (S + 1 + 1 + 1 + 1 ≤ w2.heap.size) := hsz
  have HD2 := Lib.hid HD
  obtain ⟨p0, q0, p1, q1⟩ := H0.1
  obtain ⟨p2, q2, p3, q3⟩ := H0.2.1
  clear H0 HD HW hsz
  rw [hS]
  go_enter Tryz.func56, Tryz.ntmps56
  go_wp2_with fail
  clear hW0 hmk p0 p1 p2 p3 q0 q1 q2 q3
  go_loopg [6] (L + 1) (fun h s6 wr => ∃ (i : Nat) (f : Nat → Nat), s6 = .int .i64 (i : Int) ∧ Hid (i + h = L + 1) ∧ i ≤ L ∧ Hid (DigF wr (S + 1 + 1 + 1) f T) ∧ Hid (∀ j, j < T → f j = dg (mp n m i) j) ∧ Hid (Below (S + 1 + 1 + 1) w2 wr))
  case atStart => exact ⟨0, fun _ => 0, rfl, by show _ = _; omega, by omega, HD2, fun j _ => by rw [mp_zero, dg_zero], Below.refl _ _⟩
  case round =>
    obtain ⟨i, f, rfl, HI, hiL, HF, HE, HW⟩ := hrel
    obtain ⟨p0, q0, p1, q1⟩ := HP.out.keep HW.out (by omega)
    by_cases hlt : i < L
    · go_wp2_with fail
      clear p0 q0 p1 q1
      go_loopg [7, 8] (M + 2) (fun h s7 s8 wr => ∃ (k c : Nat) (f : Nat → Nat), s7 = .int .i64 (c : Int) ∧ s8 = .int .i64 (k : Int) ∧ Hid (k + h = M + 2) ∧ k ≤ M + 1 ∧ Hid (c = mc n m i k) ∧ Hid (DigF wr (S + 1 + 1 + 1) f T) ∧ Hid (∀ j, j < T → f j = if j < i + k then dg (mp n m (i + 1)) j else dg (mp n m i) j) ∧ Hid (Below (S + 1 + 1 + 1) w2 wr))
      case atStart =>
        refine ⟨0, 0, f, rfl, rfl, by show _ = _; omega, by omega, (mc_zero n m i).symm, HF, fun j hj => ?_, HW⟩
        rw [HE.out j hj]
        split
        · exact (mp_low n m i (by omega)).symm
        · rfl
      case round =>
        clear HF HE HW f
        obtain ⟨k, c, f, rfl, rfl, HK, hkM, HC, HF, HE, HW⟩ := hrel
        obtain ⟨p0, q0, p1, q1⟩ := HP.out.keep HW.out (by omega)
        obtain ⟨p2, q2, p3, q3⟩ := HQ.out.keep HW.out (by omega)
        by_cases hon : k < M ∨ (¬ k < M ∧ 0 < c)
        · have hkM2 : k ≤ M := by
            rcases hon with h | h
            · omega
            · rcases Nat.lt_or_ge M k with h2 | h2
              · have h3 : k = M + 1 := by omega
                have := HC.out
                rw [h3, ← hb.out.len, mc_done] at this
                omega
              · exact h2
          have hikT : i + k < T := by omega
          have hikz : (i : Int) + (k : Int) < (T : Int) := by omega
          have hiLz : (i : Int) < (L : Int) := by omega
          obtain ⟨b1, o1, rfl, hbl1, hcell1⟩ := ha.out.digs (by omega)
          obtain ⟨x, hx⟩ : ∃ x, f (i + k) = x := ⟨_, rfl⟩
          obtain ⟨d, hd⟩ : ∃ d, dg n i = d := ⟨_, rfl⟩
          obtain ⟨y, hy⟩ : ∃ y, dg m k = y := ⟨_, rfl⟩
          obtain ⟨p, hp⟩ : ∃ p, d * y = p := ⟨_, rfl⟩
          have cx := HF.out (i + k) hikT
          rw [hx] at cx
          obtain ⟨cx1, cx2⟩ := cx
          have cd : wr.cell? ⟨b1, o1 + i, none⟩ = some (.int .i64 (d : Int)) := by
            rw [← hd]
            exact ((HB.out.trans (HW.out.mono (by omega))).cell (p := ⟨b1, o1 + i, none⟩) (by rw [← hS]; exact hbl1)).trans (hcell1 i hlt)
          have hx6 : x < 65536 := by
            rw [← hx, HE.out _ hikT]
            split <;> exact dg_lt _ _
          have hd6 : d < 65536 := by rw [← hd]; exact dg_lt _ _
          have hy6 : y < 65536 := by rw [← hy]; exact dg_lt _ _
          have hc6 : c < 65536 := by rw [HC.out]; exact mc_lt _ _ _ _
          have hp6 : p ≤ 4294836225 := by
            rw [← hp]
            exact Nat.mul_le_mul (show d ≤ 65535 by omega) (show y ≤ 65535 by omega)
          have hpz : (d : Int) * (y : Int) = (p : Int) := by rw [← hp]; simp
          have HDB : Hid (∀ W, Below S w W → Calls Tryz.prog 79 #[.slice B M cb, .int .i64 (k : Int)] W fun e w' => e = .returned (.int .i64 (y : Int)) ∧ ∃ m, w' = W.drewN m) := fun W hW => (digit_run B M cb m k y W (hb.out.digs.keep hW (Nat.le_of_eq hS)) (Nat.le_of_eq hb.out.len) hb.out.cap (by omega) hy).mono fun e w' ⟨he, hw⟩ => ⟨he, 0, hw.symm⟩
          have HWS : Hid (Below S w wr) := HB.out.trans (HW.out.mono (by omega))
          obtain ⟨u, hu⟩ : ∃ u, (x + p + c) % 65536 = u := ⟨_, rfl⟩
          obtain ⟨v, hv⟩ : ∃ v, (x + p + c) / 65536 = v := ⟨_, rfl⟩
          have huz : ((x : Int) + (p : Int) + (c : Int)) % 65536 = (u : Int) := by omega
          have hvz : ((x : Int) + (p : Int) + (c : Int)) / 65536 = (v : Int) := by omega
          have hxe : x = dg (mp n m i) (i + k) := by rw [← hx, HE.out _ hikT, if_neg (by omega)]
          have HU : Hid (u = dg (mp n m (i + 1)) (i + k)) := by show _ = _; rw [← hu, hxe, ← hp, ← hd, ← hy, HC.out]; exact mc_mod n m i k
          have HV : Hid (v = mc n m i (k + 1)) := by show _ = _; rw [← hv, hxe, ← hp, ← hd, ← hy, HC.out]; exact mc_div n m i k
          clear hxe hu hv hp hd hx hy hcell1
          rcases hon with hon | ⟨hon, hon2⟩ <;>
          · go_wp2_with fail
            go_quiet (first | (go_at_call 79; refine Calls.quiet_of (HDB.out _ (HWS.out.drewN _))) | fail)
            go_wp2_with fail
            go_roundg (M + 1 - k)
            case measure => have := HK.out; omega
            case rel =>
              refine ⟨k + 1, v, updF f (i + k) u, by go_num, by go_num, by show _ = _; have := HK.out; omega, by omega, HV, (HF.out.drewN nq).upd hikT u, fun j hj => ?_, (HW.out.drewN nq).setCell (p := ⟨S + 1 + 1 + 1, i + k, none⟩) (Nat.le_refl _) _⟩
              by_cases e : j = i + k
              · rw [e, updF_same, if_pos (by omega)]; exact HU.out
              · rw [updF_other e, HE.out j hj]
                by_cases e2 : j < i + k
                · rw [if_pos e2, if_pos (by omega)]
                · rw [if_neg e2, if_neg (by omega)]
        · obtain ⟨hkm, rfl⟩ : ¬ k < M ∧ c = 0 := by omega
          have HE2 : Hid (∀ j, j < T → f j = dg (mp n m (i + 1)) j) := fun j hj => by
            rw [HE.out j hj]
            by_cases e : j < i + k
            · rw [if_pos e]
            · rw [if_neg e]
              exact (mp_rest (k := k) (by rw [hb.out.len]; omega) HC.out.symm (by omega)).symm
          clear HE HC
          go_wp2_with fail
          go_roundg (L - i)
          case measure => have := HI.out; omega
          case rel => exact ⟨i + 1, f, by go_num, by show _ = _; have := HI.out; omega, by omega, HF, HE2.out, HW.out⟩
    · obtain rfl : i = L := by omega
      obtain ⟨p2, q2, p3, q3⟩ := HQ.out.keep HW.out (by omega)
      have hsz := HW.out.size
      have HZ2 : Hid (S + 1 + 1 + 1 + 1 ≤ wr.heap.size) := Nat.le_trans HZ.out hsz
      have D3 : Hid (DgAt wr (some ⟨S + 1 + 1 + 1, 0, none⟩) T r) := HF.out.at_ (by have := HZ2.out; omega) fun j hj => by
        rw [HE.out j hj, mp_end (Nat.le_of_eq ha.out.len), hr.out]
      have hrT : Hid (r < 65536 ^ T) := by
        show _ < _
        rw [← hr.out, ← hT, ← ha.out.len, ← hb.out.len]
        exact mul_lt_nl n m
      have HRT : Hid (R ≤ T) := by show _ ≤ _; rw [← hR.out]; exact nl_le hrT.out
      have HC : Hid (Cap T T) := ⟨Nat.le_refl _, by omega⟩
      have HT := Lib.hid (trim_run (s != t) z (some ⟨S + 1 + 1 + 1, 0, none⟩) T T r R wr D3 hrT HC hz hR)
      have B3 : Hid (Below S w wr) := HB.out.trans (HW.out.mono (by omega))
      have N3 := Lib.hid (HN.out.keep HW.out (by omega))
      have hzz : Hid (sgn z r = z) := by show _ = _; rw [← hz.out, sgn_twice]
      clear hsz HF HE HW
      go_wp2_with fail
      refine HT.out.mono ?_
      rintro e w4 ⟨rfl, hw4⟩
      have N4 := Lib.hid (N3.out.below hw4)
      have D4 := Lib.hid (D3.out.below hw4)
      have B4 := Lib.hid (B3.out.trans (hw4.mono (by have := HZ2.out; omega)))
      clear p0 p1 p2 p3 q0 q1 q2 q3
      obtain ⟨a0, b0, a1, b1⟩ := N4.out
      clear hw4 N3 B3 HT
      go_wp2_with fail
      refine bodyPost_ret (v := .agg #[.bool z, .slice (some ⟨S + 1 + 1 + 1, 0, none⟩) R T]) (by rw [results_cell1 rfl]; go_simp; try rfl) rfl ⟨_, _, rfl, ⟨(D4.out.st2 N4.out).take HRT.out, hR.out, ⟨HRT.out, HC.out.2⟩, hzz.out⟩, (st2_but w4 (S + 1 + 1) z _ R T).2.1 S w (by omega) B4.out⟩
end Go.Proofs.YtbcnpajdmlbieaaGreatDoor

/-
  A region that draws its order, walked by laws, operation by operation: the values stay folded, nothing is opened cell by cell.
-/
namespace Go.Proofs.YtbcnpajdmlbieaaGreatDoor
open Go.RowKit

section
variable {P : Program} {ops : Array Oper} {Q : Exit → Act → World → Prop} {md : Region.Mode} {S : World → Prop}

/-- An operation that only reckons (or reads what S tells) is taken first. -/
theorem rg_take (i : Nat) {oi : Oper} (v : Value) {fuel : Nat} {listed : Array Bool} {a : Act} {w : World} (hi : ops[i]? = some oi)
    (hs : Region.noSelect ops = true) (hf : Region.free md ops listed i = true) (hr : (Region.ready md ops listed).contains i = true)
    (hQ : ∀ c a w, Q (.panic c) (a.put oi.dst v) w → Q (.panic c) a w) (hg : oi.guard = none) (hv : ∀ w, S w → (execOp a.eval oi).run P w = .ok (.value v) w) (hS : S w)
    (h : wpAnyH P md ops Q S fuel (listed.setIfInBounds i true) (a.put oi.dst v) w) : wpAnyH P md ops Q S (fuel + 1) listed a w :=
  wpAnyH_take hi hs hf hr hQ (.inl ⟨by simp [Region.wanted, hg], hv⟩) hS h
/-- A guarded one that is not wanted is passed over; one that is wanted is taken. -/
theorem rg_skip (i : Nat) {oi : Oper} {fuel : Nat} {listed : Array Bool} {a : Act} {w : World} (hi : ops[i]? = some oi)
    (hs : Region.noSelect ops = true) (hf : Region.free md ops listed i = true) (hr : (Region.ready md ops listed).contains i = true)
    (hQ : ∀ c a w, Q (.panic c) (a.put oi.dst undef) w → Q (.panic c) a w) (hg : Region.wanted oi (yielded ops a.tmps) = false) (hS : S w)
    (h : wpAnyH P md ops Q S fuel (listed.setIfInBounds i true) (a.put oi.dst undef) w) : wpAnyH P md ops Q S (fuel + 1) listed a w :=
  wpAnyH_take hi hs hf hr hQ (.inr ⟨hg, rfl⟩) hS h
theorem rg_want (i : Nat) {oi : Oper} (v : Value) {fuel : Nat} {listed : Array Bool} {a : Act} {w : World} (hi : ops[i]? = some oi)
    (hs : Region.noSelect ops = true) (hf : Region.free md ops listed i = true) (hr : (Region.ready md ops listed).contains i = true)
    (hQ : ∀ c a w, Q (.panic c) (a.put oi.dst v) w → Q (.panic c) a w) (hg : Region.wanted oi (yielded ops a.tmps) = true) (hv : ∀ w, S w → (execOp a.eval oi).run P w = .ok (.value v) w) (hS : S w)
    (h : wpAnyH P md ops Q S fuel (listed.setIfInBounds i true) (a.put oi.dst v) w) : wpAnyH P md ops Q S (fuel + 1) listed a w :=
  wpAnyH_take hi hs hf hr hQ (.inl ⟨hg, hv⟩) hS h
/-- An operation carried out: it alone can come up; or one of two. -/
abbrev RStep (P : Program) (md : Region.Mode) (ops : Array Oper) (Q : Exit → Act → World → Prop) (S : World → Prop) (fuel : Nat) (listed : Array Bool) (i : Nat) (a : Act) (w : World) : Prop :=
  wpOp P ops Q i (fun a' w' => S w' ∧ wpAnyH P md ops Q S fuel (listed.setIfInBounds i true) a' w') a w
theorem rg_one (i : Nat) {fuel : Nat} {listed : Array Bool} {a : Act} {w : World} (hr : Region.ready md ops listed = [i]) (h : RStep P md ops Q S fuel listed i a w) : wpAnyH P md ops Q S (fuel + 1) listed a w :=
  wpAnyH_all hr (by simp) fun j hj => by
    obtain rfl : j = i := by simpa using hj
    exact h
theorem rg_two (i j : Nat) {fuel : Nat} {listed : Array Bool} {a : Act} {w : World} (hr : Region.ready md ops listed = [i, j]) (h : RStep P md ops Q S fuel listed i a w) (g : RStep P md ops Q S fuel listed j a w) : wpAnyH P md ops Q S (fuel + 1) listed a w :=
  wpAnyH_all hr (by simp) fun k hk => by
    rcases List.mem_cons.1 hk with rfl | hk
    · exact h
    · obtain rfl : k = j := by simpa using hk
      exact g
theorem rs_of {i : Nat} {o : Oper} {K : Act → World → Prop} {a : Act} {w : World} (ho : ops[i]? = some o) (hg : o.guard = none) (h : o.wp P a w K Q) : wpOp P ops Q i K a w := by
  unfold wpOp
  rw [ho]
  simp only [Region.wanted, hg, if_true]
  exact .inl h
theorem rs_want {i : Nat} {o : Oper} {K : Act → World → Prop} {a : Act} {w : World} (ho : ops[i]? = some o) (hg : Region.wanted o (yielded ops a.tmps) = true) (h : o.wp P a w K Q) : wpOp P ops Q i K a w := by
  unfold wpOp
  rw [ho]
  simp only [hg, if_true]
  exact .inl h
/-- An operation by its run. -/
theorem wp_value {o : Oper} {K : Act → World → Prop} {a : Act} {w w' : World} {v : Value} (h : (execOp a.eval o).run P w = .ok (.value v) w') (hk : K (a.put o.dst v) w') : o.wp P a w K Q := by
  unfold Oper.wp
  rw [h]
  exact hk
theorem wp_skipped {o : Oper} {K : Act → World → Prop} {a : Act} {w w' : World} (h : (execOp a.eval o).run P w = .ok .skip w') (hk : K (a.put o.dst undef) w') : o.wp P a w K Q := by
  unfold Oper.wp
  rw [h]
  exact hk
/-- A call of function f enters it. -/
def EntersP (P : Program) (f : Nat) : Prop := ∀ (args : Array Value) (w : World), (callFunc f args).run P w = .ok (.enter f args) w
theorem entersP_of {f : FuncId} {fn : Func} {c : Code} (hf : P.funcs[f]? = some fn) (hname : (fn.name == "runtime.NumGoroutine") = false) (hb : fn.body = some c) : EntersP P f := fun args w => by
  have h1 : fn.name ≠ "runtime.NumGoroutine" := by simpa using hname
  simp [callFunc, hf, h1, hb]
/-- A call, by its contract. -/
theorem wp_call {o : Oper} {K : Act → World → Prop} {a : Act} {w : World} {f : Nat} {xs : List Operand} {ts : Array TypeId} (hop : o.op = .call { callee := .value (.func f), args := xs.toArray, argTypes := ts }) (hen : EntersP P f)
    {args : List Value} (hargs : xs.map a.eval = args) {v : Value} {R : World → Prop} (hc : Calls P f args.toArray w fun e w' => e = .returned v ∧ R w') (hk : ∀ w', R w' → K (a.put o.dst v) w') : o.wp P a w K Q := by
  have hrun : (execOp a.eval o).run P w = .ok (.enter f args.toArray) w := by
    have h1 : (resolve a.eval { callee := .value (.func f), args := xs.toArray, argTypes := ts } o.type).run P w = .ok { target := .fn (.func f) #[], args := args.toArray } w := by
      simp [resolve, Act.eval, Deferred.ofValue, ← hargs]
    unfold execOp
    simp only [hop, Sem.run_bind, h1, Result.andThen_ok, invoke, Array.append_empty, hen args.toArray w]
  unfold Oper.wp
  rw [hrun, Oper.upon_enter]
  refine hc.mono ?_
  rintro e w' ⟨rfl, hr⟩
  exact hk w' hr
/-- The region's beginning, and its end. -/
theorem rg_begin (S : World → Prop) {id : Nat} {a : Act} {w : World} (hm : P.follows .mixedOrders = true) (hS : S w.drew)
    (h : S w.drew → wpAnyH P .any ops Q S ops.size (Array.replicate ops.size false) a w.drew) : (Code.region id ops true).wp P Q a w := wp_region_held_drew hm hS h
end
end Go.Proofs.YtbcnpajdmlbieaaGreatDoor

/-
  Stage 8: the walk's steps at boxes of numbers and ratios, by laws: values stay folded.
-/
namespace Go.Proofs.YtbcnpajdmlbieaaGreatDoor
open Go.RowKit Go.Sort

abbrev boxRZ (T : TypeId) : Obj := .cells #[.bool false, .int .u64 0, .int .u64 0, .int .u64 0, .int .u64 0, .int .u64 0, .int .u64 0, .int .u64 0, .int .u64 0, .bool false, .int .u64 0, .int .u64 0, .int .u64 0, .int .u64 0, .int .u64 0, .int .u64 0, .int .u64 0, .int .u64 0] T
theorem RatAt.zero (w : World) (T : TypeId) : RatAt (w.alloc (boxRZ T)) w.heap.size false 0 false 0 := by
  have := RatAt.new w false 0 false 0 T
  simpa only [boxR, wd_zero, Int.natCast_zero] using this
theorem ratV_zero : ratV false 0 false 0 = .agg #[.bool false, .int .u64 0, .int .u64 0, .int .u64 0, .int .u64 0, .int .u64 0, .int .u64 0, .int .u64 0, .int .u64 0, .bool false, .int .u64 0, .int .u64 0, .int .u64 0, .int .u64 0, .int .u64 0, .int .u64 0, .int .u64 0, .int .u64 0] := by
  simp only [ratV, wd_zero, Int.natCast_zero]
theorem ErrAt.new (w : World) (T : TypeId) : ErrAt (w.alloc (.cells #[.nilIface] T)) w.heap.size 0 := ⟨World.cell?_alloc_at _ _ _ _ rfl, World.frozen?_alloc_at _ _ _ _ rfl⟩
theorem ErrAt.but1 {w w' : World} {b k c : Nat} (h : ErrAt w b k) (g : But1 w w' c) (hne : b ≠ c) : ErrAt w' b k := ⟨(g.1 ⟨b, 0, none⟩ hne).1.trans h.cell, (g.1 ⟨b, 0, none⟩ hne).2.trans h.free⟩
theorem IntO.of_range {w : World} {b o n : Nat} {s : Bool} (h : w.rangeAt b o [.bool s, .int .u64 (wd n 0 : Int), .int .u64 (wd n 1 : Int), .int .u64 (wd n 2 : Int), .int .u64 (wd n 3 : Int), .int .u64 (wd n 4 : Int), .int .u64 (wd n 5 : Int), .int .u64 (wd n 6 : Int), .int .u64 (wd n 7 : Int)]) (hf : ∀ i, i < 9 → w.frozen? ⟨b, o + i, none⟩ = false) : IntO w b o s n := by
  refine ⟨h 0 _ rfl, hf 0 (by decide), fun i hi => ?_⟩
  have hfi := hf (i + 1) (by omega)
  have e : o + (i + 1) = o + 1 + i := by omega
  rw [e] at hfi
  refine ⟨?_, hfi⟩
  have := h (i + 1) (.int .u64 (wd n i : Int))
  rw [e] at this
  apply this
  rcases i with _ | _ | _ | _ | _ | _ | _ | _ | i
  all_goals first | rfl | omega
theorem IntO.there {w : World} {b o n : Nat} {s : Bool} (h : IntO w b o s n) : w.there b o 9 := by
  intro j hj
  rcases j with _ | j
  · exact ⟨by show (w.cell? ⟨b, o, none⟩).isSome = true; rw [h.sign]; rfl, h.free⟩
  · have := h.words j (by omega)
    have e : o + (j + 1) = o + 1 + j := by omega
    rw [e]
    exact ⟨by rw [this.1]; rfl, this.2⟩
theorem IntO.set {w : World} {b o n m : Nat} {s t : Bool} (h : IntO w b o s n) : IntO (w.setCells b o [.bool t, .int .u64 (wd m 0 : Int), .int .u64 (wd m 1 : Int), .int .u64 (wd m 2 : Int), .int .u64 (wd m 3 : Int), .int .u64 (wd m 4 : Int), .int .u64 (wd m 5 : Int), .int .u64 (wd m 6 : Int), .int .u64 (wd m 7 : Int)]) b o t m :=
  IntO.of_range (World.rangeAt_setCells_same w b o _ h.there) fun i hi => by rw [World.frozen?_setCells]; exact (h.there i hi).2
theorem IntO.apart {w : World} {b o n p m : Nat} {s t : Bool} (h : IntO w b o s n) (hap : o + 9 ≤ p ∨ p + 9 ≤ o) : IntO (w.setCells b p [.bool t, .int .u64 (wd m 0 : Int), .int .u64 (wd m 1 : Int), .int .u64 (wd m 2 : Int), .int .u64 (wd m 3 : Int), .int .u64 (wd m 4 : Int), .int .u64 (wd m 5 : Int), .int .u64 (wd m 6 : Int), .int .u64 (wd m 7 : Int)]) b o s n := by
  have hh : ∀ q, o ≤ q → q < o + 9 → (w.setCells b p [.bool t, .int .u64 (wd m 0 : Int), .int .u64 (wd m 1 : Int), .int .u64 (wd m 2 : Int), .int .u64 (wd m 3 : Int), .int .u64 (wd m 4 : Int), .int .u64 (wd m 5 : Int), .int .u64 (wd m 6 : Int), .int .u64 (wd m 7 : Int)]).cell? ⟨b, q, none⟩ = w.cell? ⟨b, q, none⟩ := fun q h1 h2 =>
    World.cell?_setCells_out b _ p w ⟨b, q, none⟩ (fun _ _ => by
      show q < p ∨ p + 9 ≤ q
      omega)
  refine ⟨(hh o (Nat.le_refl _) (by omega)).trans h.sign, by rw [World.frozen?_setCells]; exact h.free, fun i hi => ⟨(hh (o + 1 + i) (by omega) (by omega)).trans (h.words i hi).1, by rw [World.frozen?_setCells]; exact (h.words i hi).2⟩⟩
theorem st18_eq (w : World) (b : Nat) (s : Bool) (n : Nat) (t : Bool) (d : Nat) : st18 w b s n t d = (w.setCells b 0 [.bool s, .int .u64 (wd n 0 : Int), .int .u64 (wd n 1 : Int), .int .u64 (wd n 2 : Int), .int .u64 (wd n 3 : Int), .int .u64 (wd n 4 : Int), .int .u64 (wd n 5 : Int), .int .u64 (wd n 6 : Int), .int .u64 (wd n 7 : Int)]).setCells b 9 [.bool t, .int .u64 (wd d 0 : Int), .int .u64 (wd d 1 : Int), .int .u64 (wd d 2 : Int), .int .u64 (wd d 3 : Int), .int .u64 (wd d 4 : Int), .int .u64 (wd d 5 : Int), .int .u64 (wd d 6 : Int), .int .u64 (wd d 7 : Int)] := rfl
theorem st18_at {w : World} {b n d n' d' : Nat} {s t s' t' : Bool} (h : RatAt w b s n t d) : RatAt (st18 w b s' n' t' d') b s' n' t' d' := by
  rw [st18_eq]
  exact ⟨h.num.set.apart (.inl (by omega)), IntO.set (h.den.apart (.inr (by omega)))⟩
theorem RatAt.range {w : World} {b n d : Nat} {s t : Bool} (h : RatAt w b s n t d) : w.rangeAt b 0 [.bool s, .int .u64 (wd n 0 : Int), .int .u64 (wd n 1 : Int), .int .u64 (wd n 2 : Int), .int .u64 (wd n 3 : Int), .int .u64 (wd n 4 : Int), .int .u64 (wd n 5 : Int), .int .u64 (wd n 6 : Int), .int .u64 (wd n 7 : Int), .bool t, .int .u64 (wd d 0 : Int), .int .u64 (wd d 1 : Int), .int .u64 (wd d 2 : Int), .int .u64 (wd d 3 : Int), .int .u64 (wd d 4 : Int), .int .u64 (wd d 5 : Int), .int .u64 (wd d 6 : Int), .int .u64 (wd d 7 : Int)] := by
  intro j v hv
  rw [Nat.zero_add]
  obtain ⟨⟨a0, x0⟩, ⟨a1, x1⟩, ⟨a2, x2⟩, ⟨a3, x3⟩, ⟨a4, x4⟩, ⟨a5, x5⟩, ⟨a6, x6⟩, ⟨a7, x7⟩, ⟨a8, x8⟩⟩ := h.num.nine0
  obtain ⟨⟨p0, y0⟩, ⟨p1, y1⟩, ⟨p2, y2⟩, ⟨p3, y3⟩, ⟨p4, y4⟩, ⟨p5, y5⟩, ⟨p6, y6⟩, ⟨p7, y7⟩, ⟨p8, y8⟩⟩ := h.den.nine9
  rcases j with _ | _ | _ | _ | _ | _ | _ | _ | _ | _ | _ | _ | _ | _ | _ | _ | _ | _ | j
  · exact a0.trans hv
  · exact a1.trans hv
  · exact a2.trans hv
  · exact a3.trans hv
  · exact a4.trans hv
  · exact a5.trans hv
  · exact a6.trans hv
  · exact a7.trans hv
  · exact a8.trans hv
  · exact p0.trans hv
  · exact p1.trans hv
  · exact p2.trans hv
  · exact p3.trans hv
  · exact p4.trans hv
  · exact p5.trans hv
  · exact p6.trans hv
  · exact p7.trans hv
  · exact p8.trans hv
  · simp at hv
theorem RatAt.there {w : World} {b n d : Nat} {s t : Bool} (h : RatAt w b s n t d) : w.there b 0 18 := by
  intro j hj
  rcases Nat.lt_or_ge j 9 with h1 | h1
  · exact h.num.there j h1
  · have := h.den.there (j - 9) (by omega)
    have e : 9 + (j - 9) = 0 + j := by omega
    rwa [e] at this
theorem load_rat {W : World} {b n d : Nat} {s t : Bool} (h : RatAt W b s n t d) : (loadVar 27 ⟨b, 0, none⟩).run Tryz.prog W = .ok (ratV s n t d) W :=
  run_loadVar_mid W b 0 27 [.bool s, .int .u64 (wd n 0 : Int), .int .u64 (wd n 1 : Int), .int .u64 (wd n 2 : Int), .int .u64 (wd n 3 : Int), .int .u64 (wd n 4 : Int), .int .u64 (wd n 5 : Int), .int .u64 (wd n 6 : Int), .int .u64 (wd n 7 : Int), .bool t, .int .u64 (wd d 0 : Int), .int .u64 (wd d 1 : Int), .int .u64 (wd d 2 : Int), .int .u64 (wd d 3 : Int), .int .u64 (wd d 4 : Int), .int .u64 (wd d 5 : Int), .int .u64 (wd d 6 : Int), .int .u64 (wd d 7 : Int)] (.struct (Tryz.prog.fieldsOf 27)) h.range (by kernel_rfl) rfl (by kernel_rfl)
theorem results_rat {fn : Func} {p u : Tmp} (hf : fn.results = #[.cell p 27, .tmp u]) {tmps : Array Value} {W : World} {b n d : Nat} {s t : Bool} {v : Value} (hp : tmps.getD p undef = .pointer (some ⟨b, 0, none⟩)) (hu : tmps.getD u undef = v) (h : RatAt W b s n t d) :
    (results fn tmps).run Tryz.prog W = .ok (.tuple #[ratV s n t d, v]) W := by
  rw [results_cell_tmp hf, hp, hu]
  simp [asAddr, load_rat h]
theorem infoRat : (Tryz.prog.info? 27).map (·.size) = some 18 := by kernel_rfl
/-! The walk's steps at a ratio's box, load and store: the value stays folded. -/
theorem wpList_load_rat {ops : Array Oper} {rest : List Oper} {op : Oper} {a : Act} {w : World} {Q : Exit → Act → World → Prop} (hgd : op.guard = none) (x : Operand) (ho : op.op = .load 27 x)
    {b n d : Nat} {s t : Bool} (hx : a.eval x = .pointer (some ⟨b, 0, none⟩)) (h : RatAt w b s n t d)
    (hK : wpList Tryz.prog ops Q rest (a.put op.dst (ratV s n t d)) w) : wpList Tryz.prog ops Q (op :: rest) a w :=
  wpList_load_mid hgd 27 x ho b 0 hx [.bool s, .int .u64 (wd n 0 : Int), .int .u64 (wd n 1 : Int), .int .u64 (wd n 2 : Int), .int .u64 (wd n 3 : Int), .int .u64 (wd n 4 : Int), .int .u64 (wd n 5 : Int), .int .u64 (wd n 6 : Int), .int .u64 (wd n 7 : Int), .bool t, .int .u64 (wd d 0 : Int), .int .u64 (wd d 1 : Int), .int .u64 (wd d 2 : Int), .int .u64 (wd d 3 : Int), .int .u64 (wd d 4 : Int), .int .u64 (wd d 5 : Int), .int .u64 (wd d 6 : Int), .int .u64 (wd d 7 : Int)] (.struct (Tryz.prog.fieldsOf 27)) h.range (by kernel_rfl) rfl (by kernel_rfl) hK
theorem wpList_store_rat {ops : Array Oper} {rest : List Oper} {op : Oper} {a : Act} {w : World} {Q : Exit → Act → World → Prop} (hgd : op.guard = none) (x y : Operand) (ho : op.op = .store 27 x y)
    {b n d n0 d0 : Nat} {s t s0 t0 : Bool} (hx : a.eval x = .pointer (some ⟨b, 0, none⟩)) (hy : a.eval y = ratV s n t d) (h : RatAt w b s0 n0 t0 d0)
    (hK : wpList Tryz.prog ops Q rest (a.put op.dst undef) (st18 w b s n t d)) : wpList Tryz.prog ops Q (op :: rest) a w :=
  wpList_store_mid hgd 27 x y ho b 0 #[.bool s, .int .u64 (wd n 0 : Int), .int .u64 (wd n 1 : Int), .int .u64 (wd n 2 : Int), .int .u64 (wd n 3 : Int), .int .u64 (wd n 4 : Int), .int .u64 (wd n 5 : Int), .int .u64 (wd n 6 : Int), .int .u64 (wd n 7 : Int), .bool t, .int .u64 (wd d 0 : Int), .int .u64 (wd d 1 : Int), .int .u64 (wd d 2 : Int), .int .u64 (wd d 3 : Int), .int .u64 (wd d 4 : Int), .int .u64 (wd d 5 : Int), .int .u64 (wd d 6 : Int), .int .u64 (wd d 7 : Int)] hx hy h.there infoRat (by simp [Value.oneCell']) hK
theorem wpList_box_rat {ops : Array Oper} {rest : List Oper} {op : Oper} {a : Act} {w : World} {Q : Exit → Act → World → Prop} (hgd : op.guard = none) (x : Operand) (ho : op.op = .box 27 x)
    {n d : Nat} {s t : Bool} (hx : a.eval x = ratV s n t d)
    (hK : wpList Tryz.prog ops Q rest (a.put op.dst (.pointer (some ⟨w.heap.size, 0, none⟩))) (w.alloc (boxR s n t d 27))) : wpList Tryz.prog ops Q (op :: rest) a w := by
  refine wpList_plain hgd fun K hK' => ?_
  have hrun : (Instr.box 27 (ratV s n t d)).run Tryz.prog w = .ok (.pointer (some ⟨w.heap.size, 0, none⟩)) (w.alloc (boxR s n t d 27)) := by
    unfold ratV
    go_simp
  unfold Oper.wp execOp
  simp only [ho, hx, Sem.run_bind, Sem.run_pure, Result.andThen_ok, hrun]
  exact hK' _ _ hK
theorem IntO.range {w : World} {b o n : Nat} {s : Bool} (h : IntO w b o s n) : w.rangeAt b o [.bool s, .int .u64 (wd n 0 : Int), .int .u64 (wd n 1 : Int), .int .u64 (wd n 2 : Int), .int .u64 (wd n 3 : Int), .int .u64 (wd n 4 : Int), .int .u64 (wd n 5 : Int), .int .u64 (wd n 6 : Int), .int .u64 (wd n 7 : Int)] := by
  intro j v hv
  rcases j with _ | j
  · exact h.sign.trans hv
  · have e : o + (j + 1) = o + 1 + j := by omega
    rw [e]
    have hj : j < 8 := by
      have := (List.getElem?_eq_some_iff.1 hv).1
      simp at this
      omega
    rw [(h.words j hj).1, ← hv]
    rcases j with _ | _ | _ | _ | _ | _ | _ | _ | j
    all_goals first | rfl | omega
theorem IntAt.o {w : World} {b n : Nat} {s : Bool} (h : IntAt w b s n) : IntO w b 0 s n := ⟨h.sign, h.free, h.words⟩
theorem IntO.at {w : World} {b n : Nat} {s : Bool} (h : IntO w b 0 s n) : IntAt w b s n := ⟨h.sign, h.free, h.words⟩
theorem infoInt : (Tryz.prog.info? 25).map (·.size) = some 9 := by kernel_rfl
theorem load_int {W : World} {b o n : Nat} {s : Bool} (h : IntO W b o s n) : (loadVar 25 ⟨b, o, none⟩).run Tryz.prog W = .ok (intV s n) W :=
  run_loadVar_mid W b o 25 [.bool s, .int .u64 (wd n 0 : Int), .int .u64 (wd n 1 : Int), .int .u64 (wd n 2 : Int), .int .u64 (wd n 3 : Int), .int .u64 (wd n 4 : Int), .int .u64 (wd n 5 : Int), .int .u64 (wd n 6 : Int), .int .u64 (wd n 7 : Int)] (.struct (Tryz.prog.fieldsOf 25)) h.range (by kernel_rfl) rfl (by kernel_rfl)
theorem results_int {fn : Func} {p u : Tmp} (hf : fn.results = #[.cell p 25, .tmp u]) {tmps : Array Value} {W : World} {b n : Nat} {s : Bool} {v : Value} (hp : tmps.getD p undef = .pointer (some ⟨b, 0, none⟩)) (hu : tmps.getD u undef = v) (h : IntAt W b s n) :
    (results fn tmps).run Tryz.prog W = .ok (.tuple #[intV s n, v]) W := by
  rw [results_cell_tmp hf, hp, hu]
  simp [asAddr, load_int h.o]
theorem results_int1 {fn : Func} {p : Tmp} (hf : fn.results = #[.cell p 25]) {tmps : Array Value} {W : World} {b n : Nat} {s : Bool} (hp : tmps.getD p undef = .pointer (some ⟨b, 0, none⟩)) (h : IntAt W b s n) :
    (results fn tmps).run Tryz.prog W = .ok (intV s n) W := by
  rw [results_cell1 hf, hp]
  simp [asAddr, load_int h.o]
theorem results_rat1 {fn : Func} {p : Tmp} (hf : fn.results = #[.cell p 27]) {tmps : Array Value} {W : World} {b n d : Nat} {s t : Bool} (hp : tmps.getD p undef = .pointer (some ⟨b, 0, none⟩)) (h : RatAt W b s n t d) :
    (results fn tmps).run Tryz.prog W = .ok (ratV s n t d) W := by
  rw [results_cell1 hf, hp]
  simp [asAddr, load_rat h]
theorem wpList_load_int {ops : Array Oper} {rest : List Oper} {op : Oper} {a : Act} {w : World} {Q : Exit → Act → World → Prop} (hgd : op.guard = none) (x : Operand) (ho : op.op = .load 25 x)
    {b o n : Nat} {s : Bool} (hx : a.eval x = .pointer (some ⟨b, o, none⟩)) (h : IntO w b o s n)
    (hK : wpList Tryz.prog ops Q rest (a.put op.dst (intV s n)) w) : wpList Tryz.prog ops Q (op :: rest) a w :=
  wpList_load_mid hgd 25 x ho b o hx [.bool s, .int .u64 (wd n 0 : Int), .int .u64 (wd n 1 : Int), .int .u64 (wd n 2 : Int), .int .u64 (wd n 3 : Int), .int .u64 (wd n 4 : Int), .int .u64 (wd n 5 : Int), .int .u64 (wd n 6 : Int), .int .u64 (wd n 7 : Int)] (.struct (Tryz.prog.fieldsOf 25)) h.range (by kernel_rfl) rfl (by kernel_rfl) hK
theorem st9_eq (w : World) (b : Nat) (s : Bool) (n : Nat) : st9 w b s n = w.setCells b 0 [.bool s, .int .u64 (wd n 0 : Int), .int .u64 (wd n 1 : Int), .int .u64 (wd n 2 : Int), .int .u64 (wd n 3 : Int), .int .u64 (wd n 4 : Int), .int .u64 (wd n 5 : Int), .int .u64 (wd n 6 : Int), .int .u64 (wd n 7 : Int)] := rfl
theorem wpList_store_int {ops : Array Oper} {rest : List Oper} {op : Oper} {a : Act} {w : World} {Q : Exit → Act → World → Prop} (hgd : op.guard = none) (x y : Operand) (ho : op.op = .store 25 x y)
    {b n n0 : Nat} {s s0 : Bool} (hx : a.eval x = .pointer (some ⟨b, 0, none⟩)) (hy : a.eval y = intV s n) (h : IntAt w b s0 n0)
    (hK : wpList Tryz.prog ops Q rest (a.put op.dst undef) (st9 w b s n)) : wpList Tryz.prog ops Q (op :: rest) a w :=
  wpList_store_mid hgd 25 x y ho b 0 #[.bool s, .int .u64 (wd n 0 : Int), .int .u64 (wd n 1 : Int), .int .u64 (wd n 2 : Int), .int .u64 (wd n 3 : Int), .int .u64 (wd n 4 : Int), .int .u64 (wd n 5 : Int), .int .u64 (wd n 6 : Int), .int .u64 (wd n 7 : Int)] hx hy h.o.there infoInt (by simp [Value.oneCell']) hK
theorem wpList_box_int {ops : Array Oper} {rest : List Oper} {op : Oper} {a : Act} {w : World} {Q : Exit → Act → World → Prop} (hgd : op.guard = none) (x : Operand) (ho : op.op = .box 25 x)
    {n : Nat} {s : Bool} (hx : a.eval x = intV s n)
    (hK : wpList Tryz.prog ops Q rest (a.put op.dst (.pointer (some ⟨w.heap.size, 0, none⟩))) (w.alloc (boxI s n 25))) : wpList Tryz.prog ops Q (op :: rest) a w := by
  refine wpList_plain hgd fun K hK' => ?_
  have hrun : (Instr.box 25 (intV s n)).run Tryz.prog w = .ok (.pointer (some ⟨w.heap.size, 0, none⟩)) (w.alloc (boxI s n 25)) := by
    unfold intV
    go_simp
  unfold Oper.wp execOp
  simp only [ho, hx, Sem.run_bind, Sem.run_pure, Result.andThen_ok, hrun]
  exact hK' _ _ hK
/-! The same in a region that draws its order. -/
theorem ld_int {op : Oper} {a : Act} {w : World} (x : Operand) (ho : op.op = .load 25 x) {b o n : Nat} {s : Bool} (hx : a.eval x = .pointer (some ⟨b, o, none⟩)) (h : IntO w b o s n) : (execOp a.eval op).run Tryz.prog w = .ok (.value (intV s n)) w := by
  unfold execOp
  simp only [ho, hx, Instr.loadAt, Instr.sureAddr, Sem.run_bind, Sem.run_pure, Result.andThen_ok, load_int h]
theorem ld_rat {op : Oper} {a : Act} {w : World} (x : Operand) (ho : op.op = .load 27 x) {b n d : Nat} {s t : Bool} (hx : a.eval x = .pointer (some ⟨b, 0, none⟩)) (h : RatAt w b s n t d) : (execOp a.eval op).run Tryz.prog w = .ok (.value (ratV s n t d)) w := by
  unfold execOp
  simp only [ho, hx, Instr.loadAt, Instr.sureAddr, Sem.run_bind, Sem.run_pure, Result.andThen_ok, load_rat h]
theorem stores_rat {op : Oper} {a : Act} {w : World} {K : Act → World → Prop} {Q : Exit → Act → World → Prop} (x y : Operand) (ho : op.op = .store 27 x y)
    {b n d n0 d0 : Nat} {s t s0 t0 : Bool} (hx : a.eval x = .pointer (some ⟨b, 0, none⟩)) (hy : a.eval y = ratV s n t d) (h : RatAt w b s0 n0 t0 d0) (hK : K (a.put op.dst undef) (st18 w b s n t d)) : op.wp Tryz.prog a w K Q :=
  wp_store_mid 27 x y ho b 0 #[.bool s, .int .u64 (wd n 0 : Int), .int .u64 (wd n 1 : Int), .int .u64 (wd n 2 : Int), .int .u64 (wd n 3 : Int), .int .u64 (wd n 4 : Int), .int .u64 (wd n 5 : Int), .int .u64 (wd n 6 : Int), .int .u64 (wd n 7 : Int), .bool t, .int .u64 (wd d 0 : Int), .int .u64 (wd d 1 : Int), .int .u64 (wd d 2 : Int), .int .u64 (wd d 3 : Int), .int .u64 (wd d 4 : Int), .int .u64 (wd d 5 : Int), .int .u64 (wd d 6 : Int), .int .u64 (wd d 7 : Int)] hx hy h.there infoRat (by simp [Value.oneCell']) hK
theorem stores_int {op : Oper} {a : Act} {w : World} {K : Act → World → Prop} {Q : Exit → Act → World → Prop} (x y : Operand) (ho : op.op = .store 25 x y)
    {b n n0 : Nat} {s s0 : Bool} (hx : a.eval x = .pointer (some ⟨b, 0, none⟩)) (hy : a.eval y = intV s n) (h : IntAt w b s0 n0) (hK : K (a.put op.dst undef) (st9 w b s n)) : op.wp Tryz.prog a w K Q :=
  wp_store_mid 25 x y ho b 0 #[.bool s, .int .u64 (wd n 0 : Int), .int .u64 (wd n 1 : Int), .int .u64 (wd n 2 : Int), .int .u64 (wd n 3 : Int), .int .u64 (wd n 4 : Int), .int .u64 (wd n 5 : Int), .int .u64 (wd n 6 : Int), .int .u64 (wd n 7 : Int)] hx hy h.o.there infoInt (by simp [Value.oneCell']) hK
theorem build_rat {a : Act} {w : World} {op : Oper} {x y : Operand} (ho : op.op = .build 27 #[(0, x), (1, y)]) {s t : Bool} {n d : Nat} (hx : a.eval x = intV s n) (hy : a.eval y = intV t d) : (execOp a.eval op).run Tryz.prog w = .ok (.value (ratV s n t d)) w := by
  have hrun : (Instr.build 27 #[(0, intV s n), (1, intV t d)]).run Tryz.prog w = .ok (ratV s n t d) w := by
    unfold intV ratV
    go_simp
  unfold execOp
  simp only [ho, List.map_toArray, List.map_cons, List.map_nil, hx, hy, hrun, Sem.run_bind, Sem.run_pure, Result.andThen_ok]
theorem wpList_build_rat {ops : Array Oper} {rest : List Oper} {op : Oper} {a : Act} {w : World} {Q : Exit → Act → World → Prop} (hgd : op.guard = none) (x y : Operand) (ho : op.op = .build 27 #[(0, x), (1, y)])
    {n d : Nat} {s t : Bool} (hx : a.eval x = intV s n) (hy : a.eval y = intV t d)
    (hK : wpList Tryz.prog ops Q rest (a.put op.dst (ratV s n t d)) w) : wpList Tryz.prog ops Q (op :: rest) a w := by
  refine wpList_plain hgd fun K hK' => ?_
  unfold Oper.wp
  rw [build_rat ho hx hy]
  exact hK' _ _ hK
theorem alloc_rat {a : Act} {w : World} {op : Oper} (ho : op.op = .alloc 27) : (execOp a.eval op).run Tryz.prog w = .ok (.value (.pointer (some ⟨w.heap.size, 0, none⟩))) (w.alloc (boxRZ 27)) := by
  unfold execOp
  simp only [ho]
  go_simp
end Go.Proofs.YtbcnpajdmlbieaaGreatDoor
