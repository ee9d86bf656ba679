/-
  The document's product of numbers.
-/
import Derived.Test.YtgoemhcngmpfbaaGreatDoorMw27
import Derived.Test.YtgoemhcngmpfbaaGreatDoorMw26
import Derived.Test.YtgoemhcngmpfbaaGreatDoorMw11
import Derived.Test.YtgoemhcngmpfbaaGreatDoorMw04

namespace Go.Proofs.YtgoemhcngmpfbaaGreatDoor
open Go.RowKit Go.Sort

set_option maxRecDepth 100000 in
set_option maxHeartbeats 8000000 in
theorem Mul_run7 (s : Bool) (A : Option Addr) (L ca n : Nat) (t : Bool) (B : Option Addr) (M cb m : Nat) (z : Bool) (r R : Nat) (w : World) (ha : Hid (Good w s A L ca n)) (hb : Hid (Good w t B M cb m)) (hs : L + M ≤ 10000)
    (hz : Hid (sgn (s != t) r = z)) (hr : Hid (n * m = r)) (hR : Hid (nl r = R)) :
    Calls Tryz.prog 85 #[.agg #[.bool s, .slice A L ca], .agg #[.bool t, .slice B M cb]] w fun e w' => ∃ C cc, e = .returned (.agg #[.bool z, .slice C R cc]) ∧ Good w' z C R cc r ∧ Below w.heap.size w w' := by
  have hcp := ha.out.cap
  have hcq := hb.out.cap
  unfold Cap at hcp hcq
  obtain ⟨S, hS⟩ : ∃ S, w.heap.size = S := ⟨_, rfl⟩
  obtain ⟨W0, hW0⟩ : ∃ W0, ((w.alloc (boxN s A L ca)).alloc (boxN t B M cb)).alloc boxNZ = W0 := ⟨_, rfl⟩
  have H0 := three_nums w s A L ca t B M cb S hS
  rw [hW0] at H0
  obtain ⟨T, hT⟩ : ∃ T, L + M + 1 = T := ⟨_, rfl⟩
  obtain ⟨w2, hmk, HD, HW, hsz⟩ := make_digs W0 T (by omega)
  rw [H0.2.2.2.2] at hmk HD HW hsz
  have hTz : (L : Int) + (M : Int) + 1 = (T : Int) := by omega
  have HP := Lib.hid (H0.1.keep HW (by omega))
  have HQ := Lib.hid (H0.2.1.keep HW (by omega))
  have HN := Lib.hid (H0.2.2.1.keep HW (by omega))
  have HB : Hid (Below S w w2) := H0.2.2.2.1.trans (HW.mono (by omega))
  have HZ : Hid (S + 1 + 1 + 1 + 1 ≤ w2.heap.size) := hsz
  have HD2 := Lib.hid HD
  obtain ⟨p0, q0, p1, q1⟩ := H0.1
  obtain ⟨p2, q2, p3, q3⟩ := H0.2.1
  clear H0 HD HW hsz
  rw [hS]
  go_enter Tryz.func85, Tryz.ntmps85
  go_wp2_with fail
  clear hW0 hmk p0 p1 p2 p3 q0 q1 q2 q3
  go_loopg [6] (L + 1) (fun h s6 wr => ∃ (i : Nat) (f : Nat → Nat), s6 = .int .i64 (i : Int) ∧ Hid (i + h = L + 1) ∧ i ≤ L ∧ Hid (DigF wr (S + 1 + 1 + 1) f T) ∧ Hid (∀ j, j < T → f j = dg (mp n m i) j) ∧ Hid (Below (S + 1 + 1 + 1) w2 wr))
  case atStart => exact ⟨0, fun _ => 0, rfl, by show _ = _; omega, by omega, HD2, fun j _ => by rw [mp_zero, dg_zero], Below.refl _ _⟩
  case round =>
    obtain ⟨i, f, rfl, HI, hiL, HF, HE, HW⟩ := hrel
    obtain ⟨p0, q0, p1, q1⟩ := HP.out.keep HW.out (by omega)
    by_cases hlt : i < L
    · go_wp2_with fail
      clear p0 q0 p1 q1
      go_loopg [7, 8] (M + 2) (fun h s7 s8 wr => ∃ (k c : Nat) (f : Nat → Nat), s7 = .int .i64 (c : Int) ∧ s8 = .int .i64 (k : Int) ∧ Hid (k + h = M + 2) ∧ k ≤ M + 1 ∧ Hid (c = mc n m i k) ∧ Hid (DigF wr (S + 1 + 1 + 1) f T) ∧ Hid (∀ j, j < T → f j = if j < i + k then dg (mp n m (i + 1)) j else dg (mp n m i) j) ∧ Hid (Below (S + 1 + 1 + 1) w2 wr))
      case atStart =>
        refine ⟨0, 0, f, rfl, rfl, by show _ = _; omega, by omega, (mc_zero n m i).symm, HF, fun j hj => ?_, HW⟩
        rw [HE.out j hj]
        split
        · exact (mp_low n m i (by omega)).symm
        · rfl
      case round =>
        clear HF HE HW f
        obtain ⟨k, c, f, rfl, rfl, HK, hkM, HC, HF, HE, HW⟩ := hrel
        obtain ⟨p0, q0, p1, q1⟩ := HP.out.keep HW.out (by omega)
        obtain ⟨p2, q2, p3, q3⟩ := HQ.out.keep HW.out (by omega)
        by_cases hon : k < M ∨ (¬ k < M ∧ 0 < c)
        · have hkM2 : k ≤ M := by
            rcases hon with h | h
            · omega
            · rcases Nat.lt_or_ge M k with h2 | h2
              · have h3 : k = M + 1 := by omega
                have := HC.out
                rw [h3, ← hb.out.len, mc_done] at this
                omega
              · exact h2
          have hikT : i + k < T := by omega
          have hikz : (i : Int) + (k : Int) < (T : Int) := by omega
          have hiLz : (i : Int) < (L : Int) := by omega
          obtain ⟨b1, o1, rfl, hbl1, hcell1⟩ := ha.out.digs (by omega)
          obtain ⟨x, hx⟩ : ∃ x, f (i + k) = x := ⟨_, rfl⟩
          obtain ⟨d, hd⟩ : ∃ d, dg n i = d := ⟨_, rfl⟩
          obtain ⟨y, hy⟩ : ∃ y, dg m k = y := ⟨_, rfl⟩
          obtain ⟨p, hp⟩ : ∃ p, d * y = p := ⟨_, rfl⟩
          have cx := HF.out (i + k) hikT
          rw [hx] at cx
          obtain ⟨cx1, cx2⟩ := cx
          have cd : wr.cell? ⟨b1, o1 + i, none⟩ = some (.int .i64 (d : Int)) := by
            rw [← hd]
            exact ((HB.out.trans (HW.out.mono (by omega))).cell (p := ⟨b1, o1 + i, none⟩) (by rw [← hS]; exact hbl1)).trans (hcell1 i hlt)
          have hx6 : x < 65536 := by
            rw [← hx, HE.out _ hikT]
            split <;> exact dg_lt _ _
          have hd6 : d < 65536 := by rw [← hd]; exact dg_lt _ _
          have hy6 : y < 65536 := by rw [← hy]; exact dg_lt _ _
          have hc6 : c < 65536 := by rw [HC.out]; exact mc_lt _ _ _ _
          have hp6 : p ≤ 4294836225 := by
            rw [← hp]
            exact Nat.mul_le_mul (show d ≤ 65535 by omega) (show y ≤ 65535 by omega)
          have hpz : (d : Int) * (y : Int) = (p : Int) := by rw [← hp]; simp
          have HDB : Hid (∀ W, Below S w W → Calls Tryz.prog 125 #[.slice B M cb, .int .i64 (k : Int)] W fun e w' => e = .returned (.int .i64 (y : Int)) ∧ ∃ m, w' = W.drewN m) := fun W hW => (digit_run B M cb m k y W (hb.out.digs.keep hW (Nat.le_of_eq hS)) (Nat.le_of_eq hb.out.len) hb.out.cap (by omega) hy).mono fun e w' ⟨he, hw⟩ => ⟨he, 0, hw.symm⟩
          have HWS : Hid (Below S w wr) := HB.out.trans (HW.out.mono (by omega))
          obtain ⟨u, hu⟩ : ∃ u, (x + p + c) % 65536 = u := ⟨_, rfl⟩
          obtain ⟨v, hv⟩ : ∃ v, (x + p + c) / 65536 = v := ⟨_, rfl⟩
          have huz : ((x : Int) + (p : Int) + (c : Int)) % 65536 = (u : Int) := by omega
          have hvz : ((x : Int) + (p : Int) + (c : Int)) / 65536 = (v : Int) := by omega
          have hxe : x = dg (mp n m i) (i + k) := by rw [← hx, HE.out _ hikT, if_neg (by omega)]
          have HU : Hid (u = dg (mp n m (i + 1)) (i + k)) := by show _ = _; rw [← hu, hxe, ← hp, ← hd, ← hy, HC.out]; exact mc_mod n m i k
          have HV : Hid (v = mc n m i (k + 1)) := by show _ = _; rw [← hv, hxe, ← hp, ← hd, ← hy, HC.out]; exact mc_div n m i k
          clear hxe hu hv hp hd hx hy hcell1
          rcases hon with hon | ⟨hon, hon2⟩ <;>
          · go_wp2_with fail
            go_quiet (first | (go_at_call 125; refine Calls.quiet_of (HDB.out _ (HWS.out.drewN _))) | fail)
            go_wp2_with fail
            go_roundg (M + 1 - k)
            case measure => have := HK.out; omega
            case rel =>
              refine ⟨k + 1, v, updF f (i + k) u, by go_num, by go_num, by show _ = _; have := HK.out; omega, by omega, HV, (HF.out.drewN nq).upd hikT u, fun j hj => ?_, (HW.out.drewN nq).setCell (p := ⟨S + 1 + 1 + 1, i + k, none⟩) (Nat.le_refl _) _⟩
              by_cases e : j = i + k
              · rw [e, updF_same, if_pos (by omega)]; exact HU.out
              · rw [updF_other e, HE.out j hj]
                by_cases e2 : j < i + k
                · rw [if_pos e2, if_pos (by omega)]
                · rw [if_neg e2, if_neg (by omega)]
        · obtain ⟨hkm, rfl⟩ : ¬ k < M ∧ c = 0 := by omega
          have HE2 : Hid (∀ j, j < T → f j = dg (mp n m (i + 1)) j) := fun j hj => by
            rw [HE.out j hj]
            by_cases e : j < i + k
            · rw [if_pos e]
            · rw [if_neg e]
              exact (mp_rest (k := k) (by rw [hb.out.len]; omega) HC.out.symm (by omega)).symm
          clear HE HC
          go_wp2_with fail
          go_roundg (L - i)
          case measure => have := HI.out; omega
          case rel => exact ⟨i + 1, f, by go_num, by show _ = _; have := HI.out; omega, by omega, HF, HE2.out, HW.out⟩
    · obtain rfl : i = L := by omega
      obtain ⟨p2, q2, p3, q3⟩ := HQ.out.keep HW.out (by omega)
      have hsz := HW.out.size
      have HZ2 : Hid (S + 1 + 1 + 1 + 1 ≤ wr.heap.size) := Nat.le_trans HZ.out hsz
      have D3 : Hid (DgAt wr (some ⟨S + 1 + 1 + 1, 0, none⟩) T r) := HF.out.at_ (by have := HZ2.out; omega) fun j hj => by
        rw [HE.out j hj, mp_end (Nat.le_of_eq ha.out.len), hr.out]
      have hrT : Hid (r < 65536 ^ T) := by
        show _ < _
        rw [← hr.out, ← hT, ← ha.out.len, ← hb.out.len]
        exact mul_lt_nl n m
      have HRT : Hid (R ≤ T) := by show _ ≤ _; rw [← hR.out]; exact nl_le hrT.out
      have HC : Hid (Cap T T) := ⟨Nat.le_refl _, by omega⟩
      have HT := Lib.hid (trim_run (s != t) z (some ⟨S + 1 + 1 + 1, 0, none⟩) T T r R wr D3 hrT HC hz hR)
      have B3 : Hid (Below S w wr) := HB.out.trans (HW.out.mono (by omega))
      have N3 := Lib.hid (HN.out.keep HW.out (by omega))
      have hzz : Hid (sgn z r = z) := by show _ = _; rw [← hz.out, sgn_twice]
      clear hsz HF HE HW
      go_wp2_with fail
      refine HT.out.mono ?_
      rintro e w4 ⟨rfl, hw4⟩
      have N4 := Lib.hid (N3.out.below hw4)
      have D4 := Lib.hid (D3.out.below hw4)
      have B4 := Lib.hid (B3.out.trans (hw4.mono (by have := HZ2.out; omega)))
      clear p0 p1 p2 p3 q0 q1 q2 q3
      obtain ⟨a0, b0, a1, b1⟩ := N4.out
      clear hw4 N3 B3 HT
      go_wp2_with fail
      refine bodyPost_ret (v := .agg #[.bool z, .slice (some ⟨S + 1 + 1 + 1, 0, none⟩) R T]) (by rw [results_cell1 rfl]; go_simp; try rfl) rfl ⟨_, _, rfl, ⟨(D4.out.st2 N4.out).take HRT.out, hR.out, ⟨HRT.out, HC.out.2⟩, hzz.out⟩, (st2_but w4 (S + 1 + 1) z _ R T).2.1 S w (by omega) B4.out⟩
end Go.Proofs.YtgoemhcngmpfbaaGreatDoor

/-
  The walk's steps at boxes of the document's numbers, by laws.
-/
namespace Go.Proofs.YtgoemhcngmpfbaaGreatDoor
open Go.RowKit Go.Sort

theorem NumAt.range {w : World} {b L cap : Nat} {s : Bool} {A : Option Addr} (h : NumAt w b s A L cap) : w.rangeAt b 0 [.bool s, .slice A L cap] := by
  intro j v hv
  rw [Nat.zero_add]
  rcases j with _ | _ | j
  · exact h.c0.trans hv
  · exact h.c1.trans hv
  · simp at hv
theorem NumAt.there {w : World} {b L cap : Nat} {s : Bool} {A : Option Addr} (h : NumAt w b s A L cap) : w.there b 0 2 := by
  intro j hj
  rw [Nat.zero_add]
  rcases j with _ | _ | j
  · exact ⟨by rw [h.c0]; rfl, h.f0⟩
  · exact ⟨by rw [h.c1]; rfl, h.f1⟩
  · omega
theorem infoNum : (Tryz.prog.info? 57).map (·.size) = some 2 := by kernel_rfl
theorem load_num {W : World} {b L cap : Nat} {s : Bool} {A : Option Addr} (h : NumAt W b s A L cap) : (loadVar 57 ⟨b, 0, none⟩).run Tryz.prog W = .ok (.agg #[.bool s, .slice A L cap]) W :=
  run_loadVar_mid W b 0 57 [.bool s, .slice A L cap] (.struct (Tryz.prog.fieldsOf 57)) h.range (by kernel_rfl) rfl (by kernel_rfl)
theorem ld_num {op : Oper} {a : Act} {w : World} (x : Operand) (ho : op.op = .load 57 x) {b L cap : Nat} {s : Bool} {A : Option Addr} (hx : a.eval x = .pointer (some ⟨b, 0, none⟩)) (h : NumAt w b s A L cap) : (execOp a.eval op).run Tryz.prog w = .ok (.value (.agg #[.bool s, .slice A L cap])) w := by
  unfold execOp
  simp only [ho, hx, Instr.loadAt, Instr.sureAddr, Sem.run_bind, Sem.run_pure, Result.andThen_ok, load_num h]
theorem st2_eq (w : World) (b : Nat) (s : Bool) (A : Option Addr) (L cap : Nat) : st2 w b s A L cap = w.setCells b 0 [.bool s, .slice A L cap] := rfl
theorem stores_num {op : Oper} {a : Act} {w : World} {K : Act → World → Prop} {Q : Exit → Act → World → Prop} (x y : Operand) (ho : op.op = .store 57 x y)
    {b L M ca cb : Nat} {s t : Bool} {A B : Option Addr} (hx : a.eval x = .pointer (some ⟨b, 0, none⟩)) (hy : a.eval y = .agg #[.bool t, .slice B M cb]) (h : NumAt w b s A L ca) (hK : K (a.put op.dst undef) (st2 w b t B M cb)) : op.wp Tryz.prog a w K Q :=
  wp_store_mid 57 x y ho b 0 #[.bool t, .slice B M cb] hx hy h.there infoNum (by simp [Value.oneCell']) hK
theorem alloc_num {a : Act} {w : World} {op : Oper} (ho : op.op = .alloc 57) : (execOp a.eval op).run Tryz.prog w = .ok (.value (.pointer (some ⟨w.heap.size, 0, none⟩))) (w.alloc boxNZ) := by
  unfold execOp
  simp only [ho]
  go_simp
theorem results_num1 {fn : Func} {p : Tmp} (hf : fn.results = #[.cell p 57]) {tmps : Array Value} {W : World} {b L cap : Nat} {s : Bool} {A : Option Addr} (hp : tmps.getD p undef = .pointer (some ⟨b, 0, none⟩)) (h : NumAt W b s A L cap) :
    (results fn tmps).run Tryz.prog W = .ok (.agg #[.bool s, .slice A L cap]) W := by
  rw [results_cell1 hf, hp]
  simp [asAddr, load_num h]
theorem results_num2 {fn : Func} {p q : Tmp} (hf : fn.results = #[.cell p 57, .cell q 57]) {tmps : Array Value} {W : World} {b c L M ca cb : Nat} {s t : Bool} {A B : Option Addr} (hp : tmps.getD p undef = .pointer (some ⟨b, 0, none⟩)) (hq : tmps.getD q undef = .pointer (some ⟨c, 0, none⟩)) (h : NumAt W b s A L ca) (g : NumAt W c t B M cb) :
    (results fn tmps).run Tryz.prog W = .ok (.tuple #[.agg #[.bool s, .slice A L ca], .agg #[.bool t, .slice B M cb]]) W := by
  rw [results_cell2 hf, hp, hq]
  simp [asAddr, load_num h, load_num g]
/-- A call by a contract that names what it makes. -/
theorem wp_callx {P : Program} {Q : Exit → Act → World → Prop} {o : Oper} {K : Act → World → Prop} {a : Act} {w : World} {f : Nat} {xs : List Operand} {ts : Array TypeId} (hop : o.op = .call { callee := .value (.func f), args := xs.toArray, argTypes := ts }) (hen : EntersP P f)
    {args : List Value} (hargs : xs.map a.eval = args) {α : Type} {v : α → Value} {R : α → World → Prop} (hc : Calls P f args.toArray w fun e w' => ∃ x, e = .returned (v x) ∧ R x w') (hk : ∀ x w', R x w' → K (a.put o.dst (v x)) w') : o.wp P a w K Q := by
  have hrun : (execOp a.eval o).run P w = .ok (.enter f args.toArray) w := by
    have h1 : (resolve a.eval { callee := .value (.func f), args := xs.toArray, argTypes := ts } o.type).run P w = .ok { target := .fn (.func f) #[], args := args.toArray } w := by
      simp [resolve, Act.eval, Deferred.ofValue, ← hargs]
    unfold execOp
    simp only [hop, Sem.run_bind, h1, Result.andThen_ok, invoke, Array.append_empty, hen args.toArray w]
  unfold Oper.wp
  rw [hrun, Oper.upon_enter]
  refine hc.mono ?_
  rintro e w' ⟨x, rfl, hr⟩
  exact hk x w' hr
theorem enters_trim : EntersP Tryz.prog 76 := entersP_of Tryz.func76 (by kernel_rfl) rfl
theorem enters_mul7 : EntersP Tryz.prog 85 := entersP_of Tryz.func85 (by kernel_rfl) rfl
theorem enters_power : EntersP Tryz.prog 86 := entersP_of Tryz.func86 (by kernel_rfl) rfl
theorem enters_bits7 : EntersP Tryz.prog 84 := entersP_of Tryz.func84 (by kernel_rfl) rfl
end Go.Proofs.YtgoemhcngmpfbaaGreatDoor
