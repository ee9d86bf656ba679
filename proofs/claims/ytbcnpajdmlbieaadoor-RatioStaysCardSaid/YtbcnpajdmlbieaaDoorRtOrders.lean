/-
  Stage 8: the law RatioOrders.
-/
import Derived.Test.YtbcnpajdmlbieaaDoorRtStays
namespace Go.Proofs.YtbcnpajdmlbieaaDoor
open Go.RowKit Go.Sort
set_option linter.unusedSimpArgs false

/-- What the walk holds. -/
structure Ord (w V : World) (S : Nat) (s : Bool) (n : Nat) (t : Bool) (d : Nat) (s' : Bool) (n' : Nat) (t' : Bool) (d' : Nat) : Prop where
  a : RatAt V S s n t d
  b : RatAt V (S + 1) s' n' t' d'
  bl : Below S w V
  z : S + 1 < V.heap.size
theorem Ord.below {w V V' : World} {S n d n' d' : Nat} {s t s' t' : Bool} (h : Ord w V S s n t d s' n' t' d') (g : Below V.heap.size V V') : Ord w V' S s n t d s' n' t' d' :=
  have hz := h.z
  ⟨h.a.keep g (by omega), h.b.keep g (by omega), h.bl.trans (g.mono (by omega)), Nat.lt_of_lt_of_le h.z g.size⟩
theorem Ord.drew {w V : World} {S n d n' d' : Nat} {s t s' t' : Bool} (h : Ord w V S s n t d s' n' t' d') : Ord w V.drew S s n t d s' n' t' d' := ⟨h.a.drew, h.b.drew, h.bl.drew, h.z⟩
/-- The same with a box of a ratio. -/
structure OrdR (w V : World) (S : Nat) (s : Bool) (n : Nat) (t : Bool) (d : Nat) (s' : Bool) (n' : Nat) (t' : Bool) (d' : Nat) (L : Nat) (x : Bool) (y : Nat) (z : Nat) : Prop where
  o : Ord w V S s n t d s' n' t' d'
  r : RatAt V L x y false z
  l : L < V.heap.size
theorem OrdR.below {w V V' : World} {S n d n' d' L y z : Nat} {s t s' t' x : Bool} (h : OrdR w V S s n t d s' n' t' d' L x y z) (g : Below V.heap.size V V') : OrdR w V' S s n t d s' n' t' d' L x y z :=
  ⟨h.o.below g, h.r.keep g h.l, Nat.lt_of_lt_of_le h.l g.size⟩
theorem OrdR.drew {w V : World} {S n d n' d' L y z : Nat} {s t s' t' x : Bool} (h : OrdR w V S s n t d s' n' t' d' L x y z) : OrdR w V.drew S s n t d s' n' t' d' L x y z := ⟨h.o.drew, h.r.drew, h.l⟩
/-- The same with a box of a number. -/
structure OrdI (w V : World) (S : Nat) (s : Bool) (n : Nat) (t : Bool) (d : Nat) (s' : Bool) (n' : Nat) (t' : Bool) (d' : Nat) (L : Nat) (x : Bool) (y : Nat) : Prop where
  o : Ord w V S s n t d s' n' t' d'
  r : IntAt V L x y
  l : L < V.heap.size
theorem OrdI.below {w V V' : World} {S n d n' d' L y : Nat} {s t s' t' x : Bool} (h : OrdI w V S s n t d s' n' t' d' L x y) (g : Below V.heap.size V V') : OrdI w V' S s n t d s' n' t' d' L x y :=
  ⟨h.o.below g, h.r.keep g h.l, Nat.lt_of_lt_of_le h.l g.size⟩
theorem OrdI.drew {w V : World} {S n d n' d' L y : Nat} {s t s' t' x : Bool} (h : OrdI w V S s n t d s' n' t' d' L x y) : OrdI w V.drew S s n t d s' n' t' d' L x y := ⟨h.o.drew, ⟨h.r.sign, h.r.free, h.r.words⟩, h.l⟩
theorem OrdI.alloc {w V : World} {S n d n' d' L y : Nat} {s t s' t' x : Bool} (h : OrdI w V S s n t d s' n' t' d' L x y) (o : Obj) : OrdI w (V.alloc o) S s n t d s' n' t' d' L x y := h.below (below_alloc V o)
theorem Ord.but {w V V' : World} {S n d n' d' c : Nat} {s t s' t' : Bool} (h : Ord w V S s n t d s' n' t' d') (g : But1 V V' c) (hc : S + 1 < c) : Ord w V' S s n t d s' n' t' d' :=
  have hz := h.z
  ⟨h.a.but g (by omega), h.b.but g (by omega), g.2.1 S w (by omega) h.bl, by rw [g.2.2]; exact hz⟩
theorem OrdI.but {w V V' : World} {S n d n' d' L y c : Nat} {s t s' t' x : Bool} (h : OrdI w V S s n t d s' n' t' d' L x y) (g : But1 V V' c) (hc : S + 1 < c) (hl : L < c) : OrdI w V' S s n t d s' n' t' d' L x y :=
  have hz := h.l
  ⟨h.o.but g hc, (h.r.o.but g (by omega)).at, by rw [g.2.2]; exact hz⟩
theorem OrdI.put {w V : World} {S n d n' d' L y M n0 d0 : Nat} {s t s' t' x s0 t0 : Bool} (h : OrdI w V S s n t d s' n' t' d' L x y) (hZ : RatAt V M s0 n0 t0 d0) (hc : S + 1 < M) (hl : L < M) (hM : M < V.heap.size) (a : Bool) (b : Nat) (e : Bool) (f : Nat) :
    OrdI w (st18 V M a b e f) S s n t d s' n' t' d' L x y ∧ RatAt (st18 V M a b e f) M a b e f ∧ M < (st18 V M a b e f).heap.size :=
  ⟨h.but (st18_but V M a b e f) hc hl, st18_at hZ, by rw [(st18_but V M a b e f).2.2]; exact hM⟩
theorem enters_Cmp : EntersP Tryd.prog 12 := entersP_of Tryd.func12 (by kernel_rfl) rfl
theorem enters_Of : EntersP Tryd.prog 13 := entersP_of Tryd.func13 (by kernel_rfl) rfl
theorem enters_RCmp : EntersP Tryd.prog 11 := entersP_of Tryd.func11 (by kernel_rfl) rfl
theorem enters_ROf : EntersP Tryd.prog 16 := entersP_of Tryd.func16 (by kernel_rfl) rfl
theorem enters_Make : EntersP Tryd.prog 15 := entersP_of Tryd.func15 (by kernel_rfl) rfl
theorem iff_dec {a b : Nat} (h : a = 0 ↔ b = 0) : decide (a = 0) = decide (b = 0) := by
  by_cases ha : a = 0
  · rw [decide_eq_true ha, decide_eq_true (h.1 ha)]
  · rw [decide_eq_false ha, decide_eq_false (fun hb => ha (h.2 hb))]
theorem ne_self {op : Oper} {a : Act} {w : World} {x y : Operand} {T u : TypeId} (ho : op.op = .binOp .neq T x y u) {z : Int} (hx : a.eval x = .int .i64 z) (hy : a.eval y = .int .i64 z) : (execOp a.eval op).run Tryd.prog w = .ok (.value (.bool false)) w := by
  have e1 : (eqGuard .neq T x y (.int .i64 z) (.int .i64 z)).run Tryd.prog w = .ok () w := rfl
  have e2 : (binOp .neq T (.int .i64 z) (.int .i64 z)).run Tryd.prog w = .ok (.bool false) w := by
    unfold binOp Op.intCmp
    simp
  unfold execOp
  simp only [ho, hx, hy, Sem.run_bind, Sem.run_pure, Result.andThen_ok, e1, e2]
set_option maxRecDepth 100000 in
set_option maxHeartbeats 8000000 in
theorem orders_run (s : Bool) (n : Nat) (t : Bool) (d : Nat) (s' : Bool) (n' : Nat) (t' : Bool) (d' : Nat) (w : World) (hn : Hid (Fits n)) (hd : Hid (Fits d)) (hn' : Hid (Fits n')) (hd' : Hid (Fits d')) :
    Calls Tryd.prog 4 #[ratV s n t d, ratV s' n' t' d'] w fun e w' => e = .returned (.bool true) ∧ Below w.heap.size w w' := by
  obtain ⟨S, hS⟩ : ∃ S, w.heap.size = S := ⟨_, rfl⟩
  obtain ⟨W, hW⟩ : ∃ W, (w.alloc (boxR s n t d 27)).alloc (boxR s' n' t' d' 27) = W := ⟨_, rfl⟩
  have T := op_boxes2 w s n t d s' n' t' d' 27
  rw [hW, hS] at T
  rw [hS]
  have RA_W := Lib.hid T.1
  have RB_W := Lib.hid T.2.1
  have B_W := Lib.hid T.2.2.1
  have Bs_W : S ≤ W.heap.size := by have := T.2.2.2; omega
  have lRA_W : S < W.heap.size := by have := T.2.2.2; omega
  have lRB_W : S + 1 < W.heap.size := by have := T.2.2.2; omega
  clear T
  have Fm := mi_fits s n t d s' n' t' d'
  have C1 : Hid (∀ W, Calls Tryd.prog 11 #[ratV s n t d, ratV s' n' t' d'] W fun e w' => e = .returned (.tuple #[.int .i64 (-rcmpZ s' n' t' d' s n t d), errV (rcmpK s n t d s' n' t' d')]) ∧ Below W.heap.size W w') := fun W => by
    have := RCmp_run s n t d s' n' t' d' W hn hd hn' hd'
    rwa [rc_neg] at this
  have C2 : Hid (∀ W, Calls Tryd.prog 11 #[ratV s' n' t' d', ratV s n t d] W fun e w' => e = .returned (.tuple #[.int .i64 (rcmpZ s' n' t' d' s n t d), errV (rcmpK s' n' t' d' s n t d)]) ∧ Below W.heap.size W w') := fun W => RCmp_run s' n' t' d' s n t d W hn' hd' hn hd
  have C3 : Hid (∀ W, Calls Tryd.prog 6 #[ratV s n t d, ratV s' n' t' d'] W fun e w' => e = .returned (.tuple #[ratV (miS s n t d s' n' t' d') (miN s n t d s' n' t' d') false (miD s n t d s' n' t' d'), errV (miK s n t d s' n' t' d')]) ∧ Below W.heap.size W w') := fun W => by
    have := RSub_run s n t d s' n' t' d' W hn hd hn' hd'
    rwa [subV_eq] at this
  have C4 := Lib.hid (fun c hc W => Cmp_run (miS s n t d s' n' t' d') (miN s n t d s' n' t' d') false 0 c W Fm.1 (fits_small 0 (by decide)) hc)
  have C5 := Lib.hid (fun W => Of_run 0 W (by decide) (by decide))
  have hO0 : intV (decide ((0 : Int) < 0)) (0 : Int).natAbs = intV false 0 := rfl
  rw [hO0] at C5
  have Hkk : Hid (decide (rcmpK s' n' t' d' s n t d = 0) = decide (rcmpK s n t d s' n' t' d' = 0)) := iff_dec (rc_sym ..)
  have Hcm : Hid (rcmpK s n t d s' n' t' d' = 0 → miK s n t d s' n' t' d' = 0 → cmpS (miS s n t d s' n' t' d') (miN s n t d s' n' t' d') false 0 = -rcmpZ s' n' t' d' s n t d) := fun h h2 => (mi_cmp h h2).trans rc_neg
  have Hrg := Lib.hid (rc_range (s := s') (n := n') (t := t') (d := d') (s' := s) (n' := n) (t' := t) (d' := d))
  have HW := Lib.hid (fun W => works_run W)
  have C6 : Hid (∀ W, Calls Tryd.prog 14 #[ratV s n t d] W fun e w' => e = .returned (.tuple #[intV (trS s n t d) (trN s n t d), errV (chk s n t d)]) ∧ Below W.heap.size W w') := fun W => Trunc_run s n t d W hn hd
  have C7 : Hid (∀ W, Calls Tryd.prog 7 #[ratV s n t d] W fun e w' => e = .returned (errV (chk s n t d)) ∧ Below W.heap.size W w') := fun W => Check_run s n t d W hn hd
  generalize rcmpZ s' n' t' d' s n t d = c at *
  generalize rcmpK s' n' t' d' s n t d = k2 at *
  generalize rcmpK s n t d s' n' t' d' = k1 at *
  generalize miS s n t d s' n' t' d' = ms at *
  generalize miN s n t d s' n' t' d' = mn at *
  generalize miD s n t d s' n' t' d' = md at *
  generalize miK s n t d s' n' t' d' = mk at *
  clear Fm hO0
  have HT : Hid (Ord w W S s n t d s' n' t' d') := ⟨RA_W.out, RB_W.out, B_W.out, lRB_W⟩
  clear RA_W RB_W B_W Bs_W lRA_W lRB_W
  go_enter Tryd.func4, Tryd.ntmps4
  go_wp2_with (first | (with_reducible refine wpList_box_rat rfl (.tmp 0) rfl rfl ?_) | (with_reducible refine wpList_box_rat rfl (.tmp 1) rfl rfl ?_) | (with_reducible refine wpList_load_rat rfl (.tmp 2) rfl rfl HT.out.a ?_) | (with_reducible refine wpList_load_rat rfl (.tmp 3) rfl rfl HT.out.b ?_))
  refine (C1.out _).mono ?_
  rintro e w1 ⟨rfl, hw1⟩
  have H1 := Lib.hid (HT.out.below hw1)
  clear hw1 HT hW
  go_wp2_with (first | (with_reducible refine wpList_load_rat rfl (.tmp 2) rfl rfl H1.out.a ?_) | (with_reducible refine wpList_load_rat rfl (.tmp 3) rfl rfl H1.out.b ?_))
  refine (C2.out _).mono ?_
  rintro e w2 ⟨rfl, hw2⟩
  have H2 := Lib.hid (H1.out.below hw2)
  clear hw2 H1 C1 C2
  go_wp2_with fail
  obtain ⟨b1, hb1⟩ : ∃ b, decide (k1 = 0) = b := ⟨_, rfl⟩
  have hkk := Hkk.out
  rw [hb1] at hkk
  have Hb1 := Lib.hid hb1
  have Hb2 := Lib.hid hkk
  clear hb1 hkk Hkk
  refine rg_begin (fun V => Ord w V S s n t d s' n' t' d') (by kernel_rfl) H2.out.drew (fun hS => ?_)
  refine rg_take 0 (.int .i64 (-c)) rfl (by kernel_rfl) (by kernel_rfl) (by kernel_rfl) (fun _ _ _ h => h) rfl (fun w _ => ?_) hS ?_
  · go_simp
  simp only [List.getElem_toArray, List.getElem_cons_zero, List.getElem_cons_succ, Act.put, List.setIfInBounds_toArray, List.set_cons_zero, List.set_cons_succ]
  refine rg_take 1 (.int .i64 c) rfl (by kernel_rfl) (by kernel_rfl) (by kernel_rfl) (fun _ _ _ h => h) rfl (fun w _ => ?_) hS ?_
  · go_simp
  simp only [List.getElem_toArray, List.getElem_cons_zero, List.getElem_cons_succ, Act.put, List.setIfInBounds_toArray, List.set_cons_zero, List.set_cons_succ]
  refine rg_take 2 (.int .i64 (-c)) rfl (by kernel_rfl) (by kernel_rfl) (by kernel_rfl) (fun _ _ _ h => h) rfl (fun w hSw => neg_run (x := .tmp 32) rfl rfl Hrg.out.1 Hrg.out.2) hS ?_
  simp only [List.getElem_toArray, List.getElem_cons_zero, List.getElem_cons_succ, Act.put, List.setIfInBounds_toArray, List.set_cons_zero, List.set_cons_succ]
  refine rg_take 3 (.bool false) rfl (by kernel_rfl) (by kernel_rfl) (by kernel_rfl) (fun _ _ _ h => h) rfl (fun w hSw => ne_self (x := .tmp 31) (y := .tmp 33) rfl rfl rfl) hS ?_
  simp only [List.getElem_toArray, List.getElem_cons_zero, List.getElem_cons_succ, Act.put, List.setIfInBounds_toArray, List.set_cons_zero, List.set_cons_succ]
  refine rg_take 4 (.bool false) rfl (by kernel_rfl) (by kernel_rfl) (by kernel_rfl) (fun _ _ _ h => h) rfl (fun w _ => ?_) hS ?_
  · go_simp
  simp only [List.getElem_toArray, List.getElem_cons_zero, List.getElem_cons_succ, Act.put, List.setIfInBounds_toArray, List.set_cons_zero, List.set_cons_succ]
  refine rg_want 5 (errV k1) rfl (by kernel_rfl) (by kernel_rfl) (by kernel_rfl) (fun _ _ _ h => h) rfl (fun w _ => ?_) hS ?_
  · go_simp
  simp only [List.getElem_toArray, List.getElem_cons_zero, List.getElem_cons_succ, Act.put, List.setIfInBounds_toArray, List.set_cons_zero, List.set_cons_succ]
  refine rg_want 6 (.bool b1) rfl (by kernel_rfl) (by kernel_rfl) (by kernel_rfl) (fun _ _ _ h => h) rfl (fun w hSw => eqn_run' (hb := Hb1.out) (x := .tmp 36) rfl (k := k1) rfl) hS ?_
  simp only [List.getElem_toArray, List.getElem_cons_zero, List.getElem_cons_succ, Act.put, List.setIfInBounds_toArray, List.set_cons_zero, List.set_cons_succ]
  refine rg_want 7 (errV k2) rfl (by kernel_rfl) (by kernel_rfl) (by kernel_rfl) (fun _ _ _ h => h) rfl (fun w _ => ?_) hS ?_
  · go_simp
  simp only [List.getElem_toArray, List.getElem_cons_zero, List.getElem_cons_succ, Act.put, List.setIfInBounds_toArray, List.set_cons_zero, List.set_cons_succ]
  refine rg_want 8 (.bool b1) rfl (by kernel_rfl) (by kernel_rfl) (by kernel_rfl) (fun _ _ _ h => h) rfl (fun w hSw => eqn_run' (hb := Hb2.out) (x := .tmp 38) rfl (k := k2) rfl) hS ?_
  simp only [List.getElem_toArray, List.getElem_cons_zero, List.getElem_cons_succ, Act.put, List.setIfInBounds_toArray, List.set_cons_zero, List.set_cons_succ]
  refine rg_want 9 (.bool false) rfl (by kernel_rfl) (by kernel_rfl) (by kernel_rfl) (fun _ _ _ h => h) rfl (fun w _ => ?_) hS ?_
  · go_simp
  simp only [List.getElem_toArray, List.getElem_cons_zero, List.getElem_cons_succ, Act.put, List.setIfInBounds_toArray, List.set_cons_zero, List.set_cons_succ]
  refine rg_take 10 (.bool false) rfl (by kernel_rfl) (by kernel_rfl) (by kernel_rfl) (fun _ _ _ h => h) rfl (fun w _ => ?_) hS ?_
  · go_simp
  simp only [List.getElem_toArray, List.getElem_cons_zero, List.getElem_cons_succ, Act.put, List.setIfInBounds_toArray, List.set_cons_zero, List.set_cons_succ]
  refine wpAnyH_done (by kernel_rfl) ?_ _
  have H3 := Lib.hid hS
  clear hS H2
  obtain ⟨w3, hw3⟩ : ∃ V, w2.drew = V := ⟨_, rfl⟩
  rw [hw3] at H3 ⊢
  have RA_w3 := Lib.hid H3.out.a
  have RB_w3 := Lib.hid H3.out.b
  have B_w3 := Lib.hid H3.out.bl
  have lRB_w3 := H3.out.z
  have lRA_w3 : S < w3.heap.size := by omega
  have Bs_w3 : S ≤ w3.heap.size := by omega
  clear hw3 H3
  go_wp2_with (first | ((with_reducible refine wpList_load_rat rfl (.tmp 2) rfl rfl RA_w3.out ?_)) | ((with_reducible refine wpList_load_rat rfl (.tmp 3) rfl rfl RB_w3.out ?_)))
  refine (C3.out _).mono ?_
  rintro e x1 ⟨rfl, hu1⟩
  have B_x1 := Lib.hid (B_w3.out.trans (hu1.mono Bs_w3))
  have Bs_x1 : S ≤ x1.heap.size := Nat.le_trans Bs_w3 hu1.size
  have RA_x1 := Lib.hid (RA_w3.out.keep hu1 lRA_w3)
  have lRA_x1 : S < x1.heap.size := Nat.lt_of_lt_of_le lRA_w3 (hu1.size)
  have RB_x1 := Lib.hid (RB_w3.out.keep hu1 lRB_w3)
  have lRB_x1 : (S + 1) < x1.heap.size := Nat.lt_of_lt_of_le lRB_w3 (hu1.size)
  clear hu1 B_w3 Bs_w3 RA_w3 lRA_w3 RB_w3 lRB_w3
  have P_x2 := put_rat x1 (ms) (mn) (false) (md) 27
  obtain ⟨LM, hLM⟩ : ∃ LM, x1.heap.size = LM := ⟨_, rfl⟩
  have Z_x2 := RatAt.zero x1 27
  obtain ⟨a_x2, ha_x2⟩ : ∃ a, x1.alloc (boxRZ 27) = a := ⟨_, rfl⟩
  rw [ha_x2, hLM] at P_x2 Z_x2
  have HZ_x2 := Lib.hid Z_x2
  have hq_x2 := Bs_x1
  rw [hLM] at hq_x2
  have qRA_x2 := lRA_x1
  rw [hLM] at qRA_x2
  have qRB_x2 := lRB_x1
  rw [hLM] at qRB_x2
  have B'_x2 := Lib.hid (B_x1.out.trans (P_x2.2.1.mono hq_x2))
  have RA_x2' := Lib.hid (RA_x1.out.keep P_x2.2.1 qRA_x2)
  have RB_x2' := Lib.hid (RB_x1.out.keep P_x2.2.1 qRB_x2)
  have N_x2 := Lib.hid P_x2.1
  have z_x2 := Lib.hid P_x2.2.2
  clear P_x2 Z_x2 B_x1 Bs_x1 RA_x1 lRA_x1 RB_x1 lRB_x1
  go_upto_region 6 with (with_reducible refine wpList_store_rat rfl (.tmp 9) (.tmp 46) rfl (b := LM) (s := ms) (n := mn) (t := false) (d := md) rfl rfl HZ_x2.out ?_)
  clear HZ_x2
  generalize st18 a_x2 LM (ms) (mn) (false) (md) = x2 at *
  have y_x2 := z_x2.out
  have RM_x2 := N_x2
  have B_x2 := B'_x2
  have Bs_x2 : S ≤ x2.heap.size := by omega
  have lRM_x2 : LM < x2.heap.size := by omega
  have RA_x2 := RA_x2'
  have lRA_x2 : S < x2.heap.size := by omega
  have RB_x2 := RB_x2'
  have lRB_x2 : (S + 1) < x2.heap.size := by omega
  clear y_x2 N_x2 B'_x2 ha_x2 hLM z_x2 hq_x2 RA_x2' qRA_x2 RB_x2' qRB_x2
  have HM : Hid (OrdR w x2 S s n t d s' n' t' d' LM ms mn md) := ⟨⟨RA_x2.out, RB_x2.out, B_x2.out, lRB_x2⟩, RM_x2.out, lRM_x2⟩
  clear RA_x2 RB_x2 B_x2 lRB_x2 lRA_x2 RM_x2 lRM_x2 Bs_x2
  go_cut [61] (fun s61 wx => s61 = .bool false ∧ Ord w wx S s n t d s' n' t' d')
  case first =>
    cases b1
    · refine rg_begin (fun V => OrdR w V S s n t d s' n' t' d' LM ms mn md) (by kernel_rfl) HM.out.drew (fun hS => ?_)
      refine rg_take 0 (errV k1) rfl (by kernel_rfl) (by kernel_rfl) (by kernel_rfl) (fun _ _ _ h => h) rfl (fun w _ => ?_) hS ?_
      · go_simp
      simp only [List.getElem_toArray, List.getElem_cons_zero, List.getElem_cons_succ, Act.put, List.setIfInBounds_toArray, List.set_cons_zero, List.set_cons_succ]
      refine rg_take 1 (.bool false) rfl (by kernel_rfl) (by kernel_rfl) (by kernel_rfl) (fun _ _ _ h => h) rfl (fun w hSw => eqn_run' (hb := Hb1.out) (x := .tmp 48) rfl (k := k1) rfl) hS ?_
      simp only [List.getElem_toArray, List.getElem_cons_zero, List.getElem_cons_succ, Act.put, List.setIfInBounds_toArray, List.set_cons_zero, List.set_cons_succ]
      refine rg_take 2 (.bool false) rfl (by kernel_rfl) (by kernel_rfl) (by kernel_rfl) (fun _ _ _ h => h) rfl (fun w _ => ?_) hS ?_
      · go_simp
      simp only [List.getElem_toArray, List.getElem_cons_zero, List.getElem_cons_succ, Act.put, List.setIfInBounds_toArray, List.set_cons_zero, List.set_cons_succ]
      refine rg_skip 3 rfl (by kernel_rfl) (by kernel_rfl) (by kernel_rfl) (fun _ _ _ h => h) rfl hS ?_
      simp only [List.getElem_toArray, List.getElem_cons_zero, List.getElem_cons_succ, Act.put, List.setIfInBounds_toArray, List.set_cons_zero, List.set_cons_succ]
      refine rg_skip 4 rfl (by kernel_rfl) (by kernel_rfl) (by kernel_rfl) (fun _ _ _ h => h) rfl hS ?_
      simp only [List.getElem_toArray, List.getElem_cons_zero, List.getElem_cons_succ, Act.put, List.setIfInBounds_toArray, List.set_cons_zero, List.set_cons_succ]
      refine rg_take 5 (.bool false) rfl (by kernel_rfl) (by kernel_rfl) (by kernel_rfl) (fun _ _ _ h => h) rfl (fun w _ => ?_) hS ?_
      · go_simp
      simp only [List.getElem_toArray, List.getElem_cons_zero, List.getElem_cons_succ, Act.put, List.setIfInBounds_toArray, List.set_cons_zero, List.set_cons_succ]
      refine rg_take 6 (.bool false) rfl (by kernel_rfl) (by kernel_rfl) (by kernel_rfl) (fun _ _ _ h => h) rfl (fun w _ => ?_) hS ?_
      · go_simp
      simp only [List.getElem_toArray, List.getElem_cons_zero, List.getElem_cons_succ, Act.put, List.setIfInBounds_toArray, List.set_cons_zero, List.set_cons_succ]
      refine rg_skip 7 rfl (by kernel_rfl) (by kernel_rfl) (by kernel_rfl) (fun _ _ _ h => h) rfl hS ?_
      simp only [List.getElem_toArray, List.getElem_cons_zero, List.getElem_cons_succ, Act.put, List.setIfInBounds_toArray, List.set_cons_zero, List.set_cons_succ]
      refine rg_skip 8 rfl (by kernel_rfl) (by kernel_rfl) (by kernel_rfl) (fun _ _ _ h => h) rfl hS ?_
      simp only [List.getElem_toArray, List.getElem_cons_zero, List.getElem_cons_succ, Act.put, List.setIfInBounds_toArray, List.set_cons_zero, List.set_cons_succ]
      refine rg_skip 9 rfl (by kernel_rfl) (by kernel_rfl) (by kernel_rfl) (fun _ _ _ h => h) rfl hS ?_
      simp only [List.getElem_toArray, List.getElem_cons_zero, List.getElem_cons_succ, Act.put, List.setIfInBounds_toArray, List.set_cons_zero, List.set_cons_succ]
      refine rg_skip 10 rfl (by kernel_rfl) (by kernel_rfl) (by kernel_rfl) (fun _ _ _ h => h) rfl hS ?_
      simp only [List.getElem_toArray, List.getElem_cons_zero, List.getElem_cons_succ, Act.put, List.setIfInBounds_toArray, List.set_cons_zero, List.set_cons_succ]
      refine rg_skip 11 rfl (by kernel_rfl) (by kernel_rfl) (by kernel_rfl) (fun _ _ _ h => h) rfl hS ?_
      simp only [List.getElem_toArray, List.getElem_cons_zero, List.getElem_cons_succ, Act.put, List.setIfInBounds_toArray, List.set_cons_zero, List.set_cons_succ]
      refine rg_skip 12 rfl (by kernel_rfl) (by kernel_rfl) (by kernel_rfl) (fun _ _ _ h => h) rfl hS ?_
      simp only [List.getElem_toArray, List.getElem_cons_zero, List.getElem_cons_succ, Act.put, List.setIfInBounds_toArray, List.set_cons_zero, List.set_cons_succ]
      refine rg_take 13 (.bool false) rfl (by kernel_rfl) (by kernel_rfl) (by kernel_rfl) (fun _ _ _ h => h) rfl (fun w _ => ?_) hS ?_
      · go_simp
      simp only [List.getElem_toArray, List.getElem_cons_zero, List.getElem_cons_succ, Act.put, List.setIfInBounds_toArray, List.set_cons_zero, List.set_cons_succ]
      refine wpAnyH_done (by kernel_rfl) ?_ _
      go_wp2_with fail
      go_meet
      exact ⟨rfl, hS.o⟩
    · obtain ⟨bm, hbm⟩ : ∃ b, decide (mk = 0) = b := ⟨_, rfl⟩
      have Hbm := Lib.hid hbm
      clear hbm
      cases bm
      · refine rg_begin (fun V => OrdR w V S s n t d s' n' t' d' LM ms mn md) (by kernel_rfl) HM.out.drew (fun hS => ?_)
        refine rg_take 0 (errV k1) rfl (by kernel_rfl) (by kernel_rfl) (by kernel_rfl) (fun _ _ _ h => h) rfl (fun w _ => ?_) hS ?_
        · go_simp
        simp only [List.getElem_toArray, List.getElem_cons_zero, List.getElem_cons_succ, Act.put, List.setIfInBounds_toArray, List.set_cons_zero, List.set_cons_succ]
        refine rg_take 1 (.bool true) rfl (by kernel_rfl) (by kernel_rfl) (by kernel_rfl) (fun _ _ _ h => h) rfl (fun w hSw => eqn_run' (hb := Hb1.out) (x := .tmp 48) rfl (k := k1) rfl) hS ?_
        simp only [List.getElem_toArray, List.getElem_cons_zero, List.getElem_cons_succ, Act.put, List.setIfInBounds_toArray, List.set_cons_zero, List.set_cons_succ]
        refine rg_take 2 (.bool true) rfl (by kernel_rfl) (by kernel_rfl) (by kernel_rfl) (fun _ _ _ h => h) rfl (fun w _ => ?_) hS ?_
        · go_simp
        simp only [List.getElem_toArray, List.getElem_cons_zero, List.getElem_cons_succ, Act.put, List.setIfInBounds_toArray, List.set_cons_zero, List.set_cons_succ]
        refine rg_want 3 (errV mk) rfl (by kernel_rfl) (by kernel_rfl) (by kernel_rfl) (fun _ _ _ h => h) rfl (fun w _ => ?_) hS ?_
        · go_simp
        simp only [List.getElem_toArray, List.getElem_cons_zero, List.getElem_cons_succ, Act.put, List.setIfInBounds_toArray, List.set_cons_zero, List.set_cons_succ]
        refine rg_want 4 (.bool false) rfl (by kernel_rfl) (by kernel_rfl) (by kernel_rfl) (fun _ _ _ h => h) rfl (fun w hSw => eqn_run' (hb := Hbm.out) (x := .tmp 51) rfl (k := mk) rfl) hS ?_
        simp only [List.getElem_toArray, List.getElem_cons_zero, List.getElem_cons_succ, Act.put, List.setIfInBounds_toArray, List.set_cons_zero, List.set_cons_succ]
        refine rg_take 5 (.bool false) rfl (by kernel_rfl) (by kernel_rfl) (by kernel_rfl) (fun _ _ _ h => h) rfl (fun w _ => ?_) hS ?_
        · go_simp
        simp only [List.getElem_toArray, List.getElem_cons_zero, List.getElem_cons_succ, Act.put, List.setIfInBounds_toArray, List.set_cons_zero, List.set_cons_succ]
        refine rg_take 6 (.bool false) rfl (by kernel_rfl) (by kernel_rfl) (by kernel_rfl) (fun _ _ _ h => h) rfl (fun w _ => ?_) hS ?_
        · go_simp
        simp only [List.getElem_toArray, List.getElem_cons_zero, List.getElem_cons_succ, Act.put, List.setIfInBounds_toArray, List.set_cons_zero, List.set_cons_succ]
        refine rg_skip 7 rfl (by kernel_rfl) (by kernel_rfl) (by kernel_rfl) (fun _ _ _ h => h) rfl hS ?_
        simp only [List.getElem_toArray, List.getElem_cons_zero, List.getElem_cons_succ, Act.put, List.setIfInBounds_toArray, List.set_cons_zero, List.set_cons_succ]
        refine rg_skip 8 rfl (by kernel_rfl) (by kernel_rfl) (by kernel_rfl) (fun _ _ _ h => h) rfl hS ?_
        simp only [List.getElem_toArray, List.getElem_cons_zero, List.getElem_cons_succ, Act.put, List.setIfInBounds_toArray, List.set_cons_zero, List.set_cons_succ]
        refine rg_skip 9 rfl (by kernel_rfl) (by kernel_rfl) (by kernel_rfl) (fun _ _ _ h => h) rfl hS ?_
        simp only [List.getElem_toArray, List.getElem_cons_zero, List.getElem_cons_succ, Act.put, List.setIfInBounds_toArray, List.set_cons_zero, List.set_cons_succ]
        refine rg_skip 10 rfl (by kernel_rfl) (by kernel_rfl) (by kernel_rfl) (fun _ _ _ h => h) rfl hS ?_
        simp only [List.getElem_toArray, List.getElem_cons_zero, List.getElem_cons_succ, Act.put, List.setIfInBounds_toArray, List.set_cons_zero, List.set_cons_succ]
        refine rg_skip 11 rfl (by kernel_rfl) (by kernel_rfl) (by kernel_rfl) (fun _ _ _ h => h) rfl hS ?_
        simp only [List.getElem_toArray, List.getElem_cons_zero, List.getElem_cons_succ, Act.put, List.setIfInBounds_toArray, List.set_cons_zero, List.set_cons_succ]
        refine rg_skip 12 rfl (by kernel_rfl) (by kernel_rfl) (by kernel_rfl) (fun _ _ _ h => h) rfl hS ?_
        simp only [List.getElem_toArray, List.getElem_cons_zero, List.getElem_cons_succ, Act.put, List.setIfInBounds_toArray, List.set_cons_zero, List.set_cons_succ]
        refine rg_take 13 (.bool false) rfl (by kernel_rfl) (by kernel_rfl) (by kernel_rfl) (fun _ _ _ h => h) rfl (fun w _ => ?_) hS ?_
        · go_simp
        simp only [List.getElem_toArray, List.getElem_cons_zero, List.getElem_cons_succ, Act.put, List.setIfInBounds_toArray, List.set_cons_zero, List.set_cons_succ]
        refine wpAnyH_done (by kernel_rfl) ?_ _
        go_wp2_with fail
        go_meet
        exact ⟨rfl, hS.o⟩
      · have Hc := Lib.hid (Hcm.out (of_decide_eq_true Hb1.out) (of_decide_eq_true Hbm.out))
        refine rg_begin (fun V => OrdR w V S s n t d s' n' t' d' LM ms mn md) (by kernel_rfl) HM.out.drew (fun hS => ?_)
        refine rg_take 0 (errV k1) rfl (by kernel_rfl) (by kernel_rfl) (by kernel_rfl) (fun _ _ _ h => h) rfl (fun w _ => ?_) hS ?_
        · go_simp
        simp only [List.getElem_toArray, List.getElem_cons_zero, List.getElem_cons_succ, Act.put, List.setIfInBounds_toArray, List.set_cons_zero, List.set_cons_succ]
        refine rg_take 1 (.bool true) rfl (by kernel_rfl) (by kernel_rfl) (by kernel_rfl) (fun _ _ _ h => h) rfl (fun w hSw => eqn_run' (hb := Hb1.out) (x := .tmp 48) rfl (k := k1) rfl) hS ?_
        simp only [List.getElem_toArray, List.getElem_cons_zero, List.getElem_cons_succ, Act.put, List.setIfInBounds_toArray, List.set_cons_zero, List.set_cons_succ]
        refine rg_take 2 (.bool true) rfl (by kernel_rfl) (by kernel_rfl) (by kernel_rfl) (fun _ _ _ h => h) rfl (fun w _ => ?_) hS ?_
        · go_simp
        simp only [List.getElem_toArray, List.getElem_cons_zero, List.getElem_cons_succ, Act.put, List.setIfInBounds_toArray, List.set_cons_zero, List.set_cons_succ]
        refine rg_want 3 (errV mk) rfl (by kernel_rfl) (by kernel_rfl) (by kernel_rfl) (fun _ _ _ h => h) rfl (fun w _ => ?_) hS ?_
        · go_simp
        simp only [List.getElem_toArray, List.getElem_cons_zero, List.getElem_cons_succ, Act.put, List.setIfInBounds_toArray, List.set_cons_zero, List.set_cons_succ]
        refine rg_want 4 (.bool true) rfl (by kernel_rfl) (by kernel_rfl) (by kernel_rfl) (fun _ _ _ h => h) rfl (fun w hSw => eqn_run' (hb := Hbm.out) (x := .tmp 51) rfl (k := mk) rfl) hS ?_
        simp only [List.getElem_toArray, List.getElem_cons_zero, List.getElem_cons_succ, Act.put, List.setIfInBounds_toArray, List.set_cons_zero, List.set_cons_succ]
        refine rg_take 5 (.bool true) rfl (by kernel_rfl) (by kernel_rfl) (by kernel_rfl) (fun _ _ _ h => h) rfl (fun w _ => ?_) hS ?_
        · go_simp
        simp only [List.getElem_toArray, List.getElem_cons_zero, List.getElem_cons_succ, Act.put, List.setIfInBounds_toArray, List.set_cons_zero, List.set_cons_succ]
        refine rg_take 6 (.bool true) rfl (by kernel_rfl) (by kernel_rfl) (by kernel_rfl) (fun _ _ _ h => h) rfl (fun w _ => ?_) hS ?_
        · go_simp
        simp only [List.getElem_toArray, List.getElem_cons_zero, List.getElem_cons_succ, Act.put, List.setIfInBounds_toArray, List.set_cons_zero, List.set_cons_succ]
        refine rg_want 7 (.pointer (some ⟨LM, 0, none⟩)) rfl (by kernel_rfl) (by kernel_rfl) (by kernel_rfl) (fun _ _ _ h => h) rfl (fun w _ => ?_) hS ?_
        · go_simp
        simp only [List.getElem_toArray, List.getElem_cons_zero, List.getElem_cons_succ, Act.put, List.setIfInBounds_toArray, List.set_cons_zero, List.set_cons_succ]
        refine rg_want 8 (intV ms mn) rfl (by kernel_rfl) (by kernel_rfl) (by kernel_rfl) (fun _ _ _ h => h) rfl (fun w hSw => ld_int (.tmp 55) rfl rfl hSw.r.num) hS ?_
        simp only [List.getElem_toArray, List.getElem_cons_zero, List.getElem_cons_succ, Act.put, List.setIfInBounds_toArray, List.set_cons_zero, List.set_cons_succ]
        refine rg_want 11 (.int .i64 (-c)) rfl (by kernel_rfl) (by kernel_rfl) (by kernel_rfl) (fun _ _ _ h => h) rfl (fun w _ => ?_) hS ?_
        · go_simp
        simp only [List.getElem_toArray, List.getElem_cons_zero, List.getElem_cons_succ, Act.put, List.setIfInBounds_toArray, List.set_cons_zero, List.set_cons_succ]
        refine rg_one 9 (by kernel_rfl) (rs_want rfl rfl (wp_call rfl enters_Of rfl (C5.out _) (fun V hV => ⟨hS.below hV, ?_⟩)))
        have hSv := hS.below hV
        clear hS hV
        have hS := hSv
        clear hSv
        simp only [List.getElem_toArray, List.getElem_cons_zero, List.getElem_cons_succ, Act.put, List.setIfInBounds_toArray, List.set_cons_zero, List.set_cons_succ]
        refine rg_one 10 (by kernel_rfl) (rs_want rfl rfl (wp_call rfl enters_Cmp rfl (C4.out _ Hc _) (fun V hV => ⟨hS.below hV, ?_⟩)))
        have hSv := hS.below hV
        clear hS hV
        have hS := hSv
        clear hSv
        simp only [List.getElem_toArray, List.getElem_cons_zero, List.getElem_cons_succ, Act.put, List.setIfInBounds_toArray, List.set_cons_zero, List.set_cons_succ]
        refine rg_want 12 (.bool false) rfl (by kernel_rfl) (by kernel_rfl) (by kernel_rfl) (fun _ _ _ h => h) rfl (fun w hSw => ne_self (x := .tmp 58) (y := .tmp 59) rfl rfl rfl) hS ?_
        simp only [List.getElem_toArray, List.getElem_cons_zero, List.getElem_cons_succ, Act.put, List.setIfInBounds_toArray, List.set_cons_zero, List.set_cons_succ]
        refine rg_take 13 (.bool false) rfl (by kernel_rfl) (by kernel_rfl) (by kernel_rfl) (fun _ _ _ h => h) rfl (fun w _ => ?_) hS ?_
        · go_simp
        simp only [List.getElem_toArray, List.getElem_cons_zero, List.getElem_cons_succ, Act.put, List.setIfInBounds_toArray, List.set_cons_zero, List.set_cons_succ]
        refine wpAnyH_done (by kernel_rfl) ?_ _
        go_wp2_with fail
        go_meet
        exact ⟨rfl, hS.o⟩
  case rest =>
    obtain ⟨rfl, ho⟩ := hcut
    have H4 := Lib.hid ho
    clear ho HM Hb1 Hb2 C3 C4 C5 Hcm Hrg
    by_cases hv : vld s n t d = true
    · have e1 : trS s n t d = sgn s (n / d) := if_pos hv
      have e2 : trN s n t d = n / d := if_pos hv
      have e3 : chk s n t d = 0 := if_pos hv
      rw [e1, e2, e3, errV_zero] at C6
      have fq : Hid (Fits (n / d)) := Nat.lt_of_le_of_lt (Nat.div_le_self n d) hn.out
      have hmk : Hid (∀ W, Calls Tryd.prog 15 #[intV (sgn s (n / d)) (n / d), intV false 1] W fun e w' => e = .returned (.tuple #[ratV (sgn s (n / d)) (n / d) false 1, .nilIface]) ∧ Below W.heap.size W w') := fun W => by
        have := Make_run (sgn s (n / d)) (n / d) false 1 W fq (fits_small 1 (by decide))
        rwa [(whole_mk s (n / d)).1, (whole_mk s (n / d)).2.1, (whole_mk s (n / d)).2.2.1, (whole_mk s (n / d)).2.2.2, errV_zero] at this
      have hsb := Lib.hid (fun W => RSub_run s n t d (sgn s (n / d)) (n / d) false 1 W hn hd fq (fits_small 1 (by decide)))
      rw [subV_eq] at hsb
      have hf := Lib.hid (mi_fits s n t d (sgn s (n / d)) (n / d) false 1)
      have hrc := Lib.hid (fun W => RCmp_run false (miN s n t d (sgn s (n / d)) (n / d) false 1) false (miD s n t d (sgn s (n / d)) (n / d) false 1) false 1 false 1 W hf.out.1 hf.out.2 (fits_small 1 (by decide)) (fits_small 1 (by decide)))
      have hlt : Hid (miK s n t d (sgn s (n / d)) (n / d) false 1 = 0 → _) := tr_less hv
      have O1 := Lib.hid (fun W => Of_run 1 W (by decide) (by decide))
      have hO1 : intV (decide ((1 : Int) < 0)) (1 : Int).natAbs = intV false 1 := rfl
      rw [hO1] at O1
      have O2 := Lib.hid (fun W => ROf_run 1 W (by decide) (by decide))
      have hO2 : ratV (decide ((1 : Int) < 0)) (1 : Int).natAbs false 1 = ratV false 1 false 1 := rfl
      rw [hO2] at O2
      clear e1 e2 e3 fq hf hO1 hO2 C7 hn hd hn' hd'
      generalize miS s n t d (sgn s (n / d)) (n / d) false 1 = gs at *
      generalize miN s n t d (sgn s (n / d)) (n / d) false 1 = gn at *
      generalize miD s n t d (sgn s (n / d)) (n / d) false 1 = gd at *
      generalize miK s n t d (sgn s (n / d)) (n / d) false 1 = gk at *
      generalize rcmpZ false gn false gd false 1 false 1 = cz at *
      generalize rcmpK false gn false gd false 1 false 1 = ck at *
      generalize sgn s (n / d) = z at *
      generalize n / d = q at *
      clear hv
      have RA_wc := Lib.hid H4.out.a
      have RB_wc := Lib.hid H4.out.b
      have B_wc := Lib.hid H4.out.bl
      have lRB_wc := H4.out.z
      have lRA_wc : S < wc.heap.size := by omega
      have Bs_wc : S ≤ wc.heap.size := by omega
      clear H4
      go_wp2_with ((with_reducible refine wpList_load_rat rfl (.tmp 2) rfl rfl RA_wc.out ?_))
      refine (C6.out _).mono ?_
      rintro e q1 ⟨rfl, hu1⟩
      have B_q1 := Lib.hid (B_wc.out.trans (hu1.mono Bs_wc))
      have Bs_q1 : S ≤ q1.heap.size := Nat.le_trans Bs_wc hu1.size
      have RA_q1 := Lib.hid (RA_wc.out.keep hu1 lRA_wc)
      have lRA_q1 : S < q1.heap.size := Nat.lt_of_lt_of_le lRA_wc (hu1.size)
      have RB_q1 := Lib.hid (RB_wc.out.keep hu1 lRB_wc)
      have lRB_q1 : (S + 1) < q1.heap.size := Nat.lt_of_lt_of_le lRB_wc (hu1.size)
      clear hu1 B_wc Bs_wc RA_wc lRA_wc RB_wc lRB_wc
      have P_q2 := put_int q1 (z) (q) 25
      obtain ⟨LI, hLI⟩ : ∃ LI, q1.heap.size = LI := ⟨_, rfl⟩
      have Z_q2 := IntAt.zero q1 25
      obtain ⟨a_q2, ha_q2⟩ : ∃ a, q1.alloc (boxIZ 25) = a := ⟨_, rfl⟩
      rw [ha_q2, hLI] at P_q2 Z_q2
      have HZ_q2 := Lib.hid Z_q2
      have hq_q2 := Bs_q1
      rw [hLI] at hq_q2
      have qRA_q2 := lRA_q1
      rw [hLI] at qRA_q2
      have qRB_q2 := lRB_q1
      rw [hLI] at qRB_q2
      have B'_q2 := Lib.hid (B_q1.out.trans (P_q2.2.1.mono hq_q2))
      have RA_q2' := Lib.hid (RA_q1.out.keep P_q2.2.1 qRA_q2)
      have RB_q2' := Lib.hid (RB_q1.out.keep P_q2.2.1 qRB_q2)
      have N_q2 := Lib.hid P_q2.1
      have z_q2 := Lib.hid P_q2.2.2
      clear P_q2 Z_q2 B_q1 Bs_q1 RA_q1 lRA_q1 RB_q1 lRB_q1
      go_upto_region 9 with (with_reducible refine wpList_store_int rfl (.tmp 11) (.tmp 65) rfl (b := LI) (s := z) (n := q) rfl rfl HZ_q2.out ?_)
      clear HZ_q2
      generalize st9 a_q2 LI (z) (q) = q2 at *
      have y_q2 := z_q2.out
      have RI_q2 := N_q2
      have B_q2 := B'_q2
      have Bs_q2 : S ≤ q2.heap.size := by omega
      have lRI_q2 : LI < q2.heap.size := by omega
      have RA_q2 := RA_q2'
      have lRA_q2 : S < q2.heap.size := by omega
      have RB_q2 := RB_q2'
      have lRB_q2 : (S + 1) < q2.heap.size := by omega
      clear y_q2 N_q2 B'_q2 ha_q2 hLI z_q2 hq_q2 RA_q2' qRA_q2 RB_q2' qRB_q2
      have HM : Hid (OrdI w q2 S s n t d s' n' t' d' LI z q) := ⟨⟨RA_q2.out, RB_q2.out, B_q2.out, lRB_q2⟩, RI_q2.out, lRI_q2⟩
      clear RA_q2 RB_q2 B_q2 lRB_q2 lRA_q2 RI_q2 lRI_q2 Bs_q2
      go_upto_region 11 with fail
      go_cut [13] (fun s13 wx => ∃ L, s13 = .pointer (some ⟨L, 0, none⟩) ∧ OrdR w wx S s n t d s' n' t' d' L z q 1)
      case first =>
        refine rg_begin (fun V => OrdI w V S s n t d s' n' t' d' LI z q) (by kernel_rfl) HM.out.drew (fun hS => ?_)
        refine rg_take 0 (intV z q) rfl (by kernel_rfl) (by kernel_rfl) (by kernel_rfl) (fun _ _ _ h => h) rfl (fun w hSw => ld_int (.tmp 11) rfl rfl hSw.r.o) hS ?_
        simp only [List.getElem_toArray, List.getElem_cons_zero, List.getElem_cons_succ, Act.put, List.setIfInBounds_toArray, List.set_cons_zero, List.set_cons_succ]
        generalize q2.drew = qd at *
        refine rg_two 1 6 (by kernel_rfl) ?_ ?_
        · refine (rs_of rfl rfl (wp_call rfl enters_Of rfl (O1.out _) (fun V1 hV => ⟨hS.below hV, ?_⟩)))
          have hSv := hS.below hV
          clear hS hV
          have hS := hSv
          clear hSv
          simp only [List.getElem_toArray, List.getElem_cons_zero, List.getElem_cons_succ, Act.put, List.setIfInBounds_toArray, List.set_cons_zero, List.set_cons_succ]
          refine rg_two 2 6 (by kernel_rfl) ?_ ?_
          · refine (rs_of rfl rfl (wp_call rfl enters_Make rfl (hmk.out _) (fun V2 hV => ⟨hS.below hV, ?_⟩)))
            have hSv := hS.below hV
            clear hS hV
            have hS := hSv
            clear hSv
            simp only [List.getElem_toArray, List.getElem_cons_zero, List.getElem_cons_succ, Act.put, List.setIfInBounds_toArray, List.set_cons_zero, List.set_cons_succ]
            refine rg_take 3 (.tuple #[ratV z q false 1, .nilIface]) rfl (by kernel_rfl) (by kernel_rfl) (by kernel_rfl) (fun _ _ _ h => h) rfl (fun w _ => ?_) hS ?_
            · go_simp
            simp only [List.getElem_toArray, List.getElem_cons_zero, List.getElem_cons_succ, Act.put, List.setIfInBounds_toArray, List.set_cons_zero, List.set_cons_succ]
            refine rg_take 4 (ratV z q false 1) rfl (by kernel_rfl) (by kernel_rfl) (by kernel_rfl) (fun _ _ _ h => h) rfl (fun w _ => ?_) hS ?_
            · go_simp
            simp only [List.getElem_toArray, List.getElem_cons_zero, List.getElem_cons_succ, Act.put, List.setIfInBounds_toArray, List.set_cons_zero, List.set_cons_succ]
            refine rg_take 5 (.nilIface) rfl (by kernel_rfl) (by kernel_rfl) (by kernel_rfl) (fun _ _ _ h => h) rfl (fun w _ => ?_) hS ?_
            · go_simp
            simp only [List.getElem_toArray, List.getElem_cons_zero, List.getElem_cons_succ, Act.put, List.setIfInBounds_toArray, List.set_cons_zero, List.set_cons_succ]
            refine rg_one 6 (by kernel_rfl) (rs_of rfl rfl (wp_value (alloc_rat rfl) ⟨hS.alloc _, ?_⟩))
            have hZa := RatAt.zero V2 27
            have hc1 : S + 1 < V2.heap.size := hS.o.z
            have hc2 : LI < V2.heap.size := hS.l
            have hSa := hS.alloc (boxRZ 27)
            have hla : V2.heap.size < (V2.alloc (boxRZ 27)).heap.size := by simp
            clear hS
            simp only [List.getElem_toArray, List.getElem_cons_zero, List.getElem_cons_succ, Act.put, List.setIfInBounds_toArray, List.set_cons_zero, List.set_cons_succ]
            obtain ⟨VA, hVA⟩ : ∃ V, V2.alloc (boxRZ 27) = V := ⟨_, rfl⟩
            obtain ⟨L, hL⟩ : ∃ L, V2.heap.size = L := ⟨_, rfl⟩
            rw [hVA, hL] at hZa hla
            rw [hVA] at hSa ⊢
            rw [hL] at hc1 hc2 ⊢
            have hS := hSa
            have hZ := hZa
            have hl := hla
            clear hSa hZa hla hVA hL
            have hE := hS.put hZ hc1 hc2 hl z q false 1
            refine rg_one 7 (by kernel_rfl) (rs_of rfl rfl (stores_rat (.tmp 13) (.tmp 79) rfl rfl rfl hZ ⟨hE.1, ?_⟩))
            have hZv := hE.2.1
            have hlv := hE.2.2
            have hSv := hE.1
            clear hS hZ hl hE
            have hS := hSv
            clear hSv
            simp only [List.getElem_toArray, List.getElem_cons_zero, List.getElem_cons_succ, Act.put, List.setIfInBounds_toArray, List.set_cons_zero, List.set_cons_succ]
            refine rg_take 8 (.nilIface) rfl (by kernel_rfl) (by kernel_rfl) (by kernel_rfl) (fun _ _ _ h => h) rfl (fun w _ => ?_) hS ?_
            · go_simp
            simp only [List.getElem_toArray, List.getElem_cons_zero, List.getElem_cons_succ, Act.put, List.setIfInBounds_toArray, List.set_cons_zero, List.set_cons_succ]
            refine wpAnyH_done (by kernel_rfl) ?_ _
            go_wp2_with fail
            go_meet
            exact ⟨_, rfl, hS.o, hZv, hlv⟩
          · refine (rs_of rfl rfl (wp_value (alloc_rat rfl) ⟨hS.alloc _, ?_⟩))
            have hZa := RatAt.zero V1 27
            have hc1 : S + 1 < V1.heap.size := hS.o.z
            have hc2 : LI < V1.heap.size := hS.l
            have hSa := hS.alloc (boxRZ 27)
            have hla : V1.heap.size < (V1.alloc (boxRZ 27)).heap.size := by simp
            clear hS
            simp only [List.getElem_toArray, List.getElem_cons_zero, List.getElem_cons_succ, Act.put, List.setIfInBounds_toArray, List.set_cons_zero, List.set_cons_succ]
            obtain ⟨VA, hVA⟩ : ∃ V, V1.alloc (boxRZ 27) = V := ⟨_, rfl⟩
            obtain ⟨L, hL⟩ : ∃ L, V1.heap.size = L := ⟨_, rfl⟩
            rw [hVA, hL] at hZa hla
            rw [hVA] at hSa ⊢
            rw [hL] at hc1 hc2 ⊢
            have hS := hSa
            have hZ := hZa
            have hl := hla
            clear hSa hZa hla hVA hL
            refine rg_one 2 (by kernel_rfl) (rs_of rfl rfl (wp_call rfl enters_Make rfl (hmk.out _) (fun V2 hV => ⟨hS.below hV, ?_⟩)))
            have hSv := hS.below hV
            have hZv := hZ.keep hV hl
            have hlv := Nat.lt_of_lt_of_le hl hV.size
            clear hS hV hZ hl
            have hS := hSv
            clear hSv
            have hZ := hZv
            have hl := hlv
            clear hZv hlv
            simp only [List.getElem_toArray, List.getElem_cons_zero, List.getElem_cons_succ, Act.put, List.setIfInBounds_toArray, List.set_cons_zero, List.set_cons_succ]
            refine rg_take 3 (.tuple #[ratV z q false 1, .nilIface]) rfl (by kernel_rfl) (by kernel_rfl) (by kernel_rfl) (fun _ _ _ h => h) rfl (fun w _ => ?_) hS ?_
            · go_simp
            simp only [List.getElem_toArray, List.getElem_cons_zero, List.getElem_cons_succ, Act.put, List.setIfInBounds_toArray, List.set_cons_zero, List.set_cons_succ]
            refine rg_take 4 (ratV z q false 1) rfl (by kernel_rfl) (by kernel_rfl) (by kernel_rfl) (fun _ _ _ h => h) rfl (fun w _ => ?_) hS ?_
            · go_simp
            simp only [List.getElem_toArray, List.getElem_cons_zero, List.getElem_cons_succ, Act.put, List.setIfInBounds_toArray, List.set_cons_zero, List.set_cons_succ]
            refine rg_take 5 (.nilIface) rfl (by kernel_rfl) (by kernel_rfl) (by kernel_rfl) (fun _ _ _ h => h) rfl (fun w _ => ?_) hS ?_
            · go_simp
            simp only [List.getElem_toArray, List.getElem_cons_zero, List.getElem_cons_succ, Act.put, List.setIfInBounds_toArray, List.set_cons_zero, List.set_cons_succ]
            have hE := hS.put hZ hc1 hc2 hl z q false 1
            refine rg_one 7 (by kernel_rfl) (rs_of rfl rfl (stores_rat (.tmp 13) (.tmp 79) rfl rfl rfl hZ ⟨hE.1, ?_⟩))
            have hZv := hE.2.1
            have hlv := hE.2.2
            have hSv := hE.1
            clear hS hZ hl hE
            have hS := hSv
            clear hSv
            simp only [List.getElem_toArray, List.getElem_cons_zero, List.getElem_cons_succ, Act.put, List.setIfInBounds_toArray, List.set_cons_zero, List.set_cons_succ]
            refine rg_take 8 (.nilIface) rfl (by kernel_rfl) (by kernel_rfl) (by kernel_rfl) (fun _ _ _ h => h) rfl (fun w _ => ?_) hS ?_
            · go_simp
            simp only [List.getElem_toArray, List.getElem_cons_zero, List.getElem_cons_succ, Act.put, List.setIfInBounds_toArray, List.set_cons_zero, List.set_cons_succ]
            refine wpAnyH_done (by kernel_rfl) ?_ _
            go_wp2_with fail
            go_meet
            exact ⟨_, rfl, hS.o, hZv, hlv⟩
        · refine (rs_of rfl rfl (wp_value (alloc_rat rfl) ⟨hS.alloc _, ?_⟩))
          have hZa := RatAt.zero qd 27
          have hc1 : S + 1 < qd.heap.size := hS.o.z
          have hc2 : LI < qd.heap.size := hS.l
          have hSa := hS.alloc (boxRZ 27)
          have hla : qd.heap.size < (qd.alloc (boxRZ 27)).heap.size := by simp
          clear hS
          simp only [List.getElem_toArray, List.getElem_cons_zero, List.getElem_cons_succ, Act.put, List.setIfInBounds_toArray, List.set_cons_zero, List.set_cons_succ]
          obtain ⟨VA, hVA⟩ : ∃ V, qd.alloc (boxRZ 27) = V := ⟨_, rfl⟩
          obtain ⟨L, hL⟩ : ∃ L, qd.heap.size = L := ⟨_, rfl⟩
          rw [hVA, hL] at hZa hla
          rw [hVA] at hSa ⊢
          rw [hL] at hc1 hc2 ⊢
          have hS := hSa
          have hZ := hZa
          have hl := hla
          clear hSa hZa hla hVA hL
          refine rg_one 1 (by kernel_rfl) (rs_of rfl rfl (wp_call rfl enters_Of rfl (O1.out _) (fun V1 hV => ⟨hS.below hV, ?_⟩)))
          have hSv := hS.below hV
          have hZv := hZ.keep hV hl
          have hlv := Nat.lt_of_lt_of_le hl hV.size
          clear hS hV hZ hl
          have hS := hSv
          clear hSv
          have hZ := hZv
          have hl := hlv
          clear hZv hlv
          simp only [List.getElem_toArray, List.getElem_cons_zero, List.getElem_cons_succ, Act.put, List.setIfInBounds_toArray, List.set_cons_zero, List.set_cons_succ]
          refine rg_one 2 (by kernel_rfl) (rs_of rfl rfl (wp_call rfl enters_Make rfl (hmk.out _) (fun V2 hV => ⟨hS.below hV, ?_⟩)))
          have hSv := hS.below hV
          have hZv := hZ.keep hV hl
          have hlv := Nat.lt_of_lt_of_le hl hV.size
          clear hS hV hZ hl
          have hS := hSv
          clear hSv
          have hZ := hZv
          have hl := hlv
          clear hZv hlv
          simp only [List.getElem_toArray, List.getElem_cons_zero, List.getElem_cons_succ, Act.put, List.setIfInBounds_toArray, List.set_cons_zero, List.set_cons_succ]
          refine rg_take 3 (.tuple #[ratV z q false 1, .nilIface]) rfl (by kernel_rfl) (by kernel_rfl) (by kernel_rfl) (fun _ _ _ h => h) rfl (fun w _ => ?_) hS ?_
          · go_simp
          simp only [List.getElem_toArray, List.getElem_cons_zero, List.getElem_cons_succ, Act.put, List.setIfInBounds_toArray, List.set_cons_zero, List.set_cons_succ]
          refine rg_take 4 (ratV z q false 1) rfl (by kernel_rfl) (by kernel_rfl) (by kernel_rfl) (fun _ _ _ h => h) rfl (fun w _ => ?_) hS ?_
          · go_simp
          simp only [List.getElem_toArray, List.getElem_cons_zero, List.getElem_cons_succ, Act.put, List.setIfInBounds_toArray, List.set_cons_zero, List.set_cons_succ]
          refine rg_take 5 (.nilIface) rfl (by kernel_rfl) (by kernel_rfl) (by kernel_rfl) (fun _ _ _ h => h) rfl (fun w _ => ?_) hS ?_
          · go_simp
          simp only [List.getElem_toArray, List.getElem_cons_zero, List.getElem_cons_succ, Act.put, List.setIfInBounds_toArray, List.set_cons_zero, List.set_cons_succ]
          have hE := hS.put hZ hc1 hc2 hl z q false 1
          refine rg_one 7 (by kernel_rfl) (rs_of rfl rfl (stores_rat (.tmp 13) (.tmp 79) rfl rfl rfl hZ ⟨hE.1, ?_⟩))
          have hZv := hE.2.1
          have hlv := hE.2.2
          have hSv := hE.1
          clear hS hZ hl hE
          have hS := hSv
          clear hSv
          simp only [List.getElem_toArray, List.getElem_cons_zero, List.getElem_cons_succ, Act.put, List.setIfInBounds_toArray, List.set_cons_zero, List.set_cons_succ]
          refine rg_take 8 (.nilIface) rfl (by kernel_rfl) (by kernel_rfl) (by kernel_rfl) (fun _ _ _ h => h) rfl (fun w _ => ?_) hS ?_
          · go_simp
          simp only [List.getElem_toArray, List.getElem_cons_zero, List.getElem_cons_succ, Act.put, List.setIfInBounds_toArray, List.set_cons_zero, List.set_cons_succ]
          refine wpAnyH_done (by kernel_rfl) ?_ _
          go_wp2_with fail
          go_meet
          exact ⟨_, rfl, hS.o, hZv, hlv⟩
      case rest =>
        obtain ⟨L, rfl, ho⟩ := hcut
        have H5 := Lib.hid ho
        clear ho HM O1 hmk
        have RA_wc := Lib.hid H5.out.o.a
        have RB_wc := Lib.hid H5.out.o.b
        have RM_wc := Lib.hid H5.out.r
        have B_wc := Lib.hid H5.out.o.bl
        have lRB_wc := H5.out.o.z
        have lRM_wc := H5.out.l
        have lRA_wc : S < wc.heap.size := by omega
        have Bs_wc : S ≤ wc.heap.size := by omega
        clear H5
        by_cases hg : gk = 0
        · obtain ⟨h1, h2⟩ := hlt.out hg
          rw [h1, h2, errV_zero] at hrc
          rw [hg, errV_zero] at hsb
          clear h1 h2 hg hlt
          go_wp2_with (first | ((with_reducible refine wpList_load_rat rfl (.tmp 2) rfl rfl RA_wc.out ?_)) | ((with_reducible refine wpList_load_rat rfl (.tmp 13) rfl rfl RM_wc.out ?_)))
          refine (hsb.out _).mono ?_
          rintro e r1 ⟨rfl, hu1⟩
          have B_r1 := Lib.hid (B_wc.out.trans (hu1.mono Bs_wc))
          have Bs_r1 : S ≤ r1.heap.size := Nat.le_trans Bs_wc hu1.size
          have RA_r1 := Lib.hid (RA_wc.out.keep hu1 lRA_wc)
          have lRA_r1 : S < r1.heap.size := Nat.lt_of_lt_of_le lRA_wc (hu1.size)
          have RB_r1 := Lib.hid (RB_wc.out.keep hu1 lRB_wc)
          have lRB_r1 : (S + 1) < r1.heap.size := Nat.lt_of_lt_of_le lRB_wc (hu1.size)
          have RM_r1 := Lib.hid (RM_wc.out.keep hu1 lRM_wc)
          have lRM_r1 : L < r1.heap.size := Nat.lt_of_lt_of_le lRM_wc (hu1.size)
          clear hu1 B_wc Bs_wc RA_wc lRA_wc RB_wc lRB_wc RM_wc lRM_wc
          have P_r2 := put_rat r1 (gs) (gn) (false) (gd) 27
          obtain ⟨LG, hLG⟩ : ∃ LG, r1.heap.size = LG := ⟨_, rfl⟩
          have Z_r2 := RatAt.zero r1 27
          obtain ⟨a_r2, ha_r2⟩ : ∃ a, r1.alloc (boxRZ 27) = a := ⟨_, rfl⟩
          rw [ha_r2, hLG] at P_r2 Z_r2
          have HZ_r2 := Lib.hid Z_r2
          have hq_r2 := Bs_r1
          rw [hLG] at hq_r2
          have qRA_r2 := lRA_r1
          rw [hLG] at qRA_r2
          have qRB_r2 := lRB_r1
          rw [hLG] at qRB_r2
          have B'_r2 := Lib.hid (B_r1.out.trans (P_r2.2.1.mono hq_r2))
          have RA_r2' := Lib.hid (RA_r1.out.keep P_r2.2.1 qRA_r2)
          have RB_r2' := Lib.hid (RB_r1.out.keep P_r2.2.1 qRB_r2)
          have N_r2 := Lib.hid P_r2.1
          have z_r2 := Lib.hid P_r2.2.2
          clear P_r2 Z_r2 B_r1 Bs_r1 RA_r1 lRA_r1 RB_r1 lRB_r1
          go_wp2_with (with_reducible refine wpList_store_rat rfl (.tmp 15) (.tmp 85) rfl (b := LG) (s := gs) (n := gn) (t := false) (d := gd) rfl rfl HZ_r2.out ?_)
          clear HZ_r2
          generalize st18 a_r2 LG (gs) (gn) (false) (gd) = r2 at *
          have y_r2 := z_r2.out
          have RG_r2 := N_r2
          have B_r2 := B'_r2
          have Bs_r2 : S ≤ r2.heap.size := by omega
          have lRG_r2 : LG < r2.heap.size := by omega
          have RA_r2 := RA_r2'
          have lRA_r2 : S < r2.heap.size := by omega
          have RB_r2 := RB_r2'
          have lRB_r2 : (S + 1) < r2.heap.size := by omega
          clear y_r2 N_r2 B'_r2 ha_r2 hLG z_r2 hq_r2 RA_r2' qRA_r2 RB_r2' qRB_r2
          have HG : Hid (OrdR w r2 S s n t d s' n' t' d' LG gs gn gd) := ⟨⟨RA_r2.out, RB_r2.out, B_r2.out, lRB_r2⟩, RG_r2.out, lRG_r2⟩
          clear RA_r2 RB_r2 B_r2 lRB_r2 lRA_r2 RG_r2 lRG_r2 Bs_r2 hsb
          refine rg_begin (fun V => OrdR w V S s n t d s' n' t' d' LG gs gn gd) (by kernel_rfl) HG.out.drew (fun hS => ?_)
          generalize r2.drew = rd at *
          clear HG
          refine rg_take 0 (.pointer (some ⟨LG, 0, none⟩)) rfl (by kernel_rfl) (by kernel_rfl) (by kernel_rfl) (fun _ _ _ h => h) rfl (fun w _ => ?_) hS ?_
          · go_simp
          simp only [List.getElem_toArray, List.getElem_cons_zero, List.getElem_cons_succ, Act.put, List.setIfInBounds_toArray, List.set_cons_zero, List.set_cons_succ]
          refine rg_take 1 (.pointer (some ⟨LG, 1, none⟩)) rfl (by kernel_rfl) (by kernel_rfl) (by kernel_rfl) (fun _ _ _ h => h) rfl (fun w _ => ?_) hS ?_
          · go_simp
          simp only [List.getElem_toArray, List.getElem_cons_zero, List.getElem_cons_succ, Act.put, List.setIfInBounds_toArray, List.set_cons_zero, List.set_cons_succ]
          refine rg_take 2 (wordsV gn) rfl (by kernel_rfl) (by kernel_rfl) (by kernel_rfl) (fun _ _ _ h => h) rfl (fun w hSw => ld_words (.tmp 92) rfl rfl hSw.r.num) hS ?_
          simp only [List.getElem_toArray, List.getElem_cons_zero, List.getElem_cons_succ, Act.put, List.setIfInBounds_toArray, List.set_cons_zero, List.set_cons_succ]
          refine rg_take 3 (intV false gn) rfl (by kernel_rfl) (by kernel_rfl) (by kernel_rfl) (fun _ _ _ h => h) rfl (fun w hSw => build_words rfl rfl) hS ?_
          simp only [List.getElem_toArray, List.getElem_cons_zero, List.getElem_cons_succ, Act.put, List.setIfInBounds_toArray, List.set_cons_zero, List.set_cons_succ]
          refine rg_take 4 (.pointer (some ⟨LG, 9, none⟩)) rfl (by kernel_rfl) (by kernel_rfl) (by kernel_rfl) (fun _ _ _ h => h) rfl (fun w _ => ?_) hS ?_
          · go_simp
          simp only [List.getElem_toArray, List.getElem_cons_zero, List.getElem_cons_succ, Act.put, List.setIfInBounds_toArray, List.set_cons_zero, List.set_cons_succ]
          refine rg_take 5 (intV false gd) rfl (by kernel_rfl) (by kernel_rfl) (by kernel_rfl) (fun _ _ _ h => h) rfl (fun w hSw => ld_int (.tmp 95) rfl rfl hSw.r.den) hS ?_
          simp only [List.getElem_toArray, List.getElem_cons_zero, List.getElem_cons_succ, Act.put, List.setIfInBounds_toArray, List.set_cons_zero, List.set_cons_succ]
          refine rg_take 6 (ratV false gn false gd) rfl (by kernel_rfl) (by kernel_rfl) (by kernel_rfl) (fun _ _ _ h => h) rfl (fun w hSw => build_rat rfl rfl rfl) hS ?_
          simp only [List.getElem_toArray, List.getElem_cons_zero, List.getElem_cons_succ, Act.put, List.setIfInBounds_toArray, List.set_cons_zero, List.set_cons_succ]
          refine rg_one 7 (by kernel_rfl) (rs_of rfl rfl (wp_call rfl enters_ROf rfl (O2.out _) (fun V1 hV => ⟨hS.below hV, ?_⟩)))
          have hSv := hS.below hV
          clear hS hV
          have hS := hSv
          clear hSv
          simp only [List.getElem_toArray, List.getElem_cons_zero, List.getElem_cons_succ, Act.put, List.setIfInBounds_toArray, List.set_cons_zero, List.set_cons_succ]
          refine rg_one 8 (by kernel_rfl) (rs_of rfl rfl (wp_call rfl enters_RCmp rfl (hrc.out _) (fun V2 hV => ⟨hS.below hV, ?_⟩)))
          have hSv := hS.below hV
          clear hS hV
          have hS := hSv
          clear hSv
          simp only [List.getElem_toArray, List.getElem_cons_zero, List.getElem_cons_succ, Act.put, List.setIfInBounds_toArray, List.set_cons_zero, List.set_cons_succ]
          refine rg_take 9 (.tuple #[.int .i64 (-1), .nilIface]) rfl (by kernel_rfl) (by kernel_rfl) (by kernel_rfl) (fun _ _ _ h => h) rfl (fun w _ => ?_) hS ?_
          · go_simp
          simp only [List.getElem_toArray, List.getElem_cons_zero, List.getElem_cons_succ, Act.put, List.setIfInBounds_toArray, List.set_cons_zero, List.set_cons_succ]
          refine rg_take 10 (.int .i64 (-1)) rfl (by kernel_rfl) (by kernel_rfl) (by kernel_rfl) (fun _ _ _ h => h) rfl (fun w _ => ?_) hS ?_
          · go_simp
          simp only [List.getElem_toArray, List.getElem_cons_zero, List.getElem_cons_succ, Act.put, List.setIfInBounds_toArray, List.set_cons_zero, List.set_cons_succ]
          refine rg_take 11 (.nilIface) rfl (by kernel_rfl) (by kernel_rfl) (by kernel_rfl) (fun _ _ _ h => h) rfl (fun w _ => ?_) hS ?_
          · go_simp
          simp only [List.getElem_toArray, List.getElem_cons_zero, List.getElem_cons_succ, Act.put, List.setIfInBounds_toArray, List.set_cons_zero, List.set_cons_succ]
          refine rg_take 12 (.int .i64 (-1)) rfl (by kernel_rfl) (by kernel_rfl) (by kernel_rfl) (fun _ _ _ h => h) rfl (fun w _ => ?_) hS ?_
          · go_simp
          simp only [List.getElem_toArray, List.getElem_cons_zero, List.getElem_cons_succ, Act.put, List.setIfInBounds_toArray, List.set_cons_zero, List.set_cons_succ]
          refine rg_take 13 (.nilIface) rfl (by kernel_rfl) (by kernel_rfl) (by kernel_rfl) (fun _ _ _ h => h) rfl (fun w _ => ?_) hS ?_
          · go_simp
          simp only [List.getElem_toArray, List.getElem_cons_zero, List.getElem_cons_succ, Act.put, List.setIfInBounds_toArray, List.set_cons_zero, List.set_cons_succ]
          refine wpAnyH_done (by kernel_rfl) ?_ _
          go_wp2_with fail
          refine (HW.out _).mono ?_
          rintro e V3 ⟨rfl, hV3⟩
          have hSv := hS.below hV3
          clear hS hV3
          go_wp2_with fail
          go_ret
          exact ⟨rfl, hSv.o.bl⟩
        · rw [errV_pos hg] at hsb
          clear hlt hrc O2
          go_wp2_with (first | ((with_reducible refine wpList_load_rat rfl (.tmp 2) rfl rfl RA_wc.out ?_)) | ((with_reducible refine wpList_load_rat rfl (.tmp 13) rfl rfl RM_wc.out ?_)))
          refine (hsb.out _).mono ?_
          rintro e z1 ⟨rfl, hu1⟩
          have B_z1 := Lib.hid (B_wc.out.trans (hu1.mono Bs_wc))
          have Bs_z1 : S ≤ z1.heap.size := Nat.le_trans Bs_wc hu1.size
          have RA_z1 := Lib.hid (RA_wc.out.keep hu1 lRA_wc)
          have lRA_z1 : S < z1.heap.size := Nat.lt_of_lt_of_le lRA_wc (hu1.size)
          have RB_z1 := Lib.hid (RB_wc.out.keep hu1 lRB_wc)
          have lRB_z1 : (S + 1) < z1.heap.size := Nat.lt_of_lt_of_le lRB_wc (hu1.size)
          have RM_z1 := Lib.hid (RM_wc.out.keep hu1 lRM_wc)
          have lRM_z1 : L < z1.heap.size := Nat.lt_of_lt_of_le lRM_wc (hu1.size)
          clear hu1 B_wc Bs_wc RA_wc lRA_wc RB_wc lRB_wc RM_wc lRM_wc
          have P_z2 := put_rat z1 (gs) (gn) (false) (gd) 27
          obtain ⟨LG, hLG⟩ : ∃ LG, z1.heap.size = LG := ⟨_, rfl⟩
          have Z_z2 := RatAt.zero z1 27
          obtain ⟨a_z2, ha_z2⟩ : ∃ a, z1.alloc (boxRZ 27) = a := ⟨_, rfl⟩
          rw [ha_z2, hLG] at P_z2 Z_z2
          have HZ_z2 := Lib.hid Z_z2
          have hq_z2 := Bs_z1
          rw [hLG] at hq_z2
          have qRA_z2 := lRA_z1
          rw [hLG] at qRA_z2
          have qRB_z2 := lRB_z1
          rw [hLG] at qRB_z2
          have B'_z2 := Lib.hid (B_z1.out.trans (P_z2.2.1.mono hq_z2))
          have RA_z2' := Lib.hid (RA_z1.out.keep P_z2.2.1 qRA_z2)
          have RB_z2' := Lib.hid (RB_z1.out.keep P_z2.2.1 qRB_z2)
          have N_z2 := Lib.hid P_z2.1
          have z_z2 := Lib.hid P_z2.2.2
          clear P_z2 Z_z2 B_z1 Bs_z1 RA_z1 lRA_z1 RB_z1 lRB_z1
          go_wp2_with (with_reducible refine wpList_store_rat rfl (.tmp 15) (.tmp 85) rfl (b := LG) (s := gs) (n := gn) (t := false) (d := gd) rfl rfl HZ_z2.out ?_)
          clear HZ_z2
          generalize st18 a_z2 LG (gs) (gn) (false) (gd) = z2 at *
          have y_z2 := z_z2.out
          have RG_z2 := N_z2
          have B_z2 := B'_z2
          have Bs_z2 : S ≤ z2.heap.size := by omega
          have lRG_z2 : LG < z2.heap.size := by omega
          have RA_z2 := RA_z2'
          have lRA_z2 : S < z2.heap.size := by omega
          have RB_z2 := RB_z2'
          have lRB_z2 : (S + 1) < z2.heap.size := by omega
          clear y_z2 N_z2 B'_z2 ha_z2 hLG z_z2 hq_z2 RA_z2' qRA_z2 RB_z2' qRB_z2
          refine (HW.out _).mono ?_
          rintro e z3 ⟨rfl, hz3⟩
          go_wp2_with fail
          go_ret
          exact ⟨rfl, B_z2.out.trans (hz3.mono Bs_z2)⟩
    · have e1 : trS s n t d = false := if_neg hv
      have e2 : trN s n t d = 0 := if_neg hv
      have e3 : chk s n t d = 8 := if_neg hv
      rw [e1, e2, e3, errV_pos (show (8 : Nat) ≠ 0 by decide)] at C6
      rw [e3, errV_pos (show (8 : Nat) ≠ 0 by decide)] at C7
      clear e1 e2 e3 hv hn hd hn' hd'
      have RA_wc := Lib.hid H4.out.a
      have RB_wc := Lib.hid H4.out.b
      have B_wc := Lib.hid H4.out.bl
      have lRB_wc := H4.out.z
      have lRA_wc : S < wc.heap.size := by omega
      have Bs_wc : S ≤ wc.heap.size := by omega
      clear H4
      go_wp2_with ((with_reducible refine wpList_load_rat rfl (.tmp 2) rfl rfl RA_wc.out ?_))
      refine (C6.out _).mono ?_
      rintro e p1 ⟨rfl, hu1⟩
      have B_p1 := Lib.hid (B_wc.out.trans (hu1.mono Bs_wc))
      have Bs_p1 : S ≤ p1.heap.size := Nat.le_trans Bs_wc hu1.size
      have RA_p1 := Lib.hid (RA_wc.out.keep hu1 lRA_wc)
      have lRA_p1 : S < p1.heap.size := Nat.lt_of_lt_of_le lRA_wc (hu1.size)
      have RB_p1 := Lib.hid (RB_wc.out.keep hu1 lRB_wc)
      have lRB_p1 : (S + 1) < p1.heap.size := Nat.lt_of_lt_of_le lRB_wc (hu1.size)
      clear hu1 B_wc Bs_wc RA_wc lRA_wc RB_wc lRB_wc
      have P_p2 := put_int p1 (false) (0) 25
      obtain ⟨LI, hLI⟩ : ∃ LI, p1.heap.size = LI := ⟨_, rfl⟩
      have Z_p2 := IntAt.zero p1 25
      obtain ⟨a_p2, ha_p2⟩ : ∃ a, p1.alloc (boxIZ 25) = a := ⟨_, rfl⟩
      rw [ha_p2, hLI] at P_p2 Z_p2
      have HZ_p2 := Lib.hid Z_p2
      have hq_p2 := Bs_p1
      rw [hLI] at hq_p2
      have qRA_p2 := lRA_p1
      rw [hLI] at qRA_p2
      have qRB_p2 := lRB_p1
      rw [hLI] at qRB_p2
      have B'_p2 := Lib.hid (B_p1.out.trans (P_p2.2.1.mono hq_p2))
      have RA_p2' := Lib.hid (RA_p1.out.keep P_p2.2.1 qRA_p2)
      have RB_p2' := Lib.hid (RB_p1.out.keep P_p2.2.1 qRB_p2)
      have N_p2 := Lib.hid P_p2.1
      have z_p2 := Lib.hid P_p2.2.2
      clear P_p2 Z_p2 B_p1 Bs_p1 RA_p1 lRA_p1 RB_p1 lRB_p1
      go_upto_region 9 with (with_reducible refine wpList_store_int rfl (.tmp 11) (.tmp 65) rfl (b := LI) (s := false) (n := 0) rfl rfl HZ_p2.out ?_)
      clear HZ_p2
      generalize st9 a_p2 LI (false) (0) = p2 at *
      have y_p2 := z_p2.out
      have RI_p2 := N_p2
      have B_p2 := B'_p2
      have Bs_p2 : S ≤ p2.heap.size := by omega
      have lRI_p2 : LI < p2.heap.size := by omega
      have RA_p2 := RA_p2'
      have lRA_p2 : S < p2.heap.size := by omega
      have RB_p2 := RB_p2'
      have lRB_p2 : (S + 1) < p2.heap.size := by omega
      clear y_p2 N_p2 B'_p2 ha_p2 hLI z_p2 hq_p2 RA_p2' qRA_p2 RB_p2' qRB_p2
      go_wp2_with ((with_reducible refine wpList_load_rat rfl (.tmp 2) rfl rfl RA_p2.out ?_))
      refine (C7.out _).mono ?_
      rintro e p3 ⟨rfl, hu3⟩
      have B_p3 := Lib.hid (B_p2.out.trans (hu3.mono Bs_p2))
      have Bs_p3 : S ≤ p3.heap.size := Nat.le_trans Bs_p2 hu3.size
      have RA_p3 := Lib.hid (RA_p2.out.keep hu3 lRA_p2)
      have lRA_p3 : S < p3.heap.size := Nat.lt_of_lt_of_le lRA_p2 (hu3.size)
      clear hu3 B_p2 Bs_p2 RA_p2 lRA_p2
      go_wp2_with fail
      refine (HW.out _).mono ?_
      rintro e p4 ⟨rfl, hp4⟩
      go_wp2_with fail
      go_ret
      exact ⟨rfl, B_p3.out.trans (hp4.mono Bs_p3)⟩
end Go.Proofs.YtbcnpajdmlbieaaDoor
