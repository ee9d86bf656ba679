/-
  Stage 8: the law RatioStays.
-/
import Derived.Test.YtbcnpajdmlbieaaDoorRtLawKit
namespace Go.Proofs.YtbcnpajdmlbieaaDoor
open Go.RowKit Go.Sort
set_option linter.unusedSimpArgs false

theorem st_add {s n t d s' n' t' d'} (h : plK s n t d s' n' t' d' = 0) : chk (plS s n t d s' n' t' d') (plN s n t d s' n' t' d') false (plD s n t d s' n' t' d') = 0 := if_pos (pl_ok h).2.2.1
theorem st_quo {s n t d s' n' t' d'} (h : quK s n t d s' n' t' d' = 0) : chk (quS s n t d s' n' t' d') (quN s n t d s' n' t' d') false (quD s n t d s' n' t' d') = 0 := if_pos (qu_ok h).2.2.2.1
theorem st_mul {s n t d s' n' t' d'} (h : muK s n t d s' n' t' d' = 0) : chk (muS s n t d s' n' t' d') (muN s n t d s' n' t' d') false (muD s n t d s' n' t' d') = 0 := if_pos (mu_ok h).2.2.1
theorem enters_works : EntersP Tryd.prog 10 := entersP_of Tryd.func10 (by kernel_rfl) rfl
theorem enters_RCheck : EntersP Tryd.prog 7 := entersP_of Tryd.func7 (by kernel_rfl) rfl
/-- Two boxes that hold the same. -/
structure TwoX (w V : World) (S X Y : Nat) (xs : Bool) (xn xd : Nat) : Prop where
  x : RatAt V X xs xn false xd
  y : RatAt V Y xs xn false xd
  bl : Below S w V
  z : S ≤ V.heap.size
  lx : X < V.heap.size
  ly : Y < V.heap.size
theorem TwoX.below {w V V' : World} {S X Y : Nat} {xs : Bool} {xn xd : Nat} (h : TwoX w V S X Y xs xn xd) (g : Below V.heap.size V V') : TwoX w V' S X Y xs xn xd :=
  ⟨h.x.keep g h.lx, h.y.keep g h.ly, h.bl.trans (g.mono h.z), Nat.le_trans h.z g.size, Nat.lt_of_lt_of_le h.lx g.size, Nat.lt_of_lt_of_le h.ly g.size⟩
theorem TwoX.drew {w V : World} {S X Y : Nat} {xs : Bool} {xn xd : Nat} (h : TwoX w V S X Y xs xn xd) : TwoX w V.drew S X Y xs xn xd := ⟨h.x.drew, h.y.drew, h.bl.drew, h.z, h.lx, h.ly⟩
/-- What holds of a call, its undoing and the check of what it answers. -/
structure Undo (ps : Bool) (pn pd pk : Nat) (ms : Bool) (mn md mk : Nat) (s : Bool) (n : Nat) (t : Bool) (d : Nat) : Prop where
  ok : pk = 0 → chk ps pn false pd = 0
  back : pk = 0 → mk = 0 → t = false ∧ ms = s ∧ mn = n ∧ md = d
  fp : Fits pn ∧ Fits pd
  fm : Fits mn ∧ Fits md
theorem undo_add (s n t d s' n' t' d') : Undo (plS s n t d s' n' t' d') (plN s n t d s' n' t' d') (plD s n t d s' n' t' d') (plK s n t d s' n' t' d') (miS (plS s n t d s' n' t' d') (plN s n t d s' n' t' d') false (plD s n t d s' n' t' d') s' n' t' d') (miN (plS s n t d s' n' t' d') (plN s n t d s' n' t' d') false (plD s n t d s' n' t' d') s' n' t' d') (miD (plS s n t d s' n' t' d') (plN s n t d s' n' t' d') false (plD s n t d s' n' t' d') s' n' t' d') (miK (plS s n t d s' n' t' d') (plN s n t d s' n' t' d') false (plD s n t d s' n' t' d') s' n' t' d') s n t d :=
  ⟨st_add, pl_mi, pl_fits .., mi_fits ..⟩
theorem undo_quo (s n t d s' n' t' d') : Undo (quS s n t d s' n' t' d') (quN s n t d s' n' t' d') (quD s n t d s' n' t' d') (quK s n t d s' n' t' d') (muS (quS s n t d s' n' t' d') (quN s n t d s' n' t' d') false (quD s n t d s' n' t' d') s' n' t' d') (muN (quS s n t d s' n' t' d') (quN s n t d s' n' t' d') false (quD s n t d s' n' t' d') s' n' t' d') (muD (quS s n t d s' n' t' d') (quN s n t d s' n' t' d') false (quD s n t d s' n' t' d') s' n' t' d') (muK (quS s n t d s' n' t' d') (quN s n t d s' n' t' d') false (quD s n t d s' n' t' d') s' n' t' d') s n t d :=
  ⟨st_quo, qu_mu, qu_fits .., mu_fits ..⟩
set_option maxRecDepth 100000 in
set_option maxHeartbeats 8000000 in
theorem stays_run (s : Bool) (n : Nat) (t : Bool) (d : Nat) (s' : Bool) (n' : Nat) (t' : Bool) (d' : Nat) (w : World) (hn : Hid (Fits n)) (hd : Hid (Fits d)) (hn' : Hid (Fits n')) (hd' : Hid (Fits d')) :
    Calls Tryd.prog 3 #[ratV s n t d, ratV s' n' t' d'] w fun e w' => e = .returned (.bool true) ∧ Below w.heap.size w w' := by
  obtain ⟨S, hS⟩ : ∃ S, w.heap.size = S := ⟨_, rfl⟩
  obtain ⟨W, hW⟩ : ∃ W, (w.alloc (boxR s n t d 27)).alloc (boxR s' n' t' d' 27) = W := ⟨_, rfl⟩
  have T := op_boxes2 w s n t d s' n' t' d' 27
  rw [hW, hS] at T
  rw [hS]
  have RA_W := Lib.hid T.1
  have RB_W := Lib.hid T.2.1
  have B_W := Lib.hid T.2.2.1
  have Bs_W : S ≤ W.heap.size := by have := T.2.2.2; omega
  have lRA_W : S < W.heap.size := by have := T.2.2.2; omega
  have lRB_W : S + 1 < W.heap.size := by have := T.2.2.2; omega
  clear T
  have Fp := pl_fits s n t d s' n' t' d'
  have Fq := qu_fits s n t d s' n' t' d'
  have Fx := mu_fits s n t d s' n' t' d'
  have C1 : Hid (∀ W, Calls Tryd.prog 5 #[ratV s n t d, ratV s' n' t' d'] W fun e w' => e = .returned (.tuple #[ratV (plS s n t d s' n' t' d') (plN s n t d s' n' t' d') false (plD s n t d s' n' t' d'), errV (plK s n t d s' n' t' d')]) ∧ Below W.heap.size W w') := fun W => by
    have := RAdd_run s n t d s' n' t' d' W hn hd hn' hd'
    rwa [addV_eq] at this
  have C2 : Hid (∀ W, Calls Tryd.prog 6 #[ratV (plS s n t d s' n' t' d') (plN s n t d s' n' t' d') false (plD s n t d s' n' t' d'), ratV s' n' t' d'] W fun e w' => e = .returned (.tuple #[ratV (miS (plS s n t d s' n' t' d') (plN s n t d s' n' t' d') false (plD s n t d s' n' t' d') s' n' t' d') (miN (plS s n t d s' n' t' d') (plN s n t d s' n' t' d') false (plD s n t d s' n' t' d') s' n' t' d') false (miD (plS s n t d s' n' t' d') (plN s n t d s' n' t' d') false (plD s n t d s' n' t' d') s' n' t' d'), errV (miK (plS s n t d s' n' t' d') (plN s n t d s' n' t' d') false (plD s n t d s' n' t' d') s' n' t' d')]) ∧ Below W.heap.size W w') := fun W => by
    have := RSub_run (plS s n t d s' n' t' d') (plN s n t d s' n' t' d') false (plD s n t d s' n' t' d') s' n' t' d' W Fp.1 Fp.2 hn' hd'
    rwa [subV_eq] at this
  have C3 : Hid (∀ W, Calls Tryd.prog 7 #[ratV (plS s n t d s' n' t' d') (plN s n t d s' n' t' d') false (plD s n t d s' n' t' d')] W fun e w' => e = .returned (errV (chk (plS s n t d s' n' t' d') (plN s n t d s' n' t' d') false (plD s n t d s' n' t' d'))) ∧ Below W.heap.size W w') := fun W => Check_run (plS s n t d s' n' t' d') (plN s n t d s' n' t' d') false (plD s n t d s' n' t' d') W Fp.1 Fp.2
  have C4 : Hid (∀ W, Calls Tryd.prog 8 #[ratV s n t d, ratV s' n' t' d'] W fun e w' => e = .returned (.tuple #[ratV (quS s n t d s' n' t' d') (quN s n t d s' n' t' d') false (quD s n t d s' n' t' d'), errV (quK s n t d s' n' t' d')]) ∧ Below W.heap.size W w') := fun W => by
    have := RQuo_run s n t d s' n' t' d' W hn hd hn' hd'
    rwa [quoV_eq] at this
  have C5 : Hid (∀ W, Calls Tryd.prog 9 #[ratV (quS s n t d s' n' t' d') (quN s n t d s' n' t' d') false (quD s n t d s' n' t' d'), ratV s' n' t' d'] W fun e w' => e = .returned (.tuple #[ratV (muS (quS s n t d s' n' t' d') (quN s n t d s' n' t' d') false (quD s n t d s' n' t' d') s' n' t' d') (muN (quS s n t d s' n' t' d') (quN s n t d s' n' t' d') false (quD s n t d s' n' t' d') s' n' t' d') false (muD (quS s n t d s' n' t' d') (quN s n t d s' n' t' d') false (quD s n t d s' n' t' d') s' n' t' d'), errV (muK (quS s n t d s' n' t' d') (quN s n t d s' n' t' d') false (quD s n t d s' n' t' d') s' n' t' d')]) ∧ Below W.heap.size W w') := fun W => by
    have := RMul_run (quS s n t d s' n' t' d') (quN s n t d s' n' t' d') false (quD s n t d s' n' t' d') s' n' t' d' W Fq.1 Fq.2 hn' hd'
    rwa [mulV_eq] at this
  have C6 : Hid (∀ W, Calls Tryd.prog 7 #[ratV (quS s n t d s' n' t' d') (quN s n t d s' n' t' d') false (quD s n t d s' n' t' d')] W fun e w' => e = .returned (errV (chk (quS s n t d s' n' t' d') (quN s n t d s' n' t' d') false (quD s n t d s' n' t' d'))) ∧ Below W.heap.size W w') := fun W => Check_run (quS s n t d s' n' t' d') (quN s n t d s' n' t' d') false (quD s n t d s' n' t' d') W Fq.1 Fq.2
  have C7 : Hid (∀ W, Calls Tryd.prog 9 #[ratV s n t d, ratV s' n' t' d'] W fun e w' => e = .returned (.tuple #[ratV (muS s n t d s' n' t' d') (muN s n t d s' n' t' d') false (muD s n t d s' n' t' d'), errV (muK s n t d s' n' t' d')]) ∧ Below W.heap.size W w') := fun W => by
    have := RMul_run s n t d s' n' t' d' W hn hd hn' hd'
    rwa [mulV_eq] at this
  have C8 : Hid (∀ W, Calls Tryd.prog 9 #[ratV s' n' t' d', ratV s n t d] W fun e w' => e = .returned (.tuple #[ratV (muS s n t d s' n' t' d') (muN s n t d s' n' t' d') false (muD s n t d s' n' t' d'), errV (muK s n t d s' n' t' d')]) ∧ Below W.heap.size W w') := fun W => by
    have := RMul_run s' n' t' d' s n t d W hn' hd' hn hd
    rwa [mulV_eq, ← (mu_comm (s := s) (n := n) (t := t) (d := d) (s' := s') (n' := n') (t' := t') (d' := d')).1, ← (mu_comm (s := s) (n := n) (t := t) (d := d) (s' := s') (n' := n') (t' := t') (d' := d')).2.1, ← (mu_comm (s := s) (n := n) (t := t) (d := d) (s' := s') (n' := n') (t' := t') (d' := d')).2.2.1, ← (mu_comm (s := s) (n := n) (t := t) (d := d) (s' := s') (n' := n') (t' := t') (d' := d')).2.2.2] at this
  have C9 : Hid (∀ W, Calls Tryd.prog 7 #[ratV (muS s n t d s' n' t' d') (muN s n t d s' n' t' d') false (muD s n t d s' n' t' d')] W fun e w' => e = .returned (errV (chk (muS s n t d s' n' t' d') (muN s n t d s' n' t' d') false (muD s n t d s' n' t' d'))) ∧ Below W.heap.size W w') := fun W => Check_run (muS s n t d s' n' t' d') (muN s n t d s' n' t' d') false (muD s n t d s' n' t' d') W Fx.1 Fx.2
  have U1 := Lib.hid (undo_add s n t d s' n' t' d')
  have U2 := Lib.hid (undo_quo s n t d s' n' t' d')
  have hxx : Hid (muK s n t d s' n' t' d' = 0 → chk (muS s n t d s' n' t' d') (muN s n t d s' n' t' d') false (muD s n t d s' n' t' d') = 0) := st_mul
  have hfx := Lib.hid Fx
  have hfa := Lib.hid (And.intro hn.out hd.out)
  clear Fp Fq Fx hn hd hn' hd'
  generalize plS s n t d s' n' t' d' = ps at *
  generalize plN s n t d s' n' t' d' = pn at *
  generalize plD s n t d s' n' t' d' = pd at *
  generalize plK s n t d s' n' t' d' = pk at *
  generalize miS ps pn false pd s' n' t' d' = ms at *
  generalize miN ps pn false pd s' n' t' d' = mn at *
  generalize miD ps pn false pd s' n' t' d' = md at *
  generalize miK ps pn false pd s' n' t' d' = mk at *
  generalize quS s n t d s' n' t' d' = qs at *
  generalize quN s n t d s' n' t' d' = qn at *
  generalize quD s n t d s' n' t' d' = qd at *
  generalize quK s n t d s' n' t' d' = qk at *
  generalize muS s n t d s' n' t' d' = xs at *
  generalize muN s n t d s' n' t' d' = xn at *
  generalize muD s n t d s' n' t' d' = xd at *
  generalize muK s n t d s' n' t' d' = xk at *
  generalize muS qs qn false qd s' n' t' d' = rs at *
  generalize muN qs qn false qd s' n' t' d' = rn at *
  generalize muD qs qn false qd s' n' t' d' = rd at *
  generalize muK qs qn false qd s' n' t' d' = rk at *
  have HW := Lib.hid (fun W => works_run W)
  go_enter Tryd.func3, Tryd.ntmps3
  go_wp2_with (first | ((with_reducible refine wpList_box_rat rfl (.tmp 0) rfl rfl ?_)) | ((with_reducible refine wpList_box_rat rfl (.tmp 1) rfl rfl ?_)) | ((with_reducible refine wpList_load_rat rfl (.tmp 2) rfl rfl RA_W.out ?_)) | ((with_reducible refine wpList_load_rat rfl (.tmp 3) rfl rfl RB_W.out ?_)))
  refine (C1.out _).mono ?_
  rintro e u1 ⟨rfl, hu1⟩
  have B_u1 := Lib.hid (B_W.out.trans (hu1.mono Bs_W))
  have Bs_u1 : S ≤ u1.heap.size := Nat.le_trans Bs_W hu1.size
  have RA_u1 := Lib.hid (RA_W.out.keep hu1 lRA_W)
  have lRA_u1 : S < u1.heap.size := Nat.lt_of_lt_of_le lRA_W (hu1.size)
  have RB_u1 := Lib.hid (RB_W.out.keep hu1 lRB_W)
  have lRB_u1 : (S + 1) < u1.heap.size := Nat.lt_of_lt_of_le lRB_W (hu1.size)
  clear hu1 B_W Bs_W RA_W lRA_W RB_W lRB_W
  obtain ⟨bp, hbp⟩ : ∃ b, decide (pk = 0) = b := ⟨_, rfl⟩
  have Hbp := Lib.hid hbp
  clear hbp
  have P_u2 := put_rat u1 (ps) (pn) (false) (pd) 27
  obtain ⟨Lp, hLp⟩ : ∃ Lp, u1.heap.size = Lp := ⟨_, rfl⟩
  have Z_u2 := RatAt.zero u1 27
  obtain ⟨a_u2, ha_u2⟩ : ∃ a, u1.alloc (boxRZ 27) = a := ⟨_, rfl⟩
  rw [ha_u2, hLp] at P_u2 Z_u2
  have HZ_u2 := Lib.hid Z_u2
  have hq_u2 := Bs_u1
  rw [hLp] at hq_u2
  have qRA_u2 := lRA_u1
  rw [hLp] at qRA_u2
  have qRB_u2 := lRB_u1
  rw [hLp] at qRB_u2
  have B'_u2 := Lib.hid (B_u1.out.trans (P_u2.2.1.mono hq_u2))
  have RA_u2' := Lib.hid (RA_u1.out.keep P_u2.2.1 qRA_u2)
  have RB_u2' := Lib.hid (RB_u1.out.keep P_u2.2.1 qRB_u2)
  have N_u2 := Lib.hid P_u2.1
  have z_u2 := Lib.hid P_u2.2.2
  clear P_u2 Z_u2 B_u1 Bs_u1 RA_u1 lRA_u1 RB_u1 lRB_u1
  go_upto_if 24 with (first | (with_reducible refine wpList_val (v := .bool bp) rfl (eqn_run' (hb := Hbp.out) (x := .tmp 23) rfl (k := pk) rfl) ?_) |  (with_reducible refine wpList_store_rat rfl (.tmp 5) (.tmp 21) rfl (b := Lp) (s := ps) (n := pn) (t := false) (d := pd) rfl rfl HZ_u2.out ?_))
  clear HZ_u2
  generalize st18 a_u2 Lp (ps) (pn) (false) (pd) = u2 at *
  have y_u2 := z_u2.out
  have RP_u2 := N_u2
  have B_u2 := B'_u2
  have Bs_u2 : S ≤ u2.heap.size := by omega
  have lRP_u2 : Lp < u2.heap.size := by omega
  have RA_u2 := RA_u2'
  have lRA_u2 : S < u2.heap.size := by omega
  have RB_u2 := RB_u2'
  have lRB_u2 : (S + 1) < u2.heap.size := by omega
  clear y_u2 N_u2 B'_u2 ha_u2 hLp z_u2 hq_u2 RA_u2' qRA_u2 RB_u2' qRB_u2
  simp only [List.getElem_toArray, List.getElem_cons_zero, List.getElem_cons_succ, Act.put, List.setIfInBounds_toArray, List.set_cons_zero, List.set_cons_succ]
  go_cut [] (fun wx => RatAt wx S s n t d ∧ RatAt wx (S + 1) s' n' t' d' ∧ Below S w wx ∧ S + 1 < wx.heap.size)
  case first =>
    cases bp
    · go_wp2_with fail
      go_meet
      exact ⟨RA_u2.out, RB_u2.out, B_u2.out, lRB_u2⟩
    · have hpk : pk = 0 := of_decide_eq_true Hbp.out
      have hck := U1.out.ok hpk
      rw [hck, errV_zero] at C3
      obtain ⟨bm, hbm⟩ : ∃ b, decide (mk = 0) = b := ⟨_, rfl⟩
      have Hbm := Lib.hid hbm
      have HU : Hid (bm = true → (decide (ms = s ∧ mn = n) && decide (false = t ∧ md = d)) = true) := fun h => by
        obtain ⟨h1, h2, h3, h4⟩ := U1.out.back hpk (of_decide_eq_true (hbm.trans h))
        subst h1 h2 h3 h4
        simp
      have hfm := Lib.hid U1.out.fm
      clear hpk hck hbm
      go_wp2_with (first | ((with_reducible refine wpList_load_rat rfl (.tmp 5) rfl rfl RP_u2.out ?_)) | ((with_reducible refine wpList_load_rat rfl (.tmp 3) rfl rfl RB_u2.out ?_)))
      refine (C2.out _).mono ?_
      rintro e u3 ⟨rfl, hu3⟩
      have B_u3 := Lib.hid (B_u2.out.trans (hu3.mono Bs_u2))
      have Bs_u3 : S ≤ u3.heap.size := Nat.le_trans Bs_u2 hu3.size
      have RA_u3 := Lib.hid (RA_u2.out.keep hu3 lRA_u2)
      have lRA_u3 : S < u3.heap.size := Nat.lt_of_lt_of_le lRA_u2 (hu3.size)
      have RB_u3 := Lib.hid (RB_u2.out.keep hu3 lRB_u2)
      have lRB_u3 : (S + 1) < u3.heap.size := Nat.lt_of_lt_of_le lRB_u2 (hu3.size)
      have RP_u3 := Lib.hid (RP_u2.out.keep hu3 lRP_u2)
      have lRP_u3 : Lp < u3.heap.size := Nat.lt_of_lt_of_le lRP_u2 (hu3.size)
      clear hu3 B_u2 Bs_u2 RA_u2 lRA_u2 RB_u2 lRB_u2 RP_u2 lRP_u2
      have P_u4 := put_rat u3 (ms) (mn) (false) (md) 27
      obtain ⟨Lm, hLm⟩ : ∃ Lm, u3.heap.size = Lm := ⟨_, rfl⟩
      have Z_u4 := RatAt.zero u3 27
      obtain ⟨a_u4, ha_u4⟩ : ∃ a, u3.alloc (boxRZ 27) = a := ⟨_, rfl⟩
      rw [ha_u4, hLm] at P_u4 Z_u4
      have HZ_u4 := Lib.hid Z_u4
      have hq_u4 := Bs_u3
      rw [hLm] at hq_u4
      have qRA_u4 := lRA_u3
      rw [hLm] at qRA_u4
      have qRB_u4 := lRB_u3
      rw [hLm] at qRB_u4
      have qRP_u4 := lRP_u3
      rw [hLm] at qRP_u4
      have B'_u4 := Lib.hid (B_u3.out.trans (P_u4.2.1.mono hq_u4))
      have RA_u4' := Lib.hid (RA_u3.out.keep P_u4.2.1 qRA_u4)
      have RB_u4' := Lib.hid (RB_u3.out.keep P_u4.2.1 qRB_u4)
      have RP_u4' := Lib.hid (RP_u3.out.keep P_u4.2.1 qRP_u4)
      have N_u4 := Lib.hid P_u4.1
      have z_u4 := Lib.hid P_u4.2.2
      clear P_u4 Z_u4 B_u3 Bs_u3 RA_u3 lRA_u3 RB_u3 lRB_u3 RP_u3 lRP_u3
      go_upto_region 4 with (with_reducible refine wpList_store_rat rfl (.tmp 7) (.tmp 29) rfl (b := Lm) (s := ms) (n := mn) (t := false) (d := md) rfl rfl HZ_u4.out ?_)
      clear HZ_u4
      generalize st18 a_u4 Lm (ms) (mn) (false) (md) = u4 at *
      have y_u4 := z_u4.out
      have RM_u4 := N_u4
      have B_u4 := B'_u4
      have Bs_u4 : S ≤ u4.heap.size := by omega
      have lRM_u4 : Lm < u4.heap.size := by omega
      have RA_u4 := RA_u4'
      have lRA_u4 : S < u4.heap.size := by omega
      have RB_u4 := RB_u4'
      have lRB_u4 : (S + 1) < u4.heap.size := by omega
      have RP_u4 := RP_u4'
      have lRP_u4 : Lp < u4.heap.size := by omega
      clear y_u4 N_u4 B'_u4 ha_u4 hLm z_u4 hq_u4 RA_u4' qRA_u4 RB_u4' qRB_u4 RP_u4' qRP_u4
      go_wp2_with ((with_reducible refine wpList_load_rat rfl (.tmp 5) rfl rfl RP_u4.out ?_))
      refine (C3.out _).mono ?_
      rintro e u5 ⟨rfl, hu5⟩
      have B_u5 := Lib.hid (B_u4.out.trans (hu5.mono Bs_u4))
      have Bs_u5 : S ≤ u5.heap.size := Nat.le_trans Bs_u4 hu5.size
      have RA_u5 := Lib.hid (RA_u4.out.keep hu5 lRA_u4)
      have lRA_u5 : S < u5.heap.size := Nat.lt_of_lt_of_le lRA_u4 (hu5.size)
      have RB_u5 := Lib.hid (RB_u4.out.keep hu5 lRB_u4)
      have lRB_u5 : (S + 1) < u5.heap.size := Nat.lt_of_lt_of_le lRB_u4 (hu5.size)
      have RP_u5 := Lib.hid (RP_u4.out.keep hu5 lRP_u4)
      have lRP_u5 : Lp < u5.heap.size := Nat.lt_of_lt_of_le lRP_u4 (hu5.size)
      have RM_u5 := Lib.hid (RM_u4.out.keep hu5 lRM_u4)
      have lRM_u5 : Lm < u5.heap.size := Nat.lt_of_lt_of_le lRM_u4 (hu5.size)
      clear hu5 B_u4 Bs_u4 RA_u4 lRA_u4 RB_u4 lRB_u4 RP_u4 lRP_u4 RM_u4 lRM_u4
      cases bm
      · go_wp2_with (first | (with_reducible refine wpList_val (v := .bool false) rfl (eqn_run' (hb := Hbm.out) (x := .tmp 35) rfl (k := mk) rfl) ?_))
        go_meet
        exact ⟨RA_u5.out, RB_u5.out, B_u5.out, lRB_u5⟩
      · have HN := Lib.hid (HU.out rfl)
        go_wp2_with (first | (with_reducible refine wpList_val (v := .bool true) rfl (eqn_run' (hb := Hbm.out) (x := .tmp 35) rfl (k := mk) rfl) ?_) | ((with_reducible refine wpList_load_rat_w ?hw1 (.tmp 7) rfl rfl RM_u5.out ?_); case hw1 => rfl) | ((with_reducible refine wpList_load_rat_w ?hw2 (.tmp 2) rfl rfl RA_u5.out ?_); case hw2 => rfl) | (with_reducible refine wpList_val (v := .bool false) rfl (ner_run' (x := .tmp 38) (y := .tmp 39) HN.out rfl rfl rfl hfm.out.1 hfm.out.2 hfa.out.1 hfa.out.2) ?_))
        go_meet
        exact ⟨RA_u5.out, RB_u5.out, B_u5.out, lRB_u5⟩
  case rest =>
    obtain ⟨ra, rb, bl, sz⟩ := hcut
    have RA_wc := Lib.hid ra
    have RB_wc := Lib.hid rb
    have B_wc := Lib.hid bl
    have Bs_wc : S ≤ wc.heap.size := Nat.le_trans (Nat.le_of_eq hS.symm) bl.size
    have lRA_wc : S < wc.heap.size := Nat.lt_of_succ_lt sz
    have lRB_wc : S + 1 < wc.heap.size := sz
    clear ra rb bl sz Hbp C1 C2 C3 U1 hW
    go_wp2_with (first | ((with_reducible refine wpList_load_rat rfl (.tmp 2) rfl rfl RA_wc.out ?_)) | ((with_reducible refine wpList_load_rat rfl (.tmp 3) rfl rfl RB_wc.out ?_)))
    refine (C4.out _).mono ?_
    rintro e v1 ⟨rfl, hu1⟩
    have B_v1 := Lib.hid (B_wc.out.trans (hu1.mono Bs_wc))
    have Bs_v1 : S ≤ v1.heap.size := Nat.le_trans Bs_wc hu1.size
    have RA_v1 := Lib.hid (RA_wc.out.keep hu1 lRA_wc)
    have lRA_v1 : S < v1.heap.size := Nat.lt_of_lt_of_le lRA_wc (hu1.size)
    have RB_v1 := Lib.hid (RB_wc.out.keep hu1 lRB_wc)
    have lRB_v1 : (S + 1) < v1.heap.size := Nat.lt_of_lt_of_le lRB_wc (hu1.size)
    clear hu1 B_wc Bs_wc RA_wc lRA_wc RB_wc lRB_wc
    obtain ⟨bq, hbq⟩ : ∃ b, decide (qk = 0) = b := ⟨_, rfl⟩
    have Hbq := Lib.hid hbq
    clear hbq
    have P_v2 := put_rat v1 (qs) (qn) (false) (qd) 27
    obtain ⟨Lq, hLq⟩ : ∃ Lq, v1.heap.size = Lq := ⟨_, rfl⟩
    have Z_v2 := RatAt.zero v1 27
    obtain ⟨a_v2, ha_v2⟩ : ∃ a, v1.alloc (boxRZ 27) = a := ⟨_, rfl⟩
    rw [ha_v2, hLq] at P_v2 Z_v2
    have HZ_v2 := Lib.hid Z_v2
    have hq_v2 := Bs_v1
    rw [hLq] at hq_v2
    have qRA_v2 := lRA_v1
    rw [hLq] at qRA_v2
    have qRB_v2 := lRB_v1
    rw [hLq] at qRB_v2
    have B'_v2 := Lib.hid (B_v1.out.trans (P_v2.2.1.mono hq_v2))
    have RA_v2' := Lib.hid (RA_v1.out.keep P_v2.2.1 qRA_v2)
    have RB_v2' := Lib.hid (RB_v1.out.keep P_v2.2.1 qRB_v2)
    have N_v2 := Lib.hid P_v2.1
    have z_v2 := Lib.hid P_v2.2.2
    clear P_v2 Z_v2 B_v1 Bs_v1 RA_v1 lRA_v1 RB_v1 lRB_v1
    go_upto_if 50 with (first | (with_reducible refine wpList_val (v := .bool bq) rfl (eqn_run' (hb := Hbq.out) (x := .tmp 49) rfl (k := qk) rfl) ?_) |  (with_reducible refine wpList_store_rat rfl (.tmp 9) (.tmp 47) rfl (b := Lq) (s := qs) (n := qn) (t := false) (d := qd) rfl rfl HZ_v2.out ?_))
    clear HZ_v2
    generalize st18 a_v2 Lq (qs) (qn) (false) (qd) = v2 at *
    have y_v2 := z_v2.out
    have RP_v2 := N_v2
    have B_v2 := B'_v2
    have Bs_v2 : S ≤ v2.heap.size := by omega
    have lRP_v2 : Lq < v2.heap.size := by omega
    have RA_v2 := RA_v2'
    have lRA_v2 : S < v2.heap.size := by omega
    have RB_v2 := RB_v2'
    have lRB_v2 : (S + 1) < v2.heap.size := by omega
    clear y_v2 N_v2 B'_v2 ha_v2 hLq z_v2 hq_v2 RA_v2' qRA_v2 RB_v2' qRB_v2
    simp only [List.getElem_toArray, List.getElem_cons_zero, List.getElem_cons_succ, Act.put, List.setIfInBounds_toArray, List.set_cons_zero, List.set_cons_succ]
    go_cut [] (fun wx => RatAt wx S s n t d ∧ RatAt wx (S + 1) s' n' t' d' ∧ Below S w wx ∧ S + 1 < wx.heap.size)
    case first =>
      cases bq
      · go_wp2_with fail
        go_meet
        exact ⟨RA_v2.out, RB_v2.out, B_v2.out, lRB_v2⟩
      · have hpk : qk = 0 := of_decide_eq_true Hbq.out
        have hck := U2.out.ok hpk
        rw [hck, errV_zero] at C6
        obtain ⟨bm, hbm⟩ : ∃ b, decide (rk = 0) = b := ⟨_, rfl⟩
        have Hbm := Lib.hid hbm
        have HU : Hid (bm = true → (decide (rs = s ∧ rn = n) && decide (false = t ∧ rd = d)) = true) := fun h => by
          obtain ⟨h1, h2, h3, h4⟩ := U2.out.back hpk (of_decide_eq_true (hbm.trans h))
          subst h1 h2 h3 h4
          simp
        have hfm := Lib.hid U2.out.fm
        clear hpk hck hbm
        go_wp2_with (first | ((with_reducible refine wpList_load_rat rfl (.tmp 9) rfl rfl RP_v2.out ?_)) | ((with_reducible refine wpList_load_rat rfl (.tmp 3) rfl rfl RB_v2.out ?_)))
        refine (C5.out _).mono ?_
        rintro e v3 ⟨rfl, hu3⟩
        have B_v3 := Lib.hid (B_v2.out.trans (hu3.mono Bs_v2))
        have Bs_v3 : S ≤ v3.heap.size := Nat.le_trans Bs_v2 hu3.size
        have RA_v3 := Lib.hid (RA_v2.out.keep hu3 lRA_v2)
        have lRA_v3 : S < v3.heap.size := Nat.lt_of_lt_of_le lRA_v2 (hu3.size)
        have RB_v3 := Lib.hid (RB_v2.out.keep hu3 lRB_v2)
        have lRB_v3 : (S + 1) < v3.heap.size := Nat.lt_of_lt_of_le lRB_v2 (hu3.size)
        have RP_v3 := Lib.hid (RP_v2.out.keep hu3 lRP_v2)
        have lRP_v3 : Lq < v3.heap.size := Nat.lt_of_lt_of_le lRP_v2 (hu3.size)
        clear hu3 B_v2 Bs_v2 RA_v2 lRA_v2 RB_v2 lRB_v2 RP_v2 lRP_v2
        have P_v4 := put_rat v3 (rs) (rn) (false) (rd) 27
        obtain ⟨Lr, hLr⟩ : ∃ Lr, v3.heap.size = Lr := ⟨_, rfl⟩
        have Z_v4 := RatAt.zero v3 27
        obtain ⟨a_v4, ha_v4⟩ : ∃ a, v3.alloc (boxRZ 27) = a := ⟨_, rfl⟩
        rw [ha_v4, hLr] at P_v4 Z_v4
        have HZ_v4 := Lib.hid Z_v4
        have hq_v4 := Bs_v3
        rw [hLr] at hq_v4
        have qRA_v4 := lRA_v3
        rw [hLr] at qRA_v4
        have qRB_v4 := lRB_v3
        rw [hLr] at qRB_v4
        have qRP_v4 := lRP_v3
        rw [hLr] at qRP_v4
        have B'_v4 := Lib.hid (B_v3.out.trans (P_v4.2.1.mono hq_v4))
        have RA_v4' := Lib.hid (RA_v3.out.keep P_v4.2.1 qRA_v4)
        have RB_v4' := Lib.hid (RB_v3.out.keep P_v4.2.1 qRB_v4)
        have RP_v4' := Lib.hid (RP_v3.out.keep P_v4.2.1 qRP_v4)
        have N_v4 := Lib.hid P_v4.1
        have z_v4 := Lib.hid P_v4.2.2
        clear P_v4 Z_v4 B_v3 Bs_v3 RA_v3 lRA_v3 RB_v3 lRB_v3 RP_v3 lRP_v3
        go_upto_region 9 with (with_reducible refine wpList_store_rat rfl (.tmp 11) (.tmp 55) rfl (b := Lr) (s := rs) (n := rn) (t := false) (d := rd) rfl rfl HZ_v4.out ?_)
        clear HZ_v4
        generalize st18 a_v4 Lr (rs) (rn) (false) (rd) = v4 at *
        have y_v4 := z_v4.out
        have RM_v4 := N_v4
        have B_v4 := B'_v4
        have Bs_v4 : S ≤ v4.heap.size := by omega
        have lRM_v4 : Lr < v4.heap.size := by omega
        have RA_v4 := RA_v4'
        have lRA_v4 : S < v4.heap.size := by omega
        have RB_v4 := RB_v4'
        have lRB_v4 : (S + 1) < v4.heap.size := by omega
        have RP_v4 := RP_v4'
        have lRP_v4 : Lq < v4.heap.size := by omega
        clear y_v4 N_v4 B'_v4 ha_v4 hLr z_v4 hq_v4 RA_v4' qRA_v4 RB_v4' qRB_v4 RP_v4' qRP_v4
        go_wp2_with ((with_reducible refine wpList_load_rat rfl (.tmp 9) rfl rfl RP_v4.out ?_))
        refine (C6.out _).mono ?_
        rintro e v5 ⟨rfl, hu5⟩
        have B_v5 := Lib.hid (B_v4.out.trans (hu5.mono Bs_v4))
        have Bs_v5 : S ≤ v5.heap.size := Nat.le_trans Bs_v4 hu5.size
        have RA_v5 := Lib.hid (RA_v4.out.keep hu5 lRA_v4)
        have lRA_v5 : S < v5.heap.size := Nat.lt_of_lt_of_le lRA_v4 (hu5.size)
        have RB_v5 := Lib.hid (RB_v4.out.keep hu5 lRB_v4)
        have lRB_v5 : (S + 1) < v5.heap.size := Nat.lt_of_lt_of_le lRB_v4 (hu5.size)
        have RP_v5 := Lib.hid (RP_v4.out.keep hu5 lRP_v4)
        have lRP_v5 : Lq < v5.heap.size := Nat.lt_of_lt_of_le lRP_v4 (hu5.size)
        have RM_v5 := Lib.hid (RM_v4.out.keep hu5 lRM_v4)
        have lRM_v5 : Lr < v5.heap.size := Nat.lt_of_lt_of_le lRM_v4 (hu5.size)
        clear hu5 B_v4 Bs_v4 RA_v4 lRA_v4 RB_v4 lRB_v4 RP_v4 lRP_v4 RM_v4 lRM_v4
        cases bm
        · go_wp2_with (first | (with_reducible refine wpList_val (v := .bool false) rfl (eqn_run' (hb := Hbm.out) (x := .tmp 61) rfl (k := rk) rfl) ?_))
          go_meet
          exact ⟨RA_v5.out, RB_v5.out, B_v5.out, lRB_v5⟩
        · have HN := Lib.hid (HU.out rfl)
          go_wp2_with (first | (with_reducible refine wpList_val (v := .bool true) rfl (eqn_run' (hb := Hbm.out) (x := .tmp 61) rfl (k := rk) rfl) ?_) | ((with_reducible refine wpList_load_rat_w ?hw1 (.tmp 11) rfl rfl RM_v5.out ?_); case hw1 => rfl) | ((with_reducible refine wpList_load_rat_w ?hw2 (.tmp 2) rfl rfl RA_v5.out ?_); case hw2 => rfl) | (with_reducible refine wpList_val (v := .bool false) rfl (ner_run' (x := .tmp 64) (y := .tmp 65) HN.out rfl rfl rfl hfm.out.1 hfm.out.2 hfa.out.1 hfa.out.2) ?_))
          go_meet
          exact ⟨RA_v5.out, RB_v5.out, B_v5.out, lRB_v5⟩
    case rest =>
      obtain ⟨ra, rb, bl, sz⟩ := hcut
      have RA_wc := Lib.hid ra
      have RB_wc := Lib.hid rb
      have B_wc := Lib.hid bl
      have Bs_wc : S ≤ wc.heap.size := Nat.le_trans (Nat.le_of_eq hS.symm) bl.size
      have lRA_wc : S < wc.heap.size := Nat.lt_of_succ_lt sz
      have lRB_wc : S + 1 < wc.heap.size := sz
      clear ra rb bl sz Hbq C4 C5 C6 U2
      go_wp2_with (first | ((with_reducible refine wpList_load_rat rfl (.tmp 2) rfl rfl RA_wc.out ?_)) | ((with_reducible refine wpList_load_rat rfl (.tmp 3) rfl rfl RB_wc.out ?_)))
      refine (C7.out _).mono ?_
      rintro e y1 ⟨rfl, hu1⟩
      have B_y1 := Lib.hid (B_wc.out.trans (hu1.mono Bs_wc))
      have Bs_y1 : S ≤ y1.heap.size := Nat.le_trans Bs_wc hu1.size
      have RA_y1 := Lib.hid (RA_wc.out.keep hu1 lRA_wc)
      have lRA_y1 : S < y1.heap.size := Nat.lt_of_lt_of_le lRA_wc (hu1.size)
      have RB_y1 := Lib.hid (RB_wc.out.keep hu1 lRB_wc)
      have lRB_y1 : (S + 1) < y1.heap.size := Nat.lt_of_lt_of_le lRB_wc (hu1.size)
      clear hu1 B_wc Bs_wc RA_wc lRA_wc RB_wc lRB_wc
      have P_y2 := put_rat y1 (xs) (xn) (false) (xd) 27
      obtain ⟨LX, hLX⟩ : ∃ LX, y1.heap.size = LX := ⟨_, rfl⟩
      have Z_y2 := RatAt.zero y1 27
      obtain ⟨a_y2, ha_y2⟩ : ∃ a, y1.alloc (boxRZ 27) = a := ⟨_, rfl⟩
      rw [ha_y2, hLX] at P_y2 Z_y2
      have HZ_y2 := Lib.hid Z_y2
      have hq_y2 := Bs_y1
      rw [hLX] at hq_y2
      have qRA_y2 := lRA_y1
      rw [hLX] at qRA_y2
      have qRB_y2 := lRB_y1
      rw [hLX] at qRB_y2
      have B'_y2 := Lib.hid (B_y1.out.trans (P_y2.2.1.mono hq_y2))
      have RA_y2' := Lib.hid (RA_y1.out.keep P_y2.2.1 qRA_y2)
      have RB_y2' := Lib.hid (RB_y1.out.keep P_y2.2.1 qRB_y2)
      have N_y2 := Lib.hid P_y2.1
      have z_y2 := Lib.hid P_y2.2.2
      clear P_y2 Z_y2 B_y1 Bs_y1 RA_y1 lRA_y1 RB_y1 lRB_y1
      go_upto_region 12 with (with_reducible refine wpList_store_rat rfl (.tmp 13) (.tmp 73) rfl (b := LX) (s := xs) (n := xn) (t := false) (d := xd) rfl rfl HZ_y2.out ?_)
      clear HZ_y2
      generalize st18 a_y2 LX (xs) (xn) (false) (xd) = y2 at *
      have y_y2 := z_y2.out
      have RX_y2 := N_y2
      have B_y2 := B'_y2
      have Bs_y2 : S ≤ y2.heap.size := by omega
      have lRX_y2 : LX < y2.heap.size := by omega
      have RA_y2 := RA_y2'
      have lRA_y2 : S < y2.heap.size := by omega
      have RB_y2 := RB_y2'
      have lRB_y2 : (S + 1) < y2.heap.size := by omega
      clear y_y2 N_y2 B'_y2 ha_y2 hLX z_y2 hq_y2 RA_y2' qRA_y2 RB_y2' qRB_y2
      go_wp2_with (first | ((with_reducible refine wpList_load_rat rfl (.tmp 3) rfl rfl RB_y2.out ?_)) | ((with_reducible refine wpList_load_rat rfl (.tmp 2) rfl rfl RA_y2.out ?_)))
      refine (C8.out _).mono ?_
      rintro e y3 ⟨rfl, hu3⟩
      have B_y3 := Lib.hid (B_y2.out.trans (hu3.mono Bs_y2))
      have Bs_y3 : S ≤ y3.heap.size := Nat.le_trans Bs_y2 hu3.size
      have RA_y3 := Lib.hid (RA_y2.out.keep hu3 lRA_y2)
      have lRA_y3 : S < y3.heap.size := Nat.lt_of_lt_of_le lRA_y2 (hu3.size)
      have RB_y3 := Lib.hid (RB_y2.out.keep hu3 lRB_y2)
      have lRB_y3 : (S + 1) < y3.heap.size := Nat.lt_of_lt_of_le lRB_y2 (hu3.size)
      have RX_y3 := Lib.hid (RX_y2.out.keep hu3 lRX_y2)
      have lRX_y3 : LX < y3.heap.size := Nat.lt_of_lt_of_le lRX_y2 (hu3.size)
      clear hu3 B_y2 Bs_y2 RA_y2 lRA_y2 RB_y2 lRB_y2 RX_y2 lRX_y2
      have P_y4 := put_rat y3 (xs) (xn) (false) (xd) 27
      obtain ⟨LY, hLY⟩ : ∃ LY, y3.heap.size = LY := ⟨_, rfl⟩
      have Z_y4 := RatAt.zero y3 27
      obtain ⟨a_y4, ha_y4⟩ : ∃ a, y3.alloc (boxRZ 27) = a := ⟨_, rfl⟩
      rw [ha_y4, hLY] at P_y4 Z_y4
      have HZ_y4 := Lib.hid Z_y4
      have hq_y4 := Bs_y3
      rw [hLY] at hq_y4
      have qRA_y4 := lRA_y3
      rw [hLY] at qRA_y4
      have qRB_y4 := lRB_y3
      rw [hLY] at qRB_y4
      have qRX_y4 := lRX_y3
      rw [hLY] at qRX_y4
      have B'_y4 := Lib.hid (B_y3.out.trans (P_y4.2.1.mono hq_y4))
      have RA_y4' := Lib.hid (RA_y3.out.keep P_y4.2.1 qRA_y4)
      have RB_y4' := Lib.hid (RB_y3.out.keep P_y4.2.1 qRB_y4)
      have RX_y4' := Lib.hid (RX_y3.out.keep P_y4.2.1 qRX_y4)
      have N_y4 := Lib.hid P_y4.1
      have z_y4 := Lib.hid P_y4.2.2
      clear P_y4 Z_y4 B_y3 Bs_y3 RA_y3 lRA_y3 RB_y3 lRB_y3 RX_y3 lRX_y3
      go_wp2_with (with_reducible refine wpList_store_rat rfl (.tmp 15) (.tmp 79) rfl (b := LY) (s := xs) (n := xn) (t := false) (d := xd) rfl rfl HZ_y4.out ?_)
      clear HZ_y4
      generalize st18 a_y4 LY (xs) (xn) (false) (xd) = y4 at *
      have y_y4 := z_y4.out
      have RY_y4 := N_y4
      have B_y4 := B'_y4
      have Bs_y4 : S ≤ y4.heap.size := by omega
      have lRY_y4 : LY < y4.heap.size := by omega
      have RA_y4 := RA_y4'
      have lRA_y4 : S < y4.heap.size := by omega
      have RB_y4 := RB_y4'
      have lRB_y4 : (S + 1) < y4.heap.size := by omega
      have RX_y4 := RX_y4'
      have lRX_y4 : LX < y4.heap.size := by omega
      clear y_y4 N_y4 B'_y4 ha_y4 hLY z_y4 hq_y4 RA_y4' qRA_y4 RB_y4' qRB_y4 RX_y4' qRX_y4
      have hI : Hid (TwoX w y4 S LX LY xs xn xd) := ⟨RX_y4.out, RY_y4.out, B_y4.out, Bs_y4, lRX_y4, lRY_y4⟩
      clear RX_y4 RY_y4 B_y4 Bs_y4 lRX_y4 lRY_y4 RA_y4 RB_y4 lRA_y4 lRB_y4 C7 C8 hS
      obtain ⟨bx, hbx⟩ : ∃ b, decide (xk = 0) = b := ⟨_, rfl⟩
      have Hbx := Lib.hid hbx
      clear hbx
      cases bx
      · refine rg_begin (fun V => TwoX w V S LX LY xs xn xd) (by kernel_rfl) hI.out.drew (fun hS => ?_)
        refine rg_take 0 (ratV xs xn false xd) rfl (by kernel_rfl) (by kernel_rfl) (by kernel_rfl) (fun _ _ _ h => h) rfl (fun w hSw => ld_rat (.tmp 13) rfl rfl hSw.x) hS ?_
        simp only [List.getElem_toArray, List.getElem_cons_zero, List.getElem_cons_succ, Act.put, List.setIfInBounds_toArray, List.set_cons_zero, List.set_cons_succ]
        refine rg_take 1 (ratV xs xn false xd) rfl (by kernel_rfl) (by kernel_rfl) (by kernel_rfl) (fun _ _ _ h => h) rfl (fun w hSw => ld_rat (.tmp 15) rfl rfl hSw.y) hS ?_
        simp only [List.getElem_toArray, List.getElem_cons_zero, List.getElem_cons_succ, Act.put, List.setIfInBounds_toArray, List.set_cons_zero, List.set_cons_succ]
        refine rg_take 2 (.bool true) rfl (by kernel_rfl) (by kernel_rfl) (by kernel_rfl) (fun _ _ _ h => h) rfl (fun w hSw => eqr_self (x := .tmp 81) (y := .tmp 82) rfl rfl rfl hfx.out.1 hfx.out.2) hS ?_
        simp only [List.getElem_toArray, List.getElem_cons_zero, List.getElem_cons_succ, Act.put, List.setIfInBounds_toArray, List.set_cons_zero, List.set_cons_succ]
        refine rg_take 3 (.bool true) rfl (by kernel_rfl) (by kernel_rfl) (by kernel_rfl) (fun _ _ _ h => h) rfl (fun w _ => ?_) hS ?_
        · go_simp
        simp only [List.getElem_toArray, List.getElem_cons_zero, List.getElem_cons_succ, Act.put, List.setIfInBounds_toArray, List.set_cons_zero, List.set_cons_succ]
        refine rg_want 4 (errV xk) rfl (by kernel_rfl) (by kernel_rfl) (by kernel_rfl) (fun _ _ _ h => h) rfl (fun w _ => ?_) hS ?_
        · go_simp
        simp only [List.getElem_toArray, List.getElem_cons_zero, List.getElem_cons_succ, Act.put, List.setIfInBounds_toArray, List.set_cons_zero, List.set_cons_succ]
        refine rg_want 5 (.bool false) rfl (by kernel_rfl) (by kernel_rfl) (by kernel_rfl) (fun _ _ _ h => h) rfl (fun w hSw => eqn_run' (hb := Hbx.out) (x := .tmp 85) rfl (k := xk) rfl) hS ?_
        simp only [List.getElem_toArray, List.getElem_cons_zero, List.getElem_cons_succ, Act.put, List.setIfInBounds_toArray, List.set_cons_zero, List.set_cons_succ]
        refine rg_want 6 (errV xk) rfl (by kernel_rfl) (by kernel_rfl) (by kernel_rfl) (fun _ _ _ h => h) rfl (fun w _ => ?_) hS ?_
        · go_simp
        simp only [List.getElem_toArray, List.getElem_cons_zero, List.getElem_cons_succ, Act.put, List.setIfInBounds_toArray, List.set_cons_zero, List.set_cons_succ]
        refine rg_want 7 (.bool false) rfl (by kernel_rfl) (by kernel_rfl) (by kernel_rfl) (fun _ _ _ h => h) rfl (fun w hSw => eqn_run' (hb := Hbx.out) (x := .tmp 87) rfl (k := xk) rfl) hS ?_
        simp only [List.getElem_toArray, List.getElem_cons_zero, List.getElem_cons_succ, Act.put, List.setIfInBounds_toArray, List.set_cons_zero, List.set_cons_succ]
        refine rg_want 8 (.bool true) rfl (by kernel_rfl) (by kernel_rfl) (by kernel_rfl) (fun _ _ _ h => h) rfl (fun w _ => ?_) hS ?_
        · go_simp
        simp only [List.getElem_toArray, List.getElem_cons_zero, List.getElem_cons_succ, Act.put, List.setIfInBounds_toArray, List.set_cons_zero, List.set_cons_succ]
        refine rg_take 9 (.bool true) rfl (by kernel_rfl) (by kernel_rfl) (by kernel_rfl) (fun _ _ _ h => h) rfl (fun w _ => ?_) hS ?_
        · go_simp
        simp only [List.getElem_toArray, List.getElem_cons_zero, List.getElem_cons_succ, Act.put, List.setIfInBounds_toArray, List.set_cons_zero, List.set_cons_succ]
        refine rg_take 10 (.bool true) rfl (by kernel_rfl) (by kernel_rfl) (by kernel_rfl) (fun _ _ _ h => h) rfl (fun w _ => ?_) hS ?_
        · go_simp
        simp only [List.getElem_toArray, List.getElem_cons_zero, List.getElem_cons_succ, Act.put, List.setIfInBounds_toArray, List.set_cons_zero, List.set_cons_succ]
        refine rg_want 11 (errV xk) rfl (by kernel_rfl) (by kernel_rfl) (by kernel_rfl) (fun _ _ _ h => h) rfl (fun w _ => ?_) hS ?_
        · go_simp
        simp only [List.getElem_toArray, List.getElem_cons_zero, List.getElem_cons_succ, Act.put, List.setIfInBounds_toArray, List.set_cons_zero, List.set_cons_succ]
        refine rg_want 12 (.bool true) rfl (by kernel_rfl) (by kernel_rfl) (by kernel_rfl) (fun _ _ _ h => h) rfl (fun w hSw => nen_run' (hb := by rw [Hbx.out]; rfl) (x := .tmp 92) rfl (k := xk) rfl) hS ?_
        simp only [List.getElem_toArray, List.getElem_cons_zero, List.getElem_cons_succ, Act.put, List.setIfInBounds_toArray, List.set_cons_zero, List.set_cons_succ]
        refine rg_want 13 (.bool true) rfl (by kernel_rfl) (by kernel_rfl) (by kernel_rfl) (fun _ _ _ h => h) rfl (fun w _ => ?_) hS ?_
        · go_simp
        simp only [List.getElem_toArray, List.getElem_cons_zero, List.getElem_cons_succ, Act.put, List.setIfInBounds_toArray, List.set_cons_zero, List.set_cons_succ]
        refine rg_skip 14 rfl (by kernel_rfl) (by kernel_rfl) (by kernel_rfl) (fun _ _ _ h => h) rfl hS ?_
        simp only [List.getElem_toArray, List.getElem_cons_zero, List.getElem_cons_succ, Act.put, List.setIfInBounds_toArray, List.set_cons_zero, List.set_cons_succ]
        refine rg_skip 15 rfl (by kernel_rfl) (by kernel_rfl) (by kernel_rfl) (fun _ _ _ h => h) rfl hS ?_
        simp only [List.getElem_toArray, List.getElem_cons_zero, List.getElem_cons_succ, Act.put, List.setIfInBounds_toArray, List.set_cons_zero, List.set_cons_succ]
        refine rg_skip 16 rfl (by kernel_rfl) (by kernel_rfl) (by kernel_rfl) (fun _ _ _ h => h) rfl hS ?_
        simp only [List.getElem_toArray, List.getElem_cons_zero, List.getElem_cons_succ, Act.put, List.setIfInBounds_toArray, List.set_cons_zero, List.set_cons_succ]
        refine rg_want 17 (.bool true) rfl (by kernel_rfl) (by kernel_rfl) (by kernel_rfl) (fun _ _ _ h => h) rfl (fun w _ => ?_) hS ?_
        · go_simp
        simp only [List.getElem_toArray, List.getElem_cons_zero, List.getElem_cons_succ, Act.put, List.setIfInBounds_toArray, List.set_cons_zero, List.set_cons_succ]
        refine rg_take 18 (.bool true) rfl (by kernel_rfl) (by kernel_rfl) (by kernel_rfl) (fun _ _ _ h => h) rfl (fun w _ => ?_) hS ?_
        · go_simp
        simp only [List.getElem_toArray, List.getElem_cons_zero, List.getElem_cons_succ, Act.put, List.setIfInBounds_toArray, List.set_cons_zero, List.set_cons_succ]
        refine rg_take 19 (.bool true) rfl (by kernel_rfl) (by kernel_rfl) (by kernel_rfl) (fun _ _ _ h => h) rfl (fun w _ => ?_) hS ?_
        · go_simp
        simp only [List.getElem_toArray, List.getElem_cons_zero, List.getElem_cons_succ, Act.put, List.setIfInBounds_toArray, List.set_cons_zero, List.set_cons_succ]
        refine rg_one 20 (by kernel_rfl) (rs_want rfl rfl (wp_call rfl enters_works rfl (HW.out _) (fun V hV => ⟨hS.below hV, ?_⟩)))
        have hSv := hS.below hV
        clear hS hV hI
        have hS := hSv
        clear hSv
        simp only [List.getElem_toArray, List.getElem_cons_zero, List.getElem_cons_succ, Act.put, List.setIfInBounds_toArray, List.set_cons_zero, List.set_cons_succ]
        refine rg_take 21 (.bool true) rfl (by kernel_rfl) (by kernel_rfl) (by kernel_rfl) (fun _ _ _ h => h) rfl (fun w _ => ?_) hS ?_
        · go_simp
        simp only [List.getElem_toArray, List.getElem_cons_zero, List.getElem_cons_succ, Act.put, List.setIfInBounds_toArray, List.set_cons_zero, List.set_cons_succ]
        refine rg_take 22 (.bool true) rfl (by kernel_rfl) (by kernel_rfl) (by kernel_rfl) (fun _ _ _ h => h) rfl (fun w _ => ?_) hS ?_
        · go_simp
        simp only [List.getElem_toArray, List.getElem_cons_zero, List.getElem_cons_succ, Act.put, List.setIfInBounds_toArray, List.set_cons_zero, List.set_cons_succ]
        refine wpAnyH_done (by kernel_rfl) ?_ _
        go_wp2_with fail
        go_ret
        exact ⟨rfl, hS.bl⟩
      · have hck := hxx.out (of_decide_eq_true Hbx.out)
        rw [hck, errV_zero] at C9
        have HC := Lib.hid C9.out
        clear hck
        refine rg_begin (fun V => TwoX w V S LX LY xs xn xd) (by kernel_rfl) hI.out.drew (fun hS => ?_)
        refine rg_take 0 (ratV xs xn false xd) rfl (by kernel_rfl) (by kernel_rfl) (by kernel_rfl) (fun _ _ _ h => h) rfl (fun w hSw => ld_rat (.tmp 13) rfl rfl hSw.x) hS ?_
        simp only [List.getElem_toArray, List.getElem_cons_zero, List.getElem_cons_succ, Act.put, List.setIfInBounds_toArray, List.set_cons_zero, List.set_cons_succ]
        refine rg_take 1 (ratV xs xn false xd) rfl (by kernel_rfl) (by kernel_rfl) (by kernel_rfl) (fun _ _ _ h => h) rfl (fun w hSw => ld_rat (.tmp 15) rfl rfl hSw.y) hS ?_
        simp only [List.getElem_toArray, List.getElem_cons_zero, List.getElem_cons_succ, Act.put, List.setIfInBounds_toArray, List.set_cons_zero, List.set_cons_succ]
        refine rg_take 2 (.bool true) rfl (by kernel_rfl) (by kernel_rfl) (by kernel_rfl) (fun _ _ _ h => h) rfl (fun w hSw => eqr_self (x := .tmp 81) (y := .tmp 82) rfl rfl rfl hfx.out.1 hfx.out.2) hS ?_
        simp only [List.getElem_toArray, List.getElem_cons_zero, List.getElem_cons_succ, Act.put, List.setIfInBounds_toArray, List.set_cons_zero, List.set_cons_succ]
        refine rg_take 3 (.bool true) rfl (by kernel_rfl) (by kernel_rfl) (by kernel_rfl) (fun _ _ _ h => h) rfl (fun w _ => ?_) hS ?_
        · go_simp
        simp only [List.getElem_toArray, List.getElem_cons_zero, List.getElem_cons_succ, Act.put, List.setIfInBounds_toArray, List.set_cons_zero, List.set_cons_succ]
        refine rg_want 4 (errV xk) rfl (by kernel_rfl) (by kernel_rfl) (by kernel_rfl) (fun _ _ _ h => h) rfl (fun w _ => ?_) hS ?_
        · go_simp
        simp only [List.getElem_toArray, List.getElem_cons_zero, List.getElem_cons_succ, Act.put, List.setIfInBounds_toArray, List.set_cons_zero, List.set_cons_succ]
        refine rg_want 5 (.bool true) rfl (by kernel_rfl) (by kernel_rfl) (by kernel_rfl) (fun _ _ _ h => h) rfl (fun w hSw => eqn_run' (hb := Hbx.out) (x := .tmp 85) rfl (k := xk) rfl) hS ?_
        simp only [List.getElem_toArray, List.getElem_cons_zero, List.getElem_cons_succ, Act.put, List.setIfInBounds_toArray, List.set_cons_zero, List.set_cons_succ]
        refine rg_want 6 (errV xk) rfl (by kernel_rfl) (by kernel_rfl) (by kernel_rfl) (fun _ _ _ h => h) rfl (fun w _ => ?_) hS ?_
        · go_simp
        simp only [List.getElem_toArray, List.getElem_cons_zero, List.getElem_cons_succ, Act.put, List.setIfInBounds_toArray, List.set_cons_zero, List.set_cons_succ]
        refine rg_want 7 (.bool true) rfl (by kernel_rfl) (by kernel_rfl) (by kernel_rfl) (fun _ _ _ h => h) rfl (fun w hSw => eqn_run' (hb := Hbx.out) (x := .tmp 87) rfl (k := xk) rfl) hS ?_
        simp only [List.getElem_toArray, List.getElem_cons_zero, List.getElem_cons_succ, Act.put, List.setIfInBounds_toArray, List.set_cons_zero, List.set_cons_succ]
        refine rg_want 8 (.bool true) rfl (by kernel_rfl) (by kernel_rfl) (by kernel_rfl) (fun _ _ _ h => h) rfl (fun w _ => ?_) hS ?_
        · go_simp
        simp only [List.getElem_toArray, List.getElem_cons_zero, List.getElem_cons_succ, Act.put, List.setIfInBounds_toArray, List.set_cons_zero, List.set_cons_succ]
        refine rg_take 9 (.bool true) rfl (by kernel_rfl) (by kernel_rfl) (by kernel_rfl) (fun _ _ _ h => h) rfl (fun w _ => ?_) hS ?_
        · go_simp
        simp only [List.getElem_toArray, List.getElem_cons_zero, List.getElem_cons_succ, Act.put, List.setIfInBounds_toArray, List.set_cons_zero, List.set_cons_succ]
        refine rg_take 10 (.bool true) rfl (by kernel_rfl) (by kernel_rfl) (by kernel_rfl) (fun _ _ _ h => h) rfl (fun w _ => ?_) hS ?_
        · go_simp
        simp only [List.getElem_toArray, List.getElem_cons_zero, List.getElem_cons_succ, Act.put, List.setIfInBounds_toArray, List.set_cons_zero, List.set_cons_succ]
        refine rg_want 11 (errV xk) rfl (by kernel_rfl) (by kernel_rfl) (by kernel_rfl) (fun _ _ _ h => h) rfl (fun w _ => ?_) hS ?_
        · go_simp
        simp only [List.getElem_toArray, List.getElem_cons_zero, List.getElem_cons_succ, Act.put, List.setIfInBounds_toArray, List.set_cons_zero, List.set_cons_succ]
        refine rg_want 12 (.bool false) rfl (by kernel_rfl) (by kernel_rfl) (by kernel_rfl) (fun _ _ _ h => h) rfl (fun w hSw => nen_run' (hb := by rw [Hbx.out]; rfl) (x := .tmp 92) rfl (k := xk) rfl) hS ?_
        simp only [List.getElem_toArray, List.getElem_cons_zero, List.getElem_cons_succ, Act.put, List.setIfInBounds_toArray, List.set_cons_zero, List.set_cons_succ]
        refine rg_want 13 (.bool false) rfl (by kernel_rfl) (by kernel_rfl) (by kernel_rfl) (fun _ _ _ h => h) rfl (fun w _ => ?_) hS ?_
        · go_simp
        simp only [List.getElem_toArray, List.getElem_cons_zero, List.getElem_cons_succ, Act.put, List.setIfInBounds_toArray, List.set_cons_zero, List.set_cons_succ]
        refine rg_want 14 (ratV xs xn false xd) rfl (by kernel_rfl) (by kernel_rfl) (by kernel_rfl) (fun _ _ _ h => h) rfl (fun w hSw => ld_rat (.tmp 13) rfl rfl hSw.x) hS ?_
        simp only [List.getElem_toArray, List.getElem_cons_zero, List.getElem_cons_succ, Act.put, List.setIfInBounds_toArray, List.set_cons_zero, List.set_cons_succ]
        refine rg_one 15 (by kernel_rfl) (rs_want rfl rfl (wp_call rfl enters_RCheck rfl (HC.out _) (fun V hV => ⟨hS.below hV, ?_⟩)))
        have hSv := hS.below hV
        clear hS hV
        have hS := hSv
        clear hSv
        simp only [List.getElem_toArray, List.getElem_cons_zero, List.getElem_cons_succ, Act.put, List.setIfInBounds_toArray, List.set_cons_zero, List.set_cons_succ]
        refine rg_want 16 (.bool true) rfl (by kernel_rfl) (by kernel_rfl) (by kernel_rfl) (fun _ _ _ h => h) rfl (fun w _ => ?_) hS ?_
        · go_simp
        simp only [List.getElem_toArray, List.getElem_cons_zero, List.getElem_cons_succ, Act.put, List.setIfInBounds_toArray, List.set_cons_zero, List.set_cons_succ]
        refine rg_want 17 (.bool true) rfl (by kernel_rfl) (by kernel_rfl) (by kernel_rfl) (fun _ _ _ h => h) rfl (fun w _ => ?_) hS ?_
        · go_simp
        simp only [List.getElem_toArray, List.getElem_cons_zero, List.getElem_cons_succ, Act.put, List.setIfInBounds_toArray, List.set_cons_zero, List.set_cons_succ]
        refine rg_take 18 (.bool true) rfl (by kernel_rfl) (by kernel_rfl) (by kernel_rfl) (fun _ _ _ h => h) rfl (fun w _ => ?_) hS ?_
        · go_simp
        simp only [List.getElem_toArray, List.getElem_cons_zero, List.getElem_cons_succ, Act.put, List.setIfInBounds_toArray, List.set_cons_zero, List.set_cons_succ]
        refine rg_take 19 (.bool true) rfl (by kernel_rfl) (by kernel_rfl) (by kernel_rfl) (fun _ _ _ h => h) rfl (fun w _ => ?_) hS ?_
        · go_simp
        simp only [List.getElem_toArray, List.getElem_cons_zero, List.getElem_cons_succ, Act.put, List.setIfInBounds_toArray, List.set_cons_zero, List.set_cons_succ]
        refine rg_one 20 (by kernel_rfl) (rs_want rfl rfl (wp_call rfl enters_works rfl (HW.out _) (fun V hV => ⟨hS.below hV, ?_⟩)))
        have hSv := hS.below hV
        clear hS hV hI
        have hS := hSv
        clear hSv
        simp only [List.getElem_toArray, List.getElem_cons_zero, List.getElem_cons_succ, Act.put, List.setIfInBounds_toArray, List.set_cons_zero, List.set_cons_succ]
        refine rg_take 21 (.bool true) rfl (by kernel_rfl) (by kernel_rfl) (by kernel_rfl) (fun _ _ _ h => h) rfl (fun w _ => ?_) hS ?_
        · go_simp
        simp only [List.getElem_toArray, List.getElem_cons_zero, List.getElem_cons_succ, Act.put, List.setIfInBounds_toArray, List.set_cons_zero, List.set_cons_succ]
        refine rg_take 22 (.bool true) rfl (by kernel_rfl) (by kernel_rfl) (by kernel_rfl) (fun _ _ _ h => h) rfl (fun w _ => ?_) hS ?_
        · go_simp
        simp only [List.getElem_toArray, List.getElem_cons_zero, List.getElem_cons_succ, Act.put, List.setIfInBounds_toArray, List.set_cons_zero, List.set_cons_succ]
        refine wpAnyH_done (by kernel_rfl) ?_ _
        go_wp2_with fail
        go_ret
        exact ⟨rfl, hS.bl⟩
end Go.Proofs.YtbcnpajdmlbieaaDoor
