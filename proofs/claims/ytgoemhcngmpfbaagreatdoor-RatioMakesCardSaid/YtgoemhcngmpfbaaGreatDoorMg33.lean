/-
  The document's Make, Trunc and Of.
-/
import Derived.Test.YtgoemhcngmpfbaaGreatDoorMg30
import Derived.Test.YtgoemhcngmpfbaaGreatDoorMg32

namespace Go.Proofs.YtgoemhcngmpfbaaGreatDoor
open Go.RowKit Go.Sort
set_option linter.unusedSimpArgs false

theorem mkS_sgn (s : Bool) (n : Nat) (t : Bool) {m : Nat} (hm : m ≠ 0) : mkS (sgn s n) n (sgn t m) m = mkS s n t m := by
  unfold mkS
  rw [if_neg hm, if_neg hm]
  by_cases h : n = 0
  · subst h
    simp [sgn]
  · simp [sgn, h, hm]
def Num2Out (z1 : Bool) (Q q : Nat) (z2 : Bool) (R r : Nat) (w : World) (e : Ending) (w' : World) : Prop := ∃ x : (Option Addr × Nat) × (Option Addr × Nat), e = .returned (.tuple #[.agg #[.bool z1, .slice x.1.1 Q x.1.2], .agg #[.bool z2, .slice x.2.1 R x.2.2]]) ∧ (Good w' z1 x.1.1 Q x.1.2 q ∧ Good w' z2 x.2.1 R x.2.2 r ∧ Below w.heap.size w w')
theorem Div_out {s : Bool} {L n : Nat} {t : Bool} {M m : Nat} {z1 : Bool} {q Q : Nat} {z2 : Bool} {r R : Nat} (hs : L + M ≤ 4000) (hm : Hid (0 < m)) (hz1 : Hid (sgn (s != t) q = z1)) (hq : Hid (n / m = q)) (hQ : Hid (nl q = Q)) (hz2 : Hid (sgn s r = z2)) (hr : Hid (n % m = r)) (hR : Hid (nl r = R))
    (W : World) (A : Option Addr) (c : Nat) (B : Option Addr) (e : Nat) (ha : Good W s A L c n) (hb : Good W t B M e m) :
    Calls Tryz.prog 43 #[.agg #[.bool s, .slice A L c], .agg #[.bool t, .slice B M e]] W (Num2Out z1 Q q z2 R r W) :=
  (Div_run7 s A L c n t B M e m z1 z2 q Q r R W ha hb hs hm hz1 hq hQ hz2 hr hR).mono fun _ _ ⟨C, cc, D, cd, h1, h2, h3, h4⟩ => ⟨((C, cc), D, cd), h1, h2, h3, h4⟩
theorem build_zeroI {a : Act} {w : World} {op : Oper} (ho : op.op = .build 25 #[]) : (execOp a.eval op).run Tryz.prog w = .ok (.value (intV false 0)) w := by
  have e : intV false 0 = .agg #[.bool false, .int .u64 0, .int .u64 0, .int .u64 0, .int .u64 0, .int .u64 0, .int .u64 0, .int .u64 0, .int .u64 0] := by simp [intV, wd_zero]
  rw [e]
  unfold execOp
  simp only [ho]
  go_simp
theorem wpList_build_zeroI {ops : Array Oper} {rest : List Oper} {op : Oper} {a : Act} {w : World} {Q : Exit → Act → World → Prop} (hgd : op.guard = none) (ho : op.op = .build 25 #[])
    (hK : wpList Tryz.prog ops Q rest (a.put op.dst (intV false 0)) w) : wpList Tryz.prog ops Q (op :: rest) a w := by
  refine wpList_plain hgd fun K hK' => ?_
  unfold Oper.wp
  rw [build_zeroI ho]
  exact hK' _ _ hK
set_option maxRecDepth 100000 in
set_option maxHeartbeats 8000000 in
theorem Make_run8 (s : Bool) (n : Nat) (t : Bool) (m : Nat) (Z : Bool) (N D K : Nat) (w : World) (hn : Hid (Fits n)) (hm : Hid (Fits m))
    (hZ : Hid (mkS s n t m = Z)) (hN : Hid (mkN n m = N)) (hD : Hid (mkD n m = D)) (hK : Hid (mkK m = K)) :
    Calls Tryz.prog 10 #[intV s n, intV t m] w fun e w' => e = .returned (.tuple #[ratV Z N false D, .int .i64 (K : Int)]) ∧ Below w.heap.size w w' := by
  obtain ⟨S, hS⟩ : ∃ S, w.heap.size = S := ⟨_, rfl⟩
  obtain ⟨W0, hW0⟩ : ∃ W, ((w.alloc (boxI s n 25)).alloc (boxI t m 25)).alloc (boxRZ 27) = W := ⟨_, rfl⟩
  have I := (((Bs.start w hS).pushInt hS s n 25).pushInt (k := S + 1) (by simp [hS]) t m 25).pushRatZ (k := S + 1 + 1) (by simp [hS]) 27
  rw [hW0] at I
  replace I := Lib.hid I
  obtain ⟨z1, hz1⟩ : ∃ z, sgn s n = z := ⟨_, rfl⟩
  obtain ⟨z2, hz2⟩ : ∃ z, sgn t m = z := ⟨_, rfl⟩
  obtain ⟨L, hL⟩ : ∃ L, nl n = L := ⟨_, rfl⟩
  obtain ⟨M, hM⟩ : ∃ L, nl m = L := ⟨_, rfl⟩
  have HN1 := Lib.hid (fun W => Num_run s z1 n L W hn hz1 hL)
  have HN2 := Lib.hid (fun W => Num_run t z2 m M W hm hz2 hM)
  have hZ2 : Hid (m ≠ 0 → mkS z1 n z2 m = Z) := fun h => by rw [← hz1, ← hz2, mkS_sgn s n t h]; exact hZ.out
  replace hM := Lib.hid hM
  clear hz1 hz2 hL
  rw [hS]
  go_enter Tryz.func10, Tryz.ntmps10
  have HI := Lib.hid (I.out.int 1 rfl)
  go_wp2_with (first | (with_reducible refine wpList_box_int rfl (.tmp 0) rfl rfl ?_) | (with_reducible refine wpList_box_int rfl (.tmp 1) rfl rfl ?_) | (with_reducible refine wpList_load_int rfl (.tmp 3) rfl rfl HI.out.o ?_))
  refine (HN2.out _).mono ?_
  rintro e w1 ⟨⟨A9, c9⟩, rfl, hgg, hw⟩
  replace I := Lib.hid (I.out.below hw)
  clear hw hW0 HI hgg
  have hfd := fieldD z2 A9 M c9 w1
  by_cases hM0 : M = 0
  · subst hM0
    have hm0 : m = 0 := nl_eq_zero.1 hM.out
    obtain rfl : Z = false := by rw [← hZ.out, hm0]; rfl
    obtain rfl : N = 0 := by rw [← hN.out, hm0]; rfl
    obtain rfl : D = 0 := by rw [← hD.out, hm0]; rfl
    obtain rfl : K = 10 := by rw [← hK.out, hm0]; rfl
    have HZ := Lib.hid (I.out.rat 0 rfl)
    go_wp2_with (first | (with_reducible refine wpList_build_zero rfl rfl ?_) | (with_reducible refine wpList_store_rat rfl (.tmp 4) (.tmp 11) rfl (b := S + 1 + 1) (s := false) (n := 0) (t := false) (d := 0) rfl rfl HZ.out ?_))
    have I2 := I.out.putRat 0 rfl false 0 false 0 rfl
    exact bodyPost_ret (v := .tuple #[ratV false 0 false 0, .int .i64 (10 : Nat)]) (results_rat rfl rfl rfl (I2.rat 0 rfl)) rfl ⟨rfl, I2.bl⟩
  · have hm0 : Hid (m ≠ 0) := fun e => hM0 (by rw [← hM.out, e, nl_zero])
    have hMb : ((M : Int) == 0) = false := by simp; omega
    obtain rfl : K = 0 := by rw [← hK.out]; exact if_neg hm0.out
    have HLW : Hid (∀ W A c B e, Good W z1 A L c n → Good W z2 B M e m → Calls Tryz.prog 42 #[.agg #[.bool z1, .slice A L c], .agg #[.bool z2, .slice B M e]] W fun e w' => e = .returned (ratV Z N false D) ∧ Below W.heap.size W w') := fun W A c B e ha hb =>
      lowest_run z1 A L c n z2 B M e m Z N D W ha hb hn hm hm0 (hZ2.out hm0.out) hN hD
    go_upto_region 3 with fail
    refine rg_begin (fun V => Bs w S [.int (S + 1) t m, .int S s n] V) (by kernel_rfl) (I.out.drew.tail) (fun hS => ?_)
    refine rg_take 0 (intV s n) rfl (by kernel_rfl) (by kernel_rfl) (by kernel_rfl) (fun _ _ _ h => h) rfl (fun w hSw => ld_int (.tmp 2) rfl rfl (hSw.int 1 rfl).o) hS ?_
    simp only [List.getElem_toArray, List.getElem_cons_zero, List.getElem_cons_succ, Act.put, List.setIfInBounds_toArray, List.set_cons_zero, List.set_cons_succ]
    refine rg_take 2 (intV t m) rfl (by kernel_rfl) (by kernel_rfl) (by kernel_rfl) (fun _ _ _ h => h) rfl (fun w hSw => ld_int (.tmp 3) rfl rfl (hSw.int 0 rfl).o) hS ?_
    simp only [List.getElem_toArray, List.getElem_cons_zero, List.getElem_cons_succ, Act.put, List.setIfInBounds_toArray, List.set_cons_zero, List.set_cons_succ]
    replace hS := I.out.drew
    clear I
    generalize w1.drew = V0 at *
    refine rg_one 1 (by kernel_rfl) ?_
    refine rs_of rfl rfl (wp_callx rfl enters_num8 rfl (HN1.out _) (fun q1 V1 hV => ⟨(hS.sub (.cons _ (.cons_cons _ (.cons_cons _ .slnil)))).below hV.2, ?_⟩))
    obtain ⟨A1, c1⟩ := q1
    obtain ⟨hg1, hV⟩ := hV
    replace hS := (hS.below hV).pushDig hg1
    clear hV hg1
    simp only [List.getElem_toArray, List.getElem_cons_zero, List.getElem_cons_succ, Act.put, List.setIfInBounds_toArray, List.set_cons_zero, List.set_cons_succ]
    refine rg_one 3 (by kernel_rfl) ?_
    refine rs_of rfl rfl (wp_callx rfl enters_num8 rfl (HN2.out _) (fun q3 V2 hV => ⟨(hS.sub (.cons _ (.cons _ (.cons_cons _ (.cons_cons _ .slnil))))).below hV.2, ?_⟩))
    obtain ⟨A3, c3⟩ := q3
    obtain ⟨hg3, hV⟩ := hV
    replace hS := (hS.below hV).pushDig hg3
    clear hV hg3
    simp only [List.getElem_toArray, List.getElem_cons_zero, List.getElem_cons_succ, Act.put, List.setIfInBounds_toArray, List.set_cons_zero, List.set_cons_succ]
    refine rg_one 4 (by kernel_rfl) ?_
    refine rs_of rfl rfl (wp_call rfl enters_lowest rfl (HLW.out _ _ _ _ _ (hS.dig 1 rfl) (hS.dig 0 rfl)) (fun V3 hV => ⟨(hS.sub (.cons _ (.cons _ (.cons _ (.cons_cons _ (.cons_cons _ .slnil)))))).below hV, ?_⟩))
    replace hS := hS.below hV
    clear hV
    simp only [List.getElem_toArray, List.getElem_cons_zero, List.getElem_cons_succ, Act.put, List.setIfInBounds_toArray, List.set_cons_zero, List.set_cons_succ]
    refine rg_one 5 (by kernel_rfl) ?_
    have hSn := hS.putRat 2 rfl (Z) (N) (false) (D) rfl
    refine rs_of rfl rfl (stores_rat (.tmp 4) (.tmp 16) rfl (s := Z) (n := N) (t := false) (d := D) rfl rfl (hS.rat 2 rfl) ⟨hSn.sub (.cons _ (.cons _ (.cons _ (.cons_cons _ (.cons_cons _ .slnil))))), ?_⟩)
    replace hS := hSn
    clear hSn
    simp only [List.getElem_toArray, List.getElem_cons_zero, List.getElem_cons_succ, Act.put, List.setIfInBounds_toArray, List.set_cons_zero, List.set_cons_succ]
    generalize st18 V3 (S + 1 + 1) (Z) (N) (false) (D) = V4 at *
    have hT := hS
    replace hS := hS.sub (l' := [.int (S + 1) t m, .int S s n]) (.cons _ (.cons _ (.cons _ (.cons_cons _ (.cons_cons _ .slnil)))))
    refine rg_take 6 (.int .i64 0) rfl (by kernel_rfl) (by kernel_rfl) (by kernel_rfl) (fun _ _ _ h => h) rfl (fun w _ => ?_) hS ?_
    · go_simp
    simp only [List.getElem_toArray, List.getElem_cons_zero, List.getElem_cons_succ, Act.put, List.setIfInBounds_toArray, List.set_cons_zero, List.set_cons_succ]
    replace hS := hT
    clear hT
    refine wpAnyH_done (by kernel_rfl) ?_ _
    go_wp2_with fail
    exact bodyPost_ret (v := .tuple #[ratV Z N false D, .int .i64 (0 : Nat)]) (results_rat rfl rfl rfl (hS.rat 2 rfl)) rfl ⟨rfl, hS.bl⟩
set_option maxRecDepth 100000 in
set_option maxHeartbeats 8000000 in
theorem Trunc_run8 (s : Bool) (n : Nat) (t : Bool) (d : Nat) (Z : Bool) (N K : Nat) (w : World) (hn : Hid (Fits n)) (hd : Hid (Fits d))
    (hK : Hid (chk s n t d = K)) (hZ : Hid (trS s n t d = Z)) (hN : Hid (trN s n t d = N)) :
    Calls Tryz.prog 12 #[ratV s n t d] w fun e w' => e = .returned (.tuple #[intV Z N, .int .i64 (K : Int)]) ∧ Below w.heap.size w w' := by
  obtain ⟨S, hS⟩ : ∃ S, w.heap.size = S := ⟨_, rfl⟩
  obtain ⟨W0, hW0⟩ : ∃ W, (w.alloc (boxR s n t d 27)).alloc (boxIZ 25) = W := ⟨_, rfl⟩
  have I := ((Bs.start w hS).pushRat hS s n t d 27).pushIntZ (k := S + 1) (by simp [hS]) 25
  rw [hW0] at I
  replace I := Lib.hid I
  have HC1 := Lib.hid (fun W => Check_run8 s n t d K W hn hd hK)
  have hk8 : K = 0 ∨ K = 8 := by rw [← hK.out]; exact chk_le s n t d
  rw [hS]
  go_enter Tryz.func12, Tryz.ntmps12
  have HRa := Lib.hid (I.out.rat 1 rfl)
  go_wp2_with (first | (with_reducible refine wpList_box_rat rfl (.tmp 0) rfl rfl ?_) | (with_reducible refine wpList_load_rat rfl (.tmp 1) rfl rfl HRa.out ?_))
  refine (HC1.out _).mono ?_
  rintro e w1 ⟨rfl, hw⟩
  replace I := Lib.hid (I.out.below hw)
  clear hw hW0 HC1 HRa
  rcases hk8 with rfl | rfl
  rotate_left
  · have hv : ¬ vld s n t d = true := fun h => by have := chk_zero.2 h; rw [hK.out] at this; cases this
    obtain rfl : Z = false := by rw [← hZ.out]; exact if_neg hv
    obtain rfl : N = 0 := by rw [← hN.out]; exact if_neg hv
    have HZ := Lib.hid (I.out.int 0 rfl)
    go_wp2_with (first | (with_reducible refine wpList_build_zeroI rfl rfl ?_) | (with_reducible refine wpList_store_int rfl (.tmp 2) (.tmp 11) rfl (b := S + 1) (s := false) (n := 0) rfl rfl HZ.out ?_))
    have I2 := I.out.putInt 0 rfl false 0 rfl
    exact bodyPost_ret (v := .tuple #[intV false 0, .int .i64 (8 : Nat)]) (results_int rfl rfl rfl (I2.int 0 rfl)) rfl ⟨rfl, I2.bl⟩
  have hv : vld s n t d = true := chk_zero.1 hK.out
  obtain ⟨e1, e2, e3, e4⟩ := vld_spec hv
  subst e2
  obtain ⟨z1, hz1⟩ : ∃ z, sgn s n = z := ⟨_, rfl⟩
  obtain ⟨L, hL⟩ : ∃ L, nl n = L := ⟨_, rfl⟩
  obtain ⟨M, hM⟩ : ∃ L, nl d = L := ⟨_, rfl⟩
  have g1 := nl_fits hL hn.out
  have g2 := nl_fits hM hd.out
  have HN1 := Lib.hid (fun W => Num_run s z1 n L W hn hz1 hL)
  have HN2 := Lib.hid (fun W => Num_run false false d M W hd rfl hM)
  have hq : Hid (n / d = N) := by show _ = _; rw [← hN.out]; exact (if_pos hv).symm
  have hzz : Hid (sgn (z1 != false) N = Z) := by
    show _ = _
    have h1 : trS s n false d = sgn s (n / d) := if_pos hv
    rw [← hZ.out, h1, hq.out, ← hz1, e1]
    cases s <;> rfl
  have hfN : Hid (Fits N) := by show Fits _; rw [← hq.out]; exact Nat.lt_of_le_of_lt (Nat.div_le_self _ _) hn.out
  obtain ⟨Q, hQ⟩ : ∃ Q, nl N = Q := ⟨_, rfl⟩
  obtain ⟨r, hr⟩ : ∃ r, n % d = r := ⟨_, rfl⟩
  obtain ⟨R, hR⟩ : ∃ R, nl r = R := ⟨_, rfl⟩
  obtain ⟨zr, hzr⟩ : ∃ z, sgn z1 r = z := ⟨_, rfl⟩
  have HDV := Lib.hid (fun W A c B e ha hb => Div_out (L := L) (M := M) (by omega) e3 hzz hq hQ hzr hr hR W A c B e ha hb)
  replace hQ := Lib.hid hQ
  clear hz1 hL hM hr hR hzr e1 e3 e4 hv hK hZ hN hn hd
  go_upto_region 3 with fail
  go_cut [4] (fun s4 wx => ∃ (K1 : Nat) (A : Option Addr) (c : Nat), s4 = .pointer (some ⟨K1, 0, none⟩) ∧ Bs w S [.num K1 Z A Q c, .dig Z A Q c N, .int (S + 1) false 0, .rat S s n false d] wx)
  case first =>
    refine rg_begin (fun V => Bs w S [.rat S s n false d] V) (by kernel_rfl) (I.out.drew.tail) (fun hS => ?_)
    refine rg_take 0 (.pointer (some ⟨S, 0, none⟩)) rfl (by kernel_rfl) (by kernel_rfl) (by kernel_rfl) (fun _ _ _ h => h) rfl (fun w _ => ?_) hS ?_
    · go_simp
    simp only [List.getElem_toArray, List.getElem_cons_zero, List.getElem_cons_succ, Act.put, List.setIfInBounds_toArray, List.set_cons_zero, List.set_cons_succ]
    refine rg_take 1 (intV s n) rfl (by kernel_rfl) (by kernel_rfl) (by kernel_rfl) (fun _ _ _ h => h) rfl (fun w hSw => ld_int (.tmp 13) rfl rfl (hSw.rat 0 rfl).num) hS ?_
    simp only [List.getElem_toArray, List.getElem_cons_zero, List.getElem_cons_succ, Act.put, List.setIfInBounds_toArray, List.set_cons_zero, List.set_cons_succ]
    refine rg_take 3 (.pointer (some ⟨S, 9, none⟩)) rfl (by kernel_rfl) (by kernel_rfl) (by kernel_rfl) (fun _ _ _ h => h) rfl (fun w _ => ?_) hS ?_
    · go_simp
    simp only [List.getElem_toArray, List.getElem_cons_zero, List.getElem_cons_succ, Act.put, List.setIfInBounds_toArray, List.set_cons_zero, List.set_cons_succ]
    refine rg_take 4 (intV false d) rfl (by kernel_rfl) (by kernel_rfl) (by kernel_rfl) (fun _ _ _ h => h) rfl (fun w hSw => ld_int (.tmp 16) rfl rfl (hSw.rat 0 rfl).den) hS ?_
    simp only [List.getElem_toArray, List.getElem_cons_zero, List.getElem_cons_succ, Act.put, List.setIfInBounds_toArray, List.set_cons_zero, List.set_cons_succ]
    replace hS := I.out.drew
    clear I
    generalize w1.drew = V0 at *
    refine rg_three 2 10 11 (by kernel_rfl) ?_ ?_ ?_
    · refine rs_of rfl rfl (wp_callx rfl enters_num8 rfl (HN1.out _) (fun q2 V1 hV => ⟨(hS.sub (.cons _ (.cons_cons _ .slnil))).below hV.2, ?_⟩))
      obtain ⟨A2, c2⟩ := q2
      obtain ⟨hg2, hV⟩ := hV
      replace hS := (hS.below hV).pushDig hg2
      clear hV hg2
      simp only [List.getElem_toArray, List.getElem_cons_zero, List.getElem_cons_succ, Act.put, List.setIfInBounds_toArray, List.set_cons_zero, List.set_cons_succ]
      refine rg_three 5 10 11 (by kernel_rfl) ?_ ?_ ?_
      · refine rs_of rfl rfl (wp_callx rfl enters_num8 rfl (HN2.out _) (fun q5 V2 hV => ⟨(hS.sub (.cons _ (.cons _ (.cons_cons _ .slnil)))).below hV.2, ?_⟩))
        obtain ⟨A5, c5⟩ := q5
        obtain ⟨hg5, hV⟩ := hV
        replace hS := (hS.below hV).pushDig hg5
        clear hV hg5
        simp only [List.getElem_toArray, List.getElem_cons_zero, List.getElem_cons_succ, Act.put, List.setIfInBounds_toArray, List.set_cons_zero, List.set_cons_succ]
        refine rg_three 6 10 11 (by kernel_rfl) ?_ ?_ ?_
        · refine rs_of rfl rfl (wp_callx rfl enters_div7 rfl (HDV.out _ _ _ _ _ (hS.dig 1 rfl) (hS.dig 0 rfl)) (fun q6 V3 hV => ⟨(hS.sub (.cons _ (.cons _ (.cons _ (.cons_cons _ .slnil))))).below hV.2.2, ?_⟩))
          obtain ⟨⟨A6, c6⟩, B6, d6⟩ := q6
          obtain ⟨hg6, hh6, hV⟩ := hV
          replace hS := ((hS.below hV).pushDig hh6).pushDig hg6
          clear hV hg6 hh6
          simp only [List.getElem_toArray, List.getElem_cons_zero, List.getElem_cons_succ, Act.put, List.setIfInBounds_toArray, List.set_cons_zero, List.set_cons_succ]
          have hT := hS
          replace hS := hS.sub (l' := [.rat S s n false d]) (.cons _ (.cons _ (.cons _ (.cons _ (.cons _ (.cons_cons _ .slnil))))))
          refine rg_take 7 (.tuple #[.agg #[.bool Z, .slice A6 Q c6], .agg #[.bool zr, .slice B6 R d6]]) rfl (by kernel_rfl) (by kernel_rfl) (by kernel_rfl) (fun _ _ _ h => h) rfl (fun w _ => ?_) hS ?_
          · go_simp
          simp only [List.getElem_toArray, List.getElem_cons_zero, List.getElem_cons_succ, Act.put, List.setIfInBounds_toArray, List.set_cons_zero, List.set_cons_succ]
          refine rg_take 8 (.agg #[.bool Z, .slice A6 Q c6]) rfl (by kernel_rfl) (by kernel_rfl) (by kernel_rfl) (fun _ _ _ h => h) rfl (fun w _ => ?_) hS ?_
          · go_simp
          simp only [List.getElem_toArray, List.getElem_cons_zero, List.getElem_cons_succ, Act.put, List.setIfInBounds_toArray, List.set_cons_zero, List.set_cons_succ]
          refine rg_take 9 (.agg #[.bool zr, .slice B6 R d6]) rfl (by kernel_rfl) (by kernel_rfl) (by kernel_rfl) (fun _ _ _ h => h) rfl (fun w _ => ?_) hS ?_
          · go_simp
          simp only [List.getElem_toArray, List.getElem_cons_zero, List.getElem_cons_succ, Act.put, List.setIfInBounds_toArray, List.set_cons_zero, List.set_cons_succ]
          replace hS := hT
          clear hT
          refine rg_two 10 11 (by kernel_rfl) ?_ ?_
          · refine rs_of rfl rfl (wp_value (alloc_num rfl) ⟨(hS.sub (.cons _ (.cons _ (.cons _ (.cons _ (.cons _ (.cons_cons _ .slnil))))))).alloc _, ?_⟩)
            replace hS := hS.pushNum (k := _) rfl false none 0 0
            simp only [List.getElem_toArray, List.getElem_cons_zero, List.getElem_cons_succ, Act.put, List.setIfInBounds_toArray, List.set_cons_zero, List.set_cons_succ]
            generalize V3.alloc boxNZ = V4 at *
            generalize V3.heap.size = K10 at *
            refine rg_one 11 (by kernel_rfl) ?_
            refine rs_of rfl rfl (wp_value (alloc_num rfl) ⟨(hS.sub (.cons _ (.cons _ (.cons _ (.cons _ (.cons _ (.cons _ (.cons_cons _ .slnil)))))))).alloc _, ?_⟩)
            replace hS := hS.pushNum (k := _) rfl false none 0 0
            simp only [List.getElem_toArray, List.getElem_cons_zero, List.getElem_cons_succ, Act.put, List.setIfInBounds_toArray, List.set_cons_zero, List.set_cons_succ]
            generalize V4.alloc boxNZ = V5 at *
            generalize V4.heap.size = K11 at *
            refine rg_one 12 (by kernel_rfl) ?_
            have hSn := hS.putNum 1 rfl (Z) (A6) (Q) (c6) rfl
            refine rs_of rfl rfl (stores_num (.tmp 4) (.tmp 20) rfl (t := Z) (B := A6) (M := Q) (cb := c6) rfl rfl (hS.num 1 rfl) ⟨hSn.sub (.cons _ (.cons _ (.cons _ (.cons _ (.cons _ (.cons _ (.cons _ (.cons_cons _ .slnil)))))))), ?_⟩)
            replace hS := hSn
            clear hSn
            simp only [List.getElem_toArray, List.getElem_cons_zero, List.getElem_cons_succ, Act.put, List.setIfInBounds_toArray, List.set_cons_zero, List.set_cons_succ]
            generalize st2 V5 K10 (Z) (A6) (Q) (c6) = V6 at *
            refine rg_one 13 (by kernel_rfl) ?_
            have hSn := hS.putNum 0 rfl (zr) (B6) (R) (d6) rfl
            refine rs_of rfl rfl (stores_num (.tmp 5) (.tmp 21) rfl (t := zr) (B := B6) (M := R) (cb := d6) rfl rfl (hS.num 0 rfl) ⟨hSn.sub (.cons _ (.cons _ (.cons _ (.cons _ (.cons _ (.cons _ (.cons _ (.cons_cons _ .slnil)))))))), ?_⟩)
            replace hS := hSn
            clear hSn
            simp only [List.getElem_toArray, List.getElem_cons_zero, List.getElem_cons_succ, Act.put, List.setIfInBounds_toArray, List.set_cons_zero, List.set_cons_succ]
            generalize st2 V6 K11 (zr) (B6) (R) (d6) = V7 at *
            refine wpAnyH_done (by kernel_rfl) ?_ _
            go_wp2_with fail
            go_meet
            replace hS := hS.sub (l' := [.num K10 Z A6 Q c6, .dig Z A6 Q c6 N, .int (S + 1) false 0, .rat S s n false d]) (.cons _ (.cons_cons _ (.cons_cons _ (.cons _ (.cons _ (.cons _ (.cons_cons _ (.cons_cons _ .slnil))))))))
            exact ⟨_, _, _, rfl, hS⟩
          · refine rs_of rfl rfl (wp_value (alloc_num rfl) ⟨(hS.sub (.cons _ (.cons _ (.cons _ (.cons _ (.cons _ (.cons_cons _ .slnil))))))).alloc _, ?_⟩)
            replace hS := hS.pushNum (k := _) rfl false none 0 0
            simp only [List.getElem_toArray, List.getElem_cons_zero, List.getElem_cons_succ, Act.put, List.setIfInBounds_toArray, List.set_cons_zero, List.set_cons_succ]
            generalize V3.alloc boxNZ = V8 at *
            generalize V3.heap.size = K11 at *
            refine rg_one 10 (by kernel_rfl) ?_
            refine rs_of rfl rfl (wp_value (alloc_num rfl) ⟨(hS.sub (.cons _ (.cons _ (.cons _ (.cons _ (.cons _ (.cons _ (.cons_cons _ .slnil)))))))).alloc _, ?_⟩)
            replace hS := hS.pushNum (k := _) rfl false none 0 0
            simp only [List.getElem_toArray, List.getElem_cons_zero, List.getElem_cons_succ, Act.put, List.setIfInBounds_toArray, List.set_cons_zero, List.set_cons_succ]
            generalize V8.alloc boxNZ = V9 at *
            generalize V8.heap.size = K10 at *
            refine rg_one 12 (by kernel_rfl) ?_
            have hSn := hS.putNum 0 rfl (Z) (A6) (Q) (c6) rfl
            refine rs_of rfl rfl (stores_num (.tmp 4) (.tmp 20) rfl (t := Z) (B := A6) (M := Q) (cb := c6) rfl rfl (hS.num 0 rfl) ⟨hSn.sub (.cons _ (.cons _ (.cons _ (.cons _ (.cons _ (.cons _ (.cons _ (.cons_cons _ .slnil)))))))), ?_⟩)
            replace hS := hSn
            clear hSn
            simp only [List.getElem_toArray, List.getElem_cons_zero, List.getElem_cons_succ, Act.put, List.setIfInBounds_toArray, List.set_cons_zero, List.set_cons_succ]
            generalize st2 V9 K10 (Z) (A6) (Q) (c6) = V10 at *
            refine rg_one 13 (by kernel_rfl) ?_
            have hSn := hS.putNum 1 rfl (zr) (B6) (R) (d6) rfl
            refine rs_of rfl rfl (stores_num (.tmp 5) (.tmp 21) rfl (t := zr) (B := B6) (M := R) (cb := d6) rfl rfl (hS.num 1 rfl) ⟨hSn.sub (.cons _ (.cons _ (.cons _ (.cons _ (.cons _ (.cons _ (.cons _ (.cons_cons _ .slnil)))))))), ?_⟩)
            replace hS := hSn
            clear hSn
            simp only [List.getElem_toArray, List.getElem_cons_zero, List.getElem_cons_succ, Act.put, List.setIfInBounds_toArray, List.set_cons_zero, List.set_cons_succ]
            generalize st2 V10 K11 (zr) (B6) (R) (d6) = V11 at *
            refine wpAnyH_done (by kernel_rfl) ?_ _
            go_wp2_with fail
            go_meet
            replace hS := hS.sub (l' := [.num K10 Z A6 Q c6, .dig Z A6 Q c6 N, .int (S + 1) false 0, .rat S s n false d]) (.cons_cons _ (.cons _ (.cons_cons _ (.cons _ (.cons _ (.cons _ (.cons_cons _ (.cons_cons _ .slnil))))))))
            exact ⟨_, _, _, rfl, hS⟩
        · refine rs_of rfl rfl (wp_value (alloc_num rfl) ⟨(hS.sub (.cons _ (.cons _ (.cons _ (.cons_cons _ .slnil))))).alloc _, ?_⟩)
          replace hS := hS.pushNum (k := _) rfl false none 0 0
          simp only [List.getElem_toArray, List.getElem_cons_zero, List.getElem_cons_succ, Act.put, List.setIfInBounds_toArray, List.set_cons_zero, List.set_cons_succ]
          generalize V2.alloc boxNZ = V12 at *
          generalize V2.heap.size = K10 at *
          refine rg_two 6 11 (by kernel_rfl) ?_ ?_
          · refine rs_of rfl rfl (wp_callx rfl enters_div7 rfl (HDV.out _ _ _ _ _ (hS.dig 2 rfl) (hS.dig 1 rfl)) (fun q6 V13 hV => ⟨(hS.sub (.cons _ (.cons _ (.cons _ (.cons _ (.cons_cons _ .slnil)))))).below hV.2.2, ?_⟩))
            obtain ⟨⟨A6, c6⟩, B6, d6⟩ := q6
            obtain ⟨hg6, hh6, hV⟩ := hV
            replace hS := ((hS.below hV).pushDig hh6).pushDig hg6
            clear hV hg6 hh6
            simp only [List.getElem_toArray, List.getElem_cons_zero, List.getElem_cons_succ, Act.put, List.setIfInBounds_toArray, List.set_cons_zero, List.set_cons_succ]
            have hT := hS
            replace hS := hS.sub (l' := [.rat S s n false d]) (.cons _ (.cons _ (.cons _ (.cons _ (.cons _ (.cons _ (.cons_cons _ .slnil)))))))
            refine rg_take 7 (.tuple #[.agg #[.bool Z, .slice A6 Q c6], .agg #[.bool zr, .slice B6 R d6]]) rfl (by kernel_rfl) (by kernel_rfl) (by kernel_rfl) (fun _ _ _ h => h) rfl (fun w _ => ?_) hS ?_
            · go_simp
            simp only [List.getElem_toArray, List.getElem_cons_zero, List.getElem_cons_succ, Act.put, List.setIfInBounds_toArray, List.set_cons_zero, List.set_cons_succ]
            refine rg_take 8 (.agg #[.bool Z, .slice A6 Q c6]) rfl (by kernel_rfl) (by kernel_rfl) (by kernel_rfl) (fun _ _ _ h => h) rfl (fun w _ => ?_) hS ?_
            · go_simp
            simp only [List.getElem_toArray, List.getElem_cons_zero, List.getElem_cons_succ, Act.put, List.setIfInBounds_toArray, List.set_cons_zero, List.set_cons_succ]
            refine rg_take 9 (.agg #[.bool zr, .slice B6 R d6]) rfl (by kernel_rfl) (by kernel_rfl) (by kernel_rfl) (fun _ _ _ h => h) rfl (fun w _ => ?_) hS ?_
            · go_simp
            simp only [List.getElem_toArray, List.getElem_cons_zero, List.getElem_cons_succ, Act.put, List.setIfInBounds_toArray, List.set_cons_zero, List.set_cons_succ]
            replace hS := hT
            clear hT
            refine rg_one 11 (by kernel_rfl) ?_
            refine rs_of rfl rfl (wp_value (alloc_num rfl) ⟨(hS.sub (.cons _ (.cons _ (.cons _ (.cons _ (.cons _ (.cons _ (.cons_cons _ .slnil)))))))).alloc _, ?_⟩)
            replace hS := hS.pushNum (k := _) rfl false none 0 0
            simp only [List.getElem_toArray, List.getElem_cons_zero, List.getElem_cons_succ, Act.put, List.setIfInBounds_toArray, List.set_cons_zero, List.set_cons_succ]
            generalize V13.alloc boxNZ = V14 at *
            generalize V13.heap.size = K11 at *
            refine rg_one 12 (by kernel_rfl) ?_
            have hSn := hS.putNum 3 rfl (Z) (A6) (Q) (c6) rfl
            refine rs_of rfl rfl (stores_num (.tmp 4) (.tmp 20) rfl (t := Z) (B := A6) (M := Q) (cb := c6) rfl rfl (hS.num 3 rfl) ⟨hSn.sub (.cons _ (.cons _ (.cons _ (.cons _ (.cons _ (.cons _ (.cons _ (.cons_cons _ .slnil)))))))), ?_⟩)
            replace hS := hSn
            clear hSn
            simp only [List.getElem_toArray, List.getElem_cons_zero, List.getElem_cons_succ, Act.put, List.setIfInBounds_toArray, List.set_cons_zero, List.set_cons_succ]
            generalize st2 V14 K10 (Z) (A6) (Q) (c6) = V15 at *
            refine rg_one 13 (by kernel_rfl) ?_
            have hSn := hS.putNum 0 rfl (zr) (B6) (R) (d6) rfl
            refine rs_of rfl rfl (stores_num (.tmp 5) (.tmp 21) rfl (t := zr) (B := B6) (M := R) (cb := d6) rfl rfl (hS.num 0 rfl) ⟨hSn.sub (.cons _ (.cons _ (.cons _ (.cons _ (.cons _ (.cons _ (.cons _ (.cons_cons _ .slnil)))))))), ?_⟩)
            replace hS := hSn
            clear hSn
            simp only [List.getElem_toArray, List.getElem_cons_zero, List.getElem_cons_succ, Act.put, List.setIfInBounds_toArray, List.set_cons_zero, List.set_cons_succ]
            generalize st2 V15 K11 (zr) (B6) (R) (d6) = V16 at *
            refine wpAnyH_done (by kernel_rfl) ?_ _
            go_wp2_with fail
            go_meet
            replace hS := hS.sub (l' := [.dig Z A6 Q c6 N, .num K10 Z A6 Q c6, .int (S + 1) false 0, .rat S s n false d]) (.cons _ (.cons_cons _ (.cons _ (.cons_cons _ (.cons _ (.cons _ (.cons_cons _ (.cons_cons _ .slnil))))))))
            replace hS := hS.front 3 rfl
            replace hS := hS.front 3 rfl
            replace hS := hS.front 2 rfl
            replace hS := hS.front 3 rfl
            exact ⟨_, _, _, rfl, hS⟩
          · refine rs_of rfl rfl (wp_value (alloc_num rfl) ⟨(hS.sub (.cons _ (.cons _ (.cons _ (.cons _ (.cons_cons _ .slnil)))))).alloc _, ?_⟩)
            replace hS := hS.pushNum (k := _) rfl false none 0 0
            simp only [List.getElem_toArray, List.getElem_cons_zero, List.getElem_cons_succ, Act.put, List.setIfInBounds_toArray, List.set_cons_zero, List.set_cons_succ]
            generalize V12.alloc boxNZ = V17 at *
            generalize V12.heap.size = K11 at *
            refine rg_one 6 (by kernel_rfl) ?_
            refine rs_of rfl rfl (wp_callx rfl enters_div7 rfl (HDV.out _ _ _ _ _ (hS.dig 3 rfl) (hS.dig 2 rfl)) (fun q6 V18 hV => ⟨(hS.sub (.cons _ (.cons _ (.cons _ (.cons _ (.cons _ (.cons_cons _ .slnil))))))).below hV.2.2, ?_⟩))
            obtain ⟨⟨A6, c6⟩, B6, d6⟩ := q6
            obtain ⟨hg6, hh6, hV⟩ := hV
            replace hS := ((hS.below hV).pushDig hh6).pushDig hg6
            clear hV hg6 hh6
            simp only [List.getElem_toArray, List.getElem_cons_zero, List.getElem_cons_succ, Act.put, List.setIfInBounds_toArray, List.set_cons_zero, List.set_cons_succ]
            have hT := hS
            replace hS := hS.sub (l' := [.rat S s n false d]) (.cons _ (.cons _ (.cons _ (.cons _ (.cons _ (.cons _ (.cons _ (.cons_cons _ .slnil))))))))
            refine rg_take 7 (.tuple #[.agg #[.bool Z, .slice A6 Q c6], .agg #[.bool zr, .slice B6 R d6]]) rfl (by kernel_rfl) (by kernel_rfl) (by kernel_rfl) (fun _ _ _ h => h) rfl (fun w _ => ?_) hS ?_
            · go_simp
            simp only [List.getElem_toArray, List.getElem_cons_zero, List.getElem_cons_succ, Act.put, List.setIfInBounds_toArray, List.set_cons_zero, List.set_cons_succ]
            refine rg_take 8 (.agg #[.bool Z, .slice A6 Q c6]) rfl (by kernel_rfl) (by kernel_rfl) (by kernel_rfl) (fun _ _ _ h => h) rfl (fun w _ => ?_) hS ?_
            · go_simp
            simp only [List.getElem_toArray, List.getElem_cons_zero, List.getElem_cons_succ, Act.put, List.setIfInBounds_toArray, List.set_cons_zero, List.set_cons_succ]
            refine rg_take 9 (.agg #[.bool zr, .slice B6 R d6]) rfl (by kernel_rfl) (by kernel_rfl) (by kernel_rfl) (fun _ _ _ h => h) rfl (fun w _ => ?_) hS ?_
            · go_simp
            simp only [List.getElem_toArray, List.getElem_cons_zero, List.getElem_cons_succ, Act.put, List.setIfInBounds_toArray, List.set_cons_zero, List.set_cons_succ]
            replace hS := hT
            clear hT
            refine rg_one 12 (by kernel_rfl) ?_
            have hSn := hS.putNum 3 rfl (Z) (A6) (Q) (c6) rfl
            refine rs_of rfl rfl (stores_num (.tmp 4) (.tmp 20) rfl (t := Z) (B := A6) (M := Q) (cb := c6) rfl rfl (hS.num 3 rfl) ⟨hSn.sub (.cons _ (.cons _ (.cons _ (.cons _ (.cons _ (.cons _ (.cons _ (.cons_cons _ .slnil)))))))), ?_⟩)
            replace hS := hSn
            clear hSn
            simp only [List.getElem_toArray, List.getElem_cons_zero, List.getElem_cons_succ, Act.put, List.setIfInBounds_toArray, List.set_cons_zero, List.set_cons_succ]
            generalize st2 V18 K10 (Z) (A6) (Q) (c6) = V19 at *
            refine rg_one 13 (by kernel_rfl) ?_
            have hSn := hS.putNum 2 rfl (zr) (B6) (R) (d6) rfl
            refine rs_of rfl rfl (stores_num (.tmp 5) (.tmp 21) rfl (t := zr) (B := B6) (M := R) (cb := d6) rfl rfl (hS.num 2 rfl) ⟨hSn.sub (.cons _ (.cons _ (.cons _ (.cons _ (.cons _ (.cons _ (.cons _ (.cons_cons _ .slnil)))))))), ?_⟩)
            replace hS := hSn
            clear hSn
            simp only [List.getElem_toArray, List.getElem_cons_zero, List.getElem_cons_succ, Act.put, List.setIfInBounds_toArray, List.set_cons_zero, List.set_cons_succ]
            generalize st2 V19 K11 (zr) (B6) (R) (d6) = V20 at *
            refine wpAnyH_done (by kernel_rfl) ?_ _
            go_wp2_with fail
            go_meet
            replace hS := hS.sub (l' := [.dig Z A6 Q c6 N, .num K10 Z A6 Q c6, .int (S + 1) false 0, .rat S s n false d]) (.cons_cons _ (.cons _ (.cons _ (.cons_cons _ (.cons _ (.cons _ (.cons_cons _ (.cons_cons _ .slnil))))))))
            replace hS := hS.front 3 rfl
            replace hS := hS.front 3 rfl
            replace hS := hS.front 2 rfl
            replace hS := hS.front 3 rfl
            exact ⟨_, _, _, rfl, hS⟩
        · refine rs_of rfl rfl (wp_value (alloc_num rfl) ⟨(hS.sub (.cons _ (.cons _ (.cons _ (.cons_cons _ .slnil))))).alloc _, ?_⟩)
          replace hS := hS.pushNum (k := _) rfl false none 0 0
          simp only [List.getElem_toArray, List.getElem_cons_zero, List.getElem_cons_succ, Act.put, List.setIfInBounds_toArray, List.set_cons_zero, List.set_cons_succ]
          generalize V2.alloc boxNZ = V21 at *
          generalize V2.heap.size = K11 at *
          refine rg_two 6 10 (by kernel_rfl) ?_ ?_
          · refine rs_of rfl rfl (wp_callx rfl enters_div7 rfl (HDV.out _ _ _ _ _ (hS.dig 2 rfl) (hS.dig 1 rfl)) (fun q6 V22 hV => ⟨(hS.sub (.cons _ (.cons _ (.cons _ (.cons _ (.cons_cons _ .slnil)))))).below hV.2.2, ?_⟩))
            obtain ⟨⟨A6, c6⟩, B6, d6⟩ := q6
            obtain ⟨hg6, hh6, hV⟩ := hV
            replace hS := ((hS.below hV).pushDig hh6).pushDig hg6
            clear hV hg6 hh6
            simp only [List.getElem_toArray, List.getElem_cons_zero, List.getElem_cons_succ, Act.put, List.setIfInBounds_toArray, List.set_cons_zero, List.set_cons_succ]
            have hT := hS
            replace hS := hS.sub (l' := [.rat S s n false d]) (.cons _ (.cons _ (.cons _ (.cons _ (.cons _ (.cons _ (.cons_cons _ .slnil)))))))
            refine rg_take 7 (.tuple #[.agg #[.bool Z, .slice A6 Q c6], .agg #[.bool zr, .slice B6 R d6]]) rfl (by kernel_rfl) (by kernel_rfl) (by kernel_rfl) (fun _ _ _ h => h) rfl (fun w _ => ?_) hS ?_
            · go_simp
            simp only [List.getElem_toArray, List.getElem_cons_zero, List.getElem_cons_succ, Act.put, List.setIfInBounds_toArray, List.set_cons_zero, List.set_cons_succ]
            refine rg_take 8 (.agg #[.bool Z, .slice A6 Q c6]) rfl (by kernel_rfl) (by kernel_rfl) (by kernel_rfl) (fun _ _ _ h => h) rfl (fun w _ => ?_) hS ?_
            · go_simp
            simp only [List.getElem_toArray, List.getElem_cons_zero, List.getElem_cons_succ, Act.put, List.setIfInBounds_toArray, List.set_cons_zero, List.set_cons_succ]
            refine rg_take 9 (.agg #[.bool zr, .slice B6 R d6]) rfl (by kernel_rfl) (by kernel_rfl) (by kernel_rfl) (fun _ _ _ h => h) rfl (fun w _ => ?_) hS ?_
            · go_simp
            simp only [List.getElem_toArray, List.getElem_cons_zero, List.getElem_cons_succ, Act.put, List.setIfInBounds_toArray, List.set_cons_zero, List.set_cons_succ]
            replace hS := hT
            clear hT
            refine rg_one 10 (by kernel_rfl) ?_
            refine rs_of rfl rfl (wp_value (alloc_num rfl) ⟨(hS.sub (.cons _ (.cons _ (.cons _ (.cons _ (.cons _ (.cons _ (.cons_cons _ .slnil)))))))).alloc _, ?_⟩)
            replace hS := hS.pushNum (k := _) rfl false none 0 0
            simp only [List.getElem_toArray, List.getElem_cons_zero, List.getElem_cons_succ, Act.put, List.setIfInBounds_toArray, List.set_cons_zero, List.set_cons_succ]
            generalize V22.alloc boxNZ = V23 at *
            generalize V22.heap.size = K10 at *
            refine rg_one 12 (by kernel_rfl) ?_
            have hSn := hS.putNum 0 rfl (Z) (A6) (Q) (c6) rfl
            refine rs_of rfl rfl (stores_num (.tmp 4) (.tmp 20) rfl (t := Z) (B := A6) (M := Q) (cb := c6) rfl rfl (hS.num 0 rfl) ⟨hSn.sub (.cons _ (.cons _ (.cons _ (.cons _ (.cons _ (.cons _ (.cons _ (.cons_cons _ .slnil)))))))), ?_⟩)
            replace hS := hSn
            clear hSn
            simp only [List.getElem_toArray, List.getElem_cons_zero, List.getElem_cons_succ, Act.put, List.setIfInBounds_toArray, List.set_cons_zero, List.set_cons_succ]
            generalize st2 V23 K10 (Z) (A6) (Q) (c6) = V24 at *
            refine rg_one 13 (by kernel_rfl) ?_
            have hSn := hS.putNum 3 rfl (zr) (B6) (R) (d6) rfl
            refine rs_of rfl rfl (stores_num (.tmp 5) (.tmp 21) rfl (t := zr) (B := B6) (M := R) (cb := d6) rfl rfl (hS.num 3 rfl) ⟨hSn.sub (.cons _ (.cons _ (.cons _ (.cons _ (.cons _ (.cons _ (.cons _ (.cons_cons _ .slnil)))))))), ?_⟩)
            replace hS := hSn
            clear hSn
            simp only [List.getElem_toArray, List.getElem_cons_zero, List.getElem_cons_succ, Act.put, List.setIfInBounds_toArray, List.set_cons_zero, List.set_cons_succ]
            generalize st2 V24 K11 (zr) (B6) (R) (d6) = V25 at *
            refine wpAnyH_done (by kernel_rfl) ?_ _
            go_wp2_with fail
            go_meet
            replace hS := hS.sub (l' := [.num K10 Z A6 Q c6, .dig Z A6 Q c6 N, .int (S + 1) false 0, .rat S s n false d]) (.cons_cons _ (.cons_cons _ (.cons _ (.cons _ (.cons _ (.cons _ (.cons_cons _ (.cons_cons _ .slnil))))))))
            exact ⟨_, _, _, rfl, hS⟩
          · refine rs_of rfl rfl (wp_value (alloc_num rfl) ⟨(hS.sub (.cons _ (.cons _ (.cons _ (.cons _ (.cons_cons _ .slnil)))))).alloc _, ?_⟩)
            replace hS := hS.pushNum (k := _) rfl false none 0 0
            simp only [List.getElem_toArray, List.getElem_cons_zero, List.getElem_cons_succ, Act.put, List.setIfInBounds_toArray, List.set_cons_zero, List.set_cons_succ]
            generalize V21.alloc boxNZ = V26 at *
            generalize V21.heap.size = K10 at *
            refine rg_one 6 (by kernel_rfl) ?_
            refine rs_of rfl rfl (wp_callx rfl enters_div7 rfl (HDV.out _ _ _ _ _ (hS.dig 3 rfl) (hS.dig 2 rfl)) (fun q6 V27 hV => ⟨(hS.sub (.cons _ (.cons _ (.cons _ (.cons _ (.cons _ (.cons_cons _ .slnil))))))).below hV.2.2, ?_⟩))
            obtain ⟨⟨A6, c6⟩, B6, d6⟩ := q6
            obtain ⟨hg6, hh6, hV⟩ := hV
            replace hS := ((hS.below hV).pushDig hh6).pushDig hg6
            clear hV hg6 hh6
            simp only [List.getElem_toArray, List.getElem_cons_zero, List.getElem_cons_succ, Act.put, List.setIfInBounds_toArray, List.set_cons_zero, List.set_cons_succ]
            have hT := hS
            replace hS := hS.sub (l' := [.rat S s n false d]) (.cons _ (.cons _ (.cons _ (.cons _ (.cons _ (.cons _ (.cons _ (.cons_cons _ .slnil))))))))
            refine rg_take 7 (.tuple #[.agg #[.bool Z, .slice A6 Q c6], .agg #[.bool zr, .slice B6 R d6]]) rfl (by kernel_rfl) (by kernel_rfl) (by kernel_rfl) (fun _ _ _ h => h) rfl (fun w _ => ?_) hS ?_
            · go_simp
            simp only [List.getElem_toArray, List.getElem_cons_zero, List.getElem_cons_succ, Act.put, List.setIfInBounds_toArray, List.set_cons_zero, List.set_cons_succ]
            refine rg_take 8 (.agg #[.bool Z, .slice A6 Q c6]) rfl (by kernel_rfl) (by kernel_rfl) (by kernel_rfl) (fun _ _ _ h => h) rfl (fun w _ => ?_) hS ?_
            · go_simp
            simp only [List.getElem_toArray, List.getElem_cons_zero, List.getElem_cons_succ, Act.put, List.setIfInBounds_toArray, List.set_cons_zero, List.set_cons_succ]
            refine rg_take 9 (.agg #[.bool zr, .slice B6 R d6]) rfl (by kernel_rfl) (by kernel_rfl) (by kernel_rfl) (fun _ _ _ h => h) rfl (fun w _ => ?_) hS ?_
            · go_simp
            simp only [List.getElem_toArray, List.getElem_cons_zero, List.getElem_cons_succ, Act.put, List.setIfInBounds_toArray, List.set_cons_zero, List.set_cons_succ]
            replace hS := hT
            clear hT
            refine rg_one 12 (by kernel_rfl) ?_
            have hSn := hS.putNum 2 rfl (Z) (A6) (Q) (c6) rfl
            refine rs_of rfl rfl (stores_num (.tmp 4) (.tmp 20) rfl (t := Z) (B := A6) (M := Q) (cb := c6) rfl rfl (hS.num 2 rfl) ⟨hSn.sub (.cons _ (.cons _ (.cons _ (.cons _ (.cons _ (.cons _ (.cons _ (.cons_cons _ .slnil)))))))), ?_⟩)
            replace hS := hSn
            clear hSn
            simp only [List.getElem_toArray, List.getElem_cons_zero, List.getElem_cons_succ, Act.put, List.setIfInBounds_toArray, List.set_cons_zero, List.set_cons_succ]
            generalize st2 V27 K10 (Z) (A6) (Q) (c6) = V28 at *
            refine rg_one 13 (by kernel_rfl) ?_
            have hSn := hS.putNum 3 rfl (zr) (B6) (R) (d6) rfl
            refine rs_of rfl rfl (stores_num (.tmp 5) (.tmp 21) rfl (t := zr) (B := B6) (M := R) (cb := d6) rfl rfl (hS.num 3 rfl) ⟨hSn.sub (.cons _ (.cons _ (.cons _ (.cons _ (.cons _ (.cons _ (.cons _ (.cons_cons _ .slnil)))))))), ?_⟩)
            replace hS := hSn
            clear hSn
            simp only [List.getElem_toArray, List.getElem_cons_zero, List.getElem_cons_succ, Act.put, List.setIfInBounds_toArray, List.set_cons_zero, List.set_cons_succ]
            generalize st2 V28 K11 (zr) (B6) (R) (d6) = V29 at *
            refine wpAnyH_done (by kernel_rfl) ?_ _
            go_wp2_with fail
            go_meet
            replace hS := hS.sub (l' := [.dig Z A6 Q c6 N, .num K10 Z A6 Q c6, .int (S + 1) false 0, .rat S s n false d]) (.cons_cons _ (.cons _ (.cons_cons _ (.cons _ (.cons _ (.cons _ (.cons_cons _ (.cons_cons _ .slnil))))))))
            replace hS := hS.front 3 rfl
            replace hS := hS.front 3 rfl
            replace hS := hS.front 2 rfl
            replace hS := hS.front 3 rfl
            exact ⟨_, _, _, rfl, hS⟩
      · refine rs_of rfl rfl (wp_value (alloc_num rfl) ⟨(hS.sub (.cons _ (.cons _ (.cons_cons _ .slnil)))).alloc _, ?_⟩)
        replace hS := hS.pushNum (k := _) rfl false none 0 0
        simp only [List.getElem_toArray, List.getElem_cons_zero, List.getElem_cons_succ, Act.put, List.setIfInBounds_toArray, List.set_cons_zero, List.set_cons_succ]
        generalize V1.alloc boxNZ = V30 at *
        generalize V1.heap.size = K10 at *
        refine rg_two 5 11 (by kernel_rfl) ?_ ?_
        · refine rs_of rfl rfl (wp_callx rfl enters_num8 rfl (HN2.out _) (fun q5 V31 hV => ⟨(hS.sub (.cons _ (.cons _ (.cons _ (.cons_cons _ .slnil))))).below hV.2, ?_⟩))
          obtain ⟨A5, c5⟩ := q5
          obtain ⟨hg5, hV⟩ := hV
          replace hS := (hS.below hV).pushDig hg5
          clear hV hg5
          simp only [List.getElem_toArray, List.getElem_cons_zero, List.getElem_cons_succ, Act.put, List.setIfInBounds_toArray, List.set_cons_zero, List.set_cons_succ]
          refine rg_two 6 11 (by kernel_rfl) ?_ ?_
          · refine rs_of rfl rfl (wp_callx rfl enters_div7 rfl (HDV.out _ _ _ _ _ (hS.dig 2 rfl) (hS.dig 0 rfl)) (fun q6 V32 hV => ⟨(hS.sub (.cons _ (.cons _ (.cons _ (.cons _ (.cons_cons _ .slnil)))))).below hV.2.2, ?_⟩))
            obtain ⟨⟨A6, c6⟩, B6, d6⟩ := q6
            obtain ⟨hg6, hh6, hV⟩ := hV
            replace hS := ((hS.below hV).pushDig hh6).pushDig hg6
            clear hV hg6 hh6
            simp only [List.getElem_toArray, List.getElem_cons_zero, List.getElem_cons_succ, Act.put, List.setIfInBounds_toArray, List.set_cons_zero, List.set_cons_succ]
            have hT := hS
            replace hS := hS.sub (l' := [.rat S s n false d]) (.cons _ (.cons _ (.cons _ (.cons _ (.cons _ (.cons _ (.cons_cons _ .slnil)))))))
            refine rg_take 7 (.tuple #[.agg #[.bool Z, .slice A6 Q c6], .agg #[.bool zr, .slice B6 R d6]]) rfl (by kernel_rfl) (by kernel_rfl) (by kernel_rfl) (fun _ _ _ h => h) rfl (fun w _ => ?_) hS ?_
            · go_simp
            simp only [List.getElem_toArray, List.getElem_cons_zero, List.getElem_cons_succ, Act.put, List.setIfInBounds_toArray, List.set_cons_zero, List.set_cons_succ]
            refine rg_take 8 (.agg #[.bool Z, .slice A6 Q c6]) rfl (by kernel_rfl) (by kernel_rfl) (by kernel_rfl) (fun _ _ _ h => h) rfl (fun w _ => ?_) hS ?_
            · go_simp
            simp only [List.getElem_toArray, List.getElem_cons_zero, List.getElem_cons_succ, Act.put, List.setIfInBounds_toArray, List.set_cons_zero, List.set_cons_succ]
            refine rg_take 9 (.agg #[.bool zr, .slice B6 R d6]) rfl (by kernel_rfl) (by kernel_rfl) (by kernel_rfl) (fun _ _ _ h => h) rfl (fun w _ => ?_) hS ?_
            · go_simp
            simp only [List.getElem_toArray, List.getElem_cons_zero, List.getElem_cons_succ, Act.put, List.setIfInBounds_toArray, List.set_cons_zero, List.set_cons_succ]
            replace hS := hT
            clear hT
            refine rg_one 11 (by kernel_rfl) ?_
            refine rs_of rfl rfl (wp_value (alloc_num rfl) ⟨(hS.sub (.cons _ (.cons _ (.cons _ (.cons _ (.cons _ (.cons _ (.cons_cons _ .slnil)))))))).alloc _, ?_⟩)
            replace hS := hS.pushNum (k := _) rfl false none 0 0
            simp only [List.getElem_toArray, List.getElem_cons_zero, List.getElem_cons_succ, Act.put, List.setIfInBounds_toArray, List.set_cons_zero, List.set_cons_succ]
            generalize V32.alloc boxNZ = V33 at *
            generalize V32.heap.size = K11 at *
            refine rg_one 12 (by kernel_rfl) ?_
            have hSn := hS.putNum 4 rfl (Z) (A6) (Q) (c6) rfl
            refine rs_of rfl rfl (stores_num (.tmp 4) (.tmp 20) rfl (t := Z) (B := A6) (M := Q) (cb := c6) rfl rfl (hS.num 4 rfl) ⟨hSn.sub (.cons _ (.cons _ (.cons _ (.cons _ (.cons _ (.cons _ (.cons _ (.cons_cons _ .slnil)))))))), ?_⟩)
            replace hS := hSn
            clear hSn
            simp only [List.getElem_toArray, List.getElem_cons_zero, List.getElem_cons_succ, Act.put, List.setIfInBounds_toArray, List.set_cons_zero, List.set_cons_succ]
            generalize st2 V33 K10 (Z) (A6) (Q) (c6) = V34 at *
            refine rg_one 13 (by kernel_rfl) ?_
            have hSn := hS.putNum 0 rfl (zr) (B6) (R) (d6) rfl
            refine rs_of rfl rfl (stores_num (.tmp 5) (.tmp 21) rfl (t := zr) (B := B6) (M := R) (cb := d6) rfl rfl (hS.num 0 rfl) ⟨hSn.sub (.cons _ (.cons _ (.cons _ (.cons _ (.cons _ (.cons _ (.cons _ (.cons_cons _ .slnil)))))))), ?_⟩)
            replace hS := hSn
            clear hSn
            simp only [List.getElem_toArray, List.getElem_cons_zero, List.getElem_cons_succ, Act.put, List.setIfInBounds_toArray, List.set_cons_zero, List.set_cons_succ]
            generalize st2 V34 K11 (zr) (B6) (R) (d6) = V35 at *
            refine wpAnyH_done (by kernel_rfl) ?_ _
            go_wp2_with fail
            go_meet
            replace hS := hS.sub (l' := [.dig Z A6 Q c6 N, .num K10 Z A6 Q c6, .int (S + 1) false 0, .rat S s n false d]) (.cons _ (.cons_cons _ (.cons _ (.cons _ (.cons_cons _ (.cons _ (.cons_cons _ (.cons_cons _ .slnil))))))))
            replace hS := hS.front 3 rfl
            replace hS := hS.front 3 rfl
            replace hS := hS.front 2 rfl
            replace hS := hS.front 3 rfl
            exact ⟨_, _, _, rfl, hS⟩
          · refine rs_of rfl rfl (wp_value (alloc_num rfl) ⟨(hS.sub (.cons _ (.cons _ (.cons _ (.cons _ (.cons_cons _ .slnil)))))).alloc _, ?_⟩)
            replace hS := hS.pushNum (k := _) rfl false none 0 0
            simp only [List.getElem_toArray, List.getElem_cons_zero, List.getElem_cons_succ, Act.put, List.setIfInBounds_toArray, List.set_cons_zero, List.set_cons_succ]
            generalize V31.alloc boxNZ = V36 at *
            generalize V31.heap.size = K11 at *
            refine rg_one 6 (by kernel_rfl) ?_
            refine rs_of rfl rfl (wp_callx rfl enters_div7 rfl (HDV.out _ _ _ _ _ (hS.dig 3 rfl) (hS.dig 1 rfl)) (fun q6 V37 hV => ⟨(hS.sub (.cons _ (.cons _ (.cons _ (.cons _ (.cons _ (.cons_cons _ .slnil))))))).below hV.2.2, ?_⟩))
            obtain ⟨⟨A6, c6⟩, B6, d6⟩ := q6
            obtain ⟨hg6, hh6, hV⟩ := hV
            replace hS := ((hS.below hV).pushDig hh6).pushDig hg6
            clear hV hg6 hh6
            simp only [List.getElem_toArray, List.getElem_cons_zero, List.getElem_cons_succ, Act.put, List.setIfInBounds_toArray, List.set_cons_zero, List.set_cons_succ]
            have hT := hS
            replace hS := hS.sub (l' := [.rat S s n false d]) (.cons _ (.cons _ (.cons _ (.cons _ (.cons _ (.cons _ (.cons _ (.cons_cons _ .slnil))))))))
            refine rg_take 7 (.tuple #[.agg #[.bool Z, .slice A6 Q c6], .agg #[.bool zr, .slice B6 R d6]]) rfl (by kernel_rfl) (by kernel_rfl) (by kernel_rfl) (fun _ _ _ h => h) rfl (fun w _ => ?_) hS ?_
            · go_simp
            simp only [List.getElem_toArray, List.getElem_cons_zero, List.getElem_cons_succ, Act.put, List.setIfInBounds_toArray, List.set_cons_zero, List.set_cons_succ]
            refine rg_take 8 (.agg #[.bool Z, .slice A6 Q c6]) rfl (by kernel_rfl) (by kernel_rfl) (by kernel_rfl) (fun _ _ _ h => h) rfl (fun w _ => ?_) hS ?_
            · go_simp
            simp only [List.getElem_toArray, List.getElem_cons_zero, List.getElem_cons_succ, Act.put, List.setIfInBounds_toArray, List.set_cons_zero, List.set_cons_succ]
            refine rg_take 9 (.agg #[.bool zr, .slice B6 R d6]) rfl (by kernel_rfl) (by kernel_rfl) (by kernel_rfl) (fun _ _ _ h => h) rfl (fun w _ => ?_) hS ?_
            · go_simp
            simp only [List.getElem_toArray, List.getElem_cons_zero, List.getElem_cons_succ, Act.put, List.setIfInBounds_toArray, List.set_cons_zero, List.set_cons_succ]
            replace hS := hT
            clear hT
            refine rg_one 12 (by kernel_rfl) ?_
            have hSn := hS.putNum 4 rfl (Z) (A6) (Q) (c6) rfl
            refine rs_of rfl rfl (stores_num (.tmp 4) (.tmp 20) rfl (t := Z) (B := A6) (M := Q) (cb := c6) rfl rfl (hS.num 4 rfl) ⟨hSn.sub (.cons _ (.cons _ (.cons _ (.cons _ (.cons _ (.cons _ (.cons _ (.cons_cons _ .slnil)))))))), ?_⟩)
            replace hS := hSn
            clear hSn
            simp only [List.getElem_toArray, List.getElem_cons_zero, List.getElem_cons_succ, Act.put, List.setIfInBounds_toArray, List.set_cons_zero, List.set_cons_succ]
            generalize st2 V37 K10 (Z) (A6) (Q) (c6) = V38 at *
            refine rg_one 13 (by kernel_rfl) ?_
            have hSn := hS.putNum 2 rfl (zr) (B6) (R) (d6) rfl
            refine rs_of rfl rfl (stores_num (.tmp 5) (.tmp 21) rfl (t := zr) (B := B6) (M := R) (cb := d6) rfl rfl (hS.num 2 rfl) ⟨hSn.sub (.cons _ (.cons _ (.cons _ (.cons _ (.cons _ (.cons _ (.cons _ (.cons_cons _ .slnil)))))))), ?_⟩)
            replace hS := hSn
            clear hSn
            simp only [List.getElem_toArray, List.getElem_cons_zero, List.getElem_cons_succ, Act.put, List.setIfInBounds_toArray, List.set_cons_zero, List.set_cons_succ]
            generalize st2 V38 K11 (zr) (B6) (R) (d6) = V39 at *
            refine wpAnyH_done (by kernel_rfl) ?_ _
            go_wp2_with fail
            go_meet
            replace hS := hS.sub (l' := [.dig Z A6 Q c6 N, .num K10 Z A6 Q c6, .int (S + 1) false 0, .rat S s n false d]) (.cons_cons _ (.cons _ (.cons _ (.cons _ (.cons_cons _ (.cons _ (.cons_cons _ (.cons_cons _ .slnil))))))))
            replace hS := hS.front 3 rfl
            replace hS := hS.front 3 rfl
            replace hS := hS.front 2 rfl
            replace hS := hS.front 3 rfl
            exact ⟨_, _, _, rfl, hS⟩
        · refine rs_of rfl rfl (wp_value (alloc_num rfl) ⟨(hS.sub (.cons _ (.cons _ (.cons _ (.cons_cons _ .slnil))))).alloc _, ?_⟩)
          replace hS := hS.pushNum (k := _) rfl false none 0 0
          simp only [List.getElem_toArray, List.getElem_cons_zero, List.getElem_cons_succ, Act.put, List.setIfInBounds_toArray, List.set_cons_zero, List.set_cons_succ]
          generalize V30.alloc boxNZ = V40 at *
          generalize V30.heap.size = K11 at *
          refine rg_one 5 (by kernel_rfl) ?_
          refine rs_of rfl rfl (wp_callx rfl enters_num8 rfl (HN2.out _) (fun q5 V41 hV => ⟨(hS.sub (.cons _ (.cons _ (.cons _ (.cons _ (.cons_cons _ .slnil)))))).below hV.2, ?_⟩))
          obtain ⟨A5, c5⟩ := q5
          obtain ⟨hg5, hV⟩ := hV
          replace hS := (hS.below hV).pushDig hg5
          clear hV hg5
          simp only [List.getElem_toArray, List.getElem_cons_zero, List.getElem_cons_succ, Act.put, List.setIfInBounds_toArray, List.set_cons_zero, List.set_cons_succ]
          refine rg_one 6 (by kernel_rfl) ?_
          refine rs_of rfl rfl (wp_callx rfl enters_div7 rfl (HDV.out _ _ _ _ _ (hS.dig 3 rfl) (hS.dig 0 rfl)) (fun q6 V42 hV => ⟨(hS.sub (.cons _ (.cons _ (.cons _ (.cons _ (.cons _ (.cons_cons _ .slnil))))))).below hV.2.2, ?_⟩))
          obtain ⟨⟨A6, c6⟩, B6, d6⟩ := q6
          obtain ⟨hg6, hh6, hV⟩ := hV
          replace hS := ((hS.below hV).pushDig hh6).pushDig hg6
          clear hV hg6 hh6
          simp only [List.getElem_toArray, List.getElem_cons_zero, List.getElem_cons_succ, Act.put, List.setIfInBounds_toArray, List.set_cons_zero, List.set_cons_succ]
          have hT := hS
          replace hS := hS.sub (l' := [.rat S s n false d]) (.cons _ (.cons _ (.cons _ (.cons _ (.cons _ (.cons _ (.cons _ (.cons_cons _ .slnil))))))))
          refine rg_take 7 (.tuple #[.agg #[.bool Z, .slice A6 Q c6], .agg #[.bool zr, .slice B6 R d6]]) rfl (by kernel_rfl) (by kernel_rfl) (by kernel_rfl) (fun _ _ _ h => h) rfl (fun w _ => ?_) hS ?_
          · go_simp
          simp only [List.getElem_toArray, List.getElem_cons_zero, List.getElem_cons_succ, Act.put, List.setIfInBounds_toArray, List.set_cons_zero, List.set_cons_succ]
          refine rg_take 8 (.agg #[.bool Z, .slice A6 Q c6]) rfl (by kernel_rfl) (by kernel_rfl) (by kernel_rfl) (fun _ _ _ h => h) rfl (fun w _ => ?_) hS ?_
          · go_simp
          simp only [List.getElem_toArray, List.getElem_cons_zero, List.getElem_cons_succ, Act.put, List.setIfInBounds_toArray, List.set_cons_zero, List.set_cons_succ]
          refine rg_take 9 (.agg #[.bool zr, .slice B6 R d6]) rfl (by kernel_rfl) (by kernel_rfl) (by kernel_rfl) (fun _ _ _ h => h) rfl (fun w _ => ?_) hS ?_
          · go_simp
          simp only [List.getElem_toArray, List.getElem_cons_zero, List.getElem_cons_succ, Act.put, List.setIfInBounds_toArray, List.set_cons_zero, List.set_cons_succ]
          replace hS := hT
          clear hT
          refine rg_one 12 (by kernel_rfl) ?_
          have hSn := hS.putNum 4 rfl (Z) (A6) (Q) (c6) rfl
          refine rs_of rfl rfl (stores_num (.tmp 4) (.tmp 20) rfl (t := Z) (B := A6) (M := Q) (cb := c6) rfl rfl (hS.num 4 rfl) ⟨hSn.sub (.cons _ (.cons _ (.cons _ (.cons _ (.cons _ (.cons _ (.cons _ (.cons_cons _ .slnil)))))))), ?_⟩)
          replace hS := hSn
          clear hSn
          simp only [List.getElem_toArray, List.getElem_cons_zero, List.getElem_cons_succ, Act.put, List.setIfInBounds_toArray, List.set_cons_zero, List.set_cons_succ]
          generalize st2 V42 K10 (Z) (A6) (Q) (c6) = V43 at *
          refine rg_one 13 (by kernel_rfl) ?_
          have hSn := hS.putNum 3 rfl (zr) (B6) (R) (d6) rfl
          refine rs_of rfl rfl (stores_num (.tmp 5) (.tmp 21) rfl (t := zr) (B := B6) (M := R) (cb := d6) rfl rfl (hS.num 3 rfl) ⟨hSn.sub (.cons _ (.cons _ (.cons _ (.cons _ (.cons _ (.cons _ (.cons _ (.cons_cons _ .slnil)))))))), ?_⟩)
          replace hS := hSn
          clear hSn
          simp only [List.getElem_toArray, List.getElem_cons_zero, List.getElem_cons_succ, Act.put, List.setIfInBounds_toArray, List.set_cons_zero, List.set_cons_succ]
          generalize st2 V43 K11 (zr) (B6) (R) (d6) = V44 at *
          refine wpAnyH_done (by kernel_rfl) ?_ _
          go_wp2_with fail
          go_meet
          replace hS := hS.sub (l' := [.dig Z A6 Q c6 N, .num K10 Z A6 Q c6, .int (S + 1) false 0, .rat S s n false d]) (.cons_cons _ (.cons _ (.cons _ (.cons _ (.cons_cons _ (.cons _ (.cons_cons _ (.cons_cons _ .slnil))))))))
          replace hS := hS.front 3 rfl
          replace hS := hS.front 3 rfl
          replace hS := hS.front 2 rfl
          replace hS := hS.front 3 rfl
          exact ⟨_, _, _, rfl, hS⟩
      · refine rs_of rfl rfl (wp_value (alloc_num rfl) ⟨(hS.sub (.cons _ (.cons _ (.cons_cons _ .slnil)))).alloc _, ?_⟩)
        replace hS := hS.pushNum (k := _) rfl false none 0 0
        simp only [List.getElem_toArray, List.getElem_cons_zero, List.getElem_cons_succ, Act.put, List.setIfInBounds_toArray, List.set_cons_zero, List.set_cons_succ]
        generalize V1.alloc boxNZ = V45 at *
        generalize V1.heap.size = K11 at *
        refine rg_two 5 10 (by kernel_rfl) ?_ ?_
        · refine rs_of rfl rfl (wp_callx rfl enters_num8 rfl (HN2.out _) (fun q5 V46 hV => ⟨(hS.sub (.cons _ (.cons _ (.cons _ (.cons_cons _ .slnil))))).below hV.2, ?_⟩))
          obtain ⟨A5, c5⟩ := q5
          obtain ⟨hg5, hV⟩ := hV
          replace hS := (hS.below hV).pushDig hg5
          clear hV hg5
          simp only [List.getElem_toArray, List.getElem_cons_zero, List.getElem_cons_succ, Act.put, List.setIfInBounds_toArray, List.set_cons_zero, List.set_cons_succ]
          refine rg_two 6 10 (by kernel_rfl) ?_ ?_
          · refine rs_of rfl rfl (wp_callx rfl enters_div7 rfl (HDV.out _ _ _ _ _ (hS.dig 2 rfl) (hS.dig 0 rfl)) (fun q6 V47 hV => ⟨(hS.sub (.cons _ (.cons _ (.cons _ (.cons _ (.cons_cons _ .slnil)))))).below hV.2.2, ?_⟩))
            obtain ⟨⟨A6, c6⟩, B6, d6⟩ := q6
            obtain ⟨hg6, hh6, hV⟩ := hV
            replace hS := ((hS.below hV).pushDig hh6).pushDig hg6
            clear hV hg6 hh6
            simp only [List.getElem_toArray, List.getElem_cons_zero, List.getElem_cons_succ, Act.put, List.setIfInBounds_toArray, List.set_cons_zero, List.set_cons_succ]
            have hT := hS
            replace hS := hS.sub (l' := [.rat S s n false d]) (.cons _ (.cons _ (.cons _ (.cons _ (.cons _ (.cons _ (.cons_cons _ .slnil)))))))
            refine rg_take 7 (.tuple #[.agg #[.bool Z, .slice A6 Q c6], .agg #[.bool zr, .slice B6 R d6]]) rfl (by kernel_rfl) (by kernel_rfl) (by kernel_rfl) (fun _ _ _ h => h) rfl (fun w _ => ?_) hS ?_
            · go_simp
            simp only [List.getElem_toArray, List.getElem_cons_zero, List.getElem_cons_succ, Act.put, List.setIfInBounds_toArray, List.set_cons_zero, List.set_cons_succ]
            refine rg_take 8 (.agg #[.bool Z, .slice A6 Q c6]) rfl (by kernel_rfl) (by kernel_rfl) (by kernel_rfl) (fun _ _ _ h => h) rfl (fun w _ => ?_) hS ?_
            · go_simp
            simp only [List.getElem_toArray, List.getElem_cons_zero, List.getElem_cons_succ, Act.put, List.setIfInBounds_toArray, List.set_cons_zero, List.set_cons_succ]
            refine rg_take 9 (.agg #[.bool zr, .slice B6 R d6]) rfl (by kernel_rfl) (by kernel_rfl) (by kernel_rfl) (fun _ _ _ h => h) rfl (fun w _ => ?_) hS ?_
            · go_simp
            simp only [List.getElem_toArray, List.getElem_cons_zero, List.getElem_cons_succ, Act.put, List.setIfInBounds_toArray, List.set_cons_zero, List.set_cons_succ]
            replace hS := hT
            clear hT
            refine rg_one 10 (by kernel_rfl) ?_
            refine rs_of rfl rfl (wp_value (alloc_num rfl) ⟨(hS.sub (.cons _ (.cons _ (.cons _ (.cons _ (.cons _ (.cons _ (.cons_cons _ .slnil)))))))).alloc _, ?_⟩)
            replace hS := hS.pushNum (k := _) rfl false none 0 0
            simp only [List.getElem_toArray, List.getElem_cons_zero, List.getElem_cons_succ, Act.put, List.setIfInBounds_toArray, List.set_cons_zero, List.set_cons_succ]
            generalize V47.alloc boxNZ = V48 at *
            generalize V47.heap.size = K10 at *
            refine rg_one 12 (by kernel_rfl) ?_
            have hSn := hS.putNum 0 rfl (Z) (A6) (Q) (c6) rfl
            refine rs_of rfl rfl (stores_num (.tmp 4) (.tmp 20) rfl (t := Z) (B := A6) (M := Q) (cb := c6) rfl rfl (hS.num 0 rfl) ⟨hSn.sub (.cons _ (.cons _ (.cons _ (.cons _ (.cons _ (.cons _ (.cons _ (.cons_cons _ .slnil)))))))), ?_⟩)
            replace hS := hSn
            clear hSn
            simp only [List.getElem_toArray, List.getElem_cons_zero, List.getElem_cons_succ, Act.put, List.setIfInBounds_toArray, List.set_cons_zero, List.set_cons_succ]
            generalize st2 V48 K10 (Z) (A6) (Q) (c6) = V49 at *
            refine rg_one 13 (by kernel_rfl) ?_
            have hSn := hS.putNum 4 rfl (zr) (B6) (R) (d6) rfl
            refine rs_of rfl rfl (stores_num (.tmp 5) (.tmp 21) rfl (t := zr) (B := B6) (M := R) (cb := d6) rfl rfl (hS.num 4 rfl) ⟨hSn.sub (.cons _ (.cons _ (.cons _ (.cons _ (.cons _ (.cons _ (.cons _ (.cons_cons _ .slnil)))))))), ?_⟩)
            replace hS := hSn
            clear hSn
            simp only [List.getElem_toArray, List.getElem_cons_zero, List.getElem_cons_succ, Act.put, List.setIfInBounds_toArray, List.set_cons_zero, List.set_cons_succ]
            generalize st2 V49 K11 (zr) (B6) (R) (d6) = V50 at *
            refine wpAnyH_done (by kernel_rfl) ?_ _
            go_wp2_with fail
            go_meet
            replace hS := hS.sub (l' := [.num K10 Z A6 Q c6, .dig Z A6 Q c6 N, .int (S + 1) false 0, .rat S s n false d]) (.cons_cons _ (.cons_cons _ (.cons _ (.cons _ (.cons _ (.cons _ (.cons_cons _ (.cons_cons _ .slnil))))))))
            exact ⟨_, _, _, rfl, hS⟩
          · refine rs_of rfl rfl (wp_value (alloc_num rfl) ⟨(hS.sub (.cons _ (.cons _ (.cons _ (.cons _ (.cons_cons _ .slnil)))))).alloc _, ?_⟩)
            replace hS := hS.pushNum (k := _) rfl false none 0 0
            simp only [List.getElem_toArray, List.getElem_cons_zero, List.getElem_cons_succ, Act.put, List.setIfInBounds_toArray, List.set_cons_zero, List.set_cons_succ]
            generalize V46.alloc boxNZ = V51 at *
            generalize V46.heap.size = K10 at *
            refine rg_one 6 (by kernel_rfl) ?_
            refine rs_of rfl rfl (wp_callx rfl enters_div7 rfl (HDV.out _ _ _ _ _ (hS.dig 3 rfl) (hS.dig 1 rfl)) (fun q6 V52 hV => ⟨(hS.sub (.cons _ (.cons _ (.cons _ (.cons _ (.cons _ (.cons_cons _ .slnil))))))).below hV.2.2, ?_⟩))
            obtain ⟨⟨A6, c6⟩, B6, d6⟩ := q6
            obtain ⟨hg6, hh6, hV⟩ := hV
            replace hS := ((hS.below hV).pushDig hh6).pushDig hg6
            clear hV hg6 hh6
            simp only [List.getElem_toArray, List.getElem_cons_zero, List.getElem_cons_succ, Act.put, List.setIfInBounds_toArray, List.set_cons_zero, List.set_cons_succ]
            have hT := hS
            replace hS := hS.sub (l' := [.rat S s n false d]) (.cons _ (.cons _ (.cons _ (.cons _ (.cons _ (.cons _ (.cons _ (.cons_cons _ .slnil))))))))
            refine rg_take 7 (.tuple #[.agg #[.bool Z, .slice A6 Q c6], .agg #[.bool zr, .slice B6 R d6]]) rfl (by kernel_rfl) (by kernel_rfl) (by kernel_rfl) (fun _ _ _ h => h) rfl (fun w _ => ?_) hS ?_
            · go_simp
            simp only [List.getElem_toArray, List.getElem_cons_zero, List.getElem_cons_succ, Act.put, List.setIfInBounds_toArray, List.set_cons_zero, List.set_cons_succ]
            refine rg_take 8 (.agg #[.bool Z, .slice A6 Q c6]) rfl (by kernel_rfl) (by kernel_rfl) (by kernel_rfl) (fun _ _ _ h => h) rfl (fun w _ => ?_) hS ?_
            · go_simp
            simp only [List.getElem_toArray, List.getElem_cons_zero, List.getElem_cons_succ, Act.put, List.setIfInBounds_toArray, List.set_cons_zero, List.set_cons_succ]
            refine rg_take 9 (.agg #[.bool zr, .slice B6 R d6]) rfl (by kernel_rfl) (by kernel_rfl) (by kernel_rfl) (fun _ _ _ h => h) rfl (fun w _ => ?_) hS ?_
            · go_simp
            simp only [List.getElem_toArray, List.getElem_cons_zero, List.getElem_cons_succ, Act.put, List.setIfInBounds_toArray, List.set_cons_zero, List.set_cons_succ]
            replace hS := hT
            clear hT
            refine rg_one 12 (by kernel_rfl) ?_
            have hSn := hS.putNum 2 rfl (Z) (A6) (Q) (c6) rfl
            refine rs_of rfl rfl (stores_num (.tmp 4) (.tmp 20) rfl (t := Z) (B := A6) (M := Q) (cb := c6) rfl rfl (hS.num 2 rfl) ⟨hSn.sub (.cons _ (.cons _ (.cons _ (.cons _ (.cons _ (.cons _ (.cons _ (.cons_cons _ .slnil)))))))), ?_⟩)
            replace hS := hSn
            clear hSn
            simp only [List.getElem_toArray, List.getElem_cons_zero, List.getElem_cons_succ, Act.put, List.setIfInBounds_toArray, List.set_cons_zero, List.set_cons_succ]
            generalize st2 V52 K10 (Z) (A6) (Q) (c6) = V53 at *
            refine rg_one 13 (by kernel_rfl) ?_
            have hSn := hS.putNum 4 rfl (zr) (B6) (R) (d6) rfl
            refine rs_of rfl rfl (stores_num (.tmp 5) (.tmp 21) rfl (t := zr) (B := B6) (M := R) (cb := d6) rfl rfl (hS.num 4 rfl) ⟨hSn.sub (.cons _ (.cons _ (.cons _ (.cons _ (.cons _ (.cons _ (.cons _ (.cons_cons _ .slnil)))))))), ?_⟩)
            replace hS := hSn
            clear hSn
            simp only [List.getElem_toArray, List.getElem_cons_zero, List.getElem_cons_succ, Act.put, List.setIfInBounds_toArray, List.set_cons_zero, List.set_cons_succ]
            generalize st2 V53 K11 (zr) (B6) (R) (d6) = V54 at *
            refine wpAnyH_done (by kernel_rfl) ?_ _
            go_wp2_with fail
            go_meet
            replace hS := hS.sub (l' := [.dig Z A6 Q c6 N, .num K10 Z A6 Q c6, .int (S + 1) false 0, .rat S s n false d]) (.cons_cons _ (.cons _ (.cons_cons _ (.cons _ (.cons _ (.cons _ (.cons_cons _ (.cons_cons _ .slnil))))))))
            replace hS := hS.front 3 rfl
            replace hS := hS.front 3 rfl
            replace hS := hS.front 2 rfl
            replace hS := hS.front 3 rfl
            exact ⟨_, _, _, rfl, hS⟩
        · refine rs_of rfl rfl (wp_value (alloc_num rfl) ⟨(hS.sub (.cons _ (.cons _ (.cons _ (.cons_cons _ .slnil))))).alloc _, ?_⟩)
          replace hS := hS.pushNum (k := _) rfl false none 0 0
          simp only [List.getElem_toArray, List.getElem_cons_zero, List.getElem_cons_succ, Act.put, List.setIfInBounds_toArray, List.set_cons_zero, List.set_cons_succ]
          generalize V45.alloc boxNZ = V55 at *
          generalize V45.heap.size = K10 at *
          refine rg_one 5 (by kernel_rfl) ?_
          refine rs_of rfl rfl (wp_callx rfl enters_num8 rfl (HN2.out _) (fun q5 V56 hV => ⟨(hS.sub (.cons _ (.cons _ (.cons _ (.cons _ (.cons_cons _ .slnil)))))).below hV.2, ?_⟩))
          obtain ⟨A5, c5⟩ := q5
          obtain ⟨hg5, hV⟩ := hV
          replace hS := (hS.below hV).pushDig hg5
          clear hV hg5
          simp only [List.getElem_toArray, List.getElem_cons_zero, List.getElem_cons_succ, Act.put, List.setIfInBounds_toArray, List.set_cons_zero, List.set_cons_succ]
          refine rg_one 6 (by kernel_rfl) ?_
          refine rs_of rfl rfl (wp_callx rfl enters_div7 rfl (HDV.out _ _ _ _ _ (hS.dig 3 rfl) (hS.dig 0 rfl)) (fun q6 V57 hV => ⟨(hS.sub (.cons _ (.cons _ (.cons _ (.cons _ (.cons _ (.cons_cons _ .slnil))))))).below hV.2.2, ?_⟩))
          obtain ⟨⟨A6, c6⟩, B6, d6⟩ := q6
          obtain ⟨hg6, hh6, hV⟩ := hV
          replace hS := ((hS.below hV).pushDig hh6).pushDig hg6
          clear hV hg6 hh6
          simp only [List.getElem_toArray, List.getElem_cons_zero, List.getElem_cons_succ, Act.put, List.setIfInBounds_toArray, List.set_cons_zero, List.set_cons_succ]
          have hT := hS
          replace hS := hS.sub (l' := [.rat S s n false d]) (.cons _ (.cons _ (.cons _ (.cons _ (.cons _ (.cons _ (.cons _ (.cons_cons _ .slnil))))))))
          refine rg_take 7 (.tuple #[.agg #[.bool Z, .slice A6 Q c6], .agg #[.bool zr, .slice B6 R d6]]) rfl (by kernel_rfl) (by kernel_rfl) (by kernel_rfl) (fun _ _ _ h => h) rfl (fun w _ => ?_) hS ?_
          · go_simp
          simp only [List.getElem_toArray, List.getElem_cons_zero, List.getElem_cons_succ, Act.put, List.setIfInBounds_toArray, List.set_cons_zero, List.set_cons_succ]
          refine rg_take 8 (.agg #[.bool Z, .slice A6 Q c6]) rfl (by kernel_rfl) (by kernel_rfl) (by kernel_rfl) (fun _ _ _ h => h) rfl (fun w _ => ?_) hS ?_
          · go_simp
          simp only [List.getElem_toArray, List.getElem_cons_zero, List.getElem_cons_succ, Act.put, List.setIfInBounds_toArray, List.set_cons_zero, List.set_cons_succ]
          refine rg_take 9 (.agg #[.bool zr, .slice B6 R d6]) rfl (by kernel_rfl) (by kernel_rfl) (by kernel_rfl) (fun _ _ _ h => h) rfl (fun w _ => ?_) hS ?_
          · go_simp
          simp only [List.getElem_toArray, List.getElem_cons_zero, List.getElem_cons_succ, Act.put, List.setIfInBounds_toArray, List.set_cons_zero, List.set_cons_succ]
          replace hS := hT
          clear hT
          refine rg_one 12 (by kernel_rfl) ?_
          have hSn := hS.putNum 3 rfl (Z) (A6) (Q) (c6) rfl
          refine rs_of rfl rfl (stores_num (.tmp 4) (.tmp 20) rfl (t := Z) (B := A6) (M := Q) (cb := c6) rfl rfl (hS.num 3 rfl) ⟨hSn.sub (.cons _ (.cons _ (.cons _ (.cons _ (.cons _ (.cons _ (.cons _ (.cons_cons _ .slnil)))))))), ?_⟩)
          replace hS := hSn
          clear hSn
          simp only [List.getElem_toArray, List.getElem_cons_zero, List.getElem_cons_succ, Act.put, List.setIfInBounds_toArray, List.set_cons_zero, List.set_cons_succ]
          generalize st2 V57 K10 (Z) (A6) (Q) (c6) = V58 at *
          refine rg_one 13 (by kernel_rfl) ?_
          have hSn := hS.putNum 4 rfl (zr) (B6) (R) (d6) rfl
          refine rs_of rfl rfl (stores_num (.tmp 5) (.tmp 21) rfl (t := zr) (B := B6) (M := R) (cb := d6) rfl rfl (hS.num 4 rfl) ⟨hSn.sub (.cons _ (.cons _ (.cons _ (.cons _ (.cons _ (.cons _ (.cons _ (.cons_cons _ .slnil)))))))), ?_⟩)
          replace hS := hSn
          clear hSn
          simp only [List.getElem_toArray, List.getElem_cons_zero, List.getElem_cons_succ, Act.put, List.setIfInBounds_toArray, List.set_cons_zero, List.set_cons_succ]
          generalize st2 V58 K11 (zr) (B6) (R) (d6) = V59 at *
          refine wpAnyH_done (by kernel_rfl) ?_ _
          go_wp2_with fail
          go_meet
          replace hS := hS.sub (l' := [.dig Z A6 Q c6 N, .num K10 Z A6 Q c6, .int (S + 1) false 0, .rat S s n false d]) (.cons_cons _ (.cons _ (.cons _ (.cons_cons _ (.cons _ (.cons _ (.cons_cons _ (.cons_cons _ .slnil))))))))
          replace hS := hS.front 3 rfl
          replace hS := hS.front 3 rfl
          replace hS := hS.front 2 rfl
          replace hS := hS.front 3 rfl
          exact ⟨_, _, _, rfl, hS⟩
    · refine rs_of rfl rfl (wp_value (alloc_num rfl) ⟨(hS.sub (.cons _ (.cons_cons _ .slnil))).alloc _, ?_⟩)
      replace hS := hS.pushNum (k := _) rfl false none 0 0
      simp only [List.getElem_toArray, List.getElem_cons_zero, List.getElem_cons_succ, Act.put, List.setIfInBounds_toArray, List.set_cons_zero, List.set_cons_succ]
      generalize V0.alloc boxNZ = V60 at *
      generalize V0.heap.size = K10 at *
      refine rg_two 2 11 (by kernel_rfl) ?_ ?_
      · refine rs_of rfl rfl (wp_callx rfl enters_num8 rfl (HN1.out _) (fun q2 V61 hV => ⟨(hS.sub (.cons _ (.cons _ (.cons_cons _ .slnil)))).below hV.2, ?_⟩))
        obtain ⟨A2, c2⟩ := q2
        obtain ⟨hg2, hV⟩ := hV
        replace hS := (hS.below hV).pushDig hg2
        clear hV hg2
        simp only [List.getElem_toArray, List.getElem_cons_zero, List.getElem_cons_succ, Act.put, List.setIfInBounds_toArray, List.set_cons_zero, List.set_cons_succ]
        refine rg_two 5 11 (by kernel_rfl) ?_ ?_
        · refine rs_of rfl rfl (wp_callx rfl enters_num8 rfl (HN2.out _) (fun q5 V62 hV => ⟨(hS.sub (.cons _ (.cons _ (.cons _ (.cons_cons _ .slnil))))).below hV.2, ?_⟩))
          obtain ⟨A5, c5⟩ := q5
          obtain ⟨hg5, hV⟩ := hV
          replace hS := (hS.below hV).pushDig hg5
          clear hV hg5
          simp only [List.getElem_toArray, List.getElem_cons_zero, List.getElem_cons_succ, Act.put, List.setIfInBounds_toArray, List.set_cons_zero, List.set_cons_succ]
          refine rg_two 6 11 (by kernel_rfl) ?_ ?_
          · refine rs_of rfl rfl (wp_callx rfl enters_div7 rfl (HDV.out _ _ _ _ _ (hS.dig 1 rfl) (hS.dig 0 rfl)) (fun q6 V63 hV => ⟨(hS.sub (.cons _ (.cons _ (.cons _ (.cons _ (.cons_cons _ .slnil)))))).below hV.2.2, ?_⟩))
            obtain ⟨⟨A6, c6⟩, B6, d6⟩ := q6
            obtain ⟨hg6, hh6, hV⟩ := hV
            replace hS := ((hS.below hV).pushDig hh6).pushDig hg6
            clear hV hg6 hh6
            simp only [List.getElem_toArray, List.getElem_cons_zero, List.getElem_cons_succ, Act.put, List.setIfInBounds_toArray, List.set_cons_zero, List.set_cons_succ]
            have hT := hS
            replace hS := hS.sub (l' := [.rat S s n false d]) (.cons _ (.cons _ (.cons _ (.cons _ (.cons _ (.cons _ (.cons_cons _ .slnil)))))))
            refine rg_take 7 (.tuple #[.agg #[.bool Z, .slice A6 Q c6], .agg #[.bool zr, .slice B6 R d6]]) rfl (by kernel_rfl) (by kernel_rfl) (by kernel_rfl) (fun _ _ _ h => h) rfl (fun w _ => ?_) hS ?_
            · go_simp
            simp only [List.getElem_toArray, List.getElem_cons_zero, List.getElem_cons_succ, Act.put, List.setIfInBounds_toArray, List.set_cons_zero, List.set_cons_succ]
            refine rg_take 8 (.agg #[.bool Z, .slice A6 Q c6]) rfl (by kernel_rfl) (by kernel_rfl) (by kernel_rfl) (fun _ _ _ h => h) rfl (fun w _ => ?_) hS ?_
            · go_simp
            simp only [List.getElem_toArray, List.getElem_cons_zero, List.getElem_cons_succ, Act.put, List.setIfInBounds_toArray, List.set_cons_zero, List.set_cons_succ]
            refine rg_take 9 (.agg #[.bool zr, .slice B6 R d6]) rfl (by kernel_rfl) (by kernel_rfl) (by kernel_rfl) (fun _ _ _ h => h) rfl (fun w _ => ?_) hS ?_
            · go_simp
            simp only [List.getElem_toArray, List.getElem_cons_zero, List.getElem_cons_succ, Act.put, List.setIfInBounds_toArray, List.set_cons_zero, List.set_cons_succ]
            replace hS := hT
            clear hT
            refine rg_one 11 (by kernel_rfl) ?_
            refine rs_of rfl rfl (wp_value (alloc_num rfl) ⟨(hS.sub (.cons _ (.cons _ (.cons _ (.cons _ (.cons _ (.cons _ (.cons_cons _ .slnil)))))))).alloc _, ?_⟩)
            replace hS := hS.pushNum (k := _) rfl false none 0 0
            simp only [List.getElem_toArray, List.getElem_cons_zero, List.getElem_cons_succ, Act.put, List.setIfInBounds_toArray, List.set_cons_zero, List.set_cons_succ]
            generalize V63.alloc boxNZ = V64 at *
            generalize V63.heap.size = K11 at *
            refine rg_one 12 (by kernel_rfl) ?_
            have hSn := hS.putNum 5 rfl (Z) (A6) (Q) (c6) rfl
            refine rs_of rfl rfl (stores_num (.tmp 4) (.tmp 20) rfl (t := Z) (B := A6) (M := Q) (cb := c6) rfl rfl (hS.num 5 rfl) ⟨hSn.sub (.cons _ (.cons _ (.cons _ (.cons _ (.cons _ (.cons _ (.cons _ (.cons_cons _ .slnil)))))))), ?_⟩)
            replace hS := hSn
            clear hSn
            simp only [List.getElem_toArray, List.getElem_cons_zero, List.getElem_cons_succ, Act.put, List.setIfInBounds_toArray, List.set_cons_zero, List.set_cons_succ]
            generalize st2 V64 K10 (Z) (A6) (Q) (c6) = V65 at *
            refine rg_one 13 (by kernel_rfl) ?_
            have hSn := hS.putNum 0 rfl (zr) (B6) (R) (d6) rfl
            refine rs_of rfl rfl (stores_num (.tmp 5) (.tmp 21) rfl (t := zr) (B := B6) (M := R) (cb := d6) rfl rfl (hS.num 0 rfl) ⟨hSn.sub (.cons _ (.cons _ (.cons _ (.cons _ (.cons _ (.cons _ (.cons _ (.cons_cons _ .slnil)))))))), ?_⟩)
            replace hS := hSn
            clear hSn
            simp only [List.getElem_toArray, List.getElem_cons_zero, List.getElem_cons_succ, Act.put, List.setIfInBounds_toArray, List.set_cons_zero, List.set_cons_succ]
            generalize st2 V65 K11 (zr) (B6) (R) (d6) = V66 at *
            refine wpAnyH_done (by kernel_rfl) ?_ _
            go_wp2_with fail
            go_meet
            replace hS := hS.sub (l' := [.dig Z A6 Q c6 N, .num K10 Z A6 Q c6, .int (S + 1) false 0, .rat S s n false d]) (.cons _ (.cons_cons _ (.cons _ (.cons _ (.cons _ (.cons_cons _ (.cons_cons _ (.cons_cons _ .slnil))))))))
            replace hS := hS.front 3 rfl
            replace hS := hS.front 3 rfl
            replace hS := hS.front 2 rfl
            replace hS := hS.front 3 rfl
            exact ⟨_, _, _, rfl, hS⟩
          · refine rs_of rfl rfl (wp_value (alloc_num rfl) ⟨(hS.sub (.cons _ (.cons _ (.cons _ (.cons _ (.cons_cons _ .slnil)))))).alloc _, ?_⟩)
            replace hS := hS.pushNum (k := _) rfl false none 0 0
            simp only [List.getElem_toArray, List.getElem_cons_zero, List.getElem_cons_succ, Act.put, List.setIfInBounds_toArray, List.set_cons_zero, List.set_cons_succ]
            generalize V62.alloc boxNZ = V67 at *
            generalize V62.heap.size = K11 at *
            refine rg_one 6 (by kernel_rfl) ?_
            refine rs_of rfl rfl (wp_callx rfl enters_div7 rfl (HDV.out _ _ _ _ _ (hS.dig 2 rfl) (hS.dig 1 rfl)) (fun q6 V68 hV => ⟨(hS.sub (.cons _ (.cons _ (.cons _ (.cons _ (.cons _ (.cons_cons _ .slnil))))))).below hV.2.2, ?_⟩))
            obtain ⟨⟨A6, c6⟩, B6, d6⟩ := q6
            obtain ⟨hg6, hh6, hV⟩ := hV
            replace hS := ((hS.below hV).pushDig hh6).pushDig hg6
            clear hV hg6 hh6
            simp only [List.getElem_toArray, List.getElem_cons_zero, List.getElem_cons_succ, Act.put, List.setIfInBounds_toArray, List.set_cons_zero, List.set_cons_succ]
            have hT := hS
            replace hS := hS.sub (l' := [.rat S s n false d]) (.cons _ (.cons _ (.cons _ (.cons _ (.cons _ (.cons _ (.cons _ (.cons_cons _ .slnil))))))))
            refine rg_take 7 (.tuple #[.agg #[.bool Z, .slice A6 Q c6], .agg #[.bool zr, .slice B6 R d6]]) rfl (by kernel_rfl) (by kernel_rfl) (by kernel_rfl) (fun _ _ _ h => h) rfl (fun w _ => ?_) hS ?_
            · go_simp
            simp only [List.getElem_toArray, List.getElem_cons_zero, List.getElem_cons_succ, Act.put, List.setIfInBounds_toArray, List.set_cons_zero, List.set_cons_succ]
            refine rg_take 8 (.agg #[.bool Z, .slice A6 Q c6]) rfl (by kernel_rfl) (by kernel_rfl) (by kernel_rfl) (fun _ _ _ h => h) rfl (fun w _ => ?_) hS ?_
            · go_simp
            simp only [List.getElem_toArray, List.getElem_cons_zero, List.getElem_cons_succ, Act.put, List.setIfInBounds_toArray, List.set_cons_zero, List.set_cons_succ]
            refine rg_take 9 (.agg #[.bool zr, .slice B6 R d6]) rfl (by kernel_rfl) (by kernel_rfl) (by kernel_rfl) (fun _ _ _ h => h) rfl (fun w _ => ?_) hS ?_
            · go_simp
            simp only [List.getElem_toArray, List.getElem_cons_zero, List.getElem_cons_succ, Act.put, List.setIfInBounds_toArray, List.set_cons_zero, List.set_cons_succ]
            replace hS := hT
            clear hT
            refine rg_one 12 (by kernel_rfl) ?_
            have hSn := hS.putNum 5 rfl (Z) (A6) (Q) (c6) rfl
            refine rs_of rfl rfl (stores_num (.tmp 4) (.tmp 20) rfl (t := Z) (B := A6) (M := Q) (cb := c6) rfl rfl (hS.num 5 rfl) ⟨hSn.sub (.cons _ (.cons _ (.cons _ (.cons _ (.cons _ (.cons _ (.cons _ (.cons_cons _ .slnil)))))))), ?_⟩)
            replace hS := hSn
            clear hSn
            simp only [List.getElem_toArray, List.getElem_cons_zero, List.getElem_cons_succ, Act.put, List.setIfInBounds_toArray, List.set_cons_zero, List.set_cons_succ]
            generalize st2 V68 K10 (Z) (A6) (Q) (c6) = V69 at *
            refine rg_one 13 (by kernel_rfl) ?_
            have hSn := hS.putNum 2 rfl (zr) (B6) (R) (d6) rfl
            refine rs_of rfl rfl (stores_num (.tmp 5) (.tmp 21) rfl (t := zr) (B := B6) (M := R) (cb := d6) rfl rfl (hS.num 2 rfl) ⟨hSn.sub (.cons _ (.cons _ (.cons _ (.cons _ (.cons _ (.cons _ (.cons _ (.cons_cons _ .slnil)))))))), ?_⟩)
            replace hS := hSn
            clear hSn
            simp only [List.getElem_toArray, List.getElem_cons_zero, List.getElem_cons_succ, Act.put, List.setIfInBounds_toArray, List.set_cons_zero, List.set_cons_succ]
            generalize st2 V69 K11 (zr) (B6) (R) (d6) = V70 at *
            refine wpAnyH_done (by kernel_rfl) ?_ _
            go_wp2_with fail
            go_meet
            replace hS := hS.sub (l' := [.dig Z A6 Q c6 N, .num K10 Z A6 Q c6, .int (S + 1) false 0, .rat S s n false d]) (.cons_cons _ (.cons _ (.cons _ (.cons _ (.cons _ (.cons_cons _ (.cons_cons _ (.cons_cons _ .slnil))))))))
            replace hS := hS.front 3 rfl
            replace hS := hS.front 3 rfl
            replace hS := hS.front 2 rfl
            replace hS := hS.front 3 rfl
            exact ⟨_, _, _, rfl, hS⟩
        · refine rs_of rfl rfl (wp_value (alloc_num rfl) ⟨(hS.sub (.cons _ (.cons _ (.cons _ (.cons_cons _ .slnil))))).alloc _, ?_⟩)
          replace hS := hS.pushNum (k := _) rfl false none 0 0
          simp only [List.getElem_toArray, List.getElem_cons_zero, List.getElem_cons_succ, Act.put, List.setIfInBounds_toArray, List.set_cons_zero, List.set_cons_succ]
          generalize V61.alloc boxNZ = V71 at *
          generalize V61.heap.size = K11 at *
          refine rg_one 5 (by kernel_rfl) ?_
          refine rs_of rfl rfl (wp_callx rfl enters_num8 rfl (HN2.out _) (fun q5 V72 hV => ⟨(hS.sub (.cons _ (.cons _ (.cons _ (.cons _ (.cons_cons _ .slnil)))))).below hV.2, ?_⟩))
          obtain ⟨A5, c5⟩ := q5
          obtain ⟨hg5, hV⟩ := hV
          replace hS := (hS.below hV).pushDig hg5
          clear hV hg5
          simp only [List.getElem_toArray, List.getElem_cons_zero, List.getElem_cons_succ, Act.put, List.setIfInBounds_toArray, List.set_cons_zero, List.set_cons_succ]
          refine rg_one 6 (by kernel_rfl) ?_
          refine rs_of rfl rfl (wp_callx rfl enters_div7 rfl (HDV.out _ _ _ _ _ (hS.dig 2 rfl) (hS.dig 0 rfl)) (fun q6 V73 hV => ⟨(hS.sub (.cons _ (.cons _ (.cons _ (.cons _ (.cons _ (.cons_cons _ .slnil))))))).below hV.2.2, ?_⟩))
          obtain ⟨⟨A6, c6⟩, B6, d6⟩ := q6
          obtain ⟨hg6, hh6, hV⟩ := hV
          replace hS := ((hS.below hV).pushDig hh6).pushDig hg6
          clear hV hg6 hh6
          simp only [List.getElem_toArray, List.getElem_cons_zero, List.getElem_cons_succ, Act.put, List.setIfInBounds_toArray, List.set_cons_zero, List.set_cons_succ]
          have hT := hS
          replace hS := hS.sub (l' := [.rat S s n false d]) (.cons _ (.cons _ (.cons _ (.cons _ (.cons _ (.cons _ (.cons _ (.cons_cons _ .slnil))))))))
          refine rg_take 7 (.tuple #[.agg #[.bool Z, .slice A6 Q c6], .agg #[.bool zr, .slice B6 R d6]]) rfl (by kernel_rfl) (by kernel_rfl) (by kernel_rfl) (fun _ _ _ h => h) rfl (fun w _ => ?_) hS ?_
          · go_simp
          simp only [List.getElem_toArray, List.getElem_cons_zero, List.getElem_cons_succ, Act.put, List.setIfInBounds_toArray, List.set_cons_zero, List.set_cons_succ]
          refine rg_take 8 (.agg #[.bool Z, .slice A6 Q c6]) rfl (by kernel_rfl) (by kernel_rfl) (by kernel_rfl) (fun _ _ _ h => h) rfl (fun w _ => ?_) hS ?_
          · go_simp
          simp only [List.getElem_toArray, List.getElem_cons_zero, List.getElem_cons_succ, Act.put, List.setIfInBounds_toArray, List.set_cons_zero, List.set_cons_succ]
          refine rg_take 9 (.agg #[.bool zr, .slice B6 R d6]) rfl (by kernel_rfl) (by kernel_rfl) (by kernel_rfl) (fun _ _ _ h => h) rfl (fun w _ => ?_) hS ?_
          · go_simp
          simp only [List.getElem_toArray, List.getElem_cons_zero, List.getElem_cons_succ, Act.put, List.setIfInBounds_toArray, List.set_cons_zero, List.set_cons_succ]
          replace hS := hT
          clear hT
          refine rg_one 12 (by kernel_rfl) ?_
          have hSn := hS.putNum 5 rfl (Z) (A6) (Q) (c6) rfl
          refine rs_of rfl rfl (stores_num (.tmp 4) (.tmp 20) rfl (t := Z) (B := A6) (M := Q) (cb := c6) rfl rfl (hS.num 5 rfl) ⟨hSn.sub (.cons _ (.cons _ (.cons _ (.cons _ (.cons _ (.cons _ (.cons _ (.cons_cons _ .slnil)))))))), ?_⟩)
          replace hS := hSn
          clear hSn
          simp only [List.getElem_toArray, List.getElem_cons_zero, List.getElem_cons_succ, Act.put, List.setIfInBounds_toArray, List.set_cons_zero, List.set_cons_succ]
          generalize st2 V73 K10 (Z) (A6) (Q) (c6) = V74 at *
          refine rg_one 13 (by kernel_rfl) ?_
          have hSn := hS.putNum 3 rfl (zr) (B6) (R) (d6) rfl
          refine rs_of rfl rfl (stores_num (.tmp 5) (.tmp 21) rfl (t := zr) (B := B6) (M := R) (cb := d6) rfl rfl (hS.num 3 rfl) ⟨hSn.sub (.cons _ (.cons _ (.cons _ (.cons _ (.cons _ (.cons _ (.cons _ (.cons_cons _ .slnil)))))))), ?_⟩)
          replace hS := hSn
          clear hSn
          simp only [List.getElem_toArray, List.getElem_cons_zero, List.getElem_cons_succ, Act.put, List.setIfInBounds_toArray, List.set_cons_zero, List.set_cons_succ]
          generalize st2 V74 K11 (zr) (B6) (R) (d6) = V75 at *
          refine wpAnyH_done (by kernel_rfl) ?_ _
          go_wp2_with fail
          go_meet
          replace hS := hS.sub (l' := [.dig Z A6 Q c6 N, .num K10 Z A6 Q c6, .int (S + 1) false 0, .rat S s n false d]) (.cons_cons _ (.cons _ (.cons _ (.cons _ (.cons _ (.cons_cons _ (.cons_cons _ (.cons_cons _ .slnil))))))))
          replace hS := hS.front 3 rfl
          replace hS := hS.front 3 rfl
          replace hS := hS.front 2 rfl
          replace hS := hS.front 3 rfl
          exact ⟨_, _, _, rfl, hS⟩
      · refine rs_of rfl rfl (wp_value (alloc_num rfl) ⟨(hS.sub (.cons _ (.cons _ (.cons_cons _ .slnil)))).alloc _, ?_⟩)
        replace hS := hS.pushNum (k := _) rfl false none 0 0
        simp only [List.getElem_toArray, List.getElem_cons_zero, List.getElem_cons_succ, Act.put, List.setIfInBounds_toArray, List.set_cons_zero, List.set_cons_succ]
        generalize V60.alloc boxNZ = V76 at *
        generalize V60.heap.size = K11 at *
        refine rg_one 2 (by kernel_rfl) ?_
        refine rs_of rfl rfl (wp_callx rfl enters_num8 rfl (HN1.out _) (fun q2 V77 hV => ⟨(hS.sub (.cons _ (.cons _ (.cons _ (.cons_cons _ .slnil))))).below hV.2, ?_⟩))
        obtain ⟨A2, c2⟩ := q2
        obtain ⟨hg2, hV⟩ := hV
        replace hS := (hS.below hV).pushDig hg2
        clear hV hg2
        simp only [List.getElem_toArray, List.getElem_cons_zero, List.getElem_cons_succ, Act.put, List.setIfInBounds_toArray, List.set_cons_zero, List.set_cons_succ]
        refine rg_one 5 (by kernel_rfl) ?_
        refine rs_of rfl rfl (wp_callx rfl enters_num8 rfl (HN2.out _) (fun q5 V78 hV => ⟨(hS.sub (.cons _ (.cons _ (.cons _ (.cons _ (.cons_cons _ .slnil)))))).below hV.2, ?_⟩))
        obtain ⟨A5, c5⟩ := q5
        obtain ⟨hg5, hV⟩ := hV
        replace hS := (hS.below hV).pushDig hg5
        clear hV hg5
        simp only [List.getElem_toArray, List.getElem_cons_zero, List.getElem_cons_succ, Act.put, List.setIfInBounds_toArray, List.set_cons_zero, List.set_cons_succ]
        refine rg_one 6 (by kernel_rfl) ?_
        refine rs_of rfl rfl (wp_callx rfl enters_div7 rfl (HDV.out _ _ _ _ _ (hS.dig 1 rfl) (hS.dig 0 rfl)) (fun q6 V79 hV => ⟨(hS.sub (.cons _ (.cons _ (.cons _ (.cons _ (.cons _ (.cons_cons _ .slnil))))))).below hV.2.2, ?_⟩))
        obtain ⟨⟨A6, c6⟩, B6, d6⟩ := q6
        obtain ⟨hg6, hh6, hV⟩ := hV
        replace hS := ((hS.below hV).pushDig hh6).pushDig hg6
        clear hV hg6 hh6
        simp only [List.getElem_toArray, List.getElem_cons_zero, List.getElem_cons_succ, Act.put, List.setIfInBounds_toArray, List.set_cons_zero, List.set_cons_succ]
        have hT := hS
        replace hS := hS.sub (l' := [.rat S s n false d]) (.cons _ (.cons _ (.cons _ (.cons _ (.cons _ (.cons _ (.cons _ (.cons_cons _ .slnil))))))))
        refine rg_take 7 (.tuple #[.agg #[.bool Z, .slice A6 Q c6], .agg #[.bool zr, .slice B6 R d6]]) rfl (by kernel_rfl) (by kernel_rfl) (by kernel_rfl) (fun _ _ _ h => h) rfl (fun w _ => ?_) hS ?_
        · go_simp
        simp only [List.getElem_toArray, List.getElem_cons_zero, List.getElem_cons_succ, Act.put, List.setIfInBounds_toArray, List.set_cons_zero, List.set_cons_succ]
        refine rg_take 8 (.agg #[.bool Z, .slice A6 Q c6]) rfl (by kernel_rfl) (by kernel_rfl) (by kernel_rfl) (fun _ _ _ h => h) rfl (fun w _ => ?_) hS ?_
        · go_simp
        simp only [List.getElem_toArray, List.getElem_cons_zero, List.getElem_cons_succ, Act.put, List.setIfInBounds_toArray, List.set_cons_zero, List.set_cons_succ]
        refine rg_take 9 (.agg #[.bool zr, .slice B6 R d6]) rfl (by kernel_rfl) (by kernel_rfl) (by kernel_rfl) (fun _ _ _ h => h) rfl (fun w _ => ?_) hS ?_
        · go_simp
        simp only [List.getElem_toArray, List.getElem_cons_zero, List.getElem_cons_succ, Act.put, List.setIfInBounds_toArray, List.set_cons_zero, List.set_cons_succ]
        replace hS := hT
        clear hT
        refine rg_one 12 (by kernel_rfl) ?_
        have hSn := hS.putNum 5 rfl (Z) (A6) (Q) (c6) rfl
        refine rs_of rfl rfl (stores_num (.tmp 4) (.tmp 20) rfl (t := Z) (B := A6) (M := Q) (cb := c6) rfl rfl (hS.num 5 rfl) ⟨hSn.sub (.cons _ (.cons _ (.cons _ (.cons _ (.cons _ (.cons _ (.cons _ (.cons_cons _ .slnil)))))))), ?_⟩)
        replace hS := hSn
        clear hSn
        simp only [List.getElem_toArray, List.getElem_cons_zero, List.getElem_cons_succ, Act.put, List.setIfInBounds_toArray, List.set_cons_zero, List.set_cons_succ]
        generalize st2 V79 K10 (Z) (A6) (Q) (c6) = V80 at *
        refine rg_one 13 (by kernel_rfl) ?_
        have hSn := hS.putNum 4 rfl (zr) (B6) (R) (d6) rfl
        refine rs_of rfl rfl (stores_num (.tmp 5) (.tmp 21) rfl (t := zr) (B := B6) (M := R) (cb := d6) rfl rfl (hS.num 4 rfl) ⟨hSn.sub (.cons _ (.cons _ (.cons _ (.cons _ (.cons _ (.cons _ (.cons _ (.cons_cons _ .slnil)))))))), ?_⟩)
        replace hS := hSn
        clear hSn
        simp only [List.getElem_toArray, List.getElem_cons_zero, List.getElem_cons_succ, Act.put, List.setIfInBounds_toArray, List.set_cons_zero, List.set_cons_succ]
        generalize st2 V80 K11 (zr) (B6) (R) (d6) = V81 at *
        refine wpAnyH_done (by kernel_rfl) ?_ _
        go_wp2_with fail
        go_meet
        replace hS := hS.sub (l' := [.dig Z A6 Q c6 N, .num K10 Z A6 Q c6, .int (S + 1) false 0, .rat S s n false d]) (.cons_cons _ (.cons _ (.cons _ (.cons _ (.cons _ (.cons_cons _ (.cons_cons _ (.cons_cons _ .slnil))))))))
        replace hS := hS.front 3 rfl
        replace hS := hS.front 3 rfl
        replace hS := hS.front 2 rfl
        replace hS := hS.front 3 rfl
        exact ⟨_, _, _, rfl, hS⟩
    · refine rs_of rfl rfl (wp_value (alloc_num rfl) ⟨(hS.sub (.cons _ (.cons_cons _ .slnil))).alloc _, ?_⟩)
      replace hS := hS.pushNum (k := _) rfl false none 0 0
      simp only [List.getElem_toArray, List.getElem_cons_zero, List.getElem_cons_succ, Act.put, List.setIfInBounds_toArray, List.set_cons_zero, List.set_cons_succ]
      generalize V0.alloc boxNZ = V82 at *
      generalize V0.heap.size = K11 at *
      refine rg_two 2 10 (by kernel_rfl) ?_ ?_
      · refine rs_of rfl rfl (wp_callx rfl enters_num8 rfl (HN1.out _) (fun q2 V83 hV => ⟨(hS.sub (.cons _ (.cons _ (.cons_cons _ .slnil)))).below hV.2, ?_⟩))
        obtain ⟨A2, c2⟩ := q2
        obtain ⟨hg2, hV⟩ := hV
        replace hS := (hS.below hV).pushDig hg2
        clear hV hg2
        simp only [List.getElem_toArray, List.getElem_cons_zero, List.getElem_cons_succ, Act.put, List.setIfInBounds_toArray, List.set_cons_zero, List.set_cons_succ]
        refine rg_two 5 10 (by kernel_rfl) ?_ ?_
        · refine rs_of rfl rfl (wp_callx rfl enters_num8 rfl (HN2.out _) (fun q5 V84 hV => ⟨(hS.sub (.cons _ (.cons _ (.cons _ (.cons_cons _ .slnil))))).below hV.2, ?_⟩))
          obtain ⟨A5, c5⟩ := q5
          obtain ⟨hg5, hV⟩ := hV
          replace hS := (hS.below hV).pushDig hg5
          clear hV hg5
          simp only [List.getElem_toArray, List.getElem_cons_zero, List.getElem_cons_succ, Act.put, List.setIfInBounds_toArray, List.set_cons_zero, List.set_cons_succ]
          refine rg_two 6 10 (by kernel_rfl) ?_ ?_
          · refine rs_of rfl rfl (wp_callx rfl enters_div7 rfl (HDV.out _ _ _ _ _ (hS.dig 1 rfl) (hS.dig 0 rfl)) (fun q6 V85 hV => ⟨(hS.sub (.cons _ (.cons _ (.cons _ (.cons _ (.cons_cons _ .slnil)))))).below hV.2.2, ?_⟩))
            obtain ⟨⟨A6, c6⟩, B6, d6⟩ := q6
            obtain ⟨hg6, hh6, hV⟩ := hV
            replace hS := ((hS.below hV).pushDig hh6).pushDig hg6
            clear hV hg6 hh6
            simp only [List.getElem_toArray, List.getElem_cons_zero, List.getElem_cons_succ, Act.put, List.setIfInBounds_toArray, List.set_cons_zero, List.set_cons_succ]
            have hT := hS
            replace hS := hS.sub (l' := [.rat S s n false d]) (.cons _ (.cons _ (.cons _ (.cons _ (.cons _ (.cons _ (.cons_cons _ .slnil)))))))
            refine rg_take 7 (.tuple #[.agg #[.bool Z, .slice A6 Q c6], .agg #[.bool zr, .slice B6 R d6]]) rfl (by kernel_rfl) (by kernel_rfl) (by kernel_rfl) (fun _ _ _ h => h) rfl (fun w _ => ?_) hS ?_
            · go_simp
            simp only [List.getElem_toArray, List.getElem_cons_zero, List.getElem_cons_succ, Act.put, List.setIfInBounds_toArray, List.set_cons_zero, List.set_cons_succ]
            refine rg_take 8 (.agg #[.bool Z, .slice A6 Q c6]) rfl (by kernel_rfl) (by kernel_rfl) (by kernel_rfl) (fun _ _ _ h => h) rfl (fun w _ => ?_) hS ?_
            · go_simp
            simp only [List.getElem_toArray, List.getElem_cons_zero, List.getElem_cons_succ, Act.put, List.setIfInBounds_toArray, List.set_cons_zero, List.set_cons_succ]
            refine rg_take 9 (.agg #[.bool zr, .slice B6 R d6]) rfl (by kernel_rfl) (by kernel_rfl) (by kernel_rfl) (fun _ _ _ h => h) rfl (fun w _ => ?_) hS ?_
            · go_simp
            simp only [List.getElem_toArray, List.getElem_cons_zero, List.getElem_cons_succ, Act.put, List.setIfInBounds_toArray, List.set_cons_zero, List.set_cons_succ]
            replace hS := hT
            clear hT
            refine rg_one 10 (by kernel_rfl) ?_
            refine rs_of rfl rfl (wp_value (alloc_num rfl) ⟨(hS.sub (.cons _ (.cons _ (.cons _ (.cons _ (.cons _ (.cons _ (.cons_cons _ .slnil)))))))).alloc _, ?_⟩)
            replace hS := hS.pushNum (k := _) rfl false none 0 0
            simp only [List.getElem_toArray, List.getElem_cons_zero, List.getElem_cons_succ, Act.put, List.setIfInBounds_toArray, List.set_cons_zero, List.set_cons_succ]
            generalize V85.alloc boxNZ = V86 at *
            generalize V85.heap.size = K10 at *
            refine rg_one 12 (by kernel_rfl) ?_
            have hSn := hS.putNum 0 rfl (Z) (A6) (Q) (c6) rfl
            refine rs_of rfl rfl (stores_num (.tmp 4) (.tmp 20) rfl (t := Z) (B := A6) (M := Q) (cb := c6) rfl rfl (hS.num 0 rfl) ⟨hSn.sub (.cons _ (.cons _ (.cons _ (.cons _ (.cons _ (.cons _ (.cons _ (.cons_cons _ .slnil)))))))), ?_⟩)
            replace hS := hSn
            clear hSn
            simp only [List.getElem_toArray, List.getElem_cons_zero, List.getElem_cons_succ, Act.put, List.setIfInBounds_toArray, List.set_cons_zero, List.set_cons_succ]
            generalize st2 V86 K10 (Z) (A6) (Q) (c6) = V87 at *
            refine rg_one 13 (by kernel_rfl) ?_
            have hSn := hS.putNum 5 rfl (zr) (B6) (R) (d6) rfl
            refine rs_of rfl rfl (stores_num (.tmp 5) (.tmp 21) rfl (t := zr) (B := B6) (M := R) (cb := d6) rfl rfl (hS.num 5 rfl) ⟨hSn.sub (.cons _ (.cons _ (.cons _ (.cons _ (.cons _ (.cons _ (.cons _ (.cons_cons _ .slnil)))))))), ?_⟩)
            replace hS := hSn
            clear hSn
            simp only [List.getElem_toArray, List.getElem_cons_zero, List.getElem_cons_succ, Act.put, List.setIfInBounds_toArray, List.set_cons_zero, List.set_cons_succ]
            generalize st2 V87 K11 (zr) (B6) (R) (d6) = V88 at *
            refine wpAnyH_done (by kernel_rfl) ?_ _
            go_wp2_with fail
            go_meet
            replace hS := hS.sub (l' := [.num K10 Z A6 Q c6, .dig Z A6 Q c6 N, .int (S + 1) false 0, .rat S s n false d]) (.cons_cons _ (.cons_cons _ (.cons _ (.cons _ (.cons _ (.cons _ (.cons_cons _ (.cons_cons _ .slnil))))))))
            exact ⟨_, _, _, rfl, hS⟩
          · refine rs_of rfl rfl (wp_value (alloc_num rfl) ⟨(hS.sub (.cons _ (.cons _ (.cons _ (.cons _ (.cons_cons _ .slnil)))))).alloc _, ?_⟩)
            replace hS := hS.pushNum (k := _) rfl false none 0 0
            simp only [List.getElem_toArray, List.getElem_cons_zero, List.getElem_cons_succ, Act.put, List.setIfInBounds_toArray, List.set_cons_zero, List.set_cons_succ]
            generalize V84.alloc boxNZ = V89 at *
            generalize V84.heap.size = K10 at *
            refine rg_one 6 (by kernel_rfl) ?_
            refine rs_of rfl rfl (wp_callx rfl enters_div7 rfl (HDV.out _ _ _ _ _ (hS.dig 2 rfl) (hS.dig 1 rfl)) (fun q6 V90 hV => ⟨(hS.sub (.cons _ (.cons _ (.cons _ (.cons _ (.cons _ (.cons_cons _ .slnil))))))).below hV.2.2, ?_⟩))
            obtain ⟨⟨A6, c6⟩, B6, d6⟩ := q6
            obtain ⟨hg6, hh6, hV⟩ := hV
            replace hS := ((hS.below hV).pushDig hh6).pushDig hg6
            clear hV hg6 hh6
            simp only [List.getElem_toArray, List.getElem_cons_zero, List.getElem_cons_succ, Act.put, List.setIfInBounds_toArray, List.set_cons_zero, List.set_cons_succ]
            have hT := hS
            replace hS := hS.sub (l' := [.rat S s n false d]) (.cons _ (.cons _ (.cons _ (.cons _ (.cons _ (.cons _ (.cons _ (.cons_cons _ .slnil))))))))
            refine rg_take 7 (.tuple #[.agg #[.bool Z, .slice A6 Q c6], .agg #[.bool zr, .slice B6 R d6]]) rfl (by kernel_rfl) (by kernel_rfl) (by kernel_rfl) (fun _ _ _ h => h) rfl (fun w _ => ?_) hS ?_
            · go_simp
            simp only [List.getElem_toArray, List.getElem_cons_zero, List.getElem_cons_succ, Act.put, List.setIfInBounds_toArray, List.set_cons_zero, List.set_cons_succ]
            refine rg_take 8 (.agg #[.bool Z, .slice A6 Q c6]) rfl (by kernel_rfl) (by kernel_rfl) (by kernel_rfl) (fun _ _ _ h => h) rfl (fun w _ => ?_) hS ?_
            · go_simp
            simp only [List.getElem_toArray, List.getElem_cons_zero, List.getElem_cons_succ, Act.put, List.setIfInBounds_toArray, List.set_cons_zero, List.set_cons_succ]
            refine rg_take 9 (.agg #[.bool zr, .slice B6 R d6]) rfl (by kernel_rfl) (by kernel_rfl) (by kernel_rfl) (fun _ _ _ h => h) rfl (fun w _ => ?_) hS ?_
            · go_simp
            simp only [List.getElem_toArray, List.getElem_cons_zero, List.getElem_cons_succ, Act.put, List.setIfInBounds_toArray, List.set_cons_zero, List.set_cons_succ]
            replace hS := hT
            clear hT
            refine rg_one 12 (by kernel_rfl) ?_
            have hSn := hS.putNum 2 rfl (Z) (A6) (Q) (c6) rfl
            refine rs_of rfl rfl (stores_num (.tmp 4) (.tmp 20) rfl (t := Z) (B := A6) (M := Q) (cb := c6) rfl rfl (hS.num 2 rfl) ⟨hSn.sub (.cons _ (.cons _ (.cons _ (.cons _ (.cons _ (.cons _ (.cons _ (.cons_cons _ .slnil)))))))), ?_⟩)
            replace hS := hSn
            clear hSn
            simp only [List.getElem_toArray, List.getElem_cons_zero, List.getElem_cons_succ, Act.put, List.setIfInBounds_toArray, List.set_cons_zero, List.set_cons_succ]
            generalize st2 V90 K10 (Z) (A6) (Q) (c6) = V91 at *
            refine rg_one 13 (by kernel_rfl) ?_
            have hSn := hS.putNum 5 rfl (zr) (B6) (R) (d6) rfl
            refine rs_of rfl rfl (stores_num (.tmp 5) (.tmp 21) rfl (t := zr) (B := B6) (M := R) (cb := d6) rfl rfl (hS.num 5 rfl) ⟨hSn.sub (.cons _ (.cons _ (.cons _ (.cons _ (.cons _ (.cons _ (.cons _ (.cons_cons _ .slnil)))))))), ?_⟩)
            replace hS := hSn
            clear hSn
            simp only [List.getElem_toArray, List.getElem_cons_zero, List.getElem_cons_succ, Act.put, List.setIfInBounds_toArray, List.set_cons_zero, List.set_cons_succ]
            generalize st2 V91 K11 (zr) (B6) (R) (d6) = V92 at *
            refine wpAnyH_done (by kernel_rfl) ?_ _
            go_wp2_with fail
            go_meet
            replace hS := hS.sub (l' := [.dig Z A6 Q c6 N, .num K10 Z A6 Q c6, .int (S + 1) false 0, .rat S s n false d]) (.cons_cons _ (.cons _ (.cons_cons _ (.cons _ (.cons _ (.cons _ (.cons_cons _ (.cons_cons _ .slnil))))))))
            replace hS := hS.front 3 rfl
            replace hS := hS.front 3 rfl
            replace hS := hS.front 2 rfl
            replace hS := hS.front 3 rfl
            exact ⟨_, _, _, rfl, hS⟩
        · refine rs_of rfl rfl (wp_value (alloc_num rfl) ⟨(hS.sub (.cons _ (.cons _ (.cons _ (.cons_cons _ .slnil))))).alloc _, ?_⟩)
          replace hS := hS.pushNum (k := _) rfl false none 0 0
          simp only [List.getElem_toArray, List.getElem_cons_zero, List.getElem_cons_succ, Act.put, List.setIfInBounds_toArray, List.set_cons_zero, List.set_cons_succ]
          generalize V83.alloc boxNZ = V93 at *
          generalize V83.heap.size = K10 at *
          refine rg_one 5 (by kernel_rfl) ?_
          refine rs_of rfl rfl (wp_callx rfl enters_num8 rfl (HN2.out _) (fun q5 V94 hV => ⟨(hS.sub (.cons _ (.cons _ (.cons _ (.cons _ (.cons_cons _ .slnil)))))).below hV.2, ?_⟩))
          obtain ⟨A5, c5⟩ := q5
          obtain ⟨hg5, hV⟩ := hV
          replace hS := (hS.below hV).pushDig hg5
          clear hV hg5
          simp only [List.getElem_toArray, List.getElem_cons_zero, List.getElem_cons_succ, Act.put, List.setIfInBounds_toArray, List.set_cons_zero, List.set_cons_succ]
          refine rg_one 6 (by kernel_rfl) ?_
          refine rs_of rfl rfl (wp_callx rfl enters_div7 rfl (HDV.out _ _ _ _ _ (hS.dig 2 rfl) (hS.dig 0 rfl)) (fun q6 V95 hV => ⟨(hS.sub (.cons _ (.cons _ (.cons _ (.cons _ (.cons _ (.cons_cons _ .slnil))))))).below hV.2.2, ?_⟩))
          obtain ⟨⟨A6, c6⟩, B6, d6⟩ := q6
          obtain ⟨hg6, hh6, hV⟩ := hV
          replace hS := ((hS.below hV).pushDig hh6).pushDig hg6
          clear hV hg6 hh6
          simp only [List.getElem_toArray, List.getElem_cons_zero, List.getElem_cons_succ, Act.put, List.setIfInBounds_toArray, List.set_cons_zero, List.set_cons_succ]
          have hT := hS
          replace hS := hS.sub (l' := [.rat S s n false d]) (.cons _ (.cons _ (.cons _ (.cons _ (.cons _ (.cons _ (.cons _ (.cons_cons _ .slnil))))))))
          refine rg_take 7 (.tuple #[.agg #[.bool Z, .slice A6 Q c6], .agg #[.bool zr, .slice B6 R d6]]) rfl (by kernel_rfl) (by kernel_rfl) (by kernel_rfl) (fun _ _ _ h => h) rfl (fun w _ => ?_) hS ?_
          · go_simp
          simp only [List.getElem_toArray, List.getElem_cons_zero, List.getElem_cons_succ, Act.put, List.setIfInBounds_toArray, List.set_cons_zero, List.set_cons_succ]
          refine rg_take 8 (.agg #[.bool Z, .slice A6 Q c6]) rfl (by kernel_rfl) (by kernel_rfl) (by kernel_rfl) (fun _ _ _ h => h) rfl (fun w _ => ?_) hS ?_
          · go_simp
          simp only [List.getElem_toArray, List.getElem_cons_zero, List.getElem_cons_succ, Act.put, List.setIfInBounds_toArray, List.set_cons_zero, List.set_cons_succ]
          refine rg_take 9 (.agg #[.bool zr, .slice B6 R d6]) rfl (by kernel_rfl) (by kernel_rfl) (by kernel_rfl) (fun _ _ _ h => h) rfl (fun w _ => ?_) hS ?_
          · go_simp
          simp only [List.getElem_toArray, List.getElem_cons_zero, List.getElem_cons_succ, Act.put, List.setIfInBounds_toArray, List.set_cons_zero, List.set_cons_succ]
          replace hS := hT
          clear hT
          refine rg_one 12 (by kernel_rfl) ?_
          have hSn := hS.putNum 3 rfl (Z) (A6) (Q) (c6) rfl
          refine rs_of rfl rfl (stores_num (.tmp 4) (.tmp 20) rfl (t := Z) (B := A6) (M := Q) (cb := c6) rfl rfl (hS.num 3 rfl) ⟨hSn.sub (.cons _ (.cons _ (.cons _ (.cons _ (.cons _ (.cons _ (.cons _ (.cons_cons _ .slnil)))))))), ?_⟩)
          replace hS := hSn
          clear hSn
          simp only [List.getElem_toArray, List.getElem_cons_zero, List.getElem_cons_succ, Act.put, List.setIfInBounds_toArray, List.set_cons_zero, List.set_cons_succ]
          generalize st2 V95 K10 (Z) (A6) (Q) (c6) = V96 at *
          refine rg_one 13 (by kernel_rfl) ?_
          have hSn := hS.putNum 5 rfl (zr) (B6) (R) (d6) rfl
          refine rs_of rfl rfl (stores_num (.tmp 5) (.tmp 21) rfl (t := zr) (B := B6) (M := R) (cb := d6) rfl rfl (hS.num 5 rfl) ⟨hSn.sub (.cons _ (.cons _ (.cons _ (.cons _ (.cons _ (.cons _ (.cons _ (.cons_cons _ .slnil)))))))), ?_⟩)
          replace hS := hSn
          clear hSn
          simp only [List.getElem_toArray, List.getElem_cons_zero, List.getElem_cons_succ, Act.put, List.setIfInBounds_toArray, List.set_cons_zero, List.set_cons_succ]
          generalize st2 V96 K11 (zr) (B6) (R) (d6) = V97 at *
          refine wpAnyH_done (by kernel_rfl) ?_ _
          go_wp2_with fail
          go_meet
          replace hS := hS.sub (l' := [.dig Z A6 Q c6 N, .num K10 Z A6 Q c6, .int (S + 1) false 0, .rat S s n false d]) (.cons_cons _ (.cons _ (.cons _ (.cons_cons _ (.cons _ (.cons _ (.cons_cons _ (.cons_cons _ .slnil))))))))
          replace hS := hS.front 3 rfl
          replace hS := hS.front 3 rfl
          replace hS := hS.front 2 rfl
          replace hS := hS.front 3 rfl
          exact ⟨_, _, _, rfl, hS⟩
      · refine rs_of rfl rfl (wp_value (alloc_num rfl) ⟨(hS.sub (.cons _ (.cons _ (.cons_cons _ .slnil)))).alloc _, ?_⟩)
        replace hS := hS.pushNum (k := _) rfl false none 0 0
        simp only [List.getElem_toArray, List.getElem_cons_zero, List.getElem_cons_succ, Act.put, List.setIfInBounds_toArray, List.set_cons_zero, List.set_cons_succ]
        generalize V82.alloc boxNZ = V98 at *
        generalize V82.heap.size = K10 at *
        refine rg_one 2 (by kernel_rfl) ?_
        refine rs_of rfl rfl (wp_callx rfl enters_num8 rfl (HN1.out _) (fun q2 V99 hV => ⟨(hS.sub (.cons _ (.cons _ (.cons _ (.cons_cons _ .slnil))))).below hV.2, ?_⟩))
        obtain ⟨A2, c2⟩ := q2
        obtain ⟨hg2, hV⟩ := hV
        replace hS := (hS.below hV).pushDig hg2
        clear hV hg2
        simp only [List.getElem_toArray, List.getElem_cons_zero, List.getElem_cons_succ, Act.put, List.setIfInBounds_toArray, List.set_cons_zero, List.set_cons_succ]
        refine rg_one 5 (by kernel_rfl) ?_
        refine rs_of rfl rfl (wp_callx rfl enters_num8 rfl (HN2.out _) (fun q5 V100 hV => ⟨(hS.sub (.cons _ (.cons _ (.cons _ (.cons _ (.cons_cons _ .slnil)))))).below hV.2, ?_⟩))
        obtain ⟨A5, c5⟩ := q5
        obtain ⟨hg5, hV⟩ := hV
        replace hS := (hS.below hV).pushDig hg5
        clear hV hg5
        simp only [List.getElem_toArray, List.getElem_cons_zero, List.getElem_cons_succ, Act.put, List.setIfInBounds_toArray, List.set_cons_zero, List.set_cons_succ]
        refine rg_one 6 (by kernel_rfl) ?_
        refine rs_of rfl rfl (wp_callx rfl enters_div7 rfl (HDV.out _ _ _ _ _ (hS.dig 1 rfl) (hS.dig 0 rfl)) (fun q6 V101 hV => ⟨(hS.sub (.cons _ (.cons _ (.cons _ (.cons _ (.cons _ (.cons_cons _ .slnil))))))).below hV.2.2, ?_⟩))
        obtain ⟨⟨A6, c6⟩, B6, d6⟩ := q6
        obtain ⟨hg6, hh6, hV⟩ := hV
        replace hS := ((hS.below hV).pushDig hh6).pushDig hg6
        clear hV hg6 hh6
        simp only [List.getElem_toArray, List.getElem_cons_zero, List.getElem_cons_succ, Act.put, List.setIfInBounds_toArray, List.set_cons_zero, List.set_cons_succ]
        have hT := hS
        replace hS := hS.sub (l' := [.rat S s n false d]) (.cons _ (.cons _ (.cons _ (.cons _ (.cons _ (.cons _ (.cons _ (.cons_cons _ .slnil))))))))
        refine rg_take 7 (.tuple #[.agg #[.bool Z, .slice A6 Q c6], .agg #[.bool zr, .slice B6 R d6]]) rfl (by kernel_rfl) (by kernel_rfl) (by kernel_rfl) (fun _ _ _ h => h) rfl (fun w _ => ?_) hS ?_
        · go_simp
        simp only [List.getElem_toArray, List.getElem_cons_zero, List.getElem_cons_succ, Act.put, List.setIfInBounds_toArray, List.set_cons_zero, List.set_cons_succ]
        refine rg_take 8 (.agg #[.bool Z, .slice A6 Q c6]) rfl (by kernel_rfl) (by kernel_rfl) (by kernel_rfl) (fun _ _ _ h => h) rfl (fun w _ => ?_) hS ?_
        · go_simp
        simp only [List.getElem_toArray, List.getElem_cons_zero, List.getElem_cons_succ, Act.put, List.setIfInBounds_toArray, List.set_cons_zero, List.set_cons_succ]
        refine rg_take 9 (.agg #[.bool zr, .slice B6 R d6]) rfl (by kernel_rfl) (by kernel_rfl) (by kernel_rfl) (fun _ _ _ h => h) rfl (fun w _ => ?_) hS ?_
        · go_simp
        simp only [List.getElem_toArray, List.getElem_cons_zero, List.getElem_cons_succ, Act.put, List.setIfInBounds_toArray, List.set_cons_zero, List.set_cons_succ]
        replace hS := hT
        clear hT
        refine rg_one 12 (by kernel_rfl) ?_
        have hSn := hS.putNum 4 rfl (Z) (A6) (Q) (c6) rfl
        refine rs_of rfl rfl (stores_num (.tmp 4) (.tmp 20) rfl (t := Z) (B := A6) (M := Q) (cb := c6) rfl rfl (hS.num 4 rfl) ⟨hSn.sub (.cons _ (.cons _ (.cons _ (.cons _ (.cons _ (.cons _ (.cons _ (.cons_cons _ .slnil)))))))), ?_⟩)
        replace hS := hSn
        clear hSn
        simp only [List.getElem_toArray, List.getElem_cons_zero, List.getElem_cons_succ, Act.put, List.setIfInBounds_toArray, List.set_cons_zero, List.set_cons_succ]
        generalize st2 V101 K10 (Z) (A6) (Q) (c6) = V102 at *
        refine rg_one 13 (by kernel_rfl) ?_
        have hSn := hS.putNum 5 rfl (zr) (B6) (R) (d6) rfl
        refine rs_of rfl rfl (stores_num (.tmp 5) (.tmp 21) rfl (t := zr) (B := B6) (M := R) (cb := d6) rfl rfl (hS.num 5 rfl) ⟨hSn.sub (.cons _ (.cons _ (.cons _ (.cons _ (.cons _ (.cons _ (.cons _ (.cons_cons _ .slnil)))))))), ?_⟩)
        replace hS := hSn
        clear hSn
        simp only [List.getElem_toArray, List.getElem_cons_zero, List.getElem_cons_succ, Act.put, List.setIfInBounds_toArray, List.set_cons_zero, List.set_cons_succ]
        generalize st2 V102 K11 (zr) (B6) (R) (d6) = V103 at *
        refine wpAnyH_done (by kernel_rfl) ?_ _
        go_wp2_with fail
        go_meet
        replace hS := hS.sub (l' := [.dig Z A6 Q c6 N, .num K10 Z A6 Q c6, .int (S + 1) false 0, .rat S s n false d]) (.cons_cons _ (.cons _ (.cons _ (.cons _ (.cons_cons _ (.cons _ (.cons_cons _ (.cons_cons _ .slnil))))))))
        replace hS := hS.front 3 rfl
        replace hS := hS.front 3 rfl
        replace hS := hS.front 2 rfl
        replace hS := hS.front 3 rfl
        exact ⟨_, _, _, rfl, hS⟩
  case rest =>
    obtain ⟨K1, A, c, rfl, I2⟩ := hcut
    clear I
    have I := Lib.hid I2
    clear I2 HDV HN1 HN2
    have HT1 := Lib.hid (To_run Z A Q c N wc hfN (I.out.dig 1 rfl).digs hQ (I.out.dig 1 rfl).cap)
    obtain ⟨a0, b0, a1, b1⟩ := I.out.num 0 rfl
    go_wp2_with fail
    refine HT1.out.mono ?_
    rintro e x1 ⟨rfl, hw⟩
    replace I := Lib.hid (I.out.below hw)
    clear hw HT1 a0 b0 a1 b1
    obtain ⟨K4, hK4⟩ : ∃ K, x1.heap.size = K := ⟨_, rfl⟩
    obtain ⟨x2, hx2⟩ : ∃ W, x1.alloc (boxIZ 25) = W := ⟨_, rfl⟩
    have I2 := I.out.pushIntZ hK4 25
    rw [hx2] at I2
    have I3 := Lib.hid (I2.putInt 0 rfl Z N rfl)
    have H0 := Lib.hid (I2.int 0 rfl)
    clear I2 I
    go_upto_region 5 with (with_reducible refine wpList_store_int rfl (.tmp 6) (.tmp 25) rfl (b := K4) (s := Z) (n := N) rfl rfl H0.out ?_)
    clear hx2 H0
    generalize st9 x2 K4 Z N = x3 at *
    have H1 := Lib.hid (I3.out.int 0 rfl)
    have H2 := Lib.hid (I3.out.int 3 rfl)
    go_wp2_with (first | (with_reducible refine wpList_load_int rfl (.tmp 6) rfl rfl H1.out.o ?_) | (with_reducible refine wpList_store_int rfl (.tmp 2) (.tmp 27) rfl (b := S + 1) (s := Z) (n := N) rfl rfl H2.out ?_))
    have I4 := I3.out.putInt 3 rfl Z N rfl
    exact bodyPost_ret (v := .tuple #[intV Z N, .int .i64 (0 : Nat)]) (results_int rfl rfl rfl (I4.int 3 rfl)) rfl ⟨rfl, I4.bl⟩
end Go.Proofs.YtgoemhcngmpfbaaGreatDoor
