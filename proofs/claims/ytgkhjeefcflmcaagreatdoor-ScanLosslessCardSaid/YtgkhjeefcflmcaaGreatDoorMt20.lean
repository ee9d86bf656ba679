/-
  Stage 8: Scale, step by step; the program's Scale.
-/
import Derived.Test.YtgkhjeefcflmcaaGreatDoorMt19
namespace Go.Proofs.YtgkhjeefcflmcaaGreatDoor
open Go.RowKit Go.Sort
set_option linter.unusedSimpArgs false
structure Q4 where
 s : Bool
 n : Nat
 d : Nat
 k : Nat
def mu4 (B : Nat) (x : Q4) : Q4 := ⟨muS x.s x.n false x.d false B false 1, muN x.s x.n false x.d false B false 1, muD x.s x.n false x.d false B false 1, muK x.s x.n false x.d false B false 1⟩
def qu4 (B : Nat) (x : Q4) : Q4 := ⟨quS x.s x.n false x.d false B false 1, quN x.s x.n false x.d false B false 1, quD x.s x.n false x.d false B false 1, quK x.s x.n false x.d false B false 1⟩
def op4 (neg : Bool) (B : Nat) (x : Q4) : Q4 := if neg then qu4 B x else mu4 B x
def stp (neg : Bool) (B : Nat) (x : Q4) : Q4 := if x.k = 0 then op4 neg B x else ⟨false, 0, 0, x.k⟩
def its (neg : Bool) (B : Nat) (x : Q4) : Nat → Q4
 | 0 => x
 | i + 1 => stp neg B (its neg B x i)
theorem Fits.zero : Fits 0 := Nat.pow_pos (by decide)
theorem op4_fits (neg : Bool) (B : Nat) (x : Q4) : Fits (op4 neg B x).n ∧ Fits (op4 neg B x).d := by
 cases neg
 ·exact mu_fits x.s x.n false x.d false B false 1
 ·exact qu_fits x.s x.n false x.d false B false 1
theorem its_fits (neg : Bool) (B : Nat) (x : Q4) (hx : Fits x.n ∧ Fits x.d) : ∀ i, Fits (its neg B x i).n ∧ Fits (its neg B x i).d
 | 0 => hx
 | i + 1 => by
  show Fits (stp neg B (its neg B x i)).n ∧ Fits (stp neg B (its neg B x i)).d
  unfold stp
  split
  ·exact op4_fits neg B _
  ·exact ⟨Fits.zero, Fits.zero⟩
def scl (s : Bool) (n : Nat) (t : Bool) (d : Nat) (base exp : Int) : Q4 := if scK (chk s n t d) base exp ≠ 0 then ⟨false, 0, 0, scK (chk s n t d) base exp⟩ else its (decide (exp < 0)) base.natAbs ⟨s, n, d, 0⟩ exp.natAbs
theorem scK_zero {k : Nat} {base exp : Int} (h : scK k base exp = 0) : k = 0 ∧ (base = 2 ∨ base = 10) ∧ -1000 ≤ exp ∧ exp ≤ 1000 := by
 unfold scK at h
 split at h
 ·omega
 ·split at h
  ·omega
  ·split at h
   ·omega
   ·omega
theorem Bx.At.ste {w w' : World} {x : Bx} {E k j : Nat} (h : x.At w) (he : ErrAt w E k) (g : Ste w w' E j) (hne : x.blk ≠ some E) : x.At w' := by
 have hl := fun b => h.lt (b := b)
 have hc : ∀ b o, b < w.heap.size → b ≠ E → w'.cell? ⟨b, o, none⟩ = w.cell? ⟨b, o, none⟩ := fun b o h1 h2 => g.cell b o h1 (fun e => h2 e.1)
 cases x with
 | num b s A L c =>
  have hb : b ≠ E := fun e => hne (congrArg some e)
  have h1 : NumAt w b s A L c := h
  exact ⟨(hc _ _ h1.lt hb).trans h1.c0, (g.free _ _ h1.lt).trans h1.f0, (hc _ _ h1.lt hb).trans h1.c1, (g.free _ _ h1.lt).trans h1.f1⟩
 | int b s n => exact IntAt.ste h g (hl _ rfl) (fun e => hne (congrArg some e))
 | rat b s n t d => exact RatAt.ste h g (hl _ rfl) (fun e => hne (congrArg some e))
 | one b v =>
  have hb : b ≠ E := fun e => hne (congrArg some e)
  have h1 : w.cell? ⟨b, 0, none⟩ = some v ∧ w.frozen? ⟨b, 0, none⟩ = false := h
  exact ⟨(hc _ _ (hl _ rfl) hb).trans h1.1, (g.free _ _ (hl _ rfl)).trans h1.2⟩
 | row b v vs =>
  have hb : b ≠ E := fun e => hne (congrArg some e)
  have h1 : w.rangeAt b 0 (v :: vs) := h
  exact fun i u hu => (hc _ _ (hl _ rfl) hb).trans (h1 i u hu)
 | dig s A L c n =>
  have h1 : Good w s A L c n := h
  refine ⟨fun hL => ?_, h1.len, h1.cap, h1.sg⟩
  obtain ⟨b, o, e, hb, hd⟩ := h1.digs hL
  refine ⟨b, o, e, Nat.lt_of_lt_of_le hb g.size, fun i hi => (g.cell b (o + i) hb (fun e2 => ?_)).trans (hd i hi)⟩
  have h3 := hd i hi
  rw [e2.1, e2.2, he.cell] at h3
  have h4 := Option.some.inj h3
  unfold errV errno at h4
  split at h4 <;> cases h4
theorem Bs.ste {w0 w w' : World} {S E k j : Nat} {l : List Bx} (h : Bs w0 S l w) (i : Nat) (e : l[i]? = some (.one E (errV k))) (g : Ste w w' E j) {l' : List Bx} (hl : l.set i (.one E (errV j)) = l') : Bs w0 S l' w' := by
 subst hl
 have hE : ErrAt w E k := ⟨(h.one i e).1, (h.one i e).2⟩
 have hSb := h.low _ (List.mem_of_getElem? e) E rfl
 refine ⟨fun z hz => ?_, fun z hz c ec => ?_, ?_, g.below S w0 hSb h.sz h.bl, Nat.le_trans h.sz g.size⟩
 ·obtain ⟨m, hm⟩ := List.mem_iff_getElem?.1 hz
  by_cases hij : i = m
  ·subst hij
   have hl := (List.getElem?_eq_some_iff.1 e).1
   rw [List.getElem?_set_self hl] at hm
   cases hm
   exact ⟨g.err.cell, g.err.free⟩
  ·rw [List.getElem?_set_ne hij] at hm
   exact (h.at m hm).ste hE g (h.apart e hm hij rfl)
 ·rcases List.mem_or_eq_of_mem_set hz with h1 | h1
  ·exact h.low z h1 c ec
  ·subst h1
   cases ec
   exact hSb
 ·rw [filterMap_set_blk l i _ (.one E (errV j)) e rfl]
  exact h.dist
theorem load_err {w : World} {p : Addr} {k : Nat} (h : w.cell? p = some (errV k)) : (loadVar 25 p).run Tryz.prog w = .ok (errV k) w := by
 rcases errV_one k with e | ⟨v, e⟩ <;> rw [e] at h ⊢ <;> go_simp
theorem ld_err {op : Oper} {a : Act} {w : World} (x : Operand) (ho : op.op = .load 25 x) {p : Addr} {k : Nat} (hx : a.eval x = .pointer (some p)) (h : w.cell? p = some (errV k)) : (execOp a.eval op).run Tryz.prog w = .ok (.value (errV k)) w := ld_cell 25 x ho hx (load_err h)
theorem enters_doR : EntersP Tryz.prog 167 := entersP_of Tryz.func167 (by kernel_rfl) rfl
theorem enters_ROf : EntersP Tryz.prog 168 := entersP_of Tryz.func168 (by kernel_rfl) rfl
theorem enters_RMul : EntersP Tryz.prog 165 := entersP_of Tryz.func165 (by kernel_rfl) rfl
theorem enters_RQuo : EntersP Tryz.prog 166 := entersP_of Tryz.func166 (by kernel_rfl) rfl
def opF (neg : Bool) : Nat := if neg then 166 else 165
theorem do4_run (neg : Bool) (B : Nat) (x y : Q4) (E : Nat) (W : World) (hx : Fits x.n ∧ Fits x.d) (hB : Fits B) (h : ErrAt W E x.k) (hy : stp neg B x = y) :
  Calls Tryz.prog 167 #[.pointer (some ⟨E, 0, none⟩), fnV (opF neg), ratV x.s x.n false x.d, ratV false B false 1] W fun e w' => e = .returned (ratV y.s y.n false y.d) ∧ Ste W w' E y.k := by
 obtain ⟨xs, xn, xd, xk⟩ := x
 subst hy
 have hf1 : Fits 1 := by show _ < _; decide
 by_cases hk : xk = 0
 ·subst hk
  have e : stp neg B ⟨xs, xn, xd, 0⟩ = op4 neg B ⟨xs, xn, xd, 0⟩ := rfl
  rw [e]
  cases neg
  ·exact doR_first _ E _ xs xn false xd false B false 1 _ _ _ W h enters_RMul fun V => by
    have := RMul_run xs xn false xd false B false 1 V hx.1 hx.2 hB hf1
    rwa [mulV_eq] at this
  ·exact doR_first _ E _ xs xn false xd false B false 1 _ _ _ W h enters_RQuo fun V => by
    have := RQuo_run xs xn false xd false B false 1 V hx.1 hx.2 hB hf1
    rwa [quoV_eq] at this
 ·have e : stp neg B ⟨xs, xn, xd, xk⟩ = ⟨false, 0, 0, xk⟩ := if_neg hk
  rw [e]
  exact doR_past _ E xk hk xs xn false xd false B false 1 W h
set_option maxRecDepth 100000 in
set_option maxHeartbeats 8000000 in
theorem Scale_runP (s : Bool) (n : Nat) (t : Bool) (d : Nat) (base exp : Int) (y : Q4) (w : World) (hn : Hid (Fits n)) (hd : Hid (Fits d)) (hy : Hid (scl s n t d base exp = y)) :
  Calls Tryz.prog 137 #[ratV s n t d, .int .i64 base, .int .i64 exp] w fun e w' => e = .returned (.tuple #[ratV y.s y.n false y.d, errV y.k]) ∧ Below w.heap.size w w' := by
 obtain ⟨S, hS⟩ : ∃ S, w.heap.size = S := ⟨_, rfl⟩
 obtain ⟨W0, hW0⟩ : ∃ W, (w.alloc (boxR s n t d 94)).alloc (boxRZ 94) = W := ⟨_, rfl⟩
 have I := ((Bs.start w hS).pushRat hS s n t d 94).pushRatZ (k := S + 1) (by simp [hS]) 94
 rw [hW0] at I
 replace I := Lib.hid I
 obtain ⟨K, hK⟩ : ∃ K, scK (chk s n t d) base exp = K := ⟨_, rfl⟩
 have HC := Lib.hid (fun W => checkScale_run s n t d base exp K W hn hd hK)
 have HK := Lib.hid hK
 have hy2 := hy.out
 unfold scl at hy2
 rw [hK] at hy2
 replace hy2 := Lib.hid hy2
 clear hK hy
 rw [hS]
 have HRa := Lib.hid (I.out.rat 1 rfl)
 go_enter Tryz.func137, Tryz.ntmps137
 go_wp2_with (first | (with_reducible refine wpList_box_rat rfl (.tmp 0) rfl rfl ?_) | (with_reducible refine wpList_load_rat rfl (.tmp 3) rfl rfl HRa.out ?_))
 refine (HC.out _).mono ?_
 rintro e w1 ⟨rfl, hw⟩
 replace I := Lib.hid (I.out.below hw)
 clear hw HC HRa hW0
 by_cases hk : K = 0
 ·subst hk
  obtain ⟨hk0, hbase, he1, he2⟩ := scK_zero HK.out
  obtain ⟨v1, v2, v3, v4⟩ := vld_spec (chk_zero.1 hk0)
  subst v2
  have hy3 : its (decide (exp < 0)) base.natAbs ⟨s, n, d, 0⟩ exp.natAbs = y := hy2.out
  replace hy3 := Lib.hid hy3
  obtain ⟨B, hB⟩ : ∃ B, base.natAbs = B := ⟨_, rfl⟩
  obtain ⟨cnt, hcnt⟩ : ∃ c, exp.natAbs = c := ⟨_, rfl⟩
  rw [hB, hcnt] at hy3
  have hfB : Hid (Fits B) := Nat.lt_of_lt_of_le (show B < 18446744073709551616 by omega) (Nat.le_self_pow (by decide) _)
  have HOF : Hid (∀ W, Calls Tryz.prog 168 #[.int .i64 base] W fun e w' => e = .returned (ratV false B false 1) ∧ Below W.heap.size W w') := fun W => by
   have := ROf_run base W (by omega) (by omega)
   rwa [show decide (base < 0) = false from decide_eq_false (by omega), hB] at this
  have hcb : cnt ≤ 1000 := by omega
  have e0 : errV 0 = .nilIface := rfl
  rw [e0]
  clear e0 hy2 HK hk0 v1 v3 v4
  obtain ⟨E, hE⟩ : ∃ K, w1.heap.size = K := ⟨_, rfl⟩
  obtain ⟨w2, hw2⟩ : ∃ W, w1.alloc (.cells #[.nilIface] 226) = W := ⟨_, rfl⟩
  have I2 := I.out.pushOne hE .nilIface 226
  rw [hw2] at I2
  replace I := Lib.hid (show Bs w S [.one E (errV 0), .rat (S + 1) false 0 false 0, .rat S s n false d] w2 from I2)
  clear I2
  by_cases hneg : exp < 0
  ·have hec : -exp = (cnt : Int) := by omega
   rw [show decide (exp < 0) = true from decide_eq_true hneg] at hy3
   clear hcnt he1 he2
   go_wp2_with fail
   go_loopg [26] (cnt + 1) (fun h s26 wr => ∃ i : Nat, s26 = .int .i64 (i : Int) ∧ Hid (i + h = cnt + 1) ∧ i ≤ cnt ∧ Hid (Bs w S [.one E (errV (its true B ⟨s, n, d, 0⟩ i).k), .rat (S + 1) false 0 false 0, .rat S (its true B ⟨s, n, d, 0⟩ i).s (its true B ⟨s, n, d, 0⟩ i).n false (its true B ⟨s, n, d, 0⟩ i).d] wr))
   case atStart => exact ⟨0, rfl, by show _ = _; omega, by omega, I⟩
   case round =>
    clear I
    obtain ⟨i, rfl, HI, hic, I⟩ := hrel
    have hfx := Lib.hid (its_fits true B ⟨s, n, d, 0⟩ ⟨hn.out, hd.out⟩ i)
    have hst : Hid (stp true B (its true B ⟨s, n, d, 0⟩ i) = its true B ⟨s, n, d, 0⟩ (i + 1)) := rfl
    have hyi : Hid (i = cnt → its true B ⟨s, n, d, 0⟩ i = y) := fun e => by rw [e]; exact hy3.out
    obtain ⟨x', hx'⟩ : ∃ x, its true B ⟨s, n, d, 0⟩ (i + 1) = x := ⟨_, rfl⟩
    rw [hx'] at hst
    replace hx' := Lib.hid hx'
    obtain ⟨x, hx⟩ : ∃ x, its true B ⟨s, n, d, 0⟩ i = x := ⟨_, rfl⟩
    rw [hx] at hst hfx hyi I
    clear hx
    obtain ⟨xs, xn, xd, xk⟩ := x
    obtain ⟨zs, zn, zd, zk⟩ := x'
    by_cases hlt : i < cnt
    ·have HDO : Hid (∀ W, ErrAt W E xk → Calls Tryz.prog 167 #[.pointer (some ⟨E, 0, none⟩), fnV 166, ratV xs xn false xd, ratV false B false 1] W fun e w' => e = .returned (ratV zs zn false zd) ∧ Ste W w' E zk) := fun W h =>
      do4_run true B ⟨xs, xn, xd, xk⟩ ⟨zs, zn, zd, zk⟩ E W hfx.out hfB.out h hst.out
     clear hst hyi hfx
     go_upto_region 10 with fail
     refine rg_begin (fun V => Bs w S [] V) (by kernel_rfl) (I.out.drew.sub (.cons _ (.cons _ (.cons _ .slnil)))) (fun hS => ?_)
     refine rg_take 0 (fnV 166) rfl (by kernel_rfl) (by kernel_rfl) (by kernel_rfl) (fun _ _ _ h => h) rfl (fun w _ => ?_) hS ?_
     ·go_simp
     simp only [zA, zB, zC, Act.put, zD, zE, zF]
     refine rg_take 2 (.int .i64 base) rfl (by kernel_rfl) (by kernel_rfl) (by kernel_rfl) (fun _ _ _ h => h) rfl (fun w _ => ?_) hS ?_
     ·go_simp
     simp only [zA, zB, zC, Act.put, zD, zE, zF]
     replace hS := I.out.drew
     clear I
     generalize wr.drew = V0 at *
     refine rg_two 1 3 (by kernel_rfl) ?_ ?_
     ·refine rs_of rfl rfl (wp_value (ld_rat (.tmp 3) rfl rfl (hS.rat 2 rfl)) ⟨hS.sub (.cons _ (.cons _ (.cons _ .slnil))), ?_⟩)
      simp only [zA, zB, zC, Act.put, zD, zE, zF]
      refine rg_one 3 (by kernel_rfl) (rs_of rfl rfl (wp_call rfl enters_ROf rfl (HOF.out _) (fun V1 hV => ⟨(hS.sub (.cons _ (.cons _ (.cons _ .slnil)))).below hV, ?_⟩)))
      replace hS := hS.below hV
      clear hV
      simp only [zA, zB, zC, Act.put, zD, zE, zF]
      refine rg_one 4 (by kernel_rfl) (rs_of rfl rfl (wp_call rfl enters_doR rfl (HDO.out _ ⟨(hS.one 0 rfl).1, (hS.one 0 rfl).2⟩) (fun V2 hV => ⟨(hS.ste 0 rfl hV rfl).sub (.cons _ (.cons _ (.cons _ .slnil))), ?_⟩)))
      replace hS := hS.ste 0 rfl hV rfl
      clear hV
      simp only [zA, zB, zC, Act.put, zD, zE, zF]
      have hSn := hS.putRat 2 rfl zs zn false zd rfl
      refine rg_one 5 (by kernel_rfl) (rs_of rfl rfl (stores_rat (.tmp 3) (.tmp 32) rfl (s := zs) (n := zn) (t := false) (d := zd) rfl rfl (hS.rat 2 rfl) ⟨hSn.sub (.cons _ (.cons _ (.cons _ .slnil))), ?_⟩))
      replace hS := hSn
      clear hSn
      simp only [zA, zB, zC, Act.put, zD, zE, zF]
      generalize st18 V2 S zs zn false zd = V3 at *
      refine wpAnyH_done (by kernel_rfl) ?_ _
      replace hS := Lib.hid hS
      go_wp2_with fail
      go_roundg (cnt - i)
      case measure => have := HI.out; omega
      case rel => exact ⟨i + 1, by go_num, by show _ = _; have := HI.out; omega, by omega, by show Bs _ _ _ _; rw [hx'.out]; exact hS.out⟩
     ·refine rs_of rfl rfl (wp_call rfl enters_ROf rfl (HOF.out _) (fun V1 hV => ⟨(hS.sub (.cons _ (.cons _ (.cons _ .slnil)))).below hV, ?_⟩))
      replace hS := hS.below hV
      clear hV
      simp only [zA, zB, zC, Act.put, zD, zE, zF]
      refine rg_one 1 (by kernel_rfl) (rs_of rfl rfl (wp_value (ld_rat (.tmp 3) rfl rfl (hS.rat 2 rfl)) ⟨hS.sub (.cons _ (.cons _ (.cons _ .slnil))), ?_⟩))
      simp only [zA, zB, zC, Act.put, zD, zE, zF]
      refine rg_one 4 (by kernel_rfl) (rs_of rfl rfl (wp_call rfl enters_doR rfl (HDO.out _ ⟨(hS.one 0 rfl).1, (hS.one 0 rfl).2⟩) (fun V2 hV => ⟨(hS.ste 0 rfl hV rfl).sub (.cons _ (.cons _ (.cons _ .slnil))), ?_⟩)))
      replace hS := hS.ste 0 rfl hV rfl
      clear hV
      simp only [zA, zB, zC, Act.put, zD, zE, zF]
      have hSn := hS.putRat 2 rfl zs zn false zd rfl
      refine rg_one 5 (by kernel_rfl) (rs_of rfl rfl (stores_rat (.tmp 3) (.tmp 32) rfl (s := zs) (n := zn) (t := false) (d := zd) rfl rfl (hS.rat 2 rfl) ⟨hSn.sub (.cons _ (.cons _ (.cons _ .slnil))), ?_⟩))
      replace hS := hSn
      clear hSn
      simp only [zA, zB, zC, Act.put, zD, zE, zF]
      generalize st18 V2 S zs zn false zd = V3 at *
      refine wpAnyH_done (by kernel_rfl) ?_ _
      replace hS := Lib.hid hS
      go_wp2_with fail
      go_roundg (cnt - i)
      case measure => have := HI.out; omega
      case rel => exact ⟨i + 1, by go_num, by show _ = _; have := HI.out; omega, by omega, by show Bs _ _ _ _; rw [hx'.out]; exact hS.out⟩
    ·obtain rfl : i = cnt := by omega
     obtain rfl : (⟨xs, xn, xd, xk⟩ : Q4) = y := hyi.out rfl
     clear hst hyi hfx hy3
     go_upto_region 12 with fail
     refine rg_begin (fun V => Bs w S [.one E (errV xk), .rat S xs xn false xd] V) (by kernel_rfl) (I.out.drew.sub (.cons_cons _ (.cons _ (.cons_cons _ .slnil)))) (fun hS => ?_)
     refine rg_take 0 (ratV xs xn false xd) rfl (by kernel_rfl) (by kernel_rfl) (by kernel_rfl) (fun _ _ _ h => h) rfl (fun w hSw => ld_rat (.tmp 3) rfl rfl (hSw.rat 1 rfl)) hS ?_
     simp only [zA, zB, zC, Act.put, zD, zE, zF]
     refine rg_take 1 (.pointer (some ⟨E, 0, none⟩)) rfl (by kernel_rfl) (by kernel_rfl) (by kernel_rfl) (fun _ _ _ h => h) rfl (fun w _ => ?_) hS ?_
     ·go_simp
     simp only [zA, zB, zC, Act.put, zD, zE, zF]
     refine rg_take 2 (errV xk) rfl (by kernel_rfl) (by kernel_rfl) (by kernel_rfl) (fun _ _ _ h => h) rfl (fun w hSw => ld_err (.tmp 35) rfl rfl (hSw.one 0 rfl).1) hS ?_
     simp only [zA, zB, zC, Act.put, zD, zE, zF]
     replace hS := I.out.drew
     clear I
     generalize wr.drew = V0 at *
     have hSn := hS.putRat 1 rfl xs xn false xd rfl
     refine rg_one 3 (by kernel_rfl) (rs_of rfl rfl (stores_rat (.tmp 6) (.tmp 34) rfl (s := xs) (n := xn) (t := false) (d := xd) rfl rfl (hS.rat 1 rfl) ⟨hSn.sub (.cons_cons _ (.cons _ (.cons_cons _ .slnil))), ?_⟩))
     have hI := hSn
     replace hS := hSn.sub (l' := [.one E (errV xk), .rat S xs xn false xd]) (.cons_cons _ (.cons _ (.cons_cons _ .slnil)))
     clear hSn
     simp only [zA, zB, zC, Act.put, zD, zE, zF]
     generalize st18 V0 (S + 1) xs xn false xd = V1 at *
     refine rg_take 4 (errV xk) rfl (by kernel_rfl) (by kernel_rfl) (by kernel_rfl) (fun _ _ _ h => h) rfl (fun w _ => ?_) hS ?_
     ·go_simp
     simp only [zA, zB, zC, Act.put, zD, zE, zF]
     refine wpAnyH_done (by kernel_rfl) ?_ _
     go_wp2_with fail
     exact bodyPost_ret (v := .tuple #[ratV xs xn false xd, errV xk]) (results_rat rfl rfl rfl (hI.rat 1 rfl)) rfl ⟨rfl, hI.bl⟩
  ·obtain rfl : exp = (cnt : Int) := by omega
   rw [show decide ((cnt : Int) < 0) = false from decide_eq_false hneg] at hy3
   clear hcnt he1 he2
   go_wp2_with fail
   go_loopg [26] (cnt + 1) (fun h s26 wr => ∃ i : Nat, s26 = .int .i64 (i : Int) ∧ Hid (i + h = cnt + 1) ∧ i ≤ cnt ∧ Hid (Bs w S [.one E (errV (its false B ⟨s, n, d, 0⟩ i).k), .rat (S + 1) false 0 false 0, .rat S (its false B ⟨s, n, d, 0⟩ i).s (its false B ⟨s, n, d, 0⟩ i).n false (its false B ⟨s, n, d, 0⟩ i).d] wr))
   case atStart => exact ⟨0, rfl, by show _ = _; omega, by omega, I⟩
   case round =>
    clear I
    obtain ⟨i, rfl, HI, hic, I⟩ := hrel
    have hfx := Lib.hid (its_fits false B ⟨s, n, d, 0⟩ ⟨hn.out, hd.out⟩ i)
    have hst : Hid (stp false B (its false B ⟨s, n, d, 0⟩ i) = its false B ⟨s, n, d, 0⟩ (i + 1)) := rfl
    have hyi : Hid (i = cnt → its false B ⟨s, n, d, 0⟩ i = y) := fun e => by rw [e]; exact hy3.out
    obtain ⟨x', hx'⟩ : ∃ x, its false B ⟨s, n, d, 0⟩ (i + 1) = x := ⟨_, rfl⟩
    rw [hx'] at hst
    replace hx' := Lib.hid hx'
    obtain ⟨x, hx⟩ : ∃ x, its false B ⟨s, n, d, 0⟩ i = x := ⟨_, rfl⟩
    rw [hx] at hst hfx hyi I
    clear hx
    obtain ⟨xs, xn, xd, xk⟩ := x
    obtain ⟨zs, zn, zd, zk⟩ := x'
    by_cases hlt : i < cnt
    ·have HDO : Hid (∀ W, ErrAt W E xk → Calls Tryz.prog 167 #[.pointer (some ⟨E, 0, none⟩), fnV 165, ratV xs xn false xd, ratV false B false 1] W fun e w' => e = .returned (ratV zs zn false zd) ∧ Ste W w' E zk) := fun W h =>
      do4_run false B ⟨xs, xn, xd, xk⟩ ⟨zs, zn, zd, zk⟩ E W hfx.out hfB.out h hst.out
     clear hst hyi hfx
     go_upto_region 10 with fail
     refine rg_begin (fun V => Bs w S [] V) (by kernel_rfl) (I.out.drew.sub (.cons _ (.cons _ (.cons _ .slnil)))) (fun hS => ?_)
     refine rg_take 0 (fnV 165) rfl (by kernel_rfl) (by kernel_rfl) (by kernel_rfl) (fun _ _ _ h => h) rfl (fun w _ => ?_) hS ?_
     ·go_simp
     simp only [zA, zB, zC, Act.put, zD, zE, zF]
     refine rg_take 2 (.int .i64 base) rfl (by kernel_rfl) (by kernel_rfl) (by kernel_rfl) (fun _ _ _ h => h) rfl (fun w _ => ?_) hS ?_
     ·go_simp
     simp only [zA, zB, zC, Act.put, zD, zE, zF]
     replace hS := I.out.drew
     clear I
     generalize wr.drew = V0 at *
     refine rg_two 1 3 (by kernel_rfl) ?_ ?_
     ·refine rs_of rfl rfl (wp_value (ld_rat (.tmp 3) rfl rfl (hS.rat 2 rfl)) ⟨hS.sub (.cons _ (.cons _ (.cons _ .slnil))), ?_⟩)
      simp only [zA, zB, zC, Act.put, zD, zE, zF]
      refine rg_one 3 (by kernel_rfl) (rs_of rfl rfl (wp_call rfl enters_ROf rfl (HOF.out _) (fun V1 hV => ⟨(hS.sub (.cons _ (.cons _ (.cons _ .slnil)))).below hV, ?_⟩)))
      replace hS := hS.below hV
      clear hV
      simp only [zA, zB, zC, Act.put, zD, zE, zF]
      refine rg_one 4 (by kernel_rfl) (rs_of rfl rfl (wp_call rfl enters_doR rfl (HDO.out _ ⟨(hS.one 0 rfl).1, (hS.one 0 rfl).2⟩) (fun V2 hV => ⟨(hS.ste 0 rfl hV rfl).sub (.cons _ (.cons _ (.cons _ .slnil))), ?_⟩)))
      replace hS := hS.ste 0 rfl hV rfl
      clear hV
      simp only [zA, zB, zC, Act.put, zD, zE, zF]
      have hSn := hS.putRat 2 rfl zs zn false zd rfl
      refine rg_one 5 (by kernel_rfl) (rs_of rfl rfl (stores_rat (.tmp 3) (.tmp 32) rfl (s := zs) (n := zn) (t := false) (d := zd) rfl rfl (hS.rat 2 rfl) ⟨hSn.sub (.cons _ (.cons _ (.cons _ .slnil))), ?_⟩))
      replace hS := hSn
      clear hSn
      simp only [zA, zB, zC, Act.put, zD, zE, zF]
      generalize st18 V2 S zs zn false zd = V3 at *
      refine wpAnyH_done (by kernel_rfl) ?_ _
      replace hS := Lib.hid hS
      go_wp2_with fail
      go_roundg (cnt - i)
      case measure => have := HI.out; omega
      case rel => exact ⟨i + 1, by go_num, by show _ = _; have := HI.out; omega, by omega, by show Bs _ _ _ _; rw [hx'.out]; exact hS.out⟩
     ·refine rs_of rfl rfl (wp_call rfl enters_ROf rfl (HOF.out _) (fun V1 hV => ⟨(hS.sub (.cons _ (.cons _ (.cons _ .slnil)))).below hV, ?_⟩))
      replace hS := hS.below hV
      clear hV
      simp only [zA, zB, zC, Act.put, zD, zE, zF]
      refine rg_one 1 (by kernel_rfl) (rs_of rfl rfl (wp_value (ld_rat (.tmp 3) rfl rfl (hS.rat 2 rfl)) ⟨hS.sub (.cons _ (.cons _ (.cons _ .slnil))), ?_⟩))
      simp only [zA, zB, zC, Act.put, zD, zE, zF]
      refine rg_one 4 (by kernel_rfl) (rs_of rfl rfl (wp_call rfl enters_doR rfl (HDO.out _ ⟨(hS.one 0 rfl).1, (hS.one 0 rfl).2⟩) (fun V2 hV => ⟨(hS.ste 0 rfl hV rfl).sub (.cons _ (.cons _ (.cons _ .slnil))), ?_⟩)))
      replace hS := hS.ste 0 rfl hV rfl
      clear hV
      simp only [zA, zB, zC, Act.put, zD, zE, zF]
      have hSn := hS.putRat 2 rfl zs zn false zd rfl
      refine rg_one 5 (by kernel_rfl) (rs_of rfl rfl (stores_rat (.tmp 3) (.tmp 32) rfl (s := zs) (n := zn) (t := false) (d := zd) rfl rfl (hS.rat 2 rfl) ⟨hSn.sub (.cons _ (.cons _ (.cons _ .slnil))), ?_⟩))
      replace hS := hSn
      clear hSn
      simp only [zA, zB, zC, Act.put, zD, zE, zF]
      generalize st18 V2 S zs zn false zd = V3 at *
      refine wpAnyH_done (by kernel_rfl) ?_ _
      replace hS := Lib.hid hS
      go_wp2_with fail
      go_roundg (cnt - i)
      case measure => have := HI.out; omega
      case rel => exact ⟨i + 1, by go_num, by show _ = _; have := HI.out; omega, by omega, by show Bs _ _ _ _; rw [hx'.out]; exact hS.out⟩
    ·obtain rfl : i = cnt := by omega
     obtain rfl : (⟨xs, xn, xd, xk⟩ : Q4) = y := hyi.out rfl
     clear hst hyi hfx hy3
     go_upto_region 12 with fail
     refine rg_begin (fun V => Bs w S [.one E (errV xk), .rat S xs xn false xd] V) (by kernel_rfl) (I.out.drew.sub (.cons_cons _ (.cons _ (.cons_cons _ .slnil)))) (fun hS => ?_)
     refine rg_take 0 (ratV xs xn false xd) rfl (by kernel_rfl) (by kernel_rfl) (by kernel_rfl) (fun _ _ _ h => h) rfl (fun w hSw => ld_rat (.tmp 3) rfl rfl (hSw.rat 1 rfl)) hS ?_
     simp only [zA, zB, zC, Act.put, zD, zE, zF]
     refine rg_take 1 (.pointer (some ⟨E, 0, none⟩)) rfl (by kernel_rfl) (by kernel_rfl) (by kernel_rfl) (fun _ _ _ h => h) rfl (fun w _ => ?_) hS ?_
     ·go_simp
     simp only [zA, zB, zC, Act.put, zD, zE, zF]
     refine rg_take 2 (errV xk) rfl (by kernel_rfl) (by kernel_rfl) (by kernel_rfl) (fun _ _ _ h => h) rfl (fun w hSw => ld_err (.tmp 35) rfl rfl (hSw.one 0 rfl).1) hS ?_
     simp only [zA, zB, zC, Act.put, zD, zE, zF]
     replace hS := I.out.drew
     clear I
     generalize wr.drew = V0 at *
     have hSn := hS.putRat 1 rfl xs xn false xd rfl
     refine rg_one 3 (by kernel_rfl) (rs_of rfl rfl (stores_rat (.tmp 6) (.tmp 34) rfl (s := xs) (n := xn) (t := false) (d := xd) rfl rfl (hS.rat 1 rfl) ⟨hSn.sub (.cons_cons _ (.cons _ (.cons_cons _ .slnil))), ?_⟩))
     have hI := hSn
     replace hS := hSn.sub (l' := [.one E (errV xk), .rat S xs xn false xd]) (.cons_cons _ (.cons _ (.cons_cons _ .slnil)))
     clear hSn
     simp only [zA, zB, zC, Act.put, zD, zE, zF]
     generalize st18 V0 (S + 1) xs xn false xd = V1 at *
     refine rg_take 4 (errV xk) rfl (by kernel_rfl) (by kernel_rfl) (by kernel_rfl) (fun _ _ _ h => h) rfl (fun w _ => ?_) hS ?_
     ·go_simp
     simp only [zA, zB, zC, Act.put, zD, zE, zF]
     refine wpAnyH_done (by kernel_rfl) ?_ _
     go_wp2_with fail
     exact bodyPost_ret (v := .tuple #[ratV xs xn false xd, errV xk]) (results_rat rfl rfl rfl (hI.rat 1 rfl)) rfl ⟨rfl, hI.bl⟩
 ·have hyk : y = ⟨false, 0, 0, K⟩ := by rw [← hy2.out, if_pos hk]
  subst hyk
  have HZ := Lib.hid (I.out.rat 0 rfl)
  have hek : errV K = .iface 35 (.int .i64 K) := errV_pos hk
  rw [hek]
  clear hek hy2 HK
  go_wp2_with (first | (with_reducible refine wpList_build_zero rfl rfl ?_) | (with_reducible refine wpList_store_rat rfl (.tmp 6) (.tmp 18) rfl (b := S + 1) (s := false) (n := 0) (t := false) (d := 0) rfl rfl HZ.out ?_))
  have I2 := I.out.putRat 0 rfl false 0 false 0 rfl
  exact bodyPost_ret (v := .tuple #[ratV false 0 false 0, .iface 35 (.int .i64 K)]) (results_rat rfl rfl rfl (I2.rat 0 rfl)) rfl ⟨by rw [errV_pos hk], I2.bl⟩
end Go.Proofs.YtgkhjeefcflmcaaGreatDoor
