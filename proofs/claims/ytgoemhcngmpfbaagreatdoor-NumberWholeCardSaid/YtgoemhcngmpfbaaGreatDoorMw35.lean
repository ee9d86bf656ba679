/-
  The document's ratio in lowest terms.
-/
import Derived.Test.YtgoemhcngmpfbaaGreatDoorMw33
import Derived.Test.YtgoemhcngmpfbaaGreatDoorMw26
import Derived.Test.YtgoemhcngmpfbaaGreatDoorMw17
import Derived.Test.YtgoemhcngmpfbaaGreatDoorMw34
import Derived.Test.YtgoemhcngmpfbaaGreatDoorMw15
import Derived.Test.YtgoemhcngmpfbaaGreatDoorMw21

namespace Go.Proofs.YtgoemhcngmpfbaaGreatDoor
open Go.RowKit Go.Sort
set_option linter.unusedSimpArgs false

theorem addN_zero (t : Bool) (q : Nat) : addN false 0 (sgn t q) q = q := by
  unfold addN sgn
  by_cases h : q = 0
  · subst h; simp
  · have : 0 < q := by omega
    cases t <;> simp [h, this]
theorem addS_zero (t : Bool) (q : Nat) : addS false 0 (sgn t q) q = sgn t q := by
  unfold addS sgn
  by_cases h : q = 0
  · subst h; simp
  · have : 0 < q := by omega
    cases t <;> simp [h, this]
theorem sgn_not (s : Bool) (q : Nat) : sgn (!sgn s q) q = sgn (!s) q := by
  unfold sgn
  by_cases h : q = 0 <;> simp [h]
theorem Good.zero (w : World) : Good w false none 0 0 0 := ⟨DgAt.nil, nl_zero, ⟨Nat.le_refl _, by omega⟩, rfl⟩
theorem fits_quot {n : Nat} (g : Nat) (h : Fits n) : Fits (n / g) := Nat.lt_of_le_of_lt (Nat.div_le_self _ _) h
set_option maxRecDepth 100000 in
set_option maxHeartbeats 8000000 in
theorem lowest_run (s : Bool) (A : Option Addr) (L ca n : Nat) (t : Bool) (B : Option Addr) (M cb d : Nat) (z : Bool) (q p : Nat) (w : World) (ha : Hid (Good w s A L ca n)) (hb : Hid (Good w t B M cb d)) (hn : Hid (Fits n)) (hd : Hid (Fits d)) (hd0 : Hid (d ≠ 0))
    (hz : Hid (mkS s n t d = z)) (hq : Hid (mkN n d = q)) (hp : Hid (mkD n d = p)) :
    Calls Tryz.prog 42 #[.agg #[.bool s, .slice A L ca], .agg #[.bool t, .slice B M cb]] w fun e w' => e = .returned (ratV z q false p) ∧ Below w.heap.size w w' := by
  obtain ⟨S, hS⟩ : ∃ S, w.heap.size = S := ⟨_, rfl⟩
  obtain ⟨W0, hW0⟩ : ∃ W, ((w.alloc (boxN s A L ca)).alloc (boxN t B M cb)).alloc (boxRZ 27) = W := ⟨_, rfl⟩
  have I := (((((Bs.start w hS).pushDig ha.out).pushDig hb.out).pushNum hS s A L ca).pushNum (k := S + 1) (by simp [hS]) t B M cb).pushRatZ (k := S + 1 + 1) (by simp [hS]) 27
  rw [hW0] at I
  replace I := Lib.hid I
  have hL32 : L ≤ 32 := by rw [← ha.out.len]; exact nl_le ((fits_dg n).1 hn.out)
  have hM32 : M ≤ 32 := by rw [← hb.out.len]; exact nl_le ((fits_dg d).1 hd.out)
  obtain ⟨g, hg⟩ : ∃ g, Nat.gcd n d = g := ⟨_, rfl⟩
  obtain ⟨G, hG⟩ : ∃ G, nl g = G := ⟨_, rfl⟩
  have hg0 : 0 < g := by rw [← hg]; exact Nat.gcd_pos_of_pos_right _ (Nat.pos_of_ne_zero hd0.out)
  have hgd : g ≤ d := by rw [← hg]; exact Nat.gcd_le_right _ (Nat.pos_of_ne_zero hd0.out)
  have hG32 : G ≤ 32 := by rw [← hG]; exact nl_le ((fits_dg g).1 (Nat.lt_of_le_of_lt hgd hd.out))
  have hq' : Hid (n / g = q) := by show _ = _; rw [← hq.out, ← hg]; exact (if_neg hd0.out).symm
  have hp' : Hid (d / g = p) := by show _ = _; rw [← hp.out, ← hg]; exact (if_neg hd0.out).symm
  have hz' : Hid (sgn (s != t) q = z) := by show _ = _; rw [← hz.out, ← hq'.out, ← hg]; exact (if_neg hd0.out).symm
  have hp0 : p ≠ 0 := by
    rw [← hp'.out]
    exact Nat.ne_of_gt (Nat.div_pos hgd hg0)
  have hfq : Hid (Fits q) := by show Fits _; rw [← hq'.out]; exact fits_quot g hn.out
  have hfp : Hid (Fits p) := by show Fits _; rw [← hp'.out]; exact fits_quot g hd.out
  obtain ⟨Q, hQ⟩ : ∃ Q, nl q = Q := ⟨_, rfl⟩
  obtain ⟨P, hP⟩ : ∃ P, nl p = P := ⟨_, rfl⟩
  have hQ32 : Q ≤ 32 := by rw [← hQ]; exact nl_le ((fits_dg q).1 hfq.out)
  have hP32 : P ≤ 32 := by rw [← hP]; exact nl_le ((fits_dg p).1 hfp.out)
  obtain ⟨zx, hzx⟩ : ∃ zx, sgn (s != false) q = zx := ⟨_, rfl⟩
  have hzy : Hid (sgn (t != false) p = t) := by show _ = _; cases t <;> simp [sgn, hp0]
  replace hzx := Lib.hid hzx
  replace hQ := Lib.hid hQ
  replace hP := Lib.hid hP
  replace hG := Lib.hid hG
  replace hg := Lib.hid hg
  replace hg0 := Lib.hid hg0
  clear ha hb hn hd hd0 hz hq hp hgd
  rw [hS]
  go_enter Tryz.func42, Tryz.ntmps42
  obtain ⟨a0, b0, a1, b1⟩ := I.out.num 2 rfl
  obtain ⟨a2, b2, a3, b3⟩ := I.out.num 1 rfl
  go_wp2_with fail
  clear hW0
  have HGC := Lib.hid (Gcd_run7 s A L ca n t B M cb d g G W0 (I.out.dig 4 rfl) (I.out.dig 3 rfl) (by omega) hg hG)
  refine HGC.out.mono ?_
  rintro e w1 ⟨C, cc, rfl, hgg, hw⟩
  replace I := Lib.hid ((I.out.below hw).pushDig hgg)
  clear hw hgg HGC a0 b0 a1 b1 a2 b2 a3 b3
  obtain ⟨K1, hK1⟩ : ∃ K, w1.heap.size = K := ⟨_, rfl⟩
  obtain ⟨w2, hw2⟩ : ∃ W, w1.alloc (boxN false C G cc) = W := ⟨_, rfl⟩
  have I2 := I.out.pushNum hK1 false C G cc
  rw [hw2] at I2
  replace I := Lib.hid I2
  clear I2
  obtain ⟨a0, b0, a1, b1⟩ := I.out.num 4 rfl
  obtain ⟨a2, b2, a3, b3⟩ := I.out.num 0 rfl
  have HDV := Lib.hid (Div_run7 s A L ca n false C G cc g zx (sgn s (n % g)) q Q (n % g) _ w2 (I.out.dig 6 rfl) (I.out.dig 1 rfl) (by omega) hg0 hzx hq' hQ rfl rfl rfl)
  go_wp2_with fail
  refine HDV.out.mono ?_
  rintro e w3 ⟨D, cd, E, ce, rfl, hgg, hg2, hw⟩
  replace I := Lib.hid (((I.out.below hw).pushDig hg2).pushDig hgg)
  clear hw hgg hg2 HDV a0 b0 a1 b1 a2 b2 a3 b3
  obtain ⟨K2, hK2⟩ : ∃ K, w3.heap.size = K := ⟨_, rfl⟩
  obtain ⟨w4, hw4⟩ : ∃ W, (w3.alloc (boxN zx D Q cd)).alloc (boxN (sgn s (n % g)) E (nl (n % g)) ce) = W := ⟨_, rfl⟩
  have I2 := (I.out.pushNum hK2 zx D Q cd).pushNum (k := K2 + 1) (by simp [hK2]) (sgn s (n % g)) E (nl (n % g)) ce
  rw [hw4] at I2
  replace I := Lib.hid I2
  clear I2
  obtain ⟨a0, b0, a1, b1⟩ := I.out.num 7 rfl
  obtain ⟨a2, b2, a3, b3⟩ := I.out.num 4 rfl
  have HDV := Lib.hid (Div_run7 t B M cb d false C G cc g t (sgn t (d % g)) p P (d % g) _ w4 (I.out.dig 9 rfl) (I.out.dig 5 rfl) (by omega) hg0 hzy hp' hP rfl rfl rfl)
  go_wp2_with fail
  refine HDV.out.mono ?_
  rintro e w5 ⟨D2, cd2, E2, ce2, rfl, hgg, hg2, hw⟩
  replace I := Lib.hid (((I.out.below hw).pushDig hg2).pushDig hgg)
  clear hw hgg hg2 HDV a0 b0 a1 b1 a2 b2 a3 b3
  obtain ⟨K3, hK3⟩ : ∃ K, w5.heap.size = K := ⟨_, rfl⟩
  obtain ⟨w6, hw6⟩ : ∃ W, (w5.alloc (boxN t D2 P cd2)).alloc (boxN (sgn t (d % g)) E2 (nl (d % g)) ce2) = W := ⟨_, rfl⟩
  have I2 := (I.out.pushNum hK3 t D2 P cd2).pushNum (k := K3 + 1) (by simp [hK3]) (sgn t (d % g)) E2 (nl (d % g)) ce2
  rw [hw6] at I2
  replace I := Lib.hid I2
  clear I2
  replace I := Lib.hid (I.out.sub (l' := [.num K3 t D2 P cd2, .dig t D2 P cd2 p, .num K2 zx D Q cd, .dig zx D Q cd q, .rat (S + 1 + 1) false 0 false 0]) (.cons _ (.cons_cons _ (.cons_cons _ (.cons _ (.cons _ (.cons_cons _ (.cons_cons _ (.cons _ (.cons _ (.cons _ (.cons_cons _ (.cons _ (.cons _ (.cons _ (.cons _ .slnil))))))))))))))))
  clear hg hG hg0 hG32
  cases t
  · have hzz : Hid (zx = z) := by show _ = _; rw [← hzx.out, ← hz'.out]
    obtain ⟨a2, b2, a3, b3⟩ := I.out.num 0 rfl
    go_upto_region 7 with fail
    clear a2 b2 a3 b3
    have HT1 := Lib.hid (To_run zx D Q cd q w6 hfq (I.out.dig 3 rfl).digs hQ (I.out.dig 3 rfl).cap)
    obtain ⟨a0, b0, a1, b1⟩ := I.out.num 2 rfl
    go_wp2_with fail
    refine HT1.out.mono ?_
    rintro e x1 ⟨rfl, hw⟩
    replace I := Lib.hid (I.out.below hw)
    clear hw HT1 a0 b0 a1 b1
    obtain ⟨K4, hK4⟩ : ∃ K, x1.heap.size = K := ⟨_, rfl⟩
    obtain ⟨x2, hx2⟩ : ∃ W, x1.alloc (boxIZ 25) = W := ⟨_, rfl⟩
    have I2 := I.out.pushIntZ hK4 25
    rw [hx2] at I2
    replace I := Lib.hid I2
    have I3 := Lib.hid (I2.putInt 0 rfl zx q rfl)
    have H0 := Lib.hid (I2.int 0 rfl)
    clear I2
    go_upto_region 8 with (with_reducible refine wpList_store_int rfl (.tmp 10) (.tmp 40) rfl (b := K4) (s := zx) (n := q) rfl rfl H0.out ?_)
    clear hx2 H0 I
    generalize st9 x2 K4 zx q = x3 at *
    have I := I3
    clear I3
    have HT1 := Lib.hid (To_run false D2 P cd2 p x3 hfp (I.out.dig 2 rfl).digs hP (I.out.dig 2 rfl).cap)
    obtain ⟨a0, b0, a1, b1⟩ := I.out.num 1 rfl
    go_wp2_with fail
    refine HT1.out.mono ?_
    rintro e x4 ⟨rfl, hw⟩
    replace I := Lib.hid (I.out.below hw)
    clear hw HT1 a0 b0 a1 b1
    obtain ⟨K5, hK5⟩ : ∃ K, x4.heap.size = K := ⟨_, rfl⟩
    obtain ⟨x5, hx5⟩ : ∃ W, x4.alloc (boxIZ 25) = W := ⟨_, rfl⟩
    have I2 := I.out.pushIntZ hK5 25
    rw [hx5] at I2
    have I3 := Lib.hid (I2.putInt 0 rfl false p rfl)
    have H0 := Lib.hid (I2.int 0 rfl)
    clear I2 I
    go_upto_region 9 with (with_reducible refine wpList_store_int rfl (.tmp 12) (.tmp 45) rfl (b := K5) (s := false) (n := p) rfl rfl H0.out ?_)
    clear hx5 H0
    generalize st9 x5 K5 false p = x6 at *
    have H1 := Lib.hid (I3.out.int 1 rfl)
    have H2 := Lib.hid (I3.out.int 0 rfl)
    have H3 := Lib.hid (I3.out.rat 6 rfl)
    go_wp2_with (first | (with_reducible refine wpList_load_int rfl (.tmp 10) rfl rfl H1.out.o ?_) | (with_reducible refine wpList_load_int rfl (.tmp 12) rfl rfl H2.out.o ?_) | (with_reducible refine wpList_build_rat rfl (.tmp 47) (.tmp 48) rfl rfl rfl ?_) | (with_reducible refine wpList_store_rat rfl (.tmp 4) (.tmp 49) rfl (b := S + 1 + 1) (s := zx) (n := q) (t := false) (d := p) rfl rfl H3.out ?_))
    have I4 := I3.out.putRat 6 rfl zx q false p rfl
    exact bodyPost_ret (v := ratV zx q false p) (results_rat1 rfl rfl (I4.rat 6 rfl)) rfl ⟨by rw [hzz.out], I4.bl⟩
  · obtain ⟨a0, b0, a1, b1⟩ := I.out.num 2 rfl
    obtain ⟨a2, b2, a3, b3⟩ := I.out.num 0 rfl
    obtain ⟨zy, hzy2⟩ : ∃ zy, sgn (!zx) q = zy := ⟨_, rfl⟩
    have hzz : Hid (zy = z) := by show _ = _; rw [← hzy2, ← hz'.out, ← hzx.out]; cases s <;> rw [sgn_not] <;> rfl
    replace hzy2 := Lib.hid hzy2
    have HSB := Lib.hid (Sub_run7 false none 0 0 0 zx D Q cd q zy q Q w6 (Good.zero w6) (I.out.dig 3 rfl) (by omega) (by show _ = _; rw [addN_zero, addS_zero, sgn_twice]; exact hzy2.out) (addN_zero _ _) hQ)
    go_wp2_with fail
    refine HSB.out.mono ?_
    rintro e w7 ⟨D3, cd3, rfl, hgg, hw⟩
    replace I := Lib.hid ((I.out.below hw).pushDig hgg)
    clear hw hgg HSB a0 b0 a1 b1 a2 b2 a3 b3
    obtain ⟨a0, b0, a1, b1⟩ := I.out.num 3 rfl
    have I2 := I.out.putNum 3 rfl zy D3 Q cd3 rfl
    go_upto_region 6 with fail
    clear a0 b0 a1 b1
    show Code.wp _ _ _ _ (st2 w7 K2 zy D3 Q cd3)
    generalize st2 w7 K2 zy D3 Q cd3 = w8 at *
    replace I := Lib.hid I2
    clear I2
    obtain ⟨a2, b2, a3, b3⟩ := I.out.num 1 rfl
    have HSB := Lib.hid (Sub_run7 false none 0 0 0 true D2 P cd2 p false p P w8 (Good.zero w8) (I.out.dig 2 rfl) (by omega) (by show _ = _; rw [addN_zero, addS_zero, sgn_twice]; rfl) (addN_zero _ _) hP)
    go_wp2_with fail
    refine HSB.out.mono ?_
    rintro e w9 ⟨D4, cd4, rfl, hgg, hw⟩
    replace I := Lib.hid ((I.out.below hw).pushDig hgg)
    clear hw hgg HSB a2 b2 a3 b3
    obtain ⟨a2, b2, a3, b3⟩ := I.out.num 2 rfl
    have I2 := I.out.putNum 2 rfl false D4 P cd4 rfl
    go_upto_region 7 with fail
    clear a2 b2 a3 b3
    show Code.wp _ _ _ _ (st2 w9 K3 false D4 P cd4)
    generalize st2 w9 K3 false D4 P cd4 = wa at *
    have I3 := (I2.sub (l' := [.dig false D4 P cd4 p, .dig zy D3 Q cd3 q, .num K3 false D4 P cd4, .num K2 zy D3 Q cd3, .rat (S + 1 + 1) false 0 false 0]) (.cons_cons _ (.cons_cons _ (.cons_cons _ (.cons _ (.cons_cons _ (.cons _ (.cons_cons _ .slnil)))))))).front 1 rfl
    have I4 := ((I3.front 3 rfl).front 2 rfl).front 3 rfl
    replace I := Lib.hid I4
    clear I2 I3 I4
    have HT1 := Lib.hid (To_run zy D3 Q cd3 q wa hfq (I.out.dig 3 rfl).digs hQ (I.out.dig 3 rfl).cap)
    obtain ⟨a0, b0, a1, b1⟩ := I.out.num 2 rfl
    go_wp2_with fail
    refine HT1.out.mono ?_
    rintro e x1 ⟨rfl, hw⟩
    replace I := Lib.hid (I.out.below hw)
    clear hw HT1 a0 b0 a1 b1
    obtain ⟨K4, hK4⟩ : ∃ K, x1.heap.size = K := ⟨_, rfl⟩
    obtain ⟨x2, hx2⟩ : ∃ W, x1.alloc (boxIZ 25) = W := ⟨_, rfl⟩
    have I2 := I.out.pushIntZ hK4 25
    rw [hx2] at I2
    replace I := Lib.hid I2
    have I3 := Lib.hid (I2.putInt 0 rfl zy q rfl)
    have H0 := Lib.hid (I2.int 0 rfl)
    clear I2
    go_upto_region 8 with (with_reducible refine wpList_store_int rfl (.tmp 10) (.tmp 40) rfl (b := K4) (s := zy) (n := q) rfl rfl H0.out ?_)
    clear hx2 H0 I
    generalize st9 x2 K4 zy q = x3 at *
    have I := I3
    clear I3
    have HT1 := Lib.hid (To_run false D4 P cd4 p x3 hfp (I.out.dig 2 rfl).digs hP (I.out.dig 2 rfl).cap)
    obtain ⟨a0, b0, a1, b1⟩ := I.out.num 1 rfl
    go_wp2_with fail
    refine HT1.out.mono ?_
    rintro e x4 ⟨rfl, hw⟩
    replace I := Lib.hid (I.out.below hw)
    clear hw HT1 a0 b0 a1 b1
    obtain ⟨K5, hK5⟩ : ∃ K, x4.heap.size = K := ⟨_, rfl⟩
    obtain ⟨x5, hx5⟩ : ∃ W, x4.alloc (boxIZ 25) = W := ⟨_, rfl⟩
    have I2 := I.out.pushIntZ hK5 25
    rw [hx5] at I2
    have I3 := Lib.hid (I2.putInt 0 rfl false p rfl)
    have H0 := Lib.hid (I2.int 0 rfl)
    clear I2 I
    go_upto_region 9 with (with_reducible refine wpList_store_int rfl (.tmp 12) (.tmp 45) rfl (b := K5) (s := false) (n := p) rfl rfl H0.out ?_)
    clear hx5 H0
    generalize st9 x5 K5 false p = x6 at *
    have H1 := Lib.hid (I3.out.int 1 rfl)
    have H2 := Lib.hid (I3.out.int 0 rfl)
    have H3 := Lib.hid (I3.out.rat 6 rfl)
    go_wp2_with (first | (with_reducible refine wpList_load_int rfl (.tmp 10) rfl rfl H1.out.o ?_) | (with_reducible refine wpList_load_int rfl (.tmp 12) rfl rfl H2.out.o ?_) | (with_reducible refine wpList_build_rat rfl (.tmp 47) (.tmp 48) rfl rfl rfl ?_) | (with_reducible refine wpList_store_rat rfl (.tmp 4) (.tmp 49) rfl (b := S + 1 + 1) (s := zy) (n := q) (t := false) (d := p) rfl rfl H3.out ?_))
    have I4 := I3.out.putRat 6 rfl zy q false p rfl
    exact bodyPost_ret (v := ratV zy q false p) (results_rat1 rfl rfl (I4.rat 6 rfl)) rfl ⟨by rw [hzz.out], I4.bl⟩
end Go.Proofs.YtgoemhcngmpfbaaGreatDoor

/-
  What the document's calls on two ratios answer; small contracts for them.
-/
namespace Go.Proofs.YtgoemhcngmpfbaaGreatDoor
open Go.RowKit Go.Sort
set_option linter.unusedSimpArgs false

/-- The document's answer: what is wrong, in its order, else the ratio in lowest terms. -/
structure DoIs (ka kb : Nat) (zr : Bool) (r : Nat) (zd : Bool) (dd : Nat) (zero fit : Prop) (Z : Bool) (N D K : Nat) : Prop where
  b1 : ka ≠ 0 → Z = false ∧ N = 0 ∧ D = 0 ∧ K = 8
  b2 : kb ≠ 0 → Z = false ∧ N = 0 ∧ D = 0 ∧ K = 8
  b3 : ka = 0 → kb = 0 → zero → Z = false ∧ N = 0 ∧ D = 0 ∧ K = 10
  b4 : ka = 0 → kb = 0 → ¬ zero → ¬ fit → Z = false ∧ N = 0 ∧ D = 0 ∧ K = 9
  ok : ka = 0 → kb = 0 → ¬ zero → fit → mkS zr r zd dd = Z ∧ mkN r dd = N ∧ mkD r dd = D ∧ K = 0 ∧ dd ≠ 0
theorem build_zero {a : Act} {w : World} {op : Oper} (ho : op.op = .build 27 #[]) : (execOp a.eval op).run Tryz.prog w = .ok (.value (ratV false 0 false 0)) w := by
  rw [ratV_zero]
  unfold execOp
  simp only [ho]
  go_simp
theorem wpList_build_zero {ops : Array Oper} {rest : List Oper} {op : Oper} {a : Act} {w : World} {Q : Exit → Act → World → Prop} (hgd : op.guard = none) (ho : op.op = .build 27 #[])
    (hK : wpList Tryz.prog ops Q rest (a.put op.dst (ratV false 0 false 0)) w) : wpList Tryz.prog ops Q (op :: rest) a w := by
  refine wpList_plain hgd fun K hK' => ?_
  unfold Oper.wp
  rw [build_zero ho]
  exact hK' _ _ hK
theorem Mul_out {z : Bool} {L n : Nat} {z' : Bool} {L' m : Nat} {zz : Bool} {r R : Nat} (hs : L + L' ≤ 10000) (hz : Hid (sgn (z != z') r = zz)) (hr : Hid (n * m = r)) (hR : Hid (nl r = R)) (W : World) (A : Option Addr) (c : Nat) (B : Option Addr) (e : Nat) (ha : Good W z A L c n) (hb : Good W z' B L' e m) :
    Calls Tryz.prog 85 #[.agg #[.bool z, .slice A L c], .agg #[.bool z', .slice B L' e]] W (NumOut zz R r W) :=
  (Mul_run7 z A L c n z' B L' e m zz r R W ha hb hs hz hr hR).mono fun _ _ ⟨C, cc, h1, h2, h3⟩ => ⟨(C, cc), h1, h2, h3⟩
theorem Add_out {z : Bool} {L n : Nat} {z' : Bool} {L' m : Nat} {zz : Bool} {r R : Nat} (hs : L + L' ≤ 10000) (hz : Hid (sgn (addS z n z' m) (addN z n z' m) = zz)) (hr : Hid (addN z n z' m = r)) (hR : Hid (nl r = R)) (W : World) (A : Option Addr) (c : Nat) (B : Option Addr) (e : Nat) (ha : Good W z A L c n) (hb : Good W z' B L' e m) :
    Calls Tryz.prog 104 #[.agg #[.bool z, .slice A L c], .agg #[.bool z', .slice B L' e]] W (NumOut zz R r W) :=
  (Add_run7 z A L c n z' B L' e m zz r R W ha hb hs hz hr hR).mono fun _ _ ⟨C, cc, h1, h2, h3⟩ => ⟨(C, cc), h1, h2, h3⟩
theorem Sub_out {z : Bool} {L n : Nat} {z' : Bool} {L' m : Nat} {zz : Bool} {r R : Nat} (hs : L + L' ≤ 10000) (hz : Hid (sgn (addS z n (sgn (!z') m) m) (addN z n (sgn (!z') m) m) = zz)) (hr : Hid (addN z n (sgn (!z') m) m = r)) (hR : Hid (nl r = R)) (W : World) (A : Option Addr) (c : Nat) (B : Option Addr) (e : Nat) (ha : Good W z A L c n) (hb : Good W z' B L' e m) :
    Calls Tryz.prog 81 #[.agg #[.bool z, .slice A L c], .agg #[.bool z', .slice B L' e]] W (NumOut zz R r W) :=
  (Sub_run7 z A L c n z' B L' e m zz r R W ha hb hs hz hr hR).mono fun _ _ ⟨C, cc, h1, h2, h3⟩ => ⟨(C, cc), h1, h2, h3⟩
theorem over_no {s : Bool} {A : Option Addr} {m c n : Nat} (hm : nl n = m) (h : Fits n) (w : World) : Calls Tryz.prog 142 #[.agg #[.bool s, .slice A m c]] w fun e w' => e = .returned (.bool false) ∧ Below w.heap.size w w' :=
  over_run s A m c false w (by show _ = _; rw [← hm]; exact decide_eq_false fun h1 => (over_fits n).1 h1 h)
theorem over_yes {s : Bool} {A : Option Addr} {m c n : Nat} (hm : nl n = m) (h : ¬ Fits n) (w : World) : Calls Tryz.prog 142 #[.agg #[.bool s, .slice A m c]] w fun e w' => e = .returned (.bool true) ∧ Below w.heap.size w w' :=
  over_run s A m c true w (by show _ = _; rw [← hm]; exact decide_eq_true ((over_fits n).2 h))
theorem nl_fits {n m : Nat} (hm : nl n = m) (h : Fits n) : m ≤ 32 := by rw [← hm]; exact nl_le ((fits_dg n).1 h)
theorem nl_mul64 {n d r R : Nat} (hr : n * d = r) (hR : nl r = R) (hn : Fits n) (hd : Fits d) : R ≤ 64 := by
  rw [← hR, ← hr]
  have := nl_mul_le n d
  have := nl_le ((fits_dg n).1 hn)
  have := nl_le ((fits_dg d).1 hd)
  omega
theorem enters_lowest : EntersP Tryz.prog 42 := entersP_of Tryz.func42 (by kernel_rfl) rfl
end Go.Proofs.YtgoemhcngmpfbaaGreatDoor

/-
  The document's Cmp of two ratios.
-/
namespace Go.Proofs.YtgoemhcngmpfbaaGreatDoor
open Go.RowKit Go.Sort
set_option linter.unusedSimpArgs false

structure CmpIs (ka kb : Nat) (zp : Bool) (p : Nat) (zq : Bool) (q : Nat) (c : Int) (K : Nat) : Prop where
  b1 : ka ≠ 0 → c = 0 ∧ K = 8
  b2 : kb ≠ 0 → c = 0 ∧ K = 8
  b4 : ka = 0 → kb = 0 → ¬ (Fits p ∧ Fits q) → c = 0 ∧ K = 9
  ok : ka = 0 → kb = 0 → Fits p → Fits q → cmpS zp p zq q = c ∧ K = 0
end Go.Proofs.YtgoemhcngmpfbaaGreatDoor

/-
  The program's calls on two ratios answer what the document says.
-/
namespace Go.Proofs.YtgoemhcngmpfbaaGreatDoor
open Go.RowKit Go.Sort
set_option linter.unusedSimpArgs false

theorem kept_09 {a b : Nat} (ha : a = 0 ∨ a = 9) (hb : b = 0 ∨ b = 9) : kept a b = 0 ∨ kept a b = 9 := by
  rcases ha with rfl | rfl <;> rcases hb with rfl | rfl <;> simp [kept]
theorem resK_09 (n : Nat) : resK n = 0 ∨ resK n = 9 := by unfold resK; split <;> simp
theorem kept_of {k j : Nat} (h : k ≠ 0) : kept k j = k := if_neg h
theorem kept_nil (j : Nat) : kept 0 j = j := if_pos rfl
theorem op_err {k j j' e : Nat} (h : kept (kept k j) j' = e) (he : e ≠ 0) (z : Bool) (r : Nat) (z' : Bool) (r' : Nat) : oS k z r j z' r' j' = false ∧ oN k r j r' j' = 0 ∧ oD k r j r' j' = 0 ∧ oK k j r' j' = e := by
  subst h
  exact ⟨if_neg he, if_neg he, if_neg he, if_neg he⟩
theorem op_fit {r r' : Nat} (z z' : Bool) (h : Fits r) (h' : Fits r') (h0 : r' ≠ 0) : mkS (sgn z r) r (sgn z' r') r' = oS 0 (resS z r) (resN r) (resK r) (resS z' r') (resN r') (resK r') ∧ mkN r r' = oN 0 (resN r) (resK r) (resN r') (resK r') ∧ mkD r r' = oD 0 (resN r) (resK r) (resN r') (resK r') ∧ oK 0 (resK r) (resN r') (resK r') = 0 := by
  have e1 := resK_zero.2 h
  have e2 := resK_zero.2 h'
  rw [e1, e2, resN_of h, resN_of h', resS_of z h, resS_of z' h']
  exact ⟨rfl, rfl, rfl, if_neg h0⟩
theorem vld_signs {s : Bool} {n : Nat} {t : Bool} {d : Nat} (h : chk s n t d = 0) : sgn s n = s ∧ t = false ∧ sgn t d = false ∧ 0 < d := by
  obtain ⟨h1, h2, h3, h4⟩ := vld_spec (chk_zero.1 h)
  subst h2
  exact ⟨h1, rfl, rfl, h3⟩
theorem chk_eq8 {s : Bool} {n : Nat} {t : Bool} {d : Nat} (h : chk s n t d ≠ 0) : chk s n t d = 8 := by
  rcases chk_le s n t d with h1 | h1
  · exact absurd h1 h
  · exact h1
section
variable (s : Bool) (n : Nat) (t : Bool) (d : Nat) (s' : Bool) (n' : Nat) (t' : Bool) (d' : Nat)
theorem k0_8a (h : chk s n t d ≠ 0) : k0 s n t d s' n' t' d' = 8 := by unfold k0; rw [kept_of h, chk_eq8 h]
theorem k0_8b (h : chk s' n' t' d' ≠ 0) : k0 s n t d s' n' t' d' = 8 := by
  unfold k0
  rcases chk_le s n t d with h1 | h1
  · rw [h1, kept_nil, chk_eq8 h]
  · rw [h1, kept_of (by decide)]
theorem k0_0 (h : chk s n t d = 0) (h' : chk s' n' t' d' = 0) : k0 s n t d s' n' t' d' = 0 := by unfold k0; rw [h, h']; rfl
end
theorem is_pl (s : Bool) (n : Nat) (t : Bool) (d : Nat) (s' : Bool) (n' : Nat) (t' : Bool) (d' : Nat) : DoIs (chk s n t d) (chk s' n' t' d') (sgn (addS (sgn (sgn s n != sgn t' d') (n * d')) (n * d') (sgn (sgn s' n' != sgn t d) (n' * d)) (n' * d)) (addN (sgn (sgn s n != sgn t' d') (n * d')) (n * d') (sgn (sgn s' n' != sgn t d) (n' * d)) (n' * d))) (addN (sgn (sgn s n != sgn t' d') (n * d')) (n * d') (sgn (sgn s' n' != sgn t d) (n' * d)) (n' * d)) (sgn (sgn t d != sgn t' d') (d * d')) (d * d') (False) (Fits (n * d') ∧ Fits (n' * d) ∧ Fits (addN (sgn (sgn s n != sgn t' d') (n * d')) (n * d') (sgn (sgn s' n' != sgn t d) (n' * d)) (n' * d)) ∧ Fits (d * d')) (plS s n t d s' n' t' d') (plN s n t d s' n' t' d') (plD s n t d s' n' t' d') (plK s n t d s' n' t' d') := by
  unfold plS plN plD plK adK
  have hK : kept (chk s n t d) (chk s' n' t' d') = k0 s n t d s' n' t' d' := rfl
  rw [hK]
  refine ⟨fun h => ?_, fun h => ?_, fun _ _ h => h.elim, fun h h' _ hf => ?_, fun h h' _ hf => ?_⟩
  · rw [k0_8a s n t d s' n' t' d' h]
    exact op_err (e := 8) (by unfold crK crK1; simp [kept]) (by decide) _ _ _ _
  · rw [k0_8b s n t d s' n' t' d' h]
    exact op_err (e := 8) (by unfold crK crK1; simp [kept]) (by decide) _ _ _ _
  · obtain ⟨e1, e2, e3, e4⟩ := vld_signs h
    obtain ⟨e5, e6, e7, e8⟩ := vld_signs h'
    rw [k0_0 s n t d s' n' t' d' h h']
    rw [e1, e3, e5, e7] at hf
    subst e2 e6
    refine op_err (e := 9) ?_ (by decide) _ _ _ _
    have h9 := kept_09 (kept_09 (kept_09 (kept_09 (.inl rfl) (resK_09 (n * d'))) (resK_09 (n' * d))) (resK_09 (addR s n false d s' n' false d' 0))) (resK_09 (d * d'))
    rcases h9 with h9 | h9
    · exfalso
      obtain ⟨h1, h2⟩ := kept_zero.1 h9
      obtain ⟨h1, h3⟩ := kept_zero.1 h1
      obtain ⟨h1, h4⟩ := kept_zero.1 h1
      obtain ⟨h1, h5⟩ := kept_zero.1 h1
      have f5 := resK_zero.1 h5
      have f4 := resK_zero.1 h4
      refine hf ⟨f5, f4, ?_, resK_zero.1 h2⟩
      have f3 := resK_zero.1 h3
      unfold addR crLS crLN crRS crRN crK1 doS doN at f3
      rw [h5, resN_of f5, resN_of f4, resS_of _ f5, resS_of _ f4] at f3
      exact f3
    · exact h9
  · obtain ⟨e1, e2, e3, e4⟩ := vld_signs h
    obtain ⟨e5, e6, e7, e8⟩ := vld_signs h'
    rw [k0_0 s n t d s' n' t' d' h h']
    rw [e1, e3, e5, e7] at hf ⊢
    subst e2 e6
    obtain ⟨f5, f4, f3, f2⟩ := hf
    have h5 := resK_zero.2 f5
    have h4 := resK_zero.2 f4
    have hd0 : d * d' ≠ 0 := Nat.ne_of_gt (Nat.mul_pos e4 e8)
    have ek : crK 0 n d n' d' = 0 := by unfold crK crK1; rw [h5, h4]; rfl
    have ea : addR s n false d s' n' false d' 0 = addN (sgn (s != false) (n * d')) (n * d') (sgn (s' != false) (n' * d)) (n' * d) := by
      unfold addR crLS crLN crRS crRN crK1 doS doN
      rw [h5, resN_of f5, resN_of f4, resS_of _ f5, resS_of _ f4]
      rfl
    have ez : addZ s n false d s' n' false d' 0 = addS (sgn (s != false) (n * d')) (n * d') (sgn (s' != false) (n' * d)) (n' * d) := by
      unfold addZ crLS crLN crRS crRN crK1 doS doN
      rw [h5, resN_of f5, resN_of f4, resS_of _ f5, resS_of _ f4]
      rfl
    rw [ek, ea, ez]
    obtain ⟨q1, q2, q3, q4⟩ := op_fit _ (false != false) f3 f2 hd0
    exact ⟨q1, q2, q3, q4, hd0⟩
theorem is_mi (s : Bool) (n : Nat) (t : Bool) (d : Nat) (s' : Bool) (n' : Nat) (t' : Bool) (d' : Nat) : DoIs (chk s n t d) (chk s' n' t' d') (sgn (addS (sgn (sgn s n != sgn t' d') (n * d')) (n * d') (sgn (!sgn (sgn s' n' != sgn t d) (n' * d)) (n' * d)) (n' * d)) (addN (sgn (sgn s n != sgn t' d') (n * d')) (n * d') (sgn (!sgn (sgn s' n' != sgn t d) (n' * d)) (n' * d)) (n' * d))) (addN (sgn (sgn s n != sgn t' d') (n * d')) (n * d') (sgn (!sgn (sgn s' n' != sgn t d) (n' * d)) (n' * d)) (n' * d)) (sgn (sgn t d != sgn t' d') (d * d')) (d * d') (False) (Fits (n * d') ∧ Fits (n' * d) ∧ Fits (addN (sgn (sgn s n != sgn t' d') (n * d')) (n * d') (sgn (!sgn (sgn s' n' != sgn t d) (n' * d)) (n' * d)) (n' * d)) ∧ Fits (d * d')) (miS s n t d s' n' t' d') (miN s n t d s' n' t' d') (miD s n t d s' n' t' d') (miK s n t d s' n' t' d') := by
  unfold miS miN miD miK adK
  have hK : kept (chk s n t d) (chk s' n' t' d') = k0 s n t d s' n' t' d' := rfl
  rw [hK]
  refine ⟨fun h => ?_, fun h => ?_, fun _ _ h => h.elim, fun h h' _ hf => ?_, fun h h' _ hf => ?_⟩
  · rw [k0_8a s n t d s' n' t' d' h]
    exact op_err (e := 8) (by unfold crK crK1; simp [kept]) (by decide) _ _ _ _
  · rw [k0_8b s n t d s' n' t' d' h]
    exact op_err (e := 8) (by unfold crK crK1; simp [kept]) (by decide) _ _ _ _
  · obtain ⟨e1, e2, e3, e4⟩ := vld_signs h
    obtain ⟨e5, e6, e7, e8⟩ := vld_signs h'
    rw [k0_0 s n t d s' n' t' d' h h']
    rw [e1, e3, e5, e7] at hf
    subst e2 e6
    refine op_err (e := 9) ?_ (by decide) _ _ _ _
    have h9 := kept_09 (kept_09 (kept_09 (kept_09 (.inl rfl) (resK_09 (n * d'))) (resK_09 (n' * d))) (resK_09 (subR s n false d s' n' false d' 0))) (resK_09 (d * d'))
    rcases h9 with h9 | h9
    · exfalso
      obtain ⟨h1, h2⟩ := kept_zero.1 h9
      obtain ⟨h1, h3⟩ := kept_zero.1 h1
      obtain ⟨h1, h4⟩ := kept_zero.1 h1
      obtain ⟨h1, h5⟩ := kept_zero.1 h1
      have f5 := resK_zero.1 h5
      have f4 := resK_zero.1 h4
      refine hf ⟨f5, f4, ?_, resK_zero.1 h2⟩
      have f3 := resK_zero.1 h3
      unfold subR crLS crLN crRS crRN crK1 doS doN at f3
      rw [h5, resN_of f5, resN_of f4, resS_of _ f5, resS_of _ f4] at f3
      exact f3
    · exact h9
  · obtain ⟨e1, e2, e3, e4⟩ := vld_signs h
    obtain ⟨e5, e6, e7, e8⟩ := vld_signs h'
    rw [k0_0 s n t d s' n' t' d' h h']
    rw [e1, e3, e5, e7] at hf ⊢
    subst e2 e6
    obtain ⟨f5, f4, f3, f2⟩ := hf
    have h5 := resK_zero.2 f5
    have h4 := resK_zero.2 f4
    have hd0 : d * d' ≠ 0 := Nat.ne_of_gt (Nat.mul_pos e4 e8)
    have ek : crK 0 n d n' d' = 0 := by unfold crK crK1; rw [h5, h4]; rfl
    have ea : subR s n false d s' n' false d' 0 = addN (sgn (s != false) (n * d')) (n * d') (sgn (!sgn (s' != false) (n' * d)) (n' * d)) (n' * d) := by
      unfold subR crLS crLN crRS crRN crK1 doS doN
      rw [h5, resN_of f5, resN_of f4, resS_of _ f5, resS_of _ f4]
      rfl
    have ez : subZ s n false d s' n' false d' 0 = addS (sgn (s != false) (n * d')) (n * d') (sgn (!sgn (s' != false) (n' * d)) (n' * d)) (n' * d) := by
      unfold subZ crLS crLN crRS crRN crK1 doS doN
      rw [h5, resN_of f5, resN_of f4, resS_of _ f5, resS_of _ f4]
      rfl
    rw [ek, ea, ez]
    obtain ⟨q1, q2, q3, q4⟩ := op_fit _ (false != false) f3 f2 hd0
    exact ⟨q1, q2, q3, q4, hd0⟩
theorem is_mu (s : Bool) (n : Nat) (t : Bool) (d : Nat) (s' : Bool) (n' : Nat) (t' : Bool) (d' : Nat) : DoIs (chk s n t d) (chk s' n' t' d') (sgn (sgn s n != sgn s' n') (n * n')) (n * n') (sgn (sgn t d != sgn t' d') (d * d')) (d * d') (False) (Fits (n * n') ∧ Fits (d * d')) (muS s n t d s' n' t' d') (muN s n t d s' n' t' d') (muD s n t d s' n' t' d') (muK s n t d s' n' t' d') := by
  unfold muS muN muD muK
  refine ⟨fun h => ?_, fun h => ?_, fun h h' hz => ?_, fun h h' hz hf => ?_, fun h h' hz hf => ?_⟩
  · rw [k0_8a s n t d s' n' t' d' h]
    exact op_err (e := 8) (by simp [kept]) (by decide) _ _ _ _
  · rw [k0_8b s n t d s' n' t' d' h]
    exact op_err (e := 8) (by simp [kept]) (by decide) _ _ _ _
  · exact hz.elim
  · obtain ⟨e1, e2, e3, e4⟩ := vld_signs h
    obtain ⟨e5, e6, e7, e8⟩ := vld_signs h'
    rw [k0_0 s n t d s' n' t' d' h h']
    refine op_err (e := 9) ?_ (by decide) _ _ _ _
    have h9 := kept_09 (kept_09 (a := 0) (.inl rfl) (resK_09 (n * n'))) (resK_09 (d * d'))
    rcases h9 with h9 | h9
    · exfalso
      obtain ⟨h1, h2⟩ := kept_zero.1 h9
      obtain ⟨h1, h3⟩ := kept_zero.1 h1
      exact hf ⟨resK_zero.1 h3, resK_zero.1 h2⟩
    · exact h9
  · obtain ⟨e1, e2, e3, e4⟩ := vld_signs h
    obtain ⟨e5, e6, e7, e8⟩ := vld_signs h'
    rw [k0_0 s n t d s' n' t' d' h h']
    rw [e1, e3, e5, e7]
    subst e2 e6
    obtain ⟨f3, f2⟩ := hf
    have hd0 : d * d' ≠ 0 := Nat.ne_of_gt (Nat.mul_pos e4 e8)
    obtain ⟨q1, q2, q3, q4⟩ := op_fit (s != s') (false != false) f3 f2 hd0
    exact ⟨q1, q2, q3, q4, hd0⟩
theorem is_qu (s : Bool) (n : Nat) (t : Bool) (d : Nat) (s' : Bool) (n' : Nat) (t' : Bool) (d' : Nat) : DoIs (chk s n t d) (chk s' n' t' d') (sgn (sgn s n != sgn t' d') (n * d')) (n * d') (sgn (sgn t d != sgn s' n') (d * n')) (d * n') (n' = 0) (Fits (n * d') ∧ Fits (d * n')) (quS s n t d s' n' t' d') (quN s n t d s' n' t' d') (quD s n t d s' n' t' d') (quK s n t d s' n' t' d') := by
  unfold quS quN quD quK
  refine ⟨fun h => ?_, fun h => ?_, fun h h' hz => ?_, fun h h' hz hf => ?_, fun h h' hz hf => ?_⟩
  · rw [k0_8a s n t d s' n' t' d' h]
    exact op_err (e := 8) (by simp [kept]) (by decide) _ _ _ _
  · rw [k0_8b s n t d s' n' t' d' h]
    exact op_err (e := 8) (by simp [kept]) (by decide) _ _ _ _
  · rw [k0_0 s n t d s' n' t' d' h h', if_pos hz]
    exact op_err (e := 10) (by simp [kept]) (by decide) _ _ _ _
  · obtain ⟨e1, e2, e3, e4⟩ := vld_signs h
    obtain ⟨e5, e6, e7, e8⟩ := vld_signs h'
    rw [k0_0 s n t d s' n' t' d' h h', if_neg hz]
    refine op_err (e := 9) ?_ (by decide) _ _ _ _
    have h9 := kept_09 (kept_09 (a := 0) (.inl rfl) (resK_09 (n * d'))) (resK_09 (d * n'))
    rcases h9 with h9 | h9
    · exfalso
      obtain ⟨h1, h2⟩ := kept_zero.1 h9
      obtain ⟨h1, h3⟩ := kept_zero.1 h1
      exact hf ⟨resK_zero.1 h3, resK_zero.1 h2⟩
    · exact h9
  · obtain ⟨e1, e2, e3, e4⟩ := vld_signs h
    obtain ⟨e5, e6, e7, e8⟩ := vld_signs h'
    rw [k0_0 s n t d s' n' t' d' h h', if_neg hz]
    rw [e1, e3, e5, e7]
    subst e2 e6
    obtain ⟨f3, f2⟩ := hf
    have hd0 : d * n' ≠ 0 := Nat.ne_of_gt (Nat.mul_pos e4 (Nat.pos_of_ne_zero hz))
    obtain ⟨q1, q2, q3, q4⟩ := op_fit (s != false) (false != s') f3 f2 hd0
    exact ⟨q1, q2, q3, q4, hd0⟩
theorem is_cmp (s : Bool) (n : Nat) (t : Bool) (d : Nat) (s' : Bool) (n' : Nat) (t' : Bool) (d' : Nat) : CmpIs (chk s n t d) (chk s' n' t' d') (sgn (sgn s n != sgn t' d') (n * d')) (n * d') (sgn (sgn s' n' != sgn t d) (n' * d)) (n' * d) (rcmpZ s n t d s' n' t' d') (rcmpK s n t d s' n' t' d') := by
  have hK : rcmpK s n t d s' n' t' d' = crK (k0 s n t d s' n' t' d') n d n' d' := rfl
  have hne : ∀ e, rcmpK s n t d s' n' t' d' = e → e ≠ 0 → rcmpZ s n t d s' n' t' d' = 0 ∧ rcmpK s n t d s' n' t' d' = e := fun e h he => ⟨rc_none (by rw [h]; exact he), h⟩
  refine ⟨fun h => hne 8 ?_ (by decide), fun h => hne 8 ?_ (by decide), fun h h' hf => hne 9 ?_ (by decide), fun h h' f5 f4 => ?_⟩
  · rw [hK, k0_8a s n t d s' n' t' d' h]
    unfold crK crK1
    simp [kept]
  · rw [hK, k0_8b s n t d s' n' t' d' h]
    unfold crK crK1
    simp [kept]
  · rw [hK, k0_0 s n t d s' n' t' d' h h']
    have h9 := kept_09 (kept_09 (a := 0) (.inl rfl) (resK_09 (n * d'))) (resK_09 (n' * d))
    rcases h9 with h9 | h9
    · exfalso
      obtain ⟨h1, h2⟩ := kept_zero.1 h9
      obtain ⟨h1, h3⟩ := kept_zero.1 h1
      exact hf ⟨resK_zero.1 h3, resK_zero.1 h2⟩
    · exact h9
  · obtain ⟨e1, e2, e3, e4⟩ := vld_signs h
    obtain ⟨e5, e6, e7, e8⟩ := vld_signs h'
    have hz : rcmpK s n t d s' n' t' d' = 0 := rcmpK_zero.2 ⟨chk_zero.1 h, chk_zero.1 h', f5, f4⟩
    refine ⟨?_, hz⟩
    rw [rc_val hz, cmpS_iv, e1, e3, e5, e7, iv_sgn, iv_sgn, iv_ff, iv_ff, iv_nat, iv_nat]
end Go.Proofs.YtgoemhcngmpfbaaGreatDoor
