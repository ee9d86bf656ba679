/-
  The document's ratio in lowest terms.
-/
import Derived.Test.YtgoemhcngmpfbaaGreatDoorMx23
import Derived.Test.YtgoemhcngmpfbaaGreatDoorMx24
import Derived.Test.YtgoemhcngmpfbaaGreatDoorMx11
namespace Go.Proofs.YtgoemhcngmpfbaaGreatDoor
open Go.RowKit Go.Sort
set_option linter.unusedSimpArgs false
theorem addN_zero (t : Bool) (q : Nat) : addN false 0 (sgn t q) q = q := by
 unfold addN sgn
 by_cases h : q = 0
 ·subst h; simp
 ·have : 0 < q := by omega
  cases t <;> simp [h, this]
theorem addS_zero (t : Bool) (q : Nat) : addS false 0 (sgn t q) q = sgn t q := by
 unfold addS sgn
 by_cases h : q = 0
 ·subst h; simp
 ·have : 0 < q := by omega
  cases t <;> simp [h, this]
theorem sgn_not (s : Bool) (q : Nat) : sgn (!sgn s q) q = sgn (!s) q := by
 unfold sgn
 by_cases h : q = 0 <;> simp [h]
theorem Good.zero (w : World) : Good w false none 0 0 0 := ⟨DgAt.nil, nl_zero, ⟨Nat.le_refl _, by omega⟩, rfl⟩
theorem fits_quot {n : Nat} (g : Nat) (h : Fits n) : Fits (n / g) := Nat.lt_of_le_of_lt (Nat.div_le_self _ _) h
set_option maxRecDepth 100000 in
set_option maxHeartbeats 8000000 in
theorem lowest_run (s : Bool) (A : Option Addr) (L ca n : Nat) (t : Bool) (B : Option Addr) (M cb d : Nat) (z : Bool) (q p : Nat) (w : World) (ha : Hid (Good w s A L ca n)) (hb : Hid (Good w t B M cb d)) (hn : Hid (Fits n)) (hd : Hid (Fits d)) (hd0 : Hid (d ≠ 0))
  (hz : Hid (mkS s n t d = z)) (hq : Hid (mkN n d = q)) (hp : Hid (mkD n d = p)) :
  Calls Tryz.prog 42 #[.agg #[.bool s, .slice A L ca], .agg #[.bool t, .slice B M cb]] w fun e w' => e = .returned (ratV z q false p) ∧ Below w.heap.size w w' := by
 obtain ⟨S, hS⟩ : ∃ S, w.heap.size = S := ⟨_, rfl⟩
 obtain ⟨W0, hW0⟩ : ∃ W, ((w.alloc (boxN s A L ca)).alloc (boxN t B M cb)).alloc (boxRZ 27) = W := ⟨_, rfl⟩
 have I := (((((Bs.start w hS).pushDig ha.out).pushDig hb.out).pushNum hS s A L ca).pushNum (k := S + 1) (by simp [hS]) t B M cb).pushRatZ (k := S + 1 + 1) (by simp [hS]) 27
 rw [hW0] at I
 replace I := Lib.hid I
 have hL32 : L ≤ 32 := by rw [← ha.out.len]; exact nl_le ((fits_dg n).1 hn.out)
 have hM32 : M ≤ 32 := by rw [← hb.out.len]; exact nl_le ((fits_dg d).1 hd.out)
 obtain ⟨g, hg⟩ : ∃ g, Nat.gcd n d = g := ⟨_, rfl⟩
 obtain ⟨G, hG⟩ : ∃ G, nl g = G := ⟨_, rfl⟩
 have hg0 : 0 < g := by rw [← hg]; exact Nat.gcd_pos_of_pos_right _ (Nat.pos_of_ne_zero hd0.out)
 have hgd : g ≤ d := by rw [← hg]; exact Nat.gcd_le_right _ (Nat.pos_of_ne_zero hd0.out)
 have hG32 : G ≤ 32 := by rw [← hG]; exact nl_le ((fits_dg g).1 (Nat.lt_of_le_of_lt hgd hd.out))
 have hq' : Hid (n / g = q) := by show _ = _; rw [← hq.out, ← hg]; exact (if_neg hd0.out).symm
 have hp' : Hid (d / g = p) := by show _ = _; rw [← hp.out, ← hg]; exact (if_neg hd0.out).symm
 have hz' : Hid (sgn (s != t) q = z) := by show _ = _; rw [← hz.out, ← hq'.out, ← hg]; exact (if_neg hd0.out).symm
 have hp0 : p ≠ 0 := by
  rw [← hp'.out]
  exact Nat.ne_of_gt (Nat.div_pos hgd hg0)
 have hfq : Hid (Fits q) := by show Fits _; rw [← hq'.out]; exact fits_quot g hn.out
 have hfp : Hid (Fits p) := by show Fits _; rw [← hp'.out]; exact fits_quot g hd.out
 obtain ⟨Q, hQ⟩ : ∃ Q, nl q = Q := ⟨_, rfl⟩
 obtain ⟨P, hP⟩ : ∃ P, nl p = P := ⟨_, rfl⟩
 have hQ32 : Q ≤ 32 := by rw [← hQ]; exact nl_le ((fits_dg q).1 hfq.out)
 have hP32 : P ≤ 32 := by rw [← hP]; exact nl_le ((fits_dg p).1 hfp.out)
 obtain ⟨zx, hzx⟩ : ∃ zx, sgn (s != false) q = zx := ⟨_, rfl⟩
 have hzy : Hid (sgn (t != false) p = t) := by show _ = _; cases t <;> simp [sgn, hp0]
 replace hzx := Lib.hid hzx
 replace hQ := Lib.hid hQ
 replace hP := Lib.hid hP
 replace hG := Lib.hid hG
 replace hg := Lib.hid hg
 replace hg0 := Lib.hid hg0
 clear ha hb hn hd hd0 hz hq hp hgd
 rw [hS]
 go_enter Tryz.func42, Tryz.ntmps42
 obtain ⟨a0, b0, a1, b1⟩ := I.out.num 2 rfl
 obtain ⟨a2, b2, a3, b3⟩ := I.out.num 1 rfl
 go_wp2_with fail
 clear hW0
 have HGC := Lib.hid (Gcd_run7 s A L ca n t B M cb d g G W0 (I.out.dig 4 rfl) (I.out.dig 3 rfl) (by omega) hg hG)
 refine HGC.out.mono ?_
 rintro e w1 ⟨C, cc, rfl, hgg, hw⟩
 replace I := Lib.hid ((I.out.below hw).pushDig hgg)
 clear hw hgg HGC a0 b0 a1 b1 a2 b2 a3 b3
 obtain ⟨K1, hK1⟩ : ∃ K, w1.heap.size = K := ⟨_, rfl⟩
 obtain ⟨w2, hw2⟩ : ∃ W, w1.alloc (boxN false C G cc) = W := ⟨_, rfl⟩
 have I2 := I.out.pushNum hK1 false C G cc
 rw [hw2] at I2
 replace I := Lib.hid I2
 clear I2
 obtain ⟨a0, b0, a1, b1⟩ := I.out.num 4 rfl
 obtain ⟨a2, b2, a3, b3⟩ := I.out.num 0 rfl
 have HDV := Lib.hid (Div_run7 s A L ca n false C G cc g zx (sgn s (n % g)) q Q (n % g) _ w2 (I.out.dig 6 rfl) (I.out.dig 1 rfl) (by omega) hg0 hzx hq' hQ rfl rfl rfl)
 go_wp2_with fail
 refine HDV.out.mono ?_
 rintro e w3 ⟨D, cd, E, ce, rfl, hgg, hg2, hw⟩
 replace I := Lib.hid (((I.out.below hw).pushDig hg2).pushDig hgg)
 clear hw hgg hg2 HDV a0 b0 a1 b1 a2 b2 a3 b3
 obtain ⟨K2, hK2⟩ : ∃ K, w3.heap.size = K := ⟨_, rfl⟩
 obtain ⟨w4, hw4⟩ : ∃ W, (w3.alloc (boxN zx D Q cd)).alloc (boxN (sgn s (n % g)) E (nl (n % g)) ce) = W := ⟨_, rfl⟩
 have I2 := (I.out.pushNum hK2 zx D Q cd).pushNum (k := K2 + 1) (by simp [hK2]) (sgn s (n % g)) E (nl (n % g)) ce
 rw [hw4] at I2
 replace I := Lib.hid I2
 clear I2
 obtain ⟨a0, b0, a1, b1⟩ := I.out.num 7 rfl
 obtain ⟨a2, b2, a3, b3⟩ := I.out.num 4 rfl
 have HDV := Lib.hid (Div_run7 t B M cb d false C G cc g t (sgn t (d % g)) p P (d % g) _ w4 (I.out.dig 9 rfl) (I.out.dig 5 rfl) (by omega) hg0 hzy hp' hP rfl rfl rfl)
 go_wp2_with fail
 refine HDV.out.mono ?_
 rintro e w5 ⟨D2, cd2, E2, ce2, rfl, hgg, hg2, hw⟩
 replace I := Lib.hid (((I.out.below hw).pushDig hg2).pushDig hgg)
 clear hw hgg hg2 HDV a0 b0 a1 b1 a2 b2 a3 b3
 obtain ⟨K3, hK3⟩ : ∃ K, w5.heap.size = K := ⟨_, rfl⟩
 obtain ⟨w6, hw6⟩ : ∃ W, (w5.alloc (boxN t D2 P cd2)).alloc (boxN (sgn t (d % g)) E2 (nl (d % g)) ce2) = W := ⟨_, rfl⟩
 have I2 := (I.out.pushNum hK3 t D2 P cd2).pushNum (k := K3 + 1) (by simp [hK3]) (sgn t (d % g)) E2 (nl (d % g)) ce2
 rw [hw6] at I2
 replace I := Lib.hid I2
 clear I2
 replace I := Lib.hid (I.out.sub (l' := [.num K3 t D2 P cd2, .dig t D2 P cd2 p, .num K2 zx D Q cd, .dig zx D Q cd q, .rat (S + 1 + 1) false 0 false 0]) (.cons _ (.cons_cons _ (.cons_cons _ (.cons _ (.cons _ (.cons_cons _ (.cons_cons _ (.cons _ (.cons _ (.cons _ (.cons_cons _ (.cons _ (.cons _ (.cons _ (.cons _ .slnil))))))))))))))))
 clear hg hG hg0 hG32
 cases t
 ·have hzz : Hid (zx = z) := by show _ = _; rw [← hzx.out, ← hz'.out]
  obtain ⟨a2, b2, a3, b3⟩ := I.out.num 0 rfl
  go_upto_region 7 with fail
  clear a2 b2 a3 b3
  have HT1 := Lib.hid (To_run zx D Q cd q w6 hfq (I.out.dig 3 rfl).digs hQ (I.out.dig 3 rfl).cap)
  obtain ⟨a0, b0, a1, b1⟩ := I.out.num 2 rfl
  go_wp2_with fail
  refine HT1.out.mono ?_
  rintro e x1 ⟨rfl, hw⟩
  replace I := Lib.hid (I.out.below hw)
  clear hw HT1 a0 b0 a1 b1
  obtain ⟨K4, hK4⟩ : ∃ K, x1.heap.size = K := ⟨_, rfl⟩
  obtain ⟨x2, hx2⟩ : ∃ W, x1.alloc (boxIZ 25) = W := ⟨_, rfl⟩
  have I2 := I.out.pushIntZ hK4 25
  rw [hx2] at I2
  replace I := Lib.hid I2
  have I3 := Lib.hid (I2.putInt 0 rfl zx q rfl)
  have H0 := Lib.hid (I2.int 0 rfl)
  clear I2
  go_upto_region 8 with (with_reducible refine wpList_store_int rfl (.tmp 10) (.tmp 40) rfl (b := K4) (s := zx) (n := q) rfl rfl H0.out ?_)
  clear hx2 H0 I
  generalize st9 x2 K4 zx q = x3 at *
  have I := I3
  clear I3
  have HT1 := Lib.hid (To_run false D2 P cd2 p x3 hfp (I.out.dig 2 rfl).digs hP (I.out.dig 2 rfl).cap)
  obtain ⟨a0, b0, a1, b1⟩ := I.out.num 1 rfl
  go_wp2_with fail
  refine HT1.out.mono ?_
  rintro e x4 ⟨rfl, hw⟩
  replace I := Lib.hid (I.out.below hw)
  clear hw HT1 a0 b0 a1 b1
  obtain ⟨K5, hK5⟩ : ∃ K, x4.heap.size = K := ⟨_, rfl⟩
  obtain ⟨x5, hx5⟩ : ∃ W, x4.alloc (boxIZ 25) = W := ⟨_, rfl⟩
  have I2 := I.out.pushIntZ hK5 25
  rw [hx5] at I2
  have I3 := Lib.hid (I2.putInt 0 rfl false p rfl)
  have H0 := Lib.hid (I2.int 0 rfl)
  clear I2 I
  go_upto_region 9 with (with_reducible refine wpList_store_int rfl (.tmp 12) (.tmp 45) rfl (b := K5) (s := false) (n := p) rfl rfl H0.out ?_)
  clear hx5 H0
  generalize st9 x5 K5 false p = x6 at *
  have H1 := Lib.hid (I3.out.int 1 rfl)
  have H2 := Lib.hid (I3.out.int 0 rfl)
  have H3 := Lib.hid (I3.out.rat 6 rfl)
  go_wp2_with (first | (with_reducible refine wpList_load_int rfl (.tmp 10) rfl rfl H1.out.o ?_) | (with_reducible refine wpList_load_int rfl (.tmp 12) rfl rfl H2.out.o ?_) | (with_reducible refine wpList_build_rat rfl (.tmp 47) (.tmp 48) rfl rfl rfl ?_) | (with_reducible refine wpList_store_rat rfl (.tmp 4) (.tmp 49) rfl (b := S + 1 + 1) (s := zx) (n := q) (t := false) (d := p) rfl rfl H3.out ?_))
  have I4 := I3.out.putRat 6 rfl zx q false p rfl
  exact bodyPost_ret (v := ratV zx q false p) (results_rat1 rfl rfl (I4.rat 6 rfl)) rfl ⟨by rw [hzz.out], I4.bl⟩
 ·obtain ⟨a0, b0, a1, b1⟩ := I.out.num 2 rfl
  obtain ⟨a2, b2, a3, b3⟩ := I.out.num 0 rfl
  obtain ⟨zy, hzy2⟩ : ∃ zy, sgn (!zx) q = zy := ⟨_, rfl⟩
  have hzz : Hid (zy = z) := by show _ = _; rw [← hzy2, ← hz'.out, ← hzx.out]; cases s <;> rw [sgn_not] <;> rfl
  replace hzy2 := Lib.hid hzy2
  have HSB := Lib.hid (Sub_run7 false none 0 0 0 zx D Q cd q zy q Q w6 (Good.zero w6) (I.out.dig 3 rfl) (by omega) (by show _ = _; rw [addN_zero, addS_zero, sgn_twice]; exact hzy2.out) (addN_zero _ _) hQ)
  go_wp2_with fail
  refine HSB.out.mono ?_
  rintro e w7 ⟨D3, cd3, rfl, hgg, hw⟩
  replace I := Lib.hid ((I.out.below hw).pushDig hgg)
  clear hw hgg HSB a0 b0 a1 b1 a2 b2 a3 b3
  obtain ⟨a0, b0, a1, b1⟩ := I.out.num 3 rfl
  have I2 := I.out.putNum 3 rfl zy D3 Q cd3 rfl
  go_upto_region 6 with fail
  clear a0 b0 a1 b1
  show Code.wp _ _ _ _ (st2 w7 K2 zy D3 Q cd3)
  generalize st2 w7 K2 zy D3 Q cd3 = w8 at *
  replace I := Lib.hid I2
  clear I2
  obtain ⟨a2, b2, a3, b3⟩ := I.out.num 1 rfl
  have HSB := Lib.hid (Sub_run7 false none 0 0 0 true D2 P cd2 p false p P w8 (Good.zero w8) (I.out.dig 2 rfl) (by omega) (by show _ = _; rw [addN_zero, addS_zero, sgn_twice]; rfl) (addN_zero _ _) hP)
  go_wp2_with fail
  refine HSB.out.mono ?_
  rintro e w9 ⟨D4, cd4, rfl, hgg, hw⟩
  replace I := Lib.hid ((I.out.below hw).pushDig hgg)
  clear hw hgg HSB a2 b2 a3 b3
  obtain ⟨a2, b2, a3, b3⟩ := I.out.num 2 rfl
  have I2 := I.out.putNum 2 rfl false D4 P cd4 rfl
  go_upto_region 7 with fail
  clear a2 b2 a3 b3
  show Code.wp _ _ _ _ (st2 w9 K3 false D4 P cd4)
  generalize st2 w9 K3 false D4 P cd4 = wa at *
  have I3 := (I2.sub (l' := [.dig false D4 P cd4 p, .dig zy D3 Q cd3 q, .num K3 false D4 P cd4, .num K2 zy D3 Q cd3, .rat (S + 1 + 1) false 0 false 0]) (.cons_cons _ (.cons_cons _ (.cons_cons _ (.cons _ (.cons_cons _ (.cons _ (.cons_cons _ .slnil)))))))).front 1 rfl
  have I4 := ((I3.front 3 rfl).front 2 rfl).front 3 rfl
  replace I := Lib.hid I4
  clear I2 I3 I4
  have HT1 := Lib.hid (To_run zy D3 Q cd3 q wa hfq (I.out.dig 3 rfl).digs hQ (I.out.dig 3 rfl).cap)
  obtain ⟨a0, b0, a1, b1⟩ := I.out.num 2 rfl
  go_wp2_with fail
  refine HT1.out.mono ?_
  rintro e x1 ⟨rfl, hw⟩
  replace I := Lib.hid (I.out.below hw)
  clear hw HT1 a0 b0 a1 b1
  obtain ⟨K4, hK4⟩ : ∃ K, x1.heap.size = K := ⟨_, rfl⟩
  obtain ⟨x2, hx2⟩ : ∃ W, x1.alloc (boxIZ 25) = W := ⟨_, rfl⟩
  have I2 := I.out.pushIntZ hK4 25
  rw [hx2] at I2
  replace I := Lib.hid I2
  have I3 := Lib.hid (I2.putInt 0 rfl zy q rfl)
  have H0 := Lib.hid (I2.int 0 rfl)
  clear I2
  go_upto_region 8 with (with_reducible refine wpList_store_int rfl (.tmp 10) (.tmp 40) rfl (b := K4) (s := zy) (n := q) rfl rfl H0.out ?_)
  clear hx2 H0 I
  generalize st9 x2 K4 zy q = x3 at *
  have I := I3
  clear I3
  have HT1 := Lib.hid (To_run false D4 P cd4 p x3 hfp (I.out.dig 2 rfl).digs hP (I.out.dig 2 rfl).cap)
  obtain ⟨a0, b0, a1, b1⟩ := I.out.num 1 rfl
  go_wp2_with fail
  refine HT1.out.mono ?_
  rintro e x4 ⟨rfl, hw⟩
  replace I := Lib.hid (I.out.below hw)
  clear hw HT1 a0 b0 a1 b1
  obtain ⟨K5, hK5⟩ : ∃ K, x4.heap.size = K := ⟨_, rfl⟩
  obtain ⟨x5, hx5⟩ : ∃ W, x4.alloc (boxIZ 25) = W := ⟨_, rfl⟩
  have I2 := I.out.pushIntZ hK5 25
  rw [hx5] at I2
  have I3 := Lib.hid (I2.putInt 0 rfl false p rfl)
  have H0 := Lib.hid (I2.int 0 rfl)
  clear I2 I
  go_upto_region 9 with (with_reducible refine wpList_store_int rfl (.tmp 12) (.tmp 45) rfl (b := K5) (s := false) (n := p) rfl rfl H0.out ?_)
  clear hx5 H0
  generalize st9 x5 K5 false p = x6 at *
  have H1 := Lib.hid (I3.out.int 1 rfl)
  have H2 := Lib.hid (I3.out.int 0 rfl)
  have H3 := Lib.hid (I3.out.rat 6 rfl)
  go_wp2_with (first | (with_reducible refine wpList_load_int rfl (.tmp 10) rfl rfl H1.out.o ?_) | (with_reducible refine wpList_load_int rfl (.tmp 12) rfl rfl H2.out.o ?_) | (with_reducible refine wpList_build_rat rfl (.tmp 47) (.tmp 48) rfl rfl rfl ?_) | (with_reducible refine wpList_store_rat rfl (.tmp 4) (.tmp 49) rfl (b := S + 1 + 1) (s := zy) (n := q) (t := false) (d := p) rfl rfl H3.out ?_))
  have I4 := I3.out.putRat 6 rfl zy q false p rfl
  exact bodyPost_ret (v := ratV zy q false p) (results_rat1 rfl rfl (I4.rat 6 rfl)) rfl ⟨by rw [hzz.out], I4.bl⟩
end Go.Proofs.YtgoemhcngmpfbaaGreatDoor
namespace Go.Proofs.YtgoemhcngmpfbaaGreatDoor
open Go.RowKit Go.Sort
set_option linter.unusedSimpArgs false
structure DoIs (ka kb : Nat) (zr : Bool) (r : Nat) (zd : Bool) (dd : Nat) (zero fit : Prop) (Z : Bool) (N D K : Nat) : Prop where
 b1 : ka ≠ 0 → Z = false ∧ N = 0 ∧ D = 0 ∧ K = 8
 b2 : kb ≠ 0 → Z = false ∧ N = 0 ∧ D = 0 ∧ K = 8
 b3 : ka = 0 → kb = 0 → zero → Z = false ∧ N = 0 ∧ D = 0 ∧ K = 10
 b4 : ka = 0 → kb = 0 → ¬ zero → ¬ fit → Z = false ∧ N = 0 ∧ D = 0 ∧ K = 9
 ok : ka = 0 → kb = 0 → ¬ zero → fit → mkS zr r zd dd = Z ∧ mkN r dd = N ∧ mkD r dd = D ∧ K = 0 ∧ dd ≠ 0
theorem build_zero {a : Act} {w : World} {op : Oper} (ho : op.op = .build 27 #[]) : (execOp a.eval op).run Tryz.prog w = .ok (.value (ratV false 0 false 0)) w := by
 rw [ratV_zero]
 unfold execOp
 simp only [ho]
 go_simp
theorem wpList_build_zero {ops : Array Oper} {rest : List Oper} {op : Oper} {a : Act} {w : World} {Q : Exit → Act → World → Prop} (hgd : op.guard = none) (ho : op.op = .build 27 #[])
  (hK : wpList Tryz.prog ops Q rest (a.put op.dst (ratV false 0 false 0)) w) : wpList Tryz.prog ops Q (op :: rest) a w := by
 refine wpList_plain hgd fun K hK' => ?_
 unfold Oper.wp
 rw [build_zero ho]
 exact hK' _ _ hK
theorem Mul_out {z : Bool} {L n : Nat} {z' : Bool} {L' m : Nat} {zz : Bool} {r R : Nat} (hs : L + L' ≤ 10000) (hz : Hid (sgn (z != z') r = zz)) (hr : Hid (n * m = r)) (hR : Hid (nl r = R)) (W : World) (A : Option Addr) (c : Nat) (B : Option Addr) (e : Nat) (ha : Good W z A L c n) (hb : Good W z' B L' e m) :
  Calls Tryz.prog 85 #[.agg #[.bool z, .slice A L c], .agg #[.bool z', .slice B L' e]] W (NumOut zz R r W) :=
 (Mul_run7 z A L c n z' B L' e m zz r R W ha hb hs hz hr hR).mono fun _ _ ⟨C, cc, h1, h2, h3⟩ => ⟨(C, cc), h1, h2, h3⟩
theorem Add_out {z : Bool} {L n : Nat} {z' : Bool} {L' m : Nat} {zz : Bool} {r R : Nat} (hs : L + L' ≤ 10000) (hz : Hid (sgn (addS z n z' m) (addN z n z' m) = zz)) (hr : Hid (addN z n z' m = r)) (hR : Hid (nl r = R)) (W : World) (A : Option Addr) (c : Nat) (B : Option Addr) (e : Nat) (ha : Good W z A L c n) (hb : Good W z' B L' e m) :
  Calls Tryz.prog 104 #[.agg #[.bool z, .slice A L c], .agg #[.bool z', .slice B L' e]] W (NumOut zz R r W) :=
 (Add_run7 z A L c n z' B L' e m zz r R W ha hb hs hz hr hR).mono fun _ _ ⟨C, cc, h1, h2, h3⟩ => ⟨(C, cc), h1, h2, h3⟩
theorem Sub_out {z : Bool} {L n : Nat} {z' : Bool} {L' m : Nat} {zz : Bool} {r R : Nat} (hs : L + L' ≤ 10000) (hz : Hid (sgn (addS z n (sgn (!z') m) m) (addN z n (sgn (!z') m) m) = zz)) (hr : Hid (addN z n (sgn (!z') m) m = r)) (hR : Hid (nl r = R)) (W : World) (A : Option Addr) (c : Nat) (B : Option Addr) (e : Nat) (ha : Good W z A L c n) (hb : Good W z' B L' e m) :
  Calls Tryz.prog 81 #[.agg #[.bool z, .slice A L c], .agg #[.bool z', .slice B L' e]] W (NumOut zz R r W) :=
 (Sub_run7 z A L c n z' B L' e m zz r R W ha hb hs hz hr hR).mono fun _ _ ⟨C, cc, h1, h2, h3⟩ => ⟨(C, cc), h1, h2, h3⟩
theorem over_no {s : Bool} {A : Option Addr} {m c n : Nat} (hm : nl n = m) (h : Fits n) (w : World) : Calls Tryz.prog 142 #[.agg #[.bool s, .slice A m c]] w fun e w' => e = .returned (.bool false) ∧ Below w.heap.size w w' :=
 over_run s A m c false w (by show _ = _; rw [← hm]; exact decide_eq_false fun h1 => (over_fits n).1 h1 h)
theorem over_yes {s : Bool} {A : Option Addr} {m c n : Nat} (hm : nl n = m) (h : ¬ Fits n) (w : World) : Calls Tryz.prog 142 #[.agg #[.bool s, .slice A m c]] w fun e w' => e = .returned (.bool true) ∧ Below w.heap.size w w' :=
 over_run s A m c true w (by show _ = _; rw [← hm]; exact decide_eq_true ((over_fits n).2 h))
theorem nl_fits {n m : Nat} (hm : nl n = m) (h : Fits n) : m ≤ 32 := by rw [← hm]; exact nl_le ((fits_dg n).1 h)
theorem nl_mul64 {n d r R : Nat} (hr : n * d = r) (hR : nl r = R) (hn : Fits n) (hd : Fits d) : R ≤ 64 := by
 rw [← hR, ← hr]
 have := nl_mul_le n d
 have := nl_le ((fits_dg n).1 hn)
 have := nl_le ((fits_dg d).1 hd)
 omega
end Go.Proofs.YtgoemhcngmpfbaaGreatDoor
namespace Go.Proofs.YtgoemhcngmpfbaaGreatDoor
open Go.RowKit Go.Sort
set_option linter.unusedSimpArgs false
set_option maxRecDepth 100000 in
set_option maxHeartbeats 8000000 in
theorem Of_run8 (z : Int) (x : Bool) (N : Nat) (w : World) (hz : -1000000 ≤ z ∧ z ≤ 1000000) (hN : Hid (z.natAbs = N)) (hx : Hid (decide (z < 0) = x)) :
  Calls Tryz.prog 15 #[.int .i64 z] w fun e w' => e = .returned (ratV x N false 1) ∧ Below w.heap.size w w' := by
 obtain ⟨S, hS⟩ : ∃ S, w.heap.size = S := ⟨_, rfl⟩
 obtain ⟨W0, hW0⟩ : ∃ W, w.alloc (boxRZ 27) = W := ⟨_, rfl⟩
 have I := (Bs.start w hS).pushRatZ hS 27
 rw [hW0] at I
 replace I := Lib.hid I
 obtain ⟨M, hM⟩ : ∃ M, nl N = M := ⟨_, rfl⟩
 have HSM := Lib.hid (fun W => Small_run z x N M W hz hN hM hx)
 have HO := Lib.hid (fun W => One_run W)
 have hfN : Hid (Fits N) := by
  have h1 : N < 18446744073709551616 := by have := hN.out; omega
  exact Nat.lt_of_lt_of_le h1 (Nat.le_self_pow (by decide) _)
 have hf1 : Hid (Fits 1) := by show _ < _; decide
 replace hM := Lib.hid hM
 clear hz
 rw [hS]
 go_enter Tryz.func15, Tryz.ntmps15
 go_wp2_with fail
 refine (HSM.out _).mono ?_
 rintro e w1 ⟨⟨A, c⟩, rfl, hgg, hw⟩
 replace I := Lib.hid ((I.out.below hw).pushDig hgg)
 clear hw hgg HSM hW0
 have HT1 := Lib.hid (To_run x A M c N w1 hfN (I.out.dig 0 rfl).digs hM (I.out.dig 0 rfl).cap)
 go_wp2_with fail
 refine HT1.out.mono ?_
 rintro e x1 ⟨rfl, hw⟩
 replace I := Lib.hid (I.out.below hw)
 clear hw HT1
 obtain ⟨K4, hK4⟩ : ∃ K, x1.heap.size = K := ⟨_, rfl⟩
 obtain ⟨x2, hx2⟩ : ∃ W, x1.alloc (boxIZ 25) = W := ⟨_, rfl⟩
 have I2 := I.out.pushIntZ hK4 25
 rw [hx2] at I2
 have I3 := Lib.hid (I2.putInt 0 rfl x N rfl)
 have H0 := Lib.hid (I2.int 0 rfl)
 clear I2 I
 go_upto_region 2 with (with_reducible refine wpList_store_int rfl (.tmp 3) (.tmp 11) rfl (b := K4) (s := x) (n := N) rfl rfl H0.out ?_)
 clear hx2 H0
 generalize st9 x2 K4 x N = x3 at *
 have I := I3
 clear I3
 go_wp2_with fail
 refine (HO.out _).mono ?_
 rintro e x4 ⟨⟨B, cB⟩, rfl, hgg, hw⟩
 replace I := Lib.hid ((I.out.below hw).pushDig hgg)
 clear hw hgg HO
 have HT1 := Lib.hid (To_run false B 1 cB 1 x4 hf1 (I.out.dig 0 rfl).digs nl_one (I.out.dig 0 rfl).cap)
 go_wp2_with fail
 refine HT1.out.mono ?_
 rintro e x5 ⟨rfl, hw⟩
 replace I := Lib.hid (I.out.below hw)
 clear hw HT1
 obtain ⟨K5, hK5⟩ : ∃ K, x5.heap.size = K := ⟨_, rfl⟩
 obtain ⟨x6, hx6⟩ : ∃ W, x5.alloc (boxIZ 25) = W := ⟨_, rfl⟩
 have I2 := I.out.pushIntZ hK5 25
 rw [hx6] at I2
 have I3 := Lib.hid (I2.putInt 0 rfl false 1 rfl)
 have H0 := Lib.hid (I2.int 0 rfl)
 clear I2 I
 go_upto_region 3 with (with_reducible refine wpList_store_int rfl (.tmp 5) (.tmp 16) rfl (b := K5) (s := false) (n := 1) rfl rfl H0.out ?_)
 clear hx6 H0
 generalize st9 x6 K5 false 1 = x7 at *
 have H1 := Lib.hid (I3.out.int 2 rfl)
 have H2 := Lib.hid (I3.out.int 0 rfl)
 have H3 := Lib.hid (I3.out.rat 4 rfl)
 go_wp2_with (first | (with_reducible refine wpList_load_int rfl (.tmp 3) rfl rfl H1.out.o ?_) | (with_reducible refine wpList_load_int rfl (.tmp 5) rfl rfl H2.out.o ?_) | (with_reducible refine wpList_build_rat rfl (.tmp 18) (.tmp 19) rfl rfl rfl ?_) | (with_reducible refine wpList_store_rat rfl (.tmp 2) (.tmp 20) rfl (b := S) (s := x) (n := N) (t := false) (d := 1) rfl rfl H3.out ?_))
 have I4 := I3.out.putRat 4 rfl x N false 1 rfl
 exact bodyPost_ret (v := ratV x N false 1) (results_rat1 rfl rfl (I4.rat 4 rfl)) rfl ⟨rfl, I4.bl⟩
end Go.Proofs.YtgoemhcngmpfbaaGreatDoor
