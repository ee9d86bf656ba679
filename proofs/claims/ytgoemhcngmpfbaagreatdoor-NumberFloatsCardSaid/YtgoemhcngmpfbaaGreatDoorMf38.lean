/-
  The document's answers of layer 9: Value.
-/
import Derived.Test.YtgoemhcngmpfbaaGreatDoorMx37
import Derived.Test.YtgoemhcngmpfbaaGreatDoorMx22
import Derived.Test.YtgoemhcngmpfbaaGreatDoorMx35
import Derived.Test.YtgoemhcngmpfbaaGreatDoorMx25
import Derived.Test.YtgoemhcngmpfbaaGreatDoorMx31
import Derived.Test.YtgoemhcngmpfbaaGreatDoorMx34
namespace Go.Proofs.YtgoemhcngmpfbaaGreatDoor
open Go.RowKit Go.Sort
set_option linter.unusedSimpArgs false
set_option maxRecDepth 100000 in
set_option maxHeartbeats 8000000 in
theorem Value9_run (kind : Int) (l : List UInt8) (y : Q4) (w : World) (hl : l.length ≤ 10000) (h : Hid (ValueIs kind l y)) :
  Calls Tryz.prog 32 #[.int .i64 kind, .string (bs l)] w fun e w' => e = .returned (.tuple #[ratV y.s y.n false y.d, .int .i64 (y.k : Int)]) ∧ Below w.heap.size w w' := by
 obtain ⟨S, hS⟩ : ∃ S, w.heap.size = S := ⟨_, rfl⟩
 have I0 := (Bs.start w hS).pushRatZ hS 27
 obtain ⟨W0, hW⟩ : ∃ W, w.alloc (boxRZ 27) = W := ⟨_, rfl⟩
 rw [hW] at I0
 have I := Lib.hid I0
 clear I0
 rw [hS]
 rcases h.out with ⟨rfl, k, n, hi, hk⟩ | ⟨rfl, hf⟩ | ⟨h2, h3, rfl⟩
 ·have hkk := int_k hi
  obtain ⟨m, hm⟩ : ∃ m, nl n = m := ⟨_, rfl⟩
  have HIO0 := fun V => IntOf_run l k n m V hl hi hm
  have HFN := Lib.hid hkk.2.1
  rcases hk with ⟨hk, rfl⟩ | ⟨rfl, rfl⟩
  ·
   have HIO := Lib.hid HIO0
   have hkz : ((k : Int) != 0) = true := by rw [bne_iff_ne]; omega
   clear h hi hk hkk HIO0 hm
   go_enter Tryz.func32, Tryz.ntmps32
   go_wp2_with fail
   refine (HIO.out _).mono ?_
   rintro e w4 ⟨A, cA, rfl, hg, hw⟩
   replace I := Lib.hid ((I.out.below hw).pushDig hg)
   clear hw hg HIO hW
   obtain ⟨N, hN⟩ : ∃ N, w4.heap.size = N := ⟨_, rfl⟩
   have J4 := I.out.pushNum hN false none 0 0
   obtain ⟨a1, ha⟩ : ∃ x, w4.alloc (boxN false none 0 0) = x := ⟨_, rfl⟩
   rw [ha] at J4
   have HI4 := Lib.hid (J4.num 0 rfl)
   have I5 := Lib.hid (J4.putNum 0 rfl false A m cA rfl)
   clear J4 I
   go_upto_region 3 with (with_reducible refine wpList_store_num rfl (.tmp 6) (.tmp 15) rfl (b := N) (t := false) (B := A) (M := m) (d := cA) rfl rfl HI4.out ?_)
   clear HI4 ha
   generalize st2 a1 N false A m cA = w5 at *
   have I := I5
   clear I5
   have HA := Lib.hid (I.out.rat 2 rfl)
   go_wp2_with (first | (with_reducible refine wpList_val (v := ratV false 0 false 0) rfl (build_zero rfl) ?_) | (with_reducible refine wpList_store_rat rfl (.tmp 4) (.tmp 19) rfl (b := S) (s := false) (n := 0) (t := false) (d := 0) rfl rfl HA.out ?_))
   have I9 := I.out.putRat 2 rfl false 0 false 0 rfl
   exact bodyPost_ret (v := .tuple #[ratV false 0 false 0, .int .i64 (k : Int)]) (results_rat rfl rfl rfl (I9.rat 2 rfl)) rfl ⟨rfl, I9.bl⟩
  ·
   have HIO : Hid (∀ V, Calls Tryz.prog 27 #[.string (bs l)] V fun e w' => ∃ (A : Option Addr) (cA : Nat), e = .returned (.tuple #[.agg #[.bool false, .slice A m cA], .int .i64 0]) ∧ Good w' false A m cA n ∧ Below V.heap.size V w') := HIO0
   have HOF : Hid (∀ V, Calls Tryz.prog 15 #[.int .i64 1] V fun e w' => e = .returned (ratV false 1 false 1) ∧ Below V.heap.size V w') := fun V => Of_run8 1 false 1 V (by omega) rfl rfl
   clear h hi hkk HIO0 hm
   go_enter Tryz.func32, Tryz.ntmps32
   go_wp2_with fail
   refine (HIO.out _).mono ?_
   rintro e w4 ⟨A, cA, rfl, hg, hw⟩
   replace I := Lib.hid ((I.out.below hw).pushDig hg)
   clear hw hg HIO hW
   obtain ⟨N, hN⟩ : ∃ N, w4.heap.size = N := ⟨_, rfl⟩
   have J4 := I.out.pushNum hN false none 0 0
   obtain ⟨a1, ha⟩ : ∃ x, w4.alloc (boxN false none 0 0) = x := ⟨_, rfl⟩
   rw [ha] at J4
   have HI4 := Lib.hid (J4.num 0 rfl)
   have I5 := Lib.hid (J4.putNum 0 rfl false A m cA rfl)
   clear J4 I
   go_upto_region 3 with (with_reducible refine wpList_store_num rfl (.tmp 6) (.tmp 15) rfl (b := N) (t := false) (B := A) (M := m) (d := cA) rfl rfl HI4.out ?_)
   clear HI4 ha
   generalize st2 a1 N false A m cA = w5 at *
   have I := I5
   clear I5
   have HTo := Lib.hid (fun V (hg : Good V false A m cA n) => To_run false A m cA n V HFN.out hg.digs hg.len hg.cap)
   have HG := Lib.hid (I.out.dig 1 rfl)
   have HNm := Lib.hid (I.out.num 0 rfl)
   go_wp2_with (with_reducible refine wpList_load_num rfl (.tmp 6) rfl rfl HNm.out ?_)
   refine (HTo.out _ HG.out).mono ?_
   rintro e w6 ⟨rfl, hw⟩
   replace I := Lib.hid (I.out.below hw)
   clear hw HTo HG HNm
   obtain ⟨M, hM⟩ : ∃ M, w6.heap.size = M := ⟨_, rfl⟩
   have J4 := I.out.pushIntZ hM 25
   obtain ⟨a6, ha⟩ : ∃ x, w6.alloc (boxIZ 25) = x := ⟨_, rfl⟩
   rw [ha] at J4
   have HI4 := Lib.hid (J4.int 0 rfl)
   have I5 := Lib.hid (J4.putInt 0 rfl false n rfl)
   clear J4 I
   go_upto_region 6 with (with_reducible refine wpList_store_int rfl (.tmp 8) (.tmp 24) rfl (b := M) (s := false) (n := n) rfl rfl HI4.out ?_)
   clear HI4 ha
   generalize st9 a6 M false n = w7 at *
   refine rg_begin (fun V => Bs w S [.int M false n] V) (by kernel_rfl) (I5.out.drew.sub (.cons_cons _ (.cons _ (.cons _ (.cons _ .slnil))))) (fun hS => ?_)
   refine rg_take 0 (intV false n) rfl (by kernel_rfl) (by kernel_rfl) (by kernel_rfl) (fun _ _ _ h => h) rfl (fun w hSw => ld_int (.tmp 8) rfl rfl (hSw.int 0 rfl).o) hS ?_
   simp only [zA, zB, zC, Act.put, zD, zE, zF]
   have hI := I5.out.drew
   clear I5 hS
   generalize w7.drew = V0 at *
   refine rg_one 1 (by kernel_rfl) (rs_of rfl rfl (wp_call rfl enters_Of9 rfl (HOF.out _) (fun V1 hV => ⟨(hI.below hV).sub (.cons_cons _ (.cons _ (.cons _ (.cons _ .slnil)))), ?_⟩)))
   replace hI := hI.below hV
   clear hV
   simp only [zA, zB, zC, Act.put, zD, zE, zF]
   have hS : Bs w S [.int M false n] V1 := hI.sub (.cons_cons _ (.cons _ (.cons _ (.cons _ .slnil))))
   refine rg_take 2 (intV false 1) rfl (by kernel_rfl) (by kernel_rfl) (by kernel_rfl) (fun _ _ _ h => h) rfl (fun w hSw => fld_rat0 rfl rfl) hS ?_
   simp only [zA, zB, zC, Act.put, zD, zE, zF]
   refine rg_take 3 (ratV false n false 1) rfl (by kernel_rfl) (by kernel_rfl) (by kernel_rfl) (fun _ _ _ h => h) rfl (fun w hSw => build_rat rfl rfl rfl) hS ?_
   simp only [zA, zB, zC, Act.put, zD, zE, zF]
   clear hS
   have hJ := hI.putRat 3 rfl false n false 1 rfl
   have hS : Bs w S [.int M false n] (st18 V1 S false n false 1) := hJ.sub (.cons_cons _ (.cons _ (.cons _ (.cons _ .slnil))))
   refine rg_one 4 (by kernel_rfl) (rs_of rfl rfl (stores_rat (.tmp 4) (.tmp 29) rfl (s := false) (n := n) (t := false) (d := 1) rfl rfl (hI.rat 3 rfl) ⟨hS, ?_⟩))
   simp only [zA, zB, zC, Act.put, zD, zE, zF]
   refine rg_take 5 (.int .i64 0) rfl (by kernel_rfl) (by kernel_rfl) (by kernel_rfl) (fun _ _ _ h => h) rfl (fun w _ => ?_) hS ?_
   ·go_simp
   simp only [zA, zB, zC, Act.put, zD, zE, zF]
   refine wpAnyH_done (by kernel_rfl) ?_ _
   (try simp only [Exit.inBlock, Exit.then])
   go_wp2_with fail
   exact bodyPost_ret (v := .tuple #[ratV false n false 1, .int .i64 0]) (results_rat rfl rfl rfl (hJ.rat 3 rfl)) rfl ⟨rfl, hJ.bl⟩
 ·
  obtain ⟨ys, yn, yd, yk⟩ := y
  have HFL := Lib.hid (fun V => FloatOf_run l _ V hl hf)
  dsimp only at HFL ⊢
  clear h hf
  go_enter Tryz.func32, Tryz.ntmps32
  go_wp2_with fail
  refine (HFL.out _).mono ?_
  rintro e w4 ⟨rfl, hw⟩
  have I3 := Lib.hid (I.out.below hw)
  have HA := Lib.hid (I3.out.rat 0 rfl)
  clear hw I hW
  go_wp2_with (with_reducible refine wpList_store_rat rfl (.tmp 4) (.tmp 34) rfl (b := S) (s := ys) (n := yn) (t := false) (d := yd) rfl rfl HA.out ?_)
  have I9 := I3.out.putRat 0 rfl ys yn false yd rfl
  exact bodyPost_ret (v := .tuple #[ratV ys yn false yd, .int .i64 (yk : Int)]) (results_rat rfl rfl rfl (I9.rat 0 rfl)) rfl ⟨rfl, I9.bl⟩
 ·
  have e2 : (kind == 2) = false := beq_eq_false_iff_ne.2 h2
  have e3 : (kind == 3) = false := beq_eq_false_iff_ne.2 h3
  clear h h2 h3
  go_enter Tryz.func32, Tryz.ntmps32
  have HA := Lib.hid (I.out.rat 0 rfl)
  go_wp2_with (first | (with_reducible refine wpList_val (v := ratV false 0 false 0) rfl (build_zero rfl) ?_) | (with_reducible refine wpList_store_rat rfl (.tmp 4) (.tmp 36) rfl (b := S) (s := false) (n := 0) (t := false) (d := 0) rfl rfl HA.out ?_))
  have I9 := I.out.putRat 0 rfl false 0 false 0 rfl
  exact bodyPost_ret (v := .tuple #[ratV false 0 false 0, .int .i64 11]) (results_rat rfl rfl rfl (I9.rat 0 rfl)) rfl ⟨rfl, I9.bl⟩
end Go.Proofs.YtgoemhcngmpfbaaGreatDoor
namespace Go.Proofs.YtgoemhcngmpfbaaGreatDoor
open Go.RowKit Go.Sort
set_option linter.unusedSimpArgs false
theorem float_fits {l : List UInt8} {y : Q4} (h : FloatIs l y) : Fits y.n ∧ Fits y.d ∧ y.k ≤ 25 := by
 have hz : Fits 0 := Nat.pow_pos (by decide)
 have h1 : Fits 1 := Nat.lt_of_lt_of_le (show 1 < 18446744073709551616 by decide) (Nat.le_self_pow (by decide) _)
 rcases h with ⟨_, rfl⟩ | ⟨_, ⟨_, rfl⟩ | ⟨_, ⟨_, rfl⟩ | ⟨_, rfl⟩⟩⟩
 ·exact ⟨hz, hz, by decide⟩
 ·exact ⟨hz, hz, by decide⟩
 ·exact ⟨hz, hz, by decide⟩
 ·have := scl_fits false (parN 10 (ptW l ++ ptF l)) false 1 10 (powZ (ptS l) (ptX l) - ((ptF l).length : Int)) (parN_fits _ _) h1
  exact ⟨this.1, this.2, scl_le _ _ _ _ _ _⟩
theorem value_fits {kind : Int} {l : List UInt8} {y : Q4} (h : ValueIs kind l y) : Fits y.n ∧ Fits y.d ∧ y.k ≤ 25 := by
 have hz : Fits 0 := Nat.pow_pos (by decide)
 have h1 : Fits 1 := Nat.lt_of_lt_of_le (show 1 < 18446744073709551616 by decide) (Nat.le_self_pow (by decide) _)
 rcases h with ⟨_, k, n, hi, ⟨_, rfl⟩ | ⟨_, rfl⟩⟩ | ⟨_, h⟩ | ⟨_, _, rfl⟩
 ·have := (int_k hi).1
  exact ⟨hz, hz, by show k ≤ 25; omega⟩
 ·exact ⟨(int_k hi).2.1, h1, Nat.zero_le _⟩
 ·exact float_fits h
 ·exact ⟨hz, hz, by decide⟩
set_option maxRecDepth 100000 in
set_option maxHeartbeats 4000000 in
theorem Floats_law (s : ByteArray) (kind : Int) (w : World) (hsz : s.size ≤ 9223372036854775807) (hml : Hid (Ml w)) (ht : Hid (Tab w)) :
  Calls Tryz.prog 6 #[.string s, .int .i64 kind] w fun e w' => e = .returned (.bool true) ∧ Below w.heap.size w w' := by
 obtain ⟨S, hS⟩ : ∃ S, w.heap.size = S := ⟨_, rfl⟩
 have HML : Hid (∀ V, Below S w V → Ml V) := fun V hb => hml.out.below (by rw [hS]; exact hb)
 have HTB : Hid (∀ V, Below S w V → Tab V) := fun V hb => ht.out.below (by rw [hS]; exact hb)
 obtain ⟨m, hm⟩ : ∃ m, min s.size 60 = m := ⟨_, rfl⟩
 have hmz : min (s.size : Int) 60 = (m : Int) := by omega
 have hms : m ≤ s.size := by omega
 have hex : s.extract 0 m = bs (s.data.toList.take m) := by have := bs_to s.data.toList m; rwa [bs_of] at this
 obtain ⟨t, htt⟩ : ∃ t, s.data.toList.take m = t := ⟨_, rfl⟩
 have htl : t.length ≤ 10000 := by rw [← htt, List.length_take]; omega
 rw [htt] at hex
 rw [hS]
 obtain ⟨y, hy⟩ := float_is t
 obtain ⟨v, hv⟩ := value_is kind t
 obtain ⟨f1, f2, f3⟩ := float_fits hy
 obtain ⟨g1, g2, g3⟩ := value_fits hv
 have HA0 := fun V (hV : Ml V) => Float_run t y V htl hy hV
 have HB0 := fun V => FloatOf_run t y V htl hy
 have HC0 := fun V (hV : Ml V) => Value_run kind t v V htl hv hV
 have HD0 := fun V => Value9_run kind t v V htl hv
 clear hml ht hy hv htt
 obtain ⟨ys, yn, yd, yk⟩ := y
 obtain ⟨vs, vn, vd, vk⟩ := v
 dsimp only at HA0 HB0 HC0 HD0 f1 f2 f3 g1 g2 g3
 have HE0 := fun V => code_errV yk f3 V
 have HG0 := fun V => code_errV vk g3 V
 obtain ⟨e1, he1⟩ : ∃ v, errV yk = v := ⟨_, rfl⟩
 obtain ⟨e2, he2⟩ : ∃ v, errV vk = v := ⟨_, rfl⟩
 rw [he1] at HA0 HE0
 rw [he2] at HC0 HG0
 have HFa := Lib.hid (And.intro f1 f2)
 have HFb := Lib.hid (And.intro g1 g2)
 have HA := Lib.hid HA0
 have HB := Lib.hid HB0
 have HC := Lib.hid HC0
 have HD := Lib.hid HD0
 have HE := Lib.hid HE0
 have HG := Lib.hid HG0
 have I := Lib.hid (Bs.start w hS)
 clear HA0 HB0 HC0 HD0 HE0 HG0 f1 f2 f3 g1 g2 g3 he1 he2
 generalize bs t = z at *
 go_enter Tryz.func6, Tryz.ntmps6
 go_wp2_with fail
 refine (HA.out _ (HML.out _ I.out.bl)).mono ?_
 rintro e w1 ⟨rfl, hw⟩
 clear HA
 replace I := Lib.hid (I.out.below hw)
 clear hw
 obtain ⟨N1, hN⟩ : ∃ N, w1.heap.size = N := ⟨_, rfl⟩
 have J4 := I.out.pushRatZ hN 27
 obtain ⟨a1, ha⟩ : ∃ x, w1.alloc (boxRZ 27) = x := ⟨_, rfl⟩
 rw [ha] at J4
 have HI4 := Lib.hid (J4.rat 0 rfl)
 have I5 := Lib.hid (J4.putRat 0 rfl ys yn false yd rfl)
 clear J4 I
 go_upto_region 3 with (with_reducible refine wpList_store_rat rfl (.tmp 5) (.tmp 21) rfl (b := N1) (s := ys) (n := yn) (t := false) (d := yd) rfl rfl HI4.out ?_)
 clear HI4 ha hN
 generalize st18 a1 N1 ys yn false yd = w2 at *
 have I := I5
 clear I5
 go_wp2_with fail
 refine (HB.out _).mono ?_
 rintro e w3 ⟨rfl, hw⟩
 clear HB
 replace I := Lib.hid (I.out.below hw)
 clear hw
 obtain ⟨N2, hN⟩ : ∃ N, w3.heap.size = N := ⟨_, rfl⟩
 have J4 := I.out.pushRatZ hN 27
 obtain ⟨a1, ha⟩ : ∃ x, w3.alloc (boxRZ 27) = x := ⟨_, rfl⟩
 rw [ha] at J4
 have HI4 := Lib.hid (J4.rat 0 rfl)
 have I5 := Lib.hid (J4.putRat 0 rfl ys yn false yd rfl)
 clear J4 I
 go_upto_region 4 with (with_reducible refine wpList_store_rat rfl (.tmp 7) (.tmp 26) rfl (b := N2) (s := ys) (n := yn) (t := false) (d := yd) rfl rfl HI4.out ?_)
 clear HI4 ha hN
 generalize st18 a1 N2 ys yn false yd = w4 at *
 have I := I5
 clear I5
 go_wp2_with fail
 refine (HC.out _ (HML.out _ I.out.bl)).mono ?_
 rintro e w5 ⟨rfl, hw⟩
 clear HC
 replace I := Lib.hid (I.out.below hw)
 clear hw
 obtain ⟨N3, hN⟩ : ∃ N, w5.heap.size = N := ⟨_, rfl⟩
 have J4 := I.out.pushRatZ hN 27
 obtain ⟨a1, ha⟩ : ∃ x, w5.alloc (boxRZ 27) = x := ⟨_, rfl⟩
 rw [ha] at J4
 have HI4 := Lib.hid (J4.rat 0 rfl)
 have I5 := Lib.hid (J4.putRat 0 rfl vs vn false vd rfl)
 clear J4 I
 go_upto_region 5 with (with_reducible refine wpList_store_rat rfl (.tmp 9) (.tmp 32) rfl (b := N3) (s := vs) (n := vn) (t := false) (d := vd) rfl rfl HI4.out ?_)
 clear HI4 ha hN
 generalize st18 a1 N3 vs vn false vd = w6 at *
 have I := I5
 clear I5
 go_wp2_with fail
 refine (HD.out _).mono ?_
 rintro e w7 ⟨rfl, hw⟩
 clear HD
 replace I := Lib.hid (I.out.below hw)
 clear hw
 obtain ⟨N4, hN⟩ : ∃ N, w7.heap.size = N := ⟨_, rfl⟩
 have J4 := I.out.pushRatZ hN 27
 obtain ⟨a1, ha⟩ : ∃ x, w7.alloc (boxRZ 27) = x := ⟨_, rfl⟩
 rw [ha] at J4
 have HI4 := Lib.hid (J4.rat 0 rfl)
 have I5 := Lib.hid (J4.putRat 0 rfl vs vn false vd rfl)
 clear J4 I
 go_upto_region 6 with (with_reducible refine wpList_store_rat rfl (.tmp 11) (.tmp 38) rfl (b := N4) (s := vs) (n := vn) (t := false) (d := vd) rfl rfl HI4.out ?_)
 clear HI4 ha hN
 generalize st18 a1 N4 vs vn false vd = w8 at *
 have I := I5
 clear I5
 have R1 := Lib.hid (I.out.rat 3 rfl)
 have R2 := Lib.hid (I.out.rat 2 rfl)
 go_wp2_with (first | (with_reducible refine wpList_load_rat rfl (.tmp 5) rfl rfl R1.out ?_) | (with_reducible refine wpList_load_rat rfl (.tmp 7) rfl rfl R2.out ?_) | (with_reducible refine wpList_val (v := .bool true) rfl (eqr_self (x := .tmp 40) (y := .tmp 41) rfl rfl rfl HFa.out.1 HFa.out.2) ?_))
 refine (HE.out _).mono ?_
 rintro e wa ⟨rfl, hw⟩
 replace I := Lib.hid (I.out.below hw)
 clear hw HE R1 R2
 have R3 := Lib.hid (I.out.rat 1 rfl)
 have R4 := Lib.hid (I.out.rat 0 rfl)
 go_wp2_with (first | ((with_reducible refine wpList_load_rat_w ?hw1 (.tmp 9) rfl rfl R3.out ?_); case hw1 => rfl) | ((with_reducible refine wpList_load_rat_w ?hw2 (.tmp 11) rfl rfl R4.out ?_); case hw2 => rfl) | (with_reducible refine wpList_val (v := .bool true) rfl (eqr_self (x := .tmp 50) (y := .tmp 51) rfl rfl rfl HFb.out.1 HFb.out.2) ?_))
 refine (HG.out _).mono ?_
 rintro e wb ⟨rfl, hw⟩
 replace I := Lib.hid (I.out.below hw)
 clear hw HG R3 R4
 go_wp2_with fail
 refine (works9_run _ (HML.out _ I.out.bl) (HTB.out _ I.out.bl)).mono ?_
 rintro e w9 ⟨rfl, hw⟩
 have I9 := Lib.hid (I.out.below hw)
 clear hw I
 go_wp2_with fail
 go_ret
 exact ⟨rfl, I9.out.bl⟩
theorem floats_any (s : ByteArray) (a : Int) (W : World) (hm : s.size ≤ 9223372036854775807) (hs : Ml W) (hh : Tab W) :
  Calls Tryz.prog 6 #[.string s, .int .i64 a] W fun e w' => e = .returned (.bool true) ∧ Below W.heap.size W w' := Floats_law s a W hm hs hh
end Go.Proofs.YtgoemhcngmpfbaaGreatDoor
