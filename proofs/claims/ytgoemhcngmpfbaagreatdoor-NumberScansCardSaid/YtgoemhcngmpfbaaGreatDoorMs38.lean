/-
  The document's answers of layer 9: Value.
-/
import Derived.Test.YtgoemhcngmpfbaaGreatDoorMs37
import Derived.Test.YtgoemhcngmpfbaaGreatDoorMx22
import Derived.Test.YtgoemhcngmpfbaaGreatDoorMs35
import Derived.Test.YtgoemhcngmpfbaaGreatDoorMx25
import Derived.Test.YtgoemhcngmpfbaaGreatDoorMx31
import Derived.Test.YtgoemhcngmpfbaaGreatDoorMs34
import Derived.Test.YtgoemhcngmpfbaaGreatDoorMx18
import Derived.Test.YtgoemhcngmpfbaaGreatDoorMx12
import Derived.Test.YtgoemhcngmpfbaaGreatDoorMx30
import Derived.Test.YtgoemhcngmpfbaaGreatDoorMx23
import Derived.Test.YtgoemhcngmpfbaaGreatDoorMx27
import Derived.Test.YtgoemhcngmpfbaaGreatDoorMx13
import Derived.Test.YtgoemhcngmpfbaaGreatDoorMx14
import Derived.Test.YtgoemhcngmpfbaaGreatDoorMx20
import Derived.Test.YtgoemhcngmpfbaaGreatDoorMx33
namespace Go.Proofs.YtgoemhcngmpfbaaGreatDoor
open Go.RowKit Go.Sort
set_option linter.unusedSimpArgs false
set_option maxRecDepth 100000 in
set_option maxHeartbeats 8000000 in
theorem Value9_run (kind : Int) (l : List UInt8) (y : Q4) (w : World) (hl : l.length ≤ 10000) (h : Hid (ValueIs kind l y)) :
  Calls Tryz.prog 32 #[.int .i64 kind, .string (bs l)] w fun e w' => e = .returned (.tuple #[ratV y.s y.n false y.d, .int .i64 (y.k : Int)]) ∧ Below w.heap.size w w' := by
 obtain ⟨S, hS⟩ : ∃ S, w.heap.size = S := ⟨_, rfl⟩
 have I0 := (Bs.start w hS).pushRatZ hS 27
 obtain ⟨W0, hW⟩ : ∃ W, w.alloc (boxRZ 27) = W := ⟨_, rfl⟩
 rw [hW] at I0
 have I := Lib.hid I0
 clear I0
 rw [hS]
 rcases h.out with ⟨rfl, k, n, hi, hk⟩ | ⟨rfl, hf⟩ | ⟨h2, h3, rfl⟩
 ·have hkk := int_k hi
  obtain ⟨m, hm⟩ : ∃ m, nl n = m := ⟨_, rfl⟩
  have HIO0 := fun V => IntOf_run l k n m V hl hi hm
  have HFN := Lib.hid hkk.2.1
  rcases hk with ⟨hk, rfl⟩ | ⟨rfl, rfl⟩
  ·
   have HIO := Lib.hid HIO0
   have hkz : ((k : Int) != 0) = true := by rw [bne_iff_ne]; omega
   clear h hi hk hkk HIO0 hm
   go_enter Tryz.func32, Tryz.ntmps32
   go_wp2_with fail
   refine (HIO.out _).mono ?_
   rintro e w4 ⟨A, cA, rfl, hg, hw⟩
   replace I := Lib.hid ((I.out.below hw).pushDig hg)
   clear hw hg HIO hW
   obtain ⟨N, hN⟩ : ∃ N, w4.heap.size = N := ⟨_, rfl⟩
   have J4 := I.out.pushNum hN false none 0 0
   obtain ⟨a1, ha⟩ : ∃ x, w4.alloc (boxN false none 0 0) = x := ⟨_, rfl⟩
   rw [ha] at J4
   have HI4 := Lib.hid (J4.num 0 rfl)
   have I5 := Lib.hid (J4.putNum 0 rfl false A m cA rfl)
   clear J4 I
   go_upto_region 3 with (with_reducible refine wpList_store_num rfl (.tmp 6) (.tmp 15) rfl (b := N) (t := false) (B := A) (M := m) (d := cA) rfl rfl HI4.out ?_)
   clear HI4 ha
   generalize st2 a1 N false A m cA = w5 at *
   have I := I5
   clear I5
   have HA := Lib.hid (I.out.rat 2 rfl)
   go_wp2_with (first | (with_reducible refine wpList_val (v := ratV false 0 false 0) rfl (build_zero rfl) ?_) | (with_reducible refine wpList_store_rat rfl (.tmp 4) (.tmp 19) rfl (b := S) (s := false) (n := 0) (t := false) (d := 0) rfl rfl HA.out ?_))
   have I9 := I.out.putRat 2 rfl false 0 false 0 rfl
   exact bodyPost_ret (v := .tuple #[ratV false 0 false 0, .int .i64 (k : Int)]) (results_rat rfl rfl rfl (I9.rat 2 rfl)) rfl ⟨rfl, I9.bl⟩
  ·
   have HIO : Hid (∀ V, Calls Tryz.prog 27 #[.string (bs l)] V fun e w' => ∃ (A : Option Addr) (cA : Nat), e = .returned (.tuple #[.agg #[.bool false, .slice A m cA], .int .i64 0]) ∧ Good w' false A m cA n ∧ Below V.heap.size V w') := HIO0
   have HOF : Hid (∀ V, Calls Tryz.prog 15 #[.int .i64 1] V fun e w' => e = .returned (ratV false 1 false 1) ∧ Below V.heap.size V w') := fun V => Of_run8 1 false 1 V (by omega) rfl rfl
   clear h hi hkk HIO0 hm
   go_enter Tryz.func32, Tryz.ntmps32
   go_wp2_with fail
   refine (HIO.out _).mono ?_
   rintro e w4 ⟨A, cA, rfl, hg, hw⟩
   replace I := Lib.hid ((I.out.below hw).pushDig hg)
   clear hw hg HIO hW
   obtain ⟨N, hN⟩ : ∃ N, w4.heap.size = N := ⟨_, rfl⟩
   have J4 := I.out.pushNum hN false none 0 0
   obtain ⟨a1, ha⟩ : ∃ x, w4.alloc (boxN false none 0 0) = x := ⟨_, rfl⟩
   rw [ha] at J4
   have HI4 := Lib.hid (J4.num 0 rfl)
   have I5 := Lib.hid (J4.putNum 0 rfl false A m cA rfl)
   clear J4 I
   go_upto_region 3 with (with_reducible refine wpList_store_num rfl (.tmp 6) (.tmp 15) rfl (b := N) (t := false) (B := A) (M := m) (d := cA) rfl rfl HI4.out ?_)
   clear HI4 ha
   generalize st2 a1 N false A m cA = w5 at *
   have I := I5
   clear I5
   have HTo := Lib.hid (fun V (hg : Good V false A m cA n) => To_run false A m cA n V HFN.out hg.digs hg.len hg.cap)
   have HG := Lib.hid (I.out.dig 1 rfl)
   have HNm := Lib.hid (I.out.num 0 rfl)
   go_wp2_with (with_reducible refine wpList_load_num rfl (.tmp 6) rfl rfl HNm.out ?_)
   refine (HTo.out _ HG.out).mono ?_
   rintro e w6 ⟨rfl, hw⟩
   replace I := Lib.hid (I.out.below hw)
   clear hw HTo HG HNm
   obtain ⟨M, hM⟩ : ∃ M, w6.heap.size = M := ⟨_, rfl⟩
   have J4 := I.out.pushIntZ hM 25
   obtain ⟨a6, ha⟩ : ∃ x, w6.alloc (boxIZ 25) = x := ⟨_, rfl⟩
   rw [ha] at J4
   have HI4 := Lib.hid (J4.int 0 rfl)
   have I5 := Lib.hid (J4.putInt 0 rfl false n rfl)
   clear J4 I
   go_upto_region 6 with (with_reducible refine wpList_store_int rfl (.tmp 8) (.tmp 24) rfl (b := M) (s := false) (n := n) rfl rfl HI4.out ?_)
   clear HI4 ha
   generalize st9 a6 M false n = w7 at *
   refine rg_begin (fun V => Bs w S [.int M false n] V) (by kernel_rfl) (I5.out.drew.sub (.cons_cons _ (.cons _ (.cons _ (.cons _ .slnil))))) (fun hS => ?_)
   refine rg_take 0 (intV false n) rfl (by kernel_rfl) (by kernel_rfl) (by kernel_rfl) (fun _ _ _ h => h) rfl (fun w hSw => ld_int (.tmp 8) rfl rfl (hSw.int 0 rfl).o) hS ?_
   simp only [zA, zB, zC, Act.put, zD, zE, zF]
   have hI := I5.out.drew
   clear I5 hS
   generalize w7.drew = V0 at *
   refine rg_one 1 (by kernel_rfl) (rs_of rfl rfl (wp_call rfl enters_Of9 rfl (HOF.out _) (fun V1 hV => ⟨(hI.below hV).sub (.cons_cons _ (.cons _ (.cons _ (.cons _ .slnil)))), ?_⟩)))
   replace hI := hI.below hV
   clear hV
   simp only [zA, zB, zC, Act.put, zD, zE, zF]
   have hS : Bs w S [.int M false n] V1 := hI.sub (.cons_cons _ (.cons _ (.cons _ (.cons _ .slnil))))
   refine rg_take 2 (intV false 1) rfl (by kernel_rfl) (by kernel_rfl) (by kernel_rfl) (fun _ _ _ h => h) rfl (fun w hSw => fld_rat0 rfl rfl) hS ?_
   simp only [zA, zB, zC, Act.put, zD, zE, zF]
   refine rg_take 3 (ratV false n false 1) rfl (by kernel_rfl) (by kernel_rfl) (by kernel_rfl) (fun _ _ _ h => h) rfl (fun w hSw => build_rat rfl rfl rfl) hS ?_
   simp only [zA, zB, zC, Act.put, zD, zE, zF]
   clear hS
   have hJ := hI.putRat 3 rfl false n false 1 rfl
   have hS : Bs w S [.int M false n] (st18 V1 S false n false 1) := hJ.sub (.cons_cons _ (.cons _ (.cons _ (.cons _ .slnil))))
   refine rg_one 4 (by kernel_rfl) (rs_of rfl rfl (stores_rat (.tmp 4) (.tmp 29) rfl (s := false) (n := n) (t := false) (d := 1) rfl rfl (hI.rat 3 rfl) ⟨hS, ?_⟩))
   simp only [zA, zB, zC, Act.put, zD, zE, zF]
   refine rg_take 5 (.int .i64 0) rfl (by kernel_rfl) (by kernel_rfl) (by kernel_rfl) (fun _ _ _ h => h) rfl (fun w _ => ?_) hS ?_
   ·go_simp
   simp only [zA, zB, zC, Act.put, zD, zE, zF]
   refine wpAnyH_done (by kernel_rfl) ?_ _
   (try simp only [Exit.inBlock, Exit.then])
   go_wp2_with fail
   exact bodyPost_ret (v := .tuple #[ratV false n false 1, .int .i64 0]) (results_rat rfl rfl rfl (hJ.rat 3 rfl)) rfl ⟨rfl, hJ.bl⟩
 ·
  obtain ⟨ys, yn, yd, yk⟩ := y
  have HFL := Lib.hid (fun V => FloatOf_run l _ V hl hf)
  dsimp only at HFL ⊢
  clear h hf
  go_enter Tryz.func32, Tryz.ntmps32
  go_wp2_with fail
  refine (HFL.out _).mono ?_
  rintro e w4 ⟨rfl, hw⟩
  have I3 := Lib.hid (I.out.below hw)
  have HA := Lib.hid (I3.out.rat 0 rfl)
  clear hw I hW
  go_wp2_with (with_reducible refine wpList_store_rat rfl (.tmp 4) (.tmp 34) rfl (b := S) (s := ys) (n := yn) (t := false) (d := yd) rfl rfl HA.out ?_)
  have I9 := I3.out.putRat 0 rfl ys yn false yd rfl
  exact bodyPost_ret (v := .tuple #[ratV ys yn false yd, .int .i64 (yk : Int)]) (results_rat rfl rfl rfl (I9.rat 0 rfl)) rfl ⟨rfl, I9.bl⟩
 ·
  have e2 : (kind == 2) = false := beq_eq_false_iff_ne.2 h2
  have e3 : (kind == 3) = false := beq_eq_false_iff_ne.2 h3
  clear h h2 h3
  go_enter Tryz.func32, Tryz.ntmps32
  have HA := Lib.hid (I.out.rat 0 rfl)
  go_wp2_with (first | (with_reducible refine wpList_val (v := ratV false 0 false 0) rfl (build_zero rfl) ?_) | (with_reducible refine wpList_store_rat rfl (.tmp 4) (.tmp 36) rfl (b := S) (s := false) (n := 0) (t := false) (d := 0) rfl rfl HA.out ?_))
  have I9 := I.out.putRat 0 rfl false 0 false 0 rfl
  exact bodyPost_ret (v := .tuple #[ratV false 0 false 0, .int .i64 11]) (results_rat rfl rfl rfl (I9.rat 0 rfl)) rfl ⟨rfl, I9.bl⟩
end Go.Proofs.YtgoemhcngmpfbaaGreatDoor
namespace Go.Proofs.YtgoemhcngmpfbaaGreatDoor
open Go.RowKit Go.Sort
set_option linter.unusedSimpArgs false
theorem float_fits {l : List UInt8} {y : Q4} (h : FloatIs l y) : Fits y.n ∧ Fits y.d ∧ y.k ≤ 25 := by
 have hz : Fits 0 := Nat.pow_pos (by decide)
 have h1 : Fits 1 := Nat.lt_of_lt_of_le (show 1 < 18446744073709551616 by decide) (Nat.le_self_pow (by decide) _)
 rcases h with ⟨_, rfl⟩ | ⟨_, ⟨_, rfl⟩ | ⟨_, ⟨_, rfl⟩ | ⟨_, rfl⟩⟩⟩
 ·exact ⟨hz, hz, by decide⟩
 ·exact ⟨hz, hz, by decide⟩
 ·exact ⟨hz, hz, by decide⟩
 ·have := scl_fits false (parN 10 (ptW l ++ ptF l)) false 1 10 (powZ (ptS l) (ptX l) - ((ptF l).length : Int)) (parN_fits _ _) h1
  exact ⟨this.1, this.2, scl_le _ _ _ _ _ _⟩
theorem value_fits {kind : Int} {l : List UInt8} {y : Q4} (h : ValueIs kind l y) : Fits y.n ∧ Fits y.d ∧ y.k ≤ 25 := by
 have hz : Fits 0 := Nat.pow_pos (by decide)
 have h1 : Fits 1 := Nat.lt_of_lt_of_le (show 1 < 18446744073709551616 by decide) (Nat.le_self_pow (by decide) _)
 rcases h with ⟨_, k, n, hi, ⟨_, rfl⟩ | ⟨_, rfl⟩⟩ | ⟨_, h⟩ | ⟨_, _, rfl⟩
 ·have := (int_k hi).1
  exact ⟨hz, hz, by show k ≤ 25; omega⟩
 ·exact ⟨(int_k hi).2.1, h1, Nat.zero_le _⟩
 ·exact float_fits h
 ·exact ⟨hz, hz, by decide⟩
theorem scan_le {l : List UInt8} {at_ kind : Int} {k e : Nat} (h : ScanIs l at_ kind k e) : e ≤ 25 := by
 rcases h with ⟨_, _, _, rfl⟩ | ⟨_, _, _, _, _, y, hy, rfl⟩
 ·decide
 ·exact (value_fits hy).2.2
end Go.Proofs.YtgoemhcngmpfbaaGreatDoor
namespace Go.Proofs.YtgoemhcngmpfbaaGreatDoor
open Go.RowKit Go.Sort
set_option linter.unusedSimpArgs false
def isLet (c : Nat) : Bool := decide ((97 ≤ c ∧ c ≤ 122) ∨ (65 ≤ c ∧ c ≤ 90))
theorem part_doc (c : Nat) : isPart c = (isLet c || (isDig c || (decide (c = 95) || decide (c = 46)))) := by
 rw [Bool.eq_iff_iff]
 unfold isPart isLet isDig clsN
 simp only [Bool.or_eq_true, decide_eq_true_eq]
 split
 ·omega
 ·split
  ·omega
  ·split <;> omega
set_option maxRecDepth 100000 in
theorem letter9_run (c : Nat) (w : World) :
  Calls Tryz.prog 98 #[.int .u8 (c : Int)] w fun e w' => e = .returned (.bool (isLet c)) ∧ w' = w := by
 rcases (show c < 65 ∨ (65 ≤ c ∧ c ≤ 90) ∨ (90 < c ∧ c < 97) ∨ (97 ≤ c ∧ c ≤ 122) ∨ 122 < c by omega) with h | h | h | h | h
 ·rw [show isLet c = false by unfold isLet; exact decide_eq_false (by omega)]
  have f0 : ¬ (97 : Int) ≤ (c : Int) := by omega
  have f1 : ¬ (65 : Int) ≤ (c : Int) := by omega
  clear h
  go_enter Tryz.func98, Tryz.ntmps98
  go_wp2_with fail
  go_ret
  exact ⟨rfl, rfl⟩
 ·rw [show isLet c = true by unfold isLet; exact decide_eq_true (by omega)]
  have f0 : ¬ (97 : Int) ≤ (c : Int) := by omega
  have f1 : (65 : Int) ≤ (c : Int) := by omega
  have f2 : (c : Int) ≤ 90 := by omega
  clear h
  go_enter Tryz.func98, Tryz.ntmps98
  go_wp2_with fail
  go_ret
  exact ⟨rfl, rfl⟩
 ·rw [show isLet c = false by unfold isLet; exact decide_eq_false (by omega)]
  have f0 : ¬ (97 : Int) ≤ (c : Int) := by omega
  have f1 : (65 : Int) ≤ (c : Int) := by omega
  have f2 : ¬ (c : Int) ≤ 90 := by omega
  clear h
  go_enter Tryz.func98, Tryz.ntmps98
  go_wp2_with fail
  go_ret
  exact ⟨rfl, rfl⟩
 ·rw [show isLet c = true by unfold isLet; exact decide_eq_true (by omega)]
  have f0 : (97 : Int) ≤ (c : Int) := by omega
  have f1 : (c : Int) ≤ 122 := by omega
  clear h
  go_enter Tryz.func98, Tryz.ntmps98
  go_wp2_with fail
  go_ret
  exact ⟨rfl, rfl⟩
 ·rw [show isLet c = false by unfold isLet; exact decide_eq_false (by omega)]
  have f0 : (97 : Int) ≤ (c : Int) := by omega
  have f1 : ¬ (c : Int) ≤ 122 := by omega
  have f2 : (65 : Int) ≤ (c : Int) := by omega
  have f3 : ¬ (c : Int) ≤ 90 := by omega
  clear h
  go_enter Tryz.func98, Tryz.ntmps98
  go_wp2_with fail
  go_ret
  exact ⟨rfl, rfl⟩
theorem pfx_take2 : ∀ l : List UInt8, pfxB (l.take 2) = pfxB l
 | [] => rfl
 | [_] => rfl
 | _ :: _ :: _ => rfl
def BodyS (l : List UInt8) (at_ : Int) (k : Nat) : Prop :=
 ((at_ < 0 ∨ (l.length : Int) ≤ at_ ∨ begL (l.drop at_.toNat) = false) ∧ k = 0) ∨
 (0 ≤ at_ ∧ at_ < (l.length : Int) ∧ begL (l.drop at_.toNat) = true ∧ BodyN (sgOf (l.drop at_.toNat)) (l.drop at_.toNat) k)
theorem beg_dig {m : List UInt8} {c : UInt8} (h : m[0]? = some c) (hd : isDig c.toNat = true) : begL m = true := by
 cases m with
 | nil => cases h
 | cons a r =>
  obtain rfl : a = c := Option.some.inj h
  show (isDig a.toNat || _) = true
  rw [hd]
  rfl
theorem beg_dot {m : List UInt8} {c d : UInt8} (h : m[0]? = some c) (hd : isDig c.toNat = false) (h46 : c = 46) (hn : m[1]? = some d) : begL m = isDig d.toNat := by
 match m, h, hn with
 | [], h, _ => cases h
 | [_], _, hn => cases hn
 | a :: e :: r, h, hn =>
  obtain rfl : a = c := Option.some.inj h
  obtain rfl : e = d := Option.some.inj hn
  subst h46
  rfl
theorem beg_not {m : List UInt8} {c : UInt8} (h : m[0]? = some c) (hd : isDig c.toNat = false) (h46 : c ≠ 46 ∨ m.length < 2) : begL m = false := by
 match m, h with
 | [], h => cases h
 | a :: r, h =>
  obtain rfl : a = c := Option.some.inj h
  show (isDig a.toNat || (a == 46 && _)) = false
  rw [hd, Bool.false_or]
  rcases h46 with h46 | h46
  ·rw [show (a == 46) = false from beq_eq_false_iff_ne.2 h46, Bool.false_and]
  ·cases r with
   | nil => exact Bool.and_false _
   | cons x y =>
    simp only [List.length_cons] at h46
    omega
theorem sgn_iff {c : UInt8} : isSgn c.toNat = true ↔ (c = 43 ∨ c = 45) := by
 unfold isSgn
 rw [decide_eq_true_eq]
 constructor
 ·rintro (h | h)
  ·exact .inl (UInt8.toNat_inj.1 h)
  ·exact .inr (UInt8.toNat_inj.1 h)
 ·rintro (rfl | rfl)
  ·exact .inl rfl
  ·exact .inr rfl
theorem mrk_iff {c : UInt8} : isMrk c.toNat = true ↔ (c = 101 ∨ c = 69) := by
 unfold isMrk
 rw [decide_eq_true_eq]
 constructor
 ·rintro (h | h)
  ·exact .inl (UInt8.toNat_inj.1 h)
  ·exact .inr (UInt8.toNat_inj.1 h)
 ·rintro (rfl | rfl)
  ·exact .inl rfl
  ·exact .inr rfl
set_option maxRecDepth 100000 in
set_option maxHeartbeats 16000000 in
theorem Body9_run (A : Option Addr) (n cap : Nat) (at_ : Int) (l : List UInt8) (k : Nat) (w : World) (B : Nat) (hb : Byts w B A (bi l)) (hn : l.length = n) (hm : n ≤ 10000) (hcap : n ≤ cap) (h : Hid (BodyS l at_ k)) :
  Calls Tryz.prog 58 #[.slice A n cap, .int .i64 at_] w fun e w' => e = .returned (.string (bs ((l.drop at_.toNat).take k))) ∧ w' = w := by
 by_cases h1 : at_ < 0
 ·have HE : Hid (k = 0) := by
   rcases h.out with ⟨_, h⟩ | ⟨h, _⟩
   ·exact h
   ·omega
  clear h hb
  go_enter Tryz.func58, Tryz.ntmps58
  go_wp2_with fail
  go_ret
  exact ⟨by rw [HE.out]; rfl, rfl⟩
 ·by_cases h2 : (n : Int) ≤ at_
  ·have HE : Hid (k = 0) := by
    rcases h.out with ⟨_, h⟩ | ⟨_, h, _⟩
    ·exact h
    ·omega
   have h1' : decide (at_ < 0) = false := by simpa using h1
   clear h hb
   go_enter Tryz.func58, Tryz.ntmps58
   go_wp2_with fail
   go_ret
   exact ⟨by rw [HE.out]; rfl, rfl⟩
  ·obtain ⟨a, rfl⟩ : ∃ a : Nat, at_ = (a : Int) := ⟨at_.toNat, by omega⟩
   have han : a < n := by omega
   obtain ⟨b, o, rfl, hd⟩ := hb.dropN (i := a) (by rw [bi_length]; omega)
   rw [bi_drop] at hd
   have h' := h.out
   unfold BodyS at h'
   rw [Int.toNat_natCast] at h' ⊢
   have hdl : (l.drop a).length = n - a := by rw [List.length_drop, hn]
   have hml : ∀ j, (l.drop a)[j]? = l[a + j]? := fun j => List.getElem?_drop
   obtain ⟨c, hc⟩ : ∃ c, l[a]? = some c := ⟨l[a]'(by omega), List.getElem?_eq_getElem (by omega)⟩
   have hc0 : (l.drop a)[0]? = some c := by rw [hml, Nat.add_zero]; exact hc
   obtain ⟨m, hmm⟩ : ∃ m, l.drop a = m := ⟨_, rfl⟩
   rw [hmm] at h' hd hdl hml hc0 ⊢
   clear hmm h
   have ha0 : decide ((a : Int) < 0) = false := by simp
   have ha1 : decide (n ≤ a) = false := decide_eq_false (by omega)
   have ha2 : ¬ (n : Int) ≤ (a : Int) := by omega
   have hx := byts_cell hb hc
   have HDc := Lib.hid (fun V => digit9_run c.toNat V)
   have hne : ¬ cap = a := by omega
   have hcv : ∀ V j, Byts V B (some ⟨b, o + a, none⟩) (bi m) → j ≤ n - a → (convert 48 9 (.slice (some ⟨b, o + a, none⟩) j (cap - a))).run Tryz.prog V = .ok (.string (bs (m.take j))) V := fun V j hV hj => by
    have := conv_bytes (hV.take j) j (cap - a) (by rw [bi_take, bi_length, List.length_take, hdl]; omega)
    rwa [bi_take, bi_str] at this
   have HCV := Lib.hid hcv
   have HB := Lib.hid hb
   have HD := Lib.hid hd
   have HH := Lib.hid h'
   clear hcv hb hd h'
   obtain ⟨dg, hdg⟩ : ∃ dg, isDig c.toNat = dg := ⟨_, rfl⟩
   rw [hdg] at HDc
   go_enter Tryz.func58, Tryz.ntmps58
   go_upto_region 3 with fail
   go_cut [22] (fun s22 wx => s22 = .bool (!dg) ∧ wx = w)
   case first =>
    clear hdg hc0 hc
    generalize c.toNat = cn at *
    go_wp2_with fail
    refine (HDc.out _).mono ?_
    rintro e w1 ⟨rfl, rfl⟩
    go_wp2_with fail
    go_meet
    exact ⟨rfl, rfl⟩
   case rest =>
   obtain ⟨rfl, rfl⟩ := hcut
   clear HDc
   go_upto_if 22 with fail
   go_cut [] (fun wx => Hid (begL m = true) ∧ wx = wc)
   case first =>
    cases dg
    ·by_cases h46 : c = 46
     ·by_cases hlt : a + 1 < n
      ·obtain ⟨d, hd2⟩ : ∃ d, l[a + 1]? = some d := ⟨l[a + 1]'(by omega), List.getElem?_eq_getElem (by omega)⟩
       have hbg := Lib.hid (beg_dot hc0 hdg h46 (by rw [hml]; exact hd2))
       have hy := byts_cell HB.out hd2
       have HDd := Lib.hid (fun V => digit9_run d.toNat V)
       obtain ⟨ap, hap⟩ : ∃ ap, a + 1 = ap := ⟨_, rfl⟩
       have hapz : (a : Int) + 1 = (ap : Int) := by omega
       have hapn : ap < n := by omega
       have hapz2 : ¬ (n : Int) ≤ (ap : Int) := by omega
       rw [hap] at hy
       subst h46
       have hx46 : wc.cell? ⟨b, o + a, none⟩ = some (.int .u8 46) := hx
       clear hx hdg hc0 hc hd2 hap
       cases hv : isDig d.toNat
       ·rw [hv] at HDd hbg
        have HE : Hid (k = 0) := by
         rcases HH.out with ⟨_, h⟩ | ⟨_, _, h, _⟩
         ·exact h
         ·rw [hbg.out] at h; cases h
        clear hv
        generalize d.toNat = dn at *
        go_wp2_with fail
        refine (HDd.out _).mono ?_
        rintro e w1 ⟨rfl, rfl⟩
        go_wp2_with fail
        go_ret
        exact ⟨by rw [HE.out]; rfl, rfl⟩
       ·rw [hv] at HDd hbg
        clear hv
        generalize d.toNat = dn at *
        go_wp2_with fail
        refine (HDd.out _).mono ?_
        rintro e w1 ⟨rfl, rfl⟩
        go_wp2_with fail
        go_meet
        exact ⟨hbg.out, rfl⟩
      ·have HE : Hid (k = 0) := by
        rcases HH.out with ⟨_, h⟩ | ⟨_, _, h, _⟩
        ·exact h
        ·rw [beg_not hc0 hdg (.inr (by omega))] at h; cases h
       have hapz2 : (n : Int) ≤ (a : Int) + 1 := by omega
       subst h46
       have hx46 : wc.cell? ⟨b, o + a, none⟩ = some (.int .u8 46) := hx
       clear hx hdg hc0 hc
       go_wp2_with fail
       go_ret
       exact ⟨by rw [HE.out]; rfl, rfl⟩
     ·have HE : Hid (k = 0) := by
       rcases HH.out with ⟨_, h⟩ | ⟨_, _, h, _⟩
       ·exact h
       ·rw [beg_not hc0 hdg (.inl h46)] at h; cases h
      have e46 : ((c.toNat : Int) != 46) = true := by rw [bne_iff_ne]; intro e; exact h46 (UInt8.toNat_inj.1 (by show c.toNat = 46; omega))
      clear hdg hc0 hc h46
      generalize c.toNat = cn at *
      go_wp2_with fail
      go_ret
      exact ⟨by rw [HE.out]; rfl, rfl⟩
    ·have hbg := Lib.hid (beg_dig hc0 hdg)
     clear hdg hc0 hc
     go_wp2_with fail
     go_meet
     exact ⟨hbg.out, rfl⟩
   case rest =>
   obtain ⟨hbg, rfl⟩ := hcut
   have hk : BodyN (sgOf m) m k := by
    rcases HH.out with ⟨h | h | h, _⟩ | ⟨_, _, _, h⟩
    ·omega
    ·omega
    ·rw [hbg.out] at h; cases h
    ·exact h
   clear HH hx hdg hc0 hc hbg
   unfold sgOf at hk
   rw [pfx_take2] at hk
   obtain ⟨sg, hsg⟩ : ∃ sg, (!decide (pfxB m = 16)) = sg := ⟨_, rfl⟩
   rw [hsg] at hk
   have HBa := Lib.hid (fun V => Base9_run m V (by omega))
   have hcm := HCV.out wc (n - a) HD.out (Nat.le_refl _)
   rw [List.take_of_length_le (by omega)] at hcm
   generalize pfxB m = Q at *
   have hQz : ((Q : Int) == 16) = !sg := by
    rw [← hsg, Bool.not_not, Bool.eq_iff_iff]
    simp only [beq_iff_eq, decide_eq_true_eq]
    omega
   have HK := Lib.hid hk
   clear hsg hk
   go_wp2_with fail
   refine (HBa.out _).mono ?_
   rintro e w1 ⟨rfl, rfl⟩
   clear HBa hcm
   go_wp2_with fail
   go_loopg [6] (n + 1) (fun h s6 wr => ∃ i : Nat, s6 = .int .i64 ((a + i : Nat) : Int) ∧ Hid (a + i + h = a + n + 1) ∧ a + i ≤ n ∧ Hid (∀ j, j < i → okAt sg m j = true) ∧ wr = w1)
   case atStart => exact ⟨0, rfl, by show _ = _; omega, by omega, fun j hj => absurd hj (by omega), rfl⟩
   case round =>
    obtain ⟨i, rfl, HI, hin, HS, rfl⟩ := hrel
    obtain ⟨e, he⟩ : ∃ e, a + i = e := ⟨_, rfl⟩
    rw [he] at hin ⊢
    have hae : a ≤ e := by omega
    have hei : e - a = i := by omega
    by_cases hlt : e < n
    ·have hez : (e : Int) < (n : Int) := by omega
     obtain ⟨c, hc⟩ : ∃ c, l[e]? = some c := ⟨l[e]'(by omega), List.getElem?_eq_getElem (by omega)⟩
     have hx := byts_cell HB.out hc
     have hci : m[i]? = some c := by rw [hml, he]; exact hc
     have hok : Hid (okAt sg m i = (isPart c.toNat || (sg && (decide (0 < i) && (isSgn c.toNat && isMrk (m.getD (i - 1) 0).toNat))))) := by
      show _ = _
      unfold okAt
      rw [getD_of hci]
     have hpd := Lib.hid (part_doc c.toNat)
     obtain ⟨pt, hpt⟩ : ∃ pt, isPart c.toNat = pt := ⟨_, rfl⟩
     rw [hpt] at hok hpd
     clear hpt
     obtain ⟨sn, hsn⟩ : ∃ sn, (sg && (decide (0 < i) && (isSgn c.toNat && isMrk (m.getD (i - 1) 0).toNat))) = sn := ⟨_, rfl⟩
     rw [hsn] at hok
     have HSN := Lib.hid hsn
     have HC := Lib.hid hc
     replace he := Lib.hid he
     clear hsn hci hc
     go_upto_region 10 with fail
     go_cut [8] from 51 to 112 (fun s8 wx => s8 = .bool pt ∧ wx = wr)
     case first =>
      have HL := Lib.hid (fun V => letter9_run c.toNat V)
      have HDg := Lib.hid (fun V => digit9_run c.toNat V)
      cases hl : isLet c.toNat
      ·cases hg : isDig c.toNat
       ·rw [hl, hg, Bool.false_or, Bool.false_or] at hpd
        rw [hl] at HL
        rw [hg] at HDg
        by_cases h95 : c = 95
        ·subst h95
         obtain rfl : pt = true := hpd.out
         have HL2 : Hid (∀ V, Calls Tryz.prog 98 #[.int .u8 95] V fun e w' => e = .returned (.bool false) ∧ w' = V) := HL
         have HD2 : Hid (∀ V, Calls Tryz.prog 71 #[.int .u8 95] V fun e w' => e = .returned (.bool false) ∧ w' = V) := HDg
         have e0 : (((95 : UInt8).toNat : Nat) : Int) = 95 := rfl
         rw [e0]
         clear HL HDg hl hg hx
         go_wp2_with fail
         refine (HL2.out _).mono ?_
         rintro e w2 ⟨rfl, rfl⟩
         go_wp2_with fail
         refine (HD2.out _).mono ?_
         rintro e w2 ⟨rfl, rfl⟩
         go_wp2_with fail
         go_meet
         exact ⟨rfl, rfl⟩
        ·by_cases h46 : c = 46
         ·subst h46
          obtain rfl : pt = true := hpd.out
          have HL2 : Hid (∀ V, Calls Tryz.prog 98 #[.int .u8 46] V fun e w' => e = .returned (.bool false) ∧ w' = V) := HL
          have HD2 : Hid (∀ V, Calls Tryz.prog 71 #[.int .u8 46] V fun e w' => e = .returned (.bool false) ∧ w' = V) := HDg
          have e0 : (((46 : UInt8).toNat : Nat) : Int) = 46 := rfl
          rw [e0]
          clear HL HDg hl hg hx
          go_wp2_with fail
          refine (HL2.out _).mono ?_
          rintro e w2 ⟨rfl, rfl⟩
          go_wp2_with fail
          refine (HD2.out _).mono ?_
          rintro e w2 ⟨rfl, rfl⟩
          go_wp2_with fail
          go_meet
          exact ⟨rfl, rfl⟩
         ·have e1 : ((c.toNat : Int) == 95) = false := eq_byte h95
          have e2 : ((c.toNat : Int) == 46) = false := eq_byte h46
          obtain rfl : pt = false := by
           rw [hpd.out, decide_eq_false (show ¬ c.toNat = 95 from fun g => h95 (UInt8.toNat_inj.1 g)), decide_eq_false (show ¬ c.toNat = 46 from fun g => h46 (UInt8.toNat_inj.1 g))]
           rfl
          clear hl hg h95 h46 hx HC HSN hok hpd
          generalize c.toNat = cn at *
          go_wp2_with fail
          refine (HL.out _).mono ?_
          rintro e w2 ⟨rfl, rfl⟩
          go_wp2_with fail
          refine (HDg.out _).mono ?_
          rintro e w2 ⟨rfl, rfl⟩
          go_wp2_with fail
          go_meet
          exact ⟨rfl, rfl⟩
       ·rw [hl, hg] at hpd
        obtain rfl : pt = true := hpd.out
        rw [hl] at HL
        rw [hg] at HDg
        clear hl hg hx HC HSN hok hpd
        generalize c.toNat = cn at *
        go_wp2_with fail
        refine (HL.out _).mono ?_
        rintro e w2 ⟨rfl, rfl⟩
        go_wp2_with fail
        refine (HDg.out _).mono ?_
        rintro e w2 ⟨rfl, rfl⟩
        go_wp2_with fail
        go_meet
        exact ⟨rfl, rfl⟩
      ·rw [hl] at hpd HL
       obtain rfl : pt = true := hpd.out
       clear hl hx HC HSN hok hpd HDg
       generalize c.toNat = cn at *
       go_wp2_with fail
       refine (HL.out _).mono ?_
       rintro e w2 ⟨rfl, rfl⟩
       go_wp2_with fail
       go_meet
       exact ⟨rfl, rfl⟩
     case rest =>
     obtain ⟨rfl, rfl⟩ := hcut
     go_upto_region 11 with fail
     go_cut [103] from 51 to 112 (fun s103 wx => s103 = .bool sn ∧ wx = wc)
     case first =>
      clear hx hpd hok
      by_cases hs : c = 43 ∨ c = 45
      ·have hs2 : isSgn c.toNat = true := sgn_iff.2 hs
       rw [hs2, Bool.true_and] at HSN
       cases sg
       ·obtain rfl : sn = false := HSN.out.symm
        clear HSN hs2
        rcases hs with rfl | rfl
        ·have e0 : (((43 : UInt8).toNat : Nat) : Int) = 43 := rfl
         rw [e0]
         go_wp2_with fail
         go_meet
         exact ⟨rfl, rfl⟩
        ·have e0 : (((45 : UInt8).toNat : Nat) : Int) = 45 := rfl
         rw [e0]
         go_wp2_with fail
         go_meet
         exact ⟨rfl, rfl⟩
       ·by_cases h0 : 0 < i
        ·have h0z : (a : Int) < (e : Int) := by omega
         rw [decide_eq_true h0, Bool.true_and, Bool.true_and] at HSN
         obtain ⟨ep, hep⟩ : ∃ ep, e = ep + 1 := ⟨e - 1, by omega⟩
         have hepz : (e : Int) - 1 = (ep : Int) := by omega
         have hepn : ep < n := by omega
         obtain ⟨d, hd⟩ : ∃ d, l[ep]? = some d := ⟨l[ep]'(by omega), List.getElem?_eq_getElem (by omega)⟩
         have hy := byts_cell HB.out hd
         have hdi : m.getD (i - 1) 0 = d := getD_of (by rw [hml, show a + (i - 1) = ep by omega]; exact hd)
         rw [hdi] at HSN
         clear hd hdi hep hs2
         by_cases h101 : d = 101
         ·subst h101
          obtain rfl : sn = true := HSN.out.symm
          have hy2 : wc.cell? ⟨b, o + ep, none⟩ = some (.int .u8 101) := hy
          clear hy HSN
          rcases hs with rfl | rfl
          ·have e0 : (((43 : UInt8).toNat : Nat) : Int) = 43 := rfl
           rw [e0]
           go_wp2_with fail
           go_meet
           exact ⟨rfl, rfl⟩
          ·have e0 : (((45 : UInt8).toNat : Nat) : Int) = 45 := rfl
           rw [e0]
           go_wp2_with fail
           go_meet
           exact ⟨rfl, rfl⟩
         ·by_cases h69 : d = 69
          ·subst h69
           obtain rfl : sn = true := HSN.out.symm
           have hy2 : wc.cell? ⟨b, o + ep, none⟩ = some (.int .u8 69) := hy
           clear hy HSN h101
           rcases hs with rfl | rfl
           ·have e0 : (((43 : UInt8).toNat : Nat) : Int) = 43 := rfl
            rw [e0]
            go_wp2_with fail
            go_meet
            exact ⟨rfl, rfl⟩
           ·have e0 : (((45 : UInt8).toNat : Nat) : Int) = 45 := rfl
            rw [e0]
            go_wp2_with fail
            go_meet
            exact ⟨rfl, rfl⟩
          ·have hf : Hid (sn = false) := by
            rw [← HSN.out]
            cases g : isMrk d.toNat
            ·rfl
            ·exact absurd (mrk_iff.1 g) (fun g => g.elim h101 h69)
           have e1 : ((d.toNat : Int) == 101) = false := eq_byte h101
           have e2 : ((d.toNat : Int) == 69) = false := eq_byte h69
           clear HSN h101 h69
           generalize d.toNat = dn at *
           rcases hs with rfl | rfl
           ·have e0 : (((43 : UInt8).toNat : Nat) : Int) = 43 := rfl
            rw [e0]
            go_wp2_with fail
            go_meet
            exact ⟨by rw [hf.out], rfl⟩
           ·have e0 : (((45 : UInt8).toNat : Nat) : Int) = 45 := rfl
            rw [e0]
            go_wp2_with fail
            go_meet
            exact ⟨by rw [hf.out], rfl⟩
        ·have h0z : ¬ (a : Int) < (e : Int) := by omega
         rw [decide_eq_false h0] at HSN
         obtain rfl : sn = false := HSN.out.symm
         clear HSN hs2 h0
         rcases hs with rfl | rfl
         ·have e0 : (((43 : UInt8).toNat : Nat) : Int) = 43 := rfl
          rw [e0]
          go_wp2_with fail
          go_meet
          exact ⟨rfl, rfl⟩
         ·have e0 : (((45 : UInt8).toNat : Nat) : Int) = 45 := rfl
          rw [e0]
          go_wp2_with fail
          go_meet
          exact ⟨rfl, rfl⟩
      ·have hs2 : isSgn c.toNat = false := by
        cases g : isSgn c.toNat
        ·rfl
        ·exact absurd (sgn_iff.1 g) hs
       have hf : Hid (sn = false) := by
        rw [← HSN.out, hs2, Bool.false_and, Bool.and_false, Bool.and_false]
        exact rfl
       have e1 : ((c.toNat : Int) == 43) = false := eq_byte (fun g => hs (.inl g))
       have e2 : ((c.toNat : Int) == 45) = false := eq_byte (fun g => hs (.inr g))
       clear HSN hs hs2 HC
       generalize c.toNat = cn at *
       go_wp2_with fail
       go_meet
       exact ⟨by rw [hf.out], rfl⟩
     case rest =>
     obtain ⟨rfl, rfl⟩ := hcut
     clear HC HSN hpd hx
     generalize c.toNat = cn at *
     cases sn
     ·cases pt
      ·have HKI : Hid (k = i) := bodyN_uniq HK.out ⟨by omega, HS.out, fun _ => hok.out⟩
       have hcm := HCV.out wc i HD.out (by omega)
       rw [← hei] at hcm
       have HEI := Lib.hid hei
       clear hei hok HS
       go_wp2_with fail
       go_ret
       exact ⟨by rw [HKI.out, ← HEI.out]; rfl, rfl⟩
      ·have HS2 : Hid (∀ j, j < i + 1 → okAt sg m j = true) := fun j hj => by
        by_cases g : j = i
        ·rw [g]; exact hok.out
        ·exact HS.out j (by omega)
       clear hok HS
       go_wp2_with fail
       go_roundg (n - i)
       case measure => have := HI.out; omega
       case rel => exact ⟨i + 1, by have := he.out; go_num, by show _ = _; have := HI.out; omega, by have := he.out; omega, HS2, rfl⟩
     ·have HS2 : Hid (∀ j, j < i + 1 → okAt sg m j = true) := fun j hj => by
       by_cases g : j = i
       ·rw [g, hok.out, Bool.or_true]
       ·exact HS.out j (by omega)
      clear hok HS
      go_wp2_with fail
      go_roundg (n - i)
      case measure => have := HI.out; omega
      case rel => exact ⟨i + 1, by have := he.out; go_num, by show _ = _; have := HI.out; omega, by have := he.out; omega, HS2, rfl⟩
    ·obtain rfl : e = n := by omega
     have HKI : Hid (k = i) := bodyN_uniq HK.out ⟨by omega, HS.out, fun g => by omega⟩
     have hcm := HCV.out wr i HD.out (by omega)
     rw [← hei] at hcm
     have HEI := Lib.hid hei
     clear hei HS
     go_wp2_with fail
     go_ret
     exact ⟨by rw [HKI.out, ← HEI.out]; rfl, rfl⟩
end Go.Proofs.YtgoemhcngmpfbaaGreatDoor
