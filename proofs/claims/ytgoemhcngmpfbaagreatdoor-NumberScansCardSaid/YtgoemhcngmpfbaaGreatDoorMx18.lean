/-
  The document's sum of numbers.
-/
import Derived.Test.YtgoemhcngmpfbaaGreatDoorMx17
import Derived.Test.YtgoemhcngmpfbaaGreatDoorMx07
import Derived.Deep.RegionHeld3
import Derived.Test.YtgoemhcngmpfbaaGreatDoorMx02
import Derived.Test.YtgoemhcngmpfbaaGreatDoorMx09
import Derived.Test.YtgoemhcngmpfbaaGreatDoorMx03
namespace Go.Proofs.YtgoemhcngmpfbaaGreatDoor
open Go.RowKit Go.Sort
theorem sgn_twice (s : Bool) (n : Nat) : sgn (sgn s n) n = sgn s n := by
 unfold sgn
 cases s <;> simp
theorem three_nums (w : World) (s : Bool) (A : Option Addr) (L ca : Nat) (t : Bool) (B : Option Addr) (M cb S : Nat) (hS : w.heap.size = S) : NumAt (((w.alloc (boxN s A L ca)).alloc (boxN t B M cb)).alloc boxNZ) S s A L ca ∧ NumAt (((w.alloc (boxN s A L ca)).alloc (boxN t B M cb)).alloc boxNZ) (S + 1) t B M cb ∧ NumAt (((w.alloc (boxN s A L ca)).alloc (boxN t B M cb)).alloc boxNZ) (S + 1 + 1) false none 0 0 ∧ Below S w (((w.alloc (boxN s A L ca)).alloc (boxN t B M cb)).alloc boxNZ) ∧ (((w.alloc (boxN s A L ca)).alloc (boxN t B M cb)).alloc boxNZ).heap.size = S + 1 + 1 + 1 := by
 obtain ⟨h1, h2, h3, h4⟩ := two_nums w s A L ca t B M cb S hS
 refine ⟨h1.alloc _, h2.alloc _, ?_, h3.alloc (by omega) _, by simp [hS]⟩
 have := NumAt.new ((w.alloc (boxN s A L ca)).alloc (boxN t B M cb)) false none 0 0
 rwa [h4] at this
theorem NumAt.pair {W : World} {S L M ca cb : Nat} {s t : Bool} {A B : Option Addr} (h : NumAt W S s A L ca) (g : NumAt W (S + 1) t B M cb) :
  W.cell? ⟨S, 0, none⟩ = some (.bool s) ∧ W.cell? ⟨S, 1, none⟩ = some (.slice A L ca) ∧ W.cell? ⟨S + 1, 0, none⟩ = some (.bool t) ∧ W.cell? ⟨S + 1, 1, none⟩ = some (.slice B M cb) := ⟨h.c0, h.c1, g.c0, g.c1⟩
set_option maxRecDepth 100000 in
set_option maxHeartbeats 4000000 in
theorem Add_run7 (s : Bool) (A : Option Addr) (L ca n : Nat) (t : Bool) (B : Option Addr) (M cb m : Nat) (z : Bool) (r R : Nat) (w : World) (ha : Hid (Good w s A L ca n)) (hb : Hid (Good w t B M cb m)) (hs : L + M ≤ 10000)
  (hz : Hid (sgn (addS s n t m) (addN s n t m) = z)) (hr : Hid (addN s n t m = r)) (hR : Hid (nl r = R)) :
  Calls Tryz.prog 104 #[.agg #[.bool s, .slice A L ca], .agg #[.bool t, .slice B M cb]] w fun e w' => ∃ C cc, e = .returned (.agg #[.bool z, .slice C R cc]) ∧ Good w' z C R cc r ∧ Below w.heap.size w w' := by
 obtain ⟨S, hS⟩ : ∃ S, w.heap.size = S := ⟨_, rfl⟩
 obtain ⟨W0, hW0⟩ : ∃ W0, ((w.alloc (boxN s A L ca)).alloc (boxN t B M cb)).alloc boxNZ = W0 := ⟨_, rfl⟩
 have H0 := three_nums w s A L ca t B M cb S hS
 rw [hW0] at H0
 have HP := Lib.hid H0.1
 have HQ := Lib.hid H0.2.1
 have HN := Lib.hid H0.2.2.1
 have HB := Lib.hid H0.2.2.2.1
 have HZ := Lib.hid H0.2.2.2.2
 obtain ⟨p0, q0, p1, q1⟩ := H0.1
 obtain ⟨p2, q2, p3, q3⟩ := H0.2.1
 clear H0
 rw [hS]
 have hzz : Hid (sgn z r = z) := by show _ = _; rw [← hz.out, ← hr.out, sgn_twice]
 by_cases hst : s = t
 ·have hr' : Hid (n + m = r) := by have := hr.out; unfold addN at this; rw [if_pos hst] at this; exact this
  have hz' : Hid (sgn s r = z) := by have := hz.out; rw [hr.out] at this; unfold addS at this; rw [if_pos hst] at this; exact this
  subst hst
  have HA : Hid (∀ W, Below S w W → Calls Tryz.prog 82 #[.slice A L ca, .slice B M cb] W fun e w' => ∃ C cc, e = .returned (.slice C R cc) ∧ Cap R cc ∧ DgAt w' C R r ∧ Below W.heap.size W w') := fun W hW => by
   have := plus_run A B L M ca cb n m R W (ha.out.digs.keep hW (Nat.le_of_eq hS)) (hb.out.digs.keep hW (Nat.le_of_eq hS)) ha.out.len hb.out.len ha.out.cap hb.out.cap hs (by rw [hr'.out]; exact hR.out)
   rwa [hr'.out] at this
  have HR : Hid (r < 65536 ^ R) := by show _ < _; rw [← hR.out]; exact lt_nl r
  have hRK : Hid (R ≤ R) := Nat.le_refl _
  replace HZ : Hid (S + 1 + 1 + 1 ≤ W0.heap.size) := Nat.le_of_eq HZ.out.symm
  go_enter Tryz.func104, Tryz.ntmps104
  go_upto_region 2 with fail
  have D0 := Lib.hid (HP.out.drew.pair HQ.out.drew)
  clear hW0 p0 p1 p2 p3 q0 q1 q2 q3
  go_region_held3 (fun W' => W'.cell? ⟨S, 0, none⟩ = some (.bool s) ∧ W'.cell? ⟨S, 1, none⟩ = some (.slice A L ca) ∧ W'.cell? ⟨S + 1, 0, none⟩ = some (.bool s) ∧ W'.cell? ⟨S + 1, 1, none⟩ = some (.slice B M cb)) (first | with_reducible exact D0.out | with_reducible exact D1.out | with_reducible exact D2.out | exact D3.out)
   (first
    | (go_at_call 82; refine (HA.out _ HB.out.drew).mono ?_; rintro e w1 ⟨C, cc, rfl, hcc, hdd, hw1⟩; have E1 := Lib.hid hcc; have E2 := Lib.hid hdd; have P1 := Lib.hid (HP.out.drew.below hw1); have Q1 := Lib.hid (HQ.out.drew.below hw1); have N1 := Lib.hid (HN.out.drew.below hw1); have B1 := Lib.hid (HB.out.drew.trans (hw1.mono (Nat.le_trans (by omega) (show S + 1 + 1 + 1 ≤ W0.drew.heap.size from HZ.out)))); have z1 : S + 1 + 1 + 1 ≤ w1.heap.size := Nat.le_trans (show S + 1 + 1 + 1 ≤ W0.drew.heap.size from HZ.out) hw1.size; have D1 := Lib.hid (P1.out.pair Q1.out); clear hcc hdd hw1 HA)
    | (go_at_call 76; refine (trim_run s z C R cc r R w1 E2 HR E1 hz' hR).mono ?_; rintro e w2 ⟨rfl, hw2⟩; have E3 := Lib.hid (E2.out.below hw2); have P2 := Lib.hid (P1.out.below hw2); have Q2 := Lib.hid (Q1.out.below hw2); have N2 := Lib.hid (N1.out.below hw2); have B2 := Lib.hid (B1.out.trans (hw2.mono (by omega))); have D2 := Lib.hid (P2.out.pair Q2.out); have D3 := Lib.hid (NumAt.pair (P2.out.but (st2_but w2 (S + 1 + 1) z C R cc) (by omega)) (Q2.out.but (st2_but w2 (S + 1 + 1) z C R cc) (by omega))); obtain ⟨g0, h0, g1, h1⟩ := N2.out; clear hw2 P1 Q1 N1 B1 D1))
  all_goals go_wp2_with fail
  all_goals refine bodyPost_ret (v := .agg #[.bool z, .slice C R cc]) (by rw [results_cell1 rfl]; go_simp; try rfl) rfl ⟨C, cc, rfl, ⟨(E3.out.st2 N2.out).take hRK.out, hR.out, ⟨Nat.le_trans hRK.out E1.out.1, E1.out.2⟩, hzz.out⟩, (st2_but w2 (S + 1 + 1) z C R cc).2.1 S w (by omega) B2.out⟩
 ·have hst2 : (s == t) = false := by cases s <;> cases t <;> simp_all
  have HO : Hid (∀ c, cmpN n m = c → Calls Tryz.prog 75 #[.slice A L ca, .slice B M cb] W0 fun e w' => e = .returned (.int .i64 c) ∧ Below W0.heap.size W0 w') := fun c hc =>
   Order_run7 A B L M ca cb n m c W0 (ha.out.digs.keep HB.out (Nat.le_of_eq hS)) (hb.out.digs.keep HB.out (Nat.le_of_eq hS)) ha.out.len hb.out.len ha.out.cap hb.out.cap hc
  have HK : Hid (∀ w1, Below W0.heap.size W0 w1 → NumAt w1 S s A L ca ∧ NumAt w1 (S + 1) t B M cb ∧ NumAt w1 (S + 1 + 1) false none 0 0 ∧ Below S w w1 ∧ S + 1 + 1 + 1 ≤ w1.heap.size) := fun w1 hw1 =>
   ⟨HP.out.below hw1, HQ.out.below hw1, HN.out.below hw1, HB.out.trans (hw1.mono (by rw [HZ.out]; omega)), by have := hw1.size; rw [HZ.out] at this; exact this⟩
  by_cases hlt : n < m
  ·have hr' : Hid (m - n = r) := by have := hr.out; unfold addN at this; rw [if_neg hst, if_pos hlt] at this; exact this
   have hz' : Hid (sgn t r = z) := by have := hz.out; rw [hr.out] at this; unfold addS at this; rw [if_neg hst, if_pos hlt] at this; exact this
   have HC := cmpN_lt hlt
   have HA : Hid (∀ W, Below S w W → Calls Tryz.prog 83 #[.slice B M cb, .slice A L ca] W fun e w' => ∃ C cc, e = .returned (.slice C M cc) ∧ Cap M cc ∧ DgAt w' C M r ∧ Below W.heap.size W w') := fun W hW => by
    have := minus_run B A M L cb ca m n W (hb.out.digs.keep hW (Nat.le_of_eq hS)) (ha.out.digs.keep hW (Nat.le_of_eq hS)) hb.out.len ha.out.len hb.out.cap ha.out.cap (by omega) (show n ≤ m by omega)
    rwa [hr'.out] at this
   have hRK : Hid (R ≤ M) := by show _ ≤ _; rw [← hR.out, ← hb.out.len, ← hr'.out]; exact nl_mono (Nat.sub_le _ _)
   have HR : Hid (r < 65536 ^ M) := Nat.lt_of_lt_of_le (lt_nl r) (Nat.pow_le_pow_right (by decide) (by rw [hR.out]; exact hRK.out))
   have HO2 := Lib.hid (HO.out _ HC)
   clear HO HC
   go_enter Tryz.func104, Tryz.ntmps104
   go_wp2_with fail
   refine HO2.out.mono ?_
   rintro e W1 ⟨rfl, hw0⟩
   clear HP HQ HN HB HZ hW0 p0 p1 p2 p3 q0 q1 q2 q3
   obtain ⟨HP, HQ, HN, HB, HZ⟩ := HK.out _ hw0
   replace HP := Lib.hid HP
   replace HQ := Lib.hid HQ
   replace HN := Lib.hid HN
   replace HB := Lib.hid HB
   replace HZ := Lib.hid HZ
   clear hw0 HK HO2
   go_upto_region 5 with fail
   have D0 := Lib.hid (HP.out.drew.pair HQ.out.drew)
   skip
   go_region_held3 (fun W' => W'.cell? ⟨S, 0, none⟩ = some (.bool s) ∧ W'.cell? ⟨S, 1, none⟩ = some (.slice A L ca) ∧ W'.cell? ⟨S + 1, 0, none⟩ = some (.bool t) ∧ W'.cell? ⟨S + 1, 1, none⟩ = some (.slice B M cb)) (first | with_reducible exact D0.out | with_reducible exact D1.out | with_reducible exact D2.out | exact D3.out)
    (first
     | (go_at_call 83; refine (HA.out _ HB.out.drew).mono ?_; rintro e w1 ⟨C, cc, rfl, hcc, hdd, hw1⟩; have E1 := Lib.hid hcc; have E2 := Lib.hid hdd; have P1 := Lib.hid (HP.out.drew.below hw1); have Q1 := Lib.hid (HQ.out.drew.below hw1); have N1 := Lib.hid (HN.out.drew.below hw1); have B1 := Lib.hid (HB.out.drew.trans (hw1.mono (Nat.le_trans (by omega) (show S + 1 + 1 + 1 ≤ W1.drew.heap.size from HZ.out)))); have z1 : S + 1 + 1 + 1 ≤ w1.heap.size := Nat.le_trans (show S + 1 + 1 + 1 ≤ W1.drew.heap.size from HZ.out) hw1.size; have D1 := Lib.hid (P1.out.pair Q1.out); clear hcc hdd hw1 HA)
     | (go_at_call 76; refine (trim_run t z C M cc r R w1 E2 HR E1 hz' hR).mono ?_; rintro e w2 ⟨rfl, hw2⟩; have E3 := Lib.hid (E2.out.below hw2); have P2 := Lib.hid (P1.out.below hw2); have Q2 := Lib.hid (Q1.out.below hw2); have N2 := Lib.hid (N1.out.below hw2); have B2 := Lib.hid (B1.out.trans (hw2.mono (by omega))); have D2 := Lib.hid (P2.out.pair Q2.out); have D3 := Lib.hid (NumAt.pair (P2.out.but (st2_but w2 (S + 1 + 1) z C R cc) (by omega)) (Q2.out.but (st2_but w2 (S + 1 + 1) z C R cc) (by omega))); obtain ⟨g0, h0, g1, h1⟩ := N2.out; clear hw2 P1 Q1 N1 B1 D1))
   all_goals go_wp2_with fail
   all_goals refine bodyPost_ret (v := .agg #[.bool z, .slice C R cc]) (by rw [results_cell1 rfl]; go_simp; try rfl) rfl ⟨C, cc, rfl, ⟨(E3.out.st2 N2.out).take hRK.out, hR.out, ⟨Nat.le_trans hRK.out E1.out.1, E1.out.2⟩, hzz.out⟩, (st2_but w2 (S + 1 + 1) z C R cc).2.1 S w (by omega) B2.out⟩
  ·have hr' : Hid (n - m = r) := by have := hr.out; unfold addN at this; rw [if_neg hst, if_neg hlt] at this; exact this
   have hz' : Hid (sgn s r = z) := by have := hz.out; rw [hr.out] at this; unfold addS at this; rw [if_neg hst, if_neg hlt] at this; exact this
   obtain ⟨c, HC⟩ : ∃ c, cmpN n m = c := ⟨_, rfl⟩
   have hc0 : 0 ≤ c := by rw [← HC]; unfold cmpN; rw [if_neg hlt]; split <;> omega
   have HA : Hid (∀ W, Below S w W → Calls Tryz.prog 83 #[.slice A L ca, .slice B M cb] W fun e w' => ∃ C cc, e = .returned (.slice C L cc) ∧ Cap L cc ∧ DgAt w' C L r ∧ Below W.heap.size W w') := fun W hW => by
    have := minus_run A B L M ca cb n m W (ha.out.digs.keep hW (Nat.le_of_eq hS)) (hb.out.digs.keep hW (Nat.le_of_eq hS)) ha.out.len hb.out.len ha.out.cap hb.out.cap (by omega) (show m ≤ n by omega)
    rwa [hr'.out] at this
   have hRK : Hid (R ≤ L) := by show _ ≤ _; rw [← hR.out, ← ha.out.len, ← hr'.out]; exact nl_mono (Nat.sub_le _ _)
   have HR : Hid (r < 65536 ^ L) := Nat.lt_of_lt_of_le (lt_nl r) (Nat.pow_le_pow_right (by decide) (by rw [hR.out]; exact hRK.out))
   have HO2 := Lib.hid (HO.out _ HC)
   clear HO HC
   go_enter Tryz.func104, Tryz.ntmps104
   go_wp2_with fail
   refine HO2.out.mono ?_
   rintro e W1 ⟨rfl, hw0⟩
   clear HP HQ HN HB HZ hW0 p0 p1 p2 p3 q0 q1 q2 q3
   obtain ⟨HP, HQ, HN, HB, HZ⟩ := HK.out _ hw0
   replace HP := Lib.hid HP
   replace HQ := Lib.hid HQ
   replace HN := Lib.hid HN
   replace HB := Lib.hid HB
   replace HZ := Lib.hid HZ
   clear hw0 HK HO2
   go_upto_region 4 with fail
   have D0 := Lib.hid (HP.out.drew.pair HQ.out.drew)
   skip
   go_region_held3 (fun W' => W'.cell? ⟨S, 0, none⟩ = some (.bool s) ∧ W'.cell? ⟨S, 1, none⟩ = some (.slice A L ca) ∧ W'.cell? ⟨S + 1, 0, none⟩ = some (.bool t) ∧ W'.cell? ⟨S + 1, 1, none⟩ = some (.slice B M cb)) (first | with_reducible exact D0.out | with_reducible exact D1.out | with_reducible exact D2.out | exact D3.out)
    (first
     | (go_at_call 83; refine (HA.out _ HB.out.drew).mono ?_; rintro e w1 ⟨C, cc, rfl, hcc, hdd, hw1⟩; have E1 := Lib.hid hcc; have E2 := Lib.hid hdd; have P1 := Lib.hid (HP.out.drew.below hw1); have Q1 := Lib.hid (HQ.out.drew.below hw1); have N1 := Lib.hid (HN.out.drew.below hw1); have B1 := Lib.hid (HB.out.drew.trans (hw1.mono (Nat.le_trans (by omega) (show S + 1 + 1 + 1 ≤ W1.drew.heap.size from HZ.out)))); have z1 : S + 1 + 1 + 1 ≤ w1.heap.size := Nat.le_trans (show S + 1 + 1 + 1 ≤ W1.drew.heap.size from HZ.out) hw1.size; have D1 := Lib.hid (P1.out.pair Q1.out); clear hcc hdd hw1 HA)
     | (go_at_call 76; refine (trim_run s z C L cc r R w1 E2 HR E1 hz' hR).mono ?_; rintro e w2 ⟨rfl, hw2⟩; have E3 := Lib.hid (E2.out.below hw2); have P2 := Lib.hid (P1.out.below hw2); have Q2 := Lib.hid (Q1.out.below hw2); have N2 := Lib.hid (N1.out.below hw2); have B2 := Lib.hid (B1.out.trans (hw2.mono (by omega))); have D2 := Lib.hid (P2.out.pair Q2.out); have D3 := Lib.hid (NumAt.pair (P2.out.but (st2_but w2 (S + 1 + 1) z C R cc) (by omega)) (Q2.out.but (st2_but w2 (S + 1 + 1) z C R cc) (by omega))); obtain ⟨g0, h0, g1, h1⟩ := N2.out; clear hw2 P1 Q1 N1 B1 D1))
   all_goals go_wp2_with fail
   all_goals refine bodyPost_ret (v := .agg #[.bool z, .slice C R cc]) (by rw [results_cell1 rfl]; go_simp; try rfl) rfl ⟨C, cc, rfl, ⟨(E3.out.st2 N2.out).take hRK.out, hR.out, ⟨Nat.le_trans hRK.out E1.out.1, E1.out.2⟩, hzz.out⟩, (st2_but w2 (S + 1 + 1) z C R cc).2.1 S w (by omega) B2.out⟩
end Go.Proofs.YtgoemhcngmpfbaaGreatDoor
namespace Go.Proofs.YtgoemhcngmpfbaaGreatDoor
open Go.RowKit Go.Sort
set_option maxRecDepth 100000 in
set_option maxHeartbeats 4000000 in
theorem Sub_run7 (s : Bool) (A : Option Addr) (L ca n : Nat) (t : Bool) (B : Option Addr) (M cb m : Nat) (z : Bool) (r R : Nat) (w : World) (ha : Hid (Good w s A L ca n)) (hb : Hid (Good w t B M cb m)) (hs : L + M ≤ 10000)
  (hz : Hid (sgn (addS s n (sgn (!t) m) m) (addN s n (sgn (!t) m) m) = z)) (hr : Hid (addN s n (sgn (!t) m) m = r)) (hR : Hid (nl r = R)) :
  Calls Tryz.prog 81 #[.agg #[.bool s, .slice A L ca], .agg #[.bool t, .slice B M cb]] w fun e w' => ∃ C cc, e = .returned (.agg #[.bool z, .slice C R cc]) ∧ Good w' z C R cc r ∧ Below w.heap.size w w' := by
 obtain ⟨S, hS⟩ : ∃ S, w.heap.size = S := ⟨_, rfl⟩
 obtain ⟨W0, hW0⟩ : ∃ W0, ((w.alloc (boxN s A L ca)).alloc (boxN t B M cb)).alloc boxNZ = W0 := ⟨_, rfl⟩
 have H0 := three_nums w s A L ca t B M cb S hS
 rw [hW0] at H0
 have HP := Lib.hid H0.1
 have HQ := Lib.hid H0.2.1
 have HN := Lib.hid H0.2.2.1
 have HB := Lib.hid H0.2.2.2.1
 have HZ : Hid (S + 1 + 1 + 1 ≤ W0.heap.size) := Nat.le_of_eq H0.2.2.2.2.symm
 clear H0
 rw [hS]
 obtain ⟨t', ht'⟩ : ∃ t', sgn (!t) m = t' := ⟨_, rfl⟩
 rw [ht'] at hz hr
 have HT := Lib.hid ht'
 have HT2 : Hid (sgn t' m = t') := by show _ = _; rw [← ht', sgn_twice]
 have hM : Hid (m < 65536 ^ M) := by show _ < _; rw [← hb.out.len]; exact lt_nl m
 have HA : Hid (∀ W, Below S w W → Calls Tryz.prog 76 #[.bool (!t), .slice B M cb] W fun e w' => e = .returned (.agg #[.bool t', .slice B M cb]) ∧ Below W.heap.size W w') := fun W hW =>
  trim_run (!t) t' B M cb m M W (hb.out.digs.keep hW (Nat.le_of_eq hS)) hM hb.out.cap HT hb.out.len
 have HA2 : Hid (∀ W, Below S w W → Calls Tryz.prog 104 #[.agg #[.bool s, .slice A L ca], .agg #[.bool t', .slice B M cb]] W fun e w' => ∃ C cc, e = .returned (.agg #[.bool z, .slice C R cc]) ∧ Good w' z C R cc r ∧ Below W.heap.size W w') := fun W hW =>
  Add_run7 s A L ca n t' B M cb m z r R W (ha.out.keep hW (Nat.le_of_eq hS)) ⟨hb.out.digs.keep hW (Nat.le_of_eq hS), hb.out.len, hb.out.cap, HT2.out⟩ hs hz hr hR
 clear ht'
 go_enter Tryz.func81, Tryz.ntmps81
 go_upto_region 1 with fail
 have D0 := Lib.hid (HP.out.drew.pair HQ.out.drew)
 clear hW0
 go_region_held3 (fun W' => W'.cell? ⟨S, 0, none⟩ = some (.bool s) ∧ W'.cell? ⟨S, 1, none⟩ = some (.slice A L ca) ∧ W'.cell? ⟨S + 1, 0, none⟩ = some (.bool t) ∧ W'.cell? ⟨S + 1, 1, none⟩ = some (.slice B M cb)) (first | with_reducible exact D0.out | with_reducible exact D1.out | with_reducible exact D2.out | exact D3.out)
  (first
   | (go_at_call 76; refine (HA.out _ HB.out.drew).mono ?_; rintro e w1 ⟨rfl, hw1⟩; have P1 := Lib.hid (HP.out.drew.below hw1); have Q1 := Lib.hid (HQ.out.drew.below hw1); have N1 := Lib.hid (HN.out.drew.below hw1); have B1 := Lib.hid (HB.out.drew.trans (hw1.mono (Nat.le_trans (by omega) (show S + 1 + 1 + 1 ≤ W0.drew.heap.size from HZ.out)))); have z1 : S + 1 + 1 + 1 ≤ w1.heap.size := Nat.le_trans (show S + 1 + 1 + 1 ≤ W0.drew.heap.size from HZ.out) hw1.size; have D1 := Lib.hid (P1.out.pair Q1.out); clear hw1 HA)
   | (go_at_call 104; refine (HA2.out _ B1.out).mono ?_; rintro e w2 ⟨C, cc, rfl, hgg, hw2⟩; have E3 := Lib.hid hgg; have P2 := Lib.hid (P1.out.below hw2); have Q2 := Lib.hid (Q1.out.below hw2); have N2 := Lib.hid (N1.out.below hw2); have B2 := Lib.hid (B1.out.trans (hw2.mono (by omega))); have D2 := Lib.hid (P2.out.pair Q2.out); have D3 := Lib.hid (NumAt.pair (P2.out.but (st2_but w2 (S + 1 + 1) z C R cc) (by omega)) (Q2.out.but (st2_but w2 (S + 1 + 1) z C R cc) (by omega))); obtain ⟨g0, h0, g1, h1⟩ := N2.out; clear hw2 hgg P1 Q1 N1 B1 D1))
 all_goals go_wp2_with fail
 all_goals refine bodyPost_ret (v := .agg #[.bool z, .slice C R cc]) (by rw [results_cell1 rfl]; go_simp; try rfl) rfl ⟨C, cc, rfl, ⟨E3.out.digs.st2 N2.out, E3.out.len, E3.out.cap, E3.out.sg⟩, (st2_but w2 (S + 1 + 1) z C R cc).2.1 S w (by omega) B2.out⟩
set_option maxRecDepth 100000 in
set_option maxHeartbeats 4000000 in
theorem Bits_run7 (s : Bool) (A : Option Addr) (L ca n : Nat) (k : Nat) (w : World) (ha : Hid (Good w s A L ca n)) (hs : L ≤ 100000) (hk : Hid (nlen 2 n = k)) :
  Calls Tryz.prog 84 #[.agg #[.bool s, .slice A L ca]] w fun e w' => e = .returned (.int .i64 (k : Int)) ∧ ∃ m, w' = (w.alloc (boxN s A L ca)).drewN m := by
 have HB := Lib.hid (below_alloc w (boxN s A L ca))
 have hcp := ha.out.cap
 unfold Cap at hcp
 by_cases hL : L = 0
 ·subst hL
  obtain rfl : k = 0 := by
   have h0 : n = 0 := nl_eq_zero.1 ha.out.len
   rw [← hk.out, h0]
   exact nlen_zero 2
  go_enter Tryz.func84, Tryz.ntmps84
  go_wp2_with fail
  go_ret
  exact ⟨rfl, 0, rfl⟩
 ·obtain ⟨i, rfl⟩ : ∃ i, L = i + 1 := ⟨L - 1, by omega⟩
  have hn0 : n ≠ 0 := fun e => by have := ha.out.len; rw [e, nl_zero] at this; omega
  obtain ⟨b, o, rfl, hbl, hcell⟩ := ha.out.digs (by omega)
  have hx := (World.cell?_alloc_lt w (boxN s (some ⟨b, o, none⟩) (i + 1) ca) ⟨b, o + i, none⟩ hbl).trans (hcell i (by omega))
  obtain ⟨d, hd⟩ : ∃ d, dg n i = d := ⟨_, rfl⟩
  rw [hd] at hx
  have hd6 : d < 65536 := by rw [← hd]; exact dg_lt n i
  have HK : Hid (k = 16 * i + nlen 2 d) := by
   show _ = _
   have := bits_top hn0
   rw [ha.out.len, hk.out, Nat.add_sub_cancel, hd] at this
   exact this
  have hk20 : Hid (nlen 2 d ≤ 16) := nlen_le_of_lt (by decide) (by omega)
  have hkb : Hid (k ≤ 1700000) := by show _ ≤ _; have := HK.out; have := hk20.out; omega
  clear hcell hd
  go_enter Tryz.func84, Tryz.ntmps84
  go_wp2_with fail
  go_loopg [3, 4] (nlen 2 d + 1) (fun h s3 s4 wr => ∃ j x : Nat, s3 = .int .i64 (j : Int) ∧ s4 = .int .i64 (x : Int) ∧ Hid (nlen 2 x < h) ∧ Hid (j + nlen 2 x = k) ∧ j ≤ 2000000 ∧ x < 65536 ∧ wr = w.alloc (boxN s (some ⟨b, o, none⟩) (i + 1) ca))
  case atStart => exact ⟨16 * i, d, by go_num, rfl, by show _ < _; omega, HK.out.symm, by omega, hd6, rfl⟩
  case round =>
   obtain ⟨j, x, rfl, rfl, HH, HJ, hj, hx6, rfl⟩ := hrel
   by_cases hx0 : x = 0
   ·subst hx0
    obtain rfl : j = k := by have := HJ.out; rw [nlen_zero] at this; omega
    go_wp2_with fail
    go_ret
    exact ⟨rfl, 0, rfl⟩
   ·have hst := nlen_pos (B := 2) (by decide) hx0
    have HJ2 : Hid (j + 1 + nlen 2 (x / 2) = k) := by show _ = _; have := HJ.out; omega
    have HH2 : Hid (nlen 2 (x / 2) < nlen 2 x) := by show _ < _; omega
    have hxp : 0 < x := by omega
    clear hst
    go_wp2_with fail
    go_roundg (nlen 2 x)
    case measure => exact HH.out
    case rel => exact ⟨j + 1, x / 2, by go_num, by go_num, HH2, HJ2, by have := HJ2.out; have := hkb.out; omega, by omega, rfl⟩
end Go.Proofs.YtgoemhcngmpfbaaGreatDoor
namespace Go.Proofs.YtgoemhcngmpfbaaGreatDoor
open Go.RowKit Go.Sort
def DigF (w : World) (g : Nat) (f : Nat → Nat) (k : Nat) : Prop := ∀ i, i < k → w.cell? ⟨g, i, none⟩ = some (.int .i64 (f i : Int)) ∧ w.frozen? ⟨g, i, none⟩ = false
section
variable {w w' : World} {g k : Nat} {f h : Nat → Nat}
theorem DigF.keep {B : Nat} (d : DigF w g f k) (hb : Below B w w') (hB : g < B) : DigF w' g f k := fun i hi =>
 ⟨(hb.cell (p := ⟨g, i, none⟩) hB).trans (d i hi).1, (hb.frozen (p := ⟨g, i, none⟩) hB).trans (d i hi).2⟩
theorem DigF.but {c : Nat} (d : DigF w g f k) (hw : But1 w w' c) (hne : g ≠ c) : DigF w' g f k := fun i hi =>
 ⟨(hw.1 ⟨g, i, none⟩ hne).1.trans (d i hi).1, (hw.1 ⟨g, i, none⟩ hne).2.trans (d i hi).2⟩
theorem DigF.drew (d : DigF w g f k) : DigF w.drew g f k := d
theorem DigF.drewN (d : DigF w g f k) (m : Nat) : DigF (w.drewN m) g f k := d
theorem DigF.ext (d : DigF w g f k) (e : ∀ i, i < k → f i = h i) : DigF w g h k := fun i hi => by rw [← e i hi]; exact d i hi
theorem DigF.upd (d : DigF w g f k) {i : Nat} (hi : i < k) (v : Nat) : DigF (w.setCell ⟨g, i, none⟩ (.int .i64 (v : Int))) g (updF f i v) k := fun j hj => by
 refine ⟨?_, by rw [World.frozen?_setCell]; exact (d j hj).2⟩
 by_cases e : j = i
 ·subst e
  rw [updF_same]
  exact World.cell?_setCell_same _ _ _ (d j hj).1
 ·rw [updF_other e]
  exact (World.cell?_setCell_other _ _ _ _ (fun e2 => e (by injection e2 with _ e3 _; exact e3.symm))).trans (d j hj).1
theorem DigF.at_ (d : DigF w g f k) (hg : g < w.heap.size) {n : Nat} (e : ∀ i, i < k → f i = dg n i) : DgAt w (some ⟨g, 0, none⟩) k n := fun _ =>
 ⟨g, 0, rfl, hg, fun i hi => by rw [Nat.zero_add, ← e i hi]; exact (d i hi).1⟩
end
theorem make_digs (w : World) (n : Nat) (hn : n ≤ 1000000) : ∃ w', (Instr.makeSlice 55 (.int .i64 (n : Int)) (.int .i64 (n : Int))).run Tryz.prog w = .ok (.slice (some ⟨w.heap.size, 0, none⟩) n n) w' ∧ DigF w' w.heap.size (fun _ => 0) n ∧ Below w.heap.size w w' ∧ w.heap.size < w'.heap.size := by
 obtain ⟨w2, hmk, o2, g2⟩ := run_makeK int_slice w w.heap.size n n (Nat.le_refl _) hn (Nat.le_refl _)
 have o3 : w2.ownsRow w.heap.size 3 1 (.slice (some ⟨w.heap.size, 0, none⟩) n n) n ((List.replicate n (0 : Int)).map fun x => Value.int .i64 x) := by
  have := o2
  unfold OwnK at this
  rwa [List.length_replicate] at this
 refine ⟨w2, hmk, fun i hi => ⟨?_, o3.frozenAt i⟩, (Below.refl _ _).grown g2 (Nat.le_refl _) (by intro g h; cases h), (o3.lt w.heap.size rfl).2⟩
 rw [o3.cellAt i (by omega)]
 simp [hi]
set_option maxRecDepth 100000 in
set_option maxHeartbeats 4000000 in
theorem Power_run (n R : Nat) (w : World) (hn : n ≤ 1000000) (hR : Hid (nl (2 ^ n) = R)) :
  Calls Tryz.prog 86 #[.int .i64 (n : Int)] w fun e w' => ∃ C cc, e = .returned (.agg #[.bool false, .slice C R cc]) ∧ Good w' false C R cc (2 ^ n) ∧ Below w.heap.size w w' := by
 obtain ⟨S, hS⟩ : ∃ S, w.heap.size = S := ⟨_, rfl⟩
 obtain ⟨W0, hW0⟩ : ∃ W0, w.alloc boxNZ = W0 := ⟨_, rfl⟩
 have HB := Lib.hid (below_alloc w boxNZ)
 have HN := Lib.hid (NumAt.new w false none 0 0)
 have HZ : Hid ((w.alloc boxNZ).heap.size = S + 1) := by show _ = _; simp [hS]
 rw [hW0, hS] at HB HN
 rw [hW0] at HZ
 rw [hS]
 obtain ⟨q, hq⟩ : ∃ q, n / 16 = q := ⟨_, rfl⟩
 obtain ⟨k, hk⟩ : ∃ k, n % 16 = k := ⟨_, rfl⟩
 have hqz : (n : Int) / 16 = (q : Int) := by omega
 have hkz : (n : Int) % 16 = (k : Int) := by omega
 have hk16 : k < 16 := by omega
 have hq6 : q ≤ 100000 := by omega
 obtain ⟨w2, hmk, HD, HW, hsz⟩ := make_digs W0 (q + 1) (by omega)
 rw [HZ.out] at hmk HD HW hsz
 have hmk' : (Instr.makeSlice 55 (.int .i64 ((q : Int) + 1)) (.int .i64 ((q : Int) + 1))).run Tryz.prog W0 = .ok (.slice (some ⟨S + 1, 0, none⟩) (q + 1) (q + 1)) w2 := by
  simpa using hmk
 obtain ⟨c0, f0⟩ := HD q (by omega)
 have N2 := Lib.hid (HN.out.keep HW (Nat.lt_succ_self _))
 have HD2 := Lib.hid HD
 have B2 : Hid (Below S w w2) := HB.out.trans (HW.mono (by omega))
 have HP := Lib.hid (dg_pow n)
 have HR : Hid (2 ^ n < 65536 ^ (q + 1)) := by
  show _ < _
  have := lt_nl (2 ^ n)
  rwa [nl_pow, hq] at this
 have HRR : Hid (R = q + 1) := by show _ = _; rw [← hR.out, nl_pow, hq]
 have HQ := Lib.hid hq
 have HK := Lib.hid hk
 clear hmk HD HW hq hk
 go_enter Tryz.func86, Tryz.ntmps86
 go_wp2_with fail
 have hlt : 2 ^ k < 65536 := by
  have := Nat.pow_lt_pow_right (a := 2) (by decide) hk16
  omega
 have hp : wrap64 ((2 : Int) ^ k) = ((2 ^ k : Nat) : Int) := by
  have e : ((2 : Int) ^ k) = ((2 ^ k : Nat) : Int) := by simp
  rw [e]
  generalize 2 ^ k = y at hlt
  unfold wrap64
  omega
 rw [hp]
 have D3 := (HD2.out.upd (i := q) (by omega) (2 ^ k)).at_ (by rw [World.size_setCell]; exact hsz) (n := 2 ^ n) fun i hi => by
  by_cases e : i = q
  ·rw [e, updF_same, ← HK.out, ← HQ.out]; exact HP.out.2.symm
  ·rw [updF_other e]; exact (HP.out.1 i (by rw [HQ.out]; omega)).symm
 have N3 := Lib.hid (N2.out.but (But1.setCell w2 (S + 1) q (.int .i64 ((2 ^ k : Nat) : Int))) (by omega))
 have B3 : Hid (Below S w (w2.setCell ⟨S + 1, q, none⟩ (.int .i64 ((2 ^ k : Nat) : Int)))) := B2.out.setCell (p := ⟨S + 1, q, none⟩) (by show S ≤ S + 1; omega) _
 have z3 : S + 1 < (w2.setCell ⟨S + 1, q, none⟩ (.int .i64 ((2 ^ k : Nat) : Int))).heap.size := by rw [World.size_setCell]; exact hsz
 have HC : Hid (Cap (q + 1) (q + 1)) := ⟨Nat.le_refl _, by omega⟩
 have HT := Lib.hid (trim_run false false (some ⟨S + 1, 0, none⟩) (q + 1) (q + 1) (2 ^ n) R _ D3 HR HC (by show _ = _; simp [sgn]) hR)
 have D3' := Lib.hid D3
 clear D3
 generalize w2.setCell ⟨S + 1, q, none⟩ (.int .i64 ((2 ^ k : Nat) : Int)) = w3 at *
 refine HT.out.mono ?_
 rintro e w4 ⟨rfl, hw4⟩
 have N4 := Lib.hid (N3.out.below hw4)
 have D4 := Lib.hid (D3'.out.below hw4)
 have B4 := Lib.hid (B3.out.trans (hw4.mono (by omega)))
 obtain ⟨a0, b0, a1, b1⟩ := N4.out
 clear hw4 N3 D3' B3 HT
 go_wp2_with fail
 refine bodyPost_ret (v := .agg #[.bool false, .slice (some ⟨S + 1, 0, none⟩) R (q + 1)]) (by rw [results_cell1 rfl]; go_simp; try rfl) rfl ⟨_, _, rfl, ⟨(D4.out.st2 N4.out).take (by rw [HRR.out]; exact Nat.le_refl _), hR.out, by rw [HRR.out]; exact HC.out, by simp [sgn]⟩, (st2_but w4 S false _ R (q + 1)).2.1 S w (Nat.le_refl _) B4.out⟩
end Go.Proofs.YtgoemhcngmpfbaaGreatDoor
namespace Go.Proofs.YtgoemhcngmpfbaaGreatDoor
open Go.RowKit Go.Sort
set_option maxRecDepth 100000 in
set_option maxHeartbeats 8000000 in
theorem Mul_run7 (s : Bool) (A : Option Addr) (L ca n : Nat) (t : Bool) (B : Option Addr) (M cb m : Nat) (z : Bool) (r R : Nat) (w : World) (ha : Hid (Good w s A L ca n)) (hb : Hid (Good w t B M cb m)) (hs : L + M ≤ 10000)
  (hz : Hid (sgn (s != t) r = z)) (hr : Hid (n * m = r)) (hR : Hid (nl r = R)) :
  Calls Tryz.prog 85 #[.agg #[.bool s, .slice A L ca], .agg #[.bool t, .slice B M cb]] w fun e w' => ∃ C cc, e = .returned (.agg #[.bool z, .slice C R cc]) ∧ Good w' z C R cc r ∧ Below w.heap.size w w' := by
 have hcp := ha.out.cap
 have hcq := hb.out.cap
 unfold Cap at hcp hcq
 obtain ⟨S, hS⟩ : ∃ S, w.heap.size = S := ⟨_, rfl⟩
 obtain ⟨W0, hW0⟩ : ∃ W0, ((w.alloc (boxN s A L ca)).alloc (boxN t B M cb)).alloc boxNZ = W0 := ⟨_, rfl⟩
 have H0 := three_nums w s A L ca t B M cb S hS
 rw [hW0] at H0
 obtain ⟨T, hT⟩ : ∃ T, L + M + 1 = T := ⟨_, rfl⟩
 obtain ⟨w2, hmk, HD, HW, hsz⟩ := make_digs W0 T (by omega)
 rw [H0.2.2.2.2] at hmk HD HW hsz
 have hTz : (L : Int) + (M : Int) + 1 = (T : Int) := by omega
 have HP := Lib.hid (H0.1.keep HW (by omega))
 have HQ := Lib.hid (H0.2.1.keep HW (by omega))
 have HN := Lib.hid (H0.2.2.1.keep HW (by omega))
 have HB : Hid (Below S w w2) := H0.2.2.2.1.trans (HW.mono (by omega))
 have HZ : Hid (S + 1 + 1 + 1 + 1 ≤ w2.heap.size) := hsz
 have HD2 := Lib.hid HD
 obtain ⟨p0, q0, p1, q1⟩ := H0.1
 obtain ⟨p2, q2, p3, q3⟩ := H0.2.1
 clear H0 HD HW hsz
 rw [hS]
 go_enter Tryz.func85, Tryz.ntmps85
 go_wp2_with fail
 clear hW0 hmk p0 p1 p2 p3 q0 q1 q2 q3
 go_loopg [6] (L + 1) (fun h s6 wr => ∃ (i : Nat) (f : Nat → Nat), s6 = .int .i64 (i : Int) ∧ Hid (i + h = L + 1) ∧ i ≤ L ∧ Hid (DigF wr (S + 1 + 1 + 1) f T) ∧ Hid (∀ j, j < T → f j = dg (mp n m i) j) ∧ Hid (Below (S + 1 + 1 + 1) w2 wr))
 case atStart => exact ⟨0, fun _ => 0, rfl, by show _ = _; omega, by omega, HD2, fun j _ => by rw [mp_zero, dg_zero], Below.refl _ _⟩
 case round =>
  obtain ⟨i, f, rfl, HI, hiL, HF, HE, HW⟩ := hrel
  obtain ⟨p0, q0, p1, q1⟩ := HP.out.keep HW.out (by omega)
  by_cases hlt : i < L
  ·go_wp2_with fail
   clear p0 q0 p1 q1
   go_loopg [7, 8] (M + 2) (fun h s7 s8 wr => ∃ (k c : Nat) (f : Nat → Nat), s7 = .int .i64 (c : Int) ∧ s8 = .int .i64 (k : Int) ∧ Hid (k + h = M + 2) ∧ k ≤ M + 1 ∧ Hid (c = mc n m i k) ∧ Hid (DigF wr (S + 1 + 1 + 1) f T) ∧ Hid (∀ j, j < T → f j = if j < i + k then dg (mp n m (i + 1)) j else dg (mp n m i) j) ∧ Hid (Below (S + 1 + 1 + 1) w2 wr))
   case atStart =>
    refine ⟨0, 0, f, rfl, rfl, by show _ = _; omega, by omega, (mc_zero n m i).symm, HF, fun j hj => ?_, HW⟩
    rw [HE.out j hj]
    split
    ·exact (mp_low n m i (by omega)).symm
    ·rfl
   case round =>
    clear HF HE HW f
    obtain ⟨k, c, f, rfl, rfl, HK, hkM, HC, HF, HE, HW⟩ := hrel
    obtain ⟨p0, q0, p1, q1⟩ := HP.out.keep HW.out (by omega)
    obtain ⟨p2, q2, p3, q3⟩ := HQ.out.keep HW.out (by omega)
    by_cases hon : k < M ∨ (¬ k < M ∧ 0 < c)
    ·have hkM2 : k ≤ M := by
      rcases hon with h | h
      ·omega
      ·rcases Nat.lt_or_ge M k with h2 | h2
       ·have h3 : k = M + 1 := by omega
        have := HC.out
        rw [h3, ← hb.out.len, mc_done] at this
        omega
       ·exact h2
     have hikT : i + k < T := by omega
     have hikz : (i : Int) + (k : Int) < (T : Int) := by omega
     have hiLz : (i : Int) < (L : Int) := by omega
     obtain ⟨b1, o1, rfl, hbl1, hcell1⟩ := ha.out.digs (by omega)
     obtain ⟨x, hx⟩ : ∃ x, f (i + k) = x := ⟨_, rfl⟩
     obtain ⟨d, hd⟩ : ∃ d, dg n i = d := ⟨_, rfl⟩
     obtain ⟨y, hy⟩ : ∃ y, dg m k = y := ⟨_, rfl⟩
     obtain ⟨p, hp⟩ : ∃ p, d * y = p := ⟨_, rfl⟩
     have cx := HF.out (i + k) hikT
     rw [hx] at cx
     obtain ⟨cx1, cx2⟩ := cx
     have cd : wr.cell? ⟨b1, o1 + i, none⟩ = some (.int .i64 (d : Int)) := by
      rw [← hd]
      exact ((HB.out.trans (HW.out.mono (by omega))).cell (p := ⟨b1, o1 + i, none⟩) (by rw [← hS]; exact hbl1)).trans (hcell1 i hlt)
     have hx6 : x < 65536 := by
      rw [← hx, HE.out _ hikT]
      split <;> exact dg_lt _ _
     have hd6 : d < 65536 := by rw [← hd]; exact dg_lt _ _
     have hy6 : y < 65536 := by rw [← hy]; exact dg_lt _ _
     have hc6 : c < 65536 := by rw [HC.out]; exact mc_lt _ _ _ _
     have hp6 : p ≤ 4294836225 := by
      rw [← hp]
      exact Nat.mul_le_mul (show d ≤ 65535 by omega) (show y ≤ 65535 by omega)
     have hpz : (d : Int) * (y : Int) = (p : Int) := by rw [← hp]; simp
     have HDB : Hid (∀ W, Below S w W → Calls Tryz.prog 125 #[.slice B M cb, .int .i64 (k : Int)] W fun e w' => e = .returned (.int .i64 (y : Int)) ∧ ∃ m, w' = W.drewN m) := fun W hW => (digit_run B M cb m k y W (hb.out.digs.keep hW (Nat.le_of_eq hS)) (Nat.le_of_eq hb.out.len) hb.out.cap (by omega) hy).mono fun e w' ⟨he, hw⟩ => ⟨he, 0, hw.symm⟩
     have HWS : Hid (Below S w wr) := HB.out.trans (HW.out.mono (by omega))
     obtain ⟨u, hu⟩ : ∃ u, (x + p + c) % 65536 = u := ⟨_, rfl⟩
     obtain ⟨v, hv⟩ : ∃ v, (x + p + c) / 65536 = v := ⟨_, rfl⟩
     have huz : ((x : Int) + (p : Int) + (c : Int)) % 65536 = (u : Int) := by omega
     have hvz : ((x : Int) + (p : Int) + (c : Int)) / 65536 = (v : Int) := by omega
     have hxe : x = dg (mp n m i) (i + k) := by rw [← hx, HE.out _ hikT, if_neg (by omega)]
     have HU : Hid (u = dg (mp n m (i + 1)) (i + k)) := by show _ = _; rw [← hu, hxe, ← hp, ← hd, ← hy, HC.out]; exact mc_mod n m i k
     have HV : Hid (v = mc n m i (k + 1)) := by show _ = _; rw [← hv, hxe, ← hp, ← hd, ← hy, HC.out]; exact mc_div n m i k
     clear hxe hu hv hp hd hx hy hcell1
     rcases hon with hon | ⟨hon, hon2⟩ <;>
     ·go_wp2_with fail
      go_quiet (first | (go_at_call 125; refine Calls.quiet_of (HDB.out _ (HWS.out.drewN _))) | fail)
      go_wp2_with fail
      go_roundg (M + 1 - k)
      case measure => have := HK.out; omega
      case rel =>
       refine ⟨k + 1, v, updF f (i + k) u, by go_num, by go_num, by show _ = _; have := HK.out; omega, by omega, HV, (HF.out.drewN nq).upd hikT u, fun j hj => ?_, (HW.out.drewN nq).setCell (p := ⟨S + 1 + 1 + 1, i + k, none⟩) (Nat.le_refl _) _⟩
       by_cases e : j = i + k
       ·rw [e, updF_same, if_pos (by omega)]; exact HU.out
       ·rw [updF_other e, HE.out j hj]
        by_cases e2 : j < i + k
        ·rw [if_pos e2, if_pos (by omega)]
        ·rw [if_neg e2, if_neg (by omega)]
    ·obtain ⟨hkm, rfl⟩ : ¬ k < M ∧ c = 0 := by omega
     have HE2 : Hid (∀ j, j < T → f j = dg (mp n m (i + 1)) j) := fun j hj => by
      rw [HE.out j hj]
      by_cases e : j < i + k
      ·rw [if_pos e]
      ·rw [if_neg e]
       exact (mp_rest (k := k) (by rw [hb.out.len]; omega) HC.out.symm (by omega)).symm
     clear HE HC
     go_wp2_with fail
     go_roundg (L - i)
     case measure => have := HI.out; omega
     case rel => exact ⟨i + 1, f, by go_num, by show _ = _; have := HI.out; omega, by omega, HF, HE2.out, HW.out⟩
  ·obtain rfl : i = L := by omega
   obtain ⟨p2, q2, p3, q3⟩ := HQ.out.keep HW.out (by omega)
   have hsz := HW.out.size
   have HZ2 : Hid (S + 1 + 1 + 1 + 1 ≤ wr.heap.size) := Nat.le_trans HZ.out hsz
   have D3 : Hid (DgAt wr (some ⟨S + 1 + 1 + 1, 0, none⟩) T r) := HF.out.at_ (by have := HZ2.out; omega) fun j hj => by
    rw [HE.out j hj, mp_end (Nat.le_of_eq ha.out.len), hr.out]
   have hrT : Hid (r < 65536 ^ T) := by
    show _ < _
    rw [← hr.out, ← hT, ← ha.out.len, ← hb.out.len]
    exact mul_lt_nl n m
   have HRT : Hid (R ≤ T) := by show _ ≤ _; rw [← hR.out]; exact nl_le hrT.out
   have HC : Hid (Cap T T) := ⟨Nat.le_refl _, by omega⟩
   have HT := Lib.hid (trim_run (s != t) z (some ⟨S + 1 + 1 + 1, 0, none⟩) T T r R wr D3 hrT HC hz hR)
   have B3 : Hid (Below S w wr) := HB.out.trans (HW.out.mono (by omega))
   have N3 := Lib.hid (HN.out.keep HW.out (by omega))
   have hzz : Hid (sgn z r = z) := by show _ = _; rw [← hz.out, sgn_twice]
   clear hsz HF HE HW
   go_wp2_with fail
   refine HT.out.mono ?_
   rintro e w4 ⟨rfl, hw4⟩
   have N4 := Lib.hid (N3.out.below hw4)
   have D4 := Lib.hid (D3.out.below hw4)
   have B4 := Lib.hid (B3.out.trans (hw4.mono (by have := HZ2.out; omega)))
   clear p0 p1 p2 p3 q0 q1 q2 q3
   obtain ⟨a0, b0, a1, b1⟩ := N4.out
   clear hw4 N3 B3 HT
   go_wp2_with fail
   refine bodyPost_ret (v := .agg #[.bool z, .slice (some ⟨S + 1 + 1 + 1, 0, none⟩) R T]) (by rw [results_cell1 rfl]; go_simp; try rfl) rfl ⟨_, _, rfl, ⟨(D4.out.st2 N4.out).take HRT.out, hR.out, ⟨HRT.out, HC.out.2⟩, hzz.out⟩, (st2_but w4 (S + 1 + 1) z _ R T).2.1 S w (by omega) B4.out⟩
end Go.Proofs.YtgoemhcngmpfbaaGreatDoor
namespace Go.Proofs.YtgoemhcngmpfbaaGreatDoor
open Go.RowKit Go.Sort
theorem NumAt.range {w : World} {b L cap : Nat} {s : Bool} {A : Option Addr} (h : NumAt w b s A L cap) : w.rangeAt b 0 [.bool s, .slice A L cap] := by
 intro j v hv
 rw [Nat.zero_add]
 rcases j with _ | _ | j
 ·exact h.c0.trans hv
 ·exact h.c1.trans hv
 ·simp at hv
theorem NumAt.there {w : World} {b L cap : Nat} {s : Bool} {A : Option Addr} (h : NumAt w b s A L cap) : w.there b 0 2 := by
 intro j hj
 rw [Nat.zero_add]
 rcases j with _ | _ | j
 ·exact ⟨by rw [h.c0]; rfl, h.f0⟩
 ·exact ⟨by rw [h.c1]; rfl, h.f1⟩
 ·omega
theorem infoNum : (Tryz.prog.info? 57).map (·.size) = some 2 := by kernel_rfl
theorem load_num {W : World} {b L cap : Nat} {s : Bool} {A : Option Addr} (h : NumAt W b s A L cap) : (loadVar 57 ⟨b, 0, none⟩).run Tryz.prog W = .ok (.agg #[.bool s, .slice A L cap]) W :=
 run_loadVar_mid W b 0 57 [.bool s, .slice A L cap] (.struct (Tryz.prog.fieldsOf 57)) h.range (by kernel_rfl) rfl (by kernel_rfl)
theorem ld_num {op : Oper} {a : Act} {w : World} (x : Operand) (ho : op.op = .load 57 x) {b L cap : Nat} {s : Bool} {A : Option Addr} (hx : a.eval x = .pointer (some ⟨b, 0, none⟩)) (h : NumAt w b s A L cap) : (execOp a.eval op).run Tryz.prog w = .ok (.value (.agg #[.bool s, .slice A L cap])) w := by
 unfold execOp
 simp only [ho, hx, Instr.loadAt, Instr.sureAddr, Sem.run_bind, Sem.run_pure, Result.andThen_ok, load_num h]
theorem stores_num {op : Oper} {a : Act} {w : World} {K : Act → World → Prop} {Q : Exit → Act → World → Prop} (x y : Operand) (ho : op.op = .store 57 x y)
  {b L M ca cb : Nat} {s t : Bool} {A B : Option Addr} (hx : a.eval x = .pointer (some ⟨b, 0, none⟩)) (hy : a.eval y = .agg #[.bool t, .slice B M cb]) (h : NumAt w b s A L ca) (hK : K (a.put op.dst undef) (st2 w b t B M cb)) : op.wp Tryz.prog a w K Q :=
 wp_store_mid 57 x y ho b 0 #[.bool t, .slice B M cb] hx hy h.there infoNum (by simp [Value.oneCell']) hK
theorem alloc_num {a : Act} {w : World} {op : Oper} (ho : op.op = .alloc 57) : (execOp a.eval op).run Tryz.prog w = .ok (.value (.pointer (some ⟨w.heap.size, 0, none⟩))) (w.alloc boxNZ) := by
 unfold execOp
 simp only [ho]
 go_simp
theorem results_num1 {fn : Func} {p : Tmp} (hf : fn.results = #[.cell p 57]) {tmps : Array Value} {W : World} {b L cap : Nat} {s : Bool} {A : Option Addr} (hp : tmps.getD p undef = .pointer (some ⟨b, 0, none⟩)) (h : NumAt W b s A L cap) :
  (results fn tmps).run Tryz.prog W = .ok (.agg #[.bool s, .slice A L cap]) W := by
 rw [results_cell1 hf, hp]
 simp [asAddr, load_num h]
theorem results_num2 {fn : Func} {p q : Tmp} (hf : fn.results = #[.cell p 57, .cell q 57]) {tmps : Array Value} {W : World} {b c L M ca cb : Nat} {s t : Bool} {A B : Option Addr} (hp : tmps.getD p undef = .pointer (some ⟨b, 0, none⟩)) (hq : tmps.getD q undef = .pointer (some ⟨c, 0, none⟩)) (h : NumAt W b s A L ca) (g : NumAt W c t B M cb) :
  (results fn tmps).run Tryz.prog W = .ok (.tuple #[.agg #[.bool s, .slice A L ca], .agg #[.bool t, .slice B M cb]]) W := by
 rw [results_cell2 hf, hp, hq]
 simp [asAddr, load_num h, load_num g]
theorem wp_callx {P : Program} {Q : Exit → Act → World → Prop} {o : Oper} {K : Act → World → Prop} {a : Act} {w : World} {f : Nat} {xs : List Operand} {ts : Array TypeId} (hop : o.op = .call { callee := .value (.func f), args := xs.toArray, argTypes := ts }) (hen : EntersP P f)
  {args : List Value} (hargs : xs.map a.eval = args) {α : Type} {v : α → Value} {R : α → World → Prop} (hc : Calls P f args.toArray w fun e w' => ∃ x, e = .returned (v x) ∧ R x w') (hk : ∀ x w', R x w' → K (a.put o.dst (v x)) w') : o.wp P a w K Q := by
 have hrun : (execOp a.eval o).run P w = .ok (.enter f args.toArray) w := by
  have h1 : (resolve a.eval { callee := .value (.func f), args := xs.toArray, argTypes := ts } o.type).run P w = .ok { target := .fn (.func f) #[], args := args.toArray } w := by
   simp [resolve, Act.eval, Deferred.ofValue, ← hargs]
  unfold execOp
  simp only [hop, Sem.run_bind, h1, Result.andThen_ok, invoke, Array.append_empty, hen args.toArray w]
 unfold Oper.wp
 rw [hrun, Oper.upon_enter]
 refine hc.mono ?_
 rintro e w' ⟨x, rfl, hr⟩
 exact hk x w' hr
theorem enters_trim : EntersP Tryz.prog 76 := entersP_of Tryz.func76 (by kernel_rfl) rfl
theorem enters_mul7 : EntersP Tryz.prog 85 := entersP_of Tryz.func85 (by kernel_rfl) rfl
theorem enters_power : EntersP Tryz.prog 86 := entersP_of Tryz.func86 (by kernel_rfl) rfl
theorem enters_bits7 : EntersP Tryz.prog 84 := entersP_of Tryz.func84 (by kernel_rfl) rfl
end Go.Proofs.YtgoemhcngmpfbaaGreatDoor
