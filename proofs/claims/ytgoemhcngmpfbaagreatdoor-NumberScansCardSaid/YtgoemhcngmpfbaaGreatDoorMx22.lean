/-
  The program's number of the document's number that fits.
-/
import Derived.Test.YtgoemhcngmpfbaaGreatDoorMx17
import Derived.Test.YtgoemhcngmpfbaaGreatDoorMx20
import Derived.Test.YtgoemhcngmpfbaaGreatDoorMx21
namespace Go.Proofs.YtgoemhcngmpfbaaGreatDoor
open Go.RowKit Go.Sort
theorem to_world (w : World) (s : Bool) (A : Option Addr) (L cap S : Nat) (hS : w.heap.size = S) (T : TypeId) : NumAt (((w.alloc (boxN s A L cap)).alloc (boxIZ T)).alloc (boxIZ T)) S s A L cap ∧ Below S w (((w.alloc (boxN s A L cap)).alloc (boxIZ T)).alloc (boxIZ T)) ∧ (((w.alloc (boxN s A L cap)).alloc (boxIZ T)).alloc (boxIZ T)).heap.size = S + 1 + 1 + 1 ∧ IntAt (((w.alloc (boxN s A L cap)).alloc (boxIZ T)).alloc (boxIZ T)) (S + 1) false 0 ∧ IntAt (((w.alloc (boxN s A L cap)).alloc (boxIZ T)).alloc (boxIZ T)) (S + 1 + 1) false 0 := by
 subst hS
 have h1 := IntAt.zero (w.alloc (boxN s A L cap)) T
 have h2 := IntAt.zero ((w.alloc (boxN s A L cap)).alloc (boxIZ T)) T
 refine ⟨((NumAt.new w s A L cap).alloc _).alloc _, ((below_alloc w _).alloc (by simp) _).alloc (by simp; omega) _, by simp, ?_, ?_⟩
 ·have := h1.alloc (by simp) (boxIZ T)
  simpa using this
 ·simpa using h2
set_option maxRecDepth 100000 in
set_option maxHeartbeats 4000000 in
theorem To_run (s : Bool) (A : Option Addr) (L cap n : Nat) (w : World) (hn : Hid (Fits n)) (h : Hid (DgAt w A L n)) (hL : Hid (nl n = L)) (hc : Hid (Cap L cap)) :
  Calls Tryz.prog 44 #[.agg #[.bool s, .slice A L cap]] w fun e w' => e = .returned (.tuple #[intV s n, .bool true]) ∧ Below w.heap.size w w' := by
 have hL32 : L ≤ 32 := by rw [← hL.out]; exact nl_le ((fits_dg n).1 hn.out)
 have hcp := hc.out
 unfold Cap at hcp
 obtain ⟨S, hS⟩ : ∃ S, w.heap.size = S := ⟨_, rfl⟩
 obtain ⟨W0, hW0⟩ : ∃ W0, ((w.alloc (boxN s A L cap)).alloc (boxIZ 25)).alloc (boxIZ 25) = W0 := ⟨_, rfl⟩
 have H0 := to_world w s A L cap S hS 25
 rw [hW0] at H0
 have HP := Lib.hid H0.1
 have HB := Lib.hid H0.2.1
 have HZ := Lib.hid H0.2.2.1
 have HR := Lib.hid H0.2.2.2.1
 have HO := Lib.hid H0.2.2.2.2
 have HD : Hid (DgAt W0 A L n) := h.out.below (by rw [hS]; exact HB.out)
 obtain ⟨p0, q0, p1, q1⟩ := H0.1
 clear H0
 rw [hS]
 have e8 : intV s n = .agg #[.bool s, .int .u64 (wd n 0 : Int), .int .u64 (wd n 1 : Int), .int .u64 (wd n 2 : Int), .int .u64 (wd n 3 : Int), .int .u64 (wd n 4 : Int), .int .u64 (wd n 5 : Int), .int .u64 (wd n 6 : Int), .int .u64 (wd n 7 : Int)] := rfl
 go_enter Tryz.func44, Tryz.ntmps44
 go_wp2_with fail
 clear hW0 p0 q0 p1 q1
 go_loopg [5] (L + 1) (fun h s5 wr => ∃ (z : Int) (j : Nat) (f : Nat → Nat), s5 = .int .i64 z ∧ Hid (z = (j : Int) - 1 ∧ j < h) ∧ j ≤ L ∧ Hid (WordsF wr (S + 1 + 1) 1 f 8) ∧ Hid (∀ i, i < 8 → f i = toF n j i) ∧ Hid (Below (S + 1 + 1) W0 wr) ∧ Hid (wr.cell? ⟨S + 1 + 1, 0, none⟩ = some (.bool false) ∧ wr.frozen? ⟨S + 1 + 1, 0, none⟩ = false))
 case atStart => exact ⟨(L : Int) - 1, L, wd 0, by go_num, by show _ ∧ _; omega, Nat.le_refl _, HO.out.words, fun i hi => by rw [wd_zero]; exact (toF_start (by rw [← hL.out]; exact lt_nl n)).symm, Below.refl _ _, HO.out.value⟩
 case round =>
  obtain ⟨z, j, f, rfl, HJ, hjl, HF, HE, HW, HV⟩ := hrel
  obtain ⟨p0, q0, p1, q1⟩ := HP.out.keep HW.out (by omega)
  cases j with
  | zero =>
   obtain rfl : z = -1 := by have := HJ.out.1; omega
   have HI : IntAt wr (S + 1 + 1) false n := ⟨HV.out.1, HV.out.2, HF.out.ext fun i hi => by rw [HE.out i hi, toF_end]⟩
   have HR2 := HR.out.keep HW.out (by omega)
   have B1 : Hid (Below S w wr) := HB.out.trans (HW.out.mono (by omega))
   obtain ⟨a0, b0⟩ := HI.value
   obtain ⟨⟨c0, d0⟩, ⟨c1, d1⟩, ⟨c2, d2⟩, ⟨c3, d3⟩, ⟨c4, d4⟩, ⟨c5, d5⟩, ⟨c6, d6⟩, ⟨c7, d7⟩⟩ := HI.words.eightAt1
   obtain ⟨g0, h0⟩ := HR2.value
   obtain ⟨⟨k0, l0⟩, ⟨k1, l1⟩, ⟨k2, l2⟩, ⟨k3, l3⟩, ⟨k4, l4⟩, ⟨k5, l5⟩, ⟨k6, l6⟩, ⟨k7, l7⟩⟩ := HR2.words.eightAt1
   clear HI HR2 HF HE HV HW HR HO HP HD
   go_wp2_with fail
   refine bodyPost_ret (v := .tuple #[intV s n, .bool true]) (by rw [results_cell_tmp rfl]; go_simp; try rfl) rfl ⟨rfl, ?_⟩
   exact (st9_but (wr.setCell ⟨S + 1 + 1, 0, none⟩ (.bool s)) (S + 1) s n).2.1 S w (by omega) (B1.out.setCell (p := ⟨S + 1 + 1, 0, none⟩) (by show S ≤ S + 1 + 1; omega) _)
  | succ i =>
   obtain rfl : z = (i : Int) := by have := HJ.out.1; omega
   obtain ⟨b1, o1, rfl, hbl1, hcell1⟩ := h.out (by omega)
   obtain ⟨d, hd⟩ : ∃ d, dg n i = d := ⟨_, rfl⟩
   obtain ⟨x, hx⟩ : ∃ x, f (i / 4) = x := ⟨_, rfl⟩
   obtain ⟨q, hq⟩ : ∃ q, i / 4 = q := ⟨_, rfl⟩
   have hcd : wr.cell? ⟨b1, o1 + i, none⟩ = some (.int .i64 (d : Int)) := by
    rw [← hd]
    exact (((HB.out.trans (HW.out.mono (by omega)))).cell (p := ⟨b1, o1 + i, none⟩) (by rw [← hS]; exact hbl1)).trans (hcell1 i (by omega))
   have hf := HF.out (i / 4) (by omega)
   rw [hx, hq] at hf
   obtain ⟨hf1, hf2⟩ := hf
   have hqz : (i : Int) / 4 = (q : Int) := by omega
   have hq8 : q < 8 := by omega
   have hil : (i : Int) < (L : Int) := by omega
   have hxy : x * 65536 + d = toF n i q := by
    rw [← hx, ← hd, HE.out _ (by omega), ← hq]
    exact toF_step n i
   have hy64 := toF_lt n i q
   obtain ⟨y, hy⟩ : ∃ y, toF n i q = y := ⟨_, rfl⟩
   rw [hy] at hxy hy64
   have hwC : Hid (IntKind.u64.wrap (IntKind.u64.wrap ((x : Int) * 65536) + IntKind.u64.wrap (d : Int)) = (y : Int)) := by show _ = _; simp only [IntKind.wrap_u64]; omega
   have HY := Lib.hid hy
   have HQ := Lib.hid hq
   have hbS : b1 < S := by rw [← hS]; exact hbl1
   clear hxy hx hd hy hq hcell1
   go_wp2_with fail
   go_region
   rw [hwC.out]
   have hF := HF.out.upd (i := q) hq8 y
   go_wp2_with fail
   go_roundg (i + 1)
   case measure => have := HJ.out; omega
   case rel =>
    refine ⟨(i : Int) - 1, i, updF f q y, by go_num, by show _ ∧ _; have := HJ.out; omega, by omega, hF, fun k hk => ?_, (HW.out.setCell (p := ⟨S + 1 + 1, 1 + q, none⟩) (Nat.le_refl _) _).drew, ?_⟩
    ·by_cases e : k = q
     ·rw [e, updF_same]; exact HY.out.symm
     ·rw [updF_other e, HE.out k hk, toF_other (by rw [HQ.out]; exact e)]
    ·exact ⟨(World.cell?_setCell_other _ _ _ _ (by simp)).trans HV.out.1, (World.frozen?_setCell _ _ _ _).trans HV.out.2⟩
end Go.Proofs.YtgoemhcngmpfbaaGreatDoor
namespace Go.Proofs.YtgoemhcngmpfbaaGreatDoor
open Go.RowKit Go.Sort
set_option linter.unusedSimpArgs false
def NumOut (z : Bool) (m n : Nat) (w : World) (e : Ending) (w' : World) : Prop := ∃ q : Option Addr × Nat, e = .returned (.agg #[.bool z, .slice q.1 m q.2]) ∧ (Good w' z q.1 m q.2 n ∧ Below w.heap.size w w')
theorem NumOut.mk {z : Bool} {m n : Nat} {w w' : World} {A : Option Addr} {c : Nat} (h : Good w' z A m c n) (hb : Below w.heap.size w w') : NumOut z m n w (.returned (.agg #[.bool z, .slice A m c])) w' := ⟨(A, c), rfl, h, hb⟩
theorem div_step (n i : Nat) : n / 65536 ^ i / 65536 = n / 65536 ^ (i + 1) := by rw [Nat.div_div_eq_div_mul, ← Nat.pow_succ]
theorem div_zero_iff (n i : Nat) : n / 65536 ^ i = 0 ↔ nl n ≤ i := by
 rw [Nat.div_eq_zero_iff]
 constructor
 ·rintro (h | h)
  ·exact absurd h (Nat.ne_of_gt (Nat.pow_pos (by decide)))
  ·exact nl_le h
 ·intro h
  exact .inr (Nat.lt_of_lt_of_le (lt_nl n) (Nat.pow_le_pow_right (by decide) h))
theorem sgn_decide (z : Int) : sgn (decide (z < 0)) z.natAbs = decide (z < 0) := by
 unfold sgn
 by_cases h : z < 0
 ·have : z.natAbs ≠ 0 := by omega
  simp [h, this]
 ·simp [h]
set_option maxRecDepth 100000 in
set_option maxHeartbeats 4000000 in
theorem Small_run (z : Int) (x : Bool) (N m : Nat) (w : World) (hz : -1000000 ≤ z ∧ z ≤ 1000000) (hN : Hid (z.natAbs = N)) (hm : Hid (nl N = m)) (hx : Hid (decide (z < 0) = x)) :
    Calls Tryz.prog 49 #[.int .i64 z] w (NumOut x m N w) := by
  obtain ⟨hz1, hz2⟩ := hz
  obtain ⟨S, hS⟩ : ∃ S, w.heap.size = S := ⟨_, rfl⟩
  obtain ⟨W0, hW0⟩ : ∃ W, w.alloc boxNZ = W := ⟨_, rfl⟩
  have I0 := (Bs.start w hS).pushNum hS false none 0 0
  rw [hW0] at I0
  have I := Lib.hid I0
  have hsz : Hid (W0.heap.size = S + 1) := by show _ = _; rw [← hW0]; simp [hS]
  have hN2 : N ≤ 1000000 := by have := hN.out; omega
  have hm2 : m ≤ 2 := by rw [← hm.out]; exact nl_le (by have : (65536 : Nat) ^ 2 = 4294967296 := by decide
                                                        omega)
  have hxz : decide (z < 0) = x := hx.out
  clear I0
  unfold NumOut
  rw [hS]
  go_enter Tryz.func49, Tryz.ntmps49
  have HB0 : Hid (Below (S + 1) W0 W0) := Below.refl _ _
  by_cases hneg : z < 0
  · have hnz : -z = (N : Int) := by have := hN.out; omega
    obtain rfl : x = true := by rw [← hx.out]; simp [hneg]
    clear hxz
    go_wp2_with fail
    go_loopg [3, 4] (m + 1) (fun h s3 s4 wr => ∃ i : Nat, s4 = .int .i64 ((N / 65536 ^ i : Nat) : Int) ∧ Hid (i + h = m + 1) ∧ i ≤ m ∧ Hid (OwnK .i64 3 wr (S + 1) s3 (digl i N)) ∧ Hid (Below (S + 1) W0 wr))
    case atStart => exact ⟨0, by rw [Nat.pow_zero, Nat.div_one], by show _ = _; omega, by omega, OwnK.nil _ _ _ _, HB0⟩
    case round =>
      clear HB0 hW0
      obtain ⟨i, rfl, HI, him, O, HW⟩ := hrel
      obtain ⟨q, hq⟩ : ∃ q, N / 65536 ^ i = q := ⟨_, rfl⟩
      have hqN : q ≤ 1000000 := by rw [← hq]; exact Nat.le_trans (Nat.div_le_self _ _) hN2
      have HQ0 : Hid (q = 0 ↔ m ≤ i) := by show _ ↔ _; rw [← hq, ← hm.out]; exact div_zero_iff N i
      have HQ1 : Hid (q / 65536 = N / 65536 ^ (i + 1)) := by show _ = _; rw [← hq]; exact div_step N i
      have HD : Hid (q % 65536 = dg N i) := by show _ = _; rw [← hq]; rfl
      rw [hq]
      clear hq
      by_cases hq0 : q = 0
      · subst hq0
        obtain rfl : i = m := by have := HQ0.out.1 rfl; omega
        obtain ⟨A9, cap9, hv9, hc9, hm9, y9⟩ := O.out.nums
        rw [digl_length] at hv9 hc9
        subst hv9
        have Y9 := Lib.hid (DgAt.of_nums y9)
        have hcap : Hid (Cap i cap9) := ⟨hc9, by unfold maxLen at hm9; exact hm9⟩
        have HT := Lib.hid (trim_run true true A9 i cap9 N i wr Y9 (show _ < _ by rw [← hm.out]; exact lt_nl N) hcap (by show _ = _; rw [← hx.out, ← hN.out]; exact sgn_decide _) hm)
        have I1 := Lib.hid (I.out.below (by rw [hsz.out]; exact HW.out))
        clear O y9 I HW
        go_wp2_with fail
        refine HT.out.mono ?_
        rintro e w1 ⟨rfl, hw1⟩
        have hg : Good w1 true A9 i cap9 N := ⟨Y9.out.below hw1, hm.out, hcap.out, by rw [← hx.out, ← hN.out]; exact sgn_decide _⟩
        replace I1 := Lib.hid ((I1.out.below hw1).pushDig hg)
        clear hw1 hg HT Y9
        go_wp2_with (with_reducible refine wpList_store_num rfl (.tmp 2) (.tmp 22) rfl (b := S) (t := true) (B := A9) (M := i) (d := cap9) rfl rfl (I1.out.num 1 rfl) ?_)
        have I2 := I1.out.putNum 1 rfl true A9 i cap9 rfl
        refine bodyPost_ret (v := .agg #[.bool true, .slice A9 i cap9]) (results_num1 rfl rfl (I2.num 1 rfl)) rfl ⟨(A9, cap9), rfl, I2.dig 0 rfl, I2.bl⟩
      · have hq1 : 0 < q := by omega
        have hlt : i < m := by
          rcases Nat.lt_or_ge i m with h | h
          · exact h
          · exact absurd (HQ0.out.2 h) hq0
        obtain ⟨d, hd⟩ : ∃ d, q % 65536 = d := ⟨_, rfl⟩
        have Ed : Hid ((q : Int) % 65536 = (d : Int)) := by show _ = _; omega
        have hsz1 := HW.out.size
        have hlen : Hid ((digl i N).length ≤ 500000) := by show _ ≤ _; rw [digl_length]; omega
        have hbase : S + 1 ≤ (wr.alloc (.cells #[.int .i64 ((q : Int) % 65536)] 3)).heap.size := by have := hsz.out; simp; omega
        have OA : Hid (OwnK .i64 3 (wr.alloc (.cells #[.int .i64 ((q : Int) % 65536)] 3)) (S + 1) u3 (digl i N)) := World.ownsRow.alloc O.out _
        have NA : Hid (NumsK .i64 (wr.alloc (.cells #[.int .i64 ((q : Int) % 65536)] 3)) (wr.heap.size + 1) (some ⟨wr.heap.size, 0, none⟩) [(q : Int) % 65536]) := by
          intro _
          refine ⟨_, _, rfl, by omega, fun i x hx => ?_⟩
          match i, hx with
          | 0, hx => cases hx; rw [World.cell?_alloc_at _ _ _ _ rfl]; rfl
        have EL : Hid (digl (i + 1) N = digl i N ++ [(q : Int) % 65536]) := by show _ = _; rw [digl_succ, Ed.out, ← hd, HD.out]
        clear hd
        go_wp2_with
          (at_builtin
           refine wpList_app int_slice _ rfl (.tmp 12) (.tmp 15) rfl (S + 1) u3 _ rfl OA.out (wr.heap.size + 1) (some ⟨wr.heap.size, 0, none⟩) 1 1 [(q : Int) % 65536] rfl NA.out rfl hlen.out (by simp) hbase ?_
           intro v3 w3 o3 g3 t3
           have BV : Hid (Below (S + 1) W0 w3) := (HW.out.alloc (by have := hsz.out; omega) _).grown g3 hbase (own_ge OA.out)
           have OV : Hid (OwnK .i64 3 w3 (S + 1) v3 (digl (i + 1) N)) := by show OwnK _ _ _ _ _ _; rw [EL.out]; exact o3
           clear o3 g3 t3)
        go_roundg (m - i)
        case measure => have := HI.out; omega
        case rel => exact ⟨i + 1, by rw [← HQ1.out]; go_num, by show _ = _; have := HI.out; omega, by omega, OV.out, BV.out⟩
  · obtain rfl : z = (N : Int) := by have := hN.out; omega
    obtain rfl : x = false := by rw [← hx.out]; simp
    clear hxz
    go_wp2_with fail
    go_loopg [3, 4] (m + 1) (fun h s3 s4 wr => ∃ i : Nat, s4 = .int .i64 ((N / 65536 ^ i : Nat) : Int) ∧ Hid (i + h = m + 1) ∧ i ≤ m ∧ Hid (OwnK .i64 3 wr (S + 1) s3 (digl i N)) ∧ Hid (Below (S + 1) W0 wr))
    case atStart => exact ⟨0, by rw [Nat.pow_zero, Nat.div_one], by show _ = _; omega, by omega, OwnK.nil _ _ _ _, HB0⟩
    case round =>
      clear HB0 hW0
      obtain ⟨i, rfl, HI, him, O, HW⟩ := hrel
      obtain ⟨q, hq⟩ : ∃ q, N / 65536 ^ i = q := ⟨_, rfl⟩
      have hqN : q ≤ 1000000 := by rw [← hq]; exact Nat.le_trans (Nat.div_le_self _ _) hN2
      have HQ0 : Hid (q = 0 ↔ m ≤ i) := by show _ ↔ _; rw [← hq, ← hm.out]; exact div_zero_iff N i
      have HQ1 : Hid (q / 65536 = N / 65536 ^ (i + 1)) := by show _ = _; rw [← hq]; exact div_step N i
      have HD : Hid (q % 65536 = dg N i) := by show _ = _; rw [← hq]; rfl
      rw [hq]
      clear hq
      by_cases hq0 : q = 0
      · subst hq0
        obtain rfl : i = m := by have := HQ0.out.1 rfl; omega
        obtain ⟨A9, cap9, hv9, hc9, hm9, y9⟩ := O.out.nums
        rw [digl_length] at hv9 hc9
        subst hv9
        have Y9 := Lib.hid (DgAt.of_nums y9)
        have hcap : Hid (Cap i cap9) := ⟨hc9, by unfold maxLen at hm9; exact hm9⟩
        have HT := Lib.hid (trim_run false false A9 i cap9 N i wr Y9 (show _ < _ by rw [← hm.out]; exact lt_nl N) hcap (by show _ = _; rw [← hx.out, ← hN.out]; exact sgn_decide _) hm)
        have I1 := Lib.hid (I.out.below (by rw [hsz.out]; exact HW.out))
        clear O y9 I HW
        go_wp2_with fail
        refine HT.out.mono ?_
        rintro e w1 ⟨rfl, hw1⟩
        have hg : Good w1 false A9 i cap9 N := ⟨Y9.out.below hw1, hm.out, hcap.out, by rw [← hx.out, ← hN.out]; exact sgn_decide _⟩
        replace I1 := Lib.hid ((I1.out.below hw1).pushDig hg)
        clear hw1 hg HT Y9
        go_wp2_with (with_reducible refine wpList_store_num rfl (.tmp 2) (.tmp 22) rfl (b := S) (t := false) (B := A9) (M := i) (d := cap9) rfl rfl (I1.out.num 1 rfl) ?_)
        have I2 := I1.out.putNum 1 rfl false A9 i cap9 rfl
        refine bodyPost_ret (v := .agg #[.bool false, .slice A9 i cap9]) (results_num1 rfl rfl (I2.num 1 rfl)) rfl ⟨(A9, cap9), rfl, I2.dig 0 rfl, I2.bl⟩
      · have hq1 : 0 < q := by omega
        have hlt : i < m := by
          rcases Nat.lt_or_ge i m with h | h
          · exact h
          · exact absurd (HQ0.out.2 h) hq0
        obtain ⟨d, hd⟩ : ∃ d, q % 65536 = d := ⟨_, rfl⟩
        have Ed : Hid ((q : Int) % 65536 = (d : Int)) := by show _ = _; omega
        have hsz1 := HW.out.size
        have hlen : Hid ((digl i N).length ≤ 500000) := by show _ ≤ _; rw [digl_length]; omega
        have hbase : S + 1 ≤ (wr.alloc (.cells #[.int .i64 ((q : Int) % 65536)] 3)).heap.size := by have := hsz.out; simp; omega
        have OA : Hid (OwnK .i64 3 (wr.alloc (.cells #[.int .i64 ((q : Int) % 65536)] 3)) (S + 1) u3 (digl i N)) := World.ownsRow.alloc O.out _
        have NA : Hid (NumsK .i64 (wr.alloc (.cells #[.int .i64 ((q : Int) % 65536)] 3)) (wr.heap.size + 1) (some ⟨wr.heap.size, 0, none⟩) [(q : Int) % 65536]) := by
          intro _
          refine ⟨_, _, rfl, by omega, fun i x hx => ?_⟩
          match i, hx with
          | 0, hx => cases hx; rw [World.cell?_alloc_at _ _ _ _ rfl]; rfl
        have EL : Hid (digl (i + 1) N = digl i N ++ [(q : Int) % 65536]) := by show _ = _; rw [digl_succ, Ed.out, ← hd, HD.out]
        clear hd
        go_wp2_with
          (at_builtin
           refine wpList_app int_slice _ rfl (.tmp 12) (.tmp 15) rfl (S + 1) u3 _ rfl OA.out (wr.heap.size + 1) (some ⟨wr.heap.size, 0, none⟩) 1 1 [(q : Int) % 65536] rfl NA.out rfl hlen.out (by simp) hbase ?_
           intro v3 w3 o3 g3 t3
           have BV : Hid (Below (S + 1) W0 w3) := (HW.out.alloc (by have := hsz.out; omega) _).grown g3 hbase (own_ge OA.out)
           have OV : Hid (OwnK .i64 3 w3 (S + 1) v3 (digl (i + 1) N)) := by show OwnK _ _ _ _ _ _; rw [EL.out]; exact o3
           clear o3 g3 t3)
        go_roundg (m - i)
        case measure => have := HI.out; omega
        case rel => exact ⟨i + 1, by rw [← HQ1.out]; go_num, by show _ = _; have := HI.out; omega, by omega, OV.out, BV.out⟩
end Go.Proofs.YtgoemhcngmpfbaaGreatDoor
namespace Go.Proofs.YtgoemhcngmpfbaaGreatDoor
open Go.RowKit Go.Sort
set_option linter.unusedSimpArgs false
theorem enters_num8 : EntersP Tryz.prog 41 := entersP_of Tryz.func41 (by kernel_rfl) rfl
theorem fieldD (s : Bool) (C : Option Addr) (l c : Nat) (w : World) : (Instr.field 57 (.agg #[.bool s, .slice C l c]) 1).run Tryz.prog w = .ok (.slice C l c) w := by cases s <;> kernel_rfl
theorem ld_cell {op : Oper} {a : Act} {w : World} {v : Value} (T : TypeId) (x : Operand) (ho : op.op = .load T x) {p : Addr} (hx : a.eval x = .pointer (some p)) (hv : (loadVar T p).run Tryz.prog w = .ok v w) : (execOp a.eval op).run Tryz.prog w = .ok (.value v) w := by
 unfold execOp
 simp only [ho, hx, Instr.loadAt, Instr.sureAddr, Sem.run_bind, Sem.run_pure, Result.andThen_ok, hv]
set_option maxRecDepth 100000 in
set_option maxHeartbeats 4000000 in
theorem Num_run (s z : Bool) (n m : Nat) (w : World) (hn : Hid (Fits n)) (hz : Hid (sgn s n = z)) (hm : Hid (nl n = m)) :
  Calls Tryz.prog 41 #[intV s n] w (NumOut z m n w) := by
 obtain ⟨S, hS⟩ : ∃ S, w.heap.size = S := ⟨_, rfl⟩
 obtain ⟨W0, hW0⟩ : ∃ W, (w.alloc (boxI s n 25)).alloc boxNZ = W := ⟨_, rfl⟩
 have I := ((Bs.start w hS).pushInt hS s n 25).pushNum (k := S + 1) (by simp [hS]) false none 0 0
 rw [hW0] at I
 replace I := Lib.hid I
 have HF := Lib.hid (fun W => From_run s z n m W hn hz hm)
 unfold NumOut
 rw [hS]
 go_enter Tryz.func41, Tryz.ntmps41
 go_wp2_with (first | (with_reducible refine wpList_box_int rfl (.tmp 0) rfl rfl ?_) | (with_reducible refine wpList_load_int rfl (.tmp 1) rfl rfl (I.out.int 1 rfl).o ?_))
 refine (HF.out _).mono ?_
 rintro e w1 ⟨A, c, rfl, hc, hd, hw⟩
 have hg : Good w1 z A m c n := ⟨hd, hm.out, hc, by rw [← hz.out, sgn_twice]⟩
 replace I := Lib.hid ((I.out.below hw).pushDig hg)
 clear hc hd hw hg HF
 go_wp2_with (with_reducible refine wpList_store_num rfl (.tmp 2) (.tmp 4) rfl (b := S + 1) (t := z) (B := A) (M := m) (d := c) rfl rfl (I.out.num 1 rfl) ?_)
 have I2 := I.out.putNum 1 rfl z A m c rfl
 exact bodyPost_ret (v := .agg #[.bool z, .slice A m c]) (results_num1 rfl rfl (I2.num 1 rfl)) rfl ⟨(A, c), rfl, I2.dig 0 rfl, I2.bl⟩
theorem nl_one : nl 1 = 1 := nl_uniq (by decide) (fun _ => by decide)
set_option maxRecDepth 100000 in
set_option maxHeartbeats 4000000 in
theorem One_run (w : World) : Calls Tryz.prog 47 #[] w (NumOut false 1 1 w) := by
 obtain ⟨S, hS⟩ : ∃ S, w.heap.size = S := ⟨_, rfl⟩
 obtain ⟨W0, hW0⟩ : ∃ W, w.alloc boxNZ = W := ⟨_, rfl⟩
 have I := (Bs.start w hS).pushNum hS false none 0 0
 rw [hW0] at I
 replace I := Lib.hid I
 have HF := Lib.hid (fun W => Small_run 1 false 1 1 W (by omega) rfl nl_one (by show _ = _; decide))
 unfold NumOut
 rw [hS]
 go_enter Tryz.func47, Tryz.ntmps47
 go_wp2_with fail
 refine (HF.out _).mono ?_
 rintro e w1 ⟨⟨A, c⟩, rfl, hg, hw⟩
 replace I := Lib.hid ((I.out.below hw).pushDig hg)
 clear hw hg HF
 go_wp2_with (with_reducible refine wpList_store_num rfl (.tmp 0) (.tmp 1) rfl (b := S) (t := false) (B := A) (M := 1) (d := c) rfl rfl (I.out.num 1 rfl) ?_)
 have I2 := I.out.putNum 1 rfl false A 1 c rfl
 exact bodyPost_ret (v := .agg #[.bool false, .slice A 1 c]) (results_num1 rfl rfl (I2.num 1 rfl)) rfl ⟨(A, c), rfl, I2.dig 0 rfl, I2.bl⟩
set_option maxRecDepth 100000 in
set_option maxHeartbeats 4000000 in
theorem canon_run (s b : Bool) (n : Nat) (w : World) (hn : Hid (Fits n)) (hb : Hid ((sgn s n == s) = b)) :
  Calls Tryz.prog 45 #[intV s n] w fun e w' => e = .returned (.bool b) ∧ Below w.heap.size w w' := by
 obtain ⟨S, hS⟩ : ∃ S, w.heap.size = S := ⟨_, rfl⟩
 obtain ⟨W0, hW0⟩ : ∃ W, w.alloc (boxI s n 25) = W := ⟨_, rfl⟩
 have I := (Bs.start w hS).pushInt hS s n 25
 rw [hW0] at I
 replace I := Lib.hid I
 have HF := Lib.hid (fun W => Num_run s _ n _ W hn rfl rfl)
 obtain ⟨m, hm⟩ : ∃ m, nl n = m := ⟨_, rfl⟩
 rw [hm] at HF
 have HM := Lib.hid hm
 clear hm
 obtain ⟨⟨a0, b0⟩, ⟨a1, b1⟩, ⟨a2, b2⟩, ⟨a3, b3⟩, ⟨a4, b4⟩, ⟨a5, b5⟩, ⟨a6, b6⟩, ⟨a7, b7⟩, ⟨a8, b8⟩⟩ := (I.out.int 0 rfl).nine
 rw [hS]
 cases s
 ·obtain rfl : b = true := by rw [← hb.out]; rfl
  go_enter Tryz.func45, Tryz.ntmps45
  go_wp2_with (first | (with_reducible refine wpList_box_int rfl (.tmp 0) rfl rfl ?_))
  go_ret
  exact ⟨rfl, I.out.bl⟩
 ·have HFu := HF.out
  unfold intV at HFu
  have HFv := Lib.hid HFu
  clear HFu
  have hbm : b = decide (0 < m) := by
   rw [← hb.out, ← HM.out]
   by_cases h : n = 0
   ·subst h; simp [sgn, nl_zero]
   ·have : 0 < nl n := Nat.pos_of_ne_zero fun e => h (nl_eq_zero.1 e)
    simp [sgn, h, this]
  subst hbm
  go_enter Tryz.func45, Tryz.ntmps45
  go_wp2_with (first | (with_reducible refine wpList_box_int rfl (.tmp 0) rfl rfl ?_))
  refine (HFv.out _).mono ?_
  rintro e w1 ⟨⟨A, c⟩, rfl, hg, hw⟩
  replace I := Lib.hid (I.out.below hw)
  clear hw hg HF HFv a0 a1 a2 a3 a4 a5 a6 a7 a8 b0 b1 b2 b3 b4 b5 b6 b7 b8
  have hfd := fieldD (sgn true n) A m c w1
  go_wp2_with fail
  go_ret
  exact ⟨by simp, I.out.bl⟩
set_option maxRecDepth 100000 in
set_option maxHeartbeats 4000000 in
theorem over_run (s : Bool) (A : Option Addr) (m c : Nat) (b : Bool) (w : World) (hb : Hid (decide (32 < m) = b)) :
  Calls Tryz.prog 142 #[.agg #[.bool s, .slice A m c]] w fun e w' => e = .returned (.bool b) ∧ Below w.heap.size w w' := by
 have HB := Lib.hid (below_alloc w (boxN s A m c))
 go_enter Tryz.func142, Tryz.ntmps142
 go_wp2_with fail
 go_ret
 refine ⟨?_, HB.out⟩
 rw [← hb.out]
 simp
 omega
theorem over_fits (n : Nat) : 32 < nl n ↔ ¬ Fits n := by
 constructor
 ·intro h f
  have := nl_le ((fits_dg n).1 f)
  omega
 ·intro h
  rcases Nat.lt_or_ge 32 (nl n) with h1 | h1
  ·exact h1
  ·exact absurd ((fits_dg n).2 (Nat.lt_of_lt_of_le (lt_nl n) (Nat.pow_le_pow_right (by decide) h1))) h
end Go.Proofs.YtgoemhcngmpfbaaGreatDoor
