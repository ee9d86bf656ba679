/-
  The document's numbers: small ones, of the program's numbers; are they canonical, do they fit.
-/
import Derived.Test.YtbcnpajdmlbieaaGreatDoorMg17
import Derived.Test.YtbcnpajdmlbieaaGreatDoorMg08

namespace Go.Proofs.YtbcnpajdmlbieaaGreatDoor
open Go.RowKit Go.Sort
set_option linter.unusedSimpArgs false

/-- A call that answers a number of the document. -/
def NumOut (z : Bool) (m n : Nat) (w : World) (e : Ending) (w' : World) : Prop := ∃ q : Option Addr × Nat, e = .returned (.agg #[.bool z, .slice q.1 m q.2]) ∧ (Good w' z q.1 m q.2 n ∧ Below w.heap.size w w')
theorem NumOut.mk {z : Bool} {m n : Nat} {w w' : World} {A : Option Addr} {c : Nat} (h : Good w' z A m c n) (hb : Below w.heap.size w w') : NumOut z m n w (.returned (.agg #[.bool z, .slice A m c])) w' := ⟨(A, c), rfl, h, hb⟩

/-- What is left of a number behind its first i digits. -/
theorem div_step (n i : Nat) : n / 65536 ^ i / 65536 = n / 65536 ^ (i + 1) := by rw [Nat.div_div_eq_div_mul, ← Nat.pow_succ]
theorem div_zero_iff (n i : Nat) : n / 65536 ^ i = 0 ↔ nl n ≤ i := by
  rw [Nat.div_eq_zero_iff]
  constructor
  · rintro (h | h)
    · exact absurd h (Nat.ne_of_gt (Nat.pow_pos (by decide)))
    · exact nl_le h
  · intro h
    exact .inr (Nat.lt_of_lt_of_le (lt_nl n) (Nat.pow_le_pow_right (by decide) h))
theorem sgn_decide (z : Int) : sgn (decide (z < 0)) z.natAbs = decide (z < 0) := by
  unfold sgn
  by_cases h : z < 0
  · have : z.natAbs ≠ 0 := by omega
    simp [h, this]
  · simp [h]

set_option maxRecDepth 100000 in
set_option maxHeartbeats 4000000 in
theorem Small_run (z : Int) (x : Bool) (N m : Nat) (w : World) (hz : -1000000 ≤ z ∧ z ≤ 1000000) (hN : Hid (z.natAbs = N)) (hm : Hid (nl N = m)) (hx : Hid (decide (z < 0) = x)) :
    Calls Tryz.prog 43 #[.int .i64 z] w (NumOut x m N w) := by
  obtain ⟨hz1, hz2⟩ := hz
  obtain ⟨S, hS⟩ : ∃ S, w.heap.size = S := ⟨_, rfl⟩
  obtain ⟨W0, hW0⟩ : ∃ W, w.alloc boxNZ = W := ⟨_, rfl⟩
  have I0 := (Bs.start w hS).pushNum hS false none 0 0
  rw [hW0] at I0
  have I := Lib.hid I0
  have hsz : Hid (W0.heap.size = S + 1) := by show _ = _; rw [← hW0]; simp [hS]
  have hN2 : N ≤ 1000000 := by have := hN.out; omega
  have hm2 : m ≤ 2 := by rw [← hm.out]; exact nl_le (by have : (65536 : Nat) ^ 2 = 4294967296 := by decide
                                                        omega)
  have hxz : decide (z < 0) = x := hx.out
  clear I0
  unfold NumOut
  rw [hS]
  go_enter Tryz.func43, Tryz.ntmps43
  have HB0 : Hid (Below (S + 1) W0 W0) := Below.refl _ _
  by_cases hneg : z < 0
  · have hnz : -z = (N : Int) := by have := hN.out; omega
    obtain rfl : x = true := by rw [← hx.out]; simp [hneg]
    clear hxz
    go_wp2_with fail
    go_loopg [3, 4] (m + 1) (fun h s3 s4 wr => ∃ i : Nat, s4 = .int .i64 ((N / 65536 ^ i : Nat) : Int) ∧ Hid (i + h = m + 1) ∧ i ≤ m ∧ Hid (OwnK .i64 3 wr (S + 1) s3 (digl i N)) ∧ Hid (Below (S + 1) W0 wr))
    case atStart => exact ⟨0, by rw [Nat.pow_zero, Nat.div_one], by show _ = _; omega, by omega, OwnK.nil _ _ _ _, HB0⟩
    case round =>
      clear HB0 hW0
      obtain ⟨i, rfl, HI, him, O, HW⟩ := hrel
      obtain ⟨q, hq⟩ : ∃ q, N / 65536 ^ i = q := ⟨_, rfl⟩
      have hqN : q ≤ 1000000 := by rw [← hq]; exact Nat.le_trans (Nat.div_le_self _ _) hN2
      have HQ0 : Hid (q = 0 ↔ m ≤ i) := by show _ ↔ _; rw [← hq, ← hm.out]; exact div_zero_iff N i
      have HQ1 : Hid (q / 65536 = N / 65536 ^ (i + 1)) := by show _ = _; rw [← hq]; exact div_step N i
      have HD : Hid (q % 65536 = dg N i) := by show _ = _; rw [← hq]; rfl
      rw [hq]
      clear hq
      by_cases hq0 : q = 0
      · subst hq0
        obtain rfl : i = m := by have := HQ0.out.1 rfl; omega
        obtain ⟨A9, cap9, hv9, hc9, hm9, y9⟩ := O.out.nums
        rw [digl_length] at hv9 hc9
        subst hv9
        have Y9 := Lib.hid (DgAt.of_nums y9)
        have hcap : Hid (Cap i cap9) := ⟨hc9, by unfold maxLen at hm9; exact hm9⟩
        have HT := Lib.hid (trim_run true true A9 i cap9 N i wr Y9 (show _ < _ by rw [← hm.out]; exact lt_nl N) hcap (by show _ = _; rw [← hx.out, ← hN.out]; exact sgn_decide _) hm)
        have I1 := Lib.hid (I.out.below (by rw [hsz.out]; exact HW.out))
        clear O y9 I HW
        go_wp2_with fail
        refine HT.out.mono ?_
        rintro e w1 ⟨rfl, hw1⟩
        have hg : Good w1 true A9 i cap9 N := ⟨Y9.out.below hw1, hm.out, hcap.out, by rw [← hx.out, ← hN.out]; exact sgn_decide _⟩
        replace I1 := Lib.hid ((I1.out.below hw1).pushDig hg)
        clear hw1 hg HT Y9
        go_wp2_with (with_reducible refine wpList_store_num rfl (.tmp 2) (.tmp 22) rfl (b := S) (t := true) (B := A9) (M := i) (d := cap9) rfl rfl (I1.out.num 1 rfl) ?_)
        have I2 := I1.out.putNum 1 rfl true A9 i cap9 rfl
        refine bodyPost_ret (v := .agg #[.bool true, .slice A9 i cap9]) (results_num1 rfl rfl (I2.num 1 rfl)) rfl ⟨(A9, cap9), rfl, I2.dig 0 rfl, I2.bl⟩
      · have hq1 : 0 < q := by omega
        have hlt : i < m := by
          rcases Nat.lt_or_ge i m with h | h
          · exact h
          · exact absurd (HQ0.out.2 h) hq0
        obtain ⟨d, hd⟩ : ∃ d, q % 65536 = d := ⟨_, rfl⟩
        have Ed : Hid ((q : Int) % 65536 = (d : Int)) := by show _ = _; omega
        have hsz1 := HW.out.size
        have hlen : Hid ((digl i N).length ≤ 500000) := by show _ ≤ _; rw [digl_length]; omega
        have hbase : S + 1 ≤ (wr.alloc (.cells #[.int .i64 ((q : Int) % 65536)] 3)).heap.size := by have := hsz.out; simp; omega
        have OA : Hid (OwnK .i64 3 (wr.alloc (.cells #[.int .i64 ((q : Int) % 65536)] 3)) (S + 1) u3 (digl i N)) := World.ownsRow.alloc O.out _
        have NA : Hid (NumsK .i64 (wr.alloc (.cells #[.int .i64 ((q : Int) % 65536)] 3)) (wr.heap.size + 1) (some ⟨wr.heap.size, 0, none⟩) [(q : Int) % 65536]) := by
          intro _
          refine ⟨_, _, rfl, by omega, fun i x hx => ?_⟩
          match i, hx with
          | 0, hx => cases hx; rw [World.cell?_alloc_at _ _ _ _ rfl]; rfl
        have EL : Hid (digl (i + 1) N = digl i N ++ [(q : Int) % 65536]) := by show _ = _; rw [digl_succ, Ed.out, ← hd, HD.out]
        clear hd
        go_wp2_with
          (at_builtin
           refine wpList_app int_slice _ rfl (.tmp 12) (.tmp 15) rfl (S + 1) u3 _ rfl OA.out (wr.heap.size + 1) (some ⟨wr.heap.size, 0, none⟩) 1 1 [(q : Int) % 65536] rfl NA.out rfl hlen.out (by simp) hbase ?_
           intro v3 w3 o3 g3 t3
           have BV : Hid (Below (S + 1) W0 w3) := (HW.out.alloc (by have := hsz.out; omega) _).grown g3 hbase (own_ge OA.out)
           have OV : Hid (OwnK .i64 3 w3 (S + 1) v3 (digl (i + 1) N)) := by show OwnK _ _ _ _ _ _; rw [EL.out]; exact o3
           clear o3 g3 t3)
        go_roundg (m - i)
        case measure => have := HI.out; omega
        case rel => exact ⟨i + 1, by rw [← HQ1.out]; go_num, by show _ = _; have := HI.out; omega, by omega, OV.out, BV.out⟩
  · obtain rfl : z = (N : Int) := by have := hN.out; omega
    obtain rfl : x = false := by rw [← hx.out]; simp
    clear hxz
    go_wp2_with fail
    go_loopg [3, 4] (m + 1) (fun h s3 s4 wr => ∃ i : Nat, s4 = .int .i64 ((N / 65536 ^ i : Nat) : Int) ∧ Hid (i + h = m + 1) ∧ i ≤ m ∧ Hid (OwnK .i64 3 wr (S + 1) s3 (digl i N)) ∧ Hid (Below (S + 1) W0 wr))
    case atStart => exact ⟨0, by rw [Nat.pow_zero, Nat.div_one], by show _ = _; omega, by omega, OwnK.nil _ _ _ _, HB0⟩
    case round =>
      clear HB0 hW0
      obtain ⟨i, rfl, HI, him, O, HW⟩ := hrel
      obtain ⟨q, hq⟩ : ∃ q, N / 65536 ^ i = q := ⟨_, rfl⟩
      have hqN : q ≤ 1000000 := by rw [← hq]; exact Nat.le_trans (Nat.div_le_self _ _) hN2
      have HQ0 : Hid (q = 0 ↔ m ≤ i) := by show _ ↔ _; rw [← hq, ← hm.out]; exact div_zero_iff N i
      have HQ1 : Hid (q / 65536 = N / 65536 ^ (i + 1)) := by show _ = _; rw [← hq]; exact div_step N i
      have HD : Hid (q % 65536 = dg N i) := by show _ = _; rw [← hq]; rfl
      rw [hq]
      clear hq
      by_cases hq0 : q = 0
      · subst hq0
        obtain rfl : i = m := by have := HQ0.out.1 rfl; omega
        obtain ⟨A9, cap9, hv9, hc9, hm9, y9⟩ := O.out.nums
        rw [digl_length] at hv9 hc9
        subst hv9
        have Y9 := Lib.hid (DgAt.of_nums y9)
        have hcap : Hid (Cap i cap9) := ⟨hc9, by unfold maxLen at hm9; exact hm9⟩
        have HT := Lib.hid (trim_run false false A9 i cap9 N i wr Y9 (show _ < _ by rw [← hm.out]; exact lt_nl N) hcap (by show _ = _; rw [← hx.out, ← hN.out]; exact sgn_decide _) hm)
        have I1 := Lib.hid (I.out.below (by rw [hsz.out]; exact HW.out))
        clear O y9 I HW
        go_wp2_with fail
        refine HT.out.mono ?_
        rintro e w1 ⟨rfl, hw1⟩
        have hg : Good w1 false A9 i cap9 N := ⟨Y9.out.below hw1, hm.out, hcap.out, by rw [← hx.out, ← hN.out]; exact sgn_decide _⟩
        replace I1 := Lib.hid ((I1.out.below hw1).pushDig hg)
        clear hw1 hg HT Y9
        go_wp2_with (with_reducible refine wpList_store_num rfl (.tmp 2) (.tmp 22) rfl (b := S) (t := false) (B := A9) (M := i) (d := cap9) rfl rfl (I1.out.num 1 rfl) ?_)
        have I2 := I1.out.putNum 1 rfl false A9 i cap9 rfl
        refine bodyPost_ret (v := .agg #[.bool false, .slice A9 i cap9]) (results_num1 rfl rfl (I2.num 1 rfl)) rfl ⟨(A9, cap9), rfl, I2.dig 0 rfl, I2.bl⟩
      · have hq1 : 0 < q := by omega
        have hlt : i < m := by
          rcases Nat.lt_or_ge i m with h | h
          · exact h
          · exact absurd (HQ0.out.2 h) hq0
        obtain ⟨d, hd⟩ : ∃ d, q % 65536 = d := ⟨_, rfl⟩
        have Ed : Hid ((q : Int) % 65536 = (d : Int)) := by show _ = _; omega
        have hsz1 := HW.out.size
        have hlen : Hid ((digl i N).length ≤ 500000) := by show _ ≤ _; rw [digl_length]; omega
        have hbase : S + 1 ≤ (wr.alloc (.cells #[.int .i64 ((q : Int) % 65536)] 3)).heap.size := by have := hsz.out; simp; omega
        have OA : Hid (OwnK .i64 3 (wr.alloc (.cells #[.int .i64 ((q : Int) % 65536)] 3)) (S + 1) u3 (digl i N)) := World.ownsRow.alloc O.out _
        have NA : Hid (NumsK .i64 (wr.alloc (.cells #[.int .i64 ((q : Int) % 65536)] 3)) (wr.heap.size + 1) (some ⟨wr.heap.size, 0, none⟩) [(q : Int) % 65536]) := by
          intro _
          refine ⟨_, _, rfl, by omega, fun i x hx => ?_⟩
          match i, hx with
          | 0, hx => cases hx; rw [World.cell?_alloc_at _ _ _ _ rfl]; rfl
        have EL : Hid (digl (i + 1) N = digl i N ++ [(q : Int) % 65536]) := by show _ = _; rw [digl_succ, Ed.out, ← hd, HD.out]
        clear hd
        go_wp2_with
          (at_builtin
           refine wpList_app int_slice _ rfl (.tmp 12) (.tmp 15) rfl (S + 1) u3 _ rfl OA.out (wr.heap.size + 1) (some ⟨wr.heap.size, 0, none⟩) 1 1 [(q : Int) % 65536] rfl NA.out rfl hlen.out (by simp) hbase ?_
           intro v3 w3 o3 g3 t3
           have BV : Hid (Below (S + 1) W0 w3) := (HW.out.alloc (by have := hsz.out; omega) _).grown g3 hbase (own_ge OA.out)
           have OV : Hid (OwnK .i64 3 w3 (S + 1) v3 (digl (i + 1) N)) := by show OwnK _ _ _ _ _ _; rw [EL.out]; exact o3
           clear o3 g3 t3)
        go_roundg (m - i)
        case measure => have := HI.out; omega
        case rel => exact ⟨i + 1, by rw [← HQ1.out]; go_num, by show _ = _; have := HI.out; omega, by omega, OV.out, BV.out⟩
end Go.Proofs.YtbcnpajdmlbieaaGreatDoor

/-
  The document's Num, One, canon, over.
-/
namespace Go.Proofs.YtbcnpajdmlbieaaGreatDoor
open Go.RowKit Go.Sort
set_option linter.unusedSimpArgs false

theorem enters_num8 : EntersP Tryz.prog 34 := entersP_of Tryz.func34 (by kernel_rfl) rfl
theorem enters_gcd7 : EntersP Tryz.prog 40 := entersP_of Tryz.func40 (by kernel_rfl) rfl
theorem enters_div7 : EntersP Tryz.prog 36 := entersP_of Tryz.func36 (by kernel_rfl) rfl
/-- A number's digits, of its value. -/
theorem fieldD (s : Bool) (C : Option Addr) (l c : Nat) (w : World) : (Instr.field 70 (.agg #[.bool s, .slice C l c]) 1).run Tryz.prog w = .ok (.slice C l c) w := by cases s <;> kernel_rfl
/-- One cell of a struct, loaded. -/
theorem ld_cell {op : Oper} {a : Act} {w : World} {v : Value} (T : TypeId) (x : Operand) (ho : op.op = .load T x) {p : Addr} (hx : a.eval x = .pointer (some p)) (hv : (loadVar T p).run Tryz.prog w = .ok v w) : (execOp a.eval op).run Tryz.prog w = .ok (.value v) w := by
  unfold execOp
  simp only [ho, hx, Instr.loadAt, Instr.sureAddr, Sem.run_bind, Sem.run_pure, Result.andThen_ok, hv]
theorem load_bool {w : World} {p : Addr} {s : Bool} (h : w.cell? p = some (.bool s)) : (loadVar 4 p).run Tryz.prog w = .ok (.bool s) w := by go_simp
theorem load_digs {w : World} {p : Addr} {A : Option Addr} {L c : Nat} (h : w.cell? p = some (.slice A L c)) : (loadVar 68 p).run Tryz.prog w = .ok (.slice A L c) w := by go_simp
set_option maxRecDepth 100000 in
set_option maxHeartbeats 4000000 in
theorem Num_run (s z : Bool) (n m : Nat) (w : World) (hn : Hid (Fits n)) (hz : Hid (sgn s n = z)) (hm : Hid (nl n = m)) :
    Calls Tryz.prog 34 #[intV s n] w (NumOut z m n w) := by
  obtain ⟨S, hS⟩ : ∃ S, w.heap.size = S := ⟨_, rfl⟩
  obtain ⟨W0, hW0⟩ : ∃ W, (w.alloc (boxI s n 25)).alloc boxNZ = W := ⟨_, rfl⟩
  have I := ((Bs.start w hS).pushInt hS s n 25).pushNum (k := S + 1) (by simp [hS]) false none 0 0
  rw [hW0] at I
  replace I := Lib.hid I
  have HF := Lib.hid (fun W => From_run s z n m W hn hz hm)
  unfold NumOut
  rw [hS]
  go_enter Tryz.func34, Tryz.ntmps34
  go_wp2_with (first | (with_reducible refine wpList_box_int rfl (.tmp 0) rfl rfl ?_) | (with_reducible refine wpList_load_int rfl (.tmp 1) rfl rfl (I.out.int 1 rfl).o ?_))
  refine (HF.out _).mono ?_
  rintro e w1 ⟨A, c, rfl, hc, hd, hw⟩
  have hg : Good w1 z A m c n := ⟨hd, hm.out, hc, by rw [← hz.out, sgn_twice]⟩
  replace I := Lib.hid ((I.out.below hw).pushDig hg)
  clear hc hd hw hg HF
  go_wp2_with (with_reducible refine wpList_store_num rfl (.tmp 2) (.tmp 4) rfl (b := S + 1) (t := z) (B := A) (M := m) (d := c) rfl rfl (I.out.num 1 rfl) ?_)
  have I2 := I.out.putNum 1 rfl z A m c rfl
  exact bodyPost_ret (v := .agg #[.bool z, .slice A m c]) (results_num1 rfl rfl (I2.num 1 rfl)) rfl ⟨(A, c), rfl, I2.dig 0 rfl, I2.bl⟩
theorem nl_one : nl 1 = 1 := nl_uniq (by decide) (fun _ => by decide)
set_option maxRecDepth 100000 in
set_option maxHeartbeats 4000000 in
theorem One_run (w : World) : Calls Tryz.prog 41 #[] w (NumOut false 1 1 w) := by
  obtain ⟨S, hS⟩ : ∃ S, w.heap.size = S := ⟨_, rfl⟩
  obtain ⟨W0, hW0⟩ : ∃ W, w.alloc boxNZ = W := ⟨_, rfl⟩
  have I := (Bs.start w hS).pushNum hS false none 0 0
  rw [hW0] at I
  replace I := Lib.hid I
  have HF := Lib.hid (fun W => Small_run 1 false 1 1 W (by omega) rfl nl_one (by show _ = _; decide))
  unfold NumOut
  rw [hS]
  go_enter Tryz.func41, Tryz.ntmps41
  go_wp2_with fail
  refine (HF.out _).mono ?_
  rintro e w1 ⟨⟨A, c⟩, rfl, hg, hw⟩
  replace I := Lib.hid ((I.out.below hw).pushDig hg)
  clear hw hg HF
  go_wp2_with (with_reducible refine wpList_store_num rfl (.tmp 0) (.tmp 1) rfl (b := S) (t := false) (B := A) (M := 1) (d := c) rfl rfl (I.out.num 1 rfl) ?_)
  have I2 := I.out.putNum 1 rfl false A 1 c rfl
  exact bodyPost_ret (v := .agg #[.bool false, .slice A 1 c]) (results_num1 rfl rfl (I2.num 1 rfl)) rfl ⟨(A, c), rfl, I2.dig 0 rfl, I2.bl⟩
set_option maxRecDepth 100000 in
set_option maxHeartbeats 4000000 in
theorem canon_run (s b : Bool) (n : Nat) (w : World) (hn : Hid (Fits n)) (hb : Hid ((sgn s n == s) = b)) :
    Calls Tryz.prog 38 #[intV s n] w fun e w' => e = .returned (.bool b) ∧ Below w.heap.size w w' := by
  obtain ⟨S, hS⟩ : ∃ S, w.heap.size = S := ⟨_, rfl⟩
  obtain ⟨W0, hW0⟩ : ∃ W, w.alloc (boxI s n 25) = W := ⟨_, rfl⟩
  have I := (Bs.start w hS).pushInt hS s n 25
  rw [hW0] at I
  replace I := Lib.hid I
  have HF := Lib.hid (fun W => Num_run s _ n _ W hn rfl rfl)
  obtain ⟨m, hm⟩ : ∃ m, nl n = m := ⟨_, rfl⟩
  rw [hm] at HF
  have HM := Lib.hid hm
  clear hm
  obtain ⟨⟨a0, b0⟩, ⟨a1, b1⟩, ⟨a2, b2⟩, ⟨a3, b3⟩, ⟨a4, b4⟩, ⟨a5, b5⟩, ⟨a6, b6⟩, ⟨a7, b7⟩, ⟨a8, b8⟩⟩ := (I.out.int 0 rfl).nine
  rw [hS]
  cases s
  · obtain rfl : b = true := by rw [← hb.out]; rfl
    go_enter Tryz.func38, Tryz.ntmps38
    go_wp2_with (first | (with_reducible refine wpList_box_int rfl (.tmp 0) rfl rfl ?_))
    go_ret
    exact ⟨rfl, I.out.bl⟩
  · have HFu := HF.out
    unfold intV at HFu
    have HFv := Lib.hid HFu
    clear HFu
    have hbm : b = decide (0 < m) := by
      rw [← hb.out, ← HM.out]
      by_cases h : n = 0
      · subst h; simp [sgn, nl_zero]
      · have : 0 < nl n := Nat.pos_of_ne_zero fun e => h (nl_eq_zero.1 e)
        simp [sgn, h, this]
    subst hbm
    go_enter Tryz.func38, Tryz.ntmps38
    go_wp2_with (first | (with_reducible refine wpList_box_int rfl (.tmp 0) rfl rfl ?_))
    refine (HFv.out _).mono ?_
    rintro e w1 ⟨⟨A, c⟩, rfl, hg, hw⟩
    replace I := Lib.hid (I.out.below hw)
    clear hw hg HF HFv a0 a1 a2 a3 a4 a5 a6 a7 a8 b0 b1 b2 b3 b4 b5 b6 b7 b8
    have hfd := fieldD (sgn true n) A m c w1
    go_wp2_with fail
    go_ret
    exact ⟨by simp, I.out.bl⟩
set_option maxRecDepth 100000 in
set_option maxHeartbeats 4000000 in
theorem over_run (s : Bool) (A : Option Addr) (m c : Nat) (b : Bool) (w : World) (hb : Hid (decide (32 < m) = b)) :
    Calls Tryz.prog 58 #[.agg #[.bool s, .slice A m c]] w fun e w' => e = .returned (.bool b) ∧ Below w.heap.size w w' := by
  have HB := Lib.hid (below_alloc w (boxN s A m c))
  go_enter Tryz.func58, Tryz.ntmps58
  go_wp2_with fail
  go_ret
  refine ⟨?_, HB.out⟩
  rw [← hb.out]
  simp
  omega
theorem over_fits (n : Nat) : 32 < nl n ↔ ¬ Fits n := by
  constructor
  · intro h f
    have := nl_le ((fits_dg n).1 f)
    omega
  · intro h
    rcases Nat.lt_or_ge 32 (nl n) with h1 | h1
    · exact h1
    · exact absurd ((fits_dg n).2 (Nat.lt_of_lt_of_le (lt_nl n) (Nat.pow_le_pow_right (by decide) h1))) h
end Go.Proofs.YtbcnpajdmlbieaaGreatDoor

/-
  Stage 7: limb's Gcd.
-/
namespace Go.Proofs.YtbcnpajdmlbieaaGreatDoor
open Go.RowKit Go.Sort

theorem WordsF.drew1 {w : World} {b o k : Nat} {f : Nat → Nat} (h : WordsF w b o f k) : WordsF w.drew b o f k := h
theorem drew_size (w : World) : w.drew.heap.size = w.heap.size := rfl
/-- Eight stores. -/
def st8 (w : World) (b n : Nat) : World := ((((((((w.setCell ⟨b, 0, none⟩ (.int .u64 (wd n 0 : Int))).setCell ⟨b, 1, none⟩ (.int .u64 (wd n 1 : Int))).setCell ⟨b, 2, none⟩ (.int .u64 (wd n 2 : Int))).setCell ⟨b, 3, none⟩ (.int .u64 (wd n 3 : Int))).setCell ⟨b, 4, none⟩ (.int .u64 (wd n 4 : Int))).setCell ⟨b, 5, none⟩ (.int .u64 (wd n 5 : Int))).setCell ⟨b, 6, none⟩ (.int .u64 (wd n 6 : Int))).setCell ⟨b, 7, none⟩ (.int .u64 (wd n 7 : Int)))
theorem st8_but (w : World) (b n : Nat) : But1 w (st8 w b n) b := But1.set8 w b _ _ _ _ _ _ _ _
theorem st8_at {w : World} {b n : Nat} {f : Nat → Nat} (h : WordsF w b 0 f 8) : WordsAt (st8 w b n) b 0 n 8 := h.set8 (g := wd n)
set_option maxRecDepth 100000 in
set_option maxHeartbeats 4000000 in
theorem Gcd_run (s : Bool) (n : Nat) (t : Bool) (m : Nat) (w : World) (hn : Hid (Fits n)) (hm : Hid (Fits m)) :
    Calls Tryz.prog 31 #[intV s n, intV t m] w fun e w' => e = .returned (intV false (Nat.gcd n m)) ∧ Below w.heap.size w w' := by
  obtain ⟨S, hS⟩ : ∃ S, w.heap.size = S := ⟨_, rfl⟩
  obtain ⟨W, hW⟩ : ∃ W, ((w.alloc (boxI s n 25)).alloc (boxI t m 25)).alloc (boxIZ 25) = W := ⟨_, rfl⟩
  have T := three_ints w s n t m 25 25 25
  rw [hW, hS] at T
  have HT := Lib.hid T
  obtain ⟨⟨a0, b0⟩, ⟨a1, b1⟩, ⟨a2, b2⟩, ⟨a3, b3⟩, ⟨a4, b4⟩, ⟨a5, b5⟩, ⟨a6, b6⟩, ⟨a7, b7⟩, ⟨a8, b8⟩⟩ := T.1.nine
  obtain ⟨⟨c0, d0⟩, ⟨c1, d1⟩, ⟨c2, d2⟩, ⟨c3, d3⟩, ⟨c4, d4⟩, ⟨c5, d5⟩, ⟨c6, d6⟩, ⟨c7, d7⟩, ⟨c8, d8⟩⟩ := T.2.1.nine
  clear T
  rw [hS]
  obtain ⟨g, hg⟩ : ∃ g, Nat.gcd n m = g := ⟨_, rfl⟩
  rw [hg]
  have HG0 := Lib.hid hg
  clear hg
  unfold intV
  go_enter Tryz.func31, Tryz.ntmps31
  have hWs : W.heap.size = S + 1 + 1 + 1 := HT.out.2.2.2.2
  have hWa : (W.alloc (boxZ 99)).heap.size = S + 1 + 1 + 1 + 1 := by simp [hWs]
  have A1 := HT.out.1.alloc (by omega) (boxZ 99)
  have A2 := A1.alloc (by omega) (boxZ 99)
  have C1 := HT.out.2.1.alloc (by omega) (boxZ 99)
  have C2 := C1.alloc (by omega) (boxZ 99)
  obtain ⟨⟨p0, p0'⟩, ⟨p1, p1'⟩, ⟨p2, p2'⟩, ⟨p3, p3'⟩, ⟨p4, p4'⟩, ⟨p5, p5'⟩, ⟨p6, p6'⟩, ⟨p7, p7'⟩⟩ := A1.drew.words.eightAt1
  obtain ⟨⟨q0, q0'⟩, ⟨q1, q1'⟩, ⟨q2, q2'⟩, ⟨q3, q3'⟩, ⟨q4, q4'⟩, ⟨q5, q5'⟩, ⟨q6, q6'⟩, ⟨q7, q7'⟩⟩ := A2.drew.words.eightAt1
  obtain ⟨⟨x0, x0'⟩, ⟨x1, x1'⟩, ⟨x2, x2'⟩, ⟨x3, x3'⟩, ⟨x4, x4'⟩, ⟨x5, x5'⟩, ⟨x6, x6'⟩, ⟨x7, x7'⟩⟩ := C1.drew.words.eightAt1
  obtain ⟨⟨y0, y0'⟩, ⟨y1, y1'⟩, ⟨y2, y2'⟩, ⟨y3, y3'⟩, ⟨y4, y4'⟩, ⟨y5, y5'⟩, ⟨y6, y6'⟩, ⟨y7, y7'⟩⟩ := C2.drew.words.eightAt1
  clear A1 A2 C1 C2
  go_wp2_with fail
  go_region
  all_goals go_upto_region 2 with fail
  all_goals first
  | (have hz1 : (W.alloc (boxO n 99)).heap.size = S + 1 + 1 + 1 + 1 := by simp [hWs]
     have hz2 : ((W.alloc (boxO n 99)).alloc (boxO m 99)).heap.size = S + 1 + 1 + 1 + 1 + 1 := by simp [hWs]
     show Code.wp _ _ _ _ ((W.alloc (boxO n 99)).alloc (boxO m 99)).drew
     have P2 := two_boxes W n m 99 99
     rw [hWs] at P2
     have KX := Lib.hid (show WordsAt ((W.alloc (boxO n 99)).alloc (boxO m 99)).drew (S + 1 + 1 + 1) 0 n 8 from P2.1)
     have KY := Lib.hid (show WordsAt ((W.alloc (boxO n 99)).alloc (boxO m 99)).drew (S + 1 + 1 + 1 + 1) 0 m 8 from P2.2.1)
     have KZ := Lib.hid ((HT.out.2.2.1.alloc (by omega) (boxO n 99)).alloc (by omega) (boxO m 99)).drew
     have KB : Hid (Below S w ((W.alloc (boxO n 99)).alloc (boxO m 99)).drew) := ((HT.out.2.2.2.1.alloc (by omega) _).alloc (by omega) _).drew
     have Ks : Hid (((W.alloc (boxO n 99)).alloc (boxO m 99)).drew.heap.size = S + 1 + 1 + 1 + 1 + 1) := hz2
     generalize ((W.alloc (boxO n 99)).alloc (boxO m 99)).drew = wx at *
     obtain ⟨X, hX⟩ : ∃ X, (S + 1 + 1 + 1) = X := ⟨_, rfl⟩
     obtain ⟨Y, hY⟩ : ∃ Y, (S + 1 + 1 + 1 + 1) = Y := ⟨_, rfl⟩
     have HXY : Hid (X ≠ Y ∧ X ≠ S + 1 + 1 ∧ Y ≠ S + 1 + 1 ∧ X < S + 1 + 1 + 1 + 1 + 1 ∧ Y < S + 1 + 1 + 1 + 1 + 1 ∧ S ≤ X ∧ S ≤ Y) := by show _ ∧ _; omega
     rw [hY, hX]
     rw [hX] at KX
     rw [hY] at KY
     clear P2 hz1 hz2 hX hY)
  | (have hz1 : (W.alloc (boxO m 99)).heap.size = S + 1 + 1 + 1 + 1 := by simp [hWs]
     have hz2 : ((W.alloc (boxO m 99)).alloc (boxO n 99)).heap.size = S + 1 + 1 + 1 + 1 + 1 := by simp [hWs]
     show Code.wp _ _ _ _ ((W.alloc (boxO m 99)).alloc (boxO n 99)).drew
     have P2 := two_boxes W m n 99 99
     rw [hWs] at P2
     have KX := Lib.hid (show WordsAt ((W.alloc (boxO m 99)).alloc (boxO n 99)).drew (S + 1 + 1 + 1 + 1) 0 n 8 from P2.2.1)
     have KY := Lib.hid (show WordsAt ((W.alloc (boxO m 99)).alloc (boxO n 99)).drew (S + 1 + 1 + 1) 0 m 8 from P2.1)
     have KZ := Lib.hid ((HT.out.2.2.1.alloc (by omega) (boxO m 99)).alloc (by omega) (boxO n 99)).drew
     have KB : Hid (Below S w ((W.alloc (boxO m 99)).alloc (boxO n 99)).drew) := ((HT.out.2.2.2.1.alloc (by omega) _).alloc (by omega) _).drew
     have Ks : Hid (((W.alloc (boxO m 99)).alloc (boxO n 99)).drew.heap.size = S + 1 + 1 + 1 + 1 + 1) := hz2
     generalize ((W.alloc (boxO m 99)).alloc (boxO n 99)).drew = wx at *
     obtain ⟨X, hX⟩ : ∃ X, (S + 1 + 1 + 1 + 1) = X := ⟨_, rfl⟩
     obtain ⟨Y, hY⟩ : ∃ Y, (S + 1 + 1 + 1) = Y := ⟨_, rfl⟩
     have HXY : Hid (X ≠ Y ∧ X ≠ S + 1 + 1 ∧ Y ≠ S + 1 + 1 ∧ X < S + 1 + 1 + 1 + 1 + 1 ∧ Y < S + 1 + 1 + 1 + 1 + 1 ∧ S ≤ X ∧ S ≤ Y) := by show _ ∧ _; omega
     rw [hX, hY]
     rw [hX] at KX
     rw [hY] at KY
     clear P2 hz1 hz2 hX hY)
  all_goals
    clear HT hW hWs hWa a0 a1 a2 a3 a4 a5 a6 a7 a8 b0 b1 b2 b3 b4 b5 b6 b7 b8 c0 c1 c2 c3 c4 c5 c6 c7 c8 d0 d1 d2 d3 d4 d5 d6 d7 d8 p0 p1 p2 p3 p4 p5 p6 p7 p0' p1' p2' p3' p4' p5' p6' p7' q0 q1 q2 q3 q4 q5 q6 q7 q0' q1' q2' q3' q4' q5' q6' q7' x0 x1 x2 x3 x4 x5 x6 x7 x0' x1' x2' x3' x4' x5' x6' x7' y0 y1 y2 y3 y4 y5 y6 y7 y0' y1' y2' y3' y4' y5' y6' y7'
    go_wp2_with fail
    go_loopg [16] (m + 1) (fun h s16 wr => ∃ (x y : Nat), Hid (y < h) ∧ Hid (Nat.gcd x y = g) ∧ Hid (Fits x ∧ Fits y) ∧ Hid (WordsAt wr X 0 x 8) ∧ Hid (WordsAt wr Y 0 y 8) ∧ Hid (IntAt wr (S + 1 + 1) false 0) ∧ Hid (Below S w wr) ∧ Hid (S + 1 + 1 + 1 + 1 + 1 ≤ wr.heap.size))
    case atStart => exact ⟨n, m, Nat.lt_succ_self m, HG0, ⟨hn.out, hm.out⟩, KX, KY, KZ, KB, Nat.le_of_eq Ks.out.symm⟩
    case round =>
      clear KX KY KZ KB Ks HG0
      obtain ⟨x, y, HY, HG, HF, KX, KY, KZ, KB, Ks⟩ := hrel
      have hne := fun W => neWords y 0 W HF.out.2 (Nat.pow_pos (by decide))
      simp only [wordsV, wd_zero, Int.natCast_zero] at hne
      obtain ⟨⟨a0, b0⟩, ⟨a1, b1⟩, ⟨a2, b2⟩, ⟨a3, b3⟩, ⟨a4, b4⟩, ⟨a5, b5⟩, ⟨a6, b6⟩, ⟨a7, b7⟩⟩ := KX.out.eight
      obtain ⟨⟨c0, d0⟩, ⟨c1, d1⟩, ⟨c2, d2⟩, ⟨c3, d3⟩, ⟨c4, d4⟩, ⟨c5, d5⟩, ⟨c6, d6⟩, ⟨c7, d7⟩⟩ := KY.out.eight
      by_cases hy : y = 0
      · subst hy
        have HV : Hid (x = g) := by have := HG.out; rwa [Nat.gcd_zero_right] at this
        rw [decide_eq_true rfl] at hne
        obtain ⟨⟨g0, h0⟩, ⟨g1, h1⟩, ⟨g2, h2⟩, ⟨g3, h3⟩, ⟨g4, h4⟩, ⟨g5, h5⟩, ⟨g6, h6⟩, ⟨g7, h7⟩, ⟨g8, h8⟩⟩ := KZ.out.nine
        go_wp2_with fail
        refine bodyPost_ret (v := intV false x) (by rw [results_cell1 rfl]; go_simp; try rfl) rfl ⟨by rw [HV.out]; rfl, ?_⟩
        exact (st9_but wr (S + 1 + 1) false x).2.1 S w (by omega) KB.out
      · rw [decide_eq_false hy] at hne
        have HC := Lib.hid (fun W => divide_run x y W HF.out.1 HF.out.2 (by omega))
        obtain ⟨q, hq⟩ : ∃ q, x / y = q := ⟨_, rfl⟩
        obtain ⟨r, hr⟩ : ∃ r, x % y = r := ⟨_, rfl⟩
        rw [hq, hr] at HC
        have HR : Hid (r < y ∧ Nat.gcd y r = g ∧ Fits r) := by
          have h1 := Nat.mod_lt x (show y > 0 by omega)
          rw [hr] at h1
          refine ⟨h1, ?_, Nat.lt_trans h1 HF.out.2⟩
          rw [← HG.out, ← hr, Nat.gcd_comm x y, Nat.gcd_rec y x, Nat.gcd_comm]
        unfold wordsV at HC
        clear hq hr hy
        go_wp2_with fail
        refine (HC.out _).mono ?_
        rintro e w1 ⟨rfl, hw1⟩
        have hxy := HXY.out
        have hks := Ks.out
        have LX := KX.out.keep hw1 (by omega)
        have LY := KY.out.keep hw1 (by omega)
        have LZ := KZ.out.keep hw1 (by omega)
        have LB : Below S w w1 := KB.out.trans (hw1.mono (by omega))
        have ls : S + 1 + 1 + 1 + 1 + 1 ≤ w1.heap.size := Nat.le_trans hks hw1.size
        obtain ⟨R, hR⟩ : ∃ R, w1.heap.size = R := ⟨_, rfl⟩
        rw [hR] at ls
        have hs1 : (w1.alloc (boxO q 99)).heap.size = R + 1 := by simp [hR]
        have hs2 : ((w1.alloc (boxO q 99)).alloc (boxO r 99)).heap.size = R + 1 + 1 := by simp [hR]
        have P2 := (two_boxes w1 q r 99 99).2.1
        have M1 := (LX.alloc (by omega) (boxO q 99)).alloc (by omega) (boxO r 99)
        have M2 := (LY.alloc (by omega) (boxO q 99)).alloc (by omega) (boxO r 99)
        have M3 := (LZ.alloc (by omega) (boxO q 99)).alloc (by omega) (boxO r 99)
        have M4 : Below S w ((w1.alloc (boxO q 99)).alloc (boxO r 99)) := (LB.alloc (by omega) _).alloc (by omega) _
        rw [hR] at P2
        obtain ⟨wy, hwy⟩ : ∃ wy, (w1.alloc (boxO q 99)).alloc (boxO r 99) = wy := ⟨_, rfl⟩
        rw [hwy] at P2 M1 M2 M3 M4 hs2
        clear hw1 LX LY LZ LB KX KY KZ KB Ks hs1 a0 a1 a2 a3 a4 a5 a6 a7 b0 b1 b2 b3 b4 b5 b6 b7 c0 c1 c2 c3 c4 c5 c6 c7 d0 d1 d2 d3 d4 d5 d6 d7 HC hne hxy hks
        go_upto_region 4 with fail
        have N1 := Lib.hid M1
        have N2 := Lib.hid M2
        have N3 := Lib.hid M3
        have N4 := Lib.hid M4
        have N5 := Lib.hid hs2
        have N6 := Lib.hid ls
        obtain ⟨⟨a0, b0⟩, ⟨a1, b1⟩, ⟨a2, b2⟩, ⟨a3, b3⟩, ⟨a4, b4⟩, ⟨a5, b5⟩, ⟨a6, b6⟩, ⟨a7, b7⟩⟩ := M1.eight
        obtain ⟨⟨c0, d0⟩, ⟨c1, d1⟩, ⟨c2, d2⟩, ⟨c3, d3⟩, ⟨c4, d4⟩, ⟨c5, d5⟩, ⟨c6, d6⟩, ⟨c7, d7⟩⟩ := M2.eight
        obtain ⟨⟨e0, f0⟩, ⟨e1, f1⟩, ⟨e2, f2⟩, ⟨e3, f3⟩, ⟨e4, f4⟩, ⟨e5, f5⟩, ⟨e6, f6⟩, ⟨e7, f7⟩⟩ := P2.eight
        have hne1 : ¬ X = Y := HXY.out.1
        have hne2 : ¬ Y = X := fun h => HXY.out.1 h.symm
        have hlx := HXY.out
        have hne3 : ¬ X = R + 1 := by omega
        have hne4 : ¬ R + 1 = X := by omega
        have hne5 : ¬ Y = R + 1 := by omega
        have hne6 : ¬ R + 1 = Y := by omega
        clear hlx
        clear hwy P2 M1 M2 M3 M4 hs2 ls hR
        go_region
        show Exit.inBlock _ _ _ _ (st8 (st8 wy X y) Y r).drew
        have b1' := st8_but wy X y
        have b2' := st8_but (st8 wy X y) Y r
        have KX := Lib.hid ((st8_at (n := y) N1.out).but b2' hne1)
        have KY := Lib.hid (st8_at (n := r) (N2.out.but b1' hne2))
        have KZ := Lib.hid ((N3.out.but b1' (fun h => HXY.out.2.1 h.symm)).but b2' (fun h => HXY.out.2.2.1 h.symm)).drew
        have KB := Lib.hid (b2'.2.1 S w (by have := HXY.out; omega) (b1'.2.1 S w (by have := HXY.out; omega) N4.out)).drew
        have Ks : Hid (S + 1 + 1 + 1 + 1 + 1 ≤ (st8 (st8 wy X y) Y r).heap.size) := by show _ ≤ _; rw [b2'.2.2, b1'.2.2, N5.out]; have := N6.out; omega
        have KX' : Hid (WordsAt (st8 (st8 wy X y) Y r).drew X 0 y 8) := WordsF.drew1 KX.out
        have KY' : Hid (WordsAt (st8 (st8 wy X y) Y r).drew Y 0 r 8) := WordsF.drew1 KY.out
        have Ks' : Hid (S + 1 + 1 + 1 + 1 + 1 ≤ (st8 (st8 wy X y) Y r).drew.heap.size) := Lib.hid (Nat.le_trans Ks.out (Nat.le_of_eq (drew_size _).symm))
        clear b1' b2' KX KY Ks N1 N2 N3 N4 N5 N6 a0 a1 a2 a3 a4 a5 a6 a7 b0 b1 b2 b3 b4 b5 b6 b7 c0 c1 c2 c3 c4 c5 c6 c7 d0 d1 d2 d3 d4 d5 d6 d7 e0 e1 e2 e3 e4 e5 e6 e7 f0 f1 f2 f3 f4 f5 f6 f7 hne1 hne2 hne3 hne4 hne5 hne6
        generalize (st8 (st8 wy X y) Y r).drew = wz at *
        go_wp2_with fail
        go_roundg y
        case measure => have := HY.out; omega
        case rel => exact ⟨y, r, HR.out.1, HR.out.2.1, ⟨HF.out.2, HR.out.2.2⟩, KX', KY', KZ, KB, Ks'⟩
end Go.Proofs.YtbcnpajdmlbieaaGreatDoor
