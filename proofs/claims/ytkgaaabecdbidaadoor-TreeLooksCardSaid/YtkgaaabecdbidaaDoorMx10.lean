/-
  The document's numbers: small ones, of the program's numbers; are they canonical, do they fit.
-/
import Derived.Test.YtkgaaabecdbidaaDoorMx09
import Derived.Test.YtkgaaabecdbidaaDoorMx08
import Derived.Test.YtkgaaabecdbidaaDoorMx01
import Derived.Test.YtkgaaabecdbidaaDoorMx06
import Derived.Deep.RegionHeld3
import Derived.Test.YtkgaaabecdbidaaDoorMx03
import Derived.Test.YtkgaaabecdbidaaDoorMx00
namespace Go.Proofs.YtkgaaabecdbidaaDoor
open Go.RowKit Go.Sort
set_option linter.unusedSimpArgs false
def NumOut (z : Bool) (m n : Nat) (w : World) (e : Ending) (w' : World) : Prop := ∃ q : Option Addr × Nat, e = .returned (.agg #[.bool z, .slice q.1 m q.2]) ∧ (Good w' z q.1 m q.2 n ∧ Below w.heap.size w w')
theorem NumOut.mk {z : Bool} {m n : Nat} {w w' : World} {A : Option Addr} {c : Nat} (h : Good w' z A m c n) (hb : Below w.heap.size w w') : NumOut z m n w (.returned (.agg #[.bool z, .slice A m c])) w' := ⟨(A, c), rfl, h, hb⟩
theorem div_step (n i : Nat) : n / 65536 ^ i / 65536 = n / 65536 ^ (i + 1) := by rw [Nat.div_div_eq_div_mul, ← Nat.pow_succ]
theorem div_zero_iff (n i : Nat) : n / 65536 ^ i = 0 ↔ nl n ≤ i := by
 rw [Nat.div_eq_zero_iff]
 constructor
 ·rintro (h | h)
  ·exact absurd h (Nat.ne_of_gt (Nat.pow_pos (by decide)))
  ·exact nl_le h
 ·intro h
  exact .inr (Nat.lt_of_lt_of_le (lt_nl n) (Nat.pow_le_pow_right (by decide) h))
theorem sgn_decide (z : Int) : sgn (decide (z < 0)) z.natAbs = decide (z < 0) := by
 unfold sgn
 by_cases h : z < 0
 ·have : z.natAbs ≠ 0 := by omega
  simp [h, this]
 ·simp [h]
set_option maxRecDepth 100000 in
set_option maxHeartbeats 4000000 in
theorem Small_run (z : Int) (x : Bool) (N m : Nat) (w : World) (hz : -1000000 ≤ z ∧ z ≤ 1000000) (hN : Hid (z.natAbs = N)) (hm : Hid (nl N = m)) (hx : Hid (decide (z < 0) = x)) :
    Calls Tryd.prog 59 #[.int .i64 z] w (NumOut x m N w) := by
  obtain ⟨hz1, hz2⟩ := hz
  obtain ⟨S, hS⟩ : ∃ S, w.heap.size = S := ⟨_, rfl⟩
  obtain ⟨W0, hW0⟩ : ∃ W, w.alloc boxNZ = W := ⟨_, rfl⟩
  have I0 := (Bs.start w hS).pushNum hS false none 0 0
  rw [hW0] at I0
  have I := Lib.hid I0
  have hsz : Hid (W0.heap.size = S + 1) := by show _ = _; rw [← hW0]; simp [hS]
  have hN2 : N ≤ 1000000 := by have := hN.out; omega
  have hm2 : m ≤ 2 := by rw [← hm.out]; exact nl_le (by have : (65536 : Nat) ^ 2 = 4294967296 := by decide
                                                        omega)
  have hxz : decide (z < 0) = x := hx.out
  clear I0
  unfold NumOut
  rw [hS]
  go_enter Tryd.func59, Tryd.ntmps59
  have HB0 : Hid (Below (S + 1) W0 W0) := Below.refl _ _
  by_cases hneg : z < 0
  · have hnz : -z = (N : Int) := by have := hN.out; omega
    obtain rfl : x = true := by rw [← hx.out]; simp [hneg]
    clear hxz
    go_wp2_with fail
    go_loopg [3, 4] (m + 1) (fun h s3 s4 wr => ∃ i : Nat, s4 = .int .i64 ((N / 65536 ^ i : Nat) : Int) ∧ Hid (i + h = m + 1) ∧ i ≤ m ∧ Hid (OwnK .i64 3 wr (S + 1) s3 (digl i N)) ∧ Hid (Below (S + 1) W0 wr))
    case atStart => exact ⟨0, by rw [Nat.pow_zero, Nat.div_one], by show _ = _; omega, by omega, OwnK.nil _ _ _ _, HB0⟩
    case round =>
      clear HB0 hW0
      obtain ⟨i, rfl, HI, him, O, HW⟩ := hrel
      obtain ⟨q, hq⟩ : ∃ q, N / 65536 ^ i = q := ⟨_, rfl⟩
      have hqN : q ≤ 1000000 := by rw [← hq]; exact Nat.le_trans (Nat.div_le_self _ _) hN2
      have HQ0 : Hid (q = 0 ↔ m ≤ i) := by show _ ↔ _; rw [← hq, ← hm.out]; exact div_zero_iff N i
      have HQ1 : Hid (q / 65536 = N / 65536 ^ (i + 1)) := by show _ = _; rw [← hq]; exact div_step N i
      have HD : Hid (q % 65536 = dg N i) := by show _ = _; rw [← hq]; rfl
      rw [hq]
      clear hq
      by_cases hq0 : q = 0
      · subst hq0
        obtain rfl : i = m := by have := HQ0.out.1 rfl; omega
        obtain ⟨A9, cap9, hv9, hc9, hm9, y9⟩ := O.out.nums
        rw [digl_length] at hv9 hc9
        subst hv9
        have Y9 := Lib.hid (DgAt.of_nums y9)
        have hcap : Hid (Cap i cap9) := ⟨hc9, by unfold maxLen at hm9; exact hm9⟩
        have HT := Lib.hid (trim_run true true A9 i cap9 N i wr Y9 (show _ < _ by rw [← hm.out]; exact lt_nl N) hcap (by show _ = _; rw [← hx.out, ← hN.out]; exact sgn_decide _) hm)
        have I1 := Lib.hid (I.out.below (by rw [hsz.out]; exact HW.out))
        clear O y9 I HW
        go_wp2_with fail
        refine HT.out.mono ?_
        rintro e w1 ⟨rfl, hw1⟩
        have hg : Good w1 true A9 i cap9 N := ⟨Y9.out.below hw1, hm.out, hcap.out, by rw [← hx.out, ← hN.out]; exact sgn_decide _⟩
        replace I1 := Lib.hid ((I1.out.below hw1).pushDig hg)
        clear hw1 hg HT Y9
        go_wp2_with (with_reducible refine wpList_store_num rfl (.tmp 2) (.tmp 22) rfl (b := S) (t := true) (B := A9) (M := i) (d := cap9) rfl rfl (I1.out.num 1 rfl) ?_)
        have I2 := I1.out.putNum 1 rfl true A9 i cap9 rfl
        refine bodyPost_ret (v := .agg #[.bool true, .slice A9 i cap9]) (results_num1 rfl rfl (I2.num 1 rfl)) rfl ⟨(A9, cap9), rfl, I2.dig 0 rfl, I2.bl⟩
      · have hq1 : 0 < q := by omega
        have hlt : i < m := by
          rcases Nat.lt_or_ge i m with h | h
          · exact h
          · exact absurd (HQ0.out.2 h) hq0
        obtain ⟨d, hd⟩ : ∃ d, q % 65536 = d := ⟨_, rfl⟩
        have Ed : Hid ((q : Int) % 65536 = (d : Int)) := by show _ = _; omega
        have hsz1 := HW.out.size
        have hlen : Hid ((digl i N).length ≤ 500000) := by show _ ≤ _; rw [digl_length]; omega
        have hbase : S + 1 ≤ (wr.alloc (.cells #[.int .i64 ((q : Int) % 65536)] 3)).heap.size := by have := hsz.out; simp; omega
        have OA : Hid (OwnK .i64 3 (wr.alloc (.cells #[.int .i64 ((q : Int) % 65536)] 3)) (S + 1) u3 (digl i N)) := World.ownsRow.alloc O.out _
        have NA : Hid (NumsK .i64 (wr.alloc (.cells #[.int .i64 ((q : Int) % 65536)] 3)) (wr.heap.size + 1) (some ⟨wr.heap.size, 0, none⟩) [(q : Int) % 65536]) := by
          intro _
          refine ⟨_, _, rfl, by omega, fun i x hx => ?_⟩
          match i, hx with
          | 0, hx => cases hx; rw [World.cell?_alloc_at _ _ _ _ rfl]; rfl
        have EL : Hid (digl (i + 1) N = digl i N ++ [(q : Int) % 65536]) := by show _ = _; rw [digl_succ, Ed.out, ← hd, HD.out]
        clear hd
        go_wp2_with
          (at_builtin
           refine wpList_app int_slice _ rfl (.tmp 12) (.tmp 15) rfl (S + 1) u3 _ rfl OA.out (wr.heap.size + 1) (some ⟨wr.heap.size, 0, none⟩) 1 1 [(q : Int) % 65536] rfl NA.out rfl hlen.out (by simp) hbase ?_
           intro v3 w3 o3 g3 t3
           have BV : Hid (Below (S + 1) W0 w3) := (HW.out.alloc (by have := hsz.out; omega) _).grown g3 hbase (own_ge OA.out)
           have OV : Hid (OwnK .i64 3 w3 (S + 1) v3 (digl (i + 1) N)) := by show OwnK _ _ _ _ _ _; rw [EL.out]; exact o3
           clear o3 g3 t3)
        go_roundg (m - i)
        case measure => have := HI.out; omega
        case rel => exact ⟨i + 1, by rw [← HQ1.out]; go_num, by show _ = _; have := HI.out; omega, by omega, OV.out, BV.out⟩
  · obtain rfl : z = (N : Int) := by have := hN.out; omega
    obtain rfl : x = false := by rw [← hx.out]; simp
    clear hxz
    go_wp2_with fail
    go_loopg [3, 4] (m + 1) (fun h s3 s4 wr => ∃ i : Nat, s4 = .int .i64 ((N / 65536 ^ i : Nat) : Int) ∧ Hid (i + h = m + 1) ∧ i ≤ m ∧ Hid (OwnK .i64 3 wr (S + 1) s3 (digl i N)) ∧ Hid (Below (S + 1) W0 wr))
    case atStart => exact ⟨0, by rw [Nat.pow_zero, Nat.div_one], by show _ = _; omega, by omega, OwnK.nil _ _ _ _, HB0⟩
    case round =>
      clear HB0 hW0
      obtain ⟨i, rfl, HI, him, O, HW⟩ := hrel
      obtain ⟨q, hq⟩ : ∃ q, N / 65536 ^ i = q := ⟨_, rfl⟩
      have hqN : q ≤ 1000000 := by rw [← hq]; exact Nat.le_trans (Nat.div_le_self _ _) hN2
      have HQ0 : Hid (q = 0 ↔ m ≤ i) := by show _ ↔ _; rw [← hq, ← hm.out]; exact div_zero_iff N i
      have HQ1 : Hid (q / 65536 = N / 65536 ^ (i + 1)) := by show _ = _; rw [← hq]; exact div_step N i
      have HD : Hid (q % 65536 = dg N i) := by show _ = _; rw [← hq]; rfl
      rw [hq]
      clear hq
      by_cases hq0 : q = 0
      · subst hq0
        obtain rfl : i = m := by have := HQ0.out.1 rfl; omega
        obtain ⟨A9, cap9, hv9, hc9, hm9, y9⟩ := O.out.nums
        rw [digl_length] at hv9 hc9
        subst hv9
        have Y9 := Lib.hid (DgAt.of_nums y9)
        have hcap : Hid (Cap i cap9) := ⟨hc9, by unfold maxLen at hm9; exact hm9⟩
        have HT := Lib.hid (trim_run false false A9 i cap9 N i wr Y9 (show _ < _ by rw [← hm.out]; exact lt_nl N) hcap (by show _ = _; rw [← hx.out, ← hN.out]; exact sgn_decide _) hm)
        have I1 := Lib.hid (I.out.below (by rw [hsz.out]; exact HW.out))
        clear O y9 I HW
        go_wp2_with fail
        refine HT.out.mono ?_
        rintro e w1 ⟨rfl, hw1⟩
        have hg : Good w1 false A9 i cap9 N := ⟨Y9.out.below hw1, hm.out, hcap.out, by rw [← hx.out, ← hN.out]; exact sgn_decide _⟩
        replace I1 := Lib.hid ((I1.out.below hw1).pushDig hg)
        clear hw1 hg HT Y9
        go_wp2_with (with_reducible refine wpList_store_num rfl (.tmp 2) (.tmp 22) rfl (b := S) (t := false) (B := A9) (M := i) (d := cap9) rfl rfl (I1.out.num 1 rfl) ?_)
        have I2 := I1.out.putNum 1 rfl false A9 i cap9 rfl
        refine bodyPost_ret (v := .agg #[.bool false, .slice A9 i cap9]) (results_num1 rfl rfl (I2.num 1 rfl)) rfl ⟨(A9, cap9), rfl, I2.dig 0 rfl, I2.bl⟩
      · have hq1 : 0 < q := by omega
        have hlt : i < m := by
          rcases Nat.lt_or_ge i m with h | h
          · exact h
          · exact absurd (HQ0.out.2 h) hq0
        obtain ⟨d, hd⟩ : ∃ d, q % 65536 = d := ⟨_, rfl⟩
        have Ed : Hid ((q : Int) % 65536 = (d : Int)) := by show _ = _; omega
        have hsz1 := HW.out.size
        have hlen : Hid ((digl i N).length ≤ 500000) := by show _ ≤ _; rw [digl_length]; omega
        have hbase : S + 1 ≤ (wr.alloc (.cells #[.int .i64 ((q : Int) % 65536)] 3)).heap.size := by have := hsz.out; simp; omega
        have OA : Hid (OwnK .i64 3 (wr.alloc (.cells #[.int .i64 ((q : Int) % 65536)] 3)) (S + 1) u3 (digl i N)) := World.ownsRow.alloc O.out _
        have NA : Hid (NumsK .i64 (wr.alloc (.cells #[.int .i64 ((q : Int) % 65536)] 3)) (wr.heap.size + 1) (some ⟨wr.heap.size, 0, none⟩) [(q : Int) % 65536]) := by
          intro _
          refine ⟨_, _, rfl, by omega, fun i x hx => ?_⟩
          match i, hx with
          | 0, hx => cases hx; rw [World.cell?_alloc_at _ _ _ _ rfl]; rfl
        have EL : Hid (digl (i + 1) N = digl i N ++ [(q : Int) % 65536]) := by show _ = _; rw [digl_succ, Ed.out, ← hd, HD.out]
        clear hd
        go_wp2_with
          (at_builtin
           refine wpList_app int_slice _ rfl (.tmp 12) (.tmp 15) rfl (S + 1) u3 _ rfl OA.out (wr.heap.size + 1) (some ⟨wr.heap.size, 0, none⟩) 1 1 [(q : Int) % 65536] rfl NA.out rfl hlen.out (by simp) hbase ?_
           intro v3 w3 o3 g3 t3
           have BV : Hid (Below (S + 1) W0 w3) := (HW.out.alloc (by have := hsz.out; omega) _).grown g3 hbase (own_ge OA.out)
           have OV : Hid (OwnK .i64 3 w3 (S + 1) v3 (digl (i + 1) N)) := by show OwnK _ _ _ _ _ _; rw [EL.out]; exact o3
           clear o3 g3 t3)
        go_roundg (m - i)
        case measure => have := HI.out; omega
        case rel => exact ⟨i + 1, by rw [← HQ1.out]; go_num, by show _ = _; have := HI.out; omega, by omega, OV.out, BV.out⟩
end Go.Proofs.YtkgaaabecdbidaaDoor
namespace Go.Proofs.YtkgaaabecdbidaaDoor
open Go.RowKit
set_option linter.unusedSimpArgs false
set_option maxHeartbeats 4000000 in
set_option maxRecDepth 100000 in
theorem number_run (k : Int) (w : World) (h0 : 0 ≤ k) (h1 : k < 1000) (s : ByteArray) (hs : Hid (numS k = s)) :
  Calls Tryd.prog 47 #[.int .i64 k] w fun e w' => e = .returned (.string s) ∧ Below w.heap.size w w' := by
 have HS := Lib.hid (Small_run k false k.toNat (nl k.toNat) w (by omega) (show k.natAbs = k.toNat by omega) rfl (by show decide (k < 0) = false; simp; omega))
 have HF : Hid (Fits k.toNat) := by
  show k.toNat < _
  exact Nat.lt_of_lt_of_le (show k.toNat < 1000 by omega) (by decide)
 have HN : Hid (txt false k.toNat = s) := hs.out
 generalize nl k.toNat = m at *
 generalize k.toNat = n at *
 clear h0 h1 hs
 go_enter Tryd.func47, Tryd.ntmps47
 go_wp2_with fail
 refine HS.out.mono ?_
 rintro e w1 ⟨⟨A, c⟩, rfl, hg, hw⟩
 have HT := Lib.hid (Text_run7 false A m c n w1 hg HF.out)
 rw [HN.out] at HT
 have B1 := Lib.hid hw
 clear hg hw HS
 go_wp2_with fail
 refine HT.out.mono ?_
 rintro e w2 ⟨rfl, hw⟩
 have B2 : Hid (Below w.heap.size w w2) := B1.out.trans (hw.mono B1.out.size)
 clear hw HT
 go_wp2_with fail
 go_ret
 exact ⟨rfl, B2.out⟩
set_option maxHeartbeats 8000000 in
set_option maxRecDepth 100000 in
theorem refText_run (A : Option Addr) (n cap : Nat) (m : Int) (T : List Nd) (hl : Hid (T.length = n)) (hn : n ≤ 40) (hV : Hid (Valid T m)) (hm : m ≤ 100) (i : Nat) : ∀ (w : World), NdsAt w w.heap.size A T → i < n →
  Calls Tryd.prog 25 #[trV A n cap, .int .i64 i] w fun e w' => e = .returned (.string (textF T i)) ∧ Below w.heap.size w w' := by
 induction i using Nat.strongRecOn with
 | ind i ih =>
 intro w hb hi
 obtain ⟨b, o, K, q, c, rfl, hbB, c0, c1, c2, c3, hq, hqc, hcc, hK, hB⟩ := one_set (cap := cap) hb hl.out hi 24 33
 have hiz : (i : Int) < (n : Int) := by omega
 have HA : Hid (∀ c ∈ (nd T i).kids, 0 ≤ c ∧ c < (i : Int)) := hV.out.kid i (by have := hl.out; omega)
 obtain ⟨k1, k2, k3, k4, k5⟩ := hV.out.num i (by have := hl.out; omega)
 have HIH : Hid (∀ z, z < i → ∀ w : World, NdsAt w w.heap.size (some ⟨b, o, none⟩) T → Calls Tryd.prog 25 #[.agg #[.slice (some ⟨b, o, none⟩) n cap], .int .i64 (z : Int)] w fun e w' => e = .returned (.string (textF T z)) ∧ Below w.heap.size w w') := fun z hz w h => ih z hz w h (by omega)
 have HOW : Hid (∀ (tok : Int) (w : World), NdsAt w w.heap.size (some ⟨b, o, none⟩) T → ∀ v, ownB T i tok = v → Calls Tryd.prog 40 #[.agg #[.slice (some ⟨b, o, none⟩) n cap], .int .i64 i, .int .i64 tok] w fun e w' => e = .returned (.bool v) ∧ Below w.heap.size w w') := fun tok w hw v hv => refOwns_run (some ⟨b, o, none⟩) n cap i tok m T w hw hl hi hV v hv
 obtain ⟨N, hN⟩ : ∃ N : Nat, (nd T i).t = (nd T i).f + (N : Int) := ⟨((nd T i).t - (nd T i).f).toNat, by omega⟩
 obtain ⟨B, hBB⟩ : ∃ B, bodyT (kidT T i) T i (N + 1) (nd T i).f (nd T i).kids ((⟨#[40]⟩ : ByteArray) ++ numS (nd T i).k) = B := ⟨_, rfl⟩
 have HTX : Hid (textF T i = B ++ (⟨#[41]⟩ : ByteArray)) := by
  show _ = _
  rw [textF_eq, ← hBB, show ((nd T i).t - (nd T i).f).toNat = N by omega]
 have hBs : B.size ≤ 100000 := by
  have h1 := textF_size hV.out hm (i := i) (by have := hl.out; omega)
  rw [HTX.out, ByteArray.size_append] at h1
  omega
 obtain ⟨hk, hhk⟩ : ∃ s, numS (nd T i).k = s := ⟨_, rfl⟩
 have hks : hk.size ≤ 3 := by rw [← hhk]; exact numS_size (by omega)
 have HNK := Lib.hid (fun w => number_run (nd T i).k w (by omega) (by omega) hk hhk)
 rw [hhk] at hBB
 have HB := Lib.hid hBB
 have HKT : Hid (∀ z : Nat, z < i → kidT T i (z : Int) = textF T z) := fun z hz => by unfold kidT; rw [if_pos (by omega)]; rfl
 rw [hN] at c2 hB k4 k5
 generalize nd T i = x at *
 clear ih hV hhk hN hBB k4
 have hN100 : x.f + (N : Int) ≤ 100 := by omega
 unfold trV
 obtain ⟨S, hS⟩ : ∃ S, w.heap.size = S := ⟨_, rfl⟩
 rw [hS] at hbB hB hK hb ⊢
 obtain ⟨W, hW⟩ : ∃ W, (w.alloc (.cells #[.slice (some ⟨b, o, none⟩) n cap] 24)).alloc (.cells #[.int .i64 x.k, .int .i64 x.f, .int .i64 (x.f + (N : Int)), .slice K q c] 33) = W := ⟨_, rfl⟩
 have d0 : W.cell? ⟨S, 0, none⟩ = some (.slice (some ⟨b, o, none⟩) n cap) := by rw [← hW, ← hS]; simp
 have e0 : W.cell? ⟨S + 1, 0, none⟩ = some (.int .i64 x.k) := by rw [← hW, ← hS]; simp
 have e1 : W.cell? ⟨S + 1, 1, none⟩ = some (.int .i64 x.f) := by rw [← hW, ← hS]; simp
 have e2 : W.cell? ⟨S + 1, 2, none⟩ = some (.int .i64 (x.f + (N : Int))) := by rw [← hW, ← hS]; simp
 have e3 : W.cell? ⟨S + 1, 3, none⟩ = some (.slice K q c) := by rw [← hW, ← hS]; simp
 rw [hW] at hB
 have BX := Lib.hid hB
 have HK : Hid (Nums W S K x.kids) := NumsK.below hK hB (Nat.le_refl _)
 have HW : Hid (W.heap.size = S + 2) := by show _ = _; rw [← hW, ← hS]; simp
 have HG : Hid (NdsAt W S (some ⟨b, o, none⟩) T) := hb.below hB (Nat.le_refl _)
 have HM := Lib.hid hq
 rw [HTX.out]
 clear hK hb hB hq HTX
 go_enter Tryd.func25, Tryd.ntmps25
 go_wp2_with fail
 refine (HNK.out _).mono ?_
 rintro e w1 ⟨rfl, hw⟩
 have B1 : Hid (Below (S + 2) W w1) := hw.mono (by have := HW.out; omega)
 have e1a := (B1.out.cell (p := ⟨S + 1, 1, none⟩) (by show S + 1 < _; omega)).trans e1
 clear hw HNK
 go_wp2_with fail
 go_loopg [6, 7, 8] (N + 2) (fun h s6 s7 s8 wr => ∃ (d r : Nat) (tok : Int) (s : ByteArray), s8 = .int .i64 tok ∧ s7 = .int .i64 r ∧ s6 = .string s ∧ Hid (tok = x.f + (d : Int) ∧ d ≤ N + 1 ∧ d + h = N + 2 ∧ r ≤ q) ∧ Hid (bodyT (kidT T i) T i (N + 1 - d) tok (x.kids.drop r) s = B) ∧ Hid (Below (S + 2) W wr))
 case atStart => exact ⟨0, 0, x.f, _, rfl, rfl, rfl, by show _ ∧ _; simp, HB.out, B1.out⟩
 case round =>
  clear HB B1 e1a
  obtain ⟨d, r, tok, s, rfl, rfl, rfl, HD, HF, BW⟩ := hrel
  generalize wr = wq at *
  have e2' := (BW.out.cell (p := ⟨S + 1, 2, none⟩) (by show S + 1 < _; omega)).trans e2
  have hsB : s.size ≤ 100000 := by have := bodyT_ge (kidT T i) T i (N + 1 - d) tok (x.kids.drop r) s; rw [HF.out] at this; omega
  by_cases hd : d ≤ N
  ·have hdz : tok ≤ x.f + (N : Int) := by have := HD.out; omega
   have htk : 0 ≤ tok ∧ tok ≤ 100 := by have := HD.out; omega
   obtain ⟨P, hP⟩ : ∃ P, kidsAt (kidT T i) T tok (x.kids.drop r) s = P := ⟨_, rfl⟩
   obtain ⟨P1, P2⟩ := P
   have HF2 : Hid (bodyT (kidT T i) T i (N - d) (tok + 1) P2 (if ownB T i tok then P1 ++ spS ++ numS tok else P1) = B) := by
    show _ = _
    rw [← HF.out, show N + 1 - d = N - d + 1 by omega, bodyT, hP]
   have HP := Lib.hid hP
   have hP1 : P1.size ≤ 100000 := by
    have := bodyT_ge (kidT T i) T i (N - d) (tok + 1) P2 (if ownB T i tok then P1 ++ spS ++ numS tok else P1)
    rw [HF2.out] at this
    split at this
    ·simp only [ByteArray.size_append] at this; omega
    ·omega
   clear hP HF hsB
   go_wp2_with fail
   go_loopg [6, 7] (q + 1) (fun h s6 s7 wr => ∃ (r : Nat) (s : ByteArray), s7 = .int .i64 r ∧ s6 = .string s ∧ Hid (r ≤ q ∧ r + h ≥ q + 1 ∧ h ≤ q + 1) ∧ Hid (kidsAt (kidT T i) T tok (x.kids.drop r) s = (P1, P2)) ∧ Hid (Below (S + 2) W wr))
   case atStart => exact ⟨r, s, rfl, rfl, by show _ ∧ _; have := HD.out; omega, HP.out, BW.out⟩
   case round =>
    clear HP BW e2'
    obtain ⟨r, s, rfl, rfl, HR, HP, BW⟩ := hrel
    generalize wr = wz at *
    have d0' := (BW.out.cell (p := ⟨S, 0, none⟩) (by show S < _; omega)).trans d0
    have e3' := (BW.out.cell (p := ⟨S + 1, 3, none⟩) (by show S + 1 < _; omega)).trans e3
    have hsz : S + 2 ≤ wz.heap.size := by rw [← HW.out]; exact BW.out.size
    have hsP : s.size ≤ 100000 := by have := kidsAt_ge (kidT T i) T tok (x.kids.drop r) s; rw [HP.out] at this; exact Nat.le_trans this hP1
    by_cases hr : r < q
    ·have hrz : (r : Int) < (q : Int) := by omega
     obtain ⟨y, hy⟩ : ∃ y, x.kids[r]? = some y := ⟨_, List.getElem?_eq_getElem (by have := HM.out; omega)⟩
     obtain ⟨kb, ko, rfl, hkb, hkc⟩ := HK.out (by have := HM.out; omega)
     have k00 := hkc r y hy
     have k0 := (BW.out.cell (p := ⟨kb, ko + r, none⟩) (by show kb < _; omega)).trans k00
     obtain ⟨hy1, hy2⟩ := HA.out y (List.mem_of_getElem? hy)
     obtain ⟨z, rfl⟩ : ∃ z : Nat, y = z := ⟨y.toNat, by omega⟩
     have hzn : z < n := by omega
     have hznz : (z : Int) < (n : Int) := by omega
     have hzi : z < i := by omega
     obtain ⟨b2, o2, eb, hb2, hget⟩ := HG.out.get (by have := hl.out; omega)
     cases eb
     obtain ⟨K2, q2, cc2, _, g1, _, _, gm, _, _, _⟩ := hget z _ (at_nd (by have := hl.out; omega))
     clear gm
     have f1 := (BW.out.cell (p := ⟨b, o + z * 4 + 1, none⟩) (by show b < _; omega)).trans g1
     have ez : kd T (z : Int) = nd T z := by unfold kd; simp
     have HP2 : Hid ((if (nd T z).f = tok then kidsAt (kidT T i) T tok (x.kids.drop (r + 1)) (s ++ spS ++ textF T z) else (s, x.kids.drop r)) = (P1, P2)) := by
      show _ = _
      rw [← HP.out, dropT_at hy, kidsAt, ez, HKT.out z hzi]
     have HC := Lib.hid (HIH.out z hzi)
     generalize (nd T z).f = u at *
     generalize textF T z = tz at *
     clear hkc hy hy1 hy2 hget g1
     by_cases hu : u = tok
     ·subst hu
      have HP3 : Hid (kidsAt (kidT T i) T u (x.kids.drop (r + 1)) (s ++ spS ++ tz) = (P1, P2)) := by rw [← HP2.out, if_pos rfl]; exact rfl
      have hsz2 : (s ++ spS ++ tz).size ≤ 100000 := by have := kidsAt_ge (kidT T i) T u (x.kids.drop (r + 1)) (s ++ spS ++ tz); rw [HP3.out] at this; exact Nat.le_trans this hP1
      clear HP HP2
      go_wp2_with fail
      go_quiet (fail)
      go_wp2_with fail
      have BV : Hid (Below (S + 2) W (wz.drewN nq)) := below_drewN BW.out nq
      clear d0' e3' k0 f1 BW hsz
      generalize wz.drewN nq = V at *
      clear wz
      have d0' := (BV.out.cell (p := ⟨S, 0, none⟩) (by show S < _; omega)).trans d0
      have e3' := (BV.out.cell (p := ⟨S + 1, 3, none⟩) (by show S + 1 < _; omega)).trans e3
      have k0 := (BV.out.cell (p := ⟨kb, ko + r, none⟩) (by show kb < _; omega)).trans k00
      have hsz : S + 2 ≤ V.heap.size := by rw [← HW.out]; exact BV.out.size
      have HGD : Hid (NdsAt V.drew V.drew.heap.size (some ⟨b, o, none⟩) T) := (HG.out.below (BV.out.drew) (by omega)).more (by show S ≤ V.heap.size; omega)
      have HPS : Hid (S < V.heap.size ∧ S + 1 < V.heap.size ∧ kb < V.heap.size) := by show _ ∧ _; omega
      have hz1 : ¬ 9223372036854775807 < s.size + 1 := by omega
      have hz2 : ¬ 9223372036854775807 < s.size + 1 + tz.size := by simp only [ByteArray.size_append, spS] at hsz2; have : (⟨#[32]⟩ : ByteArray).size = 1 := rfl; omega
      go_region_held3 (fun W' => W'.cell? ⟨S, 0, none⟩ = some (.slice (some ⟨b, o, none⟩) n cap) ∧ W'.cell? ⟨S + 1, 3, none⟩ = some (.slice (some ⟨kb, ko, none⟩) q c) ∧ W'.cell? ⟨kb, ko + r, none⟩ = some (.int .i64 (z : Int))) (first | exact ⟨d0', e3', k0⟩ | exact D1.out | go_keep)
       (first | (go_at_call 25; refine (HC.out _ HGD.out).mono ?_; rintro e w1 ⟨rfl, hw1⟩; have B1 : Hid (Below V.heap.size V w1) := (Below.refl _ V).drew.trans hw1; have D1 : Hid (w1.cell? ⟨S, 0, none⟩ = some (.slice (some ⟨b, o, none⟩) n cap) ∧ w1.cell? ⟨S + 1, 3, none⟩ = some (.slice (some ⟨kb, ko, none⟩) q c) ∧ w1.cell? ⟨kb, ko + r, none⟩ = some (.int .i64 (z : Int))) := ⟨(B1.out.cell (p := ⟨S, 0, none⟩) HPS.out.1).trans d0', (B1.out.cell (p := ⟨S + 1, 3, none⟩) HPS.out.2.1).trans e3', (B1.out.cell (p := ⟨kb, ko + r, none⟩) HPS.out.2.2).trans k0⟩; clear hw1))
      go_wp2_with fail
      go_roundg (q - r)
      case measure => have := HR.out; omega
      case rel => exact ⟨r + 1, _, by go_num, rfl, by show _ ∧ _; have := HR.out; omega, HP3.out, BV.out.trans (B1.out.mono hsz)⟩
     ·have hub : (u == tok) = false := by simpa using hu
      have hPE : (s, x.kids.drop r) = (P1, P2) := by rw [← HP2.out, if_neg hu]
      obtain ⟨rfl, rfl⟩ : s = P1 ∧ x.kids.drop r = P2 := by injection hPE with a b; exact ⟨a, b⟩
      clear HP HP2 hPE HC
      go_wp2_with fail
      go_quiet (fail)
      go_wp2_with fail
      have BV : Hid (Below (S + 2) W (wz.drewN nq)) := below_drewN BW.out nq
      clear d0' e3' k0 f1 BW hsz
      generalize wz.drewN nq = V at *
      clear wz
      have e2' := (BV.out.cell (p := ⟨S + 1, 2, none⟩) (by show S + 1 < _; omega)).trans e2
      have hsz : S + 2 ≤ V.heap.size := by rw [← HW.out]; exact BV.out.size
      have d0' := (BV.out.cell (p := ⟨S, 0, none⟩) (by show S < _; omega)).trans d0
      obtain ⟨v, hv⟩ : ∃ v, ownB T i tok = v := ⟨_, rfl⟩
      have HC := Lib.hid (HOW.out tok V ((HG.out.below BV.out (by omega)).more (by omega)) v hv)
      rw [hv] at HF2
      have htw : IntKind.i64.wrap (tok + 1) = tok + 1 := by rw [IntKind.wrap_i64]; omega
      clear hv
      go_wp2_with fail
      refine HC.out.mono ?_
      rintro e w1 ⟨rfl, hw⟩
      have B1 : Hid (Below (S + 2) W w1) := BV.out.trans (hw.mono hsz)
      clear hw HC BV d0' e2' hsz
      cases v with
      | false =>
       have HF3 : Hid (bodyT (kidT T i) T i (N - d) (tok + 1) (x.kids.drop r) s = B) := HF2.out
       clear HF2
       go_wp2_with fail
       go_roundg (N + 1 - d)
       case measure => have := HD.out; omega
       case rel => exact ⟨d + 1, r, tok + 1, s, by go_num, rfl, rfl, by show _ ∧ _; have := HD.out; have := HR.out; omega, by rw [show N + 1 - (d + 1) = N - d by omega]; exact HF3.out, B1.out⟩
      | true =>
       obtain ⟨tn, htn⟩ : ∃ t, numS tok = t := ⟨_, rfl⟩
       have htns : tn.size ≤ 3 := by rw [← htn]; exact numS_size (by omega)
       have HF3 : Hid (bodyT (kidT T i) T i (N - d) (tok + 1) (x.kids.drop r) (s ++ spS ++ tn) = B) := by rw [← htn]; exact HF2.out
       have HNT := Lib.hid (number_run tok w1 (by omega) (by omega) tn htn)
       have hz1 : ¬ 9223372036854775807 < s.size + 1 := by omega
       have hz2 : ¬ 9223372036854775807 < s.size + 1 + tn.size := by omega
       have hs1 : S + 2 ≤ w1.heap.size := by rw [← HW.out]; exact B1.out.size
       clear HF2 htn
       go_wp2_with fail
       refine HNT.out.mono ?_
       rintro e w2 ⟨rfl, hw⟩
       have B2 : Hid (Below (S + 2) W w2) := B1.out.trans (hw.mono hs1)
       clear hw HNT
       go_wp2_with fail
       go_roundg (N + 1 - d)
       case measure => have := HD.out; omega
       case rel => exact ⟨d + 1, r, tok + 1, _, by go_num, rfl, rfl, by show _ ∧ _; have := HD.out; have := HR.out; omega, by rw [show N + 1 - (d + 1) = N - d by omega]; exact HF3.out, B2.out⟩
    ·have hrz : ¬ (r : Int) < (q : Int) := by omega
     have hPE : (s, x.kids.drop r) = (P1, P2) := by
      rw [← HP.out, List.drop_eq_nil_of_le (by have := HM.out; have := HR.out; omega)]
      rfl
     obtain ⟨rfl, rfl⟩ : s = P1 ∧ x.kids.drop r = P2 := by injection hPE with a b; exact ⟨a, b⟩
     clear HP hPE
     go_wp2_with fail
     go_quiet (fail)
     go_wp2_with fail
     have BV : Hid (Below (S + 2) W (wz.drewN nq)) := below_drewN BW.out nq
     clear d0' e3' BW hsz
     generalize wz.drewN nq = V at *
     clear wz
     have e2' := (BV.out.cell (p := ⟨S + 1, 2, none⟩) (by show S + 1 < _; omega)).trans e2
     have hsz : S + 2 ≤ V.heap.size := by rw [← HW.out]; exact BV.out.size
     have d0' := (BV.out.cell (p := ⟨S, 0, none⟩) (by show S < _; omega)).trans d0
     obtain ⟨v, hv⟩ : ∃ v, ownB T i tok = v := ⟨_, rfl⟩
     have HC := Lib.hid (HOW.out tok V ((HG.out.below BV.out (by omega)).more (by omega)) v hv)
     rw [hv] at HF2
     have htw : IntKind.i64.wrap (tok + 1) = tok + 1 := by rw [IntKind.wrap_i64]; omega
     clear hv
     go_wp2_with fail
     refine HC.out.mono ?_
     rintro e w1 ⟨rfl, hw⟩
     have B1 : Hid (Below (S + 2) W w1) := BV.out.trans (hw.mono hsz)
     clear hw HC BV d0' e2' hsz
     cases v with
     | false =>
      have HF3 : Hid (bodyT (kidT T i) T i (N - d) (tok + 1) (x.kids.drop r) s = B) := HF2.out
      clear HF2
      go_wp2_with fail
      go_roundg (N + 1 - d)
      case measure => have := HD.out; omega
      case rel => exact ⟨d + 1, r, tok + 1, s, by go_num, rfl, rfl, by show _ ∧ _; have := HD.out; have := HR.out; omega, by rw [show N + 1 - (d + 1) = N - d by omega]; exact HF3.out, B1.out⟩
     | true =>
      obtain ⟨tn, htn⟩ : ∃ t, numS tok = t := ⟨_, rfl⟩
      have htns : tn.size ≤ 3 := by rw [← htn]; exact numS_size (by omega)
      have HF3 : Hid (bodyT (kidT T i) T i (N - d) (tok + 1) (x.kids.drop r) (s ++ spS ++ tn) = B) := by rw [← htn]; exact HF2.out
      have HNT := Lib.hid (number_run tok w1 (by omega) (by omega) tn htn)
      have hz1 : ¬ 9223372036854775807 < s.size + 1 := by omega
      have hz2 : ¬ 9223372036854775807 < s.size + 1 + tn.size := by omega
      have hs1 : S + 2 ≤ w1.heap.size := by rw [← HW.out]; exact B1.out.size
      clear HF2 htn
      go_wp2_with fail
      refine HNT.out.mono ?_
      rintro e w2 ⟨rfl, hw⟩
      have B2 : Hid (Below (S + 2) W w2) := B1.out.trans (hw.mono hs1)
      clear hw HNT
      go_wp2_with fail
      go_roundg (N + 1 - d)
      case measure => have := HD.out; omega
      case rel => exact ⟨d + 1, r, tok + 1, _, by go_num, rfl, rfl, by show _ ∧ _; have := HD.out; have := HR.out; omega, by rw [show N + 1 - (d + 1) = N - d by omega]; exact HF3.out, B2.out⟩
  ·have hdz : ¬ tok ≤ x.f + (N : Int) := by have := HD.out; omega
   have hsB2 : s = B := by
    rw [← HF.out, show N + 1 - d = 0 by have := HD.out; omega]
    rfl
   subst hsB2
   have hz1 : ¬ 9223372036854775807 < s.size + 1 := by omega
   have BR : Hid (Below S w wq) := BX.out.trans (BW.out.mono (by omega))
   clear HF
   go_wp2_with fail
   go_ret
   exact ⟨rfl, BR.out⟩
end Go.Proofs.YtkgaaabecdbidaaDoor
namespace Go.Proofs.YtkgaaabecdbidaaDoor
open Go.RowKit
set_option linter.unusedSimpArgs false
def cntT (T : List Nd) (k : Int) : Nat := T.countP fun n => decide (n.k = k)
def parL (T : List Nd) : List Int := (List.range T.length).map fun (i : Nat) => parF T (i : Int)
def ownerL (T : List Nd) : List Int := (List.range (rootOf T).t.toNat).map fun (i : Nat) => ownerF T (i : Int)
def ownE (T : List Nd) (j : Int) : Nat × Int := resOf (sndT T) (if 0 ≤ j ∧ j < (T.length : Int) then (0, -1) else (4, -1)) (sndT T)
def atE (T : List Nd) (tok : Int) : Nat × Int := resOf (sndT T) (if (0 ≤ tok ∧ tok < (rootOf T).t) ∧ 0 ≤ ownerF T tok then (0, -1) else (4, -1)) (sndT T)
def SaysText : Prop := ∀ (A : Option Addr) (n cap : Nat) (T : List Nd) (w : World), TreeAt w A n T → (rootOf T).t ≤ 100 →
 Calls Tryd.prog 22 #[trV A n cap] w fun e w' => e = .returned (.tuple #[.string (resOf (sndT T) (textF T (n - 1)) ⟨#[]⟩), trErr (sndT T)]) ∧ Below w.heap.size w w'
def SaysParents : Prop := ∀ (A : Option Addr) (n cap : Nat) (T : List Nd) (w : World), TreeAt w A n T → (rootOf T).t ≤ 100 →
 Calls Tryd.prog 17 #[trV A n cap] w fun e w' => ∃ v, e = .returned (.tuple #[v, trErr (sndT T)]) ∧ OutK (resOf (sndT T) (parL T) []) w v w'
def SaysOwn : Prop := ∀ (A : Option Addr) (n cap : Nat) (j : Int) (T : List Nd) (w : World), TreeAt w A n T → (rootOf T).t ≤ 100 →
 Calls Tryd.prog 18 #[trV A n cap, .int .i64 j] w fun e w' => ∃ v, e = .returned (.tuple #[v, trErr (ownE T j)]) ∧ OutK (resOf (ownE T j) (ownL T j.toNat) []) w v w'
end Go.Proofs.YtkgaaabecdbidaaDoor
namespace Go.Proofs.YtkgaaabecdbidaaDoor
open Go.RowKit
set_option linter.unusedSimpArgs false
def exT : List Nd := [⟨2, 0, 1, []⟩, ⟨1, 0, 2, [0]⟩]
theorem ex_snd : sndT exT = (0, -1) := by decide +kernel
theorem numS_one : numS 1 = ⟨#[49]⟩ := by unfold numS txt; rw [show sgn false (1 : Int).toNat = false by simp [sgn], if_neg (by decide)]; unfold decS; rw [show (1 : Int).toNat = 1 from rfl, decDigits_small (by decide)]; rfl
theorem numS_two : numS 2 = ⟨#[50]⟩ := by unfold numS txt; rw [show sgn false (2 : Int).toNat = false by simp [sgn], if_neg (by decide)]; unfold decS; rw [show (2 : Int).toNat = 2 from rfl, decDigits_small (by decide)]; rfl
theorem numS_zero : numS 0 = ⟨#[48]⟩ := by unfold numS txt; rw [show sgn false (0 : Int).toNat = false by simp [sgn], if_neg (by decide)]; unfold decS; rw [show (0 : Int).toNat = 0 from rfl, decDigits_small (by decide)]; rfl
theorem ex_low : textF exT 0 = ⟨#[40, 50, 32, 48, 41]⟩ := by
 rw [textF_eq]
 have e : nd exT 0 = ⟨2, 0, 1, []⟩ := rfl
 rw [e]
 show bodyT (kidT exT 0) exT 0 2 0 [] ((⟨#[40]⟩ : ByteArray) ++ numS 2) ++ (⟨#[41]⟩ : ByteArray) = _
 rw [numS_two]
 have o0 : ownB exT 0 0 = true := by decide +kernel
 have o1 : ownB exT 0 1 = false := by decide +kernel
 simp only [bodyT, kidsAt, o0, o1, if_true, Int.zero_add, Bool.false_eq_true, if_false, numS_zero]
 decide +kernel
theorem ex_text : textF exT 1 = ⟨#[40, 49, 32, 40, 50, 32, 48, 41, 32, 49, 41]⟩ := by
 rw [textF_eq]
 have e : nd exT 1 = ⟨1, 0, 2, [0]⟩ := rfl
 rw [e]
 show bodyT (kidT exT 1) exT 1 3 0 [0] ((⟨#[40]⟩ : ByteArray) ++ numS 1) ++ (⟨#[41]⟩ : ByteArray) = _
 rw [numS_one]
 have o0 : ownB exT 1 0 = false := by decide +kernel
 have o1 : ownB exT 1 1 = true := by decide +kernel
 have o2 : ownB exT 1 2 = false := by decide +kernel
 have k0 : (kd exT 0).f = 0 := rfl
 have kt : kidT exT 1 0 = ⟨#[40, 50, 32, 48, 41]⟩ := by
  unfold kidT
  rw [if_pos (by decide)]
  exact ex_low
 have a1 : (0 : Int) + 1 = 1 := rfl
 have a2 : (1 : Int) + 1 = 2 := rfl
 simp only [bodyT, kidsAt, k0, kt, a1, a2, o0, o1, o2, if_true, Bool.false_eq_true, if_false, numS_one]
 decide +kernel
theorem ex_small : SmallT exT := ⟨by decide, by decide⟩
set_option maxHeartbeats 4000000 in
set_option maxRecDepth 100000 in
theorem works13_run (hT : SaysText) (w : World) : Calls Tryd.prog 13 #[] w fun e w' => e = .returned (.bool true) ∧ Below w.heap.size w w' := by
 obtain ⟨S, hS⟩ : ∃ S, w.heap.size = S := ⟨_, rfl⟩
 have hB : Below S w ((w.alloc (.cells #[.int .i64 0] 3)).alloc (.cells #[.int .i64 2, .int .i64 0, .int .i64 1, .slice none 0 0, .int .i64 1, .int .i64 0, .int .i64 2, .slice (some ⟨S, 0, none⟩) 1 1] 33)) := by rw [← hS]; exact ((Below.refl _ _).alloc (Nat.le_refl _) _).alloc (by simp) _
 have hA : NdsAt ((w.alloc (.cells #[.int .i64 0] 3)).alloc (.cells #[.int .i64 2, .int .i64 0, .int .i64 1, .slice none 0 0, .int .i64 1, .int .i64 0, .int .i64 2, .slice (some ⟨S, 0, none⟩) 1 1] 33)) (S + 2) (some ⟨S + 1, 0, none⟩) exT := by
  subst hS
  refine ⟨[⟨2, 0, 1, none, 0, 0⟩, ⟨1, 0, 2, some ⟨w.heap.size, 0, none⟩, 1, 1⟩], fun _ => ⟨_, _, rfl, by omega, fun j u hu => ?_⟩, rfl, fun i x n hx hn => ?_⟩
  ·match j, hu with
   | 0, hu => cases hu; rw [World.cell?_alloc_at _ _ _ _ (by simp)]; rfl
   | 1, hu => cases hu; rw [World.cell?_alloc_at _ _ _ _ (by simp)]; rfl
   | 2, hu => cases hu; rw [World.cell?_alloc_at _ _ _ _ (by simp)]; rfl
   | 3, hu => cases hu; rw [World.cell?_alloc_at _ _ _ _ (by simp)]; rfl
   | 4, hu => cases hu; rw [World.cell?_alloc_at _ _ _ _ (by simp)]; rfl
   | 5, hu => cases hu; rw [World.cell?_alloc_at _ _ _ _ (by simp)]; rfl
   | 6, hu => cases hu; rw [World.cell?_alloc_at _ _ _ _ (by simp)]; rfl
   | 7, hu => cases hu; rw [World.cell?_alloc_at _ _ _ _ (by simp)]; rfl
  ·match i, hx, hn with
   | 0, hx, hn =>
    cases hx; cases hn
    exact ⟨rfl, rfl, rfl, rfl, by decide, by decide, NumsK.nil⟩
   | 1, hx, hn =>
    cases hx; cases hn
    refine ⟨rfl, rfl, rfl, rfl, Nat.le_refl _, by show 1 ≤ _; omega, fun _ => ⟨_, _, rfl, by omega, fun i x hx => ?_⟩⟩
    match i, hx with
    | 0, hx =>
     cases hx
     rw [World.cell?_alloc_lt _ _ _ (by simp), World.cell?_alloc_at _ _ _ _ rfl]
     rfl
 have hTA : TreeAt ((w.alloc (.cells #[.int .i64 0] 3)).alloc (.cells #[.int .i64 2, .int .i64 0, .int .i64 1, .slice none 0 0, .int .i64 1, .int .i64 0, .int .i64 2, .slice (some ⟨S, 0, none⟩) 1 1] 33)) (some ⟨S + 1, 0, none⟩) 2 exT := ⟨by simp only [World.size_alloc, hS]; exact hA, rfl, ex_small⟩
 have HC := Lib.hid (hT _ 2 2 exT _ hTA (by decide))
 rw [ex_snd, show (2 : Nat) - 1 = 1 from rfl, ex_text] at HC
 obtain ⟨s, hs⟩ : ∃ s : ByteArray, s = ⟨#[40, 49, 32, 40, 50, 32, 48, 41, 32, 49, 41]⟩ := ⟨_, rfl⟩
 have hsl : (s.toList == [40, 49, 32, 40, 50, 32, 48, 41, 32, 49, 41]) = true := by rw [hs, ByteArray.toList_mk]; rfl
 rw [← hs] at HC
 simp only [resOf, if_true, trErr] at HC
 clear hs
 have BX := Lib.hid hB
 rw [hS]
 clear hA hTA hB hT
 unfold trV at HC
 go_enter Tryd.func13, Tryd.ntmps13
 go_wp2_with fail
 refine HC.out.mono ?_
 rintro e w1 ⟨rfl, hw⟩
 have B1 : Hid (Below S w w1) := BX.out.trans (hw.mono (by simp; omega))
 clear hw HC
 go_wp2_with fail
 go_ret
 exact ⟨rfl, B1.out⟩
end Go.Proofs.YtkgaaabecdbidaaDoor
namespace Go.Proofs.YtkgaaabecdbidaaDoor
open Go.RowKit
set_option linter.unusedSimpArgs false
theorem off_trErr (p : Nat × Int) (h : p.1 = 0 → p.2 = -1) (k : Int) (hk : p.2 = k) (w : World) (hg : ErrType w) : Calls Tryd.prog 11 #[trErr p] w fun e w' => e = .returned (.int .i64 k) ∧ Below w.heap.size w w' := by
 subst hk
 unfold trErr
 split
 ·next h0 => rw [h h0]; exact off_nil w
 ·split
  ·next h1 => rw [h1]; exact off_errno p.1 w hg
  ·exact off_at p.2 p.1 w hg
end Go.Proofs.YtkgaaabecdbidaaDoor
namespace Go.Proofs.YtkgaaabecdbidaaDoor
open Go.RowKit
def SaysCount : Prop := ∀ (A : Option Addr) (n cap : Nat) (k : Int) (T : List Nd) (w : World), TreeAt w A n T →
 Calls Tryd.prog 12 #[trV A n cap, .int .i64 k] w fun e w' => e = .returned (.int .i64 (cntT T k : Nat)) ∧ Below w.heap.size w w'
end Go.Proofs.YtkgaaabecdbidaaDoor
