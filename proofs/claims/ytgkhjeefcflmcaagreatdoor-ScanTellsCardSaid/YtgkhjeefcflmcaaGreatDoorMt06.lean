/-
  Stage 7: limb's takeOut: a word of a quotient.
-/
import Derived.Test.YtgkhjeefcflmcaaGreatDoorMt05
namespace Go.Proofs.YtgkhjeefcflmcaaGreatDoor
open Go.RowKit Go.Sort
theorem top_div {D k : Nat} (h : D < 18446744073709551616 ^ (k + 1)) : D / 18446744073709551616 ^ k = wd D k := by
 unfold wd dig
 rw [Nat.mod_eq_of_lt]
 exact (Nat.div_lt_iff_lt_mul (Nat.pow_pos (by decide))).2 (by rw [Nat.pow_succ, Nat.mul_comm] at h; exact h)
theorem top_two {R k : Nat} (h : R < 18446744073709551616 ^ (k + 2)) : R / 18446744073709551616 ^ k = wd R (k + 1) * 18446744073709551616 + wd R k := by
 rw [div_dig, top_div h, Nat.mul_comm]
 rfl
theorem guess_ok {R D k : Nat} (hD : D < 18446744073709551616 ^ (k + 1)) (hR : R < 18446744073709551616 ^ (k + 2)) (hz : 0 < wd D k) (hx : wd R (k + 1) < wd D k) :
  R / D ≤ (wd R (k + 1) * 18446744073709551616 + wd R k) / wd D k ∧ (wd R (k + 1) * 18446744073709551616 + wd R k) / wd D k < 18446744073709551616 := by
 have hP : 0 < 18446744073709551616 ^ k := Nat.pow_pos (by decide)
 have h1 := top_div hD
 have h2 := top_two hR
 constructor
 ·apply guess_ge (P := 18446744073709551616 ^ k) (D := D) (R := R) hz
  ·rw [← h1]; exact Nat.div_mul_le_self _ _
  ·rw [← h2, Nat.mul_comm]
   exact Nat.lt_mul_div_succ R hP
  ·exact Nat.div_mul_le_self _ _
 ·apply (Nat.div_lt_iff_lt_mul hz).2
  have := wd_lt R k
  omega
theorem quot_lt {R D : Nat} (h : R < D * 18446744073709551616) : R / D ≤ 18446744073709551615 := by
 have hD : 0 < D := by
  rcases Nat.eq_zero_or_pos D with h0 | h0
  ·subst h0; simp at h
  ·exact h0
 exact Nat.le_of_lt_succ ((Nat.div_lt_iff_lt_mul hD).2 (by rw [Nat.mul_comm]; exact h))
theorem quot_is {R D t : Nat} (hD : 0 < D) (h1 : R / D ≤ t) (h2 : t * D ≤ R) : t = R / D ∧ R - t * D = R % D := by
 have h3 := (Nat.le_div_iff_mul_le hD).2 h2
 have h4 : t = R / D := by omega
 refine ⟨h4, ?_⟩
 have := Nat.div_add_mod R D
 rw [← h4, Nat.mul_comm] at this
 omega
theorem words_mod {w : World} {b o M N : Nat} (h : WordsAt w b o M N) {V : Nat} (e : M % 18446744073709551616 ^ N = V % 18446744073709551616 ^ N) : WordsAt w b o V N := h.ext fun j hj => by
 unfold wd
 rw [← dig_mod hj, e, dig_mod hj]
structure Taken (R D N t M : Nat) (bl : Bool) : Prop where
 ge : R / D ≤ t
 lt : t < 18446744073709551616
 below : bl = true → M + t * D = R + 18446744073709551616 ^ N ∧ M < 18446744073709551616 ^ N
 done : bl = false → t * D ≤ R ∧ M % 18446744073709551616 ^ N = (R - t * D) % 18446744073709551616 ^ N
theorem Taken.start {R D N t : Nat} (hP : t * D < 18446744073709551616 ^ N) (h1 : R / D ≤ t) (h2 : t < 18446744073709551616) : Taken R D N t (subW R (t * D) N) (decide (R < t * D)) := by
 refine ⟨h1, h2, fun h => ?_, fun h => ?_⟩
 ·have h3 : R < t * D := of_decide_eq_true h
  unfold subW
  rw [if_pos h3]
  omega
 ·have h3 : ¬ R < t * D := of_decide_eq_false h
  unfold subW
  rw [if_neg h3]
  exact ⟨by omega, rfl⟩
theorem Taken.next {R D N t M : Nat} (h : Taken R D N t M true) : 0 < t ∧ Taken R D N (t - 1) (M + D) (decide ((M + D) / 18446744073709551616 ^ N = 0)) := by
 obtain ⟨h1, h2⟩ := h.below rfl
 have hP : 0 < 18446744073709551616 ^ N := Nat.pow_pos (by decide)
 have h3 : R / D * D ≤ R := Nat.div_mul_le_self _ _
 have h4 : R / D < t := by
  rcases Nat.lt_or_ge (R / D) t with h5 | h5
  ·exact h5
  ·have h6 : t * D ≤ R / D * D := Nat.mul_le_mul_right _ h5
   generalize R / D * D = x at *
   omega
 have ht0 : 0 < t := Nat.lt_of_le_of_lt (Nat.zero_le _) h4
 have h6 : (t - 1) * D + D = t * D := by rw [← Nat.succ_mul, Nat.succ_eq_add_one, Nat.sub_add_cancel ht0]
 have hlt := h.lt
 obtain ⟨q, hq⟩ : ∃ q, R / D = q := ⟨_, rfl⟩
 obtain ⟨qd, hqd⟩ : ∃ qd, q * D = qd := ⟨_, rfl⟩
 obtain ⟨x, hx⟩ : ∃ x, t * D = x := ⟨_, rfl⟩
 obtain ⟨y, hy⟩ : ∃ y, (t - 1) * D = y := ⟨_, rfl⟩
 obtain ⟨P, hPP⟩ : ∃ P, 18446744073709551616 ^ N = P := ⟨_, rfl⟩
 rw [hq] at h4
 rw [hq, hqd] at h3
 rw [hy, hx] at h6
 rw [hx] at h1
 rw [hPP] at h1 h2 hP
 refine ⟨by omega, by rw [hq]; omega, by omega, fun hb => ?_, fun hb => ?_⟩
 ·have h7 : (M + D) / 18446744073709551616 ^ N = 0 := of_decide_eq_true hb
  rw [hPP] at h7 ⊢
  rw [hy]
  have h8 : M + D < P := by
   rcases Nat.lt_or_ge (M + D) P with h9 | h9
   ·exact h9
   ·have := Nat.div_pos h9 hP; omega
  clear h h7 hb hq hqd hx hy hPP
  omega
 ·have h7 : ¬ (M + D) / 18446744073709551616 ^ N = 0 := of_decide_eq_false hb
  rw [hPP] at h7 ⊢
  rw [hy]
  have h8 : P ≤ M + D := by
   rcases Nat.lt_or_ge (M + D) P with h9 | h9
   ·exact absurd (Nat.div_eq_of_lt h9) h7
   ·exact h9
  clear h h7 hb hq hqd hx hy hPP
  refine ⟨by omega, ?_⟩
  rw [show M + D = R - y + P by omega, Nat.add_mod_right]
set_option maxRecDepth 100000 in
set_option maxHeartbeats 8000000 in
theorem takeOut_run (b o c1 d p c2 n N k R D : Nat) (w : World) (hk : Hid (n = k + 1)) (hN : Hid (N = n + 1)) (hn : n ≤ 8) (hR : Hid (R < D * 18446744073709551616)) (hD : Hid (D < 18446744073709551616 ^ n)) (hz : Hid (9223372036854775808 ≤ wd D k)) (hbd : b ≠ d)
    (hw : Hid (WordsAt w b o R N)) (hv : Hid (WordsAt w d p D n)) :
    Calls Tryz.prog 251 #[.slice (some ⟨b, o, none⟩) N c1, .slice (some ⟨d, p, none⟩) n c2] w fun e w' =>
      e = .returned (.int .u64 ((R / D : Nat) : Int)) ∧ WordsAt w' b o (R % D) N ∧ ButR w w' b o N := by
  have hRN : Hid (R < 18446744073709551616 ^ N) := by
    show _ < _
    rw [hN.out, Nat.pow_succ]
    exact Nat.lt_of_lt_of_le hR.out (Nat.mul_le_mul_right _ (Nat.le_of_lt hD.out))
  have hD0 : Hid (0 < D) := by
    show 0 < D
    rcases Nat.eq_zero_or_pos D with h0 | h0
    · have := hR.out; subst h0; simp at this
    · exact h0
  have hDN : Hid (D < 18446744073709551616 ^ N) := Nat.lt_of_lt_of_le hD.out (Nat.pow_le_pow_right (by decide) (by have := hN.out; omega))
  have hnN : (n : Int) < (N : Int) := by have := hN.out; omega
  have hnN2 : n < N := by have := hN.out; omega
  have hkz : (n : Int) - 1 = (k : Int) := by have := hk.out; omega
  have hkw : IntKind.i64.wrap (k : Int) = (k : Int) := by rw [IntKind.wrap_i64]; omega
  have hkN : (k : Int) < (N : Int) := by omega
  have hkn : (k : Int) < (n : Int) := by omega
  have cx := (hw.out n hnN2).1
  have cy' := (hw.out k (by omega)).1
  have cz := (hv.out k (by omega)).1
  obtain ⟨q, hq⟩ : ∃ q, R / D = q := ⟨_, rfl⟩
  have HQ := Lib.hid hq
  rw [hq]
  clear hq
  have hxn : wd R n = wd R (k + 1) := by rw [hk.out]
  obtain ⟨x, hx⟩ : ∃ x, wd R n = x := ⟨_, rfl⟩
  obtain ⟨y, hy⟩ : ∃ y, wd R k = y := ⟨_, rfl⟩
  obtain ⟨z, hzz⟩ : ∃ z, wd D k = z := ⟨_, rfl⟩
  have HX : Hid (wd R (k + 1) = x) := hxn.symm.trans hx
  have HY := Lib.hid hy
  have HZ := Lib.hid hzz
  have bx : x < 18446744073709551616 := by rw [← hx]; exact wd_lt _ _
  have by' : y < 18446744073709551616 := by rw [← hy]; exact wd_lt _ _
  have bz : z < 18446744073709551616 := by rw [← hzz]; exact wd_lt _ _
  have bz2 : 9223372036854775808 ≤ z := by rw [← hzz]; exact hz.out
  rw [hx] at cx
  rw [hy] at cy'
  rw [hzz] at cz
  clear hx hy hzz hxn
  go_enter Tryz.func251, Tryz.ntmps251
  go_wp2_with fail
  by_cases hlt : x < z
  all_goals first
    | (have hA : x < z := hlt
       have hltz : decide ((x : Int) < (z : Int)) = true := by simp; omega
       have hg := guess_ok (R := R) (D := D) (k := k) (by have := hD.out; rwa [hk.out] at this) (by have := hRN.out; rwa [hN.out, hk.out] at this) (by rw [HZ.out]; omega) (by rw [HX.out, HZ.out]; exact hlt)
       rw [HX.out, HY.out, HZ.out] at hg
       obtain ⟨T, hT⟩ : ∃ T, (x * 18446744073709551616 + y) / z = T := ⟨_, rfl⟩
       obtain ⟨T', hT'⟩ : ∃ T', (x * 18446744073709551616 + y) % z = T' := ⟨_, rfl⟩
       have HDIV : Hid (∀ W, Calls Tryz.prog 259 #[.int .u64 (x : Int), .int .u64 (y : Int), .int .u64 (z : Int)] W fun e w' => e = .returned (.tuple #[.int .u64 (T : Int), .int .u64 (T' : Int)]) ∧ ∃ m, w' = W.drewN m) := fun W => by
         have := div64_all x y z W bz2 bz hlt by'
         rwa [hT, hT'] at this
       rw [HQ.out, hT] at hg
       have HG := Lib.hid hg
       clear hT hT' hg
       go_quiet (fail)
       go_wp2_with fail
       have HW1 : Hid (ButR w (w.drewN nq) b o N) := ⟨fun _ _ => ⟨rfl, rfl⟩, fun _ _ _ hb => hb.drewN _, rfl⟩
       replace cx : (w.drewN nq).cell? _ = _ := cx
       replace cy' : (w.drewN nq).cell? _ = _ := cy'
       replace cz : (w.drewN nq).cell? _ = _ := cz
       have HWW : Hid (WordsAt (w.drewN nq) b o R N) := hw.out
       generalize w.drewN nq = wq at *
       go_quiet (first | (go_at_call 259; refine Calls.quiet_of (HDIV.out _)) | fail)
       go_wp2_with fail
       have HW2 : Hid (ButR w (wq.drewN nq) b o N) := ⟨HW1.out.1, fun B w0 hB hb => (HW1.out.2.1 B w0 hB hb).drewN _, HW1.out.2.2⟩
       have HWX : Hid (WordsAt (wq.drewN nq) b o R N) := HWW.out
       clear HW1 HWW HDIV cx cy' cz
       generalize wq.drewN nq = wz at *
       clear hltz hA)
    | (have hB : ¬ x < z := hlt
       have hltz : decide ((x : Int) < (z : Int)) = false := by simp; omega
       have HG : Hid (q ≤ 18446744073709551615 ∧ 18446744073709551615 < 18446744073709551616) := ⟨by rw [← HQ.out]; exact quot_lt hR.out, by decide⟩
       go_quiet (fail)
       go_wp2_with fail
       have HW2 : Hid (ButR w (w.drewN nq) b o N) := ⟨fun _ _ => ⟨rfl, rfl⟩, fun _ _ _ hb => hb.drewN _, rfl⟩
       have HWX : Hid (WordsAt (w.drewN nq) b o R N) := hw.out
       clear cx cy' cz
       generalize w.drewN nq = wz at *
       obtain ⟨T, hT⟩ : ∃ T : Nat, (18446744073709551615 : Int) = (T : Int) := ⟨18446744073709551615, rfl⟩
       rw [hT]
       have hTN : T = 18446744073709551615 := by omega
       rw [← hTN] at HG
       clear hltz hB hTN hT)
  all_goals
    clear hlt HX HY HZ hz bx by' bz bz2 hkz hkw hkN hkn hk
    have hPN : T * D < 18446744073709551616 ^ N := by rw [hN.out]; exact tD_lt HG.out.2 hD.out
    have HST := Lib.hid (Taken.start hPN (by rw [HQ.out]; exact HG.out.1) HG.out.2 : Taken R D N T (subW R (T * D) N) (decide (R < T * D)))
    have hsub := subtractTimes_run b o c1 d p c2 n N R D T wz hN hn HG.out.2 hRN hD hbd HWX (hv.out.butR HW2.out (fun e => hbd e.symm))
    obtain ⟨L, hL⟩ : ∃ L, lessN R (T * D) = L := ⟨_, rfl⟩
    obtain ⟨bl, hbl⟩ : ∃ bl, decide (R < T * D) = bl := ⟨_, rfl⟩
    have hLb : ((L : Int) != 0) = bl := by
      rw [← hL, ← hbl]
      unfold lessN
      by_cases h : R < T * D
      · rw [if_pos h, decide_eq_true h]; rfl
      · rw [if_neg h, decide_eq_false h]; rfl
    rw [hL] at hsub
    rw [hbl] at HST
    have HSUB := Lib.hid hsub
    clear hL hbl hPN hsub HWX
    refine HSUB.out.mono ?_
    rintro e w1 ⟨rfl, hw1, hb1⟩
    have HW3 : Hid (ButR w w1 b o N) := HW2.out.trans hb1
    have HWM := Lib.hid hw1
    generalize subW R (T * D) N = M0 at *
    clear HSUB HW2 hb1 hw1
    go_wp2_with fail
    go_loopg [6, 7] (T + 1) (fun h s6 s7 wr => ∃ (t M : Nat) (bl : Bool), s6 = .int .u64 (t : Int) ∧ s7 = .bool bl ∧ Hid (t < h) ∧ Hid (Taken R D N t M bl) ∧ Hid (WordsAt wr b o M N) ∧ Hid (ButR w wr b o N))
    case atStart => exact ⟨T, M0, bl, rfl, rfl, Nat.lt_succ_self T, HST, HWM, HW3⟩
    case round =>
      clear HST HWM HW3 hLb
      obtain ⟨t, M, bl, rfl, rfl, HT, HST, HWM, HW3⟩ := hrel
      cases bl with
      | false =>
        have hdn := HST.out.done rfl
        have hqi := quot_is hD0.out HST.out.ge hdn.1
        have HV : Hid (t = q) := hqi.1.trans HQ.out
        have HFW : Hid (WordsAt wr b o (R % D) N) := words_mod HWM.out (by rw [hdn.2, hqi.2])
        clear hdn hqi
        go_wp2_with fail
        go_ret
        exact ⟨ret_int (by rw [HV.out]), HFW.out, HW3.out⟩
      | true =>
        have hnx := HST.out.next
        have hadd := addTo_run b o c1 d p c2 n N M D wr hN hn (HST.out.below rfl).2 hD hbd HWM (hv.out.butR HW3.out (fun e => hbd e.symm))
        obtain ⟨V, hV⟩ : ∃ V, (M + D) / 18446744073709551616 ^ N = V := ⟨_, rfl⟩
        obtain ⟨bl, hbl⟩ : ∃ bl, decide (V = 0) = bl := ⟨_, rfl⟩
        have hVb : ((V : Int) == 0) = bl := by
          rw [← hbl]
          by_cases h : V = 0
          · rw [decide_eq_true h, h]; rfl
          · rw [decide_eq_false h]; simpa using h
        obtain ⟨t', ht'⟩ : ∃ t', t - 1 = t' := ⟨_, rfl⟩
        rw [hV] at hadd hnx
        rw [hbl, ht'] at hnx
        have htz : (t : Int) - 1 = (t' : Int) := by omega
        have htl := HST.out.lt
        have htw : IntKind.u64.wrap (t' : Int) = (t' : Int) := by rw [IntKind.wrap_u64]; omega
        have HTT : Hid (t = t' + 1) := by show _ = _; omega
        have HNX := Lib.hid hnx.2
        have HADD := Lib.hid hadd
        clear hV hbl ht' hnx hadd HST HWM
        go_wp2_with fail
        refine HADD.out.mono ?_
        rintro e w2 ⟨rfl, hw2, hb2⟩
        have HW4 : Hid (ButR w w2 b o N) := HW3.out.trans hb2
        have HWM2 := Lib.hid hw2
        clear hw2 hb2 HADD HW3
        go_wp2_with fail
        go_roundg t
        case measure => have := HT.out; omega
        case rel => exact ⟨t', M + D, bl, rfl, rfl, by have := HTT.out; show _ < _; omega, HNX, HWM2, HW4⟩
end Go.Proofs.YtgkhjeefcflmcaaGreatDoor
namespace Go.Proofs.YtgkhjeefcflmcaaGreatDoor
open Go.RowKit Go.Sort
def dvV (A D j : Nat) : Nat := A / 18446744073709551616 ^ j % D * 18446744073709551616 ^ j + A % 18446744073709551616 ^ j
theorem dvV_low {A D j t : Nat} (h : t < j) : wd (dvV A D j) t = wd A t := by
 unfold wd
 rw [← dig_mod (j := j) h, ← dig_mod (n := A) (j := j) h, dvV, Nat.mul_comm, Nat.mul_add_mod, Nat.mod_mod]
theorem dvV_div (A D j : Nat) : dvV A D j / 18446744073709551616 ^ j = A / 18446744073709551616 ^ j % D := by
 have hP : 0 < 18446744073709551616 ^ j := Nat.pow_pos (by decide)
 rw [dvV, Nat.mul_comm, Nat.mul_add_div hP, Nat.div_eq_of_lt (Nat.mod_lt _ hP), Nat.add_zero]
theorem dvV_mid (A D i u : Nat) : wd (dvV A D i) (i + u) = wd (A / 18446744073709551616 ^ i % D) u := by
 rw [← dvV_div]
 unfold wd
 rw [dig_div, Nat.add_comm]
theorem dvV_step (A D i : Nat) : dvV A D (i + 1) / 18446744073709551616 ^ i = A / 18446744073709551616 ^ (i + 1) % D * 18446744073709551616 + wd A i := by
 have e := div_dig 18446744073709551616 (dvV A D (i + 1)) i
 rw [dvV_div] at e
 have h2 : dig 18446744073709551616 (dvV A D (i + 1)) i = wd A i := dvV_low (Nat.lt_succ_self i)
 rw [e, h2, Nat.mul_comm]
theorem dvV_lt {A D n j : Nat} (hD0 : 0 < D) (hD : D < 18446744073709551616 ^ n) : dvV A D j < 18446744073709551616 ^ (n + j) := by
 have hP : 0 < 18446744073709551616 ^ j := Nat.pow_pos (by decide)
 have h1 := Nat.mod_lt (A / 18446744073709551616 ^ j) hD0
 have h2 := Nat.mod_lt A hP
 have h3 : (A / 18446744073709551616 ^ j % D + 1) * 18446744073709551616 ^ j ≤ 18446744073709551616 ^ n * 18446744073709551616 ^ j := Nat.mul_le_mul_right _ (by omega)
 rw [Nat.succ_mul] at h3
 rw [Nat.pow_add]
 unfold dvV
 generalize A / 18446744073709551616 ^ j % D * 18446744073709551616 ^ j = x at *
 generalize 18446744073709551616 ^ n * 18446744073709551616 ^ j = y at *
 generalize A % 18446744073709551616 ^ j = z at *
 omega
theorem dvV_high {A D n j t : Nat} (hD0 : 0 < D) (hD : D < 18446744073709551616 ^ n) (ht : n + j ≤ t) : wd (dvV A D j) t = 0 := dig_high (Nat.lt_of_lt_of_le (dvV_lt hD0 hD) (Nat.pow_le_pow_right (by decide) ht))
theorem dvV_zero (A D : Nat) : dvV A D 0 = A % D := by simp [dvV, Nat.mod_one]
theorem dvV_start {A D j : Nat} (h : A / 18446744073709551616 ^ j < D) : dvV A D j = A := by
 rw [dvV, Nat.mod_eq_of_lt h, Nat.mul_comm]
 exact Nat.div_add_mod _ _
theorem norm_shift {b n : Nat} (h : wl b = n + 1) : nlen 2 (wd b n) ≤ 64 ∧ 0 < nlen 2 (wd b n) ∧ b * 2 ^ (64 - nlen 2 (wd b n)) < 18446744073709551616 ^ (n + 1) ∧ 9223372036854775808 ≤ wd (b * 2 ^ (64 - nlen 2 (wd b n))) n ∧ 0 < b := by
 have hb0 : b ≠ 0 := fun e => by subst e; rw [wl, nlen_zero] at h; omega
 have hlt : b < 18446744073709551616 ^ (n + 1) := by rw [← h]; exact lt_nlen (by decide) b
 have ht := dig_top (B := 18446744073709551616) (by decide) hb0
 have hk : nlen 18446744073709551616 b - 1 = n := by unfold wl at h; omega
 rw [hk] at ht
 have hP : 0 < 18446744073709551616 ^ n := Nat.pow_pos (by decide)
 obtain ⟨x, hx⟩ : ∃ x, wd b n = x := ⟨_, rfl⟩
 have hxd : b / 18446744073709551616 ^ n = x := by rw [← hx]; exact ht.1.symm
 have hx0 : x ≠ 0 := by rw [hxd] at ht; omega
 have hx64 : x < 2 ^ 64 := by rw [← hx]; exact wd_lt b n
 rw [hx]
 obtain ⟨k, hk2⟩ : ∃ k, nlen 2 x = k := ⟨_, rfl⟩
 have hk64 : k ≤ 64 := by rw [← hk2]; exact nlen_le_of_lt (by decide) hx64
 have hk0 : 0 < k := by rw [← hk2, nlen_pos (by decide) hx0]; omega
 have hxk : x < 2 ^ k := by rw [← hk2]; exact lt_nlen (by decide) x
 have hxk2 : 2 ^ (k - 1) ≤ x := by rw [← hk2]; exact nlen_le (by decide) x hx0
 rw [hk2]
 have hb1 : b < (x + 1) * 18446744073709551616 ^ n := by rw [← hxd, Nat.mul_comm]; exact Nat.lt_mul_div_succ b hP
 have hb2 : x * 18446744073709551616 ^ n ≤ b := by rw [← hxd]; exact Nat.div_mul_le_self _ _
 have hs0 : 0 < 2 ^ (64 - k) := Nat.pow_pos (by decide)
 have e64 : 2 ^ k * 2 ^ (64 - k) = 18446744073709551616 := by rw [← Nat.pow_add, show k + (64 - k) = 64 by omega]
 have e63 : 2 ^ (k - 1) * 2 ^ (64 - k) = 9223372036854775808 := by rw [← Nat.pow_add, show k - 1 + (64 - k) = 63 by omega]
 have h1 : b * 2 ^ (64 - k) < 18446744073709551616 ^ (n + 1) := by
  have : (x + 1) * 18446744073709551616 ^ n * 2 ^ (64 - k) ≤ 2 ^ k * 18446744073709551616 ^ n * 2 ^ (64 - k) := Nat.mul_le_mul_right _ (Nat.mul_le_mul_right _ hxk)
  rw [Nat.mul_right_comm (2 ^ k), e64, ← Nat.pow_succ'] at this
  exact Nat.lt_of_lt_of_le (Nat.mul_lt_mul_of_pos_right hb1 hs0) this
 refine ⟨hk64, hk0, h1, ?_, Nat.pos_of_ne_zero hb0⟩
 rw [← top_div h1]
 apply (Nat.le_div_iff_mul_le hP).2
 have : 2 ^ (k - 1) * 18446744073709551616 ^ n * 2 ^ (64 - k) ≤ b * 2 ^ (64 - k) := Nat.mul_le_mul_right _ (Nat.le_trans (Nat.mul_le_mul_right _ hxk2) hb2)
 rwa [Nat.mul_right_comm, e63] at this
theorem start_lt {a b n s j : Nat} (hb : 18446744073709551616 ^ n * 9223372036854775808 ≤ b * 2 ^ s) (hs : s ≤ 63) (ha : a < 18446744073709551616 ^ (j + n)) : a * 2 ^ s / 18446744073709551616 ^ j < b * 2 ^ s := by
 apply (Nat.div_lt_iff_lt_mul (Nat.pow_pos (by decide))).2
 have h1 : (2 : Nat) ^ s ≤ 9223372036854775808 := Nat.pow_le_pow_right (by decide) hs
 have h2 : a * 2 ^ s < 18446744073709551616 ^ (j + n) * 9223372036854775808 := Nat.lt_of_lt_of_le (Nat.mul_lt_mul_of_pos_right ha (Nat.pow_pos (by decide))) (Nat.mul_le_mul_left _ h1)
 have h3 := Nat.mul_le_mul_right (18446744073709551616 ^ j) hb
 rw [Nat.pow_add, Nat.mul_comm (18446744073709551616 ^ j), Nat.mul_right_comm] at h2
 exact Nat.lt_of_lt_of_le h2 h3
theorem dv_words {w w' : World} {b A D i n N : Nat} (hN : N = n + 1) (hD0 : 0 < D) (hD : D < 18446744073709551616 ^ n) (h : WordsAt w b 0 (dvV A D (i + 1)) 9) (hn : WordsAt w' b i (A / 18446744073709551616 ^ i % D) N) (hk : ButR w w' b i N) : WordsAt w' b 0 (dvV A D i) 9 := fun t ht => by
 by_cases h1 : i ≤ t ∧ t < i + N
 ·obtain ⟨u, rfl⟩ : ∃ u, t = i + u := ⟨t - i, by omega⟩
  rw [dvV_mid, Nat.zero_add]
  exact hn u (by omega)
 ·have h2 : wd (dvV A D i) t = wd (dvV A D (i + 1)) t := by
   rcases Nat.lt_or_ge t i with h3 | h3
   ·rw [dvV_low h3, dvV_low (by omega)]
   ·rw [dvV_high hD0 hD (by omega), dvV_high hD0 hD (by omega)]
  have h4 := hk.1 ⟨b, 0 + t, none⟩ (fun e => h1 (by have := e.2; simp only [Nat.zero_add] at this; exact this))
  rw [h2]
  exact ⟨h4.1.trans (h t ht).1, h4.2.trans (h t ht).2⟩
end Go.Proofs.YtgkhjeefcflmcaaGreatDoor
