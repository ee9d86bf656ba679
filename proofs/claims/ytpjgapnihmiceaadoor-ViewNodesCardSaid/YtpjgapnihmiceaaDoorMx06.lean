/-
  The contracts of numbersValid, malformed, kidsValid.
-/
import Derived.Test.YtpjgapnihmiceaaDoorMx03
import Derived.Test.YtpjgapnihmiceaaDoorMx05
import Derived.Test.YtpjgapnihmiceaaDoorMx01
import Derived.Deep.RegionHeld3
import Derived.Laws.EntriesVeiled
import Derived.WalkSmall
namespace Go.Proofs.YtpjgapnihmiceaaDoor
open Go.RowKit
set_option linter.unusedSimpArgs false
set_option linter.unusedVariables false
set_option maxHeartbeats 4000000 in
set_option maxRecDepth 100000 in
theorem numbers_run (x : Nd) (K : Option Addr) (q c : Nat) (m : Int) (w : World) (v : Bool) (hv : Hid (numOk x m = v)) :
  Calls Tryd.prog 33 #[.agg #[.int .i64 x.k, .int .i64 x.f, .int .i64 x.t, .slice K q c], .int .i64 m] w fun e w' => e = .returned (.bool v) ∧ Below w.heap.size w w' := by
 have hB : Hid (Below w.heap.size w (w.alloc (.cells #[.int .i64 x.k, .int .i64 x.f, .int .i64 x.t, .slice K q c] 40))) := (Below.refl _ _).alloc (Nat.le_refl _) _
 obtain ⟨xk, xf, xt, xl⟩ := x
 have hv2 := hv.out
 unfold numOk at hv2
 simp only at hv2
 have hd : xk < 0 ∨ (0 ≤ xk ∧ 66 < xk) ∨ (0 ≤ xk ∧ xk ≤ 66 ∧ xf < 0) ∨ (0 ≤ xk ∧ xk ≤ 66 ∧ 0 ≤ xf ∧ xt < xf) ∨ (0 ≤ xk ∧ xk ≤ 66 ∧ 0 ≤ xf ∧ xf ≤ xt) := by omega
 clear hv
 rcases hd with h1 | ⟨h1, h2⟩ | ⟨h1, h2, h3⟩ | ⟨h1, h2, h3, h4⟩ | ⟨h1, h2, h3, h4⟩
 rotate_left 4
 ·obtain rfl : v = decide (xt ≤ m) := by
   rw [← hv2, decide_eq_decide]
   exact ⟨fun h => h.2.2.2.2, fun h => ⟨h1, h2, h3, h4, h⟩⟩
  clear hv2
  go_enter Tryd.func33, Tryd.ntmps33
  go_wp2_with fail
  go_ret
  exact ⟨rfl, hB.out⟩
 all_goals
  obtain rfl : v = false := by rw [← hv2]; exact decide_eq_false (by omega)
  clear hv2
  go_enter Tryd.func33, Tryd.ntmps33
  go_wp2_with fail
  go_ret
  exact ⟨rfl, hB.out⟩
set_option maxHeartbeats 1000000 in
theorem malformed_run (i : Nat) (w : World) : Calls Tryd.prog 35 #[.int .i64 i] w fun e w' => e = .returned (trErr (8, (i : Int))) ∧ w' = w := by
 have he : trErr (8, (i : Int)) = .iface 61 (.agg #[.int .i64 i, .iface 59 (.int .i64 8)]) := by
  unfold trErr
  rw [if_neg (show ¬ (8 : Nat) = 0 by decide), if_neg (by show ¬ (i : Int) = -1; omega)]
  rfl
 rw [he]
 clear he
 go_enter Tryd.func35, Tryd.ntmps35
 go_wp2_with fail
 go_ret
 exact ⟨rfl, rfl⟩
def kidsF (T : List Nd) (i : Nat) (t : Int) (l : List Int) (a : Int) : Bool := kidOk i l && endOk (ordAt T a l) t
theorem kidsF_nil (T : List Nd) (i : Nat) (t a : Int) : kidsF T i t [] a = decide (a ≤ t) := by simp [kidsF, kidOk, ordAt, endOk]
theorem kidsF_out (T : List Nd) {i : Nat} (t : Int) {c : Int} (l : List Int) (a : Int) (h : ¬ (0 ≤ c ∧ c < (i : Int))) : kidsF T i t (c :: l) a = false := by
 unfold kidsF kidOk
 rw [List.all_cons, decide_eq_false h, Bool.false_and, Bool.false_and]
theorem kidsF_back (T : List Nd) (i : Nat) (t : Int) (c : Int) (l : List Int) (a : Int) (h : (kd T c).f < a) : kidsF T i t (c :: l) a = false := by
 unfold kidsF
 rw [ordAt, if_pos h]
 simp [endOk]
theorem kidsF_next (T : List Nd) {i : Nat} (t : Int) {c : Int} (l : List Int) (a : Int) (h : 0 ≤ c ∧ c < (i : Int)) (h2 : a ≤ (kd T c).f) : kidsF T i t (c :: l) a = kidsF T i t l (kd T c).t := by
 unfold kidsF kidOk
 rw [List.all_cons, decide_eq_true h, Bool.true_and, ordAt, if_neg (by omega)]
theorem drop_cons {l : List Int} {r : Nat} {y : Int} (h : l[r]? = some y) : l.drop r = y :: l.drop (r + 1) :=
 (List.drop_eq_getElem_cons (List.getElem?_eq_some_iff.1 h).1).trans (by congr 1; exact (List.getElem?_eq_some_iff.1 h).2)
set_option maxHeartbeats 4000000 in
set_option maxRecDepth 100000 in
theorem kids_run (A : Option Addr) (n cap i : Nat) (T : List Nd) (w : World) (h : TreeAt w A n T) (hi : i < n) (v : Bool) (hv : Hid (kidsF T i (nd T i).t (nd T i).kids (nd T i).f = v)) :
  Calls Tryd.prog 34 #[trV A n cap, .int .i64 i] w fun e w' => e = .returned (.bool v) ∧ Below w.heap.size w w' := by
 have hl := Lib.hid h.len
 have hiz : (i : Int) < (n : Int) := by omega
 have hn40 := h.small.1
 rw [hl.out] at hn40
 unfold trV
 obtain ⟨S, hS⟩ : ∃ S, w.heap.size = S := ⟨_, rfl⟩
 obtain ⟨W, hW⟩ : ∃ W, w.alloc (.cells #[.slice A n cap] 26) = W := ⟨_, rfl⟩
 have hB : Below S w W := by rw [← hW, ← hS]; exact (Below.refl _ _).alloc (Nat.le_refl _) _
 have d0 : W.cell? ⟨S, 0, none⟩ = some (.slice A n cap) := by rw [← hW, ← hS]; simp
 have hat := h.at_
 rw [hS] at hat ⊢
 have hb := hat.below hB (Nat.le_refl _)
 obtain ⟨b, o, rfl, hbB, hget⟩ := hb.get (by have := hl.out; omega)
 obtain ⟨K, q, c, c0, c1, c2, c3, hm, hmc, hcc, hK⟩ := hget i _ (at_nd (by have := hl.out; omega))
 have HGET := Lib.hid hget
 have BX := Lib.hid hB
 have HK := Lib.hid hK
 have HM := Lib.hid hm
 clear h hat hb hB hget hK hm c0
 generalize nd T i = x at *
 obtain ⟨xt, hxt⟩ : ∃ t, x.t = t := ⟨_, rfl⟩
 rw [hxt] at c2 hv
 clear hxt
 go_enter Tryd.func34, Tryd.ntmps34
 go_wp2_with fail
 go_loopg [5, 21] (q + 1) (fun h s5 s21 wr => ∃ (r : Nat) (a : Int), s5 = .int .i64 a ∧ s21 = .int .i64 r ∧ Hid (r ≤ q ∧ r + h = q + 1) ∧ Hid (kidsF T i xt (x.kids.drop r) a = v) ∧ wr = W)
 case atStart => exact ⟨0, _, rfl, rfl, by show _ ∧ _; omega, by rw [List.drop_zero]; exact hv.out, rfl⟩
 case round =>
  clear hv
  obtain ⟨r, a, rfl, rfl, HR, HV, hww⟩ := hrel
  obtain rfl := hww.symm
  by_cases hr : r < q
  ·have hrz : (r : Int) < (q : Int) := by omega
   obtain ⟨y, hy⟩ : ∃ y, x.kids[r]? = some y := ⟨_, List.getElem?_eq_getElem (by have := HM.out; omega)⟩
   obtain ⟨kb, ko, rfl, hkb, hkc⟩ := HK.out (by have := HM.out; omega)
   have k0 := hkc r y hy
   have HV2 : Hid (kidsF T i xt (y :: x.kids.drop (r + 1)) a = v) := by show _ = _; rw [← drop_cons hy]; exact HV.out
   clear hkc hy HV
   by_cases hy0 : 0 ≤ y ∧ y < (i : Int)
   ·obtain ⟨g1, g2⟩ := hy0
    obtain ⟨z, rfl⟩ : ∃ z : Nat, y = z := ⟨y.toNat, by omega⟩
    have hzz : (z : Int) < (n : Int) := by omega
    have ez : kd T (z : Int) = nd T z := by unfold kd; simp
    obtain ⟨_, _, _, z0, z1, z2, _⟩ := HGET.out z _ (at_nd (by have := hl.out; omega))
    by_cases hf : (nd T z).f < a
    ·obtain rfl : v = false := by rw [← HV2.out]; exact kidsF_back _ _ _ _ _ _ (by rw [ez]; exact hf)
     clear HV2
     go_wp2_with fail
     go_ret
     exact ⟨rfl, BX.out⟩
    ·have hf2 : a ≤ (nd T z).f := by omega
     have HV3 : Hid (kidsF T i xt (x.kids.drop (r + 1)) (nd T z).t = v) := by show _ = _; rw [← HV2.out, kidsF_next _ _ _ _ ⟨g1, g2⟩ (by rw [ez]; exact hf2), ez]
     clear HV2
     go_wp2_with fail
     go_roundg (q - r)
     case measure => have := HR.out; omega
     case rel => exact ⟨r + 1, _, rfl, by go_num, by show _ ∧ _; have := HR.out; omega, HV3.out, rfl⟩
   ·obtain rfl : v = false := by rw [← HV2.out]; exact kidsF_out _ _ _ _ hy0
    have hy1 : y < 0 ∨ (0 ≤ y ∧ (i : Int) ≤ y) := by omega
    clear HV2 hy0
    rcases hy1 with g1 | ⟨g1, g2⟩ <;> (go_wp2_with fail; go_ret; exact ⟨rfl, BX.out⟩)
  ·have hrz : ¬ (r : Int) < (q : Int) := by omega
   have HV2 : Hid (decide (a ≤ xt) = v) := by
    show _ = _
    rw [← HV.out, List.drop_eq_nil_of_le (by have := HM.out; have := HR.out; omega), kidsF_nil]
   by_cases ha : a ≤ xt
   ·obtain rfl : v = true := by rw [← HV2.out]; exact decide_eq_true ha
    clear HV HV2
    go_wp2_with fail
    go_ret
    exact ⟨rfl, BX.out⟩
   ·obtain rfl : v = false := by rw [← HV2.out]; exact decide_eq_false ha
    have ha2 : xt < a := by omega
    clear HV HV2
    go_wp2_with fail
    go_ret
    exact ⟨rfl, BX.out⟩
end Go.Proofs.YtpjgapnihmiceaaDoor
namespace Go.Proofs.YtpjgapnihmiceaaDoor
open Go.RowKit
set_option linter.unusedSimpArgs false
set_option linter.unusedVariables false
theorem parT_small {T : List Nd} (h : SmallT T) {k r : Nat} (hk : k < T.length) (i : Int) : parN (T.take k) i + ((nd T k).kids.take r).count i ≤ 1000 := by
 have h1 := par_small h k i
 have h2 : ((nd T k).kids.take r).count i ≤ ((nd T k).kids.take r).length := List.count_le_length
 have h3 := h.2 _ (List.mem_of_getElem? (at_nd hk))
 have h4 := h.1
 have h5 : ((nd T k).kids.take r).length ≤ (nd T k).kids.length := by rw [List.length_take]; omega
 omega
set_option maxHeartbeats 8000000 in
set_option maxRecDepth 100000 in
theorem times_run (A : Option Addr) (n cap : Nat) (T : List Nd) (w : World) (h : TreeAt w A n T) (hk : Hid (∀ i, i < n → ∀ c ∈ (nd T i).kids, 0 ≤ c ∧ c < (n : Int))) :
  Calls Tryd.prog 36 #[trV A n cap] w fun e w' => ∃ g, e = .returned (.slice (some ⟨g, 0, none⟩) n n) ∧ RowI w' w.heap.size g (parT T n 0) ∧ Below w.heap.size w w' := by
 have hl := Lib.hid h.len
 have hs := Lib.hid h.small
 have hn40 := h.small.1
 rw [hl.out] at hn40
 unfold trV
 obtain ⟨S, hS⟩ : ∃ S, w.heap.size = S := ⟨_, rfl⟩
 obtain ⟨W, hW⟩ : ∃ W, w.alloc (.cells #[.slice A n cap] 26) = W := ⟨_, rfl⟩
 have hB : Below S w W := by rw [← hW, ← hS]; exact (Below.refl _ _).alloc (Nat.le_refl _) _
 have hWS : W.heap.size = S + 1 := by rw [← hW, ← hS]; simp
 have d0 : W.cell? ⟨S, 0, none⟩ = some (.slice A n cap) := by rw [← hW, ← hS]; simp
 have hat := h.at_
 rw [hS] at hat ⊢
 have HG : Hid (NdsAt W S A T) := hat.below hB (Nat.le_refl _)
 have BX := Lib.hid hB
 obtain ⟨w2, hmk, hrow, hbw, hsz2⟩ := make_row W n (by omega)
 rw [hWS] at hmk hrow hbw hsz2
 have hln : Hid (∀ r, (parT T r 0).length = n ∧ ∀ q, (parT T r q).length = n) := fun r => ⟨by rw [parT_len]; exact hl.out, fun q => by rw [parT_len]; exact hl.out⟩
 have HR0 : Hid (RowI w2 (S + 1) (S + 1) (parT T 0 0)) := by show RowI _ _ _ _; rw [← parT_zero, hl.out]; exact hrow
 have d0' := (hbw.cell (p := ⟨S, 0, none⟩) (by show S < _; omega)).trans d0
 have HB2 := Lib.hid hbw
 clear h hat hB hrow hbw hWS
 go_enter Tryd.func36, Tryd.ntmps36
 go_wp2_with fail
 clear d0' d0
 go_loopg [15] (n + 1) (fun h s15 wr => ∃ (i : Nat), s15 = .int .i64 i ∧ Hid (i ≤ n ∧ i + h = n + 1) ∧ Hid (RowI wr (S + 1) (S + 1) (parT T i 0)) ∧ Hid (Below (S + 1) W wr))
 case atStart => exact ⟨0, rfl, by show _ ∧ _; omega, HR0.out, HB2.out⟩
 case round =>
  clear HR0 HB2
  obtain ⟨i, rfl, HI, HR, BW⟩ := hrel
  generalize wr = w3 at *
  have hsz : S + 1 < w3.heap.size := HR.out.lt.2
  by_cases hi : i < n
  ·have hiz : (i : Int) < (n : Int) := by omega
   obtain ⟨b, o, rfl, hbB, hget⟩ := HG.out.get (by have := hl.out; omega)
   obtain ⟨K, q, c, c0, c1, c2, c3, hm, hmc, hcc, hK⟩ := hget i _ (at_nd (by have := hl.out; omega))
   have g0 := (BW.out.cell (p := ⟨b, o + i * 4, none⟩) (by show b < _; omega)).trans c0
   have g1 := (BW.out.cell (p := ⟨b, o + i * 4 + 1, none⟩) (by show b < _; omega)).trans c1
   have g2 := (BW.out.cell (p := ⟨b, o + i * 4 + 2, none⟩) (by show b < _; omega)).trans c2
   have g3 := (BW.out.cell (p := ⟨b, o + i * 4 + 3, none⟩) (by show b < _; omega)).trans c3
   have HK := Lib.hid hK
   have HM := Lib.hid hm
   have HKD := Lib.hid (hk.out i hi)
   have H20 : Hid (q ≤ 20) := by show _ ≤ _; rw [HM.out]; exact hs.out.2 _ (List.mem_of_getElem? (at_nd (by have := hl.out; omega)))
   have HPS := Lib.hid (fun (r : Nat) (c : Int) => parT_small hs.out (k := i) (r := r) (by have := hl.out; omega) c)
   have HNX := Lib.hid (parT_next (T := T) (k := i) (by have := hl.out; omega))
   have HST := Lib.hid (fun (r : Nat) (y : Int) hy h0 => parT_step (T := T) (k := i) (r := r) (y := y) hy h0)
   have HGT := Lib.hid (fun (r j : Nat) hj => parT_get T i r (i := j) hj)
   clear hget c0 c1 c2 c3 hm hK
   generalize nd T i = x at *
   obtain ⟨w4, hw4⟩ : ∃ W', w3.alloc (.cells #[.int .i64 x.k, .int .i64 x.f, .int .i64 x.t, .slice K q c] 40) = W' := ⟨_, rfl⟩
   have B4 : Below w3.heap.size w3 w4 := by rw [← hw4]; exact (Below.refl _ _).alloc (Nat.le_refl _) _
   have n3 : w4.cell? ⟨w3.heap.size, 3, none⟩ = some (.slice K q c) := by rw [← hw4]; simp
   have HR4 : Hid (RowI w4 (S + 1) (S + 1) (parT T i 0)) := HR.out.below B4
   have BW4 : Hid (Below (S + 1) W w4) := BW.out.trans (B4.mono (by omega))
   have HNN : Hid (S + 1 < w3.heap.size ∧ w4.heap.size = w3.heap.size + 1) := ⟨hsz, by rw [← hw4]; simp⟩
   clear B4 BW HR
   go_wp2_with fail
   clear g0 g1 g2 g3 hw4
   obtain ⟨N, hN⟩ : ∃ N, w3.heap.size = N := ⟨_, rfl⟩
   rw [hN] at n3 HNN
   go_loopg [22] (q + 1) (fun h s22 wr => ∃ (r : Nat), s22 = .int .i64 r ∧ Hid (r ≤ q ∧ r + h = q + 1) ∧ Hid (RowI wr (S + 1) (S + 1) (parT T i r)) ∧ Hid (Below (S + 1) W wr))
   case atStart => exact ⟨0, rfl, by show _ ∧ _; omega, HR4.out, BW4.out⟩
   case round =>
    clear n3 HR4 BW4 hsz
    obtain ⟨r, rfl, HRR, HR, BW⟩ := hrel
    generalize wr = w5 at *
    by_cases hr : r < q
    ·have hrz : (r : Int) < (q : Int) := by omega
     obtain ⟨y, hy⟩ : ∃ y, x.kids[r]? = some y := ⟨_, List.getElem?_eq_getElem (by have := HM.out; omega)⟩
     obtain ⟨kb, ko, rfl, hkb, hkc⟩ := HK.out (by have := HM.out; omega)
     have k0 := (BW.out.cell (p := ⟨kb, ko + r, none⟩) (by show kb < _; omega)).trans (hkc r y hy)
     obtain ⟨hy1, hy2⟩ := HKD.out y (List.mem_of_getElem? hy)
     obtain ⟨z, rfl⟩ : ∃ z : Nat, y = z := ⟨y.toNat, by omega⟩
     have hzn : z < n := by omega
     obtain ⟨cell, fz⟩ := HR.out.at_ (HGT.out r z (by have := hl.out; omega))
     have hsm := HPS.out r z
     obtain ⟨u, hu⟩ : ∃ u, parN (T.take i) (z : Int) + (x.kids.take r).count (z : Int) = u := ⟨_, rfl⟩
     rw [hu] at cell hsm
     have HR2 : Hid (RowI (w5.setCell ⟨S + 1, z, none⟩ (.int .i64 ((u : Int) + 1))) (S + 1) (S + 1) (parT T i (r + 1))) := by
      have e : (parT T i r).set z ((u : Int) + 1) = parT T i (r + 1) := by
       rw [← HST.out r _ hy hy1]
       unfold addOne
       rw [Int.toNat_natCast, List.getD_eq_getElem?_getD, HGT.out r z (by have := hl.out; omega), hu]
       rfl
      show RowI _ _ _ _
      rw [← e]
      exact HR.out.put z _
     have BW2 : Hid (Below (S + 1) W (w5.setCell ⟨S + 1, z, none⟩ (.int .i64 ((u : Int) + 1)))) := BW.out.setCell (Nat.le_refl _) _
     clear hkc hy HR BW hu
     go_wp2_with fail
     go_roundg (q - r)
     case measure => have := HRR.out; omega
     case rel => exact ⟨r + 1, by go_num, by show _ ∧ _; have := HRR.out; omega, HR2.out, BW2.out⟩
    ·have hrz : ¬ (r : Int) < (q : Int) := by omega
     obtain rfl : r = q := by have := HRR.out; omega
     have HR2 : Hid (RowI w5 (S + 1) (S + 1) (parT T (i + 1) 0)) := by
      show RowI _ _ _ _
      rw [← HNX.out, ← HM.out]
      exact HR.out
     go_wp2_with fail
     go_roundg (n - i)
     case measure => have := HI.out; omega
     case rel => exact ⟨i + 1, by go_num, by show _ ∧ _; have := HI.out; omega, HR2.out, BW.out⟩
  ·have hiz : ¬ (i : Int) < (n : Int) := by omega
   obtain rfl : i = n := by have := HI.out; omega
   have BR : Hid (Below S w w3) := BX.out.trans (BW.out.mono (by omega))
   have HR2 : Hid (RowI w3 S (S + 1) (parT T i 0)) := ownK_base HR.out (by omega)
   go_wp2_with fail
   go_ret
   exact ⟨_, rfl, HR2.out, BR.out⟩
end Go.Proofs.YtpjgapnihmiceaaDoor
namespace Go.Proofs.YtpjgapnihmiceaaDoor
open Go.RowKit
set_option linter.unusedSimpArgs false
section
variable {T : List Nd} {m : Int}
theorem ord_le : ∀ {l : List Int} {a e : Int}, (∀ c ∈ l, (kd T c).f ≤ (kd T c).t) → ordAt T a l = some e → a ≤ e
 | [], a, e, _, h => by cases h; exact Int.le_refl _
 | c :: r, a, e, hf, h => by
  unfold ordAt at h
  split at h
  ·cases h
  ·have h1 := ord_le (fun d hd => hf d (List.mem_cons_of_mem _ hd)) h
   have h2 := hf c (List.mem_cons_self ..)
   omega
theorem ord_mem : ∀ {l : List Int} {a e : Int}, (∀ c ∈ l, (kd T c).f ≤ (kd T c).t) → ordAt T a l = some e → ∀ c ∈ l, a ≤ (kd T c).f ∧ (kd T c).t ≤ e
 | [], a, e, _, _, c, hc => by cases hc
 | d :: r, a, e, hf, h, c, hc => by
  unfold ordAt at h
  split at h
  ·cases h
  ·have hr := fun x hx => hf x (List.mem_cons_of_mem d hx)
   have h2 := hf d (List.mem_cons_self ..)
   rcases List.mem_cons.1 hc with rfl | hc2
   ·exact ⟨by omega, ord_le hr h⟩
   ·have h1 := ord_mem hr h c hc2
    exact ⟨by omega, h1.2⟩
theorem Valid.kidT (hV : Valid T m) {i : Nat} (hi : i < T.length) : ∀ c ∈ (nd T i).kids, (kd T c).f ≤ (kd T c).t := fun c hc => by
 have h := hV.kid i hi c hc
 exact (hV.num c.toNat (by omega)).2.2.2.1
def InT (T : List Nd) (i : Nat) (tok : Int) : Prop := (nd T i).f ≤ tok ∧ tok < (nd T i).t
theorem held_iff {T : List Nd} {l : List Int} {tok : Int} : heldB T l tok = true ↔ ∃ c ∈ l, (kd T c).f ≤ tok ∧ tok < (kd T c).t := by
 unfold heldB
 rw [List.any_eq_true]
 constructor
 ·rintro ⟨c, hc, h⟩; exact ⟨c, hc, of_decide_eq_true h⟩
 ·rintro ⟨c, hc, h⟩; exact ⟨c, hc, decide_eq_true h⟩
theorem own_iff {T : List Nd} {i : Nat} {tok : Int} : ownB T i tok = true ↔ InT T i tok ∧ ¬ ∃ c ∈ (nd T i).kids, (kd T c).f ≤ tok ∧ tok < (kd T c).t := by
 unfold ownB
 rw [Bool.and_eq_true, Bool.not_eq_true', ← held_iff, decide_eq_true_iff, Bool.not_eq_true]
 exact Iff.rfl
theorem Valid.some (hV : Valid T m) {tok : Int} : ∀ i, i < T.length → InT T i tok → ∃ j, j < T.length ∧ ownB T j tok = true := by
 intro i
 induction i using Nat.strongRecOn with
 | ind i ih =>
  intro hi h
  cases ho : ownB T i tok with
  | true => exact ⟨i, hi, ho⟩
  | false =>
   have : ∃ c ∈ (nd T i).kids, (kd T c).f ≤ tok ∧ tok < (kd T c).t := Classical.byContradiction fun hno => by
    rw [own_iff.2 ⟨h, hno⟩] at ho
    cases ho
   obtain ⟨c, hc, hct⟩ := this
   have hk := hV.kid i hi c hc
   exact ih c.toNat (by omega) (by omega) hct
end
end Go.Proofs.YtpjgapnihmiceaaDoor
namespace Go.Proofs.YtpjgapnihmiceaaDoor
open Go.RowKit
set_option linter.unusedSimpArgs false
set_option linter.unusedVariables false
structure Stp where
 c : Int
 j : Nat
 f : Int
 t : Int
structure LeftW (T : List Nd) (i : Nat) (l : List Int) (tok : Int) : Prop where
 lt : i < T.length
 sub : ∃ p, (nd T i).kids = p ++ l ∧ ∀ c ∈ p, (kd T c).t ≤ tok
 ord : ∃ e, ordAt T tok l = some e ∧ e ≤ (nd T i).t
 from_ : (nd T i).f ≤ tok
section
variable {T : List Nd} {m : Int}
theorem LeftW.start (hV : Valid T m) {i : Nat} (hi : i < T.length) : LeftW T i (nd T i).kids (nd T i).f :=
 ⟨hi, ⟨[], by simp, fun c hc => by cases hc⟩, hV.ord i hi, Int.le_refl _⟩
theorem LeftW.kids {i : Nat} {l : List Int} {tok : Int} (h : LeftW T i l tok) : ∀ c ∈ l, c ∈ (nd T i).kids := fun c hc => by
 obtain ⟨p, hp, _⟩ := h.sub
 rw [hp]
 exact List.mem_append_right _ hc
theorem LeftW.kid (hV : Valid T m) {i : Nat} {c : Int} {r : List Int} {tok : Int} (h : LeftW T i (c :: r) tok) : 0 ≤ c ∧ c.toNat < i ∧ LeftW T c.toNat (kd T c).kids (kd T c).f ∧ LeftW T i r (kd T c).t ∧ tok ≤ (kd T c).f ∧ (kd T c).f ≤ (kd T c).t := by
 have hc := h.kids c (List.mem_cons_self ..)
 have hk := hV.kid i h.lt c hc
 have hlt := h.lt
 have hft := hV.kidT h.lt c hc
 obtain ⟨e, he, hle⟩ := h.ord
 unfold ordAt at he
 split at he
 ·cases he
 ·next hf =>
  obtain ⟨p, hp, hpt⟩ := h.sub
  have hfr := h.from_
  refine ⟨hk.1, by omega, LeftW.start hV (by omega), ⟨h.lt, ⟨p ++ [c], by rw [hp]; simp, fun d hd => ?_⟩, ⟨e, he, hle⟩, by omega⟩, by omega, hft⟩
  rcases List.mem_append.1 hd with hd | hd
  ·have := hpt d hd; omega
  ·rw [List.mem_singleton.1 hd]; exact Int.le_refl _
theorem LeftW.own (hV : Valid T m) {i : Nat} {l : List Int} {tok x : Int} (h : LeftW T i l tok) (h1 : tok ≤ x) (h2 : x < (nd T i).t) (h3 : ∀ c ∈ l, x < (kd T c).f) : ownB T i x = true := by
 have hfr := h.from_
 refine own_iff.2 ⟨⟨by omega, h2⟩, ?_⟩
 rintro ⟨c, hc, hcx⟩
 obtain ⟨p, hp, hpt⟩ := h.sub
 rw [hp] at hc
 rcases List.mem_append.1 hc with hc | hc
 ·have := hpt c hc; omega
 ·have := h3 c hc; omega
theorem LeftW.next (hV : Valid T m) {i : Nat} {l : List Int} {tok : Int} (h : LeftW T i l tok) : ∀ c ∈ l, tok ≤ (kd T c).f := fun c hc => by
 obtain ⟨e, he, _⟩ := h.ord
 exact (ord_mem (fun d hd => hV.kidT h.lt d (h.kids d hd)) he c hc).1
theorem LeftW.end_ (hV : Valid T m) {i : Nat} {l : List Int} {tok : Int} (h : LeftW T i l tok) : tok ≤ (nd T i).t := by
 obtain ⟨e, he, h1⟩ := h.ord
 have := ord_le (fun d hd => hV.kidT h.lt d (h.kids d hd)) he
 omega
def runW : Nat → Int → List Int
 | 0, _ => []
 | n + 1, f => f :: runW n (f + 1)
theorem runW_add : ∀ (a b : Nat) (f : Int), runW (a + b) f = runW a f ++ runW b (f + a)
 | 0, b, f => by simp [runW]
 | a + 1, b, f => by
  rw [show a + 1 + b = (a + b) + 1 by omega, runW, runW, runW_add a b (f + 1), List.cons_append, show f + 1 + (a : Int) = f + ((a + 1 : Nat) : Int) by omega]
theorem runW_mem : ∀ {n : Nat} {f x : Int}, x ∈ runW n f ↔ f ≤ x ∧ x < f + n
 | 0, f, x => by
  simp only [runW, List.not_mem_nil, false_iff]
  omega
 | n + 1, f, x => by
  rw [runW, List.mem_cons, runW_mem]
  omega
def spanW (f t : Int) : List Int := runW (t - f).toNat f
theorem spanW_mem {f t x : Int} : x ∈ spanW f t ↔ f ≤ x ∧ x < t := by
 unfold spanW
 rw [runW_mem]
 omega
theorem spanW_cat {f g t : Int} (h1 : f ≤ g) (h2 : g ≤ t) : spanW f g ++ spanW g t = spanW f t := by
 unfold spanW
 have := runW_add (g - f).toNat (t - g).toNat f
 rw [show (g - f).toNat + (t - g).toNat = (t - f).toNat by omega, show f + ((g - f).toNat : Int) = g by omega] at this
 exact this.symm
theorem spanW_none {f t : Int} (h : t ≤ f) : spanW f t = [] := by
 unfold spanW
 rw [show (t - f).toNat = 0 by omega]
 rfl
theorem spanW_cons {f t : Int} (h : f < t) : spanW f t = f :: spanW (f + 1) t := by
 unfold spanW
 rw [show (t - f).toNat = (t - (f + 1)).toNat + 1 by omega]
 rfl
theorem own_filter (j : Nat) : ∀ (h : Nat) (f : Int), ownsF T j h f = (runW h f).filter fun x => ownB T j x
 | 0, f => rfl
 | h + 1, f => by
  rw [ownsF, runW, List.filter_cons, own_filter j h]
end
end Go.Proofs.YtpjgapnihmiceaaDoor
namespace Go.Proofs.YtpjgapnihmiceaaDoor
open Go.RowKit
structure But (w w' : World) (bs : List Nat) : Prop where
 os : w'.os = w.os
 tape : w'.tape = w.tape
 output : w'.output = w.output
 size : w.heap.size ≤ w'.heap.size
 block : ∀ k, k < w.heap.size → k ∉ bs → w'.heap[k]? = w.heap[k]?
theorem But.refl (w : World) (bs : List Nat) : But w w bs := ⟨rfl, rfl, rfl, Nat.le_refl _, fun _ _ _ => rfl⟩
theorem But.trans {a b c : World} {bs : List Nat} (h : But a b bs) (k : But b c bs) : But a c bs :=
 ⟨k.os.trans h.os, k.tape.trans h.tape, k.output.trans h.output, Nat.le_trans h.size k.size, fun i hi hn => (k.block i (Nat.lt_of_lt_of_le hi h.size) hn).trans (h.block i hi hn)⟩
theorem But.more {w w' : World} {bs cs : List Nat} (h : But w w' bs) (hs : ∀ b ∈ bs, b ∈ cs) : But w w' cs := ⟨h.os, h.tape, h.output, h.size, fun k hk hn => h.block k hk fun hb => hn (hs k hb)⟩
theorem But.alloc {a w : World} {bs : List Nat} (h : But a w bs) (o : Obj) : But a (w.alloc o) bs :=
 h.trans ⟨rfl, rfl, rfl, by simp, fun k hk _ => Below.heap_alloc _ _ _ hk⟩
theorem But.setCell {a w : World} {bs : List Nat} (h : But a w bs) {p : Addr} (hp : p.block ∈ bs) (u : Value) : But a (w.setCell p u) bs :=
 h.trans ⟨rfl, rfl, rfl, by simp [World.setCell], fun k _ hn => Below.heap_setCell _ _ _ _ fun e => hn (e ▸ hp)⟩
theorem _root_.Go.RowKit.Below.but {B : Nat} {a w w' : World} {bs : List Nat} (h : Below B a w) (k : But w w' bs) (hb : ∀ b ∈ bs, B ≤ b) (hs : B ≤ w.heap.size) : Below B a w' :=
 h.trans ⟨k.os, k.tape, k.output, k.size, fun i hi => k.block i (by omega) fun hm => by have := hb i hm; omega⟩
theorem But.of_below {w w' : World} {bs : List Nat} (h : Below w.heap.size w w') : But w w' bs := ⟨h.os, h.tape, h.output, h.size, fun k hk _ => h.block k hk⟩
theorem But.below {w w' : World} (h : But w w' []) : Below w.heap.size w w' := ⟨h.os, h.tape, h.output, h.size, fun k hk => h.block k hk (by simp)⟩
theorem But.cell {w w' : World} {bs : List Nat} (h : But w w' bs) {p : Addr} (hp : p.block < w.heap.size) (hn : p.block ∉ bs) : w'.cell? p = w.cell? p := World.cell?_of_block (w := w) (h.block _ hp hn)
theorem But.frozen {w w' : World} {bs : List Nat} (h : But w w' bs) {p : Addr} (hp : p.block < w.heap.size) (hn : p.block ∉ bs) : w'.frozen? p = w.frozen? p := World.frozen?_of_block (w := w) (h.block _ hp hn)
theorem ownsRow_but {w w' : World} {base : Nat} {e : TypeId} {size : Nat} {v : Value} {n : Nat} {xs : List Value} {bs : List Nat} (h : w.ownsRow base e size v n xs) (k : But w w' bs) (hn : ∀ g, v.ownBlock = some g → g ∉ bs) : w'.ownsRow base e size v n xs := by
 obtain ⟨h1, h2⟩ := h
 refine ⟨h1, ?_⟩
 rcases h2 with h2 | ⟨g, cap, cur, hv, hg, hh, r⟩
 ·exact .inl h2
 ·refine .inr ⟨g, cap, cur, hv, hg, ?_, r⟩
  rw [k.block g (Array.getElem?_eq_some_iff.1 hh).1 (hn g (by rw [hv]; rfl))]
  exact hh
def VarAt (w : World) (b : Nat) (v : Value) : Prop := w.cell? ⟨b, 0, none⟩ = some v ∧ w.frozen? ⟨b, 0, none⟩ = false
theorem VarAt.lt {w : World} {b : Nat} {v : Value} (h : VarAt w b v) : b < w.heap.size := by
 rcases Nat.lt_or_ge b w.heap.size with h1 | h1
 ·exact h1
 ·have := h.1
  simp [World.cell?, Array.getElem?_eq_none h1] at this
theorem VarAt.but {w w' : World} {b : Nat} {v : Value} {bs : List Nat} (h : VarAt w b v) (k : But w w' bs) (hn : b ∉ bs) : VarAt w' b v :=
 ⟨(k.cell (p := ⟨b, 0, none⟩) h.lt hn).trans h.1, (k.frozen (p := ⟨b, 0, none⟩) h.lt hn).trans h.2⟩
theorem VarAt.new (w : World) (v : Value) (T : TypeId) : VarAt (w.alloc (.cells #[v] T)) w.heap.size v := ⟨by simp, by simp⟩
theorem VarAt.below {w w' : World} {b : Nat} {v : Value} (h : VarAt w b v) (k : Below w.heap.size w w') : VarAt w' b v := h.but (bs := []) (But.of_below k) (by simp)
theorem hmf : ∀ (fn : Fn) (first cap : Array Value) (w : World), (Instr.makeFunc fn first cap).run Tryd.prog w = .ok (.func fn first cap) w := fun _ _ _ _ => rfl
theorem VarAt.alloc {w : World} {b : Nat} {v : Value} (h : VarAt w b v) (o : Obj) : VarAt (w.alloc o) b v := h.but ((But.refl w []).alloc o) (by simp)
theorem VarAt.set {w : World} {b : Nat} {v : Value} (h : VarAt w b v) (u : Value) : VarAt (w.setCell ⟨b, 0, none⟩ u) b u := ⟨World.cell?_setCell_same' _ _ _ (by rw [h.1]; rfl), by simpa using h.2⟩
end Go.Proofs.YtpjgapnihmiceaaDoor
namespace Go.Proofs.YtpjgapnihmiceaaDoor
open Go.RowKit
set_option linter.unusedSimpArgs false
set_option linter.unusedVariables false
structure Pl where
 j : Nat
 k : Nat
 tok : Int
structure Apart (S : Nat) (bs : List Nat) (w w' : World) : Prop where
 os : w'.os = w.os
 tape : w'.tape = w.tape
 output : w'.output = w.output
 size : w.heap.size ≤ w'.heap.size
 block : ∀ k, k < w.heap.size → (k ∈ bs ∨ k < S) → w'.heap[k]? = w.heap[k]?
theorem Apart.of {S : Nat} {bs : List Nat} {w w' : World} (h : Below w.heap.size w w') : Apart S bs w w' := ⟨h.os, h.tape, h.output, h.size, fun k hk _ => h.block k hk⟩
section
variable {T : List Nd} {A : Option Addr} {n cap B g : Nat} {cb : Array Value} {I : List Stp → List Nat → World → Prop} {W : World} {bs0 : List Nat}
end
end Go.Proofs.YtpjgapnihmiceaaDoor
namespace Go.Proofs.YtpjgapnihmiceaaDoor
open Go.RowKit
set_option linter.unusedSimpArgs false
set_option linter.unusedVariables false
set_option maxHeartbeats 1000000 in
theorem root_run (A : Option Addr) (n cap : Nat) (w : World) (hn : 1 ≤ n) (hn2 : n ≤ 40) : Calls Tryd.prog 37 #[trV A n cap] w fun e w' => e = .returned (.int .i64 ((n - 1 : Nat) : Int)) ∧ w' = w.alloc (.cells #[.slice A n cap] 26) := by
 unfold trV
 have e : ((n - 1 : Nat) : Int) = (n : Int) - 1 := by omega
 rw [e]
 go_enter Tryd.func37, Tryd.ntmps37
 go_wp2_with fail
 go_ret
 exact ⟨rfl, rfl⟩
theorem root_runB (A : Option Addr) (n cap : Nat) (w : World) (hn : 1 ≤ n) (hn2 : n ≤ 40) : Calls Tryd.prog 37 #[trV A n cap] w fun e w' => e = .returned (.int .i64 ((n - 1 : Nat) : Int)) ∧ Below w.heap.size w w' :=
 (root_run A n cap w hn hn2).mono fun e w' h => ⟨h.1, by rw [h.2]; exact (Below.refl _ _).alloc (Nat.le_refl _) _⟩
end Go.Proofs.YtpjgapnihmiceaaDoor
namespace Go.Proofs.YtpjgapnihmiceaaDoor
open Go.RowKit
set_option linter.unusedSimpArgs false
set_option linter.unusedVariables false
structure CSt (S : Nat) (A : Option Addr) (n cap : Nat) (T : List Nd) (w V : World) : Prop where
 e0 : V.cell? ⟨S, 0, none⟩ = some (.slice A n cap)
 tree : TreeAt V A n T
 bel : Below S w V
 lt : S < V.heap.size
theorem CSt.on {S : Nat} {A : Option Addr} {n cap : Nat} {T : List Nd} {w V V' : World} (h : CSt S A n cap T w V) (hb : Below V.heap.size V V') : CSt S A n cap T w V' := by
 have h1 := h.lt
 have h2 := hb.size
 exact ⟨(hb.cell (p := ⟨S, 0, none⟩) h1).trans h.e0, h.tree.below hb, h.bel.trans (hb.mono (by omega)), by omega⟩
theorem CSt.start {A : Option Addr} {n cap : Nat} {T : List Nd} {w V : World} (h : TreeAt w A n T) (TT : TypeId) (hV : w.alloc (.cells #[.slice A n cap] TT) = V) : CSt w.heap.size A n cap T w V := by
 subst hV
 exact ⟨by simp, h.below ((Below.refl _ _).alloc (Nat.le_refl _) _), (Below.refl _ _).alloc (Nat.le_refl _) _, by simp⟩
theorem one_kids (T : List Nd) (i : Nat) (m : Int) : oneB T i m = (numOk (nd T i) m && kidsF T i (nd T i).t (nd T i).kids (nd T i).f) := by
 unfold oneB kidsF
 rw [Bool.and_assoc]
set_option maxHeartbeats 16000000 in
set_option maxRecDepth 100000 in
theorem Check_runT : SaysCheck := by
  intro A n cap m T w h
  have hl := Lib.hid h.len
  have hn40 := h.small.1
  rw [hl.out] at hn40
  obtain ⟨S, hS⟩ : ∃ S, w.heap.size = S := ⟨_, rfl⟩
  obtain ⟨W, hW⟩ : ∃ W, w.alloc (.cells #[.slice A n cap] 26) = W := ⟨_, rfl⟩
  have hC0 := CSt.start (cap := cap) h 26 hW
  unfold trV
  rw [hS] at hC0 ⊢
  have C0 := Lib.hid hC0
  have d0 := hC0.e0
  clear h hC0
  by_cases hn0 : n = 0
  · subst hn0
    have h0 : trErr (chkT T m) = .iface 59 (.int .i64 7) := by unfold chkT; rw [if_pos hl.out]; rfl
    rw [h0]
    clear h0
    go_enter Tryd.func20, Tryd.ntmps20
    go_wp2_with fail
    go_ret
    exact ⟨rfl, C0.out.bel⟩
  · have hCe : Hid (chkT T m = _) := chk_eq (by have := hl.out; omega)
    rw [hl.out] at hCe
    have hnz : ((n : Int) == 0) = false := by simp; omega
    go_enter Tryd.func20, Tryd.ntmps20
    go_wp2_with fail
    clear d0
    go_loopg [17] (n + 1) (fun h s17 wr => ∃ i : Nat, s17 = .int .i64 i ∧ Hid (i ≤ n ∧ i + h = n + 1) ∧ Hid (firstBad (fun i => oneB T i m) n 0 = firstBad (fun i => oneB T i m) (n - i) i) ∧ Hid (CSt S A n cap T w wr))
    case atStart => exact ⟨0, rfl, by show _ ∧ _; omega, rfl, C0.out⟩
    case round =>
      clear C0
      obtain ⟨i, rfl, HI, HF, C1⟩ := hrel
      generalize wr = w1 at *
      have d0 := C1.out.e0
      by_cases hi : i < n
      · have hiz : (i : Int) < (n : Int) := by omega
        obtain ⟨b, o, rfl, hbB, hget⟩ := C1.out.tree.at_.get (by have := hl.out; omega)
        obtain ⟨K, q, c, c0, c1, c2, c3, hrest⟩ := hget i _ (at_nd (by have := hl.out; omega))
        clear hrest
        have HO := Lib.hid (one_kids T i m)
        have HNM := Lib.hid (fun V v hv => numbers_run (nd T i) K q c m V v hv)
        have HKD := Lib.hid (fun V (hV : TreeAt V (some ⟨b, o, none⟩) n T) v hv => kids_run (some ⟨b, o, none⟩) n cap i T V hV hi v hv)
        obtain ⟨v1, hv1⟩ : ∃ v, numOk (nd T i) m = v := ⟨_, rfl⟩
        obtain ⟨v2, hv2⟩ : ∃ v, kidsF T i (nd T i).t (nd T i).kids (nd T i).f = v := ⟨_, rfl⟩
        rw [hv1, hv2] at HO
        have HNM := Lib.hid (fun V => HNM.out V v1 hv1)
        have HKD := Lib.hid (fun V hV => HKD.out V hV v2 hv2)
        have hfs : n - i = n - (i + 1) + 1 := by omega
        have HFS := Lib.hid hfs
        clear hget hv1 hv2 hfs
        generalize nd T i = x at *
        obtain ⟨w2, hw2⟩ : ∃ V, w1.alloc (.cells #[.int .i64 x.k, .int .i64 x.f, .int .i64 x.t, .slice K q c] 40) = V := ⟨_, rfl⟩
        have C2 : Hid (CSt S (some ⟨b, o, none⟩) n cap T w w2) := by rw [← hw2]; exact C1.out.on ((Below.refl _ _).alloc (Nat.le_refl _) _)
        have n0 : w2.cell? ⟨w1.heap.size, 0, none⟩ = some (.int .i64 x.k) := by rw [← hw2]; simp
        have n1 : w2.cell? ⟨w1.heap.size, 1, none⟩ = some (.int .i64 x.f) := by rw [← hw2]; simp
        have n2 : w2.cell? ⟨w1.heap.size, 2, none⟩ = some (.int .i64 x.t) := by rw [← hw2]; simp
        have n3 : w2.cell? ⟨w1.heap.size, 3, none⟩ = some (.slice K q c) := by rw [← hw2]; simp
        have hbad : oneB T i m = false → trErr (chkT T m) = trErr (8, (i : Int)) := fun hv => by
          rw [hCe.out, HF.out, HFS.out, firstBad_hit hv, hit_some]
        have HBAD := Lib.hid hbad
        clear hbad C1
        cases v1 with
        | false =>
          have he := HBAD.out (by rw [HO.out]; rfl)
          have HE := Lib.hid he
          clear he HF hCe HBAD HO
          go_wp2_with fail
          refine (HNM.out w2).mono ?_
          rintro e w3 ⟨rfl, hw3⟩
          have C3 := Lib.hid (C2.out.on hw3)
          clear hw3 C2 n0 n1 n2 n3 hw2 HKD HNM
          go_wp2_with fail
          refine (malformed_run i w3).mono ?_
          rintro e w4 ⟨rfl, rfl⟩
          go_wp2_with fail
          go_ret
          exact ⟨by rw [HE.out]; rfl, C3.out.bel⟩
        | true =>
          cases v2 with
          | false =>
            have he := HBAD.out (by rw [HO.out]; rfl)
            have HE := Lib.hid he
            clear he HF hCe HBAD HO
            go_wp2_with fail
            refine (HNM.out w2).mono ?_
            rintro e w3 ⟨rfl, hw3⟩
            have C3 := Lib.hid (C2.out.on hw3)
            have d3 := C3.out.e0
            clear hw3 C2 n0 n1 n2 n3 hw2 HNM
            go_wp2_with fail
            refine (HKD.out w3 C3.out.tree).mono ?_
            rintro e w4 ⟨rfl, hw4⟩
            have C4 := Lib.hid (C3.out.on hw4)
            clear hw4 C3 d3 HKD
            go_wp2_with fail
            refine (malformed_run i w4).mono ?_
            rintro e w5 ⟨rfl, rfl⟩
            go_wp2_with fail
            go_ret
            exact ⟨by rw [HE.out]; rfl, C4.out.bel⟩
          | true =>
            have HF2 : Hid (firstBad (fun i => oneB T i m) n 0 = firstBad (fun i => oneB T i m) (n - (i + 1)) (i + 1)) := by show _ = _; rw [HF.out, HFS.out, firstBad_step (by rw [HO.out]; rfl)]
            clear HF HBAD HO
            go_wp2_with fail
            refine (HNM.out w2).mono ?_
            rintro e w3 ⟨rfl, hw3⟩
            have C3 := Lib.hid (C2.out.on hw3)
            have d3 := C3.out.e0
            clear hw3 C2 n0 n1 n2 n3 hw2 HNM
            go_wp2_with fail
            refine (HKD.out w3 C3.out.tree).mono ?_
            rintro e w4 ⟨rfl, hw4⟩
            have C4 := Lib.hid (C3.out.on hw4)
            clear hw4 C3 d3 HKD
            go_wp2_with fail
            go_roundg (n - i)
            case measure => have := HI.out; omega
            case rel => exact ⟨i + 1, by go_num, by show _ ∧ _; have := HI.out; omega, HF2.out, C4.out⟩
      · have hiz : ¬ (i : Int) < (n : Int) := by omega
        obtain rfl : i = n := by have := HI.out; omega
        have h1 : firstBad (fun j => oneB T j m) i 0 = none := by rw [HF.out, Nat.sub_self]; rfl
        have hC2 : Hid (chkT T m = hitT (firstBad (fun j => decide (parN T j = 1)) (i - 1) 0) (0, -1)) := by show _ = _; rw [hCe.out, h1, hit_none]
        have hkk : Hid (∀ j, j < i → ∀ c ∈ (nd T j).kids, 0 ≤ c ∧ c < (i : Int)) := fun j hj c hc => by
          have hg := firstBad_none h1 j (by omega) (by omega)
          simp only [oneB, Bool.and_eq_true] at hg
          have hkd := hg.1.2
          unfold kidOk at hkd
          have := of_decide_eq_true (List.all_eq_true.1 hkd c hc)
          omega
        have HT := Lib.hid (fun V (hV : TreeAt V A i T) => times_run A i cap T V hV hkk)
        have HRT := Lib.hid (fun V => root_runB A i cap V (by omega) hn40)
        obtain ⟨l, hll⟩ : ∃ l, i - 1 = l := ⟨_, rfl⟩
        rw [hll] at hC2 HRT
        have HL : Hid (i = l + 1) := by show _ = _; omega
        have hli : l ≤ i := by omega
        have hliz : (l : Int) ≤ (i : Int) := by omega
        unfold trV at HT HRT
        have NB : Hid (CSt S A i cap T w w1.drew) := C1.out.on ((Below.refl _ w1).drew)
        clear hCe HF h1 hi hll HI hkk
        go_upto_region 9 with fail
        go_cut [39, 40, 41] (fun s39 s40 s41 wx => ∃ g, s39 = .slice (some ⟨g, 0, none⟩) l i ∧ s40 = .int .i64 l ∧ s41 = .int .i64 0 ∧ Hid (RowI wx S g (parT T i 0)) ∧ Hid (CSt S A i cap T w wx))
        case first =>
          go_region_held3 (fun V => V.cell? ⟨S, 0, none⟩ = some (.slice A i cap)) (first | exact C1.out.e0 | exact NB.out.e0 | go_keep)
            (first | (go_at_call 37; have HXX := HR; clear HXX; refine (HRT.out _).mono ?_; rintro e w7 ⟨rfl, hw7⟩; have HR := Lib.hid (HR.out.below hw7); have NB := Lib.hid (NB.out.on hw7); clear hw7)
                   | (go_at_call 37; refine (HRT.out _).mono ?_; rintro e w7 ⟨rfl, hw7⟩; have NB := Lib.hid (NB.out.on hw7); clear hw7)
                   | (go_at_call 36; refine (HT.out _ NB.out.tree).mono ?_; rintro e w7 ⟨gg, rfl, hrow, hw7⟩; have HR : Hid (RowI w7 S gg (parT T i 0)) := ownK_base hrow (Nat.le_of_lt NB.out.lt); have NB := Lib.hid (NB.out.on hw7); clear hw7 hrow))
          all_goals go_wp2_with fail
          all_goals go_meet
          all_goals exact ⟨_, rfl, rfl, rfl, HR, NB⟩
        case rest =>
          obtain ⟨g, rfl, rfl, rfl, HR, C2⟩ := hcut
          clear NB C1 HT HRT d0
          have HGT := Lib.hid (fun (j : Nat) (hj : j < T.length) => parT_all T hj)
          rw [hl.out] at HGT
          go_wp2_with fail
          go_loopg [41] (l + 1) (fun h s41 wr => ∃ j : Nat, s41 = .int .i64 j ∧ Hid (j ≤ l ∧ j + h = l + 1) ∧ Hid (firstBad (fun j => decide (parN T j = 1)) l 0 = firstBad (fun j => decide (parN T j = 1)) (l - j) j) ∧ wr = wc)
          case atStart => exact ⟨0, rfl, by show _ ∧ _; omega, rfl, rfl⟩
          case round =>
            obtain ⟨j, rfl, HJ, HF, hww⟩ := hrel
            obtain rfl := hww.symm
            by_cases hj : j < l
            · have hjz : (j : Int) < (l : Int) := by omega
              have hfs : l - j = l - (j + 1) + 1 := by omega
              obtain ⟨cell, _⟩ := HR.out.at_ (HGT.out j (by omega))
              obtain ⟨p, hp⟩ : ∃ p, parN T (j : Int) = p := ⟨_, rfl⟩
              rw [hp] at cell
              by_cases hp1 : p = 1
              · subst hp1
                have HF2 : Hid (firstBad (fun j => decide (parN T j = 1)) l 0 = firstBad (fun j => decide (parN T j = 1)) (l - (j + 1)) (j + 1)) := by show _ = _; rw [HF.out, hfs, firstBad_step (decide_eq_true hp)]
                clear HF hfs hp
                go_wp2_with fail
                go_roundg (l - j)
                case measure => have := HJ.out; omega
                case rel => exact ⟨j + 1, by go_num, by show _ ∧ _; have := HJ.out; omega, HF2.out, rfl⟩
              · have h0 : trErr (chkT T m) = trErr (8, (j : Int)) := by
                  rw [hC2.out, HF.out, hfs, firstBad_hit (decide_eq_false (by rw [hp]; exact hp1)), hit_some]
                have HE := Lib.hid h0
                have hpb : ((p : Int) == 1) = false := by simp; omega
                clear h0 HF hp hfs
                go_wp2_with fail
                refine (malformed_run j _).mono ?_
                rintro e w5 ⟨rfl, rfl⟩
                go_wp2_with fail
                go_ret
                exact ⟨by rw [HE.out]; rfl, C2.out.bel⟩
            · have hjz : ¬ (j : Int) < (l : Int) := by omega
              obtain rfl : j = l := by have := HJ.out; omega
              have h0 : trErr (chkT T m) = .nilIface := by
                rw [hC2.out, HF.out, Nat.sub_self]
                rfl
              have HE := Lib.hid h0
              clear h0 HF
              go_wp2_with fail
              go_ret
              exact ⟨by rw [HE.out]; rfl, C2.out.bel⟩
end Go.Proofs.YtpjgapnihmiceaaDoor
