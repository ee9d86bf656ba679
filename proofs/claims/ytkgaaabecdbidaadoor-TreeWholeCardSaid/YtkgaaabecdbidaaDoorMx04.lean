/-
  A slice of int's of the call's own: an element read, an element set, one made.
-/
import Derived.Test.YtkgaaabecdbidaaDoorMx03
import Derived.Test.YtkgaaabecdbidaaDoorMx01
import Derived.Test.YtkgaaabecdbidaaDoorMx00
namespace Go.Proofs.YtkgaaabecdbidaaDoor
open Go.RowKit
set_option linter.unusedSimpArgs false
set_option linter.unusedVariables false
section
variable {w : World} {base g c : Nat} {L : List Int}
def RowI (w : World) (base g : Nat) (L : List Int) : Prop := OwnK .i64 3 w base (.slice (some ⟨g, 0, none⟩) L.length L.length) L
theorem RowI.lt (h : RowI w base g L) : base ≤ g ∧ g < w.heap.size := World.ownsRow.lt h g rfl
theorem RowI.at_ (h : RowI w base g L) {i : Nat} {x : Int} (hx : L[i]? = some x) : w.cell? ⟨g, i, none⟩ = some (.int .i64 x) ∧ w.frozen? ⟨g, i, none⟩ = false := by
 have := World.ownsRow.cells h (g := g) rfl i (.int .i64 x) (by rw [List.getElem?_map, hx]; rfl)
 have hp : (⟨g, 0, none⟩ : Addr).add i = ⟨g, i, none⟩ := by unfold Addr.add; split <;> simp_all
 rw [hp] at this
 exact ⟨this, World.ownsRow.frozenAt (show w.ownsRow base 3 1 (.slice (some ⟨g, 0, none⟩) L.length L.length) L.length (L.map fun x => Value.int .i64 x) from h) _⟩
theorem RowI.put (h : RowI w base g L) (i : Nat) (x : Int) : RowI (w.setCell ⟨g, i, none⟩ (.int .i64 x)) base g (L.set i x) := by
 have h' : w.ownsRow base 3 1 (.slice (some ⟨g, 0, none⟩) L.length L.length) L.length (L.map fun x => Value.int .i64 x) := h
 have := (World.ownsRow.stored h' i (.int .i64 x)).1
 unfold RowI OwnK
 rw [List.length_set, List.map_set]
 exact this
theorem RowI.below {w' : World} (h : RowI w base g L) (hb : Below w.heap.size w w') : RowI w' base g L := OwnK.below h hb
theorem RowI.own (h : RowI w base g L) : OwnK .i64 3 w base (.slice (some ⟨g, 0, none⟩) L.length L.length) L := h
theorem make_row (w : World) (n : Nat) (hn : n ≤ 1000000) : ∃ w', (Instr.makeSlice 31 (.int .i64 (n : Int)) (.int .i64 (n : Int))).run Tryd.prog w = .ok (.slice (some ⟨w.heap.size, 0, none⟩) n n) w' ∧ RowI w' w.heap.size w.heap.size (List.replicate n 0) ∧ Below w.heap.size w w' ∧ w.heap.size < w'.heap.size := by
 obtain ⟨w2, hmk, o2, g2⟩ := run_makeK int_slice w w.heap.size n n (Nat.le_refl _) hn (Nat.le_refl _)
 have o3 : RowI w2 w.heap.size w.heap.size (List.replicate n 0) := by unfold RowI; rw [List.length_replicate]; exact o2
 exact ⟨w2, hmk, o3, (Below.refl _ _).grown g2 (Nat.le_refl _) (by intro g h; cases h), o3.lt.2⟩
end
def addOne (L : List Int) (c : Int) : List Int := L.set c.toNat (L.getD c.toNat 0 + 1)
theorem addOne_len (L : List Int) (c : Int) : (addOne L c).length = L.length := by simp [addOne]
theorem addOne_get {L : List Int} {c : Int} {i : Nat} {x : Int} (hx : L[i]? = some x) (hc : 0 ≤ c) : (addOne L c)[i]? = some (x + (if c = (i : Int) then 1 else 0)) := by
 unfold addOne
 have hi := (List.getElem?_eq_some_iff.1 hx).1
 by_cases e : c = (i : Int)
 ·subst e
  rw [if_pos rfl, Int.toNat_natCast, List.getElem?_set_self hi, List.getD_eq_getElem?_getD, hx]
  rfl
 ·rw [if_neg e, Int.add_zero, List.getElem?_set_ne (by omega)]
  exact hx
def parT (T : List Nd) (k r : Nat) : List Int := (List.range T.length).map fun (i : Nat) => ((parN (T.take k) (i : Int) + ((nd T k).kids.take r).count (i : Int) : Nat) : Int)
theorem parT_get (T : List Nd) (k r : Nat) {i : Nat} (hi : i < T.length) : (parT T k r)[i]? = some ((parN (T.take k) (i : Int) + ((nd T k).kids.take r).count (i : Int) : Nat) : Int) := by
 unfold parT
 rw [List.getElem?_map, List.getElem?_range hi]
 rfl
theorem parT_len (T : List Nd) (k r : Nat) : (parT T k r).length = T.length := by simp [parT]
theorem parT_zero (T : List Nd) : List.replicate T.length (0 : Int) = parT T 0 0 := by
 apply List.ext_getElem?
 intro i
 rcases Nat.lt_or_ge i T.length with h | h
 ·rw [parT_get T 0 0 h, List.getElem?_replicate, if_pos h]
  simp [parN]
 ·rw [List.getElem?_eq_none (by simpa using h), List.getElem?_eq_none (by rw [parT_len]; exact h)]
theorem parT_next {T : List Nd} {k : Nat} (hk : k < T.length) : parT T k (nd T k).kids.length = parT T (k + 1) 0 := by
 apply List.ext_getElem?
 intro i
 rcases Nat.lt_or_ge i T.length with h | h
 ·rw [parT_get T _ _ h, parT_get T _ _ h, par_take (at_nd hk)]
  simp
 ·rw [List.getElem?_eq_none (by rw [parT_len]; exact h), List.getElem?_eq_none (by rw [parT_len]; exact h)]
theorem parT_step {T : List Nd} {k r : Nat} {y : Int} (hy : (nd T k).kids[r]? = some y) (h0 : 0 ≤ y) : addOne (parT T k r) y = parT T k (r + 1) := by
 apply List.ext_getElem?
 intro i
 rcases Nat.lt_or_ge i T.length with h | h
 ·rw [addOne_get (parT_get T k r h) h0, parT_get T k (r + 1) h, count_take hy]
  congr 1
  split <;> omega
 ·rw [List.getElem?_eq_none (by rw [addOne_len, parT_len]; exact h), List.getElem?_eq_none (by rw [parT_len]; exact h)]
theorem parT_all (T : List Nd) {i : Nat} (hi : i < T.length) : (parT T T.length 0)[i]? = some ((parN T (i : Int) : Nat) : Int) := by
 rw [parT_get T _ _ hi, List.take_length]
 simp
end Go.Proofs.YtkgaaabecdbidaaDoor
namespace Go.Proofs.YtkgaaabecdbidaaDoor
open Go.RowKit
set_option linter.unusedSimpArgs false
set_option linter.unusedVariables false
set_option maxHeartbeats 4000000 in
set_option maxRecDepth 100000 in
theorem numbers_run (x : Nd) (K : Option Addr) (q c : Nat) (m : Int) (w : World) (v : Bool) (hv : Hid (numOk x m = v)) :
  Calls Tryd.prog 27 #[.agg #[.int .i64 x.k, .int .i64 x.f, .int .i64 x.t, .slice K q c], .int .i64 m] w fun e w' => e = .returned (.bool v) ∧ Below w.heap.size w w' := by
 have hB : Hid (Below w.heap.size w (w.alloc (.cells #[.int .i64 x.k, .int .i64 x.f, .int .i64 x.t, .slice K q c] 33))) := (Below.refl _ _).alloc (Nat.le_refl _) _
 obtain ⟨xk, xf, xt, xl⟩ := x
 have hv2 := hv.out
 unfold numOk at hv2
 simp only at hv2
 have hd : xk < 0 ∨ (0 ≤ xk ∧ 66 < xk) ∨ (0 ≤ xk ∧ xk ≤ 66 ∧ xf < 0) ∨ (0 ≤ xk ∧ xk ≤ 66 ∧ 0 ≤ xf ∧ xt < xf) ∨ (0 ≤ xk ∧ xk ≤ 66 ∧ 0 ≤ xf ∧ xf ≤ xt) := by omega
 clear hv
 rcases hd with h1 | ⟨h1, h2⟩ | ⟨h1, h2, h3⟩ | ⟨h1, h2, h3, h4⟩ | ⟨h1, h2, h3, h4⟩
 rotate_left 4
 ·obtain rfl : v = decide (xt ≤ m) := by
   rw [← hv2, decide_eq_decide]
   exact ⟨fun h => h.2.2.2.2, fun h => ⟨h1, h2, h3, h4, h⟩⟩
  clear hv2
  go_enter Tryd.func27, Tryd.ntmps27
  go_wp2_with fail
  go_ret
  exact ⟨rfl, hB.out⟩
 all_goals
  obtain rfl : v = false := by rw [← hv2]; exact decide_eq_false (by omega)
  clear hv2
  go_enter Tryd.func27, Tryd.ntmps27
  go_wp2_with fail
  go_ret
  exact ⟨rfl, hB.out⟩
set_option maxHeartbeats 1000000 in
theorem malformed_run (i : Nat) (w : World) : Calls Tryd.prog 29 #[.int .i64 i] w fun e w' => e = .returned (trErr (8, (i : Int))) ∧ w' = w := by
 have he : trErr (8, (i : Int)) = .iface 58 (.agg #[.int .i64 i, .iface 51 (.int .i64 8)]) := by
  unfold trErr
  rw [if_neg (show ¬ (8 : Nat) = 0 by decide), if_neg (by show ¬ (i : Int) = -1; omega)]
  rfl
 rw [he]
 clear he
 go_enter Tryd.func29, Tryd.ntmps29
 go_wp2_with fail
 go_ret
 exact ⟨rfl, rfl⟩
def kidsF (T : List Nd) (i : Nat) (t : Int) (l : List Int) (a : Int) : Bool := kidOk i l && endOk (ordAt T a l) t
theorem kidsF_nil (T : List Nd) (i : Nat) (t a : Int) : kidsF T i t [] a = decide (a ≤ t) := by simp [kidsF, kidOk, ordAt, endOk]
theorem kidsF_out (T : List Nd) {i : Nat} (t : Int) {c : Int} (l : List Int) (a : Int) (h : ¬ (0 ≤ c ∧ c < (i : Int))) : kidsF T i t (c :: l) a = false := by
 unfold kidsF kidOk
 rw [List.all_cons, decide_eq_false h, Bool.false_and, Bool.false_and]
theorem kidsF_back (T : List Nd) (i : Nat) (t : Int) (c : Int) (l : List Int) (a : Int) (h : (kd T c).f < a) : kidsF T i t (c :: l) a = false := by
 unfold kidsF
 rw [ordAt, if_pos h]
 simp [endOk]
theorem kidsF_next (T : List Nd) {i : Nat} (t : Int) {c : Int} (l : List Int) (a : Int) (h : 0 ≤ c ∧ c < (i : Int)) (h2 : a ≤ (kd T c).f) : kidsF T i t (c :: l) a = kidsF T i t l (kd T c).t := by
 unfold kidsF kidOk
 rw [List.all_cons, decide_eq_true h, Bool.true_and, ordAt, if_neg (by omega)]
theorem drop_cons {l : List Int} {r : Nat} {y : Int} (h : l[r]? = some y) : l.drop r = y :: l.drop (r + 1) :=
 (List.drop_eq_getElem_cons (List.getElem?_eq_some_iff.1 h).1).trans (by congr 1; exact (List.getElem?_eq_some_iff.1 h).2)
set_option maxHeartbeats 4000000 in
set_option maxRecDepth 100000 in
theorem kids_run (A : Option Addr) (n cap i : Nat) (T : List Nd) (w : World) (h : TreeAt w A n T) (hi : i < n) (v : Bool) (hv : Hid (kidsF T i (nd T i).t (nd T i).kids (nd T i).f = v)) :
  Calls Tryd.prog 28 #[trV A n cap, .int .i64 i] w fun e w' => e = .returned (.bool v) ∧ Below w.heap.size w w' := by
 have hl := Lib.hid h.len
 have hiz : (i : Int) < (n : Int) := by omega
 have hn40 := h.small.1
 rw [hl.out] at hn40
 unfold trV
 obtain ⟨S, hS⟩ : ∃ S, w.heap.size = S := ⟨_, rfl⟩
 obtain ⟨W, hW⟩ : ∃ W, w.alloc (.cells #[.slice A n cap] 24) = W := ⟨_, rfl⟩
 have hB : Below S w W := by rw [← hW, ← hS]; exact (Below.refl _ _).alloc (Nat.le_refl _) _
 have d0 : W.cell? ⟨S, 0, none⟩ = some (.slice A n cap) := by rw [← hW, ← hS]; simp
 have hat := h.at_
 rw [hS] at hat ⊢
 have hb := hat.below hB (Nat.le_refl _)
 obtain ⟨b, o, rfl, hbB, hget⟩ := hb.get (by have := hl.out; omega)
 obtain ⟨K, q, c, c0, c1, c2, c3, hm, hmc, hcc, hK⟩ := hget i _ (at_nd (by have := hl.out; omega))
 have HGET := Lib.hid hget
 have BX := Lib.hid hB
 have HK := Lib.hid hK
 have HM := Lib.hid hm
 clear h hat hb hB hget hK hm c0
 generalize nd T i = x at *
 obtain ⟨xt, hxt⟩ : ∃ t, x.t = t := ⟨_, rfl⟩
 rw [hxt] at c2 hv
 clear hxt
 go_enter Tryd.func28, Tryd.ntmps28
 go_wp2_with fail
 go_loopg [5, 21] (q + 1) (fun h s5 s21 wr => ∃ (r : Nat) (a : Int), s5 = .int .i64 a ∧ s21 = .int .i64 r ∧ Hid (r ≤ q ∧ r + h = q + 1) ∧ Hid (kidsF T i xt (x.kids.drop r) a = v) ∧ wr = W)
 case atStart => exact ⟨0, _, rfl, rfl, by show _ ∧ _; omega, by rw [List.drop_zero]; exact hv.out, rfl⟩
 case round =>
  clear hv
  obtain ⟨r, a, rfl, rfl, HR, HV, hww⟩ := hrel
  obtain rfl := hww.symm
  by_cases hr : r < q
  ·have hrz : (r : Int) < (q : Int) := by omega
   obtain ⟨y, hy⟩ : ∃ y, x.kids[r]? = some y := ⟨_, List.getElem?_eq_getElem (by have := HM.out; omega)⟩
   obtain ⟨kb, ko, rfl, hkb, hkc⟩ := HK.out (by have := HM.out; omega)
   have k0 := hkc r y hy
   have HV2 : Hid (kidsF T i xt (y :: x.kids.drop (r + 1)) a = v) := by show _ = _; rw [← drop_cons hy]; exact HV.out
   clear hkc hy HV
   by_cases hy0 : 0 ≤ y ∧ y < (i : Int)
   ·obtain ⟨g1, g2⟩ := hy0
    obtain ⟨z, rfl⟩ : ∃ z : Nat, y = z := ⟨y.toNat, by omega⟩
    have hzz : (z : Int) < (n : Int) := by omega
    have ez : kd T (z : Int) = nd T z := by unfold kd; simp
    obtain ⟨_, _, _, z0, z1, z2, _⟩ := HGET.out z _ (at_nd (by have := hl.out; omega))
    by_cases hf : (nd T z).f < a
    ·obtain rfl : v = false := by rw [← HV2.out]; exact kidsF_back _ _ _ _ _ _ (by rw [ez]; exact hf)
     clear HV2
     go_wp2_with fail
     go_ret
     exact ⟨rfl, BX.out⟩
    ·have hf2 : a ≤ (nd T z).f := by omega
     have HV3 : Hid (kidsF T i xt (x.kids.drop (r + 1)) (nd T z).t = v) := by show _ = _; rw [← HV2.out, kidsF_next _ _ _ _ ⟨g1, g2⟩ (by rw [ez]; exact hf2), ez]
     clear HV2
     go_wp2_with fail
     go_roundg (q - r)
     case measure => have := HR.out; omega
     case rel => exact ⟨r + 1, _, rfl, by go_num, by show _ ∧ _; have := HR.out; omega, HV3.out, rfl⟩
   ·obtain rfl : v = false := by rw [← HV2.out]; exact kidsF_out _ _ _ _ hy0
    have hy1 : y < 0 ∨ (0 ≤ y ∧ (i : Int) ≤ y) := by omega
    clear HV2 hy0
    rcases hy1 with g1 | ⟨g1, g2⟩ <;> (go_wp2_with fail; go_ret; exact ⟨rfl, BX.out⟩)
  ·have hrz : ¬ (r : Int) < (q : Int) := by omega
   have HV2 : Hid (decide (a ≤ xt) = v) := by
    show _ = _
    rw [← HV.out, List.drop_eq_nil_of_le (by have := HM.out; have := HR.out; omega), kidsF_nil]
   by_cases ha : a ≤ xt
   ·obtain rfl : v = true := by rw [← HV2.out]; exact decide_eq_true ha
    clear HV HV2
    go_wp2_with fail
    go_ret
    exact ⟨rfl, BX.out⟩
   ·obtain rfl : v = false := by rw [← HV2.out]; exact decide_eq_false ha
    have ha2 : xt < a := by omega
    clear HV HV2
    go_wp2_with fail
    go_ret
    exact ⟨rfl, BX.out⟩
end Go.Proofs.YtkgaaabecdbidaaDoor
namespace Go.Proofs.YtkgaaabecdbidaaDoor
open Go.RowKit
set_option linter.unusedSimpArgs false
set_option linter.unusedVariables false
theorem parT_small {T : List Nd} (h : SmallT T) {k r : Nat} (hk : k < T.length) (i : Int) : parN (T.take k) i + ((nd T k).kids.take r).count i ≤ 1000 := by
 have h1 := par_small h k i
 have h2 : ((nd T k).kids.take r).count i ≤ ((nd T k).kids.take r).length := List.count_le_length
 have h3 := h.2 _ (List.mem_of_getElem? (at_nd hk))
 have h4 := h.1
 have h5 : ((nd T k).kids.take r).length ≤ (nd T k).kids.length := by rw [List.length_take]; omega
 omega
set_option maxHeartbeats 8000000 in
set_option maxRecDepth 100000 in
theorem times_run (A : Option Addr) (n cap : Nat) (T : List Nd) (w : World) (h : TreeAt w A n T) (hk : Hid (∀ i, i < n → ∀ c ∈ (nd T i).kids, 0 ≤ c ∧ c < (n : Int))) :
  Calls Tryd.prog 30 #[trV A n cap] w fun e w' => ∃ g, e = .returned (.slice (some ⟨g, 0, none⟩) n n) ∧ RowI w' w.heap.size g (parT T n 0) ∧ Below w.heap.size w w' := by
 have hl := Lib.hid h.len
 have hs := Lib.hid h.small
 have hn40 := h.small.1
 rw [hl.out] at hn40
 unfold trV
 obtain ⟨S, hS⟩ : ∃ S, w.heap.size = S := ⟨_, rfl⟩
 obtain ⟨W, hW⟩ : ∃ W, w.alloc (.cells #[.slice A n cap] 24) = W := ⟨_, rfl⟩
 have hB : Below S w W := by rw [← hW, ← hS]; exact (Below.refl _ _).alloc (Nat.le_refl _) _
 have hWS : W.heap.size = S + 1 := by rw [← hW, ← hS]; simp
 have d0 : W.cell? ⟨S, 0, none⟩ = some (.slice A n cap) := by rw [← hW, ← hS]; simp
 have hat := h.at_
 rw [hS] at hat ⊢
 have HG : Hid (NdsAt W S A T) := hat.below hB (Nat.le_refl _)
 have BX := Lib.hid hB
 obtain ⟨w2, hmk, hrow, hbw, hsz2⟩ := make_row W n (by omega)
 rw [hWS] at hmk hrow hbw hsz2
 have hln : Hid (∀ r, (parT T r 0).length = n ∧ ∀ q, (parT T r q).length = n) := fun r => ⟨by rw [parT_len]; exact hl.out, fun q => by rw [parT_len]; exact hl.out⟩
 have HR0 : Hid (RowI w2 (S + 1) (S + 1) (parT T 0 0)) := by show RowI _ _ _ _; rw [← parT_zero, hl.out]; exact hrow
 have d0' := (hbw.cell (p := ⟨S, 0, none⟩) (by show S < _; omega)).trans d0
 have HB2 := Lib.hid hbw
 clear h hat hB hrow hbw hWS
 go_enter Tryd.func30, Tryd.ntmps30
 go_wp2_with fail
 clear d0' d0
 go_loopg [15] (n + 1) (fun h s15 wr => ∃ (i : Nat), s15 = .int .i64 i ∧ Hid (i ≤ n ∧ i + h = n + 1) ∧ Hid (RowI wr (S + 1) (S + 1) (parT T i 0)) ∧ Hid (Below (S + 1) W wr))
 case atStart => exact ⟨0, rfl, by show _ ∧ _; omega, HR0.out, HB2.out⟩
 case round =>
  clear HR0 HB2
  obtain ⟨i, rfl, HI, HR, BW⟩ := hrel
  generalize wr = w3 at *
  have hsz : S + 1 < w3.heap.size := HR.out.lt.2
  by_cases hi : i < n
  ·have hiz : (i : Int) < (n : Int) := by omega
   obtain ⟨b, o, rfl, hbB, hget⟩ := HG.out.get (by have := hl.out; omega)
   obtain ⟨K, q, c, c0, c1, c2, c3, hm, hmc, hcc, hK⟩ := hget i _ (at_nd (by have := hl.out; omega))
   have g0 := (BW.out.cell (p := ⟨b, o + i * 4, none⟩) (by show b < _; omega)).trans c0
   have g1 := (BW.out.cell (p := ⟨b, o + i * 4 + 1, none⟩) (by show b < _; omega)).trans c1
   have g2 := (BW.out.cell (p := ⟨b, o + i * 4 + 2, none⟩) (by show b < _; omega)).trans c2
   have g3 := (BW.out.cell (p := ⟨b, o + i * 4 + 3, none⟩) (by show b < _; omega)).trans c3
   have HK := Lib.hid hK
   have HM := Lib.hid hm
   have HKD := Lib.hid (hk.out i hi)
   have H20 : Hid (q ≤ 20) := by show _ ≤ _; rw [HM.out]; exact hs.out.2 _ (List.mem_of_getElem? (at_nd (by have := hl.out; omega)))
   have HPS := Lib.hid (fun (r : Nat) (c : Int) => parT_small hs.out (k := i) (r := r) (by have := hl.out; omega) c)
   have HNX := Lib.hid (parT_next (T := T) (k := i) (by have := hl.out; omega))
   have HST := Lib.hid (fun (r : Nat) (y : Int) hy h0 => parT_step (T := T) (k := i) (r := r) (y := y) hy h0)
   have HGT := Lib.hid (fun (r j : Nat) hj => parT_get T i r (i := j) hj)
   clear hget c0 c1 c2 c3 hm hK
   generalize nd T i = x at *
   obtain ⟨w4, hw4⟩ : ∃ W', w3.alloc (.cells #[.int .i64 x.k, .int .i64 x.f, .int .i64 x.t, .slice K q c] 33) = W' := ⟨_, rfl⟩
   have B4 : Below w3.heap.size w3 w4 := by rw [← hw4]; exact (Below.refl _ _).alloc (Nat.le_refl _) _
   have n3 : w4.cell? ⟨w3.heap.size, 3, none⟩ = some (.slice K q c) := by rw [← hw4]; simp
   have HR4 : Hid (RowI w4 (S + 1) (S + 1) (parT T i 0)) := HR.out.below B4
   have BW4 : Hid (Below (S + 1) W w4) := BW.out.trans (B4.mono (by omega))
   have HNN : Hid (S + 1 < w3.heap.size ∧ w4.heap.size = w3.heap.size + 1) := ⟨hsz, by rw [← hw4]; simp⟩
   clear B4 BW HR
   go_wp2_with fail
   clear g0 g1 g2 g3 hw4
   obtain ⟨N, hN⟩ : ∃ N, w3.heap.size = N := ⟨_, rfl⟩
   rw [hN] at n3 HNN
   go_loopg [22] (q + 1) (fun h s22 wr => ∃ (r : Nat), s22 = .int .i64 r ∧ Hid (r ≤ q ∧ r + h = q + 1) ∧ Hid (RowI wr (S + 1) (S + 1) (parT T i r)) ∧ Hid (Below (S + 1) W wr))
   case atStart => exact ⟨0, rfl, by show _ ∧ _; omega, HR4.out, BW4.out⟩
   case round =>
    clear n3 HR4 BW4 hsz
    obtain ⟨r, rfl, HRR, HR, BW⟩ := hrel
    generalize wr = w5 at *
    by_cases hr : r < q
    ·have hrz : (r : Int) < (q : Int) := by omega
     obtain ⟨y, hy⟩ : ∃ y, x.kids[r]? = some y := ⟨_, List.getElem?_eq_getElem (by have := HM.out; omega)⟩
     obtain ⟨kb, ko, rfl, hkb, hkc⟩ := HK.out (by have := HM.out; omega)
     have k0 := (BW.out.cell (p := ⟨kb, ko + r, none⟩) (by show kb < _; omega)).trans (hkc r y hy)
     obtain ⟨hy1, hy2⟩ := HKD.out y (List.mem_of_getElem? hy)
     obtain ⟨z, rfl⟩ : ∃ z : Nat, y = z := ⟨y.toNat, by omega⟩
     have hzn : z < n := by omega
     obtain ⟨cell, fz⟩ := HR.out.at_ (HGT.out r z (by have := hl.out; omega))
     have hsm := HPS.out r z
     obtain ⟨u, hu⟩ : ∃ u, parN (T.take i) (z : Int) + (x.kids.take r).count (z : Int) = u := ⟨_, rfl⟩
     rw [hu] at cell hsm
     have HR2 : Hid (RowI (w5.setCell ⟨S + 1, z, none⟩ (.int .i64 ((u : Int) + 1))) (S + 1) (S + 1) (parT T i (r + 1))) := by
      have e : (parT T i r).set z ((u : Int) + 1) = parT T i (r + 1) := by
       rw [← HST.out r _ hy hy1]
       unfold addOne
       rw [Int.toNat_natCast, List.getD_eq_getElem?_getD, HGT.out r z (by have := hl.out; omega), hu]
       rfl
      show RowI _ _ _ _
      rw [← e]
      exact HR.out.put z _
     have BW2 : Hid (Below (S + 1) W (w5.setCell ⟨S + 1, z, none⟩ (.int .i64 ((u : Int) + 1)))) := BW.out.setCell (Nat.le_refl _) _
     clear hkc hy HR BW hu
     go_wp2_with fail
     go_roundg (q - r)
     case measure => have := HRR.out; omega
     case rel => exact ⟨r + 1, by go_num, by show _ ∧ _; have := HRR.out; omega, HR2.out, BW2.out⟩
    ·have hrz : ¬ (r : Int) < (q : Int) := by omega
     obtain rfl : r = q := by have := HRR.out; omega
     have HR2 : Hid (RowI w5 (S + 1) (S + 1) (parT T (i + 1) 0)) := by
      show RowI _ _ _ _
      rw [← HNX.out, ← HM.out]
      exact HR.out
     go_wp2_with fail
     go_roundg (n - i)
     case measure => have := HI.out; omega
     case rel => exact ⟨i + 1, by go_num, by show _ ∧ _; have := HI.out; omega, HR2.out, BW.out⟩
  ·have hiz : ¬ (i : Int) < (n : Int) := by omega
   obtain rfl : i = n := by have := HI.out; omega
   have BR : Hid (Below S w w3) := BX.out.trans (BW.out.mono (by omega))
   have HR2 : Hid (RowI w3 S (S + 1) (parT T i 0)) := ownK_base HR.out (by omega)
   go_wp2_with fail
   go_ret
   exact ⟨_, rfl, HR2.out, BR.out⟩
end Go.Proofs.YtkgaaabecdbidaaDoor
namespace Go.Proofs.YtkgaaabecdbidaaDoor
open Go.RowKit
set_option linter.unusedSimpArgs false
section
variable {T : List Nd} {m : Int}
theorem kd_nat (T : List Nd) (c : Int) : kd T c = nd T c.toNat := rfl
theorem ord_le : ∀ {l : List Int} {a e : Int}, (∀ c ∈ l, (kd T c).f ≤ (kd T c).t) → ordAt T a l = some e → a ≤ e
 | [], a, e, _, h => by cases h; exact Int.le_refl _
 | c :: r, a, e, hf, h => by
  unfold ordAt at h
  split at h
  ·cases h
  ·have h1 := ord_le (fun d hd => hf d (List.mem_cons_of_mem _ hd)) h
   have h2 := hf c (List.mem_cons_self ..)
   omega
theorem ord_mem : ∀ {l : List Int} {a e : Int}, (∀ c ∈ l, (kd T c).f ≤ (kd T c).t) → ordAt T a l = some e → ∀ c ∈ l, a ≤ (kd T c).f ∧ (kd T c).t ≤ e
 | [], a, e, _, _, c, hc => by cases hc
 | d :: r, a, e, hf, h, c, hc => by
  unfold ordAt at h
  split at h
  ·cases h
  ·have hr := fun x hx => hf x (List.mem_cons_of_mem d hx)
   have h2 := hf d (List.mem_cons_self ..)
   rcases List.mem_cons.1 hc with rfl | hc2
   ·exact ⟨by omega, ord_le hr h⟩
   ·have h1 := ord_mem hr h c hc2
    exact ⟨by omega, h1.2⟩
theorem ord_one {tok : Int} : ∀ {l : List Int} {a e : Int}, (∀ c ∈ l, (kd T c).f ≤ (kd T c).t) → ordAt T a l = some e → ∀ c ∈ l, ∀ d ∈ l, ((kd T c).f ≤ tok ∧ tok < (kd T c).t) → ((kd T d).f ≤ tok ∧ tok < (kd T d).t) → c = d
 | [], a, e, _, _, c, hc, _, _, _, _ => by cases hc
 | x :: r, a, e, hf, h, c, hc, d, hd, h1, h2 => by
  unfold ordAt at h
  split at h
  ·cases h
  ·have hr := fun y hy => hf y (List.mem_cons_of_mem x hy)
   rcases List.mem_cons.1 hc with rfl | hc2
   ·rcases List.mem_cons.1 hd with rfl | hd2
    ·rfl
    ·have := ord_mem hr h d hd2; omega
   ·rcases List.mem_cons.1 hd with rfl | hd2
    ·have := ord_mem hr h c hc2; omega
    ·exact ord_one hr h c hc2 d hd2 h1 h2
theorem Valid.kidT (hV : Valid T m) {i : Nat} (hi : i < T.length) : ∀ c ∈ (nd T i).kids, (kd T c).f ≤ (kd T c).t := fun c hc => by
 have h := hV.kid i hi c hc
 exact (hV.num c.toNat (by omega)).2.2.2.1
theorem Valid.within (hV : Valid T m) {i : Nat} (hi : i < T.length) {c : Int} (hc : c ∈ (nd T i).kids) : (nd T i).f ≤ (kd T c).f ∧ (kd T c).t ≤ (nd T i).t := by
 obtain ⟨e, h1, h2⟩ := hV.ord i hi
 have := ord_mem (hV.kidT hi) h1 c hc
 omega
def InT (T : List Nd) (i : Nat) (tok : Int) : Prop := (nd T i).f ≤ tok ∧ tok < (nd T i).t
theorem count_pos {T : List Nd} {i : Int} (h : parN T i ≠ 0) : ∃ k, k < T.length ∧ i ∈ (nd T k).kids := by
 unfold parN at h
 have hex : ∃ n ∈ T, i ∈ n.kids := by
  refine Classical.byContradiction fun hno => h ?_
  have h0 : ∀ n ∈ T, n.kids.count i = 0 := fun n hn => List.count_eq_zero.2 fun hm => hno ⟨n, hn, hm⟩
  clear hno h
  induction T with
  | nil => rfl
  | cons n T ih =>
   rw [List.map_cons, List.sum_cons, h0 n (List.mem_cons_self ..), ih fun x hx => h0 x (List.mem_cons_of_mem _ hx)]
 obtain ⟨n, hn, hi⟩ := hex
 obtain ⟨k, hk⟩ := List.mem_iff_getElem?.1 hn
 exact ⟨k, (List.getElem?_eq_some_iff.1 hk).1, by rw [nd_at hk]; exact hi⟩
theorem Valid.parent (hV : Valid T m) {i : Nat} (hi : i + 1 < T.length) : ∃ k, k < T.length ∧ i < k ∧ (i : Int) ∈ (nd T k).kids := by
 obtain ⟨k, hk, hm⟩ := count_pos (T := T) (i := (i : Int)) (by rw [hV.par i hi]; omega)
 have := hV.kid k hk _ hm
 exact ⟨k, hk, by omega, hm⟩
theorem Valid.up (hV : Valid T m) {i : Nat} {tok : Int} (hi : i + 1 < T.length) (h : InT T i tok) : ∃ k, k < T.length ∧ i < k ∧ (i : Int) ∈ (nd T k).kids ∧ InT T k tok := by
 obtain ⟨k, hk, hik, hm⟩ := hV.parent hi
 have hw := hV.within hk hm
 rw [kd_nat, Int.toNat_natCast] at hw
 exact ⟨k, hk, hik, hm, by obtain ⟨h1, h2⟩ := h; exact ⟨by omega, by omega⟩⟩
theorem Valid.path (hV : Valid T m) {tok : Int} : ∀ (g a : Nat), g = T.length - a → a < T.length → InT T a tok → ∀ b, a < b → b < T.length → InT T b tok → ∃ c ∈ (nd T b).kids, ((kd T c).f ≤ tok ∧ tok < (kd T c).t) ∧ (a : Int) ≤ c := by
 intro g
 induction g using Nat.strongRecOn with
 | ind g ih =>
  intro a hg ha hia b hab hb hib
  obtain ⟨k, hk, hak, hm, hik⟩ := hV.up (by omega) hia
  have hia' : (kd T (a : Int)).f ≤ tok ∧ tok < (kd T (a : Int)).t := by rw [kd_nat, Int.toNat_natCast]; exact hia
  rcases Nat.lt_trichotomy b k with h | h | h
  ·exfalso
   obtain ⟨c, hc, hct, hbc⟩ := ih (T.length - b) (by omega) b rfl hb hib k h hk hik
   obtain ⟨e, he, _⟩ := hV.ord k hk
   have := ord_one (hV.kidT hk) he c hc (a : Int) hm hct hia'
   omega
  ·subst h
   exact ⟨(a : Int), hm, hia', Int.le_refl _⟩
  ·obtain ⟨c, hc, hct, hkc⟩ := ih (T.length - k) (by omega) k rfl hk hik b h hb hib
   exact ⟨c, hc, hct, by omega⟩
theorem held_iff {T : List Nd} {l : List Int} {tok : Int} : heldB T l tok = true ↔ ∃ c ∈ l, (kd T c).f ≤ tok ∧ tok < (kd T c).t := by
 unfold heldB
 rw [List.any_eq_true]
 constructor
 ·rintro ⟨c, hc, h⟩; exact ⟨c, hc, of_decide_eq_true h⟩
 ·rintro ⟨c, hc, h⟩; exact ⟨c, hc, decide_eq_true h⟩
theorem own_iff {T : List Nd} {i : Nat} {tok : Int} : ownB T i tok = true ↔ InT T i tok ∧ ¬ ∃ c ∈ (nd T i).kids, (kd T c).f ≤ tok ∧ tok < (kd T c).t := by
 unfold ownB
 rw [Bool.and_eq_true, Bool.not_eq_true', ← held_iff, decide_eq_true_iff, Bool.not_eq_true]
 exact Iff.rfl
theorem Valid.one (hV : Valid T m) {tok : Int} {i j : Nat} (hi : i < T.length) (hj : j < T.length) (h1 : ownB T i tok = true) (h2 : ownB T j tok = true) : i = j := by
 have key : ∀ {a b : Nat}, a < T.length → b < T.length → ownB T a tok = true → ownB T b tok = true → ¬ a < b := by
  intro a b ha hb h1 h2 hab
  obtain ⟨c, hc, hct, _⟩ := hV.path _ a rfl ha (own_iff.1 h1).1 b hab hb (own_iff.1 h2).1
  exact (own_iff.1 h2).2 ⟨c, hc, hct⟩
 have := key hi hj h1 h2
 have := key hj hi h2 h1
 omega
theorem Valid.some (hV : Valid T m) {tok : Int} : ∀ i, i < T.length → InT T i tok → ∃ j, j < T.length ∧ ownB T j tok = true := by
 intro i
 induction i using Nat.strongRecOn with
 | ind i ih =>
  intro hi h
  cases ho : ownB T i tok with
  | true => exact ⟨i, hi, ho⟩
  | false =>
   have : ∃ c ∈ (nd T i).kids, (kd T c).f ≤ tok ∧ tok < (kd T c).t := Classical.byContradiction fun hno => by
    rw [own_iff.2 ⟨h, hno⟩] at ho
    cases ho
   obtain ⟨c, hc, hct⟩ := this
   have hk := hV.kid i hi c hc
   exact ih c.toNat (by omega) (by omega) hct
theorem Valid.root (hV : Valid T m) {tok : Int} : ∀ (g i : Nat), g = T.length - i → i < T.length → InT T i tok → InT T (T.length - 1) tok := by
 intro g
 induction g using Nat.strongRecOn with
 | ind g ih =>
  intro i hg hi h
  rcases Nat.lt_or_ge (i + 1) T.length with h1 | h1
  ·obtain ⟨k, hk, hik, _, hk2⟩ := hV.up h1 h
   exact ih (T.length - k) (by omega) k rfl hk hk2
  ·rw [show T.length - 1 = i by omega]; exact h
theorem firstBad_find {p : Nat → Bool} : ∀ {h i j : Nat}, i ≤ j → j < i + h → p j = false → (∀ k, i ≤ k → k < i + h → p k = false → k = j) → firstBad p h i = some j
 | 0, i, j, h1, h2, _, _ => by omega
 | h + 1, i, j, h1, h2, hj, hu => by
  unfold firstBad
  cases hp : p i with
  | true =>
   rw [if_pos rfl]
   rcases Nat.eq_or_lt_of_le h1 with rfl | h3
   ·rw [hp] at hj; cases hj
   ·exact firstBad_find h3 (by omega) hj fun k hk1 hk2 => hu k (by omega) (by omega)
  | false =>
   rw [if_neg (by simp), hu i (Nat.le_refl _) (by omega) hp]
theorem firstBad_miss {p : Nat → Bool} : ∀ {h i : Nat}, (∀ k, i ≤ k → k < i + h → p k = true) → firstBad p h i = none
 | 0, _, _ => rfl
 | h + 1, i, hu => by rw [firstBad_step (hu i (Nat.le_refl _) (by omega)), firstBad_miss fun k h1 h2 => hu k (by omega) (by omega)]
theorem Valid.owner (hV : Valid T m) {tok : Int} {i : Nat} (hi : i < T.length) (h : ownB T i tok = true) : ownerF T tok = (i : Int) := by
 unfold ownerF
 rw [firstBad_find (Nat.zero_le i) (by omega) (by simp [h]) fun k _ hk hf => ?_]
 ·rfl
 ·exact hV.one (by omega) hi (by simpa using hf) h
theorem owner_none {T : List Nd} {tok : Int} (h : ∀ i, i < T.length → ownB T i tok = false) : ownerF T tok = -1 := by
 unfold ownerF
 rw [firstBad_miss fun k _ hk => by simp [h k (by omega)]]
 rfl
theorem Valid.owned (hV : Valid T m) {tok : Int} (h : (rootOf T).f ≤ tok) (h2 : tok < (rootOf T).t) : ∃ i, i < T.length ∧ ownB T i tok = true := hV.some (T.length - 1) (by have := hV.pos; omega) ⟨h, h2⟩
theorem Valid.ahead (hV : Valid T m) {tok : Int} (h : tok < (rootOf T).f) {i : Nat} (hi : i < T.length) : ownB T i tok = false := by
 cases ho : ownB T i tok with
 | false => rfl
 | true =>
  have := hV.root _ i rfl hi (own_iff.1 ho).1
  have h3 : (rootOf T).f ≤ tok := this.1
  omega
theorem parG_mem : ∀ {L : List Nd} {i v : Int} {k : Nat}, parG L i k = v → 0 ≤ v → ∃ j, j < L.length ∧ v = ((k + j : Nat) : Int) ∧ i ∈ (nd L j).kids
 | [], i, v, k, h, h0 => by
  have : (-1 : Int) = v := h
  omega
 | x :: r, i, v, k, h, h0 => by
  by_cases hx : i ∈ x.kids
  ·rw [parG, if_pos hx] at h
   exact ⟨0, by simp, by rw [← h]; rfl, hx⟩
  ·rw [parG, if_neg hx] at h
   obtain ⟨j, hj, e, hm⟩ := parG_mem h h0
   refine ⟨j + 1, by simp; omega, by rw [e]; congr 1; omega, ?_⟩
   have : nd (x :: r) (j + 1) = nd r j := by unfold nd; simp
   rw [this]
   exact hm
theorem Valid.parF (hV : Valid T m) {i : Nat} {v : Int} (h : parF T (i : Int) = v) (h0 : 0 ≤ v) : v < (T.length : Int) ∧ (nd T v.toNat).f ≤ (nd T i).f ∧ (nd T i).t ≤ (nd T v.toNat).t := by
 obtain ⟨j, hj, e, hm⟩ := parG_mem h h0
 rw [Nat.zero_add] at e
 have hw := hV.within hj hm
 rw [kd_nat, Int.toNat_natCast] at hw
 rw [e, Int.toNat_natCast]
 exact ⟨by omega, hw.1, hw.2⟩
theorem ownsF_mem : ∀ {h : Nat} {f tok : Int} {i : Nat}, tok ∈ ownsF T i h f → f ≤ tok ∧ tok < f + h ∧ ownB T i tok = true
 | 0, f, tok, i, hm => by cases hm
 | h + 1, f, tok, i, hm => by
  unfold ownsF at hm
  split at hm
  ·next ho =>
   rcases List.mem_cons.1 hm with rfl | hm
   ·exact ⟨by omega, by omega, ho⟩
   ·have := ownsF_mem hm; exact ⟨by omega, by omega, this.2.2⟩
  ·have := ownsF_mem hm; exact ⟨by omega, by omega, this.2.2⟩
theorem ownsF_count : ∀ {h : Nat} {f tok : Int} {i : Nat}, (ownsF T i h f).count tok = if f ≤ tok ∧ tok < f + h ∧ ownB T i tok = true then 1 else 0
 | 0, f, tok, i => by rw [if_neg (by omega)]; rfl
 | h + 1, f, tok, i => by
  have ih := ownsF_count (h := h) (f := f + 1) (tok := tok) (i := i)
  unfold ownsF
  by_cases ht : f = tok
  ·subst ht
   rw [if_neg (by omega)] at ih
   cases ho : ownB T i f with
   | true => rw [if_pos rfl, List.count_cons_self, ih, if_pos ⟨by omega, by omega, rfl⟩]
   | false => rw [if_neg (by simp), ih, if_neg (by simp)]
  ·have e : (if f + 1 ≤ tok ∧ tok < f + 1 + h ∧ ownB T i tok = true then 1 else 0) = (if f ≤ tok ∧ tok < f + (h + 1 : Nat) ∧ ownB T i tok = true then 1 else 0) := by
    by_cases hc : f + 1 ≤ tok ∧ tok < f + 1 + h ∧ ownB T i tok = true
    ·rw [if_pos hc, if_pos ⟨by omega, by omega, hc.2.2⟩]
    ·rw [if_neg hc, if_neg fun hd => hc ⟨by omega, by omega, hd.2.2⟩]
   split
   ·rw [List.count_cons_of_ne ht, ih, e]
   ·rw [ih, e]
theorem ownL_mem {i : Nat} {tok : Int} (h : tok ∈ ownL T i) : ownB T i tok = true := (ownsF_mem h).2.2
theorem ownL_count {i : Nat} {tok : Int} : (ownL T i).count tok = if ownB T i tok = true then 1 else 0 := by
 unfold ownL
 rw [ownsF_count]
 by_cases h : ownB T i tok = true
 ·have hi := (own_iff.1 h).1
  rw [if_pos h, if_pos ⟨hi.1, by have := hi.2; have := hi.1; omega, h⟩]
 ·rw [if_neg h, if_neg fun hd => h hd.2.2]
def ownN (T : List Nd) (j : Nat) (tok : Int) : Nat := ((List.range j).map fun i => (ownL T i).count tok).sum
theorem ownN_step (T : List Nd) (j : Nat) (tok : Int) : ownN T (j + 1) tok = ownN T j tok + (ownL T j).count tok := by
 unfold ownN
 rw [List.range_succ, List.map_append, List.sum_append]
 simp
theorem ownN_zero {tok : Int} : ∀ {j : Nat}, (∀ i, i < j → ownB T i tok = false) → ownN T j tok = 0
 | 0, _ => rfl
 | j + 1, h => by rw [ownN_step, ownN_zero fun i hi => h i (by omega), ownL_count, if_neg (by simp [h j (Nat.lt_succ_self j)])]
theorem ownN_one {tok : Int} {i : Nat} : ∀ {j : Nat}, i < j → ownB T i tok = true → (∀ k, k < j → ownB T k tok = true → k = i) → ownN T j tok = 1
 | 0, h, _, _ => by omega
 | j + 1, h, ho, hu => by
  rw [ownN_step, ownL_count]
  by_cases e : i = j
  ·subst e
   rw [if_pos ho, ownN_zero fun k hk => ?_]
   cases hk2 : ownB T k tok with
   | false => rfl
   | true => exact absurd (hu k (by omega) hk2) (by omega)
  ·rw [if_neg fun hj => e (hu j (Nat.lt_succ_self j) hj).symm, ownN_one (by omega) ho fun k hk => hu k (by omega)]
theorem Valid.seen (hV : Valid T m) {tok : Int} (h2 : tok < (rootOf T).t) : ownN T T.length tok = (if (rootOf T).f ≤ tok then 1 else 0) ∧ (ownerF T tok < 0 ↔ ¬ (rootOf T).f ≤ tok) := by
 by_cases h : (rootOf T).f ≤ tok
 ·obtain ⟨i, hi, ho⟩ := hV.owned h h2
  rw [if_pos h, hV.owner hi ho]
  exact ⟨ownN_one hi ho fun k hk hk2 => hV.one hk hi hk2 ho, by omega⟩
 ·have ha := fun i (hi : i < T.length) => hV.ahead (tok := tok) (by omega) hi
  rw [if_neg h, owner_none ha]
  exact ⟨ownN_zero ha, by omega⟩
end
end Go.Proofs.YtkgaaabecdbidaaDoor
namespace Go.Proofs.YtkgaaabecdbidaaDoor
open Go.RowKit
def dig (B n i : Nat) : Nat := n / B ^ i % B
theorem dig_lt {B : Nat} (hB : 0 < B) (n i : Nat) : dig B n i < B := Nat.mod_lt _ hB
theorem dig_zero (B i : Nat) : dig B 0 i = 0 := by simp [dig]
theorem dig_high {B n i : Nat} (h : n < B ^ i) : dig B n i = 0 := by simp [dig, Nat.div_eq_of_lt h]
theorem div_succ (B n i : Nat) : n / B ^ (i + 1) = n / B ^ i / B := by rw [Nat.pow_succ, Nat.div_div_eq_div_mul]
theorem div_dig (B n i : Nat) : n / B ^ i = B * (n / B ^ (i + 1)) + dig B n i := by rw [div_succ]; exact (Nat.div_add_mod _ _).symm
def nlen (B n : Nat) : Nat := if h : 2 ≤ B ∧ n ≠ 0 then nlen B (n / B) + 1 else 0
termination_by n
decreasing_by exact Nat.div_lt_self (Nat.pos_of_ne_zero h.2) h.1
theorem nlen_zero (B : Nat) : nlen B 0 = 0 := by unfold nlen; simp
theorem nlen_pos {B n : Nat} (hB : 2 ≤ B) (h : n ≠ 0) : nlen B n = nlen B (n / B) + 1 := by
 rw [nlen]
 simp [hB, h]
theorem lt_nlen {B : Nat} (hB : 2 ≤ B) (n : Nat) : n < B ^ nlen B n := by
 induction n using Nat.strongRecOn with
 | _ n ih =>
  by_cases h : n = 0
  ·subst h; rw [nlen_zero]; simp
  ·rw [nlen_pos hB h, Nat.pow_succ]
   have := ih (n / B) (Nat.div_lt_self (Nat.pos_of_ne_zero h) hB)
   exact (Nat.div_lt_iff_lt_mul (by omega)).1 this
theorem nlen_le {B : Nat} (hB : 2 ≤ B) (n : Nat) (h : n ≠ 0) : B ^ (nlen B n - 1) ≤ n := by
 induction n using Nat.strongRecOn with
 | _ n ih =>
  rw [nlen_pos hB h, Nat.add_sub_cancel]
  by_cases h0 : n / B = 0
  ·rw [h0, nlen_zero]; simp; omega
  ·have h1 := ih (n / B) (Nat.div_lt_self (Nat.pos_of_ne_zero h) hB) h0
   have h2 : nlen B (n / B) = nlen B (n / B) - 1 + 1 := by rw [nlen_pos hB h0]; omega
   rw [h2, Nat.pow_succ]
   exact (Nat.le_div_iff_mul_le (by omega)).1 h1
theorem nlen_uniq {B n k : Nat} (hB : 2 ≤ B) (h : n < B ^ k) (h2 : k ≠ 0 → B ^ (k - 1) ≤ n) : nlen B n = k := by
 by_cases hn : n = 0
 ·subst hn
  rw [nlen_zero]
  by_cases hk : k = 0
  ·exact hk.symm
  ·have := h2 hk
   have := Nat.pow_pos (n := k - 1) (show 0 < B by omega)
   omega
 ·have a1 := lt_nlen hB n
  have a2 := nlen_le hB n hn
  have k0 : k ≠ 0 := fun e => by subst e; simp at h; omega
  have b2 := h2 k0
  have p1 : nlen B n - 1 < k := (Nat.pow_lt_pow_iff_right (by omega)).1 (Nat.lt_of_le_of_lt a2 h)
  have p2 : k - 1 < nlen B n := (Nat.pow_lt_pow_iff_right (by omega)).1 (Nat.lt_of_le_of_lt b2 a1)
  omega
theorem nlen_le_of_lt {B n k : Nat} (hB : 2 ≤ B) (h : n < B ^ k) : nlen B n ≤ k := by
 by_cases hn : n = 0
 ·subst hn; rw [nlen_zero]; omega
 ·have := (Nat.pow_lt_pow_iff_right (by omega)).1 (Nat.lt_of_le_of_lt (nlen_le hB n hn) h)
  omega
theorem nlen_eq_zero {B n : Nat} (hB : 2 ≤ B) : nlen B n = 0 ↔ n = 0 := by
 constructor
 ·intro h
  by_cases hn : n = 0
  ·exact hn
  ·rw [nlen_pos hB hn] at h; omega
 ·intro h; subst h; exact nlen_zero B
theorem nlen_mono {B a b : Nat} (hB : 2 ≤ B) (h : a ≤ b) : nlen B a ≤ nlen B b := nlen_le_of_lt hB (Nat.lt_of_le_of_lt h (lt_nlen hB b))
theorem half_exact {q r y1 y0 u1 u0 : Nat} (hq : q * y1 + r = u1) (hge : (u1 * 4294967296 + u0) / (y1 * 4294967296 + y0) ≤ q) (h : q * y0 ≤ 4294967296 * r + u0) (hy : 0 < y1) :
  q = (u1 * 4294967296 + u0) / (y1 * 4294967296 + y0) := by
 apply Nat.le_antisymm _ hge
 apply (Nat.le_div_iff_mul_le (by omega)).2
 have e : q * (y1 * 4294967296 + y0) = q * y1 * 4294967296 + q * y0 := by rw [Nat.mul_add, Nat.mul_assoc]
 rw [e]
 generalize q * y1 = a at *
 generalize q * y0 = b at *
 omega
end Go.Proofs.YtkgaaabecdbidaaDoor
