/-
  The document's Cmp of two ratios.
-/
import Derived.Test.YtgoemhcngmpfbaaGreatDoorMx25
import Derived.Test.YtgoemhcngmpfbaaGreatDoorMx13
import Derived.Test.YtgoemhcngmpfbaaGreatDoorMx26
import Derived.Test.YtgoemhcngmpfbaaGreatDoorMx12
import Derived.Test.YtgoemhcngmpfbaaGreatDoorMx14
namespace Go.Proofs.YtgoemhcngmpfbaaGreatDoor
open Go.RowKit Go.Sort
set_option linter.unusedSimpArgs false
structure CmpIs (ka kb : Nat) (zp : Bool) (p : Nat) (zq : Bool) (q : Nat) (c : Int) (K : Nat) : Prop where
 b1 : ka ≠ 0 → c = 0 ∧ K = 8
 b2 : kb ≠ 0 → c = 0 ∧ K = 8
 b4 : ka = 0 → kb = 0 → ¬ (Fits p ∧ Fits q) → c = 0 ∧ K = 9
 ok : ka = 0 → kb = 0 → Fits p → Fits q → cmpS zp p zq q = c ∧ K = 0
end Go.Proofs.YtgoemhcngmpfbaaGreatDoor
namespace Go.Proofs.YtgoemhcngmpfbaaGreatDoor
open Go.RowKit Go.Sort
set_option linter.unusedSimpArgs false
theorem kept_09 {a b : Nat} (ha : a = 0 ∨ a = 9) (hb : b = 0 ∨ b = 9) : kept a b = 0 ∨ kept a b = 9 := by
 rcases ha with rfl | rfl <;> rcases hb with rfl | rfl <;> simp [kept]
theorem resK_09 (n : Nat) : resK n = 0 ∨ resK n = 9 := by unfold resK; split <;> simp
theorem kept_of {k j : Nat} (h : k ≠ 0) : kept k j = k := if_neg h
theorem kept_nil (j : Nat) : kept 0 j = j := if_pos rfl
theorem op_err {k j j' e : Nat} (h : kept (kept k j) j' = e) (he : e ≠ 0) (z : Bool) (r : Nat) (z' : Bool) (r' : Nat) : oS k z r j z' r' j' = false ∧ oN k r j r' j' = 0 ∧ oD k r j r' j' = 0 ∧ oK k j r' j' = e := by
 subst h
 exact ⟨if_neg he, if_neg he, if_neg he, if_neg he⟩
theorem op_fit {r r' : Nat} (z z' : Bool) (h : Fits r) (h' : Fits r') (h0 : r' ≠ 0) : mkS (sgn z r) r (sgn z' r') r' = oS 0 (resS z r) (resN r) (resK r) (resS z' r') (resN r') (resK r') ∧ mkN r r' = oN 0 (resN r) (resK r) (resN r') (resK r') ∧ mkD r r' = oD 0 (resN r) (resK r) (resN r') (resK r') ∧ oK 0 (resK r) (resN r') (resK r') = 0 := by
 have e1 := resK_zero.2 h
 have e2 := resK_zero.2 h'
 rw [e1, e2, resN_of h, resN_of h', resS_of z h, resS_of z' h']
 exact ⟨rfl, rfl, rfl, if_neg h0⟩
theorem vld_signs {s : Bool} {n : Nat} {t : Bool} {d : Nat} (h : chk s n t d = 0) : sgn s n = s ∧ t = false ∧ sgn t d = false ∧ 0 < d := by
 obtain ⟨h1, h2, h3, h4⟩ := vld_spec (chk_zero.1 h)
 subst h2
 exact ⟨h1, rfl, rfl, h3⟩
theorem chk_eq8 {s : Bool} {n : Nat} {t : Bool} {d : Nat} (h : chk s n t d ≠ 0) : chk s n t d = 8 := by
 rcases chk_le s n t d with h1 | h1
 ·exact absurd h1 h
 ·exact h1
section
variable (s : Bool) (n : Nat) (t : Bool) (d : Nat) (s' : Bool) (n' : Nat) (t' : Bool) (d' : Nat)
theorem k0_8a (h : chk s n t d ≠ 0) : k0 s n t d s' n' t' d' = 8 := by unfold k0; rw [kept_of h, chk_eq8 h]
theorem k0_8b (h : chk s' n' t' d' ≠ 0) : k0 s n t d s' n' t' d' = 8 := by
 unfold k0
 rcases chk_le s n t d with h1 | h1
 ·rw [h1, kept_nil, chk_eq8 h]
 ·rw [h1, kept_of (by decide)]
theorem k0_0 (h : chk s n t d = 0) (h' : chk s' n' t' d' = 0) : k0 s n t d s' n' t' d' = 0 := by unfold k0; rw [h, h']; rfl
end
theorem is_mu (s : Bool) (n : Nat) (t : Bool) (d : Nat) (s' : Bool) (n' : Nat) (t' : Bool) (d' : Nat) : DoIs (chk s n t d) (chk s' n' t' d') (sgn (sgn s n != sgn s' n') (n * n')) (n * n') (sgn (sgn t d != sgn t' d') (d * d')) (d * d') (False) (Fits (n * n') ∧ Fits (d * d')) (muS s n t d s' n' t' d') (muN s n t d s' n' t' d') (muD s n t d s' n' t' d') (muK s n t d s' n' t' d') := by
 unfold muS muN muD muK
 refine ⟨fun h => ?_, fun h => ?_, fun h h' hz => ?_, fun h h' hz hf => ?_, fun h h' hz hf => ?_⟩
 ·rw [k0_8a s n t d s' n' t' d' h]
  exact op_err (e := 8) (by simp [kept]) (by decide) _ _ _ _
 ·rw [k0_8b s n t d s' n' t' d' h]
  exact op_err (e := 8) (by simp [kept]) (by decide) _ _ _ _
 ·exact hz.elim
 ·obtain ⟨e1, e2, e3, e4⟩ := vld_signs h
  obtain ⟨e5, e6, e7, e8⟩ := vld_signs h'
  rw [k0_0 s n t d s' n' t' d' h h']
  refine op_err (e := 9) ?_ (by decide) _ _ _ _
  have h9 := kept_09 (kept_09 (a := 0) (.inl rfl) (resK_09 (n * n'))) (resK_09 (d * d'))
  rcases h9 with h9 | h9
  ·exfalso
   obtain ⟨h1, h2⟩ := kept_zero.1 h9
   obtain ⟨h1, h3⟩ := kept_zero.1 h1
   exact hf ⟨resK_zero.1 h3, resK_zero.1 h2⟩
  ·exact h9
 ·obtain ⟨e1, e2, e3, e4⟩ := vld_signs h
  obtain ⟨e5, e6, e7, e8⟩ := vld_signs h'
  rw [k0_0 s n t d s' n' t' d' h h']
  rw [e1, e3, e5, e7]
  subst e2 e6
  obtain ⟨f3, f2⟩ := hf
  have hd0 : d * d' ≠ 0 := Nat.ne_of_gt (Nat.mul_pos e4 e8)
  obtain ⟨q1, q2, q3, q4⟩ := op_fit (s != s') (false != false) f3 f2 hd0
  exact ⟨q1, q2, q3, q4, hd0⟩
theorem is_qu (s : Bool) (n : Nat) (t : Bool) (d : Nat) (s' : Bool) (n' : Nat) (t' : Bool) (d' : Nat) : DoIs (chk s n t d) (chk s' n' t' d') (sgn (sgn s n != sgn t' d') (n * d')) (n * d') (sgn (sgn t d != sgn s' n') (d * n')) (d * n') (n' = 0) (Fits (n * d') ∧ Fits (d * n')) (quS s n t d s' n' t' d') (quN s n t d s' n' t' d') (quD s n t d s' n' t' d') (quK s n t d s' n' t' d') := by
 unfold quS quN quD quK
 refine ⟨fun h => ?_, fun h => ?_, fun h h' hz => ?_, fun h h' hz hf => ?_, fun h h' hz hf => ?_⟩
 ·rw [k0_8a s n t d s' n' t' d' h]
  exact op_err (e := 8) (by simp [kept]) (by decide) _ _ _ _
 ·rw [k0_8b s n t d s' n' t' d' h]
  exact op_err (e := 8) (by simp [kept]) (by decide) _ _ _ _
 ·rw [k0_0 s n t d s' n' t' d' h h', if_pos hz]
  exact op_err (e := 10) (by simp [kept]) (by decide) _ _ _ _
 ·obtain ⟨e1, e2, e3, e4⟩ := vld_signs h
  obtain ⟨e5, e6, e7, e8⟩ := vld_signs h'
  rw [k0_0 s n t d s' n' t' d' h h', if_neg hz]
  refine op_err (e := 9) ?_ (by decide) _ _ _ _
  have h9 := kept_09 (kept_09 (a := 0) (.inl rfl) (resK_09 (n * d'))) (resK_09 (d * n'))
  rcases h9 with h9 | h9
  ·exfalso
   obtain ⟨h1, h2⟩ := kept_zero.1 h9
   obtain ⟨h1, h3⟩ := kept_zero.1 h1
   exact hf ⟨resK_zero.1 h3, resK_zero.1 h2⟩
  ·exact h9
 ·obtain ⟨e1, e2, e3, e4⟩ := vld_signs h
  obtain ⟨e5, e6, e7, e8⟩ := vld_signs h'
  rw [k0_0 s n t d s' n' t' d' h h', if_neg hz]
  rw [e1, e3, e5, e7]
  subst e2 e6
  obtain ⟨f3, f2⟩ := hf
  have hd0 : d * n' ≠ 0 := Nat.ne_of_gt (Nat.mul_pos e4 (Nat.pos_of_ne_zero hz))
  obtain ⟨q1, q2, q3, q4⟩ := op_fit (s != false) (false != s') f3 f2 hd0
  exact ⟨q1, q2, q3, q4, hd0⟩
end Go.Proofs.YtgoemhcngmpfbaaGreatDoor
namespace Go.Proofs.YtgoemhcngmpfbaaGreatDoor
open Go.RowKit Go.Sort
set_option linter.unusedSimpArgs false
theorem DoIs.le {ka kb : Nat} {zr : Bool} {r : Nat} {zd : Bool} {dd : Nat} {zero fit : Prop} {Z : Bool} {N D K : Nat} (h : DoIs ka kb zr r zd dd zero fit Z N D K) : K ≤ 25 := by
 by_cases h1 : ka = 0
 ·by_cases h2 : kb = 0
  ·by_cases h3 : zero
   ·have := (h.b3 h1 h2 h3).2.2.2; omega
   ·by_cases h4 : fit
    ·have := (h.ok h1 h2 h3 h4).2.2.2.1; omega
    ·have := (h.b4 h1 h2 h3 h4).2.2.2; omega
  ·have := (h.b2 h2).2.2.2; omega
 ·have := (h.b1 h1).2.2.2; omega
theorem CmpIs.le {ka kb : Nat} {zp : Bool} {p : Nat} {zq : Bool} {q : Nat} {c : Int} {K : Nat} (h : CmpIs ka kb zp p zq q c K) : K ≤ 25 := by
 by_cases h1 : ka = 0
 ·by_cases h2 : kb = 0
  ·by_cases h3 : Fits p ∧ Fits q
   ·have := (h.ok h1 h2 h3.1 h3.2).2; omega
   ·have := (h.b4 h1 h2 h3).2; omega
  ·have := (h.b2 h2).2; omega
 ·have := (h.b1 h1).2; omega
theorem code_errV (k : Nat) (h : k ≤ 25) (w : World) : Calls Tryz.prog 17 #[errV k] w fun e w' => e = .returned (.int .i64 (k : Int)) ∧ Below w.heap.size w w' := code_errOf k h w
end Go.Proofs.YtgoemhcngmpfbaaGreatDoor
namespace Go.Proofs.YtgoemhcngmpfbaaGreatDoor
open Go.RowKit Go.Sort
set_option linter.unusedSimpArgs false
set_option maxHeartbeats 2000000 in
theorem failedR_zero (b : Nat) (w : World) (h : Hid (ErrAt w b 0)) :
  Calls Tryz.prog 138 #[.pointer (some ⟨b, 0, none⟩)] w fun e w' => e = .returned (.bool false) ∧ w = w' := by
 have h1 : w.cell? ⟨b, 0, none⟩ = some .nilIface := h.out.cell
 go_enter Tryz.func138, Tryz.ntmps138
 go_wp2_with fail
 go_ret
 exact ⟨rfl, rfl⟩
set_option maxHeartbeats 2000000 in
theorem failedR_pos (b k : Nat) (hk : k ≠ 0) (w : World) (h : Hid (ErrAt w b k)) :
  Calls Tryz.prog 138 #[.pointer (some ⟨b, 0, none⟩)] w fun e w' => e = .returned (.bool true) ∧ w = w' := by
 have h1 : w.cell? ⟨b, 0, none⟩ = some (.iface 74 (.int .i64 k)) := h.out.cell.trans (by rw [errV_pos hk])
 go_enter Tryz.func138, Tryz.ntmps138
 go_wp2_with fail
 go_ret
 exact ⟨rfl, rfl⟩
set_option maxHeartbeats 2000000 in
theorem keepR_run (b k j : Nat) (w : World) (h : Hid (ErrAt w b k)) :
  Calls Tryz.prog 139 #[.pointer (some ⟨b, 0, none⟩), errV j] w fun e w' => e = .returned (.tuple #[]) ∧ Ste w w' b (kept k j) := by
 by_cases hk : k = 0
 ·subst hk
  have HF := Lib.hid (failedR_zero b w h)
  have h1 : w.cell? ⟨b, 0, none⟩ = some .nilIface := h.out.cell
  have h2 := h.out.free
  have HS := Lib.hid (h.out.set j)
  have hj := errV_one j
  generalize errV j = v at *
  rcases hj with rfl | ⟨x, rfl⟩
  all_goals
   go_enter Tryz.func139, Tryz.ntmps139
   go_wp2_with fail
   refine HF.out.mono ?_
   rintro e w1 ⟨rfl, rfl⟩
   go_wp2_with fail
   go_end0
   exact ⟨rfl, HS.out⟩
 ·have HF := Lib.hid (failedR_pos b k hk w h)
  have HS : Hid (Ste w w b (kept k j)) := by rw [kept, if_neg hk]; exact Ste.refl h.out
  clear hk
  generalize errV j = v
  go_enter Tryz.func139, Tryz.ntmps139
  go_wp2_with fail
  refine HF.out.mono ?_
  rintro e w1 ⟨rfl, rfl⟩
  go_wp2_with fail
  go_end0
  exact ⟨rfl, HS.out⟩
theorem Bs.ratSte {w0 w w' : World} {S b k : Nat} {l : List Bx} (h : Bs w0 S l w) (g : Ste w w' b k) (hb : b < S) (i : Nat) {c n d : Nat} {s t : Bool} (e : l[i]? = some (.rat c s n t d)) : RatAt w' c s n t d := by
 have h1 := h.rat i e
 have h2 := h.low _ (List.mem_of_getElem? e) c rfl
 exact h1.ste g (lt_of_cell h1.num.sign) (by omega)
set_option maxRecDepth 100000 in
set_option maxHeartbeats 4000000 in
theorem doR_past (f b k : Nat) (hk : k ≠ 0) (s : Bool) (n : Nat) (t : Bool) (d : Nat) (s' : Bool) (n' : Nat) (t' : Bool) (d' : Nat) (w : World) (h : Hid (ErrAt w b k)) :
  Calls Tryz.prog 112 #[.pointer (some ⟨b, 0, none⟩), fnV f, ratV s n t d, ratV s' n' t' d'] w fun e w' => e = .returned (ratV false 0 false 0) ∧ Ste w w' b k := by
 obtain ⟨S, hS⟩ : ∃ S, w.heap.size = S := ⟨_, rfl⟩
 obtain ⟨W0, hW0⟩ : ∃ W, (((w.alloc (boxR s n t d 27)).alloc (boxR s' n' t' d' 27)).alloc (boxRZ 27)).alloc (boxRZ 27) = W := ⟨_, rfl⟩
 have I := ((((Bs.start w hS).pushRat hS s n t d 27).pushRat (k := S + 1) (by simp [hS]) s' n' t' d' 27).pushRatZ (k := S + 1 + 1) (by simp [hS]) 27).pushRatZ (k := S + 1 + 1 + 1) (by simp [hS]) 27
 rw [hW0] at I
 replace I := Lib.hid I
 have HE : Hid (ErrAt W0 b k) := h.out.below (by rw [hS]; exact I.out.bl)
 have HF := Lib.hid (failedR_pos b k hk W0 HE)
 have hh := Lib.hid h.out
 have hSS := Lib.hid hS
 clear hk h
 go_enter Tryz.func112, Tryz.ntmps112
 go_wp2_with (first | (with_reducible refine wpList_box_rat rfl (.tmp 2) rfl rfl ?_) | (with_reducible refine wpList_box_rat rfl (.tmp 3) rfl rfl ?_))
 refine HF.out.mono ?_
 rintro e w1 ⟨rfl, rfl⟩
 have H0 := Lib.hid (I.out.rat 0 rfl)
 have H1 := Lib.hid (I.out.rat 1 rfl)
 go_wp2_with (first | (with_reducible refine wpList_load_rat rfl (.tmp 9) rfl rfl H0.out ?_) | (with_reducible refine wpList_store_rat rfl (.tmp 8) (.tmp 14) rfl (b := S + 1 + 1) (s := false) (n := 0) (t := false) (d := 0) rfl rfl H1.out ?_))
 have I2 := I.out.putRat 1 rfl false 0 false 0 rfl
 exact bodyPost_ret (v := ratV false 0 false 0) (results_rat1 rfl rfl (I2.rat 1 rfl)) rfl ⟨rfl, Ste.of_below hh.out (by rw [hSS.out]; exact I2.bl)⟩
set_option maxRecDepth 100000 in
set_option maxHeartbeats 4000000 in
theorem doR_first (f b j : Nat) (s : Bool) (n : Nat) (t : Bool) (d : Nat) (s' : Bool) (n' : Nat) (t' : Bool) (d' : Nat) (Z : Bool) (N D : Nat) (w : World) (h : Hid (ErrAt w b 0))
  (hcf : Hid (EntersP Tryz.prog f)) (hop : Hid (∀ W, Calls Tryz.prog f #[ratV s n t d, ratV s' n' t' d'] W fun e w' => e = .returned (.tuple #[ratV Z N false D, errV j]) ∧ Below W.heap.size W w')) :
  Calls Tryz.prog 112 #[.pointer (some ⟨b, 0, none⟩), fnV f, ratV s n t d, ratV s' n' t' d'] w fun e w' => e = .returned (ratV Z N false D) ∧ Ste w w' b j := by
 obtain ⟨S, hS⟩ : ∃ S, w.heap.size = S := ⟨_, rfl⟩
 obtain ⟨W0, hW0⟩ : ∃ W, (((w.alloc (boxR s n t d 27)).alloc (boxR s' n' t' d' 27)).alloc (boxRZ 27)).alloc (boxRZ 27) = W := ⟨_, rfl⟩
 have I := ((((Bs.start w hS).pushRat hS s n t d 27).pushRat (k := S + 1) (by simp [hS]) s' n' t' d' 27).pushRatZ (k := S + 1 + 1) (by simp [hS]) 27).pushRatZ (k := S + 1 + 1 + 1) (by simp [hS]) 27
 rw [hW0] at I
 replace I := Lib.hid I
 have hbl := h.out.lt
 rw [hS] at hbl
 have HE : Hid (ErrAt W0 b 0) := h.out.below (by rw [hS]; exact I.out.bl)
 have HF := Lib.hid (failedR_zero b W0 HE)
 have hSS := Lib.hid hS
 have hen : ∀ (args : Array Value) (w : World), (callFunc f args).run Tryz.prog w = .ok (.enter f args) w := hcf.out
 have HK := Lib.hid (fun W h => keepR_run b 0 j W h)
 clear h
 go_enter Tryz.func112, Tryz.ntmps112
 go_wp2_with (first | (with_reducible refine wpList_box_rat rfl (.tmp 2) rfl rfl ?_) | (with_reducible refine wpList_box_rat rfl (.tmp 3) rfl rfl ?_))
 refine HF.out.mono ?_
 rintro e w1 ⟨rfl, rfl⟩
 have H0 := Lib.hid (I.out.rat 3 rfl)
 have H1 := Lib.hid (I.out.rat 2 rfl)
 go_wp2_with (first | (with_reducible refine wpList_load_rat rfl (.tmp 6) rfl rfl H0.out ?_) | (with_reducible refine wpList_load_rat rfl (.tmp 7) rfl rfl H1.out ?_))
 refine (hop.out _).mono ?_
 rintro e w1 ⟨rfl, hw⟩
 replace HE := Lib.hid (HE.out.below hw)
 replace I := Lib.hid (I.out.below hw)
 clear hw H0 H1 HF hW0 hop
 obtain ⟨B, hB⟩ : ∃ K, w1.heap.size = K := ⟨_, rfl⟩
 obtain ⟨a, ha⟩ : ∃ W, w1.alloc (boxRZ 27) = W := ⟨_, rfl⟩
 have I2 := I.out.pushRatZ hB 27
 have HE2 := HE.out.below (below_alloc w1 (boxRZ 27))
 rw [ha] at I2 HE2
 have hbB : b < B := by have := I.out.sz; omega
 have HZ := Lib.hid (I2.rat 0 rfl)
 have I3 := Lib.hid (I2.putRat 0 rfl Z N false D rfl)
 have HE3 : Hid (ErrAt (st18 a B Z N false D) b 0) := HE2.but1 (st18_but a B Z N false D) (by omega)
 clear I2 I HE HE2
 go_upto_region 5 with (with_reducible refine wpList_store_rat rfl (.tmp 10) (.tmp 20) rfl (b := B) (s := Z) (n := N) (t := false) (d := D) rfl rfl HZ.out ?_)
 clear ha HZ hB
 generalize st18 a B Z N false D = x at *
 have HKx := Lib.hid (HK.out x HE3)
 clear HK
 go_wp2_with fail
 refine HKx.out.mono ?_
 rintro e y ⟨rfl, hst⟩
 rw [kept_nil] at hst
 have H0 := Lib.hid (I3.out.ratSte hst hbl 0 rfl)
 have H1 := Lib.hid (I3.out.ratSte hst hbl 2 rfl)
 have HS3 : Hid (Ste w y b j) := Ste.below_trans (by rw [hSS.out]; exact I3.out.bl) hst
 clear hst HKx I3 HE3
 go_wp2_with (first | (with_reducible refine wpList_load_rat rfl (.tmp 10) rfl rfl H0.out ?_) | (with_reducible refine wpList_store_rat rfl (.tmp 8) (.tmp 25) rfl (b := S + 1 + 1) (s := Z) (n := N) (t := false) (d := D) rfl rfl H1.out ?_))
 exact bodyPost_ret (v := ratV Z N false D) (results_rat1 rfl rfl (st18_at H1.out)) rfl ⟨rfl, HS3.out.but (st18_but y (S + 1 + 1) Z N false D) (by rw [hSS.out]; omega) (by rw [hSS.out]; exact hbl)⟩
def scK (k : Nat) (base exp : Int) : Nat := if k ≠ 0 then k else if base ≠ 2 ∧ base ≠ 10 then 1 else if 1000 < exp ∨ exp < -1000 then 9 else 0
set_option maxRecDepth 100000 in
set_option maxHeartbeats 4000000 in
theorem checkScale_run (s : Bool) (n : Nat) (t : Bool) (d : Nat) (base exp : Int) (K : Nat) (w : World) (hn : Hid (Fits n)) (hd : Hid (Fits d)) (hK : Hid (scK (chk s n t d) base exp = K)) :
  Calls Tryz.prog 109 #[ratV s n t d, .int .i64 base, .int .i64 exp] w fun e w' => e = .returned (errV K) ∧ Below w.heap.size w w' := by
 obtain ⟨S, hS⟩ : ∃ S, w.heap.size = S := ⟨_, rfl⟩
 obtain ⟨W0, hW0⟩ : ∃ W, w.alloc (boxR s n t d 27) = W := ⟨_, rfl⟩
 have I := (Bs.start w hS).pushRat hS s n t d 27
 rw [hW0] at I
 replace I := Lib.hid I
 have HC := Lib.hid (fun W => Check_run s n t d W hn hd)
 have hk8 := chk_le s n t d
 generalize chk s n t d = k at *
 rw [hS]
 have HRa := Lib.hid (I.out.rat 0 rfl)
 go_enter Tryz.func109, Tryz.ntmps109
 go_wp2_with (first | (with_reducible refine wpList_box_rat rfl (.tmp 0) rfl rfl ?_) | (with_reducible refine wpList_load_rat rfl (.tmp 3) rfl rfl HRa.out ?_))
 refine (HC.out _).mono ?_
 rintro e w1 ⟨rfl, hw⟩
 replace I := Lib.hid (I.out.below hw)
 clear hw HC HRa hW0
 rcases hk8 with rfl | rfl
 ·have e0 : errV 0 = .nilIface := rfl
  rw [e0]
  clear e0
  by_cases hb : base ≠ 2 ∧ base ≠ 10
  ·obtain rfl : K = 1 := by rw [← hK.out]; simp [scK, hb]
   have h2 : (base != 2) = true := by simp [hb.1]
   have h10 : (base != 10) = true := by simp [hb.2]
   go_wp2_with fail
   go_ret
   exact ⟨rfl, I.out.bl⟩
  ·have hbb : base = 2 ∨ base = 10 := by omega
   have hKx : K = if 1000 < exp ∨ exp < -1000 then 9 else 0 := by rw [← hK.out]; simp only [scK, if_neg hb]; simp
   by_cases h1 : 1000 < exp
   ·obtain rfl : K = 9 := by rw [hKx, if_pos (.inl h1)]
    rcases hbb with rfl | rfl <;>
    ·go_wp2_with fail
     go_ret
     exact ⟨rfl, I.out.bl⟩
   ·by_cases h2 : exp < -1000
    ·obtain rfl : K = 9 := by rw [hKx, if_pos (.inr h2)]
     have d1 : decide (1000 < exp) = false := decide_eq_false h1
     have d2 : decide (exp < -1000) = true := decide_eq_true h2
     clear h1 h2 hKx hK
     rcases hbb with rfl | rfl <;>
     ·go_wp2_with fail
      go_ret
      exact ⟨rfl, I.out.bl⟩
    ·obtain rfl : K = 0 := by rw [hKx, if_neg (by omega)]
     have d1 : decide (1000 < exp) = false := decide_eq_false h1
     have d2 : decide (exp < -1000) = false := decide_eq_false h2
     clear h1 h2 hKx hK
     rcases hbb with rfl | rfl <;>
     ·go_wp2_with fail
      go_ret
      exact ⟨rfl, I.out.bl⟩
 ·obtain rfl : K = 8 := by rw [← hK.out]; simp [scK]
  have e8 : errV 8 = .iface 74 (.int .i64 (8 : Nat)) := rfl
  rw [e8]
  go_wp2_with fail
  go_ret
  exact ⟨rfl, I.out.bl⟩
end Go.Proofs.YtgoemhcngmpfbaaGreatDoor
