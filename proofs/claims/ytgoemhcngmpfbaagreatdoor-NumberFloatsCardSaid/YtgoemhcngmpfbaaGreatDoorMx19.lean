/-
  The document's greatest common divisor.
-/
import Derived.Test.YtgoemhcngmpfbaaGreatDoorMx18
namespace Go.Proofs.YtgoemhcngmpfbaaGreatDoor
open Go.RowKit Go.Sort
set_option linter.unusedSimpArgs false
theorem rg_three {P : Program} {ops : Array Oper} {Q : Exit → Act → World → Prop} {md : Region.Mode} {S : World → Prop} (i j k : Nat) {fuel : Nat} {listed : Array Bool} {a : Act} {w : World} (hr : Region.ready md ops listed = [i, j, k]) (h : RStep P md ops Q S fuel listed i a w) (g : RStep P md ops Q S fuel listed j a w) (f : RStep P md ops Q S fuel listed k a w) : wpAnyH P md ops Q S (fuel + 1) listed a w :=
 wpAnyH_all hr (by simp) fun x hx => by
  rcases List.mem_cons.1 hx with rfl | hx
  ·exact h
  ·rcases List.mem_cons.1 hx with rfl | hx
   ·exact g
   ·obtain rfl : x = k := by simpa using hx
    exact f
theorem Good.sto {w : World} {s u t : Bool} {A B C : Option Addr} {L M K b n ca cb cc : Nat} (h : Good w s A L ca n) (hb : NumAt w b u B M cb) : Good (st2 w b t C K cc) s A L ca n := by
 refine ⟨?_, h.len, h.cap, h.sg⟩
 have h1 := h.digs.set hb.c0 (fun x e => by cases e) (.bool t)
 exact h1.set ((World.cell?_setCell_other _ _ _ _ (by simp)).trans hb.c1) (fun x e => by cases e) _
theorem Good.drew {w : World} {s : Bool} {A : Option Addr} {L ca n : Nat} (h : Good w s A L ca n) : Good w.drew s A L ca n := ⟨h.digs.drew, h.len, h.cap, h.sg⟩
structure GcI (w W : World) (S : Nat) (s : Bool) (A : Option Addr) (L ca : Nat) (t : Bool) (B : Option Addr) (M cb n m : Nat) : Prop where
 pa : NumAt W S s A L ca
 pb : NumAt W (S + 1) t B M cb
 pz : NumAt W (S + 1 + 1) false none 0 0
 ga : Good W false A L ca n
 gb : Good W false B M cb m
 bl : Below S w W
section
variable {w W W' : World} {S L ca M cb n m : Nat} {s t : Bool} {A B : Option Addr}
theorem GcI.sz (h : GcI w W S s A L ca t B M cb n m) : S + 1 + 1 + 1 ≤ W.heap.size := h.pz.lt
theorem GcI.below (h : GcI w W S s A L ca t B M cb n m) (hw : Below W.heap.size W W') : GcI w W' S s A L ca t B M cb n m :=
 ⟨h.pa.below hw, h.pb.below hw, h.pz.below hw, h.ga.below hw, h.gb.below hw, h.bl.trans (hw.mono (by have := h.sz; omega))⟩
theorem GcI.alloc (h : GcI w W S s A L ca t B M cb n m) (o : Obj) : GcI w (W.alloc o) S s A L ca t B M cb n m := h.below (below_alloc W o)
theorem GcI.drew (h : GcI w W S s A L ca t B M cb n m) : GcI w W.drew S s A L ca t B M cb n m := ⟨h.pa.drew, h.pb.drew, h.pz.drew, h.ga.drew, h.gb.drew, h.bl.drew⟩
theorem GcI.sto (h : GcI w W S s A L ca t B M cb n m) {b l c : Nat} {u : Bool} {C : Option Addr} (hb : NumAt W b u C l c) (hS : S + 1 + 1 + 1 ≤ b) (v : Bool) (D : Option Addr) (k d : Nat) : GcI w (st2 W b v D k d) S s A L ca t B M cb n m :=
 ⟨h.pa.but (st2_but W b v D k d) (by omega), h.pb.but (st2_but W b v D k d) (by omega), h.pz.but (st2_but W b v D k d) (by omega), h.ga.sto hb, h.gb.sto hb, (st2_but W b v D k d).2.1 S w (by omega) h.bl⟩
end
structure GcO (w W : World) (S X Y : Nat) (A : Option Addr) (L ca n : Nat) (B : Option Addr) (M cb m : Nat) : Prop where
 px : NumAt W X false A L ca
 py : NumAt W Y false B M cb
 gx : Good W false A L ca n
 gy : Good W false B M cb m
 pz : NumAt W (S + 1 + 1) false none 0 0
 bl : Below S w W
 hX : S + 1 + 1 + 1 ≤ X
 hY : S + 1 + 1 + 1 ≤ Y
 hne : X ≠ Y
section
variable {w W W' : World} {S X Y L ca M cb n m : Nat} {A B : Option Addr}
theorem GcO.sz (h : GcO w W S X Y A L ca n B M cb m) : S + 1 + 1 + 1 ≤ W.heap.size := h.pz.lt
theorem GcO.below (h : GcO w W S X Y A L ca n B M cb m) (hw : Below W.heap.size W W') : GcO w W' S X Y A L ca n B M cb m :=
 ⟨h.px.below hw, h.py.below hw, h.gx.below hw, h.gy.below hw, h.pz.below hw, h.bl.trans (hw.mono (by have := h.sz; omega)), h.hX, h.hY, h.hne⟩
theorem GcO.alloc (h : GcO w W S X Y A L ca n B M cb m) (o : Obj) : GcO w (W.alloc o) S X Y A L ca n B M cb m := h.below (below_alloc W o)
theorem GcO.drew (h : GcO w W S X Y A L ca n B M cb m) : GcO w W.drew S X Y A L ca n B M cb m := ⟨h.px.drew, h.py.drew, h.gx.drew, h.gy.drew, h.pz.drew, h.bl.drew, h.hX, h.hY, h.hne⟩
theorem GcO.sto (h : GcO w W S X Y A L ca n B M cb m) {b l c : Nat} {u : Bool} {C : Option Addr} (hb : NumAt W b u C l c) (hS : S + 1 + 1 + 1 ≤ b) (h1 : X ≠ b) (h2 : Y ≠ b) (v : Bool) (D : Option Addr) (k d : Nat) : GcO w (st2 W b v D k d) S X Y A L ca n B M cb m :=
 ⟨h.px.but (st2_but W b v D k d) h1, h.py.but (st2_but W b v D k d) h2, h.gx.sto hb, h.gy.sto hb, h.pz.but (st2_but W b v D k d) (by omega), (st2_but W b v D k d).2.1 S w (by omega) h.bl, h.hX, h.hY, h.hne⟩
theorem GcO.putX (h : GcO w W S X Y A L ca n B M cb m) {D : Option Addr} {k d r : Nat} (g : Good W false D k d r) : GcO w (st2 W X false D k d) S X Y D k d r B M cb m :=
 ⟨st2_at h.px, h.py.but (st2_but W X false D k d) (fun e => h.hne e.symm), g.sto h.px, h.gy.sto h.px, h.pz.but (st2_but W X false D k d) (by have := h.hX; omega), (st2_but W X false D k d).2.1 S w (by have := h.hX; omega) h.bl, h.hX, h.hY, h.hne⟩
theorem GcO.putY (h : GcO w W S X Y A L ca n B M cb m) {D : Option Addr} {k d r : Nat} (g : Good W false D k d r) : GcO w (st2 W Y false D k d) S X Y A L ca n D k d r :=
 ⟨h.px.but (st2_but W Y false D k d) h.hne, st2_at h.py, h.gx.sto h.py, g.sto h.py, h.pz.but (st2_but W Y false D k d) (by have := h.hY; omega), (st2_but W Y false D k d).2.1 S w (by have := h.hY; omega) h.bl, h.hX, h.hY, h.hne⟩
end
def gcM (x y : Nat) : Nat := 2 * (x + y) + if x < y then 1 else 0
theorem gcM_swap {x y : Nat} (h : x < y) : gcM y x < gcM x y := by
 unfold gcM
 rw [if_pos h, if_neg (by omega)]
 omega
theorem gcM_step {x y v : Nat} (h0 : 0 < v) (h1 : v ≤ x) : gcM y (x - v) < gcM x y := by
 unfold gcM
 split <;> split <;> omega
theorem bits_le (x : Nat) : nlen 2 x ≤ 16 * nl x := by
 refine nlen_le_of_lt (by decide) ?_
 rw [← pow_bits]
 exact lt_nl x
theorem addN_ft {x v : Nat} (h : v ≤ x) : addN false x true v = x - v := by
 unfold addN
 rw [if_neg (by decide), if_neg (by omega)]
theorem addS_ft {x v : Nat} (h : v ≤ x) : addS false x true v = false := by
 unfold addS
 rw [if_neg (by decide), if_neg (by omega)]
set_option maxRecDepth 100000 in
set_option maxHeartbeats 8000000 in
theorem Gcd_run7 (s : Bool) (A : Option Addr) (L ca n : Nat) (t : Bool) (B : Option Addr) (M cb m : Nat) (r R : Nat) (w : World) (ha : Hid (Good w s A L ca n)) (hb : Hid (Good w t B M cb m)) (hs : L + M ≤ 1000)
  (hr : Hid (Nat.gcd n m = r)) (hR : Hid (nl r = R)) :
  Calls Tryz.prog 46 #[.agg #[.bool s, .slice A L ca], .agg #[.bool t, .slice B M cb]] w fun e w' => ∃ C cc, e = .returned (.agg #[.bool false, .slice C R cc]) ∧ Good w' false C R cc r ∧ Below w.heap.size w w' := by
 obtain ⟨S, hS⟩ : ∃ S, w.heap.size = S := ⟨_, rfl⟩
 obtain ⟨W0, hW0⟩ : ∃ W0, ((w.alloc (boxN s A L ca)).alloc (boxN t B M cb)).alloc boxNZ = W0 := ⟨_, rfl⟩
 have H0 := three_nums w s A L ca t B M cb S hS
 rw [hW0] at H0
 have HI : Hid (GcI w W0 S s A L ca t B M cb n m) := ⟨H0.1, H0.2.1, H0.2.2.1, ha.out.abs.keep H0.2.2.2.1 (Nat.le_of_eq hS), hb.out.abs.keep H0.2.2.2.1 (Nat.le_of_eq hS), H0.2.2.2.1⟩
 clear H0
 rw [hS]
 have HT1 : Hid (∀ W, GcI w W S s A L ca t B M cb n m → Calls Tryz.prog 76 #[.bool false, .slice A L ca] W fun e w' => e = .returned (.agg #[.bool false, .slice A L ca]) ∧ Below W.heap.size W w') := fun W h =>
  trim_run false false A L ca n L W h.ga.digs (show _ < _ by rw [← h.ga.len]; exact lt_nl n) h.ga.cap (by show _ = _; simp [sgn]) h.ga.len
 have HT2 : Hid (∀ W, GcI w W S s A L ca t B M cb n m → Calls Tryz.prog 76 #[.bool false, .slice B M cb] W fun e w' => e = .returned (.agg #[.bool false, .slice B M cb]) ∧ Below W.heap.size W w') := fun W h =>
  trim_run false false B M cb m M W h.gb.digs (show _ < _ by rw [← h.gb.len]; exact lt_nl m) h.gb.cap (by show _ = _; simp [sgn]) h.gb.len
 have hL : L ≤ 1000 := by omega
 have hM : M ≤ 1000 := by omega
 clear ha hb hs
 go_enter Tryz.func46, Tryz.ntmps46
 go_upto_region 1 with fail
 clear hW0
 go_cut [5, 6] (fun s5 s6 wx => ∃ X Y, s5 = .pointer (some ⟨X, 0, none⟩) ∧ s6 = .pointer (some ⟨Y, 0, none⟩) ∧ GcO w wx S X Y A L ca n B M cb m)
 case first =>
  have HI0 := Lib.hid HI.out.drew
  clear HI
  refine rg_begin (fun V => GcI w V S s A L ca t B M cb n m) (by kernel_rfl) HI0.out (fun hS => ?_)
  refine rg_take 0 (.pointer (some ⟨S, 1, none⟩)) rfl (by kernel_rfl) (by kernel_rfl) (by kernel_rfl) (fun _ _ _ h => h) rfl (fun w _ => ?_) hS ?_
  ·go_simp
  simp only [zA, zB, zC, Act.put, zD, zE, zF]
  refine rg_take 1 (.slice A L ca) rfl (by kernel_rfl) (by kernel_rfl) (by kernel_rfl) (fun _ _ _ h => h) rfl (fun w hSw => ?_) hS ?_
  ·have e0 := hSw.pa.c1
   go_simp
  simp only [zA, zB, zC, Act.put, zD, zE, zF]
  refine rg_take 3 (.pointer (some ⟨S + 1, 1, none⟩)) rfl (by kernel_rfl) (by kernel_rfl) (by kernel_rfl) (fun _ _ _ h => h) rfl (fun w _ => ?_) hS ?_
  ·go_simp
  simp only [zA, zB, zC, Act.put, zD, zE, zF]
  refine rg_take 4 (.slice B M cb) rfl (by kernel_rfl) (by kernel_rfl) (by kernel_rfl) (fun _ _ _ h => h) rfl (fun w hSw => ?_) hS ?_
  ·have e0 := hSw.pb.c1
   go_simp
  simp only [zA, zB, zC, Act.put, zD, zE, zF]
  clear HI0
  generalize W0.drew = V0 at *
  refine rg_three 2 6 7 (by kernel_rfl) ?_ ?_ ?_
  ·refine rs_of rfl rfl (wp_call rfl enters_trim rfl (HT1.out _ hS) (fun V1 hV => ⟨hS.below hV, ?_⟩))
   replace hS := hS.below hV
   clear hV
   simp only [zA, zB, zC, Act.put, zD, zE, zF]
   refine rg_three 5 6 7 (by kernel_rfl) ?_ ?_ ?_
   ·refine rs_of rfl rfl (wp_call rfl enters_trim rfl (HT2.out _ hS) (fun V2 hV => ⟨hS.below hV, ?_⟩))
    replace hS := hS.below hV
    clear hV
    simp only [zA, zB, zC, Act.put, zD, zE, zF]
    refine rg_two 6 7 (by kernel_rfl) ?_ ?_
    ·refine rs_of rfl rfl (wp_value (alloc_num rfl) ⟨hS.alloc _, ?_⟩)
     have hZ6 := NumAt.new V2 false none 0 0
     have hg6 := hS.sz
     replace hS := hS.alloc boxNZ
     simp only [zA, zB, zC, Act.put, zD, zE, zF]
     generalize V2.alloc boxNZ = V3 at *
     generalize V2.heap.size = L6 at *
     refine rg_one 7 (by kernel_rfl) ?_
     refine rs_of rfl rfl (wp_value (alloc_num rfl) ⟨hS.alloc _, ?_⟩)
     have hZ7 := NumAt.new V3 false none 0 0
     have hg7 := hS.sz
     have hne := hZ6.lt
     replace hZ6 := hZ6.alloc boxNZ
     replace hS := hS.alloc boxNZ
     simp only [zA, zB, zC, Act.put, zD, zE, zF]
     generalize V3.alloc boxNZ = V4 at *
     generalize V3.heap.size = L7 at *
     refine rg_one 8 (by kernel_rfl) ?_
     refine rs_of rfl rfl (stores_num (.tmp 5) (.tmp 11) rfl (t := false) (B := A) (M := L) (cb := ca) rfl rfl hZ6 ⟨hS.sto hZ6 hg6 false A L ca, ?_⟩)
     have hA6 := st2_at (t := false) (B := A) (M := L) (cb := ca) hZ6
     replace hZ7 := hZ7.but (st2_but V4 L6 false A L ca) (by omega)
     replace hS := hS.sto hZ6 hg6 false A L ca
     clear hZ6
     simp only [zA, zB, zC, Act.put, zD, zE, zF]
     generalize st2 V4 L6 false A L ca = VA at *
     refine rg_one 9 (by kernel_rfl) ?_
     have hE : GcO w (st2 VA L7 false B M cb) S L6 L7 A L ca n B M cb m := ⟨hA6.but (st2_but VA L7 false B M cb) (by omega), st2_at hZ7, hS.ga.sto hZ7, hS.gb.sto hZ7, hS.pz.but (st2_but VA L7 false B M cb) (by omega), (st2_but VA L7 false B M cb).2.1 S w (by omega) hS.bl, hg6, hg7, by omega⟩
     refine rs_of rfl rfl (stores_num (.tmp 6) (.tmp 14) rfl (t := false) (B := B) (M := M) (cb := cb) rfl rfl hZ7 ⟨hS.sto hZ7 hg7 false B M cb, ?_⟩)
     clear hS hZ7 hA6
     simp only [zA, zB, zC, Act.put, zD, zE, zF]
     generalize st2 VA L7 false B M cb = VB at *
     refine wpAnyH_done (by kernel_rfl) ?_ _
     go_wp2_with fail
     go_meet
     exact ⟨_, _, rfl, rfl, hE⟩
    ·refine rs_of rfl rfl (wp_value (alloc_num rfl) ⟨hS.alloc _, ?_⟩)
     have hZ7 := NumAt.new V2 false none 0 0
     have hg7 := hS.sz
     replace hS := hS.alloc boxNZ
     simp only [zA, zB, zC, Act.put, zD, zE, zF]
     generalize V2.alloc boxNZ = V5 at *
     generalize V2.heap.size = L7 at *
     refine rg_one 6 (by kernel_rfl) ?_
     refine rs_of rfl rfl (wp_value (alloc_num rfl) ⟨hS.alloc _, ?_⟩)
     have hZ6 := NumAt.new V5 false none 0 0
     have hg6 := hS.sz
     have hne := hZ7.lt
     replace hZ7 := hZ7.alloc boxNZ
     replace hS := hS.alloc boxNZ
     simp only [zA, zB, zC, Act.put, zD, zE, zF]
     generalize V5.alloc boxNZ = V6 at *
     generalize V5.heap.size = L6 at *
     refine rg_one 8 (by kernel_rfl) ?_
     refine rs_of rfl rfl (stores_num (.tmp 5) (.tmp 11) rfl (t := false) (B := A) (M := L) (cb := ca) rfl rfl hZ6 ⟨hS.sto hZ6 hg6 false A L ca, ?_⟩)
     have hA6 := st2_at (t := false) (B := A) (M := L) (cb := ca) hZ6
     replace hZ7 := hZ7.but (st2_but V6 L6 false A L ca) (by omega)
     replace hS := hS.sto hZ6 hg6 false A L ca
     clear hZ6
     simp only [zA, zB, zC, Act.put, zD, zE, zF]
     generalize st2 V6 L6 false A L ca = VA at *
     refine rg_one 9 (by kernel_rfl) ?_
     have hE : GcO w (st2 VA L7 false B M cb) S L6 L7 A L ca n B M cb m := ⟨hA6.but (st2_but VA L7 false B M cb) (by omega), st2_at hZ7, hS.ga.sto hZ7, hS.gb.sto hZ7, hS.pz.but (st2_but VA L7 false B M cb) (by omega), (st2_but VA L7 false B M cb).2.1 S w (by omega) hS.bl, hg6, hg7, by omega⟩
     refine rs_of rfl rfl (stores_num (.tmp 6) (.tmp 14) rfl (t := false) (B := B) (M := M) (cb := cb) rfl rfl hZ7 ⟨hS.sto hZ7 hg7 false B M cb, ?_⟩)
     clear hS hZ7 hA6
     simp only [zA, zB, zC, Act.put, zD, zE, zF]
     generalize st2 VA L7 false B M cb = VB at *
     refine wpAnyH_done (by kernel_rfl) ?_ _
     go_wp2_with fail
     go_meet
     exact ⟨_, _, rfl, rfl, hE⟩
   ·refine rs_of rfl rfl (wp_value (alloc_num rfl) ⟨hS.alloc _, ?_⟩)
    have hZ6 := NumAt.new V1 false none 0 0
    have hg6 := hS.sz
    replace hS := hS.alloc boxNZ
    simp only [zA, zB, zC, Act.put, zD, zE, zF]
    generalize V1.alloc boxNZ = V7 at *
    generalize V1.heap.size = L6 at *
    refine rg_two 5 7 (by kernel_rfl) ?_ ?_
    ·refine rs_of rfl rfl (wp_call rfl enters_trim rfl (HT2.out _ hS) (fun V8 hV => ⟨hS.below hV, ?_⟩))
     replace hS := hS.below hV
     replace hZ6 := hZ6.below hV
     clear hV
     simp only [zA, zB, zC, Act.put, zD, zE, zF]
     refine rg_one 7 (by kernel_rfl) ?_
     refine rs_of rfl rfl (wp_value (alloc_num rfl) ⟨hS.alloc _, ?_⟩)
     have hZ7 := NumAt.new V8 false none 0 0
     have hg7 := hS.sz
     have hne := hZ6.lt
     replace hZ6 := hZ6.alloc boxNZ
     replace hS := hS.alloc boxNZ
     simp only [zA, zB, zC, Act.put, zD, zE, zF]
     generalize V8.alloc boxNZ = V9 at *
     generalize V8.heap.size = L7 at *
     refine rg_one 8 (by kernel_rfl) ?_
     refine rs_of rfl rfl (stores_num (.tmp 5) (.tmp 11) rfl (t := false) (B := A) (M := L) (cb := ca) rfl rfl hZ6 ⟨hS.sto hZ6 hg6 false A L ca, ?_⟩)
     have hA6 := st2_at (t := false) (B := A) (M := L) (cb := ca) hZ6
     replace hZ7 := hZ7.but (st2_but V9 L6 false A L ca) (by omega)
     replace hS := hS.sto hZ6 hg6 false A L ca
     clear hZ6
     simp only [zA, zB, zC, Act.put, zD, zE, zF]
     generalize st2 V9 L6 false A L ca = VA at *
     refine rg_one 9 (by kernel_rfl) ?_
     have hE : GcO w (st2 VA L7 false B M cb) S L6 L7 A L ca n B M cb m := ⟨hA6.but (st2_but VA L7 false B M cb) (by omega), st2_at hZ7, hS.ga.sto hZ7, hS.gb.sto hZ7, hS.pz.but (st2_but VA L7 false B M cb) (by omega), (st2_but VA L7 false B M cb).2.1 S w (by omega) hS.bl, hg6, hg7, by omega⟩
     refine rs_of rfl rfl (stores_num (.tmp 6) (.tmp 14) rfl (t := false) (B := B) (M := M) (cb := cb) rfl rfl hZ7 ⟨hS.sto hZ7 hg7 false B M cb, ?_⟩)
     clear hS hZ7 hA6
     simp only [zA, zB, zC, Act.put, zD, zE, zF]
     generalize st2 VA L7 false B M cb = VB at *
     refine wpAnyH_done (by kernel_rfl) ?_ _
     go_wp2_with fail
     go_meet
     exact ⟨_, _, rfl, rfl, hE⟩
    ·refine rs_of rfl rfl (wp_value (alloc_num rfl) ⟨hS.alloc _, ?_⟩)
     have hZ7 := NumAt.new V7 false none 0 0
     have hg7 := hS.sz
     have hne := hZ6.lt
     replace hZ6 := hZ6.alloc boxNZ
     replace hS := hS.alloc boxNZ
     simp only [zA, zB, zC, Act.put, zD, zE, zF]
     generalize V7.alloc boxNZ = V10 at *
     generalize V7.heap.size = L7 at *
     refine rg_one 5 (by kernel_rfl) ?_
     refine rs_of rfl rfl (wp_call rfl enters_trim rfl (HT2.out _ hS) (fun V11 hV => ⟨hS.below hV, ?_⟩))
     replace hS := hS.below hV
     replace hZ6 := hZ6.below hV
     replace hZ7 := hZ7.below hV
     clear hV
     simp only [zA, zB, zC, Act.put, zD, zE, zF]
     refine rg_one 8 (by kernel_rfl) ?_
     refine rs_of rfl rfl (stores_num (.tmp 5) (.tmp 11) rfl (t := false) (B := A) (M := L) (cb := ca) rfl rfl hZ6 ⟨hS.sto hZ6 hg6 false A L ca, ?_⟩)
     have hA6 := st2_at (t := false) (B := A) (M := L) (cb := ca) hZ6
     replace hZ7 := hZ7.but (st2_but V11 L6 false A L ca) (by omega)
     replace hS := hS.sto hZ6 hg6 false A L ca
     clear hZ6
     simp only [zA, zB, zC, Act.put, zD, zE, zF]
     generalize st2 V11 L6 false A L ca = VA at *
     refine rg_one 9 (by kernel_rfl) ?_
     have hE : GcO w (st2 VA L7 false B M cb) S L6 L7 A L ca n B M cb m := ⟨hA6.but (st2_but VA L7 false B M cb) (by omega), st2_at hZ7, hS.ga.sto hZ7, hS.gb.sto hZ7, hS.pz.but (st2_but VA L7 false B M cb) (by omega), (st2_but VA L7 false B M cb).2.1 S w (by omega) hS.bl, hg6, hg7, by omega⟩
     refine rs_of rfl rfl (stores_num (.tmp 6) (.tmp 14) rfl (t := false) (B := B) (M := M) (cb := cb) rfl rfl hZ7 ⟨hS.sto hZ7 hg7 false B M cb, ?_⟩)
     clear hS hZ7 hA6
     simp only [zA, zB, zC, Act.put, zD, zE, zF]
     generalize st2 VA L7 false B M cb = VB at *
     refine wpAnyH_done (by kernel_rfl) ?_ _
     go_wp2_with fail
     go_meet
     exact ⟨_, _, rfl, rfl, hE⟩
   ·refine rs_of rfl rfl (wp_value (alloc_num rfl) ⟨hS.alloc _, ?_⟩)
    have hZ7 := NumAt.new V1 false none 0 0
    have hg7 := hS.sz
    replace hS := hS.alloc boxNZ
    simp only [zA, zB, zC, Act.put, zD, zE, zF]
    generalize V1.alloc boxNZ = V12 at *
    generalize V1.heap.size = L7 at *
    refine rg_two 5 6 (by kernel_rfl) ?_ ?_
    ·refine rs_of rfl rfl (wp_call rfl enters_trim rfl (HT2.out _ hS) (fun V13 hV => ⟨hS.below hV, ?_⟩))
     replace hS := hS.below hV
     replace hZ7 := hZ7.below hV
     clear hV
     simp only [zA, zB, zC, Act.put, zD, zE, zF]
     refine rg_one 6 (by kernel_rfl) ?_
     refine rs_of rfl rfl (wp_value (alloc_num rfl) ⟨hS.alloc _, ?_⟩)
     have hZ6 := NumAt.new V13 false none 0 0
     have hg6 := hS.sz
     have hne := hZ7.lt
     replace hZ7 := hZ7.alloc boxNZ
     replace hS := hS.alloc boxNZ
     simp only [zA, zB, zC, Act.put, zD, zE, zF]
     generalize V13.alloc boxNZ = V14 at *
     generalize V13.heap.size = L6 at *
     refine rg_one 8 (by kernel_rfl) ?_
     refine rs_of rfl rfl (stores_num (.tmp 5) (.tmp 11) rfl (t := false) (B := A) (M := L) (cb := ca) rfl rfl hZ6 ⟨hS.sto hZ6 hg6 false A L ca, ?_⟩)
     have hA6 := st2_at (t := false) (B := A) (M := L) (cb := ca) hZ6
     replace hZ7 := hZ7.but (st2_but V14 L6 false A L ca) (by omega)
     replace hS := hS.sto hZ6 hg6 false A L ca
     clear hZ6
     simp only [zA, zB, zC, Act.put, zD, zE, zF]
     generalize st2 V14 L6 false A L ca = VA at *
     refine rg_one 9 (by kernel_rfl) ?_
     have hE : GcO w (st2 VA L7 false B M cb) S L6 L7 A L ca n B M cb m := ⟨hA6.but (st2_but VA L7 false B M cb) (by omega), st2_at hZ7, hS.ga.sto hZ7, hS.gb.sto hZ7, hS.pz.but (st2_but VA L7 false B M cb) (by omega), (st2_but VA L7 false B M cb).2.1 S w (by omega) hS.bl, hg6, hg7, by omega⟩
     refine rs_of rfl rfl (stores_num (.tmp 6) (.tmp 14) rfl (t := false) (B := B) (M := M) (cb := cb) rfl rfl hZ7 ⟨hS.sto hZ7 hg7 false B M cb, ?_⟩)
     clear hS hZ7 hA6
     simp only [zA, zB, zC, Act.put, zD, zE, zF]
     generalize st2 VA L7 false B M cb = VB at *
     refine wpAnyH_done (by kernel_rfl) ?_ _
     go_wp2_with fail
     go_meet
     exact ⟨_, _, rfl, rfl, hE⟩
    ·refine rs_of rfl rfl (wp_value (alloc_num rfl) ⟨hS.alloc _, ?_⟩)
     have hZ6 := NumAt.new V12 false none 0 0
     have hg6 := hS.sz
     have hne := hZ7.lt
     replace hZ7 := hZ7.alloc boxNZ
     replace hS := hS.alloc boxNZ
     simp only [zA, zB, zC, Act.put, zD, zE, zF]
     generalize V12.alloc boxNZ = V15 at *
     generalize V12.heap.size = L6 at *
     refine rg_one 5 (by kernel_rfl) ?_
     refine rs_of rfl rfl (wp_call rfl enters_trim rfl (HT2.out _ hS) (fun V16 hV => ⟨hS.below hV, ?_⟩))
     replace hS := hS.below hV
     replace hZ6 := hZ6.below hV
     replace hZ7 := hZ7.below hV
     clear hV
     simp only [zA, zB, zC, Act.put, zD, zE, zF]
     refine rg_one 8 (by kernel_rfl) ?_
     refine rs_of rfl rfl (stores_num (.tmp 5) (.tmp 11) rfl (t := false) (B := A) (M := L) (cb := ca) rfl rfl hZ6 ⟨hS.sto hZ6 hg6 false A L ca, ?_⟩)
     have hA6 := st2_at (t := false) (B := A) (M := L) (cb := ca) hZ6
     replace hZ7 := hZ7.but (st2_but V16 L6 false A L ca) (by omega)
     replace hS := hS.sto hZ6 hg6 false A L ca
     clear hZ6
     simp only [zA, zB, zC, Act.put, zD, zE, zF]
     generalize st2 V16 L6 false A L ca = VA at *
     refine rg_one 9 (by kernel_rfl) ?_
     have hE : GcO w (st2 VA L7 false B M cb) S L6 L7 A L ca n B M cb m := ⟨hA6.but (st2_but VA L7 false B M cb) (by omega), st2_at hZ7, hS.ga.sto hZ7, hS.gb.sto hZ7, hS.pz.but (st2_but VA L7 false B M cb) (by omega), (st2_but VA L7 false B M cb).2.1 S w (by omega) hS.bl, hg6, hg7, by omega⟩
     refine rs_of rfl rfl (stores_num (.tmp 6) (.tmp 14) rfl (t := false) (B := B) (M := M) (cb := cb) rfl rfl hZ7 ⟨hS.sto hZ7 hg7 false B M cb, ?_⟩)
     clear hS hZ7 hA6
     simp only [zA, zB, zC, Act.put, zD, zE, zF]
     generalize st2 VA L7 false B M cb = VB at *
     refine wpAnyH_done (by kernel_rfl) ?_ _
     go_wp2_with fail
     go_meet
     exact ⟨_, _, rfl, rfl, hE⟩
  ·refine rs_of rfl rfl (wp_value (alloc_num rfl) ⟨hS.alloc _, ?_⟩)
   have hZ6 := NumAt.new V0 false none 0 0
   have hg6 := hS.sz
   replace hS := hS.alloc boxNZ
   simp only [zA, zB, zC, Act.put, zD, zE, zF]
   generalize V0.alloc boxNZ = V17 at *
   generalize V0.heap.size = L6 at *
   refine rg_two 2 7 (by kernel_rfl) ?_ ?_
   ·refine rs_of rfl rfl (wp_call rfl enters_trim rfl (HT1.out _ hS) (fun V18 hV => ⟨hS.below hV, ?_⟩))
    replace hS := hS.below hV
    replace hZ6 := hZ6.below hV
    clear hV
    simp only [zA, zB, zC, Act.put, zD, zE, zF]
    refine rg_two 5 7 (by kernel_rfl) ?_ ?_
    ·refine rs_of rfl rfl (wp_call rfl enters_trim rfl (HT2.out _ hS) (fun V19 hV => ⟨hS.below hV, ?_⟩))
     replace hS := hS.below hV
     replace hZ6 := hZ6.below hV
     clear hV
     simp only [zA, zB, zC, Act.put, zD, zE, zF]
     refine rg_one 7 (by kernel_rfl) ?_
     refine rs_of rfl rfl (wp_value (alloc_num rfl) ⟨hS.alloc _, ?_⟩)
     have hZ7 := NumAt.new V19 false none 0 0
     have hg7 := hS.sz
     have hne := hZ6.lt
     replace hZ6 := hZ6.alloc boxNZ
     replace hS := hS.alloc boxNZ
     simp only [zA, zB, zC, Act.put, zD, zE, zF]
     generalize V19.alloc boxNZ = V20 at *
     generalize V19.heap.size = L7 at *
     refine rg_one 8 (by kernel_rfl) ?_
     refine rs_of rfl rfl (stores_num (.tmp 5) (.tmp 11) rfl (t := false) (B := A) (M := L) (cb := ca) rfl rfl hZ6 ⟨hS.sto hZ6 hg6 false A L ca, ?_⟩)
     have hA6 := st2_at (t := false) (B := A) (M := L) (cb := ca) hZ6
     replace hZ7 := hZ7.but (st2_but V20 L6 false A L ca) (by omega)
     replace hS := hS.sto hZ6 hg6 false A L ca
     clear hZ6
     simp only [zA, zB, zC, Act.put, zD, zE, zF]
     generalize st2 V20 L6 false A L ca = VA at *
     refine rg_one 9 (by kernel_rfl) ?_
     have hE : GcO w (st2 VA L7 false B M cb) S L6 L7 A L ca n B M cb m := ⟨hA6.but (st2_but VA L7 false B M cb) (by omega), st2_at hZ7, hS.ga.sto hZ7, hS.gb.sto hZ7, hS.pz.but (st2_but VA L7 false B M cb) (by omega), (st2_but VA L7 false B M cb).2.1 S w (by omega) hS.bl, hg6, hg7, by omega⟩
     refine rs_of rfl rfl (stores_num (.tmp 6) (.tmp 14) rfl (t := false) (B := B) (M := M) (cb := cb) rfl rfl hZ7 ⟨hS.sto hZ7 hg7 false B M cb, ?_⟩)
     clear hS hZ7 hA6
     simp only [zA, zB, zC, Act.put, zD, zE, zF]
     generalize st2 VA L7 false B M cb = VB at *
     refine wpAnyH_done (by kernel_rfl) ?_ _
     go_wp2_with fail
     go_meet
     exact ⟨_, _, rfl, rfl, hE⟩
    ·refine rs_of rfl rfl (wp_value (alloc_num rfl) ⟨hS.alloc _, ?_⟩)
     have hZ7 := NumAt.new V18 false none 0 0
     have hg7 := hS.sz
     have hne := hZ6.lt
     replace hZ6 := hZ6.alloc boxNZ
     replace hS := hS.alloc boxNZ
     simp only [zA, zB, zC, Act.put, zD, zE, zF]
     generalize V18.alloc boxNZ = V21 at *
     generalize V18.heap.size = L7 at *
     refine rg_one 5 (by kernel_rfl) ?_
     refine rs_of rfl rfl (wp_call rfl enters_trim rfl (HT2.out _ hS) (fun V22 hV => ⟨hS.below hV, ?_⟩))
     replace hS := hS.below hV
     replace hZ6 := hZ6.below hV
     replace hZ7 := hZ7.below hV
     clear hV
     simp only [zA, zB, zC, Act.put, zD, zE, zF]
     refine rg_one 8 (by kernel_rfl) ?_
     refine rs_of rfl rfl (stores_num (.tmp 5) (.tmp 11) rfl (t := false) (B := A) (M := L) (cb := ca) rfl rfl hZ6 ⟨hS.sto hZ6 hg6 false A L ca, ?_⟩)
     have hA6 := st2_at (t := false) (B := A) (M := L) (cb := ca) hZ6
     replace hZ7 := hZ7.but (st2_but V22 L6 false A L ca) (by omega)
     replace hS := hS.sto hZ6 hg6 false A L ca
     clear hZ6
     simp only [zA, zB, zC, Act.put, zD, zE, zF]
     generalize st2 V22 L6 false A L ca = VA at *
     refine rg_one 9 (by kernel_rfl) ?_
     have hE : GcO w (st2 VA L7 false B M cb) S L6 L7 A L ca n B M cb m := ⟨hA6.but (st2_but VA L7 false B M cb) (by omega), st2_at hZ7, hS.ga.sto hZ7, hS.gb.sto hZ7, hS.pz.but (st2_but VA L7 false B M cb) (by omega), (st2_but VA L7 false B M cb).2.1 S w (by omega) hS.bl, hg6, hg7, by omega⟩
     refine rs_of rfl rfl (stores_num (.tmp 6) (.tmp 14) rfl (t := false) (B := B) (M := M) (cb := cb) rfl rfl hZ7 ⟨hS.sto hZ7 hg7 false B M cb, ?_⟩)
     clear hS hZ7 hA6
     simp only [zA, zB, zC, Act.put, zD, zE, zF]
     generalize st2 VA L7 false B M cb = VB at *
     refine wpAnyH_done (by kernel_rfl) ?_ _
     go_wp2_with fail
     go_meet
     exact ⟨_, _, rfl, rfl, hE⟩
   ·refine rs_of rfl rfl (wp_value (alloc_num rfl) ⟨hS.alloc _, ?_⟩)
    have hZ7 := NumAt.new V17 false none 0 0
    have hg7 := hS.sz
    have hne := hZ6.lt
    replace hZ6 := hZ6.alloc boxNZ
    replace hS := hS.alloc boxNZ
    simp only [zA, zB, zC, Act.put, zD, zE, zF]
    generalize V17.alloc boxNZ = V23 at *
    generalize V17.heap.size = L7 at *
    refine rg_one 2 (by kernel_rfl) ?_
    refine rs_of rfl rfl (wp_call rfl enters_trim rfl (HT1.out _ hS) (fun V24 hV => ⟨hS.below hV, ?_⟩))
    replace hS := hS.below hV
    replace hZ6 := hZ6.below hV
    replace hZ7 := hZ7.below hV
    clear hV
    simp only [zA, zB, zC, Act.put, zD, zE, zF]
    refine rg_one 5 (by kernel_rfl) ?_
    refine rs_of rfl rfl (wp_call rfl enters_trim rfl (HT2.out _ hS) (fun V25 hV => ⟨hS.below hV, ?_⟩))
    replace hS := hS.below hV
    replace hZ6 := hZ6.below hV
    replace hZ7 := hZ7.below hV
    clear hV
    simp only [zA, zB, zC, Act.put, zD, zE, zF]
    refine rg_one 8 (by kernel_rfl) ?_
    refine rs_of rfl rfl (stores_num (.tmp 5) (.tmp 11) rfl (t := false) (B := A) (M := L) (cb := ca) rfl rfl hZ6 ⟨hS.sto hZ6 hg6 false A L ca, ?_⟩)
    have hA6 := st2_at (t := false) (B := A) (M := L) (cb := ca) hZ6
    replace hZ7 := hZ7.but (st2_but V25 L6 false A L ca) (by omega)
    replace hS := hS.sto hZ6 hg6 false A L ca
    clear hZ6
    simp only [zA, zB, zC, Act.put, zD, zE, zF]
    generalize st2 V25 L6 false A L ca = VA at *
    refine rg_one 9 (by kernel_rfl) ?_
    have hE : GcO w (st2 VA L7 false B M cb) S L6 L7 A L ca n B M cb m := ⟨hA6.but (st2_but VA L7 false B M cb) (by omega), st2_at hZ7, hS.ga.sto hZ7, hS.gb.sto hZ7, hS.pz.but (st2_but VA L7 false B M cb) (by omega), (st2_but VA L7 false B M cb).2.1 S w (by omega) hS.bl, hg6, hg7, by omega⟩
    refine rs_of rfl rfl (stores_num (.tmp 6) (.tmp 14) rfl (t := false) (B := B) (M := M) (cb := cb) rfl rfl hZ7 ⟨hS.sto hZ7 hg7 false B M cb, ?_⟩)
    clear hS hZ7 hA6
    simp only [zA, zB, zC, Act.put, zD, zE, zF]
    generalize st2 VA L7 false B M cb = VB at *
    refine wpAnyH_done (by kernel_rfl) ?_ _
    go_wp2_with fail
    go_meet
    exact ⟨_, _, rfl, rfl, hE⟩
  ·refine rs_of rfl rfl (wp_value (alloc_num rfl) ⟨hS.alloc _, ?_⟩)
   have hZ7 := NumAt.new V0 false none 0 0
   have hg7 := hS.sz
   replace hS := hS.alloc boxNZ
   simp only [zA, zB, zC, Act.put, zD, zE, zF]
   generalize V0.alloc boxNZ = V26 at *
   generalize V0.heap.size = L7 at *
   refine rg_two 2 6 (by kernel_rfl) ?_ ?_
   ·refine rs_of rfl rfl (wp_call rfl enters_trim rfl (HT1.out _ hS) (fun V27 hV => ⟨hS.below hV, ?_⟩))
    replace hS := hS.below hV
    replace hZ7 := hZ7.below hV
    clear hV
    simp only [zA, zB, zC, Act.put, zD, zE, zF]
    refine rg_two 5 6 (by kernel_rfl) ?_ ?_
    ·refine rs_of rfl rfl (wp_call rfl enters_trim rfl (HT2.out _ hS) (fun V28 hV => ⟨hS.below hV, ?_⟩))
     replace hS := hS.below hV
     replace hZ7 := hZ7.below hV
     clear hV
     simp only [zA, zB, zC, Act.put, zD, zE, zF]
     refine rg_one 6 (by kernel_rfl) ?_
     refine rs_of rfl rfl (wp_value (alloc_num rfl) ⟨hS.alloc _, ?_⟩)
     have hZ6 := NumAt.new V28 false none 0 0
     have hg6 := hS.sz
     have hne := hZ7.lt
     replace hZ7 := hZ7.alloc boxNZ
     replace hS := hS.alloc boxNZ
     simp only [zA, zB, zC, Act.put, zD, zE, zF]
     generalize V28.alloc boxNZ = V29 at *
     generalize V28.heap.size = L6 at *
     refine rg_one 8 (by kernel_rfl) ?_
     refine rs_of rfl rfl (stores_num (.tmp 5) (.tmp 11) rfl (t := false) (B := A) (M := L) (cb := ca) rfl rfl hZ6 ⟨hS.sto hZ6 hg6 false A L ca, ?_⟩)
     have hA6 := st2_at (t := false) (B := A) (M := L) (cb := ca) hZ6
     replace hZ7 := hZ7.but (st2_but V29 L6 false A L ca) (by omega)
     replace hS := hS.sto hZ6 hg6 false A L ca
     clear hZ6
     simp only [zA, zB, zC, Act.put, zD, zE, zF]
     generalize st2 V29 L6 false A L ca = VA at *
     refine rg_one 9 (by kernel_rfl) ?_
     have hE : GcO w (st2 VA L7 false B M cb) S L6 L7 A L ca n B M cb m := ⟨hA6.but (st2_but VA L7 false B M cb) (by omega), st2_at hZ7, hS.ga.sto hZ7, hS.gb.sto hZ7, hS.pz.but (st2_but VA L7 false B M cb) (by omega), (st2_but VA L7 false B M cb).2.1 S w (by omega) hS.bl, hg6, hg7, by omega⟩
     refine rs_of rfl rfl (stores_num (.tmp 6) (.tmp 14) rfl (t := false) (B := B) (M := M) (cb := cb) rfl rfl hZ7 ⟨hS.sto hZ7 hg7 false B M cb, ?_⟩)
     clear hS hZ7 hA6
     simp only [zA, zB, zC, Act.put, zD, zE, zF]
     generalize st2 VA L7 false B M cb = VB at *
     refine wpAnyH_done (by kernel_rfl) ?_ _
     go_wp2_with fail
     go_meet
     exact ⟨_, _, rfl, rfl, hE⟩
    ·refine rs_of rfl rfl (wp_value (alloc_num rfl) ⟨hS.alloc _, ?_⟩)
     have hZ6 := NumAt.new V27 false none 0 0
     have hg6 := hS.sz
     have hne := hZ7.lt
     replace hZ7 := hZ7.alloc boxNZ
     replace hS := hS.alloc boxNZ
     simp only [zA, zB, zC, Act.put, zD, zE, zF]
     generalize V27.alloc boxNZ = V30 at *
     generalize V27.heap.size = L6 at *
     refine rg_one 5 (by kernel_rfl) ?_
     refine rs_of rfl rfl (wp_call rfl enters_trim rfl (HT2.out _ hS) (fun V31 hV => ⟨hS.below hV, ?_⟩))
     replace hS := hS.below hV
     replace hZ6 := hZ6.below hV
     replace hZ7 := hZ7.below hV
     clear hV
     simp only [zA, zB, zC, Act.put, zD, zE, zF]
     refine rg_one 8 (by kernel_rfl) ?_
     refine rs_of rfl rfl (stores_num (.tmp 5) (.tmp 11) rfl (t := false) (B := A) (M := L) (cb := ca) rfl rfl hZ6 ⟨hS.sto hZ6 hg6 false A L ca, ?_⟩)
     have hA6 := st2_at (t := false) (B := A) (M := L) (cb := ca) hZ6
     replace hZ7 := hZ7.but (st2_but V31 L6 false A L ca) (by omega)
     replace hS := hS.sto hZ6 hg6 false A L ca
     clear hZ6
     simp only [zA, zB, zC, Act.put, zD, zE, zF]
     generalize st2 V31 L6 false A L ca = VA at *
     refine rg_one 9 (by kernel_rfl) ?_
     have hE : GcO w (st2 VA L7 false B M cb) S L6 L7 A L ca n B M cb m := ⟨hA6.but (st2_but VA L7 false B M cb) (by omega), st2_at hZ7, hS.ga.sto hZ7, hS.gb.sto hZ7, hS.pz.but (st2_but VA L7 false B M cb) (by omega), (st2_but VA L7 false B M cb).2.1 S w (by omega) hS.bl, hg6, hg7, by omega⟩
     refine rs_of rfl rfl (stores_num (.tmp 6) (.tmp 14) rfl (t := false) (B := B) (M := M) (cb := cb) rfl rfl hZ7 ⟨hS.sto hZ7 hg7 false B M cb, ?_⟩)
     clear hS hZ7 hA6
     simp only [zA, zB, zC, Act.put, zD, zE, zF]
     generalize st2 VA L7 false B M cb = VB at *
     refine wpAnyH_done (by kernel_rfl) ?_ _
     go_wp2_with fail
     go_meet
     exact ⟨_, _, rfl, rfl, hE⟩
   ·refine rs_of rfl rfl (wp_value (alloc_num rfl) ⟨hS.alloc _, ?_⟩)
    have hZ6 := NumAt.new V26 false none 0 0
    have hg6 := hS.sz
    have hne := hZ7.lt
    replace hZ7 := hZ7.alloc boxNZ
    replace hS := hS.alloc boxNZ
    simp only [zA, zB, zC, Act.put, zD, zE, zF]
    generalize V26.alloc boxNZ = V32 at *
    generalize V26.heap.size = L6 at *
    refine rg_one 2 (by kernel_rfl) ?_
    refine rs_of rfl rfl (wp_call rfl enters_trim rfl (HT1.out _ hS) (fun V33 hV => ⟨hS.below hV, ?_⟩))
    replace hS := hS.below hV
    replace hZ6 := hZ6.below hV
    replace hZ7 := hZ7.below hV
    clear hV
    simp only [zA, zB, zC, Act.put, zD, zE, zF]
    refine rg_one 5 (by kernel_rfl) ?_
    refine rs_of rfl rfl (wp_call rfl enters_trim rfl (HT2.out _ hS) (fun V34 hV => ⟨hS.below hV, ?_⟩))
    replace hS := hS.below hV
    replace hZ6 := hZ6.below hV
    replace hZ7 := hZ7.below hV
    clear hV
    simp only [zA, zB, zC, Act.put, zD, zE, zF]
    refine rg_one 8 (by kernel_rfl) ?_
    refine rs_of rfl rfl (stores_num (.tmp 5) (.tmp 11) rfl (t := false) (B := A) (M := L) (cb := ca) rfl rfl hZ6 ⟨hS.sto hZ6 hg6 false A L ca, ?_⟩)
    have hA6 := st2_at (t := false) (B := A) (M := L) (cb := ca) hZ6
    replace hZ7 := hZ7.but (st2_but V34 L6 false A L ca) (by omega)
    replace hS := hS.sto hZ6 hg6 false A L ca
    clear hZ6
    simp only [zA, zB, zC, Act.put, zD, zE, zF]
    generalize st2 V34 L6 false A L ca = VA at *
    refine rg_one 9 (by kernel_rfl) ?_
    have hE : GcO w (st2 VA L7 false B M cb) S L6 L7 A L ca n B M cb m := ⟨hA6.but (st2_but VA L7 false B M cb) (by omega), st2_at hZ7, hS.ga.sto hZ7, hS.gb.sto hZ7, hS.pz.but (st2_but VA L7 false B M cb) (by omega), (st2_but VA L7 false B M cb).2.1 S w (by omega) hS.bl, hg6, hg7, by omega⟩
    refine rs_of rfl rfl (stores_num (.tmp 6) (.tmp 14) rfl (t := false) (B := B) (M := M) (cb := cb) rfl rfl hZ7 ⟨hS.sto hZ7 hg7 false B M cb, ?_⟩)
    clear hS hZ7 hA6
    simp only [zA, zB, zC, Act.put, zD, zE, zF]
    generalize st2 VA L7 false B M cb = VB at *
    refine wpAnyH_done (by kernel_rfl) ?_ _
    go_wp2_with fail
    go_meet
    exact ⟨_, _, rfl, rfl, hE⟩
 case rest =>
  obtain ⟨X, Y, rfl, rfl, HO⟩ := hcut
  replace HO := Lib.hid HO
  clear HI HT1 HT2
  go_wp2_with fail
  go_loopg [7, 8] (gcM n m + 1) (fun h s7 s8 wr => ∃ (C : Option Addr) (lx cx x : Nat) (D : Option Addr) (ly cy y : Nat), Hid (gcM x y < h) ∧ lx ≤ 1000 ∧ ly ≤ 1000 ∧ Hid (Nat.gcd x y = r) ∧ Hid (GcO w wr S X Y C lx cx x D ly cy y))
  case atStart => exact ⟨A, L, ca, n, B, M, cb, m, Nat.lt_succ_self _, hL, hM, hr, HO⟩
  case round =>
   clear HO hr hL hM
   obtain ⟨C, lx, cx, x, D, ly, cy, y, HM, hlx, hly, HG, HO⟩ := hrel
   have hcx := HO.out.gx.cap
   have hcy := HO.out.gy.cap
   unfold Cap at hcx hcy
   obtain ⟨a0, b0, a1, b1⟩ := HO.out.px
   obtain ⟨c0, d0, c1, d1⟩ := HO.out.py
   have hXY : ¬ X = Y := HO.out.hne
   have hYX : ¬ Y = X := fun e => HO.out.hne e.symm
   by_cases hy0 : ly = 0
   ·subst hy0
    have hy : y = 0 := nl_eq_zero.1 HO.out.gy.len
    obtain rfl : x = r := by have := HG.out; rw [hy, Nat.gcd_zero_right] at this; exact this
    obtain rfl : lx = R := HO.out.gx.len.symm.trans hR.out
    obtain ⟨g0, h0, g1, h1⟩ := HO.out.pz
    clear hy
    go_wp2_with fail
    refine bodyPost_ret (v := .agg #[.bool false, .slice C lx cx]) (by rw [results_cell1 rfl]; go_simp; try rfl) rfl ⟨C, cx, rfl, ?_, ?_⟩
    ·exact HO.out.gx.sto HO.out.pz
    ·exact (st2_but wr (S + 1 + 1) false C lx cx).2.1 S w (by omega) HO.out.bl
   ·have hyp : y ≠ 0 := fun e => hy0 (by rw [← HO.out.gy.len, e, nl_zero])
    have hly0 : 0 < ly := by omega
    obtain ⟨c, HC⟩ : ∃ c, cmpN x y = c := ⟨_, rfl⟩
    have HR := Lib.hid (Order_run7 C D lx ly cx cy x y c wr HO.out.gx.digs HO.out.gy.digs HO.out.gx.len HO.out.gy.len HO.out.gx.cap HO.out.gy.cap HC)
    by_cases hlt : x < y
    ·obtain rfl : c = -1 := by rw [← HC]; exact cmpN_lt hlt
     clear HC
     go_wp2_with fail
     refine HR.out.mono ?_
     rintro e w1 ⟨rfl, hw1⟩
     replace HO := Lib.hid (HO.out.below hw1)
     clear HR hw1 a0 b0 a1 b1 c0 d0 c1 d1
     obtain ⟨a0, b0, a1, b1⟩ := HO.out.px
     obtain ⟨c0, d0, c1, d1⟩ := HO.out.py
     go_wp2_with fail
     have H1 : GcO w (st2 (st2 w1 X false D ly cy) Y false C lx cx) S X Y D ly cy y C lx cx x := (HO.out.putX HO.out.gy).putY (HO.out.gx.sto HO.out.px)
     go_roundg (gcM x y)
     case measure => exact HM.out
     case rel => exact ⟨D, ly, cy, y, C, lx, cx, x, gcM_swap hlt, hly, hlx, by show _ = _; rw [Nat.gcd_comm]; exact HG.out, H1⟩
    ·have hc0 : ¬ c < 0 := by rw [← HC]; unfold cmpN; rw [if_neg hlt]; split <;> omega
     clear HC
     obtain ⟨kx, hkx⟩ : ∃ kx, nlen 2 x = kx := ⟨_, rfl⟩
     obtain ⟨ky, hky⟩ : ∃ ky, nlen 2 y = ky := ⟨_, rfl⟩
     have HDB := dbl_fits hyp (show y ≤ x by omega)
     rw [hkx, hky] at HDB
     obtain ⟨k, hk⟩ : ∃ k, kx - ky = k := ⟨_, rfl⟩
     rw [hk] at HDB
     have hkz : (kx : Int) - (ky : Int) = (k : Int) := by omega
     have hkb : kx ≤ 16 * lx := by
      rw [← hkx, ← HO.out.gx.len]
      exact bits_le x
     have HB1 : Hid (∀ W, GcO w W S X Y C lx cx x D ly cy y → Calls Tryz.prog 84 #[.agg #[.bool false, .slice C lx cx]] W fun e w' => e = .returned (.int .i64 (kx : Int)) ∧ Below W.heap.size W w') := fun W h =>
      (Bits_run7 false C lx cx x kx W h.gx (by omega) hkx).mono fun e w' ⟨h1, q, h2⟩ => ⟨h1, by rw [h2]; exact (below_alloc W _).drewN q⟩
     have HB2 : Hid (∀ W, GcO w W S X Y C lx cx x D ly cy y → Calls Tryz.prog 84 #[.agg #[.bool false, .slice D ly cy]] W fun e w' => e = .returned (.int .i64 (ky : Int)) ∧ Below W.heap.size W w') := fun W h =>
      (Bits_run7 false D ly cy y ky W h.gy (by omega) hky).mono fun e w' ⟨h1, q, h2⟩ => ⟨h1, by rw [h2]; exact (below_alloc W _).drewN q⟩
     have hk6 : k ≤ 16000 := by omega
     have HD := Lib.hid HDB.2
     have HDL := Lib.hid HDB.1
     clear HDB hkx hky
     go_wp2_with fail
     refine HR.out.mono ?_
     rintro e w1 ⟨rfl, hw1⟩
     replace HO := Lib.hid (HO.out.below hw1)
     clear HR hw1 a0 b0 a1 b1 c0 d0 c1 d1
     go_upto_region 5 with fail
     go_cut [7] (fun s7 wx => s7 = .int .i64 (k : Int) ∧ GcO w wx S X Y C lx cx x D ly cy y)
     case first =>
      have HI0 := Lib.hid HO.out.drew
      clear HO
      refine rg_begin (fun V => GcO w V S X Y C lx cx x D ly cy y) (by kernel_rfl) HI0.out (fun hS => ?_)
      refine rg_take 0 (.agg #[.bool false, .slice C lx cx]) rfl (by kernel_rfl) (by kernel_rfl) (by kernel_rfl) (fun _ _ _ h => h) rfl (fun w hSw => ld_num (.tmp 5) rfl rfl hSw.px) hS ?_
      simp only [zA, zB, zC, Act.put, zD, zE, zF]
      refine rg_take 2 (.agg #[.bool false, .slice D ly cy]) rfl (by kernel_rfl) (by kernel_rfl) (by kernel_rfl) (fun _ _ _ h => h) rfl (fun w hSw => ld_num (.tmp 6) rfl rfl hSw.py) hS ?_
      simp only [zA, zB, zC, Act.put, zD, zE, zF]
      clear HI0
      generalize w1.drew = V0 at *
      refine rg_one 1 (by kernel_rfl) (rs_of rfl rfl (wp_call rfl enters_bits7 rfl (HB1.out _ hS) (fun V1 hV => ⟨hS.below hV, ?_⟩)))
      replace hS := hS.below hV
      clear hV
      simp only [zA, zB, zC, Act.put, zD, zE, zF]
      refine rg_one 3 (by kernel_rfl) (rs_of rfl rfl (wp_call rfl enters_bits7 rfl (HB2.out _ hS) (fun V2 hV => ⟨hS.below hV, ?_⟩)))
      replace hS := hS.below hV
      clear hV
      simp only [zA, zB, zC, Act.put, zD, zE, zF]
      refine rg_take 4 (.int .i64 (k : Int)) rfl (by kernel_rfl) (by kernel_rfl) (by kernel_rfl) (fun _ _ _ h => h) rfl (fun w hSw => ?_) hS ?_
      ·have e0 := hkz; have e1 : IntKind.i64.wrap (k : Int) = (k : Int) := by (rw [IntKind.wrap_i64]; omega)
       go_simp
      simp only [zA, zB, zC, Act.put, zD, zE, zF]
      refine rg_take 5 (.int .i64 (k : Int)) rfl (by kernel_rfl) (by kernel_rfl) (by kernel_rfl) (fun _ _ _ h => h) rfl (fun w _ => ?_) hS ?_
      ·go_simp
      simp only [zA, zB, zC, Act.put, zD, zE, zF]
      refine wpAnyH_done (by kernel_rfl) ?_ _
      go_wp2_with fail
      go_meet
      exact ⟨rfl, hS⟩
     case rest =>
      obtain ⟨rfl, HO2⟩ := hcut
      replace HO2 := Lib.hid HO2
      clear HO HB1 HB2
      have HPW := Lib.hid (fun W => Power_run k _ W (by omega) rfl)
      obtain ⟨P, hP⟩ : ∃ P, 2 ^ k = P := ⟨_, rfl⟩
      obtain ⟨lp, hlp⟩ : ∃ lp, nl P = lp := ⟨_, rfl⟩
      have hlp6 : lp ≤ 1001 := by rw [← hlp, ← hP, nl_pow]; omega
      obtain ⟨v, hv⟩ : ∃ v, y * P = v := ⟨_, rfl⟩
      obtain ⟨lv, hlv⟩ : ∃ lv, nl v = lv := ⟨_, rfl⟩
      rw [hP, hlp] at HPW
      have hlv6 : lv ≤ 2001 := by rw [← hlv, ← hv]; refine Nat.le_trans (nl_mul_le _ _) ?_; rw [HO2.out.gy.len, hlp]; omega
      have HMU : Hid (∀ W G g, GcO w W S X Y C lx cx x D ly cy y → Good W false G lp g P → Calls Tryz.prog 85 #[.agg #[.bool false, .slice D ly cy], .agg #[.bool false, .slice G lp g]] W fun e w' => ∃ q : Option Addr × Nat, e = .returned (.agg #[.bool false, .slice q.1 lv q.2]) ∧ (Good w' false q.1 lv q.2 v ∧ Below W.heap.size W w')) := fun W G g h h2 =>
       (Mul_run7 false D ly cy y false G lp g P false v lv W h.gy h2 (by omega) (by show _ = _; simp [sgn]) hv hlv).mono fun e w' ⟨G', g', h1, h2, h3⟩ => ⟨(G', g'), h1, h2, h3⟩
      have HPX : Hid (∀ W, Calls Tryz.prog 86 #[.int .i64 (k : Int)] W fun e w' => ∃ q : Option Addr × Nat, e = .returned (.agg #[.bool false, .slice q.1 lp q.2]) ∧ (Good w' false q.1 lp q.2 P ∧ Below W.heap.size W w')) := fun W =>
       (HPW.out W).mono fun e w' ⟨G', g', h1, h2, h3⟩ => ⟨(G', g'), h1, h2, h3⟩
      have HV : Hid (0 < P ∧ P ≤ v) := by
       have h1 : 0 < P := by rw [← hP]; exact Nat.pow_pos (by decide)
       refine ⟨h1, ?_⟩
       rw [← hv]
       exact Nat.le_mul_of_pos_left _ (Nat.pos_of_ne_zero hyp)
      clear HPW
      go_upto_region 6 with fail
      go_cut [8] (fun s8 wx => ∃ Z G g, s8 = .pointer (some ⟨Z, 0, none⟩) ∧ GcO w wx S X Y C lx cx x D ly cy y ∧ NumAt wx Z false G lv g ∧ Good wx false G lv g v ∧ S + 1 + 1 + 1 ≤ Z ∧ X ≠ Z ∧ Y ≠ Z)
      case first =>
       have HI0 := Lib.hid HO2.out.drew
       clear HO2
       refine rg_begin (fun V => GcO w V S X Y C lx cx x D ly cy y) (by kernel_rfl) HI0.out (fun hS => ?_)
       refine rg_take 0 (.agg #[.bool false, .slice D ly cy]) rfl (by kernel_rfl) (by kernel_rfl) (by kernel_rfl) (fun _ _ _ h => h) rfl (fun w hSw => ld_num (.tmp 6) rfl rfl hSw.py) hS ?_
       simp only [zA, zB, zC, Act.put, zD, zE, zF]
       refine rg_take 1 (.int .i64 (k : Int)) rfl (by kernel_rfl) (by kernel_rfl) (by kernel_rfl) (fun _ _ _ h => h) rfl (fun w _ => ?_) hS ?_
       ·go_simp
       simp only [zA, zB, zC, Act.put, zD, zE, zF]
       clear HI0
       generalize wc.drew = V0 at *
       refine rg_two 2 4 (by kernel_rfl) ?_ ?_
       ·refine rs_of rfl rfl (wp_callx rfl enters_power rfl (HPX.out _) (fun q1 V1 hV => ⟨hS.below hV.2, ?_⟩))
        obtain ⟨G1, g1⟩ := q1
        obtain ⟨hP1, hV⟩ := hV
        replace hS := hS.below hV
        clear hV
        simp only [zA, zB, zC, Act.put, zD, zE, zF]
        refine rg_two 3 4 (by kernel_rfl) ?_ ?_
        ·refine rs_of rfl rfl (wp_callx rfl enters_mul7 rfl (HMU.out _ _ _ hS hP1) (fun q2 V2 hV => ⟨hS.below hV.2, ?_⟩))
         obtain ⟨G2, g2⟩ := q2
         obtain ⟨hG, hV⟩ := hV
         replace hS := hS.below hV
         clear hV hP1
         simp only [zA, zB, zC, Act.put, zD, zE, zF]
         refine rg_one 4 (by kernel_rfl) ?_
         refine rs_of rfl rfl (wp_value (alloc_num rfl) ⟨hS.alloc _, ?_⟩)
         have hZ := NumAt.new V2 false none 0 0
         have hg := hS.sz
         have hx := hS.px.lt
         have hy := hS.py.lt
         replace hG := hG.below (below_alloc _ boxNZ)
         replace hS := hS.alloc boxNZ
         simp only [zA, zB, zC, Act.put, zD, zE, zF]
         generalize V2.alloc boxNZ = V3 at *
         generalize V2.heap.size = Z at *
         replace hx : X ≠ Z := by omega
         replace hy : Y ≠ Z := by omega
         refine rg_one 5 (by kernel_rfl) ?_
         refine rs_of rfl rfl (stores_num (.tmp 8) (.tmp 35) rfl (t := false) (B := G2) (M := lv) (cb := g2) rfl rfl hZ ⟨hS.sto hZ hg hx hy false G2 lv g2, ?_⟩)
         replace hS := hS.sto hZ hg hx hy false G2 lv g2
         replace hG := hG.sto (t := false) (C := G2) (K := lv) (cc := g2) hZ
         replace hZ := st2_at (t := false) (B := G2) (M := lv) (cb := g2) hZ
         simp only [zA, zB, zC, Act.put, zD, zE, zF]
         generalize st2 V3 Z false G2 lv g2 = V4 at *
         refine wpAnyH_done (by kernel_rfl) ?_ _
         go_wp2_with fail
         go_meet
         exact ⟨_, _, _, rfl, hS, hZ, hG, hg, hx, hy⟩
        ·refine rs_of rfl rfl (wp_value (alloc_num rfl) ⟨hS.alloc _, ?_⟩)
         have hZ := NumAt.new V1 false none 0 0
         have hg := hS.sz
         have hx := hS.px.lt
         have hy := hS.py.lt
         replace hP1 := hP1.below (below_alloc _ boxNZ)
         replace hS := hS.alloc boxNZ
         simp only [zA, zB, zC, Act.put, zD, zE, zF]
         generalize V1.alloc boxNZ = V5 at *
         generalize V1.heap.size = Z at *
         replace hx : X ≠ Z := by omega
         replace hy : Y ≠ Z := by omega
         refine rg_one 3 (by kernel_rfl) ?_
         refine rs_of rfl rfl (wp_callx rfl enters_mul7 rfl (HMU.out _ _ _ hS hP1) (fun q2 V6 hV => ⟨hS.below hV.2, ?_⟩))
         obtain ⟨G2, g2⟩ := q2
         obtain ⟨hG, hV⟩ := hV
         replace hS := hS.below hV
         replace hZ := hZ.below hV
         clear hV hP1
         simp only [zA, zB, zC, Act.put, zD, zE, zF]
         refine rg_one 5 (by kernel_rfl) ?_
         refine rs_of rfl rfl (stores_num (.tmp 8) (.tmp 35) rfl (t := false) (B := G2) (M := lv) (cb := g2) rfl rfl hZ ⟨hS.sto hZ hg hx hy false G2 lv g2, ?_⟩)
         replace hS := hS.sto hZ hg hx hy false G2 lv g2
         replace hG := hG.sto (t := false) (C := G2) (K := lv) (cc := g2) hZ
         replace hZ := st2_at (t := false) (B := G2) (M := lv) (cb := g2) hZ
         simp only [zA, zB, zC, Act.put, zD, zE, zF]
         generalize st2 V6 Z false G2 lv g2 = V7 at *
         refine wpAnyH_done (by kernel_rfl) ?_ _
         go_wp2_with fail
         go_meet
         exact ⟨_, _, _, rfl, hS, hZ, hG, hg, hx, hy⟩
       ·refine rs_of rfl rfl (wp_value (alloc_num rfl) ⟨hS.alloc _, ?_⟩)
        have hZ := NumAt.new V0 false none 0 0
        have hg := hS.sz
        have hx := hS.px.lt
        have hy := hS.py.lt
        replace hS := hS.alloc boxNZ
        simp only [zA, zB, zC, Act.put, zD, zE, zF]
        generalize V0.alloc boxNZ = V8 at *
        generalize V0.heap.size = Z at *
        replace hx : X ≠ Z := by omega
        replace hy : Y ≠ Z := by omega
        refine rg_one 2 (by kernel_rfl) ?_
        refine rs_of rfl rfl (wp_callx rfl enters_power rfl (HPX.out _) (fun q1 V9 hV => ⟨hS.below hV.2, ?_⟩))
        obtain ⟨G1, g1⟩ := q1
        obtain ⟨hP1, hV⟩ := hV
        replace hS := hS.below hV
        replace hZ := hZ.below hV
        clear hV
        simp only [zA, zB, zC, Act.put, zD, zE, zF]
        refine rg_one 3 (by kernel_rfl) ?_
        refine rs_of rfl rfl (wp_callx rfl enters_mul7 rfl (HMU.out _ _ _ hS hP1) (fun q2 V10 hV => ⟨hS.below hV.2, ?_⟩))
        obtain ⟨G2, g2⟩ := q2
        obtain ⟨hG, hV⟩ := hV
        replace hS := hS.below hV
        replace hZ := hZ.below hV
        clear hV hP1
        simp only [zA, zB, zC, Act.put, zD, zE, zF]
        refine rg_one 5 (by kernel_rfl) ?_
        refine rs_of rfl rfl (stores_num (.tmp 8) (.tmp 35) rfl (t := false) (B := G2) (M := lv) (cb := g2) rfl rfl hZ ⟨hS.sto hZ hg hx hy false G2 lv g2, ?_⟩)
        replace hS := hS.sto hZ hg hx hy false G2 lv g2
        replace hG := hG.sto (t := false) (C := G2) (K := lv) (cc := g2) hZ
        replace hZ := st2_at (t := false) (B := G2) (M := lv) (cb := g2) hZ
        simp only [zA, zB, zC, Act.put, zD, zE, zF]
        generalize st2 V10 Z false G2 lv g2 = V11 at *
        refine wpAnyH_done (by kernel_rfl) ?_ _
        go_wp2_with fail
        go_meet
        exact ⟨_, _, _, rfl, hS, hZ, hG, hg, hx, hy⟩
      case rest =>
       obtain ⟨Z, G, g, rfl, HO3, HZ3, HG3, hZS, hXZ, hYZ⟩ := hcut
       replace HO3 := Lib.hid HO3
       replace HZ3 := Lib.hid HZ3
       replace HG3 := Lib.hid HG3
       clear HO2 HPX HMU
       obtain ⟨c, HC⟩ : ∃ c, cmpN v x = c := ⟨_, rfl⟩
       have HR := Lib.hid (Order_run7 G C lv lx g cx v x c wc HG3.out.digs HO3.out.gx.digs HG3.out.len HO3.out.gx.len HG3.out.cap HO3.out.gx.cap HC)
       obtain ⟨a0, b0, a1, b1⟩ := HO3.out.px
       obtain ⟨c0, d0, c1, d1⟩ := HZ3.out
       by_cases hle : v ≤ x
       ·have hc0 : ¬ 0 < c := by
         rw [← HC]; unfold cmpN
         split
         ·decide
         ·rw [if_neg (by omega)]; decide
        have HVE : Hid (y * P = v) := hv
        clear HC
        go_wp2_with fail
        refine HR.out.mono ?_
        rintro e w3 ⟨rfl, hw3⟩
        replace HO3 := Lib.hid (HO3.out.below hw3)
        replace HG3 := Lib.hid (HG3.out.below hw3)
        replace HZ3 := Lib.hid (HZ3.out.below hw3)
        clear HR hw3 a0 b0 a1 b1 c0 d0 c1 d1
        obtain ⟨lr, hlr⟩ : ∃ lr, nl (x - v) = lr := ⟨_, rfl⟩
        have hlr6 : lr ≤ 1000 := by rw [← hlr]; exact Nat.le_trans (nl_mono (Nat.sub_le _ _)) (by rw [HO3.out.gx.len]; exact hlx)
        have hv0 : v ≠ 0 := by have := HV.out; omega
        have hsg : sgn true v = true := by simp [sgn, hv0]
        have HS := Lib.hid (Sub_run7 false C lx cx x false G lv g v false (x - v) lr w3 HO3.out.gx HG3.out (by omega) (by show _ = _; simp only [Bool.not_false, hsg]; rw [addS_ft hle, addN_ft hle]; simp [sgn]) (by show _ = _; simp only [Bool.not_false, hsg]; exact addN_ft hle) hlr)
        have HRG : Hid (Nat.gcd y (x - v) = r) := by
         show _ = _
         rw [← HG.out, ← HVE.out]
         exact gcd_off (by rw [HVE.out]; exact hle)
        obtain ⟨a0, b0, a1, b1⟩ := HO3.out.px
        obtain ⟨c0, d0, c1, d1⟩ := HZ3.out
        clear HVE
        go_wp2_with fail
        refine HS.out.mono ?_
        rintro e w8 ⟨G8, g8, rfl, hG8, hw8⟩
        have HO8 := Lib.hid (HO3.out.below hw8)
        replace hG8 := Lib.hid hG8
        clear HS hw8 HO3 HG3 HZ3 a0 b0 a1 b1 c0 d0 c1 d1
        obtain ⟨a0, b0, a1, b1⟩ := HO8.out.px
        obtain ⟨c0, d0, c1, d1⟩ := HO8.out.py
        go_wp2_with fail
        have H1 := HO8.out.putX hG8.out
        have H2 : GcO w (st2 (st2 (st2 w8 X false G8 lr g8) X false D ly cy) Y false G8 lr g8) S X Y D ly cy y G8 lr g8 (x - v) := (H1.putX H1.gy).putY (H1.gx.sto H1.px)
        go_roundg (gcM x y)
        case measure => exact HM.out
        case rel => exact ⟨D, ly, cy, y, G8, lr, g8, x - v, gcM_step (by omega) hle, hly, hlr6, HRG, H2⟩
       ·obtain rfl : c = 1 := by rw [← HC]; exact cmpN_gt (by omega)
        obtain ⟨hk1, hle2⟩ := HD.out (by rw [hP, hv]; exact hle)
        obtain ⟨j, rfl⟩ : ∃ j, k = j + 1 := ⟨k - 1, by omega⟩
        rw [Nat.add_sub_cancel] at hle2
        have HPW := Lib.hid (fun W => Power_run j _ W (by omega) rfl)
        obtain ⟨P2, hP2⟩ : ∃ P2, 2 ^ j = P2 := ⟨_, rfl⟩
        obtain ⟨lp2, hlp2⟩ : ∃ lp2, nl P2 = lp2 := ⟨_, rfl⟩
        have hlp26 : lp2 ≤ 1001 := by rw [← hlp2, ← hP2, nl_pow]; omega
        rw [hP2] at hle2
        obtain ⟨v2, hv2⟩ : ∃ v2, y * P2 = v2 := ⟨_, rfl⟩
        rw [hv2] at hle2
        obtain ⟨lv2, hlv2⟩ : ∃ lv2, nl v2 = lv2 := ⟨_, rfl⟩
        rw [hP2, hlp2] at HPW
        have hlv26 : lv2 ≤ 2001 := by rw [← hlv2, ← hv2]; refine Nat.le_trans (nl_mul_le _ _) ?_; rw [HO3.out.gy.len, hlp2]; omega
        have HMU : Hid (∀ W G g, GcO w W S X Y C lx cx x D ly cy y → Good W false G lp2 g P2 → Calls Tryz.prog 85 #[.agg #[.bool false, .slice D ly cy], .agg #[.bool false, .slice G lp2 g]] W fun e w' => ∃ q : Option Addr × Nat, e = .returned (.agg #[.bool false, .slice q.1 lv2 q.2]) ∧ (Good w' false q.1 lv2 q.2 v2 ∧ Below W.heap.size W w')) := fun W G g h h2 =>
         (Mul_run7 false D ly cy y false G lp2 g P2 false v2 lv2 W h.gy h2 (by omega) (by show _ = _; simp [sgn]) hv2 hlv2).mono fun e w' ⟨G', g', h1, h2, h3⟩ => ⟨(G', g'), h1, h2, h3⟩
        have HPX : Hid (∀ W, Calls Tryz.prog 86 #[.int .i64 (j : Int)] W fun e w' => ∃ q : Option Addr × Nat, e = .returned (.agg #[.bool false, .slice q.1 lp2 q.2]) ∧ (Good w' false q.1 lp2 q.2 P2 ∧ Below W.heap.size W w')) := fun W =>
         (HPW.out W).mono fun e w' ⟨G', g', h1, h2, h3⟩ => ⟨(G', g'), h1, h2, h3⟩
        have HV2 : Hid (0 < P2 ∧ P2 ≤ v2) := by
         have h1 : 0 < P2 := by rw [← hP2]; exact Nat.pow_pos (by decide)
         refine ⟨h1, ?_⟩
         rw [← hv2]
         exact Nat.le_mul_of_pos_left _ (Nat.pos_of_ne_zero hyp)
        have HVE : Hid (y * P2 = v2) := hv2
        clear HPW HC HV hlp hlv hP2 hv2 hlp2
        go_wp2_with fail
        refine HR.out.mono ?_
        rintro e w3 ⟨rfl, hw3⟩
        replace HO3 := Lib.hid (HO3.out.below hw3)
        replace HZ3 := Lib.hid (HZ3.out.below hw3)
        clear HR hw3 a0 b0 a1 b1 c0 d0 c1 d1 HG3
        go_upto_region 8 with fail
        go_cut [] (fun wx => GcO w wx S X Y C lx cx x D ly cy y ∧ ∃ G2 g2, NumAt wx Z false G2 lv2 g2 ∧ Good wx false G2 lv2 g2 v2)
        case first =>
         have HI0 := Lib.hid (And.intro HO3.out.drew HZ3.out.drew)
         clear HO3 HZ3
         refine rg_begin (fun V => GcO w V S X Y C lx cx x D ly cy y) (by kernel_rfl) HI0.out.1 (fun hS => ?_)
         refine rg_take 0 (.agg #[.bool false, .slice D ly cy]) rfl (by kernel_rfl) (by kernel_rfl) (by kernel_rfl) (fun _ _ _ h => h) rfl (fun w hSw => ld_num (.tmp 6) rfl rfl hSw.py) hS ?_
         simp only [zA, zB, zC, Act.put, zD, zE, zF]
         refine rg_take 1 (.int .i64 ((j + 1 : Nat) : Int)) rfl (by kernel_rfl) (by kernel_rfl) (by kernel_rfl) (fun _ _ _ h => h) rfl (fun w _ => ?_) hS ?_
         ·go_simp
         simp only [zA, zB, zC, Act.put, zD, zE, zF]
         refine rg_take 2 (.int .i64 (j : Int)) rfl (by kernel_rfl) (by kernel_rfl) (by kernel_rfl) (fun _ _ _ h => h) rfl (fun w hSw => ?_) hS ?_
         ·have e0 : ((j + 1 : Nat) : Int) - 1 = (j : Int) := (by omega); have e1 : IntKind.i64.wrap (j : Int) = (j : Int) := by (rw [IntKind.wrap_i64]; omega)
          go_simp
         simp only [zA, zB, zC, Act.put, zD, zE, zF]
         have hZ := HI0.out.2
         clear HI0
         generalize w3.drew = V0 at *
         refine rg_one 3 (by kernel_rfl) (rs_of rfl rfl (wp_callx rfl enters_power rfl (HPX.out _) (fun q1 V1 hV => ⟨hS.below hV.2, ?_⟩)))
         obtain ⟨G1, g1⟩ := q1
         obtain ⟨hP1, hV⟩ := hV
         replace hS := hS.below hV
         replace hZ := hZ.below hV
         clear hV
         simp only [zA, zB, zC, Act.put, zD, zE, zF]
         refine rg_one 4 (by kernel_rfl) (rs_of rfl rfl (wp_callx rfl enters_mul7 rfl (HMU.out _ _ _ hS hP1) (fun q2 V2 hV => ⟨hS.below hV.2, ?_⟩)))
         obtain ⟨G2, g2⟩ := q2
         obtain ⟨hG, hV⟩ := hV
         replace hS := hS.below hV
         replace hZ := hZ.below hV
         clear hV hP1
         simp only [zA, zB, zC, Act.put, zD, zE, zF]
         refine rg_one 5 (by kernel_rfl) (rs_of rfl rfl (stores_num (.tmp 8) (.tmp 46) rfl (t := false) (B := G2) (M := lv2) (cb := g2) rfl rfl hZ ⟨hS.sto hZ hZS hXZ hYZ false G2 lv2 g2, ?_⟩))
         replace hS := hS.sto hZ hZS hXZ hYZ false G2 lv2 g2
         replace hG := hG.sto (t := false) (C := G2) (K := lv2) (cc := g2) hZ
         replace hZ := st2_at (t := false) (B := G2) (M := lv2) (cb := g2) hZ
         simp only [zA, zB, zC, Act.put, zD, zE, zF]
         generalize st2 V2 Z false G2 lv2 g2 = V3 at *
         refine wpAnyH_done (by kernel_rfl) ?_ _
         go_wp2_with fail
         go_meet
         exact ⟨hS, _, _, hZ, hG⟩
        case rest =>
         obtain ⟨HO4, G2, g2, HZ4, HG4⟩ := hcut
         clear HO3 HZ3 HPX HMU
         have HO3 := Lib.hid HO4
         have HZ3 := Lib.hid HZ4
         have HG3 := Lib.hid HG4
         clear HO4 HZ4 HG4
         have hle := hle2
         obtain ⟨lr, hlr⟩ : ∃ lr, nl (x - v2) = lr := ⟨_, rfl⟩
         have hlr6 : lr ≤ 1000 := by rw [← hlr]; exact Nat.le_trans (nl_mono (Nat.sub_le _ _)) (by rw [HO3.out.gx.len]; exact hlx)
         have hv0 : v2 ≠ 0 := by have := HV2.out; omega
         have hsg : sgn true v2 = true := by simp [sgn, hv0]
         have HS := Lib.hid (Sub_run7 false C lx cx x false G2 lv2 g2 v2 false (x - v2) lr wc HO3.out.gx HG3.out (by omega) (by show _ = _; simp only [Bool.not_false, hsg]; rw [addS_ft hle, addN_ft hle]; simp [sgn]) (by show _ = _; simp only [Bool.not_false, hsg]; exact addN_ft hle) hlr)
         have HRG : Hid (Nat.gcd y (x - v2) = r) := by
          show _ = _
          rw [← HG.out, ← HVE.out]
          exact gcd_off (by rw [HVE.out]; exact hle)
         obtain ⟨a0, b0, a1, b1⟩ := HO3.out.px
         obtain ⟨c0, d0, c1, d1⟩ := HZ3.out
         clear HVE
         go_wp2_with fail
         refine HS.out.mono ?_
         rintro e w8 ⟨G8, g8, rfl, hG8, hw8⟩
         have HO8 := Lib.hid (HO3.out.below hw8)
         replace hG8 := Lib.hid hG8
         clear HS hw8 HO3 HG3 HZ3 a0 b0 a1 b1 c0 d0 c1 d1
         obtain ⟨a0, b0, a1, b1⟩ := HO8.out.px
         obtain ⟨c0, d0, c1, d1⟩ := HO8.out.py
         go_wp2_with fail
         have H1 := HO8.out.putX hG8.out
         have H2 : GcO w (st2 (st2 (st2 w8 X false G8 lr g8) X false D ly cy) Y false G8 lr g8) S X Y D ly cy y G8 lr g8 (x - v2) := (H1.putX H1.gy).putY (H1.gx.sto H1.px)
         go_roundg (gcM x y)
         case measure => exact HM.out
         case rel => exact ⟨D, ly, cy, y, G8, lr, g8, x - v2, gcM_step (by omega) hle, hly, hlr6, HRG, H2⟩
end Go.Proofs.YtgoemhcngmpfbaaGreatDoor
