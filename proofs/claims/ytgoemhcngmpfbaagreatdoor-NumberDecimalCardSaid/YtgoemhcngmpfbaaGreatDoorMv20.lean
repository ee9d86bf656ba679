/-
  The document's sum and difference of digits.
-/
import Derived.Test.YtgoemhcngmpfbaaGreatDoorMv19
import Derived.Test.YtgoemhcngmpfbaaGreatDoorMv02
import Derived.Test.YtgoemhcngmpfbaaGreatDoorMv08
import Derived.Deep.RegionHeld3
import Derived.Test.YtgoemhcngmpfbaaGreatDoorMv10
import Derived.Test.YtgoemhcngmpfbaaGreatDoorMv04
namespace Go.Proofs.YtgoemhcngmpfbaaGreatDoor
open Go.RowKit Go.Sort
def Fresh (w : World) (C : Option Addr) : Prop := ∀ b o, C = some ⟨b, o, none⟩ → w.heap.size ≤ b
theorem OwnK.fresh {k : IntKind} {E : TypeId} {w : World} {base n cap : Nat} {A : Option Addr} {l : List Int} (h : OwnK k E w base (.slice A n cap) l) : ∀ b o, A = some ⟨b, o, none⟩ → base ≤ b := fun b o e => by
 subst e
 rcases (show w.ownsRow base E 1 _ _ _ from h).2 with ⟨h1, _⟩ | ⟨g, c, _, h1, _⟩
 ·cases h1
 ·cases h1
  exact (World.ownsRow.lt (show w.ownsRow base E 1 _ _ _ from h) b rfl).1
theorem DgAt.setOther {w : World} {A : Option Addr} {L n : Nat} (h : DgAt w A L n) {p : Addr} (hp : ∀ b o, A = some ⟨b, o, none⟩ → b ≠ p.block) (v : Value) : DgAt (w.setCell p v) A L n := fun hL => by
 obtain ⟨b, o, e, hb, hc⟩ := h hL
 exact ⟨b, o, e, by rw [World.size_setCell]; exact hb, fun i hi => (World.cell?_setCell_other _ _ _ _ (fun e2 => hp b o e (by rw [e2]))).trans (hc i hi)⟩
end Go.Proofs.YtgoemhcngmpfbaaGreatDoor
namespace Go.Proofs.YtgoemhcngmpfbaaGreatDoor
open Go.RowKit Go.Sort
structure Good (w : World) (s : Bool) (A : Option Addr) (L cap n : Nat) : Prop where
 digs : DgAt w A L n
 len : nl n = L
 cap : Cap L cap
 sg : sgn s n = s
section
variable {w w' : World} {s : Bool} {A : Option Addr} {L cap n : Nat}
theorem Good.keep {B : Nat} (h : Good w s A L cap n) (hb : Below B w w') (hB : w.heap.size ≤ B) : Good w' s A L cap n := ⟨h.digs.keep hb hB, h.len, h.cap, h.sg⟩
theorem Good.below (h : Good w s A L cap n) (hb : Below w.heap.size w w') : Good w' s A L cap n := ⟨h.digs.below hb, h.len, h.cap, h.sg⟩
end
theorem two_nums (w : World) (s : Bool) (A : Option Addr) (L ca : Nat) (t : Bool) (B : Option Addr) (M cb S : Nat) (hS : w.heap.size = S) : NumAt ((w.alloc (boxN s A L ca)).alloc (boxN t B M cb)) S s A L ca ∧ NumAt ((w.alloc (boxN s A L ca)).alloc (boxN t B M cb)) (S + 1) t B M cb ∧ Below S w ((w.alloc (boxN s A L ca)).alloc (boxN t B M cb)) ∧ ((w.alloc (boxN s A L ca)).alloc (boxN t B M cb)).heap.size = S + 1 + 1 := by
 subst hS
 refine ⟨(NumAt.new w s A L ca).alloc _, ?_, (below_alloc w _).alloc (by simp) _, by simp⟩
 have := NumAt.new (w.alloc (boxN s A L ca)) t B M cb
 simpa using this
set_option maxRecDepth 100000 in
set_option maxHeartbeats 4000000 in
theorem Cmp_run7 (s : Bool) (A : Option Addr) (L ca n : Nat) (t : Bool) (B : Option Addr) (M cb m : Nat) (c : Int) (w : World) (ha : Hid (Good w s A L ca n)) (hb : Hid (Good w t B M cb m)) (hc : Hid (cmpS s n t m = c)) :
  Calls Tryz.prog 35 #[.agg #[.bool s, .slice A L ca], .agg #[.bool t, .slice B M cb]] w fun e w' => e = .returned (.int .i64 c) ∧ Below w.heap.size w w' := by
 have HB := Lib.hid (two_nums w s A L ca t B M cb w.heap.size rfl).2.2.1
 have HO : Hid (∀ W, Below w.heap.size w W → Calls Tryz.prog 75 #[.slice A L ca, .slice B M cb] W fun e w' => e = .returned (.int .i64 (cmpN n m)) ∧ Below W.heap.size W w') := fun W hW =>
  Order_run7 A B L M ca cb n m _ W (ha.out.digs.keep hW (Nat.le_refl _)) (hb.out.digs.keep hW (Nat.le_refl _)) ha.out.len hb.out.len ha.out.cap hb.out.cap rfl
 have HP : Hid (∀ W, Below w.heap.size w W → Calls Tryz.prog 75 #[.slice B M cb, .slice A L ca] W fun e w' => e = .returned (.int .i64 (cmpN m n)) ∧ Below W.heap.size W w') := fun W hW =>
  Order_run7 B A M L cb ca m n _ W (hb.out.digs.keep hW (Nat.le_refl _)) (ha.out.digs.keep hW (Nat.le_refl _)) hb.out.len ha.out.len hb.out.cap ha.out.cap rfl
 have hcc := hc.out
 unfold cmpS at hcc
 rw [ha.out.sg, hb.out.sg] at hcc
 have hsz : Hid (w.heap.size ≤ ((w.alloc (boxN s A L ca)).alloc (boxN t B M cb)).heap.size) := by show _ ≤ _; simp; omega
 cases s <;> cases t <;> simp only [if_true, if_false, Bool.false_eq_true] at hcc <;> subst hcc
 ·go_enter Tryz.func35, Tryz.ntmps35
  go_wp2_with fail
  refine (HO.out _ HB.out).mono ?_
  rintro e w1 ⟨rfl, hw1⟩
  have B1 : Hid (Below w.heap.size w w1) := HB.out.trans (hw1.mono hsz.out)
  clear hw1
  go_wp2_with fail
  go_ret
  exact ⟨rfl, B1.out⟩
 ·go_enter Tryz.func35, Tryz.ntmps35
  go_wp2_with fail
  go_ret
  exact ⟨rfl, HB.out⟩
 ·go_enter Tryz.func35, Tryz.ntmps35
  go_wp2_with fail
  go_ret
  exact ⟨rfl, HB.out⟩
 ·go_enter Tryz.func35, Tryz.ntmps35
  go_wp2_with fail
  refine (HP.out _ HB.out).mono ?_
  rintro e w1 ⟨rfl, hw1⟩
  have B1 : Hid (Below w.heap.size w w1) := HB.out.trans (hw1.mono hsz.out)
  clear hw1
  go_wp2_with fail
  go_ret
  exact ⟨rfl, B1.out⟩
end Go.Proofs.YtgoemhcngmpfbaaGreatDoor
namespace Go.Proofs.YtgoemhcngmpfbaaGreatDoor
open Go.RowKit Go.Sort
def DigF (w : World) (g : Nat) (f : Nat → Nat) (k : Nat) : Prop := ∀ i, i < k → w.cell? ⟨g, i, none⟩ = some (.int .i64 (f i : Int)) ∧ w.frozen? ⟨g, i, none⟩ = false
section
variable {w w' : World} {g k : Nat} {f h : Nat → Nat}
theorem DigF.keep {B : Nat} (d : DigF w g f k) (hb : Below B w w') (hB : g < B) : DigF w' g f k := fun i hi =>
 ⟨(hb.cell (p := ⟨g, i, none⟩) hB).trans (d i hi).1, (hb.frozen (p := ⟨g, i, none⟩) hB).trans (d i hi).2⟩
theorem DigF.but {c : Nat} (d : DigF w g f k) (hw : But1 w w' c) (hne : g ≠ c) : DigF w' g f k := fun i hi =>
 ⟨(hw.1 ⟨g, i, none⟩ hne).1.trans (d i hi).1, (hw.1 ⟨g, i, none⟩ hne).2.trans (d i hi).2⟩
theorem DigF.drew (d : DigF w g f k) : DigF w.drew g f k := d
theorem DigF.drewN (d : DigF w g f k) (m : Nat) : DigF (w.drewN m) g f k := d
theorem DigF.ext (d : DigF w g f k) (e : ∀ i, i < k → f i = h i) : DigF w g h k := fun i hi => by rw [← e i hi]; exact d i hi
theorem DigF.upd (d : DigF w g f k) {i : Nat} (hi : i < k) (v : Nat) : DigF (w.setCell ⟨g, i, none⟩ (.int .i64 (v : Int))) g (updF f i v) k := fun j hj => by
 refine ⟨?_, by rw [World.frozen?_setCell]; exact (d j hj).2⟩
 by_cases e : j = i
 ·subst e
  rw [updF_same]
  exact World.cell?_setCell_same _ _ _ (d j hj).1
 ·rw [updF_other e]
  exact (World.cell?_setCell_other _ _ _ _ (fun e2 => e (by injection e2 with _ e3 _; exact e3.symm))).trans (d j hj).1
theorem DigF.at_ (d : DigF w g f k) (hg : g < w.heap.size) {n : Nat} (e : ∀ i, i < k → f i = dg n i) : DgAt w (some ⟨g, 0, none⟩) k n := fun _ =>
 ⟨g, 0, rfl, hg, fun i hi => by rw [Nat.zero_add, ← e i hi]; exact (d i hi).1⟩
end
end Go.Proofs.YtgoemhcngmpfbaaGreatDoor
namespace Go.Proofs.YtgoemhcngmpfbaaGreatDoor
open Go.RowKit Go.Sort
theorem NumAt.range {w : World} {b L cap : Nat} {s : Bool} {A : Option Addr} (h : NumAt w b s A L cap) : w.rangeAt b 0 [.bool s, .slice A L cap] := by
 intro j v hv
 rw [Nat.zero_add]
 rcases j with _ | _ | j
 ·exact h.c0.trans hv
 ·exact h.c1.trans hv
 ·simp at hv
theorem NumAt.there {w : World} {b L cap : Nat} {s : Bool} {A : Option Addr} (h : NumAt w b s A L cap) : w.there b 0 2 := by
 intro j hj
 rw [Nat.zero_add]
 rcases j with _ | _ | j
 ·exact ⟨by rw [h.c0]; rfl, h.f0⟩
 ·exact ⟨by rw [h.c1]; rfl, h.f1⟩
 ·omega
theorem wp_callx {P : Program} {Q : Exit → Act → World → Prop} {o : Oper} {K : Act → World → Prop} {a : Act} {w : World} {f : Nat} {xs : List Operand} {ts : Array TypeId} (hop : o.op = .call { callee := .value (.func f), args := xs.toArray, argTypes := ts }) (hen : EntersP P f)
  {args : List Value} (hargs : xs.map a.eval = args) {α : Type} {v : α → Value} {R : α → World → Prop} (hc : Calls P f args.toArray w fun e w' => ∃ x, e = .returned (v x) ∧ R x w') (hk : ∀ x w', R x w' → K (a.put o.dst (v x)) w') : o.wp P a w K Q := by
 have hrun : (execOp a.eval o).run P w = .ok (.enter f args.toArray) w := by
  have h1 : (resolve a.eval { callee := .value (.func f), args := xs.toArray, argTypes := ts } o.type).run P w = .ok { target := .fn (.func f) #[], args := args.toArray } w := by
   simp [resolve, Act.eval, Deferred.ofValue, ← hargs]
  unfold execOp
  simp only [hop, Sem.run_bind, h1, Result.andThen_ok, invoke, Array.append_empty, hen args.toArray w]
 unfold Oper.wp
 rw [hrun, Oper.upon_enter]
 refine hc.mono ?_
 rintro e w' ⟨x, rfl, hr⟩
 exact hk x w' hr
end Go.Proofs.YtgoemhcngmpfbaaGreatDoor
namespace Go.Proofs.YtgoemhcngmpfbaaGreatDoor
open Go.RowKit Go.Sort
set_option linter.unusedSimpArgs false
theorem Good.sto {w : World} {s u t : Bool} {A B C : Option Addr} {L M K b n ca cb cc : Nat} (h : Good w s A L ca n) (hb : NumAt w b u B M cb) : Good (st2 w b t C K cc) s A L ca n := by
 refine ⟨?_, h.len, h.cap, h.sg⟩
 have h1 := h.digs.set hb.c0 (fun x e => by cases e) (.bool t)
 exact h1.set ((World.cell?_setCell_other _ _ _ _ (by simp)).trans hb.c1) (fun x e => by cases e) _
theorem Good.drew {w : World} {s : Bool} {A : Option Addr} {L ca n : Nat} (h : Good w s A L ca n) : Good w.drew s A L ca n := ⟨h.digs.drew, h.len, h.cap, h.sg⟩
structure GcI (w W : World) (S : Nat) (s : Bool) (A : Option Addr) (L ca : Nat) (t : Bool) (B : Option Addr) (M cb n m : Nat) : Prop where
 pa : NumAt W S s A L ca
 pb : NumAt W (S + 1) t B M cb
 pz : NumAt W (S + 1 + 1) false none 0 0
 ga : Good W false A L ca n
 gb : Good W false B M cb m
 bl : Below S w W
section
variable {w W W' : World} {S L ca M cb n m : Nat} {s t : Bool} {A B : Option Addr}
theorem GcI.sz (h : GcI w W S s A L ca t B M cb n m) : S + 1 + 1 + 1 ≤ W.heap.size := h.pz.lt
theorem GcI.below (h : GcI w W S s A L ca t B M cb n m) (hw : Below W.heap.size W W') : GcI w W' S s A L ca t B M cb n m :=
 ⟨h.pa.below hw, h.pb.below hw, h.pz.below hw, h.ga.below hw, h.gb.below hw, h.bl.trans (hw.mono (by have := h.sz; omega))⟩
theorem GcI.alloc (h : GcI w W S s A L ca t B M cb n m) (o : Obj) : GcI w (W.alloc o) S s A L ca t B M cb n m := h.below (below_alloc W o)
theorem GcI.drew (h : GcI w W S s A L ca t B M cb n m) : GcI w W.drew S s A L ca t B M cb n m := ⟨h.pa.drew, h.pb.drew, h.pz.drew, h.ga.drew, h.gb.drew, h.bl.drew⟩
theorem GcI.sto (h : GcI w W S s A L ca t B M cb n m) {b l c : Nat} {u : Bool} {C : Option Addr} (hb : NumAt W b u C l c) (hS : S + 1 + 1 + 1 ≤ b) (v : Bool) (D : Option Addr) (k d : Nat) : GcI w (st2 W b v D k d) S s A L ca t B M cb n m :=
 ⟨h.pa.but (st2_but W b v D k d) (by omega), h.pb.but (st2_but W b v D k d) (by omega), h.pz.but (st2_but W b v D k d) (by omega), h.ga.sto hb, h.gb.sto hb, (st2_but W b v D k d).2.1 S w (by omega) h.bl⟩
end
structure GcO (w W : World) (S X Y : Nat) (A : Option Addr) (L ca n : Nat) (B : Option Addr) (M cb m : Nat) : Prop where
 px : NumAt W X false A L ca
 py : NumAt W Y false B M cb
 gx : Good W false A L ca n
 gy : Good W false B M cb m
 pz : NumAt W (S + 1 + 1) false none 0 0
 bl : Below S w W
 hX : S + 1 + 1 + 1 ≤ X
 hY : S + 1 + 1 + 1 ≤ Y
 hne : X ≠ Y
section
variable {w W W' : World} {S X Y L ca M cb n m : Nat} {A B : Option Addr}
theorem GcO.sz (h : GcO w W S X Y A L ca n B M cb m) : S + 1 + 1 + 1 ≤ W.heap.size := h.pz.lt
theorem GcO.below (h : GcO w W S X Y A L ca n B M cb m) (hw : Below W.heap.size W W') : GcO w W' S X Y A L ca n B M cb m :=
 ⟨h.px.below hw, h.py.below hw, h.gx.below hw, h.gy.below hw, h.pz.below hw, h.bl.trans (hw.mono (by have := h.sz; omega)), h.hX, h.hY, h.hne⟩
theorem GcO.alloc (h : GcO w W S X Y A L ca n B M cb m) (o : Obj) : GcO w (W.alloc o) S X Y A L ca n B M cb m := h.below (below_alloc W o)
theorem GcO.drew (h : GcO w W S X Y A L ca n B M cb m) : GcO w W.drew S X Y A L ca n B M cb m := ⟨h.px.drew, h.py.drew, h.gx.drew, h.gy.drew, h.pz.drew, h.bl.drew, h.hX, h.hY, h.hne⟩
theorem GcO.sto (h : GcO w W S X Y A L ca n B M cb m) {b l c : Nat} {u : Bool} {C : Option Addr} (hb : NumAt W b u C l c) (hS : S + 1 + 1 + 1 ≤ b) (h1 : X ≠ b) (h2 : Y ≠ b) (v : Bool) (D : Option Addr) (k d : Nat) : GcO w (st2 W b v D k d) S X Y A L ca n B M cb m :=
 ⟨h.px.but (st2_but W b v D k d) h1, h.py.but (st2_but W b v D k d) h2, h.gx.sto hb, h.gy.sto hb, h.pz.but (st2_but W b v D k d) (by omega), (st2_but W b v D k d).2.1 S w (by omega) h.bl, h.hX, h.hY, h.hne⟩
end
end Go.Proofs.YtgoemhcngmpfbaaGreatDoor
namespace Go.Proofs.YtgoemhcngmpfbaaGreatDoor
open Go.RowKit Go.Sort
inductive Bx where
 | num (b : Nat) (s : Bool) (A : Option Addr) (L c : Nat)
 | int (b : Nat) (s : Bool) (n : Nat)
 | rat (b : Nat) (s : Bool) (n : Nat) (t : Bool) (d : Nat)
 | one (b : Nat) (v : Value)
 | row (b : Nat) (v : Value) (vs : List Value)
 | dig (s : Bool) (A : Option Addr) (L c n : Nat)
def Bx.At (w : World) : Bx → Prop
 | .num b s A L c => NumAt w b s A L c
 | .int b s n => IntAt w b s n
 | .rat b s n t d => RatAt w b s n t d
 | .one b v => w.cell? ⟨b, 0, none⟩ = some v ∧ w.frozen? ⟨b, 0, none⟩ = false
 | .row b v vs => w.rangeAt b 0 (v :: vs)
 | .dig s A L c n => Good w s A L c n
def Bx.blk : Bx → Option Nat
 | .num b .. => some b
 | .int b .. => some b
 | .rat b .. => some b
 | .one b _ => some b
 | .row b _ _ => some b
 | .dig .. => none
theorem lt_of_cell {w : World} {b o : Nat} {v : Value} (h : w.cell? ⟨b, o, none⟩ = some v) : b < w.heap.size := by
 rcases Nat.lt_or_ge b w.heap.size with h1 | h1
 ·exact h1
 ·simp [World.cell?, Array.getElem?_eq_none h1] at h
theorem Bx.At.lt {w : World} {x : Bx} (h : x.At w) {b : Nat} (e : x.blk = some b) : b < w.heap.size := by
 cases x with
 | num b' s A L c => cases e; exact NumAt.lt h
 | int b' s n => cases e; exact lt_of_cell (IntAt.sign h)
 | rat b' s n t d => cases e; exact lt_of_cell (RatAt.num h).sign
 | one b' v => cases e; exact lt_of_cell (show _ ∧ _ from h).1
 | row b' v vs => cases e; exact lt_of_cell ((show w.rangeAt _ 0 (v :: vs) from h) 0 v rfl)
 | dig s A L c n => cases e
theorem Bx.At.below {w w' : World} {x : Bx} (h : x.At w) (hw : Below w.heap.size w w') : x.At w' := by
 have hl := fun b => h.lt (b := b)
 cases x with
 | num b' s A L c => exact NumAt.below h hw
 | int b' s n => exact IntAt.keep h hw (hl _ rfl)
 | rat b' s n t d => exact RatAt.keep h hw (hl _ rfl)
 | one b' v =>
  have h1 : w.cell? ⟨b', 0, none⟩ = some v ∧ w.frozen? ⟨b', 0, none⟩ = false := h
  exact ⟨(hw.cell (p := ⟨b', 0, none⟩) (hl _ rfl)).trans h1.1, (hw.frozen (p := ⟨b', 0, none⟩) (hl _ rfl)).trans h1.2⟩
 | row b' v vs =>
  have h1 : w.rangeAt b' 0 (v :: vs) := h
  exact fun j u hu => (hw.cell (p := ⟨b', 0 + j, none⟩) (hl _ rfl)).trans (h1 j u hu)
 | dig s A L c n => exact Good.below h hw
theorem Bx.At.drew {w : World} {x : Bx} (h : x.At w) : x.At w.drew := by
 cases x with
 | num b' s A L c => exact NumAt.drew h
 | int b' s n => exact IntAt.drew h
 | rat b' s n t d => exact RatAt.drew h
 | one b' v => exact h
 | row b' v vs => exact h
 | dig s A L c n => exact Good.drew h
structure Sto (w w' : World) (c : Nat) : Prop where
 but : But1 w w' c
 dig : ∀ (A : Option Addr) (L n : Nat), DgAt w A L n → DgAt w' A L n
theorem Bx.At.sto {w w' : World} {x : Bx} {c : Nat} (h : x.At w) (hw : Sto w w' c) (hne : x.blk ≠ some c) : x.At w' := by
 cases x with
 | num b' s A L c' => exact NumAt.but h hw.but (fun e => hne (congrArg some e))
 | int b' s n => exact IntAt.but h hw.but (fun e => hne (congrArg some e))
 | rat b' s n t d => exact RatAt.but h hw.but (fun e => hne (congrArg some e))
 | one b' v =>
  have h1 : w.cell? ⟨b', 0, none⟩ = some v ∧ w.frozen? ⟨b', 0, none⟩ = false := h
  have e := hw.but.1 ⟨b', 0, none⟩ (fun e => hne (congrArg some e))
  exact ⟨e.1.trans h1.1, e.2.trans h1.2⟩
 | row b' v vs =>
  have h1 : w.rangeAt b' 0 (v :: vs) := h
  exact fun j u hu => (hw.but.1 ⟨b', 0 + j, none⟩ (fun e => hne (congrArg some e))).1.trans (h1 j u hu)
 | dig s A L c' n => exact ⟨hw.dig _ _ _ (Good.digs h), Good.len h, Good.cap h, Good.sg h⟩
theorem sto_range {w : World} {b o : Nat} {vs : List Value} (h : ∀ j, j < vs.length → ∃ u, w.cell? ⟨b, o + j, none⟩ = some u ∧ ∀ x, u ≠ .int .i64 x) : Sto w (w.setCells b o vs) b :=
 ⟨But1.setCells b vs o w, fun A L n g hL => by
  obtain ⟨b', o', e, hb, hc⟩ := g hL
  refine ⟨b', o', e, by rw [(But1.setCells b vs o w).2.2]; exact hb, fun i hi => ?_⟩
  have h1 := hc i hi
  rw [World.cell?_setCells_out b vs o w ⟨b', o' + i, none⟩ ?_]
  ·exact h1
  ·intro eb _
   show o' + i < o ∨ o + vs.length ≤ o' + i
   rcases Nat.lt_or_ge (o' + i) o with h2 | h2
   ·exact .inl h2
   ·rcases Nat.lt_or_ge (o' + i) (o + vs.length) with h3 | h3
    ·exfalso
     obtain ⟨u, hu, hx⟩ := h (o' + i - o) (by omega)
     have e2 : o + (o' + i - o) = o' + i := by omega
     have eb' : b' = b := eb
     rw [e2, ← eb', h1] at hu
     cases hu
     exact hx _ rfl
    ·exact .inr h3⟩
theorem int_notint {w : World} {b o n : Nat} {s : Bool} (h : IntO w b o s n) (j : Nat) (hj : j < 9) : ∃ u, w.cell? ⟨b, o + j, none⟩ = some u ∧ ∀ x, u ≠ .int .i64 x := by
 rcases j with _ | j
 ·exact ⟨_, h.sign, fun x e => by cases e⟩
 ·have e : o + (j + 1) = o + 1 + j := by omega
  rw [e]
  exact ⟨_, (h.words j (by omega)).1, fun x e => by cases e⟩
theorem sto_int {w : World} {b n : Nat} {s : Bool} (h : IntAt w b s n) (t : Bool) (m : Nat) : Sto w (st9 w b t m) b := by
 rw [st9_eq]
 exact sto_range fun j hj => int_notint h.o j hj
theorem Sto.trans {u v w : World} {b : Nat} (h : Sto u v b) (g : Sto v w b) : Sto u w b := ⟨h.but.trans g.but, fun A L n d => g.dig A L n (h.dig A L n d)⟩
theorem sto_rat {w : World} {b n d : Nat} {s t : Bool} (h : RatAt w b s n t d) (s' : Bool) (n' : Nat) (t' : Bool) (d' : Nat) : Sto w (st18 w b s' n' t' d') b := by
 rw [st18_eq]
 have h1 : Sto w (w.setCells b 0 [.bool s', .int .u64 (wd n' 0 : Int), .int .u64 (wd n' 1 : Int), .int .u64 (wd n' 2 : Int), .int .u64 (wd n' 3 : Int), .int .u64 (wd n' 4 : Int), .int .u64 (wd n' 5 : Int), .int .u64 (wd n' 6 : Int), .int .u64 (wd n' 7 : Int)]) b := sto_range fun j hj => int_notint h.num j hj
 exact h1.trans (sto_range fun j hj => int_notint (h.den.apart (.inr (by omega))) j hj)
structure Bs (w0 : World) (S : Nat) (l : List Bx) (w : World) : Prop where
 all : ∀ x ∈ l, x.At w
 low : ∀ x ∈ l, ∀ b, x.blk = some b → S ≤ b
 dist : (l.filterMap Bx.blk).Nodup
 bl : Below S w0 w
 sz : S ≤ w.heap.size
section
variable {w0 w w' : World} {S : Nat} {l : List Bx}
theorem Bs.start (w : World) {S : Nat} (h : w.heap.size = S) : Bs w S [] w := ⟨fun _ h => absurd h (by simp), fun _ h => absurd h (by simp), List.nodup_nil, Below.refl _ _, Nat.le_of_eq h.symm⟩
theorem Bs.at (h : Bs w0 S l w) (i : Nat) {x : Bx} (e : l[i]? = some x) : x.At w := h.all x (List.mem_of_getElem? e)
theorem Bs.num (h : Bs w0 S l w) (i : Nat) {b L c : Nat} {s : Bool} {A : Option Addr} (e : l[i]? = some (.num b s A L c)) : NumAt w b s A L c := h.at i e
theorem Bs.int (h : Bs w0 S l w) (i : Nat) {b n : Nat} {s : Bool} (e : l[i]? = some (.int b s n)) : IntAt w b s n := h.at i e
theorem Bs.rat (h : Bs w0 S l w) (i : Nat) {b n d : Nat} {s t : Bool} (e : l[i]? = some (.rat b s n t d)) : RatAt w b s n t d := h.at i e
theorem Bs.one (h : Bs w0 S l w) (i : Nat) {b : Nat} {v : Value} (e : l[i]? = some (.one b v)) : w.cell? ⟨b, 0, none⟩ = some v ∧ w.frozen? ⟨b, 0, none⟩ = false := h.at i e
theorem Bs.dig (h : Bs w0 S l w) (i : Nat) {s : Bool} {A : Option Addr} {L c n : Nat} (e : l[i]? = some (.dig s A L c n)) : Good w s A L c n := h.at i e
theorem Bs.row (h : Bs w0 S l w) (i : Nat) {b : Nat} {v : Value} {vs : List Value} (e : l[i]? = some (.row b v vs)) : w.rangeAt b 0 (v :: vs) := h.at i e
theorem Bs.below (h : Bs w0 S l w) (hw : Below w.heap.size w w') : Bs w0 S l w' :=
 ⟨fun x hx => (h.all x hx).below hw, h.low, h.dist, h.bl.trans (hw.mono h.sz), Nat.le_trans h.sz hw.size⟩
theorem Bs.drew (h : Bs w0 S l w) : Bs w0 S l w.drew := ⟨fun x hx => (h.all x hx).drew, h.low, h.dist, h.bl.drew, h.sz⟩
theorem Bs.alloc (h : Bs w0 S l w) (o : Obj) : Bs w0 S l (w.alloc o) := h.below (below_alloc w o)
theorem Bs.sub {l' : List Bx} (h : Bs w0 S l w) (hs : l'.Sublist l) : Bs w0 S l' w :=
 ⟨fun x hx => h.all x (hs.subset hx), fun x hx => h.low x (hs.subset hx), (hs.filterMap _).nodup h.dist, h.bl, h.sz⟩
theorem Bs.blk_lt (h : Bs w0 S l w) {b : Nat} (hb : b ∈ l.filterMap Bx.blk) : b < w.heap.size := by
 obtain ⟨x, hx, e⟩ := List.mem_filterMap.1 hb
 exact (h.all x hx).lt e
theorem Bs.push (h : Bs w0 S l w) {x : Bx} {k : Nat} (hk : w.heap.size = k) (hw : Below w.heap.size w w') (hx : x.At w') (hb : x.blk = some k) : Bs w0 S (x :: l) w' := by
 have g := h.below hw
 refine ⟨fun y hy => ?_, fun y hy b e => ?_, ?_, g.bl, g.sz⟩
 ·rcases List.mem_cons.1 hy with rfl | hy
  ·exact hx
  ·exact g.all y hy
 ·rcases List.mem_cons.1 hy with rfl | hy
  ·rw [hb] at e
   cases e
   rw [← hk]
   exact h.sz
  ·exact g.low y hy b e
 ·rw [List.filterMap_cons_some hb]
  exact List.nodup_cons.2 ⟨fun hm => by have := h.blk_lt hm; omega, g.dist⟩
theorem Bs.pushRat (h : Bs w0 S l w) {k : Nat} (hk : w.heap.size = k) (s : Bool) (n : Nat) (t : Bool) (d : Nat) (T : TypeId) : Bs w0 S (.rat k s n t d :: l) (w.alloc (boxR s n t d T)) :=
 h.push hk (below_alloc w _) (x := .rat k s n t d) (by rw [← hk]; exact RatAt.new w s n t d T) rfl
theorem Bs.pushRatZ (h : Bs w0 S l w) {k : Nat} (hk : w.heap.size = k) (T : TypeId) : Bs w0 S (.rat k false 0 false 0 :: l) (w.alloc (boxRZ T)) :=
 h.push hk (below_alloc w _) (x := .rat k false 0 false 0) (by rw [← hk]; exact RatAt.zero w T) rfl
theorem Bs.pushInt (h : Bs w0 S l w) {k : Nat} (hk : w.heap.size = k) (s : Bool) (n : Nat) (T : TypeId) : Bs w0 S (.int k s n :: l) (w.alloc (boxI s n T)) :=
 h.push hk (below_alloc w _) (x := .int k s n) (by rw [← hk]; exact IntAt.new w s n T) rfl
theorem Bs.pushIntZ (h : Bs w0 S l w) {k : Nat} (hk : w.heap.size = k) (T : TypeId) : Bs w0 S (.int k false 0 :: l) (w.alloc (boxIZ T)) :=
 h.push hk (below_alloc w _) (x := .int k false 0) (by rw [← hk]; exact IntAt.zero w T) rfl
theorem Bs.pushOne (h : Bs w0 S l w) {k : Nat} (hk : w.heap.size = k) (v : Value) (T : TypeId) : Bs w0 S (.one k v :: l) (w.alloc (.cells #[v] T)) :=
 h.push hk (below_alloc w _) (x := .one k v) (by rw [← hk]; exact ⟨World.cell?_alloc_at _ _ _ _ rfl, World.frozen?_alloc_at _ _ _ _ rfl⟩) rfl
theorem Bs.apart (h : Bs w0 S l w) {i j : Nat} {x y : Bx} (hi : l[i]? = some x) (hj : l[j]? = some y) (hij : i ≠ j) {b : Nat} (hx : x.blk = some b) : y.blk ≠ some b := by
 intro hy
 have key : ∀ (l : List Bx) (i j : Nat), i < j → ∀ x y : Bx, l[i]? = some x → l[j]? = some y → x.blk = some b → y.blk = some b → (l.filterMap Bx.blk).Nodup → False := by
  intro l
  induction l with
  | nil => intro i j _ x y hi; simp at hi
  | cons z l ih =>
   intro i j hij x y hi hj hx hy hd
   have hd2 : (l.filterMap Bx.blk).Nodup := by
    cases hz : z.blk with
    | none => rwa [List.filterMap_cons_none hz] at hd
    | some c => rw [List.filterMap_cons_some hz] at hd; exact (List.nodup_cons.1 hd).2
   cases j with
   | zero => omega
   | succ j =>
    cases i with
    | zero =>
     have ez : z = x := by simpa using hi
     subst ez
     rw [List.filterMap_cons_some hx] at hd
     have hm : y ∈ l := List.mem_of_getElem? (by simpa using hj)
     exact (List.nodup_cons.1 hd).1 (List.mem_filterMap.2 ⟨y, hm, hy⟩)
    | succ i => exact ih i j (by omega) x y (by simpa using hi) (by simpa using hj) hx hy hd2
 rcases Nat.lt_or_ge i j with h1 | h1
 ·exact key l i j h1 x y hi hj hx hy h.dist
 ·exact key l j i (by omega) y x hj hi hy hx h.dist
theorem filterMap_set_blk : ∀ (l : List Bx) (i : Nat) (x y : Bx), l[i]? = some x → x.blk = y.blk → (l.set i y).filterMap Bx.blk = l.filterMap Bx.blk := by
 intro l
 induction l with
 | nil => intro i x y h; simp at h
 | cons z l ih =>
  intro i x y h e
  cases i with
  | zero =>
   have ez : z = x := by simpa using h
   subst ez
   show List.filterMap Bx.blk (y :: l) = _
   cases hz : z.blk with
   | none => rw [List.filterMap_cons_none (by rw [← e, hz]), List.filterMap_cons_none hz]
   | some c => rw [List.filterMap_cons_some (by rw [← e, hz]), List.filterMap_cons_some hz]
  | succ i =>
   show List.filterMap Bx.blk (z :: l.set i y) = _
   have := ih i x y (by simpa using h) e
   cases hz : z.blk with
   | none => rw [List.filterMap_cons_none hz, List.filterMap_cons_none hz, this]
   | some c => rw [List.filterMap_cons_some hz, List.filterMap_cons_some hz, this]
theorem Bs.put (h : Bs w0 S l w) (i : Nat) {x y : Bx} {b : Nat} (e : l[i]? = some x) (hx : x.blk = some b) (hy : y.blk = some b) (hs : Sto w w' b) (ha : y.At w') {l' : List Bx} (hl : l.set i y = l') : Bs w0 S l' w' := by
 subst hl
 have hSb := h.low x (List.mem_of_getElem? e) b hx
 refine ⟨fun z hz => ?_, fun z hz c ec => ?_, ?_, hs.but.2.1 S w0 hSb h.bl, by rw [hs.but.2.2]; exact h.sz⟩
 ·obtain ⟨j, hj⟩ := List.mem_iff_getElem?.1 hz
  by_cases hij : i = j
  ·subst hij
   have hl := (List.getElem?_eq_some_iff.1 e).1
   rw [List.getElem?_set_self hl] at hj
   cases hj
   exact ha
  ·rw [List.getElem?_set_ne hij] at hj
   exact (h.at j hj).sto hs (h.apart e hj hij hx)
 ·rcases List.mem_or_eq_of_mem_set hz with h1 | h1
  ·exact h.low z h1 c ec
  ·subst h1
   rw [hy] at ec
   cases ec
   exact hSb
 ·rw [filterMap_set_blk l i x y e (by rw [hx, hy])]
  exact h.dist
theorem Bs.putInt (h : Bs w0 S l w) (i : Nat) {b n : Nat} {s : Bool} (e : l[i]? = some (.int b s n)) (t : Bool) (m : Nat) {l' : List Bx} (hl : l.set i (.int b t m) = l') : Bs w0 S l' (st9 w b t m) :=
 h.put i e rfl (y := .int b t m) rfl (sto_int (h.int i e) t m) (st9_at (h.int i e)) hl
theorem Bs.putRat (h : Bs w0 S l w) (i : Nat) {b n d : Nat} {s t : Bool} (e : l[i]? = some (.rat b s n t d)) (s' : Bool) (n' : Nat) (t' : Bool) (d' : Nat) {l' : List Bx} (hl : l.set i (.rat b s' n' t' d') = l') : Bs w0 S l' (st18 w b s' n' t' d') :=
 h.put i e rfl (y := .rat b s' n' t' d') rfl (sto_rat (h.rat i e) s' n' t' d') (st18_at (h.rat i e)) hl
end
theorem alloc_int {a : Act} {w : World} {op : Oper} (ho : op.op = .alloc 25) : (execOp a.eval op).run Tryz.prog w = .ok (.value (.pointer (some ⟨w.heap.size, 0, none⟩))) (w.alloc (boxIZ 25)) := by
 unfold execOp
 simp only [ho]
 go_simp
end Go.Proofs.YtgoemhcngmpfbaaGreatDoor
