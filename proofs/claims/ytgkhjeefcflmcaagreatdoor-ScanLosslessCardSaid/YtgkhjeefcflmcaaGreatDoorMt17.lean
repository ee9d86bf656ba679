/-
  A table of boxes: what lies where, one fact for all of a function's own boxes; kept by calls, new boxes, draws and stores.
-/
import Derived.Test.YtgkhjeefcflmcaaGreatDoorMt16
import Derived.Test.YtgkhjeefcflmcaaGreatDoorMt10
import Derived.Test.YtgkhjeefcflmcaaGreatDoorMt14
import Derived.Test.YtgkhjeefcflmcaaGreatDoorMt03
import Derived.Test.YtgkhjeefcflmcaaGreatDoorMt15
import Derived.Test.YtgkhjeefcflmcaaGreatDoorMt08
import Derived.Deep.RegionHeld3
import Derived.Lib.IndexAny
import Derived.Lib.IndexBytes
namespace Go.Proofs.YtgkhjeefcflmcaaGreatDoor
open Go.RowKit Go.Sort
inductive Bx where
 | num (b : Nat) (s : Bool) (A : Option Addr) (L c : Nat)
 | int (b : Nat) (s : Bool) (n : Nat)
 | rat (b : Nat) (s : Bool) (n : Nat) (t : Bool) (d : Nat)
 | one (b : Nat) (v : Value)
 | row (b : Nat) (v : Value) (vs : List Value)
 | dig (s : Bool) (A : Option Addr) (L c n : Nat)
def Bx.At (w : World) : Bx → Prop
 | .num b s A L c => NumAt w b s A L c
 | .int b s n => IntAt w b s n
 | .rat b s n t d => RatAt w b s n t d
 | .one b v => w.cell? ⟨b, 0, none⟩ = some v ∧ w.frozen? ⟨b, 0, none⟩ = false
 | .row b v vs => w.rangeAt b 0 (v :: vs)
 | .dig s A L c n => Good w s A L c n
def Bx.blk : Bx → Option Nat
 | .num b .. => some b
 | .int b .. => some b
 | .rat b .. => some b
 | .one b _ => some b
 | .row b _ _ => some b
 | .dig .. => none
theorem lt_of_cell {w : World} {b o : Nat} {v : Value} (h : w.cell? ⟨b, o, none⟩ = some v) : b < w.heap.size := by
 rcases Nat.lt_or_ge b w.heap.size with h1 | h1
 ·exact h1
 ·simp [World.cell?, Array.getElem?_eq_none h1] at h
theorem Bx.At.lt {w : World} {x : Bx} (h : x.At w) {b : Nat} (e : x.blk = some b) : b < w.heap.size := by
 cases x with
 | num b' s A L c => cases e; exact NumAt.lt h
 | int b' s n => cases e; exact lt_of_cell (IntAt.sign h)
 | rat b' s n t d => cases e; exact lt_of_cell (RatAt.num h).sign
 | one b' v => cases e; exact lt_of_cell (show _ ∧ _ from h).1
 | row b' v vs => cases e; exact lt_of_cell ((show w.rangeAt _ 0 (v :: vs) from h) 0 v rfl)
 | dig s A L c n => cases e
theorem Bx.At.below {w w' : World} {x : Bx} (h : x.At w) (hw : Below w.heap.size w w') : x.At w' := by
 have hl := fun b => h.lt (b := b)
 cases x with
 | num b' s A L c => exact NumAt.below h hw
 | int b' s n => exact IntAt.keep h hw (hl _ rfl)
 | rat b' s n t d => exact RatAt.keep h hw (hl _ rfl)
 | one b' v =>
  have h1 : w.cell? ⟨b', 0, none⟩ = some v ∧ w.frozen? ⟨b', 0, none⟩ = false := h
  exact ⟨(hw.cell (p := ⟨b', 0, none⟩) (hl _ rfl)).trans h1.1, (hw.frozen (p := ⟨b', 0, none⟩) (hl _ rfl)).trans h1.2⟩
 | row b' v vs =>
  have h1 : w.rangeAt b' 0 (v :: vs) := h
  exact fun j u hu => (hw.cell (p := ⟨b', 0 + j, none⟩) (hl _ rfl)).trans (h1 j u hu)
 | dig s A L c n => exact Good.below h hw
theorem Bx.At.drew {w : World} {x : Bx} (h : x.At w) : x.At w.drew := by
 cases x with
 | num b' s A L c => exact NumAt.drew h
 | int b' s n => exact IntAt.drew h
 | rat b' s n t d => exact RatAt.drew h
 | one b' v => exact h
 | row b' v vs => exact h
 | dig s A L c n => exact Good.drew h
structure Sto (w w' : World) (c : Nat) : Prop where
 but : But1 w w' c
 dig : ∀ (A : Option Addr) (L n : Nat), DgAt w A L n → DgAt w' A L n
theorem Bx.At.sto {w w' : World} {x : Bx} {c : Nat} (h : x.At w) (hw : Sto w w' c) (hne : x.blk ≠ some c) : x.At w' := by
 cases x with
 | num b' s A L c' => exact NumAt.but h hw.but (fun e => hne (congrArg some e))
 | int b' s n => exact IntAt.but h hw.but (fun e => hne (congrArg some e))
 | rat b' s n t d => exact RatAt.but h hw.but (fun e => hne (congrArg some e))
 | one b' v =>
  have h1 : w.cell? ⟨b', 0, none⟩ = some v ∧ w.frozen? ⟨b', 0, none⟩ = false := h
  have e := hw.but.1 ⟨b', 0, none⟩ (fun e => hne (congrArg some e))
  exact ⟨e.1.trans h1.1, e.2.trans h1.2⟩
 | row b' v vs =>
  have h1 : w.rangeAt b' 0 (v :: vs) := h
  exact fun j u hu => (hw.but.1 ⟨b', 0 + j, none⟩ (fun e => hne (congrArg some e))).1.trans (h1 j u hu)
 | dig s A L c' n => exact ⟨hw.dig _ _ _ (Good.digs h), Good.len h, Good.cap h, Good.sg h⟩
theorem sto_range {w : World} {b o : Nat} {vs : List Value} (h : ∀ j, j < vs.length → ∃ u, w.cell? ⟨b, o + j, none⟩ = some u ∧ ∀ x, u ≠ .int .i64 x) : Sto w (w.setCells b o vs) b :=
 ⟨But1.setCells b vs o w, fun A L n g hL => by
  obtain ⟨b', o', e, hb, hc⟩ := g hL
  refine ⟨b', o', e, by rw [(But1.setCells b vs o w).2.2]; exact hb, fun i hi => ?_⟩
  have h1 := hc i hi
  rw [World.cell?_setCells_out b vs o w ⟨b', o' + i, none⟩ ?_]
  ·exact h1
  ·intro eb _
   show o' + i < o ∨ o + vs.length ≤ o' + i
   rcases Nat.lt_or_ge (o' + i) o with h2 | h2
   ·exact .inl h2
   ·rcases Nat.lt_or_ge (o' + i) (o + vs.length) with h3 | h3
    ·exfalso
     obtain ⟨u, hu, hx⟩ := h (o' + i - o) (by omega)
     have e2 : o + (o' + i - o) = o' + i := by omega
     have eb' : b' = b := eb
     rw [e2, ← eb', h1] at hu
     cases hu
     exact hx _ rfl
    ·exact .inr h3⟩
theorem int_notint {w : World} {b o n : Nat} {s : Bool} (h : IntO w b o s n) (j : Nat) (hj : j < 9) : ∃ u, w.cell? ⟨b, o + j, none⟩ = some u ∧ ∀ x, u ≠ .int .i64 x := by
 rcases j with _ | j
 ·exact ⟨_, h.sign, fun x e => by cases e⟩
 ·have e : o + (j + 1) = o + 1 + j := by omega
  rw [e]
  exact ⟨_, (h.words j (by omega)).1, fun x e => by cases e⟩
theorem sto_int {w : World} {b n : Nat} {s : Bool} (h : IntAt w b s n) (t : Bool) (m : Nat) : Sto w (st9 w b t m) b := by
 rw [st9_eq]
 exact sto_range fun j hj => int_notint h.o j hj
theorem Sto.trans {u v w : World} {b : Nat} (h : Sto u v b) (g : Sto v w b) : Sto u w b := ⟨h.but.trans g.but, fun A L n d => g.dig A L n (h.dig A L n d)⟩
theorem sto_rat {w : World} {b n d : Nat} {s t : Bool} (h : RatAt w b s n t d) (s' : Bool) (n' : Nat) (t' : Bool) (d' : Nat) : Sto w (st18 w b s' n' t' d') b := by
 rw [st18_eq]
 have h1 : Sto w (w.setCells b 0 [.bool s', .int .u64 (wd n' 0 : Int), .int .u64 (wd n' 1 : Int), .int .u64 (wd n' 2 : Int), .int .u64 (wd n' 3 : Int), .int .u64 (wd n' 4 : Int), .int .u64 (wd n' 5 : Int), .int .u64 (wd n' 6 : Int), .int .u64 (wd n' 7 : Int)]) b := sto_range fun j hj => int_notint h.num j hj
 exact h1.trans (sto_range fun j hj => int_notint (h.den.apart (.inr (by omega))) j hj)
structure Bs (w0 : World) (S : Nat) (l : List Bx) (w : World) : Prop where
 all : ∀ x ∈ l, x.At w
 low : ∀ x ∈ l, ∀ b, x.blk = some b → S ≤ b
 dist : (l.filterMap Bx.blk).Nodup
 bl : Below S w0 w
 sz : S ≤ w.heap.size
section
variable {w0 w w' : World} {S : Nat} {l : List Bx}
theorem Bs.start (w : World) {S : Nat} (h : w.heap.size = S) : Bs w S [] w := ⟨fun _ h => absurd h (by simp), fun _ h => absurd h (by simp), List.nodup_nil, Below.refl _ _, Nat.le_of_eq h.symm⟩
theorem Bs.at (h : Bs w0 S l w) (i : Nat) {x : Bx} (e : l[i]? = some x) : x.At w := h.all x (List.mem_of_getElem? e)
theorem Bs.num (h : Bs w0 S l w) (i : Nat) {b L c : Nat} {s : Bool} {A : Option Addr} (e : l[i]? = some (.num b s A L c)) : NumAt w b s A L c := h.at i e
theorem Bs.int (h : Bs w0 S l w) (i : Nat) {b n : Nat} {s : Bool} (e : l[i]? = some (.int b s n)) : IntAt w b s n := h.at i e
theorem Bs.rat (h : Bs w0 S l w) (i : Nat) {b n d : Nat} {s t : Bool} (e : l[i]? = some (.rat b s n t d)) : RatAt w b s n t d := h.at i e
theorem Bs.one (h : Bs w0 S l w) (i : Nat) {b : Nat} {v : Value} (e : l[i]? = some (.one b v)) : w.cell? ⟨b, 0, none⟩ = some v ∧ w.frozen? ⟨b, 0, none⟩ = false := h.at i e
theorem Bs.dig (h : Bs w0 S l w) (i : Nat) {s : Bool} {A : Option Addr} {L c n : Nat} (e : l[i]? = some (.dig s A L c n)) : Good w s A L c n := h.at i e
theorem Bs.row (h : Bs w0 S l w) (i : Nat) {b : Nat} {v : Value} {vs : List Value} (e : l[i]? = some (.row b v vs)) : w.rangeAt b 0 (v :: vs) := h.at i e
theorem Bs.below (h : Bs w0 S l w) (hw : Below w.heap.size w w') : Bs w0 S l w' :=
 ⟨fun x hx => (h.all x hx).below hw, h.low, h.dist, h.bl.trans (hw.mono h.sz), Nat.le_trans h.sz hw.size⟩
theorem Bs.drew (h : Bs w0 S l w) : Bs w0 S l w.drew := ⟨fun x hx => (h.all x hx).drew, h.low, h.dist, h.bl.drew, h.sz⟩
theorem Bs.alloc (h : Bs w0 S l w) (o : Obj) : Bs w0 S l (w.alloc o) := h.below (below_alloc w o)
theorem Bs.sub {l' : List Bx} (h : Bs w0 S l w) (hs : l'.Sublist l) : Bs w0 S l' w :=
 ⟨fun x hx => h.all x (hs.subset hx), fun x hx => h.low x (hs.subset hx), (hs.filterMap _).nodup h.dist, h.bl, h.sz⟩
theorem Bs.blk_lt (h : Bs w0 S l w) {b : Nat} (hb : b ∈ l.filterMap Bx.blk) : b < w.heap.size := by
 obtain ⟨x, hx, e⟩ := List.mem_filterMap.1 hb
 exact (h.all x hx).lt e
theorem Bs.push (h : Bs w0 S l w) {x : Bx} {k : Nat} (hk : w.heap.size = k) (hw : Below w.heap.size w w') (hx : x.At w') (hb : x.blk = some k) : Bs w0 S (x :: l) w' := by
 have g := h.below hw
 refine ⟨fun y hy => ?_, fun y hy b e => ?_, ?_, g.bl, g.sz⟩
 ·rcases List.mem_cons.1 hy with rfl | hy
  ·exact hx
  ·exact g.all y hy
 ·rcases List.mem_cons.1 hy with rfl | hy
  ·rw [hb] at e
   cases e
   rw [← hk]
   exact h.sz
  ·exact g.low y hy b e
 ·rw [List.filterMap_cons_some hb]
  exact List.nodup_cons.2 ⟨fun hm => by have := h.blk_lt hm; omega, g.dist⟩
theorem Bs.pushRat (h : Bs w0 S l w) {k : Nat} (hk : w.heap.size = k) (s : Bool) (n : Nat) (t : Bool) (d : Nat) (T : TypeId) : Bs w0 S (.rat k s n t d :: l) (w.alloc (boxR s n t d T)) :=
 h.push hk (below_alloc w _) (x := .rat k s n t d) (by rw [← hk]; exact RatAt.new w s n t d T) rfl
theorem Bs.pushRatZ (h : Bs w0 S l w) {k : Nat} (hk : w.heap.size = k) (T : TypeId) : Bs w0 S (.rat k false 0 false 0 :: l) (w.alloc (boxRZ T)) :=
 h.push hk (below_alloc w _) (x := .rat k false 0 false 0) (by rw [← hk]; exact RatAt.zero w T) rfl
theorem Bs.pushInt (h : Bs w0 S l w) {k : Nat} (hk : w.heap.size = k) (s : Bool) (n : Nat) (T : TypeId) : Bs w0 S (.int k s n :: l) (w.alloc (boxI s n T)) :=
 h.push hk (below_alloc w _) (x := .int k s n) (by rw [← hk]; exact IntAt.new w s n T) rfl
theorem Bs.pushIntZ (h : Bs w0 S l w) {k : Nat} (hk : w.heap.size = k) (T : TypeId) : Bs w0 S (.int k false 0 :: l) (w.alloc (boxIZ T)) :=
 h.push hk (below_alloc w _) (x := .int k false 0) (by rw [← hk]; exact IntAt.zero w T) rfl
theorem Bs.pushOne (h : Bs w0 S l w) {k : Nat} (hk : w.heap.size = k) (v : Value) (T : TypeId) : Bs w0 S (.one k v :: l) (w.alloc (.cells #[v] T)) :=
 h.push hk (below_alloc w _) (x := .one k v) (by rw [← hk]; exact ⟨World.cell?_alloc_at _ _ _ _ rfl, World.frozen?_alloc_at _ _ _ _ rfl⟩) rfl
theorem Bs.apart (h : Bs w0 S l w) {i j : Nat} {x y : Bx} (hi : l[i]? = some x) (hj : l[j]? = some y) (hij : i ≠ j) {b : Nat} (hx : x.blk = some b) : y.blk ≠ some b := by
 intro hy
 have key : ∀ (l : List Bx) (i j : Nat), i < j → ∀ x y : Bx, l[i]? = some x → l[j]? = some y → x.blk = some b → y.blk = some b → (l.filterMap Bx.blk).Nodup → False := by
  intro l
  induction l with
  | nil => intro i j _ x y hi; simp at hi
  | cons z l ih =>
   intro i j hij x y hi hj hx hy hd
   have hd2 : (l.filterMap Bx.blk).Nodup := by
    cases hz : z.blk with
    | none => rwa [List.filterMap_cons_none hz] at hd
    | some c => rw [List.filterMap_cons_some hz] at hd; exact (List.nodup_cons.1 hd).2
   cases j with
   | zero => omega
   | succ j =>
    cases i with
    | zero =>
     have ez : z = x := by simpa using hi
     subst ez
     rw [List.filterMap_cons_some hx] at hd
     have hm : y ∈ l := List.mem_of_getElem? (by simpa using hj)
     exact (List.nodup_cons.1 hd).1 (List.mem_filterMap.2 ⟨y, hm, hy⟩)
    | succ i => exact ih i j (by omega) x y (by simpa using hi) (by simpa using hj) hx hy hd2
 rcases Nat.lt_or_ge i j with h1 | h1
 ·exact key l i j h1 x y hi hj hx hy h.dist
 ·exact key l j i (by omega) y x hj hi hy hx h.dist
theorem filterMap_set_blk : ∀ (l : List Bx) (i : Nat) (x y : Bx), l[i]? = some x → x.blk = y.blk → (l.set i y).filterMap Bx.blk = l.filterMap Bx.blk := by
 intro l
 induction l with
 | nil => intro i x y h; simp at h
 | cons z l ih =>
  intro i x y h e
  cases i with
  | zero =>
   have ez : z = x := by simpa using h
   subst ez
   show List.filterMap Bx.blk (y :: l) = _
   cases hz : z.blk with
   | none => rw [List.filterMap_cons_none (by rw [← e, hz]), List.filterMap_cons_none hz]
   | some c => rw [List.filterMap_cons_some (by rw [← e, hz]), List.filterMap_cons_some hz]
  | succ i =>
   show List.filterMap Bx.blk (z :: l.set i y) = _
   have := ih i x y (by simpa using h) e
   cases hz : z.blk with
   | none => rw [List.filterMap_cons_none hz, List.filterMap_cons_none hz, this]
   | some c => rw [List.filterMap_cons_some hz, List.filterMap_cons_some hz, this]
theorem Bs.put (h : Bs w0 S l w) (i : Nat) {x y : Bx} {b : Nat} (e : l[i]? = some x) (hx : x.blk = some b) (hy : y.blk = some b) (hs : Sto w w' b) (ha : y.At w') {l' : List Bx} (hl : l.set i y = l') : Bs w0 S l' w' := by
 subst hl
 have hSb := h.low x (List.mem_of_getElem? e) b hx
 refine ⟨fun z hz => ?_, fun z hz c ec => ?_, ?_, hs.but.2.1 S w0 hSb h.bl, by rw [hs.but.2.2]; exact h.sz⟩
 ·obtain ⟨j, hj⟩ := List.mem_iff_getElem?.1 hz
  by_cases hij : i = j
  ·subst hij
   have hl := (List.getElem?_eq_some_iff.1 e).1
   rw [List.getElem?_set_self hl] at hj
   cases hj
   exact ha
  ·rw [List.getElem?_set_ne hij] at hj
   exact (h.at j hj).sto hs (h.apart e hj hij hx)
 ·rcases List.mem_or_eq_of_mem_set hz with h1 | h1
  ·exact h.low z h1 c ec
  ·subst h1
   rw [hy] at ec
   cases ec
   exact hSb
 ·rw [filterMap_set_blk l i x y e (by rw [hx, hy])]
  exact h.dist
theorem Bs.putInt (h : Bs w0 S l w) (i : Nat) {b n : Nat} {s : Bool} (e : l[i]? = some (.int b s n)) (t : Bool) (m : Nat) {l' : List Bx} (hl : l.set i (.int b t m) = l') : Bs w0 S l' (st9 w b t m) :=
 h.put i e rfl (y := .int b t m) rfl (sto_int (h.int i e) t m) (st9_at (h.int i e)) hl
theorem Bs.putRat (h : Bs w0 S l w) (i : Nat) {b n d : Nat} {s t : Bool} (e : l[i]? = some (.rat b s n t d)) (s' : Bool) (n' : Nat) (t' : Bool) (d' : Nat) {l' : List Bx} (hl : l.set i (.rat b s' n' t' d') = l') : Bs w0 S l' (st18 w b s' n' t' d') :=
 h.put i e rfl (y := .rat b s' n' t' d') rfl (sto_rat (h.rat i e) s' n' t' d') (st18_at (h.rat i e)) hl
end
end Go.Proofs.YtgkhjeefcflmcaaGreatDoor
namespace Go.Proofs.YtgkhjeefcflmcaaGreatDoor
open Go.RowKit Go.Sort
set_option linter.unusedSimpArgs false
theorem pfx_cases (l : List UInt8) : pfxB l = 0 ∨ pfxB l = 2 ∨ pfxB l = 8 ∨ pfxB l = 16 := by
 unfold pfxB
 split
 ·split
  ·split
   ·simp
   ·split
    ·simp
    ·split <;> simp
  ·simp
 ·simp
theorem sep_bool (p : Nat → Bool) (l : List UInt8) : ∃ b : Bool, b = true ↔ Sep p l := by
 by_cases h : Sep p l
 ·exact ⟨true, by simp [h]⟩
 ·exact ⟨false, by simp [h]⟩
def IntIs (l : List UInt8) (k n : Nat) : Prop :=
 (pfxB l ≠ 0 ∧ ((¬ Sep isHex (48 :: l.drop 2) ∧ k = 8 ∧ n = 0) ∨ (Sep isHex (48 :: l.drop 2) ∧ k = parK (pfxB l) (unsc (l.drop 2)) ∧ n = parN (pfxB l) (unsc (l.drop 2))))) ∨
 (pfxB l = 0 ∧ (((l = [] ∨ ¬ Sep isDig l) ∧ k = 8 ∧ n = 0) ∨
  (l ≠ [] ∧ Sep isDig l ∧ ((1 < (unsc l).length ∧ (unsc l)[0]? = some 48 ∧ k = parK 8 ((unsc l).drop 1) ∧ n = parN 8 ((unsc l).drop 1)) ∨
   (¬ (1 < (unsc l).length ∧ (unsc l)[0]? = some 48) ∧ k = parK 10 (unsc l) ∧ n = parN 10 (unsc l))))))
theorem int_is (l : List UInt8) : ∃ k n, IntIs l k n := by
 unfold IntIs
 by_cases h : pfxB l = 0
 ·by_cases h1 : l = [] ∨ ¬ Sep isDig l
  ·exact ⟨8, 0, .inr ⟨h, .inl ⟨h1, rfl, rfl⟩⟩⟩
  ·have h2 : l ≠ [] := fun e => h1 (.inl e)
   have h3 : Sep isDig l := Classical.byContradiction fun e => h1 (.inr e)
   by_cases h4 : 1 < (unsc l).length ∧ (unsc l)[0]? = some 48
   ·exact ⟨_, _, .inr ⟨h, .inr ⟨h2, h3, .inl ⟨h4.1, h4.2, rfl, rfl⟩⟩⟩⟩
   ·exact ⟨_, _, .inr ⟨h, .inr ⟨h2, h3, .inr ⟨h4, rfl, rfl⟩⟩⟩⟩
 ·by_cases h1 : Sep isHex (48 :: l.drop 2)
  ·exact ⟨_, _, .inl ⟨h, .inr ⟨h1, rfl, rfl⟩⟩⟩
  ·exact ⟨_, _, .inl ⟨h, .inl ⟨h1, rfl, rfl⟩⟩⟩
theorem Parse_bs (l : List UInt8) (B : Nat) (w : World) (hB : Base4 B) (hl : l.length ≤ 100000) :
  Calls Tryz.prog 133 #[.string (bs l), .int .i64 (B : Int)] w fun e w' => e = .returned (.tuple #[intV false (parN B l), errV (parK B l)]) ∧ Below w.heap.size w w' := by
 have := Parse_runL (bs l) B w hB (by rw [bs_size]; exact hl)
 rwa [bs_list] at this
theorem cat_bs (c : UInt8) (l : List UInt8) : (⟨#[c]⟩ : ByteArray) ++ bs l = bs (c :: l) := bytes_app [c] l
set_option maxRecDepth 100000 in
set_option maxHeartbeats 8000000 in
theorem Int_run (l : List UInt8) (k n : Nat) (w : World) (hl : l.length ≤ 10000) (h : Hid (IntIs l k n)) (hm : Hid (Ml w)) :
  Calls Tryz.prog 103 #[.string (bs l)] w fun e w' => e = .returned (.tuple #[intV false n, errV k]) ∧ Below w.heap.size w w' := by
 obtain ⟨S, hS⟩ : ∃ S, w.heap.size = S := ⟨_, rfl⟩
 have I0 := (Bs.start w hS).pushIntZ hS 92
 obtain ⟨W, hW⟩ : ∃ W, w.alloc (boxIZ 92) = W := ⟨_, rfl⟩
 rw [hW] at I0
 have I := Lib.hid I0
 have HM : Hid (∀ V, Below S w V → Ml V) := fun V hb => hm.out.below (by rw [hS]; exact hb)
 have HC := fun V => cutPrefix_run l V (by omega)
 clear I0 hm
 rw [hS]
 rcases h.out with ⟨hp, h⟩ | ⟨hp, h⟩
 ·
  rw [if_neg hp] at HC
  obtain ⟨B, hB⟩ : ∃ B, pfxB l = B := ⟨_, rfl⟩
  have hB4 : Base4 B := by
   rw [← hB]
   rcases pfx_cases l with h | h | h | h
   ·exact absurd h hp
   ·exact .inl h
   ·exact .inr (.inl h)
   ·exact .inr (.inr (.inr h))
  rw [hB] at HC hp h
  obtain ⟨m, hmd⟩ : ∃ m, l.drop 2 = m := ⟨_, rfl⟩
  rw [hmd] at HC h
  have hml : m.length ≤ 10000 := by rw [← hmd]; simp; omega
  have hBz : ((B : Int) == 0) = false := beq_eq_false_iff_ne.2 (by omega)
  have hsz := bs_size m
  have hcat := cat_bs 48 m
  replace HC := Lib.hid HC
  clear hp hB hmd
  obtain ⟨b, hb⟩ := sep_bool isHex (48 :: m)
  have HSP := Lib.hid (fun V => separated_run 2 isHex (48 :: m) b V (by simp; omega) hb (fun c V => has2_run c.toNat (UInt8.toNat_lt c) V))
  cases b
  ·
   have hE : Hid (k = 8 ∧ n = 0) := by
    rcases h with ⟨_, h1, h2⟩ | ⟨h0, _⟩
    ·exact ⟨h1, h2⟩
    ·exact absurd (hb.2 h0) (by decide)
   clear h hb
   go_enter Tryz.func103, Tryz.ntmps103
   go_wp2_with fail
   refine (HC.out _).mono ?_
   rintro e w1 ⟨rfl, hw⟩
   have I1 := Lib.hid (I.out.below hw)
   clear hw I hW
   go_wp2_with fail
   refine (HSP.out _).mono ?_
   rintro e w2 ⟨rfl, rfl⟩
   have HA := Lib.hid (I1.out.int 0 rfl)
   go_wp2_with (first | (with_reducible refine wpList_val (v := intV false 0) rfl (build_zeroN rfl) ?_) | (with_reducible refine wpList_store_int rfl (.tmp 2) (.tmp 18) rfl (b := S) (s := false) (n := 0) rfl rfl HA.out ?_))
   have I9 := I1.out.putInt 0 rfl false 0 rfl
   refine bodyPost_ret (v := .tuple #[intV false 0, .iface 35 (.int .i64 8)]) (results_int rfl rfl rfl (I9.int 0 rfl)) rfl ⟨?_, I9.bl⟩
   rw [hE.out.1, hE.out.2]
   rfl
  ·have hE : Hid (k = parK B (unsc m) ∧ n = parN B (unsc m)) := by
    rcases h with ⟨h0, _⟩ | ⟨_, h1, h2⟩
    ·exact absurd (hb.1 rfl) h0
    ·exact ⟨h1, h2⟩
   have hul := unsc_length m
   have HJ : Hid (∀ V, Ml V → Calls Tryz.prog 134 #[.string (bs m)] V fun e w' => e = .returned (.string (bs (unsc m))) ∧ Below V.heap.size V w') := fun V hV => join_run m V (by omega) hV
   have HP := Lib.hid (fun V => Parse_bs (unsc m) B V hB4 (by omega))
   clear h hb hul
   go_enter Tryz.func103, Tryz.ntmps103
   go_wp2_with fail
   refine (HC.out _).mono ?_
   rintro e w1 ⟨rfl, hw⟩
   have I1 := Lib.hid (I.out.below hw)
   clear hw I hW
   go_wp2_with fail
   refine (HSP.out _).mono ?_
   rintro e w2 ⟨rfl, rfl⟩
   go_wp2_with fail
   refine (HJ.out _ (HM.out _ I1.out.bl)).mono ?_
   rintro e w3 ⟨rfl, hw⟩
   have I2 := Lib.hid (I1.out.below hw)
   clear hw I1
   obtain ⟨ev, hev⟩ : ∃ ev, errV k = ev := ⟨_, rfl⟩
   rw [← hE.out.1, ← hE.out.2, hev] at HP
   have HEV := Lib.hid hev
   clear hev
   go_wp2_with fail
   refine (HP.out _).mono ?_
   rintro e w4 ⟨rfl, hw⟩
   have I3 := Lib.hid (I2.out.below hw)
   have HA := Lib.hid (I3.out.int 0 rfl)
   clear hw I2
   go_wp2_with (with_reducible refine wpList_store_int rfl (.tmp 2) (.tmp 24) rfl (b := S) (s := false) (n := n) rfl rfl HA.out ?_)
   have I9 := I3.out.putInt 0 rfl false n rfl
   refine bodyPost_ret (v := .tuple #[intV false n, ev]) (results_int rfl rfl rfl (I9.int 0 rfl)) rfl ⟨?_, I9.bl⟩
   rw [HEV.out]
 ·rw [hp, if_pos rfl] at HC
  simp only [Int.natCast_zero] at HC
  replace HC := Lib.hid HC
  have hsz := bs_size l
  rcases h with ⟨h0, hk, hn⟩ | ⟨hne, hsp, h⟩
  ·have hE : Hid (k = 8 ∧ n = 0) := ⟨hk, hn⟩
   by_cases hle : l.length = 0
   ·have hl0 : l = [] := List.eq_nil_of_length_eq_zero hle
    subst hl0
    have he : (bs []).toList.isEmpty = true := by rw [bs_isEmpty]; rfl
    clear h0 hle hp hk hn
    go_enter Tryz.func103, Tryz.ntmps103
    go_wp2_with fail
    refine (HC.out _).mono ?_
    rintro e w1 ⟨rfl, hw⟩
    have I1 := Lib.hid (I.out.below hw)
    clear hw I hW
    have HA := Lib.hid (I1.out.int 0 rfl)
    go_wp2_with (first | (with_reducible refine wpList_val (v := intV false 0) rfl (build_zeroN rfl) ?_) | (with_reducible refine wpList_store_int rfl (.tmp 2) (.tmp 33) rfl (b := S) (s := false) (n := 0) rfl rfl HA.out ?_))
    have I9 := I1.out.putInt 0 rfl false 0 rfl
    refine bodyPost_ret (v := .tuple #[intV false 0, .iface 35 (.int .i64 8)]) (results_int rfl rfl rfl (I9.int 0 rfl)) rfl ⟨?_, I9.bl⟩
    rw [hE.out.1, hE.out.2]
    rfl
   ·have hns : ¬ Sep isDig l := by
     rcases h0 with h0 | h0
     ·exact absurd (by rw [h0]; rfl) hle
     ·exact h0
    have he : (bs l).toList.isEmpty = false := by
     rw [bs_isEmpty]
     cases l with
     | nil => exact absurd rfl hle
     | cons a m => rfl
    have HSP := Lib.hid (fun V => separated_run 1 isDig l false V (by omega) (by simp [Hid, hns]) (fun c V => has1_run c.toNat (UInt8.toNat_lt c) V))
    clear h0 hle hp hk hn hns
    go_enter Tryz.func103, Tryz.ntmps103
    go_wp2_with fail
    refine (HC.out _).mono ?_
    rintro e w1 ⟨rfl, hw⟩
    have I1 := Lib.hid (I.out.below hw)
    clear hw I hW
    go_wp2_with fail
    refine (HSP.out _).mono ?_
    rintro e w2 ⟨rfl, rfl⟩
    have HA := Lib.hid (I1.out.int 0 rfl)
    go_wp2_with (first | (with_reducible refine wpList_val (v := intV false 0) rfl (build_zeroN rfl) ?_) | (with_reducible refine wpList_store_int rfl (.tmp 2) (.tmp 33) rfl (b := S) (s := false) (n := 0) rfl rfl HA.out ?_))
    have I9 := I1.out.putInt 0 rfl false 0 rfl
    refine bodyPost_ret (v := .tuple #[intV false 0, .iface 35 (.int .i64 8)]) (results_int rfl rfl rfl (I9.int 0 rfl)) rfl ⟨?_, I9.bl⟩
    rw [hE.out.1, hE.out.2]
    rfl
  ·have he : (bs l).toList.isEmpty = false := by
    rw [bs_isEmpty]
    cases l with
    | nil => exact absurd rfl hne
    | cons a m => rfl
   have HSP := Lib.hid (fun V => separated_run 1 isDig l true V (by omega) (by simp [Hid, hsp]) (fun c V => has1_run c.toNat (UInt8.toNat_lt c) V))
   have hul := unsc_length l
   have HJ : Hid (∀ V, Ml V → Calls Tryz.prog 134 #[.string (bs l)] V fun e w' => e = .returned (.string (bs (unsc l))) ∧ Below V.heap.size V w') := fun V hV => join_run l V (by omega) hV
   generalize unsc l = u at *
   have hsu := bs_size u
   clear hne hsp hp
   rcases h with ⟨h1, h2, h3, h4⟩ | ⟨h1, h3, h4⟩
   ·obtain ⟨u1, hu1d⟩ : ∃ u1, u.drop 1 = u1 := ⟨_, rfl⟩
    have hdr := bs_from u 1 _ rfl
    have hul1 : u1.length ≤ 10000 := by rw [← hu1d]; simp; omega
    rw [hu1d] at hdr h3 h4
    have hE : Hid (k = parK 8 u1 ∧ n = parN 8 u1) := ⟨h3, h4⟩
    clear hu1d
    have hx0 := bs_get h2
    rw [Int.natCast_zero] at hx0
    have hx0' : ∀ W, (Instr.index 9 (.string (bs u)) (.int .i64 0)).run Tryz.prog W = .ok (.int .u8 48) W := hx0
    have hu1 : (1 : Int) < (u.length : Int) := by omega
    have HP : Hid (∀ V, Calls Tryz.prog 133 #[.string (bs u1), .int .i64 8] V fun e w' => e = .returned (.tuple #[intV false (parN 8 u1), errV (parK 8 u1)]) ∧ Below V.heap.size V w') := fun V => Parse_bs u1 8 V (.inr (.inl rfl)) (by omega)
    clear h1 h2 h3 h4 hx0
    go_enter Tryz.func103, Tryz.ntmps103
    go_wp2_with fail
    refine (HC.out _).mono ?_
    rintro e w1 ⟨rfl, hw⟩
    have I1 := Lib.hid (I.out.below hw)
    clear hw I hW
    go_wp2_with fail
    refine (HSP.out _).mono ?_
    rintro e w2 ⟨rfl, rfl⟩
    go_wp2_with fail
    refine (HJ.out _ (HM.out _ I1.out.bl)).mono ?_
    rintro e w3 ⟨rfl, hw⟩
    have I2 := Lib.hid (I1.out.below hw)
    clear hw I1
    obtain ⟨ev, hev⟩ : ∃ ev, errV k = ev := ⟨_, rfl⟩
    rw [← hE.out.1, ← hE.out.2, hev] at HP
    have HEV := Lib.hid hev
    clear hev
    go_wp2_with fail
    refine (HP.out _).mono ?_
    rintro e w4 ⟨rfl, hw⟩
    have I3 := Lib.hid (I2.out.below hw)
    have HA := Lib.hid (I3.out.int 0 rfl)
    clear hw I2
    go_wp2_with (with_reducible refine wpList_store_int rfl (.tmp 2) (.tmp 48) rfl (b := S) (s := false) (n := n) rfl rfl HA.out ?_)
    have I9 := I3.out.putInt 0 rfl false n rfl
    refine bodyPost_ret (v := .tuple #[intV false n, ev]) (results_int rfl rfl rfl (I9.int 0 rfl)) rfl ⟨?_, I9.bl⟩
    rw [HEV.out]
   ·have hE : Hid (k = parK 10 u ∧ n = parN 10 u) := ⟨h3, h4⟩
    have HP : Hid (∀ V, Calls Tryz.prog 133 #[.string (bs u), .int .i64 10] V fun e w' => e = .returned (.tuple #[intV false (parN 10 u), errV (parK 10 u)]) ∧ Below V.heap.size V w') := fun V => Parse_bs u 10 V (.inr (.inr (.inl rfl))) (by omega)
    clear h3 h4
    by_cases hu1 : 1 < u.length
    ·have hu1z : (1 : Int) < (u.length : Int) := by omega
     obtain ⟨c, hc⟩ : ∃ c, u[0]? = some c := ⟨u[0], List.getElem?_eq_getElem (by omega)⟩
     have hx0 := bs_get hc
     rw [Int.natCast_zero] at hx0
     have e48 : ((c.toNat : Int) == 48) = false := by
      rw [eq48]
      have : c ≠ 48 := fun e => h1 ⟨hu1, by rw [hc, e]⟩
      simpa using this
     clear h1 hu1 hc
     generalize c.toNat = cn at *
     go_enter Tryz.func103, Tryz.ntmps103
     go_wp2_with fail
     refine (HC.out _).mono ?_
     rintro e w1 ⟨rfl, hw⟩
     have I1 := Lib.hid (I.out.below hw)
     clear hw I hW
     go_wp2_with fail
     refine (HSP.out _).mono ?_
     rintro e w2 ⟨rfl, rfl⟩
     go_wp2_with fail
     refine (HJ.out _ (HM.out _ I1.out.bl)).mono ?_
     rintro e w3 ⟨rfl, hw⟩
     have I2 := Lib.hid (I1.out.below hw)
     clear hw I1
     obtain ⟨ev, hev⟩ : ∃ ev, errV k = ev := ⟨_, rfl⟩
     rw [← hE.out.1, ← hE.out.2, hev] at HP
     have HEV := Lib.hid hev
     clear hev
     go_wp2_with fail
     refine (HP.out _).mono ?_
     rintro e w4 ⟨rfl, hw⟩
     have I3 := Lib.hid (I2.out.below hw)
     have HA := Lib.hid (I3.out.int 0 rfl)
     clear hw I2
     go_wp2_with (with_reducible refine wpList_store_int rfl (.tmp 2) (.tmp 52) rfl (b := S) (s := false) (n := n) rfl rfl HA.out ?_)
     have I9 := I3.out.putInt 0 rfl false n rfl
     refine bodyPost_ret (v := .tuple #[intV false n, ev]) (results_int rfl rfl rfl (I9.int 0 rfl)) rfl ⟨?_, I9.bl⟩
     rw [HEV.out]
    ·have hu1z : ¬ (1 : Int) < (u.length : Int) := by omega
     clear h1 hu1
     go_enter Tryz.func103, Tryz.ntmps103
     go_wp2_with fail
     refine (HC.out _).mono ?_
     rintro e w1 ⟨rfl, hw⟩
     have I1 := Lib.hid (I.out.below hw)
     clear hw I hW
     go_wp2_with fail
     refine (HSP.out _).mono ?_
     rintro e w2 ⟨rfl, rfl⟩
     go_wp2_with fail
     refine (HJ.out _ (HM.out _ I1.out.bl)).mono ?_
     rintro e w3 ⟨rfl, hw⟩
     have I2 := Lib.hid (I1.out.below hw)
     clear hw I1
     obtain ⟨ev, hev⟩ : ∃ ev, errV k = ev := ⟨_, rfl⟩
     rw [← hE.out.1, ← hE.out.2, hev] at HP
     have HEV := Lib.hid hev
     clear hev
     go_wp2_with fail
     refine (HP.out _).mono ?_
     rintro e w4 ⟨rfl, hw⟩
     have I3 := Lib.hid (I2.out.below hw)
     have HA := Lib.hid (I3.out.int 0 rfl)
     clear hw I2
     go_wp2_with (with_reducible refine wpList_store_int rfl (.tmp 2) (.tmp 52) rfl (b := S) (s := false) (n := n) rfl rfl HA.out ?_)
     have I9 := I3.out.putInt 0 rfl false n rfl
     refine bodyPost_ret (v := .tuple #[intV false n, ev]) (results_int rfl rfl rfl (I9.int 0 rfl)) rfl ⟨?_, I9.bl⟩
     rw [HEV.out]
theorem nbEnters_Of : EntersP Tryz.prog 135 := entersP_of Tryz.func135 (by kernel_rfl) rfl
set_option maxRecDepth 100000 in
set_option maxHeartbeats 4000000 in
theorem asRatio_run (s : Bool) (n : Nat) (w : World) :
  Calls Tryz.prog 104 #[intV s n] w fun e w' => e = .returned (ratV s n false 1) ∧ Below w.heap.size w w' := by
 have HO := Lib.hid (fun W => Of_run 1 W (by decide) (by decide))
 have hO : intV (decide ((1 : Int) < 0)) (1 : Int).natAbs = intV false 1 := rfl
 rw [hO] at HO
 obtain ⟨S, hS⟩ : ∃ S, w.heap.size = S := ⟨_, rfl⟩
 have I0 := (Bs.start w hS).pushInt hS s n 92
 have hz : (w.alloc (boxI s n 92)).heap.size = S + 1 := by simp [hS]
 have I1 := I0.pushRatZ hz 94
 obtain ⟨W, hW⟩ : ∃ W, (w.alloc (boxI s n 92)).alloc (boxRZ 94) = W := ⟨_, rfl⟩
 rw [hW] at I1
 have I := Lib.hid I1
 clear I0 hz I1 hO
 rw [hS]
 go_enter Tryz.func104, Tryz.ntmps104
 go_upto_region 1 with (with_reducible refine wpList_box_int rfl (.tmp 0) rfl rfl ?_)
 clear hW
 refine rg_begin (fun V => IntAt V S s n) (by kernel_rfl) (I.out.drew.int 1 rfl) (fun hS => ?_)
 refine rg_take 0 (intV s n) rfl (by kernel_rfl) (by kernel_rfl) (by kernel_rfl) (fun _ _ _ h => h) rfl (fun w hSw => ld_int (.tmp 1) rfl rfl hSw.o) hS ?_
 simp only [zA, zB, zC, Act.put, zD, zE, zF]
 refine rg_one 1 (by kernel_rfl) (rs_of rfl rfl (wp_call rfl nbEnters_Of rfl (HO.out _) (fun w3 hw3 => ⟨(I.out.drew.below hw3).int 1 rfl, ?_⟩)))
 have I3 := Lib.hid (I.out.drew.below hw3)
 have hS := I3.out.int 1 rfl
 clear hw3 I
 simp only [zA, zB, zC, Act.put, zD, zE, zF]
 refine rg_take 2 (ratV s n false 1) rfl (by kernel_rfl) (by kernel_rfl) (by kernel_rfl) (fun _ _ _ h => h) rfl (fun w hSw => build_rat (x := .tmp 3) (y := .tmp 4) rfl rfl rfl) hS ?_
 simp only [zA, zB, zC, Act.put, zD, zE, zF]
 have I4 := Lib.hid (I3.out.putRat 0 rfl s n false 1 rfl)
 refine rg_one 3 (by kernel_rfl) (rs_of rfl rfl (wp_store_mid 94 (.tmp 2) (.tmp 5) rfl (S + 1) 0 #[.bool s, .int .u64 (wd n 0 : Int), .int .u64 (wd n 1 : Int), .int .u64 (wd n 2 : Int), .int .u64 (wd n 3 : Int), .int .u64 (wd n 4 : Int), .int .u64 (wd n 5 : Int), .int .u64 (wd n 6 : Int), .int .u64 (wd n 7 : Int), .bool false, .int .u64 (wd 1 0 : Int), .int .u64 (wd 1 1 : Int), .int .u64 (wd 1 2 : Int), .int .u64 (wd 1 3 : Int), .int .u64 (wd 1 4 : Int), .int .u64 (wd 1 5 : Int), .int .u64 (wd 1 6 : Int), .int .u64 (wd 1 7 : Int)] rfl rfl (I3.out.rat 0 rfl).there infoRat (by simp [Value.oneCell']) ⟨I4.out.int 1 rfl, ?_⟩))
 simp only [zA, zB, zC, Act.put, zD, zE, zF]
 refine wpAnyH_done (by kernel_rfl) ?_ _
 (try simp only [Exit.inBlock, Exit.then])
 go_wp2_with fail
 refine bodyPost_ret (v := ratV s n false 1) (results_rat1 rfl rfl (I4.out.rat 0 rfl)) rfl ⟨rfl, ?_⟩
 exact I4.out.bl
end Go.Proofs.YtgkhjeefcflmcaaGreatDoor
namespace Go.Proofs.YtgkhjeefcflmcaaGreatDoor
open Go.RowKit Go.Sort
set_option linter.unusedSimpArgs false
def NumOut (z : Bool) (m n : Nat) (w : World) (e : Ending) (w' : World) : Prop := ∃ q : Option Addr × Nat, e = .returned (.agg #[.bool z, .slice q.1 m q.2]) ∧ (Good w' z q.1 m q.2 n ∧ Below w.heap.size w w')
theorem NumOut.mk {z : Bool} {m n : Nat} {w w' : World} {A : Option Addr} {c : Nat} (h : Good w' z A m c n) (hb : Below w.heap.size w w') : NumOut z m n w (.returned (.agg #[.bool z, .slice A m c])) w' := ⟨(A, c), rfl, h, hb⟩
end Go.Proofs.YtgkhjeefcflmcaaGreatDoor
namespace Go.Proofs.YtgkhjeefcflmcaaGreatDoor
open Go.RowKit Go.Sort
set_option linter.unusedSimpArgs false
theorem eq_byte {a k : UInt8} (h : a ≠ k) : ((a.toNat : Int) == (k.toNat : Int)) = false := by
 rw [beq_eq_false_iff_ne]
 intro e
 exact h (UInt8.toNat_inj.1 (by omega))
end Go.Proofs.YtgkhjeefcflmcaaGreatDoor
namespace Go.Proofs.YtgkhjeefcflmcaaGreatDoor
open Go.RowKit Go.Sort
def gidx (p : UInt8 → Bool) (t : List UInt8) : Int := if t.any p then ((t.takeWhile fun c => !p c).length : Int) else -1
theorem gidx_hit {p : UInt8 → Bool} {b : UInt8} (m : List UInt8) (h : p b = true) : gidx p (b :: m) = 0 := by
 unfold gidx
 rw [if_pos (by simp [h])]
 simp [h]
theorem gidx_miss {p : UInt8 → Bool} {b : UInt8} (m : List UInt8) (h : p b = false) : gidx p (b :: m) = if gidx p m == -1 then -1 else gidx p m + 1 := by
 unfold gidx
 cases hm : m.any p
 ·simp [h, hm]
 ·rw [if_pos (by simp [h, hm]), if_pos rfl, if_neg (by simp)]
  rw [List.takeWhile_cons_of_pos (by simp [h])]
  simp
theorem take_of_gidx (p : UInt8 → Bool) : ∀ t : List UInt8, t.take (t.takeWhile fun c => !p c).length = t.takeWhile fun c => !p c
 | [] => rfl
 | b :: m => by
  cases h : p b
  ·rw [List.takeWhile_cons_of_pos (by simp [h]), List.length_cons, List.take_succ_cons, take_of_gidx p m]
  ·rw [List.takeWhile_cons_of_neg (by simp [h])]; rfl
theorem drop_of_gidx (p : UInt8 → Bool) : ∀ t : List UInt8, t.drop ((t.takeWhile fun c => !p c).length + 1) = (t.dropWhile fun c => !p c).drop 1
 | [] => rfl
 | b :: m => by
  cases h : p b
  ·rw [List.takeWhile_cons_of_pos (by simp [h]), List.length_cons, List.drop_succ_cons, drop_of_gidx p m, List.dropWhile_cons_of_pos (by simp [h])]
  ·rw [List.takeWhile_cons_of_neg (by simp [h]), List.dropWhile_cons_of_neg (by simp [h])]; rfl
theorem none_of_gidx {p : UInt8 → Bool} : ∀ {t : List UInt8}, t.any p = false → (t.takeWhile fun c => !p c) = t ∧ (t.dropWhile fun c => !p c) = []
 | [], _ => ⟨rfl, rfl⟩
 | b :: m, h => by
  rw [List.any_cons, Bool.or_eq_false_iff] at h
  obtain ⟨h1, h2⟩ := none_of_gidx h.2
  rw [List.takeWhile_cons_of_pos (by simp [h.1]), List.dropWhile_cons_of_pos (by simp [h.1]), h1, h2]
  exact ⟨rfl, rfl⟩
theorem some_of_gidx {p : UInt8 → Bool} : ∀ {t : List UInt8}, t.any p = true → (t.dropWhile fun c => !p c) ≠ []
 | [], h => by cases h
 | b :: m, h => by
  cases hb : p b
  ·rw [List.dropWhile_cons_of_pos (by simp [hb])]
   rw [List.any_cons, hb, Bool.false_or] at h
   exact some_of_gidx h
  ·rw [List.dropWhile_cons_of_neg (by simp [hb])]
   simp
def isM (c : UInt8) : Bool := ([101, 69] : List UInt8).contains c
def isP (c : UInt8) : Bool := c == 46
theorem indexAny_mark : ∀ t : List UInt8, Lib.indexAny t [101, 69] = gidx isM t
 | [] => rfl
 | b :: m => by
  have ih := indexAny_mark m
  cases h : isM b
  ·rw [gidx_miss m h, ← ih]
   show (if ([101, 69] : List UInt8).contains b then _ else _) = _
   rw [show ([101, 69] : List UInt8).contains b = false from h]
   rfl
  ·rw [gidx_hit m h]
   show (if ([101, 69] : List UInt8).contains b then _ else _) = _
   rw [show ([101, 69] : List UInt8).contains b = true from h]
   rfl
theorem index_dot : ∀ t : List UInt8, Lib.index t [46] = gidx isP t
 | [] => rfl
 | b :: m => by
  have ih := index_dot m
  have hp : ([46] : List UInt8).isPrefixOf (b :: m) = isP b := by
   rw [pre_one]
   unfold isP
   rw [Bool.eq_iff_iff]
   simp only [beq_iff_eq]
   exact eq_comm
  cases h : isP b
  ·rw [gidx_miss m h, ← ih]
   show (if ([46] : List UInt8).isPrefixOf (b :: m) then _ else _) = _
   rw [hp, h]
   rfl
  ·rw [gidx_hit m h]
   show (if ([46] : List UInt8).isPrefixOf (b :: m) then _ else _) = _
   rw [hp, h]
   rfl
def preP (p : UInt8 → Bool) (t : List UInt8) : List UInt8 := t.takeWhile fun c => !p c
def postP (p : UInt8 → Bool) (t : List UInt8) : List UInt8 := (t.dropWhile fun c => !p c).drop 1
theorem cut_dot (t : List UInt8) : Lib.cut t [46] = (preP isP t, postP isP t, t.any isP) := by
 unfold Lib.cut preP postP
 rw [index_dot]
 cases h : t.any isP
 ·have h2 : gidx isP t = -1 := by unfold gidx; rw [h]; rfl
  rw [h2, if_neg (by decide), (none_of_gidx h).1, (none_of_gidx h).2]
  rfl
 ·have h2 : gidx isP t = ((t.takeWhile fun c => !isP c).length : Int) := by unfold gidx; rw [h]; rfl
  rw [h2, if_pos (by omega), Int.toNat_natCast, take_of_gidx]
  show (_, t.drop ((t.takeWhile fun c => !isP c).length + 1), true) = _
  rw [drop_of_gidx]
theorem split_mark {t : List UInt8} (h : t.any isM = true) : ∃ i : Nat, Lib.indexAny t [101, 69] = (i : Int) ∧ i < t.length ∧ t.take i = preP isM t ∧ t.drop (i + 1) = postP isM t := by
 refine ⟨(t.takeWhile fun c => !isM c).length, ?_, ?_, take_of_gidx isM t, drop_of_gidx isM t⟩
 ·rw [indexAny_mark]
  unfold gidx
  rw [h]
  rfl
 ·have h2 := List.takeWhile_append_dropWhile (p := fun c => !isM c) (l := t)
  have h3 : t.dropWhile (fun c => !isM c) ≠ [] := some_of_gidx h
  have h4 := congrArg List.length h2
  rw [List.length_append] at h4
  have h5 : 0 < (t.dropWhile fun c => !isM c).length := List.length_pos_iff.2 h3
  omega
theorem split_none {t : List UInt8} (h : t.any isM = false) : Lib.indexAny t [101, 69] = -1 ∧ preP isM t = t := by
 refine ⟨?_, (none_of_gidx h).1⟩
 rw [indexAny_mark]
 unfold gidx
 rw [h]
 rfl
def ptA (l : List UInt8) : List UInt8 := preP isM (unsc l)
def ptM (l : List UInt8) : Bool := (unsc l).any isM
def ptW (l : List UInt8) : List UInt8 := preP isP (ptA l)
def ptF (l : List UInt8) : List UInt8 := postP isP (ptA l)
def ptD (l : List UInt8) : Bool := (ptA l).any isP
def ptS (l : List UInt8) : List UInt8 := if ptM l then sgnL (postP isM (unsc l)) else []
def ptX (l : List UInt8) : List UInt8 := if ptM l then restL (postP isM (unsc l)) else [48]
def FloatOk (l : List UInt8) : Prop := Sep isDig l ∧ (ptD l || ptM l) = true ∧ decB (ptW l ++ ptF l) = true ∧ decB (ptX l) = true
theorem preP_len (p : UInt8 → Bool) (t : List UInt8) : (preP p t).length ≤ t.length := by
 unfold preP
 have h := congrArg List.length (List.takeWhile_append_dropWhile (p := fun c => !p c) (l := t))
 rw [List.length_append] at h
 omega
theorem postP_len (p : UInt8 → Bool) (t : List UInt8) : (postP p t).length ≤ t.length := by
 unfold postP
 have h := congrArg List.length (List.takeWhile_append_dropWhile (p := fun c => !p c) (l := t))
 rw [List.length_append] at h
 rw [List.length_drop]
 omega
theorem restL_len (l : List UInt8) : (restL l).length ≤ l.length := by
 cases l with
 | nil => simp [restL]
 | cons a m =>
  show (if isSgn a.toNat = true then m else a :: m).length ≤ _
  split <;> simp
end Go.Proofs.YtgkhjeefcflmcaaGreatDoor
