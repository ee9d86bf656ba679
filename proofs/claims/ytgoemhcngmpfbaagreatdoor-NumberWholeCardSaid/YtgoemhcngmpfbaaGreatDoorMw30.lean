/-
  A table of boxes: what lies where, one fact for all of a function's own boxes; kept by calls, new boxes, draws and stores.
-/
import Derived.Test.YtgoemhcngmpfbaaGreatDoorMw29
import Derived.Test.YtgoemhcngmpfbaaGreatDoorMw11

namespace Go.Proofs.YtgoemhcngmpfbaaGreatDoor
open Go.RowKit Go.Sort

/-- A box's block, kind and content (or the digits of a number, wherever they lie; or one cell). -/
inductive Bx where
  | num (b : Nat) (s : Bool) (A : Option Addr) (L c : Nat)
  | int (b : Nat) (s : Bool) (n : Nat)
  | rat (b : Nat) (s : Bool) (n : Nat) (t : Bool) (d : Nat)
  | one (b : Nat) (v : Value)
  | row (b : Nat) (v : Value) (vs : List Value)
  | dig (s : Bool) (A : Option Addr) (L c n : Nat)

def Bx.At (w : World) : Bx → Prop
  | .num b s A L c => NumAt w b s A L c
  | .int b s n => IntAt w b s n
  | .rat b s n t d => RatAt w b s n t d
  | .one b v => w.cell? ⟨b, 0, none⟩ = some v ∧ w.frozen? ⟨b, 0, none⟩ = false
  | .row b v vs => w.rangeAt b 0 (v :: vs)
  | .dig s A L c n => Good w s A L c n
def Bx.blk : Bx → Option Nat
  | .num b .. => some b
  | .int b .. => some b
  | .rat b .. => some b
  | .one b _ => some b
  | .row b _ _ => some b
  | .dig .. => none
theorem lt_of_cell {w : World} {b o : Nat} {v : Value} (h : w.cell? ⟨b, o, none⟩ = some v) : b < w.heap.size := by
  rcases Nat.lt_or_ge b w.heap.size with h1 | h1
  · exact h1
  · simp [World.cell?, Array.getElem?_eq_none h1] at h
theorem Bx.At.lt {w : World} {x : Bx} (h : x.At w) {b : Nat} (e : x.blk = some b) : b < w.heap.size := by
  cases x with
  | num b' s A L c => cases e; exact NumAt.lt h
  | int b' s n => cases e; exact lt_of_cell (IntAt.sign h)
  | rat b' s n t d => cases e; exact lt_of_cell (RatAt.num h).sign
  | one b' v => cases e; exact lt_of_cell (show _ ∧ _ from h).1
  | row b' v vs => cases e; exact lt_of_cell ((show w.rangeAt _ 0 (v :: vs) from h) 0 v rfl)
  | dig s A L c n => cases e
theorem Bx.At.below {w w' : World} {x : Bx} (h : x.At w) (hw : Below w.heap.size w w') : x.At w' := by
  have hl := fun b => h.lt (b := b)
  cases x with
  | num b' s A L c => exact NumAt.below h hw
  | int b' s n => exact IntAt.keep h hw (hl _ rfl)
  | rat b' s n t d => exact RatAt.keep h hw (hl _ rfl)
  | one b' v =>
    have h1 : w.cell? ⟨b', 0, none⟩ = some v ∧ w.frozen? ⟨b', 0, none⟩ = false := h
    exact ⟨(hw.cell (p := ⟨b', 0, none⟩) (hl _ rfl)).trans h1.1, (hw.frozen (p := ⟨b', 0, none⟩) (hl _ rfl)).trans h1.2⟩
  | row b' v vs =>
    have h1 : w.rangeAt b' 0 (v :: vs) := h
    exact fun j u hu => (hw.cell (p := ⟨b', 0 + j, none⟩) (hl _ rfl)).trans (h1 j u hu)
  | dig s A L c n => exact Good.below h hw
theorem Bx.At.drew {w : World} {x : Bx} (h : x.At w) : x.At w.drew := by
  cases x with
  | num b' s A L c => exact NumAt.drew h
  | int b' s n => exact IntAt.drew h
  | rat b' s n t d => exact RatAt.drew h
  | one b' v => exact h
  | row b' v vs => exact h
  | dig s A L c n => exact Good.drew h
/-- What a store leaves alone: other blocks, and digits (the store's cells hold no int). -/
structure Sto (w w' : World) (c : Nat) : Prop where
  but : But1 w w' c
  dig : ∀ (A : Option Addr) (L n : Nat), DgAt w A L n → DgAt w' A L n
theorem Bx.At.sto {w w' : World} {x : Bx} {c : Nat} (h : x.At w) (hw : Sto w w' c) (hne : x.blk ≠ some c) : x.At w' := by
  cases x with
  | num b' s A L c' => exact NumAt.but h hw.but (fun e => hne (congrArg some e))
  | int b' s n => exact IntAt.but h hw.but (fun e => hne (congrArg some e))
  | rat b' s n t d => exact RatAt.but h hw.but (fun e => hne (congrArg some e))
  | one b' v =>
    have h1 : w.cell? ⟨b', 0, none⟩ = some v ∧ w.frozen? ⟨b', 0, none⟩ = false := h
    have e := hw.but.1 ⟨b', 0, none⟩ (fun e => hne (congrArg some e))
    exact ⟨e.1.trans h1.1, e.2.trans h1.2⟩
  | row b' v vs =>
    have h1 : w.rangeAt b' 0 (v :: vs) := h
    exact fun j u hu => (hw.but.1 ⟨b', 0 + j, none⟩ (fun e => hne (congrArg some e))).1.trans (h1 j u hu)
  | dig s A L c' n => exact ⟨hw.dig _ _ _ (Good.digs h), Good.len h, Good.cap h, Good.sg h⟩
theorem sto_num {w : World} {b L c : Nat} {s : Bool} {A : Option Addr} (h : NumAt w b s A L c) (t : Bool) (B : Option Addr) (M d : Nat) : Sto w (st2 w b t B M d) b :=
  ⟨st2_but w b t B M d, fun A' L' n' g => by
    have h1 := g.set h.c0 (fun x e => by cases e) (.bool t)
    exact h1.set ((World.cell?_setCell_other _ _ _ _ (by simp)).trans h.c1) (fun x e => by cases e) _⟩
/-- Cells that hold no int, overwritten as a range. -/
theorem sto_range {w : World} {b o : Nat} {vs : List Value} (h : ∀ j, j < vs.length → ∃ u, w.cell? ⟨b, o + j, none⟩ = some u ∧ ∀ x, u ≠ .int .i64 x) : Sto w (w.setCells b o vs) b :=
  ⟨But1.setCells b vs o w, fun A L n g hL => by
    obtain ⟨b', o', e, hb, hc⟩ := g hL
    refine ⟨b', o', e, by rw [(But1.setCells b vs o w).2.2]; exact hb, fun i hi => ?_⟩
    have h1 := hc i hi
    rw [World.cell?_setCells_out b vs o w ⟨b', o' + i, none⟩ ?_]
    · exact h1
    · intro eb _
      show o' + i < o ∨ o + vs.length ≤ o' + i
      rcases Nat.lt_or_ge (o' + i) o with h2 | h2
      · exact .inl h2
      · rcases Nat.lt_or_ge (o' + i) (o + vs.length) with h3 | h3
        · exfalso
          obtain ⟨u, hu, hx⟩ := h (o' + i - o) (by omega)
          have e2 : o + (o' + i - o) = o' + i := by omega
          have eb' : b' = b := eb
          rw [e2, ← eb', h1] at hu
          cases hu
          exact hx _ rfl
        · exact .inr h3⟩
theorem int_notint {w : World} {b o n : Nat} {s : Bool} (h : IntO w b o s n) (j : Nat) (hj : j < 9) : ∃ u, w.cell? ⟨b, o + j, none⟩ = some u ∧ ∀ x, u ≠ .int .i64 x := by
  rcases j with _ | j
  · exact ⟨_, h.sign, fun x e => by cases e⟩
  · have e : o + (j + 1) = o + 1 + j := by omega
    rw [e]
    exact ⟨_, (h.words j (by omega)).1, fun x e => by cases e⟩
theorem sto_int {w : World} {b n : Nat} {s : Bool} (h : IntAt w b s n) (t : Bool) (m : Nat) : Sto w (st9 w b t m) b := by
  rw [st9_eq]
  exact sto_range fun j hj => int_notint h.o j hj
theorem Sto.trans {u v w : World} {b : Nat} (h : Sto u v b) (g : Sto v w b) : Sto u w b := ⟨h.but.trans g.but, fun A L n d => g.dig A L n (h.dig A L n d)⟩
theorem sto_rat {w : World} {b n d : Nat} {s t : Bool} (h : RatAt w b s n t d) (s' : Bool) (n' : Nat) (t' : Bool) (d' : Nat) : Sto w (st18 w b s' n' t' d') b := by
  rw [st18_eq]
  have h1 : Sto w (w.setCells b 0 [.bool s', .int .u64 (wd n' 0 : Int), .int .u64 (wd n' 1 : Int), .int .u64 (wd n' 2 : Int), .int .u64 (wd n' 3 : Int), .int .u64 (wd n' 4 : Int), .int .u64 (wd n' 5 : Int), .int .u64 (wd n' 6 : Int), .int .u64 (wd n' 7 : Int)]) b := sto_range fun j hj => int_notint h.num j hj
  exact h1.trans (sto_range fun j hj => int_notint (h.den.apart (.inr (by omega))) j hj)
theorem sto_one {w : World} {b : Nat} {v u : Value} (h : w.cell? ⟨b, 0, none⟩ = some v) (hv : ∀ x, v ≠ .int .i64 x) : Sto w (w.setCell ⟨b, 0, none⟩ u) b :=
  ⟨But1.setCell w b 0 u, fun _ _ _ g => g.set h hv u⟩
/-- The table. -/
structure Bs (w0 : World) (S : Nat) (l : List Bx) (w : World) : Prop where
  all : ∀ x ∈ l, x.At w
  low : ∀ x ∈ l, ∀ b, x.blk = some b → S ≤ b
  dist : (l.filterMap Bx.blk).Nodup
  bl : Below S w0 w
  sz : S ≤ w.heap.size
section
variable {w0 w w' : World} {S : Nat} {l : List Bx}
theorem Bs.start (w : World) {S : Nat} (h : w.heap.size = S) : Bs w S [] w := ⟨fun _ h => absurd h (by simp), fun _ h => absurd h (by simp), List.nodup_nil, Below.refl _ _, Nat.le_of_eq h.symm⟩
theorem Bs.at (h : Bs w0 S l w) (i : Nat) {x : Bx} (e : l[i]? = some x) : x.At w := h.all x (List.mem_of_getElem? e)
theorem Bs.num (h : Bs w0 S l w) (i : Nat) {b L c : Nat} {s : Bool} {A : Option Addr} (e : l[i]? = some (.num b s A L c)) : NumAt w b s A L c := h.at i e
theorem Bs.int (h : Bs w0 S l w) (i : Nat) {b n : Nat} {s : Bool} (e : l[i]? = some (.int b s n)) : IntAt w b s n := h.at i e
theorem Bs.rat (h : Bs w0 S l w) (i : Nat) {b n d : Nat} {s t : Bool} (e : l[i]? = some (.rat b s n t d)) : RatAt w b s n t d := h.at i e
theorem Bs.one (h : Bs w0 S l w) (i : Nat) {b : Nat} {v : Value} (e : l[i]? = some (.one b v)) : w.cell? ⟨b, 0, none⟩ = some v ∧ w.frozen? ⟨b, 0, none⟩ = false := h.at i e
theorem Bs.dig (h : Bs w0 S l w) (i : Nat) {s : Bool} {A : Option Addr} {L c n : Nat} (e : l[i]? = some (.dig s A L c n)) : Good w s A L c n := h.at i e
theorem Bs.row (h : Bs w0 S l w) (i : Nat) {b : Nat} {v : Value} {vs : List Value} (e : l[i]? = some (.row b v vs)) : w.rangeAt b 0 (v :: vs) := h.at i e
theorem Bs.below (h : Bs w0 S l w) (hw : Below w.heap.size w w') : Bs w0 S l w' :=
  ⟨fun x hx => (h.all x hx).below hw, h.low, h.dist, h.bl.trans (hw.mono h.sz), Nat.le_trans h.sz hw.size⟩
theorem Bs.drew (h : Bs w0 S l w) : Bs w0 S l w.drew := ⟨fun x hx => (h.all x hx).drew, h.low, h.dist, h.bl.drew, h.sz⟩
theorem Bs.alloc (h : Bs w0 S l w) (o : Obj) : Bs w0 S l (w.alloc o) := h.below (below_alloc w o)
theorem Bs.sub {l' : List Bx} (h : Bs w0 S l w) (hs : l'.Sublist l) : Bs w0 S l' w :=
  ⟨fun x hx => h.all x (hs.subset hx), fun x hx => h.low x (hs.subset hx), (hs.filterMap _).nodup h.dist, h.bl, h.sz⟩
theorem Bs.tail {x : Bx} (h : Bs w0 S (x :: l) w) : Bs w0 S l w := h.sub (List.sublist_cons_self x l)
theorem Bs.blk_lt (h : Bs w0 S l w) {b : Nat} (hb : b ∈ l.filterMap Bx.blk) : b < w.heap.size := by
  obtain ⟨x, hx, e⟩ := List.mem_filterMap.1 hb
  exact (h.all x hx).lt e
theorem Bs.push (h : Bs w0 S l w) {x : Bx} {k : Nat} (hk : w.heap.size = k) (hw : Below w.heap.size w w') (hx : x.At w') (hb : x.blk = some k) : Bs w0 S (x :: l) w' := by
  have g := h.below hw
  refine ⟨fun y hy => ?_, fun y hy b e => ?_, ?_, g.bl, g.sz⟩
  · rcases List.mem_cons.1 hy with rfl | hy
    · exact hx
    · exact g.all y hy
  · rcases List.mem_cons.1 hy with rfl | hy
    · rw [hb] at e
      cases e
      rw [← hk]
      exact h.sz
    · exact g.low y hy b e
  · rw [List.filterMap_cons_some hb]
    exact List.nodup_cons.2 ⟨fun hm => by have := h.blk_lt hm; omega, g.dist⟩
theorem Bs.pushDig (h : Bs w0 S l w) {s : Bool} {A : Option Addr} {L c n : Nat} (g : Good w s A L c n) : Bs w0 S (.dig s A L c n :: l) w := by
  refine ⟨fun y hy => ?_, fun y hy b e => ?_, ?_, h.bl, h.sz⟩
  · rcases List.mem_cons.1 hy with rfl | hy
    · exact g
    · exact h.all y hy
  · rcases List.mem_cons.1 hy with rfl | hy
    · cases e
    · exact h.low y hy b e
  · rw [List.filterMap_cons_none rfl]
    exact h.dist
theorem Bs.pushNum (h : Bs w0 S l w) {k : Nat} (hk : w.heap.size = k) (s : Bool) (A : Option Addr) (L c : Nat) : Bs w0 S (.num k s A L c :: l) (w.alloc (boxN s A L c)) :=
  h.push hk (below_alloc w _) (x := .num k s A L c) (by rw [← hk]; exact NumAt.new w s A L c) rfl
theorem Bs.pushRat (h : Bs w0 S l w) {k : Nat} (hk : w.heap.size = k) (s : Bool) (n : Nat) (t : Bool) (d : Nat) (T : TypeId) : Bs w0 S (.rat k s n t d :: l) (w.alloc (boxR s n t d T)) :=
  h.push hk (below_alloc w _) (x := .rat k s n t d) (by rw [← hk]; exact RatAt.new w s n t d T) rfl
theorem Bs.pushRatZ (h : Bs w0 S l w) {k : Nat} (hk : w.heap.size = k) (T : TypeId) : Bs w0 S (.rat k false 0 false 0 :: l) (w.alloc (boxRZ T)) :=
  h.push hk (below_alloc w _) (x := .rat k false 0 false 0) (by rw [← hk]; exact RatAt.zero w T) rfl
theorem Bs.pushInt (h : Bs w0 S l w) {k : Nat} (hk : w.heap.size = k) (s : Bool) (n : Nat) (T : TypeId) : Bs w0 S (.int k s n :: l) (w.alloc (boxI s n T)) :=
  h.push hk (below_alloc w _) (x := .int k s n) (by rw [← hk]; exact IntAt.new w s n T) rfl
theorem Bs.pushIntZ (h : Bs w0 S l w) {k : Nat} (hk : w.heap.size = k) (T : TypeId) : Bs w0 S (.int k false 0 :: l) (w.alloc (boxIZ T)) :=
  h.push hk (below_alloc w _) (x := .int k false 0) (by rw [← hk]; exact IntAt.zero w T) rfl
theorem Bs.pushOne (h : Bs w0 S l w) {k : Nat} (hk : w.heap.size = k) (v : Value) (T : TypeId) : Bs w0 S (.one k v :: l) (w.alloc (.cells #[v] T)) :=
  h.push hk (below_alloc w _) (x := .one k v) (by rw [← hk]; exact ⟨World.cell?_alloc_at _ _ _ _ rfl, World.frozen?_alloc_at _ _ _ _ rfl⟩) rfl
theorem rangeAt_alloc (w : World) (vs : List Value) (T : TypeId) : (w.alloc (.cells vs.toArray T)).rangeAt w.heap.size 0 vs := fun j u hu => by
  rw [World.cell?_alloc_at _ _ _ _ rfl]
  simpa using hu
theorem Bs.pushRow (h : Bs w0 S l w) {k : Nat} (hk : w.heap.size = k) (v : Value) (vs : List Value) (T : TypeId) : Bs w0 S (.row k v vs :: l) (w.alloc (.cells (v :: vs).toArray T)) :=
  h.push hk (below_alloc w _) (x := .row k v vs) (by rw [← hk]; exact rangeAt_alloc w (v :: vs) T) rfl
theorem rangeAt_sub {w : World} {b o : Nat} {xs : List Value} (h : w.rangeAt b o xs) (k : Nat) {ys : List Value} (e : ∀ j v, ys[j]? = some v → xs[k + j]? = some v) : w.rangeAt b (o + k) ys := fun j v hv => by
  have := h (k + j) v (e j v hv)
  rwa [← Nat.add_assoc] at this
theorem rangeAt_app {w : World} {b o : Nat} {xs ys : List Value} (h : w.rangeAt b o (xs ++ ys)) : w.rangeAt b o xs ∧ w.rangeAt b (o + xs.length) ys :=
  ⟨fun j v hv => h j v (by rw [List.getElem?_append_left (List.getElem?_eq_some_iff.1 hv).1]; exact hv), rangeAt_sub h xs.length fun j v hv => by rw [List.getElem?_append_right (by omega)]; simpa using hv⟩
/-- Two different places of the table lie in different blocks. -/
theorem Bs.apart (h : Bs w0 S l w) {i j : Nat} {x y : Bx} (hi : l[i]? = some x) (hj : l[j]? = some y) (hij : i ≠ j) {b : Nat} (hx : x.blk = some b) : y.blk ≠ some b := by
  intro hy
  have key : ∀ (l : List Bx) (i j : Nat), i < j → ∀ x y : Bx, l[i]? = some x → l[j]? = some y → x.blk = some b → y.blk = some b → (l.filterMap Bx.blk).Nodup → False := by
    intro l
    induction l with
    | nil => intro i j _ x y hi; simp at hi
    | cons z l ih =>
      intro i j hij x y hi hj hx hy hd
      have hd2 : (l.filterMap Bx.blk).Nodup := by
        cases hz : z.blk with
        | none => rwa [List.filterMap_cons_none hz] at hd
        | some c => rw [List.filterMap_cons_some hz] at hd; exact (List.nodup_cons.1 hd).2
      cases j with
      | zero => omega
      | succ j =>
        cases i with
        | zero =>
          have ez : z = x := by simpa using hi
          subst ez
          rw [List.filterMap_cons_some hx] at hd
          have hm : y ∈ l := List.mem_of_getElem? (by simpa using hj)
          exact (List.nodup_cons.1 hd).1 (List.mem_filterMap.2 ⟨y, hm, hy⟩)
        | succ i => exact ih i j (by omega) x y (by simpa using hi) (by simpa using hj) hx hy hd2
  rcases Nat.lt_or_ge i j with h1 | h1
  · exact key l i j h1 x y hi hj hx hy h.dist
  · exact key l j i (by omega) y x hj hi hy hx h.dist
theorem filterMap_set_blk : ∀ (l : List Bx) (i : Nat) (x y : Bx), l[i]? = some x → x.blk = y.blk → (l.set i y).filterMap Bx.blk = l.filterMap Bx.blk := by
  intro l
  induction l with
  | nil => intro i x y h; simp at h
  | cons z l ih =>
    intro i x y h e
    cases i with
    | zero =>
      have ez : z = x := by simpa using h
      subst ez
      show List.filterMap Bx.blk (y :: l) = _
      cases hz : z.blk with
      | none => rw [List.filterMap_cons_none (by rw [← e, hz]), List.filterMap_cons_none hz]
      | some c => rw [List.filterMap_cons_some (by rw [← e, hz]), List.filterMap_cons_some hz]
    | succ i =>
      show List.filterMap Bx.blk (z :: l.set i y) = _
      have := ih i x y (by simpa using h) e
      cases hz : z.blk with
      | none => rw [List.filterMap_cons_none hz, List.filterMap_cons_none hz, this]
      | some c => rw [List.filterMap_cons_some hz, List.filterMap_cons_some hz, this]
/-- A store into the table's i-th box. -/
theorem Bs.put (h : Bs w0 S l w) (i : Nat) {x y : Bx} {b : Nat} (e : l[i]? = some x) (hx : x.blk = some b) (hy : y.blk = some b) (hs : Sto w w' b) (ha : y.At w') {l' : List Bx} (hl : l.set i y = l') : Bs w0 S l' w' := by
  subst hl
  have hSb := h.low x (List.mem_of_getElem? e) b hx
  refine ⟨fun z hz => ?_, fun z hz c ec => ?_, ?_, hs.but.2.1 S w0 hSb h.bl, by rw [hs.but.2.2]; exact h.sz⟩
  · obtain ⟨j, hj⟩ := List.mem_iff_getElem?.1 hz
    by_cases hij : i = j
    · subst hij
      have hl := (List.getElem?_eq_some_iff.1 e).1
      rw [List.getElem?_set_self hl] at hj
      cases hj
      exact ha
    · rw [List.getElem?_set_ne hij] at hj
      exact (h.at j hj).sto hs (h.apart e hj hij hx)
  · rcases List.mem_or_eq_of_mem_set hz with h1 | h1
    · exact h.low z h1 c ec
    · subst h1
      rw [hy] at ec
      cases ec
      exact hSb
  · rw [filterMap_set_blk l i x y e (by rw [hx, hy])]
    exact h.dist
theorem Bs.putNum (h : Bs w0 S l w) (i : Nat) {b L c : Nat} {s : Bool} {A : Option Addr} (e : l[i]? = some (.num b s A L c)) (t : Bool) (B : Option Addr) (M d : Nat) {l' : List Bx} (hl : l.set i (.num b t B M d) = l') : Bs w0 S l' (st2 w b t B M d) :=
  h.put i e rfl (y := .num b t B M d) rfl (sto_num (h.num i e) t B M d) (st2_at (h.num i e)) hl
theorem Bs.putInt (h : Bs w0 S l w) (i : Nat) {b n : Nat} {s : Bool} (e : l[i]? = some (.int b s n)) (t : Bool) (m : Nat) {l' : List Bx} (hl : l.set i (.int b t m) = l') : Bs w0 S l' (st9 w b t m) :=
  h.put i e rfl (y := .int b t m) rfl (sto_int (h.int i e) t m) (st9_at (h.int i e)) hl
theorem Bs.putRat (h : Bs w0 S l w) (i : Nat) {b n d : Nat} {s t : Bool} (e : l[i]? = some (.rat b s n t d)) (s' : Bool) (n' : Nat) (t' : Bool) (d' : Nat) {l' : List Bx} (hl : l.set i (.rat b s' n' t' d') = l') : Bs w0 S l' (st18 w b s' n' t' d') :=
  h.put i e rfl (y := .rat b s' n' t' d') rfl (sto_rat (h.rat i e) s' n' t' d') (st18_at (h.rat i e)) hl
theorem Bs.putOne (h : Bs w0 S l w) (i : Nat) {b : Nat} {v : Value} (e : l[i]? = some (.one b v)) (u : Value) (hv : ∀ x, v ≠ .int .i64 x) {l' : List Bx} (hl : l.set i (.one b u) = l') : Bs w0 S l' (w.setCell ⟨b, 0, none⟩ u) :=
  h.put i e rfl (y := .one b u) rfl (sto_one (h.one i e).1 hv) ⟨World.cell?_setCell_same _ _ _ (h.one i e).1, by rw [World.frozen?_setCell]; exact (h.one i e).2⟩ hl
end
theorem Bs.perm {w0 w : World} {S : Nat} {l l' : List Bx} (h : Bs w0 S l w) (hp : l.Perm l') : Bs w0 S l' w :=
  ⟨fun x hx => h.all x (hp.mem_iff.2 hx), fun x hx => h.low x (hp.mem_iff.2 hx), (hp.filterMap _).nodup_iff.1 h.dist, h.bl, h.sz⟩
theorem perm_front {l : List Bx} : ∀ {i : Nat} {x : Bx}, l[i]? = some x → l.Perm (x :: l.eraseIdx i) := by
  induction l with
  | nil => intro i x h; simp at h
  | cons z l ih =>
    intro i x h
    cases i with
    | zero =>
      have e : z = x := by simpa using h
      subst e
      exact List.Perm.refl _
    | succ i => exact (List.Perm.cons z (ih (by simpa using h))).trans (List.Perm.swap x z _)
/-- A box told first. -/
theorem Bs.front {w0 w : World} {S : Nat} {l : List Bx} (h : Bs w0 S l w) (i : Nat) {x : Bx} (e : l[i]? = some x) : Bs w0 S (x :: l.eraseIdx i) w := h.perm (perm_front e)
theorem alloc_int {a : Act} {w : World} {op : Oper} (ho : op.op = .alloc 25) : (execOp a.eval op).run Tryz.prog w = .ok (.value (.pointer (some ⟨w.heap.size, 0, none⟩))) (w.alloc (boxIZ 25)) := by
  unfold execOp
  simp only [ho]
  go_simp
/-! Arms of a walk: a number of the document loaded, stored. -/
theorem wpList_load_num {ops : Array Oper} {rest : List Oper} {op : Oper} {a : Act} {w : World} {Q : Exit → Act → World → Prop} (hgd : op.guard = none) (x : Operand) (ho : op.op = .load 57 x)
    {b L c : Nat} {s : Bool} {A : Option Addr} (hx : a.eval x = .pointer (some ⟨b, 0, none⟩)) (h : NumAt w b s A L c)
    (hK : wpList Tryz.prog ops Q rest (a.put op.dst (.agg #[.bool s, .slice A L c])) w) : wpList Tryz.prog ops Q (op :: rest) a w :=
  wpList_load_mid hgd 57 x ho b 0 hx [.bool s, .slice A L c] (.struct (Tryz.prog.fieldsOf 57)) h.range (by kernel_rfl) rfl (by kernel_rfl) hK
theorem wpList_store_num {ops : Array Oper} {rest : List Oper} {op : Oper} {a : Act} {w : World} {Q : Exit → Act → World → Prop} (hgd : op.guard = none) (x y : Operand) (ho : op.op = .store 57 x y)
    {b L c M d : Nat} {s t : Bool} {A B : Option Addr} (hx : a.eval x = .pointer (some ⟨b, 0, none⟩)) (hy : a.eval y = .agg #[.bool t, .slice B M d]) (h : NumAt w b s A L c)
    (hK : wpList Tryz.prog ops Q rest (a.put op.dst undef) (st2 w b t B M d)) : wpList Tryz.prog ops Q (op :: rest) a w :=
  wpList_store_mid hgd 57 x y ho b 0 #[.bool t, .slice B M d] hx hy h.there infoNum (by simp [Value.oneCell']) hK
end Go.Proofs.YtgoemhcngmpfbaaGreatDoor
