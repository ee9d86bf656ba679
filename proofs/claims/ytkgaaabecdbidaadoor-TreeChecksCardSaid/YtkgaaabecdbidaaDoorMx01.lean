/-
  Layer 13 (tree): trees as lists of nodes: which node is wrong, depths, parents, own tokens, owners. No program.
-/
import Derived.Test.YtkgaaabecdbidaaDoorMx00
import Derived.Maps.AppendAt
import Derived.Deep.AppendLies
import Derived.Laws.OwnMore
import Derived.OneCell
namespace Go.Proofs.YtkgaaabecdbidaaDoor
open Go.RowKit
structure Nd where
 k : Int
 f : Int
 t : Int
 kids : List Int
instance : Inhabited Nd := ⟨⟨0, 0, 0, []⟩⟩
def nd (T : List Nd) (i : Nat) : Nd := T.getD i default
def kd (T : List Nd) (c : Int) : Nd := nd T c.toNat
theorem nd_at {T : List Nd} {i : Nat} {n : Nd} (h : T[i]? = some n) : nd T i = n := by unfold nd; rw [List.getD_eq_getElem?_getD, h]; rfl
theorem at_nd {T : List Nd} {i : Nat} (h : i < T.length) : T[i]? = some (nd T i) := by unfold nd; rw [List.getD_eq_getElem?_getD, List.getElem?_eq_getElem h]; rfl
def ordAt (T : List Nd) : Int → List Int → Option Int
 | a, [] => some a
 | a, c :: r => if (kd T c).f < a then none else ordAt T (kd T c).t r
def numOk (n : Nd) (m : Int) : Bool := decide (0 ≤ n.k ∧ n.k ≤ 66 ∧ 0 ≤ n.f ∧ n.f ≤ n.t ∧ n.t ≤ m)
def kidOk (i : Nat) (l : List Int) : Bool := l.all fun c => decide (0 ≤ c ∧ c < (i : Int))
def endOk (o : Option Int) (t : Int) : Bool := match o with | none => false | some a => decide (a ≤ t)
def oneB (T : List Nd) (i : Nat) (m : Int) : Bool := numOk (nd T i) m && kidOk i (nd T i).kids && endOk (ordAt T (nd T i).f (nd T i).kids) (nd T i).t
def parN (T : List Nd) (i : Int) : Nat := (T.map fun n => n.kids.count i).sum
def firstBad (p : Nat → Bool) : Nat → Nat → Option Nat
 | 0, _ => none
 | h + 1, i => if p i then firstBad p h (i + 1) else some i
def hitT (o : Option Nat) (r : Nat × Int) : Nat × Int := match o with | some i => (8, (i : Int)) | none => r
theorem hit_some (i : Nat) (r : Nat × Int) : hitT (some i) r = (8, (i : Int)) := rfl
theorem hit_none (r : Nat × Int) : hitT none r = r := rfl
def chkT (T : List Nd) (m : Int) : Nat × Int :=
 if T.length = 0 then (7, -1) else hitT (firstBad (fun i => oneB T i m) T.length 0) (hitT (firstBad (fun i => decide (parN T i = 1)) (T.length - 1) 0) (0, -1))
theorem chk_eq {T : List Nd} {m : Int} (h : 0 < T.length) : chkT T m = hitT (firstBad (fun i => oneB T i m) T.length 0) (hitT (firstBad (fun i => decide (parN T i = 1)) (T.length - 1) 0) (0, -1)) := by
 unfold chkT
 rw [if_neg (by omega)]
def rootOf (T : List Nd) : Nd := nd T (T.length - 1)
def sndT (T : List Nd) : Nat × Int := chkT T (rootOf T).t
theorem firstBad_none {p : Nat → Bool} : ∀ {h i : Nat}, firstBad p h i = none → ∀ j, i ≤ j → j < i + h → p j = true
 | 0, i, _, j, h1, h2 => by omega
 | h + 1, i, e, j, h1, h2 => by
  unfold firstBad at e
  split at e
  ·next hp =>
   rcases Nat.eq_or_lt_of_le h1 with rfl | h3
   ·exact hp
   ·exact firstBad_none e j h3 (by omega)
  ·cases e
theorem firstBad_step {p : Nat → Bool} {h i : Nat} (hp : p i = true) : firstBad p (h + 1) i = firstBad p h (i + 1) := by rw [firstBad, if_pos hp]
theorem firstBad_hit {p : Nat → Bool} {h i : Nat} (hp : p i = false) : firstBad p (h + 1) i = some i := by rw [firstBad, if_neg (by simp [hp])]
structure Valid (T : List Nd) (m : Int) : Prop where
 pos : 0 < T.length
 num : ∀ i, i < T.length → 0 ≤ (nd T i).k ∧ (nd T i).k ≤ 66 ∧ 0 ≤ (nd T i).f ∧ (nd T i).f ≤ (nd T i).t ∧ (nd T i).t ≤ m
 kid : ∀ i, i < T.length → ∀ c ∈ (nd T i).kids, 0 ≤ c ∧ c < (i : Int)
 ord : ∀ i, i < T.length → ∃ a, ordAt T (nd T i).f (nd T i).kids = some a ∧ a ≤ (nd T i).t
 par : ∀ i, i + 1 < T.length → parN T i = 1
theorem chk_valid {T : List Nd} {m : Int} (h : (chkT T m).1 = 0) : Valid T m := by
 unfold chkT at h
 split at h
 ·cases h
 ·next h0 =>
  cases h1 : firstBad (fun i => oneB T i m) T.length 0 with
  | some i => rw [h1] at h; cases h
  | none =>
   rw [h1, hit_none] at h
   cases h2 : firstBad (fun i => decide (parN T i = 1)) (T.length - 1) 0 with
   | some i => rw [h2] at h; cases h
   | none =>
    have k1 := firstBad_none h1
    have k2 := firstBad_none h2
    have hone : ∀ i, i < T.length → numOk (nd T i) m = true ∧ kidOk i (nd T i).kids = true ∧ endOk (ordAt T (nd T i).f (nd T i).kids) (nd T i).t = true := fun i hi => by
     have := k1 i (by omega) (by omega)
     simp only [oneB, Bool.and_eq_true] at this
     exact ⟨this.1.1, this.1.2, this.2⟩
    refine ⟨by omega, fun i hi => of_decide_eq_true (hone i hi).1, fun i hi c hc => ?_, fun i hi => ?_, fun i hi => of_decide_eq_true (k2 i (by omega) (by omega))⟩
    ·have := (hone i hi).2.1
     unfold kidOk at this
     exact of_decide_eq_true (List.all_eq_true.1 this c hc)
    ·have := (hone i hi).2.2
     cases ho : ordAt T (nd T i).f (nd T i).kids with
     | none => rw [ho] at this; cases this
     | some a => rw [ho] at this; exact ⟨a, rfl, of_decide_eq_true this⟩
theorem firstBad_lt {p : Nat → Bool} : ∀ {h i j : Nat}, firstBad p h i = some j → j < i + h
 | 0, i, j, e => by cases e
 | h + 1, i, j, e => by
  unfold firstBad at e
  split at e
  ·have := firstBad_lt e; omega
  ·cases e; omega
theorem chk_num (T : List Nd) (m : Int) : (chkT T m).1 = 0 ∧ (chkT T m).2 = -1 ∨ (chkT T m).1 = 7 ∧ (chkT T m).2 = -1 ∨ (chkT T m).1 = 8 ∧ ∃ i, i < T.length ∧ (chkT T m).2 = (i : Int) := by
 unfold chkT
 split
 ·exact .inr (.inl ⟨rfl, rfl⟩)
 ·cases h1 : firstBad (fun i => oneB T i m) T.length 0 with
  | some i => exact .inr (.inr ⟨rfl, i, by have := firstBad_lt h1; omega, rfl⟩)
  | none =>
   rw [hit_none]
   cases h2 : firstBad (fun i => decide (parN T i = 1)) (T.length - 1) 0 with
   | some i => exact .inr (.inr ⟨rfl, i, by have := firstBad_lt h2; omega, rfl⟩)
   | none => exact .inl ⟨rfl, rfl⟩
def deepF (T : List Nd) (i : Nat) : Nat := 1 + ((nd T i).kids.map fun c => if c.toNat < i then deepF T c.toNat else 0).foldl max 0
termination_by i
decreasing_by assumption
def deepK (T : List Nd) (i : Nat) (l : List Int) (m : Nat) : Nat := (l.map fun c => if c.toNat < i then deepF T c.toNat else 0).foldl max m
theorem deepF_eq (T : List Nd) (i : Nat) : deepF T i = 1 + deepK T i (nd T i).kids 0 := by rw [deepF]; rfl
theorem deepK_cons (T : List Nd) {i : Nat} {c : Int} (l : List Int) (m : Nat) (h : c.toNat < i) : deepK T i (c :: l) m = deepK T i l (max m (deepF T c.toNat)) := by
 unfold deepK
 rw [List.map_cons, List.foldl_cons, if_pos h]
def parG : List Nd → Int → Nat → Int
 | [], _, _ => -1
 | x :: r, i, k => if i ∈ x.kids then (k : Int) else parG r i (k + 1)
def parF (T : List Nd) (i : Int) : Int := parG T i 0
def heldB (T : List Nd) (l : List Int) (tok : Int) : Bool := l.any fun c => decide ((kd T c).f ≤ tok ∧ tok < (kd T c).t)
def ownB (T : List Nd) (i : Nat) (tok : Int) : Bool := decide ((nd T i).f ≤ tok ∧ tok < (nd T i).t) && !heldB T (nd T i).kids tok
def pickT (o : Option Nat) : Int := match o with | some i => (i : Int) | none => -1
def ownerF (T : List Nd) (tok : Int) : Int := pickT (firstBad (fun i => !ownB T i tok) T.length 0)
def ownsF (T : List Nd) (i : Nat) : Nat → Int → List Int
 | 0, _ => []
 | h + 1, f => if ownB T i f then f :: ownsF T i h (f + 1) else ownsF T i h (f + 1)
def ownL (T : List Nd) (i : Nat) : List Int := ownsF T i ((nd T i).t - (nd T i).f).toNat (nd T i).f
end Go.Proofs.YtkgaaabecdbidaaDoor
namespace Go.Proofs.YtkgaaabecdbidaaDoor
open Go.RowKit
def OwnK (k : IntKind) (E : TypeId) (w : World) (base : Nat) (v : Value) (l : List Int) : Prop := w.ownsRow base E 1 v l.length (l.map fun x => Value.int k x)
def SliceK (k : IntKind) (T E : TypeId) : Prop := Tryd.prog.underlying T = some (.slice E) ∧ ∃ b, b ≤ 8 ∧ (Tryd.prog.info? E).map (fun i => (i.zero, i.size, i.bytes)) = some (some (.int k 0), 1, b)
theorem own_ge {k : IntKind} {E : TypeId} {w : World} {base : Nat} {v : Value} {l : List Int} (h : OwnK k E w base v l) : ∀ g, v.ownBlock = some g → base ≤ g := fun g hg => (World.ownsRow.lt h g hg).1
theorem run_append_none {k : IntKind} {T E : TypeId} (hT : SliceK k T E) (w : World) (ty : TypeId) (base : Nat) (v : Value) (l : List Int) (hown : OwnK k E w base v l) (c : Nat) : (Builtin.append_ #[T, T] ty #[v, .slice none 0 c]).run Tryd.prog w = .ok v w := by
 obtain ⟨hu, b, _, hi0⟩ := hT
 obtain ⟨i, hi, _⟩ := Option.map_eq_some_iff.1 hi0
 rcases hown.2 with ⟨hv, hn⟩ | ⟨g, cap, cur, hv, _, _, hnc, _⟩
 ·subst hv
  simp [Builtin.append_, run_underlying hu, sizeOf, typeInfo, hi, Builtin.lenOf, Builtin.firstCells]
 ·subst hv
  simp [Builtin.append_, run_underlying hu, sizeOf, typeInfo, hi, Builtin.lenOf, Builtin.firstCells, hnc, storeCells]
theorem run_app {k : IntKind} {T E : TypeId} (hT : SliceK k T E) (w : World) (ty : TypeId) (base : Nat) (v : Value) (l : List Int) (hown : OwnK k E w base v l) (B : Nat) (A : Option Addr) (m c : Nat) (news : List Int) (hb : NumsK k w B A news) (hm : news.length = m)
  (hlen : l.length + m ≤ 1000000) (hbase : base ≤ w.heap.size) :
  ∃ v' w', (Builtin.append_ #[T, T] ty #[v, .slice A m c]).run Tryd.prog w = .ok v' w' ∧ OwnK k E w' base v' (l ++ news) ∧ w.grownBy w' v.ownBlock ∧ (v'.ownBlock = v.ownBlock ∨ v'.ownBlock = some w.heap.size) := by
 subst hm
 have hT' := hT
 obtain ⟨hu, bb, hbb, hi0⟩ := hT'
 obtain ⟨i, hi, hi2⟩ := Option.map_eq_some_iff.1 hi0
 simp only [Prod.mk.injEq] at hi2
 obtain ⟨hz, hs, hby⟩ := hi2
 cases A with
 | none =>
  have hnil : news = [] := by
   rcases Nat.eq_zero_or_pos news.length with h0 | h0
   ·exact List.eq_nil_of_length_eq_zero h0
   ·obtain ⟨b, o, e, _⟩ := hb h0
    cases e
  subst hnil
  exact ⟨v, w, run_append_none hT w ty base v l hown c, by simpa [OwnK] using hown, World.grownBy.refl w _, .inl rfl⟩
 | some a =>
  have hcells : ∀ j u, (news.map fun x => Value.int k x)[j]? = some u → w.cell? (a.add j) = some u := by
   intro j u hu
   rw [List.getElem?_map, Option.map_eq_some_iff] at hu
   obtain ⟨x, hx, rfl⟩ := hu
   obtain ⟨b, o, e, _, hc⟩ := hb (by have := (List.getElem?_eq_some_iff.1 hx).1; omega)
   cases e
   have hp : (⟨b, o, none⟩ : Addr).add j = ⟨b, o + j, none⟩ := by unfold Addr.add; split <;> simp_all
   rw [hp]
   exact hc j x hx
  obtain ⟨v', w', hrun, h2, h3, _, h5⟩ := run_append_own_at (P := Tryd.prog) w base T ty E i _ 1 bb hu hi hz hs hby rfl (by omega) v l.length _ hown a news.length c
   (news.map fun x => Value.int k x) (by simp) hcells (fun u hu => by
    obtain ⟨x, _, rfl⟩ := List.mem_map.1 hu
    rfl) (by simp only [maxLen]; omega) (by
     have h1 : (l.length + news.length) * bb ≤ 1000000 * 8 := Nat.mul_le_mul hlen hbb
     omega) hbase
  exact ⟨v', w', hrun, by unfold OwnK; rw [List.length_append, List.map_append]; exact h2, h3, h5⟩
theorem wpList_app {k : IntKind} {T E : TypeId} (hT : SliceK k T E) {ops : Array Oper} {rest : List Oper} {o : Oper} {a : Act} {Q : Exit → Act → World → Prop} (w : World) (hgd : o.guard = none) (s x : Operand)
  (ho : o.op = .call { callee := .builtin .append, args := #[s, x], argTypes := #[T, T] })
  (base : Nat) (v : Value) (l : List Int) (hs : a.eval s = v) (hown : OwnK k E w base v l)
  (B : Nat) (A : Option Addr) (m c : Nat) (news : List Int) (hx : a.eval x = .slice A m c) (hb : NumsK k w B A news) (hm : news.length = m) (hlen : l.length ≤ 500000) (hlen2 : news.length ≤ 500000) (hbase : base ≤ w.heap.size)
  (h : ∀ v' w', OwnK k E w' base v' (l ++ news) → w.grownBy w' v.ownBlock → (v'.ownBlock = v.ownBlock ∨ v'.ownBlock = some w.heap.size) → wpList Tryd.prog ops Q rest (a.put o.dst v') w') : wpList Tryd.prog ops Q (o :: rest) a w :=
 wpList_plain hgd fun _ hK => by
  obtain ⟨v', w', hrun, h2, h3, h4⟩ := run_app hT w o.type base v l hown B A m c news hb hm (by omega) hbase
  unfold Oper.wp execOp
  simp only [ho, resolve, invoke, builtin, Sem.run_bind, Sem.run_pure, Result.andThen_ok, List.map_toArray, List.map_cons, List.map_nil, hs, hx, hrun]
  exact hK _ _ (h v' w' h2 h3 h4)
theorem NumsK.grown {k : IntKind} {w w' : World} {B : Nat} {A : Option Addr} {l : List Int} (h : NumsK k w B A l) {row : Option Nat} (hg : w.grownBy w' row) (hB : B ≤ w.heap.size) (hr : ∀ g, row = some g → B ≤ g) : NumsK k w' B A l :=
 h.keep fun b o hb => World.cell?_of_block (hg.block b (by omega) (fun e => by have := hr _ e.symm; omega))
theorem OwnK.below {k : IntKind} {E : TypeId} {w w' : World} {base : Nat} {v : Value} {l : List Int} (h : OwnK k E w base v l) (hb : Below w.heap.size w w') : OwnK k E w' base v l :=
 World.ownsRow.kept h (row := none) ⟨hb.os, hb.tape, hb.output, hb.size, fun k hk _ => hb.block k hk⟩ (by cases v.ownBlock <;> simp)
theorem OwnK.setCell {k : IntKind} {E : TypeId} {w : World} {base : Nat} {v : Value} {l : List Int} (h : OwnK k E w base v l) {p : Addr} (hp : p.block < base) (u : Value) : OwnK k E (w.setCell p u) base v l :=
 ownsRow_setCell_other h (fun e => by have := own_ge h _ e; omega) u
theorem OwnK.nil (k : IntKind) (E : TypeId) (w : World) (base : Nat) : OwnK k E w base (.slice none 0 0) [] := World.ownsRow_nil _ _ _ _
theorem OwnK.nums {k : IntKind} {E : TypeId} {w : World} {base : Nat} {v : Value} {l : List Int} (h : OwnK k E w base v l) : ∃ A cap, v = .slice A l.length cap ∧ l.length ≤ cap ∧ cap ≤ maxLen ∧ NumsK k w w.heap.size A l := by
 rcases h.2 with ⟨hv, h0⟩ | ⟨g, cap, cur, hv, _, _, hnc, hcm, _⟩
 ·have : l = [] := List.eq_nil_of_length_eq_zero h0
  subst this
  exact ⟨none, 0, hv, Nat.le_refl _, Nat.zero_le _, NumsK.nil⟩
 ·refine ⟨_, cap, hv, hnc, hcm, fun _ => ?_⟩
  have hlt := World.ownsRow.lt h g (by rw [hv]; rfl)
  refine ⟨g, 0, rfl, hlt.2, fun i x hx => ?_⟩
  have := World.ownsRow.cells h (g := g) (by rw [hv]; rfl) i (.int k x) (by rw [List.getElem?_map, hx]; rfl)
  have hp : (⟨g, 0, none⟩ : Addr).add i = ⟨g, 0 + i, none⟩ := by unfold Addr.add; split <;> simp_all
  rwa [hp] at this
theorem OwnK.lit (k : IntKind) (E : TypeId) (w : World) (base : Nat) (l : List Int) (hb : base ≤ w.heap.size) (hl : l.length ≤ 1000000) : OwnK k E (w.alloc (.cells (l.map fun x => Value.int k x).toArray E)) base (.slice (some ⟨w.heap.size, 0, none⟩) l.length l.length) l := by
 have := World.ownsRow_lit (e := E) (size := 1) (base := base) w (l.map fun x => Value.int k x).toArray l.length hb (by simp only [maxLen]; omega) (by simp)
 simpa [OwnK] using this
theorem run_makeK {k : IntKind} {T E : TypeId} (hT : SliceK k T E) (w : World) (base n c : Nat) (hn : n ≤ c) (hc : c ≤ 1000000) (hb : base ≤ w.heap.size) :
  ∃ w', (Instr.makeSlice T (.int .i64 (n : Int)) (.int .i64 (c : Int))).run Tryd.prog w = .ok (.slice (some ⟨w.heap.size, 0, none⟩) n c) w' ∧ OwnK k E w' base (.slice (some ⟨w.heap.size, 0, none⟩) n c) (List.replicate n 0) ∧ w.grownBy w' none := by
 obtain ⟨hu, bb, hbb, hi0⟩ := hT
 obtain ⟨i, hi, hi2⟩ := Option.map_eq_some_iff.1 hi0
 simp only [Prod.mk.injEq] at hi2
 obtain ⟨hz, hs, hby⟩ := hi2
 have hr := run_make (P := Tryd.prog) w T E i _ hu hi hz .i64 .i64 n c (by omega) (by omega) (by
  rw [hby]
  have : bb * c ≤ 8 * 1000000 := Nat.mul_le_mul hbb hc
  have h2 : ((bb : Int) * (c : Int)) = ((bb * c : Nat) : Int) := by simp
  rw [h2]
  omega) (by omega)
 simp only [Int.toNat_natCast, hs, Nat.mul_one] at hr
 refine ⟨_, hr, ?_, World.grownBy_alloc w _ none⟩
 unfold OwnK
 refine ⟨by simp, .inr ⟨w.heap.size, c, _, by simp, hb, heap_alloc_new w _, by simpa using hn, by simp only [maxLen]; omega, by have := size_madeCells (Value.int k 0).cells c; simpa using this, ?_⟩⟩
 simp [madeCells, Value.cells]
 have e : (fun x : Nat => [Value.int k 0][x % 1]?.getD default) = fun _ => Value.int k 0 := by
  funext x
  simp [Nat.mod_one]
 rw [e]
 apply List.ext_getElem
 ·simp
  omega
 ·intro i h1 h2
  simp
theorem results_cell1 {fn : Func} {p : Tmp} {ty : TypeId} (h : fn.results = #[.cell p ty]) (tmps : Array Value) (P : Program) (w : World) :
  (results fn tmps).run P w = ((asAddr (tmps.getD p undef)).run P w).andThen fun a w₁ => (loadVar ty a).run P w₁ := by
 simp only [results, h]
 simp [Sem.run_bind, Result.andThen]
end Go.Proofs.YtkgaaabecdbidaaDoor
namespace Go.Proofs.YtkgaaabecdbidaaDoor
open Go.RowKit
def EncOk {α : Type} (f : α → List Value) (size : Nat) : Prop := 0 < size ∧ ∀ a, (f a).length = size ∧ ∀ u ∈ f a, u.oneCell' = true
theorem flat_length {α : Type} {f : α → List Value} {size : Nat} (h : EncOk f size) : ∀ l : List α, (l.flatMap f).length = l.length * size
 | [] => by simp
 | a :: l => by
  rw [List.flatMap_cons, List.length_append, (h.2 a).1, flat_length h l, List.length_cons, Nat.add_mul]
  omega
theorem flat_get {α : Type} {f : α → List Value} {size : Nat} (h : EncOk f size) : ∀ {l : List α} {i j : Nat} {x : α} {u : Value}, l[i]? = some x → (f x)[j]? = some u → (l.flatMap f)[i * size + j]? = some u
 | [], i, j, x, u, hx, _ => by simp at hx
 | a :: l, 0, j, x, u, hx, hu => by
  simp at hx
  subst hx
  have hj : j < (f a).length := (List.getElem?_eq_some_iff.1 hu).1
  rw [List.flatMap_cons, Nat.zero_mul, Nat.zero_add, List.getElem?_append_left hj]
  exact hu
 | a :: l, i + 1, j, x, u, hx, hu => by
  have ih := flat_get h (l := l) (i := i) (j := j) (by simpa using hx) hu
  have e : (i + 1) * size + j - (f a).length = i * size + j := by rw [(h.2 a).1, Nat.add_mul]; omega
  rw [List.flatMap_cons, List.getElem?_append_right (by rw [(h.2 a).1, Nat.add_mul]; omega), e]
  exact ih
theorem flat_take {α : Type} {f : α → List Value} {size : Nat} (h : EncOk f size) : ∀ (l : List α) (n : Nat), (l.take n).flatMap f = (l.flatMap f).take (n * size)
 | [], n => by simp
 | a :: l, 0 => by simp
 | a :: l, n + 1 => by
  have h1 : (f a).take ((n + 1) * size) = f a := List.take_of_length_le (by rw [(h.2 a).1, Nat.add_mul]; omega)
  have h2 : (n + 1) * size - size = n * size := by rw [Nat.add_mul]; omega
  rw [List.take_succ_cons, List.flatMap_cons, List.flatMap_cons, flat_take h l n, List.take_append, h1, (h.2 a).1, h2]
def CellsV {α : Type} (f : α → List Value) (w : World) (B : Nat) (A : Option Addr) (l : List α) : Prop :=
 0 < l.length → ∃ b o, A = some ⟨b, o, none⟩ ∧ b < B ∧ ∀ j u, (l.flatMap f)[j]? = some u → w.cell? ⟨b, o + j, none⟩ = some u
section
variable {α : Type} {f : α → List Value} {w w' : World} {B B' : Nat} {A : Option Addr} {l : List α}
theorem CellsV.keep (h : CellsV f w B A l) (hk : ∀ b o, b < B → w'.cell? ⟨b, o, none⟩ = w.cell? ⟨b, o, none⟩) : CellsV f w' B A l :=
 fun hp => by
  obtain ⟨b, o, e, hb, hc⟩ := h hp
  exact ⟨b, o, e, hb, fun j u hu => (hk b (o + j) hb).trans (hc j u hu)⟩
theorem CellsV.below (h : CellsV f w B A l) (hb : Below B' w w') (hB : B ≤ B') : CellsV f w' B A l :=
 h.keep fun _ _ hlt => hb.cell (Nat.lt_of_lt_of_le hlt hB)
theorem CellsV.more (h : CellsV f w B A l) (hB : B ≤ B') : CellsV f w B' A l :=
 fun hp => by
  obtain ⟨b, o, e, hb, hc⟩ := h hp
  exact ⟨b, o, e, by omega, hc⟩
theorem CellsV.on (h : CellsV f w B A l) (hB : B ≤ w.heap.size) (hb : Below w.heap.size w w') : CellsV f w' w'.heap.size A l :=
 (h.below hb hB).more (Nat.le_trans hB hb.size)
theorem CellsV.nil : CellsV f w B A [] := fun h => by simp at h
theorem CellsV.take {size : Nat} (he : EncOk f size) (h : CellsV f w B A l) (n : Nat) : CellsV f w B A (l.take n) :=
 fun hp => by
  obtain ⟨b, o, e, hb, hc⟩ := h (by rw [List.length_take] at hp; omega)
  refine ⟨b, o, e, hb, fun j u hu => hc j u ?_⟩
  rw [flat_take he, List.getElem?_take] at hu
  split at hu
  ·exact hu
  ·cases hu
theorem CellsV.get {size : Nat} (he : EncOk f size) (h : CellsV f w B A l) (hp : 0 < l.length) : ∃ b o, A = some ⟨b, o, none⟩ ∧ b < B ∧ ∀ i x, l[i]? = some x → ∀ j u, (f x)[j]? = some u → w.cell? ⟨b, o + (i * size + j), none⟩ = some u := by
 obtain ⟨b, o, e, hb, hc⟩ := h hp
 exact ⟨b, o, e, hb, fun i x hx j u hu => hc _ u (flat_get he hx hu)⟩
theorem CellsV.grown (h : CellsV f w B A l) {row : Option Nat} (hg : w.grownBy w' row) (hB : B ≤ w.heap.size) (hr : ∀ g, row = some g → B ≤ g) : CellsV f w' B A l :=
 h.keep fun b o hb => World.cell?_of_block (hg.block b (by omega) (fun e => by have := hr _ e.symm; omega))
end
def OwnV {α : Type} (f : α → List Value) (size : Nat) (E : TypeId) (w : World) (base : Nat) (v : Value) (l : List α) : Prop := w.ownsRow base E size v l.length (l.flatMap f)
def SliceV {α : Type} (f : α → List Value) (size : Nat) (T E : TypeId) : Prop :=
 EncOk f size ∧ Tryd.prog.underlying T = some (.slice E) ∧ ∃ z b, b ≤ 1000 ∧ z.cells.size = size ∧ (Tryd.prog.info? E).map (fun i => (i.zero, i.size, i.bytes)) = some (some z, size, b)
section
variable {α : Type} {f : α → List Value} {size : Nat} {T E : TypeId} {w w' : World} {base : Nat} {v : Value} {l : List α}
theorem ownV_ge (h : OwnV f size E w base v l) : ∀ g, v.ownBlock = some g → base ≤ g := fun g hg => (World.ownsRow.lt h g hg).1
theorem OwnV.below (h : OwnV f size E w base v l) (hb : Below w.heap.size w w') : OwnV f size E w' base v l :=
 World.ownsRow.kept h (row := none) ⟨hb.os, hb.tape, hb.output, hb.size, fun k hk _ => hb.block k hk⟩ (by cases v.ownBlock <;> simp)
theorem OwnV.alloc (h : OwnV f size E w base v l) (o : Obj) : OwnV f size E (w.alloc o) base v l := World.ownsRow.alloc h o
theorem OwnV.setCell (h : OwnV f size E w base v l) {p : Addr} (hp : p.block < base) (u : Value) : OwnV f size E (w.setCell p u) base v l :=
 ownsRow_setCell_other h (fun e => by have := ownV_ge h _ e; omega) u
theorem OwnV.nil (f : α → List Value) (size : Nat) (E : TypeId) (w : World) (base : Nat) : OwnV f size E w base (.slice none 0 0) ([] : List α) := World.ownsRow_nil _ _ _ _
theorem OwnV.lit (he : EncOk f size) (E : TypeId) (w : World) (base : Nat) (l : List α) (hb : base ≤ w.heap.size) (hl : l.length ≤ 1000000) :
  OwnV f size E (w.alloc (.cells (l.flatMap f).toArray E)) base (.slice (some ⟨w.heap.size, 0, none⟩) l.length l.length) l := by
 have := World.ownsRow_lit (e := E) (size := size) (base := base) w (l.flatMap f).toArray l.length hb (by simp only [maxLen]; omega) (by rw [List.size_toArray, flat_length he])
 simpa [OwnV] using this
theorem OwnV.cells (h : OwnV f size E w base v l) : ∃ A cap, v = .slice A l.length cap ∧ l.length ≤ cap ∧ cap ≤ 9223372036854775807 ∧ CellsV f w w.heap.size A l := by
 rcases h.2 with ⟨hv, h0⟩ | ⟨g, cap, cur, hv, _, _, hnc, hcm, _⟩
 ·have : l = [] := List.eq_nil_of_length_eq_zero h0
  subst this
  exact ⟨none, 0, hv, Nat.le_refl _, by omega, CellsV.nil⟩
 ·unfold maxLen at hcm
  refine ⟨_, cap, hv, hnc, hcm, fun _ => ?_⟩
  have hlt := World.ownsRow.lt h g (by rw [hv]; rfl)
  refine ⟨g, 0, rfl, hlt.2, fun i x hx => ?_⟩
  have := World.ownsRow.cells h (g := g) (by rw [hv]; rfl) i x hx
  have hp : (⟨g, 0, none⟩ : Addr).add i = ⟨g, 0 + i, none⟩ := by unfold Addr.add; split <;> simp_all
  rwa [hp] at this
theorem run_appV (hT : SliceV f size T E) (ty : TypeId) (hown : OwnV f size E w base v l) (B : Nat) (A : Option Addr) (m c : Nat) (news : List α) (hb : CellsV f w B A news) (hm : news.length = m)
  (hlen : l.length + m ≤ 1000000) (hbase : base ≤ w.heap.size) :
  ∃ v' w', (Builtin.append_ #[T, T] ty #[v, .slice A m c]).run Tryd.prog w = .ok v' w' ∧ OwnV f size E w' base v' (l ++ news) ∧ w.grownBy w' v.ownBlock ∧ (v'.ownBlock = v.ownBlock ∨ v'.ownBlock = some w.heap.size) := by
 subst hm
 obtain ⟨he, hu, z, bb, hbb, hzc, hi0⟩ := hT
 obtain ⟨i, hi, hi2⟩ := Option.map_eq_some_iff.1 hi0
 simp only [Prod.mk.injEq] at hi2
 obtain ⟨hz, hs, hby⟩ := hi2
 cases A with
 | none =>
  have hnil : news = [] := by
   rcases Nat.eq_zero_or_pos news.length with h0 | h0
   ·exact List.eq_nil_of_length_eq_zero h0
   ·obtain ⟨b, o, e, _⟩ := hb h0
    cases e
  subst hnil
  refine ⟨v, w, ?_, by simpa [OwnV] using hown, World.grownBy.refl w _, .inl rfl⟩
  rcases hown.2 with ⟨hv, hn⟩ | ⟨g, cap, cur, hv, _, _, hnc, _⟩
  ·subst hv
   simp [Builtin.append_, run_underlying hu, sizeOf, typeInfo, hi, Builtin.lenOf, Builtin.firstCells]
  ·subst hv
   simp [Builtin.append_, run_underlying hu, sizeOf, typeInfo, hi, Builtin.lenOf, Builtin.firstCells, hnc, storeCells]
 | some a =>
  have hcells : ∀ j u, (news.flatMap f)[j]? = some u → w.cell? (a.add j) = some u := by
   intro j u hu
   have hp0 : 0 < news.length := by
    rcases Nat.eq_zero_or_pos news.length with h0 | h0
    ·have := List.eq_nil_of_length_eq_zero h0
     subst this
     simp at hu
    ·exact h0
   obtain ⟨b, o, e, _, hc⟩ := hb hp0
   cases e
   have hp : (⟨b, o, none⟩ : Addr).add j = ⟨b, o + j, none⟩ := by unfold Addr.add; split <;> simp_all
   rw [hp]
   exact hc j u hu
  obtain ⟨v', w', hrun, h2, h3, _, h5⟩ := run_append_own_at (P := Tryd.prog) w base T ty E i z size bb hu hi hz hs hby hzc he.1 v l.length _ hown a news.length c
   (news.flatMap f) (flat_length he news) hcells (fun u hu => by
    obtain ⟨x, _, hx⟩ := List.mem_flatMap.1 hu
    exact (he.2 x).2 u hx) (by simp only [maxLen]; omega) (by
     have h1 : (l.length + news.length) * bb ≤ 1000000 * 1000 := Nat.mul_le_mul hlen hbb
     omega) hbase
  exact ⟨v', w', hrun, by unfold OwnV; rw [List.length_append, List.flatMap_append]; exact h2, h3, h5⟩
theorem wpList_appV (hT : SliceV f size T E) {ops : Array Oper} {rest : List Oper} {o : Oper} {a : Act} {Q : Exit → Act → World → Prop} (w : World) (hgd : o.guard = none) (s x : Operand)
  (ho : o.op = .call { callee := .builtin .append, args := #[s, x], argTypes := #[T, T] })
  (base : Nat) (v : Value) (l : List α) (hs : a.eval s = v) (hown : OwnV f size E w base v l)
  (B : Nat) (A : Option Addr) (m c : Nat) (news : List α) (hx : a.eval x = .slice A m c) (hb : CellsV f w B A news) (hm : news.length = m) (hlen : l.length ≤ 500000) (hlen2 : news.length ≤ 500000) (hbase : base ≤ w.heap.size)
  (h : ∀ v' w', OwnV f size E w' base v' (l ++ news) → w.grownBy w' v.ownBlock → (v'.ownBlock = v.ownBlock ∨ v'.ownBlock = some w.heap.size) → wpList Tryd.prog ops Q rest (a.put o.dst v') w') : wpList Tryd.prog ops Q (o :: rest) a w :=
 wpList_plain hgd fun _ hK => by
  obtain ⟨v', w', hrun, h2, h3, h4⟩ := run_appV hT o.type hown B A m c news hb hm (by omega) hbase
  unfold Oper.wp execOp
  simp only [ho, resolve, invoke, builtin, Sem.run_bind, Sem.run_pure, Result.andThen_ok, List.map_toArray, List.map_cons, List.map_nil, hs, hx, hrun]
  exact hK _ _ (h v' w' h2 h3 h4)
end
end Go.Proofs.YtkgaaabecdbidaaDoor
namespace Go.Proofs.YtkgaaabecdbidaaDoor
open Go.RowKit
set_option linter.unusedSimpArgs false
structure Ne where
 k : Int
 f : Int
 t : Int
 A : Option Addr
 n : Nat
 c : Nat
instance : Inhabited Ne := ⟨⟨0, 0, 0, none, 0, 0⟩⟩
def neCells (x : Ne) : List Value := [.int .i64 x.k, .int .i64 x.f, .int .i64 x.t, .slice x.A x.n x.c]
theorem ne_enc : EncOk neCells 4 := ⟨by omega, fun e => ⟨rfl, fun u hu => by simp [neCells] at hu; rcases hu with rfl | rfl | rfl | rfl <;> rfl⟩⟩
theorem node_slice : SliceV neCells 4 22 33 := ⟨ne_enc, Tryd.underlying22, .agg #[.int .i64 0, .int .i64 0, .int .i64 0, .slice none 0 0], 48, by omega, by kernel_rfl, by kernel_rfl⟩
def IsNd (w : World) (B : Nat) (x : Ne) (n : Nd) : Prop := x.k = n.k ∧ x.f = n.f ∧ x.t = n.t ∧ x.n = n.kids.length ∧ x.n ≤ x.c ∧ x.c ≤ 9223372036854775807 ∧ Nums w B x.A n.kids
def NdsAt (w : World) (B : Nat) (A : Option Addr) (T : List Nd) : Prop := ∃ xs, CellsV neCells w B A xs ∧ xs.length = T.length ∧ ∀ (i : Nat) (x : Ne) (n : Nd), xs[i]? = some x → T[i]? = some n → IsNd w B x n
section
variable {w w' : World} {B B' : Nat} {A : Option Addr} {T : List Nd}
theorem IsNd.below {x : Ne} {n : Nd} (h : IsNd w B x n) (hb : Below B' w w') (hB : B ≤ B') : IsNd w' B x n := ⟨h.1, h.2.1, h.2.2.1, h.2.2.2.1, h.2.2.2.2.1, h.2.2.2.2.2.1, NumsK.below h.2.2.2.2.2.2 hb hB⟩
theorem IsNd.more {x : Ne} {n : Nd} (h : IsNd w B x n) (hB : B ≤ B') : IsNd w B' x n := ⟨h.1, h.2.1, h.2.2.1, h.2.2.2.1, h.2.2.2.2.1, h.2.2.2.2.2.1, NumsK.more h.2.2.2.2.2.2 hB⟩
theorem NdsAt.below (h : NdsAt w B A T) (hb : Below B' w w') (hB : B ≤ B') : NdsAt w' B A T := by
 obtain ⟨xs, h1, h2, h3⟩ := h
 exact ⟨xs, h1.below hb hB, h2, fun i x n hx hn => (h3 i x n hx hn).below hb hB⟩
theorem NdsAt.more (h : NdsAt w B A T) (hB : B ≤ B') : NdsAt w B' A T := by
 obtain ⟨xs, h1, h2, h3⟩ := h
 exact ⟨xs, h1.more hB, h2, fun i x n hx hn => (h3 i x n hx hn).more hB⟩
theorem NdsAt.on (h : NdsAt w B A T) (hB : B ≤ w.heap.size) (hb : Below w.heap.size w w') : NdsAt w' w'.heap.size A T := (h.below hb hB).more (Nat.le_trans hB hb.size)
theorem NdsAt.nil : NdsAt w B A [] := ⟨[], CellsV.nil, rfl, fun i x n hx => by simp at hx⟩
theorem NdsAt.get (h : NdsAt w B A T) (hp : 0 < T.length) : ∃ b o, A = some ⟨b, o, none⟩ ∧ b < B ∧ ∀ (i : Nat) (n : Nd), T[i]? = some n → ∃ K m c, w.cell? ⟨b, o + i * 4, none⟩ = some (.int .i64 n.k) ∧ w.cell? ⟨b, o + i * 4 + 1, none⟩ = some (.int .i64 n.f) ∧ w.cell? ⟨b, o + i * 4 + 2, none⟩ = some (.int .i64 n.t) ∧ w.cell? ⟨b, o + i * 4 + 3, none⟩ = some (.slice K m c) ∧ m = n.kids.length ∧ m ≤ c ∧ c ≤ 9223372036854775807 ∧ Nums w B K n.kids := by
 obtain ⟨xs, h1, h2, h3⟩ := h
 obtain ⟨b, o, e, hb, hc⟩ := CellsV.get ne_enc h1 (by omega)
 refine ⟨b, o, e, hb, fun i n hn => ?_⟩
 have hi := (List.getElem?_eq_some_iff.1 hn).1
 have hx : xs[i]? = some xs[i] := List.getElem?_eq_getElem (by omega)
 obtain ⟨r1, r2, r3, r4, r5, r6, r7⟩ := h3 i _ n hx hn
 refine ⟨xs[i].A, xs[i].n, xs[i].c, ?_, ?_, ?_, hc i _ hx 3 _ rfl, r4, r5, r6, r7⟩
 ·rw [← r1]; exact hc i _ hx 0 _ rfl
 ·rw [← r2]; exact hc i _ hx 1 _ rfl
 ·rw [← r3]; exact hc i _ hx 2 _ rfl
end
def trV (A : Option Addr) (n c : Nat) : Value := .agg #[.slice A n c]
def SmallT (T : List Nd) : Prop := T.length ≤ 40 ∧ ∀ n ∈ T, n.kids.length ≤ 20
end Go.Proofs.YtkgaaabecdbidaaDoor
