/-
  What every stage's texts share: an error of api's as a value; what is known of a slice of int's ('Nums'); small facts on endings.
-/
import Derived.Test.YtpjgapnihmiceaaProg
import Derived.WalkKit
import Derived.WalkSpells
import Derived.WalkLawsBesides
import Derived.IntWalk
import Derived.Lib.Hide
import Derived.Laws.BitsAllLaws
import Derived.Deep.QuietTactic
import Derived.BigQuiet
import Derived.LoopTactic
import Derived.Deep.Light
import Derived.Deep.DeepCutAuto
import Derived.WalkSmall
import Derived.Test.YtpjgapnihmiceaaRows
import Derived.ProofKit
import Derived.LaidMore
import Derived.OpenShut
import Derived.Stop.Joined
import Derived.ChangeOld
import Derived.Lib.SmallJoins
import Derived.Lib.LaidTab
import Derived.Deep.Slices
import Derived.Maps.AppendAt
import Derived.Deep.AppendLies
import Derived.Laws.OwnMore
import Derived.OneCell
import Derived.Lib.Bytes
namespace Go.Proofs.Ytpjgapnihmiceaa
open Go.RowKit
def errno (k : Int) : Value := .iface 44 (.int .i64 k)
def NumsK (k : IntKind) (w : World) (B : Nat) (A : Option Addr) (l : List Int) : Prop :=
 0 < l.length → ∃ b o, A = some ⟨b, o, none⟩ ∧ b < B ∧ ∀ i x, l[i]? = some x → w.cell? ⟨b, o + i, none⟩ = some (.int k x)
def Nums (w : World) (B : Nat) (A : Option Addr) (l : List Int) : Prop := NumsK .i64 w B A l
theorem NumsK.keep {k : IntKind} {w w' : World} {B : Nat} {A : Option Addr} {l : List Int} (h : NumsK k w B A l) (hk : ∀ b o, b < B → w'.cell? ⟨b, o, none⟩ = w.cell? ⟨b, o, none⟩) : NumsK k w' B A l :=
 fun hp => by
  obtain ⟨b, o, e, hb, hc⟩ := h hp
  exact ⟨b, o, e, hb, fun i x hx => (hk b (o + i) hb).trans (hc i x hx)⟩
theorem NumsK.below {k : IntKind} {w w' : World} {B B' : Nat} {A : Option Addr} {l : List Int} (h : NumsK k w B A l) (hb : Below B' w w') (hB : B ≤ B') : NumsK k w' B A l :=
 h.keep fun _ _ hlt => hb.cell (Nat.lt_of_lt_of_le hlt hB)
theorem NumsK.more {k : IntKind} {w : World} {B B' : Nat} {A : Option Addr} {l : List Int} (h : NumsK k w B A l) (hB : B ≤ B') : NumsK k w B' A l :=
 fun hp => by
  obtain ⟨b, o, e, hb, hc⟩ := h hp
  exact ⟨b, o, e, by omega, hc⟩
theorem NumsK.on {k : IntKind} {w : World} {B : Nat} {A : Option Addr} {l : List Int} (h : NumsK k w B A l) (hB : B ≤ w.heap.size) {w' : World} (hb : Below w.heap.size w w') : NumsK k w' w'.heap.size A l :=
 (h.below hb hB).more (Nat.le_trans hB hb.size)
theorem NumsK.nil {k : IntKind} {w : World} {B : Nat} {A : Option Addr} : NumsK k w B A [] := fun h => by simp at h
theorem NumsK.alloc {k : IntKind} {w : World} {A : Option Addr} {l : List Int} (h : NumsK k w w.heap.size A l) (o : Obj) : NumsK k (w.alloc o) w.heap.size A l :=
 h.below ((Below.refl _ _).alloc (Nat.le_refl _) o) (Nat.le_refl _)
theorem NumsK.take {k : IntKind} {w : World} {B : Nat} {A : Option Addr} {l : List Int} (h : NumsK k w B A l) (n : Nat) : NumsK k w B A (l.take n) :=
 fun hp => by
  obtain ⟨b, o, e, hb, hc⟩ := h (by rw [List.length_take] at hp; omega)
  exact ⟨b, o, e, hb, fun i x hx => hc i x (by
   rw [List.getElem?_take] at hx
   split at hx
   ·exact hx
   ·cases hx)⟩
def I64 (l : List Int) : Prop := ∀ x ∈ l, -9223372036854775808 ≤ x ∧ x ≤ 9223372036854775807
theorem I64.at {l : List Int} (h : I64 l) {i : Nat} {x : Int} (hx : l[i]? = some x) : -9223372036854775808 ≤ x ∧ x ≤ 9223372036854775807 := h x (List.mem_of_getElem? hx)
end Go.Proofs.Ytpjgapnihmiceaa
namespace Go.Proofs.Ytpjgapnihmiceaa
open Go.ChangeShapes Go.WideShapes Go.ChangeAt Go.RowKit Go.Deep
theorem own : ownKnob Try.prog.godebug = none := by kernel_rfl
theorem laidOut : laidOutB Try.prog = true := by kernel_rfl
end Go.Proofs.Ytpjgapnihmiceaa
namespace Go.Proofs.Ytpjgapnihmiceaa
open Go.RowKit
structure Nd where
 k : Int
 f : Int
 t : Int
 kids : List Int
instance : Inhabited Nd := ⟨⟨0, 0, 0, []⟩⟩
def nd (T : List Nd) (i : Nat) : Nd := T.getD i default
def kd (T : List Nd) (c : Int) : Nd := nd T c.toNat
theorem at_nd {T : List Nd} {i : Nat} (h : i < T.length) : T[i]? = some (nd T i) := by unfold nd; rw [List.getD_eq_getElem?_getD, List.getElem?_eq_getElem h]; rfl
def ordAt (T : List Nd) : Int → List Int → Option Int
 | a, [] => some a
 | a, c :: r => if (kd T c).f < a then none else ordAt T (kd T c).t r
def numOk (n : Nd) (m : Int) : Bool := decide (0 ≤ n.k ∧ n.k ≤ 66 ∧ 0 ≤ n.f ∧ n.f ≤ n.t ∧ n.t ≤ m)
def kidOk (i : Nat) (l : List Int) : Bool := l.all fun c => decide (0 ≤ c ∧ c < (i : Int))
def endOk (o : Option Int) (t : Int) : Bool := match o with | none => false | some a => decide (a ≤ t)
def oneB (T : List Nd) (i : Nat) (m : Int) : Bool := numOk (nd T i) m && kidOk i (nd T i).kids && endOk (ordAt T (nd T i).f (nd T i).kids) (nd T i).t
def parN (T : List Nd) (i : Int) : Nat := (T.map fun n => n.kids.count i).sum
def firstBad (p : Nat → Bool) : Nat → Nat → Option Nat
 | 0, _ => none
 | h + 1, i => if p i then firstBad p h (i + 1) else some i
def hitT (o : Option Nat) (r : Nat × Int) : Nat × Int := match o with | some i => (8, (i : Int)) | none => r
theorem hit_some (i : Nat) (r : Nat × Int) : hitT (some i) r = (8, (i : Int)) := rfl
theorem hit_none (r : Nat × Int) : hitT none r = r := rfl
def chkT (T : List Nd) (m : Int) : Nat × Int :=
 if T.length = 0 then (7, -1) else hitT (firstBad (fun i => oneB T i m) T.length 0) (hitT (firstBad (fun i => decide (parN T i = 1)) (T.length - 1) 0) (0, -1))
theorem chk_eq {T : List Nd} {m : Int} (h : 0 < T.length) : chkT T m = hitT (firstBad (fun i => oneB T i m) T.length 0) (hitT (firstBad (fun i => decide (parN T i = 1)) (T.length - 1) 0) (0, -1)) := by
 unfold chkT
 rw [if_neg (by omega)]
theorem firstBad_none {p : Nat → Bool} : ∀ {h i : Nat}, firstBad p h i = none → ∀ j, i ≤ j → j < i + h → p j = true
 | 0, i, _, j, h1, h2 => by omega
 | h + 1, i, e, j, h1, h2 => by
  unfold firstBad at e
  split at e
  ·next hp =>
   rcases Nat.eq_or_lt_of_le h1 with rfl | h3
   ·exact hp
   ·exact firstBad_none e j h3 (by omega)
  ·cases e
theorem firstBad_step {p : Nat → Bool} {h i : Nat} (hp : p i = true) : firstBad p (h + 1) i = firstBad p h (i + 1) := by rw [firstBad, if_pos hp]
theorem firstBad_hit {p : Nat → Bool} {h i : Nat} (hp : p i = false) : firstBad p (h + 1) i = some i := by rw [firstBad, if_neg (by simp [hp])]
structure Valid (T : List Nd) (m : Int) : Prop where
 pos : 0 < T.length
 num : ∀ i, i < T.length → 0 ≤ (nd T i).k ∧ (nd T i).k ≤ 66 ∧ 0 ≤ (nd T i).f ∧ (nd T i).f ≤ (nd T i).t ∧ (nd T i).t ≤ m
 kid : ∀ i, i < T.length → ∀ c ∈ (nd T i).kids, 0 ≤ c ∧ c < (i : Int)
 ord : ∀ i, i < T.length → ∃ a, ordAt T (nd T i).f (nd T i).kids = some a ∧ a ≤ (nd T i).t
 par : ∀ i, i + 1 < T.length → parN T i = 1
theorem chk_valid {T : List Nd} {m : Int} (h : (chkT T m).1 = 0) : Valid T m := by
 unfold chkT at h
 split at h
 ·cases h
 ·next h0 =>
  cases h1 : firstBad (fun i => oneB T i m) T.length 0 with
  | some i => rw [h1] at h; cases h
  | none =>
   rw [h1, hit_none] at h
   cases h2 : firstBad (fun i => decide (parN T i = 1)) (T.length - 1) 0 with
   | some i => rw [h2] at h; cases h
   | none =>
    have k1 := firstBad_none h1
    have k2 := firstBad_none h2
    have hone : ∀ i, i < T.length → numOk (nd T i) m = true ∧ kidOk i (nd T i).kids = true ∧ endOk (ordAt T (nd T i).f (nd T i).kids) (nd T i).t = true := fun i hi => by
     have := k1 i (by omega) (by omega)
     simp only [oneB, Bool.and_eq_true] at this
     exact ⟨this.1.1, this.1.2, this.2⟩
    refine ⟨by omega, fun i hi => of_decide_eq_true (hone i hi).1, fun i hi c hc => ?_, fun i hi => ?_, fun i hi => of_decide_eq_true (k2 i (by omega) (by omega))⟩
    ·have := (hone i hi).2.1
     unfold kidOk at this
     exact of_decide_eq_true (List.all_eq_true.1 this c hc)
    ·have := (hone i hi).2.2
     cases ho : ordAt T (nd T i).f (nd T i).kids with
     | none => rw [ho] at this; cases this
     | some a => rw [ho] at this; exact ⟨a, rfl, of_decide_eq_true this⟩
def heldB (T : List Nd) (l : List Int) (tok : Int) : Bool := l.any fun c => decide ((kd T c).f ≤ tok ∧ tok < (kd T c).t)
def ownB (T : List Nd) (i : Nat) (tok : Int) : Bool := decide ((nd T i).f ≤ tok ∧ tok < (nd T i).t) && !heldB T (nd T i).kids tok
def ownsF (T : List Nd) (i : Nat) : Nat → Int → List Int
 | 0, _ => []
 | h + 1, f => if ownB T i f then f :: ownsF T i h (f + 1) else ownsF T i h (f + 1)
def ownL (T : List Nd) (i : Nat) : List Int := ownsF T i ((nd T i).t - (nd T i).f).toNat (nd T i).f
end Go.Proofs.Ytpjgapnihmiceaa
namespace Go.Proofs.Ytpjgapnihmiceaa
open Go.RowKit
def OwnK (k : IntKind) (E : TypeId) (w : World) (base : Nat) (v : Value) (l : List Int) : Prop := w.ownsRow base E 1 v l.length (l.map fun x => Value.int k x)
def SliceK (k : IntKind) (T E : TypeId) : Prop := Try.prog.underlying T = some (.slice E) ∧ ∃ b, b ≤ 8 ∧ (Try.prog.info? E).map (fun i => (i.zero, i.size, i.bytes)) = some (some (.int k 0), 1, b)
theorem own_ge {k : IntKind} {E : TypeId} {w : World} {base : Nat} {v : Value} {l : List Int} (h : OwnK k E w base v l) : ∀ g, v.ownBlock = some g → base ≤ g := fun g hg => (World.ownsRow.lt h g hg).1
theorem run_append_none {k : IntKind} {T E : TypeId} (hT : SliceK k T E) (w : World) (ty : TypeId) (base : Nat) (v : Value) (l : List Int) (hown : OwnK k E w base v l) (c : Nat) : (Builtin.append_ #[T, T] ty #[v, .slice none 0 c]).run Try.prog w = .ok v w := by
 obtain ⟨hu, b, _, hi0⟩ := hT
 obtain ⟨i, hi, _⟩ := Option.map_eq_some_iff.1 hi0
 rcases hown.2 with ⟨hv, hn⟩ | ⟨g, cap, cur, hv, _, _, hnc, _⟩
 ·subst hv
  simp [Builtin.append_, run_underlying hu, sizeOf, typeInfo, hi, Builtin.lenOf, Builtin.firstCells]
 ·subst hv
  simp [Builtin.append_, run_underlying hu, sizeOf, typeInfo, hi, Builtin.lenOf, Builtin.firstCells, hnc, storeCells]
theorem run_app {k : IntKind} {T E : TypeId} (hT : SliceK k T E) (w : World) (ty : TypeId) (base : Nat) (v : Value) (l : List Int) (hown : OwnK k E w base v l) (B : Nat) (A : Option Addr) (m c : Nat) (news : List Int) (hb : NumsK k w B A news) (hm : news.length = m)
  (hlen : l.length + m ≤ 1000000) (hbase : base ≤ w.heap.size) :
  ∃ v' w', (Builtin.append_ #[T, T] ty #[v, .slice A m c]).run Try.prog w = .ok v' w' ∧ OwnK k E w' base v' (l ++ news) ∧ w.grownBy w' v.ownBlock ∧ (v'.ownBlock = v.ownBlock ∨ v'.ownBlock = some w.heap.size) := by
 subst hm
 have hT' := hT
 obtain ⟨hu, bb, hbb, hi0⟩ := hT'
 obtain ⟨i, hi, hi2⟩ := Option.map_eq_some_iff.1 hi0
 simp only [Prod.mk.injEq] at hi2
 obtain ⟨hz, hs, hby⟩ := hi2
 cases A with
 | none =>
  have hnil : news = [] := by
   rcases Nat.eq_zero_or_pos news.length with h0 | h0
   ·exact List.eq_nil_of_length_eq_zero h0
   ·obtain ⟨b, o, e, _⟩ := hb h0
    cases e
  subst hnil
  exact ⟨v, w, run_append_none hT w ty base v l hown c, by simpa [OwnK] using hown, World.grownBy.refl w _, .inl rfl⟩
 | some a =>
  have hcells : ∀ j u, (news.map fun x => Value.int k x)[j]? = some u → w.cell? (a.add j) = some u := by
   intro j u hu
   rw [List.getElem?_map, Option.map_eq_some_iff] at hu
   obtain ⟨x, hx, rfl⟩ := hu
   obtain ⟨b, o, e, _, hc⟩ := hb (by have := (List.getElem?_eq_some_iff.1 hx).1; omega)
   cases e
   have hp : (⟨b, o, none⟩ : Addr).add j = ⟨b, o + j, none⟩ := by unfold Addr.add; split <;> simp_all
   rw [hp]
   exact hc j x hx
  obtain ⟨v', w', hrun, h2, h3, _, h5⟩ := run_append_own_at (P := Try.prog) w base T ty E i _ 1 bb hu hi hz hs hby rfl (by omega) v l.length _ hown a news.length c
   (news.map fun x => Value.int k x) (by simp) hcells (fun u hu => by
    obtain ⟨x, _, rfl⟩ := List.mem_map.1 hu
    rfl) (by simp only [maxLen]; omega) (by
     have h1 : (l.length + news.length) * bb ≤ 1000000 * 8 := Nat.mul_le_mul hlen hbb
     omega) hbase
  exact ⟨v', w', hrun, by unfold OwnK; rw [List.length_append, List.map_append]; exact h2, h3, h5⟩
theorem wpList_app {k : IntKind} {T E : TypeId} (hT : SliceK k T E) {ops : Array Oper} {rest : List Oper} {o : Oper} {a : Act} {Q : Exit → Act → World → Prop} (w : World) (hgd : o.guard = none) (s x : Operand)
  (ho : o.op = .call { callee := .builtin .append, args := #[s, x], argTypes := #[T, T] })
  (base : Nat) (v : Value) (l : List Int) (hs : a.eval s = v) (hown : OwnK k E w base v l)
  (B : Nat) (A : Option Addr) (m c : Nat) (news : List Int) (hx : a.eval x = .slice A m c) (hb : NumsK k w B A news) (hm : news.length = m) (hlen : l.length ≤ 500000) (hlen2 : news.length ≤ 500000) (hbase : base ≤ w.heap.size)
  (h : ∀ v' w', OwnK k E w' base v' (l ++ news) → w.grownBy w' v.ownBlock → (v'.ownBlock = v.ownBlock ∨ v'.ownBlock = some w.heap.size) → wpList Try.prog ops Q rest (a.put o.dst v') w') : wpList Try.prog ops Q (o :: rest) a w :=
 wpList_plain hgd fun _ hK => by
  obtain ⟨v', w', hrun, h2, h3, h4⟩ := run_app hT w o.type base v l hown B A m c news hb hm (by omega) hbase
  unfold Oper.wp execOp
  simp only [ho, resolve, invoke, builtin, Sem.run_bind, Sem.run_pure, Result.andThen_ok, List.map_toArray, List.map_cons, List.map_nil, hs, hx, hrun]
  exact hK _ _ (h v' w' h2 h3 h4)
theorem NumsK.grown {k : IntKind} {w w' : World} {B : Nat} {A : Option Addr} {l : List Int} (h : NumsK k w B A l) {row : Option Nat} (hg : w.grownBy w' row) (hB : B ≤ w.heap.size) (hr : ∀ g, row = some g → B ≤ g) : NumsK k w' B A l :=
 h.keep fun b o hb => World.cell?_of_block (hg.block b (by omega) (fun e => by have := hr _ e.symm; omega))
theorem OwnK.below {k : IntKind} {E : TypeId} {w w' : World} {base : Nat} {v : Value} {l : List Int} (h : OwnK k E w base v l) (hb : Below w.heap.size w w') : OwnK k E w' base v l :=
 World.ownsRow.kept h (row := none) ⟨hb.os, hb.tape, hb.output, hb.size, fun k hk _ => hb.block k hk⟩ (by cases v.ownBlock <;> simp)
theorem OwnK.setCell {k : IntKind} {E : TypeId} {w : World} {base : Nat} {v : Value} {l : List Int} (h : OwnK k E w base v l) {p : Addr} (hp : p.block < base) (u : Value) : OwnK k E (w.setCell p u) base v l :=
 ownsRow_setCell_other h (fun e => by have := own_ge h _ e; omega) u
theorem OwnK.nil (k : IntKind) (E : TypeId) (w : World) (base : Nat) : OwnK k E w base (.slice none 0 0) [] := World.ownsRow_nil _ _ _ _
theorem OwnK.nums {k : IntKind} {E : TypeId} {w : World} {base : Nat} {v : Value} {l : List Int} (h : OwnK k E w base v l) : ∃ A cap, v = .slice A l.length cap ∧ l.length ≤ cap ∧ cap ≤ maxLen ∧ NumsK k w w.heap.size A l := by
 rcases h.2 with ⟨hv, h0⟩ | ⟨g, cap, cur, hv, _, _, hnc, hcm, _⟩
 ·have : l = [] := List.eq_nil_of_length_eq_zero h0
  subst this
  exact ⟨none, 0, hv, Nat.le_refl _, Nat.zero_le _, NumsK.nil⟩
 ·refine ⟨_, cap, hv, hnc, hcm, fun _ => ?_⟩
  have hlt := World.ownsRow.lt h g (by rw [hv]; rfl)
  refine ⟨g, 0, rfl, hlt.2, fun i x hx => ?_⟩
  have := World.ownsRow.cells h (g := g) (by rw [hv]; rfl) i (.int k x) (by rw [List.getElem?_map, hx]; rfl)
  have hp : (⟨g, 0, none⟩ : Addr).add i = ⟨g, 0 + i, none⟩ := by unfold Addr.add; split <;> simp_all
  rwa [hp] at this
theorem run_makeK {k : IntKind} {T E : TypeId} (hT : SliceK k T E) (w : World) (base n c : Nat) (hn : n ≤ c) (hc : c ≤ 1000000) (hb : base ≤ w.heap.size) :
  ∃ w', (Instr.makeSlice T (.int .i64 (n : Int)) (.int .i64 (c : Int))).run Try.prog w = .ok (.slice (some ⟨w.heap.size, 0, none⟩) n c) w' ∧ OwnK k E w' base (.slice (some ⟨w.heap.size, 0, none⟩) n c) (List.replicate n 0) ∧ w.grownBy w' none := by
 obtain ⟨hu, bb, hbb, hi0⟩ := hT
 obtain ⟨i, hi, hi2⟩ := Option.map_eq_some_iff.1 hi0
 simp only [Prod.mk.injEq] at hi2
 obtain ⟨hz, hs, hby⟩ := hi2
 have hr := run_make (P := Try.prog) w T E i _ hu hi hz .i64 .i64 n c (by omega) (by omega) (by
  rw [hby]
  have : bb * c ≤ 8 * 1000000 := Nat.mul_le_mul hbb hc
  have h2 : ((bb : Int) * (c : Int)) = ((bb * c : Nat) : Int) := by simp
  rw [h2]
  omega) (by omega)
 simp only [Int.toNat_natCast, hs, Nat.mul_one] at hr
 refine ⟨_, hr, ?_, World.grownBy_alloc w _ none⟩
 unfold OwnK
 refine ⟨by simp, .inr ⟨w.heap.size, c, _, by simp, hb, heap_alloc_new w _, by simpa using hn, by simp only [maxLen]; omega, by have := size_madeCells (Value.int k 0).cells c; simpa using this, ?_⟩⟩
 simp [madeCells, Value.cells]
 have e : (fun x : Nat => [Value.int k 0][x % 1]?.getD default) = fun _ => Value.int k 0 := by
  funext x
  simp [Nat.mod_one]
 rw [e]
 apply List.ext_getElem
 ·simp
  omega
 ·intro i h1 h2
  simp
theorem results_cell1 {fn : Func} {p : Tmp} {ty : TypeId} (h : fn.results = #[.cell p ty]) (tmps : Array Value) (P : Program) (w : World) :
  (results fn tmps).run P w = ((asAddr (tmps.getD p undef)).run P w).andThen fun a w₁ => (loadVar ty a).run P w₁ := by
 simp only [results, h]
 simp [Sem.run_bind, Result.andThen]
end Go.Proofs.Ytpjgapnihmiceaa
namespace Go.Proofs.Ytpjgapnihmiceaa
open Go.RowKit
def EncOk {α : Type} (f : α → List Value) (size : Nat) : Prop := 0 < size ∧ ∀ a, (f a).length = size ∧ ∀ u ∈ f a, u.oneCell' = true
theorem flat_length {α : Type} {f : α → List Value} {size : Nat} (h : EncOk f size) : ∀ l : List α, (l.flatMap f).length = l.length * size
 | [] => by simp
 | a :: l => by
  rw [List.flatMap_cons, List.length_append, (h.2 a).1, flat_length h l, List.length_cons, Nat.add_mul]
  omega
theorem flat_get {α : Type} {f : α → List Value} {size : Nat} (h : EncOk f size) : ∀ {l : List α} {i j : Nat} {x : α} {u : Value}, l[i]? = some x → (f x)[j]? = some u → (l.flatMap f)[i * size + j]? = some u
 | [], i, j, x, u, hx, _ => by simp at hx
 | a :: l, 0, j, x, u, hx, hu => by
  simp at hx
  subst hx
  have hj : j < (f a).length := (List.getElem?_eq_some_iff.1 hu).1
  rw [List.flatMap_cons, Nat.zero_mul, Nat.zero_add, List.getElem?_append_left hj]
  exact hu
 | a :: l, i + 1, j, x, u, hx, hu => by
  have ih := flat_get h (l := l) (i := i) (j := j) (by simpa using hx) hu
  have e : (i + 1) * size + j - (f a).length = i * size + j := by rw [(h.2 a).1, Nat.add_mul]; omega
  rw [List.flatMap_cons, List.getElem?_append_right (by rw [(h.2 a).1, Nat.add_mul]; omega), e]
  exact ih
theorem flat_take {α : Type} {f : α → List Value} {size : Nat} (h : EncOk f size) : ∀ (l : List α) (n : Nat), (l.take n).flatMap f = (l.flatMap f).take (n * size)
 | [], n => by simp
 | a :: l, 0 => by simp
 | a :: l, n + 1 => by
  have h1 : (f a).take ((n + 1) * size) = f a := List.take_of_length_le (by rw [(h.2 a).1, Nat.add_mul]; omega)
  have h2 : (n + 1) * size - size = n * size := by rw [Nat.add_mul]; omega
  rw [List.take_succ_cons, List.flatMap_cons, List.flatMap_cons, flat_take h l n, List.take_append, h1, (h.2 a).1, h2]
def CellsV {α : Type} (f : α → List Value) (w : World) (B : Nat) (A : Option Addr) (l : List α) : Prop :=
 0 < l.length → ∃ b o, A = some ⟨b, o, none⟩ ∧ b < B ∧ ∀ j u, (l.flatMap f)[j]? = some u → w.cell? ⟨b, o + j, none⟩ = some u
section
variable {α : Type} {f : α → List Value} {w w' : World} {B B' : Nat} {A : Option Addr} {l : List α}
theorem CellsV.keep (h : CellsV f w B A l) (hk : ∀ b o, b < B → w'.cell? ⟨b, o, none⟩ = w.cell? ⟨b, o, none⟩) : CellsV f w' B A l :=
 fun hp => by
  obtain ⟨b, o, e, hb, hc⟩ := h hp
  exact ⟨b, o, e, hb, fun j u hu => (hk b (o + j) hb).trans (hc j u hu)⟩
theorem CellsV.below (h : CellsV f w B A l) (hb : Below B' w w') (hB : B ≤ B') : CellsV f w' B A l :=
 h.keep fun _ _ hlt => hb.cell (Nat.lt_of_lt_of_le hlt hB)
theorem CellsV.more (h : CellsV f w B A l) (hB : B ≤ B') : CellsV f w B' A l :=
 fun hp => by
  obtain ⟨b, o, e, hb, hc⟩ := h hp
  exact ⟨b, o, e, by omega, hc⟩
theorem CellsV.on (h : CellsV f w B A l) (hB : B ≤ w.heap.size) (hb : Below w.heap.size w w') : CellsV f w' w'.heap.size A l :=
 (h.below hb hB).more (Nat.le_trans hB hb.size)
theorem CellsV.nil : CellsV f w B A [] := fun h => by simp at h
theorem CellsV.take {size : Nat} (he : EncOk f size) (h : CellsV f w B A l) (n : Nat) : CellsV f w B A (l.take n) :=
 fun hp => by
  obtain ⟨b, o, e, hb, hc⟩ := h (by rw [List.length_take] at hp; omega)
  refine ⟨b, o, e, hb, fun j u hu => hc j u ?_⟩
  rw [flat_take he, List.getElem?_take] at hu
  split at hu
  ·exact hu
  ·cases hu
theorem CellsV.get {size : Nat} (he : EncOk f size) (h : CellsV f w B A l) (hp : 0 < l.length) : ∃ b o, A = some ⟨b, o, none⟩ ∧ b < B ∧ ∀ i x, l[i]? = some x → ∀ j u, (f x)[j]? = some u → w.cell? ⟨b, o + (i * size + j), none⟩ = some u := by
 obtain ⟨b, o, e, hb, hc⟩ := h hp
 exact ⟨b, o, e, hb, fun i x hx j u hu => hc _ u (flat_get he hx hu)⟩
theorem CellsV.grown (h : CellsV f w B A l) {row : Option Nat} (hg : w.grownBy w' row) (hB : B ≤ w.heap.size) (hr : ∀ g, row = some g → B ≤ g) : CellsV f w' B A l :=
 h.keep fun b o hb => World.cell?_of_block (hg.block b (by omega) (fun e => by have := hr _ e.symm; omega))
end
def OwnV {α : Type} (f : α → List Value) (size : Nat) (E : TypeId) (w : World) (base : Nat) (v : Value) (l : List α) : Prop := w.ownsRow base E size v l.length (l.flatMap f)
def SliceV {α : Type} (f : α → List Value) (size : Nat) (T E : TypeId) : Prop :=
 EncOk f size ∧ Try.prog.underlying T = some (.slice E) ∧ ∃ z b, b ≤ 1000 ∧ z.cells.size = size ∧ (Try.prog.info? E).map (fun i => (i.zero, i.size, i.bytes)) = some (some z, size, b)
section
variable {α : Type} {f : α → List Value} {size : Nat} {T E : TypeId} {w w' : World} {base : Nat} {v : Value} {l : List α}
theorem ownV_ge (h : OwnV f size E w base v l) : ∀ g, v.ownBlock = some g → base ≤ g := fun g hg => (World.ownsRow.lt h g hg).1
theorem OwnV.below (h : OwnV f size E w base v l) (hb : Below w.heap.size w w') : OwnV f size E w' base v l :=
 World.ownsRow.kept h (row := none) ⟨hb.os, hb.tape, hb.output, hb.size, fun k hk _ => hb.block k hk⟩ (by cases v.ownBlock <;> simp)
theorem OwnV.alloc (h : OwnV f size E w base v l) (o : Obj) : OwnV f size E (w.alloc o) base v l := World.ownsRow.alloc h o
theorem OwnV.setCell (h : OwnV f size E w base v l) {p : Addr} (hp : p.block < base) (u : Value) : OwnV f size E (w.setCell p u) base v l :=
 ownsRow_setCell_other h (fun e => by have := ownV_ge h _ e; omega) u
theorem OwnV.nil (f : α → List Value) (size : Nat) (E : TypeId) (w : World) (base : Nat) : OwnV f size E w base (.slice none 0 0) ([] : List α) := World.ownsRow_nil _ _ _ _
theorem OwnV.cells (h : OwnV f size E w base v l) : ∃ A cap, v = .slice A l.length cap ∧ l.length ≤ cap ∧ cap ≤ 9223372036854775807 ∧ CellsV f w w.heap.size A l := by
 rcases h.2 with ⟨hv, h0⟩ | ⟨g, cap, cur, hv, _, _, hnc, hcm, _⟩
 ·have : l = [] := List.eq_nil_of_length_eq_zero h0
  subst this
  exact ⟨none, 0, hv, Nat.le_refl _, by omega, CellsV.nil⟩
 ·unfold maxLen at hcm
  refine ⟨_, cap, hv, hnc, hcm, fun _ => ?_⟩
  have hlt := World.ownsRow.lt h g (by rw [hv]; rfl)
  refine ⟨g, 0, rfl, hlt.2, fun i x hx => ?_⟩
  have := World.ownsRow.cells h (g := g) (by rw [hv]; rfl) i x hx
  have hp : (⟨g, 0, none⟩ : Addr).add i = ⟨g, 0 + i, none⟩ := by unfold Addr.add; split <;> simp_all
  rwa [hp] at this
theorem run_appV (hT : SliceV f size T E) (ty : TypeId) (hown : OwnV f size E w base v l) (B : Nat) (A : Option Addr) (m c : Nat) (news : List α) (hb : CellsV f w B A news) (hm : news.length = m)
  (hlen : l.length + m ≤ 1000000) (hbase : base ≤ w.heap.size) :
  ∃ v' w', (Builtin.append_ #[T, T] ty #[v, .slice A m c]).run Try.prog w = .ok v' w' ∧ OwnV f size E w' base v' (l ++ news) ∧ w.grownBy w' v.ownBlock ∧ (v'.ownBlock = v.ownBlock ∨ v'.ownBlock = some w.heap.size) := by
 subst hm
 obtain ⟨he, hu, z, bb, hbb, hzc, hi0⟩ := hT
 obtain ⟨i, hi, hi2⟩ := Option.map_eq_some_iff.1 hi0
 simp only [Prod.mk.injEq] at hi2
 obtain ⟨hz, hs, hby⟩ := hi2
 cases A with
 | none =>
  have hnil : news = [] := by
   rcases Nat.eq_zero_or_pos news.length with h0 | h0
   ·exact List.eq_nil_of_length_eq_zero h0
   ·obtain ⟨b, o, e, _⟩ := hb h0
    cases e
  subst hnil
  refine ⟨v, w, ?_, by simpa [OwnV] using hown, World.grownBy.refl w _, .inl rfl⟩
  rcases hown.2 with ⟨hv, hn⟩ | ⟨g, cap, cur, hv, _, _, hnc, _⟩
  ·subst hv
   simp [Builtin.append_, run_underlying hu, sizeOf, typeInfo, hi, Builtin.lenOf, Builtin.firstCells]
  ·subst hv
   simp [Builtin.append_, run_underlying hu, sizeOf, typeInfo, hi, Builtin.lenOf, Builtin.firstCells, hnc, storeCells]
 | some a =>
  have hcells : ∀ j u, (news.flatMap f)[j]? = some u → w.cell? (a.add j) = some u := by
   intro j u hu
   have hp0 : 0 < news.length := by
    rcases Nat.eq_zero_or_pos news.length with h0 | h0
    ·have := List.eq_nil_of_length_eq_zero h0
     subst this
     simp at hu
    ·exact h0
   obtain ⟨b, o, e, _, hc⟩ := hb hp0
   cases e
   have hp : (⟨b, o, none⟩ : Addr).add j = ⟨b, o + j, none⟩ := by unfold Addr.add; split <;> simp_all
   rw [hp]
   exact hc j u hu
  obtain ⟨v', w', hrun, h2, h3, _, h5⟩ := run_append_own_at (P := Try.prog) w base T ty E i z size bb hu hi hz hs hby hzc he.1 v l.length _ hown a news.length c
   (news.flatMap f) (flat_length he news) hcells (fun u hu => by
    obtain ⟨x, _, hx⟩ := List.mem_flatMap.1 hu
    exact (he.2 x).2 u hx) (by simp only [maxLen]; omega) (by
     have h1 : (l.length + news.length) * bb ≤ 1000000 * 1000 := Nat.mul_le_mul hlen hbb
     omega) hbase
  exact ⟨v', w', hrun, by unfold OwnV; rw [List.length_append, List.flatMap_append]; exact h2, h3, h5⟩
theorem wpList_appV (hT : SliceV f size T E) {ops : Array Oper} {rest : List Oper} {o : Oper} {a : Act} {Q : Exit → Act → World → Prop} (w : World) (hgd : o.guard = none) (s x : Operand)
  (ho : o.op = .call { callee := .builtin .append, args := #[s, x], argTypes := #[T, T] })
  (base : Nat) (v : Value) (l : List α) (hs : a.eval s = v) (hown : OwnV f size E w base v l)
  (B : Nat) (A : Option Addr) (m c : Nat) (news : List α) (hx : a.eval x = .slice A m c) (hb : CellsV f w B A news) (hm : news.length = m) (hlen : l.length ≤ 500000) (hlen2 : news.length ≤ 500000) (hbase : base ≤ w.heap.size)
  (h : ∀ v' w', OwnV f size E w' base v' (l ++ news) → w.grownBy w' v.ownBlock → (v'.ownBlock = v.ownBlock ∨ v'.ownBlock = some w.heap.size) → wpList Try.prog ops Q rest (a.put o.dst v') w') : wpList Try.prog ops Q (o :: rest) a w :=
 wpList_plain hgd fun _ hK => by
  obtain ⟨v', w', hrun, h2, h3, h4⟩ := run_appV hT o.type hown B A m c news hb hm (by omega) hbase
  unfold Oper.wp execOp
  simp only [ho, resolve, invoke, builtin, Sem.run_bind, Sem.run_pure, Result.andThen_ok, List.map_toArray, List.map_cons, List.map_nil, hs, hx, hrun]
  exact hK _ _ (h v' w' h2 h3 h4)
end
end Go.Proofs.Ytpjgapnihmiceaa
namespace Go.Proofs.Ytpjgapnihmiceaa
open Go.RowKit
def U.Byt (l : List Int) : Prop := ∀ x ∈ l, 0 ≤ x ∧ x ≤ 255
def Byts (w : World) (B : Nat) (A : Option Addr) (l : List Int) : Prop :=
 U.Byt l ∧ (0 < l.length → ∃ b o, A = some ⟨b, o, none⟩ ∧ b < B ∧ ∀ i x, l[i]? = some x → w.cell? ⟨b, o + i, none⟩ = some (.int .u8 x))
def strOf (l : List Int) : ByteArray := strOfNums l
theorem Byts.out {w : World} {B : Nat} {A : Option Addr} {l : List Int} (h : Byts w B A l) : U.Byt l := h.1
theorem Byts.keep {w w' : World} {B : Nat} {A : Option Addr} {l : List Int} (h : Byts w B A l) (hk : ∀ b o, b < B → w'.cell? ⟨b, o, none⟩ = w.cell? ⟨b, o, none⟩) : Byts w' B A l :=
 ⟨h.1, fun hp => by
  obtain ⟨b, o, e, hb, hc⟩ := h.2 hp
  exact ⟨b, o, e, hb, fun i x hx => (hk b (o + i) hb).trans (hc i x hx)⟩⟩
theorem Byts.below {w w' : World} {B B' : Nat} {A : Option Addr} {l : List Int} (h : Byts w B A l) (hb : Below B' w w') (hB : B ≤ B') : Byts w' B A l :=
 h.keep fun _ _ hlt => hb.cell (Nat.lt_of_lt_of_le hlt hB)
theorem Byts.more {w : World} {B B' : Nat} {A : Option Addr} {l : List Int} (h : Byts w B A l) (hB : B ≤ B') : Byts w B' A l :=
 ⟨h.1, fun hp => by
  obtain ⟨b, o, e, hb, hc⟩ := h.2 hp
  exact ⟨b, o, e, by omega, hc⟩⟩
theorem Byts.on {w : World} {B : Nat} {A : Option Addr} {l : List Int} (h : Byts w B A l) (hB : B ≤ w.heap.size) {w' : World} (hb : Below w.heap.size w w') : Byts w' w'.heap.size A l :=
 (h.below hb hB).more (Nat.le_trans hB hb.size)
theorem Byts.nil {w : World} {B : Nat} {A : Option Addr} : Byts w B A [] := ⟨fun x hx => by simp at hx, fun h => by simp at h⟩
theorem Byts.take {w : World} {B : Nat} {A : Option Addr} {l : List Int} (h : Byts w B A l) (n : Nat) : Byts w B A (l.take n) :=
 ⟨fun x hx => h.1 x (List.mem_of_mem_take hx), fun hp => by
  obtain ⟨b, o, e, hb, hc⟩ := h.2 (by rw [List.length_take] at hp; omega)
  exact ⟨b, o, e, hb, fun i x hx => hc i x (by
   rw [List.getElem?_take] at hx
   split at hx
   ·exact hx
   ·cases hx)⟩⟩
theorem Byts.nums {w : World} {B : Nat} {A : Option Addr} {l : List Int} (h : Byts w B A l) : NumsK .u8 w B A l := h.2
theorem conv_bytes {w : World} {B : Nat} {A : Option Addr} {l : List Int} (h : Byts w B A l) (n cap : Nat) (hn : l.length = n) :
  (convert 22 9 (.slice A n cap)).run Try.prog w = .ok (.string (strOf l)) w := by
 subst hn
 by_cases hl : 0 < l.length
 ·obtain ⟨b, o, rfl, _, hc⟩ := h.2 hl
  exact run_convert_bytes_arg w _ 5 Try.underlying22 Try.underlying5 b o l.length cap l rfl (fun i hi => by
   rw [hc i _ (List.getElem?_eq_getElem hi)]
   simp [List.getD, List.getElem?_eq_getElem hi]) _ Try.underlying9
 ·have : l = [] := List.eq_nil_of_length_eq_zero (by omega)
  subst this
  cases A with
  | none => exact run_convert_bytes_nil w _ 5 Try.underlying22 Try.underlying5 _ _ _ Try.underlying9
  | some a =>
   have := run_convert_bytes_back w 22 9 5 a cap [] Try.underlying22 Try.underlying5 Try.underlying9 (fun j hj => by simp at hj)
   simpa [strOf, strOfNums] using this
def bts (s : ByteArray) : List Int := s.data.toList.map fun b => (b.toNat : Int)
end Go.Proofs.Ytpjgapnihmiceaa
namespace Go.Proofs.Ytpjgapnihmiceaa
open Go.RowKit
def tabL : List (List UInt8) := [
 [],
 [110, 97, 109, 101],
 [105, 110, 116],
 [102, 108, 111, 97, 116],
 [99, 104, 97, 114],
 [115, 116, 114, 105, 110, 103],
 [],
 [],
 [],
 [],
 [98, 114, 101, 97, 107],
 [99, 97, 115, 101],
 [99, 104, 97, 110],
 [99, 111, 110, 115, 116],
 [99, 111, 110, 116, 105, 110, 117, 101],
 [100, 101, 102, 97, 117, 108, 116],
 [100, 101, 102, 101, 114],
 [101, 108, 115, 101],
 [102, 97, 108, 108, 116, 104, 114, 111, 117, 103, 104],
 [102, 111, 114],
 [102, 117, 110, 99],
 [103, 111],
 [103, 111, 116, 111],
 [105, 102],
 [105, 109, 112, 111, 114, 116],
 [105, 110, 116, 101, 114, 102, 97, 99, 101],
 [109, 97, 112],
 [112, 97, 99, 107, 97, 103, 101],
 [114, 97, 110, 103, 101],
 [114, 101, 116, 117, 114, 110],
 [115, 101, 108, 101, 99, 116],
 [115, 116, 114, 117, 99, 116],
 [115, 119, 105, 116, 99, 104],
 [116, 121, 112, 101],
 [118, 97, 114],
 [],
 [],
 [],
 [],
 [],
 [43],
 [45],
 [42],
 [47],
 [37],
 [38],
 [124],
 [94],
 [60, 60],
 [62, 62],
 [38, 94],
 [43, 61],
 [45, 61],
 [42, 61],
 [47, 61],
 [37, 61],
 [38, 61],
 [124, 61],
 [94, 61],
 [60, 60, 61],
 [62, 62, 61],
 [38, 94, 61],
 [38, 38],
 [124, 124],
 [60, 45],
 [43, 43],
 [45, 45],
 [61, 61],
 [60],
 [62],
 [61],
 [33],
 [126],
 [33, 61],
 [60, 61],
 [62, 61],
 [58, 61],
 [46, 46, 46],
 [40],
 [91],
 [123],
 [44],
 [46],
 [41],
 [93],
 [125],
 [59],
 [58]]
def txl (k : Nat) : List UInt8 := tabL.getD k []
def tx (k : Nat) : ByteArray := ⟨(txl k).toArray⟩
theorem tx_size (k : Nat) : (tx k).size = (txl k).length := by simp [tx, ByteArray.size]
theorem bytes_inj {s t : ByteArray} (h : s.data.toList = t.data.toList) : s = t := by
 obtain ⟨⟨a⟩⟩ := s; obtain ⟨⟨b⟩⟩ := t; simp at h; rw [h]
def spA (k : Int) : ByteArray := if 0 ≤ k ∧ k < 88 then tx k.toNat else ⟨#[]⟩
theorem spA_in {k : Nat} (h : k < 88) : spA (k : Int) = tx k := by
 unfold spA; rw [if_pos (by omega)]; simp
theorem spA_out {k : Int} (h : k < 0 ∨ 88 ≤ k) : spA k = ⟨#[]⟩ := by
 unfold spA; rw [if_neg (by omega)]
theorem tab_all {p : Nat → Bool} {n : Nat} (h : (List.range n).all p = true) {k : Nat} (hk : k < n) : p k = true := List.all_eq_true.1 h k (List.mem_range.2 hk)
theorem txl_out {k : Nat} (h : 88 ≤ k) : txl k = [] := by
 unfold txl; rw [List.getD_eq_getElem?_getD, List.getElem?_eq_none (by simpa [tabL] using h)]; rfl
def nthF : List UInt8 → List UInt8 → Nat → List UInt8
 | [], _, _ => []
 | c :: r, acc, n => if c = 32 then (match n with
  | 0 => acc
  | m + 1 => nthF r [] m) else nthF r (acc ++ [c]) n
def namesL : List UInt8 := [110, 97, 109, 101, 32, 105, 110, 116, 32, 102, 108, 111, 97, 116, 32, 99, 104, 97, 114, 32, 115, 116, 114, 105, 110, 103, 32]
def wordsL : List UInt8 := [98, 114, 101, 97, 107, 32, 99, 97, 115, 101, 32, 99, 104, 97, 110, 32, 99, 111, 110, 115, 116, 32, 99, 111, 110, 116, 105, 110, 117, 101, 32, 100, 101, 102, 97, 117, 108, 116, 32, 100, 101, 102, 101, 114, 32, 101, 108, 115, 101, 32, 102, 97, 108, 108, 116, 104, 114, 111, 117, 103, 104, 32, 102, 111, 114, 32, 102, 117, 110, 99, 32, 103, 111, 32, 103, 111, 116, 111, 32, 105, 102, 32, 105, 109, 112, 111, 114, 116, 32, 105, 110, 116, 101, 114, 102, 97, 99, 101, 32, 109, 97, 112, 32, 112, 97, 99, 107, 97, 103, 101, 32, 114, 97, 110, 103, 101, 32, 114, 101, 116, 117, 114, 110, 32, 115, 101, 108, 101, 99, 116, 32, 115, 116, 114, 117, 99, 116, 32, 115, 119, 105, 116, 99, 104, 32, 116, 121, 112, 101, 32, 118, 97, 114, 32]
def signsL : List UInt8 := [43, 32, 45, 32, 42, 32, 47, 32, 37, 32, 38, 32, 124, 32, 94, 32, 60, 60, 32, 62, 62, 32, 38, 94, 32, 43, 61, 32, 45, 61, 32, 42, 61, 32, 47, 61, 32, 37, 61, 32, 38, 61, 32, 124, 61, 32, 94, 61, 32, 60, 60, 61, 32, 62, 62, 61, 32, 38, 94, 61, 32, 38, 38, 32, 124, 124, 32, 60, 45, 32, 43, 43, 32, 45, 45, 32, 61, 61, 32, 60, 32, 62, 32, 61, 32, 33, 32, 126, 32, 33, 61, 32, 60, 61, 32, 62, 61, 32, 58, 61, 32, 46, 46, 46, 32, 40, 32, 91, 32, 123, 32, 44, 32, 46, 32, 41, 32, 93, 32, 125, 32, 59, 32, 58, 32]
theorem names_nth {k : Nat} (h : k < 5) : nthF namesL [] k = txl (k + 1) := by
 have := tab_all (p := fun k => nthF namesL [] k == txl (k + 1)) (n := 5) (by decide +kernel) h
 simpa using this
theorem words_nth {k : Nat} (h : k < 30) : nthF wordsL [] k = txl (k + 10) := by
 have := tab_all (p := fun k => nthF wordsL [] k == txl (k + 10)) (n := 30) (by decide +kernel) h
 simpa using this
theorem signs_nth {k : Nat} (h : k < 60) : nthF signsL [] k = txl (k + 40) := by
 have := tab_all (p := fun k => nthF signsL [] k == txl (k + 40)) (n := 60) (by decide +kernel) h
 simpa using this
def inA (k : Int) (l : List UInt8) : Bool := !(spA k).data.toList.isEmpty && (List.range 20).any fun n => nthF l [] n == (spA k).data.toList
theorem inA_out {k : Int} {l : List UInt8} (h : k < 0 ∨ 88 ≤ k) : inA k l = false := by
 unfold inA; rw [spA_out h]; rfl
theorem byKind {p : Int → Prop} [DecidablePred p] (n : Nat) (h : ((List.range n).all fun k => decide (p (k : Int))) = true) {k : Int} (h0 : 0 ≤ k) (h1 : k < n) : p k := by
 obtain ⟨m, rfl⟩ := Int.eq_ofNat_of_zero_le h0
 exact of_decide_eq_true (tab_all h (by omega))
theorem txl_op {i : Nat} (h : 40 ≤ i) (h2 : i < 88) : 1 ≤ (txl i).length ∧ (txl i).length ≤ 3 := by
 have := tab_all (p := fun i => decide (1 ≤ (txl (i + 40)).length ∧ (txl (i + 40)).length ≤ 3)) (n := 48) (by decide +kernel) (k := i - 40) (by omega)
 rw [show i - 40 + 40 = i by omega] at this
 simpa using this
def Beg (d : List Int) (j : Nat) : Prop := bts (tx j) <+: d
def OpIs (d : List Int) (k n : Nat) : Prop :=
 (k = 0 ∧ n = 0 ∧ ∀ j, 40 ≤ j → j < 88 → ¬ Beg d j) ∨ (40 ≤ k ∧ k < 88 ∧ n = (tx k).size ∧ Beg d k ∧ ∀ j, 40 ≤ j → j < 88 → Beg d j → (tx j).size ≤ n)
def OpTo (d : List Int) (m k n : Nat) : Prop :=
 (k = 0 ∧ n = 0 ∧ ∀ j, 40 ≤ j → j < m → ¬ Beg d j) ∨ (40 ≤ k ∧ k < m ∧ n = (tx k).size ∧ Beg d k ∧ ∀ j, 40 ≤ j → j < m → Beg d j → (tx j).size ≤ n)
theorem OpTo.zero (d : List Int) : OpTo d 40 0 0 := .inl ⟨rfl, rfl, fun j h h' => by omega⟩
theorem OpTo.next {d : List Int} {m k n : Nat} (h : OpTo d m k n) (hm : m < 88) (hn : n < (tx m).size → ¬ Beg d m) : OpTo d (m + 1) k n := by
 rcases h with ⟨h1, h2, h3⟩ | ⟨h1, h2, h3, h4, h5⟩
 ·refine .inl ⟨h1, h2, fun j g g' hb => ?_⟩
  by_cases e : j = m
  ·subst e
   exact hn (by have := (txl_op g hm).1; rw [tx_size]; omega) hb
  ·exact h3 j g (by omega) hb
 ·refine .inr ⟨h1, by omega, h3, h4, fun j g g' hb => ?_⟩
  by_cases e : j = m
  ·subst e
   rcases Nat.lt_or_ge n (tx j).size with hx | hx
   ·exact absurd hb (hn hx)
   ·exact hx
  ·exact h5 j g (by omega) hb
theorem OpTo.hit {d : List Int} {m k n : Nat} (h : OpTo d m k n) (hm : 40 ≤ m) (hn : n < (tx m).size) (hb : Beg d m) : OpTo d (m + 1) m (tx m).size := by
 refine .inr ⟨hm, by omega, rfl, hb, fun j g g' hj => ?_⟩
 by_cases e : j = m
 ·subst e; exact Nat.le_refl _
 ·rcases h with ⟨h1, h2, h3⟩ | ⟨h1, h2, h3, h4, h5⟩
  ·exact absurd hj (h3 j g (by omega))
  ·have := h5 j g (by omega) hj
   omega
theorem OpTo.done {d : List Int} {k n : Nat} (h : OpTo d 88 k n) : OpIs d k n := h
end Go.Proofs.Ytpjgapnihmiceaa
namespace Go.Proofs.Ytpjgapnihmiceaa
open Go.RowKit
structure Tv where
 k : Int
 f : Int
 t : Int
 a : Bool
 e : Int
instance : Inhabited Tv := ⟨⟨0, 0, 0, false, 0⟩⟩
def tokV (L : List Tv) (i : Int) : Tv := L.getD i.toNat default
theorem at_tok {L : List Tv} {i : Nat} (h : i < L.length) : L[i]? = some (tokV L i) := by unfold tokV; rw [List.getD_eq_getElem?_getD, Int.toNat_natCast, List.getElem?_eq_getElem h]; rfl
def inT (T : List Nd) (n : Int) : Bool := decide (0 ≤ n ∧ n < (T.length : Int))
def kidV (T : List Nd) (n i : Int) : Int := if inT T n = true ∧ 0 ≤ i ∧ i < ((kd T n).kids.length : Int) then (kd T n).kids.getD i.toNat 0 else -1
def cutV (l : List Int) (x : Tv) : ByteArray := if x.f < 0 ∨ x.f > x.t ∨ x.t > (l.length : Int) then ⟨#[]⟩ else strOf ((l.drop x.f.toNat).take (x.t.toNat - x.f.toNat))
def wordV (l : List Int) (L : List Tv) (T : List Nd) (n : Int) : ByteArray := if inT T n = true ∧ ((kd T n).k = 2 ∨ (kd T n).k = 3) ∧ (kd T n).f ≠ (kd T n).t then cutV l (tokV L (kd T n).f) else ⟨#[]⟩
def ownV (T : List Nd) (n : Int) : List Int := if inT T n = true then ownL T n.toNat else []
def punB (k : Int) : Bool := decide (78 ≤ k ∧ k ≤ 87)
def punL : List UInt8 := [40, 32, 41, 32, 91, 32, 93, 32, 123, 32, 125, 32, 44, 32, 46, 32, 58, 32, 59, 32]
theorem pun_eq (k : Int) : inA k punL = punB k := by
 by_cases h : 0 ≤ k ∧ k < 88
 ·exact byKind (p := fun k => inA k punL = punB k) 88 (by decide +kernel) h.1 (by omega)
 ·rw [inA_out (by omega)]
  unfold punB
  rw [decide_eq_false (by omega)]
def opG (L : List Tv) : List Int → Int
 | [] => 0
 | o :: r => if punB (tokV L o).k then opG L r else (tokV L o).k
def opV (L : List Tv) (T : List Nd) (n : Int) : Int := opG L (ownV T n)
def chanG (L : List Tv) : List Int → Int
 | [] => 0
 | [a] => if (tokV L a).k = 64 then 2 else 0
 | a :: b :: _ => if (tokV L a).k = 64 then 2 else if (tokV L b).k = 64 then 1 else 0
def chanV (L : List Tv) (T : List Nd) (n : Int) : Int := if inT T n = true ∧ (kd T n).k = 26 then chanG L (ownV T n) else 0
def placeV (L : List Tv) (x : Int) : Int := if x < (L.length : Int) then (tokV L x).f else (tokV L ((L.length : Int) - 1)).t
def spanV (L : List Tv) (T : List Nd) (n : Int) : Int × Int :=
 if inT T n = true ∧ 0 < L.length then
  if (kd T n).f < (kd T n).t then ((tokV L (kd T n).f).f, (tokV L ((kd T n).t - 1)).t) else (placeV L (kd T n).f, placeV L (kd T n).f)
 else (0, 0)
def hasV (L : List Tv) (T : List Nd) (n k : Int) : Bool := (ownV T n).any fun o => decide ((tokV L o).k = k)
def emptyV (T : List Nd) (n : Int) : Bool := !inT T n || decide ((kd T n).k = 0)
end Go.Proofs.Ytpjgapnihmiceaa
