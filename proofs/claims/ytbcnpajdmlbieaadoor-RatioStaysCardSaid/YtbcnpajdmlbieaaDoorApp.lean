/-
  'append' and 'make' of slices of integers of the call's own, whatever the source (nil, empty, or with numbers): told in 'NumsK'. Of every kind of integer: the slice's type and the element's are given.
-/
import Derived.Test.YtbcnpajdmlbieaaDoorBase
import Derived.Maps.AppendAt
import Derived.Deep.AppendLies
import Derived.Laws.OwnMore
import Derived.OneCell
namespace Go.Proofs.YtbcnpajdmlbieaaDoor
open Go.RowKit

/-- The slice v, made from block 'base' on, of element type E, holds the numbers l of kind k. -/
def OwnK (k : IntKind) (E : TypeId) (w : World) (base : Nat) (v : Value) (l : List Int) : Prop := w.ownsRow base E 1 v l.length (l.map fun x => Value.int k x)
/-- T is a slice type of elements E, integers of kind k. -/
def SliceK (k : IntKind) (T E : TypeId) : Prop := Tryd.prog.underlying T = some (.slice E) ∧ ∃ b, b ≤ 8 ∧ (Tryd.prog.info? E).map (fun i => (i.zero, i.size, i.bytes)) = some (some (.int k 0), 1, b)
theorem own_ge {k : IntKind} {E : TypeId} {w : World} {base : Nat} {v : Value} {l : List Int} (h : OwnK k E w base v l) : ∀ g, v.ownBlock = some g → base ≤ g := fun g hg => (World.ownsRow.lt h g hg).1
theorem run_append_none {k : IntKind} {T E : TypeId} (hT : SliceK k T E) (w : World) (ty : TypeId) (base : Nat) (v : Value) (l : List Int) (hown : OwnK k E w base v l) (c : Nat) : (Builtin.append_ #[T, T] ty #[v, .slice none 0 c]).run Tryd.prog w = .ok v w := by
  obtain ⟨hu, b, _, hi0⟩ := hT
  obtain ⟨i, hi, _⟩ := Option.map_eq_some_iff.1 hi0
  rcases hown.2 with ⟨hv, hn⟩ | ⟨g, cap, cur, hv, _, _, hnc, _⟩
  · subst hv
    simp [Builtin.append_, run_underlying hu, sizeOf, typeInfo, hi, Builtin.lenOf, Builtin.firstCells]
  · subst hv
    simp [Builtin.append_, run_underlying hu, sizeOf, typeInfo, hi, Builtin.lenOf, Builtin.firstCells, hnc, storeCells]
theorem run_app {k : IntKind} {T E : TypeId} (hT : SliceK k T E) (w : World) (ty : TypeId) (base : Nat) (v : Value) (l : List Int) (hown : OwnK k E w base v l) (B : Nat) (A : Option Addr) (m c : Nat) (news : List Int) (hb : NumsK k w B A news) (hm : news.length = m)
    (hlen : l.length + m ≤ 1000000) (hbase : base ≤ w.heap.size) :
    ∃ v' w', (Builtin.append_ #[T, T] ty #[v, .slice A m c]).run Tryd.prog w = .ok v' w' ∧ OwnK k E w' base v' (l ++ news) ∧ w.grownBy w' v.ownBlock ∧ (v'.ownBlock = v.ownBlock ∨ v'.ownBlock = some w.heap.size) := by
  subst hm
  have hT' := hT
  obtain ⟨hu, bb, hbb, hi0⟩ := hT'
  obtain ⟨i, hi, hi2⟩ := Option.map_eq_some_iff.1 hi0
  simp only [Prod.mk.injEq] at hi2
  obtain ⟨hz, hs, hby⟩ := hi2
  cases A with
  | none =>
    have hnil : news = [] := by
      rcases Nat.eq_zero_or_pos news.length with h0 | h0
      · exact List.eq_nil_of_length_eq_zero h0
      · obtain ⟨b, o, e, _⟩ := hb h0
        cases e
    subst hnil
    exact ⟨v, w, run_append_none hT w ty base v l hown c, by simpa [OwnK] using hown, World.grownBy.refl w _, .inl rfl⟩
  | some a =>
    have hcells : ∀ j u, (news.map fun x => Value.int k x)[j]? = some u → w.cell? (a.add j) = some u := by
      intro j u hu
      rw [List.getElem?_map, Option.map_eq_some_iff] at hu
      obtain ⟨x, hx, rfl⟩ := hu
      obtain ⟨b, o, e, _, hc⟩ := hb (by have := (List.getElem?_eq_some_iff.1 hx).1; omega)
      cases e
      have hp : (⟨b, o, none⟩ : Addr).add j = ⟨b, o + j, none⟩ := by unfold Addr.add; split <;> simp_all
      rw [hp]
      exact hc j x hx
    obtain ⟨v', w', hrun, h2, h3, _, h5⟩ := run_append_own_at (P := Tryd.prog) w base T ty E i _ 1 bb hu hi hz hs hby rfl (by omega) v l.length _ hown a news.length c
      (news.map fun x => Value.int k x) (by simp) hcells (fun u hu => by
        obtain ⟨x, _, rfl⟩ := List.mem_map.1 hu
        rfl) (by simp only [maxLen]; omega) (by
          have h1 : (l.length + news.length) * bb ≤ 1000000 * 8 := Nat.mul_le_mul hlen hbb
          omega) hbase
    exact ⟨v', w', hrun, by unfold OwnK; rw [List.length_append, List.map_append]; exact h2, h3, h5⟩
theorem wpList_app {k : IntKind} {T E : TypeId} (hT : SliceK k T E) {ops : Array Oper} {rest : List Oper} {o : Oper} {a : Act} {Q : Exit → Act → World → Prop} (w : World) (hgd : o.guard = none) (s x : Operand)
    (ho : o.op = .call { callee := .builtin .append, args := #[s, x], argTypes := #[T, T] })
    (base : Nat) (v : Value) (l : List Int) (hs : a.eval s = v) (hown : OwnK k E w base v l)
    (B : Nat) (A : Option Addr) (m c : Nat) (news : List Int) (hx : a.eval x = .slice A m c) (hb : NumsK k w B A news) (hm : news.length = m) (hlen : l.length ≤ 500000) (hlen2 : news.length ≤ 500000) (hbase : base ≤ w.heap.size)
    (h : ∀ v' w', OwnK k E w' base v' (l ++ news) → w.grownBy w' v.ownBlock → (v'.ownBlock = v.ownBlock ∨ v'.ownBlock = some w.heap.size) → wpList Tryd.prog ops Q rest (a.put o.dst v') w') : wpList Tryd.prog ops Q (o :: rest) a w :=
  wpList_plain hgd fun _ hK => by
    obtain ⟨v', w', hrun, h2, h3, h4⟩ := run_app hT w o.type base v l hown B A m c news hb hm (by omega) hbase
    unfold Oper.wp execOp
    simp only [ho, resolve, invoke, builtin, Sem.run_bind, Sem.run_pure, Result.andThen_ok, List.map_toArray, List.map_cons, List.map_nil, hs, hx, hrun]
    exact hK _ _ (h v' w' h2 h3 h4)
/-- What was there below the block that is appended to is kept. -/
theorem NumsK.grown {k : IntKind} {w w' : World} {B : Nat} {A : Option Addr} {l : List Int} (h : NumsK k w B A l) {row : Option Nat} (hg : w.grownBy w' row) (hB : B ≤ w.heap.size) (hr : ∀ g, row = some g → B ≤ g) : NumsK k w' B A l :=
  h.keep fun b o hb => World.cell?_of_block (hg.block b (by omega) (fun e => by have := hr _ e.symm; omega))
theorem OwnK.below {k : IntKind} {E : TypeId} {w w' : World} {base : Nat} {v : Value} {l : List Int} (h : OwnK k E w base v l) (hb : Below w.heap.size w w') : OwnK k E w' base v l :=
  World.ownsRow.kept h (row := none) ⟨hb.os, hb.tape, hb.output, hb.size, fun k hk _ => hb.block k hk⟩ (by cases v.ownBlock <;> simp)
theorem OwnK.setCell {k : IntKind} {E : TypeId} {w : World} {base : Nat} {v : Value} {l : List Int} (h : OwnK k E w base v l) {p : Addr} (hp : p.block < base) (u : Value) : OwnK k E (w.setCell p u) base v l :=
  ownsRow_setCell_other h (fun e => by have := own_ge h _ e; omega) u
theorem OwnK.nil (k : IntKind) (E : TypeId) (w : World) (base : Nat) : OwnK k E w base (.slice none 0 0) [] := World.ownsRow_nil _ _ _ _
/-- A slice of the call's own, as its numbers. -/
theorem OwnK.nums {k : IntKind} {E : TypeId} {w : World} {base : Nat} {v : Value} {l : List Int} (h : OwnK k E w base v l) : ∃ A cap, v = .slice A l.length cap ∧ l.length ≤ cap ∧ cap ≤ maxLen ∧ NumsK k w w.heap.size A l := by
  rcases h.2 with ⟨hv, h0⟩ | ⟨g, cap, cur, hv, _, _, hnc, hcm, _⟩
  · have : l = [] := List.eq_nil_of_length_eq_zero h0
    subst this
    exact ⟨none, 0, hv, Nat.le_refl _, Nat.zero_le _, NumsK.nil⟩
  · refine ⟨_, cap, hv, hnc, hcm, fun _ => ?_⟩
    have hlt := World.ownsRow.lt h g (by rw [hv]; rfl)
    refine ⟨g, 0, rfl, hlt.2, fun i x hx => ?_⟩
    have := World.ownsRow.cells h (g := g) (by rw [hv]; rfl) i (.int k x) (by rw [List.getElem?_map, hx]; rfl)
    have hp : (⟨g, 0, none⟩ : Addr).add i = ⟨g, 0 + i, none⟩ := by unfold Addr.add; split <;> simp_all
    rwa [hp] at this
/-- A slice literal, in a block of its own. -/
theorem OwnK.lit (k : IntKind) (E : TypeId) (w : World) (base : Nat) (l : List Int) (hb : base ≤ w.heap.size) (hl : l.length ≤ 1000000) : OwnK k E (w.alloc (.cells (l.map fun x => Value.int k x).toArray E)) base (.slice (some ⟨w.heap.size, 0, none⟩) l.length l.length) l := by
  have := World.ownsRow_lit (e := E) (size := 1) (base := base) w (l.map fun x => Value.int k x).toArray l.length hb (by simp only [maxLen]; omega) (by simp)
  simpa [OwnK] using this
/-- 'make([]T, n, c)': n zeros. -/
theorem run_makeK {k : IntKind} {T E : TypeId} (hT : SliceK k T E) (w : World) (base n c : Nat) (hn : n ≤ c) (hc : c ≤ 1000000) (hb : base ≤ w.heap.size) :
    ∃ w', (Instr.makeSlice T (.int .i64 (n : Int)) (.int .i64 (c : Int))).run Tryd.prog w = .ok (.slice (some ⟨w.heap.size, 0, none⟩) n c) w' ∧ OwnK k E w' base (.slice (some ⟨w.heap.size, 0, none⟩) n c) (List.replicate n 0) ∧ w.grownBy w' none := by
  obtain ⟨hu, bb, hbb, hi0⟩ := hT
  obtain ⟨i, hi, hi2⟩ := Option.map_eq_some_iff.1 hi0
  simp only [Prod.mk.injEq] at hi2
  obtain ⟨hz, hs, hby⟩ := hi2
  have hr := run_make (P := Tryd.prog) w T E i _ hu hi hz .i64 .i64 n c (by omega) (by omega) (by
    rw [hby]
    have : bb * c ≤ 8 * 1000000 := Nat.mul_le_mul hbb hc
    have h2 : ((bb : Int) * (c : Int)) = ((bb * c : Nat) : Int) := by simp
    rw [h2]
    omega) (by omega)
  simp only [Int.toNat_natCast, hs, Nat.mul_one] at hr
  refine ⟨_, hr, ?_, World.grownBy_alloc w _ none⟩
  unfold OwnK
  refine ⟨by simp, .inr ⟨w.heap.size, c, _, by simp, hb, heap_alloc_new w _, by simpa using hn, by simp only [maxLen]; omega, by have := size_madeCells (Value.int k 0).cells c; simpa using this, ?_⟩⟩
  simp [madeCells, Value.cells]
  have e : (fun x : Nat => [Value.int k 0][x % 1]?.getD default) = fun _ => Value.int k 0 := by
    funext x
    simp [Nat.mod_one]
  rw [e]
  apply List.ext_getElem
  · simp
    omega
  · intro i h1 h2
    simp
theorem wpList_makeK {k : IntKind} {T E : TypeId} (hT : SliceK k T E) {ops : Array Oper} {rest : List Oper} {o : Oper} {a : Act} {Q : Exit → Act → World → Prop} (w : World) (hgd : o.guard = none) (l c : Operand)
    (ho : o.op = .makeSlice T l c) (base n m : Nat) (hl : a.eval l = .int .i64 (n : Int)) (hc : a.eval c = .int .i64 (m : Int)) (hn : n ≤ m) (hm : m ≤ 1000000) (hb : base ≤ w.heap.size)
    (h : ∀ w', OwnK k E w' base (.slice (some ⟨w.heap.size, 0, none⟩) n m) (List.replicate n 0) → w.grownBy w' none → wpList Tryd.prog ops Q rest (a.put o.dst (.slice (some ⟨w.heap.size, 0, none⟩) n m)) w') : wpList Tryd.prog ops Q (o :: rest) a w :=
  wpList_plain hgd fun _ hK => by
    obtain ⟨w', hrun, h2, h3⟩ := run_makeK hT w base n m hn hm hb
    unfold Oper.wp execOp
    simp only [ho, Sem.run_bind, Sem.run_pure, Result.andThen_ok, hl, hc, hrun]
    exact hK _ _ (h w' h2 h3)
/-- A function that hands back one variable's cells. -/
theorem results_cell1 {fn : Func} {p : Tmp} {ty : TypeId} (h : fn.results = #[.cell p ty]) (tmps : Array Value) (P : Program) (w : World) :
    (results fn tmps).run P w = ((asAddr (tmps.getD p undef)).run P w).andThen fun a w₁ => (loadVar ty a).run P w₁ := by
  simp only [results, h]
  simp [Sem.run_bind, Result.andThen]
end Go.Proofs.YtbcnpajdmlbieaaDoor
