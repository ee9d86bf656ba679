/-
  Slices whose elements are structs (or anything of a fixed number of cells): told by a function f from what an element is to its cells. 'append' onto a slice of the call's own, whatever the source; reading an element. Nothing of the program is named here but its types' table.
-/
import Derived.Test.YtijikbfcobnclaaDoorApp
namespace Go.Proofs.YtijikbfcobnclaaDoor
open Go.RowKit

/-- f lays an element in 'size' cells. -/
def EncOk {α : Type} (f : α → List Value) (size : Nat) : Prop := 0 < size ∧ ∀ a, (f a).length = size ∧ ∀ u ∈ f a, u.oneCell' = true
theorem flat_length {α : Type} {f : α → List Value} {size : Nat} (h : EncOk f size) : ∀ l : List α, (l.flatMap f).length = l.length * size
  | [] => by simp
  | a :: l => by
    rw [List.flatMap_cons, List.length_append, (h.2 a).1, flat_length h l, List.length_cons, Nat.add_mul]
    omega
theorem flat_get {α : Type} {f : α → List Value} {size : Nat} (h : EncOk f size) : ∀ {l : List α} {i j : Nat} {x : α} {u : Value}, l[i]? = some x → (f x)[j]? = some u → (l.flatMap f)[i * size + j]? = some u
  | [], i, j, x, u, hx, _ => by simp at hx
  | a :: l, 0, j, x, u, hx, hu => by
    simp at hx
    subst hx
    have hj : j < (f a).length := (List.getElem?_eq_some_iff.1 hu).1
    rw [List.flatMap_cons, Nat.zero_mul, Nat.zero_add, List.getElem?_append_left hj]
    exact hu
  | a :: l, i + 1, j, x, u, hx, hu => by
    have ih := flat_get h (l := l) (i := i) (j := j) (by simpa using hx) hu
    have e : (i + 1) * size + j - (f a).length = i * size + j := by rw [(h.2 a).1, Nat.add_mul]; omega
    rw [List.flatMap_cons, List.getElem?_append_right (by rw [(h.2 a).1, Nat.add_mul]; omega), e]
    exact ih
theorem flat_take {α : Type} {f : α → List Value} {size : Nat} (h : EncOk f size) : ∀ (l : List α) (n : Nat), (l.take n).flatMap f = (l.flatMap f).take (n * size)
  | [], n => by simp
  | a :: l, 0 => by simp
  | a :: l, n + 1 => by
    have h1 : (f a).take ((n + 1) * size) = f a := List.take_of_length_le (by rw [(h.2 a).1, Nat.add_mul]; omega)
    have h2 : (n + 1) * size - size = n * size := by rw [Nat.add_mul]; omega
    rw [List.take_succ_cons, List.flatMap_cons, List.flatMap_cons, flat_take h l n, List.take_append, h1, (h.2 a).1, h2]
/-- The elements l in the slice at A, in a block below B. -/
def CellsV {α : Type} (f : α → List Value) (w : World) (B : Nat) (A : Option Addr) (l : List α) : Prop :=
  0 < l.length → ∃ b o, A = some ⟨b, o, none⟩ ∧ b < B ∧ ∀ j u, (l.flatMap f)[j]? = some u → w.cell? ⟨b, o + j, none⟩ = some u
section
variable {α : Type} {f : α → List Value} {w w' : World} {B B' : Nat} {A : Option Addr} {l : List α}
theorem CellsV.keep (h : CellsV f w B A l) (hk : ∀ b o, b < B → w'.cell? ⟨b, o, none⟩ = w.cell? ⟨b, o, none⟩) : CellsV f w' B A l :=
  fun hp => by
    obtain ⟨b, o, e, hb, hc⟩ := h hp
    exact ⟨b, o, e, hb, fun j u hu => (hk b (o + j) hb).trans (hc j u hu)⟩
theorem CellsV.below (h : CellsV f w B A l) (hb : Below B' w w') (hB : B ≤ B') : CellsV f w' B A l :=
  h.keep fun _ _ hlt => hb.cell (Nat.lt_of_lt_of_le hlt hB)
theorem CellsV.more (h : CellsV f w B A l) (hB : B ≤ B') : CellsV f w B' A l :=
  fun hp => by
    obtain ⟨b, o, e, hb, hc⟩ := h hp
    exact ⟨b, o, e, by omega, hc⟩
theorem CellsV.on (h : CellsV f w B A l) (hB : B ≤ w.heap.size) (hb : Below w.heap.size w w') : CellsV f w' w'.heap.size A l :=
  (h.below hb hB).more (Nat.le_trans hB hb.size)
theorem CellsV.nil : CellsV f w B A [] := fun h => by simp at h
theorem CellsV.take {size : Nat} (he : EncOk f size) (h : CellsV f w B A l) (n : Nat) : CellsV f w B A (l.take n) :=
  fun hp => by
    obtain ⟨b, o, e, hb, hc⟩ := h (by rw [List.length_take] at hp; omega)
    refine ⟨b, o, e, hb, fun j u hu => hc j u ?_⟩
    rw [flat_take he, List.getElem?_take] at hu
    split at hu
    · exact hu
    · cases hu
/-- One element's cells. -/
theorem CellsV.get {size : Nat} (he : EncOk f size) (h : CellsV f w B A l) (hp : 0 < l.length) : ∃ b o, A = some ⟨b, o, none⟩ ∧ b < B ∧ ∀ i x, l[i]? = some x → ∀ j u, (f x)[j]? = some u → w.cell? ⟨b, o + (i * size + j), none⟩ = some u := by
  obtain ⟨b, o, e, hb, hc⟩ := h hp
  exact ⟨b, o, e, hb, fun i x hx j u hu => hc _ u (flat_get he hx hu)⟩
theorem CellsV.grown (h : CellsV f w B A l) {row : Option Nat} (hg : w.grownBy w' row) (hB : B ≤ w.heap.size) (hr : ∀ g, row = some g → B ≤ g) : CellsV f w' B A l :=
  h.keep fun b o hb => World.cell?_of_block (hg.block b (by omega) (fun e => by have := hr _ e.symm; omega))
end
/-- The slice v, made from block 'base' on, of element type E, holds the elements l. -/
def OwnV {α : Type} (f : α → List Value) (size : Nat) (E : TypeId) (w : World) (base : Nat) (v : Value) (l : List α) : Prop := w.ownsRow base E size v l.length (l.flatMap f)
/-- T is a slice type of elements E, which f lays in 'size' cells; z is E's zero. -/
def SliceV {α : Type} (f : α → List Value) (size : Nat) (T E : TypeId) : Prop :=
  EncOk f size ∧ Tryd.prog.underlying T = some (.slice E) ∧ ∃ z b, b ≤ 1000 ∧ z.cells.size = size ∧ (Tryd.prog.info? E).map (fun i => (i.zero, i.size, i.bytes)) = some (some z, size, b)
section
variable {α : Type} {f : α → List Value} {size : Nat} {T E : TypeId} {w w' : World} {base : Nat} {v : Value} {l : List α}
theorem ownV_ge (h : OwnV f size E w base v l) : ∀ g, v.ownBlock = some g → base ≤ g := fun g hg => (World.ownsRow.lt h g hg).1
theorem OwnV.below (h : OwnV f size E w base v l) (hb : Below w.heap.size w w') : OwnV f size E w' base v l :=
  World.ownsRow.kept h (row := none) ⟨hb.os, hb.tape, hb.output, hb.size, fun k hk _ => hb.block k hk⟩ (by cases v.ownBlock <;> simp)
theorem OwnV.alloc (h : OwnV f size E w base v l) (o : Obj) : OwnV f size E (w.alloc o) base v l := World.ownsRow.alloc h o
theorem OwnV.setCell (h : OwnV f size E w base v l) {p : Addr} (hp : p.block < base) (u : Value) : OwnV f size E (w.setCell p u) base v l :=
  ownsRow_setCell_other h (fun e => by have := ownV_ge h _ e; omega) u
theorem OwnV.nil (f : α → List Value) (size : Nat) (E : TypeId) (w : World) (base : Nat) : OwnV f size E w base (.slice none 0 0) ([] : List α) := World.ownsRow_nil _ _ _ _
theorem OwnV.lit (he : EncOk f size) (E : TypeId) (w : World) (base : Nat) (l : List α) (hb : base ≤ w.heap.size) (hl : l.length ≤ 1000000) :
    OwnV f size E (w.alloc (.cells (l.flatMap f).toArray E)) base (.slice (some ⟨w.heap.size, 0, none⟩) l.length l.length) l := by
  have := World.ownsRow_lit (e := E) (size := size) (base := base) w (l.flatMap f).toArray l.length hb (by simp only [maxLen]; omega) (by rw [List.size_toArray, flat_length he])
  simpa [OwnV] using this
/-- A slice of the call's own, as its elements. -/
theorem OwnV.cells (h : OwnV f size E w base v l) : ∃ A cap, v = .slice A l.length cap ∧ l.length ≤ cap ∧ cap ≤ 9223372036854775807 ∧ CellsV f w w.heap.size A l := by
  rcases h.2 with ⟨hv, h0⟩ | ⟨g, cap, cur, hv, _, _, hnc, hcm, _⟩
  · have : l = [] := List.eq_nil_of_length_eq_zero h0
    subst this
    exact ⟨none, 0, hv, Nat.le_refl _, by omega, CellsV.nil⟩
  · unfold maxLen at hcm
    refine ⟨_, cap, hv, hnc, hcm, fun _ => ?_⟩
    have hlt := World.ownsRow.lt h g (by rw [hv]; rfl)
    refine ⟨g, 0, rfl, hlt.2, fun i x hx => ?_⟩
    have := World.ownsRow.cells h (g := g) (by rw [hv]; rfl) i x hx
    have hp : (⟨g, 0, none⟩ : Addr).add i = ⟨g, 0 + i, none⟩ := by unfold Addr.add; split <;> simp_all
    rwa [hp] at this
theorem run_appV (hT : SliceV f size T E) (ty : TypeId) (hown : OwnV f size E w base v l) (B : Nat) (A : Option Addr) (m c : Nat) (news : List α) (hb : CellsV f w B A news) (hm : news.length = m)
    (hlen : l.length + m ≤ 1000000) (hbase : base ≤ w.heap.size) :
    ∃ v' w', (Builtin.append_ #[T, T] ty #[v, .slice A m c]).run Tryd.prog w = .ok v' w' ∧ OwnV f size E w' base v' (l ++ news) ∧ w.grownBy w' v.ownBlock ∧ (v'.ownBlock = v.ownBlock ∨ v'.ownBlock = some w.heap.size) := by
  subst hm
  obtain ⟨he, hu, z, bb, hbb, hzc, hi0⟩ := hT
  obtain ⟨i, hi, hi2⟩ := Option.map_eq_some_iff.1 hi0
  simp only [Prod.mk.injEq] at hi2
  obtain ⟨hz, hs, hby⟩ := hi2
  cases A with
  | none =>
    have hnil : news = [] := by
      rcases Nat.eq_zero_or_pos news.length with h0 | h0
      · exact List.eq_nil_of_length_eq_zero h0
      · obtain ⟨b, o, e, _⟩ := hb h0
        cases e
    subst hnil
    refine ⟨v, w, ?_, by simpa [OwnV] using hown, World.grownBy.refl w _, .inl rfl⟩
    rcases hown.2 with ⟨hv, hn⟩ | ⟨g, cap, cur, hv, _, _, hnc, _⟩
    · subst hv
      simp [Builtin.append_, run_underlying hu, sizeOf, typeInfo, hi, Builtin.lenOf, Builtin.firstCells]
    · subst hv
      simp [Builtin.append_, run_underlying hu, sizeOf, typeInfo, hi, Builtin.lenOf, Builtin.firstCells, hnc, storeCells]
  | some a =>
    have hcells : ∀ j u, (news.flatMap f)[j]? = some u → w.cell? (a.add j) = some u := by
      intro j u hu
      have hp0 : 0 < news.length := by
        rcases Nat.eq_zero_or_pos news.length with h0 | h0
        · have := List.eq_nil_of_length_eq_zero h0
          subst this
          simp at hu
        · exact h0
      obtain ⟨b, o, e, _, hc⟩ := hb hp0
      cases e
      have hp : (⟨b, o, none⟩ : Addr).add j = ⟨b, o + j, none⟩ := by unfold Addr.add; split <;> simp_all
      rw [hp]
      exact hc j u hu
    obtain ⟨v', w', hrun, h2, h3, _, h5⟩ := run_append_own_at (P := Tryd.prog) w base T ty E i z size bb hu hi hz hs hby hzc he.1 v l.length _ hown a news.length c
      (news.flatMap f) (flat_length he news) hcells (fun u hu => by
        obtain ⟨x, _, hx⟩ := List.mem_flatMap.1 hu
        exact (he.2 x).2 u hx) (by simp only [maxLen]; omega) (by
          have h1 : (l.length + news.length) * bb ≤ 1000000 * 1000 := Nat.mul_le_mul hlen hbb
          omega) hbase
    exact ⟨v', w', hrun, by unfold OwnV; rw [List.length_append, List.flatMap_append]; exact h2, h3, h5⟩
theorem wpList_appV (hT : SliceV f size T E) {ops : Array Oper} {rest : List Oper} {o : Oper} {a : Act} {Q : Exit → Act → World → Prop} (w : World) (hgd : o.guard = none) (s x : Operand)
    (ho : o.op = .call { callee := .builtin .append, args := #[s, x], argTypes := #[T, T] })
    (base : Nat) (v : Value) (l : List α) (hs : a.eval s = v) (hown : OwnV f size E w base v l)
    (B : Nat) (A : Option Addr) (m c : Nat) (news : List α) (hx : a.eval x = .slice A m c) (hb : CellsV f w B A news) (hm : news.length = m) (hlen : l.length ≤ 500000) (hlen2 : news.length ≤ 500000) (hbase : base ≤ w.heap.size)
    (h : ∀ v' w', OwnV f size E w' base v' (l ++ news) → w.grownBy w' v.ownBlock → (v'.ownBlock = v.ownBlock ∨ v'.ownBlock = some w.heap.size) → wpList Tryd.prog ops Q rest (a.put o.dst v') w') : wpList Tryd.prog ops Q (o :: rest) a w :=
  wpList_plain hgd fun _ hK => by
    obtain ⟨v', w', hrun, h2, h3, h4⟩ := run_appV hT o.type hown B A m c news hb hm (by omega) hbase
    unfold Oper.wp execOp
    simp only [ho, resolve, invoke, builtin, Sem.run_bind, Sem.run_pure, Result.andThen_ok, List.map_toArray, List.map_cons, List.map_nil, hs, hx, hrun]
    exact hK _ _ (h v' w' h2 h3 h4)
end
/-- Two int's: an element of a slice of spans. -/
def pairCells (p : Int × Int) : List Value := [.int .i64 p.1, .int .i64 p.2]
theorem pair_enc : EncOk pairCells 2 := ⟨by omega, fun p => ⟨rfl, fun u hu => by simp [pairCells] at hu; rcases hu with rfl | rfl <;> rfl⟩⟩
end Go.Proofs.YtijikbfcobnclaaDoor
