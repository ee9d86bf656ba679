/-
  Rows of the call's own that grow: what 'append' and 'make' leave of what is known.
-/
import Derived.Test.YtnpmkapapacffaaDoorFlCmp
namespace Go.Proofs.YtnpmkapapacffaaDoor
open Go.Shelf Go.RowKit Go.Lib Go.Sort Fm

theorem grown_but {w w' : World} {row : Option Nat} (h : w.grownBy w' row) : But w w' row.toList :=
  ⟨h.os, h.tape, h.output, h.size, fun k hk hn => h.block k hk fun e => hn (by rw [← e]; simp)⟩
theorem ownV_base {α : Type} {f : α → List Value} {size : Nat} {E : TypeId} {w : World} {base base' : Nat} {v : Value} {l : List α} (h : OwnV f size E w base v l) (hb : base' ≤ base) : OwnV f size E w base' v l := by
  obtain ⟨h1, h2⟩ := h
  refine ⟨h1, ?_⟩
  rcases h2 with h2 | ⟨g, cap, cur, hv, hg, r⟩
  · exact .inl h2
  · exact .inr ⟨g, cap, cur, hv, by omega, r⟩
theorem ownK_base {k : IntKind} {E : TypeId} {w : World} {base base' : Nat} {v : Value} {l : List Int} (h : OwnK k E w base v l) (hb : base' ≤ base) : OwnK k E w base' v l := by
  obtain ⟨h1, h2⟩ := h
  refine ⟨h1, ?_⟩
  rcases h2 with h2 | ⟨g, cap, cur, hv, hg, r⟩
  · exact .inl h2
  · exact .inr ⟨g, cap, cur, hv, by omega, r⟩
theorem ownV_blk {w : World} {base : Nat} {v : Value} {l : List Re} {E : TypeId} (hE : E = 39 ∨ E = 48) (h : OwnV reCells 2 E w base v l) : ∀ b ∈ v.ownBlock.toList, RowBlk w base b := by
  intro b hb
  obtain ⟨_, h2⟩ := h
  rcases h2 with ⟨hv, _⟩ | ⟨g, cap, cur, hv, hg, hh, _⟩
  · subst hv; simp [Value.ownBlock] at hb
  · subst hv
    simp [Value.ownBlock] at hb
    subst hb
    exact ⟨hg, cur, E, hh, hE⟩
/-- A slice of bytes of the call's own, as a text. -/
theorem TxtAt.own {w : World} {base base' : Nat} {v : Value} {l : List Int} (h : OwnK .u8 5 w base' v l) (hl : U.Byt l) : ∃ A c, v = .slice A l.length c ∧ l.length ≤ c ∧ c ≤ 9223372036854775807 ∧ TxtAt w base A l := by
  obtain ⟨A, c, hv, h1, h2, h3⟩ := h.nums
  unfold maxLen at h2
  refine ⟨A, c, hv, h1, h2, hl, fun hp => ?_⟩
  obtain ⟨b, o, e, hb, hc⟩ := h3 hp
  refine ⟨b, o, e, hb, .inr ?_, hc⟩
  rcases h.2 with ⟨hv2, _⟩ | ⟨g, cap, cur, hv2, _, hh, _⟩
  · injection hv.symm.trans hv2 with h9
    rw [e] at h9; cases h9
  · injection hv.symm.trans hv2 with h9
    rw [e] at h9; cases h9
    exact ⟨cur, _, hh⟩
/-- A row of files that grows. -/
theorem fls_snoc {w w' : World} {base base' : Nat} {v : Value} {ys : List Re} {fs : List Fl} {y : Re} {f : Fl} (h : OwnV reCells 2 39 w base' v ys) (hb : base ≤ base') (hz : Zip (IsFlT w base) ys fs) (hg : w.grownBy w' v.ownBlock) (hr : IsFlT w base y f) : Zip (IsFlT w' base) (ys ++ [y]) (fs ++ [f]) := by
  have hk := ownV_blk (.inl rfl) (ownV_base h hb)
  exact (hz.mono fun _ _ h => h.but (grown_but hg) hk).snoc (hr.but (grown_but hg) hk)
/-- A row of packages that grows. -/
theorem OwnX.snoc {w w' : World} {base : Nat} {v v' : Value} {xs : List Re} {ps : List Pk} {x : Re} {p : Pk} (h : OwnX w base v xs ps) (hg : w.grownBy w' v.ownBlock) (ho : OwnV reCells 2 48 w' base v' (xs ++ [x])) (hr : IsPkT w base x p) (hn : ∀ y ∈ xs, y.A ≠ x.A) : OwnX w' base v' (xs ++ [x]) (ps ++ [p]) := by
  have hk := ownV_blk (.inr rfl) h.row
  have far : ∀ y q, IsPkT w base y q → ∀ g, y.A = some ⟨g, 0, none⟩ → g ∉ v.ownBlock.toList := by
    intro y q hy g hyg hm
    obtain ⟨_, _, g', h3, h4⟩ := hy
    rw [hyg] at h3
    cases h3
    obtain ⟨zs, k1, _⟩ := h4
    obtain ⟨_, _, _, _, _, cs, k2, _⟩ := own_blk k1
    rcases h.row.2 with ⟨hv, _⟩ | ⟨g2, cap, cur, hv, _, hh, _⟩
    · rw [hv] at hm; simp [Value.ownBlock] at hm
    · rw [hv] at hm
      simp [Value.ownBlock] at hm
      subst hm
      rw [hh] at k2
      cases k2
  refine ⟨ho, ?_, (h.zip.mono fun y q hy => hy.but (grown_but hg) hk (far y q hy)).snoc (hr.but (grown_but hg) hk (far x p hr))⟩
  rw [List.pairwise_append]
  refine ⟨h.apart, by simp, fun a ha b hb => ?_⟩
  rw [List.mem_singleton.1 hb]
  exact hn a ha
/-- No row of files is newer than the world. -/
theorem OwnX.old {w : World} {base : Nat} {v : Value} {xs : List Re} {ps : List Pk} (h : OwnX w base v xs ps) {g : Nat} (hg : w.heap.size ≤ g) : ∀ y ∈ xs, y.A ≠ some ⟨g, 0, none⟩ := by
  intro y hy e
  obtain ⟨i, hi, hiy⟩ := List.mem_iff_getElem.1 hy
  obtain ⟨p, _, hr⟩ := h.zip.get (List.getElem?_eq_getElem hi)
  rw [hiy] at hr
  obtain ⟨_, _, g', h3, h4⟩ := hr
  rw [e] at h3
  cases h3
  obtain ⟨zs, k1, _⟩ := h4
  have := (own_blk k1).2.1
  omega
theorem OwnX.nil (w : World) (base : Nat) : OwnX w base (.slice none 0 0) [] [] := ⟨OwnV.nil _ _ _ _ _, .nil, Zip.nil⟩
/-- 'make([]T, 0, c)' of elements of any fixed number of cells. -/
theorem run_makeV {α : Type} {f : α → List Value} {size : Nat} {T E : TypeId} (hT : SliceV f size T E) (w : World) (base c : Nat) (hc : c ≤ 1000) (hb : base ≤ w.heap.size) :
    ∃ w', (Instr.makeSlice T (.int .i64 0) (.int .i64 (c : Int))).run Tryd.prog w = .ok (.slice (some ⟨w.heap.size, 0, none⟩) 0 c) w' ∧ OwnV f size E w' base (.slice (some ⟨w.heap.size, 0, none⟩) 0 c) ([] : List α) ∧ w.grownBy w' none := by
  obtain ⟨he, hu, z, bb, hbb, hzc, hi0⟩ := hT
  obtain ⟨i, hi, hi2⟩ := Option.map_eq_some_iff.1 hi0
  simp only [Prod.mk.injEq] at hi2
  obtain ⟨hz, hs, hby⟩ := hi2
  have hr := run_make (P := Tryd.prog) w T E i _ hu hi hz .i64 .i64 ((0 : Nat) : Int) c (by omega) (by omega) (by
    rw [hby]
    have : bb * c ≤ 1000 * 1000 := Nat.mul_le_mul hbb hc
    have h2 : ((bb : Int) * (c : Int)) = ((bb * c : Nat) : Int) := by simp
    rw [h2]
    omega) (by omega)
  simp only [Int.toNat_natCast, hs] at hr
  refine ⟨_, hr, ?_, World.grownBy_alloc w _ none⟩
  unfold OwnV
  refine ⟨by simp, .inr ⟨w.heap.size, c, _, by simp, hb, heap_alloc_new w _, by simp, by simp only [maxLen]; omega, ?_, by simp⟩⟩
  have := size_madeCells z.cells (c * size)
  simpa using this
theorem wpList_makeV {α : Type} {f : α → List Value} {size : Nat} {T E : TypeId} (hT : SliceV f size T E) {ops : Array Oper} {rest : List Oper} {o : Oper} {a : Act} {Q : Exit → Act → World → Prop} (w : World) (hgd : o.guard = none) (l c : Operand)
    (ho : o.op = .makeSlice T l c) (base m : Nat) (hl : a.eval l = .int .i64 0) (hc : a.eval c = .int .i64 (m : Int)) (hm : m ≤ 1000) (hb : base ≤ w.heap.size)
    (h : ∀ w', OwnV f size E w' base (.slice (some ⟨w.heap.size, 0, none⟩) 0 m) ([] : List α) → w.grownBy w' none → wpList Tryd.prog ops Q rest (a.put o.dst (.slice (some ⟨w.heap.size, 0, none⟩) 0 m)) w') : wpList Tryd.prog ops Q (o :: rest) a w :=
  wpList_plain hgd fun _ hK => by
    obtain ⟨w', hrun, h2, h3⟩ := run_makeV hT w base m hm hb
    unfold Oper.wp execOp
    simp only [ho, Sem.run_bind, Sem.run_pure, Result.andThen_ok, hl, hc, hrun]
    exact hK _ _ (h w' h2 h3)
theorem take_at {α : Type} {l : List α} {i : Nat} {x : α} (h : l[i]? = some x) : l.take (i + 1) = l.take i ++ [x] := by
  rw [List.take_add_one, h]
  rfl
/-- Packages as small as the laws' own looks go. -/
def Small (ps : List Pk) : Prop := ps.length ≤ 8 ∧ ∀ p ∈ ps, p.files.length ≤ 6 ∧ ∀ f ∈ p.files, f.text.length ≤ 300
end Go.Proofs.YtnpmkapapacffaaDoor
