/-
  What the rows of stage 5 need besides: a slice of packages that came in, opened.
-/
import Derived.Test.YtnpmkapapacffaaDoorRowKit5
import Derived.Test.YtnpmkapapacffaaDoorFlRefC
import Derived.Deep.SlicePairs
import Derived.ProofKit
import Derived.LaidMore
import Derived.OpenShut
import Derived.Stop.Joined
import Derived.ChangeOld
import Derived.Lib.LaidTab
import Derived.Deep.Slices
namespace Go.Proofs.YtnpmkapapacffaaDoor
open Go.ChangeShapes Go.WideShapes Go.ChangeAt Go.RowKit Go.Deep Go.Lib Fm

/-- A slice of bytes that came in, opened. -/
theorem open_bytes {H : Type} {enc : TypeId × Value → H} {W : World} {fuel : Nat} {cs : List Value} {x : DataW H × List MemPlace} {sp : Nat → Bool} (h : DataW.trod enc Tryd.prog W 0 sp true fuel 37 cs = some x) :
    ∃ A len cap l, cs = [.slice A len cap] ∧ l.length = len ∧ len ≤ cap ∧ cap ≤ 9223372036854775807 ∧ Byts W W.heap.size A l := by
  rcases open_ints Tryd.underlying37 Tryd.underlying5 (by kernel_rfl) h with ⟨hcs, _⟩ | ⟨x, l, c, zs, hcs, _, hl, hm, hz, _, hcell, hwz⟩
  · exact ⟨none, 0, 0, [], hcs, rfl, Nat.le_refl _, by omega, Byts.nil⟩
  · unfold maxLen at hm
    have hlz : l ≤ zs.length := by rw [hz]; split <;> omega
    have hlen : (zs.take l).length = l := by rw [List.length_take]; omega
    refine ⟨some x, l, c, zs.take l, hcs, hlen, hl, hm, ⟨fun n hn => bounds_u8 (hwz n (List.mem_of_mem_take hn)), fun hp => ?_⟩⟩
    obtain ⟨b, off, rfl, hc⟩ := ints_at hcell (by omega)
    have h0 := hc 0 (by omega)
    refine ⟨b, off, rfl, ?_, fun i y hy => ?_⟩
    · rcases Nat.lt_or_ge b W.heap.size with h1 | h1
      · exact h1
      · simp [World.cell?, Array.getElem?_eq_none h1] at h0
    · rw [List.getElem?_take] at hy
      split at hy
      · have hi := (List.getElem?_eq_some_iff.1 hy).1
        rw [hc i hi]
        simp [List.getD, hy]
      · cases hy

/-- A slice of structs of a string and a slice that came in, opened: each element read by 'each'. -/
theorem open_res {β : Type} {R : Re → β → Prop} {H : Type} {enc : TypeId × Value → H} {W : World} {T E : TypeId} {f0 f1 : Field} {fuel : Nat} {cs : List Value} {x : DataW H × List MemPlace} {sp : Nat → Bool} (ht : Tryd.prog.underlying T = some (.slice E)) (he : Tryd.prog.underlying E = some (.struct #[f0, f1]))
    (ce : Tryd.prog.cellsOf E = 2) (o0 : f0.offset = 0) (o1 : f1.offset = 1) (c0 : Tryd.prog.cellsOf f0.type = 1) (c1 : Tryd.prog.cellsOf f1.type = 1)
    (each : ∀ (n : Nat) (u v : Value) (y z : DataW H × List MemPlace), DataW.trod enc Tryd.prog W 0 sp true n f0.type [u] = some y → DataW.trod enc Tryd.prog W 0 sp true n f1.type [v] = some z → ∃ (e : Re) (b : β), u = .string e.s ∧ v = .slice e.A e.n e.c ∧ R e b)
    (h : DataW.trod enc Tryd.prog W 0 sp true fuel T cs = some x) :
    ∃ A len cap xs bs, cs = [.slice A len cap] ∧ List.length bs = len ∧ len ≤ cap ∧ cap ≤ 9223372036854775807 ∧ CellsV reCells W W.heap.size A xs ∧ Zip R xs bs := by
  rcases open_slice_pairs ht he ce o0 o1 c0 c1 h with ⟨hcs, _⟩ | ⟨a, len, cap, m, n, V0, V1, D0, D1, P0, P1, hcs, hb, hl, hm, hmm, _, hx⟩
  · exact ⟨none, 0, 0, [], [], hcs, rfl, Nat.le_refl _, by omega, CellsV.nil, Zip.nil⟩
  · unfold maxLen at hm
    have hlm : len ≤ m := by rw [hmm]; split <;> omega
    have every : ∀ i, i < len → ∃ p : Re × β, W.cell? (a.add (i * 2)) = some (.string p.1.s) ∧ W.cell? (a.add (i * 2 + 1)) = some (.slice p.1.A p.1.n p.1.c) ∧ R p.1 p.2 := fun i hi => by
      obtain ⟨h0, h1, h2, h3⟩ := hx i (by omega)
      obtain ⟨e, b, e0, e1, hr⟩ := each n _ _ _ _ h2 h3
      exact ⟨(e, b), by rw [h0, e0], by rw [h1, e1], hr⟩
    rcases Nat.eq_zero_or_pos len with h0 | h0
    · subst h0
      exact ⟨some a, 0, cap, [], [], hcs, rfl, hl, hm, CellsV.nil, Zip.nil⟩
    have pick : ∃ F : Nat → Re × β, ∀ i, i < len → W.cell? (a.add (i * 2)) = some (.string (F i).1.s) ∧ W.cell? (a.add (i * 2 + 1)) = some (.slice (F i).1.A (F i).1.n (F i).1.c) ∧ R (F i).1 (F i).2 := by
      refine ⟨fun i => if hi : i < len then (every i hi).choose else (every 0 h0).choose, fun i hi => ?_⟩
      simp only [dif_pos hi]
      exact (every i hi).choose_spec
    obtain ⟨F, hF⟩ := pick
    have hget : ∀ i, i < len → ((List.range len).map fun i => (F i).1)[i]? = some (F i).1 := fun i hi => by
      rw [List.getElem?_map, List.getElem?_range hi]; rfl
    have hget2 : ∀ i, i < len → ((List.range len).map fun i => (F i).2)[i]? = some (F i).2 := fun i hi => by
      rw [List.getElem?_map, List.getElem?_range hi]; rfl
    refine ⟨some a, len, cap, (List.range len).map fun i => (F i).1, (List.range len).map fun i => (F i).2, hcs, by simp, hl, hm, fun hp => ?_, by simp, fun i x y hx hy => ?_⟩
    · have q0 := (hF 0 h0).1
      obtain ⟨b, off, spot⟩ := a
      have hspot : spot = none := by simpa [Addr.add] using World.cell?_spot q0
      subst hspot
      have hadd : ∀ j, (⟨b, off, none⟩ : Addr).add j = ⟨b, off + j, none⟩ := fun j => Go.WideShapes.add_plain _ _ _
      refine ⟨b, off, rfl, ?_, fun j u hu => ?_⟩
      · rcases Nat.lt_or_ge b W.heap.size with h1 | h1
        · exact h1
        · rw [hadd] at q0
          simp [World.cell?, Array.getElem?_eq_none h1] at q0
      · have hj := (List.getElem?_eq_some_iff.1 hu).1
        rw [flat_length re_enc, List.length_map, List.length_range] at hj
        obtain ⟨c0, c1, _⟩ := hF (j / 2) (by omega)
        rw [hadd] at c0 c1
        rcases (show j % 2 = 0 ∨ j % 2 = 1 by omega) with h2 | h2
        · have := flat_get re_enc (j := 0) (hget (j / 2) (by omega)) rfl
          rw [show j / 2 * 2 + 0 = j by omega] at this
          rw [this] at hu
          cases hu
          rw [show off + j = off + j / 2 * 2 by omega]
          exact c0
        · have := flat_get re_enc (j := 1) (hget (j / 2) (by omega)) rfl
          rw [show j / 2 * 2 + 1 = j by omega] at this
          rw [this] at hu
          cases hu
          rw [show off + j = off + (j / 2 * 2 + 1) by omega]
          exact c1
    · have hi := (List.getElem?_eq_some_iff.1 hx).1
      rw [List.length_map, List.length_range] at hi
      rw [hget i hi] at hx
      rw [hget2 i hi] at hy
      cases hx
      cases hy
      exact (hF i hi).2.2
set_option maxRecDepth 100000 in
/-- A slice of files that came in, opened. -/
theorem open_fls {H : Type} {enc : TypeId × Value → H} {W : World} {fuel : Nat} {cs : List Value} {x : DataW H × List MemPlace} {sp : Nat → Bool} (h : DataW.trod enc Tryd.prog W 0 sp true fuel 46 cs = some x) :
    ∃ A len cap l, cs = [.slice A len cap] ∧ List.length l = len ∧ len ≤ cap ∧ cap ≤ 9223372036854775807 ∧ FlsAt W W.heap.size A l := by
  obtain ⟨A, len, cap, xs, bs, h1, h2, h3, h4, h5, h6⟩ := open_res (R := IsFl W W.heap.size) Tryd.underlying46 Tryd.underlying39 (by kernel_rfl) rfl rfl (by kernel_rfl) (by kernel_rfl) (fun n u v y z g0 g1 => by
    obtain ⟨s, hs, _, _⟩ := DataW.trod_string Tryd.underlying9 g0
    obtain ⟨A, len, cap, l, k1, k2, k3, k4, k5⟩ := open_bytes g1
    simp at hs k1
    exact ⟨⟨s, A, len, cap⟩, ⟨s, l⟩, hs, k1, rfl, k2.symm, k3, k4, k5⟩) h
  exact ⟨A, len, cap, bs, h1, h2, h3, h4, xs, h5, h6⟩
set_option maxRecDepth 100000 in
/-- A slice of packages that came in, opened. -/
theorem open_pks {H : Type} {enc : TypeId × Value → H} {W : World} {fuel : Nat} {cs : List Value} {x : DataW H × List MemPlace} {sp : Nat → Bool} (h : DataW.trod enc Tryd.prog W 0 sp true fuel 25 cs = some x) :
    ∃ A len cap l, cs = [.slice A len cap] ∧ List.length l = len ∧ len ≤ cap ∧ cap ≤ 9223372036854775807 ∧ PksAt W W.heap.size A l := by
  obtain ⟨A, len, cap, xs, bs, h1, h2, h3, h4, h5, h6⟩ := open_res (R := IsPk W W.heap.size) Tryd.underlying25 Tryd.underlying48 (by kernel_rfl) rfl rfl (by kernel_rfl) (by kernel_rfl) (fun n u v y z g0 g1 => by
    obtain ⟨s, hs, _, _⟩ := DataW.trod_string Tryd.underlying9 g0
    obtain ⟨A, len, cap, l, k1, k2, k3, k4, k5⟩ := open_fls g1
    simp at hs k1
    exact ⟨⟨s, A, len, cap⟩, ⟨s, l⟩, hs, k1, rfl, k2.symm, k3, k4, k5⟩) h
  exact ⟨A, len, cap, bs, h1, h2, h3, h4, xs, h5, h6⟩
theorem open_numsK {H : Type} {enc : TypeId × Value → H} {W : World} {T E : TypeId} {k : IntKind} {fuel : Nat} {cs : List Value} {x : DataW H × List MemPlace} {sp : Nat → Bool}
    (hT : Tryd.prog.underlying T = some (.slice E)) (hE : Tryd.prog.underlying E = some (.int k)) (hc : Tryd.prog.cellsOf E = 1) (h : DataW.trod enc Tryd.prog W 0 sp true fuel T cs = some x) :
    ∃ A len cap l, cs = [.slice A len cap] ∧ l.length = len ∧ len ≤ cap ∧ cap ≤ 9223372036854775807 ∧ NumsK k W W.heap.size A l ∧ ∀ n ∈ l, (Lit.int k n).wf = true := by
  rcases open_ints hT hE hc h with ⟨hcs, _⟩ | ⟨a, len, cap, zs, hcs, _, hl, hm, hz, _, hcell, hwz⟩
  · exact ⟨none, 0, 0, [], hcs, rfl, Nat.le_refl _, by omega, NumsK.nil, by simp⟩
  · unfold maxLen at hm
    have hlen : (zs.take len).length = len := by
      rw [List.length_take]
      have : zs.length = cap ∨ zs.length = len := by rw [hz]; split <;> simp
      omega
    refine ⟨some a, len, cap, zs.take len, hcs, hlen, hl, hm, fun hp => ?_, fun n hn => hwz n (List.mem_of_mem_take hn)⟩
    obtain ⟨b, off, rfl, hcell'⟩ := ints_at hcell (by rw [List.length_take] at hp; omega)
    have h0 := hcell' 0 (by rw [List.length_take] at hp; omega)
    refine ⟨b, off, rfl, ?_, fun i y hy => ?_⟩
    · rcases Nat.lt_or_ge b W.heap.size with h1 | h1
      · exact h1
      · simp [World.cell?, Array.getElem?_eq_none h1] at h0
    · rw [List.getElem?_take] at hy
      split at hy
      · have hi := (List.getElem?_eq_some_iff.1 hy).1
        rw [hcell' i hi]
        simp [List.getD, hy]
      · cases hy
theorem int_bounds {n : Int} (h : (Lit.int .i64 n).wf = true) : -9223372036854775808 ≤ n ∧ n ≤ 9223372036854775807 := by
  simpa [Lit.wf, IntKind.min, IntKind.max, IntKind.signed, IntKind.bits] using h
/-- A slice of int's that came in, opened. -/
theorem open_nums {H : Type} {enc : TypeId × Value → H} {W : World} {fuel : Nat} {cs : List Value} {x : DataW H × List MemPlace} {sp : Nat → Bool} (h : DataW.trod enc Tryd.prog W 0 sp true fuel 50 cs = some x) :
    ∃ A len cap l, cs = [.slice A len cap] ∧ List.length l = len ∧ len ≤ cap ∧ cap ≤ 9223372036854775807 ∧ (Nums W W.heap.size A l ∧ I64 l) := by
  obtain ⟨A, len, cap, l, h1, h2, h3, h4, h5, h6⟩ := open_numsK Tryd.underlying50 Tryd.underlying3 (by kernel_rfl) h
  exact ⟨A, len, cap, l, h1, h2, h3, h4, h5, fun n hn => int_bounds (h6 n hn)⟩
end Go.Proofs.YtnpmkapapacffaaDoor
