/-
  A tree that came in, opened: what the walks are told of it.
-/
import Derived.Test.YtpjgapnihmiceaaMx01
import Derived.ProofKit
import Derived.OpenShut
import Derived.Lib.SmallJoins
import Derived.Deep.SlicePairs
import Derived.Deep.Slices
import Derived.Test.YtpjgapnihmiceaaMx00
import Derived.LaidMore
import Derived.Test.YtpjgapnihmiceaaMx05
namespace Go.Proofs.Ytpjgapnihmiceaa
set_option maxRecDepth 100000
open Go.ChangeShapes Go.WideShapes Go.ChangeAt Go.RowKit Go.Deep
theorem tr_nums {H : Type} {enc : TypeId × Value → H} {W : World} {fuel : Nat} {cs : List Value} {x : DataW H × List MemPlace} {sp : Nat → Bool} (h : DataW.trod enc Try.prog W 0 sp true fuel 42 cs = some x) :
  ∃ A len cap l, cs = [.slice A len cap] ∧ l.length = len ∧ len ≤ cap ∧ cap ≤ 9223372036854775807 ∧ Nums W W.heap.size A l := by
 rcases open_ints Try.underlying42 Try.underlying3 (by kernel_rfl) h with ⟨hcs, _⟩ | ⟨a, len, cap, zs, hcs, _, hl, hm, hz, _, hcell, hwz⟩
 ·exact ⟨none, 0, 0, [], hcs, rfl, Nat.le_refl _, by omega, NumsK.nil⟩
 ·unfold maxLen at hm
  have hlen : (zs.take len).length = len := by
   rw [List.length_take]
   have : zs.length = cap ∨ zs.length = len := by rw [hz]; split <;> simp
   omega
  refine ⟨some a, len, cap, zs.take len, hcs, hlen, hl, hm, fun hp => ?_⟩
  obtain ⟨b, off, rfl, hcell'⟩ := ints_at hcell (by rw [List.length_take] at hp; omega)
  have h0 := hcell' 0 (by rw [List.length_take] at hp; omega)
  refine ⟨b, off, rfl, ?_, fun i y hy => ?_⟩
  ·rcases Nat.lt_or_ge b W.heap.size with h1 | h1
   ·exact h1
   ·simp [World.cell?, Array.getElem?_eq_none h1] at h0
  ·rw [List.getElem?_take] at hy
   split at hy
   ·have hi := (List.getElem?_eq_some_iff.1 hy).1
    rw [hcell' i hi]
    simp [List.getD, hy]
   ·cases hy
theorem tr_list4 {α : Type} {l : List α} (h : l.length = 4) : ∃ a b c d, l = [a, b, c, d] := by
 match l, h with
 | [a, b, c, d], _ => exact ⟨a, b, c, d, rfl⟩
set_option maxRecDepth 100000 in
theorem open_nodes {H : Type} {enc : TypeId × Value → H} {W : World} {fuel : Nat} {cs : List Value} {x : DataW H × List MemPlace} {sp : Nat → Bool} (h : DataW.trod enc Try.prog W 0 sp true fuel 24 cs = some x) :
  ∃ A len cap T, cs = [.slice A len cap] ∧ List.length T = len ∧ len ≤ cap ∧ cap ≤ 9223372036854775807 ∧ NdsAt W W.heap.size A T := by
 have hC : Try.prog.cellsOf 49 = 4 := by kernel_rfl
 have hCi : Try.prog.cellsOf 3 = 1 := by kernel_rfl
 have hCs : Try.prog.cellsOf 42 = 1 := by kernel_rfl
 rcases open_slice Try.underlying24 h with ⟨hcs, _⟩ | ⟨a, len, cap, m, n, D, Pl, hcs, hb, hl, hm, hmm, _, hx⟩
 ·exact ⟨none, 0, 0, [], hcs, rfl, Nat.le_refl _, by omega, NdsAt.nil⟩
 ·unfold maxLen at hm
  have hlm : len ≤ m := by rw [hmm]; split <;> omega
  have each : ∀ i, i < len → ∃ e : Ne × Nd, W.cell? (a.add (i * 4)) = some (.int .i64 e.1.k) ∧ W.cell? (a.add (i * 4 + 1)) = some (.int .i64 e.1.f) ∧ W.cell? (a.add (i * 4 + 2)) = some (.int .i64 e.1.t) ∧ W.cell? (a.add (i * 4 + 3)) = some (.slice e.1.A e.1.n e.1.c) ∧ IsNd W W.heap.size e.1 e.2 := fun i hi => by
   obtain ⟨cs', h1, h2⟩ := hx i (by omega)
   rw [hC] at h1
   obtain ⟨_, hlen, hcell⟩ := World.cells?_some h1
   obtain ⟨xs, k, _, _, _, hxl, hf⟩ := DataW.trod_struct Try.underlying49 h2
   obtain ⟨c0, c1, c2, c3, rfl⟩ := tr_list4 hlen
   obtain ⟨y0, y1, y2, y3, rfl⟩ := tr_list4 (show xs.length = 4 from hxl)
   have g0 := hf 0 _ rfl
   have g1 := hf 1 _ rfl
   have g2 := hf 2 _ rfl
   have g3 := hf 3 _ rfl
   simp [hCi, hCs] at g0 g1 g2 g3
   obtain ⟨e0, h0, _, _⟩ := DataW.trod_int Try.underlying3 g0
   obtain ⟨e1, h1', _, _⟩ := DataW.trod_int Try.underlying3 g1
   obtain ⟨e2, h2', _, _⟩ := DataW.trod_int Try.underlying3 g2
   obtain ⟨K, q, c, l, h3', k1, k2, k3, k4⟩ := tr_nums g3
   have d0 := hcell 0 (by omega)
   have d1 := hcell 1 (by omega)
   have d2 := hcell 2 (by omega)
   have d3 := hcell 3 (by omega)
   rw [add_add] at d0 d1 d2 d3
   simp at h0 h1' h2' h3' d0 d1 d2 d3
   exact ⟨(⟨e0, e1, e2, K, q, c⟩, ⟨e0, e1, e2, l⟩), by rw [d0, h0], by rw [d1, h1'], by rw [d2, h2'], by rw [d3, h3'], rfl, rfl, rfl, k1.symm, k2, k3, k4⟩
  have pick : ∃ F : Nat → Ne × Nd, ∀ i, i < len → W.cell? (a.add (i * 4)) = some (.int .i64 (F i).1.k) ∧ W.cell? (a.add (i * 4 + 1)) = some (.int .i64 (F i).1.f) ∧ W.cell? (a.add (i * 4 + 2)) = some (.int .i64 (F i).1.t) ∧ W.cell? (a.add (i * 4 + 3)) = some (.slice (F i).1.A (F i).1.n (F i).1.c) ∧ IsNd W W.heap.size (F i).1 (F i).2 := by
   refine ⟨fun i => if hi : i < len then (each i hi).choose else default, fun i hi => ?_⟩
   simp only [dif_pos hi]
   exact (each i hi).choose_spec
  obtain ⟨F, hF⟩ := pick
  refine ⟨some a, len, cap, (List.range len).map fun i => (F i).2, hcs, by simp, hl, hm, (List.range len).map (fun i => (F i).1), fun hp => ?_, by simp, fun i y d hy hd => ?_⟩
  ·have hp' : 0 < len := by simpa using hp
   have h0 := (hF 0 hp').1
   obtain ⟨b, off, spot⟩ := a
   have hspot : spot = none := by simpa [Addr.add] using World.cell?_spot h0
   subst hspot
   have hadd : ∀ j, (⟨b, off, none⟩ : Addr).add j = ⟨b, off + j, none⟩ := fun j => Go.WideShapes.add_plain _ _ _
   refine ⟨b, off, rfl, ?_, fun j u hu => ?_⟩
   ·rcases Nat.lt_or_ge b W.heap.size with h1 | h1
    ·exact h1
    ·rw [hadd] at h0
     simp [World.cell?, Array.getElem?_eq_none h1] at h0
   ·have hj := (List.getElem?_eq_some_iff.1 hu).1
    rw [flat_length ne_enc, List.length_map, List.length_range] at hj
    have hx : ((List.range len).map fun i => (F i).1)[j / 4]? = some (F (j / 4)).1 := by
     rw [List.getElem?_map, List.getElem?_range (by omega)]
     rfl
    obtain ⟨c0, c1, c2, c3, _⟩ := hF (j / 4) (by omega)
    rw [hadd] at c0 c1 c2 c3
    rcases (show j % 4 = 0 ∨ j % 4 = 1 ∨ j % 4 = 2 ∨ j % 4 = 3 by omega) with h2 | h2 | h2 | h2
    ·have := flat_get ne_enc (j := 0) hx rfl
     rw [show j / 4 * 4 + 0 = j by omega] at this
     rw [this] at hu
     cases hu
     rw [show off + j = off + j / 4 * 4 by omega]
     exact c0
    ·have := flat_get ne_enc (j := 1) hx rfl
     rw [show j / 4 * 4 + 1 = j by omega] at this
     rw [this] at hu
     cases hu
     rw [show off + j = off + (j / 4 * 4 + 1) by omega]
     exact c1
    ·have := flat_get ne_enc (j := 2) hx rfl
     rw [show j / 4 * 4 + 2 = j by omega] at this
     rw [this] at hu
     cases hu
     rw [show off + j = off + (j / 4 * 4 + 2) by omega]
     exact c2
    ·have := flat_get ne_enc (j := 3) hx rfl
     rw [show j / 4 * 4 + 3 = j by omega] at this
     rw [this] at hu
     cases hu
     rw [show off + j = off + (j / 4 * 4 + 3) by omega]
     exact c3
  ·have hi : i < len := by have := (List.getElem?_eq_some_iff.1 hy).1; simpa using this
   rw [List.getElem?_map, List.getElem?_range hi] at hy hd
   cases hy
   cases hd
   exact (hF i hi).2.2.2.2
end Go.Proofs.Ytpjgapnihmiceaa
namespace Go.Proofs.Ytpjgapnihmiceaa
set_option maxRecDepth 100000
open Go.ChangeShapes Go.WideShapes Go.ChangeAt Go.RowKit Go.Deep
theorem vw_bytes {H : Type} {enc : TypeId × Value → H} {W : World} {fuel : Nat} {cs : List Value} {x : DataW H × List MemPlace} {sp : Nat → Bool} (h : DataW.trod enc Try.prog W 0 sp true fuel 22 cs = some x) :
  ∃ A len cap l, cs = [.slice A len cap] ∧ l.length = len ∧ len ≤ cap ∧ cap ≤ 9223372036854775807 ∧ Byts W W.heap.size A l := by
 rcases open_ints Try.underlying22 Try.underlying5 (by kernel_rfl) h with ⟨hcs, _⟩ | ⟨x, l, c, zs, hcs, _, hl, hm, hz, _, hcell, hwz⟩
 ·exact ⟨none, 0, 0, [], hcs, rfl, Nat.le_refl _, by omega, Byts.nil⟩
 ·unfold maxLen at hm
  have hlz : l ≤ zs.length := by rw [hz]; split <;> omega
  have hlen : (zs.take l).length = l := by rw [List.length_take]; omega
  refine ⟨some x, l, c, zs.take l, hcs, hlen, hl, hm, ⟨fun n hn => bounds_u8 (hwz n (List.mem_of_mem_take hn)), fun hp => ?_⟩⟩
  obtain ⟨b, off, rfl, hc⟩ := ints_at hcell (by omega)
  have h0 := hc 0 (by omega)
  refine ⟨b, off, rfl, ?_, fun i y hy => ?_⟩
  ·rcases Nat.lt_or_ge b W.heap.size with h1 | h1
   ·exact h1
   ·simp [World.cell?, Array.getElem?_eq_none h1] at h0
  ·rw [List.getElem?_take] at hy
   split at hy
   ·have hi := (List.getElem?_eq_some_iff.1 hy).1
    rw [hc i hi]
    simp [List.getD, hy]
   ·cases hy
theorem vw_list5 {α : Type} {l : List α} (h : l.length = 5) : ∃ a b c d e, l = [a, b, c, d, e] := by
 match l, h with
 | [a, b, c, d, e], _ => exact ⟨a, b, c, d, e, rfl⟩
set_option maxRecDepth 100000 in
theorem vw_toks {H : Type} {enc : TypeId × Value → H} {W : World} {fuel : Nat} {cs : List Value} {x : DataW H × List MemPlace} {sp : Nat → Bool} (h : DataW.trod enc Try.prog W 0 sp true fuel 23 cs = some x) :
  ∃ A len cap l, cs = [.slice A len cap] ∧ l.length = len ∧ len ≤ cap ∧ cap ≤ 9223372036854775807 ∧ CellsV tvCells W W.heap.size A l := by
 have hC : Try.prog.cellsOf 46 = 5 := by kernel_rfl
 have hCi : Try.prog.cellsOf 3 = 1 := by kernel_rfl
 have hCb : Try.prog.cellsOf 4 = 1 := by kernel_rfl
 have hCe : Try.prog.cellsOf 44 = 1 := by kernel_rfl
 rcases open_slice Try.underlying23 h with ⟨hcs, _⟩ | ⟨a, len, cap, m, n, D, Pl, hcs, hb, hl, hm, hmm, _, hx⟩
 ·exact ⟨none, 0, 0, [], hcs, rfl, Nat.le_refl _, by omega, CellsV.nil⟩
 ·unfold maxLen at hm
  have hlm : len ≤ m := by rw [hmm]; split <;> omega
  have each : ∀ i, i < len → ∃ e : Tv, W.cell? (a.add (i * 5)) = some (.int .i64 e.k) ∧ W.cell? (a.add (i * 5 + 1)) = some (.int .i64 e.f) ∧ W.cell? (a.add (i * 5 + 2)) = some (.int .i64 e.t) ∧ W.cell? (a.add (i * 5 + 3)) = some (.bool e.a) ∧ W.cell? (a.add (i * 5 + 4)) = some (.int .i64 e.e) := fun i hi => by
   obtain ⟨cs', h1, h2⟩ := hx i (by omega)
   rw [hC] at h1
   obtain ⟨_, hlen, hcell⟩ := World.cells?_some h1
   obtain ⟨xs, k, _, _, _, hxl, hf⟩ := DataW.trod_struct Try.underlying46 h2
   obtain ⟨c0, c1, c2, c3, c4, rfl⟩ := vw_list5 hlen
   obtain ⟨y0, y1, y2, y3, y4, rfl⟩ := vw_list5 (show xs.length = 5 from hxl)
   have g0 := hf 0 _ rfl
   have g1 := hf 1 _ rfl
   have g2 := hf 2 _ rfl
   have g3 := hf 3 _ rfl
   have g4 := hf 4 _ rfl
   simp [hCi, hCb, hCe] at g0 g1 g2 g3 g4
   obtain ⟨e0, h0, _, _⟩ := DataW.trod_int Try.underlying3 g0
   obtain ⟨e1, h1', _, _⟩ := DataW.trod_int Try.underlying3 g1
   obtain ⟨e2, h2', _, _⟩ := DataW.trod_int Try.underlying3 g2
   obtain ⟨e3, h3', _⟩ := DataW.trod_bool Try.underlying4 g3
   obtain ⟨e4, h4', _, _⟩ := DataW.trod_int Try.underlying44 g4
   have d0 := hcell 0 (by omega)
   have d1 := hcell 1 (by omega)
   have d2 := hcell 2 (by omega)
   have d3 := hcell 3 (by omega)
   have d4 := hcell 4 (by omega)
   rw [add_add] at d0 d1 d2 d3 d4
   simp at h0 h1' h2' h3' h4' d0 d1 d2 d3 d4
   exact ⟨⟨e0, e1, e2, e3, e4⟩, by rw [d0, h0], by rw [d1, h1'], by rw [d2, h2'], by rw [d3, h3'], by rw [d4, h4']⟩
  have pick : ∃ F : Nat → Tv, ∀ i, i < len → W.cell? (a.add (i * 5)) = some (.int .i64 (F i).k) ∧ W.cell? (a.add (i * 5 + 1)) = some (.int .i64 (F i).f) ∧ W.cell? (a.add (i * 5 + 2)) = some (.int .i64 (F i).t) ∧ W.cell? (a.add (i * 5 + 3)) = some (.bool (F i).a) ∧ W.cell? (a.add (i * 5 + 4)) = some (.int .i64 (F i).e) := by
   refine ⟨fun i => if hi : i < len then (each i hi).choose else ⟨0, 0, 0, false, 0⟩, fun i hi => ?_⟩
   simp only [dif_pos hi]
   exact (each i hi).choose_spec
  obtain ⟨F, hF⟩ := pick
  refine ⟨some a, len, cap, (List.range len).map F, hcs, by simp, hl, hm, fun hp => ?_⟩
  have hp' : 0 < len := by simpa using hp
  have h0 := (hF 0 hp').1
  obtain ⟨b, off, spot⟩ := a
  have hspot : spot = none := by simpa [Addr.add] using World.cell?_spot h0
  subst hspot
  have hadd : ∀ j, (⟨b, off, none⟩ : Addr).add j = ⟨b, off + j, none⟩ := fun j => Go.WideShapes.add_plain _ _ _
  refine ⟨b, off, rfl, ?_, fun j u hu => ?_⟩
  ·rcases Nat.lt_or_ge b W.heap.size with h1 | h1
   ·exact h1
   ·rw [hadd] at h0
    simp [World.cell?, Array.getElem?_eq_none h1] at h0
  ·have hj := (List.getElem?_eq_some_iff.1 hu).1
   rw [flat_length tv_enc, List.length_map, List.length_range] at hj
   have hx : ((List.range len).map F)[j / 5]? = some (F (j / 5)) := by
    rw [List.getElem?_map, List.getElem?_range (by omega)]
    rfl
   obtain ⟨c0, c1, c2, c3, c4⟩ := hF (j / 5) (by omega)
   rw [hadd] at c0 c1 c2 c3 c4
   rcases (show j % 5 = 0 ∨ j % 5 = 1 ∨ j % 5 = 2 ∨ j % 5 = 3 ∨ j % 5 = 4 by omega) with h2 | h2 | h2 | h2 | h2
   ·have := flat_get tv_enc (j := 0) hx rfl
    rw [show j / 5 * 5 + 0 = j by omega] at this
    rw [this] at hu
    cases hu
    rw [show off + j = off + j / 5 * 5 by omega]
    exact c0
   ·have := flat_get tv_enc (j := 1) hx rfl
    rw [show j / 5 * 5 + 1 = j by omega] at this
    rw [this] at hu
    cases hu
    rw [show off + j = off + (j / 5 * 5 + 1) by omega]
    exact c1
   ·have := flat_get tv_enc (j := 2) hx rfl
    rw [show j / 5 * 5 + 2 = j by omega] at this
    rw [this] at hu
    cases hu
    rw [show off + j = off + (j / 5 * 5 + 2) by omega]
    exact c2
   ·have := flat_get tv_enc (j := 3) hx rfl
    rw [show j / 5 * 5 + 3 = j by omega] at this
    rw [this] at hu
    cases hu
    rw [show off + j = off + (j / 5 * 5 + 3) by omega]
    exact c3
   ·have := flat_get tv_enc (j := 4) hx rfl
    rw [show j / 5 * 5 + 4 = j by omega] at this
    rw [this] at hu
    cases hu
    rw [show off + j = off + (j / 5 * 5 + 4) by omega]
    exact c4
theorem vw_tree {H : Type} {enc : TypeId × Value → H} {W : World} {fuel : Nat} {cs : List Value} {x : DataW H × List MemPlace} {sp : Nat → Bool} (hl : cs.length = 1) (h : DataW.trod enc Try.prog W 0 sp true fuel 26 cs = some x) :
  ∃ A n c T, cs = [.slice A n c] ∧ List.length T = n ∧ n ≤ c ∧ c ≤ 9223372036854775807 ∧ NdsAt W W.heap.size A T := by
 have hu := Try.underlying26
 have hCs : Try.prog.cellsOf 24 = 1 := by kernel_rfl
 obtain ⟨xs, k, _, _, _, hxl, hg⟩ := DataW.trod_struct hu h
 match cs, hl with
 | [c0], _ =>
  match xs, hxl with
  | [y0], _ =>
   have g0 := hg 0 _ rfl
   simp [hCs] at g0
   obtain ⟨A, n, c, T, k1, k2, k3, k4, k5⟩ := open_nodes g0
   simp at k1
   exact ⟨A, n, c, T, by rw [k1], k2, k3, k4, k5⟩
theorem vw_list3 {α : Type} {l : List α} (h : l.length = 3) : ∃ a b c, l = [a, b, c] := by
 match l, h with
 | [a, b, c], _ => exact ⟨a, b, c, rfl⟩
theorem open_src {H : Type} {enc : TypeId × Value → H} {W : World} {b0 : Nat} {sp : Nat → Bool} {v : Value} {d : DataW H} {p : List MemPlace} (hv : Value.okWide Try.prog W .any b0 28 v) (h : DataW.Trod enc Try.prog W 0 sp true 28 v d p) :
  ∃ A1 n1 c1 A2 n2 c2 A n c l L T, v = .agg #[.slice A1 n1 c1, .slice A2 n2 c2, .slice A n c] ∧ (List.length l = n1 ∧ n1 ≤ c1 ∧ c1 ≤ 9223372036854775807 ∧ Byts W W.heap.size A1 l) ∧ (List.length L = n2 ∧ n2 ≤ c2 ∧ c2 ≤ 9223372036854775807 ∧ CellsV tvCells W W.heap.size A2 L) ∧ (List.length T = n ∧ n ≤ c ∧ c ≤ 9223372036854775807 ∧ NdsAt W W.heap.size A T) := by
 have hu := Try.underlying28
 have hC : Try.prog.cellsOf 28 = 3 := by kernel_rfl
 have hC1 : Try.prog.cellsOf 22 = 1 := by kernel_rfl
 have hC2 : Try.prog.cellsOf 23 = 1 := by kernel_rfl
 have hC3 : Try.prog.cellsOf 26 = 1 := by kernel_rfl
 simp only [Value.okWide, hu] at hv
 obtain ⟨cs, rfl, h2, _⟩ := hv
 obtain ⟨fuel, hf⟩ := h
 obtain ⟨xs, k, _, _, _, hxl, hg⟩ := DataW.trod_struct hu hf
 obtain ⟨q⟩ := cs
 obtain ⟨a0, a1, a2, rfl⟩ := vw_list3 (show q.length = 3 by simpa [hC] using h2)
 obtain ⟨y0, y1, y2, rfl⟩ := vw_list3 (show xs.length = 3 from hxl)
 have g0 := hg 0 _ rfl
 have g1 := hg 1 _ rfl
 have g2 := hg 2 _ rfl
 simp [hC1, hC2, hC3, Value.cells] at g0 g1 g2
 obtain ⟨A1, n1, c1, l, k1, k2, k3, k4, k5⟩ := vw_bytes g0
 obtain ⟨A2, n2, c2, L, j1, j2, j3, j4, j5⟩ := vw_toks g1
 obtain ⟨A, n, c, T, i1, i2, i3, i4, i5⟩ := vw_tree rfl g2
 simp at k1 j1 i1
 exact ⟨A1, n1, c1, A2, n2, c2, A, n, c, l, L, T, by rw [k1, j1, i1], ⟨k2, k3, k4, k5⟩, ⟨j2, j3, j4, j5⟩, ⟨i2, i3, i4, i5⟩⟩
end Go.Proofs.Ytpjgapnihmiceaa
namespace Go.Proofs.Ytpjgapnihmiceaa
open Go.RowKit
def OrdTo (L : List Tv) (i : Nat) : Prop := (∀ j : Nat, j < i → (tokV L (j : Int)).f ≤ (tokV L (j : Int)).t) ∧ ∀ j : Nat, j + 1 < i → (tokV L (j : Int)).t ≤ (tokV L ((j + 1 : Nat) : Int)).f
theorem OrdTo.zero (L : List Tv) : OrdTo L 0 := ⟨fun j h => by omega, fun j h => by omega⟩
theorem OrdTo.next {L : List Tv} {i : Nat} (h : OrdTo L i) (h1 : (tokV L (i : Int)).f ≤ (tokV L (i : Int)).t) (h2 : ∀ j : Nat, j + 1 = i → (tokV L (j : Int)).t ≤ (tokV L (i : Int)).f) : OrdTo L (i + 1) := by
 refine ⟨fun j hj => ?_, fun j hj => ?_⟩
 ·rcases Nat.lt_or_eq_of_le (Nat.le_of_lt_succ hj) with h3 | rfl
  ·exact h.1 j h3
  ·exact h1
 ·rcases Nat.lt_or_eq_of_le (Nat.le_of_lt_succ hj) with h3 | h3
  ·exact h.2 j h3
  ·subst h3; exact h2 j rfl
section
variable {L : List Tv} {m : Nat}
theorem OrdTo.tt (h : OrdTo L m) : ∀ {j k : Nat}, j ≤ k → k < m → (tokV L (j : Int)).t ≤ (tokV L (k : Int)).t
  | j, 0, hjk, _ => by obtain rfl : j = 0 := by omega
                       exact Int.le_refl _
  | j, k + 1, hjk, hk => by
    rcases Nat.lt_or_eq_of_le hjk with h3 | rfl
    · have h4 := h.tt (j := j) (k := k) (by omega) (by omega)
      have h5 := h.2 k hk
      have h6 := h.1 (k + 1) hk
      omega
    · exact Int.le_refl _
theorem OrdTo.ft (h : OrdTo L m) {j k : Nat} (hjk : j ≤ k) (hk : k < m) : (tokV L (j : Int)).f ≤ (tokV L (k : Int)).t := by
 have h1 := h.1 j (by omega)
 have h2 := h.tt hjk hk
 omega
theorem OrdTo.ff (h : OrdTo L m) {j k : Nat} (hjk : j ≤ k) (hk : k < m) : (tokV L (j : Int)).f ≤ (tokV L (k : Int)).f := by
 rcases Nat.lt_or_eq_of_le hjk with h3 | rfl
 ·obtain ⟨g, rfl⟩ : ∃ g, k = g + 1 := ⟨k - 1, by omega⟩
  have h4 := h.ft (j := j) (k := g) (by omega) (by omega)
  have h5 := h.2 g hk
  omega
 ·exact Int.le_refl _
theorem place_in (hl : L.length = m) {x : Nat} (hx : x < m) : placeV L (x : Int) = (tokV L (x : Int)).f := by
 unfold placeV
 rw [if_pos (by omega)]
theorem place_out (hl : L.length = m) {x g : Nat} (hx : m ≤ x) (hg : g + 1 = m) : placeV L (x : Int) = (tokV L (g : Int)).t := by
 unfold placeV
 rw [if_neg (by omega), show (L.length : Int) - 1 = (g : Int) by omega]
theorem OrdTo.place (h : OrdTo L m) (hl : L.length = m) (hm : 0 < m) {x y : Nat} (hxy : x ≤ y) : placeV L (x : Int) ≤ placeV L (y : Int) := by
 obtain ⟨g, hg⟩ : ∃ g, g + 1 = m := ⟨m - 1, by omega⟩
 by_cases hy : y < m
 ·rw [place_in hl hy, place_in hl (by omega)]
  exact h.ff hxy hy
 ·have ey := place_out (L := L) (x := y) hl (by omega) hg
  by_cases hx : x < m
  ·have ex := place_in (L := L) hl hx
   have := h.ft (j := x) (k := g) (by omega) (by omega)
   omega
  ·have ex := place_out (L := L) (x := x) hl (by omega) hg
   omega
theorem span_of {T : List Nd} (hl : L.length = m) (hm : 0 < m) {i : Nat} {f t : Nat} (hi : i < T.length) (hf : (nd T i).f = (f : Int)) (ht : (nd T i).t = (t : Int)) (htm : t ≤ m) :
  spanV L T (i : Int) = (placeV L (f : Int), if f < t then (tokV L ((t : Int) - 1)).t else placeV L (f : Int)) := by
 have hin : inT T (i : Int) = true := decide_eq_true (by omega)
 unfold spanV kd
 rw [hin, if_pos ⟨rfl, by omega⟩, Int.toNat_natCast, hf, ht]
 by_cases h : f < t
 ·rw [if_pos (by omega), if_pos h, place_in hl (by omega)]
 ·rw [if_neg (by omega), if_neg h]
end
theorem view_within {L : List Tv} {m : Nat} {T : List Nd} (hV : Valid T (m : Int)) (hl : L.length = m) (ho : OrdTo L m) {i : Nat} {y ax ay bx bz : Int} (hi : i < T.length) (hy : y ∈ (nd T i).kids) (ha : spanV L T (i : Int) = (ax, ay)) (hb : spanV L T y = (bx, bz)) :
  ax ≤ bx ∧ bx ≤ bz ∧ (ay < bz → ¬ (kd T y).f < (kd T y).t) := by
 obtain ⟨hw1, hw2⟩ := hV.within hi hy
 obtain ⟨hy0, hyi⟩ := hV.kid i hi y hy
 obtain ⟨z, rfl⟩ := Int.eq_ofNat_of_zero_le hy0
 have hz : z < T.length := by omega
 obtain ⟨_, _, p1, p2, p3⟩ := hV.num i hi
 obtain ⟨_, _, q1, q2, q3⟩ := hV.num z hz
 have hkd : kd T (z : Int) = nd T z := by unfold kd; rw [Int.toNat_natCast]
 rw [hkd] at hw1 hw2 ⊢
 obtain ⟨F, hF⟩ := Int.eq_ofNat_of_zero_le p1
 obtain ⟨G, hG⟩ : ∃ G : Nat, (nd T i).t = (G : Int) := ⟨(nd T i).t.toNat, by omega⟩
 obtain ⟨f, hf⟩ := Int.eq_ofNat_of_zero_le q1
 obtain ⟨g, hg⟩ : ∃ g : Nat, (nd T z).t = (g : Int) := ⟨(nd T z).t.toNat, by omega⟩
 rcases Nat.eq_zero_or_pos m with rfl | hm
 ·have h0 : ∀ n, spanV L T n = (0, 0) := fun n => by
   unfold spanV
   rw [if_neg (fun h => by have := h.2; omega)]
  rw [h0] at ha hb
  cases ha
  cases hb
  exact ⟨by omega, by omega, fun h => by omega⟩
 ·rw [span_of hl hm hi hF hG (by omega)] at ha
  rw [span_of hl hm hz hf hg (by omega)] at hb
  injection ha with ha1 ha2
  injection hb with hb1 hb2
  subst ha1 hb1
  have k1 : placeV L (F : Int) ≤ placeV L (f : Int) := ho.place hl hm (by omega)
  by_cases hfg : f < g
  ·obtain ⟨r, hr⟩ : ∃ r, r + 1 = g := ⟨g - 1, by omega⟩
   obtain ⟨R, hR⟩ : ∃ R, R + 1 = G := ⟨G - 1, by omega⟩
   rw [if_pos hfg, show (g : Int) - 1 = (r : Int) by omega] at hb2
   rw [if_pos (by omega), show (G : Int) - 1 = (R : Int) by omega] at ha2
   have k2 := ho.ft (j := f) (k := r) (by omega) (by omega)
   have k3 := ho.tt (j := r) (k := R) (by omega) (by omega)
   rw [place_in hl (by omega : f < m)] at k1 ⊢
   exact ⟨k1, by omega, fun h => by omega⟩
  ·rw [if_neg hfg] at hb2
   exact ⟨k1, by omega, fun _ => by omega⟩
end Go.Proofs.Ytpjgapnihmiceaa
