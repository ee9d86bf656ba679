/-
  The contracts of lines.Line and of the reference's Line.
-/
import Derived.Test.YtihdljadggoimaaLnRefPos
import Derived.RegionTactic
import Derived.BigRegion
import Derived.Laws.ResultCell
namespace Go.Proofs.Ytihdljadggoimaa
open Go.RowKit

/-- A line's span, and the error's number. -/
def lineOut (v : Bool) (L : List Int) (z line : Int) : Int × Int × Nat :=
  if v = false then (0, 0, 8) else if line < 1 ∨ (L.length : Int) < line then (0, 0, 4) else (L.getD (line.toNat - 1) 0, if line = L.length then z else L.getD line.toNat 0, 0)
theorem lineOut_code {v : Bool} {L : List Int} {z line l c : Int} {k : Nat} (h : lineOut v L z line = (l, c, k)) : k ≤ 25 := by
  unfold lineOut at h
  split at h
  · cases h; omega
  · split at h
    · cases h; omega
    · cases h; omega
theorem lineOut_last {L : List Int} {z x : Int} {j : Nat} (hx : L[j]? = some x) (h : j + 1 = L.length) : lineOut true L z ((j : Int) + 1) = (x, z, 0) := by
  unfold lineOut
  rw [if_neg (by simp), if_neg (by omega), if_pos (by omega), show ((j : Int) + 1).toNat - 1 = j by omega]
  simp [List.getD, hx]
theorem lineOut_mid {L : List Int} {z x y : Int} {j : Nat} (hx : L[j]? = some x) (hy : L[j + 1]? = some y) : lineOut true L z ((j : Int) + 1) = (x, y, 0) := by
  have := (List.getElem?_eq_some_iff.1 hy).1
  unfold lineOut
  rw [if_neg (by simp), if_neg (by omega), if_neg (by omega), show ((j : Int) + 1).toNat = j + 1 by omega]
  simp [List.getD, hx, hy]
set_option maxHeartbeats 2000000 in
theorem refLine_run (A : Option Addr) (n cap : Nat) (L : List Int) (z line : Int) (v : Bool) (w : World) (hv : Hid (v = true ↔ Ln.Valid L z)) (hb : Nums w w.heap.size A L) (hl : Hid (L.length = n)) (hcap : n ≤ cap) (hmax : cap ≤ 9223372036854775807) (hn : n ≤ 1000000)
    (l c : Int) (k : Nat) (hp : Hid (lineOut v L z line = (l, c, k))) :
    Calls Try.prog 15 #[.slice A n cap, .int .i64 z, .int .i64 line] w fun e w' => e = .returned (.tuple #[.int .i64 l, .int .i64 c, .int .i64 k]) ∧ Below w.heap.size w w' := by
  have hV := Lib.hid (check_run A n cap L z v w hv hb hl hcap (by omega))
  have HB := Lib.hid hb
  have Hp := hp.out
  unfold lineOut at Hp
  clear hb
  cases v with
  | false =>
    rw [if_pos rfl] at Hp
    cases Hp
    clear hp
    go_enter Try.func15, Try.ntmps15
    go_wp2_with (go_at_call 21; refine hV.out.mono ?_; rintro e w1 ⟨rfl, hw1⟩)
    go_ret3
    exact ⟨rfl, hw1⟩
  | true =>
    rw [if_neg (by simp), hl.out] at Hp
    by_cases hr : line < 1 ∨ (n : Int) < line
    · rw [if_pos hr] at Hp
      cases Hp
      clear hp
      by_cases h0 : line < 1
      · clear hr
        go_enter Try.func15, Try.ntmps15
        go_wp2_with (go_at_call 21; refine hV.out.mono ?_; rintro e w1 ⟨rfl, hw1⟩)
        go_ret3
        exact ⟨rfl, hw1⟩
      · have h1 : (n : Int) < line := by omega
        have h0' : decide (line < 1) = false := by simpa using h0
        clear hr
        go_enter Try.func15, Try.ntmps15
        go_wp2_with (go_at_call 21; refine hV.out.mono ?_; rintro e w1 ⟨rfl, hw1⟩)
        go_ret3
        exact ⟨rfl, hw1⟩
    · clear Hp
      obtain ⟨j, rfl⟩ : ∃ j : Nat, line = j + 1 := ⟨(line - 1).toNat, by omega⟩
      have h0' : decide ((j : Int) + 1 < 1) = false := by simp; omega
      have h1' : decide ((n : Int) < (j : Int) + 1) = false := by simp; omega
      have hjn : j < n := by omega
      obtain ⟨b, o, rfl, hbl, hcell⟩ := HB.out (by have := hl.out; omega)
      have hx : L[j]? = some (L[j]'(by rw [hl.out]; omega)) := List.getElem?_eq_getElem _
      generalize L[j]'(by rw [hl.out]; omega) = x at hx
      have HX := Lib.hid hx
      have HC := Lib.hid hcell
      clear hr hx hcell
      by_cases he : j + 1 = n
      · have Hp := hp.out.symm.trans (lineOut_last (z := z) HX.out (by rw [hl.out]; exact he))
        cases Hp
        have he' : ((j : Int) + 1 == (n : Int)) = true := by simp; omega
        clear hp he
        go_enter Try.func15, Try.ntmps15
        go_wp2_with fail
        refine hV.out.mono ?_
        rintro e w1 ⟨rfl, hw1⟩
        have cx : w1.cell? ⟨b, o + j, none⟩ = some (.int .i64 l) := (hw1.cell (p := ⟨b, o + j, none⟩) hbl).trans (HC.out j l HX.out)
        go_wp2
        go_ret3
        exact ⟨rfl, hw1⟩
      · have hjn2 : j + 1 < n := by omega
        have hy : L[j + 1]? = some (L[j + 1]'(by rw [hl.out]; omega)) := List.getElem?_eq_getElem _
        generalize L[j + 1]'(by rw [hl.out]; omega) = y at hy
        have HY := Lib.hid hy
        have Hp := hp.out.symm.trans (lineOut_mid (z := z) HX.out HY.out)
        cases Hp
        have he' : ((j : Int) + 1 == (n : Int)) = false := by simp; omega
        clear hp he hy
        go_enter Try.func15, Try.ntmps15
        go_wp2_with fail
        refine hV.out.mono ?_
        rintro e w1 ⟨rfl, hw1⟩
        have cx : w1.cell? ⟨b, o + j, none⟩ = some (.int .i64 l) := (hw1.cell (p := ⟨b, o + j, none⟩) hbl).trans (HC.out j l HX.out)
        have cy : w1.cell? ⟨b, o + (j + 1), none⟩ = some (.int .i64 c) := (hw1.cell (p := ⟨b, o + (j + 1), none⟩) hbl).trans (HC.out (j + 1) c HY.out)
        go_wp2
        go_quiet (fail)
        go_wp2
        go_ret3
        exact ⟨rfl, below_drewN hw1 _⟩
theorem box22_cells (w : World) (v0 v1 v2 v3 : Value) (t1 t2 : TypeId) :
    ((w.alloc (.cells #[v0, v1] t1)).alloc (.cells #[v2, v3] t2)).cell? ⟨w.heap.size, 0, none⟩ = some v0 ∧ ((w.alloc (.cells #[v0, v1] t1)).alloc (.cells #[v2, v3] t2)).cell? ⟨w.heap.size, 1, none⟩ = some v1 ∧
    ((w.alloc (.cells #[v0, v1] t1)).alloc (.cells #[v2, v3] t2)).cell? ⟨w.heap.size + 1, 0, none⟩ = some v2 ∧ ((w.alloc (.cells #[v0, v1] t1)).alloc (.cells #[v2, v3] t2)).cell? ⟨w.heap.size + 1, 1, none⟩ = some v3 ∧
    ∀ i, ((w.alloc (.cells #[v0, v1] t1)).alloc (.cells #[v2, v3] t2)).frozen? ⟨w.heap.size + 1, i, none⟩ = false := by
  refine ⟨?_, ?_, ?_, ?_, ?_⟩
  · rw [World.cell?_alloc_lt _ _ ⟨w.heap.size, 0, none⟩ (by simp), World.cell?_alloc_at _ _ _ _ rfl]; rfl
  · rw [World.cell?_alloc_lt _ _ ⟨w.heap.size, 1, none⟩ (by simp), World.cell?_alloc_at _ _ _ _ rfl]; rfl
  · rw [World.cell?_alloc_at _ _ _ _ (by simp)]; rfl
  · rw [World.cell?_alloc_at _ _ _ _ (by simp)]; rfl
  · intro i; exact World.frozen?_alloc_at _ _ _ _ (by simp)
set_option maxHeartbeats 2000000 in
theorem line_run (A : Option Addr) (n cap : Nat) (L : List Int) (z line : Int) (v : Bool) (w : World) (hv : Hid (v = true ↔ Ln.Valid L z)) (hb : Nums w w.heap.size A L) (hl : Hid (L.length = n)) (hcap : n ≤ cap) (hmax : cap ≤ 9223372036854775807) (hn : n ≤ 1000000)
    (l c : Int) (k : Nat) (hp : Hid (lineOut v L z line = (l, c, k))) :
    Calls Try.prog 14 #[.agg #[.slice A n cap, .int .i64 z], .int .i64 line] w fun e w' => e = .returned (.tuple #[.agg #[.int .i64 l, .int .i64 c], errOf k]) ∧ Below w.heap.size w w' := by
  have b1 : Below w.heap.size w (w.alloc (.cells #[.slice A n cap, .int .i64 z] 24)) := (Below.refl _ _).alloc (Nat.le_refl _) _
  have b2 : Below w.heap.size w ((w.alloc (.cells #[.slice A n cap, .int .i64 z] 24)).alloc (.cells #[.int .i64 0, .int .i64 0] 40)) := b1.alloc (by simp) _
  obtain ⟨d0, d1, d2, d3, d4⟩ := box22_cells w (.slice A n cap) (.int .i64 z) (.int .i64 0) (.int .i64 0) 24 40
  have D0 := Lib.hid d0
  have D1 := Lib.hid d1
  have D2 := Lib.hid d2
  have D3 := Lib.hid d3
  have D4 := Lib.hid d4
  have Y2 : Hid (Nums ((w.alloc (.cells #[.slice A n cap, .int .i64 z] 24)).alloc (.cells #[.int .i64 0, .int .i64 0] 40)) ((w.alloc (.cells #[.slice A n cap, .int .i64 z] 24)).alloc (.cells #[.int .i64 0, .int .i64 0] 40)).heap.size A L) := NumsK.on hb (Nat.le_refl _) b2
  have hV := Lib.hid (valid_run A n cap L z v _ hv Y2.out hl hcap (by omega))
  have B2 := Lib.hid b2
  have Hp := hp.out
  unfold lineOut at Hp
  clear b1 b2 d0 d1 d2 d3 d4 hb
  cases v with
  | false =>
    rw [if_pos rfl] at Hp
    cases Hp
    clear hp
    go_enter Try.func14, Try.ntmps14
    go_wp2_with fail
    refine hV.out.mono ?_
    rintro e w1 ⟨rfl, hw1⟩
    have c2 := (hw1.cell (p := ⟨w.heap.size + 1, 0, none⟩) (by simp)).trans D2.out
    have c3 := (hw1.cell (p := ⟨w.heap.size + 1, 1, none⟩) (by simp)).trans D3.out
    have f2 := (hw1.frozen (p := ⟨w.heap.size + 1, 0, none⟩) (by simp)).trans (D4.out 0)
    have f3 := (hw1.frozen (p := ⟨w.heap.size + 1, 1, none⟩) (by simp)).trans (D4.out 1)
    have B3 := Lib.hid (B2.out.trans (hw1.mono (by simp; omega)))
    clear hw1
    go_wp2
    (try simp only [Exit.inBlock, Exit.then])
    refine bodyPost_ret (v := .tuple #[.agg #[.int .i64 0, .int .i64 0], errno 8]) (by rw [results_cell_tmp rfl]; go_simp; rfl) rfl ⟨rfl, ?_⟩
    exact (B3.out.setCell (by simp) _).setCell (by simp) _
  | true =>
    rw [if_neg (by simp), hl.out] at Hp
    by_cases hr : line < 1 ∨ (n : Int) < line
    · rw [if_pos hr] at Hp
      cases Hp
      clear hp
      by_cases h0 : line < 1
      all_goals
        go_enter Try.func14, Try.ntmps14
        go_wp2_with fail
        refine hV.out.mono ?_
        rintro e w1 ⟨rfl, hw1⟩
        have c0 := (hw1.cell (p := ⟨w.heap.size, 0, none⟩) (by simp; omega)).trans D0.out
        have c1 := (hw1.cell (p := ⟨w.heap.size, 1, none⟩) (by simp; omega)).trans D1.out
        have c2 := (hw1.cell (p := ⟨w.heap.size + 1, 0, none⟩) (by simp)).trans D2.out
        have c3 := (hw1.cell (p := ⟨w.heap.size + 1, 1, none⟩) (by simp)).trans D3.out
        have f2 := (hw1.frozen (p := ⟨w.heap.size + 1, 0, none⟩) (by simp)).trans (D4.out 0)
        have f3 := (hw1.frozen (p := ⟨w.heap.size + 1, 1, none⟩) (by simp)).trans (D4.out 1)
        have B3 := Lib.hid (B2.out.trans (hw1.mono (by simp; omega)))
        clear hw1
        first
          | (have h1 : (n : Int) < line := by omega
             have h0' : decide (line < 1) = false := by simpa using h0
             clear hr
             go_wp2)
          | (clear hr; go_wp2)
        (try simp only [Exit.inBlock, Exit.then])
        refine bodyPost_ret (v := .tuple #[.agg #[.int .i64 0, .int .i64 0], errno 4]) (by rw [results_cell_tmp rfl]; go_simp; rfl) rfl ⟨rfl, ?_⟩
        exact (B3.out.setCell (by simp) _).setCell (by simp) _
    · clear Hp
      obtain ⟨j, rfl⟩ : ∃ j : Nat, line = j + 1 := ⟨(line - 1).toNat, by omega⟩
      have h0' : decide ((j : Int) + 1 < 1) = false := by simp; omega
      have h1' : decide ((n : Int) < (j : Int) + 1) = false := by simp; omega
      have hjn : j < n := by omega
      obtain ⟨b, o, rfl, hbl, hcell⟩ := Y2.out (by have := hl.out; omega)
      have hx : L[j]? = some (L[j]'(by rw [hl.out]; omega)) := List.getElem?_eq_getElem _
      generalize L[j]'(by rw [hl.out]; omega) = x at hx
      have HX := Lib.hid hx
      have HC := Lib.hid hcell
      clear hr hx hcell
      go_enter Try.func14, Try.ntmps14
      go_wp2_with fail
      refine hV.out.mono ?_
      rintro e w1 ⟨rfl, hw1⟩
      have c0 := (hw1.cell (p := ⟨w.heap.size, 0, none⟩) (by simp; omega)).trans D0.out
      have c1 := (hw1.cell (p := ⟨w.heap.size, 1, none⟩) (by simp; omega)).trans D1.out
      have c2 := (hw1.cell (p := ⟨w.heap.size + 1, 0, none⟩) (by simp)).trans D2.out
      have c3 := (hw1.cell (p := ⟨w.heap.size + 1, 1, none⟩) (by simp)).trans D3.out
      have f2 := (hw1.frozen (p := ⟨w.heap.size + 1, 0, none⟩) (by simp)).trans (D4.out 0)
      have f3 := (hw1.frozen (p := ⟨w.heap.size + 1, 1, none⟩) (by simp)).trans (D4.out 1)
      have HC1 : Hid (∀ i y, L[i]? = some y → w1.cell? ⟨b, o + i, none⟩ = some (.int .i64 y)) := fun i y hy => (hw1.cell (p := ⟨b, o + i, none⟩) hbl).trans (HC.out i y hy)
      have hs1 : w.heap.size + 2 ≤ w1.heap.size := by have := hw1.size; simpa using this
      simp at hbl
      have B3 := Lib.hid (B2.out.trans (hw1.mono (by simp; omega)))
      clear hw1 HC
      go_upto_region 5 with fail
      have cx := HC1.out j x HX.out
      have past : ∀ (p : Addr) (v : Value), p.block < w1.heap.size → w1.cell? p = some v → (w1.alloc (.cells #[.int .i64 0, .int .i64 0] 40)).cell? p = some v := fun p v hp hv => by
        rw [World.cell?_alloc_lt _ _ p hp]; exact hv
      have c0' := past _ _ (by show w.heap.size < _; omega) c0
      have c1' := past _ _ (by show w.heap.size < _; omega) c1
      have cx' := past _ _ (by show b < _; omega) cx
      clear past
      go_region
      clear c0' c1' cx' cx
      have past : ∀ (q : Obj) (p : Addr) (v : Value), p.block < w1.heap.size → w1.cell? p = some v → (w1.alloc q).cell? p = some v := fun q p v hp hv => by
        rw [World.cell?_alloc_lt _ _ p hp]; exact hv
      have pastf : ∀ (q : Obj) (p : Addr), p.block < w1.heap.size → w1.frozen? p = false → (w1.alloc q).frozen? p = false := fun q p hp hv => by
        rw [World.frozen?_alloc_old _ _ p (Nat.ne_of_lt hp)]; exact hv
      have e0 := past (.cells #[.int .i64 x, .int .i64 z] 40) _ _ (by show w.heap.size < _; omega) c0
      by_cases he : j + 1 = n
      · have Hp := hp.out.symm.trans (lineOut_last (z := z) HX.out (by rw [hl.out]; exact he))
        cases Hp
        have he' : decide ((j : Int) + 1 < (n : Int)) = false := by simp; omega
        have e2 := past (.cells #[.int .i64 l, .int .i64 z] 40) _ _ (by show w.heap.size + 1 < _; omega) c2
        have e3 := past (.cells #[.int .i64 l, .int .i64 z] 40) _ _ (by show w.heap.size + 1 < _; omega) c3
        have g2 := pastf (.cells #[.int .i64 l, .int .i64 z] 40) _ (by show w.heap.size + 1 < _; omega) f2
        have g3 := pastf (.cells #[.int .i64 l, .int .i64 z] 40) _ (by show w.heap.size + 1 < _; omega) f3
        have B4 : Hid (Below w.heap.size w (w1.alloc (.cells #[.int .i64 l, .int .i64 z] 40)).drew) := (B3.out.alloc (by omega) _).drew
        clear hp past pastf c0 c1 c2 c3 f2 f3
        go_wp2
        (try simp only [Exit.inBlock, Exit.then])
        refine bodyPost_ret (v := .tuple #[.agg #[.int .i64 l, .int .i64 z], .nilIface]) (by rw [results_cell_tmp rfl]; go_simp; try rfl) rfl ⟨rfl, ?_⟩
        exact (B4.out.setCell (by simp) _).setCell (by simp) _
      · have hjn2 : j + 1 < n := by omega
        have hy : L[j + 1]? = some (L[j + 1]'(by rw [hl.out]; omega)) := List.getElem?_eq_getElem _
        generalize L[j + 1]'(by rw [hl.out]; omega) = y at hy
        have Hp := hp.out.symm.trans (lineOut_mid (z := z) HX.out hy)
        cases Hp
        have he' : decide ((j : Int) + 1 < (n : Int)) = true := by simp; omega
        have ey := past (.cells #[.int .i64 l, .int .i64 z] 40) _ _ (by show b < _; omega) (HC1.out (j + 1) c hy)
        have e2 := past (.cells #[.int .i64 l, .int .i64 c] 40) _ _ (by show w.heap.size + 1 < _; omega) c2
        have e3 := past (.cells #[.int .i64 l, .int .i64 c] 40) _ _ (by show w.heap.size + 1 < _; omega) c3
        have g2 := pastf (.cells #[.int .i64 l, .int .i64 c] 40) _ (by show w.heap.size + 1 < _; omega) f2
        have g3 := pastf (.cells #[.int .i64 l, .int .i64 c] 40) _ (by show w.heap.size + 1 < _; omega) f3
        have B4 : Hid (Below w.heap.size w (w1.alloc (.cells #[.int .i64 l, .int .i64 c] 40)).drew) := (B3.out.alloc (by omega) _).drew
        clear hp hy past pastf c0 c1 c2 c3 f2 f3
        go_wp2
        (try simp only [Exit.inBlock, Exit.then])
        refine bodyPost_ret (v := .tuple #[.agg #[.int .i64 l, .int .i64 c], .nilIface]) (by rw [results_cell_tmp rfl]; go_simp; try rfl) rfl ⟨rfl, ?_⟩
        exact (B4.out.setCell (by simp) _).setCell (by simp) _
end Go.Proofs.Ytihdljadggoimaa
