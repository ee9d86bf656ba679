/-
  The walk of the law SpanSorts: it answers true, and leaves what was there as it was.
-/
import Derived.Test.YtnbnohphdehfoaaSpLawM
namespace Go.Proofs.Ytnbnohphdehfoaa
open Go.RowKit Go.Sort

theorem ord_swap (x y : Int × Int) : 0 < ordI x y ↔ ordI y x < 0 := by
  rw [ord_lt]
  unfold ordI cmpI
  repeat' split
  all_goals omega
/-- How often a list has x. -/
def cnt (x : Int × Int) (m : List (Int × Int)) : Nat := m.countP fun y => y.1 == x.1 && y.2 == x.2
theorem cnt_take {x s : Int × Int} {l : List (Int × Int)} {i : Nat} (h : l[i]? = some s) : cnt x (l.take (i + 1)) = cnt x (l.take i) + if (s.1 == x.1 && s.2 == x.2) = true then 1 else 0 := by
  unfold cnt
  rw [List.take_add_one, h, Option.toList_some, List.countP_append, List.countP_singleton]
theorem cell_grownB {w W : World} {b o : Nat} {v : Value} (h : w.cell? ⟨b, o, none⟩ = some v) (hb : Below w.heap.size w W) (hlt : b < w.heap.size) (n : Nat) (os : Array Obj) : (grow (W.drewN n) os).cell? ⟨b, o, none⟩ = some v :=
  ((below_grow (below_drewN hb n) (show w.heap.size ≤ (W.drewN n).heap.size from hb.size) os).cell (p := ⟨b, o, none⟩) hlt).trans h
set_option maxRecDepth 100000 in
set_option maxHeartbeats 8000000 in
theorem spanSorts_any (A : Option Addr) (n cap : Nat) (L : List (Int × Int)) (w : World) (hb : CellsV pairCells w w.heap.size A L) (hl : L.length = n) (hcap : n ≤ cap) :
    Calls Try.prog 5 #[.slice A n cap] w fun e w' => e = .returned (.bool true) ∧ Below w.heap.size w w' := by
  have hm := few20_le n
  have mixed : Try.prog.follows .mixedOrders = true := by kernel_rfl
  have HB : Hid (CellsV pairCells w w.heap.size A (L.take (few20 n))) := CellsV.take pair_enc hb _
  have HL : Hid ((L.take (few20 n)).length = few20 n) := take_few hl
  have HF := Lib.hid (few_run A n cap w hcap)
  generalize few20 n = k at *
  generalize L.take k = l at *
  clear hb hl
  go_enter Try.func5, Try.ntmps5
  go_wp2_with fail
  refine HF.out.mono ?_
  rintro e w1 ⟨rfl, rfl⟩
  go_wp2_with fail
  refine (sort_run A k cap l w HB.out HL (by omega)).mono ?_
  rintro e w1 ⟨A1, cap1, S, rfl, hc1, hc2, hy1, hperm, hsort, hw1⟩
  have HY := Lib.hid hy1
  have HX := Lib.hid (HB.out.below hw1 (Nat.le_refl _))
  have HS : Hid (SortedL S) := hsort
  have HPm : Hid (∀ x, cnt x S = cnt x l) := fun x => hperm.countP_eq _
  have HSl : Hid (S.length = k) := by show _ = _; rw [hperm.length_eq]; exact HL.out
  have HW1 := Lib.hid hw1
  have hs1 := hw1.size
  have hE := eqSpan
  have h0 : ((k : Int) != (k : Int)) = false := by simp
  have HO : Hid (∀ a b c d r, r = ordI (a, b) (c, d) → ∀ W, Calls Try.prog 14 #[.agg #[.int .i64 a, .int .i64 b], .agg #[.int .i64 c, .int .i64 d]] W fun e w' => e = .returned (.int .i64 r) ∧ ∃ q os, w' = grow (W.drewN q) os) :=
    fun a b c d r hr W => (refOrder_run a b c d W).mono fun _ _ ⟨he, os, hw⟩ => ⟨hr ▸ he, 0, os, hw⟩
  clear hy1 hperm hsort hw1 hc1 hc2
  generalize w1 = W at *
  go_wp2_with fail
  go_loopg [18] (k + 1) (fun h s18 wr => ∃ (i : Nat), s18 = .int .i64 i ∧ Hid (i ≤ k ∧ k < i + h) ∧ Hid (Below W.heap.size W wr))
  case atStart => exact ⟨0, rfl, by show _ ∧ _; omega, Below.refl _ _⟩
  case round =>
    obtain ⟨i, rfl, HI, BW⟩ := hrel
    by_cases hlt : i < k
    · have hltz : (i : Int) < (k : Int) := by omega
      obtain ⟨g, o, rfl, hg, hc⟩ := spans_get HY.out (by have := HSl.out; omega)
      obtain ⟨g2, o2, rfl, hg2, hc2⟩ := spans_get HX.out (by have := HL.out; omega)
      have HC := Lib.hid hc
      have HC2 := Lib.hid hc2
      have hg2' : g2 < W.heap.size := by omega
      obtain ⟨x, hx⟩ : ∃ x, S[i]? = some x := ⟨_, List.getElem?_eq_getElem (by rw [HSl.out]; exact hlt)⟩
      have HXi := Lib.hid hx
      obtain ⟨x1, x2⟩ := x
      clear hc hc2 hx
      have inner : Hid (∀ W2, Below W.heap.size W W2 → W2.cell? ⟨g, o + i * 2, none⟩ = some (.int .i64 x1) ∧ W2.cell? ⟨g, o + i * 2 + 1, none⟩ = some (.int .i64 x2)) := fun W2 h =>
        ⟨(h.cell (p := ⟨g, o + i * 2, none⟩) hg).trans (HC.out i _ HXi.out).1, (h.cell (p := ⟨g, o + i * 2 + 1, none⟩) hg).trans (HC.out i _ HXi.out).2⟩
      go_upto_region 8 with fail
      go_cut [4, 35] (fun s4 s35 wx => s4 = .int .i64 i ∧ s35 = .bool false ∧ Hid (Below W.heap.size W wx))
      case first =>
        by_cases h00 : 0 < i
        · obtain ⟨y, hy⟩ : ∃ y, S[i - 1]? = some y := ⟨_, List.getElem?_eq_getElem (by rw [HSl.out]; omega)⟩
          have hord : ¬ 0 < ordI y (x1, x2) := by
            rw [ord_swap]
            obtain ⟨h1, h1'⟩ := List.getElem?_eq_some_iff.1 hy
            obtain ⟨h2, h2'⟩ := List.getElem?_eq_some_iff.1 HXi.out
            rw [← h1', ← h2']
            exact (List.pairwise_iff_getElem.1 HS.out) (i - 1) i h1 h2 (by omega)
          obtain ⟨ip, hip⟩ : ∃ ip, i = ip + 1 := ⟨i - 1, by omega⟩
          rw [show i - 1 = ip by omega] at hy
          obtain ⟨y1, y2⟩ := y
          obtain ⟨r, hr⟩ : ∃ r, r = ordI (y1, y2) (x1, x2) := ⟨_, rfl⟩
          rw [← hr] at hord
          have l1 := cell_grownB (HC.out ip _ hy).1 BW.out hg
          have l2 := cell_grownB (HC.out ip _ hy).2 BW.out hg
          have l3 := cell_grownB (HC.out i _ HXi.out).1 BW.out hg
          have l4 := cell_grownB (HC.out i _ HXi.out).2 BW.out hg
          have hcO := HO.out y1 y2 x1 x2 r hr
          have hd0 : decide (0 < i) = true := decide_eq_true h00
          have hdr : decide (0 < r) = false := decide_eq_false hord
          have ejp : IntKind.i64.wrap ((i : Int) - 1) = (ip : Int) := by rw [IntKind.wrap_i64]; omega
          have hips : ip < k := by omega
          simp only [] at l1 l2 l3 l4
          clear hr hord hy hip h00
          go_quiet_grown (first | (go_at_call 14; refine Calls.grown_of (hcO _)))
          go_wp2_with fail
          go_meet
          case rel => exact ⟨rfl, rfl, below_grow (below_drewN BW.out nq) (show W.heap.size ≤ (wr.drewN nq).heap.size from BW.out.size) osq⟩
        · obtain rfl : i = 0 := by omega
          have hd0 : decide ((0 : Int) < ((0 : Nat) : Int)) = false := by simp
          go_quiet (fail)
          go_wp2_with fail
          go_meet
          case rel => exact ⟨rfl, rfl, below_drewN BW.out _⟩
      case rest =>
        obtain ⟨rfl, rfl, BW2⟩ := hcut
        clear BW
        have hsw : W.heap.size ≤ wc.heap.size := BW2.out.size
        go_wp2_with fail
        go_loopg [5, 38] (k + 1) (fun h s5 s38 wr => ∃ (j : Nat) (c : Int), s5 = .int .i64 c ∧ s38 = .int .i64 j ∧ Hid (j ≤ k ∧ k < j + h ∧ -20 ≤ c ∧ c ≤ 20) ∧ Hid (c = (cnt (x1, x2) (l.take j) : Int) - cnt (x1, x2) (S.take j)) ∧ Hid (Below W.heap.size W wr))
        case atStart => exact ⟨0, 0, rfl, rfl, by show _ ∧ _; omega, by show _ = _; rw [List.take_zero, List.take_zero]; simp, BW2⟩
        case round =>
          obtain ⟨j, c, rfl, rfl, HJ, HCt, BJ⟩ := hrel
          by_cases hlt2 : j < k
          · have hltz2 : (j : Int) < (k : Int) := by omega
            obtain ⟨p, hp⟩ : ∃ p, l[j]? = some p := ⟨_, List.getElem?_eq_getElem (by rw [HL.out]; exact hlt2)⟩
            obtain ⟨q, hq⟩ : ∃ q, S[j]? = some q := ⟨_, List.getElem?_eq_getElem (by rw [HSl.out]; exact hlt2)⟩
            have HT1 := Lib.hid (cnt_take (x := (x1, x2)) hp)
            have HT2 := Lib.hid (cnt_take (x := (x1, x2)) hq)
            have c0 := (BJ.out.cell (p := ⟨g2, o2 + j * 2, none⟩) hg2').trans (HC2.out j p hp).1
            have c1 := (BJ.out.cell (p := ⟨g2, o2 + j * 2 + 1, none⟩) hg2').trans (HC2.out j p hp).2
            have c2 := (BJ.out.cell (p := ⟨g, o + j * 2, none⟩) hg).trans (HC.out j q hq).1
            have c3 := (BJ.out.cell (p := ⟨g, o + j * 2 + 1, none⟩) hg).trans (HC.out j q hq).2
            obtain ⟨c4, c5⟩ := inner.out wr BJ.out
            obtain ⟨p1, p2⟩ := p
            obtain ⟨q1, q2⟩ := q
            simp only [] at c0 c1 c2 c3
            have hcb : -20 ≤ c ∧ c ≤ 20 := HJ.out.2.2
            have hB1 : cnt (x1, x2) (l.take (j + 1)) ≤ 20 := by
              have := List.countP_le_length (l := l.take (j + 1)) (p := fun y => y.1 == x1 && y.2 == x2)
              rw [List.length_take] at this
              show List.countP _ _ ≤ 20
              exact Nat.le_trans this (by omega)
            have hB2 : cnt (x1, x2) (S.take (j + 1)) ≤ 20 := by
              have := List.countP_le_length (l := S.take (j + 1)) (p := fun y => y.1 == x1 && y.2 == x2)
              rw [List.length_take] at this
              show List.countP _ _ ≤ 20
              exact Nat.le_trans this (by omega)
            have HBd : Hid (cnt (x1, x2) (l.take (j + 1)) ≤ 20 ∧ cnt (x1, x2) (S.take (j + 1)) ≤ 20) := ⟨hB1, hB2⟩
            clear hp hq hB1 hB2
            obtain ⟨e1, he1⟩ : ∃ e1, (p1 == x1 && p2 == x2) = e1 := ⟨_, rfl⟩
            obtain ⟨e2, he2⟩ : ∃ e2, (q1 == x1 && q2 == x2) = e2 := ⟨_, rfl⟩
            simp only [he1] at HT1
            simp only [he2] at HT2
            cases e1 <;> cases e2
            all_goals go_wp2_with fail
            all_goals go_quiet (fail)
            all_goals go_wp2_with fail
            all_goals go_quiet (fail)
            all_goals go_wp2_with fail
            all_goals go_roundg (k - j)
            all_goals first
              | (have := HJ.out; omega)
              | (have h1 := HT1.out
                 have h2 := HT2.out
                 have h3 := HCt.out
                 have h4 := HBd.out
                 have h5 := HJ.out
                 simp only [if_true, if_false, Bool.false_eq_true] at h1 h2
                 exact ⟨j + 1, _, rfl, by go_num, ⟨by omega, by omega, by omega, by omega⟩, by show _ = _; omega, below_drewN BJ.out _⟩)
          · have hltz2 : ¬ (j : Int) < (k : Int) := by omega
            have hc0 : c = 0 := by
              have h3 := HCt.out
              rw [List.take_of_length_le (by have := HL.out; omega), List.take_of_length_le (by have := HSl.out; omega), HPm.out] at h3
              omega
            subst hc0
            go_wp2_with fail
            go_roundg (k - i)
            case measure => have := HI.out; omega
            case rel => exact ⟨i + 1, by go_num, by show _ ∧ _; have := HI.out; omega, BJ⟩
    · have hltz : ¬ (i : Int) < (k : Int) := by omega
      go_wp2_with fail
      refine (works_run wr).mono ?_
      rintro e w5 ⟨rfl, hw5⟩
      go_wp2_with fail
      go_ret
      exact ⟨rfl, HW1.out.trans ((BW.out.trans (hw5.mono BW.out.size)).mono hs1)⟩
end Go.Proofs.Ytnbnohphdehfoaa
