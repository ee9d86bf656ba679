/-
  The contracts of the law's few and near, and of the references' Has and Same.
-/
import Derived.Test.YtnbnohphdehfoaaSpMeet
import Derived.Test.YtnbnohphdehfoaaSpanMath
namespace Go.Proofs.Ytnbnohphdehfoaa
open Go.RowKit Go.Sort

def few20 (n : Nat) : Nat := (min (n : Int) 20).toNat
theorem few20_le (n : Nat) : few20 n ≤ n ∧ few20 n ≤ 20 := by unfold few20; omega
theorem spans_get {w : World} {B : Nat} {A : Option Addr} {l : List (Int × Int)} (h : CellsV pairCells w B A l) (hp : 0 < l.length) : ∃ b o, A = some ⟨b, o, none⟩ ∧ b < B ∧ ∀ i x, l[i]? = some x → w.cell? ⟨b, o + i * 2, none⟩ = some (.int .i64 x.1) ∧ w.cell? ⟨b, o + i * 2 + 1, none⟩ = some (.int .i64 x.2) := by
  obtain ⟨b, o, e, hb, hc⟩ := CellsV.get pair_enc h hp
  exact ⟨b, o, e, hb, fun i x hx => ⟨hc i x hx 0 _ rfl, hc i x hx 1 _ rfl⟩⟩
theorem neqSpan (a b c d : Int) (w : World) : (binOp .neq 23 (.agg #[.int .i64 a, .int .i64 b]) (.agg #[.int .i64 c, .int .i64 d])).run Try.prog w = .ok (.bool (!(a == c && b == d))) w := by
  have u3 := Try.underlying3
  have a3 := Try.isAgg3
  have z3 := Try.sizeOf3
  have hS : Try.prog.underlying 23 = some (.struct (Try.prog.fieldsOf 23)) := by kernel_rfl
  have hp : Try.prog.stoodInHeld 23 = false := by kernel_rfl
  rw [run_neq_struct, show (10000 : Nat) = 9999 + 1 from rfl, run_equalIn_agg w 9999 23 _ _ hS hp]
  simp only [Program.fieldsOf, Try.underlying23]
  go_simp
  by_cases h1 : a = c <;> by_cases h2 : b = d <;> simp [h1, h2]
set_option maxHeartbeats 1000000 in
theorem few_run (A : Option Addr) (n cap : Nat) (w : World) (hcap : n ≤ cap) :
    Calls Try.prog 16 #[.slice A n cap] w fun e w' => e = .returned (.slice A (few20 n) cap) ∧ w = w' := by
  by_cases h : 20 < n
  · have hz : (20 : Int) < (n : Int) := by omega
    have h20 : (20 : Int) ≤ (cap : Int) := by omega
    rw [show few20 n = 20 by unfold few20; omega]
    go_enter Try.func16, Try.ntmps16
    go_wp2
    go_ret
    exact ⟨rfl, rfl⟩
  · have hz : ¬ (20 : Int) < (n : Int) := by omega
    rw [show few20 n = n by unfold few20; omega]
    clear h
    go_enter Try.func16, Try.ntmps16
    go_wp2
    go_ret
    exact ⟨rfl, rfl⟩
set_option maxHeartbeats 4000000 in
theorem refHas_run (A : Option Addr) (n cap : Nat) (l : List (Int × Int)) (z : Int) (b : Bool) (w : World) {B : Nat} (hb : CellsV pairCells w B A l) (hl : Hid (l.length = n)) (hz : Hid (b = true ↔ Sp.Has l z)) (hn : n ≤ 1000000) :
    Calls Try.prog 12 #[.slice A n cap, .int .i64 z] w fun e w' => e = .returned (.bool b) ∧ w = w' := by
  have HB := Lib.hid hb
  clear hb
  go_enter Try.func12, Try.ntmps12
  go_wp2_with fail
  go_loopg [5] (n + 1) (fun h s5 wr => ∃ i : Nat, s5 = .int .i64 i ∧ Hid (i ≤ n ∧ n < i + h) ∧ Hid (¬ Sp.Has (l.take i) z) ∧ w = wr)
  case atStart => exact ⟨0, rfl, by show _ ∧ _; omega, by show ¬ _; rw [List.take_zero]; exact Sp.has_nil z, rfl⟩
  case round =>
    obtain ⟨i, rfl, HI, HN, rfl⟩ := hrel
    by_cases hlt : i < n
    · have hltz : (i : Int) < (n : Int) := by omega
      obtain ⟨g, o, rfl, hg, hc⟩ := spans_get HB.out (by have := hl.out; omega)
      obtain ⟨x, hx⟩ : ∃ x, l[i]? = some x := ⟨_, List.getElem?_eq_getElem (by rw [hl.out]; exact hlt)⟩
      obtain ⟨c0, c1⟩ := hc i x hx
      have HS : Hid (Sp.Has (l.take (i + 1)) z ↔ Sp.Has (l.take i) z ∨ (x.1 ≤ z ∧ z < x.2)) := by
        show _ ↔ _
        rw [List.take_add_one, hx, Option.toList_some, Sp.has_append, Sp.has_one]
      have HX : Hid (x ∈ l) := List.mem_of_getElem? hx
      obtain ⟨p, q⟩ := x
      simp only [] at c0 c1
      clear hc hx
      by_cases h1 : p ≤ z
      · have h1' : decide (p ≤ z) = true := decide_eq_true h1
        by_cases h2 : z < q
        · have h2' : decide (z < q) = true := decide_eq_true h2
          have hbt : b = true := hz.out.2 ⟨_, HX.out, h1, h2⟩
          clear h1 h2
          go_wp2_with fail
          go_ret
          exact ⟨rfl, rfl⟩
        · have h2' : decide (z < q) = false := decide_eq_false h2
          have HR : Hid (¬ (p ≤ z ∧ z < q)) := fun h => h2 h.2
          clear h1 h2
          go_wp2_with fail
          go_roundg (n - i)
          case measure => have := HI.out; omega
          case rel => exact ⟨i + 1, by go_num, by show _ ∧ _; have := HI.out; omega, fun h => (HS.out.1 h).elim HN.out HR.out, rfl⟩
      · have h1' : decide (p ≤ z) = false := decide_eq_false h1
        have HR : Hid (¬ (p ≤ z ∧ z < q)) := fun h => h1 h.1
        clear h1
        go_wp2_with fail
        go_roundg (n - i)
        case measure => have := HI.out; omega
        case rel => exact ⟨i + 1, by go_num, by show _ ∧ _; have := HI.out; omega, fun h => (HS.out.1 h).elim HN.out HR.out, rfl⟩
    · have hltz : ¬ (i : Int) < (n : Int) := by omega
      have hbf : b = false := by
        cases b
        · rfl
        · exact absurd (hz.out.1 rfl) (by have := HN.out; rwa [List.take_of_length_le (by have := hl.out; omega)] at this)
      go_wp2_with fail
      go_ret
      exact ⟨rfl, rfl⟩
def Near (l : List (Int × Int)) : Prop := ∀ s ∈ l, -300 ≤ s.1 ∧ s.1 ≤ 300 ∧ -300 ≤ s.2 ∧ s.2 ≤ 300
set_option maxHeartbeats 4000000 in
theorem near_run (A : Option Addr) (n cap : Nat) (l : List (Int × Int)) (b : Bool) (w : World) (hb : CellsV pairCells w w.heap.size A l) (hl : Hid (l.length = n)) (hz : Hid (b = true ↔ Near l)) (hn : n ≤ 1000000) :
    Calls Try.prog 17 #[.slice A n cap] w fun e w' => e = .returned (.bool b) ∧ Below w.heap.size w w' := by
  have HB := Lib.hid hb
  clear hb
  go_enter Try.func17, Try.ntmps17
  go_wp2_with fail
  go_loopg [7] (n + 1) (fun h s7 wr => ∃ i : Nat, s7 = .int .i64 i ∧ Hid (i ≤ n ∧ n < i + h) ∧ Hid (Near (l.take i)) ∧ Hid (Below w.heap.size w wr))
  case atStart => exact ⟨0, rfl, by show _ ∧ _; omega, (fun s hs => by rw [List.take_zero] at hs; cases hs), Below.refl _ _⟩
  case round =>
    obtain ⟨i, rfl, HI, HN, BW⟩ := hrel
    by_cases hlt : i < n
    · have hltz : (i : Int) < (n : Int) := by omega
      obtain ⟨g, o, rfl, hg, hc⟩ := spans_get HB.out (by have := hl.out; omega)
      obtain ⟨x, hx⟩ : ∃ x, l[i]? = some x := ⟨_, List.getElem?_eq_getElem (by rw [hl.out]; exact hlt)⟩
      have c0 := (BW.out.cell (p := ⟨g, o + i * 2, none⟩) hg).trans (hc i x hx).1
      have c1 := (BW.out.cell (p := ⟨g, o + i * 2 + 1, none⟩) hg).trans (hc i x hx).2
      have HS : Hid ((-300 ≤ x.1 ∧ x.1 ≤ 300 ∧ -300 ≤ x.2 ∧ x.2 ≤ 300) → Near (l.take (i + 1))) := fun h s hs => by
        rw [List.take_add_one, hx, Option.toList_some] at hs
        rcases List.mem_append.1 hs with hs | hs
        · exact HN.out s hs
        · simp at hs; subst hs; exact h
      have HX : Hid (x ∈ l) := List.mem_of_getElem? hx
      have hsz := BW.out.size
      obtain ⟨p, q⟩ := x
      simp only [] at c0 c1
      clear hc hx
      by_cases hbad : -300 ≤ p ∧ p ≤ 300 ∧ -300 ≤ q ∧ q ≤ 300
      · have h1 : decide (p < -300) = false := decide_eq_false (by omega)
        have h2 : decide (300 < p) = false := decide_eq_false (by omega)
        have h3 : decide (q < -300) = false := decide_eq_false (by omega)
        have h4 : decide (300 < q) = false := decide_eq_false (by omega)
        have HG := Lib.hid hbad
        clear hbad
        go_wp2_with fail
        go_roundg (n - i)
        case measure => have := HI.out; omega
        case rel => exact ⟨i + 1, by go_num, by show _ ∧ _; have := HI.out; omega, HS.out HG.out, BW.out.alloc hsz _⟩
      · have hbf : b = false := by
          cases b
          · rfl
          · exact absurd (hz.out.1 rfl _ HX.out) hbad
        have HG := Lib.hid hbad
        by_cases h1 : p < -300
        · have h1' : decide (p < -300) = true := decide_eq_true h1
          clear hbad h1
          go_wp2_with fail
          go_ret
          exact ⟨rfl, BW.out.alloc hsz _⟩
        · have h1' : decide (p < -300) = false := decide_eq_false h1
          by_cases h2 : 300 < p
          · have h2' : decide (300 < p) = true := decide_eq_true h2
            clear hbad h1 h2
            go_wp2_with fail
            go_ret
            exact ⟨rfl, BW.out.alloc hsz _⟩
          · have h2' : decide (300 < p) = false := decide_eq_false h2
            by_cases h3 : q < -300
            · have h3' : decide (q < -300) = true := decide_eq_true h3
              clear hbad h1 h2 h3
              go_wp2_with fail
              go_ret
              exact ⟨rfl, BW.out.alloc hsz _⟩
            · have h3' : decide (q < -300) = false := decide_eq_false h3
              have h4' : decide (300 < q) = true := decide_eq_true (by omega)
              clear hbad h1 h2 h3
              go_wp2_with fail
              go_ret
              exact ⟨rfl, BW.out.alloc hsz _⟩
    · have hltz : ¬ (i : Int) < (n : Int) := by omega
      have hbt : b = true := hz.out.2 (by have := HN.out; rwa [List.take_of_length_le (by have := hl.out; omega)] at this)
      go_wp2_with fail
      go_ret
      exact ⟨rfl, BW.out⟩
set_option maxHeartbeats 4000000 in
theorem same_run (A1 A2 : Option Addr) (n1 n2 cap1 cap2 : Nat) (l1 l2 : List (Int × Int)) (b : Bool) (w : World) {B1 B2 : Nat} (hb1 : CellsV pairCells w B1 A1 l1) (hb2 : CellsV pairCells w B2 A2 l2) (hl1 : Hid (l1.length = n1)) (hl2 : Hid (l2.length = n2)) (hz : Hid (b = decide (l1 = l2))) (hn : n1 ≤ 1000000) (hn2 : n2 ≤ 1000000) :
    Calls Try.prog 20 #[.slice A1 n1 cap1, .slice A2 n2 cap2] w fun e w' => e = .returned (.bool b) ∧ ∃ q, w' = w.drewN q := by
  have HB1 := Lib.hid hb1
  have HB2 := Lib.hid hb2
  have hN := neqSpan
  clear hb1 hb2
  by_cases hne : n1 = n2
  · subst hne
    have h0 : ((n1 : Int) != (n1 : Int)) = false := by simp
    go_enter Try.func20, Try.ntmps20
    go_wp2_with fail
    go_loopg [5] (n1 + 1) (fun h s5 wr => ∃ i : Nat, s5 = .int .i64 i ∧ Hid (i ≤ n1 ∧ n1 < i + h) ∧ Hid (l1.take i = l2.take i) ∧ ∃ q, wr = w.drewN q)
    case atStart => exact ⟨0, rfl, by show _ ∧ _; omega, rfl, 0, rfl⟩
    case round =>
      obtain ⟨i, rfl, HI, HN, q, rfl⟩ := hrel
      by_cases hlt : i < n1
      · have hltz : (i : Int) < (n1 : Int) := by omega
        obtain ⟨g1, o1, rfl, hg1, hc1⟩ := spans_get HB1.out (by have := hl1.out; omega)
        obtain ⟨g2, o2, rfl, hg2, hc2⟩ := spans_get HB2.out (by have := hl2.out; omega)
        obtain ⟨x, hx⟩ : ∃ x, l1[i]? = some x := ⟨_, List.getElem?_eq_getElem (by rw [hl1.out]; exact hlt)⟩
        obtain ⟨y, hy⟩ : ∃ y, l2[i]? = some y := ⟨_, List.getElem?_eq_getElem (by rw [hl2.out]; exact hlt)⟩
        have c0 : (w.drewN q).cell? ⟨g1, o1 + i * 2, none⟩ = _ := (hc1 i x hx).1
        have c1 : (w.drewN q).cell? ⟨g1, o1 + i * 2 + 1, none⟩ = _ := (hc1 i x hx).2
        have c2 : (w.drewN q).cell? ⟨g2, o2 + i * 2, none⟩ = _ := (hc2 i y hy).1
        have c3 : (w.drewN q).cell? ⟨g2, o2 + i * 2 + 1, none⟩ = _ := (hc2 i y hy).2
        have HS : Hid (x = y → l1.take (i + 1) = l2.take (i + 1)) := fun h => by rw [List.take_add_one, List.take_add_one, hx, hy, h, HN.out]
        have HD : Hid (x ≠ y → b = false) := fun h => by
          rw [hz.out]
          refine decide_eq_false fun e => h ?_
          rw [e, hy] at hx
          exact (Option.some.inj hx).symm
        obtain ⟨x1, x2⟩ := x
        obtain ⟨y1, y2⟩ := y
        simp only [] at c0 c1 c2 c3
        have HQ : Hid (∀ m, ∃ q', (w.drewN q).drewN m = w.drewN q') := fun m => ⟨q + m, World.drewN_drewN _ _ _⟩
        clear hc1 hc2 hx hy
        generalize w.drewN q = W at *
        by_cases he : x1 = y1 ∧ x2 = y2
        · have hd : (!(x1 == y1 && x2 == y2)) = false := by simp [he.1, he.2]
          have HE : Hid ((x1, x2) = (y1, y2)) := by show _ = _; rw [he.1, he.2]
          clear he
          go_wp2_with fail
          go_quiet (fail)
          go_wp2_with fail
          go_roundg (n1 - i)
          case measure => have := HI.out; omega
          case rel => exact ⟨i + 1, by go_num, by show _ ∧ _; have := HI.out; omega, HS.out HE.out, HQ.out _⟩
        · have hd : (!(x1 == y1 && x2 == y2)) = true := by
            simp only [Bool.not_eq_true', Bool.and_eq_false_iff, beq_eq_false_iff_ne]
            by_cases h : x1 = y1
            · exact .inr fun h2 => he ⟨h, h2⟩
            · exact .inl h
          have hbf : b = false := HD.out fun e => he (by injection e with e1 e2; exact ⟨e1, e2⟩)
          clear he
          go_wp2_with fail
          go_quiet (fail)
          go_wp2_with fail
          go_ret
          exact ⟨by first | rfl | exact ret_bool hbf.symm, HQ.out _⟩
      · have hltz : ¬ (i : Int) < (n1 : Int) := by omega
        have hbt : b = true := by
          rw [hz.out]
          refine decide_eq_true ?_
          have := HN.out
          rwa [List.take_of_length_le (by have := hl1.out; omega), List.take_of_length_le (by have := hl2.out; omega)] at this
        go_wp2_with fail
        go_ret
        exact ⟨rfl, q, rfl⟩
  · have h0 : ((n1 : Int) != (n2 : Int)) = true := by simp; omega
    have hbf : b = false := by
      rw [hz.out]
      exact decide_eq_false fun e => hne (by rw [← hl1.out, ← hl2.out, e])
    clear hne
    go_enter Try.func20, Try.ntmps20
    go_wp2_with fail
    go_ret
    exact ⟨by first | rfl | exact ret_bool hbf.symm, 0, rfl⟩
end Go.Proofs.Ytnbnohphdehfoaa
