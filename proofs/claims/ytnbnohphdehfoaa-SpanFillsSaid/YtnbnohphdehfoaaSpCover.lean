/-
  The contracts of span.Cover and of the reference's Cover.
-/
import Derived.Test.YtnbnohphdehfoaaSpB
namespace Go.Proofs.Ytnbnohphdehfoaa
open Go.RowKit Go.Sort

/-- A box of two int's. -/
structure Box2 (w : World) (b : Nat) (x y : Int) : Prop where
  c0 : w.cell? ⟨b, 0, none⟩ = some (.int .i64 x)
  c1 : w.cell? ⟨b, 1, none⟩ = some (.int .i64 y)
  f0 : w.frozen? ⟨b, 0, none⟩ = false
  f1 : w.frozen? ⟨b, 1, none⟩ = false
theorem Box2.keep {w w' : World} {b B : Nat} {x y : Int} (h : Box2 w b x y) (hb : Below B w w') (hB : b < B) : Box2 w' b x y :=
  ⟨(hb.cell (p := ⟨b, 0, none⟩) hB).trans h.c0, (hb.cell (p := ⟨b, 1, none⟩) hB).trans h.c1, (hb.frozen (p := ⟨b, 0, none⟩) hB).trans h.f0, (hb.frozen (p := ⟨b, 1, none⟩) hB).trans h.f1⟩
theorem Box2.new (w : World) (x y : Int) (T : TypeId) : Box2 (w.alloc (.cells #[.int .i64 x, .int .i64 y] T)) w.heap.size x y :=
  ⟨World.cell?_alloc_at _ _ _ _ rfl, World.cell?_alloc_at _ _ _ _ rfl, World.frozen?_alloc_at _ _ _ _ rfl, World.frozen?_alloc_at _ _ _ _ rfl⟩
theorem Box2.set0 {w : World} {b : Nat} {x y : Int} (h : Box2 w b x y) (u : Int) : Box2 (w.setCell ⟨b, 0, none⟩ (.int .i64 u)) b u y := by
  obtain ⟨c0, c1, f0, f1⟩ := h
  constructor <;> go_simp
theorem Box2.set1 {w : World} {b : Nat} {x y : Int} (h : Box2 w b x y) (u : Int) : Box2 (w.setCell ⟨b, 1, none⟩ (.int .i64 u)) b x u := by
  obtain ⟨c0, c1, f0, f1⟩ := h
  constructor <;> go_simp
theorem Box2.set {w : World} {b : Nat} {x y : Int} (h : Box2 w b x y) (u v : Int) : Box2 ((w.setCell ⟨b, 0, none⟩ (.int .i64 u)).setCell ⟨b, 1, none⟩ (.int .i64 v)) b u v := (h.set0 u).set1 v
theorem Box2.other {w : World} {b c o : Nat} {x y : Int} (h : Box2 w b x y) (hc : c ≠ b) (v : Value) : Box2 (w.setCell ⟨c, o, none⟩ v) b x y := by
  obtain ⟨c0, c1, f0, f1⟩ := h
  have hc' : ¬ b = c := fun e => hc e.symm
  constructor <;> go_simp
def cvStep (a s : Int × Int) : Int × Int := if s.2 ≤ s.1 then a else if a.2 ≤ a.1 then s else (min a.1 s.1, max a.2 s.2)
def cover (l : List (Int × Int)) : Int × Int := l.foldl cvStep (0, 0)
theorem cover_take {l : List (Int × Int)} {i : Nat} {s : Int × Int} (h : l[i]? = some s) : cover (l.take (i + 1)) = cvStep (cover (l.take i)) s := by
  unfold cover
  rw [List.take_add_one, h, Option.toList_some, List.foldl_append]
  rfl
set_option maxHeartbeats 8000000 in
theorem cover_run (A : Option Addr) (n cap : Nat) (l : List (Int × Int)) (w : World) {m M : Int} (hm : Hid (cover l = (m, M))) (hb : CellsV pairCells w w.heap.size A l) (hl : Hid (l.length = n)) (hn : n ≤ 1000000) :
    Calls Try.prog 23 #[.slice A n cap] w fun e w' => e = .returned (.agg #[.int .i64 m, .int .i64 M]) ∧ Below w.heap.size w w' := by
  have HB := Lib.hid hb
  have HE : Hid (∀ x y b, Hid (decide (y ≤ x) = b) → ∀ W, Calls Try.prog 26 #[.agg #[.int .i64 x, .int .i64 y]] W fun e w' => e = .returned (.bool b) ∧ Below W.heap.size W w') :=
    fun x y b hb W => (empty_run x y b hb W).mono fun _ _ ⟨he, os, hw⟩ => ⟨he, hw ▸ below_grow (Below.refl _ _) (Nat.le_refl _) os⟩
  obtain ⟨H, hH⟩ : ∃ H, H = w.heap.size := ⟨_, rfl⟩
  have X0 : Hid (Box2 ((w.alloc (.cells #[.int .i64 0, .int .i64 0] 23)).alloc (.cells #[.int .i64 0, .int .i64 0] 23)) (H + 1) 0 0) := by
    have := Box2.new (w.alloc (.cells #[.int .i64 0, .int .i64 0] 23)) 0 0 23
    show Box2 _ _ _ _
    rw [hH]
    simpa using this
  have Y0 : Hid (Box2 ((w.alloc (.cells #[.int .i64 0, .int .i64 0] 23)).alloc (.cells #[.int .i64 0, .int .i64 0] 23)) H 0 0) := by
    have := (Box2.new w 0 0 23).keep ((Below.refl _ _).alloc (Nat.le_refl (w.alloc (.cells #[.int .i64 0, .int .i64 0] 23)).heap.size) (.cells #[.int .i64 0, .int .i64 0] 23)) (by simp)
    show Box2 _ _ _ _
    rw [hH]
    exact this
  have B0 : Hid (Below H w ((w.alloc (.cells #[.int .i64 0, .int .i64 0] 23)).alloc (.cells #[.int .i64 0, .int .i64 0] 23))) := by
    show Below _ _ _
    rw [hH]
    exact ((Below.refl _ _).alloc (Nat.le_refl _) _).alloc (by simp) _
  rw [← hH] at HB ⊢
  have HH := Lib.hid hH
  have hH' : w.heap.size = H := hH.symm
  clear hb hH
  go_enter Try.func23, Try.ntmps23
  go_wp2_with fail
  go_loopg [8] (n + 1) (fun h s8 wr => ∃ (i : Nat) (x y : Int), s8 = .int .i64 i ∧ Hid (i ≤ n ∧ n < i + h ∧ H + 2 ≤ wr.heap.size) ∧ Hid (cover (l.take i) = (x, y)) ∧ Hid (Box2 wr (H + 1) x y) ∧ Hid (Box2 wr H 0 0) ∧ Hid (Below H w wr))
  case atStart => exact ⟨0, 0, 0, rfl, by show _ ∧ _ ∧ _; simp; omega, by show _ = _; rw [List.take_zero]; rfl, X0, Y0, B0⟩
  case round =>
    clear X0 Y0 B0
    obtain ⟨i, x, y, rfl, HI, HC, X, Y, BW⟩ := hrel
    have hsz : H + 2 ≤ wr.heap.size := HI.out.2.2
    by_cases hlt : i < n
    · have hltz : (i : Int) < (n : Int) := by omega
      obtain ⟨g, o, rfl, hg, hc⟩ := spans_get HB.out (by have := hl.out; omega)
      obtain ⟨s, hx⟩ : ∃ x, l[i]? = some x := ⟨_, List.getElem?_eq_getElem (by rw [hl.out]; exact hlt)⟩
      have c0 := (BW.out.cell (p := ⟨g, o + i * 2, none⟩) hg).trans (hc i s hx).1
      have c1 := (BW.out.cell (p := ⟨g, o + i * 2 + 1, none⟩) hg).trans (hc i s hx).2
      have HS := Lib.hid (cover_take hx)
      rw [HC.out] at HS
      obtain ⟨p, q⟩ := s
      simp only [] at c0 c1
      have S1 : Hid (Box2 (wr.alloc (.cells #[.int .i64 p, .int .i64 q] 23)) wr.heap.size p q) := Box2.new _ _ _ _
      have X1 : Hid (Box2 (wr.alloc (.cells #[.int .i64 p, .int .i64 q] 23)) (H + 1) x y) := X.out.keep ((Below.refl wr.heap.size wr).alloc (Nat.le_refl _) _) (by omega)
      have Y1 : Hid (Box2 (wr.alloc (.cells #[.int .i64 p, .int .i64 q] 23)) H 0 0) := Y.out.keep ((Below.refl wr.heap.size wr).alloc (Nat.le_refl _) _) (by omega)
      have B1 : Hid (Below H w (wr.alloc (.cells #[.int .i64 p, .int .i64 q] 23))) := BW.out.alloc (by omega) _
      clear hc hx X Y BW HC hg
      obtain ⟨e1, he1⟩ : ∃ e1, decide (q ≤ p) = e1 := ⟨_, rfl⟩
      have HE1 := Lib.hid he1
      clear he1
      go_wp2_with fail
      refine (HE.out p q e1 HE1 _).mono ?_
      rintro e w1 ⟨rfl, hw1⟩
      have S2 : Hid (Box2 w1 wr.heap.size p q) := S1.out.keep hw1 (by simp)
      have X2 : Hid (Box2 w1 (H + 1) x y) := X1.out.keep hw1 (by simp; omega)
      have Y2 : Hid (Box2 w1 H 0 0) := Y1.out.keep hw1 (by simp; omega)
      have B2 : Hid (Below H w w1) := B1.out.trans (hw1.mono (by simp; omega))
      have hs1 : wr.heap.size + 1 ≤ w1.heap.size := by have := hw1.size; simpa using this
      clear S1 X1 Y1 B1 hw1 c0 c1
      cases e1 with
      | true =>
        have HV : Hid (cvStep (x, y) (p, q) = (x, y)) := by unfold cvStep; show _ = _; rw [if_pos (by have := HE1.out; simpa using this)]
        go_wp2_with fail
        go_roundg (n - i)
        case measure => have := HI.out; omega
        case rel => exact ⟨i + 1, x, y, by go_num, by show _ ∧ _ ∧ _; have := HI.out; omega, by show _ = _; rw [HS.out, HV.out], X2, Y2, B2⟩
      | false =>
        have HNE : Hid (¬ q ≤ p) := by have := HE1.out; show ¬ _; simpa using this
        obtain ⟨e2, he2⟩ : ∃ e2, decide (y ≤ x) = e2 := ⟨_, rfl⟩
        have HE2 := Lib.hid he2
        clear he2
        obtain ⟨k0, k1, k2, k3⟩ := X2.out
        go_wp2_with fail
        refine (HE.out x y e2 HE2 _).mono ?_
        rintro e w2 ⟨rfl, hw2⟩
        obtain ⟨m0, m1, m2, m3⟩ := S2.out.keep hw2 (by omega)
        have X3 := Lib.hid (X2.out.keep hw2 (by omega))
        obtain ⟨j0, j1, j2, j3⟩ := X3.out
        have Y3 : Hid (Box2 w2 H 0 0) := Y2.out.keep hw2 (by omega)
        have B3 : Hid (Below H w w2) := B2.out.trans (hw2.mono (by omega))
        have hs2 : wr.heap.size + 1 ≤ w2.heap.size := by have := hw2.size; omega
        have hwn : ¬ wr.heap.size = H + 1 := by omega
        have hwn' : ¬ H + 1 = wr.heap.size := by omega
        clear S2 X2 Y2 B2 hw2 k0 k1 k2 k3
        cases e2 with
        | true =>
          have HV : Hid (cvStep (x, y) (p, q) = (p, q)) := by unfold cvStep; show _ = _; rw [if_neg (show ¬ q ≤ p by have := HNE.out; omega), if_pos (by have := HE2.out; simpa using this)]
          have t1 : ¬ p < p := by omega
          have t2 : ¬ q < q := by omega
          go_wp2_with fail
          go_roundg (n - i)
          case measure => have := HI.out; omega
          case rel =>
            refine ⟨i + 1, p, q, by go_num, by show _ ∧ _ ∧ _; have := HI.out; simp [World.setCell]; omega, by show _ = _; rw [HS.out, HV.out], (X3.out.set p q).set p q, ?_, ?_⟩
            · exact (((Y3.out.other (by omega) _).other (by omega) _).other (by omega) _).other (by omega) _
            · exact (((B3.out.setCell (by simp) _).setCell (by simp) _).setCell (by simp) _).setCell (by simp) _
        | false =>
          have HNX : Hid (¬ y ≤ x) := by have := HE2.out; show ¬ _; simpa using this
          obtain ⟨u, hu⟩ : ∃ u, (p < x ∧ u = p) ∨ (¬ p < x ∧ u = x) := by
            by_cases h : p < x
            · exact ⟨p, .inl ⟨h, rfl⟩⟩
            · exact ⟨x, .inr ⟨h, rfl⟩⟩
          obtain ⟨v, hv⟩ : ∃ v, (y < q ∧ v = q) ∨ (¬ y < q ∧ v = y) := by
            by_cases h : y < q
            · exact ⟨q, .inl ⟨h, rfl⟩⟩
            · exact ⟨y, .inr ⟨h, rfl⟩⟩
          have HV : Hid (cvStep (x, y) (p, q) = (u, v)) := by
            unfold cvStep
            show _ = _
            rw [if_neg (show ¬ q ≤ p by have := HNE.out; omega), if_neg (show ¬ y ≤ x by have := HNX.out; omega)]
            refine Prod.ext ?_ ?_ <;> simp only [] <;> omega
          have fin : Hid (∃ (a : Nat) (x y : Int), Value.int .i64 ((i : Int) + 1) = .int .i64 a ∧ Hid (a ≤ n ∧ n < a + (n - i) ∧ H + 2 ≤ ((w2.setCell ⟨H + 1, 0, none⟩ (.int .i64 u)).setCell ⟨H + 1, 1, none⟩ (.int .i64 v)).heap.size) ∧ Hid (cover (l.take a) = (x, y)) ∧ Hid (Box2 ((w2.setCell ⟨H + 1, 0, none⟩ (.int .i64 u)).setCell ⟨H + 1, 1, none⟩ (.int .i64 v)) (H + 1) x y) ∧ Hid (Box2 ((w2.setCell ⟨H + 1, 0, none⟩ (.int .i64 u)).setCell ⟨H + 1, 1, none⟩ (.int .i64 v)) H 0 0) ∧ Hid (Below H w ((w2.setCell ⟨H + 1, 0, none⟩ (.int .i64 u)).setCell ⟨H + 1, 1, none⟩ (.int .i64 v)))) :=
            ⟨i + 1, u, v, by go_num, by show _ ∧ _ ∧ _; have := HI.out; simp [World.setCell]; omega, by show _ = _; rw [HS.out, HV.out], X3.out.set u v, (Y3.out.other (by omega) _).other (by omega) _, (B3.out.setCell (by simp) _).setCell (by simp) _⟩
          rcases hu with ⟨t1, rfl⟩ | ⟨t1, rfl⟩ <;> rcases hv with ⟨t2, rfl⟩ | ⟨t2, rfl⟩
          all_goals go_wp2_with fail
          all_goals go_roundg (n - i)
          any_goals exact fin.out
          all_goals (have := HI.out; omega)
    · have hltz : ¬ (i : Int) < (n : Int) := by omega
      have hmM : Hid ((x, y) = (m, M)) := by
        show _ = _
        rw [← HC.out, ← hm.out, List.take_of_length_le (by have := hl.out; omega)]
      obtain ⟨j0, j1, j2, j3⟩ := X.out
      obtain ⟨k0, k1, k2, k3⟩ := Y.out
      have hHn : ¬ H = H + 1 := by omega
      go_wp2_with fail
      (try simp only [Exit.inBlock, Exit.then])
      refine bodyPost_ret (v := .agg #[.int .i64 x, .int .i64 y]) (by rw [results_cell1 rfl]; go_simp; try rfl) rfl ⟨?_, ?_⟩
      · have := hmM.out
        injection this with e1 e2
        rw [e1, e2]
      · exact (BW.out.setCell (by simp) _).setCell (by simp) _
set_option maxHeartbeats 8000000 in
theorem refCover_run (A : Option Addr) (n cap : Nat) (l : List (Int × Int)) (w : World) {m M : Int} (hm : Hid (cover l = (m, M))) (hb : CellsV pairCells w w.heap.size A l) (hl : Hid (l.length = n)) (hn : n ≤ 1000000) :
    Calls Try.prog 24 #[.slice A n cap] w fun e w' => e = .returned (.agg #[.int .i64 m, .int .i64 M]) ∧ Below w.heap.size w w' := by
  have HB := Lib.hid hb
  obtain ⟨H, hH⟩ : ∃ H, H = w.heap.size := ⟨_, rfl⟩
  have X0 : Hid (Box2 ((w.alloc (.cells #[.int .i64 0, .int .i64 0] 23)).alloc (.cells #[.int .i64 0, .int .i64 0] 23)) (H + 1) 0 0) := by
    have := Box2.new (w.alloc (.cells #[.int .i64 0, .int .i64 0] 23)) 0 0 23
    show Box2 _ _ _ _
    rw [hH]
    simpa using this
  have Y0 : Hid (Box2 ((w.alloc (.cells #[.int .i64 0, .int .i64 0] 23)).alloc (.cells #[.int .i64 0, .int .i64 0] 23)) H 0 0) := by
    have := (Box2.new w 0 0 23).keep ((Below.refl _ _).alloc (Nat.le_refl (w.alloc (.cells #[.int .i64 0, .int .i64 0] 23)).heap.size) (.cells #[.int .i64 0, .int .i64 0] 23)) (by simp)
    show Box2 _ _ _ _
    rw [hH]
    exact this
  have B0 : Hid (Below H w ((w.alloc (.cells #[.int .i64 0, .int .i64 0] 23)).alloc (.cells #[.int .i64 0, .int .i64 0] 23))) := by
    show Below _ _ _
    rw [hH]
    exact ((Below.refl _ _).alloc (Nat.le_refl _) _).alloc (by simp) _
  rw [← hH] at HB ⊢
  have HH := Lib.hid hH
  have hH' : w.heap.size = H := hH.symm
  clear hb hH
  go_enter Try.func24, Try.ntmps24
  go_wp2_with fail
  go_loopg [4, 5] (n + 1) (fun h s4 s5 wr => ∃ (i : Nat) (x y : Int) (f : Bool), s4 = .bool f ∧ s5 = .int .i64 i ∧ Hid (f = decide (x < y)) ∧ Hid (i ≤ n ∧ n < i + h ∧ H + 2 ≤ wr.heap.size) ∧ Hid (cover (l.take i) = (x, y)) ∧ Hid (Box2 wr (H + 1) x y) ∧ Hid (Box2 wr H 0 0) ∧ Hid (Below H w wr))
  case atStart => exact ⟨0, 0, 0, false, rfl, rfl, rfl, by show _ ∧ _ ∧ _; simp; omega, by show _ = _; rw [List.take_zero]; rfl, X0, Y0, B0⟩
  case round =>
    clear X0 Y0 B0
    obtain ⟨i, x, y, f, rfl, rfl, HF, HI, HC, X, Y, BW⟩ := hrel
    have hsz : H + 2 ≤ wr.heap.size := HI.out.2.2
    by_cases hlt : i < n
    · have hltz : (i : Int) < (n : Int) := by omega
      obtain ⟨g, o, rfl, hg, hc⟩ := spans_get HB.out (by have := hl.out; omega)
      obtain ⟨s, hx⟩ : ∃ x, l[i]? = some x := ⟨_, List.getElem?_eq_getElem (by rw [hl.out]; exact hlt)⟩
      have c0 := (BW.out.cell (p := ⟨g, o + i * 2, none⟩) hg).trans (hc i s hx).1
      have c1 := (BW.out.cell (p := ⟨g, o + i * 2 + 1, none⟩) hg).trans (hc i s hx).2
      have HS := Lib.hid (cover_take hx)
      rw [HC.out] at HS
      obtain ⟨p, q⟩ := s
      simp only [] at c0 c1
      have hgn : ¬ g = H + 1 := by omega
      clear hc hx HC hg
      obtain ⟨j0, j1, j2, j3⟩ := X.out
      by_cases h1 : q ≤ p
      · have HV : Hid (cvStep (x, y) (p, q) = (x, y)) := by unfold cvStep; show _ = _; rw [if_pos h1]
        have h1' : decide (q ≤ p) = true := decide_eq_true h1
        clear h1 j0 j1 j2 j3
        go_wp2_with fail
        go_quiet (fail)
        go_wp2_with fail
        go_roundg (n - i)
        case measure => have := HI.out; omega
        case rel => exact ⟨i + 1, x, y, f, rfl, by go_num, HF, ⟨by have := HI.out; omega, by have := HI.out; omega, HI.out.2.2⟩, by show _ = _; rw [HS.out, HV.out], ⟨X.out.c0, X.out.c1, X.out.f0, X.out.f1⟩, ⟨Y.out.c0, Y.out.c1, Y.out.f0, Y.out.f1⟩, below_drewN BW.out _⟩
      · have h1' : decide (q ≤ p) = false := decide_eq_false h1
        have HNE := Lib.hid h1
        clear h1
        cases f with
        | false =>
          have HV : Hid (cvStep (x, y) (p, q) = (p, q)) := by
            have := HF.out
            unfold cvStep; show _ = _; rw [if_neg HNE.out, if_pos (by have := of_decide_eq_false this.symm; simp only []; omega)]
          have t1 : decide (p < p) = false := by simp
          have t2 : decide (q < q) = false := by simp
          obtain ⟨k0, k1, k2, k3⟩ := Y.out
          have hHn : ¬ H = H + 1 := by omega
          go_wp2_with fail
          go_quiet (fail)
          go_wp2_with fail
          go_quiet (fail)
          go_wp2_with fail
          go_quiet (fail)
          go_wp2_with fail
          go_roundg (n - i)
          case measure => have := HI.out; omega
          case rel =>
            refine ⟨i + 1, p, q, true, rfl, by go_num, (decide_eq_true (by have := HNE.out; omega)).symm, by show _ ∧ _ ∧ _; have := HI.out; simp [World.setCell]; omega, by show _ = _; rw [HS.out, HV.out], ?_, ?_, ?_⟩
            · constructor <;> go_simp
            · constructor <;> go_simp
            · show Below _ _ _
              repeat (first | exact BW.out | refine below_drewN ?_ _ | refine RowKit.Below.setCell ?_ (by simp) _)
        | true =>
          have HXY : Hid (x < y) := show x < y from of_decide_eq_true HF.out.symm
          obtain ⟨k0, k1, k2, k3⟩ := Y.out
          have hHn : ¬ H = H + 1 := by omega
          obtain ⟨u, hu⟩ : ∃ u, (decide (p < x) = true ∧ u = p) ∨ (decide (p < x) = false ∧ u = x) := by
            by_cases h : p < x
            · exact ⟨p, .inl ⟨decide_eq_true h, rfl⟩⟩
            · exact ⟨x, .inr ⟨decide_eq_false h, rfl⟩⟩
          obtain ⟨v, hv⟩ : ∃ v, (decide (y < q) = true ∧ v = q) ∨ (decide (y < q) = false ∧ v = y) := by
            by_cases h : y < q
            · exact ⟨q, .inl ⟨decide_eq_true h, rfl⟩⟩
            · exact ⟨y, .inr ⟨decide_eq_false h, rfl⟩⟩
          have HV : Hid (cvStep (x, y) (p, q) = (u, v) ∧ u < v) := by
            have h1 := HXY.out
            have h2 := HNE.out
            simp only [decide_eq_true_eq, decide_eq_false_iff_not] at hu hv
            unfold cvStep
            show _ = _ ∧ _
            refine ⟨?_, by omega⟩
            rw [if_neg (show ¬ q ≤ p by omega), if_neg (show ¬ y ≤ x by omega)]
            refine Prod.ext ?_ ?_ <;> simp only [] <;> omega
          rcases hu with ⟨t1, rfl⟩ | ⟨t1, rfl⟩ <;> rcases hv with ⟨t2, rfl⟩ | ⟨t2, rfl⟩
          all_goals go_wp2_with fail
          all_goals go_quiet (fail)
          all_goals go_wp2_with fail
          all_goals go_quiet (fail)
          all_goals go_wp2_with fail
          all_goals go_quiet (fail)
          all_goals go_wp2_with fail
          all_goals go_roundg (n - i)
          any_goals
            refine ⟨i + 1, _, _, true, rfl, by go_num, (decide_eq_true HV.out.2).symm, by show _ ∧ _ ∧ _; have := HI.out; simp [World.setCell] <;> omega, by show _ = _; rw [HS.out, HV.out.1], ?_, ?_, ?_⟩
            · constructor <;> go_simp
            · constructor <;> go_simp
            · show Below _ _ _
              repeat (first | exact BW.out | refine below_drewN ?_ _ | refine RowKit.Below.setCell ?_ (by simp) _)
          all_goals (have := HI.out; omega)
    · have hltz : ¬ (i : Int) < (n : Int) := by omega
      have hmM : Hid ((x, y) = (m, M)) := by
        show _ = _
        rw [← HC.out, ← hm.out, List.take_of_length_le (by have := hl.out; omega)]
      obtain ⟨j0, j1, j2, j3⟩ := X.out
      obtain ⟨k0, k1, k2, k3⟩ := Y.out
      have hHn : ¬ H = H + 1 := by omega
      go_wp2_with fail
      (try simp only [Exit.inBlock, Exit.then])
      refine bodyPost_ret (v := .agg #[.int .i64 x, .int .i64 y]) (by rw [results_cell1 rfl]; go_simp; try rfl) rfl ⟨?_, ?_⟩
      · have := hmM.out
        injection this with e1 e2
        rw [e1, e2]
      · exact (BW.out.setCell (by simp) _).setCell (by simp) _
end Go.Proofs.Ytnbnohphdehfoaa
