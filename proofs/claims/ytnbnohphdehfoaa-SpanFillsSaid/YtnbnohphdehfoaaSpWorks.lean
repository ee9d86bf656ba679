/-
  The contract of the law's works: the chapter's example holds.
-/
import Derived.Test.YtnbnohphdehfoaaSpGaps2
namespace Go.Proofs.Ytnbnohphdehfoaa
open Go.RowKit Go.Sort

def exL : List (Int × Int) := [(3, 5), (1, 3), (7, 7)]
theorem ex_has (x : Int) : Sp.Has exL x ↔ 1 ≤ x ∧ x < 5 := by
  unfold exL
  rw [Sp.has_cons, Sp.has_cons, Sp.has_one]
  simp only []
  omega
theorem ex_merge {M : List (Int × Int)} (hM : Sp.Norm M) (h : ∀ x, Sp.Has M x ↔ Sp.Has exL x) : M = [(1, 5)] := by
  refine Sp.norm_unique hM ⟨by simp, by simp⟩ fun x => ?_
  rw [h, ex_has, Sp.has_one]
theorem ex_err : errOfL 8 exL = 0 := by
  unfold exL
  simp [errOfL, chkOf]
theorem ex_gaps {G : List (Int × Int)} (h : RunsOf (fun x => ¬ Sp.Has exL x) 0 8 G) : G = [(0, 1), (5, 8)] := by
  refine Sp.norm_unique h.1 ⟨by simp, by simp⟩ fun x => ?_
  rw [h.2]
  show 0 ≤ x ∧ x < 8 ∧ ¬ Sp.Has exL x ↔ _
  rw [ex_has, Sp.has_cons, Sp.has_one]
  simp only []
  omega
theorem ex_cells (w : World) (T : TypeId) : CellsV pairCells (w.alloc (.cells #[.int .i64 3, .int .i64 5, .int .i64 1, .int .i64 3, .int .i64 7, .int .i64 7] T)) (w.heap.size + 1) (some ⟨w.heap.size, 0, none⟩) exL := fun _ => by
  refine ⟨_, _, rfl, by omega, fun j z hz => ?_⟩
  match j, hz with
  | 0, hz => cases hz; rw [World.cell?_alloc_at _ _ _ _ rfl]; rfl
  | 1, hz => cases hz; rw [World.cell?_alloc_at _ _ _ _ rfl]; rfl
  | 2, hz => cases hz; rw [World.cell?_alloc_at _ _ _ _ rfl]; rfl
  | 3, hz => cases hz; rw [World.cell?_alloc_at _ _ _ _ rfl]; rfl
  | 4, hz => cases hz; rw [World.cell?_alloc_at _ _ _ _ rfl]; rfl
  | 5, hz => cases hz; rw [World.cell?_alloc_at _ _ _ _ rfl]; rfl
/-- The two elements of a slice literal. -/
theorem two_cells' (w : World) (x y u v : Int) (T : TypeId) : CellsV pairCells (w.alloc (.cells #[.int .i64 x, .int .i64 y, .int .i64 u, .int .i64 v] T)) (w.heap.size + 1) (some ⟨w.heap.size, 0, none⟩) [(x, y), (u, v)] := two_cells w x y u v T
set_option maxHeartbeats 4000000 in
theorem works_run (w : World) : Calls Try.prog 15 #[] w fun e w' => e = .returned (.bool true) ∧ Below w.heap.size w w' := by
  have C0 := Lib.hid (ex_cells w 23)
  have B0 : Hid (Below w.heap.size w (w.alloc (.cells #[.int .i64 3, .int .i64 5, .int .i64 1, .int .i64 3, .int .i64 7, .int .i64 7] 23))) := (Below.refl _ _).alloc (Nat.le_refl _) _
  have hl3 : Hid (exL.length = 3) := rfl
  have HG := Lib.hid (gaps_run (some ⟨w.heap.size, 0, none⟩) 3 3 exL 8 _ (C0.out.more (by simp)) hl3 (by omega))
  go_enter Try.func15, Try.ntmps15
  go_wp2_with fail
  refine HG.out.mono ?_
  rintro e w1 ⟨v, G, rfl, _, hG, _, A9, cap9, rfl, hc9, hm9, hy9, hb9⟩
  obtain rfl := ex_gaps (hG ex_err)
  rw [ex_err, show errOf 0 = .nilIface from rfl]
  have Y9 := Lib.hid hy9
  have B1 : Hid (Below w.heap.size w w1) := B0.out.trans (hb9.mono (by simp))
  have C1 : Hid (CellsV pairCells w1 w1.heap.size (some ⟨w.heap.size, 0, none⟩) exL) := (C0.out.below hb9 (by simp)).more (by have := hb9.size; simpa using this)
  have hs1 := B1.out.size
  clear hy9 hb9 hG C0 B0 HG
  simp only [List.length_cons, List.length_nil]
  go_wp2_with fail
  refine (merge_run (some ⟨w.heap.size, 0, none⟩) 3 3 exL w1 C1.out hl3 (by omega)).mono ?_
  rintro e w2 ⟨v, M, rfl, hM, hMl, _, A8, cap8, rfl, hc8, hm8, hy8, hb8⟩
  obtain rfl := ex_merge hM hMl
  have Y8 := Lib.hid hy8
  have B2 : Hid (Below w.heap.size w w2) := B1.out.trans (hb8.mono hs1)
  have Y9' : Hid (CellsV pairCells w2 w2.heap.size A9 [(0, 1), (5, 8)]) := Y9.out.on (Nat.le_refl _) hb8
  have hs2 := B2.out.size
  clear hy8 hb8 hM hMl C1 B1 Y9
  simp only [List.length_cons, List.length_nil]
  have S1 : Hid (CellsV pairCells (w2.alloc (.cells #[.int .i64 1, .int .i64 5] 23)) (w2.heap.size + 1) (some ⟨w2.heap.size, 0, none⟩) [(1, 5)]) := one_cells w2 1 5 _
  have BX : Hid (Below w2.heap.size w2 (w2.alloc (.cells #[.int .i64 1, .int .i64 5] 23))) := (Below.refl _ _).alloc (Nat.le_refl _) _
  have Y8' := Lib.hid (Y8.out.below BX.out (Nat.le_refl _))
  go_wp2_with fail
  refine (same_run A8 (some ⟨w2.heap.size, 0, none⟩) 1 1 cap8 1 [(1, 5)] [(1, 5)] true _ Y8'.out S1.out rfl rfl (by show _ = _; simp) (by omega) (by omega)).mono ?_
  rintro e w3 ⟨rfl, q, rfl⟩
  have B3 : Hid (Below w2.heap.size w2 ((w2.alloc (.cells #[.int .i64 1, .int .i64 5] 23)).drewN q)) := below_drewN BX.out q
  clear BX Y8 Y8' S1
  have hs3 : w2.heap.size + 1 ≤ ((w2.alloc (.cells #[.int .i64 1, .int .i64 5] 23)).drewN q).heap.size := by show _ ≤ (w2.alloc _).heap.size; simp
  generalize (w2.alloc (.cells #[.int .i64 1, .int .i64 5] 23)).drewN q = w4 at *
  have Y9'' : Hid (CellsV pairCells w4 w4.heap.size A9 [(0, 1), (5, 8)]) := Y9'.out.on (Nat.le_refl _) B3.out
  have B4 : Hid (Below w.heap.size w w4) := B2.out.trans (B3.out.mono hs2)
  have hs4 := B4.out.size
  clear Y9' B2 B3 hs3
  have S2 : Hid (CellsV pairCells (w4.alloc (.cells #[.int .i64 0, .int .i64 1, .int .i64 5, .int .i64 8] 23)) (w4.heap.size + 1) (some ⟨w4.heap.size, 0, none⟩) [(0, 1), (5, 8)]) := two_cells' w4 0 1 5 8 _
  have BX : Hid (Below w4.heap.size w4 (w4.alloc (.cells #[.int .i64 0, .int .i64 1, .int .i64 5, .int .i64 8] 23))) := (Below.refl _ _).alloc (Nat.le_refl _) _
  have Y9''' := Lib.hid (Y9''.out.below BX.out (Nat.le_refl _))
  go_wp2_with fail
  refine (same_run A9 (some ⟨w4.heap.size, 0, none⟩) 2 2 cap9 2 [(0, 1), (5, 8)] [(0, 1), (5, 8)] true _ Y9'''.out S2.out rfl rfl (by show _ = _; simp) (by omega) (by omega)).mono ?_
  rintro e w5 ⟨rfl, q2, rfl⟩
  go_wp2_with fail
  go_ret
  exact ⟨rfl, below_drewN (B4.out.trans (BX.out.mono hs4)) q2⟩
end Go.Proofs.Ytnbnohphdehfoaa
