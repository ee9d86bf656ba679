/-
  The walk of the law SpanTells: it answers true, and leaves what was there as it was.
-/
import Derived.Test.YtnbnohphdehfoaaSpWorks
import Derived.Deep.RegionHeld
namespace Go.Proofs.Ytnbnohphdehfoaa
open Go.RowKit Go.Sort

/-- What the law's last statement knows of each world that it comes through. -/
def TellsAt (w : World) (a1 a2 b1 b2 n0 n1 : Int) (W : World) : Prop :=
  W.cell? ⟨w.heap.size, 0, none⟩ = some (.int .i64 a1) ∧ W.cell? ⟨w.heap.size, 1, none⟩ = some (.int .i64 a2) ∧ W.cell? ⟨w.heap.size + 1, 0, none⟩ = some (.int .i64 b1) ∧ W.cell? ⟨w.heap.size + 1, 1, none⟩ = some (.int .i64 b2) ∧
  W.cell? ⟨w.heap.size + 1 + 1, 0, none⟩ = some (.int .i64 n0) ∧ W.cell? ⟨w.heap.size + 1 + 1, 1, none⟩ = some (.int .i64 n1) ∧ Hid (Below w.heap.size w W ∧ w.heap.size + 3 ≤ W.heap.size)
theorem TellsAt.on {w W W' : World} {a1 a2 b1 b2 n0 n1 : Int} (h : TellsAt w a1 a2 b1 b2 n0 n1 W) (hb : Below W.heap.size W W') : TellsAt w a1 a2 b1 b2 n0 n1 W' := by
  obtain ⟨h0, h1, h2, h3, h4, h5, h6, h7⟩ := h
  have hs := hb.size
  have k0 : w.heap.size < W.heap.size := by omega
  have k1 : w.heap.size + 1 < W.heap.size := by omega
  have k2 : w.heap.size + 1 + 1 < W.heap.size := by omega
  exact ⟨(hb.cell (p := ⟨w.heap.size, 0, none⟩) k0).trans h0, (hb.cell (p := ⟨w.heap.size, 1, none⟩) k0).trans h1, (hb.cell (p := ⟨w.heap.size + 1, 0, none⟩) k1).trans h2, (hb.cell (p := ⟨w.heap.size + 1, 1, none⟩) k1).trans h3,
    (hb.cell (p := ⟨w.heap.size + 1 + 1, 0, none⟩) k2).trans h4, (hb.cell (p := ⟨w.heap.size + 1 + 1, 1, none⟩) k2).trans h5, h6.trans (hb.mono (by omega)), by omega⟩
set_option maxRecDepth 100000 in
set_option maxHeartbeats 8000000 in
theorem spanTells_any (a1 a2 b1 b2 n0 n1 : Int) (w : World) :
    Calls Try.prog 3 #[.agg #[.int .i64 a1, .int .i64 a2], .agg #[.int .i64 b1, .int .i64 b2], .agg #[.int .i64 n0, .int .i64 n1]] w fun e w' => e = .returned (.bool true) ∧ Below w.heap.size w w' := by
  obtain ⟨z, hz⟩ : ∃ z, decide (max a1 b1 < min a2 b2) = z := ⟨_, rfl⟩
  obtain ⟨m, hm⟩ : ∃ m, m = if z then max a1 b1 else 0 := ⟨_, rfl⟩
  obtain ⟨n, hn⟩ : ∃ n, n = if z then min a2 b2 else 0 := ⟨_, rfl⟩
  have HMeet := fun W => meet_run a1 a2 b1 b2 m n z W hm hn hz
  have HM : Hid (∀ W, _) := HMeet
  obtain ⟨lo, hlo⟩ : ∃ lo, lo = max a1 b1 := ⟨_, rfl⟩
  obtain ⟨hi, hhi⟩ : ∃ hi, hi = min a2 b2 := ⟨_, rfl⟩
  rw [← hlo] at hm hz
  rw [← hhi] at hn hz
  have d1 : (a1 < b1 ∧ lo = b1) ∨ (¬ a1 < b1 ∧ lo = a1) := by omega
  have d2 : (b2 < a2 ∧ hi = b2) ∨ (¬ b2 < a2 ∧ hi = a2) := by omega
  have D1 := Lib.hid d1
  have D2 := Lib.hid d2
  have HZ := Lib.hid hz
  have Hm := Lib.hid hm
  have Hn := Lib.hid hn
  have hW0 : TellsAt w a1 a2 b1 b2 n0 n1 (((w.alloc (.cells #[.int .i64 a1, .int .i64 a2] 23)).alloc (.cells #[.int .i64 b1, .int .i64 b2] 23)).alloc (.cells #[.int .i64 n0, .int .i64 n1] 24)) := by
    refine ⟨by go_simp, by go_simp, by go_simp, by go_simp, by go_simp, by go_simp, ?_, by simp⟩
    exact (((Below.refl _ _).alloc (Nat.le_refl _) _).alloc (by simp) _).alloc (by simp; omega) _
  have H0 : Hid (TellsAt w a1 a2 b1 b2 n0 n1 _) := hW0
  have hN := neqSpan
  clear hm hn hz hlo hhi d1 d2 HMeet hW0
  go_enter Try.func3, Try.ntmps3
  go_wp2_with fail
  refine (HM.out _).mono ?_
  rintro e w1 ⟨rfl, hw1⟩
  have H1 : Hid (TellsAt w a1 a2 b1 b2 n0 n1 w1) := H0.out.on hw1
  have H2 : Hid (TellsAt w a1 a2 b1 b2 n0 n1 (w1.alloc (.cells #[.int .i64 m, .int .i64 n] 23))) := H1.out.on ((Below.refl _ _).alloc (Nat.le_refl _) _)
  have X : Hid (Box2 (w1.alloc (.cells #[.int .i64 m, .int .i64 n] 23)) w1.heap.size m n) := Box2.new _ _ _ _
  clear H0 H1 hw1 HM
  go_upto_region 2 with fail
  generalize hHb : w1.heap.size = Hb at *
  generalize hwq : w1.alloc (.cells #[.int .i64 m, .int .i64 n] 23) = wq at *
  go_cut [59] (fun s59 wx => s59 = .bool false ∧ wq = wx)
  case first =>
    obtain ⟨c0, c1, c2, c3, _, _, _⟩ := H2.out
    obtain ⟨x0, x1, _, _⟩ := X.out
    clear hwq hHb
    cases z
    all_goals go_wp2_with fail
    all_goals go_meet
    all_goals
      have hd1 := D1.out
      have hd2 := D2.out
      have hhz := HZ.out
      have hhm := Hm.out
      have hhn := Hn.out
      simp only [decide_eq_true_eq, decide_eq_false_iff_not, if_true, if_false, Bool.false_eq_true] at hhz hhm hhn
    all_goals first
      | exact ⟨rfl, rfl⟩
      | (exfalso; omega)
      | (refine ⟨congrArg Value.bool ?_, rfl⟩
         rw [decide_eq_false (by omega), hhm, hhn]
         rfl)
  case rest =>
    obtain ⟨rfl, rfl⟩ := hcut
    have HW : Hid (TellsAt w a1 a2 b1 b2 n0 n1 wq) := H2
    clear D1 D2 HZ Hm Hn X hwq hHb H2 hN
    obtain ⟨k, hk⟩ : ∃ k, chkOf a1 a2 n0 = k := ⟨_, rfl⟩
    obtain ⟨t, ht⟩ : ∃ t, decide (a1 ≤ n1 ∧ n1 < a2) = t := ⟨_, rfl⟩
    obtain ⟨r, hr⟩ : ∃ r, ordI (a1, a2) (b1, b2) = r := ⟨_, rfl⟩
    have bg : ∀ {W W' : World} {os : Array Obj}, W' = grow W os → Below W.heap.size W W' := fun h => h ▸ below_grow (Below.refl _ _) (Nat.le_refl _) _
    have HC1 : Hid (∀ W, Calls Try.prog 9 #[.agg #[.int .i64 a1, .int .i64 a2], .int .i64 n0] W fun e w' => e = .returned (errOf k) ∧ Below W.heap.size W w') := fun W => (check_run a1 a2 n0 W).mono fun _ _ ⟨he, os, hw⟩ => ⟨by rw [he, hk], bg hw⟩
    have HC2 : Hid (∀ W, Calls Try.prog 8 #[errOf k] W fun e w' => e = .returned (.int .i64 k) ∧ Below W.heap.size W w') := fun W => code_errOf k (by rw [← hk]; exact chkOf_le _ _ _) W
    have HC3 : Hid (∀ W, Calls Try.prog 10 #[.agg #[.int .i64 a1, .int .i64 a2], .int .i64 n0] W fun e w' => e = .returned (.int .i64 k) ∧ Below W.heap.size W w') := fun W => (refCheck_run a1 a2 n0 W).mono fun _ _ ⟨he, os, hw⟩ => ⟨by rw [he, hk], bg hw⟩
    have HC4 : Hid (∀ W, Calls Try.prog 11 #[.agg #[.int .i64 a1, .int .i64 a2], .int .i64 n1] W fun e w' => e = .returned (.bool t) ∧ Below W.heap.size W w') := fun W => (has_run a1 a2 n1 t ht W).mono fun _ _ ⟨he, os, hw⟩ => ⟨he, bg hw⟩
    have HC5 : Hid (∀ g W B, CellsV pairCells W B (some ⟨g, 0, none⟩) [(a1, a2)] → Calls Try.prog 12 #[.slice (some ⟨g, 0, none⟩) 1 1, .int .i64 n1] W fun e w' => e = .returned (.bool t) ∧ Below W.heap.size W w') := fun g W B h =>
      (refHas_run (some ⟨g, 0, none⟩) 1 1 [(a1, a2)] n1 t W h rfl (by show _ ↔ _; rw [← ht, Sp.has_one]; simp) (by omega)).mono fun _ _ ⟨he, hw⟩ => ⟨he, hw ▸ Below.refl _ _⟩
    have HC6 : Hid (∀ W, Calls Try.prog 13 #[.agg #[.int .i64 a1, .int .i64 a2], .agg #[.int .i64 b1, .int .i64 b2]] W fun e w' => e = .returned (.int .i64 r) ∧ Below W.heap.size W w') := fun W => (order_run a1 a2 b1 b2 W).mono fun _ _ ⟨he, q, os, hw⟩ => ⟨by rw [he, hr], hw ▸ below_drewG q os⟩
    have HC7 : Hid (∀ W, Calls Try.prog 14 #[.agg #[.int .i64 a1, .int .i64 a2], .agg #[.int .i64 b1, .int .i64 b2]] W fun e w' => e = .returned (.int .i64 r) ∧ Below W.heap.size W w') := fun W => (refOrder_run a1 a2 b1 b2 W).mono fun _ _ ⟨he, os, hw⟩ => ⟨by rw [he, hr], bg hw⟩
    have HC8 : Hid (∀ W, Calls Try.prog 15 #[] W fun e w' => e = .returned (.bool true) ∧ Below W.heap.size W w') := fun W => works_run W
    clear hk ht hr bg
    have hkk : ((k : Int) == k) = true := by simp
    have hrr : (r == r) = true := by simp
    have htt : (t == t) = true := by simp
    go_upto_region 4 with fail
    have hwq : TellsAt w a1 a2 b1 b2 n0 n1 wq := HW.out
    unfold TellsAt at hwq
    go_region_held (fun W => W.cell? ⟨w.heap.size, 0, none⟩ = some (.int .i64 a1) ∧ W.cell? ⟨w.heap.size, 1, none⟩ = some (.int .i64 a2) ∧ W.cell? ⟨w.heap.size + 1, 0, none⟩ = some (.int .i64 b1) ∧ W.cell? ⟨w.heap.size + 1, 1, none⟩ = some (.int .i64 b2) ∧
      W.cell? ⟨w.heap.size + 1 + 1, 0, none⟩ = some (.int .i64 n0) ∧ W.cell? ⟨w.heap.size + 1 + 1, 1, none⟩ = some (.int .i64 n1) ∧ Hid (Below w.heap.size w W ∧ w.heap.size + 3 ≤ W.heap.size))
      (first | exact TellsAt.on HW.out ((Below.refl _ _).drew) | exact TellsAt.on (by assumption) (by assumption) | exact TellsAt.on (by assumption) ((Below.refl _ _).alloc (Nat.le_refl _) _))
      (first
      | (go_at_call 9; refine (HC1.out _).mono ?_; rintro e w5 ⟨rfl, hw5⟩)
      | (go_at_call 8; refine (HC2.out _).mono ?_; rintro e w5 ⟨rfl, hw5⟩)
      | (go_at_call 10; refine (HC3.out _).mono ?_; rintro e w5 ⟨rfl, hw5⟩)
      | (go_at_call 11; refine (HC4.out _).mono ?_; rintro e w5 ⟨rfl, hw5⟩)
      | (go_at_call 12; refine (HC5.out _ _ _ (by first | exact one_cells _ _ _ _ | exact (one_cells _ _ _ _).below (by assumption) (by simp))).mono ?_; rintro e w5 ⟨rfl, hw5⟩)
      | (go_at_call 13; refine (HC6.out _).mono ?_; rintro e w5 ⟨rfl, hw5⟩)
      | (go_at_call 14; refine (HC7.out _).mono ?_; rintro e w5 ⟨rfl, hw5⟩)
      | (go_at_call 15; refine (HC8.out _).mono ?_; rintro e w5 ⟨rfl, hw5⟩))
    all_goals go_wp2_with fail
    all_goals go_ret
    all_goals exact ⟨rfl, (show TellsAt w a1 a2 b1 b2 n0 n1 _ by assumption).2.2.2.2.2.2.out.1⟩
end Go.Proofs.Ytnbnohphdehfoaa
