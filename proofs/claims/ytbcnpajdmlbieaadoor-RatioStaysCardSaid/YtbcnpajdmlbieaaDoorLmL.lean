/-
  Stage 7: a number's box; limb's Canon, Neg, Bits.
-/
import Derived.Test.YtbcnpajdmlbieaaDoorLmK
namespace Go.Proofs.YtbcnpajdmlbieaaDoor
open Go.RowKit Go.Sort

abbrev boxI (s : Bool) (n : Nat) (T : TypeId) : Obj := .cells #[.bool s, .int .u64 (wd n 0 : Int), .int .u64 (wd n 1 : Int), .int .u64 (wd n 2 : Int), .int .u64 (wd n 3 : Int), .int .u64 (wd n 4 : Int), .int .u64 (wd n 5 : Int), .int .u64 (wd n 6 : Int), .int .u64 (wd n 7 : Int)] T
abbrev boxIZ (T : TypeId) : Obj := .cells #[.bool false, .int .u64 0, .int .u64 0, .int .u64 0, .int .u64 0, .int .u64 0, .int .u64 0, .int .u64 0, .int .u64 0] T
/-- A number in block b. -/
structure IntAt (w : World) (b : Nat) (s : Bool) (n : Nat) : Prop where
  sign : w.cell? ⟨b, 0, none⟩ = some (.bool s)
  free : w.frozen? ⟨b, 0, none⟩ = false
  words : WordsAt w b 1 n 8
theorem IntAt.keep {w w' : World} {b n B : Nat} {s : Bool} (h : IntAt w b s n) (hb : Below B w w') (hB : b < B) : IntAt w' b s n :=
  ⟨(hb.cell (p := ⟨b, 0, none⟩) hB).trans h.sign, (hb.frozen (p := ⟨b, 0, none⟩) hB).trans h.free, h.words.keep hb hB⟩
theorem IntAt.alloc {w : World} {b n : Nat} {s : Bool} (h : IntAt w b s n) (hb : b < w.heap.size) (o : Obj) : IntAt (w.alloc o) b s n := h.keep (below_alloc w o) hb
theorem IntAt.but {w w' : World} {b c n : Nat} {s : Bool} (h : IntAt w b s n) (hw : But1 w w' c) (hne : b ≠ c) : IntAt w' b s n :=
  ⟨(hw.1 ⟨b, 0, none⟩ hne).1.trans h.sign, (hw.1 ⟨b, 0, none⟩ hne).2.trans h.free, h.words.but hw hne⟩
theorem IntAt.new (w : World) (s : Bool) (n : Nat) (T : TypeId) : IntAt (w.alloc (boxI s n T)) w.heap.size s n := by
  refine ⟨World.cell?_alloc_at _ _ _ _ rfl, World.frozen?_alloc_at _ _ _ _ rfl, fun i hi => ?_⟩
  rcases i with _ | _ | _ | _ | _ | _ | _ | _ | i
  all_goals first | exact ⟨World.cell?_alloc_at _ _ _ _ rfl, World.frozen?_alloc_at _ _ _ _ rfl⟩ | omega
theorem IntAt.zero (w : World) (T : TypeId) : IntAt (w.alloc (boxIZ T)) w.heap.size false 0 := by
  have := IntAt.new w false 0 T
  simpa only [boxI, wd_zero, Int.natCast_zero] using this
theorem WordsF.eightAt1 {w : World} {b : Nat} {f : Nat → Nat} (h : WordsF w b 1 f 8) :
    (w.cell? ⟨b, 1, none⟩ = some (.int .u64 (f 0 : Int)) ∧ w.frozen? ⟨b, 1, none⟩ = false) ∧ (w.cell? ⟨b, 2, none⟩ = some (.int .u64 (f 1 : Int)) ∧ w.frozen? ⟨b, 2, none⟩ = false) ∧
    (w.cell? ⟨b, 3, none⟩ = some (.int .u64 (f 2 : Int)) ∧ w.frozen? ⟨b, 3, none⟩ = false) ∧ (w.cell? ⟨b, 4, none⟩ = some (.int .u64 (f 3 : Int)) ∧ w.frozen? ⟨b, 4, none⟩ = false) ∧
    (w.cell? ⟨b, 5, none⟩ = some (.int .u64 (f 4 : Int)) ∧ w.frozen? ⟨b, 5, none⟩ = false) ∧ (w.cell? ⟨b, 6, none⟩ = some (.int .u64 (f 5 : Int)) ∧ w.frozen? ⟨b, 6, none⟩ = false) ∧
    (w.cell? ⟨b, 7, none⟩ = some (.int .u64 (f 6 : Int)) ∧ w.frozen? ⟨b, 7, none⟩ = false) ∧ (w.cell? ⟨b, 8, none⟩ = some (.int .u64 (f 7 : Int)) ∧ w.frozen? ⟨b, 8, none⟩ = false) :=
  ⟨h 0 (by decide), h 1 (by decide), h 2 (by decide), h 3 (by decide), h 4 (by decide), h 5 (by decide), h 6 (by decide), h 7 (by decide)⟩
/-- Nine stores. -/
def st9 (w : World) (b : Nat) (s : Bool) (n : Nat) : World := ((((((((w.setCell ⟨b, 0, none⟩ (.bool s)).setCell ⟨b, 1, none⟩ (.int .u64 (wd n 0 : Int))).setCell ⟨b, 2, none⟩ (.int .u64 (wd n 1 : Int))).setCell ⟨b, 3, none⟩ (.int .u64 (wd n 2 : Int))).setCell ⟨b, 4, none⟩ (.int .u64 (wd n 3 : Int))).setCell ⟨b, 5, none⟩ (.int .u64 (wd n 4 : Int))).setCell ⟨b, 6, none⟩ (.int .u64 (wd n 5 : Int))).setCell ⟨b, 7, none⟩ (.int .u64 (wd n 6 : Int))).setCell ⟨b, 8, none⟩ (.int .u64 (wd n 7 : Int))
theorem st9_but (w : World) (b : Nat) (s : Bool) (n : Nat) : But1 w (st9 w b s n) b :=
  ((((((((But1.setCell w b 0 _).trans (But1.setCell _ b 1 _)).trans (But1.setCell _ b 2 _)).trans (But1.setCell _ b 3 _)).trans (But1.setCell _ b 4 _)).trans (But1.setCell _ b 5 _)).trans (But1.setCell _ b 6 _)).trans (But1.setCell _ b 7 _)).trans (But1.setCell _ b 8 _)
theorem st9_at {w : World} {b n m : Nat} {s t : Bool} (h : IntAt w b s n) : IntAt (st9 w b t m) b t m := by
  have h0 : WordsF (w.setCell ⟨b, 0, none⟩ (.bool t)) b 1 (wd n) 8 := fun i hi =>
    ⟨(World.cell?_setCell_other _ _ _ _ (fun e => by injection e with _ e2 _; omega)).trans (h.words i hi).1, by rw [World.frozen?_setCell]; exact (h.words i hi).2⟩
  have h8 := (((((((h0.upd (i := 0) (by decide) (wd m 0)).upd (i := 1) (by decide) (wd m 1)).upd (i := 2) (by decide) (wd m 2)).upd (i := 3) (by decide) (wd m 3)).upd (i := 4) (by decide) (wd m 4)).upd (i := 5) (by decide) (wd m 5)).upd (i := 6) (by decide) (wd m 6)).upd (i := 7) (by decide) (wd m 7)
  have c0 : (w.setCell ⟨b, 0, none⟩ (.bool t)).cell? ⟨b, 0, none⟩ = some (.bool t) := World.cell?_setCell_same _ _ _ h.sign
  refine ⟨?_, ?_, ?_⟩
  · unfold st9
    iterate 8 rw [World.cell?_setCell_other _ _ _ _ (by simp)]
    exact c0
  · unfold st9
    simp only [World.frozen?_setCell]
    exact h.free
  · refine WordsF.ext (f := updF (updF (updF (updF (updF (updF (updF (updF (wd n) 0 (wd m 0)) 1 (wd m 1)) 2 (wd m 2)) 3 (wd m 3)) 4 (wd m 4)) 5 (wd m 5)) 6 (wd m 6)) 7 (wd m 7)) h8 fun t ht => ?_
    rcases t with _ | _ | _ | _ | _ | _ | _ | _ | t
    all_goals first | rfl | omega
/-- The ways the nine cells of a number's box are taken. -/
theorem IntAt.value {w : World} {b n : Nat} {s : Bool} (h : IntAt w b s n) : (w.cell? ⟨b, 0, none⟩ = some (.bool s) ∧ w.frozen? ⟨b, 0, none⟩ = false) := ⟨h.sign, h.free⟩
set_option maxRecDepth 100000 in
set_option maxHeartbeats 4000000 in
theorem Canon_run (s : Bool) (n : Nat) (w : World) (hn : Hid (Fits n)) :
    Calls Tryd.prog 24 #[intV s n] w fun e w' => e = .returned (intV (sgn s n) n) ∧ Below w.heap.size w w' := by
  have HC := Lib.hid (fun W => signed_run s n W hn)
  obtain ⟨S, hS⟩ : ∃ S, w.heap.size = S := ⟨_, rfl⟩
  have Z0 := IntAt.zero (w.alloc (boxI s n 25)) 25
  have B0 : Below w.heap.size w ((w.alloc (boxI s n 25)).alloc (boxIZ 25)) := (below_alloc w _).alloc (by simp) _
  have z0 : ((w.alloc (boxI s n 25)).alloc (boxIZ 25)).heap.size = w.heap.size + 1 + 1 := by simp
  obtain ⟨t, ht⟩ : ∃ t, sgn s n = t := ⟨_, rfl⟩
  rw [ht] at HC ⊢
  have e1 : (w.alloc (boxI s n 25)).heap.size = w.heap.size + 1 := by simp
  rw [e1, hS] at Z0
  rw [hS] at B0 z0 ⊢
  have HZ := Lib.hid Z0
  have HB := Lib.hid B0
  have Hz := Lib.hid z0
  clear Z0 B0 z0 e1 ht
  unfold wordsV at HC
  unfold intV at HC ⊢
  go_enter Tryd.func24, Tryd.ntmps24
  go_wp2_with fail
  refine (HC.out _).mono ?_
  rintro e w1 ⟨rfl, hw1⟩
  have Z1 := HZ.out.keep hw1 (by rw [Hz.out]; omega)
  have B1 : Hid (Below S w w1) := HB.out.trans (hw1.mono (by rw [Hz.out]; omega))
  obtain ⟨a0, b0⟩ := Z1.value
  obtain ⟨⟨c0, d0⟩, ⟨c1, d1⟩, ⟨c2, d2⟩, ⟨c3, d3⟩, ⟨c4, d4⟩, ⟨c5, d5⟩, ⟨c6, d6⟩, ⟨c7, d7⟩⟩ := Z1.words.eightAt1
  clear hw1 Z1 HZ HB Hz
  go_wp2_with fail
  refine bodyPost_ret (v := intV t n) (by rw [results_cell1 rfl]; go_simp; try rfl) rfl ⟨rfl, ?_⟩
  exact (st9_but w1 (S + 1) t n).2.1 S w (by omega) B1.out
set_option maxRecDepth 100000 in
set_option maxHeartbeats 4000000 in
theorem Neg_run (s : Bool) (n : Nat) (w : World) (hn : Hid (Fits n)) :
    Calls Tryd.prog 33 #[intV s n] w fun e w' => e = .returned (intV (sgn (!s) n) n) ∧ Below w.heap.size w w' := by
  have HC := Lib.hid (fun W => signed_run (!s) n W hn)
  obtain ⟨S, hS⟩ : ∃ S, w.heap.size = S := ⟨_, rfl⟩
  have Z0 := IntAt.zero (w.alloc (boxI s n 25)) 25
  have B0 : Below w.heap.size w ((w.alloc (boxI s n 25)).alloc (boxIZ 25)) := (below_alloc w _).alloc (by simp) _
  have z0 : ((w.alloc (boxI s n 25)).alloc (boxIZ 25)).heap.size = w.heap.size + 1 + 1 := by simp
  obtain ⟨t, ht⟩ : ∃ t, sgn (!s) n = t := ⟨_, rfl⟩
  rw [ht] at HC ⊢
  have e1 : (w.alloc (boxI s n 25)).heap.size = w.heap.size + 1 := by simp
  rw [e1, hS] at Z0
  rw [hS] at B0 z0 ⊢
  have HZ := Lib.hid Z0
  have HB := Lib.hid B0
  have Hz := Lib.hid z0
  clear Z0 B0 z0 e1 ht
  unfold wordsV at HC
  unfold intV at HC ⊢
  go_enter Tryd.func33, Tryd.ntmps33
  go_wp2_with fail
  refine (HC.out _).mono ?_
  rintro e w1 ⟨rfl, hw1⟩
  have Z1 := HZ.out.keep hw1 (by rw [Hz.out]; omega)
  have B1 : Hid (Below S w w1) := HB.out.trans (hw1.mono (by rw [Hz.out]; omega))
  obtain ⟨a0, b0⟩ := Z1.value
  obtain ⟨⟨c0, d0⟩, ⟨c1, d1⟩, ⟨c2, d2⟩, ⟨c3, d3⟩, ⟨c4, d4⟩, ⟨c5, d5⟩, ⟨c6, d6⟩, ⟨c7, d7⟩⟩ := Z1.words.eightAt1
  clear hw1 Z1 HZ HB Hz
  go_wp2_with fail
  refine bodyPost_ret (v := intV t n) (by rw [results_cell1 rfl]; go_simp; try rfl) rfl ⟨rfl, ?_⟩
  exact (st9_but w1 (S + 1) t n).2.1 S w (by omega) B1.out
end Go.Proofs.YtbcnpajdmlbieaaDoor
