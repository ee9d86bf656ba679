/-
  Stage 8: ratio's sign and quotient; its steps: an error in a cell; 'failed', 'keep'.
-/
import Derived.Test.YtbcnpajdmlbieaaDoorLmT
import Derived.Test.YtbcnpajdmlbieaaDoorLmU
namespace Go.Proofs.YtbcnpajdmlbieaaDoor
open Go.RowKit Go.Sort

/-- No error, or one of api's, by its number. -/
def errV (k : Nat) : Value := if k = 0 then .nilIface else errno k
theorem errV_zero : errV 0 = .nilIface := rfl
theorem errV_pos {k : Nat} (h : k ≠ 0) : errV k = .iface 56 (.int .i64 k) := if_neg h
/-- The sign of a number, as -1, 0, 1. -/
def sgZ (s : Bool) (n : Nat) : Int := if n = 0 then 0 else if s then -1 else 1
theorem sgZ_eq (s : Bool) (n : Nat) : cmpS s n false 0 = sgZ s n := by
  unfold cmpS sgZ
  have h0 : sgn false 0 = false := rfl
  rw [h0]
  by_cases hn : n = 0
  · subst hn
    rw [if_pos rfl]
    cases s <;> rfl
  · rw [if_neg hn]
    have h1 : sgn s n = s := by rw [sgn, decide_eq_false hn]; simp
    rw [h1]
    cases s with
    | false => simp; exact cmpN_gt (by omega)
    | true => simp
set_option maxRecDepth 100000 in
set_option maxHeartbeats 2000000 in
theorem sign_run (s : Bool) (n : Nat) (c : Int) (w : World) (hn : Hid (Fits n)) (hc : Hid (sgZ s n = c)) :
    Calls Tryd.prog 25 #[intV s n] w fun e w' => e = .returned (.int .i64 c) ∧ Below w.heap.size w w' := by
  have HC := Lib.hid (fun W => Cmp_run s n false 0 c W hn (Nat.pow_pos (by decide)) (Lib.hid ((sgZ_eq s n).trans hc.out)))
  have HB := Lib.hid (below_alloc w (boxI s n 25))
  have h0 : intV false 0 = .agg #[.bool false, .int .u64 0, .int .u64 0, .int .u64 0, .int .u64 0, .int .u64 0, .int .u64 0, .int .u64 0, .int .u64 0] := intV_small (by decide) false
  rw [h0] at HC
  clear h0 hn hc
  unfold intV at HC ⊢
  go_enter Tryd.func25, Tryd.ntmps25
  go_wp2_with fail
  refine (HC.out _).mono ?_
  rintro e w1 ⟨rfl, hw1⟩
  have B1 : Hid (Below w.heap.size w w1) := HB.out.trans (hw1.mono (by simp))
  clear hw1
  go_wp2_with fail
  go_ret
  exact ⟨rfl, B1.out⟩
/-- An error's cell. -/
structure ErrAt (w : World) (b k : Nat) : Prop where
  cell : w.cell? ⟨b, 0, none⟩ = some (errV k)
  free : w.frozen? ⟨b, 0, none⟩ = false
set_option maxHeartbeats 2000000 in
theorem failed_zero (b : Nat) (w : World) (h : Hid (ErrAt w b 0)) :
    Calls Tryd.prog 30 #[.pointer (some ⟨b, 0, none⟩)] w fun e w' => e = .returned (.bool false) ∧ w = w' := by
  have h1 : w.cell? ⟨b, 0, none⟩ = some .nilIface := h.out.cell
  go_enter Tryd.func30, Tryd.ntmps30
  go_wp2_with fail
  go_ret
  exact ⟨rfl, rfl⟩
set_option maxHeartbeats 2000000 in
theorem failed_pos (b k : Nat) (hk : k ≠ 0) (w : World) (h : Hid (ErrAt w b k)) :
    Calls Tryd.prog 30 #[.pointer (some ⟨b, 0, none⟩)] w fun e w' => e = .returned (.bool true) ∧ w = w' := by
  have h1 : w.cell? ⟨b, 0, none⟩ = some (.iface 56 (.int .i64 k)) := h.out.cell.trans (by rw [errV_pos hk])
  go_enter Tryd.func30, Tryd.ntmps30
  go_wp2_with fail
  go_ret
  exact ⟨rfl, rfl⟩
/-- Of what was there, only the cell at the head of block b may have turned; an error lies there. -/
structure Ste (w w' : World) (b k : Nat) : Prop where
  cell : ∀ c o, c < w.heap.size → ¬ (c = b ∧ o = 0) → w'.cell? ⟨c, o, none⟩ = w.cell? ⟨c, o, none⟩
  free : ∀ c o, c < w.heap.size → w'.frozen? ⟨c, o, none⟩ = w.frozen? ⟨c, o, none⟩
  err : ErrAt w' b k
  size : w.heap.size ≤ w'.heap.size
  below : ∀ B w0, B ≤ b → B ≤ w.heap.size → Below B w0 w → Below B w0 w'
theorem ErrAt.lt {w : World} {b k : Nat} (h : ErrAt w b k) : b < w.heap.size := by
  rcases Nat.lt_or_ge b w.heap.size with h1 | h1
  · exact h1
  · have := h.cell
    simp [World.cell?, Array.getElem?_eq_none h1] at this
theorem ErrAt.drew {w : World} {b k : Nat} (h : ErrAt w b k) : ErrAt w.drew b k := ⟨h.cell, h.free⟩
theorem ErrAt.below {w w' : World} {b k : Nat} (h : ErrAt w b k) (hb : Below w.heap.size w w') : ErrAt w' b k :=
  ⟨(hb.cell (p := ⟨b, 0, none⟩) h.lt).trans h.cell, (hb.frozen (p := ⟨b, 0, none⟩) h.lt).trans h.free⟩
theorem Ste.of_below {w w' : World} {b k : Nat} (h : ErrAt w b k) (hb : Below w.heap.size w w') : Ste w w' b k :=
  ⟨fun c o hc _ => hb.cell (p := ⟨c, o, none⟩) hc, fun c o hc => hb.frozen (p := ⟨c, o, none⟩) hc, h.below hb, hb.size, fun _ _ _ hB h0 => h0.trans (hb.mono hB)⟩
theorem Ste.refl {w : World} {b k : Nat} (h : ErrAt w b k) : Ste w w b k := Ste.of_below h (Below.refl _ _)
theorem Ste.trans {w v u : World} {b k j : Nat} (h : Ste w v b k) (g : Ste v u b j) : Ste w u b j :=
  ⟨fun c o hc hn => (g.cell c o (Nat.lt_of_lt_of_le hc h.size) hn).trans (h.cell c o hc hn), fun c o hc => (g.free c o (Nat.lt_of_lt_of_le hc h.size)).trans (h.free c o hc), g.err, Nat.le_trans h.size g.size,
    fun B w0 h1 h2 h3 => g.below B w0 h1 (Nat.le_trans h2 h.size) (h.below B w0 h1 h2 h3)⟩
theorem Ste.drew {w v : World} {b k : Nat} (h : Ste w v b k) : Ste w v.drew b k := ⟨h.cell, h.free, h.err.drew, h.size, fun B w0 h1 h2 h3 => (h.below B w0 h1 h2 h3).drew⟩
theorem Ste.of_drew {w v : World} {b k : Nat} (h : Ste w.drew v b k) : Ste w v b k := ⟨h.cell, h.free, h.err, h.size, fun B w0 h1 h2 h3 => h.below B w0 h1 h2 h3.drew⟩
theorem Ste.below_trans {w v u : World} {b k : Nat} (hb : Below w.heap.size w v) (h : Ste v u b k) : Ste w u b k :=
  ⟨fun c o hc hn => (h.cell c o (Nat.lt_of_lt_of_le hc hb.size) hn).trans (hb.cell (p := ⟨c, o, none⟩) hc), fun c o hc => (h.free c o (Nat.lt_of_lt_of_le hc hb.size)).trans (hb.frozen (p := ⟨c, o, none⟩) hc), h.err, Nat.le_trans hb.size h.size,
    fun B w0 h1 h2 h3 => h.below B w0 h1 (Nat.le_trans h2 hb.size) (h3.trans (hb.mono (by omega)))⟩
theorem ErrAt.set {w : World} {b k : Nat} (h : ErrAt w b k) (j : Nat) : Ste w (w.setCell ⟨b, 0, none⟩ (errV j)) b j :=
  ⟨fun c o _ hn => World.cell?_setCell_other _ _ _ _ (fun e => hn (by injection e with e1 e2; exact ⟨e1.symm, e2.symm⟩)), fun c o _ => by rw [World.frozen?_setCell],
    ⟨World.cell?_setCell_same _ _ _ h.cell, by rw [World.frozen?_setCell]; exact h.free⟩, by simp [World.setCell], fun B w0 h1 _ h3 => h3.setCell (p := ⟨b, 0, none⟩) h1 _⟩
theorem Ste.but {w v u : World} {b k c : Nat} (h : Ste w v b k) (g : But1 v u c) (hc : w.heap.size ≤ c) (hb : b < w.heap.size) : Ste w u b k :=
  ⟨fun d o hd hn => (g.1 ⟨d, o, none⟩ (by show d ≠ c; omega)).1.trans (h.cell d o hd hn), fun d o hd => (g.1 ⟨d, o, none⟩ (by show d ≠ c; omega)).2.trans (h.free d o hd),
    ⟨(g.1 ⟨b, 0, none⟩ (by show b ≠ c; omega)).1.trans h.err.cell, (g.1 ⟨b, 0, none⟩ (by show b ≠ c; omega)).2.trans h.err.free⟩, by rw [g.2.2]; exact h.size, fun B w0 h1 h2 h3 => g.2.1 B w0 (by omega) (h.below B w0 h1 h2 h3)⟩
theorem IntAt.ste {w w' : World} {b c k n : Nat} {s : Bool} (h : IntAt w c s n) (g : Ste w w' b k) (hc : c < w.heap.size) (hne : c ≠ b) : IntAt w' c s n :=
  ⟨(g.cell c 0 hc (fun e => hne e.1)).trans h.sign, (g.free c 0 hc).trans h.free, fun i hi => ⟨(g.cell c (1 + i) hc (fun e => hne e.1)).trans (h.words i hi).1, (g.free c (1 + i) hc).trans (h.words i hi).2⟩⟩
/-- What is kept: the earlier error, or else the new one. -/
def kept (k j : Nat) : Nat := if k = 0 then j else k
theorem errV_one (j : Nat) : errV j = .nilIface ∨ ∃ v, errV j = .iface 56 v := by
  by_cases h : j = 0
  · subst h; exact .inl rfl
  · exact .inr ⟨_, errV_pos h⟩
set_option maxHeartbeats 2000000 in
theorem keep_run (b k j : Nat) (w : World) (h : Hid (ErrAt w b k)) :
    Calls Tryd.prog 27 #[.pointer (some ⟨b, 0, none⟩), errV j] w fun e w' => e = .returned (.tuple #[]) ∧ Ste w w' b (kept k j) := by
  by_cases hk : k = 0
  · subst hk
    have HF := Lib.hid (failed_zero b w h)
    have h1 : w.cell? ⟨b, 0, none⟩ = some .nilIface := h.out.cell
    have h2 := h.out.free
    have HS := Lib.hid (h.out.set j)
    have hj := errV_one j
    generalize errV j = v at *
    rcases hj with rfl | ⟨x, rfl⟩
    all_goals
      go_enter Tryd.func27, Tryd.ntmps27
      go_wp2_with fail
      refine HF.out.mono ?_
      rintro e w1 ⟨rfl, rfl⟩
      go_wp2_with fail
      go_end0
      exact ⟨rfl, HS.out⟩
  · have HF := Lib.hid (failed_pos b k hk w h)
    have HS : Hid (Ste w w b (kept k j)) := by rw [kept, if_neg hk]; exact Ste.refl h.out
    clear hk
    generalize errV j = v
    go_enter Tryd.func27, Tryd.ntmps27
    go_wp2_with fail
    refine HF.out.mono ?_
    rintro e w1 ⟨rfl, rfl⟩
    go_wp2_with fail
    go_end0
    exact ⟨rfl, HS.out⟩
set_option maxRecDepth 100000 in
set_option maxHeartbeats 4000000 in
theorem quotient_run (s : Bool) (n : Nat) (t : Bool) (m : Nat) (w : World) (hn : Hid (Fits n)) (hm : Hid (Fits m)) (hm0 : 0 < m) :
    Calls Tryd.prog 32 #[intV s n, intV t m] w fun e w' => e = .returned (.tuple #[intV (sgn (s != t) (n / m)) (n / m), .nilIface]) ∧ Below w.heap.size w w' := by
  obtain ⟨S, hS⟩ : ∃ S, w.heap.size = S := ⟨_, rfl⟩
  obtain ⟨W, hW⟩ : ∃ W, ((w.alloc (boxI s n 25)).alloc (boxI t m 25)).alloc (boxIZ 25) = W := ⟨_, rfl⟩
  have T := three_ints w s n t m 25 25 25
  rw [hW, hS] at T
  have HT := Lib.hid T
  obtain ⟨⟨a0, b0⟩, ⟨a1, b1⟩, ⟨a2, b2⟩, ⟨a3, b3⟩, ⟨a4, b4⟩, ⟨a5, b5⟩, ⟨a6, b6⟩, ⟨a7, b7⟩, ⟨a8, b8⟩⟩ := T.1.nine
  obtain ⟨⟨c0, d0⟩, ⟨c1, d1⟩, ⟨c2, d2⟩, ⟨c3, d3⟩, ⟨c4, d4⟩, ⟨c5, d5⟩, ⟨c6, d6⟩, ⟨c7, d7⟩, ⟨c8, d8⟩⟩ := T.2.1.nine
  clear T
  rw [hS]
  have HC := Lib.hid (fun W => Div_pos s n t m W hn hm hm0)
  obtain ⟨q, hq⟩ : ∃ q, n / m = q := ⟨_, rfl⟩
  obtain ⟨r, hr⟩ : ∃ r, n % m = r := ⟨_, rfl⟩
  rw [hq, hr] at HC
  rw [hq]
  obtain ⟨z, hz⟩ : ∃ z, sgn (s != t) q = z := ⟨_, rfl⟩
  obtain ⟨y, hy⟩ : ∃ y, sgn s r = y := ⟨_, rfl⟩
  rw [hz, hy] at HC
  rw [hz]
  clear hz hy hq hr hn hm hm0
  unfold intV at HC ⊢
  go_enter Tryd.func32, Tryd.ntmps32
  go_wp2_with fail
  refine (HC.out _).mono ?_
  rintro e w1 ⟨rfl, hw1⟩
  have hWs : W.heap.size = S + 1 + 1 + 1 := HT.out.2.2.2.2
  have I3 := HT.out.2.2.1.keep hw1 (by omega)
  have B1 : Below S w w1 := HT.out.2.2.2.1.trans (hw1.mono (by omega))
  have z1 : S + 1 + 1 + 1 ≤ w1.heap.size := by have := hw1.size; omega
  have HJ3 := Lib.hid ((I3.alloc (by omega) (boxI z q 25)).alloc (by simp; omega) (boxI y r 25))
  have HB2 : Hid (Below S w ((w1.alloc (boxI z q 25)).alloc (boxI y r 25))) := (B1.alloc (by omega) _).alloc (by simp; omega) _
  have P2 := (two_ints w1 z q y r 25 25)
  obtain ⟨wx, hwx⟩ : ∃ wx, (w1.alloc (boxI z q 25)).alloc (boxI y r 25) = wx := ⟨_, rfl⟩
  obtain ⟨R, hR⟩ : ∃ R, w1.heap.size = R := ⟨_, rfl⟩
  rw [hwx] at HJ3 HB2 P2
  rw [hR] at P2
  clear hw1 HT hW HC hWs I3 B1 a0 a1 a2 a3 a4 a5 a6 a7 a8 b0 b1 b2 b3 b4 b5 b6 b7 b8 c0 c1 c2 c3 c4 c5 c6 c7 c8 d0 d1 d2 d3 d4 d5 d6 d7 d8
  go_upto_region 2 with fail
  obtain ⟨⟨a0, b0⟩, ⟨a1, b1⟩, ⟨a2, b2⟩, ⟨a3, b3⟩, ⟨a4, b4⟩, ⟨a5, b5⟩, ⟨a6, b6⟩, ⟨a7, b7⟩, ⟨a8, b8⟩⟩ := P2.1.nine
  obtain ⟨⟨c0, d0⟩, ⟨c1, d1⟩, ⟨c2, d2⟩, ⟨c3, d3⟩, ⟨c4, d4⟩, ⟨c5, d5⟩, ⟨c6, d6⟩, ⟨c7, d7⟩, ⟨c8, d8⟩⟩ := HJ3.out.nine
  clear P2 hwx hR
  go_wp2_with fail
  refine bodyPost_ret (v := .tuple #[intV z q, .nilIface]) (by rw [results_cell_tmp rfl]; go_simp; try rfl) rfl ⟨rfl, ?_⟩
  exact (st9_but wx (S + 1 + 1) z q).2.1 S w (by omega) HB2.out
end Go.Proofs.YtbcnpajdmlbieaaDoor
