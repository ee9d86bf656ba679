/-
  The contracts of edit.Grow and edit.Map.
-/
import Derived.Test.YtmkpomnhmepmcaaDoorEdTo
import Derived.Deep.LoopGhost
namespace Go.Proofs.YtmkpomnhmepmcaaDoor
open Go.RowKit

set_option maxHeartbeats 4000000 in
theorem Grow_run (A : Option Addr) (n cap : Nat) (l : List Ei) (w : World) (hb : CellsV edCells w w.heap.size A l) (hl : Hid (l.length = n)) (hn : n ≤ 1000000) :
    Calls Tryd.prog 20 #[.slice A n cap] w fun e w' => e = .returned (.int .i64 (Wr.w (growI l))) ∧ Below w.heap.size w w' := by
  have HB := Lib.hid hb
  clear hb
  go_enter Tryd.func20, Tryd.ntmps20
  go_wp2_with (go_at_call 30; refine (growth_run _).mono ?_; unfold growF; rintro e w1 ⟨rfl, rfl⟩)
  go_loopg [4, 10] (n + 1) (fun h s4 s10 wr => ∃ i : Nat, s10 = .int .i64 i ∧ s4 = .int .i64 (Wr.w (growI (l.take i))) ∧ Hid (i ≤ n ∧ n < i + h) ∧ Hid (VarAt wr w.heap.size (.int .i64 (Wr.w (growI (l.take i))))) ∧ Hid (Below w.heap.size w wr))
  case atStart => exact ⟨0, rfl, rfl, by show _ ∧ _; omega, VarAt.new w _ _, (Below.refl _ _).alloc (Nat.le_refl _) _⟩
  case round =>
    obtain ⟨i, rfl, rfl, HI, HV, BW⟩ := hrel
    by_cases hlt : i < n
    · have hltz : (i : Int) < (n : Int) := by omega
      obtain ⟨g, o, x, rfl, hg, hx, c0, c1, c2⟩ := eds_at (HB.out.below BW.out (Nat.le_refl _)) (show i < l.length by have := hl.out; omega)
      have hsz := BW.out.size
      have hvl := HV.out.lt
      obtain ⟨f, t, s⟩ := x
      simp only [] at c0 c1 c2
      have HG : Hid (Wr.w (Wr.w (growI (l.take i)) + dgI f t s) = Wr.w (growI (l.take (i + 1)))) := by
        show _ = _
        rw [Wr.add_l, growI_at hx]
      have HV1 : Hid (VarAt (wr.alloc (.cells #[.int .i64 f, .int .i64 t, .string s] 45)) w.heap.size (.int .i64 (Wr.w (growI (l.take i))))) := HV.out.alloc _
      have BW1 : Hid (Below w.heap.size w (wr.alloc (.cells #[.int .i64 f, .int .i64 t, .string s] 45))) := BW.out.alloc hsz _
      clear hx
      generalize growI (l.take i) = gi at *
      go_wp2_with fail
      refine (growth1_run f t s _ _ _ HV1.out).mono ?_
      rw [HG.out]
      rintro e w3 ⟨rfl, hv3, hb3⟩
      have HV3 := Lib.hid hv3
      have HB3 := Lib.hid (BW1.out.but hb3 (by simp) (by simp; omega))
      clear hv3 hb3
      go_wp2_with fail
      go_roundg (n - i)
      case measure => have := HI.out; omega
      case rel => exact ⟨i + 1, by go_num, rfl, by show _ ∧ _; have := HI.out; omega, HV3.out, HB3.out⟩
    · have hltz : ¬ (i : Int) < (n : Int) := by omega
      have HL : Hid (growI (l.take i) = growI l) := by
        show _ = _
        rw [List.take_of_length_le (by have := hl.out; omega)]
      go_wp2_with fail
      go_ret
      exact ⟨ret_int (by rw [HL.out]), BW.out⟩
set_option maxHeartbeats 8000000 in
theorem Map_run (A : Option Addr) (n cap : Nat) (l : List Ei) (off p : Int) (q : Bool) (w : World) (hb : CellsV edCells w w.heap.size A l) (hl : Hid (l.length = n)) (hn : n ≤ 1000000) (hoff : -9223372036854775808 ≤ off ∧ off ≤ 9223372036854775807) (hz : Hid (mapOut off l = (p, q))) :
    Calls Tryd.prog 16 #[.slice A n cap, .int .i64 off] w fun e w' => e = .returned (.tuple #[.int .i64 p, .bool q]) ∧ Below w.heap.size w w' := by
  have HB := Lib.hid hb
  have HO : Hid (off = Wr.w (off + 0)) := by
    show _ = _
    rw [Int.add_zero, Wr.w_in hoff.1 hoff.2]
  clear hb hoff
  go_enter Tryd.func16, Tryd.ntmps16
  go_wp2_with fail
  refine (starts_run _).mono ?_
  unfold startF
  rintro e w1 ⟨rfl, h1, hs1, hb1⟩
  have H1 : Hid (StartsAt (w1.alloc (.cells #[.int .i64 0] 3)) w.heap.size 0) := h1.but ((But.refl _ []).alloc _) (by simp) (by simp) (by simp)
  have V1 := Lib.hid (VarAt.new w1 (.int .i64 0) 3)
  have B1 : Hid (Below w.heap.size w (w1.alloc (.cells #[.int .i64 0] 3))) := hb1.alloc (by omega) _
  have HS := Lib.hid hs1
  clear h1 hs1 hb1
  go_wp2_with fail
  refine (growth_run _).mono ?_
  unfold growF
  rintro e w2 ⟨rfl, rfl⟩
  go_wp2_with fail
  generalize w1.heap.size = c at *
  go_loopg [8, 17] (n + 1) (fun h s8 s17 wr => ∃ (i : Nat) (g m : Int), s17 = .int .i64 i ∧ s8 = .int .i64 (Wr.w (off + m)) ∧ Hid (i ≤ n ∧ n < i + h) ∧ Hid (AtMap off l i g m) ∧ Hid (StartsAt wr w.heap.size (Wr.w g)) ∧ Hid (VarAt wr c (.int .i64 (Wr.w m))) ∧ Hid (Below w.heap.size w wr))
  case atStart => exact ⟨0, 0, 0, rfl, by rw [← HO.out], by show _ ∧ _; omega, AtMap.start off l, H1.out, V1.out, B1.out⟩
  case round =>
    obtain ⟨i, g, m, rfl, rfl, HI, HA, HSt, HV, BW⟩ := hrel
    by_cases hlt : i < n
    · have hltz : (i : Int) < (n : Int) := by omega
      obtain ⟨gb, o, x, rfl, hg, hx, c0, c1, c2⟩ := eds_at (HB.out.below BW.out (Nat.le_refl _)) (show i < l.length by have := hl.out; omega)
      have hsz := BW.out.size
      have hvl := HV.out.lt
      have hsl := HSt.out.2.2.lt
      obtain ⟨f, t, s⟩ := x
      simp only [] at c0 c1 c2
      have HX := Lib.hid hx
      have S1 : Hid (StartsAt (wr.alloc (.cells #[.int .i64 f, .int .i64 t, .string s] 45)) w.heap.size (Wr.w g)) := HSt.out.but ((But.refl _ []).alloc _) (by simp) (by simp) (by simp)
      have V2 : Hid (VarAt (wr.alloc (.cells #[.int .i64 f, .int .i64 t, .string s] 45)) c (.int .i64 (Wr.w m))) := HV.out.alloc _
      have BW1 : Hid (Below w.heap.size w (wr.alloc (.cells #[.int .i64 f, .int .i64 t, .string s] 45))) := BW.out.alloc hsz _
      clear hx hsz
      go_wp2_with fail
      refine (starts1_run f t s _ _ _ S1.out).mono ?_
      rw [Wr.add_r, Wr.add_l]
      rintro e w3 ⟨rfl, h3, b3⟩
      have k0 : w3.cell? ⟨wr.heap.size, 0, none⟩ = some (.int .i64 f) := (b3.cell (p := ⟨wr.heap.size, 0, none⟩) (by simp) (by simp; omega)).trans (by simp)
      have k1 : w3.cell? ⟨wr.heap.size, 1, none⟩ = some (.int .i64 t) := (b3.cell (p := ⟨wr.heap.size, 1, none⟩) (by simp) (by simp; omega)).trans (by simp)
      have k2 : w3.cell? ⟨wr.heap.size, 2, none⟩ = some (.string s) := (b3.cell (p := ⟨wr.heap.size, 2, none⟩) (by simp) (by simp; omega)).trans (by simp)
      have hne : c ∉ [w.heap.size, w.heap.size + 2] := by have := HS.out; simp; omega
      have H3 := Lib.hid h3
      have V3 : Hid (VarAt w3 c (.int .i64 (Wr.w m))) := V2.out.but b3 hne
      have B3 : Hid (Below w.heap.size w w3) := BW1.out.but b3 (by simp) (by simp; omega)
      clear h3 b3 hne S1 V2 BW1 c0 c1 c2
      obtain ⟨a, ha⟩ : ∃ a, Wr.w (f + g) = a := ⟨_, rfl⟩
      have Ha := Lib.hid ha
      rw [ha]
      clear ha
      generalize wr.heap.size = hr at *
      by_cases h1 : f ≤ off
      · have h1' : decide (f ≤ off) = true := decide_eq_true h1
        by_cases h2 : off < t
        · have h2' : decide (off < t) = true := decide_eq_true h2
          have HF : Hid ((p, q) = (a, false)) := by
            show _ = _
            rw [← hz.out, HA.out.hit HX.out h1 h2, Ha.out]
          clear h1 h2
          go_wp2_with fail
          go_ret2
          have := HF.out
          cases this
          exact ⟨rfl, B3.out⟩
        · have h2' : decide (off < t) = false := decide_eq_false h2
          have HN : Hid (¬ (f ≤ off ∧ off < t)) := fun h => h2 h.2
          clear h1
          have h3' : decide (t ≤ off) = true := decide_eq_true (by omega)
          have HT : Hid (t ≤ off) := by show _ ≤ _; omega
          clear h2
          go_wp2_with fail
          refine (growth1_run f t s _ _ _ V3.out).mono ?_
          rw [Wr.add_l]
          rintro e w4 ⟨rfl, h4, b4⟩
          have V4 := Lib.hid h4
          have hcc := HS.out
          have H4 : Hid (StartsAt w4 w.heap.size (Wr.w (g + dgI f t s))) := H3.out.but b4 (by simp; omega) (by simp; omega) (by simp; omega)
          have B4 : Hid (Below w.heap.size w w4) := B3.out.but b4 (by simp; omega) B3.out.size
          clear h4 b4 hcc
          go_wp2_with fail
          go_roundg (n - i)
          case measure => have := HI.out; omega
          case rel => exact ⟨i + 1, g + dgI f t s, m + dgI f t s, by go_num, by simp only [Wr.w_wrap64, Wr.add_r], by show _ ∧ _; have := HI.out; omega, HA.out.past HX.out HN.out HT.out, H4.out, V4.out, B4.out⟩
      · have h1' : decide (f ≤ off) = false := decide_eq_false h1
        have HN : Hid (¬ (f ≤ off ∧ off < t)) := fun h => h1 h.1
        clear h1
        by_cases h3 : t ≤ off
        · have h3' : decide (t ≤ off) = true := decide_eq_true h3
          have HT := Lib.hid h3
          clear h3
          go_wp2_with fail
          refine (growth1_run f t s _ _ _ V3.out).mono ?_
          rw [Wr.add_l]
          rintro e w4 ⟨rfl, h4, b4⟩
          have V4 := Lib.hid h4
          have hcc := HS.out
          have H4 : Hid (StartsAt w4 w.heap.size (Wr.w (g + dgI f t s))) := H3.out.but b4 (by simp; omega) (by simp; omega) (by simp; omega)
          have B4 : Hid (Below w.heap.size w w4) := B3.out.but b4 (by simp; omega) B3.out.size
          clear h4 b4 hcc
          go_wp2_with fail
          go_roundg (n - i)
          case measure => have := HI.out; omega
          case rel => exact ⟨i + 1, g + dgI f t s, m + dgI f t s, by go_num, by simp only [Wr.w_wrap64, Wr.add_r], by show _ ∧ _; have := HI.out; omega, HA.out.past HX.out HN.out HT.out, H4.out, V4.out, B4.out⟩
        · have h3' : decide (t ≤ off) = false := decide_eq_false h3
          have HT := Lib.hid h3
          clear h3
          go_wp2_with fail
          go_roundg (n - i)
          case measure => have := HI.out; omega
          case rel => exact ⟨i + 1, g + dgI f t s, m, by go_num, rfl, by show _ ∧ _; have := HI.out; omega, HA.out.skip HX.out HN.out (Int.not_le.2 HT.out), H3.out, V3.out, B3.out⟩
    · have hltz : ¬ (i : Int) < (n : Int) := by omega
      have HF : Hid ((p, q) = (Wr.w (off + m), true)) := by
        show _ = _
        rw [← hz.out, HA.out.done (by have := hl.out; omega)]
      go_wp2_with fail
      go_ret2
      have := HF.out
      cases this
      exact ⟨rfl, BW.out⟩
end Go.Proofs.YtmkpomnhmepmcaaDoor
