/-
  The contract of the law's few: at most twelve edits, their texts cut to forty bytes.
-/
import Derived.Test.YtmkpomnhmepmcaaDoorEdStep
import Derived.Deep.LoopGhost
import Derived.Deep.RegionHeldLaw
namespace Go.Proofs.YtmkpomnhmepmcaaDoor
open Go.RowKit

def cutN (n : Nat) : Nat := (min (n : Int) 40).toNat
theorem cutN_le (n : Nat) : cutN n ≤ n ∧ cutN n ≤ 40 := by unfold cutN; omega
def cutE (e : Ei) : Ei := ⟨e.f, e.t, e.s.extract 0 (cutN e.s.size)⟩
def fewE (l : List Ei) : List Ei := (l.take 12).map cutE
theorem fewE_length (l : List Ei) : (fewE l).length = min 12 l.length := by simp [fewE]
theorem cutE_size (e : Ei) : (cutE e).s.size ≤ 40 := by
  have := cutN_le e.s.size
  simp [cutE]
  omega
theorem fewE_size {l : List Ei} {e : Ei} (h : e ∈ fewE l) : e.s.size ≤ 40 := by
  obtain ⟨x, _, rfl⟩ := List.mem_map.1 h
  exact cutE_size x
/-- What few hands back. -/
def EdsOut (L : List Ei) (w : World) (v : Value) (w' : World) : Prop := ∃ A cap, v = .slice A L.length cap ∧ L.length ≤ cap ∧ cap ≤ 9223372036854775807 ∧ CellsV edCells w' w'.heap.size A L ∧ Below w.heap.size w w'
set_option maxHeartbeats 4000000 in
set_option maxRecDepth 100000 in
theorem few_run (A : Option Addr) (n cap : Nat) (l : List Ei) (w : World) (hb : CellsV edCells w w.heap.size A l) (hl : Hid (l.length = n)) (hcap : n ≤ 9223372036854775807) :
    Calls Tryd.prog 7 #[.slice A n cap] w fun e w' => ∃ v, e = .returned v ∧ EdsOut (fewE l) w v w' := by
  have HB := Lib.hid hb
  clear hb
  go_enter Tryd.func7, Tryd.ntmps7
  go_wp2_with fail
  go_loopg [3, 4] 13 (fun h s3 s4 wr => ∃ i : Nat, s4 = .int .i64 i ∧ Hid (i ≤ n ∧ i ≤ 12 ∧ 12 < i + h) ∧ Hid (OwnV edCells 3 45 wr w.heap.size s3 ((l.take i).map cutE)) ∧ Hid (Below w.heap.size w wr))
  case atStart => exact ⟨0, rfl, by show _ ∧ _; omega, OwnV.nil _ _ _ _ _, Below.refl _ _⟩
  case round =>
    obtain ⟨i, rfl, HI, O, BW⟩ := hrel
    have hi12 := HI.out.2.1
    by_cases hlt : i < n
    · have hltz : decide ((i : Int) < (n : Int)) = true := decide_eq_true (by omega)
      by_cases h12 : i < 12
      · have h12z : decide ((i : Int) < 12) = true := decide_eq_true (by omega)
        obtain ⟨gb, o, x, rfl, hg, hx, c0, c1, c2⟩ := eds_at (HB.out.below BW.out (Nat.le_refl _)) (show i < l.length by have := hl.out; omega)
        have HT : Hid ((l.take i).map cutE ++ [cutE x] = (l.take (i + 1)).map cutE) := by
          show _ = _
          rw [take_at hx, List.map_append, List.map_cons, List.map_nil]
        have hsz := BW.out.size
        obtain ⟨f, t, s⟩ := x
        simp only [] at c0 c1 c2
        have HC : Hid (wr.cell? ⟨gb, o + i * 3, none⟩ = some (.int .i64 f) ∧ wr.cell? ⟨gb, o + i * 3 + 1, none⟩ = some (.int .i64 t) ∧ wr.cell? ⟨gb, o + i * 3 + 2, none⟩ = some (.string s)) := ⟨c0, c1, c2⟩
        clear hx
        have hlen : Hid (((l.take i).map cutE).length ≤ 500000) := by show _ ≤ _; simp; omega
        by_cases h40 : 40 < s.size
        · have hz : (40 : Int) < (s.size : Int) := by omega
          have HK : Hid (cutN s.size = 40) := by show _ = _; unfold cutN; omega
          clear h40
          have OA : Hid (OwnV edCells 3 45 ((wr.alloc (.cells #[.int .i64 f, .int .i64 t, .string (s.extract 0 40)] 45)).drew) w.heap.size u3 ((l.take i).map cutE)) := OwnV.alloc O.out _
          have NA : Hid (CellsV edCells ((wr.alloc (.cells #[.int .i64 f, .int .i64 t, .string (s.extract 0 40)] 45)).drew) (wr.heap.size + 1) (some ⟨wr.heap.size, 0, none⟩) [cutE ⟨f, t, s⟩]) := by
            show CellsV edCells _ _ _ [Ei.mk f t (s.extract 0 (cutN s.size))]
            rw [HK.out]
            exact one_ed wr f t _ _
          have BA : Hid (Below w.heap.size w ((wr.alloc (.cells #[.int .i64 f, .int .i64 t, .string (s.extract 0 40)] 45)).drew)) := (BW.out.alloc hsz _).drew
          have BB : Hid (Below w.heap.size wr ((wr.alloc (.cells #[.int .i64 f, .int .i64 t, .string (s.extract 0 40)] 45)).drew)) := ((Below.refl _ _).alloc hsz _).drew
          go_wp2_with fail
          go_region_held_law (fun W => W.cell? ⟨gb, o + i * 3, none⟩ = some (.int .i64 f) ∧ W.cell? ⟨gb, o + i * 3 + 1, none⟩ = some (.int .i64 t) ∧ W.cell? ⟨gb, o + i * 3 + 2, none⟩ = some (.string s)) (first | exact ⟨(BK.out.cell (p := ⟨gb, o + i * 3, none⟩) hg).trans HC.out.1, (BK.out.cell (p := ⟨gb, o + i * 3 + 1, none⟩) hg).trans HC.out.2.1, (BK.out.cell (p := ⟨gb, o + i * 3 + 2, none⟩) hg).trans HC.out.2.2⟩ | go_keep)
            (first | (refine step_appV ed_slice _ (by rfl) (.tmp 15) (.tmp 40) (by rfl) w.heap.size u3 _ (by rfl) OA.out (wr.heap.size + 1) (some ⟨wr.heap.size, 0, none⟩) 1 1 [cutE ⟨f, t, s⟩] (by rfl) NA.out rfl hlen.out (by simp) BA.out.size ?_; intro v3 w3 o3 g3 t3; have BV : Hid (Below w.heap.size w w3) := BA.out.grown g3 BA.out.size (ownV_ge OA.out); have BK : Hid (Below w.heap.size wr w3) := BB.out.grown g3 BA.out.size (ownV_ge OA.out); have OV := Lib.hid o3; clear o3 g3 t3) | fail)
          go_wp2_with fail
          go_roundg (12 - i)
          case measure => have := HI.out; omega
          case rel => exact ⟨i + 1, by go_num, by show _ ∧ _; have := HI.out; omega, by rw [← HT.out]; exact OV.out, BV.out⟩
        · have hz : ¬ (40 : Int) < (s.size : Int) := by omega
          have HK : Hid (s.extract 0 (cutN s.size) = s) := by
            have e : cutN s.size = s.size := by unfold cutN; omega
            show _ = _
            rw [e]
            apply bts_inj
            rw [bts_extract, List.drop_zero, List.take_of_length_le (by rw [bts_length]; omega)]
          clear h40
          have OA : Hid (OwnV edCells 3 45 ((wr.alloc (.cells #[.int .i64 f, .int .i64 t, .string s] 45)).drew) w.heap.size u3 ((l.take i).map cutE)) := OwnV.alloc O.out _
          have NA : Hid (CellsV edCells ((wr.alloc (.cells #[.int .i64 f, .int .i64 t, .string s] 45)).drew) (wr.heap.size + 1) (some ⟨wr.heap.size, 0, none⟩) [cutE ⟨f, t, s⟩]) := by
            show CellsV edCells _ _ _ [Ei.mk f t (s.extract 0 (cutN s.size))]
            rw [HK.out]
            exact one_ed wr f t _ _
          have BA : Hid (Below w.heap.size w ((wr.alloc (.cells #[.int .i64 f, .int .i64 t, .string s] 45)).drew)) := (BW.out.alloc hsz _).drew
          have BB : Hid (Below w.heap.size wr ((wr.alloc (.cells #[.int .i64 f, .int .i64 t, .string s] 45)).drew)) := ((Below.refl _ _).alloc hsz _).drew
          go_wp2_with fail
          go_region_held_law (fun W => W.cell? ⟨gb, o + i * 3, none⟩ = some (.int .i64 f) ∧ W.cell? ⟨gb, o + i * 3 + 1, none⟩ = some (.int .i64 t) ∧ W.cell? ⟨gb, o + i * 3 + 2, none⟩ = some (.string s)) (first | exact ⟨(BK.out.cell (p := ⟨gb, o + i * 3, none⟩) hg).trans HC.out.1, (BK.out.cell (p := ⟨gb, o + i * 3 + 1, none⟩) hg).trans HC.out.2.1, (BK.out.cell (p := ⟨gb, o + i * 3 + 2, none⟩) hg).trans HC.out.2.2⟩ | go_keep)
            (first | (refine step_appV ed_slice _ (by rfl) (.tmp 15) (.tmp 40) (by rfl) w.heap.size u3 _ (by rfl) OA.out (wr.heap.size + 1) (some ⟨wr.heap.size, 0, none⟩) 1 1 [cutE ⟨f, t, s⟩] (by rfl) NA.out rfl hlen.out (by simp) BA.out.size ?_; intro v3 w3 o3 g3 t3; have BV : Hid (Below w.heap.size w w3) := BA.out.grown g3 BA.out.size (ownV_ge OA.out); have BK : Hid (Below w.heap.size wr w3) := BB.out.grown g3 BA.out.size (ownV_ge OA.out); have OV := Lib.hid o3; clear o3 g3 t3) | fail)
          go_wp2_with fail
          go_roundg (12 - i)
          case measure => have := HI.out; omega
          case rel => exact ⟨i + 1, by go_num, by show _ ∧ _; have := HI.out; omega, by rw [← HT.out]; exact OV.out, BV.out⟩
      · have h12z : decide ((i : Int) < 12) = false := decide_eq_false (by omega)
        have HE : Hid ((l.take i).map cutE = fewE l) := by
          obtain rfl : i = 12 := by omega
          rfl
        rw [HE.out] at O
        have hy := O.out.cells
        clear HE
        go_wp2_with fail
        go_ret
        obtain ⟨A9, cap9, hv, h1, h2, h3⟩ := hy
        exact ⟨_, rfl, A9, cap9, hv, h1, h2, h3, BW.out⟩
    · have hltz : decide ((i : Int) < (n : Int)) = false := decide_eq_false (by omega)
      have HE : Hid ((l.take i).map cutE = fewE l) := by
        show _ = _
        rw [fewE, List.take_of_length_le (by have := hl.out; omega), List.take_of_length_le (by have := hl.out; omega)]
      rw [HE.out] at O
      have hy := O.out.cells
      clear HE
      go_wp2_with fail
      go_ret
      obtain ⟨A9, cap9, hv, h1, h2, h3⟩ := hy
      exact ⟨_, rfl, A9, cap9, hv, h1, h2, h3, BW.out⟩
end Go.Proofs.YtmkpomnhmepmcaaDoor
