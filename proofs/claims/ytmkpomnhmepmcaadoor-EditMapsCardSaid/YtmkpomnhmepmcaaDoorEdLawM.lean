/-
  The walk of the law EditMaps: it answers true, and leaves what was there as it was.
-/
import Derived.Test.YtmkpomnhmepmcaaDoorEdWorks
import Derived.Test.YtmkpomnhmepmcaaDoorEdRefB
import Derived.Test.YtmkpomnhmepmcaaDoorEdFew
namespace Go.Proofs.YtmkpomnhmepmcaaDoor
open Go.RowKit

theorem Drawn.bel {w w' : World} (h : Drawn w w') : Below w.heap.size w w' := by
  obtain ⟨m, rfl⟩ := h
  exact below_drewN (Below.refl _ _) m
set_option maxRecDepth 100000 in
set_option maxHeartbeats 8000000 in
theorem editMaps_any (A : Option Addr) (n cap : Nat) (l : List Ei) (off : Int) (w : World) (hb : CellsV edCells w w.heap.size A l) (hl : l.length = n) (hc : n ≤ cap) (hm : cap ≤ 9223372036854775807) (hoff : -9223372036854775808 ≤ off ∧ off ≤ 9223372036854775807) (hh : Heads w) :
    Calls Tryd.prog 4 #[.slice A n cap, .int .i64 off] w fun e w' => e = .returned (.bool true) ∧ Below w.heap.size w w' := by
  have HF := Lib.hid (few_run A n cap l w hb hl (by omega))
  have HH := Lib.hid hh
  have hlt := hh.lt
  have hL12 : (fewE l).length ≤ 12 := by rw [fewE_length]; omega
  clear hb hl hh
  generalize fewE l = L at *
  obtain ⟨p, q, hpq⟩ : ∃ p q, mapOut off L = (p, q) := ⟨_, _, rfl⟩
  obtain ⟨p', q', hpq'⟩ : ∃ p q, backOut off L = (p, q) := ⟨_, _, rfl⟩
  obtain ⟨gr, hgr⟩ : ∃ gr, Wr.w (growI L) = gr := ⟨_, rfl⟩
  have H1 := Lib.hid hpq
  have H2 := Lib.hid hpq'
  have H3 := Lib.hid hgr
  have HO := Lib.hid hoff
  clear hpq hpq' hgr hoff
  go_enter Tryd.func4, Tryd.ntmps4
  go_wp2_with fail
  refine HF.out.mono ?_
  rintro e w1 ⟨v, rfl, A1, cap1, rfl, hc1, hc2, hy1, hw1⟩
  obtain ⟨k, hk⟩ : ∃ k, L.length = k := ⟨_, rfl⟩
  have HK := Lib.hid hk
  rw [hk] at hL12 hc1 ⊢
  have B1 := Lib.hid hw1
  have HY : Hid (∀ W, Below w1.heap.size w1 W → CellsV edCells W W.heap.size A1 L) := fun W hW => (hy1.below hW (Nat.le_refl _)).more hW.size
  have R1 : Hid (Below w1.heap.size w1 w1) := Below.refl _ _
  clear hk hy1 hw1 HF
  go_wp2_with fail
  refine (Map_run A1 k cap1 L off p q _ (HY.out _ R1.out) HK (by omega) HO.out H1).mono ?_
  rintro e w2 ⟨rfl, hw2⟩
  have R2 : Hid (Below w1.heap.size w1 w2) := R1.out.trans (hw2.mono R1.out.size)
  clear hw2 R1
  go_wp2_with fail
  refine (refMap_run A1 k cap1 L off p q _ (HY.out _ R2.out) HK (by omega) hc1 HO.out H1).mono ?_
  rintro e w3 ⟨rfl, hw3⟩
  have R3 : Hid (Below w1.heap.size w1 w3) := R2.out.trans ((Drawn.bel hw3).mono R2.out.size)
  clear hw3 R2
  go_wp2_with fail
  refine (Back_run A1 k cap1 L off p' q' _ (HY.out _ R3.out) HK (by omega) HO.out H2).mono ?_
  rintro e w4 ⟨rfl, hw4⟩
  have R4 : Hid (Below w1.heap.size w1 w4) := R3.out.trans (hw4.mono R3.out.size)
  clear hw4 R3
  go_wp2_with fail
  refine (refBack_run A1 k cap1 L off p' q' _ (HY.out _ R4.out) HK (by omega) hc1 HO.out H2).mono ?_
  rintro e w5 ⟨rfl, hw5⟩
  have R5 : Hid (Below w1.heap.size w1 w5) := R4.out.trans ((Drawn.bel hw5).mono R4.out.size)
  clear hw5 R4
  go_wp2_with fail
  refine (Grow_run A1 k cap1 L _ (HY.out _ R5.out) HK (by omega)).mono ?_
  rw [H3.out]
  rintro e w6 ⟨rfl, hw6⟩
  have R6 : Hid (Below w1.heap.size w1 w6) := R5.out.trans (hw6.mono R5.out.size)
  clear hw6 R5
  go_wp2_with fail
  refine (refGrow_run A1 k cap1 L _ (HY.out _ R6.out) HK (by omega)).mono ?_
  rw [H3.out]
  rintro e w7 ⟨rfl, hw7⟩
  have R7 : Hid (Below w1.heap.size w1 w7) := R6.out.trans ((Drawn.bel hw7).mono R6.out.size)
  clear hw7 R6
  have B7 : Hid (Below w.heap.size w w7) := B1.out.trans (R7.out.mono B1.out.size)
  go_wp2_with fail
  refine (works_run _ (HH.out.below B7.out hlt)).mono ?_
  rintro e w8 ⟨rfl, hw8⟩
  go_wp2_with fail
  go_ret
  exact ⟨rfl, B7.out.trans (hw8.mono B7.out.size)⟩
end Go.Proofs.YtmkpomnhmepmcaaDoor
