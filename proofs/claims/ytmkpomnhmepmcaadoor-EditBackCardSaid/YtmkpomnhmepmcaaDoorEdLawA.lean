/-
  The walk of the law EditApplies: it answers true, and leaves what was there as it was.
-/
import Derived.Test.YtmkpomnhmepmcaaDoorEdWorks
import Derived.Test.YtmkpomnhmepmcaaDoorEdRefA
import Derived.Test.YtmkpomnhmepmcaaDoorEdFew
import Derived.Test.YtmkpomnhmepmcaaDoorErrEnds
import Derived.Deep.RegionWith
namespace Go.Proofs.YtmkpomnhmepmcaaDoor
open Go.RowKit

theorem EdsOut.drawn {L : List Ei} {w w1 w' : World} {v : Value} (h : EdsOut L w1 v w') (hd : Drawn w w1) : EdsOut L w v w' := by
  obtain ⟨m, rfl⟩ := hd
  obtain ⟨A, cap, a, b, c, d, e⟩ := h
  exact ⟨A, cap, a, b, c, d, (below_drewN (Below.refl _ _) m).trans e⟩
theorem EdsOut.draw {L : List Ei} {w w' : World} {v : Value} (h : EdsOut L w v w') : EdsOut L w v w'.drew := by
  obtain ⟨A, cap, a, b, c, d, e⟩ := h
  exact ⟨A, cap, a, b, c, d, e.drew⟩
/-- The bytes that the laws look at. -/
def cut300 (n : Nat) : Nat := if n ≤ 300 then n else 300
theorem cut300_le (n : Nat) : cut300 n ≤ n ∧ cut300 n ≤ 300 := by unfold cut300; split <;> omega
theorem take300 {bl : List Int} {n : Nat} (h : bl.length = n) : (bl.take 300).length = cut300 n := by
  rw [List.length_take, h]
  unfold cut300
  split <;> omega
theorem check_range {bl : List Int} : ∀ {l : List Ei} {prev : Option Ei} {j i k : Nat}, checkGo bl l prev j = some (i, k) → 1 ≤ k ∧ k ≤ 5
  | [], _, _, _, _, h => by simp [checkGo] at h
  | x :: r, prev, j, i, k, h => by
    unfold checkGo at h
    split at h
    · exact check_range h
    · next h0 =>
      simp only [Option.some.injEq, Prod.mk.injEq] at h
      have : faultE bl prev x ≤ 5 := by
        unfold faultE
        split
        · omega
        · split
          · omega
          · split <;> omega
      omega
theorem fewE_small {l : List Ei} : ∀ e ∈ fewE l, e.s.size ≤ 40 := fun _ he => fewE_size he
set_option maxRecDepth 100000 in
set_option maxHeartbeats 8000000 in
theorem editApplies_any (Ab : Option Addr) (n0 capb : Nat) (bl0 : List Int) (A : Option Addr) (n cap : Nat) (l : List Ei) (w : World) (hy : Byts w w.heap.size Ab bl0) (hbl : bl0.length = n0) (hcb : n0 ≤ capb) (hmb : capb ≤ 9223372036854775807)
    (hb : CellsV edCells w w.heap.size A l) (hl : l.length = n) (hc : n ≤ cap) (hm : cap ≤ 9223372036854775807) (hh : Heads w) (hg : ErrType w) :
    Calls Tryd.prog 3 #[.slice Ab n0 capb, .slice A n cap] w fun e w' => e = .returned (.bool true) ∧ Below w.heap.size w w' := by
  have HF : Hid (∀ W, Drawn w W → Calls Tryd.prog 7 #[.slice A n cap] W fun e w' => ∃ v, e = .returned v ∧ EdsOut (fewE l) W v w') := fun W hW => by
    obtain ⟨m, rfl⟩ := hW
    exact few_run A n cap l (w.drewN m) hb hl (by omega)
  have HY : Hid (∀ W, Below w.heap.size w W → Byts W W.heap.size Ab (bl0.take 300)) := fun W hW => ((hy.take 300).below hW (Nat.le_refl _)).more hW.size
  have HL0 := Lib.hid (take300 hbl)
  have HH := Lib.hid hh
  have HG := Lib.hid hg
  have hlt := hh.lt
  have hlg := hg.lt
  have hL12 : (fewE l).length ≤ 12 := by rw [fewE_length]; omega
  have HSm : Hid (∀ e ∈ fewE l, e.s.size ≤ 40) := fewE_small
  have hm300 := cut300_le n0
  have HM : Hid (cut300 n0 = if n0 ≤ 300 then n0 else 300) := rfl
  clear hy hb hh hg hl hbl
  generalize fewE l = L at *
  generalize bl0.take 300 = bl at *
  obtain ⟨nb, hnb⟩ : ∃ nb, cut300 n0 = nb := ⟨_, rfl⟩
  rw [hnb] at HL0 hm300 HM
  clear hnb
  go_enter Tryd.func3, Tryd.ntmps3
  go_upto_region 1 with fail
  go_cut [0, 1] (fun s0 s1 wx => s0 = .slice Ab nb capb ∧ EdsOut L w s1 wx)
  case first =>
    by_cases h300 : n0 ≤ 300
    all_goals
      have hM := HM.out
      first | rw [if_pos h300] at hM | rw [if_neg h300] at hM
      have HM2 := Lib.hid hM
      clear hM
      go_region_with (go_at_call 7; refine (HF.out _ ⟨1, rfl⟩).mono ?_; rintro e w1 ⟨v, rfl, hv⟩; have HV := Lib.hid hv; clear hv)
      all_goals go_wp2_with fail
      all_goals go_meet
      all_goals exact ⟨by rw [HM2.out], HV.out.drawn ⟨1, rfl⟩⟩
  case rest =>
    obtain ⟨rfl, A1, cap1, rfl, hc1, hc2, hy1, hw1⟩ := hcut
    obtain ⟨k, hk⟩ : ∃ k, L.length = k := ⟨_, rfl⟩
    have HK := Lib.hid hk
    rw [hk] at hL12 hc1 ⊢
    have hcb1 : nb ≤ capb := by omega
    have hmb1 : nb ≤ 300 := hm300.2
    generalize wc = w1 at *
    have B1 := Lib.hid hw1
    have HE : Hid (∀ W, Below w1.heap.size w1 W → CellsV edCells W W.heap.size A1 L) := fun W hW => (hy1.below hW (Nat.le_refl _)).more hW.size
    have SB1 : Hid (Below w1.heap.size w1 w1) := Below.refl _ _
    clear hk hy1 hw1 HF hm300
    have HCk : Hid (∀ W, Below w.heap.size w W → Below w1.heap.size w1 W → Calls Tryd.prog 8 #[.slice Ab nb capb, .slice A1 k cap1] W fun e w' => e = .returned (chkErr (checkOut bl L)) ∧ Below W.heap.size W w') := fun W h h' => edCheck_run Ab nb capb bl A1 k cap1 L W (HY.out W h) HL0 (HH.out.below h hlt) (HE.out W h') HK hL12 HSm
    have HRk : Hid (∀ W, Below w.heap.size w W → Below w1.heap.size w1 W → Calls Tryd.prog 9 #[.slice Ab nb capb, .slice A1 k cap1] W fun e w' => e = .returned (chkRef (checkOut bl L)) ∧ Below W.heap.size W w') := fun W h h' => edRefCheck_run Ab nb capb bl A1 k cap1 L W (HY.out W h) HL0 (HE.out W h') HK hL12 HSm
    obtain ⟨oo, hoo⟩ : ∃ oo, checkOut bl L = oo := ⟨_, rfl⟩
    have HOO := Lib.hid hoo
    rw [hoo] at HCk HRk
    clear hoo
    cases oo with
    | none =>
      have E1 : Hid (chkErr none = .nilIface) := rfl
      have E2 : Hid (chkRef none = .tuple #[.int .i64 0, .int .i64 (-1)]) := rfl
      go_wp2_with fail
      refine (HCk.out _ B1.out SB1.out).mono ?_
      rw [E1.out]
      rintro e w2 ⟨rfl, hw2⟩
      have B2 : Hid (Below w.heap.size w w2) := B1.out.trans (hw2.mono B1.out.size)
      have SB2 : Hid (Below w1.heap.size w1 w2) := SB1.out.trans (hw2.mono SB1.out.size)
      clear hw2 B1 SB1
      go_wp2_with fail
      refine (HRk.out _ B2.out SB2.out).mono ?_
      rw [E2.out]
      rintro e w3 ⟨rfl, hw3⟩
      have B3 : Hid (Below w.heap.size w w3) := B2.out.trans (hw3.mono B2.out.size)
      have SB3 : Hid (Below w1.heap.size w1 w3) := SB2.out.trans (hw3.mono SB2.out.size)
      clear hw3 B2 SB2
      go_wp2_with fail
      refine (apply_ok Ab nb capb bl A1 k cap1 L _ (HY.out _ B3.out) HL0 hcb1 (HH.out.below B3.out hlt) (HE.out _ SB3.out) HK hL12 HSm hmb1 HOO).mono ?_
      rintro e w4 ⟨v4, rfl, A4, cap4, rfl, _, _, y4, hw4⟩
      have B4 : Hid (Below w.heap.size w w4) := B3.out.trans (hw4.mono B3.out.size)
      have SB4 : Hid (Below w1.heap.size w1 w4) := SB3.out.trans (hw4.mono SB3.out.size)
      have HY4 : Hid (∀ W, Below w4.heap.size w4 W → Byts W W.heap.size A4 (done bl L)) := fun W hW => (y4.below hW (Nat.le_refl _)).more hW.size
      clear hw4 B3 SB3 y4
      go_wp2_with fail
      refine (refApply_ok Ab nb capb bl A1 k cap1 L _ (HY.out _ B4.out) HL0 (HE.out _ SB4.out) HK hL12 HSm hmb1 HOO).mono ?_
      rintro e w5 ⟨v5, rfl, A5, cap5, rfl, _, _, y5, hw5⟩
      have B5 : Hid (Below w.heap.size w w5) := B4.out.trans (hw5.mono B4.out.size)
      have T5 : Hid (Below w4.heap.size w4 w5) := hw5
      have HY5 : Hid (∀ W, Below w5.heap.size w5 W → Byts W W.heap.size A5 (done bl L)) := fun W hW => (y5.below hW (Nat.le_refl _)).more hW.size
      have R5 : Hid (Below w5.heap.size w5 w5) := Below.refl _ _
      clear hw5 B4 SB4 y5
      obtain ⟨z, hz⟩ : ∃ z, (done bl L).length = z := ⟨_, rfl⟩
      have HZ := Lib.hid hz
      rw [hz]
      clear hz
      go_wp2_with fail
      refine (code_nil _).mono ?_
      rintro e w6 ⟨rfl, hw6⟩
      have R6 : Hid (Below w5.heap.size w5 w6) := R5.out.trans (hw6.mono R5.out.size)
      clear hw6 R5
      have G6 : Hid (ErrType w6) := HG.out.below (B5.out.trans (R6.out.mono B5.out.size)) hlg
      go_wp2_with fail
      refine (off_nil _).mono ?_
      rintro e w7 ⟨rfl, hw7⟩
      have R7 : Hid (Below w5.heap.size w5 w7) := R6.out.trans (hw7.mono R6.out.size)
      clear hw7 R6 G6
      have T7 : Hid (Below w4.heap.size w4 w7) := T5.out.trans (R7.out.mono T5.out.size)
      have Q7 := Lib.hid (Equal_any A4 A5 z cap4 z cap5 (done bl L) (done bl L) (HY4.out _ T7.out) (HY5.out _ R7.out) HZ.out HZ.out)
      have Ed : Hid (decide (done bl L = done bl L) = true) := decide_eq_true rfl
      rw [Ed.out] at Q7
      go_wp2_with fail
      refine Q7.out.mono ?_
      rintro e w8 ⟨rfl, rfl⟩
      go_wp2_with fail
      refine (code_nil _).mono ?_
      rintro e w9 ⟨rfl, hw9⟩
      have R9 : Hid (Below w5.heap.size w5 w9) := R7.out.trans (hw9.mono R7.out.size)
      clear hw9 R7 T7 Q7
      go_wp2_with fail
      refine (off_nil _).mono ?_
      rintro e w10 ⟨rfl, hw10⟩
      have R10 : Hid (Below w5.heap.size w5 w10) := R9.out.trans (hw10.mono R9.out.size)
      have B10 : Hid (Below w.heap.size w w10) := B5.out.trans (R10.out.mono B5.out.size)
      clear hw10 R9
      go_wp2_with fail
      refine (works_run _ (HH.out.below B10.out hlt)).mono ?_
      rintro e w11 ⟨rfl, hw11⟩
      go_wp2_with fail
      go_ret
      exact ⟨rfl, B10.out.trans (hw11.mono B10.out.size)⟩
    | some ik =>
      obtain ⟨i, c⟩ := ik
      obtain ⟨r1, r5⟩ := check_range HOO.out
      have E1 : Hid (chkErr (some (i, c)) = errAt i c) := rfl
      have E2 : Hid (chkRef (some (i, c)) = .tuple #[.int .i64 c, .int .i64 i]) := rfl
      go_wp2_with fail
      refine (HCk.out _ B1.out SB1.out).mono ?_
      rw [E1.out]
      rintro e w2 ⟨rfl, hw2⟩
      have B2 : Hid (Below w.heap.size w w2) := B1.out.trans (hw2.mono B1.out.size)
      have SB2 : Hid (Below w1.heap.size w1 w2) := SB1.out.trans (hw2.mono SB1.out.size)
      clear hw2 B1 SB1
      go_wp2_with fail
      refine (HRk.out _ B2.out SB2.out).mono ?_
      rw [E2.out]
      rintro e w3 ⟨rfl, hw3⟩
      have B3 : Hid (Below w.heap.size w w3) := B2.out.trans (hw3.mono B2.out.size)
      have SB3 : Hid (Below w1.heap.size w1 w3) := SB2.out.trans (hw3.mono SB2.out.size)
      clear hw3 B2 SB2
      go_wp2_with fail
      refine (apply_bad Ab nb capb bl A1 k cap1 L _ i c (HY.out _ B3.out) HL0 (HH.out.below B3.out hlt) (HE.out _ SB3.out) HK hL12 HSm HOO).mono ?_
      rintro e w4 ⟨rfl, hw4⟩
      have B4 : Hid (Below w.heap.size w w4) := B3.out.trans (hw4.mono B3.out.size)
      have SB4 : Hid (Below w1.heap.size w1 w4) := SB3.out.trans (hw4.mono SB3.out.size)
      clear hw4 B3 SB3
      go_wp2_with fail
      refine (refApply_bad Ab nb capb bl A1 k cap1 L _ i c (by omega) (HY.out _ B4.out) HL0 (HE.out _ SB4.out) HK hL12 HSm HOO).mono ?_
      rintro e w5 ⟨rfl, hw5⟩
      have B5 : Hid (Below w.heap.size w w5) := B4.out.trans (hw5.mono B4.out.size)
      clear hw5 B4 SB4
      go_wp2_with fail
      refine (code_at i c (by omega) (by omega) _).mono ?_
      rintro e w6 ⟨rfl, hw6⟩
      have B6 : Hid (Below w.heap.size w w6) := B5.out.trans (hw6.mono B5.out.size)
      clear hw6 B5
      go_wp2_with fail
      refine (off_at i c _ (HG.out.below B6.out hlg)).mono ?_
      rintro e w7 ⟨rfl, hw7⟩
      have B7 : Hid (Below w.heap.size w w7) := B6.out.trans (hw7.mono B6.out.size)
      clear hw7 B6
      have Q7 := Lib.hid (Equal_any (w := w7) (B := 0) (B' := 0) none none 0 0 0 0 [] [] Byts.nil Byts.nil rfl rfl)
      have Ed : Hid (decide (([] : List Int) = []) = true) := decide_eq_true rfl
      rw [Ed.out] at Q7
      go_wp2_with fail
      refine Q7.out.mono ?_
      rintro e w8 ⟨rfl, rfl⟩
      go_wp2_with fail
      refine (code_at i c (by omega) (by omega) _).mono ?_
      rintro e w9 ⟨rfl, hw9⟩
      have B9 : Hid (Below w.heap.size w w9) := B7.out.trans (hw9.mono B7.out.size)
      clear hw9 B7 Q7
      go_wp2_with fail
      refine (off_at i c _ (HG.out.below B9.out hlg)).mono ?_
      rintro e w10 ⟨rfl, hw10⟩
      have B10 : Hid (Below w.heap.size w w10) := B9.out.trans (hw10.mono B9.out.size)
      clear hw10 B9
      go_wp2_with fail
      refine (works_run _ (HH.out.below B10.out hlt)).mono ?_
      rintro e w11 ⟨rfl, hw11⟩
      go_wp2_with fail
      go_ret
      exact ⟨rfl, B10.out.trans (hw11.mono B10.out.size)⟩
end Go.Proofs.YtmkpomnhmepmcaaDoor
