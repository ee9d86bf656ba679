/-
  The walk of the law EditKeeps: it answers true, and leaves what was there as it was.
-/
import Derived.Test.YtmkpomnhmepmcaaDoorEdLawA
import Derived.Test.YtmkpomnhmepmcaaDoorEdKeep
namespace Go.Proofs.YtmkpomnhmepmcaaDoor
open Go.RowKit

set_option maxRecDepth 100000 in
set_option maxHeartbeats 8000000 in
theorem editKeeps_any (Ab : Option Addr) (n0 capb : Nat) (bl0 : List Int) (A : Option Addr) (n cap : Nat) (l : List Ei) (w : World) (hy : Byts w w.heap.size Ab bl0) (hbl : bl0.length = n0) (hcb : n0 ≤ capb) (hmb : capb ≤ 9223372036854775807)
    (hb : CellsV edCells w w.heap.size A l) (hl : l.length = n) (hc : n ≤ cap) (hm : cap ≤ 9223372036854775807) (hh : Heads w) :
    Calls Tryd.prog 6 #[.slice Ab n0 capb, .slice A n cap] w fun e w' => e = .returned (.bool true) ∧ Below w.heap.size w w' := by
  have HF : Hid (∀ W, Drawn w W → Calls Tryd.prog 7 #[.slice A n cap] W fun e w' => ∃ v, e = .returned v ∧ EdsOut (fewE l) W v w') := fun W hW => by
    obtain ⟨m, rfl⟩ := hW
    exact few_run A n cap l (w.drewN m) hb hl (by omega)
  have HY : Hid (∀ W, Below w.heap.size w W → Byts W W.heap.size Ab (bl0.take 300)) := fun W hW => ((hy.take 300).below hW (Nat.le_refl _)).more hW.size
  have HL0 := Lib.hid (take300 hbl)
  have HH := Lib.hid hh
  have hlt := hh.lt
  have hL12 : (fewE l).length ≤ 12 := by rw [fewE_length]; omega
  have HSm : Hid (∀ e ∈ fewE l, e.s.size ≤ 40) := fewE_small
  have hm300 := cut300_le n0
  have HM : Hid (cut300 n0 = if n0 ≤ 300 then n0 else 300) := rfl
  clear hy hb hh hl hbl
  generalize fewE l = L at *
  generalize bl0.take 300 = bl at *
  obtain ⟨nb, hnb⟩ : ∃ nb, cut300 n0 = nb := ⟨_, rfl⟩
  rw [hnb] at HL0 hm300 HM
  clear hnb
  go_enter Tryd.func6, Tryd.ntmps6
  go_upto_region 1 with fail
  go_cut [0, 1] (fun s0 s1 wx => s0 = .slice Ab nb capb ∧ EdsOut L w s1 wx)
  case first =>
    by_cases h300 : n0 ≤ 300
    all_goals
      have hM := HM.out
      first | rw [if_pos h300] at hM | rw [if_neg h300] at hM
      have HM2 := Lib.hid hM
      clear hM
      go_region_with (go_at_call 7; refine (HF.out _ ⟨1, rfl⟩).mono ?_; rintro e w1 ⟨v, rfl, hv⟩; have HV := Lib.hid hv; clear hv)
      all_goals go_wp2_with fail
      all_goals go_meet
      all_goals exact ⟨by rw [HM2.out], HV.out.drawn ⟨1, rfl⟩⟩
  case rest =>
    obtain ⟨rfl, A1, cap1, rfl, hc1, hc2, hy1, hw1⟩ := hcut
    obtain ⟨k, hk⟩ : ∃ k, L.length = k := ⟨_, rfl⟩
    have HK := Lib.hid hk
    rw [hk] at hL12 hc1 ⊢
    have hcb1 : nb ≤ capb := by omega
    have hmb1 : nb ≤ 300 := hm300.2
    generalize wc = w1 at *
    have B1 := Lib.hid hw1
    have HE : Hid (∀ W, Below w1.heap.size w1 W → CellsV edCells W W.heap.size A1 L) := fun W hW => (hy1.below hW (Nat.le_refl _)).more hW.size
    have HE1 : Hid (CellsV edCells w1 w1.heap.size A1 L) := hy1
    clear hk hy1 hw1 HF hm300
    obtain ⟨oo, hoo⟩ : ∃ oo, checkOut bl L = oo := ⟨_, rfl⟩
    have HOO := Lib.hid hoo
    clear hoo
    cases oo with
    | some ik =>
      obtain ⟨i, c⟩ := ik
      go_wp2_with fail
      refine (apply_bad Ab nb capb bl A1 k cap1 L _ i c (HY.out _ B1.out) HL0 (HH.out.below B1.out hlt) HE1.out HK hL12 HSm HOO).mono ?_
      unfold errAt errno
      rintro e w4 ⟨rfl, hw4⟩
      have B4 : Hid (Below w.heap.size w w4) := B1.out.trans (hw4.mono B1.out.size)
      clear hw4
      go_wp2_with fail
      refine (works_run _ (HH.out.below B4.out hlt)).mono ?_
      rintro e w5 ⟨rfl, hw5⟩
      go_wp2_with fail
      go_ret
      exact ⟨rfl, B4.out.trans (hw5.mono B4.out.size)⟩
    | none =>
      go_wp2_with fail
      refine (apply_ok Ab nb capb bl A1 k cap1 L _ (HY.out _ B1.out) HL0 hcb1 (HH.out.below B1.out hlt) HE1.out HK hL12 HSm hmb1 HOO).mono ?_
      rintro e w4 ⟨v4, rfl, A4, cap4, rfl, hc4, hm4, y4, hw4⟩
      have B4 : Hid (Below w.heap.size w w4) := B1.out.trans (hw4.mono B1.out.size)
      have HE4 : Hid (∀ W, Below w4.heap.size w4 W → CellsV edCells W W.heap.size A1 L) := fun W hW => HE.out W (hw4.trans (hW.mono hw4.size))
      have HB4 : Hid (∀ W, Below w4.heap.size w4 W → Below w.heap.size w W) := fun W hW => B4.out.trans (hW.mono B4.out.size)
      have HY4 : Hid (∀ W, Below w4.heap.size w4 W → Byts W W.heap.size A4 (done bl L)) := fun W hW => (y4.below hW (Nat.le_refl _)).more hW.size
      have R4 : Hid (Below w4.heap.size w4 w4) := Below.refl _ _
      obtain ⟨z, hz⟩ : ∃ z, (done bl L).length = z := ⟨_, rfl⟩
      have HZ := Lib.hid hz
      rw [hz] at hc4 ⊢
      have hz780 : z ≤ 780 := by
        have := done_le HOO.out HSm.out (by have := HK.out; omega)
        have := HL0.out
        omega
      clear hw4 y4 hz B1 HE HE1 hm4
      go_wp2_with fail
      go_loopg [7, 34] (nb + 1) (fun h s7 s34 wr => ∃ (i : Nat) (ℓ : Int), s34 = .int .i64 i ∧ s7 = .int .i64 ℓ ∧ Hid (i ≤ nb ∧ nb < i + h) ∧ Hid (Behind L i ℓ) ∧ Hid (Below w4.heap.size w4 wr))
      case atStart => exact ⟨0, -1, rfl, rfl, by show _ ∧ _; omega, Behind.start HOO.out, R4.out⟩
      case round =>
        clear R4
        obtain ⟨i, ℓ, rfl, rfl, HI, HBh, RW⟩ := hrel
        by_cases hlt2 : i < nb
        · have hltz : (i : Int) < (nb : Int) := by omega
          obtain ⟨v, hv⟩ : ∃ v, bl[i]? = some v := ⟨_, List.getElem?_eq_getElem (by have := HL0.out; omega)⟩
          have HV := Lib.hid hv
          clear hv
          obtain ⟨p, q, hpq⟩ : ∃ p q, mapOut i L = (p, q) := ⟨_, _, rfl⟩
          have HPQ := Lib.hid hpq
          clear hpq
          go_wp2_with fail
          refine (Map_run A1 k cap1 L i p q _ (HE4.out _ RW.out) HK (by omega) (by omega) HPQ).mono ?_
          rintro e w5 ⟨rfl, hw5⟩
          have R5 : Hid (Below w4.heap.size w4 w5) := RW.out.trans (hw5.mono RW.out.size)
          have HIk : Hid (nb - i < gk ∧ i < nb) := by show _ ∧ _; have := HI.out; omega
          clear hw5 RW HI hlt2
          generalize wr = wq at *
          go_wp2_with fail
          go_loopg [11, 45] (k + 1) (fun h s11 s45 wr => ∃ (j : Nat) (c : Bool), s45 = .int .i64 j ∧ s11 = .bool c ∧ Hid (j ≤ k ∧ k < j + h) ∧ Hid (c = inB i (L.take j)) ∧ Hid (Below w4.heap.size w4 wr))
          case atStart => exact ⟨0, false, rfl, rfl, by show _ ∧ _; omega, rfl, R5.out⟩
          case round =>
            clear R5
            obtain ⟨j, c, rfl, rfl, HJ, HC, RW⟩ := hrel
            by_cases hlt3 : j < k
            · have hltj : (j : Int) < (k : Int) := by omega
              obtain ⟨gb, o, x, hA', hg', hx, c0, c1, c2⟩ := eds_at (HE4.out _ RW.out) (show j < L.length by have := HK.out; omega)
              subst hA'
              obtain ⟨f, t, s⟩ := x
              simp only [] at c0 c1 c2
              have HIn : Hid (inB i (L.take (j + 1)) = (c || (decide (f ≤ (i : Int)) && decide ((i : Int) < t)))) := by
                show _ = _
                rw [inB_at hx, HC.out]
              have R6 : Hid (Below w4.heap.size w4 (wr.alloc (.cells #[.int .i64 f, .int .i64 t, .string s] 45))) := RW.out.alloc RW.out.size _
              have HJ2 : Hid (k - j < gk ∧ j + 1 ≤ k ∧ k < (j + 1) + (k - j)) := by show _ ∧ _ ∧ _; have := HJ.out; omega
              clear hx HJ HC hlt3
              cases c with
              | true =>
                go_wp2_with fail
                go_roundg (k - j)
                case measure => exact HJ2.out.1
                case rel => exact ⟨j + 1, true, by go_num, rfl, HJ2.out.2, by rw [HIn.out, Bool.true_or]; exact rfl, R6.out⟩
              | false =>
                by_cases h1 : f ≤ (i : Int)
                · have h1' : decide (f ≤ (i : Int)) = true := decide_eq_true h1
                  by_cases h2 : (i : Int) < t
                  · have h2' : decide ((i : Int) < t) = true := decide_eq_true h2
                    have HT : Hid (true = inB i (L.take (j + 1))) := by show _ = _; rw [HIn.out, h1', h2']; rfl
                    clear h1 h2
                    go_wp2_with fail
                    go_roundg (k - j)
                    case measure => exact HJ2.out.1
                    case rel => exact ⟨j + 1, true, by go_num, rfl, HJ2.out.2, HT.out, R6.out⟩
                  · have h2' : decide ((i : Int) < t) = false := decide_eq_false h2
                    have HT : Hid (false = inB i (L.take (j + 1))) := by show _ = _; rw [HIn.out, h1', h2']; rfl
                    clear h1 h2
                    go_wp2_with fail
                    go_roundg (k - j)
                    case measure => exact HJ2.out.1
                    case rel => exact ⟨j + 1, false, by go_num, rfl, HJ2.out.2, HT.out, R6.out⟩
                · have h1' : decide (f ≤ (i : Int)) = false := decide_eq_false h1
                  have HT : Hid (false = inB i (L.take (j + 1))) := by show _ = _; rw [HIn.out, h1']; rfl
                  clear h1
                  go_wp2_with fail
                  go_roundg (k - j)
                  case measure => exact HJ2.out.1
                  case rel => exact ⟨j + 1, false, by go_num, rfl, HJ2.out.2, HT.out, R6.out⟩
            · have hltj : ¬ (j : Int) < (k : Int) := by omega
              have HCI : Hid (inB i L = c) := by
                show _ = _
                rw [HC.out, List.take_of_length_le (by have := HK.out; omega)]
              clear HC HJ hlt3
              cases c with
              | true =>
                obtain rfl : q = false := by
                  have h := mapGo_in (g := 0) (m := 0) (inB_true HCI.out)
                  have h2 := HPQ.out
                  unfold mapOut at h2
                  rw [h2] at h
                  exact h
                go_wp2_with fail
                go_roundg (nb - i)
                case measure => exact HIk.out.1
                case rel => exact ⟨i + 1, ℓ, by go_num, rfl, by show _ ∧ _; have := HIk.out; omega, HBh.out.skip, RW.out⟩
              | false =>
                obtain ⟨kk, f1, f2, f3, f4, f5, f6⟩ := keep_fact HOO.out HSm.out (by have := HK.out; omega) (by have := HL0.out; omega) HV.out HCI.out
                obtain ⟨rfl, rfl⟩ := Prod.mk.inj (HPQ.out.symm.trans f1)
                have hlt4 : ℓ < (kk : Int) := by rw [f2]; exact HBh.out i (Nat.le_refl _) f5
                have hd1 : decide ((kk : Int) ≤ ℓ) = false := decide_eq_false (by omega)
                have hkz : kk < z := by have := HZ.out; omega
                have hd2 : decide (z ≤ kk) = false := decide_eq_false (by omega)
                obtain ⟨g4, o4, hA4, _, hcx⟩ := (HY4.out _ RW.out).2 (by have := HZ.out; omega)
                obtain ⟨gb, ob, hAb, _, hcy⟩ := (HY.out _ (HB4.out _ RW.out)).2 (by have := HL0.out; have := HIk.out; omega)
                have hx1 := hcx kk v f3
                have hy1 := hcy i v HV.out
                subst hA4
                subst hAb
                have HBn : Hid (Behind L (i + 1) kk) := Behind.next HOO.out f2 f5
                have HF4 := Lib.hid f4
                have hinb : i < nb := HIk.out.2
                clear f1 f2 f3 f4 f5 f6 hcx hcy HBh hlt4
                go_wp2_with fail
                go_quiet (fail)
                have R7 : Hid (Below w4.heap.size w4 (wr.drewN nq)) := below_drewN RW.out nq
                clear RW hx1 hy1
                generalize wr.drewN nq = wx at *
                go_wp2_with fail
                refine (Back_run A1 k cap1 L kk i true _ (HE4.out _ R7.out) HK (by omega) (by omega) HF4).mono ?_
                rintro e w8 ⟨rfl, hw8⟩
                have R8 : Hid (Below w4.heap.size w4 w8) := R7.out.trans (hw8.mono R7.out.size)
                clear hw8 R7
                go_wp2_with fail
                go_roundg (nb - i)
                case measure => exact HIk.out.1
                case rel => exact ⟨i + 1, kk, by go_num, rfl, by show _ ∧ _; have := HIk.out; omega, HBn.out, R8.out⟩
        · have hltz : ¬ (i : Int) < (nb : Int) := by omega
          have B5 : Hid (Below w.heap.size w wr) := HB4.out _ RW.out
          go_wp2_with fail
          refine (works_run _ (HH.out.below B5.out hlt)).mono ?_
          rintro e w5 ⟨rfl, hw5⟩
          go_wp2_with fail
          go_ret
          exact ⟨rfl, B5.out.trans (hw5.mono B5.out.size)⟩
end Go.Proofs.YtmkpomnhmepmcaaDoor
