/-
  The walk of the law EditBack: it answers true, and leaves what was there as it was.
-/
import Derived.Test.YtmkpomnhmepmcaaDoorEdLawA
import Derived.Test.YtmkpomnhmepmcaaDoorEdUndo
namespace Go.Proofs.YtmkpomnhmepmcaaDoor
open Go.RowKit

theorem own_nil (k : IntKind) (E : TypeId) (w : World) (base : Nat) : OwnK k E w base (.slice none 0 0) [] := World.ownsRow_nil _ _ _ _
set_option maxRecDepth 100000 in
set_option maxHeartbeats 16000000 in
theorem editBack_any (Ab : Option Addr) (n0 capb : Nat) (bl0 : List Int) (A : Option Addr) (n cap : Nat) (l : List Ei) (w : World) (hy : Byts w w.heap.size Ab bl0) (hbl : bl0.length = n0) (hcb : n0 ≤ capb) (hmb : capb ≤ 9223372036854775807)
    (hb : CellsV edCells w w.heap.size A l) (hl : l.length = n) (hc : n ≤ cap) (hm : cap ≤ 9223372036854775807) (hh : Heads w) :
    Calls Tryd.prog 5 #[.slice Ab n0 capb, .slice A n cap] w fun e w' => e = .returned (.bool true) ∧ Below w.heap.size w w' := by
  have HF : Hid (∀ W, Drawn w W → Calls Tryd.prog 7 #[.slice A n cap] W fun e w' => ∃ v, e = .returned v ∧ EdsOut (fewE l) W v w') := fun W hW => by
    obtain ⟨m, rfl⟩ := hW
    exact few_run A n cap l (w.drewN m) hb hl (by omega)
  have HY : Hid (∀ W, Below w.heap.size w W → Byts W W.heap.size Ab (bl0.take 300)) := fun W hW => ((hy.take 300).below hW (Nat.le_refl _)).more hW.size
  have HBy : Hid (U.Byt (bl0.take 300)) := byt_take hy.1 300
  have HL0 := Lib.hid (take300 hbl)
  have HH := Lib.hid hh
  have hlt := hh.lt
  have hL12 : (fewE l).length ≤ 12 := by rw [fewE_length]; omega
  have HSm : Hid (∀ e ∈ fewE l, e.s.size ≤ 40) := fewE_small
  have hm300 := cut300_le n0
  have HM : Hid (cut300 n0 = if n0 ≤ 300 then n0 else 300) := rfl
  clear hy hb hh hl hbl
  generalize fewE l = L at *
  generalize bl0.take 300 = bl at *
  obtain ⟨nb, hnb⟩ : ∃ nb, cut300 n0 = nb := ⟨_, rfl⟩
  rw [hnb] at HL0 hm300 HM
  clear hnb
  go_enter Tryd.func5, Tryd.ntmps5
  go_upto_region 1 with fail
  go_cut [0, 1] (fun s0 s1 wx => s0 = .slice Ab nb capb ∧ EdsOut L w s1 wx)
  case first =>
    by_cases h300 : n0 ≤ 300
    all_goals
      have hM := HM.out
      first | rw [if_pos h300] at hM | rw [if_neg h300] at hM
      have HM2 := Lib.hid hM
      clear hM
      go_region_with (go_at_call 7; refine (HF.out _ ⟨1, rfl⟩).mono ?_; rintro e w1 ⟨v, rfl, hv⟩; have HV := Lib.hid hv; clear hv)
      all_goals go_wp2_with fail
      all_goals go_meet
      all_goals exact ⟨by rw [HM2.out], HV.out.drawn ⟨1, rfl⟩⟩
  case rest =>
    obtain ⟨rfl, A1, cap1, rfl, hc1, hc2, hy1, hw1⟩ := hcut
    obtain ⟨k, hk⟩ : ∃ k, L.length = k := ⟨_, rfl⟩
    have HK := Lib.hid hk
    rw [hk] at hL12 hc1 ⊢
    have hcb1 : nb ≤ capb := by omega
    have hmb1 : nb ≤ 300 := hm300.2
    generalize wc = w1 at *
    have B1 := Lib.hid hw1
    have HE : Hid (∀ W, Below w1.heap.size w1 W → CellsV edCells W W.heap.size A1 L) := fun W hW => (hy1.below hW (Nat.le_refl _)).more hW.size
    have HE1 : Hid (CellsV edCells w1 w1.heap.size A1 L) := hy1
    clear hk hy1 hw1 HF hm300
    obtain ⟨oo, hoo⟩ : ∃ oo, checkOut bl L = oo := ⟨_, rfl⟩
    have HOO := Lib.hid hoo
    clear hoo
    cases oo with
    | some ik =>
      obtain ⟨i, c⟩ := ik
      obtain ⟨r1, r5⟩ := check_range HOO.out
      have Hcode : Hid (∀ W, Calls Tryd.prog 12 #[.iface 49 (.agg #[.int .i64 i, .iface 46 (.int .i64 c)])] W fun e w' => e = .returned (.int .i64 c) ∧ Below W.heap.size W w') := fun W => code_at i c (by omega) (by omega) W
      go_wp2_with fail
      refine (apply_bad Ab nb capb bl A1 k cap1 L _ i c (HY.out _ B1.out) HL0 (HH.out.below B1.out hlt) HE1.out HK hL12 HSm HOO).mono ?_
      unfold errAt errno
      rintro e w4 ⟨rfl, hw4⟩
      have B4 : Hid (Below w.heap.size w w4) := B1.out.trans (hw4.mono B1.out.size)
      have HE4 : Hid (CellsV edCells w4 w4.heap.size A1 L) := HE.out _ hw4
      clear hw4
      go_wp2_with fail
      refine (invert_bad Ab nb capb bl A1 k cap1 L _ i c (HY.out _ B4.out) HL0 (HH.out.below B4.out hlt) HE4.out HK hL12 HSm HOO).mono ?_
      unfold errAt errno
      rintro e w5 ⟨rfl, hw5⟩
      have B5 : Hid (Below w.heap.size w w5) := B4.out.trans (hw5.mono B4.out.size)
      clear hw5
      go_wp2_with fail
      refine (Hcode.out _).mono ?_
      rintro e w6 ⟨rfl, hw6⟩
      have B6 : Hid (Below w.heap.size w w6) := B5.out.trans (hw6.mono B5.out.size)
      clear hw6
      go_wp2_with fail
      refine (Hcode.out _).mono ?_
      rintro e w7 ⟨rfl, hw7⟩
      have B7 : Hid (Below w.heap.size w w7) := B6.out.trans (hw7.mono B6.out.size)
      clear hw7
      go_wp2_with fail
      refine (works_run _ (HH.out.below B7.out hlt)).mono ?_
      rintro e w8 ⟨rfl, hw8⟩
      go_wp2_with fail
      go_ret
      exact ⟨rfl, B7.out.trans (hw8.mono B7.out.size)⟩
    | none =>
      go_wp2_with fail
      refine (apply_ok Ab nb capb bl A1 k cap1 L _ (HY.out _ B1.out) HL0 hcb1 (HH.out.below B1.out hlt) HE1.out HK hL12 HSm hmb1 HOO).mono ?_
      rintro e w4 ⟨v4, rfl, A4, cap4, rfl, hc4, hm4, y4, hw4⟩
      have B4 : Hid (Below w.heap.size w w4) := B1.out.trans (hw4.mono B1.out.size)
      have HE4 : Hid (∀ W, Below w4.heap.size w4 W → CellsV edCells W W.heap.size A1 L) := fun W hW => HE.out W (hw4.trans (hW.mono hw4.size))
      have HX4 : Hid (∀ W, Below w4.heap.size w4 W → Byts W W.heap.size A4 (done bl L)) := fun W hW => (y4.below hW (Nat.le_refl _)).more hW.size
      have HE4a : Hid (CellsV edCells w4 w4.heap.size A1 L) := HE4.out _ (Below.refl _ _)
      obtain ⟨z, hz⟩ : ∃ z, (done bl L).length = z := ⟨_, rfl⟩
      have HZ := Lib.hid hz
      rw [hz] at hc4 ⊢
      have hz780 : z ≤ 780 := by
        have := done_le HOO.out HSm.out (by have := HK.out; omega)
        have := HL0.out
        omega
      clear hw4 y4 hz B1 HE HE1
      go_wp2_with fail
      refine (invert_ok Ab nb capb bl A1 k cap1 L _ (HY.out _ B4.out) HL0 hcb1 (HH.out.below B4.out hlt) HE4a.out HK hL12 HSm hmb1 HOO).mono ?_
      rintro e w5 ⟨v5, rfl, A5, cap5, rfl, hc5, hm5, y5, hw5⟩
      have HMk : Hid ((invI bl 0 L).length = k) := by show _ = _; rw [invI_length]; exact HK.out
      rw [HMk.out] at hc5 ⊢
      have B5 : Hid (Below w.heap.size w w5) := B4.out.trans (hw5.mono B4.out.size)
      have HE5 : Hid (∀ W, Below w5.heap.size w5 W → CellsV edCells W W.heap.size A1 L) := fun W hW => HE4.out W (hw5.trans (hW.mono hw5.size))
      have HE6 : Hid (∀ W, Below w5.heap.size w5 W → CellsV edCells W w5.heap.size A1 L) := fun W hW => (HE4.out w5 hw5).below hW (Nat.le_refl _)
      have HX5 : Hid (∀ W, Below w5.heap.size w5 W → Byts W w5.heap.size A4 (done bl L)) := fun W hW => (HX4.out w5 hw5).below hW (Nat.le_refl _)
      have HM5 : Hid (∀ W, Below w5.heap.size w5 W → CellsV edCells W W.heap.size A5 (invI bl 0 L)) := fun W hW => (y5.below hW (Nat.le_refl _)).more hW.size
      have HB5 : Hid (∀ W, Below w5.heap.size w5 W → Below w.heap.size w W) := fun W hW => B5.out.trans (hW.mono B5.out.size)
      have R5 : Hid (Below w5.heap.size w5 w5) := Below.refl _ _
      obtain ⟨gi, hgi⟩ : ∃ gi, growI L = gi := ⟨_, rfl⟩
      have hgz : (nb : Int) + gi = (z : Int) := by
        have := done_length HOO.out
        have := HZ.out
        have := HL0.out
        omega
      have hg1 : -300 ≤ gi := by omega
      have hg2 : gi ≤ 780 := by omega
      have HG1 : Hid (Wr.w (growI L) = gi) := by show _ = _; rw [hgi, Wr.w_in (by omega) (by omega)]
      have HG2 : Hid (Wr.w (growI (invI bl 0 L)) = -gi) := by
        show _ = _
        rw [growI_inv bl (z := bl.length) (valid_in HOO.out) (Int.le_refl _) HBy.out, hgi, Wr.w_in (by omega) (by omega)]
      have hng1 : wrap64 (-gi) = -gi := by unfold wrap64; omega
      clear hw5 y5 hgi HE4 HX4 HE4a B4
      go_wp2_with fail
      refine (Grow_run A1 k cap1 L _ (HE5.out _ R5.out) HK (by omega)).mono ?_
      rw [HG1.out]
      rintro e w6 ⟨rfl, hw6⟩
      have R6 : Hid (Below w5.heap.size w5 w6) := R5.out.trans (hw6.mono R5.out.size)
      clear hw6 R5
      go_wp2_with fail
      refine (Grow_run A5 k cap5 (invI bl 0 L) _ (HM5.out _ R6.out) HMk (by omega)).mono ?_
      rw [HG2.out]
      rintro e w7 ⟨rfl, hw7⟩
      have R7 : Hid (Below w5.heap.size w5 w7) := R6.out.trans (hw7.mono R6.out.size)
      clear hw7 R6
      go_wp2_with fail
      refine (Grow_run A1 k cap1 L _ (HE5.out _ R7.out) HK (by omega)).mono ?_
      rw [HG1.out]
      rintro e w8 ⟨rfl, hw8⟩
      have R8 : Hid (Below w5.heap.size w5 w8) := R7.out.trans (hw8.mono R7.out.size)
      clear hw8 R7
      go_wp2_with fail
      clear hng1 hg1 hg2 hgz HG1 HG2 HE5
      go_loopg [9, 10, 80] (k + 1) (fun h s9 s10 s80 wr => ∃ i p q : Nat, s80 = .int .i64 i ∧ s9 = .int .i64 q ∧ Hid (i ≤ k ∧ k < i + h) ∧ Hid (AtInv bl L i p q) ∧ Hid (OwnK .u8 5 wr w5.heap.size s10 (bl.take p)) ∧ Hid (Below w5.heap.size w5 wr))
      case atStart => exact ⟨0, 0, 0, rfl, rfl, by show _ ∧ _; omega, AtInv.start HOO.out, by rw [List.take_zero]; exact own_nil _ _ _ _, R8.out⟩
      case round =>
        clear R8
        obtain ⟨i, p, q, rfl, rfl, HI, HA, O, R⟩ := hrel
        by_cases hlt2 : i < k
        · have hltz : (i : Int) < (k : Int) := by omega
          obtain ⟨ga, oa, x, hA1, hga, hx, c0, c1, c2⟩ := eds_at (HE6.out _ R.out) (show i < L.length by have := HK.out; omega)
          obtain ⟨v0, v1, v2⟩ := valid_in HOO.out x (List.mem_of_getElem? hx)
          have hsl : x.s.size ≤ 40 := HSm.out x (List.mem_of_getElem? hx)
          obtain ⟨f, t, s⟩ := x
          obtain ⟨fn, rfl⟩ := Int.eq_ofNat_of_zero_le v0
          obtain ⟨tn, rfl⟩ := Int.eq_ofNat_of_zero_le (Int.le_trans v0 v1)
          obtain ⟨a1, a2, a3, a4, a5, a6, a7, a8⟩ := HA.out.next hx
          obtain ⟨gm, om, y, hA5, hgm, hy5, m0, m1, m2⟩ := eds_at (HM5.out _ R.out) (show i < (invI bl 0 L).length by have := HMk.out; omega)
          have hye : y = invE bl (growI (L.take i)) ⟨fn, tn, s⟩ := by
            have h := invI_get (bl := bl) (g := 0) hx
            rw [Int.zero_add] at h
            exact Option.some.inj (hy5.symm.trans h)
          subst hye
          simp only [invE, Int.toNat_natCast] at m0 m1 m2 c2 hsl
          rw [a4] at m0 m1
          obtain ⟨F, hF⟩ : ∃ F, q + (fn - p) = F := ⟨_, rfl⟩
          obtain ⟨T, hT⟩ : ∃ T, F + s.size = T := ⟨_, rfl⟩
          rw [hF] at m0 m1 a6 a7 a8
          rw [hT] at a7 a8
          have m1' : wr.cell? ⟨gm, om + i * 3 + 1, none⟩ = some (.int .i64 (T : Int)) := by rw [m1, ← hT]; simp
          obtain ⟨r, hr0⟩ : ∃ r, strOf ((bl.drop fn).take (tn - fn)) = r := ⟨_, rfl⟩
          rw [hr0] at m2
          have hrb : bts r = (bl.drop fn).take (tn - fn) := by rw [← hr0, bts_strOf (byt_take (byt_drop HBy.out _) _)]
          have hrl : r.size ≤ 300 := by
            have h := bts_length r
            rw [hrb, List.length_take, List.length_drop] at h
            have := HL0.out
            omega
          have HBk : Hid (bl.take p ++ ((done bl L).drop q).take (F - q) ++ bts r = bl.take tn) := by
            show _ = _
            rw [hrb, show F - q = fn - p by omega]
            exact back_piece a1 a2 a5
          have HAn : Hid (AtInv bl L (i + 1) tn T) := a8
          have hTz : T ≤ z := by have := HZ.out; omega
          have hqF : q ≤ F := by omega
          have hFT : F ≤ T := by omega
          have HCv : Hid (∀ A', (A' = A4.map (·.add F) ∨ T ≤ F) → ∀ W, Below w5.heap.size w5 W → (convert 22 9 (.slice A' (T - F) (cap4 - F))).run Tryd.prog W = .ok (.string s) W) := fun A' hA W hW => by
            have h := conv_bytes (byts_cut (HX5.out W hW) F T hA) (T - F) (cap4 - F) (by rw [List.length_take, List.length_drop]; have := HZ.out; omega)
            rw [show T - F = s.size by omega, a6, strOf_bts] at h
            rwa [show T - F = s.size by omega]
          have HP : Hid (∀ A', (A' = A4.map (·.add q) ∨ F ≤ q) → ∀ W, Below w5.heap.size w5 W → Byts W w5.heap.size A' (((done bl L).drop q).take (F - q))) := fun A' hA W hW => byts_cut (HX5.out W hW) q F hA
          have hlen1 : Hid ((bl.take p).length ≤ 500000) := by show _ ≤ _; rw [List.length_take]; have := HL0.out; omega
          have hlen2 : Hid ((((done bl L).drop q).take (F - q)).length = F - q) := by show _ = _; rw [List.length_take, List.length_drop]; have := HZ.out; omega
          have hlen3 : Hid ((((done bl L).drop q).take (F - q)).length ≤ 500000) := by show _ ≤ _; rw [hlen2.out]; omega
          have hlen4 : Hid ((bl.take p ++ ((done bl L).drop q).take (F - q)).length ≤ 500000) := by show _ ≤ _; rw [List.length_append, hlen2.out, List.length_take]; have := HL0.out; omega
          have hlen5 : Hid (r.size ≤ 500000) := by show _ ≤ _; omega
          have HM2 : Hid (k - i < gk ∧ i + 1 ≤ k ∧ k < (i + 1) + (k - i)) := by show _ ∧ _ ∧ _; have := HI.out; omega
          have hd1 : decide (F < q) = false := decide_eq_false (by omega)
          have hd2 : decide (T < F) = false := decide_eq_false (by omega)
          have hd3 : decide (z < T) = false := decide_eq_false (by omega)
          have hsz := R.out.size
          have hownr0 : Hid (∀ g, u10.ownBlock = some g → g < wr.heap.size) := fun g hg => (World.ownsRow.lt O.out g hg).2
          have OY : Hid (OwnK .u8 5 (wr.alloc (.cells #[.int .i64 (F : Int), .int .i64 (T : Int), .string r] 45)) w5.heap.size u10 (bl.take p)) := World.ownsRow.alloc O.out _
          have RY : Hid (Below w5.heap.size w5 (wr.alloc (.cells #[.int .i64 (F : Int), .int .i64 (T : Int), .string r] 45))) := R.out.alloc hsz _
          have e0 : (wr.alloc (.cells #[.int .i64 (F : Int), .int .i64 (T : Int), .string r] 45)).cell? ⟨wr.heap.size, 0, none⟩ = some (.int .i64 (F : Int)) := by simp
          have e1 : (wr.alloc (.cells #[.int .i64 (F : Int), .int .i64 (T : Int), .string r] 45)).cell? ⟨wr.heap.size, 1, none⟩ = some (.int .i64 (T : Int)) := by simp
          have e2 : (wr.alloc (.cells #[.int .i64 (F : Int), .int .i64 (T : Int), .string r] 45)).cell? ⟨wr.heap.size, 2, none⟩ = some (.string r) := by simp
          have d2 : (wr.alloc (.cells #[.int .i64 (F : Int), .int .i64 (T : Int), .string r] 45)).cell? ⟨ga, oa + i * 3 + 2, none⟩ = some (.string s) := (World.cell?_alloc_lt wr _ ⟨ga, oa + i * 3 + 2, none⟩ (Nat.lt_of_lt_of_le hga hsz)).trans c2
          have hry : wr.heap.size < (wr.alloc (.cells #[.int .i64 (F : Int), .int .i64 (T : Int), .string r] 45)).heap.size := by simp
          clear hx v0 v1 v2 a1 a2 a3 a4 a5 a6 a7 a8 hy5 m1 hF hT hr0 hrb HA O R HI hlt2 c0 c1 c2
          subst hA1
          subst hA5
          go_upto_region 13 with fail
          clear m0 m1' m2 hsz
          generalize wr.alloc (.cells #[.int .i64 (F : Int), .int .i64 (T : Int), .string r] 45) = wy at *
          generalize hrr : wr.heap.size = hr at *
          clear hrr
          go_cut [117] (fun s117 wx => s117 = .bool false ∧ Hid (Drawn wy wx))
          case first =>
            by_cases hcp : cap4 = F
            · subst hcp
              have hTF : T ≤ cap4 := by omega
              have hcvb : ∀ m, (convert 22 9 (.slice A4 0 0)).run Tryd.prog (wy.drewN m) = .ok (.string s) (wy.drewN m) := fun m => by
                have h := HCv.out A4 (.inr (by omega)) (wy.drewN m) (below_drewN RY.out m)
                rwa [show T - cap4 = 0 by omega, Nat.sub_self] at h
              go_quiet (fail)
              go_wp2_with fail
              go_meet
              case rel => exact ⟨rfl, (Drawn.refl wy).quiet nq⟩
            · have hTc : T ≤ cap4 := by omega
              have hcvb := fun m => HCv.out _ (.inl rfl) (wy.drewN m) (below_drewN RY.out m)
              go_quiet (fail)
              go_wp2_with fail
              go_meet
              case rel => exact ⟨rfl, (Drawn.refl wy).quiet nq⟩
          case rest =>
            obtain ⟨rfl, HD⟩ := hcut
            have x0 : wc.cell? ⟨hr, 0, none⟩ = some (.int .i64 (F : Int)) := by obtain ⟨m, hm⟩ := HD.out; rw [hm]; exact e0
            have x1 : wc.cell? ⟨hr, 1, none⟩ = some (.int .i64 (T : Int)) := by obtain ⟨m, hm⟩ := HD.out; rw [hm]; exact e1
            have x2 : wc.cell? ⟨hr, 2, none⟩ = some (.string r) := by obtain ⟨m, hm⟩ := HD.out; rw [hm]; exact e2
            have OX : Hid (OwnK .u8 5 wc.drew w5.heap.size u10 (bl.take p)) := by obtain ⟨m, hm⟩ := HD.out; rw [hm]; exact OY.out
            have RX : Hid (Below w5.heap.size w5 wc.drew) := by obtain ⟨m, hm⟩ := HD.out; rw [hm]; exact (below_drewN RY.out m).drew
            have hrx : Hid (hr < wc.drew.heap.size) := by obtain ⟨m, hm⟩ := HD.out; rw [hm]; exact hry
            have KX : Hid (wc.drew.cell? ⟨hr, 0, none⟩ = some (.int .i64 (F : Int)) ∧ wc.drew.cell? ⟨hr, 1, none⟩ = some (.int .i64 (T : Int)) ∧ wc.drew.cell? ⟨hr, 2, none⟩ = some (.string r)) := ⟨x0, x1, x2⟩
            have hownr := hownr0
            clear HD e0 e1 e2 d2 OY RY hry hownr0 HCv hd1 hd2 hd3
            generalize wc = wx at *
            by_cases hcp : cap4 = q
            · subst hcp
              have hfq : F ≤ cap4 := by omega
              have hlen0 : Hid ((((done bl L).drop cap4).take (F - cap4)).length = 0) := by show _ = _; rw [hlen2.out]; omega
              go_wp2_with fail
              go_region_held_law (fun W => W.cell? ⟨hr, 0, none⟩ = some (.int .i64 (F : Int)) ∧ W.cell? ⟨hr, 1, none⟩ = some (.int .i64 (T : Int)) ∧ W.cell? ⟨hr, 2, none⟩ = some (.string r)) (first | exact KV2.out | exact KV.out | exact KX.out | go_keep)
              (first | (refine step_app u8_slice _ (by rfl) (.tmp 118) (.tmp 123) (by rfl) w5.heap.size u10 (bl.take p) (by rfl) OX.out w5.heap.size _ 0 _ (((done bl L).drop cap4).take (F - cap4)) (by rfl) (HP.out _ (.inr hfq) _ RX.out).2 hlen0.out hlen1.out hlen3.out RX.out.size ?_; intro v6 w6 o6 g6 t6; have R6 : Hid (Below w5.heap.size w5 w6) := RX.out.grown g6 RX.out.size (own_ge OX.out); have O6 := Lib.hid o6; have KV : Hid (w6.cell? ⟨hr, 0, none⟩ = some (.int .i64 (F : Int)) ∧ w6.cell? ⟨hr, 1, none⟩ = some (.int .i64 (T : Int)) ∧ w6.cell? ⟨hr, 2, none⟩ = some (.string r)) := ⟨(g6.cell_far ⟨hr, 0, none⟩ hrx.out (fun e => absurd (hownr.out _ e.symm) (Nat.lt_irrefl _))).trans KX.out.1, (g6.cell_far ⟨hr, 1, none⟩ hrx.out (fun e => absurd (hownr.out _ e.symm) (Nat.lt_irrefl _))).trans KX.out.2.1, (g6.cell_far ⟨hr, 2, none⟩ hrx.out (fun e => absurd (hownr.out _ e.symm) (Nat.lt_irrefl _))).trans KX.out.2.2⟩; have hr6 : Hid (hr < w6.heap.size) := Nat.lt_of_lt_of_le hrx.out g6.size; have hne6 : Hid (v6.ownBlock ≠ some hr) := (fun e => t6.elim (fun h => absurd (hownr.out _ (h ▸ e)) (Nat.lt_irrefl _)) (fun h => absurd (Option.some.inj (h.symm.trans e)) (Nat.ne_of_gt hrx.out))); clear o6 g6 t6) | (refine step_app_str u8_slice Tryd.underlying9 _ (by rfl) (.tmp 124) (.tmp 126) (by rfl) w5.heap.size v6 _ (by rfl) O6.out r (by rfl) hlen4.out hlen5.out R6.out.size ?_; intro v7 w7 o7 g7 t7; have R7 : Hid (Below w5.heap.size w5 w7) := R6.out.grown g7 R6.out.size (own_ge O6.out); have O7 : Hid (OwnK .u8 5 w7 w5.heap.size v7 (bl.take p ++ ((done bl L).drop cap4).take (F - cap4) ++ bts r)) := o7; have KV2 : Hid (w7.cell? ⟨hr, 0, none⟩ = some (.int .i64 (F : Int)) ∧ w7.cell? ⟨hr, 1, none⟩ = some (.int .i64 (T : Int)) ∧ w7.cell? ⟨hr, 2, none⟩ = some (.string r)) := ⟨(g7.cell_far ⟨hr, 0, none⟩ hr6.out (fun e => hne6.out e.symm)).trans KV.out.1, (g7.cell_far ⟨hr, 1, none⟩ hr6.out (fun e => hne6.out e.symm)).trans KV.out.2.1, (g7.cell_far ⟨hr, 2, none⟩ hr6.out (fun e => hne6.out e.symm)).trans KV.out.2.2⟩; have kT7 := KV2.out.2.1; clear o7 g7 t7) | fail)
              rw [HBk.out] at O7
              go_wp2_with fail
              go_roundg (k - i)
              case measure => exact HM2.out.1
              case rel => exact ⟨i + 1, tn, T, by go_num, rfl, HM2.out.2, HAn.out, O7.out, R7.out⟩
            · have hfc : F ≤ cap4 := by omega
              go_wp2_with fail
              go_region_held_law (fun W => W.cell? ⟨hr, 0, none⟩ = some (.int .i64 (F : Int)) ∧ W.cell? ⟨hr, 1, none⟩ = some (.int .i64 (T : Int)) ∧ W.cell? ⟨hr, 2, none⟩ = some (.string r)) (first | exact KV2.out | exact KV.out | exact KX.out | go_keep)
              (first | (refine step_app u8_slice _ (by rfl) (.tmp 118) (.tmp 123) (by rfl) w5.heap.size u10 (bl.take p) (by rfl) OX.out w5.heap.size _ (F - q) _ (((done bl L).drop q).take (F - q)) (by rfl) (HP.out _ (.inl rfl) _ RX.out).2 hlen2.out hlen1.out hlen3.out RX.out.size ?_; intro v6 w6 o6 g6 t6; have R6 : Hid (Below w5.heap.size w5 w6) := RX.out.grown g6 RX.out.size (own_ge OX.out); have O6 := Lib.hid o6; have KV : Hid (w6.cell? ⟨hr, 0, none⟩ = some (.int .i64 (F : Int)) ∧ w6.cell? ⟨hr, 1, none⟩ = some (.int .i64 (T : Int)) ∧ w6.cell? ⟨hr, 2, none⟩ = some (.string r)) := ⟨(g6.cell_far ⟨hr, 0, none⟩ hrx.out (fun e => absurd (hownr.out _ e.symm) (Nat.lt_irrefl _))).trans KX.out.1, (g6.cell_far ⟨hr, 1, none⟩ hrx.out (fun e => absurd (hownr.out _ e.symm) (Nat.lt_irrefl _))).trans KX.out.2.1, (g6.cell_far ⟨hr, 2, none⟩ hrx.out (fun e => absurd (hownr.out _ e.symm) (Nat.lt_irrefl _))).trans KX.out.2.2⟩; have hr6 : Hid (hr < w6.heap.size) := Nat.lt_of_lt_of_le hrx.out g6.size; have hne6 : Hid (v6.ownBlock ≠ some hr) := (fun e => t6.elim (fun h => absurd (hownr.out _ (h ▸ e)) (Nat.lt_irrefl _)) (fun h => absurd (Option.some.inj (h.symm.trans e)) (Nat.ne_of_gt hrx.out))); clear o6 g6 t6) | (refine step_app_str u8_slice Tryd.underlying9 _ (by rfl) (.tmp 124) (.tmp 126) (by rfl) w5.heap.size v6 _ (by rfl) O6.out r (by rfl) hlen4.out hlen5.out R6.out.size ?_; intro v7 w7 o7 g7 t7; have R7 : Hid (Below w5.heap.size w5 w7) := R6.out.grown g7 R6.out.size (own_ge O6.out); have O7 : Hid (OwnK .u8 5 w7 w5.heap.size v7 (bl.take p ++ ((done bl L).drop q).take (F - q) ++ bts r)) := o7; have KV2 : Hid (w7.cell? ⟨hr, 0, none⟩ = some (.int .i64 (F : Int)) ∧ w7.cell? ⟨hr, 1, none⟩ = some (.int .i64 (T : Int)) ∧ w7.cell? ⟨hr, 2, none⟩ = some (.string r)) := ⟨(g7.cell_far ⟨hr, 0, none⟩ hr6.out (fun e => hne6.out e.symm)).trans KV.out.1, (g7.cell_far ⟨hr, 1, none⟩ hr6.out (fun e => hne6.out e.symm)).trans KV.out.2.1, (g7.cell_far ⟨hr, 2, none⟩ hr6.out (fun e => hne6.out e.symm)).trans KV.out.2.2⟩; have kT7 := KV2.out.2.1; clear o7 g7 t7) | fail)
              rw [HBk.out] at O7
              go_wp2_with fail
              go_roundg (k - i)
              case measure => exact HM2.out.1
              case rel => exact ⟨i + 1, tn, T, by go_num, rfl, HM2.out.2, HAn.out, O7.out, R7.out⟩
        · have hltz : ¬ (i : Int) < (k : Int) := by omega
          obtain ⟨f1, f2, f3⟩ := HA.out.fin (by have := HK.out; omega)
          have hqz : q ≤ z := by have := HZ.out; omega
          have HP : Hid (∀ A', (A' = A4.map (·.add q) ∨ z ≤ q) → ∀ W, Below w5.heap.size w5 W → Byts W w5.heap.size A' (((done bl L).drop q).take (z - q))) := fun A' hA W hW => byts_cut (HX5.out W hW) q z hA
          have hlen1 : Hid ((bl.take p).length ≤ 500000) := by show _ ≤ _; rw [List.length_take]; have := HL0.out; omega
          have hlen2 : Hid ((((done bl L).drop q).take (z - q)).length = z - q) := by show _ = _; rw [List.length_take, List.length_drop]; have := HZ.out; omega
          have hlen3 : Hid ((((done bl L).drop q).take (z - q)).length ≤ 500000) := by show _ ≤ _; rw [hlen2.out]; omega
          have HBl : Hid (bl.take p ++ ((done bl L).drop q).take (z - q) = bl) := by
            have e : ((done bl L).drop q).take (z - q) = (done bl L).drop q := List.take_of_length_le (by rw [List.length_drop]; have := HZ.out; omega)
            show _ = _
            rw [e, f3, List.take_append_drop]
          clear f1 f2 f3 HA HI
          by_cases hcp : cap4 = q
          · subst hcp
            have hfq : z ≤ cap4 := by omega
            have hlen0 : Hid ((((done bl L).drop cap4).take (z - cap4)).length = 0) := by show _ = _; rw [hlen2.out]; omega
            go_wp2_with (first
              | (at_builtin
                 refine wpList_app u8_slice _ rfl (.tmp 131) (.tmp 134) rfl w5.heap.size u10 (bl.take p) rfl O.out w5.heap.size _ 0 _ (((done bl L).drop cap4).take (z - cap4)) rfl (HP.out _ (.inr hfq) _ R.out).2 hlen0.out hlen1.out hlen3.out R.out.size ?_
                 intro v6 w9 o6 g6 t6
                 have R9 : Hid (Below w5.heap.size w5 w9) := R.out.grown g6 R.out.size (own_ge O.out)
                 rw [HBl.out] at o6
                 obtain ⟨A9, cap9, hv9, k1, k2, k3⟩ := o6.nums
                 rw [HL0.out] at hv9
                 subst hv9
                 have HB9 : Hid (Byts w9 w9.heap.size A9 bl) := ⟨HBy.out, k3⟩
                 clear o6 g6 t6 k1 k2 k3)
              | fail)
            have B9 : Hid (Below w.heap.size w w9) := HB5.out _ R9.out
            have Q9 := Lib.hid (Equal_any A9 Ab nb cap9 nb capb bl bl HB9.out (HY.out _ B9.out) HL0.out HL0.out)
            have Ed : Hid (decide (bl = bl) = true) := decide_eq_true rfl
            rw [Ed.out] at Q9
            refine Q9.out.mono ?_
            rintro e w10 ⟨rfl, rfl⟩
            go_wp2_with fail
            refine (works_run _ (HH.out.below B9.out hlt)).mono ?_
            rintro e w11 ⟨rfl, hw11⟩
            go_wp2_with fail
            go_ret
            exact ⟨rfl, B9.out.trans (hw11.mono B9.out.size)⟩
          · have hcp2 : ¬ cap4 = q := hcp
            go_wp2_with (first
              | (at_builtin
                 refine wpList_app u8_slice _ rfl (.tmp 131) (.tmp 134) rfl w5.heap.size u10 (bl.take p) rfl O.out w5.heap.size _ (z - q) _ (((done bl L).drop q).take (z - q)) rfl (HP.out _ (.inl rfl) _ R.out).2 hlen2.out hlen1.out hlen3.out R.out.size ?_
                 intro v6 w9 o6 g6 t6
                 have R9 : Hid (Below w5.heap.size w5 w9) := R.out.grown g6 R.out.size (own_ge O.out)
                 rw [HBl.out] at o6
                 obtain ⟨A9, cap9, hv9, k1, k2, k3⟩ := o6.nums
                 rw [HL0.out] at hv9
                 subst hv9
                 have HB9 : Hid (Byts w9 w9.heap.size A9 bl) := ⟨HBy.out, k3⟩
                 clear o6 g6 t6 k1 k2 k3)
              | fail)
            have B9 : Hid (Below w.heap.size w w9) := HB5.out _ R9.out
            have Q9 := Lib.hid (Equal_any A9 Ab nb cap9 nb capb bl bl HB9.out (HY.out _ B9.out) HL0.out HL0.out)
            have Ed : Hid (decide (bl = bl) = true) := decide_eq_true rfl
            rw [Ed.out] at Q9
            refine Q9.out.mono ?_
            rintro e w10 ⟨rfl, rfl⟩
            go_wp2_with fail
            refine (works_run _ (HH.out.below B9.out hlt)).mono ?_
            rintro e w11 ⟨rfl, hw11⟩
            go_wp2_with fail
            go_ret
            exact ⟨rfl, B9.out.trans (hw11.mono B9.out.size)⟩
end Go.Proofs.YtmkpomnhmepmcaaDoor
