/-
  The contract of the document's Owner.
-/
import Derived.Test.YtkgaaabecdbidaaDoorMx02
import Derived.Test.YtkgaaabecdbidaaDoorMx10
import Derived.Test.YtkgaaabecdbidaaDoorMx04
import Derived.Test.YtkgaaabecdbidaaDoorMx12
namespace Go.Proofs.YtkgaaabecdbidaaDoor
open Go.RowKit
set_option linter.unusedSimpArgs false
set_option maxHeartbeats 4000000 in
set_option maxRecDepth 100000 in
theorem refOwner_run (A : Option Addr) (n cap : Nat) (tok m v : Int) (T : List Nd) (w : World) (hb : NdsAt w w.heap.size A T) (hl : Hid (T.length = n)) (hn : n ≤ 40) (hV : Hid (Valid T m)) (hv : Hid (ownerF T tok = v)) :
  Calls Tryd.prog 24 #[trV A n cap, .int .i64 tok] w fun e w' => e = .returned (.int .i64 v) ∧ Below w.heap.size w w' := by
 unfold trV
 obtain ⟨S, hS⟩ : ∃ S, w.heap.size = S := ⟨_, rfl⟩
 obtain ⟨W, hW⟩ : ∃ W, w.alloc (.cells #[.slice A n cap] 24) = W := ⟨_, rfl⟩
 have hB : Below S w W := by rw [← hW, ← hS]; exact (Below.refl _ _).alloc (Nat.le_refl _) _
 have hWS : W.heap.size = S + 1 := by rw [← hW, ← hS]; simp
 rw [hS] at hb ⊢
 have d0 : W.cell? ⟨S, 0, none⟩ = some (.slice A n cap) := by rw [← hW, ← hS]; simp
 have HG : Hid (NdsAt W S A T) := hb.below hB (Nat.le_refl _)
 have BX := Lib.hid hB
 have HW := Lib.hid hWS
 have HF0 : Hid (pickT (firstBad (fun i => !ownB T i tok) (n - 0) 0) = v) := by show _ = _; rw [Nat.sub_zero, ← hl.out]; exact hv.out
 clear hb hB hWS hv
 go_enter Tryd.func24, Tryd.ntmps24
 go_wp2_with fail
 go_loopg [5] (n + 1) (fun h s5 wr => ∃ i : Nat, s5 = .int .i64 i ∧ Hid (i ≤ n ∧ i + h = n + 1) ∧ Hid (pickT (firstBad (fun i => !ownB T i tok) (n - i) i) = v) ∧ Hid (Below (S + 1) W wr))
 case atStart => exact ⟨0, rfl, by show _ ∧ _; omega, HF0.out, Below.refl _ _⟩
 case round =>
  clear HF0
  obtain ⟨i, rfl, HI, HF, BW⟩ := hrel
  generalize wr = wq at *
  have d0' := (BW.out.cell (p := ⟨S, 0, none⟩) (by show S < _; omega)).trans d0
  have hsz : S + 1 ≤ wq.heap.size := by rw [← HW.out]; exact BW.out.size
  by_cases hi : i < n
  ·have hiz : (i : Int) < (n : Int) := by omega
   obtain ⟨o, ho⟩ : ∃ o, ownB T i tok = o := ⟨_, rfl⟩
   have HC := Lib.hid (refOwns_run A n cap i tok m T wq ((HG.out.below BW.out (by omega)).more (by omega)) hl hi hV o ho)
   have hfs : n - i = n - (i + 1) + 1 := by omega
   unfold trV at HC
   cases o with
   | true =>
    obtain rfl : v = (i : Int) := by rw [← HF.out, hfs, firstBad_hit (by simp [ho])]; rfl
    clear HF hfs ho
    go_wp2_with fail
    refine HC.out.mono ?_
    rintro e w1 ⟨rfl, hw⟩
    have BR : Hid (Below S w w1) := BX.out.trans ((BW.out.mono (by omega)).trans (hw.mono (by omega)))
    clear hw
    go_wp2_with fail
    go_ret
    exact ⟨rfl, BR.out⟩
   | false =>
    have HF2 : Hid (pickT (firstBad (fun i => !ownB T i tok) (n - (i + 1)) (i + 1)) = v) := by show _ = _; rw [← HF.out, hfs, firstBad_step (by simp [ho])]
    clear HF hfs ho
    go_wp2_with fail
    refine HC.out.mono ?_
    rintro e w1 ⟨rfl, hw⟩
    have BR : Hid (Below (S + 1) W w1) := BW.out.trans (hw.mono (by omega))
    clear hw
    go_wp2_with fail
    go_roundg (n - i)
    case measure => have := HI.out; omega
    case rel => exact ⟨i + 1, by go_num, by show _ ∧ _; have := HI.out; omega, HF2.out, BR.out⟩
  ·have hiz : ¬ (i : Int) < (n : Int) := by omega
   obtain rfl : v = -1 := by rw [← HF.out, show n - i = 0 by omega]; rfl
   have BR : Hid (Below S w wq) := BX.out.trans (BW.out.mono (by omega))
   clear HF
   go_wp2_with fail
   go_ret
   exact ⟨rfl, BR.out⟩
end Go.Proofs.YtkgaaabecdbidaaDoor
namespace Go.Proofs.YtkgaaabecdbidaaDoor
open Go.RowKit
set_option linter.unusedSimpArgs false
set_option linter.unusedVariables false
def SaysAt : Prop := ∀ (A : Option Addr) (n cap : Nat) (tok : Int) (T : List Nd) (w : World), TreeAt w A n T → (rootOf T).t ≤ 100 →
 Calls Tryd.prog 23 #[trV A n cap, .int .i64 tok] w fun e w' => e = .returned (.tuple #[.int .i64 (resOf (atE T tok) (ownerF T tok) 0), trErr (atE T tok)]) ∧ Below w.heap.size w w'
set_option maxHeartbeats 16000000 in
set_option maxRecDepth 100000 in
theorem Texts_law (hA : SaysAt) (hT : SaysText) (A : Option Addr) (n cap : Nat) (tok : Int) (T : List Nd) (W : World) (hb : NdsAt W W.heap.size A T) (hl : T.length = n) (hcap : n ≤ 9223372036854775807) :
  Calls Tryd.prog 5 #[trV A n cap, .int .i64 tok] W fun e w' => e = .returned (.bool true) ∧ Below W.heap.size W w' := by
 have HFW := Lib.hid (fun w h1 h2 => FewT_run A n cap W.heap.size T w h1 h2 hl hcap)
 have HFS := Lib.hid (fun (A1 : Option Addr) (l c1 : Nat) (w1 : World) h hl hw => @law_few W w1 A A1 n cap l c1 T 24 h hl hw)
 have HB0 : Hid (NdsAt (W.alloc (.cells #[.slice A n cap] 24)) W.heap.size A T ∧ W.heap.size ≤ (W.alloc (.cells #[.slice A n cap] 24)).heap.size) := ⟨hb.below ((Below.refl _ _).alloc (Nat.le_refl _) _) (Nat.le_refl _), by simp⟩
 obtain ⟨L, hL⟩ : ∃ L, fewT T = L := ⟨_, rfl⟩
 rw [hL] at HFW HFS
 obtain ⟨l, hll⟩ : ∃ l, L.length = l := ⟨_, rfl⟩
 have HSM : Hid (SmallT L) := by show SmallT _; rw [← hL]; exact few_smallT T
 have HL := Lib.hid hll
 have hl40 : l ≤ 40 := by rw [← hll]; exact HSM.out.1
 obtain ⟨k, hk⟩ : ∃ k : Int, ((sndT L).1 : Int) = k := ⟨_, rfl⟩
 obtain ⟨a, ha⟩ : ∃ a : Int, (sndT L).2 = a := ⟨_, rfl⟩
 obtain ⟨fv, hfv⟩ : ∃ v, decide (0 < l ∧ 100 < (rootOf L).t) = v := ⟨_, rfl⟩
 have HSN := Lib.hid (fun A c w (h : TreeAt w A l L) => refSound_run A l c L k a w h.at_ HL.out HSM.out hk ha)
 have HFR := Lib.hid (fun A c w (h : TreeAt w A l L) => far_run A l c L w h.at_ HL.out hl40 fv hfv)
 have HW := Lib.hid (works13_run hT)
 have HA0 := Lib.hid hA
 have HT0 := Lib.hid hT
 have HK := Lib.hid hk
 have HFV := Lib.hid hfv
 clear hb hL hl hll hk ha hfv hT hA
 unfold FewOutT at HFW
 unfold trV at *
 obtain ⟨S, hS⟩ : ∃ S, W.heap.size = S := ⟨_, rfl⟩
 rw [hS] at HFW HFS HB0 ⊢
 go_enter Tryd.func5, Tryd.ntmps5
 go_wp2_with fail
 refine (HFW.out _ HB0.out.1 HB0.out.2).mono ?_
 rintro e w1 ⟨v, rfl, A1, c1, rfl, _, _, hn1, hw1⟩
 rw [HL.out]
 obtain ⟨c0, f0, V, hV, d0, hTA, hBV, hsV⟩ := HFS.out A1 l c1 w1 hn1 HL.out hw1
 have HTA := Lib.hid hTA
 have BV := Lib.hid hBV
 clear HFW HFS HB0 hn1 hw1 hTA hBV
 go_wp2_with fail
 refine (HFR.out A1 c1 V HTA.out).mono ?_
 rintro e w2 ⟨rfl, hw2⟩
 have H2 := Lib.hid (HTA.out.below hw2)
 have B2 : Hid (Below S W w2) := BV.out.trans (hw2.mono (by omega))
 have d2 := (hw2.cell (p := ⟨S, 0, none⟩) hsV).trans d0
 have hs2 : S < w2.heap.size := by have := hw2.size; omega
 clear hw2 HFR HTA BV d0 hsV hV c0 f0
 cases fv with
 | true =>
  go_wp2_with fail
  refine (HW.out w2).mono ?_
  rintro e w4 ⟨rfl, hw4⟩
  have B4 : Hid (Below S W w4) := B2.out.trans (hw4.mono (by omega))
  clear hw4
  go_wp2_with fail
  go_ret
  exact ⟨rfl, B4.out⟩
 | false =>
  have HR : Hid ((rootOf L).t ≤ 100) := by
   show _ ≤ _
   rcases Nat.eq_zero_or_pos l with h0 | h0
   ·have : L = [] := List.eq_nil_of_length_eq_zero (by rw [HL.out]; exact h0)
    rw [this]
    decide
   ·have := of_decide_eq_false HFV.out
    omega
  have HTT := Lib.hid (fun A c w h => HT0.out A l c L w h HR.out)
  have HAA := Lib.hid (fun A c w h => HA0.out A l c tok L w h HR.out)
  clear HT0 HA0 HFV
  go_wp2_with fail
  refine (HSN.out A1 c1 w2 H2.out).mono ?_
  rintro e w3 ⟨rfl, hw3⟩
  have H3 := Lib.hid (H2.out.below hw3)
  have B3 : Hid (Below S W w3) := B2.out.trans (hw3.mono (by omega))
  have d3 := (hw3.cell (p := ⟨S, 0, none⟩) hs2).trans d2
  have hs3 : S < w3.heap.size := by have := hw3.size; omega
  clear hw3 HSN H2 B2 d2 hs2
  by_cases hk0 : k = 0
  rotate_left
  ·have hs1 : ¬ (sndT L).1 = 0 := by have := HK.out; omega
   have he2 : atE L tok = sndT L := resOf_bad hs1 _ _
   have HCode := Lib.hid (fun w => code_trErr (sndT L) (chkT_le L _).1 k HK.out w)
   rw [he2] at HAA
   simp only [resOf_bad hs1] at HTT HAA
   obtain ⟨x, hx⟩ : ∃ x, trErr (sndT L) = x := ⟨_, rfl⟩
   rw [hx] at HCode HTT HAA
   have hkb : (k == 0) = false := by simpa using hk0
   clear hx he2 hs1 HK
   go_wp2_with fail
   refine (HTT.out A1 c1 w3 H3.out).mono ?_
   rintro e w4 ⟨rfl, hw4⟩
   have H4 := Lib.hid (H3.out.below hw4)
   have B4 : Hid (Below S W w4) := B3.out.trans (hw4.mono (by omega))
   have d4 := (hw4.cell (p := ⟨S, 0, none⟩) hs3).trans d3
   have hs4 : S < w4.heap.size := by have := hw4.size; omega
   clear hw4 HTT H3 B3 d3 hs3
   go_wp2_with fail
   refine (HAA.out A1 c1 w4 H4.out).mono ?_
   rintro e w5 ⟨rfl, hw5⟩
   have B5 : Hid (Below S W w5) := B4.out.trans (hw5.mono (by omega))
   have hs5 : S < w5.heap.size := by have := hw5.size; omega
   clear hw5 HAA H4 B4 d4 hs4
   go_wp2_with fail
   refine (HCode.out _).mono ?_
   rintro e w7 ⟨rfl, hw7⟩
   have B7 : Hid (Below S W w7) := B5.out.trans (hw7.mono (by omega))
   have hs7 : S < w7.heap.size := by have := hw7.size; omega
   clear hw7
   go_wp2_with fail
   refine (HCode.out _).mono ?_
   rintro e w9 ⟨rfl, hw9⟩
   have B9 : Hid (Below S W w9) := B7.out.trans (hw9.mono (by omega))
   have hs9 : S < w9.heap.size := by have := hw9.size; omega
   clear hw9
   go_wp2_with fail
   refine (HW.out _).mono ?_
   rintro e w11 ⟨rfl, hw11⟩
   have B11 : Hid (Below S W w11) := B9.out.trans (hw11.mono (by omega))
   clear hw11
   go_wp2_with fail
   go_ret
   exact ⟨rfl, B11.out⟩
  ·subst hk0
   have hs1 : (sndT L).1 = 0 := by have := HK.out; omega
   have HVL : Hid (Valid L (rootOf L).t) := chk_valid hs1
   have hpos : 0 < l := by rw [← HL.out]; exact HVL.out.pos
   obtain ⟨p, hp⟩ : ∃ p, l - 1 = p := ⟨_, rfl⟩
   have hpl : p < l := by omega
   have hplz : (p : Int) < (l : Int) := by omega
   have hw1 : IntKind.i64.wrap ((l : Int) - 1) = (p : Int) := by rw [IntKind.wrap_i64]; omega
   have hrt := root_at HL.out hpos
   rw [hp] at hrt
   have HRT := Lib.hid hrt
   have he2 : atE L tok = if (0 ≤ tok ∧ tok < (rootOf L).t) ∧ 0 ≤ ownerF L tok then (0, -1) else (4, -1) := resOf_ok hs1 _ _
   simp only [resOf_ok hs1, trErr_zero hs1, hp] at HTT
   have HDP := Lib.hid (fun A c w (h : TreeAt w A l L) => refText_run A l c (rootOf L).t L HL.out hl40 HVL.out HR.out p w h.at_ hpl)
   have HOW := Lib.hid (fun A c w (h : TreeAt w A l L) => refOwner_run A l c tok (rootOf L).t (ownerF L tok) L w h.at_ HL.out hl40 HVL.out rfl)
   obtain ⟨tx, htx⟩ : ∃ t, textF L p = t := ⟨_, rfl⟩
   rw [htx] at HTT HDP
   obtain ⟨ow, how⟩ : ∃ o, ownerF L tok = o := ⟨_, rfl⟩
   rw [how] at he2 HOW HAA
   have hOW : ow = -1 ∨ 0 ≤ ow := by
    rw [← how]
    unfold ownerF
    cases firstBad (fun i => !ownB L i tok) L.length 0 with
    | none => exact .inl rfl
    | some i => exact .inr (by show (0 : Int) ≤ (i : Int); omega)
   obtain ⟨rt, hrtt⟩ : ∃ t, (rootOf L).t = t := ⟨_, rfl⟩
   have HRTT := Lib.hid hrtt
   rw [hrtt] at he2
   clear hs1 HK htx hp hrt how hrtt
   go_wp2_with fail
   refine (HTT.out A1 c1 w3 H3.out).mono ?_
   rintro e w4 ⟨rfl, hw4⟩
   have H4 := Lib.hid (H3.out.below hw4)
   have B4 : Hid (Below S W w4) := B3.out.trans (hw4.mono (by omega))
   have d4 := (hw4.cell (p := ⟨S, 0, none⟩) hs3).trans d3
   have hs4 : S < w4.heap.size := by have := hw4.size; omega
   clear hw4 HTT H3 B3 d3 hs3
   have HC4 := Lib.hid (code_errno 4 (by decide) (by decide))
   have hcase : (tok < 0 ∨ (0 ≤ tok ∧ rt ≤ tok)) ∨ ((0 ≤ tok ∧ tok < rt) ∧ ow = -1) ∨ ((0 ≤ tok ∧ tok < rt) ∧ 0 ≤ ow) := by omega
   rcases hcase with hc | ⟨⟨ht1, ht2⟩, ho⟩ | ⟨⟨ht1, ht2⟩, ho⟩
   ·have he : atE L tok = (4, -1) := by rw [he2, if_neg (by omega)]
    have hr4 : resOf (atE L tok) ow 0 = 0 := by rw [he]; rfl
    have ht4 : trErr (atE L tok) = errno 4 := by rw [he]; rfl
    rw [hr4, ht4] at HAA
    unfold errno at HAA HC4
    clear he he2 hr4 ht4 hOW
    go_wp2_with fail
    refine (HAA.out A1 c1 w4 H4.out).mono ?_
    rintro e w5 ⟨rfl, hw5⟩
    have H5 := Lib.hid (H4.out.below hw5)
    have B5 : Hid (Below S W w5) := B4.out.trans (hw5.mono (by omega))
    have d5 := (hw5.cell (p := ⟨S, 0, none⟩) hs4).trans d4
    have hs5 : S < w5.heap.size := by have := hw5.size; omega
    obtain ⟨b, o, rfl, hbB, hget⟩ := H5.out.at_.get (by have := HL.out; omega)
    obtain ⟨K, q, cc, _, _, g2, _, gm, _, _, _⟩ := hget p _ HRT.out
    rw [HRTT.out] at g2
    clear hw5 HAA H4 B4 d4 hs4 hget gm
    have HX := H5
    have BX := B5
    have dx := d5
    have hsx := hs5
    clear H5 B5 d5 hs5 HOW
    rcases hc with h | ⟨h, h2⟩
    all_goals
     go_wp2_with fail
     refine (HC4.out _).mono ?_
     rintro e w6 ⟨rfl, hw6⟩
     have H6 := Lib.hid (HX.out.below hw6)
     have B6 : Hid (Below S W w6) := BX.out.trans (hw6.mono (by omega))
     have d6 := (hw6.cell (p := ⟨S, 0, none⟩) hsx).trans dx
     have hs6 : S < w6.heap.size := by have := hw6.size; omega
     clear hw6 HX BX dx hsx
     go_wp2_with fail
     refine (HDP.out _ c1 w6 H6.out).mono ?_
     rintro e w7 ⟨rfl, hw7⟩
     have B7 : Hid (Below S W w7) := B6.out.trans (hw7.mono (by omega))
     have hs7 : S < w7.heap.size := by have := hw7.size; omega
     clear hw7
     go_wp2_with fail
     refine (HW.out _).mono ?_
     rintro e w8 ⟨rfl, hw8⟩
     have B8 : Hid (Below S W w8) := B7.out.trans (hw8.mono (by omega))
     clear hw8
     go_wp2_with fail
     go_ret
     exact ⟨rfl, B8.out⟩
   ·subst ho
    have he : atE L tok = (4, -1) := by rw [he2, if_neg (by omega)]
    have hr4 : resOf (atE L tok) (-1 : Int) 0 = 0 := by rw [he]; rfl
    have ht4 : trErr (atE L tok) = errno 4 := by rw [he]; rfl
    rw [hr4, ht4] at HAA
    unfold errno at HAA HC4
    clear he he2 hr4 ht4 hOW
    go_wp2_with fail
    refine (HAA.out A1 c1 w4 H4.out).mono ?_
    rintro e w5 ⟨rfl, hw5⟩
    have H5 := Lib.hid (H4.out.below hw5)
    have B5 : Hid (Below S W w5) := B4.out.trans (hw5.mono (by omega))
    have d5 := (hw5.cell (p := ⟨S, 0, none⟩) hs4).trans d4
    have hs5 : S < w5.heap.size := by have := hw5.size; omega
    obtain ⟨b, o, rfl, hbB, hget⟩ := H5.out.at_.get (by have := HL.out; omega)
    obtain ⟨K, q, cc, _, _, g2, _, gm, _, _, _⟩ := hget p _ HRT.out
    rw [HRTT.out] at g2
    clear hw5 HAA H4 B4 d4 hs4 hget gm
    go_wp2_with fail
    refine (HOW.out _ c1 w5 H5.out).mono ?_
    rintro e wx ⟨rfl, hwx⟩
    have HX := Lib.hid (H5.out.below hwx)
    have BX : Hid (Below S W wx) := B5.out.trans (hwx.mono (by omega))
    have dx := (hwx.cell (p := ⟨S, 0, none⟩) hs5).trans d5
    have hsx : S < wx.heap.size := by have := hwx.size; omega
    clear hwx H5 B5 d5 hs5 HOW g2
    go_wp2_with fail
    refine (HC4.out _).mono ?_
    rintro e w6 ⟨rfl, hw6⟩
    have H6 := Lib.hid (HX.out.below hw6)
    have B6 : Hid (Below S W w6) := BX.out.trans (hw6.mono (by omega))
    have d6 := (hw6.cell (p := ⟨S, 0, none⟩) hsx).trans dx
    have hs6 : S < w6.heap.size := by have := hw6.size; omega
    clear hw6 HX BX dx hsx
    go_wp2_with fail
    refine (HDP.out _ c1 w6 H6.out).mono ?_
    rintro e w7 ⟨rfl, hw7⟩
    have B7 : Hid (Below S W w7) := B6.out.trans (hw7.mono (by omega))
    have hs7 : S < w7.heap.size := by have := hw7.size; omega
    clear hw7
    go_wp2_with fail
    refine (HW.out _).mono ?_
    rintro e w8 ⟨rfl, hw8⟩
    have B8 : Hid (Below S W w8) := B7.out.trans (hw8.mono (by omega))
    clear hw8
    go_wp2_with fail
    go_ret
    exact ⟨rfl, B8.out⟩
   ·have he : atE L tok = (0, -1) := by rw [he2, if_pos ⟨⟨ht1, ht2⟩, ho⟩]
    have hr4 : resOf (atE L tok) ow 0 = ow := by rw [he]; rfl
    have ht4 : trErr (atE L tok) = .nilIface := by rw [he]; rfl
    rw [hr4, ht4] at HAA
    clear he he2 hr4 ht4 hOW HC4
    go_wp2_with fail
    refine (HAA.out A1 c1 w4 H4.out).mono ?_
    rintro e w5 ⟨rfl, hw5⟩
    have H5 := Lib.hid (H4.out.below hw5)
    have B5 : Hid (Below S W w5) := B4.out.trans (hw5.mono (by omega))
    have d5 := (hw5.cell (p := ⟨S, 0, none⟩) hs4).trans d4
    have hs5 : S < w5.heap.size := by have := hw5.size; omega
    obtain ⟨b, o, rfl, hbB, hget⟩ := H5.out.at_.get (by have := HL.out; omega)
    obtain ⟨K, q, cc, _, _, g2, _, gm, _, _, _⟩ := hget p _ HRT.out
    rw [HRTT.out] at g2
    clear hw5 HAA H4 B4 d4 hs4 hget gm
    go_wp2_with fail
    refine (HOW.out _ c1 w5 H5.out).mono ?_
    rintro e wx ⟨rfl, hwx⟩
    have HX := Lib.hid (H5.out.below hwx)
    have BX : Hid (Below S W wx) := B5.out.trans (hwx.mono (by omega))
    have dx := (hwx.cell (p := ⟨S, 0, none⟩) hs5).trans d5
    have hsx : S < wx.heap.size := by have := hwx.size; omega
    clear hwx H5 B5 d5 hs5 HOW g2
    have H6 := HX
    have B6 := BX
    have d6 := dx
    have hs6 := hsx
    clear HX BX dx hsx
    go_wp2_with fail
    refine (HDP.out _ c1 _ H6.out).mono ?_
    rintro e w7 ⟨rfl, hw7⟩
    have B7 : Hid (Below S W w7) := B6.out.trans (hw7.mono (by omega))
    have hs7 : S < w7.heap.size := by have := hw7.size; omega
    clear hw7
    go_wp2_with fail
    refine (HW.out _).mono ?_
    rintro e w8 ⟨rfl, hw8⟩
    have B8 : Hid (Below S W w8) := B7.out.trans (hw8.mono (by omega))
    clear hw8
    go_wp2_with fail
    go_ret
    exact ⟨rfl, B8.out⟩
end Go.Proofs.YtkgaaabecdbidaaDoor
namespace Go.Proofs.YtkgaaabecdbidaaDoor
open Go.RowKit
set_option linter.unusedSimpArgs false
set_option linter.unusedVariables false
set_option maxHeartbeats 4000000 in
set_option maxRecDepth 100000 in
theorem at1_run (c f t : Int) (j : Nat) (a b : Nat) (tok d : Int) (w : World) (h1 : VarAt w a (.int .i64 tok)) (h2 : VarAt w b (.int .i64 d)) :
  Calls Tryd.prog 46 #[.agg #[.int .i64 c, .int .i64 j, .int .i64 f, .int .i64 t], .pointer (some ⟨a, 0, none⟩), .pointer (some ⟨b, 0, none⟩)] w fun e w' => e = .returned (.tuple #[]) ∧ VarAt w' b (.int .i64 (atS tok d ⟨c, j, f, t⟩)) ∧ But w w' [b] := by
 obtain ⟨V, hV⟩ : ∃ V, w.alloc (.cells #[.int .i64 c, .int .i64 j, .int .i64 f, .int .i64 t] 64) = V := ⟨_, rfl⟩
 have hB : Below w.heap.size w V := by rw [← hV]; exact (Below.refl _ _).alloc (Nat.le_refl _) _
 have hs1 : V.cell? ⟨w.heap.size, 1, none⟩ = some (.int .i64 j) := by rw [← hV]; simp
 have hs2 : V.cell? ⟨w.heap.size, 2, none⟩ = some (.int .i64 f) := by rw [← hV]; simp
 have hs3 : V.cell? ⟨w.heap.size, 3, none⟩ = some (.int .i64 t) := by rw [← hV]; simp
 have V2 := Lib.hid (h2.below hB)
 have B0 : Hid (But w V [b]) := But.of_below hB
 have a1 := (h1.below hB).1
 have b1 := V2.out.1
 have b2 := V2.out.2
 clear hB h1 h2
 unfold atS
 by_cases h1 : f ≤ tok
 ·by_cases h2 : tok < t
  ·rw [if_pos ⟨h1, h2⟩]
   go_enter Tryd.func46, Tryd.ntmps46
   go_wp2_with fail
   go_end0
   exact ⟨rfl, V2.out.set _, B0.out.setCell (p := ⟨b, 0, none⟩) (by simp) _⟩
  ·rw [if_neg fun h => h2 h.2]
   go_enter Tryd.func46, Tryd.ntmps46
   go_wp2_with fail
   go_end0
   exact ⟨rfl, V2.out, B0.out⟩
 ·rw [if_neg fun h => h1 h.1]
  go_enter Tryd.func46, Tryd.ntmps46
  go_wp2_with fail
  go_end0
  exact ⟨rfl, V2.out, B0.out⟩
theorem at_act {T : List Nd} (S a b : Nat) (tok : Int) (ha : a < S) (hb : b < S) (hab : a ≠ b) : ActW T S 46 #[.pointer (some ⟨a, 0, none⟩), .pointer (some ⟨b, 0, none⟩)] (fun D bs w => bs = [b] ∧ VarAt w a (.int .i64 tok) ∧ VarAt w b (.int .i64 (D.foldl (atS tok) (-1)))) := by
 refine ⟨entersP_of Tryd.func46 (by kernel_rfl) rfl, fun D s R bs w hs hI hS => ?_, fun D bs w w' hI hap => ?_⟩
 ·obtain ⟨rfl, h1, h2⟩ := hI
  refine (at1_run s.c s.f s.t s.j a b tok _ w h1 h2).mono ?_
  rintro e w' ⟨rfl, k1, k3⟩
  refine ⟨rfl, [b], ⟨rfl, h1.but k3 (by simpa using hab), ?_⟩, k3, fun x hx => ⟨.inl hx, ?_⟩⟩
  ·rw [List.foldl_append]; exact k1
  ·have := k3.size
   simp at hx
   omega
 ·obtain ⟨rfl, h1, h2⟩ := hI
  exact ⟨rfl, h1.heap (hap.block a h1.lt (.inr ha)), h2.heap (hap.block b h2.lt (.inl (by simp)))⟩
theorem at_err {T : List Nd} {m : Int} (hV : Valid T m) (hk : (sndT T).1 = 0) (tok : Int) : (ownerF T tok = -1 → atE T tok = (4, -1)) ∧ (ownerF T tok ≠ -1 → atE T tok = (0, -1)) := by
 unfold atE
 rw [resOf_ok hk]
 refine ⟨fun h => if_neg fun hh => by rw [h] at hh; exact absurd hh.2 (by decide), fun h => if_pos ?_⟩
 have hr := hV.num (T.length - 1) (by have := hV.pos; omega)
 have h0 : 0 ≤ (rootOf T).f := hr.2.2.1
 have hin : (rootOf T).f ≤ tok ∧ tok < (rootOf T).t := by
  refine Classical.byContradiction fun hno => h (owner_none fun i hi => ?_)
  cases ho : ownB T i tok with
  | false => rfl
  | true =>
   have := hV.root _ i rfl hi (own_iff.1 ho).1
   exact absurd ⟨this.1, this.2⟩ hno
 obtain ⟨i, hi, ho⟩ := hV.owned hin.1 hin.2
 rw [hV.owner hi ho]
 omega
set_option maxHeartbeats 8000000 in
set_option maxRecDepth 100000 in
theorem At_runT : SaysAt := by
 intro A n cap tok T w h ht100
 have hl := Lib.hid h.len
 have hn40 := h.small.1
 obtain ⟨S, hS⟩ : ∃ S, w.heap.size = S := ⟨_, rfl⟩
 obtain ⟨W, hW⟩ : ∃ W, (w.alloc (.cells #[.slice A n cap] 24)).alloc (.cells #[.int .i64 tok] 3) = W := ⟨_, rfl⟩
 have hC0 : CSt S A n cap T w W := by
  rw [← hW, ← hS]
  exact (CSt.start (cap := cap) h 24 rfl).on ((Below.refl _ _).alloc (Nat.le_refl _) _)
 have hX0 : VarAt W (S + 1) (.int .i64 tok) := by
  rw [← hW, ← hS]
  have := VarAt.new (w.alloc (.cells #[.slice A n cap] 24)) (.int .i64 tok) 3
  rwa [World.size_alloc] at this
 have HC := Lib.hid (fun V hV => check_runT A n cap T V hV)
 rw [hS]
 have C0 := Lib.hid hC0
 have X0 := Lib.hid hX0
 have d0 := hC0.e0
 have H40 := Lib.hid hn40
 have hmf' := hmf
 clear h hC0 ht100 hn40 hX0
 by_cases hk : (sndT T).1 = 0
 ·have hV := chk_valid hk
  have HV := Lib.hid hV
  have he := trErr_zero hk
  rw [he] at HC
  have HWK := Lib.hid (fun (W2 : World) B a b (hB : NdsAt W2 B A T) (hBW : B ≤ W2.heap.size) (hI : VarAt W2 a (.int .i64 tok) ∧ VarAt W2 b (.int .i64 (-1))) (hb : a ≠ b ∧ B ≤ b ∧ a < W2.heap.size ∧ b < W2.heap.size) => walk_run (n := n) (cap := cap) (at_act (T := T) W2.heap.size a b tok hb.2.2.1 hb.2.2.2 hb.1) _ HV hl (by rw [← hl.out]; exact H40.out) hB hBW (bs0 := [b]) ⟨rfl, hI.1, hI.2⟩ (fun x hx => by simp at hx; omega))
  have HEND : Hid ((stepsW T (T.length - 1)).foldl (atS tok) (-1) = ownerF T tok) := at_all HV.out tok
  have HE := Lib.hid (at_err hV hk tok)
  clear hk hV he
  unfold trV at *
  go_enter Tryd.func23, Tryd.ntmps23
  go_wp2_with fail
  refine (HC.out W C0.out.tree).mono ?_
  rintro e w1 ⟨rfl, hw1⟩
  have C1 := Lib.hid (C0.out.on hw1)
  have X1 := Lib.hid (X0.out.below hw1)
  have d1 := C1.out.e0
  clear hw1 HC C0 d0 X0
  obtain ⟨N, hN⟩ : ∃ N, w1.heap.size = N := ⟨_, rfl⟩
  obtain ⟨w2, hw2⟩ : ∃ V, w1.alloc (.cells #[.int .i64 (-1)] 3) = V := ⟨_, rfl⟩
  have V1 : Hid (VarAt w2 (S + 1) (.int .i64 tok) ∧ VarAt w2 N (.int .i64 (-1))) := by
   subst hN
   rw [← hw2]
   exact ⟨X1.out.alloc _, VarAt.new _ _ _⟩
  have C2 : Hid (CSt S A n cap T w w2) := by rw [← hw2]; exact C1.out.on ((Below.refl _ _).alloc (Nat.le_refl _) _)
  have H2 : Hid (NdsAt w2 N A T) := by
   rw [← hN, ← hw2]
   exact C1.out.tree.at_.below ((Below.refl _ _).alloc (Nat.le_refl _) _) (Nat.le_refl _)
  have HS : Hid (w2.heap.size = N + 1 ∧ S + 1 < N) := by refine ⟨by rw [← hw2]; simp [hN], by have := X1.out.lt; omega⟩
  have d2 := C2.out.e0
  subst hw2
  have hSN : S < w1.heap.size := by have := HS.out.2; omega
  clear C1 X1
  go_wp2_with fail
  refine (HWK.out _ N (S + 1) N H2.out (by have := HS.out; omega) V1.out (by have := HS.out; omega)).mono ?_
  rintro e w3 ⟨rfl, bs', ⟨rfl, _, k2⟩, hbut⟩
  rw [HEND.out] at k2
  have hr := k2.1
  have BR : Hid (Below S w w3) := C2.out.bel.but hbut (fun x hx => by have := HS.out; simp at hx; omega) (by have := HS.out; omega)
  clear HWK k2 hbut C2 H2 V1
  obtain ⟨ow, how⟩ : ∃ x, ownerF T tok = x := ⟨_, rfl⟩
  rw [how] at hr HE
  by_cases ho : ow = -1
  ·have h4 : Hid (atE T tok = (4, -1)) := HE.out.1 ho
   subst ho
   clear HE HEND
   go_wp2_with fail
   go_ret2
   exact ⟨by rw [h4.out]; rfl, BR.out⟩
  ·have h4 : Hid (atE T tok = (0, -1)) := HE.out.2 ho
   have hob : (ow == -1) = false := by simp [ho]
   clear HE HEND
   go_wp2_with fail
   go_ret2
   exact ⟨by rw [h4.out, how]; rfl, BR.out⟩
 ·obtain ⟨te, ve, he⟩ := trErr_some hk
  have hE : Hid (atE T tok = sndT T) := by show _ = _; unfold atE; rw [resOf_bad hk]
  rw [hE.out, resOf_bad hk]
  rw [he] at HC ⊢
  unfold trV at *
  go_enter Tryd.func23, Tryd.ntmps23
  go_wp2_with fail
  refine (HC.out W C0.out.tree).mono ?_
  rintro e w1 ⟨rfl, hw1⟩
  have C1 := Lib.hid (C0.out.on hw1)
  clear hw1 HC C0 d0
  go_wp2_with fail
  go_ret2
  exact ⟨rfl, C1.out.bel⟩
end Go.Proofs.YtkgaaabecdbidaaDoor
namespace Go.Proofs.YtkgaaabecdbidaaDoor
open Go.RowKit
set_option linter.unusedSimpArgs false
set_option linter.unusedVariables false
theorem OwnK.heap {w w' : World} {base : Nat} {v : Value} {L : List Int} (h : OwnK .i64 3 w base v L) (hk : ∀ g, v.ownBlock = some g → w'.heap[g]? = w.heap[g]?) : OwnK .i64 3 w' base v L := by
 obtain ⟨h1, h2⟩ := h
 refine ⟨h1, ?_⟩
 rcases h2 with h2 | ⟨g, cap, cur, hv, hg, hh, r⟩
 ·exact .inl h2
 ·exact .inr ⟨g, cap, cur, hv, hg, (hk g (by rw [hv]; rfl)).trans hh, r⟩
structure OwnS (V : World) (a b base : Nat) (jj : Int) (bs : List Nat) (v : Value) (L : List Int) (w : World) : Prop where
 va : VarAt w a (.int .i64 jj)
 vb : VarAt w b v
 own : OwnK .i64 3 w base v L
 but : But V w bs
 blk : ∀ g, v.ownBlock = some g → g ∈ bs ∨ V.heap.size ≤ g
theorem OwnS.from_ {w0 V w : World} {a b base : Nat} {jj : Int} {bs : List Nat} {v : Value} {L : List Int} (h : OwnS V a b base jj bs v L w) (hb : Below w0.heap.size w0 V) : OwnS w0 a b base jj bs v L w :=
 ⟨h.va, h.vb, h.own, (But.of_below hb).trans h.but, fun g hg => (h.blk g hg).imp id fun h2 => Nat.le_trans hb.size h2⟩
theorem OwnS.push {V w w7 : World} {a b base : Nat} {jj : Int} {bs : List Nat} {v v7 : Value} {L : List Int} {x : Int} (h : OwnS V a b base jj bs v L w) (ha : a < base) (hb : b < base) (hab : a ≠ b) (hm : b ∈ bs) (hbase : base ≤ w.heap.size) (T : TypeId)
  (o7 : OwnK .i64 3 w7 base v7 (L ++ [x])) (g7 : (w.alloc (.cells #[.int .i64 x] T)).grownBy w7 v.ownBlock) (t7 : v7.ownBlock = v.ownBlock ∨ v7.ownBlock = some (w.alloc (.cells #[.int .i64 x] T)).heap.size) :
  w7.cell? ⟨b, 0, none⟩ = some v ∧ w7.frozen? ⟨b, 0, none⟩ = false ∧ OwnS V a b base jj bs v7 (L ++ [x]) (w7.setCell ⟨b, 0, none⟩ v7) := by
 have hown := h.own
 have hno : ∀ k, k < base → some k ≠ v.ownBlock := fun k hk e => by have := (World.ownsRow.lt hown k e.symm).1; omega
 have hsz : w.heap.size ≤ w7.heap.size := Nat.le_trans (by simp) g7.size
 have hblk : ∀ k, k < w.heap.size → some k ≠ v.ownBlock → w7.heap[k]? = w.heap[k]? := fun k hk hn => (g7.block k (by simp; omega) hn).trans (Below.heap_alloc _ _ _ hk)
 have va7 : VarAt w7 a (.int .i64 jj) := h.va.heap (hblk a (by omega) (hno a ha))
 have vb7 : VarAt w7 b v := h.vb.heap (hblk b (by omega) (hno b hb))
 have hVs := h.but.size
 refine ⟨vb7.1, vb7.2, ⟨va7.but ((But.refl w7 [b]).setCell (p := ⟨b, 0, none⟩) (by simp) _) (by simpa using hab), vb7.set _, OwnK.setCell o7 (by exact hb) _, ⟨g7.os.trans h.but.os, g7.tape.trans h.but.tape, g7.output.trans h.but.output, by simp; omega, fun k hk hn => ?_⟩, fun g hg => ?_⟩⟩
 ·rw [Below.heap_setCell _ _ _ _ (by show k ≠ b; exact fun e => hn (e ▸ hm))]
  exact (hblk k (by omega) fun e => by
   rcases h.blk k e.symm with h5 | h5
   ·exact hn h5
   ·omega).trans (h.but.block k hk hn)
 ·rcases t7 with t7 | t7
  ·exact h.blk g (t7 ▸ hg)
  ·rw [t7] at hg
   cases hg
   exact .inr (by simp; omega)
theorem runW_snoc : ∀ (k : Nat) (f : Int), runW (k + 1) f = runW k f ++ [f + k] := fun k f => by
 rw [runW_add k 1 f]
 rfl
set_option maxHeartbeats 4000000 in
set_option maxRecDepth 100000 in
theorem own1_run (c f t : Int) (j q : Nat) (a b base : Nat) (v : Value) (L : List Int) (w : World) (h1 : VarAt w a (.int .i64 q)) (h2 : VarAt w b v) (h3 : OwnK .i64 3 w base v L) (ha : a < base) (hb : b < base) (hab : a ≠ b) (hbase : base ≤ w.heap.size) (hL : L.length ≤ 400) (hf : j = q → -1000 ≤ f ∧ t ≤ 1000 ∨ t ≤ f) :
    Calls Tryd.prog 39 #[.agg #[.int .i64 c, .int .i64 j, .int .i64 f, .int .i64 t], .pointer (some ⟨a, 0, none⟩), .pointer (some ⟨b, 0, none⟩)] w fun e w' => e = .returned (.tuple #[]) ∧ ∃ v', OwnS w a b base q (b :: v.ownBlock.toList) v' (L ++ ownS q ⟨c, j, f, t⟩) w' := by
  obtain ⟨V, hV⟩ : ∃ V, w.alloc (.cells #[.int .i64 c, .int .i64 j, .int .i64 f, .int .i64 t] 64) = V := ⟨_, rfl⟩
  obtain ⟨N, hN⟩ : ∃ N, w.heap.size = N := ⟨_, rfl⟩
  have hB : Below w.heap.size w V := by rw [← hV]; exact (Below.refl _ _).alloc (Nat.le_refl _) _
  have hs1 : V.cell? ⟨N, 1, none⟩ = some (.int .i64 j) := by rw [← hV, ← hN]; simp
  have hs2 : V.cell? ⟨N, 2, none⟩ = some (.int .i64 f) := by rw [← hV, ← hN]; simp
  have hs3 : V.cell? ⟨N, 3, none⟩ = some (.int .i64 t) := by rw [← hV, ← hN]; simp
  have hVN : V.heap.size = N + 1 := by rw [← hV, ← hN]; simp
  have hI0 : OwnS V a b base q (b :: v.ownBlock.toList) v L V := ⟨h1.below hB, h2.below hB, OwnK.below h3 hB, But.refl _ _, fun g hg => .inl (by simp [hg])⟩
  have hnN : N ∉ b :: v.ownBlock.toList := fun hm => by
    rcases List.mem_cons.1 hm with h | h
    · omega
    · have := (World.ownsRow.lt h3 N (by simpa using h)).2; omega
  have a1 := hI0.va.1
  have I0 := Lib.hid hI0
  have HB := Lib.hid hB
  have HVN := Lib.hid hVN
  rw [hN] at hbase
  clear hB h1 h2 h3 hI0
  by_cases hj : j = q
  · subst hj
    have hjb : ((j : Int) == (j : Int)) = true := by simp
    have hf1 := hf rfl
    obtain ⟨n, hn⟩ : ∃ n : Nat, (t - f).toNat = n := ⟨_, rfl⟩
    have hspan : Hid (ownS j ⟨c, j, f, t⟩ = runW n f) := by show _ = _; unfold ownS spanW; rw [if_pos rfl]; simp only; rw [hn]
    have hn2 : n ≤ 2000 := by omega
    have HF1 : Hid (-1000 ≤ f ∧ t ≤ 1000 ∨ t ≤ f) := hf1
    have HN2 : Hid ((f < t → t = f + n) ∧ (¬ f < t → n = 0)) := ⟨fun h => by omega, fun h => by omega⟩
    have HNN := Lib.hid hnN
    clear hf hn hnN hf1
    go_enter Tryd.func39, Tryd.ntmps39
    go_wp2_with fail
    go_loopg [4] (n + 1) (fun h s4 wr => ∃ (k : Nat) (z : Int) (u : Value), s4 = .int .i64 z ∧ Hid (z = f + (k : Int) ∧ k ≤ n ∧ k + h = n + 1) ∧ Hid (OwnS V a b base j (b :: v.ownBlock.toList) u (L ++ runW k f) wr) ∧ Hid (wr.cell? ⟨N, 3, none⟩ = some (.int .i64 t) ∧ N < wr.heap.size))
    case atStart => exact ⟨0, f, v, rfl, by show _ ∧ _; simp, by show OwnS _ _ _ _ _ _ _ _ _; simp only [runW, List.append_nil]; exact I0.out, hs3, by omega⟩
    case round =>
      clear I0 a1 hs1 hs2 hs3
      obtain ⟨k, z, u, rfl, HK, I1, H3⟩ := hrel
      generalize wr = w1 at *
      have e3 := H3.out.1
      by_cases hk : k < n
      · have hzt : z < t := by
          have h1 := HK.out
          have h2 := HN2.out
          rcases Int.lt_or_le f t with h3 | h3
          · have := h2.1 h3; omega
          · have := h2.2 (by omega); omega
        have hzw : IntKind.i64.wrap (z + 1) = z + 1 := by rw [IntKind.wrap_i64]; have := HK.out; have := HF1.out; omega
        have hb1 : Hid (base ≤ w1.heap.size) := by show _ ≤ _; have := I1.out.but.size; have := HVN.out; omega
        have vb1 := I1.out.vb.1
        have OA : Hid (OwnK .i64 3 (w1.alloc (.cells #[.int .i64 z] 3)) base u (L ++ runW k f)) := OwnK.below I1.out.own ((Below.refl _ _).alloc (Nat.le_refl _) _)
        have NA : Hid (NumsK .i64 (w1.alloc (.cells #[.int .i64 z] 3)) (w1.heap.size + 1) (some ⟨w1.heap.size, 0, none⟩) [z]) := one_i64 _ _ _
        have HLL : Hid ((L ++ runW k f).length ≤ 500000) := by
          show _ ≤ _
          have hr : ∀ (k : Nat) (f : Int), (runW k f).length = k := fun k => by induction k with | zero => exact fun _ => rfl | succ k ih => exact fun f => by rw [runW, List.length_cons, ih]
          rw [List.length_append, hr]
          have := HK.out; omega
        have HP := Lib.hid (fun v7 w7 o7 g7 t7 => I1.out.push (v7 := v7) (w7 := w7) (x := z) ha hb hab (by simp) hb1.out 3 o7 g7 t7)
        have HE3 : Hid (∀ w7 v7, (w1.alloc (.cells #[.int .i64 z] 3)).grownBy w7 u.ownBlock → (w7.setCell ⟨b, 0, none⟩ v7).cell? ⟨N, 3, none⟩ = some (.int .i64 t) ∧ N < (w7.setCell ⟨b, 0, none⟩ v7).heap.size) := fun w7 v7 g7 => by
          have hg := g7.size
          rw [World.size_alloc] at hg
          have hlt := H3.out.2
          refine ⟨(World.cell?_of_block (Below.heap_setCell _ _ _ _ (by show N ≠ b; omega))).trans ((World.cell?_of_block ((g7.block N (by simp; omega) fun e => ?_).trans (Below.heap_alloc _ _ _ (by omega)))).trans H3.out.1), by simp; omega⟩
          rcases I1.out.blk N e.symm with h5 | h5
          · exact HNN.out h5
          · have := HVN.out; omega
        clear I1 H3
        go_wp2_with (first
          | (at_builtin
             refine wpList_app int_slice _ rfl (.tmp 17) (.tmp 19) rfl base u (L ++ runW k f) rfl OA.out (w1.heap.size + 1) (some ⟨w1.heap.size, 0, none⟩) 1 1 [z] rfl NA.out rfl HLL.out (by simp) (by have := hb1.out; simp; omega) ?_
             intro v7 w7 o7 g7 t7
             obtain ⟨x1, x2, I7'⟩ := HP.out v7 w7 o7 g7 t7
             have I7 := Lib.hid I7'
             have H7 := Lib.hid (HE3.out w7 v7 g7)
             obtain ⟨A7, l7, c7, hv7⟩ : ∃ A l c, v7 = .slice A l c := by obtain ⟨A, c, h, _⟩ := OwnK.nums o7; exact ⟨A, _, c, h⟩
             subst hv7
             clear o7 g7 t7 I7')
          | fail)
        go_roundg (n - k)
        case measure => have := HK.out; omega
        case rel => exact ⟨k + 1, z + 1, _, by go_num, by show _ ∧ _; have := HK.out; omega, by show OwnS _ _ _ _ _ _ _ _ _; rw [runW_snoc, ← List.append_assoc, ← HK.out.1]; exact I7.out, H7.out⟩
      · obtain rfl : k = n := by have := HK.out; omega
        have hzt : ¬ z < t := by
          have h1 := HK.out
          have h2 := HN2.out
          rcases Int.lt_or_le f t with h3 | h3
          · have := h2.1 h3; omega
          · have := h2.2 (by omega); omega
        have hend : Hid (OwnS w a b base j (b :: v.ownBlock.toList) u (L ++ ownS j ⟨c, j, f, t⟩) w1) := by show OwnS _ _ _ _ _ _ _ _ _; rw [hspan.out]; exact I1.out.from_ HB.out
        clear I1 H3
        go_wp2_with fail
        go_end0
        exact ⟨rfl, u, hend.out⟩
  · have hjb : ((j : Int) == (q : Int)) = false := by simp; omega
    have hjb2 : ((j : Int) != (q : Int)) = true := by simp; omega
    have hend : Hid (OwnS w a b base q (b :: v.ownBlock.toList) v (L ++ ownS q ⟨c, j, f, t⟩) V) := by
      show OwnS _ _ _ _ _ _ _ _ _
      unfold ownS
      rw [if_neg hj, List.append_nil]
      exact I0.out.from_ HB.out
    clear hf hnN
    go_enter Tryd.func39, Tryd.ntmps39
    go_wp2_with fail
    (try simp only [Exit.inBlock, Exit.then])
    refine bodyPost_ret (results_none rfl _ _ _) rfl ?_
    exact ⟨rfl, v, hend.out⟩
theorem runW_length : ∀ (k : Nat) (f : Int), (runW k f).length = k
 | 0, _ => rfl
 | k + 1, f => by rw [runW, List.length_cons, runW_length k]
theorem own_piece {T : List Nd} {m : Int} (hV : Valid T m) (hm : m ≤ 100) {q : Nat} (hq : q < T.length) {D : List Stp} {s : Stp} {R : List Stp} (h : D ++ s :: R = stepsW T (T.length - 1)) : (D.flatMap (ownS q)).length ≤ 400 ∧ (s.j = q → -1000 ≤ s.f ∧ s.t ≤ 1000 ∨ s.t ≤ s.f) := by
 have hall := own_all hV hq
 rw [← h, List.flatMap_append, List.flatMap_cons] at hall
 have hnum := hV.num q hq
 have hlen : (ownL T q).length ≤ 100 := by
  unfold ownL
  rw [own_filter]
  refine Nat.le_trans (List.length_filter_le _ _) ?_
  rw [runW_length]
  omega
 rw [← hall, List.length_append, List.length_append] at hlen
 refine ⟨by omega, fun hj => ?_⟩
 rcases Int.lt_or_le s.f s.t with h1 | h1
 ·have a1 := step_in hV (h ▸ (by simp) : s ∈ stepsW T (T.length - 1)) (Int.le_refl s.f) h1
  have a2 := step_in hV (h ▸ (by simp) : s ∈ stepsW T (T.length - 1)) (x := s.t - 1) (by omega) (by omega)
  have hr := hV.num (T.length - 1) (by have := hV.pos; omega)
  have b1 : 0 ≤ (rootOf T).f := hr.2.2.1
  have b2 : (rootOf T).t ≤ m := hr.2.2.2.2
  exact .inl ⟨by omega, by omega⟩
 ·exact .inr h1
end Go.Proofs.YtkgaaabecdbidaaDoor
