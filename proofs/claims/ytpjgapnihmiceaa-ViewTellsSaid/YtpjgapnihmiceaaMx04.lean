/-
  Layer 15 (view): the laws' example.
-/
import Derived.Test.YtpjgapnihmiceaaMx02
import Derived.Test.YtpjgapnihmiceaaMx03
import Derived.Laws.StructEq
import Derived.Deep.RegionHeld3
import Derived.BigQuiet
namespace Go.Proofs.Ytpjgapnihmiceaa
open Go.RowKit
set_option linter.unusedSimpArgs false
set_option linter.unusedVariables false
def exD : List Int := [97, 32, 43, 32, 98]
def exL : List Tv := [⟨1, 0, 1, false, 0⟩, ⟨40, 2, 3, false, 0⟩, ⟨1, 4, 5, false, 0⟩]
def exV : List Nd := [⟨2, 0, 1, []⟩, ⟨2, 2, 3, []⟩, ⟨66, 0, 3, [0, 1]⟩]
theorem ex_chk : chkT exV ((3 : Nat) : Int) = (0, -1) := by decide +kernel
theorem ex_op : opV exL exV 2 = 40 := by decide +kernel
theorem ex_word : wordV exD exL exV 1 = ⟨#[98]⟩ := by decide +kernel
theorem ex_span : spanV exL exV 2 = (0, 5) := by decide +kernel
theorem ex_src (w : World) : ∃ W, (((w.alloc (.cells #[.int .i64 1, .int .i64 0, .int .i64 1, .bool false, .int .i64 0, .int .i64 40, .int .i64 2, .int .i64 3, .bool false, .int .i64 0, .int .i64 1, .int .i64 4, .int .i64 5, .bool false, .int .i64 0] 46)).alloc (.cells #[.int .u8 97, .int .u8 32, .int .u8 43, .int .u8 32, .int .u8 98] 5 (5, 6))).alloc (.cells #[.int .i64 0, .int .i64 1] 3)).alloc (.cells #[.int .i64 2, .int .i64 0, .int .i64 1, .slice none 0 0, .int .i64 2, .int .i64 2, .int .i64 3, .slice none 0 0, .int .i64 66, .int .i64 0, .int .i64 3, .slice (some ⟨w.heap.size + 1 + 1, 0, none⟩) 2 2] 49) = W ∧
  Below w.heap.size w W ∧ SrcAt W (some ⟨w.heap.size + 1, 0, none⟩) 5 5 (some ⟨w.heap.size, 0, none⟩) 3 3 (some ⟨w.heap.size + 1 + 1 + 1, 0, none⟩) 3 exD exL exV := by
 refine ⟨_, rfl, ((((Below.refl _ _).alloc (Nat.le_refl _) _).alloc (by simp) _).alloc (by simp <;> omega) _).alloc (by simp <;> omega) _, ⟨⟨fun x hx => (by simp [exD] at hx; omega), fun _ => ⟨_, _, rfl, by simp <;> omega, fun i x hx => ?_⟩⟩, rfl, by decide, by decide, fun _ => ⟨_, _, rfl, by simp <;> omega, fun j u hu => ?_⟩, rfl, by decide, by decide, ⟨⟨[⟨2, 0, 1, none, 0, 0⟩, ⟨2, 2, 3, none, 0, 0⟩, ⟨66, 0, 3, some ⟨w.heap.size + 1 + 1, 0, none⟩, 2, 2⟩], fun _ => ⟨_, _, rfl, by simp, fun j u hu => ?_⟩, rfl, fun i x n hx hn => ?_⟩, rfl, by decide, by decide⟩⟩⟩
 ·have hm := World.cell?_alloc_mark (w.alloc (.cells #[.int .i64 1, .int .i64 0, .int .i64 1, .bool false, .int .i64 0, .int .i64 40, .int .i64 2, .int .i64 3, .bool false, .int .i64 0, .int .i64 1, .int .i64 4, .int .i64 5, .bool false, .int .i64 0] 46)) #[.int .u8 97, .int .u8 32, .int .u8 43, .int .u8 32, .int .u8 98] 5 (5, 6) (0 + i)
  rw [World.size_alloc] at hm
  rw [World.cell?_alloc_lt _ _ _ (by simp <;> omega), World.cell?_alloc_lt _ _ _ (by simp), hm]
  match i, hx with
  | 0, hx => cases hx; rfl
  | 1, hx => cases hx; rfl
  | 2, hx => cases hx; rfl
  | 3, hx => cases hx; rfl
  | 4, hx => cases hx; rfl
 ·rw [World.cell?_alloc_lt _ _ _ (by simp <;> omega), World.cell?_alloc_lt _ _ _ (by simp <;> omega), World.cell?_alloc_lt _ _ _ (by simp), World.cell?_alloc_at _ _ _ _ rfl]
  match j, hu with
  | 0, hu => cases hu; rfl
  | 1, hu => cases hu; rfl
  | 2, hu => cases hu; rfl
  | 3, hu => cases hu; rfl
  | 4, hu => cases hu; rfl
  | 5, hu => cases hu; rfl
  | 6, hu => cases hu; rfl
  | 7, hu => cases hu; rfl
  | 8, hu => cases hu; rfl
  | 9, hu => cases hu; rfl
  | 10, hu => cases hu; rfl
  | 11, hu => cases hu; rfl
  | 12, hu => cases hu; rfl
  | 13, hu => cases hu; rfl
  | 14, hu => cases hu; rfl
 ·rw [World.cell?_alloc_at _ _ _ _ (by simp)]
  match j, hu with
  | 0, hu => cases hu; rfl
  | 1, hu => cases hu; rfl
  | 2, hu => cases hu; rfl
  | 3, hu => cases hu; rfl
  | 4, hu => cases hu; rfl
  | 5, hu => cases hu; rfl
  | 6, hu => cases hu; rfl
  | 7, hu => cases hu; rfl
  | 8, hu => cases hu; rfl
  | 9, hu => cases hu; rfl
  | 10, hu => cases hu; rfl
  | 11, hu => cases hu; rfl
 ·match i, hx, hn with
  | 0, hx, hn => cases hx; cases hn; exact ⟨rfl, rfl, rfl, rfl, by decide, by decide, NumsK.nil⟩
  | 1, hx, hn => cases hx; cases hn; exact ⟨rfl, rfl, rfl, rfl, by decide, by decide, NumsK.nil⟩
  | 2, hx, hn =>
   cases hx; cases hn
   refine ⟨rfl, rfl, rfl, rfl, Nat.le_refl _, by show 2 ≤ _; omega, fun _ => ⟨_, _, rfl, by simp <;> omega, fun i x hx => ?_⟩⟩
   rw [World.cell?_alloc_lt _ _ _ (by simp), World.cell?_alloc_at _ _ _ _ (by simp)]
   match i, hx with
   | 0, hx => cases hx; rfl
   | 1, hx => cases hx; rfl
set_option maxHeartbeats 4000000 in
set_option maxRecDepth 100000 in
theorem works15_run (hN : SaysNew) (hO : SaysOp) (hW : SaysWord) (hP : SaysSpan) (w : World) : Calls Try.prog 12 #[] w fun e w' => e = .returned (.bool true) ∧ Below w.heap.size w w' := by
 obtain ⟨W, hWW, hB, hsrc⟩ := ex_src w
 have HC := Lib.hid (hN _ _ _ _ _ _ _ _ 3 _ _ _ _ hsrc ⟨by decide, by decide, by decide, by decide⟩)
 rw [ex_chk] at HC
 simp only [resOf, if_true, trErr] at HC
 have HO := Lib.hid (fun v w h => hO v exD exL exV 2 w h)
 have HW := Lib.hid (fun v w h => hW v exD exL exV 1 w h)
 have HP := Lib.hid (fun v w h => hP v exD exL exV 2 w h)
 rw [ex_op] at HO
 rw [ex_word] at HW
 rw [ex_span] at HP
 obtain ⟨s, hs⟩ : ∃ s : ByteArray, s = ⟨#[98]⟩ := ⟨_, rfl⟩
 have hsl : (s.toList == [98]) = true := by rw [hs, ByteArray.toList_mk]; rfl
 rw [← hs] at HW
 have BX := Lib.hid hB
 have hcl := conv_lit (w.alloc (.cells #[.int .i64 1, .int .i64 0, .int .i64 1, .bool false, .int .i64 0, .int .i64 40, .int .i64 2, .int .i64 3, .bool false, .int .i64 0, .int .i64 1, .int .i64 4, .int .i64 5, .bool false, .int .i64 0] 46)) #[.int .u8 97, .int .u8 32, .int .u8 43, .int .u8 32, .int .u8 98] 5 5
 simp at hcl
 obtain ⟨S, hS⟩ : ∃ S, w.heap.size = S := ⟨_, rfl⟩
 rw [hS] at HC hWW BX hcl ⊢
 clear hs hB hsrc hN hO hW hP
 unfold trV at HC
 go_enter Try.func12, Try.ntmps12
 go_wp2_with fail
 refine HC.out.mono ?_
 rintro e w1 ⟨v, rfl, hf, hw⟩
 have HF := Lib.hid hf
 have B1 : Hid (Below S w w1) := BX.out.trans (hw.mono (by have := BX.out.size; omega))
 clear hw HC hf
 go_wp2_with fail
 refine (HO.out v w1 HF.out).mono ?_
 rintro e w2 ⟨rfl, hw⟩
 have HF2 := Lib.hid (HF.out.below hw)
 have B2 : Hid (Below S w w2) := B1.out.trans (hw.mono (by have := B1.out.size; omega))
 clear hw HF HO
 go_wp2_with fail
 refine (HW.out v w2 HF2.out).mono ?_
 rintro e w3 ⟨rfl, hw⟩
 have HF3 := Lib.hid (HF2.out.below hw)
 have B3 : Hid (Below S w w3) := B2.out.trans (hw.mono (by have := B2.out.size; omega))
 clear hw HF2 HW
 go_wp2_with fail
 refine (HP.out v w3 HF3.out).mono ?_
 rintro e w4 ⟨rfl, hw⟩
 have B4 : Hid (Below S w w4) := B3.out.trans (hw.mono (by have := B3.out.size; omega))
 clear hw HF3 HP
 go_wp2_with fail
 go_ret
 exact ⟨rfl, B4.out⟩
end Go.Proofs.Ytpjgapnihmiceaa
namespace Go.Proofs.Ytpjgapnihmiceaa
open Go.RowKit
set_option linter.unusedSimpArgs false
set_option linter.unusedVariables false
theorem eqSpan_self (a b : Int) (w : World) : (binOp .eql 37 (.agg #[.int .i64 a, .int .i64 b]) (.agg #[.int .i64 a, .int .i64 b])).run Try.prog w = .ok (.bool true) w := by
 have u3 := Try.underlying3
 have a3 := Try.isAgg3
 have z3 := Try.sizeOf3
 have hS : Try.prog.underlying 37 = some (.struct (Try.prog.fieldsOf 37)) := by kernel_rfl
 have hp : Try.prog.stoodInHeld 37 = false := by kernel_rfl
 rw [run_eql_struct, show (10000 : Nat) = 9999 + 1 from rfl, run_equalIn_agg w 9999 37 _ _ hS hp]
 simp only [Program.fieldsOf, Try.underlying37]
 go_simp
theorem opV_nil (L : List Tv) (n : Int) : opV L [] n = 0 := by unfold opV; rw [ownV_nil]; rfl
theorem chanV_nil (L : List Tv) (n : Int) : chanV L [] n = 0 := by unfold chanV; rw [inT_nil]; rfl
theorem spanV_nil (L : List Tv) (n : Int) : spanV L [] n = (0, 0) := by unfold spanV; rw [inT_nil, if_neg (fun h => by cases h.1)]
theorem hasV_nil (L : List Tv) (n k : Int) : hasV L [] n k = false := by unfold hasV; rw [ownV_nil]; rfl
theorem emptyV_nil (n : Int) : emptyV [] n = true := by unfold emptyV; rw [inT_nil]; rfl
set_option maxHeartbeats 16000000 in
set_option maxRecDepth 100000 in
theorem Tells_lawV (hN : SaysNew) (hOp : SaysOp) (hC : SaysChan) (hSp : SaysSpan) (hH : SaysHas) (hE : SaysEmpty) (hWd : SaysWord) (A1 : Option Addr) (n1 c1 : Nat) (A2 : Option Addr) (n2 c2 : Nat) (A : Option Addr) (n c : Nat) (d : List Int) (L : List Tv) (T : List Nd) (k kq : Int) (W : World)
  (hy : Byts W W.heap.size A1 d) (hd : d.length = n1) (hc1 : n1 ≤ c1) (hx1 : c1 ≤ 9223372036854775807) (ht : CellsV tvCells W W.heap.size A2 L) (hL : L.length = n2) (hc2 : n2 ≤ c2) (hx2 : c2 ≤ 9223372036854775807) (hb : NdsAt W W.heap.size A T) (hl : T.length = n) (hcap : n ≤ 9223372036854775807) :
  Calls Try.prog 3 #[srcV A1 n1 c1 A2 n2 c2 A n c, .int .i64 k, .int .i64 kq] W fun e w' => e = .returned (.bool true) ∧ Below W.heap.size W w' := by
 obtain ⟨m1, hm1⟩ : ∃ m, min n1 300 = m := ⟨_, rfl⟩
 obtain ⟨m2, hm2⟩ : ∃ m, min n2 60 = m := ⟨_, rfl⟩
 obtain ⟨l, hll⟩ : ∃ l, (fewT T).length = l := ⟨_, rfl⟩
 have HFW := Lib.hid (fun w h1 h2 => vFew_run A1 n1 c1 A2 n2 c2 A n c W.heap.size T m1 m2 l w h1 h2 hl hcap hm1 hm2 hc1 hc2 hll)
 have HFS := Lib.hid (fun (A9 : Option Addr) (c9 : Nat) (w1 : World) h hw => @src_few W w1 A1 A2 A A9 n1 c1 n2 c2 n c m1 m2 l c9 d L T 28 hy hd hm1 hc1 ht hL hm2 hc2 hll h hw)
 have HB0 : Hid (NdsAt (W.alloc (.cells #[.slice A1 n1 c1, .slice A2 n2 c2, .slice A n c] 28)) W.heap.size A T ∧ W.heap.size ≤ (W.alloc (.cells #[.slice A1 n1 c1, .slice A2 n2 c2, .slice A n c] 28)).heap.size) := ⟨hb.below ((Below.refl _ _).alloc (Nat.le_refl _) _) (Nat.le_refl _), by simp⟩
 have hq2 : m2 ≤ 60 := by omega
 have hSMT := few_smallT T
 have HM1 : Hid (m1 ≤ c1 ∧ m2 ≤ c2) := by show _ ∧ _; omega
 generalize fewT T = TT at *
 generalize d.take m1 = dd at *
 generalize L.take m2 = LL at *
 have HSM := Lib.hid hSMT
 have HL := Lib.hid hll
 have hl40 : l ≤ 40 := by rw [← hll]; exact hSMT.1
 have HNW := Lib.hid (fun (A9 : Option Addr) (c9 : Nat) (w : World) h1 h2 => hN A1 m1 c1 A2 m2 c2 A9 l c9 dd LL TT w h1 h2)
 have HWK := Lib.hid (works15_run hN hOp hWd hSp)
 have HOP := Lib.hid hOp
 have HCH := Lib.hid hC
 have HSP := Lib.hid hSp
 have HHS := Lib.hid hH
 have HEM := Lib.hid hE
 have HX := Lib.hid (And.intro hx1 hx2)
 obtain ⟨x, hx⟩ : ∃ x, trErr (chkT TT (m2 : Int)) = x := ⟨_, rfl⟩
 have HXE := Lib.hid hx
 rw [hx] at HNW
 clear hy hd hc1 hx1 ht hL hc2 hx2 hb hl hcap hm1 hm2 hll hSMT hx hN hOp hWd hSp
 unfold FewSrc at HFW
 unfold srcV at *
 unfold trV at *
 obtain ⟨S, hS⟩ : ∃ S, W.heap.size = S := ⟨_, rfl⟩
 rw [hS] at HFW HFS HB0 ⊢
 by_cases hk0 : (chkT TT (m2 : Int)).1 = 0
 rotate_left
 ·obtain ⟨et, ev, hxe⟩ := trErr_some hk0
  obtain rfl : x = .iface et ev := HXE.out.symm.trans hxe
  simp only [resOf_bad hk0] at HNW
  clear HXE hxe
  go_enter Try.func3, Try.ntmps3
  go_wp2_with fail
  refine (HFW.out _ HB0.out.1 HB0.out.2).mono ?_
  rintro e w1 ⟨v, rfl, A9, c9, rfl, k7, k8, hn1, hw1⟩
  obtain ⟨⟨g0, g1, g2⟩, ⟨f0, f1, f2⟩, V, hV, ⟨d0, d1, d2⟩, hsrc, hBV, hsV⟩ := HFS.out A9 c9 w1 hn1 hw1
  have HSR := Lib.hid hsrc
  have BV := Lib.hid hBV
  have HNV := Lib.hid (HNW.out A9 c9 V hsrc ⟨HX.out.1, HX.out.2, k7, k8⟩)
  clear HFW HFS HB0 hn1 hw1 hsrc hBV HNW k8
  go_wp2_with fail
  refine HNV.out.mono ?_
  rintro e w2 ⟨fv, rfl, hf, hw2⟩
  have N2 : Hid (NSt S W w2 fv A1 m1 c1 A2 m2 c2 A9 l c9 dd LL TT []) := ⟨HSR.out.below hw2, hf, (hw2.cell (p := ⟨S, 0, none⟩) hsV).trans d0, (hw2.cell (p := ⟨S, 1, none⟩) hsV).trans d1, (hw2.cell (p := ⟨S, 2, none⟩) hsV).trans d2, BV.out.trans (hw2.mono (Nat.le_of_lt hsV)), Nat.lt_of_lt_of_le hsV hw2.size⟩
  clear hf hw2 HNV HSR BV d0 d1 d2 hsV hV g0 g1 g2 f0 f1 f2
  obtain rfl := N2.out.fil.none
  have HN := Lib.hid (HOP.out _ dd LL [] k w2 N2.out.fil)
  rw [opV_nil] at HN
  go_wp2_with fail
  refine HN.out.mono ?_
  rintro e w3 ⟨rfl, hw⟩
  have N3 := Lib.hid (N2.out.on hw)
  clear hw N2 HN
  have HN := Lib.hid (HCH.out _ dd LL [] k w3 N3.out.fil)
  rw [chanV_nil] at HN
  go_wp2_with fail
  refine HN.out.mono ?_
  rintro e w4 ⟨rfl, hw⟩
  have N4 := Lib.hid (N3.out.on hw)
  clear hw N3 HN
  have HN := Lib.hid (HSP.out _ dd LL [] k w4 N4.out.fil)
  rw [spanV_nil] at HN
  go_wp2_with fail
  refine HN.out.mono ?_
  rintro e w5 ⟨rfl, hw⟩
  have N5 := Lib.hid (N4.out.on hw)
  clear hw N4 HN
  have HN := Lib.hid (HHS.out _ dd LL [] k kq w5 N5.out.fil)
  rw [hasV_nil] at HN
  go_wp2_with fail
  refine HN.out.mono ?_
  rintro e w6 ⟨rfl, hw⟩
  have N6 := Lib.hid (N5.out.on hw)
  clear hw N5 HN
  have HN := Lib.hid (HEM.out _ dd LL [] k w6 N6.out.fil)
  rw [emptyV_nil] at HN
  go_wp2_with fail
  refine HN.out.mono ?_
  rintro e w7 ⟨rfl, hw⟩
  have N7 := Lib.hid (N6.out.on hw)
  clear hw N6 HN
  go_wp2_with fail
  refine (HWK.out w7).mono ?_
  rintro e w8 ⟨rfl, hw⟩
  have B8 : Hid (Below S W w8) := (N7.out.on hw).bel
  clear hw N7
  go_wp2_with fail
  go_ret
  exact ⟨rfl, B8.out⟩
 ·have HV : Hid (Valid TT (m2 : Int)) := chk_valid hk0
  obtain rfl : x = .nilIface := by rw [← HXE.out]; exact trErr_zero hk0
  simp only [resOf_ok hk0] at HNW
  clear HXE
  go_enter Try.func3, Try.ntmps3
  go_wp2_with fail
  refine (HFW.out _ HB0.out.1 HB0.out.2).mono ?_
  rintro e w1 ⟨v, rfl, A9, c9, rfl, k7, k8, hn1, hw1⟩
  obtain ⟨⟨g0, g1, g2⟩, ⟨f0, f1, f2⟩, V, hV, ⟨d0, d1, d2⟩, hsrc, hBV, hsV⟩ := HFS.out A9 c9 w1 hn1 hw1
  have HSR := Lib.hid hsrc
  have BV := Lib.hid hBV
  have HNV := Lib.hid (HNW.out A9 c9 V hsrc ⟨HX.out.1, HX.out.2, k7, k8⟩)
  clear HFW HFS HB0 hn1 hw1 hsrc hBV HNW k8
  go_wp2_with fail
  refine HNV.out.mono ?_
  rintro e w2 ⟨fv, rfl, hf, hw2⟩
  have N2 : Hid (NSt S W w2 fv A1 m1 c1 A2 m2 c2 A9 l c9 dd LL TT TT) := ⟨HSR.out.below hw2, hf, (hw2.cell (p := ⟨S, 0, none⟩) hsV).trans d0, (hw2.cell (p := ⟨S, 1, none⟩) hsV).trans d1, (hw2.cell (p := ⟨S, 2, none⟩) hsV).trans d2, BV.out.trans (hw2.mono (Nat.le_of_lt hsV)), Nat.lt_of_lt_of_le hsV hw2.size⟩
  clear hf hw2 HNV HSR BV d0 d1 d2 hsV hV g0 g1 g2 f0 f1 f2
  obtain ⟨fb, rfl⟩ := N2.out.fil.some HV.out.ne
  obtain ⟨OW, hOW⟩ : ∃ l, ownV TT k = l := ⟨_, rfl⟩
  obtain ⟨q, hq⟩ : ∃ q, OW.length = q := ⟨_, rfl⟩
  have HOD := Lib.hid (fun w h => vOwn_run A9 l c9 k (m2 : Int) TT w h HL.out HV.out (by omega))
  rw [hOW] at HOD
  have HQ := Lib.hid hq
  have hq60 : q ≤ 60 := by
   have := ownV_le HV.out k
   rw [hOW, hq] at this
   omega
  have HM : Hid (∀ y ∈ OW, 0 ≤ y ∧ y < (m2 : Int)) := fun y hy => ownV_mem HV.out (by rw [hOW]; exact hy)
  have HHV : Hid (hasV LL TT k kq = OW.any fun o => decide ((tokV LL o).k = kq)) := by show _ = _; unfold hasV; rw [hOW]
  unfold trV at HOD
  have e2 := N2.out.e2
  clear hOW hq
  go_wp2_with fail
  refine (HOD.out w2 N2.out.src.tree.at_).mono ?_
  rintro e w3 ⟨v3, rfl, ho3⟩
  obtain ⟨Ao, co, rfl, _, _, hno, hw⟩ := ho3.read
  rw [HQ.out]
  have N3 := Lib.hid (N2.out.on hw)
  have HNO := Lib.hid hno
  have e1 := N3.out.e1
  clear hw ho3 hno N2 HOD e2
  go_wp2_with fail
  go_loopg [73, 9] (q + 1) (fun h s73 s9 wr => ∃ (i : Nat) (hb : Bool), s73 = .int .i64 i ∧ s9 = .bool hb ∧ Hid (i ≤ q ∧ i + h = q + 1) ∧ Hid (hb = (OW.take i).any fun o => decide ((tokV LL o).k = kq)) ∧ wr = w3)
  case atStart => exact ⟨0, false, rfl, rfl, by show _ ∧ _; omega, rfl, rfl⟩
  case round =>
   obtain ⟨i, hb, rfl, rfl, HI, HA, hww⟩ := hrel
   obtain rfl := hww.symm
   by_cases hi : i < q
   ·have hiz : (i : Int) < (q : Int) := by omega
    obtain ⟨y, hy⟩ : ∃ y, OW[i]? = some y := ⟨_, List.getElem?_eq_getElem (by have := HQ.out; omega)⟩
    obtain ⟨b1, o1, rfl, hb1, hc1⟩ := HNO.out (by have := HQ.out; omega)
    have y1 := hc1 i y hy
    obtain ⟨hy0, hy2⟩ := HM.out y (List.mem_of_getElem? hy)
    obtain ⟨z, rfl⟩ := Int.eq_ofNat_of_zero_le hy0
    obtain ⟨tb, tof, rfl, htb, t0, _, _, _, _⟩ := tv_get N3.out.src.tok (at_tok (i := z) (by have := N3.out.src.lt; omega))
    have HA2 : Hid (((OW.take (i + 1)).any fun o => decide ((tokV LL o).k = kq)) = (hb || decide ((tokV LL (z : Int)).k = kq))) := by
     show _ = _
     rw [List.take_add_one, hy, List.any_append, ← HA.out]
     simp
    generalize (tokV LL (z : Int)).k = kx at *
    clear hc1 hy HA
    cases hb with
    | true =>
     have HA3 : Hid (true = (OW.take (i + 1)).any fun o => decide ((tokV LL o).k = kq)) := by show _ = _; rw [HA2.out, Bool.true_or]
     clear HA2
     go_wp2_with fail
     go_roundg (q - i)
     case measure => have := HI.out; omega
     case rel => exact ⟨i + 1, true, by go_num, rfl, by show _ ∧ _; have := HI.out; omega, HA3.out, rfl⟩
    | false =>
     by_cases hkk : kx = kq
     ·subst hkk
      have HA3 : Hid (true = (OW.take (i + 1)).any fun o => decide ((tokV LL o).k = kx)) := by show _ = _; rw [HA2.out]; simp
      clear HA2
      go_wp2_with fail
      go_roundg (q - i)
      case measure => have := HI.out; omega
      case rel => exact ⟨i + 1, true, by go_num, rfl, by show _ ∧ _; have := HI.out; omega, HA3.out, rfl⟩
     ·have HA3 : Hid (false = (OW.take (i + 1)).any fun o => decide ((tokV LL o).k = kq)) := by show _ = _; rw [HA2.out, decide_eq_false hkk]; rfl
      have hkb : (kx == kq) = false := by simpa using hkk
      clear HA2
      go_wp2_with fail
      go_roundg (q - i)
      case measure => have := HI.out; omega
      case rel => exact ⟨i + 1, false, by go_num, rfl, by show _ ∧ _; have := HI.out; omega, HA3.out, rfl⟩
   ·have hiz : ¬ (i : Int) < (q : Int) := by omega
    have HA3 : Hid (hasV LL TT k kq = hb) := by
     show _ = _
     rw [HHV.out, HA.out, List.take_of_length_le (by have := HQ.out; omega)]
    obtain ⟨qq, hqq⟩ : ∃ qq, inT TT k = qq := ⟨_, rfl⟩
    have HN := Lib.hid (vIn_run A9 l c9 k TT w3 HL.out qq hqq)
    have HQQ := Lib.hid hqq
    have e2 := N3.out.e2
    obtain ⟨em, hem⟩ : ∃ em, emptyV TT k = em := ⟨_, rfl⟩
    have HEE := Lib.hid hem
    unfold trV at HN
    clear HA HNO HI hi hqq e1 HHV HM hem
    go_upto_region 11 with fail
    go_cut [12] (fun s12 wx => s12 = .bool em ∧ Hid (NSt S W wx (.pointer (some ⟨fb, 0, none⟩)) A1 m1 c1 A2 m2 c2 A9 l c9 dd LL TT TT))
    case first =>
     go_wp2_with fail
     refine HN.out.mono ?_
     rintro e w4 ⟨rfl, hw⟩
     have N4 := Lib.hid (N3.out.on hw)
     have e2 := N4.out.e2
     clear hw N3 HN
     cases qq with
     | false =>
      obtain rfl : em = true := by rw [← HEE.out]; unfold emptyV; rw [HQQ.out]; rfl
      go_wp2_with fail
      go_meet
      exact ⟨rfl, N4⟩
     | true =>
      have hin := of_decide_eq_true HQQ.out
      rw [HL.out] at hin
      obtain ⟨z, rfl⟩ := Int.eq_ofNat_of_zero_le hin.1
      have hz : z < l := by omega
      have hzz : (z : Int) < (l : Int) := by omega
      obtain ⟨tb, tof, rfl, htb, hget⟩ := N4.out.src.tree.at_.get (by have := HL.out; omega)
      obtain ⟨K, q7, c7, g0, _, _, _, gm, _, _, _⟩ := hget z _ (at_nd (by have := HL.out; omega))
      have HE2 : Hid (em = decide ((nd TT z).k = 0)) := by
       show _ = _
       rw [← HEE.out]
       unfold emptyV kd
       rw [HQQ.out, Int.toNat_natCast]
       rfl
      generalize (nd TT z).k = kx at *
      clear hget gm hin HEE HQQ
      by_cases hk : kx = 0
      ·subst hk
       obtain rfl : em = true := HE2.out
       clear HE2
       go_wp2_with fail
       go_meet
       exact ⟨rfl, N4⟩
      ·obtain rfl : em = false := by rw [HE2.out]; exact decide_eq_false hk
       have hkb : (kx == 0) = false := by simpa using hk
       clear HE2
       go_wp2_with fail
       go_meet
       exact ⟨rfl, N4⟩
    case rest =>
     obtain ⟨rfl, N5⟩ := hcut
     clear HN N3 e2 HQQ
     obtain ⟨ov, hov⟩ : ∃ v, opV LL TT k = v := ⟨_, rfl⟩
     obtain ⟨cv, hcv⟩ : ∃ v, chanV LL TT k = v := ⟨_, rfl⟩
     obtain ⟨sx, sy, hsv⟩ : ∃ x y, spanV LL TT k = (x, y) := ⟨_, _, rfl⟩
     have P1 := Lib.hid (fun w h => HOP.out (.pointer (some ⟨fb, 0, none⟩)) dd LL TT k w h)
     have P2 := Lib.hid (fun w h => HCH.out (.pointer (some ⟨fb, 0, none⟩)) dd LL TT k w h)
     have P3 := Lib.hid (fun w h => HSP.out (.pointer (some ⟨fb, 0, none⟩)) dd LL TT k w h)
     have P4 := Lib.hid (fun w h => HHS.out (.pointer (some ⟨fb, 0, none⟩)) dd LL TT k kq w h)
     have P5 := Lib.hid (fun w h => HEM.out (.pointer (some ⟨fb, 0, none⟩)) dd LL TT k w h)
     have D1 := Lib.hid (fun w h => vOp_run A1 m1 c1 A2 m2 c2 A9 l c9 dd LL TT k ov w h HV hov)
     have D2 := Lib.hid (fun w h => vChan_run A1 m1 c1 A2 m2 c2 A9 l c9 dd LL TT k cv w h HV hcv)
     have D3 := Lib.hid (fun w h => vSpan_run A1 m1 c1 A2 m2 c2 A9 l c9 dd LL TT k sx sy w h HV hsv)
     rw [hov] at P1
     rw [hcv] at P2
     rw [hsv] at P3
     rw [HA3.out] at P4
     rw [HEE.out] at P5
     have hsp : ∀ w, (binOp .eql 37 (.agg #[.int .i64 sx, .int .i64 sy]) (.agg #[.int .i64 sx, .int .i64 sy])).run Try.prog w = .ok (.bool true) w := eqSpan_self sx sy
     unfold trV at D1 D2 D3
     have NB := Lib.hid (N5.out.on ((Below.refl _ _).drew))
     clear hov hcv hsv HOP HCH HSP HHS HEM HA3 HEE
     go_upto_region 12 with fail
     go_region_held3 (fun W' => W'.cell? ⟨S, 1, none⟩ = some (.slice A2 m2 c2) ∧ W'.cell? ⟨S, 2, none⟩ = some (.slice A9 l c9)) (first | exact ⟨N5.out.e1, N5.out.e2⟩ | exact ⟨NB.out.e1, NB.out.e2⟩ | go_keep)
      (first | (go_at_call 7; refine (P1.out _ NB.out.fil).mono ?_; rintro e w7 ⟨rfl, hw7⟩; have NB := Lib.hid (NB.out.on hw7); clear hw7) | (go_at_call 15; refine (D1.out _ NB.out.src).mono ?_; rintro e w7 ⟨rfl, hw7⟩; have NB := Lib.hid (NB.out.on hw7); clear hw7) | (go_at_call 8; refine (P2.out _ NB.out.fil).mono ?_; rintro e w7 ⟨rfl, hw7⟩; have NB := Lib.hid (NB.out.on hw7); clear hw7) | (go_at_call 16; refine (D2.out _ NB.out.src).mono ?_; rintro e w7 ⟨rfl, hw7⟩; have NB := Lib.hid (NB.out.on hw7); clear hw7) | (go_at_call 9; refine (P3.out _ NB.out.fil).mono ?_; rintro e w7 ⟨rfl, hw7⟩; have NB := Lib.hid (NB.out.on hw7); clear hw7) | (go_at_call 17; refine (D3.out _ NB.out.src).mono ?_; rintro e w7 ⟨rfl, hw7⟩; have NB := Lib.hid (NB.out.on hw7); clear hw7) | (go_at_call 10; refine (P4.out _ NB.out.fil).mono ?_; rintro e w7 ⟨rfl, hw7⟩; have NB := Lib.hid (NB.out.on hw7); clear hw7) | (go_at_call 11; refine (P5.out _ NB.out.fil).mono ?_; rintro e w7 ⟨rfl, hw7⟩; have NB := Lib.hid (NB.out.on hw7); clear hw7) | (go_at_call 12; refine (HWK.out _).mono ?_; rintro e w7 ⟨rfl, hw7⟩; have NB := Lib.hid (NB.out.on hw7); clear hw7))
     all_goals go_wp2_with fail
     all_goals go_ret
     all_goals exact ⟨rfl, NB.out.bel⟩
end Go.Proofs.Ytpjgapnihmiceaa
namespace Go.Proofs.Ytpjgapnihmiceaa
open Go.RowKit
set_option linter.unusedSimpArgs false
set_option linter.unusedVariables false
theorem FileAt.lt {w : World} {b : Nat} {d : List Int} {L : List Tv} {T : List Nd} (h : FileAt w b d L T) : b < w.heap.size := by
 obtain ⟨_, _, _, _, _, _, _, _, _, _, _, _, h, _⟩ := h
 exact h
set_option maxHeartbeats 4000000 in
set_option maxRecDepth 100000 in
theorem known_run (v : Value) (d : List Int) (L : List Tv) (T : List Nd) (n : Int) (q : Bool) (w : World) (h : FileIs w v d L T) (hq : Hid (inT T n = q)) :
  Calls Try.prog 26 #[v, .int .i64 n] w fun e w' => e = .returned (.bool q) ∧ w' = w := by
 rcases h with ⟨rfl, rfl⟩ | ⟨b, rfl, A1, n1, c1, A2, n2, c2, A, m, c, ⟨e0, e1, e2⟩, _, hs, hb, hv⟩
 ·obtain rfl : q = false := by rw [← hq.out, inT_nil]
  clear hq
  go_enter Try.func26, Try.ntmps26
  go_wp2_with fail
  go_ret
  exact ⟨rfl, rfl⟩
 ·have hl := hs.tree.len
  have HQ : Hid (decide (0 ≤ n ∧ n < (m : Int)) = q) := by show _ = _; rw [← hq.out, ← hl]; rfl
  clear hq hs hv hl
  by_cases h0 : 0 ≤ n
  ·by_cases h1 : n < (m : Int)
   ·obtain rfl : q = true := by rw [← HQ.out, decide_eq_true ⟨h0, h1⟩]
    clear HQ
    go_enter Try.func26, Try.ntmps26
    go_wp2_with fail
    go_ret
    exact ⟨rfl, rfl⟩
   ·obtain rfl : q = false := by rw [← HQ.out, decide_eq_false (fun h => h1 h.2)]
    clear HQ
    go_enter Try.func26, Try.ntmps26
    go_wp2_with fail
    go_ret
    exact ⟨rfl, rfl⟩
  ·obtain rfl : q = false := by rw [← HQ.out, decide_eq_false (fun h => h0 h.1)]
   clear HQ
   go_enter Try.func26, Try.ntmps26
   go_wp2_with fail
   go_ret
   exact ⟨rfl, rfl⟩
set_option maxHeartbeats 4000000 in
set_option maxRecDepth 100000 in
theorem reach_run (b : Nat) (d : List Int) (L : List Tv) (T : List Nd) (k f t : Int) (K : Option Addr) (m c : Nat) (w : World) (h : FileAt w b d L T) (hf : 0 ≤ f) (hft : f ≤ t) (ht : t ≤ (L.length : Int)) :
  Calls Try.prog 27 #[.pointer (some ⟨b, 0, none⟩), .agg #[.int .i64 k, .int .i64 f, .int .i64 t, .slice K m c]] w fun e w' => e = .returned (.tuple #[.int .i64 f, .int .i64 t]) ∧ Below w.heap.size w w' ∧ w'.heap.size = w.heap.size + 1 := by
 obtain ⟨A1, n1, c1, A2, n2, c2, A, q, c', ⟨e0, e1, e2⟩, _, hs, hb, hv⟩ := h
 have hl := hs.lt
 rw [hl] at ht
 have hn2 := hs.st
 obtain ⟨W, hW, hB, hWS, d0, d1, d2, d3⟩ := nd_box w k f t K m c 49
 have g1 := (hB.cell (p := ⟨b, 1, none⟩) hb).trans e1
 have x1 : max f 0 = f := by omega
 have x2 : min f (n2 : Int) = f := by omega
 have x3 : max t f = t := by omega
 have x4 : min t (n2 : Int) = t := by omega
 have X := Lib.hid (And.intro x1 (And.intro x2 (And.intro x3 x4)))
 have HB := Lib.hid hB
 clear hB hs hv hl e0 e1 e2 x1 x2 x3 x4
 go_enter Try.func27, Try.ntmps27
 go_wp2_with fail
 go_region
 go_wp2_with fail
 go_region
 go_wp2_with fail
 go_ret2
 exact ⟨rfl, HB.out.drew.drew, hWS⟩
set_option maxHeartbeats 8000000 in
set_option maxRecDepth 100000 in
theorem place_run (b : Nat) (d : List Int) (L : List Tv) (T : List Nd) (x : Nat) (z : Int) (w : World) (h : FileAt w b d L T) (hx : x ≤ L.length) (hL : Hid (z = if 0 < L.length then placeV L (x : Int) else 0)) :
  Calls Try.prog 28 #[.pointer (some ⟨b, 0, none⟩), .int .i64 (x : Int)] w fun e w' => e = .returned (.int .i64 z) ∧ w' = w := by
 obtain ⟨A1, n1, c1, A2, n2, c2, A, q, c', ⟨e0, e1, e2⟩, _, hs, hb, hv⟩ := h
 have hl := hs.lt
 have hn2 := hs.st
 by_cases h1 : x < n2
 ·obtain ⟨tb, tof, rfl, htb, t0, t1, t2, t3, t4⟩ := tv_get hs.tok (at_tok (i := x) (by omega))
  have hz : z = (tokV L x).f := by
   rw [hL.out, if_pos (by omega)]
   unfold placeV
   rw [if_pos (by omega)]
  subst hz
  have b1 : decide ((x : Int) < (n2 : Int)) = true := decide_eq_true (by omega)
  have b2 : x < n2 := h1
  clear hs hv hl hL hx
  generalize (tokV L x).f = z at *
  go_enter Try.func28, Try.ntmps28
  go_wp2_with fail
  go_ret
  exact ⟨rfl, rfl⟩
 ·obtain rfl : x = n2 := by omega
  by_cases h2 : x = 0
  ·subst h2
   obtain rfl : z = 0 := by rw [hL.out, if_neg (by omega)]
   clear hs hv hl hL hx h1
   go_enter Try.func28, Try.ntmps28
   go_wp2_with fail
   go_ret
   exact ⟨rfl, rfl⟩
  ·obtain ⟨y, hy⟩ : ∃ y, x - 1 = y := ⟨_, rfl⟩
   obtain ⟨tb, tof, rfl, htb, t0, t1, t2, t3, t4⟩ := tv_get hs.tok (at_tok (i := y) (by omega))
   have hz : z = (tokV L y).t := by
    rw [hL.out, if_pos (by omega)]
    unfold placeV
    rw [if_neg (by omega), show ((L.length : Int) - 1) = (y : Int) by omega]
   subst hz
   have b1 : decide ((x : Int) < (x : Int)) = false := decide_eq_false (by omega)
   have b2 : IntKind.i64.wrap ((x : Int) - 1) = (y : Int) := by rw [IntKind.wrap_i64]; omega
   have b3 : y < x := by omega
   have b4 : (0 : Int) < (x : Int) := by omega
   have b5 : decide (0 < x) = true := decide_eq_true (by omega)
   clear hs hv hl hL hx h1 h2 hy
   generalize (tokV L y).t = z at *
   go_enter Try.func28, Try.ntmps28
   go_wp2_with fail
   go_ret
   exact ⟨rfl, rfl⟩
theorem pun_cases (k : Int) : punB k = true ↔ (k = 78 ∨ k = 83 ∨ k = 79 ∨ k = 84 ∨ k = 80 ∨ k = 85 ∨ k = 81 ∨ k = 82 ∨ k = 87 ∨ k = 86) := by
 unfold punB
 rw [decide_eq_true_eq]
 omega
set_option maxHeartbeats 8000000 in
set_option maxRecDepth 100000 in
theorem puns_run (k : Int) (v : Bool) (w : World) (hv : Hid (punB k = v)) :
  Calls Try.prog 22 #[.int .i64 k] w fun e w' => e = .returned (.bool v) ∧ w' = w := by
 cases v with
 | true =>
  rcases (pun_cases k).1 hv.out with rfl | rfl | rfl | rfl | rfl | rfl | rfl | rfl | rfl | rfl
  all_goals
   clear hv
   go_enter Try.func22, Try.ntmps22
   go_wp2_with fail
   go_ret
   exact ⟨rfl, rfl⟩
 | false =>
  have hn : ¬ (k = 78 ∨ k = 83 ∨ k = 79 ∨ k = 84 ∨ k = 80 ∨ k = 85 ∨ k = 81 ∨ k = 82 ∨ k = 87 ∨ k = 86) := fun h => by
   have := (pun_cases k).2 h
   rw [hv.out] at this
   cases this
  have g1 : (k == 78) = false := by simp; omega
  have g2 : (k == 83) = false := by simp; omega
  have g3 : (k == 79) = false := by simp; omega
  have g4 : (k == 84) = false := by simp; omega
  have g5 : (k == 80) = false := by simp; omega
  have g6 : (k == 85) = false := by simp; omega
  have g7 : (k == 81) = false := by simp; omega
  have g8 : (k == 82) = false := by simp; omega
  have g9 : (k == 87) = false := by simp; omega
  have g10 : (k == 86) = false := by simp; omega
  clear hn hv
  go_enter Try.func22, Try.ntmps22
  go_wp2_with fail
  go_ret
  exact ⟨rfl, rfl⟩
end Go.Proofs.Ytpjgapnihmiceaa
namespace Go.Proofs.Ytpjgapnihmiceaa
open Go.RowKit
set_option linter.unusedSimpArgs false
set_option linter.unusedVariables false
section
variable {w : World} {base g c : Nat} {L : List Int}
def RowI (w : World) (base g : Nat) (L : List Int) : Prop := OwnK .i64 3 w base (.slice (some ⟨g, 0, none⟩) L.length L.length) L
theorem RowI.lt (h : RowI w base g L) : base ≤ g ∧ g < w.heap.size := World.ownsRow.lt h g rfl
theorem RowI.at_ (h : RowI w base g L) {i : Nat} {x : Int} (hx : L[i]? = some x) : w.cell? ⟨g, i, none⟩ = some (.int .i64 x) ∧ w.frozen? ⟨g, i, none⟩ = false := by
 have := World.ownsRow.cells h (g := g) rfl i (.int .i64 x) (by rw [List.getElem?_map, hx]; rfl)
 have hp : (⟨g, 0, none⟩ : Addr).add i = ⟨g, i, none⟩ := by unfold Addr.add; split <;> simp_all
 rw [hp] at this
 exact ⟨this, World.ownsRow.frozenAt (show w.ownsRow base 3 1 (.slice (some ⟨g, 0, none⟩) L.length L.length) L.length (L.map fun x => Value.int .i64 x) from h) _⟩
theorem RowI.put (h : RowI w base g L) (i : Nat) (x : Int) : RowI (w.setCell ⟨g, i, none⟩ (.int .i64 x)) base g (L.set i x) := by
 have h' : w.ownsRow base 3 1 (.slice (some ⟨g, 0, none⟩) L.length L.length) L.length (L.map fun x => Value.int .i64 x) := h
 have := (World.ownsRow.stored h' i (.int .i64 x)).1
 unfold RowI OwnK
 rw [List.length_set, List.map_set]
 exact this
theorem RowI.below {w' : World} (h : RowI w base g L) (hb : Below w.heap.size w w') : RowI w' base g L := OwnK.below h hb
theorem RowI.own (h : RowI w base g L) : OwnK .i64 3 w base (.slice (some ⟨g, 0, none⟩) L.length L.length) L := h
theorem make_row (w : World) (n : Nat) (hn : n ≤ 1000000) : ∃ w', (Instr.makeSlice 42 (.int .i64 (n : Int)) (.int .i64 (n : Int))).run Try.prog w = .ok (.slice (some ⟨w.heap.size, 0, none⟩) n n) w' ∧ RowI w' w.heap.size w.heap.size (List.replicate n 0) ∧ Below w.heap.size w w' ∧ w.heap.size < w'.heap.size := by
 obtain ⟨w2, hmk, o2, g2⟩ := run_makeK int_slice w w.heap.size n n (Nat.le_refl _) hn (Nat.le_refl _)
 have o3 : RowI w2 w.heap.size w.heap.size (List.replicate n 0) := by unfold RowI; rw [List.length_replicate]; exact o2
 exact ⟨w2, hmk, o3, (Below.refl _ _).grown g2 (Nat.le_refl _) (by intro g h; cases h), o3.lt.2⟩
end
def addOne (L : List Int) (c : Int) : List Int := L.set c.toNat (L.getD c.toNat 0 + 1)
theorem addOne_len (L : List Int) (c : Int) : (addOne L c).length = L.length := by simp [addOne]
theorem addOne_get {L : List Int} {c : Int} {i : Nat} {x : Int} (hx : L[i]? = some x) (hc : 0 ≤ c) : (addOne L c)[i]? = some (x + (if c = (i : Int) then 1 else 0)) := by
 unfold addOne
 have hi := (List.getElem?_eq_some_iff.1 hx).1
 by_cases e : c = (i : Int)
 ·subst e
  rw [if_pos rfl, Int.toNat_natCast, List.getElem?_set_self hi, List.getD_eq_getElem?_getD, hx]
  rfl
 ·rw [if_neg e, Int.add_zero, List.getElem?_set_ne (by omega)]
  exact hx
def parT (T : List Nd) (k r : Nat) : List Int := (List.range T.length).map fun (i : Nat) => ((parN (T.take k) (i : Int) + ((nd T k).kids.take r).count (i : Int) : Nat) : Int)
theorem parT_get (T : List Nd) (k r : Nat) {i : Nat} (hi : i < T.length) : (parT T k r)[i]? = some ((parN (T.take k) (i : Int) + ((nd T k).kids.take r).count (i : Int) : Nat) : Int) := by
 unfold parT
 rw [List.getElem?_map, List.getElem?_range hi]
 rfl
theorem parT_len (T : List Nd) (k r : Nat) : (parT T k r).length = T.length := by simp [parT]
theorem parT_zero (T : List Nd) : List.replicate T.length (0 : Int) = parT T 0 0 := by
 apply List.ext_getElem?
 intro i
 rcases Nat.lt_or_ge i T.length with h | h
 ·rw [parT_get T 0 0 h, List.getElem?_replicate, if_pos h]
  simp [parN]
 ·rw [List.getElem?_eq_none (by simpa using h), List.getElem?_eq_none (by rw [parT_len]; exact h)]
theorem parT_next {T : List Nd} {k : Nat} (hk : k < T.length) : parT T k (nd T k).kids.length = parT T (k + 1) 0 := by
 apply List.ext_getElem?
 intro i
 rcases Nat.lt_or_ge i T.length with h | h
 ·rw [parT_get T _ _ h, parT_get T _ _ h, par_take (at_nd hk)]
  simp
 ·rw [List.getElem?_eq_none (by rw [parT_len]; exact h), List.getElem?_eq_none (by rw [parT_len]; exact h)]
theorem parT_step {T : List Nd} {k r : Nat} {y : Int} (hy : (nd T k).kids[r]? = some y) (h0 : 0 ≤ y) : addOne (parT T k r) y = parT T k (r + 1) := by
 apply List.ext_getElem?
 intro i
 rcases Nat.lt_or_ge i T.length with h | h
 ·rw [addOne_get (parT_get T k r h) h0, parT_get T k (r + 1) h, count_take hy]
  congr 1
  split <;> omega
 ·rw [List.getElem?_eq_none (by rw [addOne_len, parT_len]; exact h), List.getElem?_eq_none (by rw [parT_len]; exact h)]
theorem parT_all (T : List Nd) {i : Nat} (hi : i < T.length) : (parT T T.length 0)[i]? = some ((parN T (i : Int) : Nat) : Int) := by
 rw [parT_get T _ _ hi, List.take_length]
 simp
end Go.Proofs.Ytpjgapnihmiceaa
