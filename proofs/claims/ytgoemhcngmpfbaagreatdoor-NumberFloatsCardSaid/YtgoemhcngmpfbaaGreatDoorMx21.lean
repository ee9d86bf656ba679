/-
  number's split.
-/
import Derived.Test.YtgoemhcngmpfbaaGreatDoorMx15
import Derived.Test.YtgoemhcngmpfbaaGreatDoorMx16
import Derived.Test.YtgoemhcngmpfbaaGreatDoorMx20
import Derived.Lib.Atoi
import Derived.Lib.SmallJoins
import Derived.Test.YtgoemhcngmpfbaaGreatDoorMx17
import Derived.Test.YtgoemhcngmpfbaaGreatDoorMx02
namespace Go.Proofs.YtgoemhcngmpfbaaGreatDoor
open Go.RowKit Go.Sort
set_option linter.unusedSimpArgs false
structure PartsAt (w : World) (b : Nat) (x0 x1 x2 x3 : ByteArray) : Prop where
 c0 : w.cell? ⟨b, 0, none⟩ = some (.string x0)
 c1 : w.cell? ⟨b, 1, none⟩ = some (.string x1)
 c2 : w.cell? ⟨b, 2, none⟩ = some (.string x2)
 c3 : w.cell? ⟨b, 3, none⟩ = some (.string x3)
 f0 : w.frozen? ⟨b, 0, none⟩ = false
 f1 : w.frozen? ⟨b, 1, none⟩ = false
 f2 : w.frozen? ⟨b, 2, none⟩ = false
 f3 : w.frozen? ⟨b, 3, none⟩ = false
section
variable {w w' : World} {b : Nat} {x0 x1 x2 x3 : ByteArray}
theorem PartsAt.lt (h : PartsAt w b x0 x1 x2 x3) : b < w.heap.size := World.block_lt_of_cell? w _ h.c0
theorem PartsAt.below (h : PartsAt w b x0 x1 x2 x3) (hb : Below w.heap.size w w') : PartsAt w' b x0 x1 x2 x3 :=
 ⟨(hb.cell (p := ⟨b, 0, none⟩) h.lt).trans h.c0, (hb.cell (p := ⟨b, 1, none⟩) h.lt).trans h.c1, (hb.cell (p := ⟨b, 2, none⟩) h.lt).trans h.c2, (hb.cell (p := ⟨b, 3, none⟩) h.lt).trans h.c3,
  (hb.frozen (p := ⟨b, 0, none⟩) h.lt).trans h.f0, (hb.frozen (p := ⟨b, 1, none⟩) h.lt).trans h.f1, (hb.frozen (p := ⟨b, 2, none⟩) h.lt).trans h.f2, (hb.frozen (p := ⟨b, 3, none⟩) h.lt).trans h.f3⟩
theorem PartsAt.new (w : World) (x0 x1 x2 x3 : ByteArray) (T : TypeId) : PartsAt (w.alloc (.cells #[.string x0, .string x1, .string x2, .string x3] T)) w.heap.size x0 x1 x2 x3 :=
 ⟨World.cell?_alloc_at _ _ _ _ rfl, World.cell?_alloc_at _ _ _ _ rfl, World.cell?_alloc_at _ _ _ _ rfl, World.cell?_alloc_at _ _ _ _ rfl, World.frozen?_alloc_at _ _ _ _ rfl, World.frozen?_alloc_at _ _ _ _ rfl, World.frozen?_alloc_at _ _ _ _ rfl, World.frozen?_alloc_at _ _ _ _ rfl⟩
def pt01 (w : World) (b : Nat) (y0 y1 : ByteArray) : World := (w.setCell ⟨b, 0, none⟩ (.string y0)).setCell ⟨b, 1, none⟩ (.string y1)
def pt23 (w : World) (b : Nat) (y2 y3 : ByteArray) : World := (w.setCell ⟨b, 2, none⟩ (.string y2)).setCell ⟨b, 3, none⟩ (.string y3)
theorem ne_off {b i j : Nat} (h : i ≠ j) : (⟨b, i, none⟩ : Addr) ≠ ⟨b, j, none⟩ := fun e => h (by injection e)
theorem PartsAt.put01 (h : PartsAt w b x0 x1 x2 x3) (y0 y1 : ByteArray) : PartsAt (pt01 w b y0 y1) b y0 y1 x2 x3 := by
 unfold pt01
 refine ⟨?_, ?_, ?_, ?_, ?_, ?_, ?_, ?_⟩
 ·rw [World.cell?_setCell_other _ _ _ _ (ne_off (by decide))]; exact World.cell?_setCell_same _ _ _ h.c0
 ·exact World.cell?_setCell_same _ _ _ ((World.cell?_setCell_other _ _ _ _ (ne_off (by decide))).trans h.c1)
 ·rw [World.cell?_setCell_other _ _ _ _ (ne_off (by decide)), World.cell?_setCell_other _ _ _ _ (ne_off (by decide))]; exact h.c2
 ·rw [World.cell?_setCell_other _ _ _ _ (ne_off (by decide)), World.cell?_setCell_other _ _ _ _ (ne_off (by decide))]; exact h.c3
 all_goals rw [World.frozen?_setCell, World.frozen?_setCell]
 ·exact h.f0
 ·exact h.f1
 ·exact h.f2
 ·exact h.f3
theorem PartsAt.put23 (h : PartsAt w b x0 x1 x2 x3) (y2 y3 : ByteArray) : PartsAt (pt23 w b y2 y3) b x0 x1 y2 y3 := by
 unfold pt23
 refine ⟨?_, ?_, ?_, ?_, ?_, ?_, ?_, ?_⟩
 ·rw [World.cell?_setCell_other _ _ _ _ (ne_off (by decide)), World.cell?_setCell_other _ _ _ _ (ne_off (by decide))]; exact h.c0
 ·rw [World.cell?_setCell_other _ _ _ _ (ne_off (by decide)), World.cell?_setCell_other _ _ _ _ (ne_off (by decide))]; exact h.c1
 ·rw [World.cell?_setCell_other _ _ _ _ (ne_off (by decide))]; exact World.cell?_setCell_same _ _ _ h.c2
 ·exact World.cell?_setCell_same _ _ _ ((World.cell?_setCell_other _ _ _ _ (ne_off (by decide))).trans h.c3)
 all_goals rw [World.frozen?_setCell, World.frozen?_setCell]
 ·exact h.f0
 ·exact h.f1
 ·exact h.f2
 ·exact h.f3
theorem below_pt01 {B : Nat} {w0 : World} (h : Below B w0 w) (hb : B ≤ b) (y0 y1 : ByteArray) : Below B w0 (pt01 w b y0 y1) := (h.setCell (p := ⟨b, 0, none⟩) hb _).setCell (p := ⟨b, 1, none⟩) hb _
theorem below_pt23 {B : Nat} {w0 : World} (h : Below B w0 w) (hb : B ≤ b) (y0 y1 : ByteArray) : Below B w0 (pt23 w b y0 y1) := (h.setCell (p := ⟨b, 2, none⟩) hb _).setCell (p := ⟨b, 3, none⟩) hb _
end
def partsV (x0 x1 x2 x3 : ByteArray) : Value := .agg #[.string x0, .string x1, .string x2, .string x3]
theorem results_parts {fn : Func} {p u : Tmp} (hf : fn.results = #[.cell p 107, .tmp u]) {tmps : Array Value} {W : World} {b : Nat} {x0 x1 x2 x3 : ByteArray} {v : Value} (hp : tmps.getD p undef = .pointer (some ⟨b, 0, none⟩)) (hu : tmps.getD u undef = v) (h : PartsAt W b x0 x1 x2 x3) :
  (results fn tmps).run Tryz.prog W = .ok (.tuple #[partsV x0 x1 x2 x3, v]) W := by
 obtain ⟨c0, c1, c2, c3, _, _, _, _⟩ := h
 rw [results_cell_tmp hf, hp, hu]
 unfold partsV
 go_simp
theorem hcat_bs (a b : List UInt8) : bs a ++ bs b = bs (a ++ b) := bytes_app a b
set_option maxRecDepth 100000 in
set_option maxHeartbeats 16000000 in
theorem split_run (l : List UInt8) (b : Bool) (w : World) (hl : l.length ≤ 10000) (hb : Hid (b = true ↔ FloatOk l)) (hm : Hid (Ml w)) :
  Calls Tryz.prog 67 #[.string (bs l)] w fun e w' => e = .returned (.tuple #[partsV (bs (ptW l)) (bs (ptF l)) (bs (ptS l)) (bs (ptX l)), .bool b]) ∧ Below w.heap.size w w' := by
 obtain ⟨S, hS⟩ : ∃ S, w.heap.size = S := ⟨_, rfl⟩
 have HM : Hid (∀ V, Below S w V → Ml V) := fun V hb => hm.out.below (by rw [hS]; exact hb)
 have HJ : Hid (∀ V, Ml V → Calls Tryz.prog 63 #[.string (bs l)] V fun e w' => e = .returned (.string (bs (unsc l))) ∧ Below V.heap.size V w') := fun V hV => join_run l V (by omega) hV
 have hT := unsc_length l
 obtain ⟨sepb, hsep⟩ := sep_bool isDig l
 have HSE := Lib.hid (fun V => separated_run 1 isDig l sepb V (by omega) hsep (fun c V => has1_run c.toNat (UInt8.toNat_lt c) V))
 obtain ⟨W, hW⟩ : ∃ x, ptW l = x := ⟨_, rfl⟩
 obtain ⟨F, hF⟩ : ∃ x, ptF l = x := ⟨_, rfl⟩
 obtain ⟨sg, hsg⟩ : ∃ x, ptS l = x := ⟨_, rfl⟩
 obtain ⟨ex, hex⟩ : ∃ x, ptX l = x := ⟨_, rfl⟩
 obtain ⟨D, hD⟩ : ∃ x, ptD l = x := ⟨_, rfl⟩
 obtain ⟨d1, hd1⟩ : ∃ x, decB (W ++ F) = x := ⟨_, rfl⟩
 obtain ⟨d2, hd2⟩ : ∃ x, decB ex = x := ⟨_, rfl⟩
 have hbb : b = (sepb && ((D || ptM l) && (d1 && d2))) := by
  rw [Bool.eq_iff_iff, hb.out]
  unfold FloatOk
  rw [hW, hF, hex, hD, hd1, hd2, ← hsep]
  simp only [Bool.and_eq_true]
 have HR : Hid (ptW l = W ∧ ptF l = F ∧ ptS l = sg ∧ ptX l = ex) := ⟨hW, hF, hsg, hex⟩
 have lW : W.length ≤ 10000 := by
  rw [← hW]
  exact Nat.le_trans (preP_len isP _) (Nat.le_trans (preP_len isM _) (by omega))
 have lF : F.length ≤ 10000 := by
  rw [← hF]
  exact Nat.le_trans (postP_len isP _) (Nat.le_trans (preP_len isM _) (by omega))
 have lX : ex.length ≤ 10001 := by
  rw [← hex]
  unfold ptX
  split
  ·exact Nat.le_trans (restL_len _) (Nat.le_trans (postP_len isM _) (by omega))
  ·simp
 have HD1 : Hid (∀ V, Calls Tryz.prog 108 #[.string (bs (W ++ F))] V fun e w' => e = .returned (.bool d1) ∧ Below V.heap.size V w') := fun V => by
  have := decimal_runN (W ++ F) V (by rw [List.length_append]; omega)
  rwa [hd1] at this
 have HD2 : Hid (∀ V, Calls Tryz.prog 108 #[.string (bs ex)] V fun e w' => e = .returned (.bool d2) ∧ Below V.heap.size V w') := fun V => by
  have := decimal_runN ex V (by omega)
  rwa [hd2] at this
 have hcat := hcat_bs W F
 have sW := bs_size W
 have sF := bs_size F
 have HIX : Hid (∀ V, Calls Tryz.prog 105 #[.string (bs (unsc l)), .string ⟨#[101, 69]⟩] V fun e w' => e = .returned (.int .i64 (Lib.indexAny (unsc l) [101, 69])) ∧ Below V.heap.size V w') := fun V => by
  have := IndexAny_eE (bs (unsc l)) V (by rw [bs_size]; omega)
  rwa [bs_list] at this
 have lA : (ptA l).length ≤ 10000 := Nat.le_trans (preP_len isM _) (by omega)
 have HCU : Hid (∀ V, Ml V → Calls Tryz.prog 107 #[.string (bs (ptA l)), .string ⟨#[46]⟩] V fun e w' => e = .returned (.tuple #[.string (bs W), .string (bs F), .bool D]) ∧ Below V.heap.size V w') := fun V hV => by
  obtain ⟨m, hmc⟩ := hV
  have := Tryz.strings_Cut (bs (ptA l)) ⟨#[46]⟩ m V (by rw [bs_size]; omega) hmc
  rw [bs_list, show (⟨#[46]⟩ : ByteArray).data.toList = [46] from rfl, cut_dot] at this
  have h1 : preP isP (ptA l) = W := hW
  have h2 : postP isP (ptA l) = F := hF
  have h3 : (ptA l).any isP = D := hD
  rw [h1, h2, h3] at this
  refine this.mono fun e w' h => ⟨h.1, ?_⟩
  obtain ⟨n, hn⟩ := h.2
  rw [hn]
  exact (Below.refl _ _).drewN n
 have HB0 := Lib.hid (below_alloc w (.cells #[.string ⟨#[]⟩, .string ⟨#[]⟩, .string ⟨#[]⟩, .string ⟨#[48]⟩] 107))
 have HP0 := Lib.hid (PartsAt.new w ⟨#[]⟩ ⟨#[]⟩ ⟨#[]⟩ ⟨#[48]⟩ 107)
 have HZ0 : Hid ((w.alloc (.cells #[.string ⟨#[]⟩, .string ⟨#[]⟩, .string ⟨#[]⟩, .string ⟨#[48]⟩] 107)).heap.size = S + 1) := by show _ = _; simp [hS]
 rw [hS] at HB0 HP0 ⊢
 clear hm hb hsep hd1 hd2 hW hF hD
 cases hM : ptM l
 ·
  obtain ⟨hix, hpre⟩ := split_none hM
  rw [hix] at HIX
  have hA : ptA l = unsc l := hpre
  rw [hA] at HCU
  have e1 : sg = [] := by rw [← hsg]; unfold ptS; rw [hM]; rfl
  have e2 : ex = [48] := by rw [← hex]; unfold ptX; rw [hM]; rfl
  have HP0' : Hid (PartsAt (w.alloc (.cells #[.string ⟨#[]⟩, .string ⟨#[]⟩, .string ⟨#[]⟩, .string ⟨#[48]⟩] 107)) S ⟨#[]⟩ ⟨#[]⟩ (bs sg) (bs ex)) := by rw [e1, e2]; exact HP0
  rw [hM] at hbb
  have HBB := Lib.hid hbb
  generalize unsc l = T at *
  have sT := bs_size T
  clear hbb hM hix hpre hA hsg hex e1 e2 HP0 lA lX
  go_enter Tryz.func67, Tryz.ntmps67
  go_wp2_with fail
  refine (HJ.out _ (HM.out _ HB0.out)).mono ?_
  rintro e w1 ⟨rfl, hw⟩
  have HP1 := Lib.hid (HP0'.out.below hw)
  have HB1 := Lib.hid (HB0.out.trans (hw.mono (by rw [HZ0.out]; omega)))
  clear hw HB0 HP0' HZ0
  go_wp2_with fail
  refine (HIX.out _).mono ?_
  rintro e w2 ⟨rfl, hw⟩
  have HP2 := Lib.hid (HP1.out.below hw)
  have HB2 := Lib.hid (HB1.out.trans (hw.mono (by have := HB1.out.size; omega)))
  clear hw HB1 HP1
  go_wp2_with fail
  refine (HCU.out _ (HM.out _ HB2.out)).mono ?_
  rintro e w3 ⟨rfl, hw⟩
  have HP3 := Lib.hid (HP2.out.below hw)
  have HB3 := Lib.hid (HB2.out.trans (hw.mono (by have := HB2.out.size; omega)))
  clear hw HB2 HP2
  obtain ⟨c0, c1, c2, c3, f0, f1, f2, f3⟩ := HP3.out
  have HPz : Hid (PartsAt ((w3.setCell ⟨S, 0, none⟩ (.string (bs W))).setCell ⟨S, 1, none⟩ (.string (bs F))) S (bs W) (bs F) (bs sg) (bs ex)) := HP3.out.put01 _ _
  have HBz : Hid (Below S w ((w3.setCell ⟨S, 0, none⟩ (.string (bs W))).setCell ⟨S, 1, none⟩ (.string (bs F)))) := below_pt01 HB3.out (Nat.le_refl _) _ _
  go_upto_region 9 with fail
  clear c0 c1 c2 c3 f0 f1 f2 f3 HP3 HB3
  generalize (w3.setCell ⟨S, 0, none⟩ (.string (bs W))).setCell ⟨S, 1, none⟩ (.string (bs F)) = wz at *
  cases sepb with
  | false =>
   have HF : Hid (b = false) := by rw [HBB.out]; rfl
   go_wp2_with fail
   refine (HSE.out _).mono ?_
   rintro e w5 ⟨rfl, rfl⟩
   obtain ⟨c0, c1, c2, c3, f0, f1, f2, f3⟩ := HPz.out
   go_wp2_with fail
   refine bodyPost_ret (v := .tuple #[partsV (bs W) (bs F) (bs sg) (bs ex), .bool false]) (results_parts rfl rfl rfl ((HPz.out.put01 (bs W) (bs F)).put23 (bs sg) (bs ex))) rfl ⟨?_, below_pt23 (below_pt01 HBz.out (Nat.le_refl _) _ _) (Nat.le_refl _) _ _⟩
   rw [HF.out, HR.out.1, HR.out.2.1, HR.out.2.2.1, HR.out.2.2.2]
  | true =>
   cases D with
   | false =>
    have HF : Hid (b = false) := by rw [HBB.out]; rfl
    go_wp2_with fail
    refine (HSE.out _).mono ?_
    rintro e w5 ⟨rfl, rfl⟩
    obtain ⟨c0, c1, c2, c3, f0, f1, f2, f3⟩ := HPz.out
    go_wp2_with fail
    refine bodyPost_ret (v := .tuple #[partsV (bs W) (bs F) (bs sg) (bs ex), .bool false]) (results_parts rfl rfl rfl ((HPz.out.put01 (bs W) (bs F)).put23 (bs sg) (bs ex))) rfl ⟨?_, below_pt23 (below_pt01 HBz.out (Nat.le_refl _) _ _) (Nat.le_refl _) _ _⟩
    rw [HF.out, HR.out.1, HR.out.2.1, HR.out.2.2.1, HR.out.2.2.2]
   | true =>
    have hc3 := HPz.out.c3
    cases d1 with
    | false =>
     have HF : Hid (b = false) := HBB.out.trans (by simp)
     go_wp2_with fail
     refine (HSE.out _).mono ?_
     rintro e w5 ⟨rfl, rfl⟩
     go_wp2_with fail
     refine (HD1.out _).mono ?_
     rintro e w6 ⟨rfl, hw⟩
     have HP6 := Lib.hid (HPz.out.below hw)
     have HB6 := Lib.hid (HBz.out.trans (hw.mono (by have := HBz.out.size; omega)))
     clear hw hc3 HPz HBz
     obtain ⟨c0, c1, c2, c3, f0, f1, f2, f3⟩ := HP6.out
     go_wp2_with fail
     refine bodyPost_ret (v := .tuple #[partsV (bs W) (bs F) (bs sg) (bs ex), .bool false]) (results_parts rfl rfl rfl ((HP6.out.put01 (bs W) (bs F)).put23 (bs sg) (bs ex))) rfl ⟨?_, below_pt23 (below_pt01 HB6.out (Nat.le_refl _) _ _) (Nat.le_refl _) _ _⟩
     rw [HF.out, HR.out.1, HR.out.2.1, HR.out.2.2.1, HR.out.2.2.2]
    | true =>
     have HF : Hid (b = d2) := HBB.out.trans (by simp)
     clear hc3
     go_wp2_with fail
     refine (HSE.out _).mono ?_
     rintro e w5 ⟨rfl, rfl⟩
     go_wp2_with fail
     refine (HD1.out _).mono ?_
     rintro e w6 ⟨rfl, hw⟩
     have HP6 := Lib.hid (HPz.out.below hw)
     have HB6 := Lib.hid (HBz.out.trans (hw.mono (by have := HBz.out.size; omega)))
     clear hw HPz HBz
     have hc3 := HP6.out.c3
     go_wp2_with fail
     refine (HD2.out _).mono ?_
     rintro e w7 ⟨rfl, hw⟩
     have HP7 := Lib.hid (HP6.out.below hw)
     have HB7 := Lib.hid (HB6.out.trans (hw.mono (by have := HB6.out.size; omega)))
     clear hw hc3 HP6 HB6
     obtain ⟨c0, c1, c2, c3, f0, f1, f2, f3⟩ := HP7.out
     go_wp2_with fail
     refine bodyPost_ret (v := .tuple #[partsV (bs W) (bs F) (bs sg) (bs ex), .bool d2]) (results_parts rfl rfl rfl ((HP7.out.put01 (bs W) (bs F)).put23 (bs sg) (bs ex))) rfl ⟨?_, below_pt23 (below_pt01 HB7.out (Nat.le_refl _) _ _) (Nat.le_refl _) _ _⟩
     rw [HF.out, HR.out.1, HR.out.2.1, HR.out.2.2.1, HR.out.2.2.2]
 ·
  obtain ⟨i, hix, hi, htk, hdr⟩ := split_mark hM
  rw [hix] at HIX
  obtain ⟨X, hX⟩ : ∃ X, postP isM (unsc l) = X := ⟨_, rfl⟩
  obtain ⟨A, hA⟩ : ∃ A, ptA l = A := ⟨_, rfl⟩
  have htk2 : (unsc l).take i = A := htk.trans hA
  have hdr2 : (unsc l).drop (i + 1) = X := hdr.trans hX
  rw [hA] at HCU
  have e1 : sg = sgnL X := by rw [← hsg]; unfold ptS; rw [hM, hX]; rfl
  have e2 : ex = restL X := by rw [← hex]; unfold ptX; rw [hM, hX]; rfl
  have HCS := Lib.hid (fun V => cutSign_run X V (by rw [← hX]; exact Nat.le_trans (postP_len isM _) (by omega)))
  rw [← e1, ← e2] at HCS
  rw [hM, Bool.or_true, Bool.true_and] at hbb
  have HBB := Lib.hid hbb
  have hTl : (unsc l).length ≤ 10000 := by omega
  generalize unsc l = T at *
  have sT := bs_size T
  have x1 := bs_to T i
  rw [htk2] at x1
  have x2 := bs_from T (i + 1) _ rfl
  rw [hdr2] at x2
  have hiz : (i : Int) < (T.length : Int) := by omega
  have hiz1 : (i : Int) + 1 ≤ (T.length : Int) := by omega
  clear hbb hM hix htk hdr htk2 hdr2 hX hA hsg hex e1 e2 lA lX
  go_enter Tryz.func67, Tryz.ntmps67
  go_wp2_with fail
  refine (HJ.out _ (HM.out _ HB0.out)).mono ?_
  rintro e w1 ⟨rfl, hw⟩
  have HP1 := Lib.hid (HP0.out.below hw)
  have HB1 := Lib.hid (HB0.out.trans (hw.mono (by rw [HZ0.out]; omega)))
  clear hw HB0 HP0 HZ0
  go_wp2_with fail
  refine (HIX.out _).mono ?_
  rintro e w2 ⟨rfl, hw⟩
  have HP2 := Lib.hid (HP1.out.below hw)
  have HB2 := Lib.hid (HB1.out.trans (hw.mono (by have := HB1.out.size; omega)))
  clear hw HB1 HP1
  go_wp2_with fail
  refine (HCS.out _).mono ?_
  rintro e w3 ⟨rfl, hw⟩
  have HP3 := Lib.hid (HP2.out.below hw)
  have HB3 := Lib.hid (HB2.out.trans (hw.mono (by have := HB2.out.size; omega)))
  clear hw HB2 HP2
  obtain ⟨c0, c1, c2, c3, f0, f1, f2, f3⟩ := HP3.out
  have HP4 : Hid (PartsAt ((w3.setCell ⟨S, 2, none⟩ (.string (bs sg))).setCell ⟨S, 3, none⟩ (.string (bs ex))) S ⟨#[]⟩ ⟨#[]⟩ (bs sg) (bs ex)) := HP3.out.put23 _ _
  have HB4 : Hid (Below S w ((w3.setCell ⟨S, 2, none⟩ (.string (bs sg))).setCell ⟨S, 3, none⟩ (.string (bs ex)))) := below_pt23 HB3.out (Nat.le_refl _) _ _
  go_upto_region 6 with fail
  clear c0 c1 c2 c3 f0 f1 f2 f3 HP3 HB3
  generalize (w3.setCell ⟨S, 2, none⟩ (.string (bs sg))).setCell ⟨S, 3, none⟩ (.string (bs ex)) = w4 at *
  go_wp2_with fail
  refine (HCU.out _ (HM.out _ HB4.out)).mono ?_
  rintro e w5 ⟨rfl, hw⟩
  have HP5 := Lib.hid (HP4.out.below hw)
  have HB5 := Lib.hid (HB4.out.trans (hw.mono (by have := HB4.out.size; omega)))
  clear hw HB4 HP4
  obtain ⟨c0, c1, c2, c3, f0, f1, f2, f3⟩ := HP5.out
  have HPz : Hid (PartsAt ((w5.setCell ⟨S, 0, none⟩ (.string (bs W))).setCell ⟨S, 1, none⟩ (.string (bs F))) S (bs W) (bs F) (bs sg) (bs ex)) := HP5.out.put01 _ _
  have HBz : Hid (Below S w ((w5.setCell ⟨S, 0, none⟩ (.string (bs W))).setCell ⟨S, 1, none⟩ (.string (bs F)))) := below_pt01 HB5.out (Nat.le_refl _) _ _
  go_upto_region 9 with fail
  clear c0 c1 c2 c3 f0 f1 f2 f3 HP5 HB5
  generalize (w5.setCell ⟨S, 0, none⟩ (.string (bs W))).setCell ⟨S, 1, none⟩ (.string (bs F)) = wz at *
  cases sepb with
  | false =>
   have HF : Hid (b = false) := by rw [HBB.out]; rfl
   go_wp2_with fail
   refine (HSE.out _).mono ?_
   rintro e w5 ⟨rfl, rfl⟩
   obtain ⟨c0, c1, c2, c3, f0, f1, f2, f3⟩ := HPz.out
   go_wp2_with fail
   refine bodyPost_ret (v := .tuple #[partsV (bs W) (bs F) (bs sg) (bs ex), .bool false]) (results_parts rfl rfl rfl ((HPz.out.put01 (bs W) (bs F)).put23 (bs sg) (bs ex))) rfl ⟨?_, below_pt23 (below_pt01 HBz.out (Nat.le_refl _) _ _) (Nat.le_refl _) _ _⟩
   rw [HF.out, HR.out.1, HR.out.2.1, HR.out.2.2.1, HR.out.2.2.2]
  | true =>
   cases D with
   | false =>
    have hc3 := HPz.out.c3
    cases d1 with
    | false =>
     have HF : Hid (b = false) := HBB.out.trans (by simp)
     go_wp2_with fail
     refine (HSE.out _).mono ?_
     rintro e w5 ⟨rfl, rfl⟩
     go_wp2_with fail
     refine (HD1.out _).mono ?_
     rintro e w6 ⟨rfl, hw⟩
     have HP6 := Lib.hid (HPz.out.below hw)
     have HB6 := Lib.hid (HBz.out.trans (hw.mono (by have := HBz.out.size; omega)))
     clear hw hc3 HPz HBz
     obtain ⟨c0, c1, c2, c3, f0, f1, f2, f3⟩ := HP6.out
     go_wp2_with fail
     refine bodyPost_ret (v := .tuple #[partsV (bs W) (bs F) (bs sg) (bs ex), .bool false]) (results_parts rfl rfl rfl ((HP6.out.put01 (bs W) (bs F)).put23 (bs sg) (bs ex))) rfl ⟨?_, below_pt23 (below_pt01 HB6.out (Nat.le_refl _) _ _) (Nat.le_refl _) _ _⟩
     rw [HF.out, HR.out.1, HR.out.2.1, HR.out.2.2.1, HR.out.2.2.2]
    | true =>
     have HF : Hid (b = d2) := HBB.out.trans (by simp)
     clear hc3
     go_wp2_with fail
     refine (HSE.out _).mono ?_
     rintro e w5 ⟨rfl, rfl⟩
     go_wp2_with fail
     refine (HD1.out _).mono ?_
     rintro e w6 ⟨rfl, hw⟩
     have HP6 := Lib.hid (HPz.out.below hw)
     have HB6 := Lib.hid (HBz.out.trans (hw.mono (by have := HBz.out.size; omega)))
     clear hw HPz HBz
     have hc3 := HP6.out.c3
     go_wp2_with fail
     refine (HD2.out _).mono ?_
     rintro e w7 ⟨rfl, hw⟩
     have HP7 := Lib.hid (HP6.out.below hw)
     have HB7 := Lib.hid (HB6.out.trans (hw.mono (by have := HB6.out.size; omega)))
     clear hw hc3 HP6 HB6
     obtain ⟨c0, c1, c2, c3, f0, f1, f2, f3⟩ := HP7.out
     go_wp2_with fail
     refine bodyPost_ret (v := .tuple #[partsV (bs W) (bs F) (bs sg) (bs ex), .bool d2]) (results_parts rfl rfl rfl ((HP7.out.put01 (bs W) (bs F)).put23 (bs sg) (bs ex))) rfl ⟨?_, below_pt23 (below_pt01 HB7.out (Nat.le_refl _) _ _) (Nat.le_refl _) _ _⟩
     rw [HF.out, HR.out.1, HR.out.2.1, HR.out.2.2.1, HR.out.2.2.2]
   | true =>
    have hc3 := HPz.out.c3
    cases d1 with
    | false =>
     have HF : Hid (b = false) := HBB.out.trans (by simp)
     go_wp2_with fail
     refine (HSE.out _).mono ?_
     rintro e w5 ⟨rfl, rfl⟩
     go_wp2_with fail
     refine (HD1.out _).mono ?_
     rintro e w6 ⟨rfl, hw⟩
     have HP6 := Lib.hid (HPz.out.below hw)
     have HB6 := Lib.hid (HBz.out.trans (hw.mono (by have := HBz.out.size; omega)))
     clear hw hc3 HPz HBz
     obtain ⟨c0, c1, c2, c3, f0, f1, f2, f3⟩ := HP6.out
     go_wp2_with fail
     refine bodyPost_ret (v := .tuple #[partsV (bs W) (bs F) (bs sg) (bs ex), .bool false]) (results_parts rfl rfl rfl ((HP6.out.put01 (bs W) (bs F)).put23 (bs sg) (bs ex))) rfl ⟨?_, below_pt23 (below_pt01 HB6.out (Nat.le_refl _) _ _) (Nat.le_refl _) _ _⟩
     rw [HF.out, HR.out.1, HR.out.2.1, HR.out.2.2.1, HR.out.2.2.2]
    | true =>
     have HF : Hid (b = d2) := HBB.out.trans (by simp)
     clear hc3
     go_wp2_with fail
     refine (HSE.out _).mono ?_
     rintro e w5 ⟨rfl, rfl⟩
     go_wp2_with fail
     refine (HD1.out _).mono ?_
     rintro e w6 ⟨rfl, hw⟩
     have HP6 := Lib.hid (HPz.out.below hw)
     have HB6 := Lib.hid (HBz.out.trans (hw.mono (by have := HBz.out.size; omega)))
     clear hw HPz HBz
     have hc3 := HP6.out.c3
     go_wp2_with fail
     refine (HD2.out _).mono ?_
     rintro e w7 ⟨rfl, hw⟩
     have HP7 := Lib.hid (HP6.out.below hw)
     have HB7 := Lib.hid (HB6.out.trans (hw.mono (by have := HB6.out.size; omega)))
     clear hw hc3 HP6 HB6
     obtain ⟨c0, c1, c2, c3, f0, f1, f2, f3⟩ := HP7.out
     go_wp2_with fail
     refine bodyPost_ret (v := .tuple #[partsV (bs W) (bs F) (bs sg) (bs ex), .bool d2]) (results_parts rfl rfl rfl ((HP7.out.put01 (bs W) (bs F)).put23 (bs sg) (bs ex))) rfl ⟨?_, below_pt23 (below_pt01 HB7.out (Nat.le_refl _) _ _) (Nat.le_refl _) _ _⟩
     rw [HF.out, HR.out.1, HR.out.2.1, HR.out.2.2.1, HR.out.2.2.2]
end Go.Proofs.YtgoemhcngmpfbaaGreatDoor
namespace Go.Proofs.YtgoemhcngmpfbaaGreatDoor
open Go.RowKit Go.Sort
set_option linter.unusedSimpArgs false
theorem dv10 {c : UInt8} (h : dvN c.toNat < 10) : 48 ≤ c.toNat ∧ c.toNat ≤ 57 ∧ dvN c.toNat = c.toNat - 48 := by
 unfold dvN at h ⊢
 by_cases h1 : 48 ≤ c.toNat ∧ c.toNat ≤ 57
 ·rw [if_pos h1]; exact ⟨h1.1, h1.2, rfl⟩
 ·rw [if_neg h1] at h
  split at h
  ·omega
  ·split at h
   ·omega
   ·omega
theorem decFrom_num : ∀ (l : List UInt8) (a : Nat), okDig 10 l = true → Lib.decFrom a l = some (l.foldl (fun a c => a * 10 + dvN c.toNat) a)
 | [], _, _ => rfl
 | c :: m, a, h => by
  unfold okDig at h
  rw [List.all_cons, Bool.and_eq_true, decide_eq_true_eq] at h
  obtain ⟨h1, h2, h3⟩ := dv10 h.1
  unfold Lib.decFrom Lib.digitVal
  rw [if_pos ⟨h1, h2⟩]
  rw [List.foldl_cons, h3]
  exact decFrom_num m _ h.2
theorem decNat_num {l : List UInt8} (h : decB l = true) : Lib.decNat l = some (num 10 l) := by
 unfold decB at h
 rw [Bool.and_eq_true] at h
 unfold Lib.decNat
 rw [if_neg (by simpa using h.1)]
 exact decFrom_num l 0 h.2
def powZ (sg ex : List UInt8) : Int := if sg = [45] then -(num 10 ex : Int) else (num 10 ex : Int)
theorem atoi_cons (b : UInt8) (r : List UInt8) : Lib.atoi (b :: r) = if b == 45 then (Lib.decNat r).map fun (m : Nat) => -(m : Int) else if b == 43 then (Lib.decNat r).map fun (m : Nat) => (m : Int) else (Lib.decNat (b :: r)).map fun (m : Nat) => (m : Int) := rfl
theorem atoi_pow {sg ex : List UInt8} (hs : sg = [] ∨ sg = [43] ∨ sg = [45]) (h : decB ex = true) : Lib.atoi (sg ++ ex) = some (powZ sg ex) := by
 have hd := decNat_num h
 unfold powZ
 rcases hs with rfl | rfl | rfl
 ·rw [if_neg (by decide), List.nil_append]
  cases ex with
  | nil => simp [decB] at h
  | cons c m =>
   have h2 : dvN c.toNat < 10 := by
    unfold decB okDig at h
    rw [Bool.and_eq_true, List.all_cons, Bool.and_eq_true, decide_eq_true_eq] at h
    exact h.2.1
   obtain ⟨h3, h4, _⟩ := dv10 h2
   have n1 : (c == 45) = false := by
    rw [beq_eq_false_iff_ne]; rintro rfl; exact absurd h3 (by decide)
   have n2 : (c == 43) = false := by
    rw [beq_eq_false_iff_ne]; rintro rfl; exact absurd h3 (by decide)
   rw [atoi_cons, n1, n2, if_neg (by decide), if_neg (by decide), hd]
   rfl
 ·rw [if_neg (by decide)]
  show Lib.atoi (43 :: ex) = _
  rw [atoi_cons, if_neg (by decide), if_pos (by decide), hd]
  rfl
 ·rw [if_pos rfl]
  show Lib.atoi (45 :: ex) = _
  rw [atoi_cons, if_pos (by decide), hd]
  rfl
theorem num10_lt : ∀ (k : Nat) (l : List UInt8), okDig 10 l = true → l.length ≤ k → num 10 l < 10 ^ k := by
 intro k l h hl
 have key : ∀ (m : List UInt8) (a : Nat), okDig 10 m = true → m.foldl (fun a c => a * 10 + dvN c.toNat) a < (a + 1) * 10 ^ m.length := by
  intro m
  induction m with
  | nil => intro a _; simp
  | cons c m ih =>
   intro a h
   unfold okDig at h
   rw [List.all_cons, Bool.and_eq_true, decide_eq_true_eq] at h
   have := ih (a * 10 + dvN c.toNat) h.2
   rw [List.foldl_cons, List.length_cons]
   refine Nat.lt_of_lt_of_le this ?_
   rw [Nat.pow_succ, Nat.mul_comm (10 ^ m.length) 10, ← Nat.mul_assoc]
   exact Nat.mul_le_mul_right _ (by omega)
 have := key l 0 h
 rw [Nat.zero_add, Nat.one_mul] at this
 exact Nat.lt_of_lt_of_le this (Nat.pow_le_pow_right (by decide) hl)
theorem powZ_small {sg ex : List UInt8} (h : decB ex = true) (hl : ex.length ≤ 5) : -100000 < powZ sg ex ∧ powZ sg ex < 100000 := by
 unfold decB at h
 rw [Bool.and_eq_true] at h
 have := num10_lt 5 ex h.2 hl
 unfold powZ
 split <;> omega
theorem ptS_cases (l : List UInt8) : ptS l = [] ∨ ptS l = [43] ∨ ptS l = [45] := by
 unfold ptS
 split
 ·generalize postP isM (unsc l) = m
  cases m with
  | nil => exact .inl rfl
  | cons c r =>
   unfold sgnL
   by_cases h : c = 43
   ·subst h; exact .inr (.inl rfl)
   ·by_cases h2 : c = 45
    ·subst h2; exact .inr (.inr rfl)
    ·left
     have h' : c.toNat ≠ 43 := fun e => h (UInt8.toNat_inj.1 e)
     have h2' : c.toNat ≠ 45 := fun e => h2 (UInt8.toNat_inj.1 e)
     simp [isSgn, h', h2']
 ·exact .inl rfl
set_option maxRecDepth 100000 in
set_option maxHeartbeats 4000000 in
theorem power_run (W F sg ex : List UInt8) (z : Int) (w : World) (hs : sg = [] ∨ sg = [43] ∨ sg = [45]) (hx : decB ex = true) (hlx : ex.length ≤ 5) (lF : F.length ≤ 10000) (hz : Hid (powZ sg ex - F.length = z)) :
  Calls Tryz.prog 70 #[partsV (bs W) (bs F) (bs sg) (bs ex)] w fun e w' => e = .returned (.int .i64 z) ∧ Below w.heap.size w w' := by
 obtain ⟨p, hp⟩ : ∃ p, powZ sg ex = p := ⟨_, rfl⟩
 have hb := powZ_small (sg := sg) hx hlx
 have hA := Lib.hid (fun V => Tryz.strconv_Atoi (bs (sg ++ ex)) p (by rw [bs_size, List.length_append]; rcases hs with rfl | rfl | rfl <;> simp <;> omega) (by rw [bs_list, ← hp]; exact atoi_pow hs hx) V)
 rw [hp] at hb hz
 have hcat : bs sg ++ bs ex = bs (sg ++ ex) := bs_app sg ex
 have hsz := bs_size F
 have hs1 := bs_size sg
 have hs2 := bs_size ex
 have hs3 : sg.length ≤ 1 := by rcases hs with rfl | rfl | rfl <;> simp
 clear hp hs
 obtain ⟨S, hS⟩ : ∃ S, w.heap.size = S := ⟨_, rfl⟩
 have hP0 := PartsAt.new w (bs W) (bs F) (bs sg) (bs ex) 107
 have hB0 : Below S w (w.alloc (.cells #[.string (bs W), .string (bs F), .string (bs sg), .string (bs ex)] 107)) := hS ▸ below_alloc w _
 rw [hS] at hP0
 rw [hS]
 unfold partsV
 have HP0 := Lib.hid hP0
 have HB0 := Lib.hid hB0
 clear hP0 hB0
 go_enter Tryz.func70, Tryz.ntmps70
 go_upto_region 1 with fail
 generalize w.alloc (.cells #[.string (bs W), .string (bs F), .string (bs sg), .string (bs ex)] 107) = w0 at *
 have hc2 := HP0.out.c2
 have hc3 := HP0.out.c3
 go_wp2_with fail
 refine (hA.out _).mono ?_
 rintro e w1 ⟨rfl, t, hw⟩
 have hbw : Below w0.heap.size w0 w1 := by rw [hw]; exact Joins.below_bytesWorld _ _ _ _ (Nat.le_refl _)
 clear hw hc2 hc3
 have HP1 := Lib.hid (HP0.out.below hbw)
 have HB1 := Lib.hid (HB0.out.trans (hbw.mono (by have := HB0.out.size; omega)))
 clear hbw HP0 HB0
 have hc1 := HP1.out.c1
 go_wp2_with fail
 go_ret
 exact ⟨by rw [← hz.out]; rfl, HB1.out⟩
end Go.Proofs.YtgoemhcngmpfbaaGreatDoor
namespace Go.Proofs.YtgoemhcngmpfbaaGreatDoor
open Go.RowKit Go.Sort
theorem from_world (w : World) (s : Bool) (n S : Nat) (hS : w.heap.size = S) (T : TypeId) : IntAt ((w.alloc (boxI s n T)).alloc boxNZ) S s n ∧ Below S w ((w.alloc (boxI s n T)).alloc boxNZ) ∧ ((w.alloc (boxI s n T)).alloc boxNZ).heap.size = S + 1 + 1 ∧ NumAt ((w.alloc (boxI s n T)).alloc boxNZ) (S + 1) false none 0 0 := by
 subst hS
 refine ⟨(IntAt.new w s n T).alloc (by simp) _, (below_alloc w _).alloc (by simp) _, by simp, ?_⟩
 have := NumAt.new (w.alloc (boxI s n T)) false none 0 0
 simpa using this
set_option maxRecDepth 100000 in
set_option maxHeartbeats 4000000 in
theorem From_run (s z : Bool) (n m : Nat) (w : World) (hn : Hid (Fits n)) (hz : Hid (sgn s n = z)) (hm : Hid (nl n = m)) :
    Calls Tryz.prog 36 #[intV s n] w fun e w' => ∃ A cap, e = .returned (.agg #[.bool z, .slice A m cap]) ∧ Cap m cap ∧ DgAt w' A m n ∧ Below w.heap.size w w' := by
  obtain ⟨S, hS⟩ : ∃ S, w.heap.size = S := ⟨_, rfl⟩
  obtain ⟨W0, hW0⟩ : ∃ W0, (w.alloc (boxI s n 25)).alloc (.cells #[.bool false, .slice none 0 0] 57) = W0 := ⟨_, rfl⟩
  have H0 := from_world w s n S hS 25
  rw [hW0] at H0
  have HT := Lib.hid H0.1
  have HB := Lib.hid H0.2.1
  have HZ := Lib.hid H0.2.2.1
  have HN := Lib.hid H0.2.2.2
  have HF : Hid (n < 65536 ^ 32) := (fits_dg n).1 hn.out
  clear H0
  rw [hS]
  unfold intV
  go_enter Tryz.func36, Tryz.ntmps36
  go_wp2_with fail
  clear hW0
  go_loopg [3, 4] 9 (fun h s3 s4 wr => ∃ i : Nat, s4 = .int .i64 (i : Int) ∧ Hid (i + h = 9) ∧ i ≤ 8 ∧ Hid (OwnK .i64 3 wr (S + 1 + 1) s3 (digl (4 * i) n)) ∧ Hid (Below (S + 1 + 1) W0 wr))
  case atStart => exact ⟨0, rfl, by show _ = _; omega, by omega, OwnK.nil _ _ _ _, Below.refl _ _⟩
  case round =>
    obtain ⟨i, rfl, HI, hi8, O, HW⟩ := hrel
    by_cases hlt : i < 8
    · have hz8 : (i : Int) < 8 := by omega
      have ca := ((HT.out.keep HW.out (by omega)).words i hlt).1
      go_wp2_with fail
      go_loopg [3, 5, 6] 5 (fun h s3 s5 s6 wr => ∃ k x : Nat, s5 = .int .u64 (x : Int) ∧ s6 = .int .i64 (k : Int) ∧ Hid (k + h = 5) ∧ k ≤ 4 ∧ x < 18446744073709551616 ∧ Hid (x = wd n i / 65536 ^ k) ∧ Hid (OwnK .i64 3 wr (S + 1 + 1) s3 (digl (4 * i + k) n)) ∧ Hid (Below (S + 1 + 1) W0 wr))
      case atStart => exact ⟨0, wd n i, rfl, rfl, by show _ = _; omega, by omega, wd_lt n i, by show _ = _; rw [Nat.pow_zero, Nat.div_one], O, HW⟩
      case round =>
        obtain ⟨k, x, rfl, rfl, HK, hk4, hx64, HX, O2, HW2⟩ := hrel
        by_cases hkt : k < 4
        · obtain ⟨d, hd⟩ : ∃ d, x % 65536 = d := ⟨_, rfl⟩
          have HD : Hid (d = dg n (4 * i + k)) := by show _ = _; rw [← hd, HX.out]; exact wd_dg n i hkt
          have HN : Hid (x / 65536 = wd n i / 65536 ^ (k + 1)) := by show _ = _; rw [HX.out]; exact (div_succ 65536 (wd n i) k).symm
          have Ed : Hid (((x : Int) % 65536) = (d : Int)) := by show _ = _; omega
          have hsz := HW2.out.size
          rw [HZ.out] at hsz
          have hlen : Hid ((digl (4 * i + k) n).length ≤ 500000) := by show _ ≤ _; rw [digl_length]; omega
          have hbase : S + 1 + 1 ≤ (wr.alloc (.cells #[.int .i64 ((x : Int) % 65536)] 3)).heap.size := by simp; omega
          have OA : Hid (OwnK .i64 3 (wr.alloc (.cells #[.int .i64 ((x : Int) % 65536)] 3)) (S + 1 + 1) u3 (digl (4 * i + k) n)) := World.ownsRow.alloc O2.out _
          have NA : Hid (NumsK .i64 (wr.alloc (.cells #[.int .i64 ((x : Int) % 65536)] 3)) (wr.heap.size + 1) (some ⟨wr.heap.size, 0, none⟩) [(x : Int) % 65536]) := by
            intro _
            refine ⟨_, _, rfl, by omega, fun i x hx => ?_⟩
            match i, hx with
            | 0, hx => cases hx; rw [World.cell?_alloc_at _ _ _ _ rfl]; rfl
          have EL : Hid (digl (4 * i + (k + 1)) n = digl (4 * i + k) n ++ [(x : Int) % 65536]) := by show _ = _; rw [← Nat.add_assoc, digl_succ, Ed.out, HD.out]
          clear hd
          go_wp2_with
            (at_builtin
             refine wpList_app int_slice _ rfl (.tmp 19) (.tmp 23) rfl (S + 1 + 1) u3 _ rfl OA.out (wr.heap.size + 1) (some ⟨wr.heap.size, 0, none⟩) 1 1 [(x : Int) % 65536] rfl NA.out rfl hlen.out (by simp) hbase ?_
             intro v3 w3 o3 g3 t3
             have BV : Hid (Below (S + 1 + 1) W0 w3) := (HW2.out.alloc hsz _).grown g3 hbase (own_ge OA.out)
             have OV : Hid (OwnK .i64 3 w3 (S + 1 + 1) v3 (digl (4 * i + (k + 1)) n)) := by show OwnK _ _ _ _ _ _; rw [EL.out]; exact o3
             clear o3 g3 t3)
          go_roundg (4 - k)
          case measure => have := HK.out; omega
          case rel => exact ⟨k + 1, x / 65536, by go_num, by go_num, by show _ = _; have := HK.out; omega, by omega, by omega, HN, OV.out, BV.out⟩
        · obtain rfl : k = 4 := by omega
          have ON : Hid (OwnK .i64 3 wr (S + 1 + 1) u3 (digl (4 * (i + 1)) n)) := O2
          clear O2 O
          go_wp2_with fail
          go_roundg (8 - i)
          case measure => have := HI.out; omega
          case rel => exact ⟨i + 1, by go_num, by show _ = _; have := HI.out; omega, by omega, ON.out, HW2.out⟩
    · obtain rfl : i = 8 := by omega
      have hsg := (HT.out.keep HW.out (by omega)).sign
      obtain ⟨A9, cap9, hv9, hc9, hm9, y9⟩ := O.out.nums
      rw [digl_length] at hv9 hc9
      subst hv9
      have Y9 := Lib.hid (DgAt.of_nums y9)
      have HC9 : Hid (Cap 32 cap9) := ⟨hc9, by unfold maxLen at hm9; exact hm9⟩
      have HR := Lib.hid (trim_run s z A9 32 cap9 n m wr Y9 HF HC9 hz hm)
      have B1 : Hid (Below S w wr) := HB.out.trans (HW.out.mono (by omega))
      have hm32 : Hid (m ≤ 32) := by show _ ≤ _; rw [← hm.out]; exact nl_le HF.out
      have N1 := Lib.hid (HN.out.keep HW.out (Nat.lt_succ_self _))
      have hgt : Hid (S + 1 + 1 ≤ wr.heap.size) := by have := HW.out.size; rw [HZ.out] at this; exact this
      clear O y9 hc9 hm9
      go_wp2_with fail
      refine HR.out.mono ?_
      rintro e w1 ⟨rfl, hw1⟩
      have N2 := Lib.hid (N1.out.below hw1)
      have Y2 := Lib.hid (Y9.out.below hw1)
      have B2 : Hid (Below S w w1) := B1.out.trans (hw1.mono (by have := hgt.out; omega))
      obtain ⟨c0, f0, c1, f1⟩ := N2.out
      clear hw1 B1 N1 Y9 HR
      go_wp2_with fail
      refine bodyPost_ret (v := .agg #[.bool z, .slice A9 m cap9]) (by rw [results_cell1 rfl]; go_simp; try rfl) rfl ⟨A9, cap9, rfl, ⟨by have := hm32.out; have := HC9.out.1; omega, HC9.out.2⟩, ?_, ?_⟩
      · exact (Y2.out.st2 N2.out).take hm32.out
      · exact (st2_but w1 (S + 1) z A9 m cap9).2.1 S w (by omega) B2.out
end Go.Proofs.YtgoemhcngmpfbaaGreatDoor
