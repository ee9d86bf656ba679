/-
  The chapter's example: the numbers.
-/
import Derived.Test.YtgoemhcngmpfbaaGreatDoorMx30
import Derived.Test.YtgoemhcngmpfbaaGreatDoorMx12
import Derived.Test.YtgoemhcngmpfbaaGreatDoorMx27
import Derived.HandedShaped
import Derived.Shelf.Vars
import Derived.Lay
namespace Go.Proofs.YtgoemhcngmpfbaaGreatDoor
open Go.RowKit Go.Sort
set_option linter.unusedSimpArgs false
theorem sep_of {p : Nat → Bool} {l : List UInt8} (h : (List.range l.length).all (fun i => !(l.getD i 0 == 95) || (decide (0 < i) && decide (i + 1 < l.length) && p (l.getD (i - 1) 0).toNat && p (l.getD (i + 1) 0).toNat)) = true) : Sep p l := by
 intro i hi
 have hil := (List.getElem?_eq_some_iff.1 hi).1
 have := List.all_eq_true.1 h i (List.mem_range.2 hil)
 rw [getD_of hi] at this
 simp only [beq_self_eq_true, Bool.not_true, Bool.false_or, Bool.and_eq_true, decide_eq_true_eq] at this
 obtain ⟨⟨⟨h0, h1⟩, h2⟩, h3⟩ := this
 refine ⟨l.getD (i - 1) 0, l.getD (i + 1) 0, h0, ?_, ?_, h2, h3⟩
 ·rw [List.getD_eq_getElem?_getD, List.getElem?_eq_getElem (show i - 1 < l.length by omega)]; rfl
 ·rw [List.getD_eq_getElem?_getD, List.getElem?_eq_getElem h1]; rfl
theorem fits_of {n : Nat} (h : n < 100000) : Fits n := Nat.lt_of_lt_of_le h (Nat.le_trans (show 100000 ≤ 18446744073709551616 by decide) (Nat.le_self_pow (by decide) _))
theorem int_ex : IntIs [48, 120, 95, 102, 70] 0 255 := by
 have hk : parK 16 (unsc [95, 102, 70]) = 0 := parK_ok rfl (by decide) (fits_of (by decide))
 exact .inl ⟨by decide, .inr ⟨sep_of (by decide), hk.symm, ((parN_ok hk).trans rfl).symm⟩⟩
theorem float_ok_ex : FloatOk [49, 95, 48, 46, 50, 53, 101, 49] := ⟨sep_of (by decide), rfl, rfl, rfl⟩
theorem scl_ex : scl false 1025 false 1 10 (-1) = ⟨false, 205, 2, 0⟩ := by rfl
theorem float_ex : FloatIs [49, 95, 48, 46, 50, 53, 101, 49] ⟨false, 205, 2, 0⟩ := by
 have hk : parK 10 (ptW [49, 95, 48, 46, 50, 53, 101, 49] ++ ptF [49, 95, 48, 46, 50, 53, 101, 49]) = 0 := parK_ok rfl (by decide) (fits_of (by decide))
 refine .inr ⟨float_ok_ex, .inr ⟨hk, .inr ⟨by decide, ?_⟩⟩⟩
 rw [parN_ok hk]
 exact scl_ex
theorem int_ex2 : IntIs [48, 56] 13 0 := by
 have hk : parK 8 ((unsc [48, 56]).drop 1) = 13 := parK_dig rfl (by decide)
 exact .inr ⟨rfl, .inr ⟨by decide, sep_of (by decide), .inl ⟨by decide, rfl, hk.symm, (parN_no (by rw [hk]; decide)).symm⟩⟩⟩
theorem scan_ex : ScanIs [48, 56] 0 2 2 13 := by
 refine .inr ⟨by decide, by decide, rfl, ⟨by decide, ?_, fun h => absurd h (by decide)⟩, rfl, ⟨false, 0, 0, 13⟩, .inl ⟨rfl, 13, 0, int_ex2, .inl ⟨by decide, rfl⟩⟩, rfl⟩
 intro i hi
 match i, hi with
 | 0, _ => rfl
 | 1, _ => rfl
theorem txt_255 : txt false 255 = ⟨#[50, 53, 53]⟩ := by
 have h : Lib.decDigits 255 = [50, 53, 53] := by rw [Lib.decDigits]; simp; rw [Lib.decDigits]; simp; rw [Lib.decDigits]; simp
 unfold txt decS
 rw [h]
 rfl
theorem txt_205 : rtxt false 205 false 2 = ⟨#[50, 48, 53, 47, 50]⟩ := by
 have h : Lib.decDigits 205 = [50, 48, 53] := by rw [Lib.decDigits]; simp; rw [Lib.decDigits]; simp; rw [Lib.decDigits]; simp
 have h2 : Lib.decDigits 2 = [50] := by rw [Lib.decDigits]; rfl
 unfold rtxt txt decS
 rw [h, h2]
 rfl
end Go.Proofs.YtgoemhcngmpfbaaGreatDoor
namespace Go.Proofs.YtgoemhcngmpfbaaGreatDoor
open Go.RowKit
theorem conv_lit (w : World) (cs : Array Value) (n c : Nat) : (convert 48 48 (.slice (some ⟨w.heap.size, 0, none⟩) n c)).run Tryz.prog (w.alloc (.cells cs 5)) = .ok (.slice (some ⟨w.heap.size, 0, none⟩) n c) (w.alloc (.cells cs 5 (cs.size, cs.size + 1))) := by
 have hsh : (w.alloc (.cells cs 5)).shape? w.heap.size = some (5, cs.size) := by
  have : (w.alloc (.cells cs 5)).heap[w.heap.size]? = some (.cells cs 5) := by
   show (w.heap.push (.cells cs 5))[w.heap.size]? = _
   simp
  unfold World.shape?
  rw [this]
 have hfr : (w.alloc (.cells cs 5)).freeze ⟨w.heap.size, cs.size, none⟩ 1 = w.alloc (.cells cs 5 (cs.size, cs.size + 1)) := by
  have hm : ∀ (a : Array Obj) (x : Obj) (f : Obj → Obj), (a.push x).modify a.size f = a.push (f x) := by
   intro a x f
   apply Array.ext
   ·simp
   ·intro i h1 h2
    simp only [Array.getElem_modify, Array.getElem_push]
    by_cases h : a.size = i
    ·subst h
     simp
    ·have hi : i < a.size := by simp at h1; omega
     simp [h, hi]
  unfold World.freeze
  rw [if_neg (by decide)]
  show ({ w.alloc (.cells cs 5) with heap := (w.heap.push (.cells cs 5)).modify w.heap.size _ } : World) = _
  rw [hm]
  rfl
 simp [convert, run_underlying Tryz.underlying48, run_underlying Tryz.underlying5, markStringish, hsh]
 exact hfr
end Go.Proofs.YtgoemhcngmpfbaaGreatDoor
namespace Go.Proofs.YtgoemhcngmpfbaaGreatDoor
open Go.RowKit Go.Sort
set_option linter.unusedSimpArgs false
theorem byts_new2 (w : World) (a b : Int) (ha : 0 ≤ a ∧ a ≤ 255) (hb : 0 ≤ b ∧ b ≤ 255) (T : TypeId) (m : Nat × Nat) : Byts (w.alloc (.cells #[.int .u8 a, .int .u8 b] T m)) (w.heap.size + 1) (some ⟨w.heap.size, 0, none⟩) [a, b] :=
 ⟨fun z hz => by simp at hz; omega, fun _ => ⟨_, _, rfl, by omega, fun i x hx => by
  rw [World.cell?_alloc_mark]
  match i, hx with
  | 0, hx => cases hx; rfl
  | 1, hx => cases hx; rfl⟩⟩
set_option maxRecDepth 100000 in
set_option maxHeartbeats 4000000 in
theorem works9_run (w : World) (hm : Hid (Ml w)) (ht : Hid (Tab w)) :
  Calls Tryz.prog 25 #[] w fun e w' => e = .returned (.bool true) ∧ Below w.heap.size w w' := by
 have HI : Hid (∀ V, Ml V → Calls Tryz.prog 26 #[.string ⟨#[48, 120, 95, 102, 70]⟩] V fun e w' => e = .returned (.tuple #[intV false 255, .nilIface]) ∧ Below V.heap.size V w') := fun V hV => Int_run [48, 120, 95, 102, 70] 0 255 V (by decide) int_ex hV
 have HF : Hid (∀ V, Ml V → Calls Tryz.prog 29 #[.string ⟨#[49, 95, 48, 46, 50, 53, 101, 49]⟩] V fun e w' => e = .returned (.tuple #[ratV false 205 false 2, .nilIface]) ∧ Below V.heap.size V w') := fun V hV => Float_run [49, 95, 48, 46, 50, 53, 101, 49] ⟨false, 205, 2, 0⟩ V (by decide) float_ex hV
 have HX : Hid (∀ V, Tab V → Calls Tryz.prog 33 #[intV false 255] V fun e w' => e = .returned (.string ⟨#[50, 53, 53]⟩) ∧ Below V.heap.size V w') := fun V hV => by
  have := Text_run false 255 V (fits_of (by decide)) hV
  rwa [txt_255] at this
 have HY : Hid (∀ V, Tab V → Calls Tryz.prog 20 #[ratV false 205 false 2] V fun e w' => e = .returned (.string ⟨#[50, 48, 53, 47, 50]⟩) ∧ Below V.heap.size V w') := fun V hV => by
  have := RText_run false 205 false 2 (fits_of (by decide)) (fits_of (by decide)) V hV
  rwa [txt_205] at this
 have HCD : Hid (∀ V, Calls Tryz.prog 17 #[.iface 74 (.int .i64 13)] V fun e w' => e = .returned (.int .i64 13) ∧ Below V.heap.size V w') := fun V => code_errV 13 (by decide) V
 have HML : Hid (∀ V, Below w.heap.size w V → Ml V) := fun V hV => hm.out.below hV
 have HTB : Hid (∀ V, Below w.heap.size w V → Tab V) := fun V hV => ht.out.below hV
 obtain ⟨S, hS⟩ : ∃ S, w.heap.size = S := ⟨_, rfl⟩
 have I := Lib.hid (Bs.start w hS)
 rw [hS] at HML HTB
 rw [hS]
 clear ht
 go_enter Tryz.func25, Tryz.ntmps25
 go_wp2_with fail
 refine (HI.out _ hm).mono ?_
 rintro e w1 ⟨rfl, hw⟩
 have I1 := Lib.hid (I.out.below hw)
 clear hw I hm hS
 obtain ⟨N, hN⟩ : ∃ N, w1.heap.size = N := ⟨_, rfl⟩
 have J2 := I1.out.pushIntZ hN 25
 obtain ⟨a1, ha⟩ : ∃ x, w1.alloc (boxIZ 25) = x := ⟨_, rfl⟩
 rw [ha] at J2
 have H2 := Lib.hid (J2.int 0 rfl)
 have I2 := Lib.hid (J2.putInt 0 rfl false 255 rfl)
 clear J2 I1
 go_upto_region 2 with (with_reducible refine wpList_store_int rfl (.tmp 1) (.tmp 10) rfl (b := N) (s := false) (n := 255) rfl rfl H2.out ?_)
 clear H2 ha hN
 generalize st9 a1 N false 255 = w2 at *
 go_wp2_with fail
 refine (HF.out _ (HML.out _ I2.out.bl)).mono ?_
 rintro e w3 ⟨rfl, hw⟩
 have I3 := Lib.hid (I2.out.below hw)
 clear hw I2
 obtain ⟨R, hR⟩ : ∃ R, w3.heap.size = R := ⟨_, rfl⟩
 have J4 := I3.out.pushRatZ hR 27
 obtain ⟨a3, ha⟩ : ∃ x, w3.alloc (boxRZ 27) = x := ⟨_, rfl⟩
 rw [ha] at J4
 have H4 := Lib.hid (J4.rat 0 rfl)
 have I4 := Lib.hid (J4.putRat 0 rfl false 205 false 2 rfl)
 clear J4 I3
 go_upto_region 3 with (with_reducible refine wpList_store_rat rfl (.tmp 3) (.tmp 14) rfl (b := R) (s := false) (n := 205) (t := false) (d := 2) rfl rfl H4.out ?_)
 clear H4 ha hR
 generalize st18 a3 R false 205 false 2 = w4 at *
 have hcl := conv_lit w4 #[.int .u8 48, .int .u8 56] 2 2
 simp at hcl
 have I5 := Lib.hid (I4.out.alloc (.cells #[.int .u8 48, .int .u8 56] 5 (2, 3)))
 have HB := Lib.hid (byts_new2 w4 48 56 (by omega) (by omega) 5 (2, 3))
 have HSC := Lib.hid (Scan_run (some ⟨w4.heap.size, 0, none⟩) 2 2 0 [48, 56] 2 2 13 (w4.alloc (.cells #[.int .u8 48, .int .u8 56] 5 (2, 3))) (w4.heap.size + 1) HB.out (by simp) rfl (by decide) (by decide) scan_ex (HML.out _ I5.out.bl))
 clear I4 HB
 go_wp2_with fail
 refine HSC.out.mono ?_
 rintro e w6 ⟨rfl, hw⟩
 have I6 := Lib.hid (I5.out.below hw)
 have hV : scanV 2 2 13 = .tuple #[.int .i64 2, .int .i64 2, .iface 74 (.int .i64 13)] := rfl
 rw [hV]
 clear hw I5 HSC hV hcl
 have HL := Lib.hid (I6.out.int 1 rfl)
 go_wp2_with (with_reducible refine wpList_val (v := intV false 255) rfl (ld_int (.tmp 1) rfl rfl HL.out.o) ?_)
 refine (HX.out _ (HTB.out _ I6.out.bl)).mono ?_
 rintro e w7 ⟨rfl, hw⟩
 have I7 := Lib.hid (I6.out.below hw)
 clear hw I6 HL
 have HL := Lib.hid (I7.out.rat 0 rfl)
 go_wp2_with (with_reducible refine wpList_val (v := ratV false 205 false 2) rfl (ld_rat (.tmp 3) rfl rfl HL.out) ?_)
 refine (HY.out _ (HTB.out _ I7.out.bl)).mono ?_
 rintro e w8 ⟨rfl, hw⟩
 have I8 := Lib.hid (I7.out.below hw)
 clear hw I7 HL
 go_wp2_with fail
 refine (HCD.out _).mono ?_
 rintro e w9 ⟨rfl, hw⟩
 have I9 := Lib.hid (I8.out.below hw)
 clear hw I8
 go_wp2_with fail
 go_ret
 exact ⟨rfl, I9.out.bl⟩
end Go.Proofs.YtgoemhcngmpfbaaGreatDoor
namespace Go.Proofs.YtgoemhcngmpfbaaGreatDoor
open Go.ChangeShapes Go.WideShapes Go.ChangeAt Go.RowKit Go.Deep
section
variable {H : Type} {enc : TypeId × Value → H}
theorem returns_and_shaped {a : Assume} {C : Checked} {os : Os} {f : FuncId} {fn : Func} {s : ChangeSpec} {conds : List PathCond} {apart fresh handsOn again : Bool} {X : World → Array Value → Prop}
  (hX : ∀ (w w' : World) (args : Array Value), w.heap = w'.heap → X w args → X w' args)
  (own : ownKnob C.prog.godebug = none) (started : os.Started) (noInit : C.prog.inits.idxOf? f = none) (hfn : C.prog.funcs[f]? = some fn)
  (witness : ∃ (w : World) (tape : Tape) (i : Input), w.os = os ∧ (w.forCall tape i).Shaped C.prog ∧ i.vars = [] ∧ Input.okWide C.prog (w.forCall tape i) .any w.heap.size f i ∧
   ((s.pre enc C.prog fn conds apart (w.forCall tape i).memory i.args ∧ X (w.forCall tape i).memory i.args) ∧ sizedMet enc C.prog fn (OpenSpec.ofChange s) apart (w.forCall tape i).memory i.args) ∧ a.holds C.prog (lone (Frame.enter C.prog f i.args .normal) [] (w.forCall tape i)))
  (walk : ∀ (W : World) (base : Nat) (args : Array Value) (ds gs : List (DataW H)) (before : List MemPlace),
   (∀ (j : Nat) t v, fn.params[j]? = some t → args[j]? = some v → Value.okWide C.prog W .any base t v) →
   DataW.Whole enc C.prog fn.params.toList s.vars apart W args.toList ds gs before → X W args → W.ShapedOpen C.prog →
   Calls C.prog f args W fun e W' => ∃ v, e = .returned v ∧ s.post enc C.prog fn apart fresh handsOn again W args v W') :
  ReturnsInHanded a C os f .any (fun w args => (s.pre enc C.prog fn conds apart w args ∧ X w args) ∧ sizedMet enc C.prog fn (OpenSpec.ofChange s) apart w args) (s.post enc C.prog fn apart fresh handsOn again) := by
 refine returnsInHanded_of_calls own started noInit witness ?_
 intro w tape i _ hsh _ hok hpre _
 obtain ⟨_, _, _, fn', hfn', _, _, _, _, hval⟩ := hok
 obtain rfl : fn' = fn := Option.some.inj (hfn'.symm.trans hfn)
 obtain ⟨⟨⟨ds, gs, before, hw, _⟩, hx⟩, _⟩ := hpre
 refine (walk (w.forCall tape i) w.heap.size i.args ds gs before hval (DataW.Whole.of_heap (w' := w.forCall tape i) (by rfl) hw) (hX _ _ _ (by rfl) hx) hsh).mono fun e W' ⟨v, he, hp⟩ => ?_
 subst he
 exact ChangeSpec.post_blind hp
end
theorem ml_of {W : World} (h : W.ShapedOpen Tryz.prog) : Ml W :=
 cell_of_shapedOpen_int (P := Tryz.prog) (g := 2) (t := 3) (zero := #[.int .i64 0]) h (of_decide_eq_true (by kernel_rfl)) (by kernel_rfl) rfl (by kernel_rfl) (by kernel_rfl) Tryz.underlying3
def laid9n : List (String × DataW Unit) := Rows.numberWholeRow.laid
def great9n : List String := laid9n.map fun x => x.1
noncomputable def door9n (os : Os) : World := (World.doorLaid Tryz.prog 72 os).layVars Tryz.prog (laid9n.filter fun x => great9n.contains x.1)
theorem door9n_os (os : Os) : (door9n os).os = os := World.layVars_os _ _ _
theorem none9n : (laid9n.filter fun x => !great9n.contains x.1) = [] := by kernel_rfl
theorem all9n : (laid9n.filter fun x => x.2.handleName?.isNone) = laid9n := by kernel_rfl
theorem data_met9n (os : Os) : laidMet Tryz.prog laid9n (door9n os) :=
 laidMet_layVars (w0 := World.doorLaid Tryz.prog 72 os) (w' := door9n os) (laid := laid9n) great9n [] (by unfold door9n; rfl) (by kernel_rfl) (by kernel_rfl) (by rw [none9n]; exact LaidIn.none)
theorem all_met9n (os : Os) : laidMetH Tryz.prog laid9n (door9n os) :=
 laidMetH_of_parts3 (fuel := 8) (by rw [all9n]; exact data_met9n os) (by kernel_rfl) (by kernel_rfl)
theorem door_met9n (os : Os) (args : Array Value) : laidMetH Tryz.prog laid9n ((door9n os).forCall (fun _ _ => 0) ⟨#[], args, []⟩).memory :=
 (all_met9n os).of_heap (by simp [World.memory, World.forCall, Input.heap])
theorem of_laid9n {W : World} (h : laidMetH Tryz.prog laid9n W) : Tab W := by
 have h' : laidMet Tryz.prog [("math/bits.deBruijn32tab", Rows.laid_math_bits_deBruijn32tab), ("math/bits.deBruijn64tab", Rows.laid_math_bits_deBruijn64tab), ("internal/strconv.uint64pow10", Rows.laid_internal_strconv_uint64pow10), ("unicode/utf8.acceptRanges", Rows.laid_unicode_utf8_acceptRanges), ("strconv.ErrRange", Rows.laid_strconv_ErrRange), ("strconv.ErrSyntax", Rows.laid_strconv_ErrSyntax), ("unicode/utf8.first", Rows.laid_unicode_utf8_first)] W := h
 exact tab_of (laidMet_tl (laidMet_tl h'))
theorem bi_back : ∀ (l : List Int), U.Byt l → ∃ m : List UInt8, bi m = l
 | [], _ => ⟨[], rfl⟩
 | x :: t, h => by
  obtain ⟨m, hm⟩ := bi_back t (fun y hy => h y (List.mem_cons_of_mem _ hy))
  have hx := h x List.mem_cons_self
  refine ⟨UInt8.ofNat x.toNat :: m, ?_⟩
  show ((UInt8.ofNat x.toNat).toNat : Int) :: bi m = _
  rw [hm]
  congr 1
  simp only [UInt8.toNat_ofNat']
  omega
end Go.Proofs.YtgoemhcngmpfbaaGreatDoor
