/-
  NumberWhole: for every slice of bytes and every place, behind what number.Scan finds no byte of a word stands: the law returns true and leaves its arguments as they were. Condition: the listed package-level variables hold what the program's own text lays (tied by the card).
-/
import Derived.Test.YtgoemhcngmpfbaaGreatDoorMw40
import Derived.Test.YtgoemhcngmpfbaaGreatDoorMw17
import Derived.Test.YtgoemhcngmpfbaaGreatDoorMw18
import Derived.HandedShaped
import Derived.Shelf.Vars
import Derived.Lay
import Derived.Test.YtgoemhcngmpfbaaGreatDoorTie
import Derived.Test.YtgoemhcngmpfbaaGreatDoorCards
import Derived.SevenTiedAt

/-
  The law NumberWhole.
-/
namespace Go.Proofs.YtgoemhcngmpfbaaGreatDoor
open Go.RowKit Go.Sort
set_option linter.unusedSimpArgs false

theorem not_part {c : Nat} (h : isPart c = false) : ((c : Int) == 95) = false ∧ ((c : Int) == 46) = false ∧
    (((122 : Int) < (c : Int)) ∨ ((90 : Int) < (c : Int) ∧ (c : Int) < 97) ∨ ((57 : Int) < (c : Int) ∧ (c : Int) < 65) ∨ (c : Int) < 48) := by
  unfold isPart clsN at h
  rw [decide_eq_false_iff_not, Classical.not_not] at h
  split at h
  · cases h
  · split at h
    · cases h
    · split at h
      · cases h
      · refine ⟨beq_eq_false_iff_ne.2 (by omega), beq_eq_false_iff_ne.2 (by omega), by omega⟩
theorem ok_not {sg : Bool} {l : List UInt8} {i : Nat} {c : UInt8} (hc : l[i]? = some c) (h : okAt sg l i = false) : isPart c.toNat = false := by
  unfold okAt at h
  rw [getD_of hc, Bool.or_eq_false_iff] at h
  exact h.1
set_option maxRecDepth 100000 in
set_option maxHeartbeats 8000000 in
theorem Whole_law (A : Option Addr) (n cap a : Nat) (l : List UInt8) (w : World) (B : Nat) (hb : Byts w B A (bi l)) (hB : B ≤ w.heap.size) (hn : l.length = n) (hm : n ≤ 9223372036854775807) (hcap : n ≤ cap) (ha : a ≤ 255) (hml : Hid (Ml w)) (ht : Hid (Tab w)) :
    Calls Tryz.prog 8 #[.slice A n cap, .int .u8 (a : Int)] w fun e w' => e = .returned (.bool true) ∧ Below w.heap.size w w' := by
  obtain ⟨m, hmn⟩ : ∃ m, (l.take 60).length = m := ⟨_, rfl⟩
  have hm60 : m ≤ 60 := by rw [← hmn, List.length_take]; omega
  have hmz : min (n : Int) 60 = (m : Int) := by rw [← hmn, List.length_take, hn]; omega
  have hmc : m ≤ cap := by rw [← hmn, List.length_take]; omega
  have hb2 := hb.take 60
  rw [bi_take] at hb2
  obtain ⟨kind, k, e0, hs⟩ := scan_is (l.take 60) (a : Int)
  have HSC := Lib.hid (Scan_run A m cap (a : Int) (l.take 60) kind k e0 w B hb2 hB hmn (by omega) hmc hs hml)
  have HML : Hid (∀ V, Below w.heap.size w V → Ml V) := fun V hV => hml.out.below hV
  have HTB : Hid (∀ V, Below w.heap.size w V → Tab V) := fun V hV => ht.out.below hV
  obtain ⟨ev, hev⟩ : ∃ v, errV e0 = v := ⟨_, rfl⟩
  unfold scanV at HSC
  rw [hev] at HSC
  by_cases hk : k = 0
  · subst hk
    rw [Int.natCast_zero] at HSC
    clear hs hev hb hb2 hml ht
    go_enter Tryz.func8, Tryz.ntmps8
    go_wp2_with fail
    refine HSC.out.mono ?_
    rintro e w1 ⟨rfl, hw⟩
    have HB1 := Lib.hid hw
    clear hw HSC
    go_wp2_with fail
    refine (works9_run w1 (HML.out _ HB1.out) (HTB.out _ HB1.out)).mono ?_
    rintro e w2 ⟨rfl, hw⟩
    have HB2 := Lib.hid (HB1.out.trans (hw.mono HB1.out.size))
    clear hw HB1
    go_wp2_with fail
    go_ret
    exact ⟨rfl, HB2.out⟩
  · rcases hs with ⟨_, _, h, _⟩ | ⟨_, ham, _, hbn, _, _⟩
    · exact absurd h hk
    · rw [Int.toNat_natCast] at hbn
      rw [hmn] at ham
      have hdl : ((l.take 60).drop a).length = m - a := by rw [List.length_drop, hmn]
      have hkm : a + k ≤ m := by have := hbn.1; omega
      have hk0 : ((k : Int) == 0) = false := beq_eq_false_iff_ne.2 (by omega)
      obtain ⟨q, hq⟩ : ∃ q, a + k = q := ⟨_, rfl⟩
      have hqz : (a : Int) + (k : Int) = (q : Int) := by omega
      have hgt : ¬ (m : Int) < (q : Int) := by omega
      by_cases hqm : q = m
      · have hqe : ((q : Int) == (m : Int)) = true := by rw [hqm]; exact beq_self_eq_true _
        clear hev hb hb2 hml ht hbn hdl hkm hq hk
        go_enter Tryz.func8, Tryz.ntmps8
        go_wp2_with fail
        refine HSC.out.mono ?_
        rintro e w1 ⟨rfl, hw⟩
        have HB1 := Lib.hid hw
        clear hw HSC
        go_wp2_with fail
        refine (works9_run w1 (HML.out _ HB1.out) (HTB.out _ HB1.out)).mono ?_
        rintro e w2 ⟨rfl, hw⟩
        have HB2 := Lib.hid (HB1.out.trans (hw.mono HB1.out.size))
        clear hw HB1
        go_wp2_with fail
        go_ret
        exact ⟨rfl, HB2.out⟩
      · have hqe : ((q : Int) == (m : Int)) = false := beq_eq_false_iff_ne.2 (by omega)
        have hqm2 : q < m := by omega
        obtain ⟨c, hc⟩ : ∃ c, (l.take 60)[q]? = some c := ⟨(l.take 60)[q]'(by omega), List.getElem?_eq_getElem (by omega)⟩
        have hcd : ((l.take 60).drop a)[k]? = some c := by rw [List.getElem?_drop, hq]; exact hc
        have hnp := not_part (ok_not hcd (hbn.2.2 (by omega)))
        obtain ⟨b, o, rfl, _, _⟩ := hb2.2 (by rw [bi_length]; omega)
        have HBY := Lib.hid hb2
        have HC := Lib.hid hc
        have HBs := Lib.hid hB
        obtain ⟨e95, e46, hcs⟩ := hnp
        clear hev hb hb2 hml ht hbn hdl hkm hq hk hqm hc hcd hB
        go_enter Tryz.func8, Tryz.ntmps8
        go_wp2_with fail
        refine HSC.out.mono ?_
        rintro e w1 ⟨rfl, hw⟩
        have HB1 := Lib.hid hw
        have hx := byts_cell (HBY.out.below hw HBs.out) HC.out
        clear hw HSC HBY HC
        generalize c.toNat = cn at *
        go_upto_region 11 with fail
        clear hx
        have hcs := Lib.hid hcs
        rcases hcs.out with h1 | ⟨h1, h2⟩ | ⟨h1, h2⟩ | h1
        · have f1 : (97 : Int) ≤ (cn : Int) := by omega
          have f2 : ¬ (cn : Int) ≤ 122 := by omega
          have f3 : (65 : Int) ≤ (cn : Int) := by omega
          have f4 : ¬ (cn : Int) ≤ 90 := by omega
          have f5 : (48 : Int) ≤ (cn : Int) := by omega
          have f6 : ¬ (cn : Int) ≤ 57 := by omega
          clear h1
          go_wp2_with fail
          refine (works9_run w1 (HML.out _ HB1.out) (HTB.out _ HB1.out)).mono ?_
          rintro e w2 ⟨rfl, hw⟩
          have HB2 := Lib.hid (HB1.out.trans (hw.mono HB1.out.size))
          clear hw HB1
          go_wp2_with fail
          go_ret
          exact ⟨rfl, HB2.out⟩
        · have f1 : ¬ (97 : Int) ≤ (cn : Int) := by omega
          have f3 : (65 : Int) ≤ (cn : Int) := by omega
          have f4 : ¬ (cn : Int) ≤ 90 := by omega
          have f5 : (48 : Int) ≤ (cn : Int) := by omega
          have f6 : ¬ (cn : Int) ≤ 57 := by omega
          clear h1 h2
          go_wp2_with fail
          refine (works9_run w1 (HML.out _ HB1.out) (HTB.out _ HB1.out)).mono ?_
          rintro e w2 ⟨rfl, hw⟩
          have HB2 := Lib.hid (HB1.out.trans (hw.mono HB1.out.size))
          clear hw HB1
          go_wp2_with fail
          go_ret
          exact ⟨rfl, HB2.out⟩
        · have f1 : ¬ (97 : Int) ≤ (cn : Int) := by omega
          have f3 : ¬ (65 : Int) ≤ (cn : Int) := by omega
          have f5 : (48 : Int) ≤ (cn : Int) := by omega
          have f6 : ¬ (cn : Int) ≤ 57 := by omega
          clear h1 h2
          go_wp2_with fail
          refine (works9_run w1 (HML.out _ HB1.out) (HTB.out _ HB1.out)).mono ?_
          rintro e w2 ⟨rfl, hw⟩
          have HB2 := Lib.hid (HB1.out.trans (hw.mono HB1.out.size))
          clear hw HB1
          go_wp2_with fail
          go_ret
          exact ⟨rfl, HB2.out⟩
        · have f1 : ¬ (97 : Int) ≤ (cn : Int) := by omega
          have f3 : ¬ (65 : Int) ≤ (cn : Int) := by omega
          have f5 : ¬ (48 : Int) ≤ (cn : Int) := by omega
          clear h1
          go_wp2_with fail
          refine (works9_run w1 (HML.out _ HB1.out) (HTB.out _ HB1.out)).mono ?_
          rintro e w2 ⟨rfl, hw⟩
          have HB2 := Lib.hid (HB1.out.trans (hw.mono HB1.out.size))
          clear hw HB1
          go_wp2_with fail
          go_ret
          exact ⟨rfl, HB2.out⟩
end Go.Proofs.YtgoemhcngmpfbaaGreatDoor

/-
  What the rows of package number need besides: the world's shape (the library's own cell that strings.Index reads), the seven listed variables, bytes that came in.
-/
namespace Go.Proofs.YtgoemhcngmpfbaaGreatDoor
open Go.ChangeShapes Go.WideShapes Go.ChangeAt Go.RowKit Go.Deep

section
variable {H : Type} {enc : TypeId × Value → H}
/-- A row whose walk asks both of the listed variables and of the world's shape. -/
theorem returns_and_shaped {a : Assume} {C : Checked} {os : Os} {f : FuncId} {fn : Func} {s : ChangeSpec} {conds : List PathCond} {apart fresh handsOn again : Bool} {X : World → Array Value → Prop}
    (hX : ∀ (w w' : World) (args : Array Value), w.heap = w'.heap → X w args → X w' args)
    (own : ownKnob C.prog.godebug = none) (started : os.Started) (noInit : C.prog.inits.idxOf? f = none) (hfn : C.prog.funcs[f]? = some fn)
    (witness : ∃ (w : World) (tape : Tape) (i : Input), w.os = os ∧ (w.forCall tape i).Shaped C.prog ∧ i.vars = [] ∧ Input.okWide C.prog (w.forCall tape i) .any w.heap.size f i ∧
      ((s.pre enc C.prog fn conds apart (w.forCall tape i).memory i.args ∧ X (w.forCall tape i).memory i.args) ∧ sizedMet enc C.prog fn (OpenSpec.ofChange s) apart (w.forCall tape i).memory i.args) ∧ a.holds C.prog (lone (Frame.enter C.prog f i.args .normal) [] (w.forCall tape i)))
    (walk : ∀ (W : World) (base : Nat) (args : Array Value) (ds gs : List (DataW H)) (before : List MemPlace),
      (∀ (j : Nat) t v, fn.params[j]? = some t → args[j]? = some v → Value.okWide C.prog W .any base t v) →
      DataW.Whole enc C.prog fn.params.toList s.vars apart W args.toList ds gs before → X W args → W.ShapedOpen C.prog →
      Calls C.prog f args W fun e W' => ∃ v, e = .returned v ∧ s.post enc C.prog fn apart fresh handsOn again W args v W') :
    ReturnsInHanded a C os f .any (fun w args => (s.pre enc C.prog fn conds apart w args ∧ X w args) ∧ sizedMet enc C.prog fn (OpenSpec.ofChange s) apart w args) (s.post enc C.prog fn apart fresh handsOn again) := by
  refine returnsInHanded_of_calls own started noInit witness ?_
  intro w tape i _ hsh _ hok hpre _
  obtain ⟨_, _, _, fn', hfn', _, _, _, _, hval⟩ := hok
  obtain rfl : fn' = fn := Option.some.inj (hfn'.symm.trans hfn)
  obtain ⟨⟨⟨ds, gs, before, hw, _⟩, hx⟩, _⟩ := hpre
  refine (walk (w.forCall tape i) w.heap.size i.args ds gs before hval (DataW.Whole.of_heap (w' := w.forCall tape i) (by rfl) hw) (hX _ _ _ (by rfl) hx) hsh).mono fun e W' ⟨v, he, hp⟩ => ?_
  subst he
  exact ChangeSpec.post_blind hp
end
/-- The library's cell holds an integer. -/
theorem ml_of {W : World} (h : W.ShapedOpen Tryz.prog) : Ml W :=
  cell_of_shapedOpen_int (P := Tryz.prog) (g := 2) (t := 3) (zero := #[.int .i64 0]) h (of_decide_eq_true (by kernel_rfl)) (by kernel_rfl) rfl (by kernel_rfl) (by kernel_rfl) Tryz.underlying3
/-- The variables that the rows of number list. -/
def laid9n : List (String × DataW Unit) := Rows.numberWholeRow.laid
def great9n : List String := laid9n.map fun x => x.1
noncomputable def door9n (os : Os) : World := (World.doorLaid Tryz.prog 72 os).layVars Tryz.prog (laid9n.filter fun x => great9n.contains x.1)
theorem door9n_os (os : Os) : (door9n os).os = os := World.layVars_os _ _ _
theorem none9n : (laid9n.filter fun x => !great9n.contains x.1) = [] := by kernel_rfl
theorem all9n : (laid9n.filter fun x => x.2.handleName?.isNone) = laid9n := by kernel_rfl
theorem data_met9n (os : Os) : laidMet Tryz.prog laid9n (door9n os) :=
  laidMet_layVars (w0 := World.doorLaid Tryz.prog 72 os) (w' := door9n os) (laid := laid9n) great9n [] (by unfold door9n; rfl) (by kernel_rfl) (by kernel_rfl) (by rw [none9n]; exact LaidIn.none)
theorem all_met9n (os : Os) : laidMetH Tryz.prog laid9n (door9n os) :=
  laidMetH_of_parts3 (fuel := 8) (by rw [all9n]; exact data_met9n os) (by kernel_rfl) (by kernel_rfl)
theorem door_met9n (os : Os) (args : Array Value) : laidMetH Tryz.prog laid9n ((door9n os).forCall (fun _ _ => 0) ⟨#[], args, []⟩).memory :=
  (all_met9n os).of_heap (by simp [World.memory, World.forCall, Input.heap])
theorem of_laid9n {W : World} (h : laidMetH Tryz.prog laid9n W) : Tab W := by
  have h' : laidMet Tryz.prog [("math/bits.deBruijn32tab", Rows.laid_math_bits_deBruijn32tab), ("math/bits.deBruijn64tab", Rows.laid_math_bits_deBruijn64tab), ("internal/strconv.uint64pow10", Rows.laid_internal_strconv_uint64pow10), ("unicode/utf8.acceptRanges", Rows.laid_unicode_utf8_acceptRanges), ("strconv.ErrRange", Rows.laid_strconv_ErrRange), ("strconv.ErrSyntax", Rows.laid_strconv_ErrSyntax), ("unicode/utf8.first", Rows.laid_unicode_utf8_first)] W := h
  exact tab_of (laidMet_tl (laidMet_tl h'))
theorem bi_back : ∀ (l : List Int), U.Byt l → ∃ m : List UInt8, bi m = l
  | [], _ => ⟨[], rfl⟩
  | x :: t, h => by
    obtain ⟨m, hm⟩ := bi_back t (fun y hy => h y (List.mem_cons_of_mem _ hy))
    have hx := h x List.mem_cons_self
    refine ⟨UInt8.ofNat x.toNat :: m, ?_⟩
    show ((UInt8.ofNat x.toNat).toNat : Int) :: bi m = _
    rw [hm]
    congr 1
    simp only [UInt8.toNat_ofNat']
    omega
end Go.Proofs.YtgoemhcngmpfbaaGreatDoor

/-
  The laws of number as the rows ask for them.
-/
namespace Go.Proofs.YtgoemhcngmpfbaaGreatDoor
open Go.RowKit Go.Sort

theorem bytes_small {n : Nat} (h : n ≤ 9223372036854775807) : n ≤ 9223372036854775807 := h
theorem whole_any (A : Option Addr) (n cap : Nat) (l : List Int) (a : Int) (W : World) (hb : Byts W W.heap.size A l) (hl : l.length = n) (hc : n ≤ cap) (hm : cap ≤ 9223372036854775807) (ha0 : 0 ≤ a) (ha1 : a ≤ 255) (hs : Ml W) (hh : Tab W) :
    Calls Tryz.prog 8 #[.slice A n cap, .int .u8 a] W fun e w' => e = .returned (.bool true) ∧ Below W.heap.size W w' := by
  obtain ⟨m, rfl⟩ := bi_back l hb.1
  obtain ⟨k, rfl⟩ : ∃ k : Nat, a = (k : Int) := ⟨a.toNat, by omega⟩
  rw [bi_length] at hl
  exact Whole_law A n cap k m W W.heap.size hb (Nat.le_refl _) hl (by omega) hc (by omega) hs hh
end Go.Proofs.YtgoemhcngmpfbaaGreatDoor

/-
  NumberWhole: for every slice of bytes and every place, behind what number.Scan finds no byte of a word stands: the law returns true and leaves its arguments as they were. Condition: the listed package-level variables hold what the program's own text lays (tied by the card).
-/
namespace Go.Proofs.YtgoemhcngmpfbaaGreatDoor.nwhole
open Go.ChangeShapes Go.WideShapes Go.ChangeAt Go.RowKit
open Go.ChangeMaps (open_string shut_string)

set_option maxRecDepth 100000 in
theorem lifted (os : Os) (started : os.Started) (H : Type) (enc : TypeId × Value → H) :
    ReturnsInHanded {} Tryz.checked os 8 .any (fun w args => (Rows.numberWholeSpec.pre enc Tryz.prog Tryz.f8 [] false w args ∧ laidMetH Tryz.prog laid9n w) ∧ sizedMet enc Tryz.prog Tryz.f8 (OpenSpec.ofChange Rows.numberWholeSpec) false w args)
      (Rows.numberWholeSpec.post enc Tryz.prog Tryz.f8 false true false false) := by
  refine returns_and_shaped (C := Tryz.checked) (X := fun w _ => laidMetH Tryz.prog laid9n w) (fun _ _ _ hh h => h.of_heap hh) own started (by kernel_rfl) Tryz.func8
    (ChangeSpec.witness_shaped (enc := enc) (C := Tryz.checked) (os := os) (X := fun w _ => laidMetH Tryz.prog laid9n w) false (door9n os) #[.slice none 0 0, .int .u8 0] 8 (door9n_os os) (World.shaped_of_ZipB (by kernel_rfl) (by kernel_rfl)) (by kernel_rfl) (by kernel_rfl) (by kernel_rfl) (door_met9n os _)) ?_
  intro W base args ds gs before hval0 hW hL hSh
  have hval : ∀ (j : Nat) t v, Tryz.f8.params[j]? = some t → args[j]? = some v → Value.okWide Tryz.prog W .any base t v := hval0
  have hW' := hW
  obtain ⟨p, q, hA0, hV, rfl, hfz, hnd⟩ := hW
  have hA : DataW.TrodAll enc Tryz.prog W 0 (fun _ => true) true Tryz.f8.params.toList args.toList ds p := hA0
  rw [Tryz.params8] at hA hval
  obtain ⟨v0, vs0, d0, ds0, p0, q0, hargs, rfl, rfl, h0, r0⟩ := trodAll_cons hA
  obtain ⟨v1, vs1, d1, ds1, p1, q1, rfl, rfl, rfl, h1, r1⟩ := trodAll_cons r0
  obtain ⟨rfl, rfl, rfl⟩ := trodAll_nil r1
  obtain rfl : args = #[v0, v1] := by cases args; simp_all
  obtain ⟨rfl, rfl⟩ := trodVars_none hV
  have k0 := h0
  have lt0 : ∀ x ∈ p0, x.block < W.heap.size := by obtain ⟨m, hm⟩ := k0; exact DataW.trod_lt m _ _ _ hm
  obtain ⟨a0, len0, cap0, rfl⟩ := okWide_slice Tryz.underlying48 (hval 0 48 v0 rfl rfl)
  obtain ⟨fu0, fh0⟩ := h0
  obtain ⟨A0, n0, c0, l0, hcs0, hl0, hc0, hm0, hb0⟩ := open_bytes fh0
  simp only [Value.cells, List.cons.injEq, and_true, Value.slice.injEq] at hcs0
  obtain ⟨rfl, rfl, rfl⟩ := hcs0
  obtain ⟨a1, rfl, rfl, rfl, w1⟩ := open_int Tryz.underlying5 (hval 1 5 v1 rfl rfl) h1
  have hh := of_laid9n hL
  have hs := ml_of hSh
  clear hA0 hval0
  refine (whole_any a0 len0 cap0 l0 a1 W hb0 hl0 hc0 hm0 (u8_bounds w1).1 (u8_bounds w1).2 hs hh).mono fun e W' ⟨he, bel⟩ => ?_
  subst he
  exact ⟨_, rfl, _, _, _, [], _, [], hW', trodAll_mk1 (shut_bool Tryz.underlying4 _), (trodAll_cons_mk (Below.trod laidOut (by kernel_rfl) (of_decide_eq_true (by kernel_rfl)) k0 bel lt0) (trodAll_cons_mk (shut_int Tryz.underlying5 w1) trodAll_mk0)), rfl, bel.frame _, fun h => by cases h⟩

theorem over : Rows.NumberWholeSaid :=
  OpenClaim.holds_of_wide 8 Tryz.f8 rfl rfl rfl rfl rfl rfl rfl ⟨rfl, rfl, rfl, rfl, rfl⟩ rfl rfl rfl rfl rfl (by kernel_rfl) Tryz.func8 (by kernel_rfl)
    (of_decide_eq_true (by kernel_rfl)) (by unfold Func.isWrapper; rw [if_neg (of_decide_eq_false (by kernel_rfl))]; exact ⟨rfl, rfl⟩)
    (fun os started H enc _ => lifted os started H enc)

/-- THE CARD. -/
theorem card_holds : Rows.NumberWholeCardSaid :=
  Claim7.holds_tied_plain_at .later [] [.data, .data, .data, .data, .sentinel, .sentinel, .pinned] true Rows.numberWholeCard.stood.harness Rows.numberWholeCard.stood.looks
    over (fun _ h => by cases h) (by kernel_rfl) (fun _ h => by cases h) numberWhole_row_tie rfl ⟨rfl, rfl⟩ (by kernel_rfl) rfl
    (fun f fn hf hfn => by
      obtain rfl : f = 8 := Option.some.inj ((show Tryz.prog.funcNamed Rows.numberWholeRow.func = some 8 by kernel_rfl).symm.trans hf) |>.symm
      obtain rfl : fn = Tryz.f8 := (Option.some.inj (Tryz.func8.symm.trans hfn)).symm
      exact ⟨by kernel_rfl, fun j t ht => by
        rw [Tryz.params8] at ht
        have hm : t ∈ [48, 5] := by simpa using Array.mem_of_getElem? ht
        have hall : ([48, 5].all fun u => !Tryz.prog.wantsStandIn u) = true := by kernel_rfl
        exact (show Tryz.prog.wantsStandIn t = false by simpa using List.all_eq_true.1 hall t hm)⟩)
    (by kernel_rfl)
end Go.Proofs.YtgoemhcngmpfbaaGreatDoor.nwhole
