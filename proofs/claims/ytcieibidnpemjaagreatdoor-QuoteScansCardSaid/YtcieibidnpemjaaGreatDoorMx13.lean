/-
  What the rows of package quote need: over stage 1's chain.
-/
import Derived.Test.YtcieibidnpemjaaGreatDoorRows
import Derived.Test.YtcieibidnpemjaaGreatDoorMx12
import Derived.ProofKit
import Derived.LaidMore
import Derived.OpenShut
import Derived.Stop.Joined
import Derived.Stop.LaidErr
import Derived.ChangeOld
import Derived.Lib.LaidTab
import Derived.Deep.Slices
import Derived.HandedShaped
import Derived.Shelf.Vars
import Derived.Lay
namespace Go.Proofs.YtcieibidnpemjaaGreatDoor
open Go.ChangeShapes Go.WideShapes Go.ChangeAt Go.RowKit Go.Deep
theorem own : ownKnob Tryz.prog.godebug = none := by kernel_rfl
theorem laidOut : laidOutB Tryz.prog = true := by kernel_rfl
theorem open_bytes {H : Type} {enc : TypeId × Value → H} {W : World} {fuel : Nat} {cs : List Value} {x : DataW H × List MemPlace} {sp : Nat → Bool} (h : DataW.trod enc Tryz.prog W 0 sp true fuel 22 cs = some x) :
  ∃ A len cap l, cs = [.slice A len cap] ∧ l.length = len ∧ len ≤ cap ∧ cap ≤ 9223372036854775807 ∧ Byts W W.heap.size A l := by
 rcases open_ints Tryz.underlying22 Tryz.underlying5 (by kernel_rfl) h with ⟨hcs, _⟩ | ⟨x, l, c, zs, hcs, _, hl, hm, hz, _, hcell, hwz⟩
 ·exact ⟨none, 0, 0, [], hcs, rfl, Nat.le_refl _, by omega, Byts.nil⟩
 ·unfold maxLen at hm
  have hlz : l ≤ zs.length := by rw [hz]; split <;> omega
  have hlen : (zs.take l).length = l := by rw [List.length_take]; omega
  refine ⟨some x, l, c, zs.take l, hcs, hlen, hl, hm, ⟨fun n hn => bounds_u8 (hwz n (List.mem_of_mem_take hn)), fun hp => ?_⟩⟩
  obtain ⟨b, off, rfl, hc⟩ := ints_at hcell (by omega)
  have h0 := hc 0 (by omega)
  refine ⟨b, off, rfl, ?_, fun i y hy => ?_⟩
  ·rcases Nat.lt_or_ge b W.heap.size with h1 | h1
   ·exact h1
   ·simp [World.cell?, Array.getElem?_eq_none h1] at h0
  ·rw [List.getElem?_take] at hy
   split at hy
   ·have hi := (List.getElem?_eq_some_iff.1 hy).1
    rw [hc i hi]
    simp [List.getD, hy]
   ·cases hy
section
variable {H : Type} {enc : TypeId × Value → H}
theorem returns_and_shaped {a : Assume} {C : Checked} {os : Os} {f : FuncId} {fn : Func} {s : ChangeSpec} {conds : List PathCond} {apart fresh handsOn again : Bool} {X : World → Array Value → Prop}
  (hX : ∀ (w w' : World) (args : Array Value), w.heap = w'.heap → X w args → X w' args)
  (own : ownKnob C.prog.godebug = none) (started : os.Started) (noInit : C.prog.inits.idxOf? f = none) (hfn : C.prog.funcs[f]? = some fn)
  (witness : ∃ (w : World) (tape : Tape) (i : Input), w.os = os ∧ (w.forCall tape i).Shaped C.prog ∧ i.vars = [] ∧ Input.okWide C.prog (w.forCall tape i) .any w.heap.size f i ∧
   ((s.pre enc C.prog fn conds apart (w.forCall tape i).memory i.args ∧ X (w.forCall tape i).memory i.args) ∧ sizedMet enc C.prog fn (OpenSpec.ofChange s) apart (w.forCall tape i).memory i.args) ∧ a.holds C.prog (lone (Frame.enter C.prog f i.args .normal) [] (w.forCall tape i)))
  (walk : ∀ (W : World) (base : Nat) (args : Array Value) (ds gs : List (DataW H)) (before : List MemPlace),
   (∀ (j : Nat) t v, fn.params[j]? = some t → args[j]? = some v → Value.okWide C.prog W .any base t v) →
   DataW.Whole enc C.prog fn.params.toList s.vars apart W args.toList ds gs before → X W args → W.ShapedOpen C.prog →
   Calls C.prog f args W fun e W' => ∃ v, e = .returned v ∧ s.post enc C.prog fn apart fresh handsOn again W args v W') :
  ReturnsInHanded a C os f .any (fun w args => (s.pre enc C.prog fn conds apart w args ∧ X w args) ∧ sizedMet enc C.prog fn (OpenSpec.ofChange s) apart w args) (s.post enc C.prog fn apart fresh handsOn again) := by
 refine returnsInHanded_of_calls own started noInit witness ?_
 intro w tape i _ hsh _ hok hpre _
 obtain ⟨_, _, _, fn', hfn', _, _, _, _, hval⟩ := hok
 obtain rfl : fn' = fn := Option.some.inj (hfn'.symm.trans hfn)
 obtain ⟨⟨⟨ds, gs, before, hw, _⟩, hx⟩, _⟩ := hpre
 refine (walk (w.forCall tape i) w.heap.size i.args ds gs before hval (DataW.Whole.of_heap (w' := w.forCall tape i) (by rfl) hw) (hX _ _ _ (by rfl) hx) hsh).mono fun e W' ⟨v, he, hp⟩ => ?_
 subst he
 exact ChangeSpec.post_blind hp
end
theorem ml_of {W : World} (h : W.ShapedOpen Tryz.prog) : Ml W :=
 cell_of_shapedOpen_int (P := Tryz.prog) (g := 1) (t := 3) (zero := #[.int .i64 0]) h (of_decide_eq_true (by kernel_rfl)) (by kernel_rfl) rfl (by kernel_rfl) (by kernel_rfl) Tryz.underlying3
def laid10 : List (String × DataW Unit) := Rows.quoteScansRow.laid
def great10 : List String := laid10.map fun x => x.1
noncomputable def door10 (os : Os) : World := (World.doorLaid Tryz.prog 77 os).layVars Tryz.prog (laid10.filter fun x => great10.contains x.1)
theorem door10_os (os : Os) : (door10 os).os = os := World.layVars_os _ _ _
theorem none10 : (laid10.filter fun x => !great10.contains x.1) = [] := by kernel_rfl
theorem all10 : (laid10.filter fun x => x.2.handleName?.isNone) = laid10 := by kernel_rfl
theorem data_met10 (os : Os) : laidMet Tryz.prog laid10 (door10 os) :=
 laidMet_layVars (w0 := World.doorLaid Tryz.prog 77 os) (w' := door10 os) (laid := laid10) great10 [] (by unfold door10; rfl) (by kernel_rfl) (by kernel_rfl) (by rw [none10]; exact LaidIn.none)
theorem all_met10 (os : Os) : laidMetH Tryz.prog laid10 (door10 os) :=
 laidMetH_of_parts3 (fuel := 8) (by rw [all10]; exact data_met10 os) (by kernel_rfl) (by kernel_rfl)
theorem door_met10 (os : Os) (args : Array Value) : laidMetH Tryz.prog laid10 ((door10 os).forCall (fun _ _ => 0) ⟨#[], args, []⟩).memory :=
 (all_met10 os).of_heap (by simp [World.memory, World.forCall, Input.heap])
theorem laidMet_tl {P : Program} {W : World} {x : String × DataW Unit} {rest : List (String × DataW Unit)} (h : laidMet P (x :: rest) W) : laidMet P rest W := by
 obtain ⟨ps, ⟨g', t', cs, fuel, p, q, hg', ht', hvar, hd, hr, rfl⟩, hnd, hall⟩ := h
 exact ⟨q, hr, (List.nodup_append.1 hnd).2.1, fun b off hm => hall b off (List.mem_append_right _ hm)⟩
theorem gHeads10 : Tryz.prog.globalNamed "cavil/utf.heads" = some 0 := by kernel_rfl
theorem tHeads10 : (Tryz.prog.globals[0]?).map (·.type) = some 79 := by kernel_rfl
theorem gSyn10 : Tryz.prog.globalNamed "strconv.ErrSyntax" = some 4 := by kernel_rfl
theorem tSyn10 : (Tryz.prog.globals[4]?).map (·.type) = some 24 := by kernel_rfl
theorem gRan10 : Tryz.prog.globalNamed "strconv.ErrRange" = some 5 := by kernel_rfl
theorem tRan10 : (Tryz.prog.globals[5]?).map (·.type) = some 24 := by kernel_rfl
theorem cES10 : Tryz.prog.cellsOf 134 = 1 := by kernel_rfl
theorem cStr10 : Tryz.prog.cellsOf 9 = 1 := by kernel_rfl
theorem star10 : "*" ++ "errors.errorString" = "*errors.errorString" := by decide
theorem rowES10 (u : TypeId) (h : Tryz.prog.typeName? 3 u = some "*errors.errorString") : u = 132 :=
 typeName_ptr_named (nm := "errors.errorString") (by rw [star10]; kernel_rfl) (by kernel_rfl) (by decide) u (by rw [star10]; exact h)
theorem of_laid10 {W : World} (h : laidMetH Tryz.prog laid10 W) : Heads W ∧ ErrVars W := by
 have h' : laidMet Tryz.prog [("cavil/utf.heads", Lib.tabData .u8 [0, 0, 192, 224, 240]), ("math/bits.deBruijn32tab", Rows.laid_math_bits_deBruijn32tab), ("math/bits.deBruijn64tab", Rows.laid_math_bits_deBruijn64tab), ("internal/strconv.uint64pow10", Rows.laid_internal_strconv_uint64pow10), ("unicode/utf8.acceptRanges", Rows.laid_unicode_utf8_acceptRanges), ("strconv.ErrRange", Rows.laid_strconv_ErrRange), ("strconv.ErrSyntax", Rows.laid_strconv_ErrSyntax), ("unicode/utf8.first", Rows.laid_unicode_utf8_first)] W := h
 have h5 := laidMet_tl (laidMet_tl (laidMet_tl (laidMet_tl (laidMet_tl h'))))
 have h6 := laidMet_tl h5
 refine ⟨?_, ?_, ?_⟩
 ·have ht := Lib.tabIs_of_head gHeads10 tHeads10 Tryz.underlying79 Tryz.underlying5 (by kernel_rfl) (by kernel_rfl) h'
  intro k h1 h4
  have hc := ht.cell gHeads10 k (by simp; omega)
  rw [hc]
  match k, h1, h4 with
  | 1, _, _ => rfl
  | 2, _, _ => rfl
  | 3, _, _ => rfl
  | 4, _, _ => rfl
 ·obtain ⟨a, s, hv, _⟩ := laid_sentinel h6 gSyn10 tSyn10 Tryz.underlying24 rowES10 Tryz.underlying132 Tryz.underlying134 rfl rfl Tryz.underlying9 cES10 cStr10
  exact ⟨_, World.var?_cell gSyn10 hv 0, .inr ⟨_, _, rfl⟩⟩
 ·obtain ⟨a, s, hv, _⟩ := laid_sentinel h5 gRan10 tRan10 Tryz.underlying24 rowES10 Tryz.underlying132 Tryz.underlying134 rfl rfl Tryz.underlying9 cES10 cStr10
  exact ⟨_, World.var?_cell gRan10 hv 0, .inr ⟨_, _, rfl⟩⟩
theorem bi_back : ∀ (l : List Int), U.Byt l → ∃ m : List UInt8, bi m = l
 | [], _ => ⟨[], rfl⟩
 | x :: t, h => by
  obtain ⟨m, hm⟩ := bi_back t (fun y hy => h y (List.mem_cons_of_mem _ hy))
  have hx := h x List.mem_cons_self
  refine ⟨UInt8.ofNat x.toNat :: m, ?_⟩
  show ((UInt8.ofNat x.toNat).toNat : Int) :: bi m = _
  rw [hm]
  congr 1
  simp only [UInt8.toNat_ofNat']
  omega
end Go.Proofs.YtcieibidnpemjaaGreatDoor
namespace Go.Proofs.YtcieibidnpemjaaGreatDoor
open Go.RowKit Go.Sort
set_option linter.unusedSimpArgs false
theorem ne_byte {a k : UInt8} (h : a ≠ k) : ((a.toNat : Int) != (k.toNat : Int)) = true := by
 rw [bne_iff_ne]
 intro e
 exact h (UInt8.toNat_inj.1 (by omega))
set_option maxRecDepth 100000 in
set_option maxHeartbeats 2000000 in
theorem ScanD_out (A : Option Addr) (n cap : Nat) (at_ : Int) (w : World) (h : at_ < 0 ∨ (n : Int) ≤ at_) :
  Calls Tryz.prog 5 #[.slice A n cap, .int .i64 at_] w fun e w' => e = .returned (.tuple #[.int .i64 0, .int .i64 0, .int .i64 7]) ∧ w' = w := by
 by_cases h0 : at_ < 0
 ·clear h
  go_enter Tryz.func5, Tryz.ntmps5
  go_wp2_with fail
  go_ret3
  exact ⟨rfl, rfl⟩
 ·have h1 : (n : Int) ≤ at_ := h.resolve_left h0
  clear h
  go_enter Tryz.func5, Tryz.ntmps5
  go_wp2_with fail
  go_ret3
  exact ⟨rfl, rfl⟩
set_option maxRecDepth 100000 in
set_option maxHeartbeats 2000000 in
theorem ScanD_no (b o n cap a : Nat) (l : List UInt8) (c : UInt8) (w : World) (B : Nat) (hb : Byts w B (some ⟨b, o, none⟩) (bi l)) (hn : l.length = n) (_hm : n ≤ 100000) (hc : l[a]? = some c) (hq : ¬ (c = 39 ∨ c = 34 ∨ c = 96)) :
  Calls Tryz.prog 5 #[.slice (some ⟨b, o, none⟩) n cap, .int .i64 (a : Int)] w fun e w' => e = .returned (.tuple #[.int .i64 0, .int .i64 0, .int .i64 7]) ∧ w' = w := by
 have hx := byts_cell hb hc
 have han : a < n := by rw [← hn]; exact (List.getElem?_eq_some_iff.1 hc).1
 have hz : (a : Int) < (n : Int) := by omega
 have hz2 : ¬ (n : Int) ≤ (a : Int) := by omega
 have e39 : ((c.toNat : Int) != 39) = true := ne_byte (fun e => hq (.inl e))
 have e34 : ((c.toNat : Int) != 34) = true := ne_byte (fun e => hq (.inr (.inl e)))
 have e96 : ((c.toNat : Int) != 96) = true := ne_byte (fun e => hq (.inr (.inr e)))
 clear hb hc hq hn
 generalize c.toNat = cn at *
 go_enter Tryz.func5, Tryz.ntmps5
 go_wp2_with fail
 go_ret3
 exact ⟨rfl, rfl⟩
set_option maxRecDepth 100000 in
set_option maxHeartbeats 4000000 in
theorem ScanD_open39 (b o n cap a : Nat) (l : List UInt8) (E : Nat) (w : World) (B : Nat) (hb : Byts w B (some ⟨b, o, none⟩) (bi l)) (hn : l.length = n) (_hm : n ≤ 100000) (hcap : n ≤ cap) (hc : l[a]? = some 39)
  (hEl : E + 1 ≤ n - a)
  (HX : Hid (Calls Tryz.prog 10 #[.slice (some ⟨b, o, none⟩) n cap, .int .i64 (a : Int)] w fun e w' => e = .returned (.tuple #[.int .i64 ((a + 1 + E : Nat) : Int), .bool false]) ∧ w' = w)) :
  Calls Tryz.prog 5 #[.slice (some ⟨b, o, none⟩) n cap, .int .i64 (a : Int)] w fun e w' => e = .returned (.tuple #[.int .i64 4, .int .i64 ((E + 1 : Nat) : Int), .int .i64 12]) ∧ w' = w := by
 have hx : w.cell? ⟨b, o + a, none⟩ = some (.int .u8 39) := byts_cell hb hc
 have han : a < n := by rw [← hn]; exact (List.getElem?_eq_some_iff.1 hc).1
 have hz : (a : Int) < (n : Int) := by omega
 have hz2 : ¬ (n : Int) ≤ (a : Int) := by omega
 have hca : cap ≠ a := by omega
 obtain ⟨z, hzz⟩ : ∃ z, E + 1 = z := ⟨_, rfl⟩
 obtain ⟨s, hs⟩ : ∃ s, a + 1 + E = s := ⟨_, rfl⟩
 have hsa : (s : Int) - (a : Int) = (z : Int) := by omega
 have hsn : s ≤ n := by omega
 have has : a ≤ s := by omega
 have hsc : s ≤ cap := by omega
 have hszz : s - a = z := by omega
 rw [hs] at HX
 rw [hzz] at hEl ⊢
 clear hb hc hn hzz hs
 go_enter Tryz.func5, Tryz.ntmps5
 go_wp2_with fail
 refine (HX.out).mono ?_
 rintro e w2 ⟨rfl, rfl⟩
 go_wp2_with fail
 go_ret3
 exact ⟨rfl, rfl⟩
set_option maxRecDepth 100000 in
set_option maxHeartbeats 4000000 in
theorem ScanD_shut39 (b o n cap a : Nat) (l : List UInt8) (E : Nat) (v er : Value) (w : World) (B : Nat) (hb : Byts w B (some ⟨b, o, none⟩) (bi l)) (hn : l.length = n) (hm : n ≤ 100000) (hcap : n ≤ cap) (hc : l[a]? = some 39)
  (hEl : E + 1 ≤ n - a)
  (HX : Hid (Calls Tryz.prog 10 #[.slice (some ⟨b, o, none⟩) n cap, .int .i64 (a : Int)] w fun e w' => e = .returned (.tuple #[.int .i64 ((a + 1 + E : Nat) : Int), .bool true]) ∧ w' = w)) (HW : Hid (Calls Tryz.prog 11 #[.string (bs ((l.drop a).take (E + 1)))] w fun e w' => e = .returned (.tuple #[v, er]) ∧ Below w.heap.size w w')) :
  Calls Tryz.prog 5 #[.slice (some ⟨b, o, none⟩) n cap, .int .i64 (a : Int)] w fun e w' => e = .returned (.tuple #[.int .i64 4, .int .i64 ((E + 1 : Nat) : Int), er]) ∧ Below w.heap.size w w' := by
 have hx : w.cell? ⟨b, o + a, none⟩ = some (.int .u8 39) := byts_cell hb hc
 have han : a < n := by rw [← hn]; exact (List.getElem?_eq_some_iff.1 hc).1
 have hz : (a : Int) < (n : Int) := by omega
 have hz2 : ¬ (n : Int) ≤ (a : Int) := by omega
 have hca : cap ≠ a := by omega
 obtain ⟨z, hzz⟩ : ∃ z, E + 1 = z := ⟨_, rfl⟩
 obtain ⟨s, hs⟩ : ∃ s, a + 1 + E = s := ⟨_, rfl⟩
 have hsa : (s : Int) - (a : Int) = (z : Int) := by omega
 have hsn : s ≤ n := by omega
 have has : a ≤ s := by omega
 have hsc : s ≤ cap := by omega
 have hszz : s - a = z := by omega
 rw [hs] at HX
 rw [hzz] at hEl ⊢
 rw [hzz] at HW
 obtain ⟨y, hy⟩ : ∃ y, bs ((l.drop a).take z) = y := ⟨_, rfl⟩
 rw [hy] at HW
 have hbd := (hb.dropB (by omega) a).take z
 rw [bi_take] at hbd
 have hcv := conv_bytes hbd z (cap - a) (by rw [bi_length, List.length_take, List.length_drop, hn]; omega)
 rw [bi_str, hy] at hcv
 clear hbd hy
 clear hb hc hn hzz hs
 go_enter Tryz.func5, Tryz.ntmps5
 go_wp2_with fail
 refine (HX.out).mono ?_
 rintro e w2 ⟨rfl, rfl⟩
 go_wp2_with fail
 refine (HW.out).mono ?_
 rintro e w3 ⟨rfl, hw3⟩
 have HW3 := Lib.hid hw3
 clear hw3
 go_wp2_with fail
 go_ret3
 exact ⟨rfl, HW3.out⟩
set_option maxRecDepth 100000 in
set_option maxHeartbeats 4000000 in
theorem ScanD_open34 (b o n cap a : Nat) (l : List UInt8) (E : Nat) (w : World) (B : Nat) (hb : Byts w B (some ⟨b, o, none⟩) (bi l)) (hn : l.length = n) (_hm : n ≤ 100000) (hcap : n ≤ cap) (hc : l[a]? = some 34)
  (hEl : E + 1 ≤ n - a)
  (HX : Hid (Calls Tryz.prog 10 #[.slice (some ⟨b, o, none⟩) n cap, .int .i64 (a : Int)] w fun e w' => e = .returned (.tuple #[.int .i64 ((a + 1 + E : Nat) : Int), .bool false]) ∧ w' = w)) :
  Calls Tryz.prog 5 #[.slice (some ⟨b, o, none⟩) n cap, .int .i64 (a : Int)] w fun e w' => e = .returned (.tuple #[.int .i64 5, .int .i64 ((E + 1 : Nat) : Int), .int .i64 12]) ∧ w' = w := by
 have hx : w.cell? ⟨b, o + a, none⟩ = some (.int .u8 34) := byts_cell hb hc
 have han : a < n := by rw [← hn]; exact (List.getElem?_eq_some_iff.1 hc).1
 have hz : (a : Int) < (n : Int) := by omega
 have hz2 : ¬ (n : Int) ≤ (a : Int) := by omega
 have hca : cap ≠ a := by omega
 obtain ⟨z, hzz⟩ : ∃ z, E + 1 = z := ⟨_, rfl⟩
 obtain ⟨s, hs⟩ : ∃ s, a + 1 + E = s := ⟨_, rfl⟩
 have hsa : (s : Int) - (a : Int) = (z : Int) := by omega
 have hsn : s ≤ n := by omega
 have has : a ≤ s := by omega
 have hsc : s ≤ cap := by omega
 have hszz : s - a = z := by omega
 rw [hs] at HX
 rw [hzz] at hEl ⊢
 clear hb hc hn hzz hs
 go_enter Tryz.func5, Tryz.ntmps5
 go_wp2_with fail
 refine (HX.out).mono ?_
 rintro e w2 ⟨rfl, rfl⟩
 go_wp2_with fail
 go_ret3
 exact ⟨rfl, rfl⟩
set_option maxRecDepth 100000 in
set_option maxHeartbeats 4000000 in
theorem ScanD_shut34 (b o n cap a : Nat) (l : List UInt8) (E : Nat) (v er : Value) (w : World) (B : Nat) (hb : Byts w B (some ⟨b, o, none⟩) (bi l)) (hn : l.length = n) (hm : n ≤ 100000) (hcap : n ≤ cap) (hc : l[a]? = some 34)
  (hEl : E + 1 ≤ n - a)
  (HX : Hid (Calls Tryz.prog 10 #[.slice (some ⟨b, o, none⟩) n cap, .int .i64 (a : Int)] w fun e w' => e = .returned (.tuple #[.int .i64 ((a + 1 + E : Nat) : Int), .bool true]) ∧ w' = w)) (HW : Hid (Calls Tryz.prog 12 #[.string (bs ((l.drop a).take (E + 1)))] w fun e w' => e = .returned (.tuple #[v, er]) ∧ Below w.heap.size w w')) :
  Calls Tryz.prog 5 #[.slice (some ⟨b, o, none⟩) n cap, .int .i64 (a : Int)] w fun e w' => e = .returned (.tuple #[.int .i64 5, .int .i64 ((E + 1 : Nat) : Int), er]) ∧ Below w.heap.size w w' := by
 have hx : w.cell? ⟨b, o + a, none⟩ = some (.int .u8 34) := byts_cell hb hc
 have han : a < n := by rw [← hn]; exact (List.getElem?_eq_some_iff.1 hc).1
 have hz : (a : Int) < (n : Int) := by omega
 have hz2 : ¬ (n : Int) ≤ (a : Int) := by omega
 have hca : cap ≠ a := by omega
 obtain ⟨z, hzz⟩ : ∃ z, E + 1 = z := ⟨_, rfl⟩
 obtain ⟨s, hs⟩ : ∃ s, a + 1 + E = s := ⟨_, rfl⟩
 have hsa : (s : Int) - (a : Int) = (z : Int) := by omega
 have hsn : s ≤ n := by omega
 have has : a ≤ s := by omega
 have hsc : s ≤ cap := by omega
 have hszz : s - a = z := by omega
 rw [hs] at HX
 rw [hzz] at hEl ⊢
 rw [hzz] at HW
 obtain ⟨y, hy⟩ : ∃ y, bs ((l.drop a).take z) = y := ⟨_, rfl⟩
 rw [hy] at HW
 have hbd := (hb.dropB (by omega) a).take z
 rw [bi_take] at hbd
 have hcv := conv_bytes hbd z (cap - a) (by rw [bi_length, List.length_take, List.length_drop, hn]; omega)
 rw [bi_str, hy] at hcv
 clear hbd hy
 clear hb hc hn hzz hs
 go_enter Tryz.func5, Tryz.ntmps5
 go_wp2_with fail
 refine (HX.out).mono ?_
 rintro e w2 ⟨rfl, rfl⟩
 go_wp2_with fail
 refine (HW.out).mono ?_
 rintro e w3 ⟨rfl, hw3⟩
 have HW3 := Lib.hid hw3
 clear hw3
 go_wp2_with fail
 go_ret3
 exact ⟨rfl, HW3.out⟩
set_option maxRecDepth 100000 in
set_option maxHeartbeats 4000000 in
theorem ScanD_open96 (b o n cap a : Nat) (l : List UInt8) (E : Nat) (w : World) (B : Nat) (hb : Byts w B (some ⟨b, o, none⟩) (bi l)) (hn : l.length = n) (_hm : n ≤ 100000) (hcap : n ≤ cap) (hc : l[a]? = some 96)
  (hEl : E + 1 ≤ n - a)
  (HX : Hid (Calls Tryz.prog 10 #[.slice (some ⟨b, o, none⟩) n cap, .int .i64 (a : Int)] w fun e w' => e = .returned (.tuple #[.int .i64 ((a + 1 + E : Nat) : Int), .bool false]) ∧ w' = w)) :
  Calls Tryz.prog 5 #[.slice (some ⟨b, o, none⟩) n cap, .int .i64 (a : Int)] w fun e w' => e = .returned (.tuple #[.int .i64 5, .int .i64 ((E + 1 : Nat) : Int), .int .i64 12]) ∧ w' = w := by
 have hx : w.cell? ⟨b, o + a, none⟩ = some (.int .u8 96) := byts_cell hb hc
 have han : a < n := by rw [← hn]; exact (List.getElem?_eq_some_iff.1 hc).1
 have hz : (a : Int) < (n : Int) := by omega
 have hz2 : ¬ (n : Int) ≤ (a : Int) := by omega
 have hca : cap ≠ a := by omega
 obtain ⟨z, hzz⟩ : ∃ z, E + 1 = z := ⟨_, rfl⟩
 obtain ⟨s, hs⟩ : ∃ s, a + 1 + E = s := ⟨_, rfl⟩
 have hsa : (s : Int) - (a : Int) = (z : Int) := by omega
 have hsn : s ≤ n := by omega
 have has : a ≤ s := by omega
 have hsc : s ≤ cap := by omega
 have hszz : s - a = z := by omega
 rw [hs] at HX
 rw [hzz] at hEl ⊢
 clear hb hc hn hzz hs
 go_enter Tryz.func5, Tryz.ntmps5
 go_wp2_with fail
 refine (HX.out).mono ?_
 rintro e w2 ⟨rfl, rfl⟩
 go_wp2_with fail
 go_ret3
 exact ⟨rfl, rfl⟩
set_option maxRecDepth 100000 in
set_option maxHeartbeats 4000000 in
theorem ScanD_shut96 (b o n cap a : Nat) (l : List UInt8) (E : Nat) (v er : Value) (w : World) (B : Nat) (hb : Byts w B (some ⟨b, o, none⟩) (bi l)) (hn : l.length = n) (hm : n ≤ 100000) (hcap : n ≤ cap) (hc : l[a]? = some 96)
  (hEl : E + 1 ≤ n - a)
  (HX : Hid (Calls Tryz.prog 10 #[.slice (some ⟨b, o, none⟩) n cap, .int .i64 (a : Int)] w fun e w' => e = .returned (.tuple #[.int .i64 ((a + 1 + E : Nat) : Int), .bool true]) ∧ w' = w)) (HW : Hid (Calls Tryz.prog 12 #[.string (bs ((l.drop a).take (E + 1)))] w fun e w' => e = .returned (.tuple #[v, er]) ∧ Below w.heap.size w w')) :
  Calls Tryz.prog 5 #[.slice (some ⟨b, o, none⟩) n cap, .int .i64 (a : Int)] w fun e w' => e = .returned (.tuple #[.int .i64 5, .int .i64 ((E + 1 : Nat) : Int), er]) ∧ Below w.heap.size w w' := by
 have hx : w.cell? ⟨b, o + a, none⟩ = some (.int .u8 96) := byts_cell hb hc
 have han : a < n := by rw [← hn]; exact (List.getElem?_eq_some_iff.1 hc).1
 have hz : (a : Int) < (n : Int) := by omega
 have hz2 : ¬ (n : Int) ≤ (a : Int) := by omega
 have hca : cap ≠ a := by omega
 obtain ⟨z, hzz⟩ : ∃ z, E + 1 = z := ⟨_, rfl⟩
 obtain ⟨s, hs⟩ : ∃ s, a + 1 + E = s := ⟨_, rfl⟩
 have hsa : (s : Int) - (a : Int) = (z : Int) := by omega
 have hsn : s ≤ n := by omega
 have has : a ≤ s := by omega
 have hsc : s ≤ cap := by omega
 have hszz : s - a = z := by omega
 rw [hs] at HX
 rw [hzz] at hEl ⊢
 rw [hzz] at HW
 obtain ⟨y, hy⟩ : ∃ y, bs ((l.drop a).take z) = y := ⟨_, rfl⟩
 rw [hy] at HW
 have hbd := (hb.dropB (by omega) a).take z
 rw [bi_take] at hbd
 have hcv := conv_bytes hbd z (cap - a) (by rw [bi_length, List.length_take, List.length_drop, hn]; omega)
 rw [bi_str, hy] at hcv
 clear hbd hy
 clear hb hc hn hzz hs
 go_enter Tryz.func5, Tryz.ntmps5
 go_wp2_with fail
 refine (HX.out).mono ?_
 rintro e w2 ⟨rfl, rfl⟩
 go_wp2_with fail
 refine (HW.out).mono ?_
 rintro e w3 ⟨rfl, hw3⟩
 have HW3 := Lib.hid hw3
 clear hw3
 go_wp2_with fail
 go_ret3
 exact ⟨rfl, HW3.out⟩
theorem ScanD_run (A : Option Addr) (n cap : Nat) (l : List UInt8) (at_ : Int) (k z e : Nat) (w : World) (B : Nat) (hb : Byts w B A (bi l)) (hn : l.length = n) (hm : n ≤ 1000) (hcap : n ≤ cap) (h : scanI l at_ = (k, z, e)) :
  Calls Tryz.prog 5 #[.slice A n cap, .int .i64 at_] w fun en w' => en = .returned (.tuple #[.int .i64 (k : Int), .int .i64 (z : Int), .int .i64 (e : Int)]) ∧ Below w.heap.size w w' := by
 unfold scanI at h
 by_cases ho : at_ < 0 ∨ (l.length : Int) ≤ at_
 ·rw [if_pos ho] at h
  cases h
  refine (ScanD_out A n cap at_ w (by rw [hn] at ho; exact ho)).mono ?_
  rintro en w' ⟨rfl, rfl⟩
  exact ⟨rfl, Below.refl _ _⟩
 ·rw [if_neg ho] at h
  obtain ⟨a, ha⟩ : ∃ a : Nat, at_ = (a : Int) := ⟨at_.toNat, by omega⟩
  subst ha
  rw [Int.toNat_natCast] at h
  have hal : a < l.length := by omega
  obtain ⟨b, o, rfl⟩ := hb.some (by omega)
  obtain ⟨q, hq⟩ : ∃ q, l[a]? = some q := ⟨l[a], List.getElem?_eq_getElem hal⟩
  have hdr := drop_cons hq
  rw [hdr] at h
  by_cases hqq : q = 39 ∨ q = 34 ∨ q = 96
  ·have hs : scanL (q :: l.drop (a + 1)) = litA q (q :: l.drop (a + 1)) := if_pos hqq
   rw [hs] at h
   obtain ⟨E, K, hE⟩ : ∃ E K, endF q (l.drop (a + 1)) = (E, K) := ⟨_, _, rfl⟩
   rw [litA_eq q _ hE, ← hdr] at h
   have hEl : E + 1 ≤ n - a := by
    have := endF_le q (l.drop (a + 1))
    rw [hE, List.length_drop] at this
    have h2 : E ≤ l.length - (a + 1) := this
    omega
   have htm : ((l.drop a).take (E + 1)).length ≤ 100000 := by rw [List.length_take, List.length_drop]; omega
   obtain ⟨rr, kk, hce⟩ : ∃ rr kk, charF ((l.drop a).take (E + 1)) = (rr, kk) := ⟨_, _, rfl⟩
   obtain ⟨kt, tt, hte⟩ : ∃ kt tt, textF ((l.drop a).take (E + 1)) = (kt, tt) := ⟨_, _, rfl⟩
   have hTD := fun (_ : Unit) => TextD_run ((l.drop a).take (E + 1)) kt tt w htm hte
   rcases hqq with rfl | rfl | rfl
   ·have HE : Calls Tryz.prog 10 #[.slice (some ⟨b, o, none⟩) n cap, .int .i64 (a : Int)] w fun e w' => e = .returned (.tuple #[.int .i64 ((a + 1 + E : Nat) : Int), .bool K]) ∧ w' = w := End_line b o n cap a l 39 (by decide) (by decide) (by decide) E K w B hb hn (by omega) hcap hq hE
    cases K with
     | false =>
      cases h
      refine (ScanD_open39 b o n cap a l E w B hb hn (by omega) hcap hq hEl HE).mono ?_
      rintro en w' ⟨rfl, rfl⟩
      exact ⟨rfl, Below.refl _ _⟩
     | true =>
      have he : litE 39 ((l.drop a).take (E + 1)) = kk := by show (charF _).2 = kk; rw [hce]
      rw [if_pos rfl, he] at h
      cases h
      exact ScanD_shut39 b o n cap a l E _ _ w B hb hn (by omega) hcap hq hEl HE (Char_run _ _ _ w htm hce)
   ·have HE : Calls Tryz.prog 10 #[.slice (some ⟨b, o, none⟩) n cap, .int .i64 (a : Int)] w fun e w' => e = .returned (.tuple #[.int .i64 ((a + 1 + E : Nat) : Int), .bool K]) ∧ w' = w := End_line b o n cap a l 34 (by decide) (by decide) (by decide) E K w B hb hn (by omega) hcap hq hE
    cases K with
     | false =>
      cases h
      refine (ScanD_open34 b o n cap a l E w B hb hn (by omega) hcap hq hEl HE).mono ?_
      rintro en w' ⟨rfl, rfl⟩
      exact ⟨rfl, Below.refl _ _⟩
     | true =>
      have he : litE 34 ((l.drop a).take (E + 1)) = kt := by show (textF _).1 = kt; rw [hte]
      rw [if_pos rfl, he] at h
      cases h
      exact ScanD_shut34 b o n cap a l E _ _ w B hb hn (by omega) hcap hq hEl HE (hTD ())
   ·have HE : Calls Tryz.prog 10 #[.slice (some ⟨b, o, none⟩) n cap, .int .i64 (a : Int)] w fun e w' => e = .returned (.tuple #[.int .i64 ((a + 1 + E : Nat) : Int), .bool K]) ∧ w' = w := End_raw b o n cap a l E K w B hb hn (by omega) hcap hq hE
    cases K with
     | false =>
      cases h
      refine (ScanD_open96 b o n cap a l E w B hb hn (by omega) hcap hq hEl HE).mono ?_
      rintro en w' ⟨rfl, rfl⟩
      exact ⟨rfl, Below.refl _ _⟩
     | true =>
      have he : litE 96 ((l.drop a).take (E + 1)) = kt := by show (textF _).1 = kt; rw [hte]
      rw [if_pos rfl, he] at h
      cases h
      exact ScanD_shut96 b o n cap a l E _ _ w B hb hn (by omega) hcap hq hEl HE (hTD ())
  ·have hs : scanL (q :: l.drop (a + 1)) = (0, 0, 7) := if_neg hqq
   rw [hs] at h
   cases h
   refine (ScanD_no b o n cap a l q w B hb hn (by omega) hq hqq).mono ?_
   rintro en w' ⟨rfl, rfl⟩
   exact ⟨rfl, Below.refl _ _⟩
end Go.Proofs.YtcieibidnpemjaaGreatDoor
namespace Go.Proofs.YtcieibidnpemjaaGreatDoor
open Go.RowKit Go.Sort
set_option linter.unusedSimpArgs false
theorem scanI_le {l : List UInt8} {a : Int} {k z e : Nat} (h : scanI l a = (k, z, e)) : e ≤ 25 := by
 unfold scanI at h
 split at h
 ·cases h; decide
 ·unfold scanL at h
  split at h
  ·cases h; decide
  ·split at h
   ·unfold litA at h
    split at h
    ·have he : litE _ _ = e := congrArg (fun x => x.2.2) h
     rw [← he]
     unfold litE
     split
     ·exact Nat.le_trans (charF_le _) (by decide)
     ·exact textF_le (k := (textF _).1) (t := (textF _).2) rfl
    ·cases h; decide
   ·cases h; decide
set_option maxRecDepth 100000 in
set_option maxHeartbeats 4000000 in
theorem Scans_law (A : Option Addr) (n cap : Nat) (l : List UInt8) (a : Int) (w : World) (hb : Byts w w.heap.size A (bi l)) (hn : l.length = n) (hcap : n ≤ cap) (_hcm : cap ≤ 9223372036854775807) (hk : Kit w) :
  Calls Tryz.prog 3 #[.slice A n cap, .int .i64 a] w fun e w' => e = .returned (.bool true) ∧ Below w.heap.size w w' := by
 obtain ⟨m, hm⟩ : ∃ m, min n 60 = m := ⟨_, rfl⟩
 have hmz : min (n : Int) 60 = (m : Int) := by omega
 have hmn : m ≤ n := by omega
 have hmc : m ≤ cap := by omega
 have hm60 : m ≤ 60 := by omega
 have hbt := hb.take m
 rw [bi_take] at hbt
 obtain ⟨t, ht⟩ : ∃ t, l.take m = t := ⟨_, rfl⟩
 have htl : t.length = m := by rw [← ht, List.length_take]; omega
 rw [ht] at hbt
 obtain ⟨k, z, e, hs⟩ : ∃ k z e, scanI t a = (k, z, e) := ⟨_, _, _, rfl⟩
 have he := scanI_le hs
 obtain ⟨S, hS⟩ : ∃ S, w.heap.size = S := ⟨_, rfl⟩
 have HK : Hid (∀ V, Below S w V → Kit V) := fun V hb => hk.below (by rw [hS]; exact hb)
 have HSC := Lib.hid (ScanP_run A m cap t a k z e w w.heap.size hbt htl (by omega) hmc hk.1 hk.2.1 hk.2.2 hs)
 have HSD : Hid (∀ V, Below S w V → Calls Tryz.prog 5 #[.slice A m cap, .int .i64 a] V fun en w' => en = .returned (.tuple #[.int .i64 (k : Int), .int .i64 (z : Int), .int .i64 (e : Int)]) ∧ Below V.heap.size V w') := fun V hV =>
  ScanD_run A m cap t a k z e V w.heap.size (hbt.below (by rw [hS]; exact hV) (Nat.le_refl _)) htl (by omega) hmc hs
 have HCO := Lib.hid (fun V => code_errOf e he V)
 have HWK := Lib.hid (fun V (hV : Kit V) => works10_run V hV)
 have HB0 : Hid (Below S w w) := Below.refl _ _
 have HS := Lib.hid hS
 rw [hS]
 clear hb hbt hn hk ht hm htl hs he
 generalize errOf e = er at *
 go_enter Tryz.func3, Tryz.ntmps3
 go_wp2_with fail
 refine (HSC.out).mono ?_
 rintro e1 w1 ⟨rfl, hw⟩
 have B1 := Lib.hid (HB0.out.trans (hw.mono (by have := HS.out; omega)))
 have Z1 : Hid (S ≤ w1.heap.size) := by show _ ≤ _; have := HS.out; have := hw.size; omega
 clear hw hS
 go_wp2_with fail
 refine (HSD.out _ B1.out).mono ?_
 rintro e2 w2 ⟨rfl, hw⟩
 have B2 := Lib.hid (B1.out.trans (hw.mono Z1.out))
 have Z2 : Hid (S ≤ w2.heap.size) := Nat.le_trans Z1.out hw.size
 clear hw
 go_wp2_with fail
 refine (HCO.out _).mono ?_
 rintro e w3 ⟨rfl, hw⟩
 have B3 := Lib.hid (B2.out.trans (hw.mono Z2.out))
 have Z3 : Hid (S ≤ w3.heap.size) := Nat.le_trans Z2.out hw.size
 clear hw
 go_wp2_with fail
 refine (HWK.out _ (HK.out _ B3.out)).mono ?_
 rintro e w4 ⟨rfl, hw⟩
 have B4 := Lib.hid (B3.out.trans (hw.mono Z3.out))
 have Z4 : Hid (S ≤ w4.heap.size) := Nat.le_trans Z3.out hw.size
 clear hw
 go_wp2_with fail
 go_ret
 exact ⟨rfl, B4.out⟩
end Go.Proofs.YtcieibidnpemjaaGreatDoor
namespace Go.Proofs.YtcieibidnpemjaaGreatDoor
open Go.RowKit Go.Sort
theorem scans_any (A : Option Addr) (n cap : Nat) (l : List Int) (a : Int) (W : World) (hb : Byts W W.heap.size A l) (hl : l.length = n) (hc : n ≤ cap) (hm : cap ≤ 9223372036854775807) (hs : Ml W) (hh : Heads W ∧ ErrVars W) :
  Calls Tryz.prog 3 #[.slice A n cap, .int .i64 a] W fun e w' => e = .returned (.bool true) ∧ Below W.heap.size W w' := by
 obtain ⟨m, rfl⟩ := bi_back l hb.1
 rw [bi_length] at hl
 exact Scans_law A n cap m a W hb hl hc hm ⟨hh.2, hh.1, hs⟩
end Go.Proofs.YtcieibidnpemjaaGreatDoor
