/-
  Layer 11 (scan): the cursor's literal.
-/
import Derived.Test.YtgkhjeefcflmcaaGreatDoorMt36
import Derived.Test.YtgkhjeefcflmcaaGreatDoorMt30
import Derived.Test.YtgkhjeefcflmcaaGreatDoorMt22
namespace Go.Proofs.YtgkhjeefcflmcaaGreatDoor
open Go.RowKit Go.Sort
set_option linter.unusedSimpArgs false
set_option linter.unusedVariables false
set_option maxRecDepth 100000 in
set_option maxHeartbeats 8000000 in
theorem literal_noP (V : World) (cb b o n cap a : Nat) (l : List UInt8) (t : Tk) (br : Bool) (h : CAt V cb (some ⟨b, o, none⟩) n cap a t br) (hb : Byts V cb (some ⟨b, o, none⟩) (bi l)) (hn : l.length = n) (hm : n ≤ 900) (hcap : n ≤ cap) (hcm : cap ≤ 9223372036854775807) (ha : a < n) (k e : Int) (er : Value) (HS : Hid (∀ W, Below cb V W → Calls Tryz.prog 49 #[.slice (some ⟨b, o, none⟩) n cap, .int .i64 (a : Int)] W fun e w' => e = .returned (.tuple #[.int .i64 k, .int .i64 0, er]) ∧ Below W.heap.size W w'))  :
  Calls Tryz.prog 48 #[.pointer (some ⟨cb, 0, none⟩), .func (.func 49) #[] #[]] V fun e V' => e = .returned (.bool false) ∧ Left V cb (some ⟨b, o, none⟩) n cap a t br V' := by
 have HC := Lib.hid h
 have HLT := Lib.hid h.lt
 have HA9 : Hid (a ≤ 900 ∧ n ≤ 900) := by show _ ∧ _; omega
 have HBV : Hid (Below cb V V.drew) := (Below.refl _ _).drew
 have HSD := Lib.hid (HS.out _ HBV.out)
 have HZ : Hid (V.drew.cell? ⟨cb, 0, none⟩ = some (.slice (some ⟨b, o, none⟩) n cap) ∧ V.drew.cell? ⟨cb, 1, none⟩ = some (.int .i64 (a : Int))) := ⟨h.c0, h.c1⟩
 obtain ⟨c0, c1, c2, c3, c4, c5, c6, c7, f2, f3, f4, f5, f6, f7⟩ := h
 clear hb hcm hn HS
 go_enter Tryz.func48, Tryz.ntmps48
 go_wp2_with fail
 go_region_held3 (fun W => W.cell? ⟨cb, 0, none⟩ = some (.slice (some ⟨b, o, none⟩) n cap) ∧ W.cell? ⟨cb, 1, none⟩ = some (.int .i64 (a : Int))) (first | exact HZ.out | exact HZ2.out)
  (first | (go_at_call 49; refine HSD.out.mono ?_; rintro e W ⟨rfl, hw⟩; have HB1 : Hid (Below cb V W) := HBV.out.trans (hw.mono (by have := HLT.out; have := HBV.out.size; omega)); have HC1 : Hid (CAt W cb (some ⟨b, o, none⟩) n cap a t br) := (HC.out.below (Below.refl _ V).drew).below hw; have HZ2 : Hid (W.cell? ⟨cb, 0, none⟩ = some (.slice (some ⟨b, o, none⟩) n cap) ∧ W.cell? ⟨cb, 1, none⟩ = some (.int .i64 (a : Int))) := ⟨HC1.out.c0, HC1.out.c1⟩; clear hw HSD) | fail)
 go_wp2_with fail
 go_ret
 exact ⟨rfl, HC1.out, HB1.out⟩
set_option maxRecDepth 100000 in
set_option maxHeartbeats 8000000 in
theorem literal_okP (V : World) (cb b o n cap a : Nat) (l : List UInt8) (t : Tk) (br : Bool) (h : CAt V cb (some ⟨b, o, none⟩) n cap a t br) (hb : Byts V cb (some ⟨b, o, none⟩) (bi l)) (hn : l.length = n) (hm : n ≤ 900) (hcap : n ≤ cap) (hcm : cap ≤ 9223372036854775807) (ha : a < n) (k s : Nat) (HS : Hid (∀ W, Below cb V W → Calls Tryz.prog 49 #[.slice (some ⟨b, o, none⟩) n cap, .int .i64 (a : Int)] W fun e w' => e = .returned (.tuple #[.int .i64 (k : Int), .int .i64 (s : Int), .nilIface]) ∧ Below W.heap.size W w')) (hs : 1 ≤ s) (hs9 : s ≤ 900) (hE : ErrType V) (hEc : 0 < cb) :
  Calls Tryz.prog 48 #[.pointer (some ⟨cb, 0, none⟩), .func (.func 49) #[] #[]] V fun e V' => e = .returned (.bool true) ∧ Left V cb (some ⟨b, o, none⟩) n cap a (piAt ⟨k, s, 0, false⟩ a) false V' := by
 have HC := Lib.hid h
 have HLT := Lib.hid h.lt
 have HA9 : Hid (a ≤ 900 ∧ n ≤ 900) := by show _ ∧ _; omega
 have HBV : Hid (Below cb V V.drew) := (Below.refl _ _).drew
 have HSD := Lib.hid (HS.out _ HBV.out)
 have hs1 : ((s : Int) == 0) = false := beq_eq_false_iff_ne.2 (by omega)
 have HER : Hid (∀ W, Below cb V W → Calls Tryz.prog 72 #[.nilIface] W fun ev w' => ev = .returned (.int .i64 0) ∧ Below W.heap.size W w') := fun W hw => errno_run 0 W (hE.below hw hEc)
 have HZ : Hid (V.drew.cell? ⟨cb, 0, none⟩ = some (.slice (some ⟨b, o, none⟩) n cap) ∧ V.drew.cell? ⟨cb, 1, none⟩ = some (.int .i64 (a : Int))) := ⟨h.c0, h.c1⟩
 obtain ⟨c0, c1, c2, c3, c4, c5, c6, c7, f2, f3, f4, f5, f6, f7⟩ := h
 clear hb hcm hn HS
 go_enter Tryz.func48, Tryz.ntmps48
 go_wp2_with fail
 go_region_held3 (fun W => W.cell? ⟨cb, 0, none⟩ = some (.slice (some ⟨b, o, none⟩) n cap) ∧ W.cell? ⟨cb, 1, none⟩ = some (.int .i64 (a : Int))) (first | exact HZ.out | exact HZ2.out)
  (first | (go_at_call 49; refine HSD.out.mono ?_; rintro e W ⟨rfl, hw⟩; have HB1 : Hid (Below cb V W) := HBV.out.trans (hw.mono (by have := HLT.out; have := HBV.out.size; omega)); have HC1 : Hid (CAt W cb (some ⟨b, o, none⟩) n cap a t br) := (HC.out.below (Below.refl _ V).drew).below hw; have HZ2 : Hid (W.cell? ⟨cb, 0, none⟩ = some (.slice (some ⟨b, o, none⟩) n cap) ∧ W.cell? ⟨cb, 1, none⟩ = some (.int .i64 (a : Int))) := ⟨HC1.out.c0, HC1.out.c1⟩; clear hw HSD) | fail)
 go_wp2_with fail
 refine (HER.out _ HB1.out).mono ?_
 rintro e W2 ⟨rfl, hw2⟩
 have HB2 := Lib.hid (HB1.out.trans (hw2.mono (by have := HC1.out.lt; omega)))
 have HC2 := Lib.hid (HC1.out.below hw2)
 clear hw2 HER HC1 HB1
 go_wp2_with fail
 refine (take_run W2 cb _ n cap a t br HC2.out k s 0 (by have := HA9.out; omega) (by omega)).mono ?_
 rintro e W3 ⟨rfl, hC3, hB3⟩
 have HL : Hid (Left V cb (some ⟨b, o, none⟩) n cap a (piAt ⟨k, s, 0, false⟩ a) false W3) := ⟨hC3, HB2.out.trans hB3⟩
 clear hC3 hB3
 go_wp2_with fail
 go_ret
 exact ⟨rfl, HL.out⟩
set_option maxRecDepth 100000 in
set_option maxHeartbeats 8000000 in
theorem literal_badP (V : World) (cb b o n cap a : Nat) (l : List UInt8) (t : Tk) (br : Bool) (h : CAt V cb (some ⟨b, o, none⟩) n cap a t br) (hb : Byts V cb (some ⟨b, o, none⟩) (bi l)) (hn : l.length = n) (hm : n ≤ 900) (hcap : n ≤ cap) (hcm : cap ≤ 9223372036854775807) (ha : a < n) (k : Int) (s ee : Nat) (HS : Hid (∀ W, Below cb V W → Calls Tryz.prog 49 #[.slice (some ⟨b, o, none⟩) n cap, .int .i64 (a : Int)] W fun e w' => e = .returned (.tuple #[.int .i64 k, .int .i64 (s : Int), .iface 35 (.int .i64 (ee : Int))]) ∧ Below W.heap.size W w')) (hs : 1 ≤ s) (hs9 : s ≤ 900) (he : ee ≠ 0) (hE : ErrType V) (hEc : 0 < cb) :
  Calls Tryz.prog 48 #[.pointer (some ⟨cb, 0, none⟩), .func (.func 49) #[] #[]] V fun e V' => e = .returned (.bool true) ∧ Left V cb (some ⟨b, o, none⟩) n cap a (piAt ⟨6, s, ee, false⟩ a) false V' := by
 have HC := Lib.hid h
 have HLT := Lib.hid h.lt
 have HA9 : Hid (a ≤ 900 ∧ n ≤ 900) := by show _ ∧ _; omega
 have HBV : Hid (Below cb V V.drew) := (Below.refl _ _).drew
 have HSD := Lib.hid (HS.out _ HBV.out)
 have hs1 : ((s : Int) == 0) = false := beq_eq_false_iff_ne.2 (by omega)
 have HER : Hid (∀ W, Below cb V W → Calls Tryz.prog 72 #[.iface 35 (.int .i64 (ee : Int))] W fun ev w' => ev = .returned (.int .i64 (ee : Int)) ∧ Below W.heap.size W w') := fun W hw => by
  have := errno_run ee W (hE.below hw hEc)
  unfold errV at this
  rw [if_neg he] at this
  exact this
 have HZ : Hid (V.drew.cell? ⟨cb, 0, none⟩ = some (.slice (some ⟨b, o, none⟩) n cap) ∧ V.drew.cell? ⟨cb, 1, none⟩ = some (.int .i64 (a : Int))) := ⟨h.c0, h.c1⟩
 obtain ⟨c0, c1, c2, c3, c4, c5, c6, c7, f2, f3, f4, f5, f6, f7⟩ := h
 clear hb hcm hn HS
 go_enter Tryz.func48, Tryz.ntmps48
 go_wp2_with fail
 go_region_held3 (fun W => W.cell? ⟨cb, 0, none⟩ = some (.slice (some ⟨b, o, none⟩) n cap) ∧ W.cell? ⟨cb, 1, none⟩ = some (.int .i64 (a : Int))) (first | exact HZ.out | exact HZ2.out)
  (first | (go_at_call 49; refine HSD.out.mono ?_; rintro e W ⟨rfl, hw⟩; have HB1 : Hid (Below cb V W) := HBV.out.trans (hw.mono (by have := HLT.out; have := HBV.out.size; omega)); have HC1 : Hid (CAt W cb (some ⟨b, o, none⟩) n cap a t br) := (HC.out.below (Below.refl _ V).drew).below hw; have HZ2 : Hid (W.cell? ⟨cb, 0, none⟩ = some (.slice (some ⟨b, o, none⟩) n cap) ∧ W.cell? ⟨cb, 1, none⟩ = some (.int .i64 (a : Int))) := ⟨HC1.out.c0, HC1.out.c1⟩; clear hw HSD) | fail)
 go_wp2_with fail
 refine (HER.out _ HB1.out).mono ?_
 rintro e W2 ⟨rfl, hw2⟩
 have HB2 := Lib.hid (HB1.out.trans (hw2.mono (by have := HC1.out.lt; omega)))
 have HC2 := Lib.hid (HC1.out.below hw2)
 clear hw2 HER HC1 HB1
 go_wp2_with fail
 refine (take_run W2 cb _ n cap a t br HC2.out 6 s ee (by have := HA9.out; omega) (by omega)).mono ?_
 rintro e W3 ⟨rfl, hC3, hB3⟩
 have HL : Hid (Left V cb (some ⟨b, o, none⟩) n cap a (piAt ⟨6, s, ee, false⟩ a) false W3) := ⟨hC3, HB2.out.trans hB3⟩
 clear hC3 hB3
 go_wp2_with fail
 go_ret
 exact ⟨rfl, HL.out⟩
set_option maxRecDepth 100000 in
set_option maxHeartbeats 8000000 in
theorem literal_noQ (V : World) (cb b o n cap a : Nat) (l : List UInt8) (t : Tk) (br : Bool) (h : CAt V cb (some ⟨b, o, none⟩) n cap a t br) (hb : Byts V cb (some ⟨b, o, none⟩) (bi l)) (hn : l.length = n) (hm : n ≤ 900) (hcap : n ≤ cap) (hcm : cap ≤ 9223372036854775807) (ha : a < n) (k e : Int) (er : Value) (HS : Hid (∀ W, Below cb V W → Calls Tryz.prog 50 #[.slice (some ⟨b, o, none⟩) n cap, .int .i64 (a : Int)] W fun e w' => e = .returned (.tuple #[.int .i64 k, .int .i64 0, er]) ∧ Below W.heap.size W w'))  :
  Calls Tryz.prog 48 #[.pointer (some ⟨cb, 0, none⟩), .func (.func 50) #[] #[]] V fun e V' => e = .returned (.bool false) ∧ Left V cb (some ⟨b, o, none⟩) n cap a t br V' := by
 have HC := Lib.hid h
 have HLT := Lib.hid h.lt
 have HA9 : Hid (a ≤ 900 ∧ n ≤ 900) := by show _ ∧ _; omega
 have HBV : Hid (Below cb V V.drew) := (Below.refl _ _).drew
 have HSD := Lib.hid (HS.out _ HBV.out)
 have HZ : Hid (V.drew.cell? ⟨cb, 0, none⟩ = some (.slice (some ⟨b, o, none⟩) n cap) ∧ V.drew.cell? ⟨cb, 1, none⟩ = some (.int .i64 (a : Int))) := ⟨h.c0, h.c1⟩
 obtain ⟨c0, c1, c2, c3, c4, c5, c6, c7, f2, f3, f4, f5, f6, f7⟩ := h
 clear hb hcm hn HS
 go_enter Tryz.func48, Tryz.ntmps48
 go_wp2_with fail
 go_region_held3 (fun W => W.cell? ⟨cb, 0, none⟩ = some (.slice (some ⟨b, o, none⟩) n cap) ∧ W.cell? ⟨cb, 1, none⟩ = some (.int .i64 (a : Int))) (first | exact HZ.out | exact HZ2.out)
  (first | (go_at_call 50; refine HSD.out.mono ?_; rintro e W ⟨rfl, hw⟩; have HB1 : Hid (Below cb V W) := HBV.out.trans (hw.mono (by have := HLT.out; have := HBV.out.size; omega)); have HC1 : Hid (CAt W cb (some ⟨b, o, none⟩) n cap a t br) := (HC.out.below (Below.refl _ V).drew).below hw; have HZ2 : Hid (W.cell? ⟨cb, 0, none⟩ = some (.slice (some ⟨b, o, none⟩) n cap) ∧ W.cell? ⟨cb, 1, none⟩ = some (.int .i64 (a : Int))) := ⟨HC1.out.c0, HC1.out.c1⟩; clear hw HSD) | fail)
 go_wp2_with fail
 go_ret
 exact ⟨rfl, HC1.out, HB1.out⟩
set_option maxRecDepth 100000 in
set_option maxHeartbeats 8000000 in
theorem literal_okQ (V : World) (cb b o n cap a : Nat) (l : List UInt8) (t : Tk) (br : Bool) (h : CAt V cb (some ⟨b, o, none⟩) n cap a t br) (hb : Byts V cb (some ⟨b, o, none⟩) (bi l)) (hn : l.length = n) (hm : n ≤ 900) (hcap : n ≤ cap) (hcm : cap ≤ 9223372036854775807) (ha : a < n) (k s : Nat) (HS : Hid (∀ W, Below cb V W → Calls Tryz.prog 50 #[.slice (some ⟨b, o, none⟩) n cap, .int .i64 (a : Int)] W fun e w' => e = .returned (.tuple #[.int .i64 (k : Int), .int .i64 (s : Int), .nilIface]) ∧ Below W.heap.size W w')) (hs : 1 ≤ s) (hs9 : s ≤ 900) (hE : ErrType V) (hEc : 0 < cb) :
  Calls Tryz.prog 48 #[.pointer (some ⟨cb, 0, none⟩), .func (.func 50) #[] #[]] V fun e V' => e = .returned (.bool true) ∧ Left V cb (some ⟨b, o, none⟩) n cap a (piAt ⟨k, s, 0, false⟩ a) false V' := by
 have HC := Lib.hid h
 have HLT := Lib.hid h.lt
 have HA9 : Hid (a ≤ 900 ∧ n ≤ 900) := by show _ ∧ _; omega
 have HBV : Hid (Below cb V V.drew) := (Below.refl _ _).drew
 have HSD := Lib.hid (HS.out _ HBV.out)
 have hs1 : ((s : Int) == 0) = false := beq_eq_false_iff_ne.2 (by omega)
 have HER : Hid (∀ W, Below cb V W → Calls Tryz.prog 72 #[.nilIface] W fun ev w' => ev = .returned (.int .i64 0) ∧ Below W.heap.size W w') := fun W hw => errno_run 0 W (hE.below hw hEc)
 have HZ : Hid (V.drew.cell? ⟨cb, 0, none⟩ = some (.slice (some ⟨b, o, none⟩) n cap) ∧ V.drew.cell? ⟨cb, 1, none⟩ = some (.int .i64 (a : Int))) := ⟨h.c0, h.c1⟩
 obtain ⟨c0, c1, c2, c3, c4, c5, c6, c7, f2, f3, f4, f5, f6, f7⟩ := h
 clear hb hcm hn HS
 go_enter Tryz.func48, Tryz.ntmps48
 go_wp2_with fail
 go_region_held3 (fun W => W.cell? ⟨cb, 0, none⟩ = some (.slice (some ⟨b, o, none⟩) n cap) ∧ W.cell? ⟨cb, 1, none⟩ = some (.int .i64 (a : Int))) (first | exact HZ.out | exact HZ2.out)
  (first | (go_at_call 50; refine HSD.out.mono ?_; rintro e W ⟨rfl, hw⟩; have HB1 : Hid (Below cb V W) := HBV.out.trans (hw.mono (by have := HLT.out; have := HBV.out.size; omega)); have HC1 : Hid (CAt W cb (some ⟨b, o, none⟩) n cap a t br) := (HC.out.below (Below.refl _ V).drew).below hw; have HZ2 : Hid (W.cell? ⟨cb, 0, none⟩ = some (.slice (some ⟨b, o, none⟩) n cap) ∧ W.cell? ⟨cb, 1, none⟩ = some (.int .i64 (a : Int))) := ⟨HC1.out.c0, HC1.out.c1⟩; clear hw HSD) | fail)
 go_wp2_with fail
 refine (HER.out _ HB1.out).mono ?_
 rintro e W2 ⟨rfl, hw2⟩
 have HB2 := Lib.hid (HB1.out.trans (hw2.mono (by have := HC1.out.lt; omega)))
 have HC2 := Lib.hid (HC1.out.below hw2)
 clear hw2 HER HC1 HB1
 go_wp2_with fail
 refine (take_run W2 cb _ n cap a t br HC2.out k s 0 (by have := HA9.out; omega) (by omega)).mono ?_
 rintro e W3 ⟨rfl, hC3, hB3⟩
 have HL : Hid (Left V cb (some ⟨b, o, none⟩) n cap a (piAt ⟨k, s, 0, false⟩ a) false W3) := ⟨hC3, HB2.out.trans hB3⟩
 clear hC3 hB3
 go_wp2_with fail
 go_ret
 exact ⟨rfl, HL.out⟩
set_option maxRecDepth 100000 in
set_option maxHeartbeats 8000000 in
theorem literal_badQ (V : World) (cb b o n cap a : Nat) (l : List UInt8) (t : Tk) (br : Bool) (h : CAt V cb (some ⟨b, o, none⟩) n cap a t br) (hb : Byts V cb (some ⟨b, o, none⟩) (bi l)) (hn : l.length = n) (hm : n ≤ 900) (hcap : n ≤ cap) (hcm : cap ≤ 9223372036854775807) (ha : a < n) (k : Int) (s ee : Nat) (HS : Hid (∀ W, Below cb V W → Calls Tryz.prog 50 #[.slice (some ⟨b, o, none⟩) n cap, .int .i64 (a : Int)] W fun e w' => e = .returned (.tuple #[.int .i64 k, .int .i64 (s : Int), .iface 35 (.int .i64 (ee : Int))]) ∧ Below W.heap.size W w')) (hs : 1 ≤ s) (hs9 : s ≤ 900) (he : ee ≠ 0) (hE : ErrType V) (hEc : 0 < cb) :
  Calls Tryz.prog 48 #[.pointer (some ⟨cb, 0, none⟩), .func (.func 50) #[] #[]] V fun e V' => e = .returned (.bool true) ∧ Left V cb (some ⟨b, o, none⟩) n cap a (piAt ⟨6, s, ee, false⟩ a) false V' := by
 have HC := Lib.hid h
 have HLT := Lib.hid h.lt
 have HA9 : Hid (a ≤ 900 ∧ n ≤ 900) := by show _ ∧ _; omega
 have HBV : Hid (Below cb V V.drew) := (Below.refl _ _).drew
 have HSD := Lib.hid (HS.out _ HBV.out)
 have hs1 : ((s : Int) == 0) = false := beq_eq_false_iff_ne.2 (by omega)
 have HER : Hid (∀ W, Below cb V W → Calls Tryz.prog 72 #[.iface 35 (.int .i64 (ee : Int))] W fun ev w' => ev = .returned (.int .i64 (ee : Int)) ∧ Below W.heap.size W w') := fun W hw => by
  have := errno_run ee W (hE.below hw hEc)
  unfold errV at this
  rw [if_neg he] at this
  exact this
 have HZ : Hid (V.drew.cell? ⟨cb, 0, none⟩ = some (.slice (some ⟨b, o, none⟩) n cap) ∧ V.drew.cell? ⟨cb, 1, none⟩ = some (.int .i64 (a : Int))) := ⟨h.c0, h.c1⟩
 obtain ⟨c0, c1, c2, c3, c4, c5, c6, c7, f2, f3, f4, f5, f6, f7⟩ := h
 clear hb hcm hn HS
 go_enter Tryz.func48, Tryz.ntmps48
 go_wp2_with fail
 go_region_held3 (fun W => W.cell? ⟨cb, 0, none⟩ = some (.slice (some ⟨b, o, none⟩) n cap) ∧ W.cell? ⟨cb, 1, none⟩ = some (.int .i64 (a : Int))) (first | exact HZ.out | exact HZ2.out)
  (first | (go_at_call 50; refine HSD.out.mono ?_; rintro e W ⟨rfl, hw⟩; have HB1 : Hid (Below cb V W) := HBV.out.trans (hw.mono (by have := HLT.out; have := HBV.out.size; omega)); have HC1 : Hid (CAt W cb (some ⟨b, o, none⟩) n cap a t br) := (HC.out.below (Below.refl _ V).drew).below hw; have HZ2 : Hid (W.cell? ⟨cb, 0, none⟩ = some (.slice (some ⟨b, o, none⟩) n cap) ∧ W.cell? ⟨cb, 1, none⟩ = some (.int .i64 (a : Int))) := ⟨HC1.out.c0, HC1.out.c1⟩; clear hw HSD) | fail)
 go_wp2_with fail
 refine (HER.out _ HB1.out).mono ?_
 rintro e W2 ⟨rfl, hw2⟩
 have HB2 := Lib.hid (HB1.out.trans (hw2.mono (by have := HC1.out.lt; omega)))
 have HC2 := Lib.hid (HC1.out.below hw2)
 clear hw2 HER HC1 HB1
 go_wp2_with fail
 refine (take_run W2 cb _ n cap a t br HC2.out 6 s ee (by have := HA9.out; omega) (by omega)).mono ?_
 rintro e W3 ⟨rfl, hC3, hB3⟩
 have HL : Hid (Left V cb (some ⟨b, o, none⟩) n cap a (piAt ⟨6, s, ee, false⟩ a) false W3) := ⟨hC3, HB2.out.trans hB3⟩
 clear hC3 hB3
 go_wp2_with fail
 go_ret
 exact ⟨rfl, HL.out⟩
end Go.Proofs.YtgkhjeefcflmcaaGreatDoor
