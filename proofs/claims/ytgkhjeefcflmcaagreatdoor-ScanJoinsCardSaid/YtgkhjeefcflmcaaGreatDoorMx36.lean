/-
  Layer 11 (scan): the cursor's name.
-/
import Derived.Test.YtgkhjeefcflmcaaGreatDoorMx35
import Derived.Test.YtgkhjeefcflmcaaGreatDoorMx30
import Derived.Test.YtgkhjeefcflmcaaGreatDoorMx22
namespace Go.Proofs.YtgkhjeefcflmcaaGreatDoor
open Go.RowKit Go.Sort
set_option linter.unusedSimpArgs false
set_option linter.unusedVariables false
set_option maxRecDepth 100000 in
set_option maxHeartbeats 8000000 in
theorem name_no (V : World) (cb b o n cap a : Nat) (l : List UInt8) (t : Tk) (br : Bool) (h : CAt V cb (some ⟨b, o, none⟩) n cap a t br) (hb : Byts V cb (some ⟨b, o, none⟩) (bi l)) (hn : l.length = n) (hm : n ≤ 900) (hcap : n ≤ cap) (hcm : cap ≤ 9223372036854775807) (ha : a < n) (hE : nmF (l.drop a) = 0) (hH : Heads V) :
  Calls Tryz.prog 47 #[.pointer (some ⟨cb, 0, none⟩)] V fun e V' => e = .returned (.bool false) ∧ Left V cb (some ⟨b, o, none⟩) n cap a t br V' := by
 have HC := Lib.hid h
 have HY := Lib.hid hb
 have HLT := Lib.hid h.lt
 have hca : cap ≠ a := by omega
 have hac : a ≤ cap := by omega
 have han : (a : Int) ≤ (n : Int) := by omega
 obtain ⟨m, hma⟩ : ∃ m, n - a = m := ⟨_, rfl⟩
 obtain ⟨cc, hcc⟩ : ∃ cc, cap - a = cc := ⟨_, rfl⟩
 obtain ⟨r, hr⟩ : ∃ r, l.drop a = r := ⟨_, rfl⟩
 have hdl : r.length = m := by rw [← hr, List.length_drop, hn, hma]
 have hmc : m ≤ cc := by omega
 have hm9 : m ≤ 900 := by omega
 have HA9 : Hid (a ≤ 900) := by show _ ≤ _; omega
 have HR : Hid (∀ W, Below cb V W → Byts W cb (some ⟨b, o + a, none⟩) (bi r)) := fun W hw => by
  rw [← hr]
  exact (HY.out.below (B' := cb) hw (Nat.le_refl _)).dropB (by omega) a
 have HYQ : ∀ q, Byts (V.drewN q) cb (some ⟨b, o + a, none⟩) (bi r) := fun q => HR.out _ (below_drewN (Below.refl _ _) q)
 have HO : Hid (∀ q, Calls Tryz.prog 70 #[.slice (some ⟨b, o + a, none⟩) m cc] (V.drewN q) fun e w' => e = .returned (.int .i64 0) ∧ ∃ k, w' = (V.drewN q).drewN k) := fun q =>
  nameSize_run (some ⟨b, o + a, none⟩) m cc _ r (V.drewN q) cb (HYQ q) hdl hm9 hmc (fun k h1 h2 => hH k h1 h2) (by rw [← hr]; exact hE)
 obtain ⟨c0, c1, c2, c3, c4, c5, c6, c7, f2, f3, f4, f5, f6, f7⟩ := h
 clear hb hcm hn hE hH HYQ HR hr hdl
 go_enter Tryz.func47, Tryz.ntmps47
 go_wp2_with fail
 go_quiet (first | (go_at_call 70; refine Calls.quiet_of (HO.out _)) | fail)
 have HB1 : Hid (Below cb V (V.drewN nq)) := below_drewN (Below.refl _ _) nq
 have HC1 := Lib.hid (HC.out.below (below_drewN (Below.refl _ V) nq))
 clear c0 c1 c2 c3 c4 c5 c6 c7 f2 f3 f4 f5 f6 f7
 generalize V.drewN nq = W at *
 go_wp2_with fail
 go_ret
 exact ⟨rfl, HC1.out, HB1.out⟩
set_option maxRecDepth 100000 in
set_option maxHeartbeats 8000000 in
theorem name_word (V : World) (cb b o n cap a : Nat) (l : List UInt8) (t : Tk) (br : Bool) (h : CAt V cb (some ⟨b, o, none⟩) n cap a t br) (hb : Byts V cb (some ⟨b, o, none⟩) (bi l)) (hn : l.length = n) (hm : n ≤ 900) (hcap : n ≤ cap) (hcm : cap ≤ 9223372036854775807) (ha : a < n) (E : Nat) (x : ByteArray) (hE : nmF (l.drop a) = E) (hE0 : 1 ≤ E) (hEn : E ≤ n - a) (hx : bs ((l.drop a).take E) = x) (hkw : KwIs x 0) (hH : Heads V) (hT : TabAt V) (hTc : 1 < cb) :
  Calls Tryz.prog 47 #[.pointer (some ⟨cb, 0, none⟩)] V fun e V' => e = .returned (.bool true) ∧ Left V cb (some ⟨b, o, none⟩) n cap a (piAt ⟨1, E, 0, false⟩ a) false V' := by
 have HC := Lib.hid h
 have HY := Lib.hid hb
 have HLT := Lib.hid h.lt
 have hca : cap ≠ a := by omega
 have hac : a ≤ cap := by omega
 have han : (a : Int) ≤ (n : Int) := by omega
 obtain ⟨m, hma⟩ : ∃ m, n - a = m := ⟨_, rfl⟩
 obtain ⟨cc, hcc⟩ : ∃ cc, cap - a = cc := ⟨_, rfl⟩
 obtain ⟨r, hr⟩ : ∃ r, l.drop a = r := ⟨_, rfl⟩
 have hdl : r.length = m := by rw [← hr, List.length_drop, hn, hma]
 have hmc : m ≤ cc := by omega
 have hm9 : m ≤ 900 := by omega
 have HA9 : Hid (a ≤ 900) := by show _ ≤ _; omega
 have HR : Hid (∀ W, Below cb V W → Byts W cb (some ⟨b, o + a, none⟩) (bi r)) := fun W hw => by
  rw [← hr]
  exact (HY.out.below (B' := cb) hw (Nat.le_refl _)).dropB (by omega) a
 have HYQ : ∀ q, Byts (V.drewN q) cb (some ⟨b, o + a, none⟩) (bi r) := fun q => HR.out _ (below_drewN (Below.refl _ _) q)
 have HO : Hid (∀ q, Calls Tryz.prog 70 #[.slice (some ⟨b, o + a, none⟩) m cc] (V.drewN q) fun e w' => e = .returned (.int .i64 (E : Int)) ∧ ∃ k, w' = (V.drewN q).drewN k) := fun q =>
  nameSize_run (some ⟨b, o + a, none⟩) m cc _ r (V.drewN q) cb (HYQ q) hdl hm9 hmc (fun k h1 h2 => hH k h1 h2) (by rw [← hr]; exact hE)
 have hE1 : ((E : Int) == 0) = false := beq_eq_false_iff_ne.2 (by omega)
 obtain ⟨s, hs⟩ : ∃ s, a + E = s := ⟨_, rfl⟩
 have hsum : (a : Int) + (E : Int) = (s : Int) := by omega
 have hsz : s - a = E := by omega
 have has : a ≤ s := by omega
 have hsn : s ≤ n := by omega
 have hsc : s ≤ cap := by omega
 have hs9 : s ≤ 900 := by omega
 have HK : Hid (∀ W, Below cb V W → ∀ q, Calls Tryz.prog 71 #[.string x] (W.drewN q) fun e w' => e = .returned (.int .i64 0) ∧ w' = W.drewN q) := fun W hw q =>
  (Keyword_run x _ (W.drewN q) (fun k hk => (hw.cell (p := ⟨1, k, none⟩) hTc).trans (hT k hk)) hkw).mono fun e w' ⟨h1, h2⟩ => ⟨h1, h2.symm⟩
 have HCV : Hid (∀ W, Below cb V W → ∀ q, (convert 22 9 (.slice (some ⟨b, o + a, none⟩) E cc)).run Tryz.prog (W.drewN q) = .ok (.string x) (W.drewN q)) := fun W hw q => by
  have h1 := ((HR.out W hw).keep (w' := W.drewN q) fun _ _ _ => rfl).take E
  rw [bi_take] at h1
  have h2 := conv_bytes h1 E cc (by rw [bi_length, List.length_take, hdl]; omega)
  rw [bi_str, ← hr, hx] at h2
  exact h2
 have HE9 : Hid (E ≤ 900) := by show _ ≤ _; omega
 obtain ⟨c0, c1, c2, c3, c4, c5, c6, c7, f2, f3, f4, f5, f6, f7⟩ := h
 clear hb hcm hn hE hH HYQ HR hr hdl hs hx hkw hT hTc
 go_enter Tryz.func47, Tryz.ntmps47
 go_wp2_with fail
 go_quiet (first | (go_at_call 70; refine Calls.quiet_of (HO.out _)) | fail)
 have HB1 : Hid (Below cb V (V.drewN nq)) := below_drewN (Below.refl _ _) nq
 have HC1 := Lib.hid (HC.out.below (below_drewN (Below.refl _ V) nq))
 clear c0 c1 c2 c3 c4 c5 c6 c7 f2 f3 f4 f5 f6 f7
 generalize V.drewN nq = W at *
 have hcv := HCV.out _ HB1.out
 have HK2 := Lib.hid (HK.out _ HB1.out)
 obtain ⟨c0, c1, c2, c3, c4, c5, c6, c7, f2, f3, f4, f5, f6, f7⟩ := HC1.out
 go_wp2_with fail
 go_quiet (first | (go_at_call 71; refine Calls.quiet_of_same (HK2.out _)) | fail)
 have HB2 := Lib.hid (below_drewN HB1.out nq)
 have HC2 := Lib.hid (HC1.out.below (below_drewN (Below.refl _ W) nq))
 clear c0 c1 c2 c3 c4 c5 c6 c7 f2 f3 f4 f5 f6 f7 hcv HK2 HC1 HB1
 generalize W.drewN nq = W2 at *
 go_wp2_with fail
 refine (take_run W2 cb _ n cap a t br HC2.out 1 E 0 (by have := HA9.out; omega) (by have := HE9.out; omega)).mono ?_
 rintro e W3 ⟨rfl, hC3, hB3⟩
 have HL : Hid (Left V cb (some ⟨b, o, none⟩) n cap a (piAt ⟨1, E, 0, false⟩ a) false W3) := ⟨hC3, HB2.out.trans hB3⟩
 clear hC3 hB3
 go_wp2_with fail
 go_ret
 exact ⟨rfl, HL.out⟩
set_option maxRecDepth 100000 in
set_option maxHeartbeats 8000000 in
theorem name_kw (V : World) (cb b o n cap a : Nat) (l : List UInt8) (t : Tk) (br : Bool) (h : CAt V cb (some ⟨b, o, none⟩) n cap a t br) (hb : Byts V cb (some ⟨b, o, none⟩) (bi l)) (hn : l.length = n) (hm : n ≤ 900) (hcap : n ≤ cap) (hcm : cap ≤ 9223372036854775807) (ha : a < n) (E : Nat) (x : ByteArray) (hE : nmF (l.drop a) = E) (hE0 : 1 ≤ E) (hEn : E ≤ n - a) (hx : bs ((l.drop a).take E) = x) (k : Nat) (hkw : KwIs x k) (hk0 : 10 ≤ k ∧ k < 35) (hH : Heads V) (hT : TabAt V) (hTc : 1 < cb) :
  Calls Tryz.prog 47 #[.pointer (some ⟨cb, 0, none⟩)] V fun e V' => e = .returned (.bool true) ∧ Left V cb (some ⟨b, o, none⟩) n cap a (piAt ⟨k, E, 0, false⟩ a) false V' := by
 have HC := Lib.hid h
 have HY := Lib.hid hb
 have HLT := Lib.hid h.lt
 have hca : cap ≠ a := by omega
 have hac : a ≤ cap := by omega
 have han : (a : Int) ≤ (n : Int) := by omega
 obtain ⟨m, hma⟩ : ∃ m, n - a = m := ⟨_, rfl⟩
 obtain ⟨cc, hcc⟩ : ∃ cc, cap - a = cc := ⟨_, rfl⟩
 obtain ⟨r, hr⟩ : ∃ r, l.drop a = r := ⟨_, rfl⟩
 have hdl : r.length = m := by rw [← hr, List.length_drop, hn, hma]
 have hmc : m ≤ cc := by omega
 have hm9 : m ≤ 900 := by omega
 have HA9 : Hid (a ≤ 900) := by show _ ≤ _; omega
 have HR : Hid (∀ W, Below cb V W → Byts W cb (some ⟨b, o + a, none⟩) (bi r)) := fun W hw => by
  rw [← hr]
  exact (HY.out.below (B' := cb) hw (Nat.le_refl _)).dropB (by omega) a
 have HYQ : ∀ q, Byts (V.drewN q) cb (some ⟨b, o + a, none⟩) (bi r) := fun q => HR.out _ (below_drewN (Below.refl _ _) q)
 have HO : Hid (∀ q, Calls Tryz.prog 70 #[.slice (some ⟨b, o + a, none⟩) m cc] (V.drewN q) fun e w' => e = .returned (.int .i64 (E : Int)) ∧ ∃ k, w' = (V.drewN q).drewN k) := fun q =>
  nameSize_run (some ⟨b, o + a, none⟩) m cc _ r (V.drewN q) cb (HYQ q) hdl hm9 hmc (fun k h1 h2 => hH k h1 h2) (by rw [← hr]; exact hE)
 have hE1 : ((E : Int) == 0) = false := beq_eq_false_iff_ne.2 (by omega)
 obtain ⟨s, hs⟩ : ∃ s, a + E = s := ⟨_, rfl⟩
 have hsum : (a : Int) + (E : Int) = (s : Int) := by omega
 have hsz : s - a = E := by omega
 have has : a ≤ s := by omega
 have hsn : s ≤ n := by omega
 have hsc : s ≤ cap := by omega
 have hs9 : s ≤ 900 := by omega
 have HK : Hid (∀ W, Below cb V W → ∀ q, Calls Tryz.prog 71 #[.string x] (W.drewN q) fun e w' => e = .returned (.int .i64 (k : Int)) ∧ w' = W.drewN q) := fun W hw q =>
  (Keyword_run x _ (W.drewN q) (fun k hk => (hw.cell (p := ⟨1, k, none⟩) hTc).trans (hT k hk)) hkw).mono fun e w' ⟨h1, h2⟩ => ⟨h1, h2.symm⟩
 have HCV : Hid (∀ W, Below cb V W → ∀ q, (convert 22 9 (.slice (some ⟨b, o + a, none⟩) E cc)).run Tryz.prog (W.drewN q) = .ok (.string x) (W.drewN q)) := fun W hw q => by
  have h1 := ((HR.out W hw).keep (w' := W.drewN q) fun _ _ _ => rfl).take E
  rw [bi_take] at h1
  have h2 := conv_bytes h1 E cc (by rw [bi_length, List.length_take, hdl]; omega)
  rw [bi_str, ← hr, hx] at h2
  exact h2
 have HE9 : Hid (E ≤ 900) := by show _ ≤ _; omega
 have hk1 : ((k : Int) == 0) = false := beq_eq_false_iff_ne.2 (by omega)
 obtain ⟨c0, c1, c2, c3, c4, c5, c6, c7, f2, f3, f4, f5, f6, f7⟩ := h
 clear hb hcm hn hE hH HYQ HR hr hdl hs hx hkw hT hTc hk0
 go_enter Tryz.func47, Tryz.ntmps47
 go_wp2_with fail
 go_quiet (first | (go_at_call 70; refine Calls.quiet_of (HO.out _)) | fail)
 have HB1 : Hid (Below cb V (V.drewN nq)) := below_drewN (Below.refl _ _) nq
 have HC1 := Lib.hid (HC.out.below (below_drewN (Below.refl _ V) nq))
 clear c0 c1 c2 c3 c4 c5 c6 c7 f2 f3 f4 f5 f6 f7
 generalize V.drewN nq = W at *
 have hcv := HCV.out _ HB1.out
 have HK2 := Lib.hid (HK.out _ HB1.out)
 obtain ⟨c0, c1, c2, c3, c4, c5, c6, c7, f2, f3, f4, f5, f6, f7⟩ := HC1.out
 go_wp2_with fail
 go_quiet (first | (go_at_call 71; refine Calls.quiet_of_same (HK2.out _)) | fail)
 have HB2 := Lib.hid (below_drewN HB1.out nq)
 have HC2 := Lib.hid (HC1.out.below (below_drewN (Below.refl _ W) nq))
 clear c0 c1 c2 c3 c4 c5 c6 c7 f2 f3 f4 f5 f6 f7 hcv HK2 HC1 HB1
 generalize W.drewN nq = W2 at *
 go_wp2_with fail
 refine (take_run W2 cb _ n cap a t br HC2.out k E 0 (by have := HA9.out; omega) (by have := HE9.out; omega)).mono ?_
 rintro e W3 ⟨rfl, hC3, hB3⟩
 have HL : Hid (Left V cb (some ⟨b, o, none⟩) n cap a (piAt ⟨k, E, 0, false⟩ a) false W3) := ⟨hC3, HB2.out.trans hB3⟩
 clear hC3 hB3
 go_wp2_with fail
 go_ret
 exact ⟨rfl, HL.out⟩
end Go.Proofs.YtgkhjeefcflmcaaGreatDoor
namespace Go.Proofs.YtgkhjeefcflmcaaGreatDoor
open Go.RowKit Go.Sort
set_option linter.unusedSimpArgs false
set_option linter.unusedVariables false
set_option maxRecDepth 100000 in
set_option maxHeartbeats 8000000 in
theorem literal_noP (V : World) (cb b o n cap a : Nat) (l : List UInt8) (t : Tk) (br : Bool) (h : CAt V cb (some ⟨b, o, none⟩) n cap a t br) (hb : Byts V cb (some ⟨b, o, none⟩) (bi l)) (hn : l.length = n) (hm : n ≤ 900) (hcap : n ≤ cap) (hcm : cap ≤ 9223372036854775807) (ha : a < n) (k e : Int) (er : Value) (HS : Hid (∀ W, Below cb V W → Calls Tryz.prog 49 #[.slice (some ⟨b, o, none⟩) n cap, .int .i64 (a : Int)] W fun e w' => e = .returned (.tuple #[.int .i64 k, .int .i64 0, er]) ∧ Below W.heap.size W w'))  :
  Calls Tryz.prog 48 #[.pointer (some ⟨cb, 0, none⟩), .func (.func 49) #[] #[]] V fun e V' => e = .returned (.bool false) ∧ Left V cb (some ⟨b, o, none⟩) n cap a t br V' := by
 have HC := Lib.hid h
 have HLT := Lib.hid h.lt
 have HA9 : Hid (a ≤ 900 ∧ n ≤ 900) := by show _ ∧ _; omega
 have HBV : Hid (Below cb V V.drew) := (Below.refl _ _).drew
 have HSD := Lib.hid (HS.out _ HBV.out)
 have HZ : Hid (V.drew.cell? ⟨cb, 0, none⟩ = some (.slice (some ⟨b, o, none⟩) n cap) ∧ V.drew.cell? ⟨cb, 1, none⟩ = some (.int .i64 (a : Int))) := ⟨h.c0, h.c1⟩
 obtain ⟨c0, c1, c2, c3, c4, c5, c6, c7, f2, f3, f4, f5, f6, f7⟩ := h
 clear hb hcm hn HS
 go_enter Tryz.func48, Tryz.ntmps48
 go_wp2_with fail
 go_region_held3 (fun W => W.cell? ⟨cb, 0, none⟩ = some (.slice (some ⟨b, o, none⟩) n cap) ∧ W.cell? ⟨cb, 1, none⟩ = some (.int .i64 (a : Int))) (first | exact HZ.out | exact HZ2.out)
  (first | (go_at_call 49; refine HSD.out.mono ?_; rintro e W ⟨rfl, hw⟩; have HB1 : Hid (Below cb V W) := HBV.out.trans (hw.mono (by have := HLT.out; have := HBV.out.size; omega)); have HC1 : Hid (CAt W cb (some ⟨b, o, none⟩) n cap a t br) := (HC.out.below (Below.refl _ V).drew).below hw; have HZ2 : Hid (W.cell? ⟨cb, 0, none⟩ = some (.slice (some ⟨b, o, none⟩) n cap) ∧ W.cell? ⟨cb, 1, none⟩ = some (.int .i64 (a : Int))) := ⟨HC1.out.c0, HC1.out.c1⟩; clear hw HSD) | fail)
 go_wp2_with fail
 go_ret
 exact ⟨rfl, HC1.out, HB1.out⟩
set_option maxRecDepth 100000 in
set_option maxHeartbeats 8000000 in
theorem literal_okP (V : World) (cb b o n cap a : Nat) (l : List UInt8) (t : Tk) (br : Bool) (h : CAt V cb (some ⟨b, o, none⟩) n cap a t br) (hb : Byts V cb (some ⟨b, o, none⟩) (bi l)) (hn : l.length = n) (hm : n ≤ 900) (hcap : n ≤ cap) (hcm : cap ≤ 9223372036854775807) (ha : a < n) (k s : Nat) (HS : Hid (∀ W, Below cb V W → Calls Tryz.prog 49 #[.slice (some ⟨b, o, none⟩) n cap, .int .i64 (a : Int)] W fun e w' => e = .returned (.tuple #[.int .i64 (k : Int), .int .i64 (s : Int), .nilIface]) ∧ Below W.heap.size W w')) (hs : 1 ≤ s) (hs9 : s ≤ 900) (hE : ErrType V) (hEc : 0 < cb) :
  Calls Tryz.prog 48 #[.pointer (some ⟨cb, 0, none⟩), .func (.func 49) #[] #[]] V fun e V' => e = .returned (.bool true) ∧ Left V cb (some ⟨b, o, none⟩) n cap a (piAt ⟨k, s, 0, false⟩ a) false V' := by
 have HC := Lib.hid h
 have HLT := Lib.hid h.lt
 have HA9 : Hid (a ≤ 900 ∧ n ≤ 900) := by show _ ∧ _; omega
 have HBV : Hid (Below cb V V.drew) := (Below.refl _ _).drew
 have HSD := Lib.hid (HS.out _ HBV.out)
 have hs1 : ((s : Int) == 0) = false := beq_eq_false_iff_ne.2 (by omega)
 have HER : Hid (∀ W, Below cb V W → Calls Tryz.prog 72 #[.nilIface] W fun ev w' => ev = .returned (.int .i64 0) ∧ Below W.heap.size W w') := fun W hw => errno_run 0 W (hE.below hw hEc)
 have HZ : Hid (V.drew.cell? ⟨cb, 0, none⟩ = some (.slice (some ⟨b, o, none⟩) n cap) ∧ V.drew.cell? ⟨cb, 1, none⟩ = some (.int .i64 (a : Int))) := ⟨h.c0, h.c1⟩
 obtain ⟨c0, c1, c2, c3, c4, c5, c6, c7, f2, f3, f4, f5, f6, f7⟩ := h
 clear hb hcm hn HS
 go_enter Tryz.func48, Tryz.ntmps48
 go_wp2_with fail
 go_region_held3 (fun W => W.cell? ⟨cb, 0, none⟩ = some (.slice (some ⟨b, o, none⟩) n cap) ∧ W.cell? ⟨cb, 1, none⟩ = some (.int .i64 (a : Int))) (first | exact HZ.out | exact HZ2.out)
  (first | (go_at_call 49; refine HSD.out.mono ?_; rintro e W ⟨rfl, hw⟩; have HB1 : Hid (Below cb V W) := HBV.out.trans (hw.mono (by have := HLT.out; have := HBV.out.size; omega)); have HC1 : Hid (CAt W cb (some ⟨b, o, none⟩) n cap a t br) := (HC.out.below (Below.refl _ V).drew).below hw; have HZ2 : Hid (W.cell? ⟨cb, 0, none⟩ = some (.slice (some ⟨b, o, none⟩) n cap) ∧ W.cell? ⟨cb, 1, none⟩ = some (.int .i64 (a : Int))) := ⟨HC1.out.c0, HC1.out.c1⟩; clear hw HSD) | fail)
 go_wp2_with fail
 refine (HER.out _ HB1.out).mono ?_
 rintro e W2 ⟨rfl, hw2⟩
 have HB2 := Lib.hid (HB1.out.trans (hw2.mono (by have := HC1.out.lt; omega)))
 have HC2 := Lib.hid (HC1.out.below hw2)
 clear hw2 HER HC1 HB1
 go_wp2_with fail
 refine (take_run W2 cb _ n cap a t br HC2.out k s 0 (by have := HA9.out; omega) (by omega)).mono ?_
 rintro e W3 ⟨rfl, hC3, hB3⟩
 have HL : Hid (Left V cb (some ⟨b, o, none⟩) n cap a (piAt ⟨k, s, 0, false⟩ a) false W3) := ⟨hC3, HB2.out.trans hB3⟩
 clear hC3 hB3
 go_wp2_with fail
 go_ret
 exact ⟨rfl, HL.out⟩
set_option maxRecDepth 100000 in
set_option maxHeartbeats 8000000 in
theorem literal_badP (V : World) (cb b o n cap a : Nat) (l : List UInt8) (t : Tk) (br : Bool) (h : CAt V cb (some ⟨b, o, none⟩) n cap a t br) (hb : Byts V cb (some ⟨b, o, none⟩) (bi l)) (hn : l.length = n) (hm : n ≤ 900) (hcap : n ≤ cap) (hcm : cap ≤ 9223372036854775807) (ha : a < n) (k : Int) (s ee : Nat) (HS : Hid (∀ W, Below cb V W → Calls Tryz.prog 49 #[.slice (some ⟨b, o, none⟩) n cap, .int .i64 (a : Int)] W fun e w' => e = .returned (.tuple #[.int .i64 k, .int .i64 (s : Int), .iface 35 (.int .i64 (ee : Int))]) ∧ Below W.heap.size W w')) (hs : 1 ≤ s) (hs9 : s ≤ 900) (he : ee ≠ 0) (hE : ErrType V) (hEc : 0 < cb) :
  Calls Tryz.prog 48 #[.pointer (some ⟨cb, 0, none⟩), .func (.func 49) #[] #[]] V fun e V' => e = .returned (.bool true) ∧ Left V cb (some ⟨b, o, none⟩) n cap a (piAt ⟨6, s, ee, false⟩ a) false V' := by
 have HC := Lib.hid h
 have HLT := Lib.hid h.lt
 have HA9 : Hid (a ≤ 900 ∧ n ≤ 900) := by show _ ∧ _; omega
 have HBV : Hid (Below cb V V.drew) := (Below.refl _ _).drew
 have HSD := Lib.hid (HS.out _ HBV.out)
 have hs1 : ((s : Int) == 0) = false := beq_eq_false_iff_ne.2 (by omega)
 have HER : Hid (∀ W, Below cb V W → Calls Tryz.prog 72 #[.iface 35 (.int .i64 (ee : Int))] W fun ev w' => ev = .returned (.int .i64 (ee : Int)) ∧ Below W.heap.size W w') := fun W hw => by
  have := errno_run ee W (hE.below hw hEc)
  unfold errV at this
  rw [if_neg he] at this
  exact this
 have HZ : Hid (V.drew.cell? ⟨cb, 0, none⟩ = some (.slice (some ⟨b, o, none⟩) n cap) ∧ V.drew.cell? ⟨cb, 1, none⟩ = some (.int .i64 (a : Int))) := ⟨h.c0, h.c1⟩
 obtain ⟨c0, c1, c2, c3, c4, c5, c6, c7, f2, f3, f4, f5, f6, f7⟩ := h
 clear hb hcm hn HS
 go_enter Tryz.func48, Tryz.ntmps48
 go_wp2_with fail
 go_region_held3 (fun W => W.cell? ⟨cb, 0, none⟩ = some (.slice (some ⟨b, o, none⟩) n cap) ∧ W.cell? ⟨cb, 1, none⟩ = some (.int .i64 (a : Int))) (first | exact HZ.out | exact HZ2.out)
  (first | (go_at_call 49; refine HSD.out.mono ?_; rintro e W ⟨rfl, hw⟩; have HB1 : Hid (Below cb V W) := HBV.out.trans (hw.mono (by have := HLT.out; have := HBV.out.size; omega)); have HC1 : Hid (CAt W cb (some ⟨b, o, none⟩) n cap a t br) := (HC.out.below (Below.refl _ V).drew).below hw; have HZ2 : Hid (W.cell? ⟨cb, 0, none⟩ = some (.slice (some ⟨b, o, none⟩) n cap) ∧ W.cell? ⟨cb, 1, none⟩ = some (.int .i64 (a : Int))) := ⟨HC1.out.c0, HC1.out.c1⟩; clear hw HSD) | fail)
 go_wp2_with fail
 refine (HER.out _ HB1.out).mono ?_
 rintro e W2 ⟨rfl, hw2⟩
 have HB2 := Lib.hid (HB1.out.trans (hw2.mono (by have := HC1.out.lt; omega)))
 have HC2 := Lib.hid (HC1.out.below hw2)
 clear hw2 HER HC1 HB1
 go_wp2_with fail
 refine (take_run W2 cb _ n cap a t br HC2.out 6 s ee (by have := HA9.out; omega) (by omega)).mono ?_
 rintro e W3 ⟨rfl, hC3, hB3⟩
 have HL : Hid (Left V cb (some ⟨b, o, none⟩) n cap a (piAt ⟨6, s, ee, false⟩ a) false W3) := ⟨hC3, HB2.out.trans hB3⟩
 clear hC3 hB3
 go_wp2_with fail
 go_ret
 exact ⟨rfl, HL.out⟩
set_option maxRecDepth 100000 in
set_option maxHeartbeats 8000000 in
theorem literal_noQ (V : World) (cb b o n cap a : Nat) (l : List UInt8) (t : Tk) (br : Bool) (h : CAt V cb (some ⟨b, o, none⟩) n cap a t br) (hb : Byts V cb (some ⟨b, o, none⟩) (bi l)) (hn : l.length = n) (hm : n ≤ 900) (hcap : n ≤ cap) (hcm : cap ≤ 9223372036854775807) (ha : a < n) (k e : Int) (er : Value) (HS : Hid (∀ W, Below cb V W → Calls Tryz.prog 50 #[.slice (some ⟨b, o, none⟩) n cap, .int .i64 (a : Int)] W fun e w' => e = .returned (.tuple #[.int .i64 k, .int .i64 0, er]) ∧ Below W.heap.size W w'))  :
  Calls Tryz.prog 48 #[.pointer (some ⟨cb, 0, none⟩), .func (.func 50) #[] #[]] V fun e V' => e = .returned (.bool false) ∧ Left V cb (some ⟨b, o, none⟩) n cap a t br V' := by
 have HC := Lib.hid h
 have HLT := Lib.hid h.lt
 have HA9 : Hid (a ≤ 900 ∧ n ≤ 900) := by show _ ∧ _; omega
 have HBV : Hid (Below cb V V.drew) := (Below.refl _ _).drew
 have HSD := Lib.hid (HS.out _ HBV.out)
 have HZ : Hid (V.drew.cell? ⟨cb, 0, none⟩ = some (.slice (some ⟨b, o, none⟩) n cap) ∧ V.drew.cell? ⟨cb, 1, none⟩ = some (.int .i64 (a : Int))) := ⟨h.c0, h.c1⟩
 obtain ⟨c0, c1, c2, c3, c4, c5, c6, c7, f2, f3, f4, f5, f6, f7⟩ := h
 clear hb hcm hn HS
 go_enter Tryz.func48, Tryz.ntmps48
 go_wp2_with fail
 go_region_held3 (fun W => W.cell? ⟨cb, 0, none⟩ = some (.slice (some ⟨b, o, none⟩) n cap) ∧ W.cell? ⟨cb, 1, none⟩ = some (.int .i64 (a : Int))) (first | exact HZ.out | exact HZ2.out)
  (first | (go_at_call 50; refine HSD.out.mono ?_; rintro e W ⟨rfl, hw⟩; have HB1 : Hid (Below cb V W) := HBV.out.trans (hw.mono (by have := HLT.out; have := HBV.out.size; omega)); have HC1 : Hid (CAt W cb (some ⟨b, o, none⟩) n cap a t br) := (HC.out.below (Below.refl _ V).drew).below hw; have HZ2 : Hid (W.cell? ⟨cb, 0, none⟩ = some (.slice (some ⟨b, o, none⟩) n cap) ∧ W.cell? ⟨cb, 1, none⟩ = some (.int .i64 (a : Int))) := ⟨HC1.out.c0, HC1.out.c1⟩; clear hw HSD) | fail)
 go_wp2_with fail
 go_ret
 exact ⟨rfl, HC1.out, HB1.out⟩
set_option maxRecDepth 100000 in
set_option maxHeartbeats 8000000 in
theorem literal_okQ (V : World) (cb b o n cap a : Nat) (l : List UInt8) (t : Tk) (br : Bool) (h : CAt V cb (some ⟨b, o, none⟩) n cap a t br) (hb : Byts V cb (some ⟨b, o, none⟩) (bi l)) (hn : l.length = n) (hm : n ≤ 900) (hcap : n ≤ cap) (hcm : cap ≤ 9223372036854775807) (ha : a < n) (k s : Nat) (HS : Hid (∀ W, Below cb V W → Calls Tryz.prog 50 #[.slice (some ⟨b, o, none⟩) n cap, .int .i64 (a : Int)] W fun e w' => e = .returned (.tuple #[.int .i64 (k : Int), .int .i64 (s : Int), .nilIface]) ∧ Below W.heap.size W w')) (hs : 1 ≤ s) (hs9 : s ≤ 900) (hE : ErrType V) (hEc : 0 < cb) :
  Calls Tryz.prog 48 #[.pointer (some ⟨cb, 0, none⟩), .func (.func 50) #[] #[]] V fun e V' => e = .returned (.bool true) ∧ Left V cb (some ⟨b, o, none⟩) n cap a (piAt ⟨k, s, 0, false⟩ a) false V' := by
 have HC := Lib.hid h
 have HLT := Lib.hid h.lt
 have HA9 : Hid (a ≤ 900 ∧ n ≤ 900) := by show _ ∧ _; omega
 have HBV : Hid (Below cb V V.drew) := (Below.refl _ _).drew
 have HSD := Lib.hid (HS.out _ HBV.out)
 have hs1 : ((s : Int) == 0) = false := beq_eq_false_iff_ne.2 (by omega)
 have HER : Hid (∀ W, Below cb V W → Calls Tryz.prog 72 #[.nilIface] W fun ev w' => ev = .returned (.int .i64 0) ∧ Below W.heap.size W w') := fun W hw => errno_run 0 W (hE.below hw hEc)
 have HZ : Hid (V.drew.cell? ⟨cb, 0, none⟩ = some (.slice (some ⟨b, o, none⟩) n cap) ∧ V.drew.cell? ⟨cb, 1, none⟩ = some (.int .i64 (a : Int))) := ⟨h.c0, h.c1⟩
 obtain ⟨c0, c1, c2, c3, c4, c5, c6, c7, f2, f3, f4, f5, f6, f7⟩ := h
 clear hb hcm hn HS
 go_enter Tryz.func48, Tryz.ntmps48
 go_wp2_with fail
 go_region_held3 (fun W => W.cell? ⟨cb, 0, none⟩ = some (.slice (some ⟨b, o, none⟩) n cap) ∧ W.cell? ⟨cb, 1, none⟩ = some (.int .i64 (a : Int))) (first | exact HZ.out | exact HZ2.out)
  (first | (go_at_call 50; refine HSD.out.mono ?_; rintro e W ⟨rfl, hw⟩; have HB1 : Hid (Below cb V W) := HBV.out.trans (hw.mono (by have := HLT.out; have := HBV.out.size; omega)); have HC1 : Hid (CAt W cb (some ⟨b, o, none⟩) n cap a t br) := (HC.out.below (Below.refl _ V).drew).below hw; have HZ2 : Hid (W.cell? ⟨cb, 0, none⟩ = some (.slice (some ⟨b, o, none⟩) n cap) ∧ W.cell? ⟨cb, 1, none⟩ = some (.int .i64 (a : Int))) := ⟨HC1.out.c0, HC1.out.c1⟩; clear hw HSD) | fail)
 go_wp2_with fail
 refine (HER.out _ HB1.out).mono ?_
 rintro e W2 ⟨rfl, hw2⟩
 have HB2 := Lib.hid (HB1.out.trans (hw2.mono (by have := HC1.out.lt; omega)))
 have HC2 := Lib.hid (HC1.out.below hw2)
 clear hw2 HER HC1 HB1
 go_wp2_with fail
 refine (take_run W2 cb _ n cap a t br HC2.out k s 0 (by have := HA9.out; omega) (by omega)).mono ?_
 rintro e W3 ⟨rfl, hC3, hB3⟩
 have HL : Hid (Left V cb (some ⟨b, o, none⟩) n cap a (piAt ⟨k, s, 0, false⟩ a) false W3) := ⟨hC3, HB2.out.trans hB3⟩
 clear hC3 hB3
 go_wp2_with fail
 go_ret
 exact ⟨rfl, HL.out⟩
set_option maxRecDepth 100000 in
set_option maxHeartbeats 8000000 in
theorem literal_badQ (V : World) (cb b o n cap a : Nat) (l : List UInt8) (t : Tk) (br : Bool) (h : CAt V cb (some ⟨b, o, none⟩) n cap a t br) (hb : Byts V cb (some ⟨b, o, none⟩) (bi l)) (hn : l.length = n) (hm : n ≤ 900) (hcap : n ≤ cap) (hcm : cap ≤ 9223372036854775807) (ha : a < n) (k : Int) (s ee : Nat) (HS : Hid (∀ W, Below cb V W → Calls Tryz.prog 50 #[.slice (some ⟨b, o, none⟩) n cap, .int .i64 (a : Int)] W fun e w' => e = .returned (.tuple #[.int .i64 k, .int .i64 (s : Int), .iface 35 (.int .i64 (ee : Int))]) ∧ Below W.heap.size W w')) (hs : 1 ≤ s) (hs9 : s ≤ 900) (he : ee ≠ 0) (hE : ErrType V) (hEc : 0 < cb) :
  Calls Tryz.prog 48 #[.pointer (some ⟨cb, 0, none⟩), .func (.func 50) #[] #[]] V fun e V' => e = .returned (.bool true) ∧ Left V cb (some ⟨b, o, none⟩) n cap a (piAt ⟨6, s, ee, false⟩ a) false V' := by
 have HC := Lib.hid h
 have HLT := Lib.hid h.lt
 have HA9 : Hid (a ≤ 900 ∧ n ≤ 900) := by show _ ∧ _; omega
 have HBV : Hid (Below cb V V.drew) := (Below.refl _ _).drew
 have HSD := Lib.hid (HS.out _ HBV.out)
 have hs1 : ((s : Int) == 0) = false := beq_eq_false_iff_ne.2 (by omega)
 have HER : Hid (∀ W, Below cb V W → Calls Tryz.prog 72 #[.iface 35 (.int .i64 (ee : Int))] W fun ev w' => ev = .returned (.int .i64 (ee : Int)) ∧ Below W.heap.size W w') := fun W hw => by
  have := errno_run ee W (hE.below hw hEc)
  unfold errV at this
  rw [if_neg he] at this
  exact this
 have HZ : Hid (V.drew.cell? ⟨cb, 0, none⟩ = some (.slice (some ⟨b, o, none⟩) n cap) ∧ V.drew.cell? ⟨cb, 1, none⟩ = some (.int .i64 (a : Int))) := ⟨h.c0, h.c1⟩
 obtain ⟨c0, c1, c2, c3, c4, c5, c6, c7, f2, f3, f4, f5, f6, f7⟩ := h
 clear hb hcm hn HS
 go_enter Tryz.func48, Tryz.ntmps48
 go_wp2_with fail
 go_region_held3 (fun W => W.cell? ⟨cb, 0, none⟩ = some (.slice (some ⟨b, o, none⟩) n cap) ∧ W.cell? ⟨cb, 1, none⟩ = some (.int .i64 (a : Int))) (first | exact HZ.out | exact HZ2.out)
  (first | (go_at_call 50; refine HSD.out.mono ?_; rintro e W ⟨rfl, hw⟩; have HB1 : Hid (Below cb V W) := HBV.out.trans (hw.mono (by have := HLT.out; have := HBV.out.size; omega)); have HC1 : Hid (CAt W cb (some ⟨b, o, none⟩) n cap a t br) := (HC.out.below (Below.refl _ V).drew).below hw; have HZ2 : Hid (W.cell? ⟨cb, 0, none⟩ = some (.slice (some ⟨b, o, none⟩) n cap) ∧ W.cell? ⟨cb, 1, none⟩ = some (.int .i64 (a : Int))) := ⟨HC1.out.c0, HC1.out.c1⟩; clear hw HSD) | fail)
 go_wp2_with fail
 refine (HER.out _ HB1.out).mono ?_
 rintro e W2 ⟨rfl, hw2⟩
 have HB2 := Lib.hid (HB1.out.trans (hw2.mono (by have := HC1.out.lt; omega)))
 have HC2 := Lib.hid (HC1.out.below hw2)
 clear hw2 HER HC1 HB1
 go_wp2_with fail
 refine (take_run W2 cb _ n cap a t br HC2.out 6 s ee (by have := HA9.out; omega) (by omega)).mono ?_
 rintro e W3 ⟨rfl, hC3, hB3⟩
 have HL : Hid (Left V cb (some ⟨b, o, none⟩) n cap a (piAt ⟨6, s, ee, false⟩ a) false W3) := ⟨hC3, HB2.out.trans hB3⟩
 clear hC3 hB3
 go_wp2_with fail
 go_ret
 exact ⟨rfl, HL.out⟩
end Go.Proofs.YtgkhjeefcflmcaaGreatDoor
