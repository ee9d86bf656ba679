/-
  Layer 11 (scan): upTo; the cursor's blanks, lineFeed, general, comment.
-/
import Derived.Test.YtgkhjeefcflmcaaGreatDoorMt34
import Derived.Test.YtgkhjeefcflmcaaGreatDoorMt33
import Derived.Test.YtgkhjeefcflmcaaGreatDoorMt23
import Derived.Test.YtgkhjeefcflmcaaGreatDoorMt30
import Derived.Test.YtgkhjeefcflmcaaGreatDoorMt22
namespace Go.Proofs.YtgkhjeefcflmcaaGreatDoor
open Go.RowKit Go.Sort
set_option linter.unusedSimpArgs false
set_option linter.unusedVariables false
set_option maxRecDepth 100000 in
set_option maxHeartbeats 8000000 in
theorem upTo_run (b o n c : Nat) (l : List UInt8) (w : World) (B : Nat) (hb : Byts w B (some ⟨b, o, none⟩) (bi l)) (hn : l.length = n) (hm : n ≤ 900) :
  Calls Tryz.prog 68 #[.slice (some ⟨b, o, none⟩) n c, .int .u8 10] w fun e w' => e = .returned (.int .i64 (lineN l : Int)) ∧ w' = w := by
 have hi := idxB_run (some ⟨b, o, none⟩) n c l w B hb hn (fun e => by cases e)
 rw [idxB_line] at hi
 have hl := lineN_le l
 by_cases h : lineN l = l.length
 ·rw [if_pos h] at hi
  rw [h, hn]
  have HI := Lib.hid hi
  clear hi h hb hl
  go_enter Tryz.func68, Tryz.ntmps68
  go_wp2_with fail
  refine HI.out.mono ?_
  rintro e w1 ⟨rfl, rfl⟩
  go_wp2_with fail
  go_ret
  exact ⟨rfl, rfl⟩
 ·rw [if_neg h] at hi
  have HI := Lib.hid hi
  obtain ⟨k, hk⟩ : ∃ k, lineN l = k := ⟨_, rfl⟩
  rw [hk] at HI ⊢
  have hk0 : (k : Int) ≥ 0 := by omega
  clear hi h hb hl hk
  go_enter Tryz.func68, Tryz.ntmps68
  go_wp2_with fail
  refine HI.out.mono ?_
  rintro e w1 ⟨rfl, rfl⟩
  go_wp2_with fail
  go_ret
  exact ⟨rfl, rfl⟩
set_option maxRecDepth 100000 in
set_option maxHeartbeats 8000000 in
theorem blanks_run (V : World) (cb b o n cap a : Nat) (l : List UInt8) (t : Tk) (br : Bool) (h : CAt V cb (some ⟨b, o, none⟩) n cap a t br) (hb : Byts V cb (some ⟨b, o, none⟩) (bi l)) (hn : l.length = n) (hm : n ≤ 900) (hcap : n ≤ cap) (hcm : cap ≤ 9223372036854775807) (ha : a < n) (k : Nat) (hk : Hid (blkN (l.drop a) = k)) :
  Calls Tryz.prog 44 #[.pointer (some ⟨cb, 0, none⟩)] V fun e V' => e = .returned (.bool (decide (0 < k))) ∧ Left V cb (some ⟨b, o, none⟩) n cap a (piAt ⟨0, k, 0, false⟩ a) false V' := by
 have HC := Lib.hid h
 have HY := Lib.hid hb
 have hlt := h.lt
 have hca : cap ≠ a := by omega
 have hac : a ≤ cap := by omega
 have han : (a : Int) ≤ (n : Int) := by omega
 obtain ⟨m, hma⟩ : ∃ m, n - a = m := ⟨_, rfl⟩
 obtain ⟨cc, hcc⟩ : ∃ cc, cap - a = cc := ⟨_, rfl⟩
 have hdl : (l.drop a).length = m := by rw [List.length_drop, hn, hma]
 have hkm : k ≤ m := by rw [← hk.out, ← hdl]; exact blkN_le _
 obtain ⟨q, hqm⟩ : ∃ q, m - k = q := ⟨_, rfl⟩
 have hqs : (m : Int) - (q : Int) = (k : Int) := by omega
 have HT : Hid (∀ W, Below cb V W → Calls Tryz.prog 65 #[.slice (some ⟨b, o + a, none⟩) m cc, .string ⟨#[32, 9, 13]⟩] W fun e w' => ∃ A' c', e = .returned (.slice A' q c') ∧ Below W.heap.size W w') := fun W hw => by
  have := trimL_run b (o + a) m cc (l.drop a) W cb ((HY.out.below (B' := cb) hw (Nat.le_refl _)).dropB (by omega) a) hdl (by omega) (by omega)
  rw [hk.out, hqm] at this
  exact this
 have HLT := Lib.hid hlt
 have HCM : Hid (m ≤ 900 ∧ k ≤ 900 ∧ a ≤ 900) := ⟨by omega, by omega, by omega⟩
 obtain ⟨c0, c1, c2, c3, c4, c5, c6, c7, f2, f3, f4, f5, f6, f7⟩ := h
 clear hb hk hdl hlt hqm hkm hcm
 go_enter Tryz.func44, Tryz.ntmps44
 go_wp2_with fail
 go_quiet (fail)
 have HB1 : Hid (Below cb V (V.drewN nq)) := below_drewN (Below.refl _ _) nq
 have HC1 := Lib.hid (HC.out.below (below_drewN (Below.refl _ V) nq))
 clear c0 c1 c2 c3 c4 c5 c6 c7 f2 f3 f4 f5 f6 f7
 generalize V.drewN nq = W at *
 go_wp2_with fail
 refine (HT.out _ HB1.out).mono ?_
 rintro e W2 ⟨A', c', rfl, hw2⟩
 have HB2 := Lib.hid (HB1.out.trans (hw2.mono (by have := HC1.out.lt; omega)))
 have HC2 := Lib.hid (HC1.out.below hw2)
 clear hw2 HT HC HC1 HB1
 go_wp2_with fail
 refine (take_run W2 cb _ n cap a t br HC2.out 0 k 0 (by have := HCM.out; omega) (by have := HCM.out; omega)).mono ?_
 rintro e W3 ⟨rfl, hC3, hB3⟩
 have HL : Hid (Left V cb (some ⟨b, o, none⟩) n cap a (piAt ⟨0, k, 0, false⟩ a) false W3) := ⟨hC3, HB2.out.trans hB3⟩
 clear hC3 hB3 HC2 HB2
 go_wp2_with fail
 go_ret
 exact ⟨by simp, HL.out⟩
set_option maxRecDepth 100000 in
set_option maxHeartbeats 8000000 in
theorem lineFeed_run (V : World) (cb b o n cap a : Nat) (l : List UInt8) (t : Tk) (br : Bool) (h : CAt V cb (some ⟨b, o, none⟩) n cap a t br) (hb : Byts V cb (some ⟨b, o, none⟩) (bi l)) (hn : l.length = n) (hm : n ≤ 900) (hcap : n ≤ cap) (hcm : cap ≤ 9223372036854775807) (ha : a < n) (c : UInt8) (hc : l[a]? = some c) (v : Bool) (hv : Hid (v = decide (c = 10))) :
  Calls Tryz.prog 46 #[.pointer (some ⟨cb, 0, none⟩)] V fun e V' => e = .returned (.bool v) ∧ Left V cb (some ⟨b, o, none⟩) n cap a (piAt ⟨0, 1, 0, true⟩ a) true V' := by
 have HC := Lib.hid h
 have HY := Lib.hid hb
 have hx0 : Hid (∀ W, Below cb V W → W.cell? ⟨b, o + a, none⟩ = some (.int .u8 (c.toNat : Int))) := fun W hw => byts_cell (HY.out.below (B' := cb) hw (Nat.le_refl _)) hc
 have haz : (a : Int) < (n : Int) := by omega
 have HA : Hid (a ≤ 900) := by show _ ≤ _; omega
 clear hb hc h HY hcm
 go_enter Tryz.func46, Tryz.ntmps46
 go_wp2_with fail
 refine (take_run V cb _ n cap a t br HC.out 0 1 0 (by have := HA.out; omega) (by omega)).mono ?_
 rintro e W ⟨rfl, hC, hB⟩
 have HB1 := Lib.hid hB
 have HC1 := Lib.hid hC
 obtain ⟨c0, c1, c2, c3, c4, c5, c6, c7, f2, f3, f4, f5, f6, f7⟩ := hC
 clear hB HC
 go_wp2_with fail
 have HB2 := Lib.hid (HB1.out.setCell (p := ⟨cb, 7, none⟩) (Nat.le_refl _) (.bool true))
 have HC2 : Hid (CAt (W.setCell ⟨cb, 7, none⟩ (.bool true)) cb (some ⟨b, o, none⟩) n cap a (piAt ⟨0, 1, 0, true⟩ a) true) := by
  show CAt _ _ _ _ _ _ ⟨((0 : Nat) : Int), (a : Int), ((a + 1 : Nat) : Int), false, ((0 : Nat) : Int)⟩ _
  constructor <;> go_simp
 clear c0 c1 c2 c3 c4 c5 c6 c7 f2 f3 f4 f5 f6 f7 HC1 HB1
 generalize W.setCell ⟨cb, 7, none⟩ (.bool true) = W2 at *
 have HL : Hid (∀ m, Left V cb (some ⟨b, o, none⟩) n cap a (piAt ⟨0, 1, 0, true⟩ a) true (W2.drewN m)) := fun m => ⟨HC2.out.below (below_drewN (Below.refl _ _) m), below_drewN HB2.out m⟩
 have hx := hx0.out _ HB2.out
 obtain ⟨c0, c1, c2, c3, c4, c5, c6, c7, f2, f3, f4, f5, f6, f7⟩ := HC2.out
 by_cases hq : c = 10
 ·subst hq
  have hx2 : W2.cell? ⟨b, o + a, none⟩ = some (.int .u8 10) := hx
  have hv2 : v = true := hv.out
  subst hv2
  clear hv hx hx0
  go_quiet (fail)
  go_wp2_with fail
  go_ret
  exact ⟨rfl, HL.out _⟩
 ·have e10 : ((c.toNat : Int) == 10) = false := eq_byte hq
  have hv2 : v = false := by rw [hv.out]; exact decide_eq_false hq
  subst hv2
  clear hv hq hx0
  generalize c.toNat = cn at *
  go_quiet (fail)
  go_wp2_with fail
  go_ret
  exact ⟨rfl, HL.out _⟩
def genP (m : Nat) (g : Nat × Bool × Bool) : Pc := if g.2.1 = true then ⟨0, g.1 + 2, 0, g.2.2⟩ else ⟨6, m + 2, 12, false⟩
set_option maxRecDepth 100000 in
set_option maxHeartbeats 8000000 in
theorem general_run (V : World) (cb n cap a m c' : Nat) (A : Option Addr) (p : Addr) (l : List UInt8) (t : Tk) (br : Bool) (h : CAt V cb A n cap a t br) (hb : Byts V cb (some p) (bi l)) (hn : l.length = m) (hm : m ≤ 900) (hmc : m ≤ c') (ha : a ≤ 900) (hml : Ml V) :
  Calls Tryz.prog 69 #[.pointer (some ⟨cb, 0, none⟩), .slice (some p) m c'] V fun e V' => e = .returned (.tuple #[]) ∧ Left V cb A n cap a (piAt (genP m (genF l)) a) (genP m (genF l)).b V' := by
 have HC := Lib.hid h
 have HY := Lib.hid hb
 have HLT := Lib.hid h.lt
 obtain ⟨mx, hmx⟩ := hml
 obtain ⟨T0, hT0⟩ : ∃ T0, V.alloc (.cells #[.int .u8 42, .int .u8 47] 5 (2, 3)) = T0 := ⟨_, rfl⟩
 have hB0 : Below cb V T0 := by rw [← hT0]; exact (Below.refl _ _).alloc (by have := HLT.out; omega) _
 have HI0 : Calls Tryz.prog 96 #[.slice (some p) m c', .slice (some ⟨V.heap.size, 0, none⟩) 2 2] T0 fun e w' => e = .returned (.int .i64 (Lib.index l [42, 47])) ∧ ∃ q, w' = T0.drewN q := by
  have hby := HY.out.below (B' := cb) hB0 (Nat.le_refl _)
  have := Tryz.bytes_Index_at p ⟨V.heap.size, 0, none⟩ m c' 2 2 (bi l) (bi [42, 47]) mx T0 (by rw [bi_length]; exact hn) rfl (bi_256 _) (bi_256 _) (fun i hi => by
   obtain ⟨b, o, e, _, _⟩ := hby.2 (by rw [bi_length]; omega)
   cases e
   exact byts_add hby hn i hi) (fun i hi => by
   rw [← hT0]
   match i, hi with
   | 0, _ =>
    show (V.alloc _).cell? ⟨V.heap.size, 0, none⟩ = _
    rw [World.cell?_alloc_mark]; rfl
   | 1, _ =>
    show (V.alloc _).cell? ⟨V.heap.size, 1, none⟩ = _
    rw [World.cell?_alloc_mark]; rfl) hmc (by omega) (by decide) (by
   rw [← hT0, World.cell?_alloc_lt _ _ ⟨3, 0, none⟩ (World.block_lt_of_cell? V _ hmx)]
   exact hmx)
  rw [bytesOf_bi, bytesOf_bi] at this
  exact this
 rw [idx_gen] at HI0
 have HC0 := Lib.hid (HC.out.keep (Below.alloc (Below.refl V.heap.size V) (Nat.le_refl _) (.cells #[.int .u8 42, .int .u8 47] 5 (2, 3))) HLT.out)
 rw [hT0] at HC0
 have HB0 := Lib.hid hB0
 have hcl := conv_lit V #[.int .u8 42, .int .u8 47] 2 2
 simp at hcl
 obtain ⟨⟨k, ed, ld⟩, hg⟩ : ∃ g, genF l = g := ⟨_, rfl⟩
 rw [hg] at HI0 ⊢
 have hle := genF_le l
 rw [hg, hn] at hle
 cases ed with
 | false =>
  rw [if_neg (by simp)] at HI0
  have HI := Lib.hid HI0
  have hmz : (2 : Int) + (m : Int) = ((m + 2 : Nat) : Int) := by omega
  obtain ⟨m2, hm2⟩ : ∃ m2, m + 2 = m2 := ⟨_, rfl⟩
  have HM2 : Hid (m2 ≤ 1000 ∧ a ≤ 900) := ⟨by omega, ha⟩
  rw [show genP m (k, false, ld) = ⟨6, m2, 12, false⟩ by rw [← hm2]; rfl]
  rw [hm2] at hmz
  clear HI0 h hb hn hmx hB0 hg hle HY HC
  go_enter Tryz.func69, Tryz.ntmps69
  go_wp2_with fail
  refine HI.out.mono ?_
  rintro e W ⟨rfl, q, rfl⟩
  have HB1 := Lib.hid (below_drewN HB0.out q)
  have HC1 := Lib.hid (HC0.out.below (below_drewN (Below.refl _ _) q))
  clear HI HC0 HB0
  clear hcl hT0
  generalize T0.drewN q = W at *
  go_wp2_with fail
  refine (take_run W cb A n cap a t br HC1.out 6 m2 12 (by have := HM2.out; omega) (by have := HM2.out; omega)).mono ?_
  rintro e W3 ⟨rfl, hC3, hB3⟩
  have HL : Hid (Left V cb A n cap a (piAt ⟨6, m2, 12, false⟩ a) false W3) := ⟨hC3, HB1.out.trans hB3⟩
  clear hC3 hB3
  go_wp2_with fail
  refine bodyPost_ret (results_none rfl _ _ _) rfl ?_
  exact ⟨rfl, HL.out⟩
 | true =>
  rw [if_pos rfl] at HI0
  have hk2 : 2 ≤ k := by have := genF_pos (l := l) (by rw [hg]); rw [hg] at this; exact this
  have hld : ld = decide (Lib.indexByte (l.take (k - 2)) 10 ≥ 0) := by have := gen_lined l (by rw [hg]); rw [hg] at this; exact this
  obtain ⟨z, hz⟩ : ∃ z, k - 2 = z := ⟨_, rfl⟩
  have hkz : ((k : Nat) : Int) - 2 = (z : Int) := by omega
  rw [hz] at hld
  rw [show (((k, true, ld) : Nat × Bool × Bool).1 : Int) - 2 = (z : Int) from hkz] at HI0
  have HI := Lib.hid HI0
  have hz0 : ¬ (z : Int) < 0 := by omega
  have hz1 : (2 : Int) + (z : Int) + 2 = ((k + 2 : Nat) : Int) := by omega
  have hz2 : (2 : Int) + (z : Int) = ((z + 2 : Nat) : Int) := by omega
  have hz3 : ((z + 2 : Nat) : Int) + 2 = ((k + 2 : Nat) : Int) := by omega
  obtain ⟨k2, hkk⟩ : ∃ k2, k + 2 = k2 := ⟨_, rfl⟩
  obtain ⟨z2, hzz⟩ : ∃ z2, z + 2 = z2 := ⟨_, rfl⟩
  have HM2 : Hid (k2 ≤ 1000 ∧ a ≤ 900) := ⟨by omega, ha⟩
  rw [show genP m (k, true, ld) = ⟨0, k2, 0, ld⟩ by rw [← hkk]; rfl]
  rw [hkk] at hz1 hz3
  rw [hzz] at hz2 hz3
  have hzm : (z : Int) ≤ (m : Int) := by omega
  have hzm2 : z ≤ m := by omega
  have hzc : z ≤ c' := by omega
  have hz9 : z2 ≤ 1000 := by omega
  have HX : Hid (∀ W, Below cb V W → Calls Tryz.prog 95 #[.slice (some p) z c', .int .u8 10] W fun e w' => e = .returned (.int .i64 (Lib.indexByte (l.take z) 10)) ∧ w' = W) := fun W hw => by
   have hby := (HY.out.below (B' := cb) hw (Nat.le_refl _)).take z
   rw [bi_take] at hby
   exact idxB_run (some p) z c' (l.take z) W cb hby (by rw [List.length_take, hn]; omega) (fun e => by cases e)
  obtain ⟨ix, hix⟩ : ∃ ix, Lib.indexByte (l.take z) 10 = ix := ⟨_, rfl⟩
  rw [hix] at HX hld
  clear HI0 h hb hn hmx hB0 hg hle HY HC hk2 hz hkz hkk hzz hix
  go_enter Tryz.func69, Tryz.ntmps69
  go_wp2_with fail
  refine HI.out.mono ?_
  rintro e W ⟨rfl, q, rfl⟩
  have HB1 := Lib.hid (below_drewN HB0.out q)
  have HC1 := Lib.hid (HC0.out.below (below_drewN (Below.refl _ _) q))
  clear HI HC0 HB0
  clear hcl hT0
  generalize T0.drewN q = W at *
  go_wp2_with fail
  refine (take_run W cb A n cap a t br HC1.out 0 k2 0 (by have := HM2.out; omega) (by have := HM2.out; omega)).mono ?_
  rintro e W3 ⟨rfl, hC3, hB3⟩
  have HB3 := Lib.hid (HB1.out.trans hB3)
  have HC3 := Lib.hid hC3
  obtain ⟨c0, c1, c2, c3, c4, c5, c6, c7, f2, f3, f4, f5, f6, f7⟩ := hC3
  clear hB3 HC1 HB1
  go_wp2_with fail
  refine (HX.out _ HB3.out).mono ?_
  rintro e W4 ⟨rfl, rfl⟩
  go_wp2_with fail
  go_end0
  refine ⟨rfl, ?_, HB3.out.setCell (p := ⟨cb, 7, none⟩) (Nat.le_refl _) _⟩
  rw [hld]
  show CAt _ _ _ _ _ _ ⟨((0 : Nat) : Int), (a : Int), ((a + k2 : Nat) : Int), false, ((0 : Nat) : Int)⟩ _
  constructor <;> go_simp
end Go.Proofs.YtgkhjeefcflmcaaGreatDoor
namespace Go.Proofs.YtgkhjeefcflmcaaGreatDoor
open Go.RowKit Go.Sort
set_option linter.unusedSimpArgs false
set_option linter.unusedVariables false
theorem cmt_twos {r : List UInt8} (h : cmtF r = none) : twoF 47 47 r = false ∧ twoF 47 42 r = false := by
 match r, h with
 | [], _ => exact ⟨rfl, rfl⟩
 | [_], _ => exact ⟨rfl, rfl⟩
 | p :: q :: t, h =>
  constructor
  ·show (p == 47 && q == 47) = false
   by_cases hp : p = 47
   ·subst hp
    by_cases hq : q = 47
    ·subst hq; cases h
    ·rw [show (q == 47) = false by simpa using hq, Bool.and_false]
   ·rw [show (p == 47) = false by simpa using hp, Bool.false_and]
  ·show (p == 47 && q == 42) = false
   by_cases hp : p = 47
   ·subst hp
    by_cases hq : q = 42
    ·subst hq; cases h
    ·rw [show (q == 42) = false by simpa using hq, Bool.and_false]
   ·rw [show (p == 47) = false by simpa using hp, Bool.false_and]
set_option maxRecDepth 100000 in
set_option maxHeartbeats 8000000 in
theorem comment_no (V : World) (cb b o n cap a : Nat) (l : List UInt8) (t : Tk) (br : Bool) (h : CAt V cb (some ⟨b, o, none⟩) n cap a t br) (hb : Byts V cb (some ⟨b, o, none⟩) (bi l)) (hn : l.length = n) (hm : n ≤ 900) (hcap : n ≤ cap) (hcm : cap ≤ 9223372036854775807) (ha : a < n) (hx : cmtF (l.drop a) = none) :
  Calls Tryz.prog 45 #[.pointer (some ⟨cb, 0, none⟩)] V fun e V' => e = .returned (.bool false) ∧ Left V cb (some ⟨b, o, none⟩) n cap a t br V' := by
 have HC := Lib.hid h
 have HY := Lib.hid hb
 have HLT := Lib.hid h.lt
 have hca : cap ≠ a := by omega
 have hac : a ≤ cap := by omega
 have han : (a : Int) ≤ (n : Int) := by omega
 obtain ⟨m, hma⟩ : ∃ m, n - a = m := ⟨_, rfl⟩
 obtain ⟨cc, hcc⟩ : ∃ cc, cap - a = cc := ⟨_, rfl⟩
 obtain ⟨r, hr⟩ : ∃ r, l.drop a = r := ⟨_, rfl⟩
 have hdl : r.length = m := by rw [← hr, List.length_drop, hn, hma]
 have hmc : m ≤ cc := by omega
 have hm9 : m ≤ 900 := by omega
 have HA9 : Hid (a ≤ 900) := by show _ ≤ _; omega
 have HR : Hid (∀ W, Below cb V W → Byts W cb (some ⟨b, o + a, none⟩) (bi r)) := fun W hw => by
  rw [← hr]
  exact (HY.out.below (B' := cb) hw (Nat.le_refl _)).dropB (by omega) a
 rw [hr] at hx
 obtain ⟨hp1, hp2⟩ := cmt_twos hx
 obtain ⟨c0, c1, c2, c3, c4, c5, c6, c7, f2, f3, f4, f5, f6, f7⟩ := h
 clear hb hcm hx hr
 go_enter Tryz.func45, Tryz.ntmps45
 go_wp2_with fail
 go_quiet (fail)
 have HB1 : Hid (Below cb V (V.drewN nq)) := below_drewN (Below.refl _ _) nq
 have HC1 := Lib.hid (HC.out.below (below_drewN (Below.refl _ V) nq))
 clear c0 c1 c2 c3 c4 c5 c6 c7 f2 f3 f4 f5 f6 f7
 generalize V.drewN nq = W at *
 obtain ⟨T1, hT1⟩ : ∃ T1, W.alloc (.cells #[.int .u8 47, .int .u8 47] 5 (2, 3)) = T1 := ⟨_, rfl⟩
 have hcl1 := conv_lit W #[.int .u8 47, .int .u8 47] 2 2
 simp at hcl1
 have HBT1 : Hid (Below cb V T1) := by rw [← hT1]; exact HB1.out.alloc (by have := HC1.out.lt; omega) _
 have HCT1 : Hid (CAt T1 cb (some ⟨b, o, none⟩) n cap a t br) := by rw [← hT1]; exact HC1.out.below ((Below.refl _ _).alloc (Nat.le_refl _) _)
 have HP1 : Hid (Calls Tryz.prog 67 #[.slice (some ⟨b, o + a, none⟩) m cc, .slice (some ⟨W.heap.size, 0, none⟩) 2 2] T1 fun e w' => e = .returned (.bool false) ∧ w' = T1) := by
  have := pref_run b (o + a) m cc W.heap.size r 47 47 T1 cb (HR.out _ HBT1.out) hdl hmc (by rw [← hT1, World.cell?_alloc_mark]; rfl) (by rw [← hT1, World.cell?_alloc_mark]; rfl)
  rw [hp1] at this
  exact this
 go_wp2_with fail
 refine HP1.out.mono ?_
 rintro e W1 ⟨rfl, rfl⟩
 clear hcl1 hT1 HP1 HB1 HC1
 obtain ⟨T2, hT2⟩ : ∃ T2, W1.alloc (.cells #[.int .u8 47, .int .u8 42] 5 (2, 3)) = T2 := ⟨_, rfl⟩
 have hcl2 := conv_lit W1 #[.int .u8 47, .int .u8 42] 2 2
 simp at hcl2
 have HBT2 : Hid (Below cb V T2) := by rw [← hT2]; exact HBT1.out.alloc (by have := HCT1.out.lt; omega) _
 have HCT2 : Hid (CAt T2 cb (some ⟨b, o, none⟩) n cap a t br) := by rw [← hT2]; exact HCT1.out.below ((Below.refl _ _).alloc (Nat.le_refl _) _)
 have HP2 : Hid (Calls Tryz.prog 67 #[.slice (some ⟨b, o + a, none⟩) m cc, .slice (some ⟨W1.heap.size, 0, none⟩) 2 2] T2 fun e w' => e = .returned (.bool false) ∧ w' = T2) := by
  have := pref_run b (o + a) m cc W1.heap.size r 47 42 T2 cb (HR.out _ HBT2.out) hdl hmc (by rw [← hT2, World.cell?_alloc_mark]; rfl) (by rw [← hT2, World.cell?_alloc_mark]; rfl)
  rw [hp2] at this
  exact this
 go_wp2_with fail
 refine HP2.out.mono ?_
 rintro e W2 ⟨rfl, rfl⟩
 clear hcl2 hT2 HP2 HBT1 HCT1
 go_wp2_with fail
 go_ret
 exact ⟨rfl, HCT2.out, HBT2.out⟩
end Go.Proofs.YtgkhjeefcflmcaaGreatDoor
namespace Go.Proofs.YtgkhjeefcflmcaaGreatDoor
open Go.RowKit Go.Sort
set_option linter.unusedSimpArgs false
set_option linter.unusedVariables false
set_option maxRecDepth 100000 in
set_option maxHeartbeats 8000000 in
theorem comment_line (V : World) (cb b o n cap a : Nat) (l : List UInt8) (t : Tk) (br : Bool) (h : CAt V cb (some ⟨b, o, none⟩) n cap a t br) (hb : Byts V cb (some ⟨b, o, none⟩) (bi l)) (hn : l.length = n) (hm : n ≤ 900) (hcap : n ≤ cap) (hcm : cap ≤ 9223372036854775807) (ha : a < n) (u : List UInt8) (hx : l.drop a = 47 :: 47 :: u) :
  Calls Tryz.prog 45 #[.pointer (some ⟨cb, 0, none⟩)] V fun e V' => e = .returned (.bool true) ∧ Left V cb (some ⟨b, o, none⟩) n cap a (piAt ⟨0, lineN u + 2, 0, false⟩ a) false V' := by
 have HC := Lib.hid h
 have HY := Lib.hid hb
 have HLT := Lib.hid h.lt
 have hca : cap ≠ a := by omega
 have hac : a ≤ cap := by omega
 have han : (a : Int) ≤ (n : Int) := by omega
 obtain ⟨m, hma⟩ : ∃ m, n - a = m := ⟨_, rfl⟩
 obtain ⟨cc, hcc⟩ : ∃ cc, cap - a = cc := ⟨_, rfl⟩
 obtain ⟨r, hr⟩ : ∃ r, l.drop a = r := ⟨_, rfl⟩
 have hdl : r.length = m := by rw [← hr, List.length_drop, hn, hma]
 have hmc : m ≤ cc := by omega
 have hm9 : m ≤ 900 := by omega
 have HA9 : Hid (a ≤ 900) := by show _ ≤ _; omega
 have HR : Hid (∀ W, Below cb V W → Byts W cb (some ⟨b, o + a, none⟩) (bi r)) := fun W hw => by
  rw [← hr]
  exact (HY.out.below (B' := cb) hw (Nat.le_refl _)).dropB (by omega) a
 rw [hr] at hx
 have hp1 : twoF 47 47 r = true := by rw [hx]; rfl
 obtain ⟨k, hk⟩ : ∃ k, lineN u + 2 = k := ⟨_, rfl⟩
 have hln : lineN r = k := by rw [hx, ← hk]; rfl
 have hk9 : k ≤ 900 := by have := lineN_le r; omega
 have HU : Hid (∀ W, Below cb V W → Calls Tryz.prog 68 #[.slice (some ⟨b, o + a, none⟩) m cc, .int .u8 10] W fun e w' => e = .returned (.int .i64 (k : Int)) ∧ w' = W) := fun W hw => by
  have := upTo_run b (o + a) m cc r W cb (HR.out W hw) hdl hm9
  rw [hln] at this
  exact this
 have HK9 := Lib.hid hk9
 rw [hk]
 obtain ⟨c0, c1, c2, c3, c4, c5, c6, c7, f2, f3, f4, f5, f6, f7⟩ := h
 clear hb hcm hx hr hk hln
 go_enter Tryz.func45, Tryz.ntmps45
 go_wp2_with fail
 go_quiet (fail)
 have HB1 : Hid (Below cb V (V.drewN nq)) := below_drewN (Below.refl _ _) nq
 have HC1 := Lib.hid (HC.out.below (below_drewN (Below.refl _ V) nq))
 clear c0 c1 c2 c3 c4 c5 c6 c7 f2 f3 f4 f5 f6 f7
 generalize V.drewN nq = W at *
 obtain ⟨T1, hT1⟩ : ∃ T1, W.alloc (.cells #[.int .u8 47, .int .u8 47] 5 (2, 3)) = T1 := ⟨_, rfl⟩
 have hcl1 := conv_lit W #[.int .u8 47, .int .u8 47] 2 2
 simp at hcl1
 have HBT1 : Hid (Below cb V T1) := by rw [← hT1]; exact HB1.out.alloc (by have := HC1.out.lt; omega) _
 have HCT1 : Hid (CAt T1 cb (some ⟨b, o, none⟩) n cap a t br) := by rw [← hT1]; exact HC1.out.below ((Below.refl _ _).alloc (Nat.le_refl _) _)
 have HP1 : Hid (Calls Tryz.prog 67 #[.slice (some ⟨b, o + a, none⟩) m cc, .slice (some ⟨W.heap.size, 0, none⟩) 2 2] T1 fun e w' => e = .returned (.bool true) ∧ w' = T1) := by
  have := pref_run b (o + a) m cc W.heap.size r 47 47 T1 cb (HR.out _ HBT1.out) hdl hmc (by rw [← hT1, World.cell?_alloc_mark]; rfl) (by rw [← hT1, World.cell?_alloc_mark]; rfl)
  rw [hp1] at this
  exact this
 go_wp2_with fail
 refine HP1.out.mono ?_
 rintro e W1 ⟨rfl, rfl⟩
 clear hcl1 hT1 HP1 HB1 HC1
 go_wp2_with fail
 refine (HU.out _ HBT1.out).mono ?_
 rintro e W2 ⟨rfl, rfl⟩
 go_wp2_with fail
 refine (take_run W2 cb _ n cap a t br HCT1.out 0 k 0 (by have := HA9.out; omega) (by have := HK9.out; omega)).mono ?_
 rintro e W3 ⟨rfl, hC3, hB3⟩
 have HL : Hid (Left V cb (some ⟨b, o, none⟩) n cap a (piAt ⟨0, k, 0, false⟩ a) false W3) := ⟨hC3, HBT1.out.trans hB3⟩
 clear hC3 hB3
 go_wp2_with fail
 go_ret
 exact ⟨rfl, HL.out⟩
end Go.Proofs.YtgkhjeefcflmcaaGreatDoor
namespace Go.Proofs.YtgkhjeefcflmcaaGreatDoor
open Go.RowKit Go.Sort
set_option linter.unusedSimpArgs false
set_option linter.unusedVariables false
set_option maxRecDepth 100000 in
set_option maxHeartbeats 8000000 in
theorem comment_gen0 (V : World) (cb b o n cap a : Nat) (l : List UInt8) (t : Tk) (br : Bool) (h : CAt V cb (some ⟨b, o, none⟩) n cap a t br) (hb : Byts V cb (some ⟨b, o, none⟩) (bi l)) (hn : l.length = n) (hm : n ≤ 900) (hcap : n ≤ cap) (hcm : cap ≤ 9223372036854775807) (ha : a < n) (u : List UInt8) (hx : l.drop a = 47 :: 42 :: u) (hml : Ml V) (hMc : 3 < cb) (hc2 : cap - a = 2) :
  Calls Tryz.prog 45 #[.pointer (some ⟨cb, 0, none⟩)] V fun e V' => e = .returned (.bool true) ∧ Left V cb (some ⟨b, o, none⟩) n cap a (piAt (genP (n - a - 2) (genF u)) a) (genP (n - a - 2) (genF u)).b V' := by
 have HC := Lib.hid h
 have HY := Lib.hid hb
 have HLT := Lib.hid h.lt
 have hca : cap ≠ a := by omega
 have hac : a ≤ cap := by omega
 have han : (a : Int) ≤ (n : Int) := by omega
 obtain ⟨m, hma⟩ : ∃ m, n - a = m := ⟨_, rfl⟩
 obtain ⟨cc, hcc⟩ : ∃ cc, cap - a = cc := ⟨_, rfl⟩
 obtain ⟨r, hr⟩ : ∃ r, l.drop a = r := ⟨_, rfl⟩
 have hdl : r.length = m := by rw [← hr, List.length_drop, hn, hma]
 have hmc : m ≤ cc := by omega
 have hm9 : m ≤ 900 := by omega
 have HA9 : Hid (a ≤ 900) := by show _ ≤ _; omega
 have HR : Hid (∀ W, Below cb V W → Byts W cb (some ⟨b, o + a, none⟩) (bi r)) := fun W hw => by
  rw [← hr]
  exact (HY.out.below (B' := cb) hw (Nat.le_refl _)).dropB (by omega) a
 rw [hr] at hx
 rw [hcc] at hc2
 have hp1 : twoF 47 47 r = false := by rw [hx]; rfl
 have hp2 : twoF 47 42 r = true := by rw [hx]; rfl
 have hm2 : 2 ≤ m := by rw [← hdl, hx]; simp
 have hm2z : (2 : Int) ≤ (m : Int) := by omega
 obtain ⟨m3, hm3⟩ : ∃ m3, m - 2 = m3 := ⟨_, rfl⟩
 have hul : u.length = m3 := by rw [← hm3, ← hdl, hx]; simp
 have hm30 : m3 = 0 := by omega
 have hm22 : m = 2 := by omega
 subst hc2
 subst hm22
 subst hm30
 have HG : Hid (∀ W, Below cb V W → CAt W cb (some ⟨b, o, none⟩) n cap a t br → Calls Tryz.prog 69 #[.pointer (some ⟨cb, 0, none⟩), .slice (some ⟨b, o + a, none⟩) 0 0] W fun en W' => en = .returned (.tuple #[]) ∧ Left W cb (some ⟨b, o, none⟩) n cap a (piAt (genP 0 (genF u)) a) (genP 0 (genF u)).b W') := fun W hw hC => by
  have hby : Byts W cb (some ⟨b, o + a, none⟩) (bi u) := by
   have : u = [] := List.eq_nil_of_length_eq_zero (by omega)
   rw [this]
   exact ⟨fun x hx => (by cases hx), fun h => (by cases h)⟩
  obtain ⟨mx, hmx⟩ := hml
  exact general_run W cb n cap a 0 0 _ ⟨b, o + a, none⟩ u t br hC hby (by omega) (by omega) (by omega) HA9.out ⟨mx, (hw.cell (p := ⟨3, 0, none⟩) hMc).trans hmx⟩
 rw [show n - a - 2 = 0 by omega]
 obtain ⟨c0, c1, c2, c3, c4, c5, c6, c7, f2, f3, f4, f5, f6, f7⟩ := h
 clear hb hcm hx hr hul hml hMc
 go_enter Tryz.func45, Tryz.ntmps45
 go_wp2_with fail
 go_quiet (fail)
 have HB1 : Hid (Below cb V (V.drewN nq)) := below_drewN (Below.refl _ _) nq
 have HC1 := Lib.hid (HC.out.below (below_drewN (Below.refl _ V) nq))
 clear c0 c1 c2 c3 c4 c5 c6 c7 f2 f3 f4 f5 f6 f7
 generalize V.drewN nq = W at *
 obtain ⟨T1, hT1⟩ : ∃ T1, W.alloc (.cells #[.int .u8 47, .int .u8 47] 5 (2, 3)) = T1 := ⟨_, rfl⟩
 have hcl1 := conv_lit W #[.int .u8 47, .int .u8 47] 2 2
 simp at hcl1
 have HBT1 : Hid (Below cb V T1) := by rw [← hT1]; exact HB1.out.alloc (by have := HC1.out.lt; omega) _
 have HCT1 : Hid (CAt T1 cb (some ⟨b, o, none⟩) n cap a t br) := by rw [← hT1]; exact HC1.out.below ((Below.refl _ _).alloc (Nat.le_refl _) _)
 have HP1 : Hid (Calls Tryz.prog 67 #[.slice (some ⟨b, o + a, none⟩) 2 2, .slice (some ⟨W.heap.size, 0, none⟩) 2 2] T1 fun e w' => e = .returned (.bool false) ∧ w' = T1) := by
  have := pref_run b (o + a) 2 2 W.heap.size r 47 47 T1 cb (HR.out _ HBT1.out) hdl hmc (by rw [← hT1, World.cell?_alloc_mark]; rfl) (by rw [← hT1, World.cell?_alloc_mark]; rfl)
  rw [hp1] at this
  exact this
 go_wp2_with fail
 refine HP1.out.mono ?_
 rintro e W1 ⟨rfl, rfl⟩
 clear hcl1 hT1 HP1 HB1 HC1
 obtain ⟨T2, hT2⟩ : ∃ T2, W1.alloc (.cells #[.int .u8 47, .int .u8 42] 5 (2, 3)) = T2 := ⟨_, rfl⟩
 have hcl2 := conv_lit W1 #[.int .u8 47, .int .u8 42] 2 2
 simp at hcl2
 have HBT2 : Hid (Below cb V T2) := by rw [← hT2]; exact HBT1.out.alloc (by have := HCT1.out.lt; omega) _
 have HCT2 : Hid (CAt T2 cb (some ⟨b, o, none⟩) n cap a t br) := by rw [← hT2]; exact HCT1.out.below ((Below.refl _ _).alloc (Nat.le_refl _) _)
 have HP2 : Hid (Calls Tryz.prog 67 #[.slice (some ⟨b, o + a, none⟩) 2 2, .slice (some ⟨W1.heap.size, 0, none⟩) 2 2] T2 fun e w' => e = .returned (.bool true) ∧ w' = T2) := by
  have := pref_run b (o + a) 2 2 W1.heap.size r 47 42 T2 cb (HR.out _ HBT2.out) hdl hmc (by rw [← hT2, World.cell?_alloc_mark]; rfl) (by rw [← hT2, World.cell?_alloc_mark]; rfl)
  rw [hp2] at this
  exact this
 go_wp2_with fail
 refine HP2.out.mono ?_
 rintro e W2 ⟨rfl, rfl⟩
 clear hcl2 hT2 HP2 HBT1 HCT1
 go_wp2_with fail
 refine (HG.out _ HBT2.out HCT2.out).mono ?_
 rintro e W3 ⟨rfl, hC3, hB3⟩
 have HL : Hid (Left V cb (some ⟨b, o, none⟩) n cap a (piAt (genP 0 (genF u)) a) (genP 0 (genF u)).b W3) := ⟨hC3, HBT2.out.trans hB3⟩
 clear hC3 hB3
 go_wp2_with fail
 go_ret
 exact ⟨rfl, HL.out⟩
end Go.Proofs.YtgkhjeefcflmcaaGreatDoor
namespace Go.Proofs.YtgkhjeefcflmcaaGreatDoor
open Go.RowKit Go.Sort
set_option linter.unusedSimpArgs false
set_option linter.unusedVariables false
set_option maxRecDepth 100000 in
set_option maxHeartbeats 8000000 in
theorem comment_gen1 (V : World) (cb b o n cap a : Nat) (l : List UInt8) (t : Tk) (br : Bool) (h : CAt V cb (some ⟨b, o, none⟩) n cap a t br) (hb : Byts V cb (some ⟨b, o, none⟩) (bi l)) (hn : l.length = n) (hm : n ≤ 900) (hcap : n ≤ cap) (hcm : cap ≤ 9223372036854775807) (ha : a < n) (u : List UInt8) (hx : l.drop a = 47 :: 42 :: u) (hml : Ml V) (hMc : 3 < cb) (hc2 : cap - a ≠ 2) :
  Calls Tryz.prog 45 #[.pointer (some ⟨cb, 0, none⟩)] V fun e V' => e = .returned (.bool true) ∧ Left V cb (some ⟨b, o, none⟩) n cap a (piAt (genP (n - a - 2) (genF u)) a) (genP (n - a - 2) (genF u)).b V' := by
 have HC := Lib.hid h
 have HY := Lib.hid hb
 have HLT := Lib.hid h.lt
 have hca : cap ≠ a := by omega
 have hac : a ≤ cap := by omega
 have han : (a : Int) ≤ (n : Int) := by omega
 obtain ⟨m, hma⟩ : ∃ m, n - a = m := ⟨_, rfl⟩
 obtain ⟨cc, hcc⟩ : ∃ cc, cap - a = cc := ⟨_, rfl⟩
 obtain ⟨r, hr⟩ : ∃ r, l.drop a = r := ⟨_, rfl⟩
 have hdl : r.length = m := by rw [← hr, List.length_drop, hn, hma]
 have hmc : m ≤ cc := by omega
 have hm9 : m ≤ 900 := by omega
 have HA9 : Hid (a ≤ 900) := by show _ ≤ _; omega
 have HR : Hid (∀ W, Below cb V W → Byts W cb (some ⟨b, o + a, none⟩) (bi r)) := fun W hw => by
  rw [← hr]
  exact (HY.out.below (B' := cb) hw (Nat.le_refl _)).dropB (by omega) a
 rw [hr] at hx
 rw [hcc] at hc2
 have hp1 : twoF 47 47 r = false := by rw [hx]; rfl
 have hp2 : twoF 47 42 r = true := by rw [hx]; rfl
 have hm2 : 2 ≤ m := by rw [← hdl, hx]; simp
 have hm2z : (2 : Int) ≤ (m : Int) := by omega
 obtain ⟨m3, hm3⟩ : ∃ m3, m - 2 = m3 := ⟨_, rfl⟩
 have hul : u.length = m3 := by rw [← hm3, ← hdl, hx]; simp
 obtain ⟨c3, hc3⟩ : ∃ c3, cc - 2 = c3 := ⟨_, rfl⟩
 have h2c : 2 ≤ cc := by omega
 have HG : Hid (∀ W, Below cb V W → CAt W cb (some ⟨b, o, none⟩) n cap a t br → Calls Tryz.prog 69 #[.pointer (some ⟨cb, 0, none⟩), .slice (some ⟨b, o + a + 2, none⟩) m3 c3] W fun en W' => en = .returned (.tuple #[]) ∧ Left W cb (some ⟨b, o, none⟩) n cap a (piAt (genP m3 (genF u)) a) (genP m3 (genF u)).b W') := fun W hw hC => by
  have hby : Byts W cb (some ⟨b, o + a + 2, none⟩) (bi u) := by
   have h1 := (HR.out W hw).dropB (by omega) 2
   rw [hx] at h1
   exact h1
  obtain ⟨mx, hmx⟩ := hml
  exact general_run W cb n cap a m3 c3 _ ⟨b, o + a + 2, none⟩ u t br hC hby (by omega) (by omega) (by omega) HA9.out ⟨mx, (hw.cell (p := ⟨3, 0, none⟩) hMc).trans hmx⟩
 rw [show n - a - 2 = m3 by omega]
 obtain ⟨c0, c1, c2, c3, c4, c5, c6, c7, f2, f3, f4, f5, f6, f7⟩ := h
 clear hb hcm hx hr hul hml hMc
 go_enter Tryz.func45, Tryz.ntmps45
 go_wp2_with fail
 go_quiet (fail)
 have HB1 : Hid (Below cb V (V.drewN nq)) := below_drewN (Below.refl _ _) nq
 have HC1 := Lib.hid (HC.out.below (below_drewN (Below.refl _ V) nq))
 clear c0 c1 c2 c3 c4 c5 c6 c7 f2 f3 f4 f5 f6 f7
 generalize V.drewN nq = W at *
 obtain ⟨T1, hT1⟩ : ∃ T1, W.alloc (.cells #[.int .u8 47, .int .u8 47] 5 (2, 3)) = T1 := ⟨_, rfl⟩
 have hcl1 := conv_lit W #[.int .u8 47, .int .u8 47] 2 2
 simp at hcl1
 have HBT1 : Hid (Below cb V T1) := by rw [← hT1]; exact HB1.out.alloc (by have := HC1.out.lt; omega) _
 have HCT1 : Hid (CAt T1 cb (some ⟨b, o, none⟩) n cap a t br) := by rw [← hT1]; exact HC1.out.below ((Below.refl _ _).alloc (Nat.le_refl _) _)
 have HP1 : Hid (Calls Tryz.prog 67 #[.slice (some ⟨b, o + a, none⟩) m cc, .slice (some ⟨W.heap.size, 0, none⟩) 2 2] T1 fun e w' => e = .returned (.bool false) ∧ w' = T1) := by
  have := pref_run b (o + a) m cc W.heap.size r 47 47 T1 cb (HR.out _ HBT1.out) hdl hmc (by rw [← hT1, World.cell?_alloc_mark]; rfl) (by rw [← hT1, World.cell?_alloc_mark]; rfl)
  rw [hp1] at this
  exact this
 go_wp2_with fail
 refine HP1.out.mono ?_
 rintro e W1 ⟨rfl, rfl⟩
 clear hcl1 hT1 HP1 HB1 HC1
 obtain ⟨T2, hT2⟩ : ∃ T2, W1.alloc (.cells #[.int .u8 47, .int .u8 42] 5 (2, 3)) = T2 := ⟨_, rfl⟩
 have hcl2 := conv_lit W1 #[.int .u8 47, .int .u8 42] 2 2
 simp at hcl2
 have HBT2 : Hid (Below cb V T2) := by rw [← hT2]; exact HBT1.out.alloc (by have := HCT1.out.lt; omega) _
 have HCT2 : Hid (CAt T2 cb (some ⟨b, o, none⟩) n cap a t br) := by rw [← hT2]; exact HCT1.out.below ((Below.refl _ _).alloc (Nat.le_refl _) _)
 have HP2 : Hid (Calls Tryz.prog 67 #[.slice (some ⟨b, o + a, none⟩) m cc, .slice (some ⟨W1.heap.size, 0, none⟩) 2 2] T2 fun e w' => e = .returned (.bool true) ∧ w' = T2) := by
  have := pref_run b (o + a) m cc W1.heap.size r 47 42 T2 cb (HR.out _ HBT2.out) hdl hmc (by rw [← hT2, World.cell?_alloc_mark]; rfl) (by rw [← hT2, World.cell?_alloc_mark]; rfl)
  rw [hp2] at this
  exact this
 go_wp2_with fail
 refine HP2.out.mono ?_
 rintro e W2 ⟨rfl, rfl⟩
 clear hcl2 hT2 HP2 HBT1 HCT1
 go_wp2_with fail
 refine (HG.out _ HBT2.out HCT2.out).mono ?_
 rintro e W3 ⟨rfl, hC3, hB3⟩
 have HL : Hid (Left V cb (some ⟨b, o, none⟩) n cap a (piAt (genP m3 (genF u)) a) (genP m3 (genF u)).b W3) := ⟨hC3, HBT2.out.trans hB3⟩
 clear hC3 hB3
 go_wp2_with fail
 go_ret
 exact ⟨rfl, HL.out⟩
end Go.Proofs.YtgkhjeefcflmcaaGreatDoor
namespace Go.Proofs.YtgkhjeefcflmcaaGreatDoor
open Go.RowKit Go.Sort
set_option linter.unusedSimpArgs false
set_option linter.unusedVariables false
theorem dcP_at {l : List UInt8} {i : Nat} (h : i < l.length) : decAns (bi l) (i : Int) = decT (dcF (l.drop i)) := by
 rw [decAns_at (bi l) i (by rw [bi_length]; exact h), bi_drop]; rfl
end Go.Proofs.YtgkhjeefcflmcaaGreatDoor
namespace Go.Proofs.YtgkhjeefcflmcaaGreatDoor
open Go.RowKit
def Max (dd : List Int) (z : Nat) : Prop := ∀ j, 40 ≤ j → j < 88 → Beg dd j → (tx j).size ≤ z
def NoOp (dd : List Int) (z m : Nat) : Prop := ∀ j, 40 ≤ j → j < m → tx j ≠ strOf (dd.take z)
theorem beg_cut {dd : List Int} {j z : Nat} (hd : U.Byt dd) (hz : z ≤ dd.length) (h : tx j = strOf (dd.take z)) : Beg dd j ∧ (tx j).size = z := by
 have e : bts (tx j) = dd.take z := by rw [h, bts_strOf (byt_take hd _)]
 refine ⟨by unfold Beg; rw [e]; exact List.take_prefix _ _, ?_⟩
 rw [← bts_length, e, List.length_take]
 omega
theorem Max.cut {dd : List Int} {z : Nat} (hl : dd.length < z) : Max dd (z - 1) := fun j h1 h2 hb => by
 have h3 := hb.length_le
 rw [bts_length] at h3
 omega
theorem NoOp.next {dd : List Int} {z m : Nat} (h : NoOp dd z m) (h2 : tx m ≠ strOf (dd.take z)) : NoOp dd z (m + 1) := fun j h1 hj => by
 by_cases e : j = m
 ·subst e; exact h2
 ·exact h j h1 (by omega)
theorem Max.none {dd : List Int} (h : Max dd 0) : OpIs dd 0 0 := .inl ⟨rfl, rfl, fun j h1 h2 hb => by
 have := h j h1 h2 hb
 rw [tx_size] at this
 have := (txl_op h1 h2).1
 omega⟩
theorem Max.hit {dd : List Int} {z j : Nat} (h : Max dd z) (hd : U.Byt dd) (hz : z ≤ dd.length) (h1 : 40 ≤ j) (h2 : j < 88) (he : tx j = strOf (dd.take z)) : OpIs dd j z := by
 obtain ⟨hb, hs⟩ := beg_cut hd hz he
 exact .inr ⟨h1, h2, hs.symm, hb, h⟩
end Go.Proofs.YtgkhjeefcflmcaaGreatDoor
namespace Go.Proofs.YtgkhjeefcflmcaaGreatDoor
open Go.RowKit Go.Sort
set_option linter.unusedSimpArgs false
def Kit (w : World) : Prop := ErrVars w ∧ Heads w ∧ Ml w
theorem Kit.below {w w' : World} (h : Kit w) (hb : Below w.heap.size w w') : Kit w' := ⟨h.1.below hb, heads_below h.2.1 hb, h.2.2.below hb⟩
end Go.Proofs.YtgkhjeefcflmcaaGreatDoor
namespace Go.Proofs.YtgkhjeefcflmcaaGreatDoor
open Go.RowKit Go.Sort
set_option linter.unusedSimpArgs false
set_option linter.unusedVariables false
theorem below_set5 {S : Nat} {w W : World} {b : Nat} (h : Below S w W) (hb : S ≤ b) (v0 v1 v2 v3 v4 : Value) :
  Below S w (((((W.setCell ⟨b, 0, none⟩ v0).setCell ⟨b, 1, none⟩ v1).setCell ⟨b, 2, none⟩ v2).setCell ⟨b, 3, none⟩ v3).setCell ⟨b, 4, none⟩ v4) :=
 ((((h.setCell (p := ⟨b, 0, none⟩) hb _).setCell (p := ⟨b, 1, none⟩) hb _).setCell (p := ⟨b, 2, none⟩) hb _).setCell (p := ⟨b, 3, none⟩) hb _).setCell (p := ⟨b, 4, none⟩) hb _
theorem scanI_at {l : List UInt8} {a : Nat} (h : a < l.length) : scanI l (a : Int) = scanL (l.drop a) := by
 unfold scanI
 rw [if_neg (by omega), Int.toNat_natCast]
end Go.Proofs.YtgkhjeefcflmcaaGreatDoor
