/-
  The document's answers of layer 9: Scan.
-/
import Derived.Test.YtgoemhcngmpfbaaGreatDoorMs38
namespace Go.Proofs.YtgoemhcngmpfbaaGreatDoor
open Go.RowKit Go.Sort
set_option linter.unusedSimpArgs false
theorem beg_pos {sg : Bool} {m : List UInt8} {k : Nat} (h : begL m = true) (g : BodyN sg m k) : k ≠ 0 := by
 rintro rfl
 match m, h with
 | [], h => cases h
 | c :: r, h =>
  have h2 := g.2.2 (by simp)
  unfold okAt at h2
  rw [Bool.or_eq_false_iff] at h2
  have h3 : isPart c.toNat = false := h2.1
  rw [part_doc] at h3
  simp only [Bool.or_eq_false_iff, decide_eq_false_iff_not] at h3
  rw [beg_not (c := c) rfl h3.2.1 (.inl (fun e => h3.2.2.2 (by rw [e]; rfl)))] at h
  cases h
theorem scan_body {l : List UInt8} {at_ kind : Int} {k e : Nat} (h : ScanIs l at_ kind k e) : BodyS l at_ k := by
 rcases h with ⟨h, _, rfl, _⟩ | ⟨h1, h2, h3, h4, _⟩
 ·exact .inl ⟨h, rfl⟩
 ·exact .inr ⟨h1, h2, h3, h4⟩
theorem isKd_iff {c : UInt8} : isKd c = true ↔ (c = 46 ∨ c = 101 ∨ c = 69) := by
 unfold isKd
 rw [List.contains_iff_mem]
 simp
theorem kd_step {x : List UInt8} {i : Nat} {c : UInt8} (h : x[i]? = some c) : (x.take (i + 1)).any isKd = ((x.take i).any isKd || isKd c) := by
 rw [take_succ_of h, any_snoc]
def kdZ (x : List UInt8) : Int := if x.any isKd = true then 3 else 2
theorem kndZ_0 {x : List UInt8} (h : pfxB x = 0) : kndZ x = kdZ x := by
 unfold kndZ kdZ
 by_cases g : x.any isKd = true
 ·rw [if_pos g, if_pos ⟨h, g⟩]
 ·rw [if_neg g, if_neg (fun e => g e.2)]
theorem kndZ_n {x : List UInt8} (h : pfxB x ≠ 0) : kndZ x = 2 := if_neg (fun e => h e.1)
set_option maxRecDepth 100000 in
set_option maxHeartbeats 8000000 in
theorem Scan9_run (A : Option Addr) (n cap : Nat) (at_ : Int) (l : List UInt8) (kind : Int) (k e0 : Nat) (w : World) (B : Nat) (hb : Byts w B A (bi l)) (hn : l.length = n) (hm : n ≤ 10000) (hcap : n ≤ cap) (h : Hid (ScanIs l at_ kind k e0)) :
  Calls Tryz.prog 24 #[.slice A n cap, .int .i64 at_] w fun e w' => e = .returned (.tuple #[.int .i64 kind, .int .i64 (k : Int), .int .i64 (e0 : Int)]) ∧ Below w.heap.size w w' := by
 obtain ⟨S, hS⟩ : ∃ S, w.heap.size = S := ⟨_, rfl⟩
 have HBo := Lib.hid (Body9_run A n cap at_ l k w B hb hn hm hcap (scan_body h.out))
 have hkn : ((l.drop at_.toNat).take k).length ≤ 10000 := by rw [List.length_take, List.length_drop]; omega
 obtain ⟨x, hx⟩ : ∃ x, (l.drop at_.toNat).take k = x := ⟨_, rfl⟩
 have h' := h.out
 unfold ScanIs at h'
 rw [hx] at hkn HBo h'
 have hez := bs_isEmpty x
 have hsz := bs_size x
 rcases h' with ⟨_, rfl, rfl, rfl⟩ | ⟨h1, h2, h3, h4, rfl, y, hy, rfl⟩
 ·have hx0 : x = [] := by rw [← hx]; rfl
  have hz : (bs x).toList.isEmpty = true := by rw [hez, hx0]; rfl
  clear h hez hx hx0 hb
  go_enter Tryz.func24, Tryz.ntmps24
  go_wp2_with fail
  refine (HBo.out).mono ?_
  rintro e w1 ⟨rfl, rfl⟩
  go_wp2_with fail
  go_ret3
  exact ⟨rfl, Below.refl _ _⟩
 ·have hk0 := beg_pos h3 h4
  have hkl := h4.1
  have hxk : x.length = k := by rw [← hx, List.length_take]; omega
  have hz : (bs x).toList.isEmpty = false := by
   rw [hez]
   cases x with
   | nil => exact absurd hxk.symm hk0
   | cons a r => rfl
  have HB9 := Lib.hid (fun V => Base9_run x V (by omega))
  have HV0 := fun V => Value9_run (kndZ x) x y V hkn hy
  obtain ⟨ys, yn, yd, yk⟩ := y
  dsimp only at HV0 ⊢
  clear h hez hx hb hy h1 h2 h3 h4 hk0 hkl
  rw [hxk] at hsz hkn
  by_cases hp : pfxB x = 0
  ·rw [kndZ_0 hp] at HV0 ⊢
   rw [hp] at HB9
   have HB0 : Hid (∀ V, Calls Tryz.prog 59 #[.string (bs x)] V fun e w' => e = .returned (.int .i64 0) ∧ w' = V) := HB9
   clear HB9 hp
   go_enter Tryz.func24, Tryz.ntmps24
   go_wp2_with fail
   refine (HBo.out).mono ?_
   rintro e w1 ⟨rfl, rfl⟩
   go_wp2_with fail
   refine (HB0.out _).mono ?_
   rintro e w2 ⟨rfl, rfl⟩
   clear HB0 HBo
   have HB1 : Hid (Below w2.heap.size w2 w2) := Below.refl _ _
   replace hxk := Lib.hid hxk
   go_wp2_with fail
   go_loopg [8, 9] (k + 1) (fun h s8 s9 wr => ∃ (i : Nat) (kz : Int), s8 = .int .i64 kz ∧ s9 = .int .i64 (i : Int) ∧ Hid (kz = kdZ (x.take i)) ∧ Hid (i + h = k + 1) ∧ i ≤ k ∧ wr = w2)
   case atStart => exact ⟨0, 2, rfl, rfl, rfl, by show _ = _; omega, by omega, rfl⟩
   case round =>
    obtain ⟨i, kz, rfl, rfl, HKz, HI, hin, rfl⟩ := hrel
    by_cases hlt : i < k
    ·have hiz : (i : Int) < (k : Int) := by omega
     obtain ⟨c, hc⟩ : ∃ c, x[i]? = some c := ⟨x[i]'(by rw [hxk.out]; exact hlt), List.getElem?_eq_getElem _⟩
     have hx := bs_get hc
     have hst := kd_step hc
     cases hkd : isKd c
     ·have HK2 : Hid (kz = kdZ (x.take (i + 1))) := by
       rw [HKz.out]
       show _ = _
       unfold kdZ
       rw [hst, hkd, Bool.or_false]
      have hno : ¬ (c = 46 ∨ c = 101 ∨ c = 69) := fun g => by rw [isKd_iff.2 g] at hkd; cases hkd
      have e1 : ((c.toNat : Int) == 46) = false := eq_byte (fun g => hno (.inl g))
      have e2 : ((c.toNat : Int) == 101) = false := eq_byte (fun g => hno (.inr (.inl g)))
      have e3 : ((c.toNat : Int) == 69) = false := eq_byte (fun g => hno (.inr (.inr g)))
      clear hc hst hkd hno HKz
      generalize c.toNat = cn at *
      go_wp2_with fail
      go_roundg (k - i)
      case measure => have := HI.out; omega
      case rel => exact ⟨i + 1, kz, rfl, by go_num, HK2, by show _ = _; have := HI.out; omega, by omega, rfl⟩
     ·have HK2 : Hid ((3 : Int) = kdZ (x.take (i + 1))) := by
       show _ = _
       unfold kdZ
       rw [hst, hkd, Bool.or_true]
       rfl
      rcases isKd_iff.1 hkd with rfl | rfl | rfl
      ·have hx2 : ∀ W, (Instr.index 9 (.string (bs x)) (.int .i64 (i : Int))).run Tryz.prog W = .ok (.int .u8 46) W := hx
       clear hc hst hkd HKz hx
       go_wp2_with fail
       go_roundg (k - i)
       case measure => have := HI.out; omega
       case rel => exact ⟨i + 1, 3, rfl, by go_num, HK2, by show _ = _; have := HI.out; omega, by omega, rfl⟩
      ·have hx2 : ∀ W, (Instr.index 9 (.string (bs x)) (.int .i64 (i : Int))).run Tryz.prog W = .ok (.int .u8 101) W := hx
       clear hc hst hkd HKz hx
       go_wp2_with fail
       go_roundg (k - i)
       case measure => have := HI.out; omega
       case rel => exact ⟨i + 1, 3, rfl, by go_num, HK2, by show _ = _; have := HI.out; omega, by omega, rfl⟩
      ·have hx2 : ∀ W, (Instr.index 9 (.string (bs x)) (.int .i64 (i : Int))).run Tryz.prog W = .ok (.int .u8 69) W := hx
       clear hc hst hkd HKz hx
       go_wp2_with fail
       go_roundg (k - i)
       case measure => have := HI.out; omega
       case rel => exact ⟨i + 1, 3, rfl, by go_num, HK2, by show _ = _; have := HI.out; omega, by omega, rfl⟩
    ·obtain rfl : i = k := by omega
     obtain rfl : kz = kdZ x := by rw [HKz.out, List.take_of_length_le (by rw [hxk.out]; exact Nat.le_refl _)]
     have HV := Lib.hid HV0
     clear HV0 HKz
     go_wp2_with fail
     refine (HV.out _).mono ?_
     rintro e w4 ⟨rfl, hw⟩
     have I := Lib.hid ((Bs.start wr hS).below (HB1.out.trans (hw.mono HB1.out.size)))
     clear hw HV
     obtain ⟨N, hN⟩ : ∃ N, w4.heap.size = N := ⟨_, rfl⟩
     have J4 := I.out.pushRatZ hN 27
     obtain ⟨a1, ha⟩ : ∃ x, w4.alloc (boxRZ 27) = x := ⟨_, rfl⟩
     rw [ha] at J4
     have HI4 := Lib.hid (J4.rat 0 rfl)
     have I5 := Lib.hid (J4.putRat 0 rfl ys yn false yd rfl)
     clear J4 I
     go_wp2_with (with_reducible refine wpList_store_rat rfl (.tmp 10) (.tmp 46) rfl (b := N) (s := ys) (n := yn) (t := false) (d := yd) rfl rfl HI4.out ?_)
     go_ret3
     exact ⟨rfl, by rw [hS]; exact I5.out.bl⟩
  ·rw [kndZ_n hp] at HV0 ⊢
   have hpz : ((pfxB x : Int) == 0) = false := beq_eq_false_iff_ne.2 (by omega)
   have HV := Lib.hid HV0
   clear HV0 hp hxk
   generalize pfxB x = p at *
   go_enter Tryz.func24, Tryz.ntmps24
   go_wp2_with fail
   refine (HBo.out).mono ?_
   rintro e w1 ⟨rfl, rfl⟩
   go_wp2_with fail
   refine (HB9.out _).mono ?_
   rintro e w2 ⟨rfl, rfl⟩
   clear HB9 HBo
   have HB1 : Hid (Below w2.heap.size w2 w2) := Below.refl _ _
   go_wp2_with fail
   refine (HV.out _).mono ?_
   rintro e w4 ⟨rfl, hw⟩
   have I := Lib.hid ((Bs.start w2 hS).below (HB1.out.trans (hw.mono HB1.out.size)))
   clear hw HV
   obtain ⟨N, hN⟩ : ∃ N, w4.heap.size = N := ⟨_, rfl⟩
   have J4 := I.out.pushRatZ hN 27
   obtain ⟨a1, ha⟩ : ∃ x, w4.alloc (boxRZ 27) = x := ⟨_, rfl⟩
   rw [ha] at J4
   have HI4 := Lib.hid (J4.rat 0 rfl)
   have I5 := Lib.hid (J4.putRat 0 rfl ys yn false yd rfl)
   clear J4 I
   go_wp2_with (with_reducible refine wpList_store_rat rfl (.tmp 10) (.tmp 46) rfl (b := N) (s := ys) (n := yn) (t := false) (d := yd) rfl rfl HI4.out ?_)
   go_ret3
   exact ⟨rfl, by rw [hS]; exact I5.out.bl⟩
end Go.Proofs.YtgoemhcngmpfbaaGreatDoor
namespace Go.Proofs.YtgoemhcngmpfbaaGreatDoor
open Go.RowKit Go.Sort
set_option linter.unusedSimpArgs false
set_option maxRecDepth 100000 in
set_option maxHeartbeats 4000000 in
theorem Scans_law (A : Option Addr) (n cap : Nat) (a : Int) (l : List UInt8) (w : World) (hb : Byts w w.heap.size A (bi l)) (hn : l.length = n) (hm : n ≤ 9223372036854775807) (hcap : n ≤ cap) (hml : Hid (Ml w)) (ht : Hid (Tab w)) :
  Calls Tryz.prog 4 #[.slice A n cap, .int .i64 a] w fun e w' => e = .returned (.bool true) ∧ Below w.heap.size w w' := by
 obtain ⟨S, hS⟩ : ∃ S, w.heap.size = S := ⟨_, rfl⟩
 have HML : Hid (∀ V, Below S w V → Ml V) := fun V hb => hml.out.below (by rw [hS]; exact hb)
 have HTB : Hid (∀ V, Below S w V → Tab V) := fun V hb => ht.out.below (by rw [hS]; exact hb)
 obtain ⟨m, hmn⟩ : ∃ m, (l.take 60).length = m := ⟨_, rfl⟩
 have hm60 : m ≤ 60 := by rw [← hmn, List.length_take]; omega
 have hmz : min (n : Int) 60 = (m : Int) := by rw [← hmn, List.length_take, hn]; omega
 have hmc : m ≤ cap := by rw [← hmn, List.length_take]; omega
 have hb2 := hb.take 60
 rw [bi_take] at hb2
 obtain ⟨kind, k, e0, hs⟩ := scan_is (l.take 60) a
 have HSC := Lib.hid (Scan_run A m cap a (l.take 60) kind k e0 w w.heap.size hb2 (Nat.le_refl _) hmn (by omega) hmc hs hml)
 have HS9 : Hid (∀ V, Below S w V → Calls Tryz.prog 24 #[.slice A m cap, .int .i64 a] V fun e w' => e = .returned (.tuple #[.int .i64 kind, .int .i64 (k : Int), .int .i64 (e0 : Int)]) ∧ Below V.heap.size V w') := fun V hV =>
  Scan9_run A m cap a (l.take 60) kind k e0 V w.heap.size (hb2.below (by rw [hS]; exact hV) (Nat.le_refl _)) hmn (by omega) hmc hs
 have HC0 := fun V => code_errV e0 (scan_le hs) V
 obtain ⟨ev, hev⟩ : ∃ v, errV e0 = v := ⟨_, rfl⟩
 unfold scanV at HSC
 rw [hev] at HSC HC0
 have HC := Lib.hid HC0
 have I := Lib.hid (Bs.start w hS)
 clear hs hev hb hb2 hml ht HC0 hmn hn
 rw [hS]
 go_enter Tryz.func4, Tryz.ntmps4
 go_wp2_with fail
 refine HSC.out.mono ?_
 rintro e w1 ⟨rfl, hw⟩
 replace I := Lib.hid (I.out.below hw)
 clear hw HSC
 go_wp2_with fail
 refine (HS9.out _ I.out.bl).mono ?_
 rintro e w2 ⟨rfl, hw⟩
 replace I := Lib.hid (I.out.below hw)
 clear hw HS9
 go_wp2_with fail
 refine (HC.out _).mono ?_
 rintro e w3 ⟨rfl, hw⟩
 replace I := Lib.hid (I.out.below hw)
 clear hw HC
 go_wp2_with fail
 refine (works9_run _ (HML.out _ I.out.bl) (HTB.out _ I.out.bl)).mono ?_
 rintro e w9 ⟨rfl, hw⟩
 have I9 := Lib.hid (I.out.below hw)
 clear hw I
 go_wp2_with fail
 go_ret
 exact ⟨rfl, I9.out.bl⟩
theorem scans_any (A : Option Addr) (n cap : Nat) (l : List Int) (a : Int) (W : World) (hb : Byts W W.heap.size A l) (hl : l.length = n) (hc : n ≤ cap) (hm : cap ≤ 9223372036854775807) (hs : Ml W) (hh : Tab W) :
  Calls Tryz.prog 4 #[.slice A n cap, .int .i64 a] W fun e w' => e = .returned (.bool true) ∧ Below W.heap.size W w' := by
 obtain ⟨m, rfl⟩ := bi_back l hb.1
 rw [bi_length] at hl
 exact Scans_law A n cap a m W hb hl (by omega) hc hs hh
end Go.Proofs.YtgoemhcngmpfbaaGreatDoor
