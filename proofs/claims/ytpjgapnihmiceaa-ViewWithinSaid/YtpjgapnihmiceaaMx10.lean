/-
  The walk of the law ViewWithin, given what the program's calls answer.
-/
import Derived.Test.YtpjgapnihmiceaaMx09
import Derived.Test.YtpjgapnihmiceaaMx03
import Derived.Test.YtpjgapnihmiceaaMx04
import Derived.Deep.RegionHeld3
namespace Go.Proofs.Ytpjgapnihmiceaa
open Go.RowKit
set_option linter.unusedSimpArgs false
set_option linter.unusedVariables false
theorem sp_box (w : World) (x y : Int) (E : TypeId) : ∃ W, w.alloc (.cells #[.int .i64 x, .int .i64 y] E) = W ∧ Below w.heap.size w W ∧ W.heap.size = w.heap.size + 1 ∧ W.cell? ⟨w.heap.size, 0, none⟩ = some (.int .i64 x) ∧ W.cell? ⟨w.heap.size, 1, none⟩ = some (.int .i64 y) :=
 ⟨_, rfl, (Below.refl _ _).alloc (Nat.le_refl _) _, by simp, World.cell?_alloc_at _ _ _ _ rfl, World.cell?_alloc_at _ _ _ _ rfl⟩
theorem kid_is {T : List Nd} {i j : Nat} {y : Int} (hi : i < T.length) (hy : (nd T i).kids[j]? = some y) : kidV T (i : Int) (j : Int) = y := by
 have hin : inT T (i : Int) = true := decide_eq_true (by omega)
 have hj := (List.getElem?_eq_some_iff.1 hy).1
 unfold kidV kd
 rw [hin, Int.toNat_natCast, if_pos ⟨rfl, by omega, by omega⟩, List.getD_eq_getElem?_getD, Int.toNat_natCast, hy]
 rfl
set_option maxHeartbeats 16000000 in
set_option maxRecDepth 100000 in
theorem Within_lawV (hN : SaysNew) (hOp : SaysOp) (hSp : SaysSpan) (hWd : SaysWord) (hK : SaysKid) (A1 : Option Addr) (n1 c1 : Nat) (A2 : Option Addr) (n2 c2 : Nat) (A : Option Addr) (n c : Nat) (d : List Int) (L : List Tv) (T : List Nd) (W : World)
  (hy : Byts W W.heap.size A1 d) (hd : d.length = n1) (hc1 : n1 ≤ c1) (hx1 : c1 ≤ 9223372036854775807) (ht : CellsV tvCells W W.heap.size A2 L) (hL : L.length = n2) (hc2 : n2 ≤ c2) (hx2 : c2 ≤ 9223372036854775807) (hb : NdsAt W W.heap.size A T) (hl : T.length = n) (hcap : n ≤ 9223372036854775807) :
  Calls Try.prog 4 #[srcV A1 n1 c1 A2 n2 c2 A n c] W fun e w' => e = .returned (.bool true) ∧ Below W.heap.size W w' := by
 obtain ⟨m1, hm1⟩ : ∃ m, min n1 300 = m := ⟨_, rfl⟩
 obtain ⟨m2, hm2⟩ : ∃ m, min n2 60 = m := ⟨_, rfl⟩
 obtain ⟨l, hll⟩ : ∃ l, (fewT T).length = l := ⟨_, rfl⟩
 have HFW := Lib.hid (fun w h1 h2 => vFew_run A1 n1 c1 A2 n2 c2 A n c W.heap.size T m1 m2 l w h1 h2 hl hcap hm1 hm2 hc1 hc2 hll)
 have HFS := Lib.hid (fun (A9 : Option Addr) (c9 : Nat) (w1 : World) h hw => @src_few W w1 A1 A2 A A9 n1 c1 n2 c2 n c m1 m2 l c9 d L T 28 hy hd hm1 hc1 ht hL hm2 hc2 hll h hw)
 have HB0 : Hid (NdsAt (W.alloc (.cells #[.slice A1 n1 c1, .slice A2 n2 c2, .slice A n c] 28)) W.heap.size A T ∧ W.heap.size ≤ (W.alloc (.cells #[.slice A1 n1 c1, .slice A2 n2 c2, .slice A n c] 28)).heap.size) := ⟨hb.below ((Below.refl _ _).alloc (Nat.le_refl _) _) (Nat.le_refl _), by simp⟩
 have hq2 : m2 ≤ 60 := by omega
 have hSMT := few_smallT T
 have HM1 : Hid (m1 ≤ c1 ∧ m2 ≤ c2) := by show _ ∧ _; omega
 generalize fewT T = TT at *
 generalize d.take m1 = dd at *
 generalize L.take m2 = LL at *
 have HSM := Lib.hid hSMT
 have HL := Lib.hid hll
 have hl40 : l ≤ 40 := by rw [← hll]; exact hSMT.1
 have HNW := Lib.hid (fun (A9 : Option Addr) (c9 : Nat) (w : World) h1 h2 => hN A1 m1 c1 A2 m2 c2 A9 l c9 dd LL TT w h1 h2)
 have HWK := Lib.hid (works15_run hN hOp hWd hSp)
 have HSP := Lib.hid hSp
 have HKD := Lib.hid hK
 have HX := Lib.hid (And.intro hx1 hx2)
 obtain ⟨x, hx⟩ : ∃ x, trErr (chkT TT (m2 : Int)) = x := ⟨_, rfl⟩
 have HXE := Lib.hid hx
 rw [hx] at HNW
 clear hy hd hc1 hx1 ht hL hc2 hx2 hb hl hcap hm1 hm2 hll hSMT hx hN hOp hWd hSp
 unfold FewSrc at HFW
 unfold srcV at *
 unfold trV at *
 obtain ⟨S, hS⟩ : ∃ S, W.heap.size = S := ⟨_, rfl⟩
 rw [hS] at HFW HFS HB0 ⊢
 by_cases hk0 : (chkT TT (m2 : Int)).1 = 0
 rotate_left
 ·obtain ⟨et, ev, hxe⟩ := trErr_some hk0
  obtain rfl : x = .iface et ev := HXE.out.symm.trans hxe
  simp only [resOf_bad hk0] at HNW
  clear HXE hxe
  go_enter Try.func4, Try.ntmps4
  go_wp2_with fail
  refine (HFW.out _ HB0.out.1 HB0.out.2).mono ?_
  rintro e w1 ⟨v, rfl, A9, c9, rfl, k7, k8, hn1, hw1⟩
  obtain ⟨⟨g0, g1, g2⟩, ⟨f0, f1, f2⟩, V, hV, ⟨d0, d1, d2⟩, hsrc, hBV, hsV⟩ := HFS.out A9 c9 w1 hn1 hw1
  have HSR := Lib.hid hsrc
  have BV := Lib.hid hBV
  have HNV := Lib.hid (HNW.out A9 c9 V hsrc ⟨HX.out.1, HX.out.2, k7, k8⟩)
  clear HFW HFS HB0 hn1 hw1 hsrc hBV HNW k8
  go_wp2_with fail
  refine HNV.out.mono ?_
  rintro e w2 ⟨fv, rfl, hf, hw2⟩
  have N2 : Hid (NSt S W w2 fv A1 m1 c1 A2 m2 c2 A9 l c9 dd LL TT []) := ⟨HSR.out.below hw2, hf, (hw2.cell (p := ⟨S, 0, none⟩) hsV).trans d0, (hw2.cell (p := ⟨S, 1, none⟩) hsV).trans d1, (hw2.cell (p := ⟨S, 2, none⟩) hsV).trans d2, BV.out.trans (hw2.mono (Nat.le_of_lt hsV)), Nat.lt_of_lt_of_le hsV hw2.size⟩
  clear hf hw2 HNV HSR BV d0 d1 d2 hsV hV g0 g1 g2 f0 f1 f2
  obtain rfl := N2.out.fil.none
  go_wp2_with fail
  refine (HWK.out _).mono ?_
  rintro e wz ⟨rfl, hw⟩
  have BZ : Hid (Below S W wz) := (N2.out.on hw).bel
  clear hw
  go_wp2_with fail
  go_ret
  exact ⟨rfl, BZ.out⟩
 ·have HV : Hid (Valid TT (m2 : Int)) := chk_valid hk0
  obtain rfl : x = .nilIface := by rw [← HXE.out]; exact trErr_zero hk0
  simp only [resOf_ok hk0] at HNW
  clear HXE
  go_enter Try.func4, Try.ntmps4
  go_wp2_with fail
  refine (HFW.out _ HB0.out.1 HB0.out.2).mono ?_
  rintro e w1 ⟨v, rfl, A9, c9, rfl, k7, k8, hn1, hw1⟩
  obtain ⟨⟨g0, g1, g2⟩, ⟨f0, f1, f2⟩, V, hV, ⟨d0, d1, d2⟩, hsrc, hBV, hsV⟩ := HFS.out A9 c9 w1 hn1 hw1
  have HSR := Lib.hid hsrc
  have BV := Lib.hid hBV
  have HNV := Lib.hid (HNW.out A9 c9 V hsrc ⟨HX.out.1, HX.out.2, k7, k8⟩)
  clear HFW HFS HB0 hn1 hw1 hsrc hBV HNW k8
  go_wp2_with fail
  refine HNV.out.mono ?_
  rintro e w2 ⟨fv, rfl, hf, hw2⟩
  have N2 : Hid (NSt S W w2 fv A1 m1 c1 A2 m2 c2 A9 l c9 dd LL TT TT) := ⟨HSR.out.below hw2, hf, (hw2.cell (p := ⟨S, 0, none⟩) hsV).trans d0, (hw2.cell (p := ⟨S, 1, none⟩) hsV).trans d1, (hw2.cell (p := ⟨S, 2, none⟩) hsV).trans d2, BV.out.trans (hw2.mono (Nat.le_of_lt hsV)), Nat.lt_of_lt_of_le hsV hw2.size⟩
  clear hf hw2 HNV HSR BV d0 d1 d2 hsV hV g0 g1 g2 f0 f1 f2
  obtain ⟨fb, rfl⟩ := N2.out.fil.some HV.out.ne
  have HN2 := Lib.hid (N2.out.src.lt)
  have e1 := N2.out.e1
  have HLT := Lib.hid N2.out.sz
  go_wp2_with fail
  go_loopg [33] (m2 + 1) (fun h s33 wr => ∃ i : Nat, s33 = .int .i64 i ∧ Hid (i ≤ m2 ∧ i + h = m2 + 1) ∧ Hid (OrdTo LL i) ∧ Hid (Below w2.heap.size w2 wr))
  case atStart => exact ⟨0, rfl, by show _ ∧ _; omega, OrdTo.zero LL, Below.refl _ _⟩
  case round =>
   obtain ⟨i, rfl, HI, HO, BW⟩ := hrel
   generalize wr = wq at *
   have NQ := Lib.hid (N2.out.on BW.out)
   by_cases hi : i < m2
   ·have hiz : (i : Int) < (m2 : Int) := by omega
    obtain ⟨tb, tof, rfl, htb, t0, t1, t2, t3, t4⟩ := tv_get NQ.out.src.tok (at_tok (i := i) (by have := HN2.out; omega))
    obtain ⟨W3, hW3, hB3, hs3, f0, f1, f2, f3, f4⟩ := tv_box wq (tokV LL (i : Int)) 46
    have N3 := Lib.hid (NQ.out.on hB3)
    have e13 := N3.out.e1
    have hPQ : S < W3.heap.size := N3.out.sz
    obtain ⟨P, hP⟩ : ∃ P, wq.heap.size = P := ⟨_, rfl⟩
    rw [hP] at f0 f1 f2 f3 f4 hs3
    have BW3 : Hid (Below w2.heap.size w2 W3) := BW.out.trans (hB3.mono BW.out.size)
    by_cases h1 : (tokV LL (i : Int)).t < (tokV LL (i : Int)).f
    ·have d1 : decide ((tokV LL (i : Int)).t < (tokV LL (i : Int)).f) = true := decide_eq_true h1
     clear hB3 BW NQ HO
     generalize tokV LL (i : Int) = x at *
     go_wp2_with fail
     go_quiet (fail)
     have NZ := Lib.hid (N3.out.on (below_drewN (Below.refl _ _) nq))
     generalize W3.drewN nq = wd at *
     go_wp2_with fail
     refine (HWK.out _).mono ?_
     rintro e wz ⟨rfl, hw⟩
     have BZ : Hid (Below S W wz) := (NZ.out.on hw).bel
     clear hw
     go_wp2_with fail
     go_ret
     exact ⟨rfl, BZ.out⟩
    ·have d1 : decide ((tokV LL (i : Int)).t < (tokV LL (i : Int)).f) = false := decide_eq_false h1
     rcases Nat.eq_zero_or_pos i with hi0 | hi0
     ·have HO2 : Hid (OrdTo LL (i + 1)) := HO.out.next (by omega) (fun j hj => by omega)
      have hgp : decide ((0 : Int) < (i : Int)) = false := decide_eq_false (by omega)
      have hgp2 : ¬ (0 : Int) < (i : Int) := by omega
      have hgp3 : decide (0 < i) = false := decide_eq_false (by omega)
      clear hB3 BW NQ HO h1 hi0
      generalize tokV LL (i : Int) = x at *
      go_wp2_with fail
      go_quiet (fail)
      go_wp2_with fail
      go_roundg (m2 - i)
      case measure => have := HI.out; omega
      case rel => exact ⟨i + 1, by go_num, by show _ ∧ _; have := HI.out; omega, HO2.out, below_drewN BW3.out _⟩
     ·obtain ⟨g, rfl⟩ : ∃ g, i = g + 1 := ⟨i - 1, by omega⟩
      obtain ⟨_, _, et, _, _, _, u2, _, _⟩ := tv_get N3.out.src.tok (at_tok (i := g) (by have := HN2.out; omega))
      cases et
      have hgp : decide ((0 : Int) < ((g + 1 : Nat) : Int)) = true := decide_eq_true (by omega)
      have hgp2 : (0 : Int) < ((g + 1 : Nat) : Int) := by omega
      have hwr : IntKind.i64.wrap (((g + 1 : Nat) : Int) - 1) = (g : Int) := by rw [IntKind.wrap_i64]; omega
      have hwr2 : IntKind.i64.wrap ((g : Int) + 1 - 1) = (g : Int) := by rw [IntKind.wrap_i64]; omega
      have hgz : (g : Int) < (m2 : Int) := by omega
      by_cases h2 : (tokV LL ((g + 1 : Nat) : Int)).f < (tokV LL (g : Int)).t
      ·have d2 : decide ((tokV LL ((g + 1 : Nat) : Int)).f < (tokV LL (g : Int)).t) = true := decide_eq_true h2
       clear hB3 BW NQ HO h1
       generalize tokV LL ((g + 1 : Nat) : Int) = x at *
       generalize (tokV LL (g : Int)).t = pt at *
       go_wp2_with fail
       go_quiet (fail)
       have NZ := Lib.hid (N3.out.on (below_drewN (Below.refl _ _) nq))
       generalize W3.drewN nq = wd at *
       go_wp2_with fail
       refine (HWK.out _).mono ?_
       rintro e wz ⟨rfl, hw⟩
       have BZ : Hid (Below S W wz) := (NZ.out.on hw).bel
       clear hw
       go_wp2_with fail
       go_ret
       exact ⟨rfl, BZ.out⟩
      ·have d2 : decide ((tokV LL ((g + 1 : Nat) : Int)).f < (tokV LL (g : Int)).t) = false := decide_eq_false h2
       have HO2 : Hid (OrdTo LL (g + 1 + 1)) := HO.out.next (by omega) (fun j hj => (by have e : j = g := (by omega); rw [e]; omega))
       clear hB3 BW NQ HO h1
       generalize tokV LL ((g + 1 : Nat) : Int) = x at *
       generalize (tokV LL (g : Int)).t = pt at *
       go_wp2_with fail
       go_quiet (fail)
       go_wp2_with fail
       go_roundg (m2 - (g + 1))
       case measure => have := HI.out; omega
       case rel => exact ⟨g + 1 + 1, by go_num, by show _ ∧ _; have := HI.out; omega, HO2.out, below_drewN BW3.out _⟩
   ·have hiz : ¬ (i : Int) < (m2 : Int) := by omega
    have HOA : Hid (OrdTo LL m2) := by
     obtain rfl : i = m2 := by have := HI.out; omega
     exact HO.out
    have e2 := NQ.out.e2
    clear N2 e1 HLT BW HO HI hi
    go_wp2_with fail
    go_loopg [65] (l + 1) (fun h s65 wr => ∃ i : Nat, s65 = .int .i64 i ∧ Hid (i ≤ l ∧ i + h = l + 1) ∧ Hid (Below wq.heap.size wq wr))
    case atStart => exact ⟨0, rfl, by show _ ∧ _; omega, Below.refl _ _⟩
    case round =>
     obtain ⟨i, rfl, HI, BW⟩ := hrel
     generalize wr = wp at *
     have NR := Lib.hid (NQ.out.on BW.out)
     by_cases hi : i < l
     ·have hiz : (i : Int) < (l : Int) := by omega
      obtain ⟨ax, ay, ha⟩ : ∃ x y, spanV LL TT (i : Int) = (x, y) := ⟨_, _, rfl⟩
      have HN := Lib.hid (HSP.out (.pointer (some ⟨fb, 0, none⟩)) dd LL TT (i : Int) wp NR.out.fil)
      rw [ha] at HN
      have HA := Lib.hid ha
      clear ha e2
      go_wp2_with fail
      refine HN.out.mono ?_
      rintro e w6 ⟨rfl, hw⟩
      have N6 := Lib.hid (NR.out.on hw)
      have BW6 : Hid (Below wq.heap.size wq w6) := BW.out.trans (hw.mono BW.out.size)
      obtain ⟨P, hP⟩ : ∃ P, w6.heap.size = P := ⟨_, rfl⟩
      obtain ⟨W7, hW7, hB7, hs7, a0, a1⟩ := sp_box w6 ax ay 37
      have N7 := Lib.hid (N6.out.on hB7)
      have BW7 : Hid (Below wq.heap.size wq W7) := BW6.out.trans (hB7.mono BW6.out.size)
      rw [hP] at a0 a1 hs7
      obtain ⟨tb, tof, rfl, htb, hget⟩ := N7.out.src.tree.at_.get (by have := HL.out; omega)
      obtain ⟨K, q, c7, _, _, _, g3, gm, hqc, hc7, hN7⟩ := hget i _ (at_nd (by have := HL.out; omega))
      have HK7 := Lib.hid hN7
      have HGM := Lib.hid gm
      have hq20 : q ≤ 20 := by rw [gm]; exact HSM.out.2 _ (List.mem_of_getElem? (at_nd (by have := HL.out; omega)))
      have HG := Lib.hid hget
      have e2 := N7.out.e2
      clear hw hB7 hget gm hN7 NR N6 BW BW6 HN
      go_wp2_with fail
      go_loopg [79] (q + 1) (fun h s79 wr => ∃ j : Nat, s79 = .int .i64 j ∧ Hid (j ≤ q ∧ j + h = q + 1) ∧ Hid (Below W7.heap.size W7 wr))
      case atStart => exact ⟨0, rfl, by show _ ∧ _; omega, Below.refl _ _⟩
      case round =>
       obtain ⟨j, rfl, HJ, BV⟩ := hrel
       generalize wr = wv at *
       have NV := Lib.hid (N7.out.on BV.out)
       by_cases hj : j < q
       ·have hjz : (j : Int) < (q : Int) := by omega
        obtain ⟨y, hy⟩ : ∃ y, (nd TT i).kids[j]? = some y := ⟨_, List.getElem?_eq_getElem (by have := HGM.out; omega)⟩
        have hym := List.mem_of_getElem? hy
        have hkv : kidV TT (i : Int) (j : Int) = y := kid_is (by have := HL.out; omega) hy
        obtain ⟨bx, bz, hb⟩ : ∃ x y2, spanV LL TT y = (x, y2) := ⟨_, _, rfl⟩
        obtain ⟨k1, k2, k3⟩ := view_within HV.out HN2.out HOA.out (by have := HL.out; omega) hym HA.out hb
        have HKY := Lib.hid (fun w h => HKD.out (.pointer (some ⟨fb, 0, none⟩)) dd LL TT (i : Int) (j : Int) w h)
        rw [hkv] at HKY
        have HSY := Lib.hid (fun w h => HSP.out (.pointer (some ⟨fb, 0, none⟩)) dd LL TT y w h)
        rw [hb] at HSY
        obtain ⟨hy0, hyi⟩ := HV.out.kid i (by have := HL.out; omega) y hym
        obtain ⟨z, rfl⟩ := Int.eq_ofNat_of_zero_le hy0
        have hzl : z < l := by omega
        have hzz : (z : Int) < (l : Int) := by omega
        obtain ⟨K2, q2, c8, _, g1, g2, _, _, _, _, _⟩ := HG.out z _ (at_nd (by have := HL.out; omega))
        have hkd : kd TT (z : Int) = nd TT z := by unfold kd; rw [Int.toNat_natCast]
        rw [hkd] at k3
        generalize (nd TT z).f = zf at *
        generalize (nd TT z).t = zt at *
        have D1 : decide (bx < ax) = false := decide_eq_false (by omega)
        have D2 : decide (bz < bx) = false := decide_eq_false (by omega)
        clear hy hym hkv hb hkd k1 k2 hy0 hyi e2 g3
        go_wp2_with fail
        refine (HKY.out _ NV.out.fil).mono ?_
        rintro e w8 ⟨rfl, hw8⟩
        have N8 := Lib.hid (NV.out.on hw8)
        have B8 : Hid (Below W7.heap.size W7 w8) := BV.out.trans (hw8.mono BV.out.size)
        clear hw8 NV BV
        go_wp2_with fail
        refine (HSY.out _ N8.out.fil).mono ?_
        rintro e w9 ⟨rfl, hw9⟩
        have N9 := Lib.hid (N8.out.on hw9)
        have B9 : Hid (Below W7.heap.size W7 w9) := B8.out.trans (hw9.mono B8.out.size)
        obtain ⟨R, hR⟩ : ∃ R, w9.heap.size = R := ⟨_, rfl⟩
        obtain ⟨X, hX, hBX, hsX, r0, r1⟩ := sp_box w9 bx bz 37
        have NX := Lib.hid (N9.out.on hBX)
        have BXX : Hid (Below W7.heap.size W7 X) := B9.out.trans (hBX.mono B9.out.size)
        rw [hR] at r0 r1 hsX
        have p0 := (BXX.out.cell (p := ⟨P, 0, none⟩) (by show P < _; omega)).trans a0
        have p1 := (BXX.out.cell (p := ⟨P, 1, none⟩) (by show P < _; omega)).trans a1
        have y1 := (BXX.out.cell (p := ⟨tb, tof + z * 4 + 1, none⟩) htb).trans g1
        have y2 := (BXX.out.cell (p := ⟨tb, tof + z * 4 + 2, none⟩) htb).trans g2
        have HSZ : Hid (P < X.heap.size ∧ R < X.heap.size ∧ tb < X.heap.size) := by have h1 := B9.out.size; show _ ∧ _ ∧ _; omega
        clear hw9 N8 N9 B8 B9 hBX g1 g2
        by_cases h3 : ay < bz
        rotate_left
        ·have D3 : decide (ay < bz) = false := decide_eq_false h3
         clear k3
         go_wp2_with fail
         go_quiet (fail)
         go_wp2_with fail
         go_roundg (q - j)
         case measure => have := HJ.out; omega
         case rel => exact ⟨j + 1, by go_num, by show _ ∧ _; have := HJ.out; omega, below_drewN BXX.out _⟩
        ·have D3 : decide (ay < bz) = true := decide_eq_true h3
         have D4 : decide (zf < zt) = false := decide_eq_false (by have := k3 h3; omega)
         have u2 := NX.out.e2
         have FF : Hid (∀ w, Below X.heap.size X w → w.cell? ⟨R, 0, none⟩ = some (.int .i64 bx) ∧ w.cell? ⟨R, 1, none⟩ = some (.int .i64 bz) ∧ w.cell? ⟨P, 0, none⟩ = some (.int .i64 ax) ∧ w.cell? ⟨P, 1, none⟩ = some (.int .i64 ay) ∧ w.cell? ⟨S, 2, none⟩ = some (.slice (some ⟨tb, tof, none⟩) l c9) ∧ w.cell? ⟨tb, tof + z * 4 + 1, none⟩ = some (.int .i64 zf) ∧ w.cell? ⟨tb, tof + z * 4 + 2, none⟩ = some (.int .i64 zt)) := fun w hw =>
          ⟨(hw.cell (p := ⟨R, 0, none⟩) HSZ.out.2.1).trans r0, (hw.cell (p := ⟨R, 1, none⟩) HSZ.out.2.1).trans r1, (hw.cell (p := ⟨P, 0, none⟩) HSZ.out.1).trans p0, (hw.cell (p := ⟨P, 1, none⟩) HSZ.out.1).trans p1, (hw.cell (p := ⟨S, 2, none⟩) NX.out.sz).trans u2, (hw.cell (p := ⟨tb, tof + z * 4 + 1, none⟩) HSZ.out.2.2).trans y1, (hw.cell (p := ⟨tb, tof + z * 4 + 2, none⟩) HSZ.out.2.2).trans y2⟩
         have BB : Hid (Below X.heap.size X X.drew) := (Below.refl _ _).drew
         have NB := Lib.hid (NX.out.on BB.out)
         clear k3 h3 r0 r1 p0 p1 u2 y1 y2
         go_upto_region 19 with fail
         go_region_held3 (fun W' => W'.cell? ⟨R, 0, none⟩ = some (.int .i64 bx) ∧ W'.cell? ⟨R, 1, none⟩ = some (.int .i64 bz) ∧ W'.cell? ⟨P, 0, none⟩ = some (.int .i64 ax) ∧ W'.cell? ⟨P, 1, none⟩ = some (.int .i64 ay) ∧ W'.cell? ⟨S, 2, none⟩ = some (.slice (some ⟨tb, tof, none⟩) l c9) ∧ W'.cell? ⟨tb, tof + z * 4 + 1, none⟩ = some (.int .i64 zf) ∧ W'.cell? ⟨tb, tof + z * 4 + 2, none⟩ = some (.int .i64 zt)) (first | exact FF.out _ (Below.refl _ _) | exact FF.out _ BB.out | go_keep)
          (first | (go_at_call 18; refine (HKY.out _ NB.out.fil).mono ?_; rintro e w11 ⟨rfl, hw11⟩; have BB := Lib.hid (BB.out.trans (hw11.mono BB.out.size)); have NB := Lib.hid (NB.out.on hw11); clear hw11) | fail)
         all_goals go_wp2_with fail
         all_goals go_roundg (q - j)
         all_goals first | (have := HJ.out; omega) | exact ⟨j + 1, by go_num, by show _ ∧ _; have := HJ.out; omega, BXX.out.trans (BB.out.mono BXX.out.size)⟩
       ·have hjz : ¬ (j : Int) < (q : Int) := by omega
        have BZ : Hid (Below wq.heap.size wq wv) := BW7.out.trans (BV.out.mono BW7.out.size)
        clear NV HG HK7 HJ hj
        go_wp2_with fail
        go_roundg (l - i)
        case measure => have := HI.out; omega
        case rel => exact ⟨i + 1, by go_num, by show _ ∧ _; have := HI.out; omega, BZ.out⟩
     ·have hiz : ¬ (i : Int) < (l : Int) := by omega
      clear e2
      go_wp2_with fail
      refine (HWK.out _).mono ?_
      rintro e wz ⟨rfl, hw⟩
      have BZ : Hid (Below S W wz) := (NR.out.on hw).bel
      clear hw
      go_wp2_with fail
      go_ret
      exact ⟨rfl, BZ.out⟩
end Go.Proofs.Ytpjgapnihmiceaa
