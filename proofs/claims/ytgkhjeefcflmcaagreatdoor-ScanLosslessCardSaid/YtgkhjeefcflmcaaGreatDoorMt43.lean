/-
  Layer 11 (scan): the law ScanLossless.
-/
import Derived.Test.YtgkhjeefcflmcaaGreatDoorMt42
import Derived.Test.YtgkhjeefcflmcaaGreatDoorMt40
import Derived.Test.YtgkhjeefcflmcaaGreatDoorMt08
import Derived.Deep.QuietTactic
import Derived.BigQuiet
import Derived.Test.YtgkhjeefcflmcaaGreatDoorMt41
namespace Go.Proofs.YtgkhjeefcflmcaaGreatDoor
open Go.RowKit Go.Sort
set_option linter.unusedSimpArgs false
set_option linter.unusedVariables false
def PrevT (X : List TkN) (i : Nat) (pa : Bool) : Prop := (i = 0 → pa = true) ∧ ∀ j x, i = j + 1 → X[j]? = some x → x.a = pa
theorem prev_next {X : List TkN} {i : Nat} {x : TkN} (hx : X[i]? = some x) : PrevT X (i + 1) x.a :=
 ⟨fun h => by omega, fun j y hj hy => by
  have : j = i := by omega
  subst this
  rw [hx] at hy
  cases hy
  rfl⟩
theorem good_at {ta : List UInt8} {X : List TkN} {i e : Nat} {pa : Bool} {x : TkN} (hx : X[i]? = some x) (h : GoodT ta e pa (X.drop i)) :
    (e ≤ x.f ∧ x.f ≤ x.t ∧ x.t ≤ ta.length) ∧
    ((x.a = true ∧ x.f = x.t ∧ x.k = 86 ∧ x.e = 0 ∧ pa = false) ∨
     (x.a = false ∧ x.f < x.t ∧ (x.k = 6 ↔ x.e ≠ 0) ∧ x.k ≠ 0 ∧ x.k < 88 ∧ pcF ((ta.drop x.f).take (x.t - x.f)) = ⟨x.k, x.t - x.f, x.e, false⟩)) ∧
    GoodT ta x.t x.a (X.drop (i + 1)) := by
  obtain ⟨hi, rfl⟩ := List.getElem?_eq_some_iff.1 hx
  rw [List.drop_eq_getElem_cons hi] at h
  exact ⟨⟨h.1.1, h.1.2.1, h.1.2.2.1⟩, h.2.1, h.2.2⟩
theorem own_is {u : List UInt8} {k e D : Nat} (hl : u.length = D) (hD : 0 < D) (h : pcF u = ⟨k, D, e, false⟩) (hk : k ≠ 0) :
  toks u 0 0 = ⟨k, 0, D, false, e⟩ :: (if endsA k = true then [⟨86, D, D, true, 0⟩] else []) := by
 match u, hl with
 | [], hl => simp at hl; omega
 | c :: t, hl =>
  subst hl
  exact toks_own h hk
set_option maxRecDepth 100000 in
set_option maxHeartbeats 8000000 in
theorem Lossless_law (A1 : Option Addr) (n1 cap1 : Nat) (l1 : List UInt8) (w : World) (hb1 : Byts w w.heap.size A1 (bi l1)) (hn1 : l1.length = n1) (hcap1 : n1 ≤ cap1) (hcm1 : cap1 ≤ 9223372036854775807) (K : Kit11 w) :
  Calls Tryz.prog 5 #[.slice A1 n1 cap1] w fun e w' => e = .returned (.bool true) ∧ Below w.heap.size w w' := by
 obtain ⟨m1, hm1⟩ : ∃ m, min n1 200 = m := ⟨_, rfl⟩
 have hmz1 : min (n1 : Int) 200 = (m1 : Int) := by omega
 have hmn1 : m1 ≤ n1 := by omega
 have hmc1 : m1 ≤ cap1 := by omega
 have h200 : m1 ≤ 200 := by omega
 have hbt1 := hb1.take m1
 rw [bi_take] at hbt1
 obtain ⟨ta, hta⟩ : ∃ t, l1.take m1 = t := ⟨_, rfl⟩
 have hl1 : ta.length = m1 := by rw [← hta, List.length_take]; omega
 rw [hta] at hbt1
 obtain ⟨S, hS⟩ : ∃ S, w.heap.size = S := ⟨_, rfl⟩
 have HZ1 : Hid (∀ V, Below S w V → S ≤ V.heap.size) := fun V h => by rw [← hS]; exact h.size
 have HK : Hid (∀ V, Below S w V → Kit11 V) := fun V h => K.keep hS h
 have HBY1 : Hid (∀ V, Below S w V → Byts V S A1 (bi ta)) := fun V h => by rw [hS] at hbt1; exact hbt1.below h (Nat.le_refl _)
 have HTK : Hid (∀ (A : Option Addr) (n cap B : Nat) (l : List UInt8) (V : World), Below S w V → Byts V B A (bi l) → B ≤ V.heap.size → l.length = n → n ≤ 900 → n ≤ cap → cap ≤ 9223372036854775807 →
   Calls Tryz.prog 7 #[.slice A n cap] V fun e w' => ∃ v, e = .returned (.tuple #[v, .nilIface]) ∧ OwnV tkC 5 37 w' V.heap.size v (toks l 0 0) ∧ Below V.heap.size V w') := fun A n cap B l V hV h1 h2 h3 h4 h5 h6 =>
  TokensP_run A n cap B l V (HK.out V hV) h1 h2 h3 h4 h5 h6
 have HTT : Hid (∀ (V : World) (k f t : Int) (au : Bool) (en : Int), Below S w V → Calls Tryz.prog 13 #[.slice A1 m1 cap1, .agg #[.int .i64 k, .int .i64 f, .int .i64 t, .bool au, .int .i64 en]] V fun e w' => e = .returned (.string (txtF ta f t)) ∧ Below V.heap.size V w') := fun V k f t au en h =>
  TextT_run A1 m1 cap1 S ta k f t au en V (HBY1.out V h) (HZ1.out V h) hl1 (by omega) hmc1
 have HSP : Hid (∀ (V : World) (Ax : Option Addr) (cx B : Nat), Below S w V → CellsV tkC V B Ax (toks ta 0 0) → B ≤ V.heap.size → Calls Tryz.prog 11 #[.slice A1 m1 cap1, .slice Ax (toks ta 0 0).length cx] V fun e w' => e = .returned .nilIface ∧ Below V.heap.size V w') := fun V Ax cx B h hc hB =>
  SoundP_run A1 Ax m1 cap1 (toks ta 0 0).length cx S B ta ((toks ta 0 0).map TkN.up) V (HK.out V h) (HBY1.out V h) (HZ1.out V h) hl1 (by omega) hmc1 hcm1 (tk_up hc) hB (List.length_map ..) (by have := toks_many _ ta 0 0 (Nat.le_refl _); omega) (good_sound ta _ 0 0 true (toks_is ta))
 have HB0 : Hid (Below S w w) := Below.refl _ _
 have HL1 := Lib.hid hl1
 have HG0 : Hid (GoodT ta 0 true ((toks ta 0 0).drop 0)) := toks_is ta
 have hXl : (toks ta 0 0).length ≤ 201 := by have := toks_many _ ta 0 0 (Nat.le_refl _); omega
 rw [hS]
 clear hb1 hbt1 hn1 K hta hm1 hS hl1
 go_enter Tryz.func5, Tryz.ntmps5
 go_wp2_with fail
 refine (HTK.out A1 m1 cap1 S ta w HB0.out (HBY1.out _ HB0.out) (HZ1.out _ HB0.out) HL1.out (by omega) hmc1 hcm1).mono ?_
 rintro e x1 ⟨vx, rfl, hox, hbx⟩
 have BX := Lib.hid (HB0.out.trans (hbx.mono (HZ1.out _ HB0.out)))
 obtain ⟨Ax, cx, rfl, hxc, hxm, hcx⟩ := hox.cells
 have HSX := Lib.hid (HSP.out x1 Ax cx x1.heap.size BX.out hcx (Nat.le_refl _))
 have CX0 := Lib.hid hcx
 clear hox hbx hcx HSP
 generalize toks ta 0 0 = X at *
 go_wp2_with fail
 refine HSX.out.mono ?_
 rintro e x2 ⟨rfl, hb2⟩
 have B2 := Lib.hid (BX.out.trans (hb2.mono (HZ1.out _ BX.out)))
 have CX := Lib.hid ((CX0.out.below hb2 (Nat.le_refl _)).more hb2.size)
 clear hb2 HSX CX0
 go_wp2_with fail
 go_loopg [29] (X.length + 1) (fun h s29 wr => ∃ i : Nat, s29 = .int .i64 (i : Int) ∧ Hid (i ≤ X.length ∧ X.length < i + h) ∧ Hid (Below S w wr) ∧ Hid (Below x2.heap.size x2 wr) ∧ ∃ e pa, Hid (GoodT ta e pa (X.drop i)) ∧ Hid (PrevT X i pa))
 case atStart => exact ⟨0, rfl, by show _ ∧ _; omega, B2, Below.refl _ _, 0, true, HG0, ⟨fun _ => rfl, fun j x h => by omega⟩⟩
 case round =>
  clear HG0
  obtain ⟨i, rfl, HI, HW, HX, e0, pa, HGD, HPV⟩ := hrel
  by_cases hlt : i < X.length
  ·have hltz : (i : Int) < ((X.length : Nat) : Int) := by omega
   obtain ⟨x, hx⟩ : ∃ x, X[i]? = some x := ⟨_, List.getElem?_eq_getElem hlt⟩
   obtain ⟨⟨q1, q2, q3⟩, q4, q5⟩ := good_at hx HGD.out
   have HPN := Lib.hid (prev_next hx)
   have HGN := Lib.hid q5
   obtain ⟨g1, o1, rfl, hg1, a0, a1, a2, a3, a4⟩ := tk_get (tk_up ((CX.out).below HX.out (Nat.le_refl _))) (i := i) (x := x.up) (by rw [List.getElem?_map, hx]; rfl)
   obtain ⟨k, f, t, au, en⟩ := x
   have c0 : wr.cell? ⟨g1, o1 + i * 5, none⟩ = some (.int .i64 (k : Int)) := a0
   have c1 : wr.cell? ⟨g1, o1 + i * 5 + 1, none⟩ = some (.int .i64 (f : Int)) := a1
   have c2 : wr.cell? ⟨g1, o1 + i * 5 + 2, none⟩ = some (.int .i64 (t : Int)) := a2
   have c3 : wr.cell? ⟨g1, o1 + i * 5 + 3, none⟩ = some (.bool au) := a3
   have c4 : wr.cell? ⟨g1, o1 + i * 5 + 4, none⟩ = some (.int .i64 (en : Int)) := a4
   simp only [] at q1 q2 q3 q4 HGN HPN
   rw [HL1.out] at q3
   obtain ⟨W7, hW7⟩ : ∃ W7, wr.alloc (.cells #[.int .i64 (k : Int), .int .i64 (f : Int), .int .i64 (t : Int), .bool au, .int .i64 (en : Int)] 37) = W7 := ⟨_, rfl⟩
   have HTA : Hid (TAt W7 wr.heap.size ⟨k, f, t, au, en⟩) := by rw [← hW7]; exact TAt.new wr ⟨k, f, t, au, en⟩ _
   have HB7 : Hid (Below S w W7) := by rw [← hW7]; exact HW.out.alloc (HZ1.out _ HW.out) _
   have HX7 : Hid (Below x2.heap.size x2 W7) := by rw [← hW7]; exact HX.out.alloc HX.out.size _
   have HW7 := Lib.hid hW7
   have hi9 : i ≤ 2000 := by omega
   have hf9 : f ≤ 900 := by omega
   have ht9 : t ≤ 900 := by omega
   clear a0 a1 a2 a3 a4 hW7
   rcases q4 with ⟨rfl, rfl, hk86, hen0, rfl⟩ | ⟨rfl, p1, p2, p3, p4, p5⟩
   ·have hi0 : i ≠ 0 := fun h => by have := HPV.out.1 h; cases this
    obtain ⟨j, hij⟩ : ∃ j, i = j + 1 := ⟨i - 1, by omega⟩
    obtain ⟨y, hy⟩ : ∃ y, X[j]? = some y := ⟨_, List.getElem?_eq_getElem (by omega)⟩
    have hya := HPV.out.2 j y hij hy
    obtain ⟨g2, o2, he2, hg2, b0, b1, b2, b3, b4⟩ := tk_get (tk_up ((CX.out).below HX7.out (Nat.le_refl _))) (i := j) (x := y.up) (by rw [List.getElem?_map, hy]; rfl)
    cases he2
    have d3 : W7.cell? ⟨g1, o1 + j * 5 + 3, none⟩ = some (.bool false) := by rw [← hya]; exact b3
    have k1 : ((k : Int) != 86) = false := by rw [hk86]; rfl
    have k2 : ((k : Int) == 6) = false := by rw [hk86]; rfl
    have k3 : ((en : Int) != 0) = false := by rw [hen0]; rfl
    have hi1 : ((i : Int) == 0) = false := beq_eq_false_iff_ne.2 (by omega)
    have hi2 : (i : Int) - 1 = (j : Int) := by omega
    have hj9 : j < X.length := by omega
    have D3 := Lib.hid d3
    clear b0 b1 b2 b3 b4 hy hya hx HPV HTT HTK HBY1 HGD d3 hij hk86 hen0
    have hW7 := HW7.out
    subst hW7
    have d3 := D3.out
    clear HW7 HTA
    go_wp2_with fail
    go_roundg (X.length - i)
    case measure => have := HI.out; omega
    case rel => exact ⟨i + 1, by go_num, by show _ ∧ _; have := HI.out; omega, HB7, HX7, _, _, HGN, HPN⟩
   ·obtain ⟨D, hD⟩ : ∃ D, t - f = D := ⟨_, rfl⟩
    obtain ⟨u, hu⟩ : ∃ u, (ta.drop f).take (t - f) = u := ⟨_, rfl⟩
    have hul : u.length = D := by rw [← hu, List.length_take, List.length_drop, HL1.out]; omega
    have hxx : txtF ta f t = bs u := by
     unfold txtF
     rw [HL1.out, if_neg (by omega), Int.toNat_natCast, Int.toNat_natCast, hu]
    have HTX := Lib.hid (HTT.out W7 k f t false en HB7.out)
    rw [hxx] at HTX
    rw [hu, hD] at p5
    have hown := Lib.hid (own_is hul (by omega) p5 p3)
    have hft : ((f : Int) == (t : Int)) = false := beq_eq_false_iff_ne.2 (by omega)
    obtain ⟨kk, hk6, he0⟩ : ∃ kk, ((k : Int) == 6) = kk ∧ ((en : Int) != 0) = kk := ⟨_, rfl, by
     by_cases h6 : k = 6
     ·have := p2.1 h6
      rw [beq_iff_eq.2 (by omega : (k : Int) = 6)]
      exact bne_iff_ne.2 (by omega)
     ·have h0 : en = 0 := by
       by_cases h : en = 0
       ·exact h
       ·exact absurd (p2.2 h) h6
      rw [beq_eq_false_iff_ne.2 (by omega : (k : Int) ≠ 6), h0]
      rfl⟩
    have hDz : (t : Int) - (f : Int) = (D : Int) := by omega
    have hD9 : D ≤ 900 := by omega
    have hbsz : (bs u).size = D := by rw [← hul]; rfl
    have HBS := Lib.hid hbsz
    have HUL := Lib.hid hul
    clear hxx p5 p2 hx HPV HGD hu hD HTT hul hbsz
    go_wp2_with fail
    rw [HW7.out]
    obtain ⟨e0, e1, e2, e3, e4, _, _, _, _, _⟩ := HTA.out
    simp only [] at e0 e1 e2 e3 e4
    clear c0 c1 c2 c3 c4 HW7
    go_wp2_with fail
    refine HTX.out.mono ?_
    rintro e V8 ⟨rfl, hb8⟩
    have B8 := Lib.hid (HB7.out.trans (hb8.mono (HZ1.out _ HB7.out)))
    have X8 := Lib.hid (HX7.out.trans (hb8.mono HX7.out.size))
    have T8 := Lib.hid (HTA.out.below hb8)
    clear hb8 HTX e0 e1 e2 e3 e4 HTA
    obtain ⟨cc, V9, hcv, hc1, hc2, hby9, hb9⟩ := run_conv_str V8 (bs u) (by rw [HBS.out]; unfold maxLen; omega)
    rw [HBS.out] at hcv hc1
    rw [bts_bs] at hby9
    unfold maxLen at hc2
    have B9 := Lib.hid (B8.out.trans (hb9.mono (HZ1.out _ B8.out)))
    have X9 := Lib.hid (X8.out.trans (hb9.mono X8.out.size))
    have T9 := Lib.hid (T8.out.below hb9)
    have HT9 := Lib.hid (HTK.out _ D cc _ u V9 B9.out hby9 (Nat.le_refl _) HUL.out hD9 hc1 hc2)
    clear hb9 hby9 T8 HTK HBY1
    go_wp2_with fail
    refine HT9.out.mono ?_
    rintro e V ⟨vy, rfl, hoy, hby⟩
    have B10 := Lib.hid (B9.out.trans (hby.mono (HZ1.out _ B9.out)))
    have X10 := Lib.hid (X9.out.trans (hby.mono X9.out.size))
    have T10 := T9.out.below hby
    obtain ⟨Ay, cy, rfl, hyc, hym, hcy⟩ := hoy.cells
    rw [hown.out] at hcy
    rw [hown.out]
    obtain ⟨m0, m1', m2, m3, m4, _, _, _, _, _⟩ := T10
    simp only [] at m0 m1' m2 m3 m4
    clear hoy hby HT9 hown T9 hcv
    by_cases hE : endsA k = true
    ·rw [if_pos hE] at hcy ⊢
     obtain ⟨g2, o2, rfl, hg2, b0, b1, b2, b3, b4⟩ := tk_get (tk_up hcy) (i := 0) rfl
     obtain ⟨_, _, hee, _, _, _, _, r3, _⟩ := tk_get (tk_up hcy) (i := 1) rfl
     cases hee
     simp [TkN.up] at b0 b1 b2 b3 b4 r3
     clear hcy
     go_wp2_with fail
     go_quiet (fail)
     go_wp2_with fail
     go_roundg (X.length - i)
     case measure => have := HI.out; omega
     case rel => exact ⟨i + 1, by go_num, by show _ ∧ _; have := HI.out; omega, below_drewN B10.out _, below_drewN X10.out _, _, _, HGN, HPN⟩
    ·rw [if_neg hE] at hcy ⊢
     obtain ⟨g2, o2, rfl, hg2, b0, b1, b2, b3, b4⟩ := tk_get (tk_up hcy) (i := 0) rfl
     simp [TkN.up] at b0 b1 b2 b3 b4
     clear hcy
     go_wp2_with fail
     go_quiet (fail)
     go_wp2_with fail
     go_roundg (X.length - i)
     case measure => have := HI.out; omega
     case rel => exact ⟨i + 1, by go_num, by show _ ∧ _; have := HI.out; omega, below_drewN B10.out _, below_drewN X10.out _, _, _, HGN, HPN⟩
  ·have hltz : ¬ (i : Int) < ((X.length : Nat) : Int) := by omega
   clear HTT HTK HBY1 CX HX
   go_wp2_with fail
   refine (works11_run _ (HK.out _ HW.out)).mono ?_
   rintro e V7 ⟨rfl, hb7⟩
   have B7 := Lib.hid (HW.out.trans (hb7.mono (HZ1.out _ HW.out)))
   go_wp2_with fail
   go_ret
   exact ⟨rfl, B7.out⟩
end Go.Proofs.YtgkhjeefcflmcaaGreatDoor
namespace Go.Proofs.YtgkhjeefcflmcaaGreatDoor
open Go.RowKit Go.Sort
theorem lossless_any (A1 : Option Addr) (n1 cap1 : Nat) (l1 : List Int) (W : World) (hb1 : Byts W W.heap.size A1 l1) (hl1 : l1.length = n1) (hc1 : n1 ≤ cap1) (hm1 : cap1 ≤ 9223372036854775807) (hs : Ml W) (hh : TabAt W ∧ Heads W ∧ ErrVars W ∧ ErrType W) :
  Calls Tryz.prog 5 #[.slice A1 n1 cap1] W fun e w' => e = .returned (.bool true) ∧ Below W.heap.size W w' := by
 obtain ⟨m1, rfl⟩ := bi_back l1 hb1.1
 rw [bi_length] at hl1
 exact Lossless_law A1 n1 cap1 m1 W hb1 hl1 hc1 hm1 ⟨hs, hh.1, hh.2.1, hh.2.2.1, hh.2.2.2⟩
end Go.Proofs.YtgkhjeefcflmcaaGreatDoor
