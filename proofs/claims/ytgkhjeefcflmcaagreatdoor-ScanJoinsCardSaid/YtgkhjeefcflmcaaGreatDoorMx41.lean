/-
  Layer 11 (scan): the law ScanJoins.
-/
import Derived.Test.YtgkhjeefcflmcaaGreatDoorMx39
import Derived.Test.YtgkhjeefcflmcaaGreatDoorMx23
import Derived.Test.YtgkhjeefcflmcaaGreatDoorMx40
namespace Go.Proofs.YtgkhjeefcflmcaaGreatDoor
open Go.RowKit Go.Sort
set_option linter.unusedSimpArgs false
set_option linter.unusedVariables false
theorem good_mem {all : List UInt8} : ∀ {L : List TkN} {e : Nat} {pa : Bool}, GoodT all e pa L → ∀ t ∈ L, t.f ≤ t.t ∧ t.t ≤ all.length
 | [], _, _, _, t, ht => by cases ht
 | x :: L, e, pa, ⟨⟨h1, h2, h3, _⟩, _, h6⟩, t, ht => by
  rcases List.mem_cons.1 ht with rfl | ht
  ·exact ⟨h2, h3⟩
  ·exact good_mem h6 t ht
theorem join_is (a b : List UInt8) : (∃ L0 t, toks (a ++ [10]) 0 0 = L0 ++ [t] ∧ t.e = 12 ∧ t.t = a.length + 1) ∨ toks (a ++ [10] ++ b) 0 0 = toks (a ++ [10]) 0 0 ++ (toks b 0 0).map (TkN.sh (a.length + 1)) := by
 rcases toks_join _ a b 0 0 (Nat.le_refl _) with ⟨L0, t, h1, h2, h3⟩ | h
 ·exact .inl ⟨L0, t, h1, h2, by omega⟩
 ·refine .inr ?_
  rw [List.append_assoc, List.singleton_append, h]
  have := toks_sh _ b (a.length + 1) 0 0 (Nat.le_refl _)
  rw [Nat.add_zero] at this
  rw [show 0 + a.length + 1 = a.length + 1 by omega, this]
theorem one_u8 (w : World) (x : Int) (T : TypeId) : NumsK .u8 (w.alloc (.cells #[.int .u8 x] T)) (w.heap.size + 1) (some ⟨w.heap.size, 0, none⟩) [x] := fun _ => by
 refine ⟨_, _, rfl, by omega, fun j u hu => ?_⟩
 match j, hu with
 | 0, hu => cases hu; rw [World.cell?_alloc_at _ _ _ _ rfl]; rfl
set_option pp.deepTerms true in
set_option pp.maxSteps 100000 in
set_option maxRecDepth 100000 in
set_option maxHeartbeats 8000000 in
theorem Joins_law (A1 A2 : Option Addr) (n1 cap1 n2 cap2 : Nat) (l1 l2 : List UInt8) (w : World) (hb1 : Byts w w.heap.size A1 (bi l1)) (hb2 : Byts w w.heap.size A2 (bi l2)) (hn1 : l1.length = n1) (hn2 : l2.length = n2) (hcap1 : n1 ≤ cap1) (hcap2 : n2 ≤ cap2)
    (hcm1 : cap1 ≤ 9223372036854775807) (hcm2 : cap2 ≤ 9223372036854775807) (K : Kit11 w) :
    Calls Tryz.prog 6 #[.slice A1 n1 cap1, .slice A2 n2 cap2] w fun e w' => e = .returned (.bool true) ∧ Below w.heap.size w w' := by
  obtain ⟨m1, hm1⟩ : ∃ m, min n1 100 = m := ⟨_, rfl⟩
  obtain ⟨m2, hm2⟩ : ∃ m, min n2 100 = m := ⟨_, rfl⟩
  have hmz1 : min (n1 : Int) 100 = (m1 : Int) := by omega
  have hmz2 : min (n2 : Int) 100 = (m2 : Int) := by omega
  have hmn1 : m1 ≤ n1 := by omega
  have hmn2 : m2 ≤ n2 := by omega
  have hmc1 : m1 ≤ cap1 := by omega
  have hmc2 : m2 ≤ cap2 := by omega
  have h100 : m1 ≤ 100 := by omega
  have h200 : m2 ≤ 100 := by omega
  have hbt1 := hb1.take m1
  have hbt2 := hb2.take m2
  rw [bi_take] at hbt1 hbt2
  obtain ⟨ta, hta⟩ : ∃ t, l1.take m1 = t := ⟨_, rfl⟩
  obtain ⟨tb, htb⟩ : ∃ t, l2.take m2 = t := ⟨_, rfl⟩
  have hl1 : ta.length = m1 := by rw [← hta, List.length_take]; omega
  have hl2 : tb.length = m2 := by rw [← htb, List.length_take]; omega
  rw [hta] at hbt1
  rw [htb] at hbt2
  obtain ⟨S, hS⟩ : ∃ S, w.heap.size = S := ⟨_, rfl⟩
  have HK : Hid (∀ V, Below S w V → Kit11 V) := fun V h => K.keep hS h
  have HBY1 : Hid (∀ V, Below S w V → Byts V S A1 (bi ta)) := fun V h => by rw [hS] at hbt1; exact hbt1.below h (Nat.le_refl _)
  have HBY2 : Hid (∀ V, Below S w V → Byts V S A2 (bi tb)) := fun V h => by rw [hS] at hbt2; exact hbt2.below h (Nat.le_refl _)
  have HTK : Hid (∀ (A : Option Addr) (n cap B : Nat) (l : List UInt8) (V : World), Below S w V → Byts V B A (bi l) → B ≤ V.heap.size → l.length = n → n ≤ 900 → n ≤ cap → cap ≤ 9223372036854775807 →
      Calls Tryz.prog 7 #[.slice A n cap] V fun e w' => ∃ v, e = .returned (.tuple #[v, .nilIface]) ∧ OwnV tkC 5 37 w' V.heap.size v (toks l 0 0) ∧ Below V.heap.size V w') := fun A n cap B l V hV h1 h2 h3 h4 h5 h6 =>
    TokensP_run A n cap B l V (HK.out V hV) h1 h2 h3 h4 h5 h6
  have HB0 : Hid (Below S w w) := Below.refl _ _
  have HS := Lib.hid hS
  have HL1 := Lib.hid hl1
  have HL2 := Lib.hid hl2
  have hj := join_is ta tb
  obtain ⟨tx, htx⟩ : ∃ x, ta ++ [10] = x := ⟨_, rfl⟩
  rw [htx] at hj
  obtain ⟨tz, htz⟩ : ∃ x, tx ++ tb = x := ⟨_, rfl⟩
  rw [htz, hl1] at hj
  have HTX := Lib.hid htx
  have HTZ := Lib.hid htz
  have HLX : Hid (tx.length = m1 + 1) := by show _ = _; rw [← htx, List.length_append, hl1]; rfl
  have HLZ : Hid (tz.length = m1 + 1 + m2) := by show _ = _; rw [← htz, List.length_append, HLX.out, hl2]
  have hmY : ∀ t ∈ toks tb 0 0, t.f ≤ t.t ∧ t.t ≤ 100 := fun t ht => by have := good_mem (toks_is tb) t ht; rw [hl2] at this; omega
  have hXl : (toks tx 0 0).length ≤ 102 := by have := toks_many _ tx 0 0 (Nat.le_refl _); have := HLX.out; omega
  have hYl : (toks tb 0 0).length ≤ 101 := by have := toks_many _ tb 0 0 (Nat.le_refl _); omega
  have hZl : (toks tz 0 0).length ≤ 202 := by have := toks_many _ tz 0 0 (Nat.le_refl _); have := HLZ.out; omega
  have HJ := Lib.hid hj
  have HMY := Lib.hid hmY
  have HXYZ := Lib.hid (And.intro hXl (And.intro hYl hZl))
  have HZ1 : Hid (∀ V, Below S w V → S ≤ V.heap.size) := fun V h => by rw [← hS]; exact h.size
  rw [hS]
  clear hb1 hb2 hbt1 hbt2 hn1 hn2 K hta htb hm1 hm2 hS hl1 hl2 hj htx htz hmY hXl hYl hZl
  go_enter Tryz.func6, Tryz.ntmps6
  go_wp2_with fail
  go_quiet (fail)
  have B1 := Lib.hid (below_drewN HB0.out nq)
  generalize w.drewN nq = W at *
  have Z1 := HZ1.out W B1.out
  have O0x : Hid (OwnK .u8 5 (W.alloc (.cells #[] 5)) W.heap.size (.slice (some ⟨W.heap.size, 0, none⟩) 0 0) []) := OwnK.lit .u8 5 W W.heap.size [] (Nat.le_refl _) (by simp)
  have N0x : Hid (NumsK .u8 (W.alloc (.cells #[] 5)) S A1 (bi ta)) := (HBY1.out _ (B1.out.alloc Z1 _)).2
  have B2x : Hid (Below S w (W.alloc (.cells #[] 5))) := B1.out.alloc Z1 _
  have hq0x : W.heap.size ≤ (W.alloc (.cells #[] 5)).heap.size := by simp
  have HRx : Hid (S ≤ W.heap.size) := Z1
  go_wp2_with (first
    | (at_builtin
       refine wpList_app u8_slice _ rfl (.tmp 25) (.tmp 26) rfl W.heap.size _ [] rfl O0x.out S A1 m1 cap1 (bi ta) rfl N0x.out (by rw [bi_length]; exact HL1.out) (by simp) (by rw [bi_length, HL1.out]; omega) hq0x ?_
       intro v2x w2x o2 g2 t2
       have B3x : Hid (Below S w w2x) := B2x.out.grown g2 (HZ1.out _ B2x.out) (fun g hg => Nat.le_trans HRx.out (own_ge O0x.out g hg))
       have q2 : W.heap.size ≤ w2x.heap.size := Nat.le_trans hq0x g2.size
       have O2x : Hid (OwnK .u8 5 (w2x.alloc (.cells #[.int .u8 10] 5)) W.heap.size v2x (bi ta)) := o2.below ((Below.refl _ _).alloc (Nat.le_refl _) _)
       have N2x : Hid (NumsK .u8 (w2x.alloc (.cells #[.int .u8 10] 5)) (w2x.heap.size + 1) (some ⟨w2x.heap.size, 0, none⟩) [10]) := one_u8 _ 10 _
       have B4x : Hid (Below S w (w2x.alloc (.cells #[.int .u8 10] 5))) := B3x.out.alloc (HZ1.out _ B3x.out) _
       have Q4x : Hid (W.heap.size ≤ (w2x.alloc (.cells #[.int .u8 10] 5)).heap.size) := by show _ ≤ _; simp; omega
       clear o2 g2 t2 q2)
    | (at_builtin
       refine wpList_app u8_slice _ rfl (.tmp 27) (.tmp 28) rfl W.heap.size _ (bi ta) rfl O2x.out (w2x.heap.size + 1) (some ⟨w2x.heap.size, 0, none⟩) 1 1 [10] rfl N2x.out rfl (by rw [bi_length, HL1.out]; omega) (by simp) Q4x.out ?_
       intro v3x w3x o3 g3 t3
       have B5x : Hid (Below S w w3x) := B4x.out.grown g3 (HZ1.out _ B4x.out) (fun g hg => Nat.le_trans HRx.out (own_ge O2x.out g hg))
       have Q5x : Hid (W.heap.size ≤ w3x.heap.size) := Nat.le_trans Q4x.out g3.size
       rw [show bi ta ++ [10] = bi tx by rw [← HTX.out, ← bi_app]; rfl] at o3
       have O3x := Lib.hid o3
       obtain ⟨A3x, c3x, rfl, hc3x, hc4x, hnu⟩ := o3.nums
       rw [bi_length] at hc3x
       have Y3x : Hid (Byts w3x w3x.heap.size A3x (bi tx)) := byts_nums hnu
       have HT3x := Lib.hid (HTK.out A3x (bi tx).length c3x _ tx w3x B5x.out Y3x.out (Nat.le_refl _) (by rw [bi_length]) (by rw [bi_length, HLX.out]; omega) (by rw [bi_length]; exact hc3x) (by unfold maxLen at hc4x; exact hc4x))
       clear hnu
       clear o3 g3 t3))
  refine HT3x.out.mono ?_
  rintro e x1 ⟨vx, rfl, hox, hbx⟩
  have BX := Lib.hid (B5x.out.trans (hbx.mono (HZ1.out _ B5x.out)))
  have OX := Lib.hid hox
  clear hox hbx HT3x Y3x
  go_wp2_with fail
  refine (HTK.out A2 m2 cap2 S tb x1 BX.out (HBY2.out _ BX.out) (HZ1.out _ BX.out) HL2.out (by omega) hmc2 hcm2).mono ?_
  rintro e y1 ⟨vy, rfl, hoy, hby⟩
  have BY := Lib.hid (BX.out.trans (hby.mono (HZ1.out _ BX.out)))
  obtain ⟨Ax, cx, rfl, hxc, hxm, hcx⟩ := OX.out.cells
  have CX := Lib.hid (hcx.below hby (Nat.le_refl _))
  have ZX : Hid (x1.heap.size ≤ y1.heap.size) := hby.size
  obtain ⟨Ay, cy, rfl, hyc, hym, hcy⟩ := hoy.cells
  have CY := Lib.hid hcy
  clear hoy hby hcx hcy OX
  have Z2 := HZ1.out y1 BY.out
  have O0z : Hid (OwnK .u8 5 (y1.alloc (.cells #[] 5)) y1.heap.size (.slice (some ⟨y1.heap.size, 0, none⟩) 0 0) []) := OwnK.lit .u8 5 y1 y1.heap.size [] (Nat.le_refl _) (by simp)
  have N0z : Hid (NumsK .u8 (y1.alloc (.cells #[] 5)) S A1 (bi ta)) := (HBY1.out _ (BY.out.alloc Z2 _)).2
  have B2z : Hid (Below S w (y1.alloc (.cells #[] 5))) := BY.out.alloc Z2 _
  have R2z : Hid (Below y1.heap.size y1 (y1.alloc (.cells #[] 5))) := (Below.refl _ _).alloc (Nat.le_refl _) _
  have hq0z : y1.heap.size ≤ (y1.alloc (.cells #[] 5)).heap.size := by simp
  have HRz : Hid (S ≤ y1.heap.size) := Z2
  go_wp2_with (first
    | (at_builtin
       refine wpList_app u8_slice _ rfl (.tmp 39) (.tmp 40) rfl y1.heap.size _ [] rfl O0z.out S A1 m1 cap1 (bi ta) rfl N0z.out (by rw [bi_length]; exact HL1.out) (by simp) (by rw [bi_length, HL1.out]; omega) hq0z ?_
       intro v2z w2z o2 g2 t2
       have B3z : Hid (Below S w w2z) := B2z.out.grown g2 (HZ1.out _ B2z.out) (fun g hg => Nat.le_trans HRz.out (own_ge O0z.out g hg))
       have R3z : Hid (Below y1.heap.size y1 w2z) := R2z.out.grown g2 hq0z (own_ge O0z.out)
       have q2 : y1.heap.size ≤ w2z.heap.size := Nat.le_trans hq0z g2.size
       have O2z : Hid (OwnK .u8 5 (w2z.alloc (.cells #[.int .u8 10] 5)) y1.heap.size v2z (bi ta)) := o2.below ((Below.refl _ _).alloc (Nat.le_refl _) _)
       have N2z : Hid (NumsK .u8 (w2z.alloc (.cells #[.int .u8 10] 5)) (w2z.heap.size + 1) (some ⟨w2z.heap.size, 0, none⟩) [10]) := one_u8 _ 10 _
       have B4z : Hid (Below S w (w2z.alloc (.cells #[.int .u8 10] 5))) := B3z.out.alloc (HZ1.out _ B3z.out) _
       have R4z : Hid (Below y1.heap.size y1 (w2z.alloc (.cells #[.int .u8 10] 5))) := R3z.out.alloc q2 _
       have Q4z : Hid (y1.heap.size ≤ (w2z.alloc (.cells #[.int .u8 10] 5)).heap.size) := by show _ ≤ _; simp; omega
       clear o2 g2 t2 q2)
    | (at_builtin
       refine wpList_app u8_slice _ rfl (.tmp 41) (.tmp 42) rfl y1.heap.size _ (bi ta) rfl O2z.out (w2z.heap.size + 1) (some ⟨w2z.heap.size, 0, none⟩) 1 1 [10] rfl N2z.out rfl (by rw [bi_length, HL1.out]; omega) (by simp) Q4z.out ?_
       intro v3z w3z o3 g3 t3
       have B5z : Hid (Below S w w3z) := B4z.out.grown g3 (HZ1.out _ B4z.out) (fun g hg => Nat.le_trans HRz.out (own_ge O2z.out g hg))
       have R5z : Hid (Below y1.heap.size y1 w3z) := R4z.out.grown g3 Q4z.out (own_ge O2z.out)
       have Q5z : Hid (y1.heap.size ≤ w3z.heap.size) := Nat.le_trans Q4z.out g3.size
       rw [show bi ta ++ [10] = bi tx by rw [← HTX.out, ← bi_app]; rfl] at o3
       have O3z := Lib.hid o3
       have N3z : Hid (NumsK .u8 w3z S A2 (bi tb)) := (HBY2.out _ B5z.out).2
       clear o3 g3 t3)
    | (at_builtin
       refine wpList_app u8_slice _ rfl (.tmp 43) (.tmp 44) rfl y1.heap.size _ (bi tx) rfl O3z.out S A2 m2 cap2 (bi tb) rfl N3z.out (by rw [bi_length]; exact HL2.out) (by rw [bi_length, HLX.out]; omega) (by rw [bi_length, HL2.out]; omega) Q5z.out ?_
       intro v4z w4z o4 g4 t4
       have B6z : Hid (Below S w w4z) := B5z.out.grown g4 (HZ1.out _ B5z.out) (fun g hg => Nat.le_trans HRz.out (own_ge O3z.out g hg))
       have R6z : Hid (Below y1.heap.size y1 w4z) := R5z.out.grown g4 Q5z.out (own_ge O3z.out)
       rw [bi_app, HTZ.out] at o4
       obtain ⟨A4z, c4z, rfl, hd3z, hd4z, hnu⟩ := o4.nums
       rw [bi_length] at hd3z
       have Y4z : Hid (Byts w4z w4z.heap.size A4z (bi tz)) := byts_nums hnu
       have HT4z := Lib.hid (HTK.out A4z (bi tz).length c4z _ tz w4z B6z.out Y4z.out (Nat.le_refl _) (by rw [bi_length]) (by rw [bi_length, HLZ.out]; omega) (by rw [bi_length]; exact hd3z) (by unfold maxLen at hd4z; exact hd4z))
       clear hnu o4 g4 t4))
  refine HT4z.out.mono ?_
  rintro e z1 ⟨vz, rfl, hoz, hbz⟩
  have BZ := Lib.hid (B6z.out.trans (hbz.mono (HZ1.out _ B6z.out)))
  obtain ⟨Az, cz, rfl, hzc, hzm, hcz⟩ := hoz.cells
  have hyz : Below y1.heap.size y1 z1 := R6z.out.trans (hbz.mono R6z.out.size)
  have CX2 := Lib.hid ((CX.out.more ZX.out).below hyz (Nat.le_refl _))
  have CY2 := Lib.hid (CY.out.below hyz (Nat.le_refl _))
  have CZ0 := Lib.hid hcz
  clear hoz hbz hcz HT4z HBY1 HBY2 HTK
  generalize toks tx 0 0 = X at *
  generalize toks tb 0 0 = Y at *
  generalize toks tz 0 0 = Z at *
  have HA13 : Hid (m1 ≤ 100) := h100
  rcases List.eq_nil_or_concat X with hX0 | ⟨X0, t, hX0⟩
  · have HJ2 : Hid (Z = X ++ Y.map (TkN.sh (m1 + 1))) := HJ.out.resolve_left (fun ⟨L0, t, h, _⟩ => by rw [hX0] at h; exact absurd h (by simp))
    have g00 : decide (0 < X.length) = false := by rw [hX0]; rfl
    obtain ⟨W6, hW6⟩ : ∃ W6, z1 = W6 := ⟨_, rfl⟩
    subst hW6
    have B8 := BZ
    have CX6 := Lib.hid (CX2.out.more hyz.size)
    have CY := Lib.hid (CY2.out.more hyz.size)
    have CZ := CZ0
    clear CX2 CY2 CZ0 BZ HJ CX hX0 hyz
    have hzz : Z = X ++ Y.map (TkN.sh (m1 + 1)) := HJ2.out
    have hzl : Z.length = X.length + Y.length := by rw [hzz, List.length_append, List.length_map]
    have hzi : (((Z.length : Nat) : Int) != ((X.length : Nat) : Int) + ((Y.length : Nat) : Int)) = false := by rw [hzl]; simp
    have HZZ := Lib.hid hzz
    have HZL := Lib.hid hzl
    have hX102 : X.length ≤ 102 := HXYZ.out.1
    have hY101 : Y.length ≤ 101 := HXYZ.out.2.1
    have hZX : X.length ≤ Z.length := by omega
    have hXc : X.length ≤ cz := by omega
    clear hzz hzl
    go_wp2_with fail
    go_loopg [90] (Y.length + 1) (fun h s90 wr => ∃ i : Nat, s90 = .int .i64 (i : Int) ∧ Hid (i ≤ Y.length ∧ Y.length < i + h) ∧ Hid (Below z1.heap.size z1 wr))
    case atStart => exact ⟨0, rfl, by show _ ∧ _; omega, Below.refl _ _⟩
    case round =>
      obtain ⟨i, rfl, HI, HBR⟩ := hrel
      by_cases hlt : i < Y.length
      · have hltz : (i : Int) < ((Y.length : Nat) : Int) := by omega
        obtain ⟨y, hy⟩ : ∃ y, Y[i]? = some y := ⟨_, List.getElem?_eq_getElem hlt⟩
        have hyb := HMY.out y (List.mem_of_getElem? hy)
        have hzy : Z[X.length + i]? = some (y.sh (m1 + 1)) := by
          rw [HZZ.out, List.getElem?_append_right (Nat.le_add_right _ _), Nat.add_sub_cancel_left, List.getElem?_map, hy]
          rfl
        obtain ⟨g1, o1, rfl, hg1, a0, a1, a2, a3, a4⟩ := tk_get (tk_up ((CY.out).below HBR.out (Nat.le_refl _))) (i := i) (x := y.up) (by rw [List.getElem?_map, hy]; rfl)
        obtain ⟨g2, o2, rfl, hg2, b0, b1, b2, b3, b4⟩ := tk_get (tk_up ((CZ.out).below HBR.out (Nat.le_refl _))) (i := X.length + i) (x := (y.sh (m1 + 1)).up) (by rw [List.getElem?_map, hzy]; rfl)
        obtain ⟨k, f, t, au, e⟩ := y
        obtain ⟨F, hF⟩ : ∃ F, m1 + 1 + f = F := ⟨_, rfl⟩
        obtain ⟨T, hT⟩ : ∃ T, m1 + 1 + t = T := ⟨_, rfl⟩
        obtain ⟨j, hj⟩ : ∃ j, X.length + i = j := ⟨_, rfl⟩
        rw [hj] at b0 b1 b2 b3 b4 hzy
        have hjz : j < Z.length := (List.getElem?_eq_some_iff.1 hzy).1
        have hjs : ((X.length : Nat) : Int) + (i : Int) = (j : Int) := by omega
        have hFs : (f : Int) + ((m1 : Int) + 1) = (F : Int) := by omega
        have hTs : (t : Int) + ((m1 : Int) + 1) = (T : Int) := by omega
        have hf9 : f ≤ 100 := by have := hyb.1; have := hyb.2; simp only at *; omega
        have ht9 : t ≤ 100 := hyb.2
        have hF9 : F ≤ 300 := by omega
        have hT9 : T ≤ 300 := by omega
        have c0 : wr.cell? ⟨g1, o1 + i * 5, none⟩ = some (.int .i64 (k : Int)) := a0
        have c1 : wr.cell? ⟨g1, o1 + i * 5 + 1, none⟩ = some (.int .i64 (f : Int)) := a1
        have c2 : wr.cell? ⟨g1, o1 + i * 5 + 2, none⟩ = some (.int .i64 (t : Int)) := a2
        have c3 : wr.cell? ⟨g1, o1 + i * 5 + 3, none⟩ = some (.bool au) := a3
        have c4 : wr.cell? ⟨g1, o1 + i * 5 + 4, none⟩ = some (.int .i64 (e : Int)) := a4
        obtain ⟨W7, hW7⟩ : ∃ W7, wr.alloc (.cells #[.int .i64 (k : Int), .int .i64 (F : Int), .int .i64 (T : Int), .bool au, .int .i64 (e : Int)] 37) = W7 := ⟨_, rfl⟩
        have hgw : g2 < wr.heap.size := Nat.lt_of_lt_of_le hg2 HBR.out.size
        have d0 : Hid (W7.cell? ⟨g2, o2 + j * 5, none⟩ = some (.int .i64 (k : Int))) := by rw [← hW7]; exact (World.cell?_alloc_lt _ _ ⟨g2, _, none⟩ hgw).trans b0
        have d1 : Hid (W7.cell? ⟨g2, o2 + j * 5 + 1, none⟩ = some (.int .i64 (F : Int))) := by rw [← hW7, ← hF]; exact (World.cell?_alloc_lt _ _ ⟨g2, _, none⟩ hgw).trans b1
        have d2 : Hid (W7.cell? ⟨g2, o2 + j * 5 + 2, none⟩ = some (.int .i64 (T : Int))) := by rw [← hW7, ← hT]; exact (World.cell?_alloc_lt _ _ ⟨g2, _, none⟩ hgw).trans b2
        have d3 : Hid (W7.cell? ⟨g2, o2 + j * 5 + 3, none⟩ = some (.bool au)) := by rw [← hW7]; exact (World.cell?_alloc_lt _ _ ⟨g2, _, none⟩ hgw).trans b3
        have d4 : Hid (W7.cell? ⟨g2, o2 + j * 5 + 4, none⟩ = some (.int .i64 (e : Int))) := by rw [← hW7]; exact (World.cell?_alloc_lt _ _ ⟨g2, _, none⟩ hgw).trans b4
        have HTA : Hid (TAt W7 wr.heap.size ⟨k, F, T, au, e⟩) := by rw [← hW7]; exact TAt.new wr ⟨k, F, T, au, e⟩ _
        have HB7 : Hid (Below z1.heap.size z1 W7) := by rw [← hW7]; exact HBR.out.alloc HBR.out.size _
        have HW7 := Lib.hid hW7
        clear a0 a1 a2 a3 a4 b0 b1 b2 b3 b4 hy hzy hyb hF hT hj hW7 hgw
        go_wp2_with fail
        rw [HW7.out]
        obtain ⟨e0, e1, e2, e3, e4, _, _, _, _, _⟩ := HTA.out
        have d0 := d0.out
        have d1 := d1.out
        have d2 := d2.out
        have d3 := d3.out
        have d4 := d4.out
        clear c0 c1 c2 c3 c4 HW7 HTA
        have hN := neqTok
        have hdd : (!((k : Int) == (k : Int) && ((F : Int) == (F : Int) && ((T : Int) == (T : Int) && (au == au && (e : Int) == (e : Int)))))) = false := by simp
        go_quiet (fail)
        go_wp2_with fail
        go_roundg (Y.length - i)
        case measure => have := HI.out; omega
        case rel => exact ⟨i + 1, by go_num, by show _ ∧ _; have := HI.out; omega, below_drewN HB7.out _⟩
      · have hltz : ¬ (i : Int) < ((Y.length : Nat) : Int) := by omega
        have B9 := Lib.hid (B8.out.trans (HBR.out.mono (HZ1.out _ B8.out)))
        have CXr := Lib.hid ((CX6.out).below HBR.out (Nat.le_refl _))
        have CZr : Hid (CellsV tkC wr z1.heap.size Az X) := by
          have := ((CZ.out).below HBR.out (Nat.le_refl _)).take tkn_enc X.length
          rw [HZZ.out, List.take_left'] at this
          · exact this
          · rfl
        have HSA := Lib.hid (SameT_run Az Ax X.length cz cx (X.map TkN.up) wr (tk_up CZr.out) (tk_up CXr.out) (List.length_map ..) (by omega))
        clear CXr CZr
        go_wp2_with fail
        refine HSA.out.mono ?_
        rintro e v3 ⟨rfl, q, rfl⟩
        have B10 := Lib.hid (below_drewN B9.out q)
        go_wp2_with fail
        refine (works11_run _ (HK.out _ B10.out)).mono ?_
        rintro e v4 ⟨rfl, hb4⟩
        have B11 := Lib.hid (B10.out.trans (hb4.mono (HZ1.out _ B10.out)))
        go_wp2_with fail
        go_ret
        exact ⟨rfl, B11.out⟩
  · rw [List.concat_eq_append] at hX0
    have hxl : X.length = X0.length + 1 := by rw [hX0, List.length_append]; rfl
    obtain ⟨q0, hq0⟩ : ∃ q0, X0.length = q0 := ⟨_, rfl⟩
    rw [hq0] at hxl
    have hq9 : q0 ≤ 200 := by have := HXYZ.out.1; omega
    have g0 : decide (0 < X.length) = true := decide_eq_true (by omega)
    have g1 : ((X.length : Nat) : Int) - 1 = (q0 : Int) := by omega
    have gx : X[q0]? = some t := by rw [hX0, List.getElem?_append_right (by rw [hq0]; exact Nat.le_refl _), hq0, Nat.sub_self]; rfl
    obtain ⟨g3, o3, rfl, hg3, a0, a1, a2, a3, a4⟩ := tk_get (tk_up CX2.out) (i := q0) (x := t.up) (by rw [List.getElem?_map, gx]; rfl)
    have HJ3 : Hid (¬ (t.e = 12 ∧ t.t = m1 + 1) → Z = X ++ Y.map (TkN.sh (m1 + 1))) := fun hn => HJ.out.resolve_left (fun ⟨L0, t', h, h2, h3⟩ => by
      rw [hX0] at h
      have := List.append_inj_right' h rfl
      cases this
      exact hn ⟨h2, h3⟩)
    obtain ⟨k, f, tt, au, e⟩ := t
    have c0 : z1.cell? ⟨g3, o3 + q0 * 5, none⟩ = some (.int .i64 (k : Int)) := a0
    have c1 : z1.cell? ⟨g3, o3 + q0 * 5 + 1, none⟩ = some (.int .i64 (f : Int)) := a1
    have c2 : z1.cell? ⟨g3, o3 + q0 * 5 + 2, none⟩ = some (.int .i64 (tt : Int)) := a2
    have c3 : z1.cell? ⟨g3, o3 + q0 * 5 + 3, none⟩ = some (.bool au) := a3
    have c4 : z1.cell? ⟨g3, o3 + q0 * 5 + 4, none⟩ = some (.int .i64 (e : Int)) := a4
    have HB6 : Hid (Below S w (z1.alloc (.cells #[.int .i64 (k : Int), .int .i64 (f : Int), .int .i64 (tt : Int), .bool au, .int .i64 (e : Int)] 37))) := BZ.out.alloc (HZ1.out _ BZ.out) _
    have hal : Below z1.heap.size z1 (z1.alloc (.cells #[.int .i64 (k : Int), .int .i64 (f : Int), .int .i64 (tt : Int), .bool au, .int .i64 (e : Int)] 37)) := (Below.refl _ _).alloc (Nat.le_refl _) _
    obtain ⟨W6, hW6⟩ : ∃ W6, z1.alloc (.cells #[.int .i64 (k : Int), .int .i64 (f : Int), .int .i64 (tt : Int), .bool au, .int .i64 (e : Int)] 37) = W6 := ⟨_, rfl⟩
    rw [hW6] at HB6 hal
    have HW6 := Lib.hid hW6
    have hz1m : z1.heap.size ≤ W6.heap.size := hal.size
    have hyzz : y1.heap.size ≤ z1.heap.size := hyz.size
    have B8 := HB6
    have CX6 : Hid (CellsV tkC W6 W6.heap.size (some ⟨g3, o3, none⟩) X) := (CX2.out.below hal (by omega)).more (by omega)
    have CY : Hid (CellsV tkC W6 W6.heap.size Ay Y) := (CY2.out.below hal (by omega)).more (by omega)
    have CZ : Hid (CellsV tkC W6 W6.heap.size Az Z) := (CZ0.out.below hal (Nat.le_refl _)).more hz1m
    clear a0 a1 a2 a3 a4 CX2 CY2 CZ0 BZ HJ CX gx hX0 hxl hq0 hal hz1m hW6 hyz hyzz
    by_cases hcond : e = 12 ∧ tt = m1 + 1
    · obtain ⟨he, ht⟩ := hcond
      have hes : ((e : Int) == 12) = true := by rw [he]; rfl
      have hts : ((tt : Int) == (m1 : Int) + 1) = true := by rw [ht]; simp
      clear he ht
      go_wp2_with fail
      rw [HW6.out]
      refine (works11_run _ (HK.out _ B8.out)).mono ?_
      rintro e v4 ⟨rfl, hb4⟩
      have B11 := Lib.hid (B8.out.trans (hb4.mono (HZ1.out _ B8.out)))
      go_wp2_with fail
      go_ret
      exact ⟨rfl, B11.out⟩
    · have HJ2 : Hid (Z = X ++ Y.map (TkN.sh (m1 + 1))) := HJ3.out hcond
      by_cases he : e = 12
      · have hts : (((tt : Nat) : Int) == (m1 : Int) + 1) = false := beq_eq_false_iff_ne.2 (fun h => hcond ⟨he, by omega⟩)
        have hes : ((e : Int) == 12) = true := by rw [he]; rfl
        clear he hcond
        have hzz : Z = X ++ Y.map (TkN.sh (m1 + 1)) := HJ2.out
        have hzl : Z.length = X.length + Y.length := by rw [hzz, List.length_append, List.length_map]
        have hzi : (((Z.length : Nat) : Int) != ((X.length : Nat) : Int) + ((Y.length : Nat) : Int)) = false := by rw [hzl]; simp
        have HZZ := Lib.hid hzz
        have HZL := Lib.hid hzl
        have hX102 : X.length ≤ 102 := HXYZ.out.1
        have hY101 : Y.length ≤ 101 := HXYZ.out.2.1
        have hZX : X.length ≤ Z.length := by omega
        have hXc : X.length ≤ cz := by omega
        clear hzz hzl
        go_wp2_with fail
        rw [HW6.out]
        clear HW6 c0 c1 c2 c3 c4
        go_loopg [90] (Y.length + 1) (fun h s90 wr => ∃ i : Nat, s90 = .int .i64 (i : Int) ∧ Hid (i ≤ Y.length ∧ Y.length < i + h) ∧ Hid (Below W6.heap.size W6 wr))
        case atStart => exact ⟨0, rfl, by show _ ∧ _; omega, Below.refl _ _⟩
        case round =>
          obtain ⟨i, rfl, HI, HBR⟩ := hrel
          by_cases hlt : i < Y.length
          · have hltz : (i : Int) < ((Y.length : Nat) : Int) := by omega
            obtain ⟨y, hy⟩ : ∃ y, Y[i]? = some y := ⟨_, List.getElem?_eq_getElem hlt⟩
            have hyb := HMY.out y (List.mem_of_getElem? hy)
            have hzy : Z[X.length + i]? = some (y.sh (m1 + 1)) := by
              rw [HZZ.out, List.getElem?_append_right (Nat.le_add_right _ _), Nat.add_sub_cancel_left, List.getElem?_map, hy]
              rfl
            obtain ⟨g1, o1, rfl, hg1, a0, a1, a2, a3, a4⟩ := tk_get (tk_up ((CY.out).below HBR.out (Nat.le_refl _))) (i := i) (x := y.up) (by rw [List.getElem?_map, hy]; rfl)
            obtain ⟨g2, o2, rfl, hg2, b0, b1, b2, b3, b4⟩ := tk_get (tk_up ((CZ.out).below HBR.out (Nat.le_refl _))) (i := X.length + i) (x := (y.sh (m1 + 1)).up) (by rw [List.getElem?_map, hzy]; rfl)
            obtain ⟨k, f, t, au, e⟩ := y
            obtain ⟨F, hF⟩ : ∃ F, m1 + 1 + f = F := ⟨_, rfl⟩
            obtain ⟨T, hT⟩ : ∃ T, m1 + 1 + t = T := ⟨_, rfl⟩
            obtain ⟨j, hj⟩ : ∃ j, X.length + i = j := ⟨_, rfl⟩
            rw [hj] at b0 b1 b2 b3 b4 hzy
            have hjz : j < Z.length := (List.getElem?_eq_some_iff.1 hzy).1
            have hjs : ((X.length : Nat) : Int) + (i : Int) = (j : Int) := by omega
            have hFs : (f : Int) + ((m1 : Int) + 1) = (F : Int) := by omega
            have hTs : (t : Int) + ((m1 : Int) + 1) = (T : Int) := by omega
            have hf9 : f ≤ 100 := by have := hyb.1; have := hyb.2; simp only at *; omega
            have ht9 : t ≤ 100 := hyb.2
            have hF9 : F ≤ 300 := by omega
            have hT9 : T ≤ 300 := by omega
            have c0 : wr.cell? ⟨g1, o1 + i * 5, none⟩ = some (.int .i64 (k : Int)) := a0
            have c1 : wr.cell? ⟨g1, o1 + i * 5 + 1, none⟩ = some (.int .i64 (f : Int)) := a1
            have c2 : wr.cell? ⟨g1, o1 + i * 5 + 2, none⟩ = some (.int .i64 (t : Int)) := a2
            have c3 : wr.cell? ⟨g1, o1 + i * 5 + 3, none⟩ = some (.bool au) := a3
            have c4 : wr.cell? ⟨g1, o1 + i * 5 + 4, none⟩ = some (.int .i64 (e : Int)) := a4
            obtain ⟨W7, hW7⟩ : ∃ W7, wr.alloc (.cells #[.int .i64 (k : Int), .int .i64 (F : Int), .int .i64 (T : Int), .bool au, .int .i64 (e : Int)] 37) = W7 := ⟨_, rfl⟩
            have hgw : g2 < wr.heap.size := Nat.lt_of_lt_of_le hg2 HBR.out.size
            have d0 : Hid (W7.cell? ⟨g2, o2 + j * 5, none⟩ = some (.int .i64 (k : Int))) := by rw [← hW7]; exact (World.cell?_alloc_lt _ _ ⟨g2, _, none⟩ hgw).trans b0
            have d1 : Hid (W7.cell? ⟨g2, o2 + j * 5 + 1, none⟩ = some (.int .i64 (F : Int))) := by rw [← hW7, ← hF]; exact (World.cell?_alloc_lt _ _ ⟨g2, _, none⟩ hgw).trans b1
            have d2 : Hid (W7.cell? ⟨g2, o2 + j * 5 + 2, none⟩ = some (.int .i64 (T : Int))) := by rw [← hW7, ← hT]; exact (World.cell?_alloc_lt _ _ ⟨g2, _, none⟩ hgw).trans b2
            have d3 : Hid (W7.cell? ⟨g2, o2 + j * 5 + 3, none⟩ = some (.bool au)) := by rw [← hW7]; exact (World.cell?_alloc_lt _ _ ⟨g2, _, none⟩ hgw).trans b3
            have d4 : Hid (W7.cell? ⟨g2, o2 + j * 5 + 4, none⟩ = some (.int .i64 (e : Int))) := by rw [← hW7]; exact (World.cell?_alloc_lt _ _ ⟨g2, _, none⟩ hgw).trans b4
            have HTA : Hid (TAt W7 wr.heap.size ⟨k, F, T, au, e⟩) := by rw [← hW7]; exact TAt.new wr ⟨k, F, T, au, e⟩ _
            have HB7 : Hid (Below W6.heap.size W6 W7) := by rw [← hW7]; exact HBR.out.alloc HBR.out.size _
            have HW7 := Lib.hid hW7
            clear a0 a1 a2 a3 a4 b0 b1 b2 b3 b4 hy hzy hyb hF hT hj hW7 hgw
            go_wp2_with fail
            rw [HW7.out]
            obtain ⟨e0, e1, e2, e3, e4, _, _, _, _, _⟩ := HTA.out
            have d0 := d0.out
            have d1 := d1.out
            have d2 := d2.out
            have d3 := d3.out
            have d4 := d4.out
            clear c0 c1 c2 c3 c4 HW7 HTA
            have hN := neqTok
            have hdd : (!((k : Int) == (k : Int) && ((F : Int) == (F : Int) && ((T : Int) == (T : Int) && (au == au && (e : Int) == (e : Int)))))) = false := by simp
            go_quiet (fail)
            go_wp2_with fail
            go_roundg (Y.length - i)
            case measure => have := HI.out; omega
            case rel => exact ⟨i + 1, by go_num, by show _ ∧ _; have := HI.out; omega, below_drewN HB7.out _⟩
          · have hltz : ¬ (i : Int) < ((Y.length : Nat) : Int) := by omega
            have B9 := Lib.hid (B8.out.trans (HBR.out.mono (HZ1.out _ B8.out)))
            have CXr := Lib.hid ((CX6.out).below HBR.out (Nat.le_refl _))
            have CZr : Hid (CellsV tkC wr W6.heap.size Az X) := by
              have := ((CZ.out).below HBR.out (Nat.le_refl _)).take tkn_enc X.length
              rw [HZZ.out, List.take_left'] at this
              · exact this
              · rfl
            have HSA := Lib.hid (SameT_run Az (some ⟨g3, o3, none⟩) X.length cz cx (X.map TkN.up) wr (tk_up CZr.out) (tk_up CXr.out) (List.length_map ..) (by omega))
            clear CXr CZr
            go_wp2_with fail
            refine HSA.out.mono ?_
            rintro e v3 ⟨rfl, q, rfl⟩
            have B10 := Lib.hid (below_drewN B9.out q)
            go_wp2_with fail
            refine (works11_run _ (HK.out _ B10.out)).mono ?_
            rintro e v4 ⟨rfl, hb4⟩
            have B11 := Lib.hid (B10.out.trans (hb4.mono (HZ1.out _ B10.out)))
            go_wp2_with fail
            go_ret
            exact ⟨rfl, B11.out⟩
      · have hes : ((e : Int) == 12) = false := beq_eq_false_iff_ne.2 (by omega)
        clear he hcond
        have hzz : Z = X ++ Y.map (TkN.sh (m1 + 1)) := HJ2.out
        have hzl : Z.length = X.length + Y.length := by rw [hzz, List.length_append, List.length_map]
        have hzi : (((Z.length : Nat) : Int) != ((X.length : Nat) : Int) + ((Y.length : Nat) : Int)) = false := by rw [hzl]; simp
        have HZZ := Lib.hid hzz
        have HZL := Lib.hid hzl
        have hX102 : X.length ≤ 102 := HXYZ.out.1
        have hY101 : Y.length ≤ 101 := HXYZ.out.2.1
        have hZX : X.length ≤ Z.length := by omega
        have hXc : X.length ≤ cz := by omega
        clear hzz hzl
        go_wp2_with fail
        rw [HW6.out]
        clear HW6 c0 c1 c2 c3 c4
        go_loopg [90] (Y.length + 1) (fun h s90 wr => ∃ i : Nat, s90 = .int .i64 (i : Int) ∧ Hid (i ≤ Y.length ∧ Y.length < i + h) ∧ Hid (Below W6.heap.size W6 wr))
        case atStart => exact ⟨0, rfl, by show _ ∧ _; omega, Below.refl _ _⟩
        case round =>
          obtain ⟨i, rfl, HI, HBR⟩ := hrel
          by_cases hlt : i < Y.length
          · have hltz : (i : Int) < ((Y.length : Nat) : Int) := by omega
            obtain ⟨y, hy⟩ : ∃ y, Y[i]? = some y := ⟨_, List.getElem?_eq_getElem hlt⟩
            have hyb := HMY.out y (List.mem_of_getElem? hy)
            have hzy : Z[X.length + i]? = some (y.sh (m1 + 1)) := by
              rw [HZZ.out, List.getElem?_append_right (Nat.le_add_right _ _), Nat.add_sub_cancel_left, List.getElem?_map, hy]
              rfl
            obtain ⟨g1, o1, rfl, hg1, a0, a1, a2, a3, a4⟩ := tk_get (tk_up ((CY.out).below HBR.out (Nat.le_refl _))) (i := i) (x := y.up) (by rw [List.getElem?_map, hy]; rfl)
            obtain ⟨g2, o2, rfl, hg2, b0, b1, b2, b3, b4⟩ := tk_get (tk_up ((CZ.out).below HBR.out (Nat.le_refl _))) (i := X.length + i) (x := (y.sh (m1 + 1)).up) (by rw [List.getElem?_map, hzy]; rfl)
            obtain ⟨k, f, t, au, e⟩ := y
            obtain ⟨F, hF⟩ : ∃ F, m1 + 1 + f = F := ⟨_, rfl⟩
            obtain ⟨T, hT⟩ : ∃ T, m1 + 1 + t = T := ⟨_, rfl⟩
            obtain ⟨j, hj⟩ : ∃ j, X.length + i = j := ⟨_, rfl⟩
            rw [hj] at b0 b1 b2 b3 b4 hzy
            have hjz : j < Z.length := (List.getElem?_eq_some_iff.1 hzy).1
            have hjs : ((X.length : Nat) : Int) + (i : Int) = (j : Int) := by omega
            have hFs : (f : Int) + ((m1 : Int) + 1) = (F : Int) := by omega
            have hTs : (t : Int) + ((m1 : Int) + 1) = (T : Int) := by omega
            have hf9 : f ≤ 100 := by have := hyb.1; have := hyb.2; simp only at *; omega
            have ht9 : t ≤ 100 := hyb.2
            have hF9 : F ≤ 300 := by omega
            have hT9 : T ≤ 300 := by omega
            have c0 : wr.cell? ⟨g1, o1 + i * 5, none⟩ = some (.int .i64 (k : Int)) := a0
            have c1 : wr.cell? ⟨g1, o1 + i * 5 + 1, none⟩ = some (.int .i64 (f : Int)) := a1
            have c2 : wr.cell? ⟨g1, o1 + i * 5 + 2, none⟩ = some (.int .i64 (t : Int)) := a2
            have c3 : wr.cell? ⟨g1, o1 + i * 5 + 3, none⟩ = some (.bool au) := a3
            have c4 : wr.cell? ⟨g1, o1 + i * 5 + 4, none⟩ = some (.int .i64 (e : Int)) := a4
            obtain ⟨W7, hW7⟩ : ∃ W7, wr.alloc (.cells #[.int .i64 (k : Int), .int .i64 (F : Int), .int .i64 (T : Int), .bool au, .int .i64 (e : Int)] 37) = W7 := ⟨_, rfl⟩
            have hgw : g2 < wr.heap.size := Nat.lt_of_lt_of_le hg2 HBR.out.size
            have d0 : Hid (W7.cell? ⟨g2, o2 + j * 5, none⟩ = some (.int .i64 (k : Int))) := by rw [← hW7]; exact (World.cell?_alloc_lt _ _ ⟨g2, _, none⟩ hgw).trans b0
            have d1 : Hid (W7.cell? ⟨g2, o2 + j * 5 + 1, none⟩ = some (.int .i64 (F : Int))) := by rw [← hW7, ← hF]; exact (World.cell?_alloc_lt _ _ ⟨g2, _, none⟩ hgw).trans b1
            have d2 : Hid (W7.cell? ⟨g2, o2 + j * 5 + 2, none⟩ = some (.int .i64 (T : Int))) := by rw [← hW7, ← hT]; exact (World.cell?_alloc_lt _ _ ⟨g2, _, none⟩ hgw).trans b2
            have d3 : Hid (W7.cell? ⟨g2, o2 + j * 5 + 3, none⟩ = some (.bool au)) := by rw [← hW7]; exact (World.cell?_alloc_lt _ _ ⟨g2, _, none⟩ hgw).trans b3
            have d4 : Hid (W7.cell? ⟨g2, o2 + j * 5 + 4, none⟩ = some (.int .i64 (e : Int))) := by rw [← hW7]; exact (World.cell?_alloc_lt _ _ ⟨g2, _, none⟩ hgw).trans b4
            have HTA : Hid (TAt W7 wr.heap.size ⟨k, F, T, au, e⟩) := by rw [← hW7]; exact TAt.new wr ⟨k, F, T, au, e⟩ _
            have HB7 : Hid (Below W6.heap.size W6 W7) := by rw [← hW7]; exact HBR.out.alloc HBR.out.size _
            have HW7 := Lib.hid hW7
            clear a0 a1 a2 a3 a4 b0 b1 b2 b3 b4 hy hzy hyb hF hT hj hW7 hgw
            go_wp2_with fail
            rw [HW7.out]
            obtain ⟨e0, e1, e2, e3, e4, _, _, _, _, _⟩ := HTA.out
            have d0 := d0.out
            have d1 := d1.out
            have d2 := d2.out
            have d3 := d3.out
            have d4 := d4.out
            clear c0 c1 c2 c3 c4 HW7 HTA
            have hN := neqTok
            have hdd : (!((k : Int) == (k : Int) && ((F : Int) == (F : Int) && ((T : Int) == (T : Int) && (au == au && (e : Int) == (e : Int)))))) = false := by simp
            go_quiet (fail)
            go_wp2_with fail
            go_roundg (Y.length - i)
            case measure => have := HI.out; omega
            case rel => exact ⟨i + 1, by go_num, by show _ ∧ _; have := HI.out; omega, below_drewN HB7.out _⟩
          · have hltz : ¬ (i : Int) < ((Y.length : Nat) : Int) := by omega
            have B9 := Lib.hid (B8.out.trans (HBR.out.mono (HZ1.out _ B8.out)))
            have CXr := Lib.hid ((CX6.out).below HBR.out (Nat.le_refl _))
            have CZr : Hid (CellsV tkC wr W6.heap.size Az X) := by
              have := ((CZ.out).below HBR.out (Nat.le_refl _)).take tkn_enc X.length
              rw [HZZ.out, List.take_left'] at this
              · exact this
              · rfl
            have HSA := Lib.hid (SameT_run Az (some ⟨g3, o3, none⟩) X.length cz cx (X.map TkN.up) wr (tk_up CZr.out) (tk_up CXr.out) (List.length_map ..) (by omega))
            clear CXr CZr
            go_wp2_with fail
            refine HSA.out.mono ?_
            rintro e v3 ⟨rfl, q, rfl⟩
            have B10 := Lib.hid (below_drewN B9.out q)
            go_wp2_with fail
            refine (works11_run _ (HK.out _ B10.out)).mono ?_
            rintro e v4 ⟨rfl, hb4⟩
            have B11 := Lib.hid (B10.out.trans (hb4.mono (HZ1.out _ B10.out)))
            go_wp2_with fail
            go_ret
            exact ⟨rfl, B11.out⟩
end Go.Proofs.YtgkhjeefcflmcaaGreatDoor
namespace Go.Proofs.YtgkhjeefcflmcaaGreatDoor
open Go.RowKit Go.Sort
theorem joins_any (A1 : Option Addr) (n1 cap1 : Nat) (l1 : List Int) (A2 : Option Addr) (n2 cap2 : Nat) (l2 : List Int) (W : World) (hb1 : Byts W W.heap.size A1 l1) (hl1 : l1.length = n1) (hc1 : n1 ≤ cap1) (hm1 : cap1 ≤ 9223372036854775807) (hb2 : Byts W W.heap.size A2 l2) (hl2 : l2.length = n2) (hc2 : n2 ≤ cap2) (hm2 : cap2 ≤ 9223372036854775807) (hs : Ml W) (hh : TabAt W ∧ Heads W ∧ ErrVars W ∧ ErrType W) :
  Calls Tryz.prog 6 #[.slice A1 n1 cap1, .slice A2 n2 cap2] W fun e w' => e = .returned (.bool true) ∧ Below W.heap.size W w' := by
 obtain ⟨m1, rfl⟩ := bi_back l1 hb1.1
 rw [bi_length] at hl1
 obtain ⟨m2, rfl⟩ := bi_back l2 hb2.1
 rw [bi_length] at hl2
 exact Joins_law A1 A2 n1 cap1 n2 cap2 m1 m2 W hb1 hb2 hl1 hl2 hc1 hc2 hm1 hm2 ⟨hs, hh.1, hh.2.1, hh.2.2.1, hh.2.2.2⟩
end Go.Proofs.YtgkhjeefcflmcaaGreatDoor
