/-
  The walk of the law ViewNodes, given what the program's calls answer.
-/
import Derived.Test.YtpjgapnihmiceaaDoorMx04
import Derived.BigQuiet
import Derived.Test.YtpjgapnihmiceaaDoorMx03
namespace Go.Proofs.YtpjgapnihmiceaaDoor
open Go.RowKit
set_option linter.unusedSimpArgs false
set_option linter.unusedVariables false
theorem field_nd (x y z : Int) (K : Option Addr) (q c : Nat) (w : World) : (Instr.field 40 (.agg #[.int .i64 x, .int .i64 y, .int .i64 z, .slice K q c]) 0).run Tryd.prog w = .ok (.int .i64 x) w := by kernel_rfl
set_option maxHeartbeats 16000000 in
set_option maxRecDepth 100000 in
theorem Nodes_law (hN : SaysNew) (hNd : SaysNode) (hK : SaysKid) (hWd : SaysWord) (hWs : SaysWords) (hO : SaysOwnV) (hOp : SaysOp) (hSp : SaysSpan) (A1 : Option Addr) (n1 c1 : Nat) (A2 : Option Addr) (n2 c2 : Nat) (A : Option Addr) (n c : Nat) (d : List Int) (L : List Tv) (T : List Nd) (k j : Int) (W : World)
    (hy : Byts W W.heap.size A1 d) (hd : d.length = n1) (hc1 : n1 ≤ c1) (hx1 : c1 ≤ 9223372036854775807) (ht : CellsV tvCells W W.heap.size A2 L) (hL : L.length = n2) (hc2 : n2 ≤ c2) (hx2 : c2 ≤ 9223372036854775807) (hb : NdsAt W W.heap.size A T) (hl : T.length = n) (hcap : n ≤ 9223372036854775807) (hg : ErrType W) :
    Calls Tryd.prog 3 #[srcV A1 n1 c1 A2 n2 c2 A n c, .int .i64 k, .int .i64 j] W fun e w' => e = .returned (.bool true) ∧ Below W.heap.size W w' := by
  obtain ⟨m1, hm1⟩ : ∃ m, min n1 300 = m := ⟨_, rfl⟩
  obtain ⟨m2, hm2⟩ : ∃ m, min n2 60 = m := ⟨_, rfl⟩
  obtain ⟨l, hll⟩ : ∃ l, (fewT T).length = l := ⟨_, rfl⟩
  have HFW := Lib.hid (fun w h1 h2 => vFew_run A1 n1 c1 A2 n2 c2 A n c W.heap.size T m1 m2 l w h1 h2 hl hcap hm1 hm2 hc1 hc2 hll)
  have HFS := Lib.hid (fun (A9 : Option Addr) (c9 : Nat) (w1 : World) h hw => @src_few W w1 A1 A2 A A9 n1 c1 n2 c2 n c m1 m2 l c9 d L T 28 hy hd hm1 hc1 ht hL hm2 hc2 hll h hw)
  have HB0 : Hid (NdsAt (W.alloc (.cells #[.slice A1 n1 c1, .slice A2 n2 c2, .slice A n c] 28)) W.heap.size A T ∧ W.heap.size ≤ (W.alloc (.cells #[.slice A1 n1 c1, .slice A2 n2 c2, .slice A n c] 28)).heap.size) := ⟨hb.below ((Below.refl _ _).alloc (Nat.le_refl _) _) (Nat.le_refl _), by simp⟩
  have HG := Lib.hid hg
  have hgl := hg.lt
  have hq2 : m2 ≤ 60 := by omega
  have hSMT := few_smallT T
  have HM1 : Hid (m1 ≤ c1 ∧ m2 ≤ c2) := by show _ ∧ _; omega
  generalize fewT T = TT at *
  generalize d.take m1 = dd at *
  generalize L.take m2 = LL at *
  have HSM := Lib.hid hSMT
  have HL := Lib.hid hll
  have hl40 : l ≤ 40 := by rw [← hll]; exact hSMT.1
  obtain ⟨kk, hkk⟩ : ∃ kk : Int, ((chkT TT (m2 : Int)).1 : Int) = kk := ⟨_, rfl⟩
  obtain ⟨a, ha⟩ : ∃ a : Int, (chkT TT (m2 : Int)).2 = a := ⟨_, rfl⟩
  have HCode := Lib.hid (fun w => code_trErr (chkT TT (m2 : Int)) (chkT_le TT _).1 kk hkk w)
  have HOff := Lib.hid (fun w hg => off_trErr (chkT TT (m2 : Int)) (chkT_le TT _).2 a ha w hg)
  have HCK := Lib.hid (fun (A9 : Option Addr) (c9 : Nat) (w : World) h => refChk_run A9 l c9 (m2 : Int) TT kk a w h HL.out HSM.out hkk ha)
  have HNW := Lib.hid (fun (A9 : Option Addr) (c9 : Nat) (w : World) h1 h2 => hN A1 m1 c1 A2 m2 c2 A9 l c9 dd LL TT w h1 h2)
  obtain ⟨x, hx⟩ : ∃ x, trErr (chkT TT (m2 : Int)) = x := ⟨_, rfl⟩
  rw [hx] at HCode HOff HNW
  have HWK := Lib.hid (works15_run hN hOp hWd hSp)
  have HND := Lib.hid hNd
  have HKD := Lib.hid hK
  have HWD := Lib.hid hWd
  have HWS := Lib.hid hWs
  have HOW := Lib.hid hO
  have HVL : Hid (kk = 0 → Valid TT (m2 : Int)) := fun h => chk_valid (by omega)
  have HRS : Hid (resOf (chkT TT (m2 : Int)) TT [] = if kk = 0 then TT else []) := by
    show _ = _
    unfold resOf
    by_cases h : kk = 0
    · rw [if_pos h, if_pos (by omega)]
    · rw [if_neg h, if_neg (by omega)]
  rw [HRS.out] at HNW
  have HX := Lib.hid (And.intro hx1 hx2)
  clear hy hd hc1 hx1 ht hL hc2 hx2 hb hl hcap hg hm1 hm2 hll hSMT hkk ha hx hN hNd hK hWd hWs hO hOp hSp HRS
  unfold FewSrc at HFW
  unfold srcV at *
  unfold trV at *
  obtain ⟨S, hS⟩ : ∃ S, W.heap.size = S := ⟨_, rfl⟩
  rw [hS] at HFW HFS HB0 hgl ⊢
  go_enter Tryd.func3, Tryd.ntmps3
  go_wp2_with fail
  refine (HFW.out _ HB0.out.1 HB0.out.2).mono ?_
  rintro e w1 ⟨v, rfl, A9, c9, rfl, k7, k8, hn1, hw1⟩
  obtain ⟨⟨g0, g1, g2⟩, ⟨f0, f1, f2⟩, V, hV, ⟨d0, d1, d2⟩, hsrc, hBV, hsV⟩ := HFS.out A9 c9 w1 hn1 hw1
  have HSR := Lib.hid hsrc
  have BV := Lib.hid hBV
  have HNV := Lib.hid (HNW.out A9 c9 V hsrc ⟨HX.out.1, HX.out.2, k7, k8⟩)
  clear HFW HFS HB0 hn1 hw1 hsrc hBV HNW k8
  go_wp2_with fail
  refine HNV.out.mono ?_
  rintro e w2 ⟨fv, rfl, hf, hw2⟩
  have N2 : Hid (NSt S W w2 fv A1 m1 c1 A2 m2 c2 A9 l c9 dd LL TT (if kk = 0 then TT else [])) := ⟨HSR.out.below hw2, hf, (hw2.cell (p := ⟨S, 0, none⟩) hsV).trans d0, (hw2.cell (p := ⟨S, 1, none⟩) hsV).trans d1, (hw2.cell (p := ⟨S, 2, none⟩) hsV).trans d2, BV.out.trans (hw2.mono (Nat.le_of_lt hsV)), Nat.lt_of_lt_of_le hsV hw2.size⟩
  clear hf hw2 HNV HSR BV d0 d1 d2 hsV hV g0 g1 g2 f0 f1 f2
  obtain ⟨e0, e1, e2⟩ : w2.cell? ⟨S, 0, none⟩ = some (.slice A1 m1 c1) ∧ w2.cell? ⟨S, 1, none⟩ = some (.slice A2 m2 c2) ∧ w2.cell? ⟨S, 2, none⟩ = some (.slice A9 l c9) := ⟨N2.out.e0, N2.out.e1, N2.out.e2⟩
  go_wp2_with fail
  refine (HCK.out A9 c9 w2 N2.out.src.tree.at_).mono ?_
  rintro e w3 ⟨rfl, hw⟩
  have N3 := Lib.hid (N2.out.on hw)
  clear hw e0 e1 e2 N2 HCK
  by_cases hk0 : kk = 0
  rotate_left
  · rw [if_neg hk0] at N3
    obtain rfl := N3.out.fil.none
    have hkb : (kk == 0) = false := by simpa using hk0
    have hkb2 : (kk != 0) = true := by simpa using hk0
    have hkb3 : decide (kk = 0) = false := decide_eq_false hk0
    go_wp2_with fail
    refine (HCode.out w3).mono ?_
    rintro e w4 ⟨rfl, hw⟩
    have N4 := Lib.hid (N3.out.on hw)
    clear hw N3 HCode
    go_wp2_with fail
    refine (HOff.out w4 (HG.out.below N4.out.bel (by omega))).mono ?_
    rintro e w5 ⟨rfl, hw⟩
    have N5 := Lib.hid (N4.out.on hw)
    clear hw N4 HOff
    have HN := Lib.hid (HND.out _ dd LL [] k w5 N5.out.fil)
    rw [nodeV_nil] at HN
    go_wp2_with fail
    refine HN.out.mono ?_
    rintro e w6 ⟨K6, q6, c6, rfl, hq6, hw⟩
    have hfd := field_nd 0 0 0 K6 q6 c6 w6
    have N6 := Lib.hid (N5.out.on hw)
    have HN := Lib.hid (HKD.out _ dd LL [] k j w6 N6.out.fil)
    rw [kidV_nil] at HN
    clear hw N5 hq6
    go_wp2_with fail
    refine HN.out.mono ?_
    rintro e w7 ⟨rfl, hw⟩
    have N7 := Lib.hid (N6.out.on hw)
    have HN := Lib.hid (HWD.out _ dd LL [] k w7 N7.out.fil)
    rw [wordV_nil] at HN
    clear hw N6
    go_wp2_with fail
    refine HN.out.mono ?_
    rintro e w8 ⟨rfl, hw⟩
    have N8 := Lib.hid (N7.out.on hw)
    have HN := Lib.hid (HWS.out _ dd LL [] k w8 N8.out.fil)
    rw [wrdsV_nil] at HN
    clear hw N7
    go_wp2_with fail
    refine HN.out.mono ?_
    rintro e w9 ⟨A8, m8, c8, rfl, h8, _, _, _, hw⟩
    obtain rfl : m8 = 0 := h8
    have N9 := Lib.hid (N8.out.on hw)
    have HN := Lib.hid (HOW.out _ dd LL [] k w9 N9.out.fil)
    rw [ownV_nil] at HN
    clear hw N8
    go_wp2_with fail
    refine HN.out.mono ?_
    rintro e w10 ⟨A8, m8, c8, rfl, h8, _, _, _, hw⟩
    obtain rfl : m8 = 0 := h8
    have N10 := Lib.hid (N9.out.on hw)
    clear hw N9
    go_wp2_with fail
    refine (HWK.out w10).mono ?_
    rintro e w11 ⟨rfl, hw⟩
    have B11 : Hid (Below S W w11) := (N10.out.on hw).bel
    clear hw N10
    go_wp2_with fail
    go_ret
    exact ⟨rfl, B11.out⟩
  · subst hk0
    rw [if_pos rfl] at N3
    have HV := Lib.hid (HVL.out rfl)
    obtain ⟨fb, rfl⟩ := N3.out.fil.some HV.out.ne
    clear HVL
    go_wp2_with fail
    refine (HCode.out w3).mono ?_
    rintro e w4 ⟨rfl, hw⟩
    have N4 := Lib.hid (N3.out.on hw)
    clear hw N3 HCode
    go_wp2_with fail
    refine (HOff.out w4 (HG.out.below N4.out.bel (by omega))).mono ?_
    rintro e w5 ⟨rfl, hw⟩
    have N5 := Lib.hid (N4.out.on hw)
    clear hw N4 HOff
    obtain ⟨OW, hOW⟩ : ∃ l, ownV TT k = l := ⟨_, rfl⟩
    obtain ⟨q, hq⟩ : ∃ q, OW.length = q := ⟨_, rfl⟩
    have HOP := Lib.hid (fun w h => HOW.out (.pointer (some ⟨fb, 0, none⟩)) dd LL TT k w h)
    have HOD := Lib.hid (fun w h => vOwn_run A9 l c9 k (m2 : Int) TT w h HL.out HV.out (by omega))
    rw [hOW] at HOP HOD
    have HQ := Lib.hid hq
    have hq100 : q ≤ 1000 := by
      have := ownV_le HV.out k
      rw [hOW, hq] at this
      omega
    unfold trV at HOD
    have NB : Hid (NSt S W w5.drew (.pointer (some ⟨fb, 0, none⟩)) A1 m1 c1 A2 m2 c2 A9 l c9 dd LL TT TT) := N5.out.on ((Below.refl _ w5).drew)
    clear hOW hq HOW
    go_upto_region 8 with fail
    go_cut [11, 12] (fun s11 s12 wx => ∃ Ao co Aw cw, s11 = .slice Ao q co ∧ s12 = .slice Aw q cw ∧ Hid (NSt S W wx (.pointer (some ⟨fb, 0, none⟩)) A1 m1 c1 A2 m2 c2 A9 l c9 dd LL TT TT) ∧ Hid (Nums wx wx.heap.size Ao OW) ∧ Hid (Nums wx wx.heap.size Aw OW))
    case first =>
      go_region_held3 (fun W' => W'.cell? ⟨S, 2, none⟩ = some (.slice A9 l c9)) (first | exact N5.out.e2 | exact NB.out.e2 | go_keep)
        (first | (go_at_call 13; have HXX := HNW; clear HXX; refine (HOP.out _ NB.out.fil).mono ?_; rintro e w7 ⟨Ao, mo, co, rfl, hmo, _, _, hno, hw7⟩; obtain rfl : mo = q := hmo.trans HQ.out; have HNO := Lib.hid hno; have HNW2 : Hid (Nums w7 w7.heap.size Aw OW) := NumsK.on HNW.out (Nat.le_refl _) hw7; have NB := Lib.hid (NB.out.on hw7); clear hno hw7 hmo HNW)
               | (go_at_call 15; have HXX := HNO; clear HXX; refine (HOD.out _ NB.out.src.tree.at_).mono ?_; rintro e w7 ⟨v7, rfl, ho7⟩; obtain ⟨Aw, cw, rfl, _, _, hno, hw7⟩ := ho7.read; rw [HQ.out]; have HNW2 := Lib.hid hno; have HNO := Lib.hid (NumsK.on HNO.out (Nat.le_refl _) hw7); have NB := Lib.hid (NB.out.on hw7); clear hno hw7 ho7)
               | (go_at_call 13; refine (HOP.out _ NB.out.fil).mono ?_; rintro e w6 ⟨Ao, mo, co, rfl, hmo, _, _, hno, hw7⟩; obtain rfl : mo = q := hmo.trans HQ.out; have HNO := Lib.hid hno; have NB := Lib.hid (NB.out.on hw7); clear hno hw7 hmo)
               | (go_at_call 15; refine (HOD.out _ NB.out.src.tree.at_).mono ?_; rintro e w6 ⟨v7, rfl, ho7⟩; obtain ⟨Aw, cw, rfl, _, _, hno, hw7⟩ := ho7.read; rw [HQ.out]; have HNW := Lib.hid hno; have NB := Lib.hid (NB.out.on hw7); clear hno hw7 ho7))
      all_goals go_wp2_with fail
      all_goals go_meet
      all_goals exact ⟨_, _, _, _, rfl, rfl, NB, HNO, HNW2⟩
    case rest =>
      obtain ⟨Ao, co, Aw, cw, rfl, rfl, N6, HNO, HNW⟩ := hcut
      obtain ⟨kv, hkv⟩ : ∃ v, kidV TT k j = v := ⟨_, rfl⟩
      obtain ⟨wv, hwv⟩ : ∃ v, wordV dd LL TT k = v := ⟨_, rfl⟩
      have HKP := Lib.hid (fun w h => HKD.out (.pointer (some ⟨fb, 0, none⟩)) dd LL TT k j w h)
      have HWP := Lib.hid (fun w h => HWD.out (.pointer (some ⟨fb, 0, none⟩)) dd LL TT k w h)
      have HKd := Lib.hid (fun w h => vKid_run A9 l c9 k j kv TT w h HL.out hkv)
      have HWd := Lib.hid (fun w h => vWord_run A1 m1 c1 A2 m2 c2 A9 l c9 dd LL TT k wv w h HV.out hwv)
      rw [hkv] at HKP
      rw [hwv] at HWP
      unfold trV at HKd HWd
      have NB := Lib.hid (N6.out.on ((Below.refl _ _).drew))
      have NO := Lib.hid (NumsK.on HNO.out (Nat.le_refl _) ((Below.refl _ _).drew))
      have NW := Lib.hid (NumsK.on HNW.out (Nat.le_refl _) ((Below.refl _ _).drew))
      clear hkv hwv HKD HNO HNW
      go_upto_region 9 with fail
      go_cut [128] (fun s128 wx => s128 = .bool false ∧ Hid (NSt S W wx (.pointer (some ⟨fb, 0, none⟩)) A1 m1 c1 A2 m2 c2 A9 l c9 dd LL TT TT) ∧ Hid (Nums wx wx.heap.size Ao OW) ∧ Hid (Nums wx wx.heap.size Aw OW))
      case first =>
        go_region_held3 (fun W' => W'.cell? ⟨S, 0, none⟩ = some (.slice A1 m1 c1) ∧ W'.cell? ⟨S, 1, none⟩ = some (.slice A2 m2 c2) ∧ W'.cell? ⟨S, 2, none⟩ = some (.slice A9 l c9)) (first | exact ⟨N6.out.e0, N6.out.e1, N6.out.e2⟩ | exact ⟨NB.out.e0, NB.out.e1, NB.out.e2⟩ | go_keep)
          (first | (go_at_call 10; refine (HKP.out _ NB.out.fil).mono ?_; rintro e w7 ⟨rfl, hw7⟩; have NO := Lib.hid (NumsK.on NO.out (Nat.le_refl _) hw7); have NW := Lib.hid (NumsK.on NW.out (Nat.le_refl _) hw7); have NB := Lib.hid (NB.out.on hw7); clear hw7)
                 | (go_at_call 16; refine (HKd.out _ NB.out.src.tree.at_).mono ?_; rintro e w7 ⟨rfl, hw7⟩; have NO := Lib.hid (NumsK.on NO.out (Nat.le_refl _) hw7); have NW := Lib.hid (NumsK.on NW.out (Nat.le_refl _) hw7); have NB := Lib.hid (NB.out.on hw7); clear hw7)
                 | (go_at_call 11; refine (HWP.out _ NB.out.fil).mono ?_; rintro e w7 ⟨rfl, hw7⟩; have NO := Lib.hid (NumsK.on NO.out (Nat.le_refl _) hw7); have NW := Lib.hid (NumsK.on NW.out (Nat.le_refl _) hw7); have NB := Lib.hid (NB.out.on hw7); clear hw7)
                 | (go_at_call 17; refine (HWd.out _ NB.out.src).mono ?_; rintro e w7 ⟨rfl, hw7⟩; have NO := Lib.hid (NumsK.on NO.out (Nat.le_refl _) hw7); have NW := Lib.hid (NumsK.on NW.out (Nat.le_refl _) hw7); have NB := Lib.hid (NB.out.on hw7); clear hw7))
        all_goals go_wp2_with fail
        all_goals go_meet
        all_goals exact ⟨rfl, NB, NO, NW⟩
      case rest =>
        obtain ⟨rfl, N9, HNO, HNW⟩ := hcut
        clear HKP HWP HKd HWd NB NO NW N6
        go_wp2_with fail
        go_loopg [131] (q + 1) (fun h s131 wr => ∃ i r : Nat, s131 = .int .i64 i ∧ Hid (i ≤ q ∧ i + h = q + 1) ∧ wr = wc.drewN r)
        case atStart => exact ⟨0, 0, rfl, by show _ ∧ _; omega, rfl⟩
        case round =>
          obtain ⟨i, r, rfl, HI, rfl⟩ := hrel
          by_cases hi : i < q
          · have hiz : (i : Int) < (q : Int) := by omega
            obtain ⟨y, hy⟩ : ∃ y, OW[i]? = some y := ⟨_, List.getElem?_eq_getElem (by have := HQ.out; omega)⟩
            obtain ⟨b1, o1, rfl, hb1, hc1⟩ := HNO.out (by have := HQ.out; omega)
            obtain ⟨b2, o2, rfl, hb2, hc2⟩ := HNW.out (by have := HQ.out; omega)
            have y1 := hc1 i y hy
            have y2 := hc2 i y hy
            clear hc1 hc2 hy
            go_wp2_with fail
            go_quiet (fail)
            go_wp2_with fail
            go_roundg (q - i)
            case measure => have := HI.out; omega
            case rel => exact ⟨i + 1, _, by go_num, by show _ ∧ _; have := HI.out; omega, by first | rfl | exact World.drewN_drewN _ _ _⟩
          · have hiz : ¬ (i : Int) < (q : Int) := by omega
            have N10 := Lib.hid (N9.out.on (below_drewN (Below.refl _ _) r))
            generalize wc.drewN r = wd at *
            obtain ⟨X, hX⟩ : ∃ X, nodeV TT k = X := ⟨_, rfl⟩
            have HN := Lib.hid (HND.out (.pointer (some ⟨fb, 0, none⟩)) dd LL TT k wd N10.out.fil)
            rw [hX] at HN
            have HXX := Lib.hid hX
            clear HNO HNW N9 hi HI hX
            go_wp2_with fail
            refine HN.out.mono ?_
            rintro e w11 ⟨K6, q6, c6, rfl, hq6, hw⟩
            have N11 := Lib.hid (N10.out.on hw)
            have HQ6 := Lib.hid hq6
            obtain ⟨P, hP⟩ : ∃ P, w11.heap.size = P := ⟨_, rfl⟩
            obtain ⟨W2, hW2, hB2, hs2, a0, a1, a2, a3⟩ := nd_box w11 X.k X.f X.t K6 q6 c6 40
            have N12 := Lib.hid (N11.out.on hB2)
            rw [hP] at hs2 a0 a1 a2 a3
            have HN := Lib.hid (HWS.out (.pointer (some ⟨fb, 0, none⟩)) dd LL TT k W2 N12.out.fil)
            clear hw hq6 N10 N11 hB2
            go_wp2_with fail
            refine HN.out.mono ?_
            rintro e w13 ⟨As, ms, cs, rfl, hms, _, _, hst, hw⟩
            obtain rfl : ms = q6 := by rw [hms, HQ6.out, ← HXX.out]; exact List.length_map _
            have N13 := Lib.hid (N12.out.on hw)
            have HST := Lib.hid hst
            have hPs : P < w13.heap.size := by have := hw.size; omega
            have b0 := (hw.cell (p := ⟨P, 0, none⟩) (by show P < _; omega)).trans a0
            have b1 := (hw.cell (p := ⟨P, 1, none⟩) (by show P < _; omega)).trans a1
            have b2 := (hw.cell (p := ⟨P, 2, none⟩) (by show P < _; omega)).trans a2
            have b3 := (hw.cell (p := ⟨P, 3, none⟩) (by show P < _; omega)).trans a3
            obtain ⟨qq, hqq⟩ : ∃ qq, inT TT k = qq := ⟨_, rfl⟩
            have HN := Lib.hid (vIn_run A9 l c9 k TT w13 HL.out qq hqq)
            have HQQ := Lib.hid hqq
            obtain ⟨e0, e1, e2⟩ : w13.cell? ⟨S, 0, none⟩ = some (.slice A1 m1 c1) ∧ w13.cell? ⟨S, 1, none⟩ = some (.slice A2 m2 c2) ∧ w13.cell? ⟨S, 2, none⟩ = some (.slice A9 l c9) := ⟨N13.out.e0, N13.out.e1, N13.out.e2⟩
            unfold trV at HN
            clear hw hms hst a0 a1 a2 a3 N12 hW2 hs2 hqq
            go_wp2_with fail
            refine HN.out.mono ?_
            rintro e w14 ⟨rfl, hw⟩
            have N14 := Lib.hid (N13.out.on hw)
            have HST2 : Hid (CellsV stCells w14 w14.heap.size As (wrdsV dd LL TT k)) := (HST.out.below hw (Nat.le_refl _)).more hw.size
            have hPs2 : P < w14.heap.size := by have := hw.size; omega
            have d0 := (hw.cell (p := ⟨P, 0, none⟩) (by show P < _; omega)).trans b0
            have d1 := (hw.cell (p := ⟨P, 1, none⟩) (by show P < _; omega)).trans b1
            have d2 := (hw.cell (p := ⟨P, 2, none⟩) (by show P < _; omega)).trans b2
            have d3 := (hw.cell (p := ⟨P, 3, none⟩) (by show P < _; omega)).trans b3
            clear hw b0 b1 b2 b3 e0 e1 e2 N13 HST hPs
            cases qq with
            | false =>
              obtain rfl : X = ⟨0, 0, 0, []⟩ := by rw [← HXX.out]; unfold nodeV; rw [HQQ.out]; rfl
              obtain rfl : ms = 0 := HQ6.out
              simp only [] at d0 d1 d2
              go_wp2_with fail
              refine (HWK.out _).mono ?_
              rintro e w15 ⟨rfl, hw⟩
              have B15 : Hid (Below S W w15) := (N14.out.on hw).bel
              clear hw N14
              go_wp2_with fail
              go_ret
              exact ⟨rfl, B15.out⟩
            | true =>
              have hin := of_decide_eq_true HQQ.out
              rw [HL.out] at hin
              obtain ⟨z, rfl⟩ := Int.eq_ofNat_of_zero_le hin.1
              have hz : z < l := by omega
              have hzz : (z : Int) < (l : Int) := by omega
              have hXz : nd TT z = X := by rw [← HXX.out]; unfold nodeV kd; rw [HQQ.out, if_pos rfl, Int.toNat_natCast]
              obtain ⟨tb, tof, rfl, htb, hget⟩ := N14.out.src.tree.at_.get (by have := HL.out; omega)
              obtain ⟨K, q7, c7, g0, g1, g2, g3, gm, hqc, hc7, hN7⟩ := hget z _ (at_nd (by have := HL.out; omega))
              rw [hXz] at g0 g1 g2 gm hN7
              obtain rfl : q7 = ms := gm.trans HQ6.out.symm
              obtain ⟨W3, hW3, hB3, hs3, h0, h1, h2, h3⟩ := nd_box w14 X.k X.f X.t K q7 c7 40
              have N15 := Lib.hid (N14.out.on hB3)
              have HST3 : Hid (CellsV stCells W3 W3.heap.size As (wrdsV dd LL TT (z : Int))) := (HST2.out.below hB3 (Nat.le_refl _)).more hB3.size
              have HK3 : Hid (Nums W3 W3.heap.size K X.kids) := NumsK.on hN7 (Nat.le_refl _) hB3
              have j0 := (hB3.cell (p := ⟨P, 0, none⟩) hPs2).trans d0
              have j1 := (hB3.cell (p := ⟨P, 1, none⟩) hPs2).trans d1
              have j2 := (hB3.cell (p := ⟨P, 2, none⟩) hPs2).trans d2
              have j3 := (hB3.cell (p := ⟨P, 3, none⟩) hPs2).trans d3
              obtain ⟨R, hR⟩ : ∃ R, w14.heap.size = R := ⟨_, rfl⟩
              obtain ⟨u0, u1, u2⟩ : w14.cell? ⟨S, 0, none⟩ = some (.slice A1 m1 c1) ∧ w14.cell? ⟨S, 1, none⟩ = some (.slice A2 m2 c2) ∧ w14.cell? ⟨S, 2, none⟩ = some (.slice (some ⟨tb, tof, none⟩) l c9) := ⟨N14.out.e0, N14.out.e1, N14.out.e2⟩
              rw [hR] at h0 h1 h2 h3 hs3 hPs2
              have hq20 : q7 ≤ 20 := by
                have := HSM.out.2 X (by rw [← hXz]; exact List.mem_of_getElem? (at_nd (by have := HL.out; omega)))
                rw [HQ6.out]; exact this
              clear hB3 hget gm hN7 hin HST2 hXz N14
              go_wp2_with fail
              have HB0 : Hid (P < W3.heap.size ∧ R < W3.heap.size ∧ S < W3.heap.size) := by have := N15.out.sz; show _ ∧ _ ∧ _; omega
              go_loopg [219] (q7 + 1) (fun h s219 wr => ∃ i : Nat, s219 = .int .i64 i ∧ Hid (i ≤ q7 ∧ i + h = q7 + 1) ∧ Hid (Below W3.heap.size W3 wr))
              case atStart => exact ⟨0, rfl, by show _ ∧ _; omega, Below.refl _ _⟩
              case round =>
                obtain ⟨i, rfl, HI, BW⟩ := hrel
                generalize wr = wq at *
                by_cases hi : i < q7
                · have hiz : (i : Int) < (q7 : Int) := by omega
                  have NQ := Lib.hid (N15.out.on BW.out)
                  obtain ⟨y, hy⟩ : ∃ y, X.kids[i]? = some y := ⟨_, List.getElem?_eq_getElem (by have := HQ6.out; omega)⟩
                  have hsw : (wrdsV dd LL TT (z : Int))[i]? = some (wordV dd LL TT y) := by
                    unfold wrdsV
                    rw [HXX.out, List.getElem?_map, hy]
                    rfl
                  obtain ⟨sb, so, rfl, hsb, hsc⟩ := CellsV.get st_enc HST3.out (by have := (List.getElem?_eq_some_iff.1 hsw).1; omega)
                  have s0 : W3.cell? ⟨sb, so + i, none⟩ = some (.string (wordV dd LL TT y)) := by
                    have := hsc i _ hsw 0 _ rfl
                    simpa using this
                  obtain ⟨kb, ko, rfl, hkb, hkc⟩ := HK3.out (by have := (List.getElem?_eq_some_iff.1 hy).1; omega)
                  have k0 := hkc i y hy
                  have p0 := (BW.out.cell (p := ⟨sb, so + i, none⟩) hsb).trans s0
                  have p1 := (BW.out.cell (p := ⟨kb, ko + i, none⟩) hkb).trans k0
                  have p2 := (BW.out.cell (p := ⟨R, 3, none⟩) HB0.out.2.1).trans h3
                  obtain ⟨wv, hwv⟩ : ∃ v, wordV dd LL TT y = v := ⟨_, rfl⟩
                  have HWd := Lib.hid (fun w h => vWord_run A1 m1 c1 A2 m2 c2 (some ⟨tb, tof, none⟩) l c9 dd LL TT y wv w h HV.out hwv)
                  unfold trV at HWd
                  rw [hwv] at p0
                  have F0 : Hid (wq.cell? ⟨S, 0, none⟩ = some (.slice A1 m1 c1) ∧ wq.cell? ⟨S, 1, none⟩ = some (.slice A2 m2 c2) ∧ wq.cell? ⟨S, 2, none⟩ = some (.slice (some ⟨tb, tof, none⟩) l c9) ∧ wq.cell? ⟨sb, so + i, none⟩ = some (.string wv) ∧ wq.cell? ⟨kb, ko + i, none⟩ = some (.int .i64 y) ∧ wq.cell? ⟨R, 3, none⟩ = some (.slice (some ⟨kb, ko, none⟩) q7 c7)) := ⟨NQ.out.e0, NQ.out.e1, NQ.out.e2, p0, p1, p2⟩
                  have HLT : Hid (S < wq.heap.size ∧ sb < wq.heap.size ∧ kb < wq.heap.size ∧ R < wq.heap.size) := by have h1 := BW.out.size; have h2 := HB0.out; show _ ∧ _ ∧ _ ∧ _; omega
                  have NB : Hid (NSt S W wq.drew (.pointer (some ⟨fb, 0, none⟩)) A1 m1 c1 A2 m2 c2 (some ⟨tb, tof, none⟩) l c9 dd LL TT TT) := NQ.out.on ((Below.refl _ wq).drew)
                  clear hwv hsc hkc hsw hy s0 k0 p0 p1 p2
                  go_wp2_with fail
                  go_region_held3 (fun W' => W'.cell? ⟨S, 0, none⟩ = some (.slice A1 m1 c1) ∧ W'.cell? ⟨S, 1, none⟩ = some (.slice A2 m2 c2) ∧ W'.cell? ⟨S, 2, none⟩ = some (.slice (some ⟨tb, tof, none⟩) l c9) ∧ W'.cell? ⟨sb, so + i, none⟩ = some (.string wv) ∧ W'.cell? ⟨kb, ko + i, none⟩ = some (.int .i64 y) ∧ W'.cell? ⟨R, 3, none⟩ = some (.slice (some ⟨kb, ko, none⟩) q7 c7)) (first | exact F0.out | exact F1.out | go_keep)
                    (first | (go_at_call 17; refine (HWd.out _ NB.out.src).mono ?_; rintro e w7 ⟨rfl, hw7⟩; have B7 : Hid (Below wq.heap.size wq w7) := (Below.refl _ wq).drew.trans hw7; have F1 : Hid (w7.cell? ⟨S, 0, none⟩ = some (.slice A1 m1 c1) ∧ w7.cell? ⟨S, 1, none⟩ = some (.slice A2 m2 c2) ∧ w7.cell? ⟨S, 2, none⟩ = some (.slice (some ⟨tb, tof, none⟩) l c9) ∧ w7.cell? ⟨sb, so + i, none⟩ = some (.string wv) ∧ w7.cell? ⟨kb, ko + i, none⟩ = some (.int .i64 y) ∧ w7.cell? ⟨R, 3, none⟩ = some (.slice (some ⟨kb, ko, none⟩) q7 c7)) := ⟨(B7.out.cell (p := ⟨S, 0, none⟩) HLT.out.1).trans F0.out.1, (B7.out.cell (p := ⟨S, 1, none⟩) HLT.out.1).trans F0.out.2.1, (B7.out.cell (p := ⟨S, 2, none⟩) HLT.out.1).trans F0.out.2.2.1, (B7.out.cell (p := ⟨sb, so + i, none⟩) HLT.out.2.1).trans F0.out.2.2.2.1, (B7.out.cell (p := ⟨kb, ko + i, none⟩) HLT.out.2.2.1).trans F0.out.2.2.2.2.1, (B7.out.cell (p := ⟨R, 3, none⟩) HLT.out.2.2.2).trans F0.out.2.2.2.2.2⟩; clear hw7))
                  all_goals go_wp2_with fail
                  all_goals go_roundg (q7 - i)
                  all_goals first | (have := HI.out; omega) | exact ⟨i + 1, by go_num, by show _ ∧ _; have := HI.out; omega, BW.out.trans (B7.out.mono BW.out.size)⟩
                · have hiz : ¬ (i : Int) < (q7 : Int) := by omega
                  have NQ := Lib.hid (N15.out.on BW.out)
                  clear HST3 HK3 HI hi BW
                  go_wp2_with fail
                  refine (HWK.out _).mono ?_
                  rintro e w15 ⟨rfl, hw⟩
                  have B15 : Hid (Below S W w15) := (NQ.out.on hw).bel
                  clear hw NQ
                  go_wp2_with fail
                  go_ret
                  exact ⟨rfl, B15.out⟩
end Go.Proofs.YtpjgapnihmiceaaDoor
namespace Go.Proofs.YtpjgapnihmiceaaDoor
open Go.RowKit
set_option linter.unusedSimpArgs false
set_option linter.unusedVariables false
theorem FileAt.lt {w : World} {b : Nat} {d : List Int} {L : List Tv} {T : List Nd} (h : FileAt w b d L T) : b < w.heap.size := by
 obtain ⟨_, _, _, _, _, _, _, _, _, _, _, _, h, _⟩ := h
 exact h
set_option maxHeartbeats 4000000 in
set_option maxRecDepth 100000 in
theorem known_run (v : Value) (d : List Int) (L : List Tv) (T : List Nd) (n : Int) (q : Bool) (w : World) (h : FileIs w v d L T) (hq : Hid (inT T n = q)) :
  Calls Tryd.prog 25 #[v, .int .i64 n] w fun e w' => e = .returned (.bool q) ∧ w' = w := by
 rcases h with ⟨rfl, rfl⟩ | ⟨b, rfl, A1, n1, c1, A2, n2, c2, A, m, c, ⟨e0, e1, e2⟩, _, hs, hb, hv⟩
 ·obtain rfl : q = false := by rw [← hq.out, inT_nil]
  clear hq
  go_enter Tryd.func25, Tryd.ntmps25
  go_wp2_with fail
  go_ret
  exact ⟨rfl, rfl⟩
 ·have hl := hs.tree.len
  have HQ : Hid (decide (0 ≤ n ∧ n < (m : Int)) = q) := by show _ = _; rw [← hq.out, ← hl]; rfl
  clear hq hs hv hl
  by_cases h0 : 0 ≤ n
  ·by_cases h1 : n < (m : Int)
   ·obtain rfl : q = true := by rw [← HQ.out, decide_eq_true ⟨h0, h1⟩]
    clear HQ
    go_enter Tryd.func25, Tryd.ntmps25
    go_wp2_with fail
    go_ret
    exact ⟨rfl, rfl⟩
   ·obtain rfl : q = false := by rw [← HQ.out, decide_eq_false (fun h => h1 h.2)]
    clear HQ
    go_enter Tryd.func25, Tryd.ntmps25
    go_wp2_with fail
    go_ret
    exact ⟨rfl, rfl⟩
  ·obtain rfl : q = false := by rw [← HQ.out, decide_eq_false (fun h => h0 h.1)]
   clear HQ
   go_enter Tryd.func25, Tryd.ntmps25
   go_wp2_with fail
   go_ret
   exact ⟨rfl, rfl⟩
set_option maxHeartbeats 4000000 in
set_option maxRecDepth 100000 in
theorem reach_run (b : Nat) (d : List Int) (L : List Tv) (T : List Nd) (k f t : Int) (K : Option Addr) (m c : Nat) (w : World) (h : FileAt w b d L T) (hf : 0 ≤ f) (hft : f ≤ t) (ht : t ≤ (L.length : Int)) :
  Calls Tryd.prog 26 #[.pointer (some ⟨b, 0, none⟩), .agg #[.int .i64 k, .int .i64 f, .int .i64 t, .slice K m c]] w fun e w' => e = .returned (.tuple #[.int .i64 f, .int .i64 t]) ∧ Below w.heap.size w w' ∧ w'.heap.size = w.heap.size + 1 := by
 obtain ⟨A1, n1, c1, A2, n2, c2, A, q, c', ⟨e0, e1, e2⟩, _, hs, hb, hv⟩ := h
 have hl := hs.lt
 rw [hl] at ht
 have hn2 := hs.st
 obtain ⟨W, hW, hB, hWS, d0, d1, d2, d3⟩ := nd_box w k f t K m c 40
 have g1 := (hB.cell (p := ⟨b, 1, none⟩) hb).trans e1
 have x1 : max f 0 = f := by omega
 have x2 : min f (n2 : Int) = f := by omega
 have x3 : max t f = t := by omega
 have x4 : min t (n2 : Int) = t := by omega
 have X := Lib.hid (And.intro x1 (And.intro x2 (And.intro x3 x4)))
 have HB := Lib.hid hB
 clear hB hs hv hl e0 e1 e2 x1 x2 x3 x4
 go_enter Tryd.func26, Tryd.ntmps26
 go_wp2_with fail
 go_region
 go_wp2_with fail
 go_region
 go_wp2_with fail
 go_ret2
 exact ⟨rfl, HB.out.drew.drew, hWS⟩
set_option maxHeartbeats 8000000 in
set_option maxRecDepth 100000 in
theorem place_run (b : Nat) (d : List Int) (L : List Tv) (T : List Nd) (x : Nat) (z : Int) (w : World) (h : FileAt w b d L T) (hx : x ≤ L.length) (hL : Hid (z = if 0 < L.length then placeV L (x : Int) else 0)) :
  Calls Tryd.prog 48 #[.pointer (some ⟨b, 0, none⟩), .int .i64 (x : Int)] w fun e w' => e = .returned (.int .i64 z) ∧ w' = w := by
 obtain ⟨A1, n1, c1, A2, n2, c2, A, q, c', ⟨e0, e1, e2⟩, _, hs, hb, hv⟩ := h
 have hl := hs.lt
 have hn2 := hs.st
 by_cases h1 : x < n2
 ·obtain ⟨tb, tof, rfl, htb, t0, t1, t2, t3, t4⟩ := tv_get hs.tok (at_tok (i := x) (by omega))
  have hz : z = (tokV L x).f := by
   rw [hL.out, if_pos (by omega)]
   unfold placeV
   rw [if_pos (by omega)]
  subst hz
  have b1 : decide ((x : Int) < (n2 : Int)) = true := decide_eq_true (by omega)
  have b2 : x < n2 := h1
  clear hs hv hl hL hx
  generalize (tokV L x).f = z at *
  go_enter Tryd.func48, Tryd.ntmps48
  go_wp2_with fail
  go_ret
  exact ⟨rfl, rfl⟩
 ·obtain rfl : x = n2 := by omega
  by_cases h2 : x = 0
  ·subst h2
   obtain rfl : z = 0 := by rw [hL.out, if_neg (by omega)]
   clear hs hv hl hL hx h1
   go_enter Tryd.func48, Tryd.ntmps48
   go_wp2_with fail
   go_ret
   exact ⟨rfl, rfl⟩
  ·obtain ⟨y, hy⟩ : ∃ y, x - 1 = y := ⟨_, rfl⟩
   obtain ⟨tb, tof, rfl, htb, t0, t1, t2, t3, t4⟩ := tv_get hs.tok (at_tok (i := y) (by omega))
   have hz : z = (tokV L y).t := by
    rw [hL.out, if_pos (by omega)]
    unfold placeV
    rw [if_neg (by omega), show ((L.length : Int) - 1) = (y : Int) by omega]
   subst hz
   have b1 : decide ((x : Int) < (x : Int)) = false := decide_eq_false (by omega)
   have b2 : IntKind.i64.wrap ((x : Int) - 1) = (y : Int) := by rw [IntKind.wrap_i64]; omega
   have b3 : y < x := by omega
   have b4 : (0 : Int) < (x : Int) := by omega
   have b5 : decide (0 < x) = true := decide_eq_true (by omega)
   clear hs hv hl hL hx h1 h2 hy
   generalize (tokV L y).t = z at *
   go_enter Tryd.func48, Tryd.ntmps48
   go_wp2_with fail
   go_ret
   exact ⟨rfl, rfl⟩
theorem pun_cases (k : Int) : punB k = true ↔ (k = 78 ∨ k = 83 ∨ k = 79 ∨ k = 84 ∨ k = 80 ∨ k = 85 ∨ k = 81 ∨ k = 82 ∨ k = 87 ∨ k = 86) := by
 unfold punB
 rw [decide_eq_true_eq]
 omega
set_option maxHeartbeats 8000000 in
set_option maxRecDepth 100000 in
theorem puns_run (k : Int) (v : Bool) (w : World) (hv : Hid (punB k = v)) :
  Calls Tryd.prog 47 #[.int .i64 k] w fun e w' => e = .returned (.bool v) ∧ w' = w := by
 cases v with
 | true =>
  rcases (pun_cases k).1 hv.out with rfl | rfl | rfl | rfl | rfl | rfl | rfl | rfl | rfl | rfl
  all_goals
   clear hv
   go_enter Tryd.func47, Tryd.ntmps47
   go_wp2_with fail
   go_ret
   exact ⟨rfl, rfl⟩
 | false =>
  have hn : ¬ (k = 78 ∨ k = 83 ∨ k = 79 ∨ k = 84 ∨ k = 80 ∨ k = 85 ∨ k = 81 ∨ k = 82 ∨ k = 87 ∨ k = 86) := fun h => by
   have := (pun_cases k).2 h
   rw [hv.out] at this
   cases this
  have g1 : (k == 78) = false := by simp; omega
  have g2 : (k == 83) = false := by simp; omega
  have g3 : (k == 79) = false := by simp; omega
  have g4 : (k == 84) = false := by simp; omega
  have g5 : (k == 80) = false := by simp; omega
  have g6 : (k == 85) = false := by simp; omega
  have g7 : (k == 81) = false := by simp; omega
  have g8 : (k == 82) = false := by simp; omega
  have g9 : (k == 87) = false := by simp; omega
  have g10 : (k == 86) = false := by simp; omega
  clear hn hv
  go_enter Tryd.func47, Tryd.ntmps47
  go_wp2_with fail
  go_ret
  exact ⟨rfl, rfl⟩
end Go.Proofs.YtpjgapnihmiceaaDoor
namespace Go.Proofs.YtpjgapnihmiceaaDoor
open Go.RowKit
set_option linter.unusedSimpArgs false
set_option linter.unusedVariables false
section
variable {w : World} {base g c : Nat} {L : List Int}
def RowI (w : World) (base g : Nat) (L : List Int) : Prop := OwnK .i64 3 w base (.slice (some ⟨g, 0, none⟩) L.length L.length) L
theorem RowI.lt (h : RowI w base g L) : base ≤ g ∧ g < w.heap.size := World.ownsRow.lt h g rfl
theorem RowI.at_ (h : RowI w base g L) {i : Nat} {x : Int} (hx : L[i]? = some x) : w.cell? ⟨g, i, none⟩ = some (.int .i64 x) ∧ w.frozen? ⟨g, i, none⟩ = false := by
 have := World.ownsRow.cells h (g := g) rfl i (.int .i64 x) (by rw [List.getElem?_map, hx]; rfl)
 have hp : (⟨g, 0, none⟩ : Addr).add i = ⟨g, i, none⟩ := by unfold Addr.add; split <;> simp_all
 rw [hp] at this
 exact ⟨this, World.ownsRow.frozenAt (show w.ownsRow base 3 1 (.slice (some ⟨g, 0, none⟩) L.length L.length) L.length (L.map fun x => Value.int .i64 x) from h) _⟩
theorem RowI.put (h : RowI w base g L) (i : Nat) (x : Int) : RowI (w.setCell ⟨g, i, none⟩ (.int .i64 x)) base g (L.set i x) := by
 have h' : w.ownsRow base 3 1 (.slice (some ⟨g, 0, none⟩) L.length L.length) L.length (L.map fun x => Value.int .i64 x) := h
 have := (World.ownsRow.stored h' i (.int .i64 x)).1
 unfold RowI OwnK
 rw [List.length_set, List.map_set]
 exact this
theorem RowI.below {w' : World} (h : RowI w base g L) (hb : Below w.heap.size w w') : RowI w' base g L := OwnK.below h hb
theorem RowI.own (h : RowI w base g L) : OwnK .i64 3 w base (.slice (some ⟨g, 0, none⟩) L.length L.length) L := h
theorem make_row (w : World) (n : Nat) (hn : n ≤ 1000000) : ∃ w', (Instr.makeSlice 38 (.int .i64 (n : Int)) (.int .i64 (n : Int))).run Tryd.prog w = .ok (.slice (some ⟨w.heap.size, 0, none⟩) n n) w' ∧ RowI w' w.heap.size w.heap.size (List.replicate n 0) ∧ Below w.heap.size w w' ∧ w.heap.size < w'.heap.size := by
 obtain ⟨w2, hmk, o2, g2⟩ := run_makeK int_slice w w.heap.size n n (Nat.le_refl _) hn (Nat.le_refl _)
 have o3 : RowI w2 w.heap.size w.heap.size (List.replicate n 0) := by unfold RowI; rw [List.length_replicate]; exact o2
 exact ⟨w2, hmk, o3, (Below.refl _ _).grown g2 (Nat.le_refl _) (by intro g h; cases h), o3.lt.2⟩
end
def addOne (L : List Int) (c : Int) : List Int := L.set c.toNat (L.getD c.toNat 0 + 1)
theorem addOne_len (L : List Int) (c : Int) : (addOne L c).length = L.length := by simp [addOne]
theorem addOne_get {L : List Int} {c : Int} {i : Nat} {x : Int} (hx : L[i]? = some x) (hc : 0 ≤ c) : (addOne L c)[i]? = some (x + (if c = (i : Int) then 1 else 0)) := by
 unfold addOne
 have hi := (List.getElem?_eq_some_iff.1 hx).1
 by_cases e : c = (i : Int)
 ·subst e
  rw [if_pos rfl, Int.toNat_natCast, List.getElem?_set_self hi, List.getD_eq_getElem?_getD, hx]
  rfl
 ·rw [if_neg e, Int.add_zero, List.getElem?_set_ne (by omega)]
  exact hx
def parT (T : List Nd) (k r : Nat) : List Int := (List.range T.length).map fun (i : Nat) => ((parN (T.take k) (i : Int) + ((nd T k).kids.take r).count (i : Int) : Nat) : Int)
theorem parT_get (T : List Nd) (k r : Nat) {i : Nat} (hi : i < T.length) : (parT T k r)[i]? = some ((parN (T.take k) (i : Int) + ((nd T k).kids.take r).count (i : Int) : Nat) : Int) := by
 unfold parT
 rw [List.getElem?_map, List.getElem?_range hi]
 rfl
theorem parT_len (T : List Nd) (k r : Nat) : (parT T k r).length = T.length := by simp [parT]
theorem parT_zero (T : List Nd) : List.replicate T.length (0 : Int) = parT T 0 0 := by
 apply List.ext_getElem?
 intro i
 rcases Nat.lt_or_ge i T.length with h | h
 ·rw [parT_get T 0 0 h, List.getElem?_replicate, if_pos h]
  simp [parN]
 ·rw [List.getElem?_eq_none (by simpa using h), List.getElem?_eq_none (by rw [parT_len]; exact h)]
theorem parT_next {T : List Nd} {k : Nat} (hk : k < T.length) : parT T k (nd T k).kids.length = parT T (k + 1) 0 := by
 apply List.ext_getElem?
 intro i
 rcases Nat.lt_or_ge i T.length with h | h
 ·rw [parT_get T _ _ h, parT_get T _ _ h, par_take (at_nd hk)]
  simp
 ·rw [List.getElem?_eq_none (by rw [parT_len]; exact h), List.getElem?_eq_none (by rw [parT_len]; exact h)]
theorem parT_step {T : List Nd} {k r : Nat} {y : Int} (hy : (nd T k).kids[r]? = some y) (h0 : 0 ≤ y) : addOne (parT T k r) y = parT T k (r + 1) := by
 apply List.ext_getElem?
 intro i
 rcases Nat.lt_or_ge i T.length with h | h
 ·rw [addOne_get (parT_get T k r h) h0, parT_get T k (r + 1) h, count_take hy]
  congr 1
  split <;> omega
 ·rw [List.getElem?_eq_none (by rw [addOne_len, parT_len]; exact h), List.getElem?_eq_none (by rw [parT_len]; exact h)]
theorem parT_all (T : List Nd) {i : Nat} (hi : i < T.length) : (parT T T.length 0)[i]? = some ((parN T (i : Int) : Nat) : Int) := by
 rw [parT_get T _ _ hi, List.take_length]
 simp
end Go.Proofs.YtpjgapnihmiceaaDoor
