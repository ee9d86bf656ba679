/-
  The contract of Parents.
-/
import Derived.Test.YtkgaaabecdbidaaDoorMx15
import Derived.Test.YtkgaaabecdbidaaDoorMx11
import Derived.Test.YtkgaaabecdbidaaDoorMx10
import Derived.Test.YtkgaaabecdbidaaDoorMx04
import Derived.Test.YtkgaaabecdbidaaDoorMx08
import Derived.Test.YtkgaaabecdbidaaDoorMx14
namespace Go.Proofs.YtkgaaabecdbidaaDoor
open Go.RowKit
set_option linter.unusedSimpArgs false
set_option linter.unusedVariables false
set_option maxHeartbeats 16000000 in
set_option maxRecDepth 100000 in
theorem Parents_runT : SaysParents := by
 intro A n cap T w h ht100
 have hl := Lib.hid h.len
 have hn40 := h.small.1
 have hs := Lib.hid h.small
 obtain ⟨S, hS⟩ : ∃ S, w.heap.size = S := ⟨_, rfl⟩
 obtain ⟨W, hW⟩ : ∃ W, w.alloc (.cells #[.slice A n cap] 24) = W := ⟨_, rfl⟩
 have hC0 := CSt.start (cap := cap) h 24 hW
 have HC := Lib.hid (fun V hV => check_runT A n cap T V hV)
 unfold OutK
 rw [hS] at hC0 ⊢
 have C0 := Lib.hid hC0
 have d0 := hC0.e0
 rw [hl.out] at hn40
 clear h hC0 ht100
 by_cases hk : (sndT T).1 = 0
 ·have hV := chk_valid hk
  have HV := Lib.hid hV
  have he := trErr_zero hk
  rw [he] at HC ⊢
  rw [resOf_ok hk]
  have hn1 : 1 ≤ n := by have := hV.pos; have := hl.out; omega
  obtain ⟨l, hll⟩ : ∃ l, n - 1 = l := ⟨_, rfl⟩
  have hln : l < n := by omega
  have hlnz : (l : Int) < (n : Int) := by omega
  have HRT := Lib.hid (fun V => root_runB A n cap V hn1 hn40)
  rw [hll] at HRT
  have HEND : Hid (lastT T n 0 = parL T) := by show _ = _; rw [← hl.out, parents_all HV.out]; rfl
  have HLN : Hid (∀ k r, (lastT T k r).length = n) := fun k r => by rw [lastT_len]; exact hl.out
  have HZ : Hid ((List.replicate n (0 : Int)).set l (-1) = lastT T 0 0) := by show _ = _; rw [← lastT_zero, hl.out, hll]
  clear hk hV he hll
  unfold trV at *
  go_enter Tryd.func17, Tryd.ntmps17
  go_wp2_with fail
  refine (HC.out W C0.out.tree).mono ?_
  rintro e w1 ⟨rfl, hw1⟩
  have C1 := Lib.hid (C0.out.on hw1)
  have d1 := C1.out.e0
  clear hw1 HC C0 d0
  obtain ⟨w2, hmk, hrow, hbw, hsz2⟩ := make_row w1 n (by omega)
  have C2 := Lib.hid (C1.out.on hbw)
  have d2 := C2.out.e0
  have HN : Hid (NdsAt w2 w1.heap.size A T) := C1.out.tree.at_.below hbw (Nat.le_refl _)
  obtain ⟨g, hg⟩ : ∃ g, w1.heap.size = g := ⟨_, rfl⟩
  have hSg : S < g := by rw [← hg]; exact C1.out.lt
  rw [hg] at hmk hrow HN
  have R2 := Lib.hid hrow
  clear hrow hbw C1 hsz2
  go_wp2_with fail
  refine (HRT.out w2).mono ?_
  rintro e w3 ⟨rfl, hw3⟩
  have C3 := Lib.hid (C2.out.on hw3)
  have d3 := C3.out.e0
  have R3 := Lib.hid (R2.out.below hw3)
  have HG : Hid (NdsAt w3 g A T) := HN.out.below hw3 (Nat.le_of_lt R2.out.lt.2)
  obtain ⟨cc, ff⟩ := R3.out.at_ (i := l) (x := 0) (by rw [List.getElem?_replicate, if_pos hln])
  clear C2 R2 HN hw3 d2 hmk d1
  obtain ⟨w4, hw4⟩ : ∃ V, w3.setCell ⟨g, l, none⟩ (.int .i64 (-1)) = V := ⟨_, rfl⟩
  have B4 : Below g w3 w4 := by rw [← hw4]; exact (Below.refl g w3).setCell (p := ⟨g, l, none⟩) (Nat.le_refl g) _
  have R4 : Hid (RowI w4 g g (lastT T 0 0)) := by show RowI _ _ _ _; rw [← HZ.out, ← hw4]; exact R3.out.put l (-1)
  have d4 := (B4.cell (p := ⟨S, 0, none⟩) hSg).trans d3
  have HG4 : Hid (NdsAt w4 g A T) := HG.out.below B4 (Nat.le_refl _)
  have BS4 : Hid (Below S w w4) := C3.out.bel.trans (B4.mono (by omega))
  clear HG B4 R3
  go_wp2_with fail
  clear cc ff hw4 d3 C3
  go_loopg [26] (n + 1) (fun h s26 wr => ∃ (i : Nat), s26 = .int .i64 i ∧ Hid (i ≤ n ∧ i + h = n + 1) ∧ Hid (RowI wr g g (lastT T i 0)) ∧ Hid (Below g w4 wr))
  case atStart => exact ⟨0, rfl, by show _ ∧ _; omega, R4.out, Below.refl _ _⟩
  case round =>
   clear R4 d4
   obtain ⟨i, rfl, HI, HR, BW⟩ := hrel
   generalize wr = w5 at *
   have hsz : g < w5.heap.size := HR.out.lt.2
   by_cases hi : i < n
   ·have hiz : (i : Int) < (n : Int) := by omega
    obtain ⟨b, o, rfl, hbB, hget⟩ := HG4.out.get (by have := hl.out; omega)
    obtain ⟨K, q, c, c0, c1, c2, c3, hm, hmc, hcc, hK⟩ := hget i _ (at_nd (by have := hl.out; omega))
    have g0 := (BW.out.cell (p := ⟨b, o + i * 4, none⟩) (by show b < _; omega)).trans c0
    have g1 := (BW.out.cell (p := ⟨b, o + i * 4 + 1, none⟩) (by show b < _; omega)).trans c1
    have g2 := (BW.out.cell (p := ⟨b, o + i * 4 + 2, none⟩) (by show b < _; omega)).trans c2
    have g3 := (BW.out.cell (p := ⟨b, o + i * 4 + 3, none⟩) (by show b < _; omega)).trans c3
    have HK := Lib.hid hK
    have HM := Lib.hid hm
    have HKD := Lib.hid (HV.out.kid i (by have := hl.out; omega))
    have H20 : Hid (q ≤ 20) := by show _ ≤ _; rw [HM.out]; exact hs.out.2 _ (List.mem_of_getElem? (at_nd (by have := hl.out; omega)))
    have HNX := Lib.hid (lastT_next T i)
    have HST := Lib.hid (fun (r y : Nat) hy => lastT_step (T := T) (k := i) (r := r) (y := y) hy)
    clear hget c0 c1 c2 c3 hm hK
    generalize nd T i = x at *
    obtain ⟨w6, hw6⟩ : ∃ W', w5.alloc (.cells #[.int .i64 x.k, .int .i64 x.f, .int .i64 x.t, .slice K q c] 33) = W' := ⟨_, rfl⟩
    have B6 : Below w5.heap.size w5 w6 := by rw [← hw6]; exact (Below.refl _ _).alloc (Nat.le_refl _) _
    have n3 : w6.cell? ⟨w5.heap.size, 3, none⟩ = some (.slice K q c) := by rw [← hw6]; simp
    have HR6 : Hid (RowI w6 g g (lastT T i 0)) := HR.out.below B6
    have BW6 : Hid (Below g w4 w6) := BW.out.trans (B6.mono (by omega))
    clear B6 BW HR
    go_wp2_with fail
    clear g0 g1 g2 g3 hw6
    go_loopg [34] (q + 1) (fun h s34 wr => ∃ (r : Nat), s34 = .int .i64 r ∧ Hid (r ≤ q ∧ r + h = q + 1) ∧ Hid (RowI wr g g (lastT T i r)) ∧ Hid (Below g w4 wr))
    case atStart => exact ⟨0, rfl, by show _ ∧ _; omega, HR6.out, BW6.out⟩
    case round =>
     clear n3 HR6 BW6 hsz
     obtain ⟨r, rfl, HRR, HR, BW⟩ := hrel
     generalize wr = w7 at *
     by_cases hr : r < q
     ·have hrz : (r : Int) < (q : Int) := by omega
      obtain ⟨y, hy⟩ : ∃ y, x.kids[r]? = some y := ⟨_, List.getElem?_eq_getElem (by have := HM.out; omega)⟩
      obtain ⟨kb, ko, rfl, hkb, hkc⟩ := HK.out (by have := HM.out; omega)
      have k0 := (BW.out.cell (p := ⟨kb, ko + r, none⟩) (by show kb < _; omega)).trans (hkc r y hy)
      obtain ⟨hy1, hy2⟩ := HKD.out y (List.mem_of_getElem? hy)
      obtain ⟨z, rfl⟩ : ∃ z : Nat, y = z := ⟨y.toNat, by omega⟩
      have hzn : z < n := by omega
      have hzz : (z : Int) < (n : Int) := by omega
      obtain ⟨u, hu⟩ : ∃ u, (lastT T i r)[z]? = some u := ⟨_, List.getElem?_eq_getElem (by rw [HLN.out]; exact hzn)⟩
      obtain ⟨cell, fz⟩ := HR.out.at_ hu
      have HR2 : Hid (RowI (w7.setCell ⟨g, z, none⟩ (.int .i64 i)) g g (lastT T i (r + 1))) := by
       show RowI _ _ _ _
       rw [← HST.out r z hy]
       exact HR.out.put z _
      have BW2 : Hid (Below g w4 (w7.setCell ⟨g, z, none⟩ (.int .i64 i))) := BW.out.setCell (Nat.le_refl _) _
      clear hkc hy HR BW hu
      go_wp2_with fail
      go_roundg (q - r)
      case measure => have := HRR.out; omega
      case rel => exact ⟨r + 1, by go_num, by show _ ∧ _; have := HRR.out; omega, HR2.out, BW2.out⟩
     ·have hrz : ¬ (r : Int) < (q : Int) := by omega
      obtain rfl : r = q := by have := HRR.out; omega
      have HR2 : Hid (RowI w7 g g (lastT T (i + 1) 0)) := by
       show RowI _ _ _ _
       rw [← HNX.out, ← HM.out]
       exact HR.out
      go_wp2_with fail
      go_roundg (n - i)
      case measure => have := HI.out; omega
      case rel => exact ⟨i + 1, by go_num, by show _ ∧ _; have := HI.out; omega, HR2.out, BW.out⟩
   ·have hiz : ¬ (i : Int) < (n : Int) := by omega
    obtain rfl : i = n := by have := HI.out; omega
    have BR : Hid (Below S w w5) := BS4.out.trans (BW.out.mono (by omega))
    have OR : Hid (OwnK .i64 3 w5 S (.slice (some ⟨g, 0, none⟩) i i) (parL T)) := by
     have := HR.out.own
     rw [HLN.out, HEND.out] at this
     exact ownK_base this (by omega)
    go_wp2_with fail
    go_ret2
    exact ⟨_, rfl, OR.out, BR.out⟩
 ·obtain ⟨te, ve, he⟩ := trErr_some hk
  rw [resOf_bad hk]
  rw [he] at HC ⊢
  unfold trV at *
  go_enter Tryd.func17, Tryd.ntmps17
  go_wp2_with fail
  refine (HC.out W C0.out.tree).mono ?_
  rintro e w1 ⟨rfl, hw1⟩
  have C1 := Lib.hid (C0.out.on hw1)
  clear hw1 HC C0 d0
  go_wp2_with fail
  go_ret2
  exact ⟨_, rfl, OwnK.nil _ _ _ _, C1.out.bel⟩
end Go.Proofs.YtkgaaabecdbidaaDoor
namespace Go.Proofs.YtkgaaabecdbidaaDoor
open Go.RowKit
set_option linter.unusedSimpArgs false
set_option linter.unusedVariables false
def SaysOwners : Prop := ∀ (A : Option Addr) (n cap : Nat) (T : List Nd) (w : World), TreeAt w A n T → (rootOf T).t ≤ 100 →
 Calls Tryd.prog 26 #[trV A n cap] w fun e w' => ∃ v, e = .returned (.tuple #[v, trErr (sndT T)]) ∧ OutK (resOf (sndT T) (ownerL T) []) w v w'
theorem ownN_le (T : List Nd) (j : Nat) (tok : Int) : ownN T j tok ≤ j := by
 induction j with
 | zero => exact Nat.le_refl _
 | succ j ih =>
  rw [ownN_step, ownL_count]
  split <;> omega
theorem ownsF_length {T : List Nd} {i : Nat} : ∀ (h : Nat) (f : Int), (ownsF T i h f).length ≤ h
 | 0, _ => Nat.le_refl _
 | h + 1, f => by
  have := ownsF_length (T := T) (i := i) h (f + 1)
  unfold ownsF
  split
  ·rw [List.length_cons]; omega
  ·omega
theorem ownL_length {T : List Nd} {m : Int} (hV : Valid T m) {i : Nat} (hi : i < T.length) (hm : m ≤ 100) : (ownL T i).length ≤ 100 := by
 have h1 := hV.num i hi
 have h2 := ownsF_length (T := T) (i := i) ((nd T i).t - (nd T i).f).toNat (nd T i).f
 unfold ownL
 omega
theorem ownerL_get {T : List Nd} {q j : Nat} (hq : (rootOf T).t = (q : Int)) (hj : j < q) : (ownerL T)[j]? = some (ownerF T (j : Int)) := by
 unfold ownerL
 rw [List.getElem?_map, List.getElem?_range (by omega)]
 rfl
theorem ownerL_length {T : List Nd} {q : Nat} (hq : (rootOf T).t = (q : Int)) : (ownerL T).length = q := by
 unfold ownerL
 rw [List.length_map, List.length_range]
 omega
theorem ownL_of {T : List Nd} {m : Int} (hV : Valid T m) {i : Nat} (hi : i < T.length) {y : Int} (h : y ∈ ownL T i) {q : Nat} (hq : (rootOf T).t = (q : Int)) : ∃ z : Nat, y = (z : Int) ∧ z < q ∧ ownerF T (z : Int) = (i : Int) := by
 have ho := ownL_mem h
 have h1 := (own_iff.1 ho).1
 have h2 := hV.root _ i rfl hi h1
 have h3 := (hV.num i hi).2.2.1
 have h4 : y < (rootOf T).t := h2.2
 have h5 := h1.1
 refine ⟨y.toNat, by omega, by omega, ?_⟩
 rw [show ((y.toNat : Nat) : Int) = y by omega]
 exact hV.owner hi ho
set_option maxHeartbeats 16000000 in
set_option maxRecDepth 100000 in
theorem Whole_law (hW : SaysOwners) (hP : SaysParents) (hO : SaysOwn) (hT : SaysText) (A : Option Addr) (n cap : Nat) (T : List Nd) (W : World) (hb : NdsAt W W.heap.size A T) (hl : T.length = n) (hcap : n ≤ 9223372036854775807) :
  Calls Tryd.prog 6 #[trV A n cap] W fun e w' => e = .returned (.bool true) ∧ Below W.heap.size W w' := by
 have HFW := Lib.hid (fun w h1 h2 => FewT_run A n cap W.heap.size T w h1 h2 hl hcap)
 have HFS := Lib.hid (fun (A1 : Option Addr) (l c1 : Nat) (w1 : World) h hl hw => @law_few W w1 A A1 n cap l c1 T 24 h hl hw)
 have HB0 : Hid (NdsAt (W.alloc (.cells #[.slice A n cap] 24)) W.heap.size A T ∧ W.heap.size ≤ (W.alloc (.cells #[.slice A n cap] 24)).heap.size) := ⟨hb.below ((Below.refl _ _).alloc (Nat.le_refl _) _) (Nat.le_refl _), by simp⟩
 obtain ⟨L, hL⟩ : ∃ L, fewT T = L := ⟨_, rfl⟩
 rw [hL] at HFW HFS
 obtain ⟨l, hll⟩ : ∃ l, L.length = l := ⟨_, rfl⟩
 have HSM : Hid (SmallT L) := by show SmallT _; rw [← hL]; exact few_smallT T
 have HL := Lib.hid hll
 have hl40 : l ≤ 40 := by rw [← hll]; exact HSM.out.1
 obtain ⟨fv, hfv⟩ : ∃ v, decide (0 < l ∧ 100 < (rootOf L).t) = v := ⟨_, rfl⟩
 have HFR := Lib.hid (fun A c w (h : TreeAt w A l L) => far_run A l c L w h.at_ HL.out hl40 fv hfv)
 have HW := Lib.hid (works13_run hT)
 have HW0 := Lib.hid hW
 have HP0 := Lib.hid hP
 have HO0 := Lib.hid hO
 have HFV := Lib.hid hfv
 clear hb hL hl hll hfv hT hW hP hO
 unfold FewOutT at HFW
 unfold trV at *
 obtain ⟨S, hS⟩ : ∃ S, W.heap.size = S := ⟨_, rfl⟩
 rw [hS] at HFW HFS HB0 ⊢
 go_enter Tryd.func6, Tryd.ntmps6
 go_wp2_with fail
 refine (HFW.out _ HB0.out.1 HB0.out.2).mono ?_
 rintro e w1 ⟨v, rfl, A1, c1, rfl, _, _, hn1, hw1⟩
 rw [HL.out]
 obtain ⟨c0, f0, V, hV, d0, hTA, hBV, hsV⟩ := HFS.out A1 l c1 w1 hn1 HL.out hw1
 have HTA := Lib.hid hTA
 have BV := Lib.hid hBV
 clear HFW HFS HB0 hn1 hw1 hTA hBV
 go_wp2_with fail
 refine (HFR.out A1 c1 V HTA.out).mono ?_
 rintro e w2 ⟨rfl, hw2⟩
 have H2 := Lib.hid (HTA.out.below hw2)
 have B2 : Hid (Below S W w2) := BV.out.trans (hw2.mono (by omega))
 have d2 := (hw2.cell (p := ⟨S, 0, none⟩) hsV).trans d0
 have hs2 : S < w2.heap.size := by have := hw2.size; omega
 clear hw2 HFR HTA BV d0 hsV hV c0 f0
 cases fv with
 | true =>
  go_wp2_with fail
  refine (HW.out w2).mono ?_
  rintro e w4 ⟨rfl, hw4⟩
  have B4 : Hid (Below S W w4) := B2.out.trans (hw4.mono (by omega))
  clear hw4
  go_wp2_with fail
  go_ret
  exact ⟨rfl, B4.out⟩
 | false =>
  have HR : Hid ((rootOf L).t ≤ 100) := by
   show _ ≤ _
   rcases Nat.eq_zero_or_pos l with h0 | h0
   ·have : L = [] := List.eq_nil_of_length_eq_zero (by rw [HL.out]; exact h0)
    rw [this]
    decide
   ·have := of_decide_eq_false HFV.out
    omega
  have HWW := Lib.hid (fun A c w h => HW0.out A l c L w h HR.out)
  have HPP := Lib.hid (fun A c w h => HP0.out A l c L w h HR.out)
  have HOO := Lib.hid (fun (i : Nat) A c w h => HO0.out A l c (i : Int) L w h HR.out)
  clear HW0 HP0 HO0 HFV
  go_wp2_with fail
  refine (HWW.out A1 c1 w2 H2.out).mono ?_
  rintro e w3 ⟨v3, rfl, ho3⟩
  obtain ⟨O, co, rfl, hoc, hom, hn3, hw3⟩ := ho3.read
  have H3 := Lib.hid (H2.out.below hw3)
  have B3 : Hid (Below S W w3) := B2.out.trans (hw3.mono (by omega))
  have d3 := (hw3.cell (p := ⟨S, 0, none⟩) hs2).trans d2
  have hs3 : S < w3.heap.size := by have := hw3.size; omega
  clear hw3 HWW H2 B2 d2 hs2 ho3
  by_cases hk0 : (sndT L).1 = 0
  rotate_left
  ·obtain ⟨t, v, hx⟩ := trErr_some hk0
   rw [hx]
   have hz : (resOf (sndT L) (ownerL L) []).length = 0 := by rw [resOf_bad hk0]; rfl
   rw [hz]
   clear hn3 hoc hom hz hx hk0
   go_wp2_with fail
   refine (HW.out w3).mono ?_
   rintro e w4 ⟨rfl, hw4⟩
   have B4 : Hid (Below S W w4) := B3.out.trans (hw4.mono (by omega))
   clear hw4
   go_wp2_with fail
   go_ret
   exact ⟨rfl, B4.out⟩
  ·have HVL : Hid (Valid L (rootOf L).t) := chk_valid hk0
   have hpos : 0 < l := by rw [← HL.out]; exact HVL.out.pos
   obtain ⟨p, hp⟩ : ∃ p, l - 1 = p := ⟨_, rfl⟩
   have hpl : p < l := by omega
   have hplz : (p : Int) < (l : Int) := by omega
   have hw1 : IntKind.i64.wrap ((l : Int) - 1) = (p : Int) := by rw [IntKind.wrap_i64]; omega
   have hrt := root_at HL.out hpos
   rw [hp] at hrt
   obtain ⟨q, hq⟩ : ∃ q : Nat, (rootOf L).t = (q : Int) := by
    obtain ⟨h1, h2⟩ := HVL.out.num p (by rw [HL.out]; exact hpl)
    have h3 : nd L p = rootOf L := nd_at hrt
    rw [h3] at h2
    exact ⟨(rootOf L).t.toNat, by omega⟩
   have hq100 : q ≤ 100 := by have := HR.out; omega
   have HQ := Lib.hid hq
   rw [resOf_ok hk0] at hn3 hoc
   simp only [resOf_ok hk0, trErr_zero hk0, ownerL_length hq] at HPP ⊢
   have HN3 := Lib.hid hn3
   have hEO : Hid (∀ i, i < l → ownE L (i : Int) = (0, -1)) := fun i hi => by
    unfold ownE
    rw [resOf_ok hk0, HL.out, if_pos (by omega)]
   obtain ⟨b, o, rfl, hbB, hget⟩ := H3.out.at_.get (by have := HL.out; omega)
   obtain ⟨K, kq, cc, g0, g1, g2, g3, gm, _, _, _⟩ := hget p _ hrt
   rw [hq] at g2
   obtain ⟨rk, hrk⟩ : ∃ x, (rootOf L).k = x := ⟨_, rfl⟩
   obtain ⟨rf, hrf⟩ : ∃ x, (rootOf L).f = x := ⟨_, rfl⟩
   rw [hrk] at g0
   rw [hrf] at g1
   have HRF := Lib.hid hrf
   clear hget gm hn3 hoc hom hrt hq hrk hrf hk0 hp
   obtain ⟨R, hR⟩ : ∃ R, w3.heap.size = R := ⟨_, rfl⟩
   obtain ⟨w4, hw4⟩ : ∃ w, w3.alloc (.cells #[.int .i64 rk, .int .i64 rf, .int .i64 (q : Int), .slice K kq cc] 33) = w := ⟨_, rfl⟩
   have hb4 : Below R w3 w4 := by rw [← hw4, ← hR]; exact (Below.refl _ _).alloc (Nat.le_refl _) _
   have hs4 : w4.heap.size = R + 1 := by rw [← hw4, ← hR]; simp
   have r1 : w4.cell? ⟨R, 1, none⟩ = some (.int .i64 rf) := by rw [← hw4, ← hR]; simp
   have r2 : w4.cell? ⟨R, 2, none⟩ = some (.int .i64 (q : Int)) := by rw [← hw4, ← hR]; simp
   obtain ⟨w5, hmk, hdig, hb5, hs5⟩ := make_digs w4 q (by omega)
   rw [hs4] at hmk hdig hb5 hs5
   have HB5 : Hid (Below R w3 w5) := hb4.trans (hb5.mono (by omega))
   have HT5 : Hid (NdsAt w5 R (some ⟨b, o, none⟩) L) := by have := H3.out.at_; rw [hR] at this; exact this.below HB5.out (Nat.le_refl _)
   have HN5 : Hid (Nums w5 R O (ownerL L)) := by have := HN3.out; rw [hR] at this; exact NumsK.below this HB5.out (Nat.le_refl _)
   have r1' := (hb5.cell (p := ⟨R, 1, none⟩) (by show R < _; omega)).trans r1
   have r2' := (hb5.cell (p := ⟨R, 2, none⟩) (by show R < _; omega)).trans r2
   have hsR : S < R := by omega
   have d5 := (HB5.out.cell (p := ⟨S, 0, none⟩) hsR).trans d3
   have BW5 : Hid (Below S W w5) := B3.out.trans (HB5.out.mono (by omega))
   have HD5 := Lib.hid hdig
   clear hdig hb5 hb4 HB5 H3 HN3 B3 hs3
   go_wp2_with fail
   go_loopg [56] (l + 1) (fun h s56 wr => ∃ i : Nat, s56 = .int .i64 i ∧ Hid (i ≤ l ∧ i + h = l + 1) ∧ Hid (DigF wr (R + 1) (fun j => ownN L i (j : Int)) q) ∧ Hid (Below (R + 1) w5 wr) ∧ R + 1 < wr.heap.size)
   case atStart => exact ⟨0, rfl, by show _ ∧ _; omega, HD5.out, Below.refl _ _, hs5⟩
   case round =>
    clear HD5
    obtain ⟨i, rfl, HI, HD, BW, hsw⟩ := hrel
    generalize wr = wq at *
    have HQT : Hid (TreeAt wq (some ⟨b, o, none⟩) l L) := ⟨(HT5.out.below BW.out (by omega)).more (by omega), HL.out, HSM.out⟩
    have d6 := (BW.out.cell (p := ⟨S, 0, none⟩) (by show S < _; omega)).trans d5
    by_cases hi : i < l
    ·have hiz : (i : Int) < (l : Int) := by omega
     have HCO := Lib.hid (HOO.out i (some ⟨b, o, none⟩) c1 wq HQT.out)
     rw [hEO.out i hi] at HCO
     have HMEM := Lib.hid (fun y (h : y ∈ ownL L i) => ownL_of HVL.out (by rw [HL.out]; exact hi) h HQ.out)
     have HST := Lib.hid (fun j => ownN_step L i j)
     have HON := Lib.hid (fun j => ownN_le L i j)
     have hl100 := ownL_length HVL.out (i := i) (by rw [HL.out]; exact hi) HR.out
     obtain ⟨LO, hLO⟩ : ∃ LO, ownL L i = LO := ⟨_, rfl⟩
     rw [hLO] at hl100
     have hr0 : resOf ((0 : Nat), (-1 : Int)) (ownL L ((i : Int)).toNat) [] = LO := by rw [Int.toNat_natCast]; exact hLO
     have ht0 : trErr ((0 : Nat), (-1 : Int)) = .nilIface := rfl
     rw [hr0, ht0] at HCO
     rw [hLO] at HMEM HST
     clear hr0 ht0 hLO
     go_wp2_with fail
     refine HCO.out.mono ?_
     rintro e w6 ⟨v6, rfl, ho6⟩
     obtain ⟨P, cp, hv6, hpc, hpm, _, hw6⟩ := ho6.read
     have O6 := Lib.hid ho6.1
     subst hv6
     obtain ⟨lo, hlo⟩ : ∃ lo, LO.length = lo := ⟨_, rfl⟩
     rw [hlo] at hpc O6 hl100 ⊢
     obtain ⟨Z, hZ⟩ : ∃ Z, wq.heap.size = Z := ⟨_, rfl⟩
     rw [hZ] at O6 hsw
     have HLL := Lib.hid hlo
     have B6 : Hid (Below (R + 1) w5 w6) := BW.out.trans (hw6.mono (by omega))
     have D6 : Hid (DigF w6 (R + 1) (fun j => ownN L i (j : Int) + (LO.take 0).count (j : Int)) q) := (HD.out.keep hw6 (by rw [hZ]; exact hsw)).ext fun j _ => by simp
     have hs6 : Z ≤ w6.heap.size := by rw [← hZ]; exact hw6.size
     clear hw6 ho6 HCO HQT BW HD hlo d6
     go_wp2_with fail
     go_loopg [69] (lo + 1) (fun h s69 wr => ∃ r : Nat, s69 = .int .i64 r ∧ Hid (r ≤ lo ∧ r + h = lo + 1) ∧ Hid (DigF wr (R + 1) (fun j => ownN L i (j : Int) + (LO.take r).count (j : Int)) q) ∧ Hid (OwnK .i64 3 wr Z (.slice P lo cp) LO) ∧ Hid (Below (R + 1) w5 wr) ∧ Z ≤ wr.heap.size)
     case atStart => exact ⟨0, rfl, by show _ ∧ _; omega, D6.out, O6.out, B6.out, hs6⟩
     case round =>
      clear D6 O6 B6 hs6
      obtain ⟨r, rfl, HRR, HD, OW, BW, hsz⟩ := hrel
      generalize wr = wz at *
      by_cases hr : r < lo
      ·have hrz : (r : Int) < (lo : Int) := by omega
       obtain ⟨y, hy⟩ : ∃ y, LO[r]? = some y := ⟨_, List.getElem?_eq_getElem (by have := HLL.out; omega)⟩
       obtain ⟨z, rfl, hzq, hzo⟩ := HMEM.out y (List.mem_of_getElem? hy)
       obtain ⟨A8, c8, hv8, _, _, hn8⟩ := OW.out.nums
       injection hv8 with e1 e2 e3
       subst e1 e3
       clear e2
       obtain ⟨pb, po, rfl, hpb, hpcc⟩ := hn8 (by have := HLL.out; omega)
       have p0 := hpcc r _ hy
       have hOL : (ownerL L)[z]? = some (i : Int) := by rw [ownerL_get HQ.out hzq, hzo]
       obtain ⟨ob, oo, rfl, hob, hoc⟩ := HN5.out (by have := (List.getElem?_eq_some_iff.1 hOL).1; omega)
       have o0 := (BW.out.cell (p := ⟨ob, oo + z, none⟩) (by show ob < _; omega)).trans (hoc z _ hOL)
       have hzz : (z : Int) < (q : Int) := by omega
       have HCT := Lib.hid (fun (j : Int) => count_take hy j)
       obtain ⟨fz, hfz⟩ : ∃ fz, ownN L i (z : Int) + (LO.take r).count (z : Int) = fz := ⟨_, rfl⟩
       obtain ⟨s0, s1⟩ := HD.out z hzq
       simp only [hfz] at s0
       have hfb : fz ≤ 40 + r := by
        have h1 := HON.out (z : Int)
        have h2 : (LO.take r).count (z : Int) ≤ (LO.take r).length := List.count_le_length
        rw [List.length_take] at h2
        omega
       have hfw : IntKind.i64.wrap ((fz : Int) + 1) = (fz : Int) + 1 := by rw [IntKind.wrap_i64]; omega
       have HD2 : Hid (DigF (wz.setCell ⟨R + 1, z, none⟩ (.int .i64 ((fz : Int) + 1))) (R + 1) (fun j => ownN L i (j : Int) + (LO.take (r + 1)).count (j : Int)) q) := by
        have := HD.out.upd hzq (fz + 1)
        refine DigF.ext (by simpa using this) fun j hj => ?_
        by_cases e : j = z
        ·subst e
         rw [updF_same, HCT.out, if_pos rfl, ← hfz]
         omega
        ·rw [updF_other e, HCT.out, if_neg (by omega)]
         rfl
       have OW2 : Hid (OwnK .i64 3 (wz.setCell ⟨R + 1, z, none⟩ (.int .i64 ((fz : Int) + 1))) Z (.slice (some ⟨pb, po, none⟩) lo cp) LO) := OW.out.setCell (by show R + 1 < Z; exact hsw) _
       have BW2 : Hid (Below (R + 1) w5 (wz.setCell ⟨R + 1, z, none⟩ (.int .i64 ((fz : Int) + 1)))) := BW.out.setCell (Nat.le_refl _) _
       clear hpcc hy hn8 hOL hoc HCT hfz HD OW BW hfb hzo
       go_wp2_with fail
       go_roundg (lo - r)
       case measure => have := HRR.out; omega
       case rel => exact ⟨r + 1, by go_num, by show _ ∧ _; have := HRR.out; omega, HD2.out, OW2.out, BW2.out, by simpa using hsz⟩
      ·have hrz : ¬ (r : Int) < (lo : Int) := by omega
       have HD2 : Hid (DigF wz (R + 1) (fun j => ownN L (i + 1) (j : Int)) q) := HD.out.ext fun j _ => by
        rw [HST.out, List.take_of_length_le (by have := HLL.out; have := HRR.out; omega)]
       clear HD OW
       go_wp2_with fail
       go_roundg (l - i)
       case measure => have := HI.out; omega
       case rel => exact ⟨i + 1, by go_num, by show _ ∧ _; have := HI.out; omega, HD2.out, BW.out, by omega⟩
    ·have hiz : ¬ (i : Int) < (l : Int) := by omega
     have hil : i = l := by have := HI.out; omega
     have HSEEN : Hid (∀ j : Nat, j < q → (ownN L i (j : Int) = if rf ≤ (j : Int) then 1 else 0) ∧ (ownerF L (j : Int) < 0 ↔ ¬ rf ≤ (j : Int))) := fun j hj => by
      rw [hil, ← HL.out, ← HRF.out]
      exact HVL.out.seen (by rw [HQ.out]; omega)
     have r1'' := (BW.out.cell (p := ⟨R, 1, none⟩) (by show R < _; omega)).trans r1'
     have HON : Hid (Nums wq R O (ownerL L)) := NumsK.below HN5.out BW.out (by omega)
     have hsR2 : R + 1 < wq.heap.size := hsw
     clear HOO hEO hil hi HI
     go_wp2_with fail
     go_loopg [99] (q + 1) (fun h s99 wr => ∃ j : Nat, s99 = .int .i64 j ∧ Hid (j ≤ q ∧ j + h = q + 1) ∧ wr = wq)
     case atStart => exact ⟨0, rfl, by show _ ∧ _; omega, rfl⟩
     case round =>
      obtain ⟨j, rfl, HJ, hww⟩ := hrel
      obtain rfl := hww.symm
      by_cases hj : j < q
      ·have hjz : (j : Int) < (q : Int) := by omega
       obtain ⟨s0, _⟩ := HD.out j hj
       obtain ⟨hsn, hso⟩ := HSEEN.out j hj
       have hOL : (ownerL L)[j]? = some (ownerF L (j : Int)) := ownerL_get HQ.out hj
       obtain ⟨ob, oo, rfl, hob, hoc⟩ := HON.out (by have := (List.getElem?_eq_some_iff.1 hOL).1; omega)
       have o0 := hoc j _ hOL
       obtain ⟨ow, how⟩ : ∃ ow, ownerF L (j : Int) = ow := ⟨_, rfl⟩
       rw [how] at hso o0
       clear hoc hOL how
       by_cases hf : rf ≤ (j : Int)
       ·rw [if_pos hf] at hsn
        simp only [hsn] at s0
        have how : ¬ ow < 0 := by omega
        clear hsn hso
        go_wp2_with fail
        go_roundg (q - j)
        case measure => have := HJ.out; omega
        case rel => exact ⟨j + 1, by go_num, by show _ ∧ _; have := HJ.out; omega, rfl⟩
       ·rw [if_neg hf] at hsn
        simp only [hsn] at s0
        have how : ow < 0 := by omega
        clear hsn hso
        go_wp2_with fail
        go_roundg (q - j)
        case measure => have := HJ.out; omega
        case rel => exact ⟨j + 1, by go_num, by show _ ∧ _; have := HJ.out; omega, rfl⟩
      ·have hjz : ¬ (j : Int) < (q : Int) := by omega
       have HPL : Hid ((parL L).length = l) := by show _ = _; unfold parL; rw [List.length_map, List.length_range]; exact HL.out
       have HPG : Hid (∀ i, i < l → (parL L)[i]? = some (parF L (i : Int))) := fun i hi => by
        unfold parL
        rw [List.getElem?_map, List.getElem?_range (by rw [HL.out]; exact hi)]
        rfl
       have HPW : Hid (∀ i, i < l → 0 ≤ parF L (i : Int) → parF L (i : Int) < (l : Int) ∧ (nd L (parF L (i : Int)).toNat).f ≤ (nd L i).f ∧ (nd L i).t ≤ (nd L (parF L (i : Int)).toNat).t) := fun i hi h0 => by
        have := HVL.out.parF (i := i) rfl h0
        rw [HL.out] at this
        exact this
       have B7 : Hid (Below S W wq) := BW5.out.trans (BW.out.mono (by omega))
       have hs7 : S < wq.heap.size := by omega
       clear HD HSEEN HON hj HJ BW
       go_wp2_with fail
       refine (HPP.out _ c1 wq HQT.out).mono ?_
       rintro e w7 ⟨v7, rfl, ho7⟩
       obtain ⟨P, cp, rfl, hpc, hpm, hn7, hw7⟩ := ho7.read
       rw [HPL.out] at hpc ⊢
       have H7 := Lib.hid (HQT.out.below hw7)
       have B8 : Hid (Below S W w7) := B7.out.trans (hw7.mono (by omega))
       have d7 := (hw7.cell (p := ⟨S, 0, none⟩) hs7).trans d6
       have hs8 : S < w7.heap.size := by have := hw7.size; omega
       have HN7 := Lib.hid hn7
       clear hw7 ho7 hn7 HPP HQT B7 hs7 d6 r1'' hsR2
       go_wp2_with fail
       go_loopg [129] (l + 1) (fun h s129 wr => ∃ i q : Nat, s129 = .int .i64 i ∧ Hid (i ≤ l ∧ i + h = l + 1) ∧ wr = w7.drewN q)
       case atStart => exact ⟨0, 0, rfl, by show _ ∧ _; omega, rfl⟩
       case round =>
        obtain ⟨t, nq, rfl, HTI, rfl⟩ := hrel
        by_cases ht : t < l
        ·have htz : (t : Int) < (l : Int) := by omega
         obtain ⟨pb, po, rfl, hpb, hpcc⟩ := HN7.out (by rw [HPL.out]; omega)
         have p0 := hpcc t _ (HPG.out t ht)
         have hpw := HPW.out t ht
         obtain ⟨b2, o2, eb, hb2, hget⟩ := H7.out.at_.get (by have := HL.out; omega)
         cases eb
         obtain ⟨K2, q2, cc2, _, e1, e2, _, gm, _, _, _⟩ := hget t _ (at_nd (by have := HL.out; omega))
         clear gm
         obtain ⟨pv, hpv⟩ : ∃ v, parF L (t : Int) = v := ⟨_, rfl⟩
         rw [hpv] at p0 hpw
         by_cases h0 : 0 ≤ pv
         ·obtain ⟨k1, k2, k3⟩ := hpw h0
          obtain ⟨u, rfl⟩ : ∃ u : Nat, pv = u := ⟨pv.toNat, by omega⟩
          rw [Int.toNat_natCast] at k2 k3
          obtain ⟨K3, q3, cc3, _, x1, x2, _, gm, _, _, _⟩ := hget u _ (at_nd (by have := HL.out; omega))
          generalize nd L t = nt at *
          generalize nd L u = nu at *
          have k2' : ¬ nt.f < nu.f := by omega
          have k3' : ¬ nu.t < nt.t := by omega
          clear gm hget hpcc hpw hpv k2 k3
          go_wp2_with fail
          go_quiet (fail)
          go_wp2_with fail
          go_roundg (l - t)
          case measure => have := HTI.out; omega
          case rel => exact ⟨t + 1, _, by go_num, by show _ ∧ _; have := HTI.out; omega, by first | rfl | exact World.drewN_drewN _ _ _⟩
         ·have hlt : decide (0 ≤ pv) = false := by simpa using h0
          have hlt2 : pv < 0 := by omega
          clear hget hpcc hpw hpv
          go_wp2_with fail
          go_quiet (fail)
          go_wp2_with fail
          go_roundg (l - t)
          case measure => have := HTI.out; omega
          case rel => exact ⟨t + 1, _, by go_num, by show _ ∧ _; have := HTI.out; omega, by first | rfl | exact World.drewN_drewN _ _ _⟩
        ·have htz : ¬ (t : Int) < (l : Int) := by omega
         go_wp2_with fail
         refine (HW.out _).mono ?_
         rintro e w10 ⟨rfl, hw10⟩
         have B10 : Hid (Below S W w10) := (below_drewN B8.out nq).trans (hw10.mono (by show S ≤ w7.heap.size; omega))
         clear hw10
         go_wp2_with fail
         go_ret
         exact ⟨rfl, B10.out⟩
end Go.Proofs.YtkgaaabecdbidaaDoor
namespace Go.Proofs.YtkgaaabecdbidaaDoor
open Go.RowKit
set_option linter.unusedSimpArgs false
set_option linter.unusedVariables false
theorem RowI.heap {w w' : World} {base g : Nat} {L : List Int} (h : RowI w base g L) (hk : w'.heap[g]? = w.heap[g]?) : RowI w' base g L := OwnK.heap h fun x hx => by cases hx; exact hk
set_option maxHeartbeats 4000000 in
set_option maxRecDepth 100000 in
theorem owners1_run (c f t : Int) (j : Nat) (b g base n : Nat) (L : List Int) (w : World) (h2 : VarAt w b (.slice (some ⟨g, 0, none⟩) n n)) (h3 : RowI w base g L) (hL : L.length = n) (hbg : b ≠ g) (hin : ∀ x, f ≤ x → x < t → 0 ≤ x ∧ x < (n : Int)) (hn : n ≤ 400) :
  Calls Tryd.prog 48 #[.agg #[.int .i64 c, .int .i64 j, .int .i64 f, .int .i64 t], .pointer (some ⟨b, 0, none⟩)] w fun e w' => e = .returned (.tuple #[]) ∧ RowI w' base g (setS L ⟨c, j, f, t⟩) ∧ But w w' [g] := by
 obtain ⟨V, hV⟩ : ∃ V, w.alloc (.cells #[.int .i64 c, .int .i64 j, .int .i64 f, .int .i64 t] 64) = V := ⟨_, rfl⟩
 obtain ⟨N, hN⟩ : ∃ N, w.heap.size = N := ⟨_, rfl⟩
 have hB : Below w.heap.size w V := by rw [← hV]; exact (Below.refl _ _).alloc (Nat.le_refl _) _
 have hs1 : V.cell? ⟨N, 1, none⟩ = some (.int .i64 j) := by rw [← hV, ← hN]; simp
 have hs2 : V.cell? ⟨N, 2, none⟩ = some (.int .i64 f) := by rw [← hV, ← hN]; simp
 have hs3 : V.cell? ⟨N, 3, none⟩ = some (.int .i64 t) := by rw [← hV, ← hN]; simp
 have hVN : V.heap.size = N + 1 := by rw [← hV, ← hN]; simp
 have hgN : g < N := by have := h3.lt.2; omega
 have hbN : b < N := by have := h2.lt; omega
 have V2 := Lib.hid (h2.below hB)
 have R2 := Lib.hid (h3.below hB)
 have B0 : Hid (But w V [g]) := But.of_below hB
 have HL := Lib.hid hL
 obtain ⟨q, hq⟩ : ∃ q : Nat, (t - f).toNat = q := ⟨_, rfl⟩
 have hspan : Hid (setS L ⟨c, j, f, t⟩ = ((runW q f).map fun x => (x, (j : Int))).foldl setP L) := by show _ = _; unfold setS pairW spanW; simp only; rw [hq]
 have HN2 : Hid ((f < t → t = f + q) ∧ (¬ f < t → q = 0)) := ⟨fun h => by omega, fun h => by omega⟩
 have HIN := Lib.hid hin
 have HC : Hid (V.cell? ⟨N, 1, none⟩ = some (.int .i64 j) ∧ V.cell? ⟨N, 3, none⟩ = some (.int .i64 t) ∧ N < V.heap.size) := ⟨hs1, hs3, by omega⟩
 clear hB h2 h3 hq hin hL hVN
 go_enter Tryd.func48, Tryd.ntmps48
 go_wp2_with fail
 clear hs1 hs2 hs3
 go_loopg [3] (q + 1) (fun h s3 wr => ∃ (k : Nat) (z : Int), s3 = .int .i64 z ∧ Hid (z = f + (k : Int) ∧ k ≤ q ∧ k + h = q + 1) ∧ Hid (RowI wr base g (((runW k f).map fun x => (x, (j : Int))).foldl setP L)) ∧ Hid (But V wr [g]))
 case atStart => exact ⟨0, f, rfl, by show _ ∧ _; simp, R2.out, But.refl _ _⟩
 case round =>
  clear R2
  obtain ⟨k, z, rfl, HK, RW, BW⟩ := hrel
  generalize wr = w1 at *
  have e1 := (BW.out.cell (p := ⟨N, 1, none⟩) HC.out.2.2 (by simp; omega)).trans HC.out.1
  have e3 := (BW.out.cell (p := ⟨N, 3, none⟩) HC.out.2.2 (by simp; omega)).trans HC.out.2.1
  have vb := (V2.out.but BW.out (by simp; exact hbg)).1
  by_cases hk : k < q
  ·have hzt : z < t := by
    have h1 := HK.out
    have h2 := HN2.out
    rcases Int.lt_or_le f t with h3 | h3
    ·have := h2.1 h3; omega
    ·have := h2.2 (by omega); omega
   obtain ⟨hz0, hzn⟩ := HIN.out z (by have := HK.out; omega) hzt
   obtain ⟨y, rfl⟩ : ∃ y : Nat, z = y := ⟨z.toNat, by omega⟩
   have hlen : (((runW k f).map fun x => (x, (j : Int))).foldl setP L).length = n := by rw [setP_len]; exact HL.out
   obtain ⟨x, hx⟩ : ∃ x, (((runW k f).map fun x => (x, (j : Int))).foldl setP L)[y]? = some x := ⟨_, List.getElem?_eq_getElem (by omega)⟩
   obtain ⟨c1, f1⟩ := RW.out.at_ hx
   have RW2 : Hid (RowI (w1.setCell ⟨g, y, none⟩ (.int .i64 j)) base g (((runW (k + 1) f).map fun x => (x, (j : Int))).foldl setP L)) := by
    show RowI _ _ _ _
    rw [runW_snoc, List.map_append, List.foldl_append]
    have := RW.out.put y (j : Int)
    rw [show f + (k : Int) = (y : Int) from HK.out.1.symm]
    exact this
   have BW2 : Hid (But V (w1.setCell ⟨g, y, none⟩ (.int .i64 j)) [g]) := BW.out.setCell (p := ⟨g, y, none⟩) (by simp) _
   clear hx hlen RW BW
   go_wp2_with fail
   go_roundg (q - k)
   case measure => have := HK.out; omega
   case rel => exact ⟨k + 1, (y : Int) + 1, by go_num, by show _ ∧ _; have := HK.out; omega, RW2.out, BW2.out⟩
  ·obtain rfl : k = q := by have := HK.out; omega
   have hzt : ¬ z < t := by
    have h1 := HK.out
    have h2 := HN2.out
    rcases Int.lt_or_le f t with h3 | h3
    ·have := h2.1 h3; omega
    ·have := h2.2 (by omega); omega
   have hend : Hid (RowI w1 base g (setS L ⟨c, j, f, t⟩)) := by show RowI _ _ _ _; rw [hspan.out]; exact RW.out
   clear RW
   go_wp2_with fail
   go_end0
   exact ⟨rfl, hend.out, B0.out.trans BW.out⟩
theorem owners_act {T : List Nd} {m : Int} (hV : Valid T m) (S b g base n : Nat) (hn : (rootOf T).t = n) (hn4 : n ≤ 400) (hb : b < S) (hbg : b ≠ g) (L0 : List Int) (hL : L0.length = n) : ActW T S 48 #[.pointer (some ⟨b, 0, none⟩)]
  (fun D bs w => bs = [g] ∧ VarAt w b (.slice (some ⟨g, 0, none⟩) n n) ∧ RowI w base g (D.foldl setS L0)) := by
 refine ⟨entersP_of Tryd.func48 (by kernel_rfl) rfl, fun D s R bs w hs hI hS => ?_, fun D bs w w' hI hap => ?_⟩
 ·obtain ⟨rfl, h2, h3⟩ := hI
  have hr := hV.num (T.length - 1) (by have := hV.pos; omega)
  have b1 : 0 ≤ (rootOf T).f := hr.2.2.1
  refine (owners1_run s.c s.f s.t s.j b g base n _ w h2 h3 (by rw [setS_len]; exact hL) hbg (fun x h1 h2 => ?_) hn4).mono ?_
  ·have := step_in hV (hs ▸ (by simp) : s ∈ stepsW T (T.length - 1)) h1 h2
   omega
  ·rintro e w' ⟨rfl, k1, k2⟩
   refine ⟨rfl, [g], ⟨rfl, h2.but k2 (by simpa using hbg), by rw [List.foldl_append]; exact k1⟩, k2, fun x hx => ⟨.inl hx, ?_⟩⟩
   obtain rfl : x = g := by simpa using hx
   exact k1.lt.2
 ·obtain ⟨rfl, h2, h3⟩ := hI
  exact ⟨rfl, h2.heap (hap.block b h2.lt (.inr hb)), h3.heap (hap.block g h3.lt.2 (.inl (by simp)))⟩
end Go.Proofs.YtkgaaabecdbidaaDoor
