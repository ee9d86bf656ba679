/-
  Layer 13 (tree): how many steps a walk has at most. No program.
-/
import Derived.Test.YtkgaaabecdbidaaDoorMx07
import Derived.Test.YtkgaaabecdbidaaDoorMx10
import Derived.Test.YtkgaaabecdbidaaDoorMx03
import Derived.Test.YtkgaaabecdbidaaDoorMx11
namespace Go.Proofs.YtkgaaabecdbidaaDoor
open Go.RowKit
set_option linter.unusedSimpArgs false
section
variable {T : List Nd} {m : Int}
def lenW (T : List Nd) (l : List Int) : Nat := (l.map fun c => (stepsW T c.toNat).length + 1).sum
theorem bodyW_len {i : Nat} : ∀ (l : List Int) (tok : Int), (∀ c ∈ l, c.toNat < i) → (bodyW T i l tok).length = 2 + lenW T l
 | [], tok, _ => by rw [bodyW_nil]; rfl
 | c :: r, tok, h => by
  rw [bodyW_cons T r tok (h c (List.mem_cons_self ..)), List.length_cons, List.length_cons, List.length_append, bodyW_len r _ fun d hd => h d (List.mem_cons_of_mem _ hd)]
  simp only [lenW, List.map_cons, List.sum_cons, stepsW, List.length_cons]
  show (bodyW T c.toNat (nd T c.toNat).kids (nd T c.toNat).f).length + _ + 1 + 1 = _
  omega
theorem steps_len (hV : Valid T m) {i : Nat} (hi : i < T.length) : (stepsW T i).length + 1 ≤ 4 * (i + 1) :=
 weigh (fun i => (stepsW T i).length + 1) 4 (fun i => (nd T i).kids.map Int.toNat) T.length (fun i hi c hc => by
  obtain ⟨d, hd, rfl⟩ := List.mem_map.1 hc
  have := hV.kid i hi d hd
  omega) (fun c i hi hc => by
  rw [count_upto (fun j hj d hd => (hV.kid j hj d hd).1) c (i + 1) (by omega)]
  have h1 := par_take_le T c (i + 1)
  have h2 := hV.par c (by omega)
  omega) (fun i hi => by
  show (stepsW T i).length + 1 ≤ _
  have h1 := bodyW_len (T := T) (nd T i).kids (nd T i).f fun c hc => by have := hV.kid i hi c hc; show c.toNat < i; omega
  unfold stepsW
  rw [List.length_cons, h1]
  unfold lenW
  rw [List.map_map]
  show 2 + (List.map (fun c => (stepsW T c.toNat).length + 1) (nd T i).kids).sum + 1 + 1 ≤ 4 + (List.map ((fun i => (stepsW T i).length + 1) ∘ Int.toNat) (nd T i).kids).sum
  have e : ((fun i => (stepsW T i).length + 1) ∘ Int.toNat) = fun c : Int => (stepsW T c.toNat).length + 1 := rfl
  rw [e]
  omega) i hi
theorem steps_all (hV : Valid T m) (h40 : T.length ≤ 40) : (stepsW T (T.length - 1)).length ≤ 160 := by
 have := steps_len hV (i := T.length - 1) (by have := hV.pos; omega)
 omega
theorem dep_bound : ∀ (D : List Stp) (p : Int × Int), p.1 - D.length ≤ (D.foldl depS p).1 ∧ (D.foldl depS p).1 ≤ p.1 + D.length
 | [], p => by simp
 | s :: D, p => by
  have h := dep_bound D (depS p s)
  rw [List.foldl_cons]
  have hs : p.1 - 1 ≤ (depS p s).1 ∧ (depS p s).1 ≤ p.1 + 1 := by
   unfold depS
   split
   ·exact ⟨by show _ ≤ p.1 + 1; omega, by show p.1 + 1 ≤ _; omega⟩
   ·split
    ·exact ⟨by show _ ≤ p.1 - 1; omega, by show p.1 - 1 ≤ _; omega⟩
    ·exact ⟨by omega, by omega⟩
  rw [List.length_cons]
  omega
theorem dep_small (hV : Valid T m) (h40 : T.length ≤ 40) {D : List Stp} {s : Stp} {R : List Stp} (h : D ++ s :: R = stepsW T (T.length - 1)) : -160 ≤ (D.foldl depS (0, 0)).1 ∧ (D.foldl depS (0, 0)).1 ≤ 160 := by
 have h1 := steps_all hV h40
 rw [← h, List.length_append] at h1
 have h2 := dep_bound D (0, 0)
 have e : ((0 : Int), (0 : Int)).1 = 0 := rfl
 rw [e] at h2
 omega
end
end Go.Proofs.YtkgaaabecdbidaaDoor
namespace Go.Proofs.YtkgaaabecdbidaaDoor
open Go.RowKit
set_option linter.unusedSimpArgs false
set_option linter.unusedVariables false
theorem cnt_take {T : List Nd} {i : Nat} {x : Nd} (h : T[i]? = some x) (k : Int) : cntT (T.take (i + 1)) k = cntT (T.take i) k + (if x.k = k then 1 else 0) := by
 unfold cntT
 rw [List.take_add_one, h, List.countP_append]
 by_cases e : x.k = k
 ·rw [if_pos e]; simp [e]
 ·rw [if_neg e]; simp [e]
theorem cnt_le (T : List Nd) (k : Int) : cntT T k ≤ T.length := List.countP_le_length
set_option maxHeartbeats 8000000 in
set_option maxRecDepth 100000 in
theorem Checks_law (hC : SaysCheck) (hN : SaysCount) (hT : SaysText) (A : Option Addr) (n cap : Nat) (m kind : Int) (T : List Nd) (W : World) (hb : NdsAt W W.heap.size A T) (hl : T.length = n) (hcap : n ≤ 9223372036854775807) (hg : ErrType W) :
    Calls Tryd.prog 3 #[trV A n cap, .int .i64 m, .int .i64 kind] W fun e w' => e = .returned (.bool true) ∧ Below W.heap.size W w' := by
  have HFW := Lib.hid (fun w h1 h2 => FewT_run A n cap W.heap.size T w h1 h2 hl hcap)
  have HFS := Lib.hid (fun (A1 : Option Addr) (l c1 : Nat) (w1 : World) h hl hw => @law_few W w1 A A1 n cap l c1 T 24 h hl hw)
  have HB0 : Hid (NdsAt (W.alloc (.cells #[.slice A n cap] 24)) W.heap.size A T ∧ W.heap.size ≤ (W.alloc (.cells #[.slice A n cap] 24)).heap.size) := ⟨hb.below ((Below.refl _ _).alloc (Nat.le_refl _) _) (Nat.le_refl _), by simp⟩
  have HG := Lib.hid hg
  have hgl := hg.lt
  obtain ⟨L, hL⟩ : ∃ L, fewT T = L := ⟨_, rfl⟩
  rw [hL] at HFW HFS
  obtain ⟨l, hll⟩ : ∃ l, L.length = l := ⟨_, rfl⟩
  have HSM : Hid (SmallT L) := by show SmallT _; rw [← hL]; exact few_smallT T
  have HL := Lib.hid hll
  have hl40 : l ≤ 40 := by rw [← hll]; exact HSM.out.1
  obtain ⟨k, hk⟩ : ∃ k : Int, ((chkT L m).1 : Int) = k := ⟨_, rfl⟩
  obtain ⟨a, ha⟩ : ∃ a : Int, (chkT L m).2 = a := ⟨_, rfl⟩
  have HCode := Lib.hid (fun w => code_trErr (chkT L m) (chkT_le L m).1 k hk w)
  have HOff := Lib.hid (fun w hg => off_trErr (chkT L m) (chkT_le L m).2 a ha w hg)
  have HK := Lib.hid hk
  have HA := Lib.hid ha
  have HC := Lib.hid (fun A cap w h => hC A l cap m L w h)
  obtain ⟨x, hx⟩ : ∃ x, trErr (chkT L m) = x := ⟨_, rfl⟩
  rw [hx] at HCode HOff HC
  have HN := Lib.hid hN
  have HW := Lib.hid (works13_run hT)
  clear hb hL hg hl hll hk ha hx hC hN hT
  unfold FewOutT at HFW
  unfold trV at *
  obtain ⟨S, hS⟩ : ∃ S, W.heap.size = S := ⟨_, rfl⟩
  rw [hS] at HFW HFS HB0 ⊢
  go_enter Tryd.func3, Tryd.ntmps3
  go_wp2_with fail
  refine (HFW.out _ HB0.out.1 HB0.out.2).mono ?_
  rintro e w1 ⟨v, rfl, A1, c1, rfl, _, _, hn1, hw1⟩
  rw [HL.out]
  obtain ⟨c0, f0, V, hV, d0, hTA, hBV, hsV⟩ := HFS.out A1 l c1 w1 hn1 HL.out hw1
  have HTA := Lib.hid hTA
  have BV := Lib.hid hBV
  clear HFW HFS HB0 hn1 hw1 hTA hBV
  go_wp2_with fail
  refine (HC.out A1 c1 V HTA.out).mono ?_
  rintro e w2 ⟨rfl, hw2⟩
  have H2 := Lib.hid (HTA.out.below hw2)
  have B2 := Lib.hid hw2
  have d2 := (hw2.cell (p := ⟨S, 0, none⟩) hsV).trans d0
  have hs2 := hw2.size
  clear hw2 HC
  go_wp2_with fail
  refine (refChk_run A1 l c1 m L k a w2 H2.out.at_ HL.out HSM.out HK.out HA.out).mono ?_
  rintro e w3 ⟨rfl, hw3⟩
  have H3 := Lib.hid (H2.out.below hw3)
  have B3 : Hid (Below S W w3) := BV.out.trans ((B2.out.mono (by omega)).trans (hw3.mono (by omega)))
  have d3 := (hw3.cell (p := ⟨S, 0, none⟩) (by show S < _; omega)).trans d2
  have hs3 : S < w3.heap.size := by have := hw3.size; omega
  clear hw3 H2 B2 d2 hs2 HK HA
  go_wp2_with fail
  go_loopg [10, 27] (l + 1) (fun h s10 s27 wr => ∃ i c : Nat, s27 = .int .i64 i ∧ s10 = .int .i64 c ∧ Hid (i ≤ l ∧ i + h = l + 1) ∧ Hid (c = cntT (L.take i) kind) ∧ Hid (Below w3.heap.size w3 wr))
  case atStart => exact ⟨0, 0, rfl, rfl, by show _ ∧ _; omega, rfl, Below.refl _ _⟩
  case round =>
    obtain ⟨i, c, rfl, rfl, HI, HCN, BW⟩ := hrel
    generalize wr = wq at *
    have HQ := Lib.hid (H3.out.below BW.out)
    have d4 := (BW.out.cell (p := ⟨S, 0, none⟩) hs3).trans d3
    have hs4 := BW.out.size
    by_cases hi : i < l
    · have hiz : (i : Int) < (l : Int) := by omega
      obtain ⟨b, o, rfl, hbB, hget⟩ := HQ.out.at_.get (by have := HL.out; omega)
      obtain ⟨y, hy⟩ : ∃ y, L[i]? = some y := ⟨_, List.getElem?_eq_getElem (by have := HL.out; omega)⟩
      obtain ⟨K, q, cc, e0, e1, e2, e3, hm, _, _, _⟩ := hget i y hy
      have HCS := Lib.hid (cnt_take hy kind)
      have BA : Hid (Below w3.heap.size w3 (wq.alloc (.cells #[.int .i64 y.k, .int .i64 y.f, .int .i64 y.t, .slice K q cc] 33))) := BW.out.alloc hs4 _
      have hc40 : (c : Int) + 1 ≤ 1000 := by have := HCN.out; have h2 := cnt_le (L.take i) kind; have h3 : (L.take i).length ≤ i := by rw [List.length_take]; omega
                                             omega
      clear hget hy hm
      by_cases hyk : y.k = kind
      · have HC2 : Hid (c + 1 = cntT (L.take (i + 1)) kind) := by show _ = _; rw [HCS.out, if_pos hyk, HCN.out]
        subst hyk
        clear HCS HCN
        go_wp2_with fail
        go_roundg (l - i)
        case measure => have := HI.out; omega
        case rel => exact ⟨i + 1, c + 1, by go_num, by go_num, by show _ ∧ _; have := HI.out; omega, HC2.out, BA.out⟩
      · have HC2 : Hid (c = cntT (L.take (i + 1)) kind) := by show _ = _; rw [HCS.out, if_neg hyk, HCN.out]; rfl
        have hyb : (y.k == kind) = false := by simpa using hyk
        clear HCS HCN
        go_wp2_with fail
        go_roundg (l - i)
        case measure => have := HI.out; omega
        case rel => exact ⟨i + 1, c, by go_num, rfl, by show _ ∧ _; have := HI.out; omega, HC2.out, BA.out⟩
    · have hiz : ¬ (i : Int) < (l : Int) := by omega
      have hcl : cntT L kind = c := by rw [HCN.out, List.take_of_length_le (by have := HL.out; have := HI.out; omega)]
      have HNC := Lib.hid (fun w h => HN.out A1 l c1 kind L w h)
      rw [hcl] at HNC
      have B4 : Hid (Below S W wq) := B3.out.trans (BW.out.mono (by omega))
      have hs5 : S < wq.heap.size := by omega
      clear HCN hcl HN BW hs4 d3 hs3 H3 B3 hi HI
      go_wp2_with fail
      refine (HCode.out _).mono ?_
      rintro e w5 ⟨rfl, hw5⟩
      have H5 := Lib.hid (HQ.out.below hw5)
      have B5 : Hid (Below S W w5) := B4.out.trans (hw5.mono (by omega))
      have d5 := (hw5.cell (p := ⟨S, 0, none⟩) hs5).trans d4
      have hs6 : S < w5.heap.size := by have := hw5.size; omega
      clear hw5 HCode HQ B4 d4 hs5
      go_wp2_with fail
      refine (HOff.out w5 (HG.out.below B5.out (by rw [← hS]; exact hgl))).mono ?_
      rintro e w6 ⟨rfl, hw6⟩
      have H6 := Lib.hid (H5.out.below hw6)
      have B6 : Hid (Below S W w6) := B5.out.trans (hw6.mono (by omega))
      have d6 := (hw6.cell (p := ⟨S, 0, none⟩) hs6).trans d5
      have hs7 : S < w6.heap.size := by have := hw6.size; omega
      clear hw6 HOff H5 B5 d5 hs6
      go_wp2_with fail
      refine (HNC.out w6 H6.out).mono ?_
      rintro e w7 ⟨rfl, hw7⟩
      have B7 : Hid (Below S W w7) := B6.out.trans (hw7.mono (by omega))
      clear hw7 HNC H6 B6
      go_wp2_with fail
      refine (HW.out w7).mono ?_
      rintro e w8 ⟨rfl, hw8⟩
      have B8 : Hid (Below S W w8) := B7.out.trans (hw8.mono (by have := B7.out.size; omega))
      clear hw8
      go_wp2_with fail
      go_ret
      exact ⟨rfl, B8.out⟩
end Go.Proofs.YtkgaaabecdbidaaDoor
namespace Go.Proofs.YtkgaaabecdbidaaDoor
open Go.RowKit
set_option linter.unusedSimpArgs false
theorem foldl_max_le {l : List Nat} {m b : Nat} (hm : m ≤ b) (h : ∀ x ∈ l, x ≤ b) : l.foldl max m ≤ b := by
 induction l generalizing m with
 | nil => exact hm
 | cons x l ih => exact ih (Nat.max_le.2 ⟨hm, h x (List.mem_cons_self ..)⟩) fun y hy => h y (List.mem_cons_of_mem _ hy)
theorem deepF_le (T : List Nd) (i : Nat) : deepF T i ≤ i + 1 := by
 induction i using Nat.strongRecOn with
 | ind i ih =>
  rw [deepF_eq]
  unfold deepK
  have : ((nd T i).kids.map fun c => if c.toNat < i then deepF T c.toNat else 0).foldl max 0 ≤ i := by
   refine foldl_max_le (Nat.zero_le _) fun x hx => ?_
   obtain ⟨c, _, rfl⟩ := List.mem_map.1 hx
   split
   ·next h => have := ih _ h; omega
   ·omega
  omega
set_option maxHeartbeats 4000000 in
set_option maxRecDepth 100000 in
theorem refDeep_run (A : Option Addr) (n cap : Nat) (m : Int) (T : List Nd) (hl : Hid (T.length = n)) (hn : n ≤ 40) (hV : Hid (Valid T m)) (i : Nat) : ∀ (w : World), NdsAt w w.heap.size A T → i < n →
  Calls Tryd.prog 19 #[trV A n cap, .int .i64 i] w fun e w' => e = .returned (.int .i64 (deepF T i : Nat)) ∧ Below w.heap.size w w' := by
 induction i using Nat.strongRecOn with
 | ind i ih =>
 intro w hb hi
 obtain ⟨b, o, K, q, c, rfl, hbB, c0, c1, c2, c3, hm, hmc, hcc, hK, _⟩ := one_set (cap := cap) hb hl.out hi 24 33
 have hiz : (i : Int) < (n : Int) := by omega
 have HA : Hid (∀ c ∈ (nd T i).kids, 0 ≤ c ∧ c < (i : Int)) := hV.out.kid i (by have := hl.out; omega)
 have HE : Hid (deepF T i = 1 + deepK T i (nd T i).kids 0) := deepF_eq T i
 have HLE : Hid (deepF T i ≤ 41) := by show _ ≤ _; have := deepF_le T i; omega
 have HIH : Hid (∀ z, z < i → ∀ w : World, NdsAt w w.heap.size (some ⟨b, o, none⟩) T → Calls Tryd.prog 19 #[.agg #[.slice (some ⟨b, o, none⟩) n cap], .int .i64 (z : Int)] w fun e w' => e = .returned (.int .i64 (deepF T z : Nat)) ∧ Below w.heap.size w w') := fun z hz w h => ih z hz w h (by omega)
 clear ih hV
 generalize nd T i = x at *
 unfold trV
 obtain ⟨S, hS⟩ : ∃ S, w.heap.size = S := ⟨_, rfl⟩
 rw [hS] at hbB hb hK ⊢
 obtain ⟨W, hW⟩ : ∃ W, w.alloc (.cells #[.slice (some ⟨b, o, none⟩) n cap] 24) = W := ⟨_, rfl⟩
 have hB : Below S w W := by rw [← hW, ← hS]; exact (Below.refl _ _).alloc (Nat.le_refl _) _
 have hWS : W.heap.size = S + 1 := by rw [← hW, ← hS]; simp
 have d0 : W.cell? ⟨S, 0, none⟩ = some (.slice (some ⟨b, o, none⟩) n cap) := by rw [← hW, ← hS]; simp
 have g3 := (hB.cell (p := ⟨b, o + i * 4 + 3, none⟩) (by show b < _; omega)).trans c3
 have HG : Hid (NdsAt W S (some ⟨b, o, none⟩) T) := hb.below hB (Nat.le_refl _)
 have HK : Hid (Nums W S K x.kids) := NumsK.below hK hB (Nat.le_refl _)
 have BX := Lib.hid hB
 have HW := Lib.hid hWS
 have HM := Lib.hid hm
 clear hb hB hWS c0 c1 c2 c3 hm hK
 go_enter Tryd.func19, Tryd.ntmps19
 go_wp2_with fail
 go_loopg [5, 6] (q + 1) (fun h s5 s6 wr => ∃ r m : Nat, s6 = .int .i64 r ∧ s5 = .int .i64 m ∧ Hid (r ≤ q ∧ r + h = q + 1) ∧ Hid (deepF T i = 1 + deepK T i (x.kids.drop r) m) ∧ Hid (Below (S + 1) W wr))
 case atStart => exact ⟨0, 0, rfl, rfl, by show _ ∧ _; omega, HE.out, Below.refl _ _⟩
 case round =>
  clear HE
  obtain ⟨r, p, rfl, rfl, HR, HE, BW⟩ := hrel
  generalize wr = wq at *
  have d0' := (BW.out.cell (p := ⟨S, 0, none⟩) (by show S < _; omega)).trans d0
  have g3' := (BW.out.cell (p := ⟨b, o + i * 4 + 3, none⟩) (by show b < _; omega)).trans g3
  have hsz : S + 1 ≤ wq.heap.size := by rw [← HW.out]; exact BW.out.size
  by_cases hr : r < q
  ·have hrz : (r : Int) < (q : Int) := by omega
   obtain ⟨y, hy⟩ : ∃ y, x.kids[r]? = some y := ⟨_, List.getElem?_eq_getElem (by have := HM.out; omega)⟩
   obtain ⟨kb, ko, rfl, hkb, hkc⟩ := HK.out (by have := HM.out; omega)
   have k0 := (BW.out.cell (p := ⟨kb, ko + r, none⟩) (by show kb < _; omega)).trans (hkc r y hy)
   obtain ⟨hy1, hy2⟩ := HA.out y (List.mem_of_getElem? hy)
   obtain ⟨z, rfl⟩ : ∃ z : Nat, y = z := ⟨y.toNat, by omega⟩
   have hzi : z < i := by omega
   have HE2 : Hid (deepF T i = 1 + deepK T i (x.kids.drop (r + 1)) (max p (deepF T z))) := by
    show _ = _
    rw [HE.out, dropT_at hy, deepK_cons T _ _ (by simpa using hzi)]
    rfl
   have HC2 := Lib.hid (HIH.out z hzi)
   generalize deepF T z = dz at *
   obtain ⟨pm, hpm⟩ : ∃ pm, max p dz = pm := ⟨_, rfl⟩
   rw [hpm] at HE2
   have HPM := Lib.hid hpm
   clear hpm
   have HGD : Hid (NdsAt wq.drew wq.drew.heap.size (some ⟨b, o, none⟩) T) := (HG.out.below (BW.out.drew) (by omega)).more (by show S ≤ wq.heap.size; omega)
   have P1 : Hid (S < wq.heap.size ∧ kb < wq.heap.size ∧ b < wq.heap.size) := by show _ ∧ _; omega
   clear hkc hy hy1 hy2 HE hzi
   go_wp2_with fail
   go_region_held3 (fun W' => W'.cell? ⟨S, 0, none⟩ = some (.slice (some ⟨b, o, none⟩) n cap) ∧ W'.cell? ⟨b, o + i * 4 + 3, none⟩ = some (.slice (some ⟨kb, ko, none⟩) q c) ∧ W'.cell? ⟨kb, ko + r, none⟩ = some (.int .i64 (z : Int))) (first | exact ⟨d0', g3', k0⟩ | exact D1.out | go_keep)
    (first | (go_at_call 19; refine (HC2.out _ HGD.out).mono ?_; rintro e w1 ⟨rfl, hw1⟩; have B1 : Hid (Below wq.heap.size wq w1) := (Below.refl _ wq).drew.trans hw1; have D1 : Hid (w1.cell? ⟨S, 0, none⟩ = some (.slice (some ⟨b, o, none⟩) n cap) ∧ w1.cell? ⟨b, o + i * 4 + 3, none⟩ = some (.slice (some ⟨kb, ko, none⟩) q c) ∧ w1.cell? ⟨kb, ko + r, none⟩ = some (.int .i64 (z : Int))) := ⟨(B1.out.cell (p := ⟨S, 0, none⟩) P1.out.1).trans d0', (B1.out.cell (p := ⟨b, o + i * 4 + 3, none⟩) P1.out.2.2).trans g3', (B1.out.cell (p := ⟨kb, ko + r, none⟩) P1.out.2.1).trans k0⟩; clear hw1))
   go_wp2_with fail
   all_goals
    go_roundg (q - r)
    case measure => have := HR.out; omega
    case rel => exact ⟨r + 1, pm, by go_num, by rw [← HPM.out]; congr 1; omega, by show _ ∧ _; have := HR.out; omega, HE2.out, BW.out.trans (B1.out.mono hsz)⟩
  ·have hrz : ¬ (r : Int) < (q : Int) := by omega
   have hE : deepF T i = 1 + p := by rw [HE.out, List.drop_eq_nil_of_le (by have := HM.out; have := HR.out; omega)]; rfl
   have hw1 : IntKind.i64.wrap (1 + (p : Int)) = ((deepF T i : Nat) : Int) := by rw [IntKind.wrap_i64]; have := HLE.out; omega
   have BR : Hid (Below S w wq) := BX.out.trans (BW.out.mono (by omega))
   clear HE HLE hE
   go_wp2_with fail
   go_ret
   exact ⟨rfl, BR.out⟩
end Go.Proofs.YtkgaaabecdbidaaDoor
namespace Go.Proofs.YtkgaaabecdbidaaDoor
open Go.RowKit
set_option linter.unusedSimpArgs false
set_option linter.unusedVariables false
def SaysDepth : Prop := ∀ (A : Option Addr) (n cap : Nat) (T : List Nd) (w : World), TreeAt w A n T → (rootOf T).t ≤ 100 →
 Calls Tryd.prog 16 #[trV A n cap] w fun e w' => e = .returned (.tuple #[.int .i64 (resOf (sndT T) (deepF T (n - 1)) 0 : Nat), trErr (sndT T)]) ∧ Below w.heap.size w w'
set_option maxHeartbeats 16000000 in
set_option maxRecDepth 100000 in
theorem Looks_law (hD : SaysDepth) (hP : SaysParents) (hO : SaysOwn) (hT : SaysText) (A : Option Addr) (n cap : Nat) (j : Int) (T : List Nd) (W : World) (hb : NdsAt W W.heap.size A T) (hl : T.length = n) (hcap : n ≤ 9223372036854775807) (hg : ErrType W) :
  Calls Tryd.prog 4 #[trV A n cap, .int .i64 j] W fun e w' => e = .returned (.bool true) ∧ Below W.heap.size W w' := by
 have HFW := Lib.hid (fun w h1 h2 => FewT_run A n cap W.heap.size T w h1 h2 hl hcap)
 have HFS := Lib.hid (fun (A1 : Option Addr) (l c1 : Nat) (w1 : World) h hl hw => @law_few W w1 A A1 n cap l c1 T 24 h hl hw)
 have HB0 : Hid (NdsAt (W.alloc (.cells #[.slice A n cap] 24)) W.heap.size A T ∧ W.heap.size ≤ (W.alloc (.cells #[.slice A n cap] 24)).heap.size) := ⟨hb.below ((Below.refl _ _).alloc (Nat.le_refl _) _) (Nat.le_refl _), by simp⟩
 have HG := Lib.hid hg
 have hgl := hg.lt
 obtain ⟨L, hL⟩ : ∃ L, fewT T = L := ⟨_, rfl⟩
 rw [hL] at HFW HFS
 obtain ⟨l, hll⟩ : ∃ l, L.length = l := ⟨_, rfl⟩
 have HSM : Hid (SmallT L) := by show SmallT _; rw [← hL]; exact few_smallT T
 have HL := Lib.hid hll
 have hl40 : l ≤ 40 := by rw [← hll]; exact HSM.out.1
 obtain ⟨k, hk⟩ : ∃ k : Int, ((sndT L).1 : Int) = k := ⟨_, rfl⟩
 obtain ⟨a, ha⟩ : ∃ a : Int, (sndT L).2 = a := ⟨_, rfl⟩
 obtain ⟨fv, hfv⟩ : ∃ v, decide (0 < l ∧ 100 < (rootOf L).t) = v := ⟨_, rfl⟩
 have HSN := Lib.hid (fun A c w (h : TreeAt w A l L) => refSound_run A l c L k a w h.at_ HL.out HSM.out hk ha)
 have HFR := Lib.hid (fun A c w (h : TreeAt w A l L) => far_run A l c L w h.at_ HL.out hl40 fv hfv)
 have HW := Lib.hid (works13_run hT)
 have HD0 := Lib.hid hD
 have HP0 := Lib.hid hP
 have HO0 := Lib.hid hO
 have HK := Lib.hid hk
 have HA := Lib.hid ha
 have HFV := Lib.hid hfv
 clear hb hL hg hl hll hk ha hfv hT hD hP hO
 unfold FewOutT at HFW
 unfold trV at *
 obtain ⟨S, hS⟩ : ∃ S, W.heap.size = S := ⟨_, rfl⟩
 rw [hS] at HFW HFS HB0 hgl ⊢
 go_enter Tryd.func4, Tryd.ntmps4
 go_wp2_with fail
 refine (HFW.out _ HB0.out.1 HB0.out.2).mono ?_
 rintro e w1 ⟨v, rfl, A1, c1, rfl, _, _, hn1, hw1⟩
 rw [HL.out]
 obtain ⟨c0, f0, V, hV, d0, hTA, hBV, hsV⟩ := HFS.out A1 l c1 w1 hn1 HL.out hw1
 have HTA := Lib.hid hTA
 have BV := Lib.hid hBV
 clear HFW HFS HB0 hn1 hw1 hTA hBV
 go_wp2_with fail
 refine (HSN.out A1 c1 V HTA.out).mono ?_
 rintro e w2 ⟨rfl, hw2⟩
 have H2 := Lib.hid (HTA.out.below hw2)
 have B2 : Hid (Below S W w2) := BV.out.trans (hw2.mono (by omega))
 have d2 := (hw2.cell (p := ⟨S, 0, none⟩) hsV).trans d0
 have hs2 : S < w2.heap.size := by have := hw2.size; omega
 clear hw2 HSN HTA BV d0 hsV hV c0 f0
 go_wp2_with fail
 refine (HFR.out A1 c1 w2 H2.out).mono ?_
 rintro e w3 ⟨rfl, hw3⟩
 have H3 := Lib.hid (H2.out.below hw3)
 have B3 : Hid (Below S W w3) := B2.out.trans (hw3.mono (by omega))
 have d3 := (hw3.cell (p := ⟨S, 0, none⟩) hs2).trans d2
 have hs3 : S < w3.heap.size := by have := hw3.size; omega
 clear hw3 HFR H2 B2 d2 hs2
 cases fv with
 | true =>
  go_wp2_with fail
  refine (HW.out w3).mono ?_
  rintro e w4 ⟨rfl, hw4⟩
  have B4 : Hid (Below S W w4) := B3.out.trans (hw4.mono (by omega))
  clear hw4
  go_wp2_with fail
  go_ret
  exact ⟨rfl, B4.out⟩
 | false =>
  have HR : Hid ((rootOf L).t ≤ 100) := by
   show _ ≤ _
   rcases Nat.eq_zero_or_pos l with h0 | h0
   ·have : L = [] := List.eq_nil_of_length_eq_zero (by rw [HL.out]; exact h0)
    rw [this]
    decide
   ·have := of_decide_eq_false HFV.out
    omega
  have HDD := Lib.hid (fun A c w h => HD0.out A l c L w h HR.out)
  have HPP := Lib.hid (fun A c w h => HP0.out A l c L w h HR.out)
  have HOO := Lib.hid (fun A c w h => HO0.out A l c j L w h HR.out)
  clear HD0 HP0 HO0 HFV
  by_cases hk0 : k = 0
  rotate_left
  ·have hs1 : ¬ (sndT L).1 = 0 := by have := HK.out; omega
   have he2 : ownE L j = sndT L := resOf_bad hs1 _ _
   have HCode := Lib.hid (fun w => code_trErr (sndT L) (chkT_le L _).1 k HK.out w)
   have HOff := Lib.hid (fun w hg => off_trErr (sndT L) (chkT_le L _).2 a HA.out w hg)
   rw [he2] at HOO
   simp only [resOf_bad hs1] at HDD HPP HOO
   obtain ⟨x, hx⟩ : ∃ x, trErr (sndT L) = x := ⟨_, rfl⟩
   rw [hx] at HCode HOff HDD HPP HOO
   have hkb : (k == 0) = false := by simpa using hk0
   clear hx he2 hs1 HK HA
   go_wp2_with fail
   refine (HDD.out A1 c1 w3 H3.out).mono ?_
   rintro e w4 ⟨rfl, hw4⟩
   have H4 := Lib.hid (H3.out.below hw4)
   have B4 : Hid (Below S W w4) := B3.out.trans (hw4.mono (by omega))
   have d4 := (hw4.cell (p := ⟨S, 0, none⟩) hs3).trans d3
   have hs4 : S < w4.heap.size := by have := hw4.size; omega
   clear hw4 HDD H3 B3 d3 hs3
   go_wp2_with fail
   refine (HPP.out A1 c1 w4 H4.out).mono ?_
   rintro e w5 ⟨v5, rfl, ho5⟩
   obtain ⟨P, cp, rfl, _, _, _, hw5⟩ := ho5.read
   have H5 := Lib.hid (H4.out.below hw5)
   have B5 : Hid (Below S W w5) := B4.out.trans (hw5.mono (by omega))
   have d5 := (hw5.cell (p := ⟨S, 0, none⟩) hs4).trans d4
   have hs5 : S < w5.heap.size := by have := hw5.size; omega
   clear hw5 HPP H4 B4 d4 hs4 ho5
   go_wp2_with fail
   refine (HOO.out A1 c1 w5 H5.out).mono ?_
   rintro e w6 ⟨v6, rfl, ho6⟩
   obtain ⟨P6, cp6, rfl, _, _, _, hw6⟩ := ho6.read
   have B6 : Hid (Below S W w6) := B5.out.trans (hw6.mono (by omega))
   have hs6 : S < w6.heap.size := by have := hw6.size; omega
   clear hw6 HOO H5 B5 d5 hs5 ho6
   go_wp2_with fail
   refine (HCode.out _).mono ?_
   rintro e w7 ⟨rfl, hw7⟩
   have B7 : Hid (Below S W w7) := B6.out.trans (hw7.mono (by omega))
   have hs7 : S < w7.heap.size := by have := hw7.size; omega
   clear hw7
   go_wp2_with fail
   refine (HOff.out _ (HG.out.below B7.out (by omega))).mono ?_
   rintro e w8 ⟨rfl, hw8⟩
   have B8 : Hid (Below S W w8) := B7.out.trans (hw8.mono (by omega))
   have hs8 : S < w8.heap.size := by have := hw8.size; omega
   clear hw8
   go_wp2_with fail
   refine (HCode.out _).mono ?_
   rintro e w9 ⟨rfl, hw9⟩
   have B9 : Hid (Below S W w9) := B8.out.trans (hw9.mono (by omega))
   have hs9 : S < w9.heap.size := by have := hw9.size; omega
   clear hw9
   go_wp2_with fail
   refine (HCode.out _).mono ?_
   rintro e w10 ⟨rfl, hw10⟩
   have B10 : Hid (Below S W w10) := B9.out.trans (hw10.mono (by omega))
   have hs10 : S < w10.heap.size := by have := hw10.size; omega
   clear hw10
   go_wp2_with fail
   refine (HW.out _).mono ?_
   rintro e w11 ⟨rfl, hw11⟩
   have B11 : Hid (Below S W w11) := B10.out.trans (hw11.mono (by omega))
   clear hw11
   go_wp2_with fail
   go_ret
   exact ⟨rfl, B11.out⟩
  ·subst hk0
   have hs1 : (sndT L).1 = 0 := by have := HK.out; omega
   have HVL : Hid (Valid L (rootOf L).t) := chk_valid hs1
   have hpos : 0 < l := by rw [← HL.out]; exact HVL.out.pos
   obtain ⟨p, hp⟩ : ∃ p, l - 1 = p := ⟨_, rfl⟩
   have hpl : p < l := by omega
   have hw1 : IntKind.i64.wrap ((l : Int) - 1) = (p : Int) := by rw [IntKind.wrap_i64]; omega
   have he2 : ownE L j = if 0 ≤ j ∧ j < (l : Int) then (0, -1) else (4, -1) := by unfold ownE; rw [resOf_ok hs1, HL.out]
   simp only [resOf_ok hs1, trErr_zero hs1, hp] at HDD HPP
   have HDP := Lib.hid (fun A c w (h : TreeAt w A l L) => refDeep_run A l c (rootOf L).t L HL.out hl40 HVL.out p w h.at_ hpl)
   have HPL : Hid ((parL L).length = l) := by show _ = _; unfold parL; rw [List.length_map, List.length_range]; exact HL.out
   have HPG : Hid (∀ i, i < l → (parL L)[i]? = some (parF L (i : Int))) := fun i hi => by
    unfold parL
    rw [List.getElem?_map, List.getElem?_range (by rw [HL.out]; exact hi)]
    rfl
   obtain ⟨dp, hdp⟩ : ∃ d, deepF L p = d := ⟨_, rfl⟩
   rw [hdp] at HDD HDP
   clear hs1 HK HA hdp hp
   go_wp2_with fail
   refine (HDD.out A1 c1 w3 H3.out).mono ?_
   rintro e w4 ⟨rfl, hw4⟩
   have H4 := Lib.hid (H3.out.below hw4)
   have B4 : Hid (Below S W w4) := B3.out.trans (hw4.mono (by omega))
   have d4 := (hw4.cell (p := ⟨S, 0, none⟩) hs3).trans d3
   have hs4 : S < w4.heap.size := by have := hw4.size; omega
   clear hw4 HDD H3 B3 d3 hs3
   go_wp2_with fail
   refine (HPP.out A1 c1 w4 H4.out).mono ?_
   rintro e w5 ⟨v5, rfl, ho5⟩
   obtain ⟨P, cp, rfl, _, _, hn5, hw5⟩ := ho5.read
   rw [HPL.out]
   have H5 := Lib.hid (H4.out.below hw5)
   have B5 : Hid (Below S W w5) := B4.out.trans (hw5.mono (by omega))
   have d5 := (hw5.cell (p := ⟨S, 0, none⟩) hs4).trans d4
   have hs5 : S < w5.heap.size := by have := hw5.size; omega
   have HN5 := Lib.hid hn5
   clear hw5 HPP H4 B4 d4 hs4 ho5 hn5
   go_wp2_with fail
   refine (HOO.out A1 c1 w5 H5.out).mono ?_
   rintro e w6 ⟨v6, rfl, ho6⟩
   obtain ⟨P6, cp6, rfl, _, _, hn6, hw6⟩ := ho6.read
   have H6 := Lib.hid (H5.out.below hw6)
   have B6 : Hid (Below S W w6) := B5.out.trans (hw6.mono (by omega))
   have d6 := (hw6.cell (p := ⟨S, 0, none⟩) hs5).trans d5
   have hs6 : S < w6.heap.size := by have := hw6.size; omega
   have HN6 : Hid (Nums w6 w6.heap.size P (parL L)) := NumsK.on HN5.out (Nat.le_refl _) hw6
   have HM6 := Lib.hid hn6
   clear hw6 HOO H5 B5 d5 hs5 ho6 HN5 hn6
   obtain ⟨LO, hLO⟩ : ∃ LO, resOf (ownE L j) (ownL L j.toNat) [] = LO := ⟨_, rfl⟩
   obtain ⟨lo, hlo⟩ : ∃ lo, LO.length = lo := ⟨_, rfl⟩
   obtain ⟨x6, hx6⟩ : ∃ x, trErr (ownE L j) = x := ⟨_, rfl⟩
   rw [hLO] at HM6
   rw [hLO, hlo, hx6]
   have HX6 := Lib.hid hx6
   have HLO := Lib.hid hLO
   have HLL := Lib.hid hlo
   have HE2 := Lib.hid he2
   clear hLO hlo hx6 he2
   go_wp2_with fail
   refine (HDP.out A1 c1 w6 H6.out).mono ?_
   rintro e w7 ⟨rfl, hw7⟩
   have H7 := Lib.hid (H6.out.below hw7)
   have B7 : Hid (Below S W w7) := B6.out.trans (hw7.mono (by omega))
   have d7 := (hw7.cell (p := ⟨S, 0, none⟩) hs6).trans d6
   have hs7 : S < w7.heap.size := by have := hw7.size; omega
   have HN7 : Hid (Nums w7 w7.heap.size P (parL L)) := NumsK.on HN6.out (Nat.le_refl _) hw7
   have HM7 : Hid (Nums w7 w7.heap.size P6 LO) := NumsK.on HM6.out (Nat.le_refl _) hw7
   clear hw7 HDP H6 B6 d6 hs6 HN6 HM6
   go_wp2_with fail
   go_loopg [108] (l + 1) (fun h s108 wr => ∃ i : Nat, s108 = .int .i64 i ∧ Hid (i ≤ l ∧ i + h = l + 1) ∧ Hid (Below w7.heap.size w7 wr))
   case atStart => exact ⟨0, rfl, by show _ ∧ _; omega, Below.refl _ _⟩
   case round =>
    obtain ⟨i, rfl, HI, BW⟩ := hrel
    generalize wr = wq at *
    have HQ := Lib.hid (H7.out.below BW.out)
    have d8 := (BW.out.cell (p := ⟨S, 0, none⟩) hs7).trans d7
    have hs8 : w7.heap.size ≤ wq.heap.size := BW.out.size
    by_cases hi : i < l
    ·have hiz : (i : Int) < (l : Int) := by omega
     obtain ⟨pb, po, rfl, hpb, hpc⟩ := HN7.out (by rw [HPL.out]; omega)
     have p0 := (BW.out.cell (p := ⟨pb, po + i, none⟩) hpb).trans (hpc i _ (HPG.out i hi))
     have HPR := Lib.hid (refParent_run A1 l c1 (i : Int) (parF L (i : Int)) L wq HQ.out.at_ HL.out HSM.out rfl)
     obtain ⟨pv, hpv⟩ : ∃ v, parF L (i : Int) = v := ⟨_, rfl⟩
     rw [hpv] at p0 HPR
     clear hpc hpv
     unfold trV at HPR
     go_wp2_with fail
     refine HPR.out.mono ?_
     rintro e w8 ⟨rfl, hw8⟩
     have B8 : Hid (Below w7.heap.size w7 w8) := BW.out.trans (hw8.mono hs8)
     clear hw8 HPR
     go_wp2_with fail
     go_roundg (l - i)
     case measure => have := HI.out; omega
     case rel => exact ⟨i + 1, by go_num, by show _ ∧ _; have := HI.out; omega, B8.out⟩
    ·have hiz : ¬ (i : Int) < (l : Int) := by omega
     have B8 : Hid (Below S W wq) := B7.out.trans (BW.out.mono (by omega))
     have HM8 : Hid (Nums wq wq.heap.size P6 LO) := NumsK.on HM7.out (Nat.le_refl _) BW.out
     have hs9 : S < wq.heap.size := by omega
     clear HN7 HM7 BW H7 B7 d7 hs7 hi HI HPG hs8
     by_cases hj : 0 ≤ j ∧ j < (l : Int)
     rotate_left
     ·have he : ownE L j = (4, -1) := by rw [HE2.out, if_neg hj]
      have hlo : lo = 0 := by rw [← HLL.out, ← HLO.out, he]; rfl
      subst hlo
      have hxx : x6 = errno 4 := by rw [← HX6.out, he]; rfl
      subst hxx
      have HC4 := Lib.hid (code_errno 4 (by decide) (by decide))
      have hd : j < 0 ∨ (0 ≤ j ∧ (l : Int) ≤ j) := by omega
      unfold errno at *
      clear HE2 he hj HX6 HLO HLL
      rcases hd with h | ⟨h, h2⟩
      all_goals
       go_wp2_with fail
       refine (HC4.out wq).mono ?_
       rintro e w9 ⟨rfl, hw9⟩
       have B9 : Hid (Below S W w9) := B8.out.trans (hw9.mono (by omega))
       have hs10 : S < w9.heap.size := by have := hw9.size; omega
       clear hw9
       go_wp2_with fail
       refine (HW.out _).mono ?_
       rintro e w10 ⟨rfl, hw10⟩
       have B10 : Hid (Below S W w10) := B9.out.trans (hw10.mono (by omega))
       clear hw10
       go_wp2_with fail
       go_ret
       exact ⟨rfl, B10.out⟩
     ·have he : ownE L j = (0, -1) := by rw [HE2.out, if_pos hj]
      obtain ⟨z, rfl⟩ : ∃ z : Nat, j = z := ⟨j.toNat, by omega⟩
      have HLO2 : Hid (ownL L z = LO) := by show _ = _; rw [← HLO.out, he]; rfl
      have hxx : x6 = .nilIface := by rw [← HX6.out, he]; rfl
      subst hxx
      obtain ⟨hj0, hjl⟩ := hj
      have HOW := Lib.hid (refOwn_run A1 l c1 z (rootOf L).t L wq HQ.out.at_ HL.out (by omega) HVL.out HR.out)
      rw [HLO2.out] at HOW
      unfold trV at HOW
      clear HE2 he HX6 HLO HLO2
      go_wp2_with fail
      refine HOW.out.mono ?_
      rintro e w9 ⟨v9, rfl, ho9⟩
      obtain ⟨P9, cp9, rfl, hl9, hm9, hn9, hw9⟩ := ho9.read
      rw [HLL.out] at hl9 ⊢
      have B9 : Hid (Below S W w9) := B8.out.trans (hw9.mono (by omega))
      have hs10 : S < w9.heap.size := by have := hw9.size; omega
      have HM9 : Hid (Nums w9 w9.heap.size P6 LO) := NumsK.on HM8.out (Nat.le_refl _) hw9
      have HN9 := Lib.hid hn9
      clear hw9 hn9 ho9 HOW HM8 B8 d8 HQ hs9
      go_wp2_with fail
      go_loopg [153] (lo + 1) (fun h s153 wr => ∃ i q : Nat, s153 = .int .i64 i ∧ Hid (i ≤ lo ∧ i + h = lo + 1) ∧ wr = w9.drewN q)
      case atStart => exact ⟨0, 0, rfl, by show _ ∧ _; omega, rfl⟩
      case round =>
       obtain ⟨r, q, rfl, HRR, rfl⟩ := hrel
       by_cases hr : r < lo
       ·have hrz : (r : Int) < (lo : Int) := by omega
        obtain ⟨y, hy⟩ : ∃ y, LO[r]? = some y := ⟨_, List.getElem?_eq_getElem (by have := HLL.out; omega)⟩
        obtain ⟨b1, o1, rfl, hb1, hc1⟩ := HM9.out (by have := HLL.out; omega)
        obtain ⟨b2, o2, rfl, hb2, hc2⟩ := HN9.out (by have := HLL.out; omega)
        have y1 := hc1 r y hy
        have y2 := hc2 r y hy
        clear hc1 hc2 hy
        go_wp2_with fail
        go_quiet (fail)
        go_wp2_with fail
        go_roundg (lo - r)
        case measure => have := HRR.out; omega
        case rel => exact ⟨r + 1, _, by go_num, by show _ ∧ _; have := HRR.out; omega, by first | rfl | exact World.drewN_drewN _ _ _⟩
       ·have hrz : ¬ (r : Int) < (lo : Int) := by omega
        go_wp2_with fail
        refine (HW.out _).mono ?_
        rintro e w10 ⟨rfl, hw10⟩
        have B10 : Hid (Below S W w10) := (below_drewN B9.out q).trans (hw10.mono (by show S ≤ w9.heap.size; omega))
        clear hw10
        go_wp2_with fail
        go_ret
        exact ⟨rfl, B10.out⟩
end Go.Proofs.YtkgaaabecdbidaaDoor
namespace Go.Proofs.YtkgaaabecdbidaaDoor
open Go.RowKit
set_option linter.unusedSimpArgs false
set_option linter.unusedVariables false
set_option maxHeartbeats 4000000 in
set_option maxRecDepth 100000 in
theorem depth1_run (c j f t : Int) (b : Nat) (d g : Int) (w : World) (h1 : VarAt w b (.int .i64 d)) (h2 : VarAt w (b + 1) (.int .i64 g)) (hd1 : -1000 ≤ d) (hd2 : d ≤ 1000) (k : Nat) :
  Calls Tryd.prog 38 #[.agg #[.int .i64 c, .int .i64 j, .int .i64 f, .int .i64 t], .pointer (some ⟨b, 0, none⟩), .pointer (some ⟨b + 1, 0, none⟩)] w fun e w' => e = .returned (.tuple #[]) ∧ VarAt w' b (.int .i64 (depS (d, g) ⟨c, k, f, t⟩).1) ∧ VarAt w' (b + 1) (.int .i64 (depS (d, g) ⟨c, k, f, t⟩).2) ∧ But w w' [b, b + 1] := by
 obtain ⟨V, hV⟩ : ∃ V, w.alloc (.cells #[.int .i64 c, .int .i64 j, .int .i64 f, .int .i64 t] 64) = V := ⟨_, rfl⟩
 have hB : Below w.heap.size w V := by rw [← hV]; exact (Below.refl _ _).alloc (Nat.le_refl _) _
 have hs0 : V.cell? ⟨w.heap.size, 0, none⟩ = some (.int .i64 c) := by rw [← hV]; simp
 have V1 := Lib.hid (h1.below hB)
 have V2 := Lib.hid (h2.below hB)
 have B0 : Hid (But w V [b, b + 1]) := But.of_below hB
 have hl2 := V2.out.lt
 have a1 := V1.out.1
 have a2 := V1.out.2
 have b1 := V2.out.1
 have b2 := V2.out.2
 clear hB h1 h2
 unfold depS
 by_cases hc0 : c = 0
 ·subst hc0
  rw [if_pos rfl]
  have W1 := Lib.hid (V1.out.set (.int .i64 (d + 1)))
  have W2 : Hid (VarAt (V.setCell ⟨b, 0, none⟩ (.int .i64 (d + 1))) (b + 1) (.int .i64 g)) := V2.out.but ((But.refl V [b]).setCell (p := ⟨b, 0, none⟩) (by simp) _) (by simp)
  have x1 := W1.out.1
  have x2 := W2.out.1
  have x3 := W2.out.2
  go_enter Tryd.func38, Tryd.ntmps38
  go_wp2_with fail
  go_end0
  exact ⟨rfl, W1.out.but ((But.refl _ [b + 1]).setCell (p := ⟨b + 1, 0, none⟩) (by simp) _) (by simp), W2.out.set _, (B0.out.setCell (p := ⟨b, 0, none⟩) (by simp) _).setCell (p := ⟨b + 1, 0, none⟩) (by simp) _⟩
 ·have hcb0 : (c == 0) = false := by simp [hc0]
  rw [if_neg hc0]
  by_cases hc2 : c = 2
  ·subst hc2
   rw [if_pos rfl]
   go_enter Tryd.func38, Tryd.ntmps38
   go_wp2_with fail
   go_end0
   exact ⟨rfl, V1.out.set _, V2.out.but ((But.refl V [b]).setCell (p := ⟨b, 0, none⟩) (by simp) _) (by simp), B0.out.setCell (p := ⟨b, 0, none⟩) (by simp) _⟩
  ·have hcb2 : (c == 2) = false := by simp [hc2]
   rw [if_neg hc2]
   go_enter Tryd.func38, Tryd.ntmps38
   go_wp2_with fail
   go_end0
   exact ⟨rfl, V1.out, V2.out, B0.out⟩
theorem VarAt.heap {w w' : World} {b : Nat} {v : Value} (h : VarAt w b v) (hb : w'.heap[b]? = w.heap[b]?) : VarAt w' b v := ⟨(World.cell?_of_block hb).trans h.1, (World.frozen?_of_block hb).trans h.2⟩
theorem depth_act {T : List Nd} {m : Int} (hV : Valid T m) (h40 : T.length ≤ 40) (S b : Nat) (hb : b + 1 < S) : ActW T S 38 #[.pointer (some ⟨b, 0, none⟩), .pointer (some ⟨b + 1, 0, none⟩)] (fun D bs w => bs = [b, b + 1] ∧ VarAt w b (.int .i64 (D.foldl depS (0, 0)).1) ∧ VarAt w (b + 1) (.int .i64 (D.foldl depS (0, 0)).2)) := by
 refine ⟨entersP_of Tryd.func38 (by kernel_rfl) rfl, fun D s R bs w hs hI hS => ?_, fun D bs w w' hI ha => ?_⟩
 ·obtain ⟨rfl, h1, h2⟩ := hI
  have hsm := dep_small hV h40 hs
  refine (depth1_run s.c s.j s.f s.t b _ _ w h1 h2 (by omega) (by omega) s.j).mono ?_
  rintro e w' ⟨rfl, k1, k2, k3⟩
  refine ⟨rfl, [b, b + 1], ⟨rfl, ?_, ?_⟩, k3, fun x hx => ⟨.inl hx, ?_⟩⟩
  ·rw [List.foldl_append]; exact k1
  ·rw [List.foldl_append]; exact k2
  ·have := k3.size
   simp at hx
   omega
 ·obtain ⟨rfl, h1, h2⟩ := hI
  exact ⟨rfl, h1.heap (ha.block b h1.lt (.inl (by simp))), h2.heap (ha.block (b + 1) h2.lt (.inl (by simp)))⟩
set_option maxHeartbeats 8000000 in
set_option maxRecDepth 100000 in
theorem Depth_runT : SaysDepth := by
 intro A n cap T w h ht100
 have hl := Lib.hid h.len
 have hn40 := h.small.1
 obtain ⟨S, hS⟩ : ∃ S, w.heap.size = S := ⟨_, rfl⟩
 obtain ⟨W, hW⟩ : ∃ W, w.alloc (.cells #[.slice A n cap] 24) = W := ⟨_, rfl⟩
 have hC0 := CSt.start (cap := cap) h 24 hW
 have HC := Lib.hid (fun V hV => check_runT A n cap T V hV)
 rw [hS] at hC0 ⊢
 have C0 := Lib.hid hC0
 have d0 := hC0.e0
 have H40 := Lib.hid hn40
 have hmf' := hmf
 clear h hC0 ht100 hn40
 by_cases hk : (sndT T).1 = 0
 ·have hV := chk_valid hk
  have HV := Lib.hid hV
  have he := trErr_zero hk
  rw [he] at HC ⊢
  rw [resOf_ok hk]
  have HWK := Lib.hid (fun (W2 : World) B b (hB : NdsAt W2 B A T) (hBW : B ≤ W2.heap.size) (hI : VarAt W2 b (.int .i64 0) ∧ VarAt W2 (b + 1) (.int .i64 0)) (hb : B ≤ b ∧ b + 1 < W2.heap.size) => walk_run (n := n) (cap := cap) (depth_act HV.out H40.out W2.heap.size b hb.2) _ HV hl (by rw [← hl.out]; exact H40.out) hB hBW (bs0 := [b, b + 1]) ⟨rfl, hI.1, hI.2⟩ (fun x hx => by simp at hx; omega))
  have HEND : Hid ((stepsW T (T.length - 1)).foldl depS (0, 0) = ((0 : Int), ((deepF T (n - 1) : Nat) : Int))) := by show _ = _; rw [dep_all HV.out, hl.out]
  clear hk hV he
  unfold trV at *
  go_enter Tryd.func16, Tryd.ntmps16
  go_wp2_with fail
  refine (HC.out W C0.out.tree).mono ?_
  rintro e w1 ⟨rfl, hw1⟩
  have C1 := Lib.hid (C0.out.on hw1)
  have d1 := C1.out.e0
  clear hw1 HC C0 d0
  obtain ⟨N, hN⟩ : ∃ N, w1.heap.size = N := ⟨_, rfl⟩
  obtain ⟨w2, hw2⟩ : ∃ V, (w1.alloc (.cells #[.int .i64 0] 3)).alloc (.cells #[.int .i64 0] 3) = V := ⟨_, rfl⟩
  have V1 : Hid (VarAt w2 N (.int .i64 0) ∧ VarAt w2 (N + 1) (.int .i64 0)) := by
   subst hN
   rw [← hw2]
   exact ⟨(VarAt.new _ _ _).alloc _, by have := VarAt.new (w1.alloc (.cells #[.int .i64 0] 3)) (.int .i64 0) 3; rwa [World.size_alloc] at this⟩
  have C2 : Hid (CSt S A n cap T w w2) := by rw [← hw2]; exact C1.out.on (((Below.refl _ _).alloc (Nat.le_refl _) _).alloc (by simp) _)
  have H2 : Hid (NdsAt w2 N A T) := by
   rw [← hN, ← hw2]
   exact C1.out.tree.at_.below (((Below.refl _ _).alloc (Nat.le_refl _) _).alloc (by simp) _) (Nat.le_refl _)
  have HS : Hid (w2.heap.size = N + 2 ∧ S < N) := by refine ⟨by rw [← hw2]; simp [hN], by have := C1.out.lt; omega⟩
  have d2 := C2.out.e0
  subst hw2
  have hSN : S < w1.heap.size := by have := HS.out.2; omega
  clear C1
  go_wp2_with fail
  refine (HWK.out _ N N H2.out (by have := HS.out; omega) V1.out (by have := HS.out; omega)).mono ?_
  rintro e w3 ⟨rfl, bs', ⟨rfl, k1, k2⟩, hbut⟩
  rw [HEND.out] at k2
  have hr := k2.1
  have BR : Hid (Below S w w3) := C2.out.bel.but hbut (fun x hx => by have := HS.out; simp at hx; omega) (by have := HS.out; omega)
  clear HWK k1 k2 hbut C2 H2 V1
  go_wp2_with fail
  go_ret2
  exact ⟨rfl, BR.out⟩
 ·obtain ⟨te, ve, he⟩ := trErr_some hk
  rw [resOf_bad hk]
  rw [he] at HC ⊢
  unfold trV at *
  go_enter Tryd.func16, Tryd.ntmps16
  go_wp2_with fail
  refine (HC.out W C0.out.tree).mono ?_
  rintro e w1 ⟨rfl, hw1⟩
  have C1 := Lib.hid (C0.out.on hw1)
  clear hw1 HC C0 d0
  go_wp2_with fail
  go_ret2
  exact ⟨rfl, C1.out.bel⟩
end Go.Proofs.YtkgaaabecdbidaaDoor
