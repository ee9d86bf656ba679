/-
  The walk of the law FilesPermutes: it answers true, and leaves what was there as it was.
-/
import Derived.Test.YtnpmkapapacffaaDoorFlLawC
import Derived.Test.YtnpmkapapacffaaDoorFlRefP
namespace Go.Proofs.YtnpmkapapacffaaDoor
open Go.Shelf Go.RowKit Go.Lib Go.Sort Fm

theorem permP_length (l : List Pk) (pick : List Int) : (permP l pick).length = l.length := by unfold permP; rw [List.length_map, permL_length]
theorem permP_small {l : List Pk} (h : Small l) (pick : List Int) : Small (permP l pick) := by
  refine ⟨by rw [permP_length]; exact h.1, fun p hp => ?_⟩
  unfold permP at hp
  obtain ⟨q, hq, rfl⟩ := List.mem_map.1 hp
  have hq2 := h.2 q ((permL_perm l pick).mem_iff.2 hq)
  refine ⟨(show (permL q.files pick).length ≤ 6 by rw [permL_length]; exact hq2.1), fun f hf => hq2.2 f ?_⟩
  have hf : f ∈ permL q.files pick := hf
  exact (permL_perm q.files pick).mem_iff.2 hf

set_option maxRecDepth 100000 in
set_option maxHeartbeats 8000000 in
theorem filesPermutes_any (A : Option Addr) (n cap : Nat) (ps : List Pk) (P : Option Addr) (m pc : Nat) (pick : List Int) (W : World) (hb : PksAt W W.heap.size A ps) (hl : Hid (ps.length = n)) (hcap : n ≤ 9223372036854775807)
    (hp : Nums W W.heap.size P pick) (hpl : Hid (pick.length = m)) (hpc : m ≤ pc) (h64 : Hid (I64 pick)) (hg : ErrType W) :
    Calls Tryd.prog 6 #[.slice A n cap, .slice P m pc] W fun e w' => e = .returned (.bool true) ∧ Below W.heap.size W w' := by
  have HFW := Lib.hid (Few_run A n cap ps W hb hl hcap)
  have HG := Lib.hid hg
  have hgl := hg.lt
  obtain ⟨L, hL⟩ : ∃ L, fewP ps = L := ⟨_, rfl⟩
  have HS : Hid (Small L) := by show Small _; rw [← hL]; exact few_small ps
  have HSH : Hid (Short L) := by show Short _; rw [← hL]; exact few_short ps
  rw [hL] at HFW
  obtain ⟨l, hll⟩ : ∃ l, L.length = l := ⟨_, rfl⟩
  have HL := Lib.hid hll
  obtain ⟨k, hk0⟩ : ∃ k : Nat, min m 10 = k := ⟨_, rfl⟩
  have hk1 : min (m : Int) 10 = (k : Int) := by omega
  have hk2 : (k : Int) ≤ (pc : Int) := by omega
  obtain ⟨pk, hpk⟩ : ∃ pk, pick.take k = pk := ⟨_, rfl⟩
  have HPK : Hid (Nums W W.heap.size P pk) := by
    show Nums _ _ _ _
    rw [← hpk]
    exact hp.take k
  have HPL : Hid (pk.length = k) := by
    show _ = _
    rw [← hpk, List.length_take]
    have := hpl.out
    omega
  have H64 : Hid (I64 pk) := by
    show I64 _
    rw [← hpk]
    exact fun x hx => h64.out x (List.mem_of_mem_take hx)
  have hk1000 : Hid (k ≤ 1000) := by show _ ≤ _; omega
  have HQL : Hid ((permP L pk).length = l) := (permP_length L pk).trans hll
  have HQS : Hid (Small (permP L pk)) := permP_small HS.out pk
  have HOL : Hid ((ordP L).length = l) := (ordP_length L).trans hll
  have HOQ : Hid ((ordP (permP L pk)).length = l) := (ordP_length _).trans HQL.out
  have HChk : Hid (∀ A cap w, PksAt w w.heap.size A L → ErrType w → Calls Tryd.prog 13 #[.slice A l cap] w fun e w' => e = .returned (flErr (pkFault [] L)) ∧ Below w.heap.size w w') := fun A cap w h hg => Check_run A l cap L w h HL HS HSH hg
  clear hb hL hg hll hp hpk h64 hpl hk0
  go_enter Tryd.func6, Tryd.ntmps6
  go_wp2_with fail
  refine HFW.out.mono ?_
  rintro e w1 ⟨v, rfl, ho⟩
  obtain ⟨A1, c1, hv, _, _, hp1, hw1⟩ := ho
  rw [HL.out] at hv
  subst hv
  have B1 := Lib.hid hw1
  have HP1 := Lib.hid hp1
  have hs1 := hw1.size
  clear hw1 hp1 HFW
  go_wp2_with fail
  refine (Permute_run A1 l c1 L P k pc pk w1 HP1.out HL HS ((HPK.out.below B1.out (Nat.le_refl _)).more hs1) HPL hk1000.out).mono ?_
  rintro e w2 ⟨g, c2, xs, rfl, hx2, hw2⟩
  obtain ⟨A2, d2, hv2, _, _, hp2⟩ := hx2.read
  rw [HQL.out] at hv2
  cases hv2
  have B2 : Hid (Below w1.heap.size w1 w2) := hw2
  have hs2 := hw2.size
  have HP2 := Lib.hid hp2
  clear hx2 hp2 hw2
  go_wp2_with fail
  refine (refPermute_run A1 l c1 L P k pc pk w2 ((HP1.out.below B2.out (Nat.le_refl _)).more hs2) HL HS ((HPK.out.below (B1.out.trans (B2.out.mono hs1)) (Nat.le_refl _)).more (Nat.le_trans hs1 hs2)) HPL H64).mono ?_
  rintro e w3 ⟨v3, rfl, ho3⟩
  obtain ⟨xs3, hx3, hw3⟩ := ho3
  obtain ⟨A3, d3, hv3, _, _, hp3⟩ := hx3.read
  rw [HQL.out] at hv3
  subst hv3
  have B3 : Hid (Below w1.heap.size w1 w3) := B2.out.trans (hw3.mono hs2)
  have B23 := Lib.hid hw3
  have hs3 := B3.out.size
  have HP3 := Lib.hid hp3
  have HP23 : Hid (PksAt w3 w3.heap.size (some ⟨g, 0, none⟩) (permP L pk)) := (HP2.out.below hw3 (Nat.le_refl _)).more hw3.size
  clear hx3 hp3 hw3 HP2 B2
  go_wp2_with fail
  refine (Same_run (some ⟨g, 0, none⟩) A3 l c2 d3 (permP L pk) w3 HP23.out HP3.out HQL HQS).mono ?_
  rintro e w4 ⟨rfl, q4, rfl⟩
  have B4 : Hid (Below w1.heap.size w1 (w3.drewN q4)) := below_drewN B3.out q4
  have B34 : Hid (Below w3.heap.size w3 (w3.drewN q4)) := below_drewN (Below.refl _ _) q4
  obtain ⟨w4, hw4⟩ : ∃ w4, w3.drewN q4 = w4 := ⟨_, rfl⟩
  rw [hw4] at B4 B34 ⊢
  have hs4 := B4.out.size
  have HP4 : Hid (PksAt w4 w4.heap.size (some ⟨g, 0, none⟩) (permP L pk)) := (HP23.out.below B34.out (Nat.le_refl _)).more B34.out.size
  have G4 : Hid (ErrType w4) := HG.out.below (B1.out.trans (B4.out.mono hs1)) hgl
  clear hw4 HP3 HP23 B3 B34 B23 hs3 hs2
  cases hft : pkFault [] L with
  | some x =>
    obtain ⟨kk, s⟩ := x
    rw [hft] at HChk
    unfold flErr lackOf at HChk
    clear hft
    go_wp2_with fail
    refine (HChk.out A1 c1 w4 ((HP1.out.below B4.out (Nat.le_refl _)).more hs4) G4.out).mono ?_
    rintro e w5 ⟨rfl, hw5⟩
    have B5 : Hid (Below W.heap.size W w5) := B1.out.trans ((B4.out.trans (hw5.mono hs4)).mono hs1)
    clear hw5
    go_wp2_with fail
    refine (works_run _ (HG.out.below B5.out hgl)).mono ?_
    rintro e w9 ⟨rfl, hw9⟩
    go_wp2_with fail
    go_ret
    exact ⟨rfl, B5.out.trans (hw9.mono B5.out.size)⟩
  | none =>
    have HOP : Hid (ordP (permP L pk) = ordP L) := ordP_permP (by simpa using pkFault_part hft ⟨by simp, by simp⟩) pk
    rw [hft] at HChk
    unfold flErr at HChk
    clear hft
    go_wp2_with fail
    refine (HChk.out A1 c1 w4 ((HP1.out.below B4.out (Nat.le_refl _)).more hs4) G4.out).mono ?_
    rintro e w5 ⟨rfl, hw5⟩
    have B5 : Hid (Below w1.heap.size w1 w5) := B4.out.trans (hw5.mono hs4)
    have HP5 : Hid (PksAt w5 w5.heap.size (some ⟨g, 0, none⟩) (permP L pk)) := (HP4.out.below hw5 (Nat.le_refl _)).more hw5.size
    have hs5 := B5.out.size
    clear hw5 HP4 HChk G4 B4
    go_wp2_with fail
    refine (Order_run (some ⟨g, 0, none⟩) l c2 (permP L pk) w5 HP5.out HQL HQS).mono ?_
    rintro e w6 ⟨g6, c6, xs6, rfl, hx6, hw6⟩
    obtain ⟨A6, d6, hv6, _, _, hp6⟩ := hx6.read
    rw [HOQ.out] at hv6
    cases hv6
    have HP6 := Lib.hid hp6
    have B6 : Hid (Below w1.heap.size w1 w6) := B5.out.trans (hw6.mono hs5)
    clear hx6 hp6 hw6 HP5
    go_wp2_with fail
    refine (Order_run A1 l c1 L w6 ((HP1.out.below B6.out (Nat.le_refl _)).more B6.out.size) HL HS).mono ?_
    rintro e w7 ⟨g7, c7, xs7, rfl, hx7, hw7⟩
    obtain ⟨A7, d7, hv7, _, _, hp7⟩ := hx7.read
    rw [HOL.out] at hv7
    cases hv7
    have HP7 := Lib.hid hp7
    have B7 : Hid (Below w1.heap.size w1 w7) := B6.out.trans (hw7.mono B6.out.size)
    have HP67 : Hid (PksAt w7 w7.heap.size (some ⟨g6, 0, none⟩) (ordP L)) := by
      show PksAt _ _ _ _
      rw [← HOP.out]
      exact (HP6.out.below hw7 (Nat.le_refl _)).more hw7.size
    clear hx7 hp7 hw7 HP6
    go_wp2_with fail
    refine (Same_run (some ⟨g6, 0, none⟩) (some ⟨g7, 0, none⟩) l c6 c7 (ordP L) w7 HP67.out HP7.out HOL (ordP_small HS.out)).mono ?_
    rintro e w8 ⟨rfl, q8, rfl⟩
    have B8 : Hid (Below W.heap.size W (w7.drewN q8)) := below_drewN (B1.out.trans (B7.out.mono hs1)) q8
    go_wp2_with fail
    refine (works_run _ (HG.out.below B8.out hgl)).mono ?_
    rintro e w9 ⟨rfl, hw9⟩
    go_wp2_with fail
    go_ret
    exact ⟨rfl, B8.out.trans (hw9.mono B8.out.size)⟩
theorem filesPermutes_row (A : Option Addr) (n cap : Nat) (ps : List Pk) (P : Option Addr) (m pc : Nat) (pick : List Int) (W : World) (hb : PksAt W W.heap.size A ps) (hl : ps.length = n) (hc : n ≤ cap) (hm : cap ≤ 9223372036854775807)
    (hp : Nums W W.heap.size P pick ∧ I64 pick) (hpl : pick.length = m) (hpc : m ≤ pc) (_ : pc ≤ 9223372036854775807) (hg : ErrType W) :
    Calls Tryd.prog 6 #[.slice A n cap, .slice P m pc] W fun e w' => e = .returned (.bool true) ∧ Below W.heap.size W w' :=
  filesPermutes_any A n cap ps P m pc pick W hb hl (Nat.le_trans hc hm) hp.1 hpl hpc hp.2 hg
end Go.Proofs.YtnpmkapapacffaaDoor
