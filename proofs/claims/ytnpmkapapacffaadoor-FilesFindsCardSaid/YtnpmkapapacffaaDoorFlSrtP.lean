/-
  slices.SortStableFunc at []api.Package, at fewer than twenty elements: insertion sort.
-/
import Derived.Test.YtnpmkapapacffaaDoorFlSwk
namespace Go.Proofs.YtnpmkapapacffaaDoor
open Go.Shelf Go.RowKit Go.Lib Go.Sort Fm

set_option maxHeartbeats 8000000 in
set_option maxRecDepth 1000000 in
theorem insertion_runP (blk off cap g : Nat) (cb : Array Value) (cf : Re → Re → Int) (d0 : Array Re) (w0 : World) (R : RowK reCells 2 w0 blk off d0) (O : OrdK cf g cb blk off d0.size w0) (hsz : d0.size < 4611686018427387904)
    (a b : Nat) (d : Array Re) (w : World) (hds : d.size = d0.size) (S : SWK reCells 2 w0 blk off d w) (hab : a ≤ b) (hb : b ≤ d0.size) :
    Calls Tryd.prog 83 #[.slice (some ⟨blk, off, none⟩) d0.size cap, .int .i64 a, .int .i64 b, .func (.func g) #[] cb] w fun e w' => e = .returned (.tuple #[]) ∧ SWK reCells 2 w0 blk off (Sort.insertionSort (ltOf cf) d a b) w' := by
  have mixed := mixedA
  have eg := O.eg
  have S0 : Aside (SWK reCells 2 w0 blk off d w) := S
  clear S
  go_enter Tryd.func83, Tryd.ntmps83
  go_wp2_with fail
  go_loopg [8] (b - a + 1) (fun h s8 wr => ∃ (i : Nat) (dk : Array Re), s8 = .int .i64 i ∧ Hid (a < i ∧ i ≤ b + 1 ∧ b < i + h ∧ dk.size = d.size) ∧ Hid (insOuter (ltOf cf) a b i dk = insOuter (ltOf cf) a b (a + 1) d) ∧ Aside (SWK reCells 2 w0 blk off dk wr))
  case atStart => exact ⟨a + 1, d, by go_num, by show _ ∧ _; omega, rfl, S0⟩
  case round =>
    clear S0
    obtain ⟨i, dk, rfl, HI, HO, S1⟩ := hrel
    by_cases hlt : i < b
    · have hltz : (i : Int) < (b : Int) := by omega
      go_wp2_with fail
      go_loopg [9] (i + 1) (fun h s9 wr => ∃ (j : Nat) (dj : Array Re), s9 = .int .i64 j ∧ Hid (a ≤ j ∧ j ≤ i ∧ j < h ∧ dj.size = d.size) ∧ Hid (insInner (ltOf cf) a j dj = insInner (ltOf cf) a i dk) ∧ Aside (SWK reCells 2 w0 blk off dj wr))
      case atStart => exact ⟨i, dk, rfl, by show _ ∧ _; have := HI.out; omega, rfl, S1⟩
      case round =>
        clear S1
        obtain ⟨j, dj, rfl, HJ, HN, S2⟩ := hrel
        have out : (j ≤ a ∨ ltOf cf dj[j]! dj[j - 1]! = false) → Hid (insOuter (ltOf cf) a b (i + 1) dj = insOuter (ltOf cf) a b (a + 1) d) := fun hs => by
          show _ = _
          rw [← HO.out, insOuter_go _ _ _ _ _ hlt, ← HN.out, insInner_stop _ _ _ _ hs]
        have OUT : Aside _ := out
        clear out
        have hjs : dj.size = d0.size := HJ.out.2.2.2.trans hds
        have hJ := HJ.out
        have hI := HI.out
        by_cases hja : a < j
        · have hjaz : decide ((a : Int) < (j : Int)) = true := by simp; omega
          obtain ⟨jp, hjp⟩ : ∃ jp, j = jp + 1 := ⟨j - 1, by omega⟩
          have ejp : IntKind.i64.wrap ((j : Int) - 1) = (jp : Int) := by rw [IntKind.wrap_i64]; omega
          have hts : j < d0.size := by omega
          have has : jp < d0.size := by omega
          obtain ⟨l1, l2, l3, l4, hc⟩ := swk_test O R S2.out hjs (show j < dj.size by omega) (show jp < dj.size by omega)
          have CLS := fun n os => S2.out.grown n os
          obtain ⟨r, hr⟩ : ∃ r, r = cf dj[j]! dj[jp]! := ⟨_, rfl⟩
          have RR := Lib.hid hr
          have HJP := Lib.hid hjp
          rw [← hr] at hc
          have CL : Aside _ := CLS
          clear hr CLS S2 hjp hJ hI
          generalize hx : dj[j]! = x at l1 l2 hc
          generalize hy : dj[jp]! = y at l3 l4 hc
          have HX : Hid (dj[j]! = x ∧ dj[jp]! = y) := ⟨hx, hy⟩
          clear hx hy
          obtain ⟨xs, xA, xn, xc⟩ := x
          obtain ⟨ys, yA, yn, yc⟩ := y
          simp only [] at l1 l2 l3 l4 hc
          by_cases hv : r < 0
          · have hd : decide (r < 0) = true := decide_eq_true hv
            go_wp2_with fail
            go_quiet_grown (first | (go_at_fn g; refine Calls.grown_of (hc _ _)))
            go_wp2_with fail
            have S3 : Aside (SWK reCells 2 w0 blk off dj (grow (wr.drewN nq) osq)) := CL.out nq osq
            clear l1 l2 l3 l4 hc CL
            generalize grow (wr.drewN nq) osq = wq at S3 ⊢
            have S4 : Aside _ := swk_swap R S3.out (i := j) (j := jp) (by omega) (by omega)
            obtain ⟨l1, l2, f1, f2⟩ := swk_cells S3.out R hjs (show j < dj.size by omega)
            obtain ⟨l3, l4, f3, f4⟩ := swk_cells S3.out R hjs (show jp < dj.size by omega)
            have hjp := HJP.out
            have q1 : ¬ off + jp * 2 = off + j * 2 := by omega
            have q2 : ¬ off + jp * 2 = off + j * 2 + 1 := by omega
            have q3 : ¬ off + jp * 2 + 1 = off + j * 2 := by omega
            have q4 : ¬ off + jp * 2 + 1 = off + j * 2 + 1 := by omega
            have q5 : ¬ jp = j := by omega
            have b1 : (j : Int) < (d0.size : Int) := by omega
            have b2 : (jp : Int) < (d0.size : Int) := by omega
            rw [HX.out.1] at l1 l2 S4
            rw [HX.out.2] at l3 l4 S4
            simp only [] at l1 l2 l3 l4 S4
            clear S3 hjp
            go_big_region_o
            go_wp2
            go_roundg j
            case measure => have := HJ.out; omega
            case rel =>
              refine ⟨jp, swp dj j jp, by go_num, by show _ ∧ _; have := HJ.out; have := HJP.out; rw [size_swp]; omega, ?_, S4⟩
              show _ = _
              have := insInner_go (ltOf cf) a j dj hja (by have := HJP.out; rw [show j - 1 = jp by omega]; exact lt_true.2 (by have := RR.out; omega))
              rw [← HN.out, this, show j - 1 = jp by have := HJP.out; omega]
          · have hd : decide (r < 0) = false := decide_eq_false hv
            go_wp2_with fail
            go_quiet_grown (first | (go_at_fn g; refine Calls.grown_of (hc _ _)))
            go_wp2_with fail
            go_roundg (b - i)
            case measure => have := HI.out; omega
            case rel => exact ⟨i + 1, dj, by go_num, by show _ ∧ _; have := HI.out; have := HJ.out; omega, OUT.out (.inr (by have := HJP.out; rw [show j - 1 = jp by omega]; exact lt_false.2 (by have := RR.out; omega))), CL.out nq osq⟩
        · have hjaz : decide ((a : Int) < (j : Int)) = false := by simp; omega
          have hjaz' : ¬ (a : Int) < (j : Int) := by omega
          clear hJ hI
          have S3 : Aside (SWK reCells 2 w0 blk off dj wr.drew) := S2.out.drew
          clear S2
          go_wp2_with fail
          go_big_region_o
          all_goals go_wp2_with fail
          go_roundg (b - i)
          case measure => have := HI.out; omega
          case rel => exact ⟨i + 1, dj, by go_num, by show _ ∧ _; have := HI.out; have := HJ.out; omega, OUT.out (.inl (by omega)), S3⟩
    · have hltz : ¬ (i : Int) < (b : Int) := by omega
      go_wp2_with fail
      go_end0
      have e : dk = Sort.insertionSort (ltOf cf) d a b := by unfold Sort.insertionSort; rw [← HO.out, insOuter_stop _ _ _ _ _ hlt]
      rw [← e]
      exact ⟨rfl, S1.out⟩
set_option maxHeartbeats 8000000 in
set_option maxRecDepth 1000000 in
theorem stable_runP (blk off cap g : Nat) (cb : Array Value) (cf : Re → Re → Int) (d0 : Array Re) (w0 : World) (R : RowK reCells 2 w0 blk off d0) (O : OrdK cf g cb blk off d0.size w0) (hsz : d0.size < 20) :
    Calls Tryd.prog 73 #[.slice (some ⟨blk, off, none⟩) d0.size cap, .int .i64 d0.size, .func (.func g) #[] cb] w0 fun e w' => e = .returned (.tuple #[]) ∧ SWK reCells 2 w0 blk off (Sort.insertionSort (ltOf cf) d0 0 d0.size) w' := by
  have INS := Lib.hid (insertion_runP blk off cap g cb cf d0 w0 R O (by omega) 0 d0.size d0 w0 rfl (SWK.start R.hH) (Nat.zero_le _) (Nat.le_refl _))
  have c1 : decide ((20 : Int) ≤ (d0.size : Int)) = false := by simp; omega
  have c2 : decide ((20 : Int) < (d0.size : Int)) = false := by simp; omega
  have c1' : ¬ (20 : Int) ≤ (d0.size : Int) := by omega
  have c2' : ¬ (20 : Int) < (d0.size : Int) := by omega
  generalize d0.size = n at *
  go_enter Tryd.func73, Tryd.ntmps73
  go_wp2_with fail
  refine wp_loop_rounds 1 ?_
  rw [rounds_succ]
  go_wp2_with fail
  refine INS.out.mono ?_
  rintro e w1 ⟨rfl, hw1⟩
  have H1 := Lib.hid hw1
  clear hw1
  go_wp2_with fail
  refine wp_loop_rounds 1 ?_
  rw [rounds_succ]
  go_wp2_with fail
  go_end0
  exact ⟨rfl, H1.out⟩
set_option maxHeartbeats 2000000 in
theorem sortStable_runP (blk off cap g : Nat) (cb : Array Value) (cf : Re → Re → Int) (d0 : Array Re) (w0 : World) (R : RowK reCells 2 w0 blk off d0) (O : OrdK cf g cb blk off d0.size w0) (hsz : d0.size < 20) :
    Calls Tryd.prog 59 #[.slice (some ⟨blk, off, none⟩) d0.size cap, .func (.func g) #[] cb] w0 fun e w' => e = .returned (.tuple #[]) ∧ SWK reCells 2 w0 blk off (Sort.insertionSort (ltOf cf) d0 0 d0.size) w' := by
  have H := Lib.hid (stable_runP blk off cap g cb cf d0 w0 R O hsz)
  go_enter Tryd.func59, Tryd.ntmps59
  go_wp2_with fail
  refine H.out.mono ?_
  rintro e w1 ⟨rfl, h⟩
  go_wp2_with fail
  go_end0
  exact ⟨rfl, h⟩
end Go.Proofs.YtnpmkapapacffaaDoor
