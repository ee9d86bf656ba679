/-
  slices.insertionSortCmpFunc, stableCmpFunc and SortStableFunc at a slice of structs of two int's: behind the call the slice holds a sorted permutation of what it held.
-/
import Derived.Test.YtnbnohphdehfoaaSrtAll
namespace Go.Proofs.Ytnbnohphdehfoaa
open Go.Shelf Go.RowKit Go.Lib Go.Sort
namespace Srt
variable {α : Type} [Inhabited α] {lt : α → α → Bool}
/-- [0, a) lies in sorted runs of length bs. -/
inductive RunsFrom (lt : α → α → Bool) (bs : Nat) (d : Array α) : Nat → Prop where
  | zero : RunsFrom lt bs d 0
  | step {a : Nat} : RunsFrom lt bs d a → SortedIn lt a (a + bs) d → RunsFrom lt bs d (a + bs)
/-- [a, n) lies in sorted runs of length bs, the last one perhaps shorter. -/
inductive RunsTo (lt : α → α → Bool) (bs : Nat) (d : Array α) (n : Nat) : Nat → Prop where
  | last {a : Nat} : a ≤ n → n ≤ a + bs → SortedIn lt a n d → RunsTo lt bs d n a
  | cons {a : Nat} : a + bs ≤ n → SortedIn lt a (a + bs) d → RunsTo lt bs d n (a + bs) → RunsTo lt bs d n a
theorem RunsFrom.congr {bs : Nat} {d d' : Array α} {a : Nat} (h : RunsFrom lt bs d a) (he : ∀ x, x < a → d'[x]! = d[x]!) : RunsFrom lt bs d' a := by
  induction h with
  | zero => exact .zero
  | step _ hs ih => exact .step (ih fun x hx => he x (by omega)) (sorted_congr hs fun x _ hx => he x hx)
theorem RunsTo.congr {bs n : Nat} {d d' : Array α} {a : Nat} (h : RunsTo lt bs d n a) (he : ∀ x, a ≤ x → d'[x]! = d[x]!) : RunsTo lt bs d' n a := by
  induction h with
  | last h1 h2 hs => exact .last h1 h2 (sorted_congr hs fun x hx _ => he x hx)
  | cons h1 hs _ ih => exact .cons h1 (sorted_congr hs fun x hx _ => he x hx) (ih fun x hx => he x (by omega))
theorem RunsTo.inv {bs n : Nat} {d : Array α} {a : Nat} (h : RunsTo lt bs d n a) (h1 : a + bs ≤ n) : SortedIn lt a (a + bs) d ∧ RunsTo lt bs d n (a + bs) := by
  cases h with
  | last h2 h3 hs =>
    obtain rfl : n = a + bs := by omega
    exact ⟨hs, .last (Nat.le_refl _) (by omega) fun i j _ _ _ => by omega⟩
  | cons _ hs hr => exact ⟨hs, hr⟩
theorem RunsTo.end_ {bs n : Nat} {d : Array α} {a : Nat} (h : RunsTo lt bs d n a) (h1 : n ≤ a + bs) : SortedIn lt a n d := by
  cases h with
  | last _ _ hs => exact hs
  | cons h2 hs hr =>
    obtain rfl : n = a + bs := by omega
    exact hs
theorem RunsFrom.le_to {bs n : Nat} {d : Array α} {a : Nat} (h : RunsFrom lt bs d a) : RunsTo lt bs d n a → a ≤ n → RunsTo lt bs d n 0 := by
  induction h with
  | zero => exact fun h _ => h
  | step _ hs ih => exact fun h hn => ih (.cons hn hs h) (by omega)
end Srt

set_option maxHeartbeats 8000000 in
set_option maxRecDepth 1000000 in
theorem insertion_run (blk off cap g : Nat) (cb : Array Value) (cf : Int × Int → Int × Int → Int) (d0 : Array (Int × Int)) (w0 : World) (R : RowK pairCells 2 w0 blk off d0) (O : OrdK cf g cb blk off d0.size w0) (hsz : d0.size < 4611686018427387904)
    (a b : Nat) (d : Array (Int × Int)) (w : World) (hds : d.size = d0.size) (S : SWK pairCells 2 w0 blk off d w) (hab : a ≤ b) (hb : b ≤ d0.size) :
    Calls Try.prog 36 #[.slice (some ⟨blk, off, none⟩) d0.size cap, .int .i64 a, .int .i64 b, .func (.func g) #[] cb] w fun e w' => e = .returned (.tuple #[]) ∧ ∃ d', PermIn a b d d' ∧ SortedIn (ltOf cf) a b d' ∧ SWK pairCells 2 w0 blk off d' w' := by
  have mixed := mixedA
  have eg := O.eg
  have S0 : Aside (SWK pairCells 2 w0 blk off d w) := S
  clear S
  go_enter Try.func36, Try.ntmps36
  go_wp2_with fail
  go_loopg [8] (b - a + 1) (fun h s8 wr => ∃ (i : Nat) (dk : Array (Int × Int)), s8 = .int .i64 i ∧ Hid (a < i ∧ i ≤ b + 1 ∧ b < i + h ∧ dk.size = d.size) ∧ Hid (insOuter (ltOf cf) a b i dk = insOuter (ltOf cf) a b (a + 1) d) ∧ Aside (SWK pairCells 2 w0 blk off dk wr))
  case atStart => exact ⟨a + 1, d, by go_num, by show _ ∧ _; omega, rfl, S0⟩
  case round =>
    clear S0
    obtain ⟨i, dk, rfl, HI, HO, S1⟩ := hrel
    by_cases hlt : i < b
    · have hltz : (i : Int) < (b : Int) := by omega
      go_wp2_with fail
      go_loopg [9] (i + 1) (fun h s9 wr => ∃ (j : Nat) (dj : Array (Int × Int)), s9 = .int .i64 j ∧ Hid (a ≤ j ∧ j ≤ i ∧ j < h ∧ dj.size = d.size) ∧ Hid (insInner (ltOf cf) a j dj = insInner (ltOf cf) a i dk) ∧ Aside (SWK pairCells 2 w0 blk off dj wr))
      case atStart => exact ⟨i, dk, rfl, by show _ ∧ _; have := HI.out; omega, rfl, S1⟩
      case round =>
        clear S1
        obtain ⟨j, dj, rfl, HJ, HN, S2⟩ := hrel
        have out : (j ≤ a ∨ ltOf cf dj[j]! dj[j - 1]! = false) → Hid (insOuter (ltOf cf) a b (i + 1) dj = insOuter (ltOf cf) a b (a + 1) d) := fun hs => by
          show _ = _
          rw [← HO.out, insOuter_go _ _ _ _ _ hlt, ← HN.out, insInner_stop _ _ _ _ hs]
        have OUT : Aside _ := out
        clear out
        have hjs : dj.size = d0.size := HJ.out.2.2.2.trans hds
        have hJ := HJ.out
        have hI := HI.out
        by_cases hja : a < j
        · have hjaz : decide ((a : Int) < (j : Int)) = true := by simp; omega
          obtain ⟨jp, hjp⟩ : ∃ jp, j = jp + 1 := ⟨j - 1, by omega⟩
          have ejp : IntKind.i64.wrap ((j : Int) - 1) = (jp : Int) := by rw [IntKind.wrap_i64]; omega
          have hts : j < d0.size := by omega
          have has : jp < d0.size := by omega
          obtain ⟨l1, l2, l3, l4, hc⟩ := swk_test O R S2.out hjs (show j < dj.size by omega) (show jp < dj.size by omega)
          have CLS := fun n os => S2.out.grown n os
          obtain ⟨r, hr⟩ : ∃ r, r = cf dj[j]! dj[jp]! := ⟨_, rfl⟩
          have RR := Lib.hid hr
          have HJP := Lib.hid hjp
          rw [← hr] at hc
          have CL : Aside _ := CLS
          by_cases hv : r < 0
          · have hd : decide (r < 0) = true := decide_eq_true hv
            clear hr CLS S2 hjp hJ hI
            generalize hx1 : dj[j]!.1 = x1 at l1 hc
            generalize hx2 : dj[j]!.2 = x2 at l2 hc
            generalize hy1 : dj[jp]!.1 = y1 at l3 hc
            generalize hy2 : dj[jp]!.2 = y2 at l4 hc
            have HX : Hid (dj[j]!.1 = x1 ∧ dj[j]!.2 = x2 ∧ dj[jp]!.1 = y1 ∧ dj[jp]!.2 = y2) := ⟨hx1, hx2, hy1, hy2⟩
            clear hx1 hx2 hy1 hy2
            go_wp2_with fail
            go_quiet_grown (first | (go_at_fn g; refine Calls.grown_of (hc _ _)))
            go_wp2_with fail
            have S3 : Aside (SWK pairCells 2 w0 blk off dj (grow (wr.drewN nq) osq)) := CL.out nq osq
            clear l1 l2 l3 l4 hc CL
            generalize grow (wr.drewN nq) osq = wq at S3 ⊢
            have S4 : Aside _ := swk_swap R S3.out (i := j) (j := jp) (by omega) (by omega)
            obtain ⟨l1, l2, f1, f2⟩ := swk_cells S3.out R hjs (show j < dj.size by omega)
            obtain ⟨l3, l4, f3, f4⟩ := swk_cells S3.out R hjs (show jp < dj.size by omega)
            have hjp := HJP.out
            have q1 : ¬ off + jp * 2 = off + j * 2 := by omega
            have q2 : ¬ off + jp * 2 = off + j * 2 + 1 := by omega
            have q3 : ¬ off + jp * 2 + 1 = off + j * 2 := by omega
            have q4 : ¬ off + jp * 2 + 1 = off + j * 2 + 1 := by omega
            have q5 : ¬ jp = j := by omega
            have b1 : (j : Int) < (d0.size : Int) := by omega
            have b2 : (jp : Int) < (d0.size : Int) := by omega
            have HK : Hid (swp dj j jp = swp dj j jp) := rfl
            rw [HX.out.1] at l1 S4
            rw [HX.out.2.1] at l2 S4
            rw [HX.out.2.2.1] at l3 S4
            rw [HX.out.2.2.2] at l4 S4
            clear S3 hjp
            go_big_region_o
            go_wp2
            go_roundg j
            case measure => have := HJ.out; omega
            case rel =>
              refine ⟨jp, swp dj j jp, by go_num, by show _ ∧ _; have := HJ.out; have := HJP.out; rw [size_swp]; omega, ?_, S4⟩
              show _ = _
              have := insInner_go (ltOf cf) a j dj hja (by have := HJP.out; rw [show j - 1 = jp by omega]; exact lt_true.2 (by have := RR.out; omega))
              rw [← HN.out, this, show j - 1 = jp by have := HJP.out; omega]
          · have hd : decide (r < 0) = false := decide_eq_false hv
            clear hr CLS S2 hjp hJ hI
            generalize dj[j]!.1 = x1 at l1 hc
            generalize dj[j]!.2 = x2 at l2 hc
            generalize dj[jp]!.1 = y1 at l3 hc
            generalize dj[jp]!.2 = y2 at l4 hc
            go_wp2_with fail
            go_quiet_grown (first | (go_at_fn g; refine Calls.grown_of (hc _ _)))
            go_wp2_with fail
            go_roundg (b - i)
            case measure => have := HI.out; omega
            case rel => exact ⟨i + 1, dj, by go_num, by show _ ∧ _; have := HI.out; have := HJ.out; omega, OUT.out (.inr (by have := HJP.out; rw [show j - 1 = jp by omega]; exact lt_false.2 (by have := RR.out; omega))), CL.out nq osq⟩
        · have hjaz : decide ((a : Int) < (j : Int)) = false := by simp; omega
          have hjaz' : ¬ (a : Int) < (j : Int) := by omega
          clear hJ hI
          have S3 : Aside (SWK pairCells 2 w0 blk off dj wr.drew) := S2.out.drew
          clear S2
          go_wp2_with fail
          go_big_region_o
          all_goals go_wp2_with fail
          go_roundg (b - i)
          case measure => have := HI.out; omega
          case rel => exact ⟨i + 1, dj, by go_num, by show _ ∧ _; have := HI.out; have := HJ.out; omega, OUT.out (.inl (by omega)), S3⟩
    · have hltz : ¬ (i : Int) < (b : Int) := by omega
      go_wp2_with fail
      go_end0
      have h := insertionSort_holds (lt := ltOf cf) O.swo d a b hab (by omega)
      have e : dk = Sort.insertionSort (ltOf cf) d a b := by unfold Sort.insertionSort; rw [← HO.out, insOuter_stop _ _ _ _ _ hlt]
      rw [← e] at h
      exact ⟨rfl, dk, h.1, h.2, S1.out⟩
end Go.Proofs.Ytnbnohphdehfoaa
