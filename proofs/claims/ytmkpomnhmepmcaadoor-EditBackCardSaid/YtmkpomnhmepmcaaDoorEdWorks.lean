/-
  The contract of the law's works (the chapter's example).
-/
import Derived.Test.YtmkpomnhmepmcaaDoorEdApply
import Derived.Test.YtmkpomnhmepmcaaDoorEdBk
namespace Go.Proofs.YtmkpomnhmepmcaaDoor
open Go.RowKit

def exE : List Ei := [⟨1, 2, ⟨#[88, 89]⟩⟩]
theorem ex_check : checkOut [97, 98, 99, 100] exE = none := by decide +kernel
theorem ex_done : done [97, 98, 99, 100] exE = [97, 88, 89, 99, 100] := by decide +kernel
theorem ex_map2 : mapOut 2 exE = (3, true) := by decide +kernel
theorem ex_map1 : mapOut 1 exE = (1, false) := by decide +kernel
theorem ex_back : backOut 3 exE = (2, true) := by decide +kernel
theorem ex_str : strOf [97, 88, 89, 99, 100] = ⟨#[97, 88, 89, 99, 100]⟩ := by rfl
/-- '[]byte("..")' of a constant: the row's end is marked. -/
theorem conv_lit (w : World) (cs : Array Value) (n c : Nat) : (convert 22 22 (.slice (some ⟨w.heap.size, 0, none⟩) n c)).run Tryd.prog (w.alloc (.cells cs 5)) = .ok (.slice (some ⟨w.heap.size, 0, none⟩) n c) (w.alloc (.cells cs 5 (cs.size, cs.size + 1))) := by
  have hsh : (w.alloc (.cells cs 5)).shape? w.heap.size = some (5, cs.size) := by
    have : (w.alloc (.cells cs 5)).heap[w.heap.size]? = some (.cells cs 5) := by
      show (w.heap.push (.cells cs 5))[w.heap.size]? = _
      simp
    unfold World.shape?
    rw [this]
  have hfr : (w.alloc (.cells cs 5)).freeze ⟨w.heap.size, cs.size, none⟩ 1 = w.alloc (.cells cs 5 (cs.size, cs.size + 1)) := by
    have hm : ∀ (a : Array Obj) (x : Obj) (f : Obj → Obj), (a.push x).modify a.size f = a.push (f x) := by
      intro a x f
      apply Array.ext
      · simp
      · intro i h1 h2
        simp only [Array.getElem_modify, Array.getElem_push]
        by_cases h : a.size = i
        · subst h
          simp
        · have hi : i < a.size := by simp at h1; omega
          simp [h, hi]
    unfold World.freeze
    rw [if_neg (by decide)]
    show ({ w.alloc (.cells cs 5) with heap := (w.heap.push (.cells cs 5)).modify w.heap.size _ } : World) = _
    rw [hm]
    rfl
  simp [convert, run_underlying Tryd.underlying22, run_underlying Tryd.underlying5, markStringish, hsh]
  exact hfr
theorem byts_new4 (w : World) : Byts (w.alloc (.cells #[.int .u8 97, .int .u8 98, .int .u8 99, .int .u8 100] 5 (4, 5))) (w.heap.size + 1) (some ⟨w.heap.size, 0, none⟩) [97, 98, 99, 100] :=
  ⟨fun z hz => by simp at hz; omega, fun _ => ⟨_, _, rfl, by omega, fun i x hx => by
    have := World.cell?_alloc_mark w #[.int .u8 97, .int .u8 98, .int .u8 99, .int .u8 100] 5 (4, 5) (0 + i)
    rw [this]
    match i, hx with
    | 0, hx => cases hx; rfl
    | 1, hx => cases hx; rfl
    | 2, hx => cases hx; rfl
    | 3, hx => cases hx; rfl⟩⟩
set_option maxRecDepth 100000 in
set_option maxHeartbeats 4000000 in
theorem works_run (w : World) (hh : Heads w) : Calls Tryd.prog 15 #[] w fun e w' => e = .returned (.bool true) ∧ Below w.heap.size w w' := by
  have HH := Lib.hid hh
  have hlt := hh.lt
  clear hh
  have b1 : Below w.heap.size w (w.alloc (.cells #[.int .i64 1, .int .i64 2, .string ⟨#[88, 89]⟩] 45)) := (Below.refl _ _).alloc (Nat.le_refl _) _
  have b2 : Below w.heap.size w ((w.alloc (.cells #[.int .i64 1, .int .i64 2, .string ⟨#[88, 89]⟩] 45)).alloc (.cells #[.int .u8 97, .int .u8 98, .int .u8 99, .int .u8 100] 5 (4, 5))) := b1.alloc (by simp) _
  have C1 : Hid (CellsV edCells ((w.alloc (.cells #[.int .i64 1, .int .i64 2, .string ⟨#[88, 89]⟩] 45)).alloc (.cells #[.int .u8 97, .int .u8 98, .int .u8 99, .int .u8 100] 5 (4, 5))) ((w.alloc (.cells #[.int .i64 1, .int .i64 2, .string ⟨#[88, 89]⟩] 45)).alloc (.cells #[.int .u8 97, .int .u8 98, .int .u8 99, .int .u8 100] 5 (4, 5))).heap.size (some ⟨w.heap.size, 0, none⟩) exE) := by
    have h := one_ed w 1 2 ⟨#[88, 89]⟩ 45
    have h2 := h.below ((Below.refl (w.heap.size + 1) (w.alloc (.cells #[.int .i64 1, .int .i64 2, .string ⟨#[88, 89]⟩] 45))).alloc (by simp) (.cells #[.int .u8 97, .int .u8 98, .int .u8 99, .int .u8 100] 5 (4, 5))) (Nat.le_refl _)
    exact h2.more (by simp)
  have Y1 : Hid (Byts ((w.alloc (.cells #[.int .i64 1, .int .i64 2, .string ⟨#[88, 89]⟩] 45)).alloc (.cells #[.int .u8 97, .int .u8 98, .int .u8 99, .int .u8 100] 5 (4, 5))) ((w.alloc (.cells #[.int .i64 1, .int .i64 2, .string ⟨#[88, 89]⟩] 45)).alloc (.cells #[.int .u8 97, .int .u8 98, .int .u8 99, .int .u8 100] 5 (4, 5))).heap.size (some ⟨w.heap.size + 1, 0, none⟩) [97, 98, 99, 100]) := by
    have h := byts_new4 (w.alloc (.cells #[.int .i64 1, .int .i64 2, .string ⟨#[88, 89]⟩] 45))
    show Byts _ _ _ _
    simpa using h
  have B2 := Lib.hid b2
  have hs : w.heap.size + 2 = ((w.alloc (.cells #[.int .i64 1, .int .i64 2, .string ⟨#[88, 89]⟩] 45)).alloc (.cells #[.int .u8 97, .int .u8 98, .int .u8 99, .int .u8 100] 5 (4, 5))).heap.size := by simp
  have HS := Lib.hid hs
  clear b1 b2 hs
  have HAp := Lib.hid (apply_ok (some ⟨w.heap.size + 1, 0, none⟩) 4 4 [97, 98, 99, 100] (some ⟨w.heap.size, 0, none⟩) 1 1 exE _ Y1.out rfl (by omega) (HH.out.below B2.out hlt) C1.out rfl (by omega) (fun e he => by simp [exE] at he; subst he; decide) (by omega) ex_check)
  have HMap : Hid (∀ (off p : Int) (q : Bool) W, Below (w.heap.size + 2) ((w.alloc (.cells #[.int .i64 1, .int .i64 2, .string ⟨#[88, 89]⟩] 45)).alloc (.cells #[.int .u8 97, .int .u8 98, .int .u8 99, .int .u8 100] 5 (4, 5))) W → 0 ≤ off → off ≤ 100 → mapOut off exE = (p, q) → Calls Tryd.prog 16 #[.slice (some ⟨w.heap.size, 0, none⟩) 1 1, .int .i64 off] W fun e w' => e = .returned (.tuple #[.int .i64 p, .bool q]) ∧ Below W.heap.size W w') := fun off p q W hW h0 h1 hz =>
    Map_run _ 1 1 exE off p q W ((C1.out.below (by rw [← HS.out]; exact hW) (Nat.le_refl _)).more hW.size) rfl (by omega) (by omega) hz
  have HBk : Hid (∀ (off p : Int) (q : Bool) W, Below (w.heap.size + 2) ((w.alloc (.cells #[.int .i64 1, .int .i64 2, .string ⟨#[88, 89]⟩] 45)).alloc (.cells #[.int .u8 97, .int .u8 98, .int .u8 99, .int .u8 100] 5 (4, 5))) W → 0 ≤ off → off ≤ 100 → backOut off exE = (p, q) → Calls Tryd.prog 18 #[.slice (some ⟨w.heap.size, 0, none⟩) 1 1, .int .i64 off] W fun e w' => e = .returned (.tuple #[.int .i64 p, .bool q]) ∧ Below W.heap.size W w') := fun off p q W hW h0 h1 hz =>
    Back_run _ 1 1 exE off p q W ((C1.out.below (by rw [← HS.out]; exact hW) (Nat.le_refl _)).more hW.size) rfl (by omega) (by omega) hz
  clear Y1 C1
  have hcl := conv_lit (w.alloc (.cells #[.int .i64 1, .int .i64 2, .string ⟨#[88, 89]⟩] 45)) #[.int .u8 97, .int .u8 98, .int .u8 99, .int .u8 100] 4 4
  simp at hcl
  go_enter Tryd.func15, Tryd.ntmps15
  go_wp2_with fail
  refine HAp.out.mono ?_
  rintro e w1 ⟨v, rfl, A, cap, rfl, hc1, hc2, hy1, hw1⟩
  rw [ex_done] at hc1 hy1 ⊢
  simp only [List.length_cons, List.length_nil] at hc1 ⊢
  have T1 : Hid (Below (w.heap.size + 2) ((w.alloc (.cells #[.int .i64 1, .int .i64 2, .string ⟨#[88, 89]⟩] 45)).alloc (.cells #[.int .u8 97, .int .u8 98, .int .u8 99, .int .u8 100] 5 (4, 5))) w1) := by rw [HS.out]; exact hw1
  have hcv : Hid (∀ W, Below w1.heap.size w1 W → (convert 22 9 (.slice A 5 cap)).run Tryd.prog W = .ok (.string ⟨#[97, 88, 89, 99, 100]⟩) W) := fun W hW => by
    have h := conv_bytes (hy1.below hW (Nat.le_refl _)) 5 cap rfl
    rwa [ex_str] at h
  have hs1 : w.heap.size + 2 ≤ w1.heap.size := by rw [HS.out]; exact hw1.size
  clear hw1 hy1 HAp
  go_wp2_with fail
  refine (HMap.out 2 3 true _ T1.out (by omega) (by omega) ex_map2).mono ?_
  rintro e w2 ⟨rfl, hw2⟩
  have T2 : Hid (Below (w.heap.size + 2) _ w2) := T1.out.trans (hw2.mono hs1)
  have U2 := Lib.hid hw2
  clear hw2
  go_wp2_with fail
  refine (HMap.out 1 1 false _ T2.out (by omega) (by omega) ex_map1).mono ?_
  rintro e w3 ⟨rfl, hw3⟩
  have T3 : Hid (Below (w.heap.size + 2) _ w3) := T2.out.trans (hw3.mono (Nat.le_trans hs1 U2.out.size))
  have U3 : Hid (Below w1.heap.size w1 w3) := U2.out.trans (hw3.mono U2.out.size)
  clear hw3
  go_wp2_with fail
  refine (HBk.out 3 2 true _ T3.out (by omega) (by omega) ex_back).mono ?_
  rintro e w4 ⟨rfl, hw4⟩
  have T4 : Hid (Below (w.heap.size + 2) _ w4) := T3.out.trans (hw4.mono (Nat.le_trans hs1 U3.out.size))
  have U4 : Hid (Below w1.heap.size w1 w4) := U3.out.trans (hw4.mono U3.out.size)
  have hc4 := hcv.out w4 U4.out
  clear hw4
  go_wp2_with fail
  go_ret
  exact ⟨rfl, B2.out.trans (T4.out.mono (by omega))⟩
end Go.Proofs.YtmkpomnhmepmcaaDoor
