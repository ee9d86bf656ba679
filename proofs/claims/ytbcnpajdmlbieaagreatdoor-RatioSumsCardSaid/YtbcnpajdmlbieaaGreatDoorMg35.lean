/-
  Stage 8: the law RatioSums.
-/
import Derived.Test.YtbcnpajdmlbieaaGreatDoorMg34

namespace Go.Proofs.YtbcnpajdmlbieaaGreatDoor
open Go.RowKit Go.Sort
set_option linter.unusedSimpArgs false

theorem row4_0 {Z0 Z1 Z2 Z3 : Bool} {N0 D0 N1 D1 N2 D2 N3 D3 : Nat} {j : Nat} {v : Value} (hv : [.bool Z0, .int .u64 (wd N0 0 : Int), .int .u64 (wd N0 1 : Int), .int .u64 (wd N0 2 : Int), .int .u64 (wd N0 3 : Int), .int .u64 (wd N0 4 : Int), .int .u64 (wd N0 5 : Int), .int .u64 (wd N0 6 : Int), .int .u64 (wd N0 7 : Int), .bool false, .int .u64 (wd D0 0 : Int), .int .u64 (wd D0 1 : Int), .int .u64 (wd D0 2 : Int), .int .u64 (wd D0 3 : Int), .int .u64 (wd D0 4 : Int), .int .u64 (wd D0 5 : Int), .int .u64 (wd D0 6 : Int), .int .u64 (wd D0 7 : Int)][j]? = some v) : (Value.bool Z0 :: [Value.int .u64 (wd N0 0 : Int), Value.int .u64 (wd N0 1 : Int), Value.int .u64 (wd N0 2 : Int), Value.int .u64 (wd N0 3 : Int), Value.int .u64 (wd N0 4 : Int), Value.int .u64 (wd N0 5 : Int), Value.int .u64 (wd N0 6 : Int), Value.int .u64 (wd N0 7 : Int), Value.bool false, Value.int .u64 (wd D0 0 : Int), Value.int .u64 (wd D0 1 : Int), Value.int .u64 (wd D0 2 : Int), Value.int .u64 (wd D0 3 : Int), Value.int .u64 (wd D0 4 : Int), Value.int .u64 (wd D0 5 : Int), Value.int .u64 (wd D0 6 : Int), Value.int .u64 (wd D0 7 : Int), Value.bool Z1, Value.int .u64 (wd N1 0 : Int), Value.int .u64 (wd N1 1 : Int), Value.int .u64 (wd N1 2 : Int), Value.int .u64 (wd N1 3 : Int), Value.int .u64 (wd N1 4 : Int), Value.int .u64 (wd N1 5 : Int), Value.int .u64 (wd N1 6 : Int), Value.int .u64 (wd N1 7 : Int), Value.bool false, Value.int .u64 (wd D1 0 : Int), Value.int .u64 (wd D1 1 : Int), Value.int .u64 (wd D1 2 : Int), Value.int .u64 (wd D1 3 : Int), Value.int .u64 (wd D1 4 : Int), Value.int .u64 (wd D1 5 : Int), Value.int .u64 (wd D1 6 : Int), Value.int .u64 (wd D1 7 : Int), Value.bool Z2, Value.int .u64 (wd N2 0 : Int), Value.int .u64 (wd N2 1 : Int), Value.int .u64 (wd N2 2 : Int), Value.int .u64 (wd N2 3 : Int), Value.int .u64 (wd N2 4 : Int), Value.int .u64 (wd N2 5 : Int), Value.int .u64 (wd N2 6 : Int), Value.int .u64 (wd N2 7 : Int), Value.bool false, Value.int .u64 (wd D2 0 : Int), Value.int .u64 (wd D2 1 : Int), Value.int .u64 (wd D2 2 : Int), Value.int .u64 (wd D2 3 : Int), Value.int .u64 (wd D2 4 : Int), Value.int .u64 (wd D2 5 : Int), Value.int .u64 (wd D2 6 : Int), Value.int .u64 (wd D2 7 : Int), Value.bool Z3, Value.int .u64 (wd N3 0 : Int), Value.int .u64 (wd N3 1 : Int), Value.int .u64 (wd N3 2 : Int), Value.int .u64 (wd N3 3 : Int), Value.int .u64 (wd N3 4 : Int), Value.int .u64 (wd N3 5 : Int), Value.int .u64 (wd N3 6 : Int), Value.int .u64 (wd N3 7 : Int), Value.bool false, Value.int .u64 (wd D3 0 : Int), Value.int .u64 (wd D3 1 : Int), Value.int .u64 (wd D3 2 : Int), Value.int .u64 (wd D3 3 : Int), Value.int .u64 (wd D3 4 : Int), Value.int .u64 (wd D3 5 : Int), Value.int .u64 (wd D3 6 : Int), Value.int .u64 (wd D3 7 : Int)])[0 + j]? = some v := by
  have hj : j < 18 := by have := (List.getElem?_eq_some_iff.1 hv).1; simpa using this
  rcases j with _ | _ | _ | _ | _ | _ | _ | _ | _ | _ | _ | _ | _ | _ | _ | _ | _ | _ | j
  all_goals first | exact hv | omega
theorem row4_1 {Z0 Z1 Z2 Z3 : Bool} {N0 D0 N1 D1 N2 D2 N3 D3 : Nat} {j : Nat} {v : Value} (hv : [.bool Z1, .int .u64 (wd N1 0 : Int), .int .u64 (wd N1 1 : Int), .int .u64 (wd N1 2 : Int), .int .u64 (wd N1 3 : Int), .int .u64 (wd N1 4 : Int), .int .u64 (wd N1 5 : Int), .int .u64 (wd N1 6 : Int), .int .u64 (wd N1 7 : Int), .bool false, .int .u64 (wd D1 0 : Int), .int .u64 (wd D1 1 : Int), .int .u64 (wd D1 2 : Int), .int .u64 (wd D1 3 : Int), .int .u64 (wd D1 4 : Int), .int .u64 (wd D1 5 : Int), .int .u64 (wd D1 6 : Int), .int .u64 (wd D1 7 : Int)][j]? = some v) : (Value.bool Z0 :: [Value.int .u64 (wd N0 0 : Int), Value.int .u64 (wd N0 1 : Int), Value.int .u64 (wd N0 2 : Int), Value.int .u64 (wd N0 3 : Int), Value.int .u64 (wd N0 4 : Int), Value.int .u64 (wd N0 5 : Int), Value.int .u64 (wd N0 6 : Int), Value.int .u64 (wd N0 7 : Int), Value.bool false, Value.int .u64 (wd D0 0 : Int), Value.int .u64 (wd D0 1 : Int), Value.int .u64 (wd D0 2 : Int), Value.int .u64 (wd D0 3 : Int), Value.int .u64 (wd D0 4 : Int), Value.int .u64 (wd D0 5 : Int), Value.int .u64 (wd D0 6 : Int), Value.int .u64 (wd D0 7 : Int), Value.bool Z1, Value.int .u64 (wd N1 0 : Int), Value.int .u64 (wd N1 1 : Int), Value.int .u64 (wd N1 2 : Int), Value.int .u64 (wd N1 3 : Int), Value.int .u64 (wd N1 4 : Int), Value.int .u64 (wd N1 5 : Int), Value.int .u64 (wd N1 6 : Int), Value.int .u64 (wd N1 7 : Int), Value.bool false, Value.int .u64 (wd D1 0 : Int), Value.int .u64 (wd D1 1 : Int), Value.int .u64 (wd D1 2 : Int), Value.int .u64 (wd D1 3 : Int), Value.int .u64 (wd D1 4 : Int), Value.int .u64 (wd D1 5 : Int), Value.int .u64 (wd D1 6 : Int), Value.int .u64 (wd D1 7 : Int), Value.bool Z2, Value.int .u64 (wd N2 0 : Int), Value.int .u64 (wd N2 1 : Int), Value.int .u64 (wd N2 2 : Int), Value.int .u64 (wd N2 3 : Int), Value.int .u64 (wd N2 4 : Int), Value.int .u64 (wd N2 5 : Int), Value.int .u64 (wd N2 6 : Int), Value.int .u64 (wd N2 7 : Int), Value.bool false, Value.int .u64 (wd D2 0 : Int), Value.int .u64 (wd D2 1 : Int), Value.int .u64 (wd D2 2 : Int), Value.int .u64 (wd D2 3 : Int), Value.int .u64 (wd D2 4 : Int), Value.int .u64 (wd D2 5 : Int), Value.int .u64 (wd D2 6 : Int), Value.int .u64 (wd D2 7 : Int), Value.bool Z3, Value.int .u64 (wd N3 0 : Int), Value.int .u64 (wd N3 1 : Int), Value.int .u64 (wd N3 2 : Int), Value.int .u64 (wd N3 3 : Int), Value.int .u64 (wd N3 4 : Int), Value.int .u64 (wd N3 5 : Int), Value.int .u64 (wd N3 6 : Int), Value.int .u64 (wd N3 7 : Int), Value.bool false, Value.int .u64 (wd D3 0 : Int), Value.int .u64 (wd D3 1 : Int), Value.int .u64 (wd D3 2 : Int), Value.int .u64 (wd D3 3 : Int), Value.int .u64 (wd D3 4 : Int), Value.int .u64 (wd D3 5 : Int), Value.int .u64 (wd D3 6 : Int), Value.int .u64 (wd D3 7 : Int)])[18 + j]? = some v := by
  have hj : j < 18 := by have := (List.getElem?_eq_some_iff.1 hv).1; simpa using this
  rcases j with _ | _ | _ | _ | _ | _ | _ | _ | _ | _ | _ | _ | _ | _ | _ | _ | _ | _ | j
  all_goals first | exact hv | omega
theorem row4_2 {Z0 Z1 Z2 Z3 : Bool} {N0 D0 N1 D1 N2 D2 N3 D3 : Nat} {j : Nat} {v : Value} (hv : [.bool Z2, .int .u64 (wd N2 0 : Int), .int .u64 (wd N2 1 : Int), .int .u64 (wd N2 2 : Int), .int .u64 (wd N2 3 : Int), .int .u64 (wd N2 4 : Int), .int .u64 (wd N2 5 : Int), .int .u64 (wd N2 6 : Int), .int .u64 (wd N2 7 : Int), .bool false, .int .u64 (wd D2 0 : Int), .int .u64 (wd D2 1 : Int), .int .u64 (wd D2 2 : Int), .int .u64 (wd D2 3 : Int), .int .u64 (wd D2 4 : Int), .int .u64 (wd D2 5 : Int), .int .u64 (wd D2 6 : Int), .int .u64 (wd D2 7 : Int)][j]? = some v) : (Value.bool Z0 :: [Value.int .u64 (wd N0 0 : Int), Value.int .u64 (wd N0 1 : Int), Value.int .u64 (wd N0 2 : Int), Value.int .u64 (wd N0 3 : Int), Value.int .u64 (wd N0 4 : Int), Value.int .u64 (wd N0 5 : Int), Value.int .u64 (wd N0 6 : Int), Value.int .u64 (wd N0 7 : Int), Value.bool false, Value.int .u64 (wd D0 0 : Int), Value.int .u64 (wd D0 1 : Int), Value.int .u64 (wd D0 2 : Int), Value.int .u64 (wd D0 3 : Int), Value.int .u64 (wd D0 4 : Int), Value.int .u64 (wd D0 5 : Int), Value.int .u64 (wd D0 6 : Int), Value.int .u64 (wd D0 7 : Int), Value.bool Z1, Value.int .u64 (wd N1 0 : Int), Value.int .u64 (wd N1 1 : Int), Value.int .u64 (wd N1 2 : Int), Value.int .u64 (wd N1 3 : Int), Value.int .u64 (wd N1 4 : Int), Value.int .u64 (wd N1 5 : Int), Value.int .u64 (wd N1 6 : Int), Value.int .u64 (wd N1 7 : Int), Value.bool false, Value.int .u64 (wd D1 0 : Int), Value.int .u64 (wd D1 1 : Int), Value.int .u64 (wd D1 2 : Int), Value.int .u64 (wd D1 3 : Int), Value.int .u64 (wd D1 4 : Int), Value.int .u64 (wd D1 5 : Int), Value.int .u64 (wd D1 6 : Int), Value.int .u64 (wd D1 7 : Int), Value.bool Z2, Value.int .u64 (wd N2 0 : Int), Value.int .u64 (wd N2 1 : Int), Value.int .u64 (wd N2 2 : Int), Value.int .u64 (wd N2 3 : Int), Value.int .u64 (wd N2 4 : Int), Value.int .u64 (wd N2 5 : Int), Value.int .u64 (wd N2 6 : Int), Value.int .u64 (wd N2 7 : Int), Value.bool false, Value.int .u64 (wd D2 0 : Int), Value.int .u64 (wd D2 1 : Int), Value.int .u64 (wd D2 2 : Int), Value.int .u64 (wd D2 3 : Int), Value.int .u64 (wd D2 4 : Int), Value.int .u64 (wd D2 5 : Int), Value.int .u64 (wd D2 6 : Int), Value.int .u64 (wd D2 7 : Int), Value.bool Z3, Value.int .u64 (wd N3 0 : Int), Value.int .u64 (wd N3 1 : Int), Value.int .u64 (wd N3 2 : Int), Value.int .u64 (wd N3 3 : Int), Value.int .u64 (wd N3 4 : Int), Value.int .u64 (wd N3 5 : Int), Value.int .u64 (wd N3 6 : Int), Value.int .u64 (wd N3 7 : Int), Value.bool false, Value.int .u64 (wd D3 0 : Int), Value.int .u64 (wd D3 1 : Int), Value.int .u64 (wd D3 2 : Int), Value.int .u64 (wd D3 3 : Int), Value.int .u64 (wd D3 4 : Int), Value.int .u64 (wd D3 5 : Int), Value.int .u64 (wd D3 6 : Int), Value.int .u64 (wd D3 7 : Int)])[36 + j]? = some v := by
  have hj : j < 18 := by have := (List.getElem?_eq_some_iff.1 hv).1; simpa using this
  rcases j with _ | _ | _ | _ | _ | _ | _ | _ | _ | _ | _ | _ | _ | _ | _ | _ | _ | _ | j
  all_goals first | exact hv | omega
theorem row4_3 {Z0 Z1 Z2 Z3 : Bool} {N0 D0 N1 D1 N2 D2 N3 D3 : Nat} {j : Nat} {v : Value} (hv : [.bool Z3, .int .u64 (wd N3 0 : Int), .int .u64 (wd N3 1 : Int), .int .u64 (wd N3 2 : Int), .int .u64 (wd N3 3 : Int), .int .u64 (wd N3 4 : Int), .int .u64 (wd N3 5 : Int), .int .u64 (wd N3 6 : Int), .int .u64 (wd N3 7 : Int), .bool false, .int .u64 (wd D3 0 : Int), .int .u64 (wd D3 1 : Int), .int .u64 (wd D3 2 : Int), .int .u64 (wd D3 3 : Int), .int .u64 (wd D3 4 : Int), .int .u64 (wd D3 5 : Int), .int .u64 (wd D3 6 : Int), .int .u64 (wd D3 7 : Int)][j]? = some v) : (Value.bool Z0 :: [Value.int .u64 (wd N0 0 : Int), Value.int .u64 (wd N0 1 : Int), Value.int .u64 (wd N0 2 : Int), Value.int .u64 (wd N0 3 : Int), Value.int .u64 (wd N0 4 : Int), Value.int .u64 (wd N0 5 : Int), Value.int .u64 (wd N0 6 : Int), Value.int .u64 (wd N0 7 : Int), Value.bool false, Value.int .u64 (wd D0 0 : Int), Value.int .u64 (wd D0 1 : Int), Value.int .u64 (wd D0 2 : Int), Value.int .u64 (wd D0 3 : Int), Value.int .u64 (wd D0 4 : Int), Value.int .u64 (wd D0 5 : Int), Value.int .u64 (wd D0 6 : Int), Value.int .u64 (wd D0 7 : Int), Value.bool Z1, Value.int .u64 (wd N1 0 : Int), Value.int .u64 (wd N1 1 : Int), Value.int .u64 (wd N1 2 : Int), Value.int .u64 (wd N1 3 : Int), Value.int .u64 (wd N1 4 : Int), Value.int .u64 (wd N1 5 : Int), Value.int .u64 (wd N1 6 : Int), Value.int .u64 (wd N1 7 : Int), Value.bool false, Value.int .u64 (wd D1 0 : Int), Value.int .u64 (wd D1 1 : Int), Value.int .u64 (wd D1 2 : Int), Value.int .u64 (wd D1 3 : Int), Value.int .u64 (wd D1 4 : Int), Value.int .u64 (wd D1 5 : Int), Value.int .u64 (wd D1 6 : Int), Value.int .u64 (wd D1 7 : Int), Value.bool Z2, Value.int .u64 (wd N2 0 : Int), Value.int .u64 (wd N2 1 : Int), Value.int .u64 (wd N2 2 : Int), Value.int .u64 (wd N2 3 : Int), Value.int .u64 (wd N2 4 : Int), Value.int .u64 (wd N2 5 : Int), Value.int .u64 (wd N2 6 : Int), Value.int .u64 (wd N2 7 : Int), Value.bool false, Value.int .u64 (wd D2 0 : Int), Value.int .u64 (wd D2 1 : Int), Value.int .u64 (wd D2 2 : Int), Value.int .u64 (wd D2 3 : Int), Value.int .u64 (wd D2 4 : Int), Value.int .u64 (wd D2 5 : Int), Value.int .u64 (wd D2 6 : Int), Value.int .u64 (wd D2 7 : Int), Value.bool Z3, Value.int .u64 (wd N3 0 : Int), Value.int .u64 (wd N3 1 : Int), Value.int .u64 (wd N3 2 : Int), Value.int .u64 (wd N3 3 : Int), Value.int .u64 (wd N3 4 : Int), Value.int .u64 (wd N3 5 : Int), Value.int .u64 (wd N3 6 : Int), Value.int .u64 (wd N3 7 : Int), Value.bool false, Value.int .u64 (wd D3 0 : Int), Value.int .u64 (wd D3 1 : Int), Value.int .u64 (wd D3 2 : Int), Value.int .u64 (wd D3 3 : Int), Value.int .u64 (wd D3 4 : Int), Value.int .u64 (wd D3 5 : Int), Value.int .u64 (wd D3 6 : Int), Value.int .u64 (wd D3 7 : Int)])[54 + j]? = some v := by
  have hj : j < 18 := by have := (List.getElem?_eq_some_iff.1 hv).1; simpa using this
  rcases j with _ | _ | _ | _ | _ | _ | _ | _ | _ | _ | _ | _ | _ | _ | _ | _ | _ | _ | j
  all_goals first | exact hv | omega
set_option maxRecDepth 100000 in
set_option maxHeartbeats 16000000 in
theorem sums_run (s : Bool) (n : Nat) (t : Bool) (d : Nat) (s' : Bool) (n' : Nat) (t' : Bool) (d' : Nat) (w : World) (hn : Hid (Fits n)) (hd : Hid (Fits d)) (hn' : Hid (Fits n')) (hd' : Hid (Fits d')) :
    Calls Tryz.prog 4 #[ratV s n t d, ratV s' n' t' d'] w fun e w' => e = .returned (.bool true) ∧ Below w.heap.size w w' := by
  obtain ⟨S, hS⟩ : ∃ S, w.heap.size = S := ⟨_, rfl⟩
  obtain ⟨W0, hW0⟩ : ∃ W, (w.alloc (boxR s n t d 27)).alloc (boxR s' n' t' d' 27) = W := ⟨_, rfl⟩
  have I := ((Bs.start w hS).pushRat hS s n t d 27).pushRat (k := S + 1) (by simp [hS]) s' n' t' d' 27
  rw [hW0] at I
  replace I := Lib.hid I
  have HP0 : Hid (∀ W, Calls Tryz.prog 20 #[ratV s n t d, ratV s' n' t' d'] W fun e w' => e = .returned (.tuple #[ratV (plS s n t d s' n' t' d') (plN s n t d s' n' t' d') false (plD s n t d s' n' t' d'), errV (plK s n t d s' n' t' d')]) ∧ Below W.heap.size W w') := fun W => by
    have := RAdd_run s n t d s' n' t' d' W hn hd hn' hd'
    rwa [addV_eq] at this
  have HD0 : Hid (∀ W, Calls Tryz.prog 24 #[ratV s n t d, ratV s' n' t' d', .int .i64 0] W fun e w' => e = .returned (.tuple #[ratV (plS s n t d s' n' t' d') (plN s n t d s' n' t' d') false (plD s n t d s' n' t' d'), .int .i64 ((plK s n t d s' n' t' d' : Nat) : Int)]) ∧ Below W.heap.size W w') := fun W =>
    Do_run0 s n t d s' n' t' d' _ _ _ _ W hn hd hn' hd' (is_pl s n t d s' n' t' d')
  have HE0 : Hid (∀ W, Calls Tryz.prog 14 #[errV (plK s n t d s' n' t' d')] W fun e w' => e = .returned (.int .i64 ((plK s n t d s' n' t' d' : Nat) : Int)) ∧ Below W.heap.size W w') := fun W => code_errV _ (is_pl s n t d s' n' t' d').le W
  have HF0 := Lib.hid (pl_fits s n t d s' n' t' d')
  generalize plS s n t d s' n' t' d' = Z0 at *
  generalize plN s n t d s' n' t' d' = N0 at *
  generalize plD s n t d s' n' t' d' = D0 at *
  generalize plK s n t d s' n' t' d' = K0 at *
  have HP1 : Hid (∀ W, Calls Tryz.prog 21 #[ratV s n t d, ratV s' n' t' d'] W fun e w' => e = .returned (.tuple #[ratV (miS s n t d s' n' t' d') (miN s n t d s' n' t' d') false (miD s n t d s' n' t' d'), errV (miK s n t d s' n' t' d')]) ∧ Below W.heap.size W w') := fun W => by
    have := RSub_run s n t d s' n' t' d' W hn hd hn' hd'
    rwa [subV_eq] at this
  have HD1 : Hid (∀ W, Calls Tryz.prog 24 #[ratV s n t d, ratV s' n' t' d', .int .i64 1] W fun e w' => e = .returned (.tuple #[ratV (miS s n t d s' n' t' d') (miN s n t d s' n' t' d') false (miD s n t d s' n' t' d'), .int .i64 ((miK s n t d s' n' t' d' : Nat) : Int)]) ∧ Below W.heap.size W w') := fun W =>
    Do_run1 s n t d s' n' t' d' _ _ _ _ W hn hd hn' hd' (is_mi s n t d s' n' t' d')
  have HE1 : Hid (∀ W, Calls Tryz.prog 14 #[errV (miK s n t d s' n' t' d')] W fun e w' => e = .returned (.int .i64 ((miK s n t d s' n' t' d' : Nat) : Int)) ∧ Below W.heap.size W w') := fun W => code_errV _ (is_mi s n t d s' n' t' d').le W
  have HF1 := Lib.hid (mi_fits s n t d s' n' t' d')
  generalize miS s n t d s' n' t' d' = Z1 at *
  generalize miN s n t d s' n' t' d' = N1 at *
  generalize miD s n t d s' n' t' d' = D1 at *
  generalize miK s n t d s' n' t' d' = K1 at *
  have HP2 : Hid (∀ W, Calls Tryz.prog 22 #[ratV s n t d, ratV s' n' t' d'] W fun e w' => e = .returned (.tuple #[ratV (muS s n t d s' n' t' d') (muN s n t d s' n' t' d') false (muD s n t d s' n' t' d'), errV (muK s n t d s' n' t' d')]) ∧ Below W.heap.size W w') := fun W => by
    have := RMul_run s n t d s' n' t' d' W hn hd hn' hd'
    rwa [mulV_eq] at this
  have HD2 : Hid (∀ W, Calls Tryz.prog 24 #[ratV s n t d, ratV s' n' t' d', .int .i64 2] W fun e w' => e = .returned (.tuple #[ratV (muS s n t d s' n' t' d') (muN s n t d s' n' t' d') false (muD s n t d s' n' t' d'), .int .i64 ((muK s n t d s' n' t' d' : Nat) : Int)]) ∧ Below W.heap.size W w') := fun W =>
    Do_run2 s n t d s' n' t' d' _ _ _ _ W hn hd hn' hd' (is_mu s n t d s' n' t' d')
  have HE2 : Hid (∀ W, Calls Tryz.prog 14 #[errV (muK s n t d s' n' t' d')] W fun e w' => e = .returned (.int .i64 ((muK s n t d s' n' t' d' : Nat) : Int)) ∧ Below W.heap.size W w') := fun W => code_errV _ (is_mu s n t d s' n' t' d').le W
  have HF2 := Lib.hid (mu_fits s n t d s' n' t' d')
  generalize muS s n t d s' n' t' d' = Z2 at *
  generalize muN s n t d s' n' t' d' = N2 at *
  generalize muD s n t d s' n' t' d' = D2 at *
  generalize muK s n t d s' n' t' d' = K2 at *
  have HP3 : Hid (∀ W, Calls Tryz.prog 23 #[ratV s n t d, ratV s' n' t' d'] W fun e w' => e = .returned (.tuple #[ratV (quS s n t d s' n' t' d') (quN s n t d s' n' t' d') false (quD s n t d s' n' t' d'), errV (quK s n t d s' n' t' d')]) ∧ Below W.heap.size W w') := fun W => by
    have := RQuo_run s n t d s' n' t' d' W hn hd hn' hd'
    rwa [quoV_eq] at this
  have HD3 : Hid (∀ W, Calls Tryz.prog 24 #[ratV s n t d, ratV s' n' t' d', .int .i64 3] W fun e w' => e = .returned (.tuple #[ratV (quS s n t d s' n' t' d') (quN s n t d s' n' t' d') false (quD s n t d s' n' t' d'), .int .i64 ((quK s n t d s' n' t' d' : Nat) : Int)]) ∧ Below W.heap.size W w') := fun W =>
    Do_run3 s n t d s' n' t' d' _ _ _ _ W hn hd hn' hd' (is_qu s n t d s' n' t' d')
  have HE3 : Hid (∀ W, Calls Tryz.prog 14 #[errV (quK s n t d s' n' t' d')] W fun e w' => e = .returned (.int .i64 ((quK s n t d s' n' t' d' : Nat) : Int)) ∧ Below W.heap.size W w') := fun W => code_errV _ (is_qu s n t d s' n' t' d').le W
  have HF3 := Lib.hid (qu_fits s n t d s' n' t' d')
  generalize quS s n t d s' n' t' d' = Z3 at *
  generalize quN s n t d s' n' t' d' = N3 at *
  generalize quD s n t d s' n' t' d' = D3 at *
  generalize quK s n t d s' n' t' d' = K3 at *
  have HP4 := Lib.hid (fun W => RCmp_run s n t d s' n' t' d' W hn hd hn' hd')
  have HD4 := Lib.hid (fun W => Cmp_run8 s n t d s' n' t' d' _ _ W hn hd hn' hd' (is_cmp s n t d s' n' t' d'))
  have HE4 := Lib.hid (fun W => code_errV _ (is_cmp s n t d s' n' t' d').le W)
  generalize rcmpZ s n t d s' n' t' d' = C4 at *
  generalize rcmpK s n t d s' n' t' d' = K4 at *
  have HW := Lib.hid (fun W => works_run W)
  clear hn hd hn' hd'
  rw [hS]
  go_enter Tryz.func4, Tryz.ntmps4
  have HRa := Lib.hid (I.out.rat 1 rfl)
  have HRb := Lib.hid (I.out.rat 0 rfl)
  go_wp2_with (first | (with_reducible refine wpList_box_rat rfl (.tmp 0) rfl rfl ?_) | (with_reducible refine wpList_box_rat rfl (.tmp 1) rfl rfl ?_) | (with_reducible refine wpList_load_rat rfl (.tmp 2) rfl rfl HRa.out ?_) | (with_reducible refine wpList_load_rat rfl (.tmp 3) rfl rfl HRb.out ?_))
  refine (HP0.out _).mono ?_
  rintro e w0 ⟨rfl, hw⟩
  replace I := Lib.hid (I.out.below hw)
  clear hw HRa HRb HP0 hW0
  obtain ⟨B0, hB0⟩ : ∃ K, w0.heap.size = K := ⟨_, rfl⟩
  obtain ⟨a0, ha0⟩ : ∃ W, w0.alloc (boxRZ 27) = W := ⟨_, rfl⟩
  have I2 := I.out.pushRatZ hB0 27
  rw [ha0] at I2
  have HZ := Lib.hid (I2.rat 0 rfl)
  have I3 := Lib.hid (I2.putRat 0 rfl Z0 N0 false D0 rfl)
  clear I2 I
  go_upto_region 2 with (with_reducible refine wpList_store_rat rfl (.tmp 5) (.tmp 25) rfl (b := B0) (s := Z0) (n := N0) (t := false) (d := D0) rfl rfl HZ.out ?_)
  clear ha0 HZ hB0
  generalize st18 a0 B0 Z0 N0 false D0 = x0 at *
  have I := I3
  clear I3
  have HRa := Lib.hid (I.out.rat 2 rfl)
  have HRb := Lib.hid (I.out.rat 1 rfl)
  go_wp2_with (first | (with_reducible refine wpList_load_rat rfl (.tmp 2) rfl rfl HRa.out ?_) | (with_reducible refine wpList_load_rat rfl (.tmp 3) rfl rfl HRb.out ?_))
  refine (HP1.out _).mono ?_
  rintro e w1 ⟨rfl, hw⟩
  replace I := Lib.hid (I.out.below hw)
  clear hw HRa HRb HP1
  obtain ⟨B1, hB1⟩ : ∃ K, w1.heap.size = K := ⟨_, rfl⟩
  obtain ⟨a1, ha1⟩ : ∃ W, w1.alloc (boxRZ 27) = W := ⟨_, rfl⟩
  have I2 := I.out.pushRatZ hB1 27
  rw [ha1] at I2
  have HZ := Lib.hid (I2.rat 0 rfl)
  have I3 := Lib.hid (I2.putRat 0 rfl Z1 N1 false D1 rfl)
  clear I2 I
  go_upto_region 3 with (with_reducible refine wpList_store_rat rfl (.tmp 7) (.tmp 31) rfl (b := B1) (s := Z1) (n := N1) (t := false) (d := D1) rfl rfl HZ.out ?_)
  clear ha1 HZ hB1
  generalize st18 a1 B1 Z1 N1 false D1 = x1 at *
  have I := I3
  clear I3
  have HRa := Lib.hid (I.out.rat 3 rfl)
  have HRb := Lib.hid (I.out.rat 2 rfl)
  go_wp2_with (first | (with_reducible refine wpList_load_rat rfl (.tmp 2) rfl rfl HRa.out ?_) | (with_reducible refine wpList_load_rat rfl (.tmp 3) rfl rfl HRb.out ?_))
  refine (HP2.out _).mono ?_
  rintro e w2 ⟨rfl, hw⟩
  replace I := Lib.hid (I.out.below hw)
  clear hw HRa HRb HP2
  obtain ⟨B2, hB2⟩ : ∃ K, w2.heap.size = K := ⟨_, rfl⟩
  obtain ⟨a2, ha2⟩ : ∃ W, w2.alloc (boxRZ 27) = W := ⟨_, rfl⟩
  have I2 := I.out.pushRatZ hB2 27
  rw [ha2] at I2
  have HZ := Lib.hid (I2.rat 0 rfl)
  have I3 := Lib.hid (I2.putRat 0 rfl Z2 N2 false D2 rfl)
  clear I2 I
  go_upto_region 4 with (with_reducible refine wpList_store_rat rfl (.tmp 9) (.tmp 37) rfl (b := B2) (s := Z2) (n := N2) (t := false) (d := D2) rfl rfl HZ.out ?_)
  clear ha2 HZ hB2
  generalize st18 a2 B2 Z2 N2 false D2 = x2 at *
  have I := I3
  clear I3
  have HRa := Lib.hid (I.out.rat 4 rfl)
  have HRb := Lib.hid (I.out.rat 3 rfl)
  go_wp2_with (first | (with_reducible refine wpList_load_rat rfl (.tmp 2) rfl rfl HRa.out ?_) | (with_reducible refine wpList_load_rat rfl (.tmp 3) rfl rfl HRb.out ?_))
  refine (HP3.out _).mono ?_
  rintro e w3 ⟨rfl, hw⟩
  replace I := Lib.hid (I.out.below hw)
  clear hw HRa HRb HP3
  obtain ⟨B3, hB3⟩ : ∃ K, w3.heap.size = K := ⟨_, rfl⟩
  obtain ⟨a3, ha3⟩ : ∃ W, w3.alloc (boxRZ 27) = W := ⟨_, rfl⟩
  have I2 := I.out.pushRatZ hB3 27
  rw [ha3] at I2
  have HZ := Lib.hid (I2.rat 0 rfl)
  have I3 := Lib.hid (I2.putRat 0 rfl Z3 N3 false D3 rfl)
  clear I2 I
  go_upto_region 5 with (with_reducible refine wpList_store_rat rfl (.tmp 11) (.tmp 43) rfl (b := B3) (s := Z3) (n := N3) (t := false) (d := D3) rfl rfl HZ.out ?_)
  clear ha3 HZ hB3
  generalize st18 a3 B3 Z3 N3 false D3 = x3 at *
  have I := I3
  clear I3
  have H0 := Lib.hid (I.out.rat 3 rfl)
  have H1 := Lib.hid (I.out.rat 2 rfl)
  have H2 := Lib.hid (I.out.rat 1 rfl)
  have H3 := Lib.hid (I.out.rat 0 rfl)
  obtain ⟨B4, hB4⟩ : ∃ K, x3.heap.size = K := ⟨_, rfl⟩
  obtain ⟨x4, hx4⟩ : ∃ W, x3.alloc (.cells #[.bool Z0, .int .u64 (wd N0 0 : Int), .int .u64 (wd N0 1 : Int), .int .u64 (wd N0 2 : Int), .int .u64 (wd N0 3 : Int), .int .u64 (wd N0 4 : Int), .int .u64 (wd N0 5 : Int), .int .u64 (wd N0 6 : Int), .int .u64 (wd N0 7 : Int), .bool false, .int .u64 (wd D0 0 : Int), .int .u64 (wd D0 1 : Int), .int .u64 (wd D0 2 : Int), .int .u64 (wd D0 3 : Int), .int .u64 (wd D0 4 : Int), .int .u64 (wd D0 5 : Int), .int .u64 (wd D0 6 : Int), .int .u64 (wd D0 7 : Int), .bool Z1, .int .u64 (wd N1 0 : Int), .int .u64 (wd N1 1 : Int), .int .u64 (wd N1 2 : Int), .int .u64 (wd N1 3 : Int), .int .u64 (wd N1 4 : Int), .int .u64 (wd N1 5 : Int), .int .u64 (wd N1 6 : Int), .int .u64 (wd N1 7 : Int), .bool false, .int .u64 (wd D1 0 : Int), .int .u64 (wd D1 1 : Int), .int .u64 (wd D1 2 : Int), .int .u64 (wd D1 3 : Int), .int .u64 (wd D1 4 : Int), .int .u64 (wd D1 5 : Int), .int .u64 (wd D1 6 : Int), .int .u64 (wd D1 7 : Int), .bool Z2, .int .u64 (wd N2 0 : Int), .int .u64 (wd N2 1 : Int), .int .u64 (wd N2 2 : Int), .int .u64 (wd N2 3 : Int), .int .u64 (wd N2 4 : Int), .int .u64 (wd N2 5 : Int), .int .u64 (wd N2 6 : Int), .int .u64 (wd N2 7 : Int), .bool false, .int .u64 (wd D2 0 : Int), .int .u64 (wd D2 1 : Int), .int .u64 (wd D2 2 : Int), .int .u64 (wd D2 3 : Int), .int .u64 (wd D2 4 : Int), .int .u64 (wd D2 5 : Int), .int .u64 (wd D2 6 : Int), .int .u64 (wd D2 7 : Int), .bool Z3, .int .u64 (wd N3 0 : Int), .int .u64 (wd N3 1 : Int), .int .u64 (wd N3 2 : Int), .int .u64 (wd N3 3 : Int), .int .u64 (wd N3 4 : Int), .int .u64 (wd N3 5 : Int), .int .u64 (wd N3 6 : Int), .int .u64 (wd N3 7 : Int), .bool false, .int .u64 (wd D3 0 : Int), .int .u64 (wd D3 1 : Int), .int .u64 (wd D3 2 : Int), .int .u64 (wd D3 3 : Int), .int .u64 (wd D3 4 : Int), .int .u64 (wd D3 5 : Int), .int .u64 (wd D3 6 : Int), .int .u64 (wd D3 7 : Int)] 27) = W := ⟨_, rfl⟩
  have I2 := I.out.pushRow hB4 (.bool Z0) [Value.int .u64 (wd N0 0 : Int), Value.int .u64 (wd N0 1 : Int), Value.int .u64 (wd N0 2 : Int), Value.int .u64 (wd N0 3 : Int), Value.int .u64 (wd N0 4 : Int), Value.int .u64 (wd N0 5 : Int), Value.int .u64 (wd N0 6 : Int), Value.int .u64 (wd N0 7 : Int), Value.bool false, Value.int .u64 (wd D0 0 : Int), Value.int .u64 (wd D0 1 : Int), Value.int .u64 (wd D0 2 : Int), Value.int .u64 (wd D0 3 : Int), Value.int .u64 (wd D0 4 : Int), Value.int .u64 (wd D0 5 : Int), Value.int .u64 (wd D0 6 : Int), Value.int .u64 (wd D0 7 : Int), Value.bool Z1, Value.int .u64 (wd N1 0 : Int), Value.int .u64 (wd N1 1 : Int), Value.int .u64 (wd N1 2 : Int), Value.int .u64 (wd N1 3 : Int), Value.int .u64 (wd N1 4 : Int), Value.int .u64 (wd N1 5 : Int), Value.int .u64 (wd N1 6 : Int), Value.int .u64 (wd N1 7 : Int), Value.bool false, Value.int .u64 (wd D1 0 : Int), Value.int .u64 (wd D1 1 : Int), Value.int .u64 (wd D1 2 : Int), Value.int .u64 (wd D1 3 : Int), Value.int .u64 (wd D1 4 : Int), Value.int .u64 (wd D1 5 : Int), Value.int .u64 (wd D1 6 : Int), Value.int .u64 (wd D1 7 : Int), Value.bool Z2, Value.int .u64 (wd N2 0 : Int), Value.int .u64 (wd N2 1 : Int), Value.int .u64 (wd N2 2 : Int), Value.int .u64 (wd N2 3 : Int), Value.int .u64 (wd N2 4 : Int), Value.int .u64 (wd N2 5 : Int), Value.int .u64 (wd N2 6 : Int), Value.int .u64 (wd N2 7 : Int), Value.bool false, Value.int .u64 (wd D2 0 : Int), Value.int .u64 (wd D2 1 : Int), Value.int .u64 (wd D2 2 : Int), Value.int .u64 (wd D2 3 : Int), Value.int .u64 (wd D2 4 : Int), Value.int .u64 (wd D2 5 : Int), Value.int .u64 (wd D2 6 : Int), Value.int .u64 (wd D2 7 : Int), Value.bool Z3, Value.int .u64 (wd N3 0 : Int), Value.int .u64 (wd N3 1 : Int), Value.int .u64 (wd N3 2 : Int), Value.int .u64 (wd N3 3 : Int), Value.int .u64 (wd N3 4 : Int), Value.int .u64 (wd N3 5 : Int), Value.int .u64 (wd N3 6 : Int), Value.int .u64 (wd N3 7 : Int), Value.bool false, Value.int .u64 (wd D3 0 : Int), Value.int .u64 (wd D3 1 : Int), Value.int .u64 (wd D3 2 : Int), Value.int .u64 (wd D3 3 : Int), Value.int .u64 (wd D3 4 : Int), Value.int .u64 (wd D3 5 : Int), Value.int .u64 (wd D3 6 : Int), Value.int .u64 (wd D3 7 : Int)] 27
  have I3 : Bs w S [.row B4 (.bool Z0) [Value.int .u64 (wd N0 0 : Int), Value.int .u64 (wd N0 1 : Int), Value.int .u64 (wd N0 2 : Int), Value.int .u64 (wd N0 3 : Int), Value.int .u64 (wd N0 4 : Int), Value.int .u64 (wd N0 5 : Int), Value.int .u64 (wd N0 6 : Int), Value.int .u64 (wd N0 7 : Int), Value.bool false, Value.int .u64 (wd D0 0 : Int), Value.int .u64 (wd D0 1 : Int), Value.int .u64 (wd D0 2 : Int), Value.int .u64 (wd D0 3 : Int), Value.int .u64 (wd D0 4 : Int), Value.int .u64 (wd D0 5 : Int), Value.int .u64 (wd D0 6 : Int), Value.int .u64 (wd D0 7 : Int), Value.bool Z1, Value.int .u64 (wd N1 0 : Int), Value.int .u64 (wd N1 1 : Int), Value.int .u64 (wd N1 2 : Int), Value.int .u64 (wd N1 3 : Int), Value.int .u64 (wd N1 4 : Int), Value.int .u64 (wd N1 5 : Int), Value.int .u64 (wd N1 6 : Int), Value.int .u64 (wd N1 7 : Int), Value.bool false, Value.int .u64 (wd D1 0 : Int), Value.int .u64 (wd D1 1 : Int), Value.int .u64 (wd D1 2 : Int), Value.int .u64 (wd D1 3 : Int), Value.int .u64 (wd D1 4 : Int), Value.int .u64 (wd D1 5 : Int), Value.int .u64 (wd D1 6 : Int), Value.int .u64 (wd D1 7 : Int), Value.bool Z2, Value.int .u64 (wd N2 0 : Int), Value.int .u64 (wd N2 1 : Int), Value.int .u64 (wd N2 2 : Int), Value.int .u64 (wd N2 3 : Int), Value.int .u64 (wd N2 4 : Int), Value.int .u64 (wd N2 5 : Int), Value.int .u64 (wd N2 6 : Int), Value.int .u64 (wd N2 7 : Int), Value.bool false, Value.int .u64 (wd D2 0 : Int), Value.int .u64 (wd D2 1 : Int), Value.int .u64 (wd D2 2 : Int), Value.int .u64 (wd D2 3 : Int), Value.int .u64 (wd D2 4 : Int), Value.int .u64 (wd D2 5 : Int), Value.int .u64 (wd D2 6 : Int), Value.int .u64 (wd D2 7 : Int), Value.bool Z3, Value.int .u64 (wd N3 0 : Int), Value.int .u64 (wd N3 1 : Int), Value.int .u64 (wd N3 2 : Int), Value.int .u64 (wd N3 3 : Int), Value.int .u64 (wd N3 4 : Int), Value.int .u64 (wd N3 5 : Int), Value.int .u64 (wd N3 6 : Int), Value.int .u64 (wd N3 7 : Int), Value.bool false, Value.int .u64 (wd D3 0 : Int), Value.int .u64 (wd D3 1 : Int), Value.int .u64 (wd D3 2 : Int), Value.int .u64 (wd D3 3 : Int), Value.int .u64 (wd D3 4 : Int), Value.int .u64 (wd D3 5 : Int), Value.int .u64 (wd D3 6 : Int), Value.int .u64 (wd D3 7 : Int)], .rat (S + 1) s' n' t' d', .rat S s n t d] x4 := by
    rw [← hx4]
    exact I2.sub (.cons_cons _ (.cons _ (.cons _ (.cons _ (.cons _ (.cons_cons _ (.cons_cons _ .slnil)))))))
  go_upto_region 6 with (first | (with_reducible refine wpList_load_rat rfl (.tmp 5) rfl rfl H0.out ?_) | (with_reducible refine wpList_load_rat rfl (.tmp 7) rfl rfl H1.out ?_) | (with_reducible refine wpList_load_rat rfl (.tmp 9) rfl rfl H2.out ?_) | (with_reducible refine wpList_load_rat rfl (.tmp 11) rfl rfl H3.out ?_) | (with_reducible refine wpList_act rfl (exec_rats4 (.tmp 45) (.tmp 46) (.tmp 47) (.tmp 48) rfl rfl rfl rfl rfl hB4 hx4) ?_))
  replace I := Lib.hid I3
  clear I2 I3 H0 H1 H2 H3 hx4 hB4
  obtain ⟨T, hT⟩ : ∃ T : List Bx, [.row B4 (.bool Z0) [Value.int .u64 (wd N0 0 : Int), Value.int .u64 (wd N0 1 : Int), Value.int .u64 (wd N0 2 : Int), Value.int .u64 (wd N0 3 : Int), Value.int .u64 (wd N0 4 : Int), Value.int .u64 (wd N0 5 : Int), Value.int .u64 (wd N0 6 : Int), Value.int .u64 (wd N0 7 : Int), Value.bool false, Value.int .u64 (wd D0 0 : Int), Value.int .u64 (wd D0 1 : Int), Value.int .u64 (wd D0 2 : Int), Value.int .u64 (wd D0 3 : Int), Value.int .u64 (wd D0 4 : Int), Value.int .u64 (wd D0 5 : Int), Value.int .u64 (wd D0 6 : Int), Value.int .u64 (wd D0 7 : Int), Value.bool Z1, Value.int .u64 (wd N1 0 : Int), Value.int .u64 (wd N1 1 : Int), Value.int .u64 (wd N1 2 : Int), Value.int .u64 (wd N1 3 : Int), Value.int .u64 (wd N1 4 : Int), Value.int .u64 (wd N1 5 : Int), Value.int .u64 (wd N1 6 : Int), Value.int .u64 (wd N1 7 : Int), Value.bool false, Value.int .u64 (wd D1 0 : Int), Value.int .u64 (wd D1 1 : Int), Value.int .u64 (wd D1 2 : Int), Value.int .u64 (wd D1 3 : Int), Value.int .u64 (wd D1 4 : Int), Value.int .u64 (wd D1 5 : Int), Value.int .u64 (wd D1 6 : Int), Value.int .u64 (wd D1 7 : Int), Value.bool Z2, Value.int .u64 (wd N2 0 : Int), Value.int .u64 (wd N2 1 : Int), Value.int .u64 (wd N2 2 : Int), Value.int .u64 (wd N2 3 : Int), Value.int .u64 (wd N2 4 : Int), Value.int .u64 (wd N2 5 : Int), Value.int .u64 (wd N2 6 : Int), Value.int .u64 (wd N2 7 : Int), Value.bool false, Value.int .u64 (wd D2 0 : Int), Value.int .u64 (wd D2 1 : Int), Value.int .u64 (wd D2 2 : Int), Value.int .u64 (wd D2 3 : Int), Value.int .u64 (wd D2 4 : Int), Value.int .u64 (wd D2 5 : Int), Value.int .u64 (wd D2 6 : Int), Value.int .u64 (wd D2 7 : Int), Value.bool Z3, Value.int .u64 (wd N3 0 : Int), Value.int .u64 (wd N3 1 : Int), Value.int .u64 (wd N3 2 : Int), Value.int .u64 (wd N3 3 : Int), Value.int .u64 (wd N3 4 : Int), Value.int .u64 (wd N3 5 : Int), Value.int .u64 (wd N3 6 : Int), Value.int .u64 (wd N3 7 : Int), Value.bool false, Value.int .u64 (wd D3 0 : Int), Value.int .u64 (wd D3 1 : Int), Value.int .u64 (wd D3 2 : Int), Value.int .u64 (wd D3 3 : Int), Value.int .u64 (wd D3 4 : Int), Value.int .u64 (wd D3 5 : Int), Value.int .u64 (wd D3 6 : Int), Value.int .u64 (wd D3 7 : Int)], .rat (S + 1) s' n' t' d', .rat S s n t d] = T := ⟨_, rfl⟩
  have hT0 : T[0]? = some (.row B4 (.bool Z0) [Value.int .u64 (wd N0 0 : Int), Value.int .u64 (wd N0 1 : Int), Value.int .u64 (wd N0 2 : Int), Value.int .u64 (wd N0 3 : Int), Value.int .u64 (wd N0 4 : Int), Value.int .u64 (wd N0 5 : Int), Value.int .u64 (wd N0 6 : Int), Value.int .u64 (wd N0 7 : Int), Value.bool false, Value.int .u64 (wd D0 0 : Int), Value.int .u64 (wd D0 1 : Int), Value.int .u64 (wd D0 2 : Int), Value.int .u64 (wd D0 3 : Int), Value.int .u64 (wd D0 4 : Int), Value.int .u64 (wd D0 5 : Int), Value.int .u64 (wd D0 6 : Int), Value.int .u64 (wd D0 7 : Int), Value.bool Z1, Value.int .u64 (wd N1 0 : Int), Value.int .u64 (wd N1 1 : Int), Value.int .u64 (wd N1 2 : Int), Value.int .u64 (wd N1 3 : Int), Value.int .u64 (wd N1 4 : Int), Value.int .u64 (wd N1 5 : Int), Value.int .u64 (wd N1 6 : Int), Value.int .u64 (wd N1 7 : Int), Value.bool false, Value.int .u64 (wd D1 0 : Int), Value.int .u64 (wd D1 1 : Int), Value.int .u64 (wd D1 2 : Int), Value.int .u64 (wd D1 3 : Int), Value.int .u64 (wd D1 4 : Int), Value.int .u64 (wd D1 5 : Int), Value.int .u64 (wd D1 6 : Int), Value.int .u64 (wd D1 7 : Int), Value.bool Z2, Value.int .u64 (wd N2 0 : Int), Value.int .u64 (wd N2 1 : Int), Value.int .u64 (wd N2 2 : Int), Value.int .u64 (wd N2 3 : Int), Value.int .u64 (wd N2 4 : Int), Value.int .u64 (wd N2 5 : Int), Value.int .u64 (wd N2 6 : Int), Value.int .u64 (wd N2 7 : Int), Value.bool false, Value.int .u64 (wd D2 0 : Int), Value.int .u64 (wd D2 1 : Int), Value.int .u64 (wd D2 2 : Int), Value.int .u64 (wd D2 3 : Int), Value.int .u64 (wd D2 4 : Int), Value.int .u64 (wd D2 5 : Int), Value.int .u64 (wd D2 6 : Int), Value.int .u64 (wd D2 7 : Int), Value.bool Z3, Value.int .u64 (wd N3 0 : Int), Value.int .u64 (wd N3 1 : Int), Value.int .u64 (wd N3 2 : Int), Value.int .u64 (wd N3 3 : Int), Value.int .u64 (wd N3 4 : Int), Value.int .u64 (wd N3 5 : Int), Value.int .u64 (wd N3 6 : Int), Value.int .u64 (wd N3 7 : Int), Value.bool false, Value.int .u64 (wd D3 0 : Int), Value.int .u64 (wd D3 1 : Int), Value.int .u64 (wd D3 2 : Int), Value.int .u64 (wd D3 3 : Int), Value.int .u64 (wd D3 4 : Int), Value.int .u64 (wd D3 5 : Int), Value.int .u64 (wd D3 6 : Int), Value.int .u64 (wd D3 7 : Int)]) := by rw [← hT]; rfl
  have hT1 : T[1]? = some (.rat (S + 1) s' n' t' d') := by rw [← hT]; rfl
  have hT2 : T[2]? = some (.rat S s n t d) := by rw [← hT]; rfl
  rw [hT] at I
  replace hT0 := Lib.hid hT0
  replace hT1 := Lib.hid hT1
  replace hT2 := Lib.hid hT2
  clear hT
  go_loopg [51] 5 (fun h s51 wr => ∃ (z : Int) (k : Nat), s51 = .int .i64 z ∧ Hid (z = (k : Int) ∧ k + h = 5) ∧ (z = 0 ∨ z = 1 ∨ z = 2 ∨ z = 3 ∨ z = 4) ∧ Hid (Bs w S T wr))
  case atStart => exact ⟨0, 0, rfl, ⟨rfl, rfl⟩, .inl rfl, I⟩
  case round =>
    clear I
    obtain ⟨z, k, rfl, HK, hz, I⟩ := hrel
    rcases hz with rfl | rfl | rfl | rfl | rfl
    · have HR := Lib.hid (rangeAt_sub (I.out.row 0 hT0.out) 0 (ys := [.bool Z0, .int .u64 (wd N0 0 : Int), .int .u64 (wd N0 1 : Int), .int .u64 (wd N0 2 : Int), .int .u64 (wd N0 3 : Int), .int .u64 (wd N0 4 : Int), .int .u64 (wd N0 5 : Int), .int .u64 (wd N0 6 : Int), .int .u64 (wd N0 7 : Int), .bool false, .int .u64 (wd D0 0 : Int), .int .u64 (wd D0 1 : Int), .int .u64 (wd D0 2 : Int), .int .u64 (wd D0 3 : Int), .int .u64 (wd D0 4 : Int), .int .u64 (wd D0 5 : Int), .int .u64 (wd D0 6 : Int), .int .u64 (wd D0 7 : Int)]) (fun j v hv => row4_0 hv))
      rw [Nat.zero_add] at HR
      obtain ⟨X, hX⟩ : ∃ K, wr.heap.size = K := ⟨_, rfl⟩
      obtain ⟨y0, hy0⟩ : ∃ W, wr.alloc (boxRZ 27) = W := ⟨_, rfl⟩
      have I2 := I.out.pushRatZ hX 27
      rw [hy0] at I2
      have HZ := Lib.hid (I2.rat 0 rfl)
      have I3 := Lib.hid (I2.putRat 0 rfl Z0 N0 false D0 rfl)
      clear I2 I
      go_upto_region 8 with (first | (with_reducible refine wpList_load_ratO rfl (.tmp 54) rfl rfl HR.out ?_) | (with_reducible refine wpList_store_rat rfl (.tmp 14) (.tmp 55) rfl (b := X) (s := Z0) (n := N0) (t := false) (d := D0) rfl rfl HZ.out ?_))
      clear hy0 HZ hX HR
      generalize st18 y0 X Z0 N0 false D0 = y1 at *
      have HRb := Lib.hid (I3.out.rat 2 hT1.out)
      have HRa := Lib.hid (I3.out.rat 3 hT2.out)
      go_wp2_with (first | (with_reducible refine wpList_load_rat rfl (.tmp 2) rfl rfl HRa.out ?_) | (with_reducible refine wpList_load_rat rfl (.tmp 3) rfl rfl HRb.out ?_))
      refine (HD0.out _).mono ?_
      rintro e y2 ⟨rfl, hw⟩
      have I := Lib.hid (I3.out.below hw)
      clear hw HRa HRb I3
      obtain ⟨Y, hY⟩ : ∃ K, y2.heap.size = K := ⟨_, rfl⟩
      obtain ⟨y3, hy3⟩ : ∃ W, y2.alloc (boxRZ 27) = W := ⟨_, rfl⟩
      have I2 := I.out.pushRatZ hY 27
      rw [hy3] at I2
      have HZ := Lib.hid (I2.rat 0 rfl)
      have I3 := Lib.hid (I2.putRat 0 rfl Z0 N0 false D0 rfl)
      clear I2 I
      go_upto_region 9 with (with_reducible refine wpList_store_rat rfl (.tmp 15) (.tmp 61) rfl (b := Y) (s := Z0) (n := N0) (t := false) (d := D0) rfl rfl HZ.out ?_)
      clear hy3 HZ hY
      generalize st18 y3 Y Z0 N0 false D0 = y4 at *
      have HX := Lib.hid (I3.out.rat 1 rfl)
      have HY := Lib.hid (I3.out.rat 0 rfl)
      obtain ⟨V, hV⟩ : ∃ K, y4.heap.size = K := ⟨_, rfl⟩
      obtain ⟨y5, hy5⟩ : ∃ W, y4.alloc (.cells #[errV K0, errV K1, errV K2, errV K3] 29) = W := ⟨_, rfl⟩
      have I2 := I3.out.alloc (.cells #[errV K0, errV K1, errV K2, errV K3] 29)
      have hcell : y5.cell? ⟨V, 0, none⟩ = some (errV K0) := by
        rw [← hy5, ← hV, World.cell?_alloc_at _ _ _ _ rfl]
        rfl
      rw [hy5] at I2
      replace I2 := Lib.hid I2.tail.tail
      clear I3
      go_wp2_with (first | (with_reducible refine wpList_load_rat rfl (.tmp 14) rfl rfl HX.out ?_) | (with_reducible refine wpList_load_rat rfl (.tmp 15) rfl rfl HY.out ?_) | (with_reducible refine wpList_val (v := .bool false) rfl (ner_self (x := .tmp 63) (y := .tmp 64) rfl rfl rfl HF0.out.1 HF0.out.2) ?_) | (with_reducible refine wpList_act rfl (exec_errs4 (.tmp 67) (.tmp 68) (.tmp 69) (.tmp 70) rfl rfl rfl rfl rfl hV hy5) ?_))
      refine (HE0.out _).mono ?_
      rintro e y6 ⟨rfl, hw⟩
      replace I2 := Lib.hid (I2.out.below hw)
      clear hw hcell hV hy5 HX HY
      go_wp2_with fail
      go_roundg (4 - 0)
      case measure => have := HK.out; omega
      case rel => exact ⟨1, 1, by go_num, ⟨rfl, rfl⟩, by omega, I2⟩
    · have HR := Lib.hid (rangeAt_sub (I.out.row 0 hT0.out) 18 (ys := [.bool Z1, .int .u64 (wd N1 0 : Int), .int .u64 (wd N1 1 : Int), .int .u64 (wd N1 2 : Int), .int .u64 (wd N1 3 : Int), .int .u64 (wd N1 4 : Int), .int .u64 (wd N1 5 : Int), .int .u64 (wd N1 6 : Int), .int .u64 (wd N1 7 : Int), .bool false, .int .u64 (wd D1 0 : Int), .int .u64 (wd D1 1 : Int), .int .u64 (wd D1 2 : Int), .int .u64 (wd D1 3 : Int), .int .u64 (wd D1 4 : Int), .int .u64 (wd D1 5 : Int), .int .u64 (wd D1 6 : Int), .int .u64 (wd D1 7 : Int)]) (fun j v hv => row4_1 hv))
      rw [Nat.zero_add] at HR
      obtain ⟨X, hX⟩ : ∃ K, wr.heap.size = K := ⟨_, rfl⟩
      obtain ⟨y0, hy0⟩ : ∃ W, wr.alloc (boxRZ 27) = W := ⟨_, rfl⟩
      have I2 := I.out.pushRatZ hX 27
      rw [hy0] at I2
      have HZ := Lib.hid (I2.rat 0 rfl)
      have I3 := Lib.hid (I2.putRat 0 rfl Z1 N1 false D1 rfl)
      clear I2 I
      go_upto_region 8 with (first | (with_reducible refine wpList_load_ratO rfl (.tmp 54) rfl rfl HR.out ?_) | (with_reducible refine wpList_store_rat rfl (.tmp 14) (.tmp 55) rfl (b := X) (s := Z1) (n := N1) (t := false) (d := D1) rfl rfl HZ.out ?_))
      clear hy0 HZ hX HR
      generalize st18 y0 X Z1 N1 false D1 = y1 at *
      have HRb := Lib.hid (I3.out.rat 2 hT1.out)
      have HRa := Lib.hid (I3.out.rat 3 hT2.out)
      go_wp2_with (first | (with_reducible refine wpList_load_rat rfl (.tmp 2) rfl rfl HRa.out ?_) | (with_reducible refine wpList_load_rat rfl (.tmp 3) rfl rfl HRb.out ?_))
      refine (HD1.out _).mono ?_
      rintro e y2 ⟨rfl, hw⟩
      have I := Lib.hid (I3.out.below hw)
      clear hw HRa HRb I3
      obtain ⟨Y, hY⟩ : ∃ K, y2.heap.size = K := ⟨_, rfl⟩
      obtain ⟨y3, hy3⟩ : ∃ W, y2.alloc (boxRZ 27) = W := ⟨_, rfl⟩
      have I2 := I.out.pushRatZ hY 27
      rw [hy3] at I2
      have HZ := Lib.hid (I2.rat 0 rfl)
      have I3 := Lib.hid (I2.putRat 0 rfl Z1 N1 false D1 rfl)
      clear I2 I
      go_upto_region 9 with (with_reducible refine wpList_store_rat rfl (.tmp 15) (.tmp 61) rfl (b := Y) (s := Z1) (n := N1) (t := false) (d := D1) rfl rfl HZ.out ?_)
      clear hy3 HZ hY
      generalize st18 y3 Y Z1 N1 false D1 = y4 at *
      have HX := Lib.hid (I3.out.rat 1 rfl)
      have HY := Lib.hid (I3.out.rat 0 rfl)
      obtain ⟨V, hV⟩ : ∃ K, y4.heap.size = K := ⟨_, rfl⟩
      obtain ⟨y5, hy5⟩ : ∃ W, y4.alloc (.cells #[errV K0, errV K1, errV K2, errV K3] 29) = W := ⟨_, rfl⟩
      have I2 := I3.out.alloc (.cells #[errV K0, errV K1, errV K2, errV K3] 29)
      have hcell : y5.cell? ⟨V, 1, none⟩ = some (errV K1) := by
        rw [← hy5, ← hV, World.cell?_alloc_at _ _ _ _ rfl]
        rfl
      rw [hy5] at I2
      replace I2 := Lib.hid I2.tail.tail
      clear I3
      go_wp2_with (first | (with_reducible refine wpList_load_rat rfl (.tmp 14) rfl rfl HX.out ?_) | (with_reducible refine wpList_load_rat rfl (.tmp 15) rfl rfl HY.out ?_) | (with_reducible refine wpList_val (v := .bool false) rfl (ner_self (x := .tmp 63) (y := .tmp 64) rfl rfl rfl HF1.out.1 HF1.out.2) ?_) | (with_reducible refine wpList_act rfl (exec_errs4 (.tmp 67) (.tmp 68) (.tmp 69) (.tmp 70) rfl rfl rfl rfl rfl hV hy5) ?_))
      refine (HE1.out _).mono ?_
      rintro e y6 ⟨rfl, hw⟩
      replace I2 := Lib.hid (I2.out.below hw)
      clear hw hcell hV hy5 HX HY
      go_wp2_with fail
      go_roundg (4 - 1)
      case measure => have := HK.out; omega
      case rel => exact ⟨2, 2, by go_num, ⟨rfl, rfl⟩, by omega, I2⟩
    · have HR := Lib.hid (rangeAt_sub (I.out.row 0 hT0.out) 36 (ys := [.bool Z2, .int .u64 (wd N2 0 : Int), .int .u64 (wd N2 1 : Int), .int .u64 (wd N2 2 : Int), .int .u64 (wd N2 3 : Int), .int .u64 (wd N2 4 : Int), .int .u64 (wd N2 5 : Int), .int .u64 (wd N2 6 : Int), .int .u64 (wd N2 7 : Int), .bool false, .int .u64 (wd D2 0 : Int), .int .u64 (wd D2 1 : Int), .int .u64 (wd D2 2 : Int), .int .u64 (wd D2 3 : Int), .int .u64 (wd D2 4 : Int), .int .u64 (wd D2 5 : Int), .int .u64 (wd D2 6 : Int), .int .u64 (wd D2 7 : Int)]) (fun j v hv => row4_2 hv))
      rw [Nat.zero_add] at HR
      obtain ⟨X, hX⟩ : ∃ K, wr.heap.size = K := ⟨_, rfl⟩
      obtain ⟨y0, hy0⟩ : ∃ W, wr.alloc (boxRZ 27) = W := ⟨_, rfl⟩
      have I2 := I.out.pushRatZ hX 27
      rw [hy0] at I2
      have HZ := Lib.hid (I2.rat 0 rfl)
      have I3 := Lib.hid (I2.putRat 0 rfl Z2 N2 false D2 rfl)
      clear I2 I
      go_upto_region 8 with (first | (with_reducible refine wpList_load_ratO rfl (.tmp 54) rfl rfl HR.out ?_) | (with_reducible refine wpList_store_rat rfl (.tmp 14) (.tmp 55) rfl (b := X) (s := Z2) (n := N2) (t := false) (d := D2) rfl rfl HZ.out ?_))
      clear hy0 HZ hX HR
      generalize st18 y0 X Z2 N2 false D2 = y1 at *
      have HRb := Lib.hid (I3.out.rat 2 hT1.out)
      have HRa := Lib.hid (I3.out.rat 3 hT2.out)
      go_wp2_with (first | (with_reducible refine wpList_load_rat rfl (.tmp 2) rfl rfl HRa.out ?_) | (with_reducible refine wpList_load_rat rfl (.tmp 3) rfl rfl HRb.out ?_))
      refine (HD2.out _).mono ?_
      rintro e y2 ⟨rfl, hw⟩
      have I := Lib.hid (I3.out.below hw)
      clear hw HRa HRb I3
      obtain ⟨Y, hY⟩ : ∃ K, y2.heap.size = K := ⟨_, rfl⟩
      obtain ⟨y3, hy3⟩ : ∃ W, y2.alloc (boxRZ 27) = W := ⟨_, rfl⟩
      have I2 := I.out.pushRatZ hY 27
      rw [hy3] at I2
      have HZ := Lib.hid (I2.rat 0 rfl)
      have I3 := Lib.hid (I2.putRat 0 rfl Z2 N2 false D2 rfl)
      clear I2 I
      go_upto_region 9 with (with_reducible refine wpList_store_rat rfl (.tmp 15) (.tmp 61) rfl (b := Y) (s := Z2) (n := N2) (t := false) (d := D2) rfl rfl HZ.out ?_)
      clear hy3 HZ hY
      generalize st18 y3 Y Z2 N2 false D2 = y4 at *
      have HX := Lib.hid (I3.out.rat 1 rfl)
      have HY := Lib.hid (I3.out.rat 0 rfl)
      obtain ⟨V, hV⟩ : ∃ K, y4.heap.size = K := ⟨_, rfl⟩
      obtain ⟨y5, hy5⟩ : ∃ W, y4.alloc (.cells #[errV K0, errV K1, errV K2, errV K3] 29) = W := ⟨_, rfl⟩
      have I2 := I3.out.alloc (.cells #[errV K0, errV K1, errV K2, errV K3] 29)
      have hcell : y5.cell? ⟨V, 2, none⟩ = some (errV K2) := by
        rw [← hy5, ← hV, World.cell?_alloc_at _ _ _ _ rfl]
        rfl
      rw [hy5] at I2
      replace I2 := Lib.hid I2.tail.tail
      clear I3
      go_wp2_with (first | (with_reducible refine wpList_load_rat rfl (.tmp 14) rfl rfl HX.out ?_) | (with_reducible refine wpList_load_rat rfl (.tmp 15) rfl rfl HY.out ?_) | (with_reducible refine wpList_val (v := .bool false) rfl (ner_self (x := .tmp 63) (y := .tmp 64) rfl rfl rfl HF2.out.1 HF2.out.2) ?_) | (with_reducible refine wpList_act rfl (exec_errs4 (.tmp 67) (.tmp 68) (.tmp 69) (.tmp 70) rfl rfl rfl rfl rfl hV hy5) ?_))
      refine (HE2.out _).mono ?_
      rintro e y6 ⟨rfl, hw⟩
      replace I2 := Lib.hid (I2.out.below hw)
      clear hw hcell hV hy5 HX HY
      go_wp2_with fail
      go_roundg (4 - 2)
      case measure => have := HK.out; omega
      case rel => exact ⟨3, 3, by go_num, ⟨rfl, rfl⟩, by omega, I2⟩
    · have HR := Lib.hid (rangeAt_sub (I.out.row 0 hT0.out) 54 (ys := [.bool Z3, .int .u64 (wd N3 0 : Int), .int .u64 (wd N3 1 : Int), .int .u64 (wd N3 2 : Int), .int .u64 (wd N3 3 : Int), .int .u64 (wd N3 4 : Int), .int .u64 (wd N3 5 : Int), .int .u64 (wd N3 6 : Int), .int .u64 (wd N3 7 : Int), .bool false, .int .u64 (wd D3 0 : Int), .int .u64 (wd D3 1 : Int), .int .u64 (wd D3 2 : Int), .int .u64 (wd D3 3 : Int), .int .u64 (wd D3 4 : Int), .int .u64 (wd D3 5 : Int), .int .u64 (wd D3 6 : Int), .int .u64 (wd D3 7 : Int)]) (fun j v hv => row4_3 hv))
      rw [Nat.zero_add] at HR
      obtain ⟨X, hX⟩ : ∃ K, wr.heap.size = K := ⟨_, rfl⟩
      obtain ⟨y0, hy0⟩ : ∃ W, wr.alloc (boxRZ 27) = W := ⟨_, rfl⟩
      have I2 := I.out.pushRatZ hX 27
      rw [hy0] at I2
      have HZ := Lib.hid (I2.rat 0 rfl)
      have I3 := Lib.hid (I2.putRat 0 rfl Z3 N3 false D3 rfl)
      clear I2 I
      go_upto_region 8 with (first | (with_reducible refine wpList_load_ratO rfl (.tmp 54) rfl rfl HR.out ?_) | (with_reducible refine wpList_store_rat rfl (.tmp 14) (.tmp 55) rfl (b := X) (s := Z3) (n := N3) (t := false) (d := D3) rfl rfl HZ.out ?_))
      clear hy0 HZ hX HR
      generalize st18 y0 X Z3 N3 false D3 = y1 at *
      have HRb := Lib.hid (I3.out.rat 2 hT1.out)
      have HRa := Lib.hid (I3.out.rat 3 hT2.out)
      go_wp2_with (first | (with_reducible refine wpList_load_rat rfl (.tmp 2) rfl rfl HRa.out ?_) | (with_reducible refine wpList_load_rat rfl (.tmp 3) rfl rfl HRb.out ?_))
      refine (HD3.out _).mono ?_
      rintro e y2 ⟨rfl, hw⟩
      have I := Lib.hid (I3.out.below hw)
      clear hw HRa HRb I3
      obtain ⟨Y, hY⟩ : ∃ K, y2.heap.size = K := ⟨_, rfl⟩
      obtain ⟨y3, hy3⟩ : ∃ W, y2.alloc (boxRZ 27) = W := ⟨_, rfl⟩
      have I2 := I.out.pushRatZ hY 27
      rw [hy3] at I2
      have HZ := Lib.hid (I2.rat 0 rfl)
      have I3 := Lib.hid (I2.putRat 0 rfl Z3 N3 false D3 rfl)
      clear I2 I
      go_upto_region 9 with (with_reducible refine wpList_store_rat rfl (.tmp 15) (.tmp 61) rfl (b := Y) (s := Z3) (n := N3) (t := false) (d := D3) rfl rfl HZ.out ?_)
      clear hy3 HZ hY
      generalize st18 y3 Y Z3 N3 false D3 = y4 at *
      have HX := Lib.hid (I3.out.rat 1 rfl)
      have HY := Lib.hid (I3.out.rat 0 rfl)
      obtain ⟨V, hV⟩ : ∃ K, y4.heap.size = K := ⟨_, rfl⟩
      obtain ⟨y5, hy5⟩ : ∃ W, y4.alloc (.cells #[errV K0, errV K1, errV K2, errV K3] 29) = W := ⟨_, rfl⟩
      have I2 := I3.out.alloc (.cells #[errV K0, errV K1, errV K2, errV K3] 29)
      have hcell : y5.cell? ⟨V, 3, none⟩ = some (errV K3) := by
        rw [← hy5, ← hV, World.cell?_alloc_at _ _ _ _ rfl]
        rfl
      rw [hy5] at I2
      replace I2 := Lib.hid I2.tail.tail
      clear I3
      go_wp2_with (first | (with_reducible refine wpList_load_rat rfl (.tmp 14) rfl rfl HX.out ?_) | (with_reducible refine wpList_load_rat rfl (.tmp 15) rfl rfl HY.out ?_) | (with_reducible refine wpList_val (v := .bool false) rfl (ner_self (x := .tmp 63) (y := .tmp 64) rfl rfl rfl HF3.out.1 HF3.out.2) ?_) | (with_reducible refine wpList_act rfl (exec_errs4 (.tmp 67) (.tmp 68) (.tmp 69) (.tmp 70) rfl rfl rfl rfl rfl hV hy5) ?_))
      refine (HE3.out _).mono ?_
      rintro e y6 ⟨rfl, hw⟩
      replace I2 := Lib.hid (I2.out.below hw)
      clear hw hcell hV hy5 HX HY
      go_wp2_with fail
      go_roundg (4 - 3)
      case measure => have := HK.out; omega
      case rel => exact ⟨4, 4, by go_num, ⟨rfl, rfl⟩, by omega, I2⟩
    · have HRb := Lib.hid (I.out.rat 1 hT1.out)
      have HRa := Lib.hid (I.out.rat 2 hT2.out)
      go_wp2_with (first | (with_reducible refine wpList_load_rat rfl (.tmp 2) rfl rfl HRa.out ?_) | (with_reducible refine wpList_load_rat rfl (.tmp 3) rfl rfl HRb.out ?_))
      refine (HP4.out _).mono ?_
      rintro e y1 ⟨rfl, hw⟩
      replace I := Lib.hid (I.out.below hw)
      clear hw HRa HRb
      have HRb := Lib.hid (I.out.rat 1 hT1.out)
      have HRa := Lib.hid (I.out.rat 2 hT2.out)
      go_wp2_with (first | (with_reducible refine wpList_load_rat rfl (.tmp 2) rfl rfl HRa.out ?_) | (with_reducible refine wpList_load_rat rfl (.tmp 3) rfl rfl HRb.out ?_))
      refine (HD4.out _).mono ?_
      rintro e y2 ⟨rfl, hw⟩
      replace I := Lib.hid (I.out.below hw)
      clear hw HRa HRb
      go_wp2_with fail
      refine (HE4.out _).mono ?_
      rintro e y3 ⟨rfl, hw⟩
      replace I := Lib.hid (I.out.below hw)
      clear hw
      go_wp2_with fail
      refine (HW.out _).mono ?_
      rintro e y4 ⟨rfl, hw⟩
      replace I := Lib.hid (I.out.below hw)
      clear hw
      go_wp2_with fail
      go_ret
      exact ⟨rfl, I.out.bl⟩
end Go.Proofs.YtbcnpajdmlbieaaGreatDoor
