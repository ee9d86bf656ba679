/-
  Stage 7: equality of words; limb's signed, Canon, Bits, Neg.
-/
import Derived.Test.YtbcnpajdmlbieaaDoorLmJ
import Derived.ChangeKeysEq
import Derived.Laws.StructEq
namespace Go.Proofs.YtbcnpajdmlbieaaDoor
open Go.RowKit Go.Sort

theorem words_eq {a b : Nat} (ha : Fits a) (hb : Fits b) : (wd a 0 = wd b 0 ∧ wd a 1 = wd b 1 ∧ wd a 2 = wd b 2 ∧ wd a 3 = wd b 3 ∧ wd a 4 = wd b 4 ∧ wd a 5 = wd b 5 ∧ wd a 6 = wd b 6 ∧ wd a 7 = wd b 7) ↔ a = b := by
  constructor
  · rintro ⟨h0, h1, h2, h3, h4, h5, h6, h7⟩
    refine eq_of_digs (B := 18446744073709551616) (k := 8) ha hb fun i hi => ?_
    show wd a i = wd b i
    exact match i, hi with
      | 0, _ => h0
      | 1, _ => h1
      | 2, _ => h2
      | 3, _ => h3
      | 4, _ => h4
      | 5, _ => h5
      | 6, _ => h6
      | 7, _ => h7
  · rintro rfl
    exact ⟨rfl, rfl, rfl, rfl, rfl, rfl, rfl, rfl⟩
theorem item_run (k : Nat) (w : World) (xs ys : Array Value) (i : Nat) (is : List Nat) (x y : Nat) (hx : xs[i]? = some (.int .u64 (x : Int))) (hy : ys[i]? = some (.int .u64 (y : Int))) (Q : Prop) [Decidable Q]
    (h : (Op.eqItems (k + 1) 22 1 xs ys is).run Tryd.prog w = .ok (decide Q) w) : (Op.eqItems (k + 1) 22 1 xs ys (i :: is)).run Tryd.prog w = .ok (decide (x = y ∧ Q)) w := by
  have u3 : Tryd.prog.underlying 22 = some (.int .u64) := by kernel_rfl
  have hp : Tryd.prog.plainKey 22 = true := by kernel_rfl
  have e := run_equalIn_int (P := Tryd.prog) w k 22 .u64 .u64 (x : Int) (y : Int) u3
  simp only [Op.eqItems, Sem.run_bind, Nat.mul_one, run_part_plain w hp hx, run_part_plain w hp hy, Result.andThen_ok]
  rw [e]
  by_cases h0 : x = y
  · subst h0
    have e1 : ((x : Int) == (x : Int)) = true := beq_self_eq_true _
    rw [e1]
    simpa using h
  · have e1 : ((x : Int) == (y : Int)) = false := beq_eq_false_iff_ne.2 (fun e => h0 (by omega))
    rw [e1]
    simp [h0]
set_option maxRecDepth 100000 in
set_option maxHeartbeats 2000000 in
theorem eqWords_any (k : Nat) (T : TypeId) (hu : Tryd.prog.underlying T = some (.array 8 22)) (a b : Nat) (w : World) (ha : Fits a) (hb : Fits b) :
    (Op.equalIn (k + 2) T (wordsV a) (wordsV b)).run Tryd.prog w = .ok (decide (a = b)) w := by
  have hc : Tryd.prog.cellsOf 22 = 1 := by kernel_rfl
  have hs : (Tryd.prog.info? 22).isSome = true := by kernel_rfl
  obtain ⟨i, hi⟩ := Option.isSome_iff_exists.1 hs
  have hw := words_eq ha hb
  unfold wordsV
  rw [run_equalIn_array w (k + 1) _ _ hu hi, hc, show List.range 8 = [0, 1, 2, 3, 4, 5, 6, 7] from rfl]
  have h8 : ∀ xs ys : Array Value, (Op.eqItems (k + 1) 22 1 xs ys []).run Tryd.prog w = .ok (decide True) w := fun xs ys => by simp [Op.eqItems]
  refine (item_run k w _ _ 0 _ (wd a 0) (wd b 0) rfl rfl _ (item_run k w _ _ 1 _ (wd a 1) (wd b 1) rfl rfl _ (item_run k w _ _ 2 _ (wd a 2) (wd b 2) rfl rfl _ (item_run k w _ _ 3 _ (wd a 3) (wd b 3) rfl rfl _
    (item_run k w _ _ 4 _ (wd a 4) (wd b 4) rfl rfl _ (item_run k w _ _ 5 _ (wd a 5) (wd b 5) rfl rfl _ (item_run k w _ _ 6 _ (wd a 6) (wd b 6) rfl rfl _ (item_run k w _ _ 7 _ (wd a 7) (wd b 7) rfl rfl _ (h8 _ _))))))))).trans ?_
  congr 1
  apply decide_eq_decide.2
  rw [and_true]
  exact hw
theorem eqWords_of (T : TypeId) (hu : Tryd.prog.underlying T = some (.array 8 22)) (a b : Nat) (w : World) (ha : Fits a) (hb : Fits b) :
    (Op.equalIn (9999 + 1) T (wordsV a) (wordsV b)).run Tryd.prog w = .ok (decide (a = b)) w := eqWords_any 9998 T hu a b w ha hb
theorem eqWords (a b : Nat) (w : World) (ha : Fits a) (hb : Fits b) : (binOp .eql 61 (wordsV a) (wordsV b)).run Tryd.prog w = .ok (.bool (decide (a = b))) w := by
  have := eqWords_of 61 (by kernel_rfl) a b w ha hb
  unfold wordsV at this ⊢
  rw [run_eql_struct, show (10000 : Nat) = 9999 + 1 from rfl, this]
  rfl
theorem neWords (a b : Nat) (w : World) (ha : Fits a) (hb : Fits b) : (binOp .neq 61 (wordsV a) (wordsV b)).run Tryd.prog w = .ok (.bool (!decide (a = b))) w := by
  have := eqWords_of 61 (by kernel_rfl) a b w ha hb
  unfold wordsV at this ⊢
  rw [run_neq_struct, show (10000 : Nat) = 9999 + 1 from rfl, this]
  rfl
theorem eqWords' (a b : Nat) (w : World) (ha : Fits a) (hb : Fits b) : (binOp .eql 23 (wordsV a) (wordsV b)).run Tryd.prog w = .ok (.bool (decide (a = b))) w := by
  have := eqWords_of 23 (by kernel_rfl) a b w ha hb
  unfold wordsV at this ⊢
  rw [run_eql_struct, show (10000 : Nat) = 9999 + 1 from rfl, this]
  rfl
/-- A number of the program's: a sign and eight words, nine cells. -/
def intV (s : Bool) (n : Nat) : Value := .agg #[.bool s, .int .u64 (wd n 0 : Int), .int .u64 (wd n 1 : Int), .int .u64 (wd n 2 : Int), .int .u64 (wd n 3 : Int), .int .u64 (wd n 4 : Int), .int .u64 (wd n 5 : Int), .int .u64 (wd n 6 : Int), .int .u64 (wd n 7 : Int)]
/-- The sign of a number, which 0 never has. -/
def sgn (s : Bool) (n : Nat) : Bool := s && !decide (n = 0)
set_option maxRecDepth 100000 in
set_option maxHeartbeats 4000000 in
theorem signed_run (s : Bool) (n : Nat) (w : World) (hn : Hid (Fits n)) :
    Calls Tryd.prog 36 #[.bool s, wordsV n] w fun e w' => e = .returned (intV (sgn s n) n) ∧ Below w.heap.size w w' := by
  have hne := fun W => neWords n 0 W hn.out (Nat.pow_pos (by decide))
  obtain ⟨v, hv⟩ : ∃ v, (!decide (n = 0)) = v := ⟨_, rfl⟩
  rw [hv] at hne
  have HV : Hid (sgn s n = (s && v)) := by show _ = _; rw [sgn, hv]
  simp only [wordsV, wd_zero, Int.natCast_zero] at hne
  rw [HV.out]
  have HB : Hid (∀ o p : Obj, Below w.heap.size w ((w.alloc o).alloc p).drew) := fun o p => ((below_alloc w o).alloc (by simp) p).drew
  clear hv
  unfold wordsV intV
  cases s with
  | false =>
    go_enter Tryd.func36, Tryd.ntmps36
    go_wp2_with fail
    go_region
    go_wp2_with fail
    refine bodyPost_ret (v := intV false n) (by rw [results_cell1 rfl]; go_simp; try rfl) rfl ⟨by rw [Bool.false_and]; rfl, ?_⟩
    exact HB.out _ _
  | true =>
    go_enter Tryd.func36, Tryd.ntmps36
    go_wp2_with fail
    go_region
    go_wp2_with fail
    refine bodyPost_ret (v := intV v n) (by rw [results_cell1 rfl]; go_simp; try rfl) rfl ⟨by rw [Bool.true_and]; rfl, ?_⟩
    exact HB.out _ _
end Go.Proofs.YtbcnpajdmlbieaaDoor
