/-
  Layer 11 (scan) as mathematics: the program's pieces, one behind the other; soundness as numbers.
-/
import Derived.Test.YtgkhjeefcflmcaaGreatDoorMx32
import Derived.Test.YtgkhjeefcflmcaaGreatDoorMx08
import Derived.Test.YtgkhjeefcflmcaaGreatDoorMx00
import Derived.Deep.QuietTactic
import Derived.BigQuiet
import Derived.StillTailTactics
namespace Go.Proofs.YtgkhjeefcflmcaaGreatDoor
open Go.RowKit Go.Sort
set_option linter.unusedSimpArgs false
noncomputable def nextF (l : List UInt8) : Pc := if blkN l ≠ 0 then ⟨0, blkN l, 0, false⟩ else pcF l
theorem nextF_blk {l : List UInt8} (h : blkN l ≠ 0) : nextF l = ⟨0, blkN l, 0, false⟩ := if_pos h
theorem nextF_pc {l : List UInt8} (h : blkN l = 0) : nextF l = pcF l := if_neg (by omega)
theorem blkN_zero {c : UInt8} {t : List UInt8} (h : blkN (c :: t) = 0) : isBl c = false := by
 cases hb : isBl c with
 | false => rfl
 | true => rw [show blkN (c :: t) = blkN t + 1 from if_pos hb] at h; omega
theorem nextF_size (c : UInt8) (t : List UInt8) : 1 ≤ (nextF (c :: t)).s ∧ (nextF (c :: t)).s ≤ t.length + 1 := by
 by_cases h : blkN (c :: t) = 0
 ·rw [nextF_pc h]; exact pcF_size c t
 ·rw [nextF_blk h]
  have := blkN_le (c :: t)
  exact ⟨by show 1 ≤ blkN _; omega, this⟩
structure Pi where
 x : Nat
 p : Pc
noncomputable def pcsG : Nat → List UInt8 → Nat → List Pi
 | 0, _, x => [⟨x, ⟨0, 0, 0, true⟩⟩]
 | _ + 1, [], x => [⟨x, ⟨0, 0, 0, true⟩⟩]
 | f + 1, c :: t, x => ⟨x, nextF (c :: t)⟩ :: pcsG f (t.drop ((nextF (c :: t)).s - 1)) (x + (nextF (c :: t)).s)
theorem pcsG_nil : ∀ (f x : Nat), pcsG f [] x = [⟨x, ⟨0, 0, 0, true⟩⟩]
 | 0, _ => rfl
 | _ + 1, _ => rfl
theorem pcsG_cons (f : Nat) (c : UInt8) (t : List UInt8) (x : Nat) : pcsG (f + 1) (c :: t) x = ⟨x, nextF (c :: t)⟩ :: pcsG f (t.drop ((nextF (c :: t)).s - 1)) (x + (nextF (c :: t)).s) := by rw [pcsG]
theorem pcsG_fuel : ∀ (f g : Nat) (l : List UInt8) (x : Nat), l.length ≤ f → l.length ≤ g → pcsG f l x = pcsG g l x
 | f, g, [], _, _, _ => by rw [pcsG_nil, pcsG_nil]
 | 0, _, _ :: _, _, h, _ => by simp at h
 | _ + 1, 0, _ :: _, _, _, h => by simp at h
 | f + 1, g + 1, c :: t, x, hf, hg => by
  rw [pcsG_cons, pcsG_cons, pcsG_fuel f g _ _ (by rw [List.length_drop]; simp only [List.length_cons] at hf; omega) (by rw [List.length_drop]; simp only [List.length_cons] at hg; omega)]
noncomputable def pcsF (l : List UInt8) (x : Nat) : List Pi := pcsG l.length l x
theorem pcsF_nil (x : Nat) : pcsF [] x = [⟨x, ⟨0, 0, 0, true⟩⟩] := rfl
theorem pcsF_go (c : UInt8) (t : List UInt8) (x : Nat) : pcsF (c :: t) x = ⟨x, nextF (c :: t)⟩ :: pcsF ((c :: t).drop (nextF (c :: t)).s) (x + (nextF (c :: t)).s) := by
 refine (pcsG_cons t.length c t x).trans ?_
 rw [dropS_cons (nextF_size c t).1]
 unfold pcsF
 rw [pcsG_fuel t.length _ _ _ (by rw [List.length_drop]; omega) (Nat.le_refl _)]
def tkO : List Pi → Nat → List TkN
 | [], _ => []
 | y :: r, last => stO y.p y.x last ++ tkO r (stL y.p last)
def lastO : List Pi → Nat → Nat
 | [], last => last
 | y :: r, last => lastO r (stL y.p last)
theorem tkO_snoc : ∀ (pre : List Pi) (y : Pi) (last : Nat), tkO (pre ++ [y]) last = tkO pre last ++ stO y.p y.x (lastO pre last)
 | [], y, last => by
  show stO y.p y.x last ++ [] = [] ++ stO y.p y.x last
  rw [List.append_nil, List.nil_append]
 | z :: r, y, last => by
  show stO z.p z.x last ++ tkO (r ++ [y]) (stL z.p last) = (stO z.p z.x last ++ tkO r (stL z.p last)) ++ stO y.p y.x (lastO r (stL z.p last))
  rw [tkO_snoc r y, List.append_assoc]
def lastK (L : List TkN) : Nat := match L.getLast? with | none => 0 | some t => t.k
theorem lastK_snoc (L : List TkN) (t : TkN) : lastK (L ++ [t]) = t.k := by
 unfold lastK; rw [List.getLast?_concat]
theorem lastK_stO (L : List TkN) (p : Pc) (x : Nat) : lastK (L ++ stO p x (lastK L)) = stL p (lastK L) := by
 unfold stO stL
 split
 ·split
  ·rw [lastK_snoc]
  ·rw [List.append_nil]
 ·rw [lastK_snoc]
theorem lastO_all : ∀ (r : List Pi) (L : List TkN), lastK (L ++ tkO r (lastK L)) = lastO r (lastK L)
 | [], L => by
  show lastK (L ++ []) = lastK L
  rw [List.append_nil]
 | y :: r, L => by
  show lastK (L ++ (stO y.p y.x (lastK L) ++ tkO r (stL y.p (lastK L)))) = lastO r (stL y.p (lastK L))
  rw [← List.append_assoc, ← lastK_stO L y.p y.x]
  exact lastO_all r (L ++ stO y.p y.x (lastK L))
theorem lastO_is (pre : List Pi) : lastO pre 0 = lastK (tkO pre 0) := by
 have := lastO_all pre []
 rw [List.nil_append] at this
 exact this.symm
theorem stO_many (p : Pc) (x last : Nat) : (stO p x last).length ≤ 1 := by
 unfold stO
 split
 ·split <;> simp
 ·simp
theorem tkO_many : ∀ (pre : List Pi) (last : Nat), (tkO pre last).length ≤ pre.length
 | [], _ => Nat.le_refl _
 | y :: r, last => by
  show (stO y.p y.x last ++ tkO r _).length ≤ _
  rw [List.length_append, List.length_cons]
  have := stO_many y.p y.x last
  have := tkO_many r (stL y.p last)
  omega
theorem toks_pcs : ∀ (f : Nat) (l : List UInt8) (x last : Nat), l.length ≤ f → tkO (pcsF l x) last = toks l x last
 | _, [], x, last, _ => by
  rw [pcsF_nil, toks_nil]
  show stO _ _ _ ++ [] = _
  rw [List.append_nil]
 | 0, _ :: _, _, _, h => by simp at h
 | f + 1, c :: t, x, last, hf => by
  have hs := nextF_size c t
  have ih := toks_pcs f ((c :: t).drop (nextF (c :: t)).s) (x + (nextF (c :: t)).s) (stL (nextF (c :: t)) last) (by rw [List.length_drop]; simp only [List.length_cons] at hf ⊢; omega)
  rw [pcsF_go]
  show stO (nextF (c :: t)) x last ++ tkO _ (stL (nextF (c :: t)) last) = _
  rw [ih]
  by_cases hb : blkN (c :: t) = 0
  ·rw [nextF_pc hb, toks_go]
  ·rw [nextF_blk hb, toks_blk.stO_no2, toks_blk.stL_no2, List.nil_append]
   exact (toks_blk (c :: t) x last).symm
theorem pcs_many : ∀ (f : Nat) (l : List UInt8) (x : Nat), l.length ≤ f → (pcsF l x).length ≤ l.length + 1
 | _, [], x, _ => by rw [pcsF_nil]; simp
 | 0, _ :: _, _, h => by simp at h
 | f + 1, c :: t, x, hf => by
  have hs := nextF_size c t
  have ih := pcs_many f ((c :: t).drop (nextF (c :: t)).s) (x + (nextF (c :: t)).s) (by rw [List.length_drop]; simp only [List.length_cons] at hf ⊢; omega)
  rw [pcsF_go, List.length_cons]
  rw [List.length_drop] at ih
  simp only [List.length_cons] at ih ⊢
  omega
structure Tk where
 k : Int
 f : Int
 t : Int
 a : Bool
 e : Int
def TkN.up (t : TkN) : Tk := ⟨t.k, t.f, t.t, t.a, t.e⟩
end Go.Proofs.YtgkhjeefcflmcaaGreatDoor
namespace Go.Proofs.YtgkhjeefcflmcaaGreatDoor
open Go.RowKit Go.Sort
set_option linter.unusedSimpArgs false
set_option linter.unusedVariables false
set_option maxRecDepth 100000 in
set_option maxHeartbeats 2000000 in
theorem LetterP_run (r : Int) (w : World) : Calls Tryz.prog 14 #[.int .i32 r] w fun e w' => e = .returned (.bool (letB r)) ∧ w' = w := by
 rcases (by omega : (r ≤ 64) ∨ (65 ≤ r ∧ r ≤ 90) ∨ (91 ≤ r ∧ r ≤ 94) ∨ (r = 95) ∨ (r = 96) ∨ (97 ≤ r ∧ r ≤ 122) ∨ (123 ≤ r ∧ r ≤ 191) ∨ (192 ≤ r ∧ r ≤ 214) ∨ (r = 215) ∨ (216 ≤ r ∧ r ≤ 246) ∨ (r = 247) ∨ (248 ≤ r ∧ r ≤ 591) ∨ (592 ≤ r)) with h | h | h | rfl | rfl | h | h | h | rfl | h | rfl | h | h
 ·have hv : letB r = false := by
   unfold letB
   rw [if_neg (by omega)]
   exact decide_eq_false (by omega)
  rw [hv]
  have f1 : ¬ (97 : Int) ≤ r := by omega
  have f2 : ¬ (65 : Int) ≤ r := by omega
  have f3 : ¬ (192 : Int) ≤ r := by omega
  have f4 : r ≤ (90 : Int) := by omega
  have f5 : r ≤ (122 : Int) := by omega
  have f6 : r ≤ (591 : Int) := by omega
  have f7 : (r == (95 : Int)) = false := beq_eq_false_iff_ne.2 (by omega)
  have f8 : (r == (215 : Int)) = false := beq_eq_false_iff_ne.2 (by omega)
  have f9 : (r == (247 : Int)) = false := beq_eq_false_iff_ne.2 (by omega)
  clear hv h
  go_enter Tryz.func14, Tryz.ntmps14
  go_wp2_with fail
  go_ret
  exact ⟨rfl, rfl⟩
 ·have hv : letB r = true := by
   unfold letB
   rw [if_pos (by omega)]
  rw [hv]
  have f1 : ¬ (97 : Int) ≤ r := by omega
  have f2 : (65 : Int) ≤ r := by omega
  have f3 : ¬ (192 : Int) ≤ r := by omega
  have f4 : r ≤ (90 : Int) := by omega
  have f5 : r ≤ (122 : Int) := by omega
  have f6 : r ≤ (591 : Int) := by omega
  have f7 : (r == (95 : Int)) = false := beq_eq_false_iff_ne.2 (by omega)
  have f8 : (r == (215 : Int)) = false := beq_eq_false_iff_ne.2 (by omega)
  have f9 : (r == (247 : Int)) = false := beq_eq_false_iff_ne.2 (by omega)
  clear hv h
  go_enter Tryz.func14, Tryz.ntmps14
  go_wp2_with fail
  go_ret
  exact ⟨rfl, rfl⟩
 ·have hv : letB r = false := by
   unfold letB
   rw [if_neg (by omega)]
   exact decide_eq_false (by omega)
  rw [hv]
  have f1 : ¬ (97 : Int) ≤ r := by omega
  have f2 : (65 : Int) ≤ r := by omega
  have f3 : ¬ (192 : Int) ≤ r := by omega
  have f4 : ¬ r ≤ (90 : Int) := by omega
  have f5 : r ≤ (122 : Int) := by omega
  have f6 : r ≤ (591 : Int) := by omega
  have f7 : (r == (95 : Int)) = false := beq_eq_false_iff_ne.2 (by omega)
  have f8 : (r == (215 : Int)) = false := beq_eq_false_iff_ne.2 (by omega)
  have f9 : (r == (247 : Int)) = false := beq_eq_false_iff_ne.2 (by omega)
  clear hv h
  go_enter Tryz.func14, Tryz.ntmps14
  go_wp2_with fail
  go_ret
  exact ⟨rfl, rfl⟩
 ·rw [show letB 95 = true by decide]
  go_enter Tryz.func14, Tryz.ntmps14
  go_wp2_with fail
  go_ret
  exact ⟨rfl, rfl⟩
 ·rw [show letB 96 = false by decide]
  go_enter Tryz.func14, Tryz.ntmps14
  go_wp2_with fail
  go_ret
  exact ⟨rfl, rfl⟩
 ·have hv : letB r = true := by
   unfold letB
   rw [if_pos (by omega)]
  rw [hv]
  have f1 : (97 : Int) ≤ r := by omega
  have f2 : (65 : Int) ≤ r := by omega
  have f3 : ¬ (192 : Int) ≤ r := by omega
  have f4 : ¬ r ≤ (90 : Int) := by omega
  have f5 : r ≤ (122 : Int) := by omega
  have f6 : r ≤ (591 : Int) := by omega
  have f7 : (r == (95 : Int)) = false := beq_eq_false_iff_ne.2 (by omega)
  have f8 : (r == (215 : Int)) = false := beq_eq_false_iff_ne.2 (by omega)
  have f9 : (r == (247 : Int)) = false := beq_eq_false_iff_ne.2 (by omega)
  clear hv h
  go_enter Tryz.func14, Tryz.ntmps14
  go_wp2_with fail
  go_ret
  exact ⟨rfl, rfl⟩
 ·have hv : letB r = false := by
   unfold letB
   rw [if_neg (by omega)]
   exact decide_eq_false (by omega)
  rw [hv]
  have f1 : (97 : Int) ≤ r := by omega
  have f2 : (65 : Int) ≤ r := by omega
  have f3 : ¬ (192 : Int) ≤ r := by omega
  have f4 : ¬ r ≤ (90 : Int) := by omega
  have f5 : ¬ r ≤ (122 : Int) := by omega
  have f6 : r ≤ (591 : Int) := by omega
  have f7 : (r == (95 : Int)) = false := beq_eq_false_iff_ne.2 (by omega)
  have f8 : (r == (215 : Int)) = false := beq_eq_false_iff_ne.2 (by omega)
  have f9 : (r == (247 : Int)) = false := beq_eq_false_iff_ne.2 (by omega)
  clear hv h
  go_enter Tryz.func14, Tryz.ntmps14
  go_wp2_with fail
  go_ret
  exact ⟨rfl, rfl⟩
 ·have hv : letB r = true := by
   unfold letB
   rw [if_neg (by omega)]
   exact decide_eq_true (by omega)
  rw [hv]
  have f1 : (97 : Int) ≤ r := by omega
  have f2 : (65 : Int) ≤ r := by omega
  have f3 : (192 : Int) ≤ r := by omega
  have f4 : ¬ r ≤ (90 : Int) := by omega
  have f5 : ¬ r ≤ (122 : Int) := by omega
  have f6 : r ≤ (591 : Int) := by omega
  have f7 : (r == (95 : Int)) = false := beq_eq_false_iff_ne.2 (by omega)
  have f8 : (r == (215 : Int)) = false := beq_eq_false_iff_ne.2 (by omega)
  have f9 : (r == (247 : Int)) = false := beq_eq_false_iff_ne.2 (by omega)
  clear hv h
  go_enter Tryz.func14, Tryz.ntmps14
  go_wp2_with fail
  go_ret
  exact ⟨rfl, rfl⟩
 ·rw [show letB 215 = false by decide]
  go_enter Tryz.func14, Tryz.ntmps14
  go_wp2_with fail
  go_ret
  exact ⟨rfl, rfl⟩
 ·have hv : letB r = true := by
   unfold letB
   rw [if_neg (by omega)]
   exact decide_eq_true (by omega)
  rw [hv]
  have f1 : (97 : Int) ≤ r := by omega
  have f2 : (65 : Int) ≤ r := by omega
  have f3 : (192 : Int) ≤ r := by omega
  have f4 : ¬ r ≤ (90 : Int) := by omega
  have f5 : ¬ r ≤ (122 : Int) := by omega
  have f6 : r ≤ (591 : Int) := by omega
  have f7 : (r == (95 : Int)) = false := beq_eq_false_iff_ne.2 (by omega)
  have f8 : (r == (215 : Int)) = false := beq_eq_false_iff_ne.2 (by omega)
  have f9 : (r == (247 : Int)) = false := beq_eq_false_iff_ne.2 (by omega)
  clear hv h
  go_enter Tryz.func14, Tryz.ntmps14
  go_wp2_with fail
  go_ret
  exact ⟨rfl, rfl⟩
 ·rw [show letB 247 = false by decide]
  go_enter Tryz.func14, Tryz.ntmps14
  go_wp2_with fail
  go_ret
  exact ⟨rfl, rfl⟩
 ·have hv : letB r = true := by
   unfold letB
   rw [if_neg (by omega)]
   exact decide_eq_true (by omega)
  rw [hv]
  have f1 : (97 : Int) ≤ r := by omega
  have f2 : (65 : Int) ≤ r := by omega
  have f3 : (192 : Int) ≤ r := by omega
  have f4 : ¬ r ≤ (90 : Int) := by omega
  have f5 : ¬ r ≤ (122 : Int) := by omega
  have f6 : r ≤ (591 : Int) := by omega
  have f7 : (r == (95 : Int)) = false := beq_eq_false_iff_ne.2 (by omega)
  have f8 : (r == (215 : Int)) = false := beq_eq_false_iff_ne.2 (by omega)
  have f9 : (r == (247 : Int)) = false := beq_eq_false_iff_ne.2 (by omega)
  clear hv h
  go_enter Tryz.func14, Tryz.ntmps14
  go_wp2_with fail
  go_ret
  exact ⟨rfl, rfl⟩
 ·have hv : letB r = false := by
   unfold letB
   rw [if_neg (by omega)]
   exact decide_eq_false (by omega)
  rw [hv]
  have f1 : (97 : Int) ≤ r := by omega
  have f2 : (65 : Int) ≤ r := by omega
  have f3 : (192 : Int) ≤ r := by omega
  have f4 : ¬ r ≤ (90 : Int) := by omega
  have f5 : ¬ r ≤ (122 : Int) := by omega
  have f6 : ¬ r ≤ (591 : Int) := by omega
  have f7 : (r == (95 : Int)) = false := beq_eq_false_iff_ne.2 (by omega)
  have f8 : (r == (215 : Int)) = false := beq_eq_false_iff_ne.2 (by omega)
  have f9 : (r == (247 : Int)) = false := beq_eq_false_iff_ne.2 (by omega)
  clear hv h
  go_enter Tryz.func14, Tryz.ntmps14
  go_wp2_with fail
  go_ret
  exact ⟨rfl, rfl⟩
set_option maxRecDepth 100000 in
set_option maxHeartbeats 2000000 in
theorem isDigit_run (r : Int) (w : World) : Calls Tryz.prog 97 #[.int .i32 r] w fun e w' => e = .returned (.bool (digB r)) ∧ w' = w := by
 rcases (by omega : r ≤ 47 ∨ (48 ≤ r ∧ r ≤ 57) ∨ 58 ≤ r) with h | h | h
 ·rw [show digB r = false from decide_eq_false (by omega)]
  have f1 : ¬ (48 : Int) ≤ r := by omega
  have f2 : r ≤ (57 : Int) := by omega
  clear h
  go_enter Tryz.func97, Tryz.ntmps97
  go_wp2_with fail
  go_ret
  exact ⟨rfl, rfl⟩
 ·rw [show digB r = true from decide_eq_true (by omega)]
  have f1 : (48 : Int) ≤ r := by omega
  have f2 : r ≤ (57 : Int) := by omega
  clear h
  go_enter Tryz.func97, Tryz.ntmps97
  go_wp2_with fail
  go_ret
  exact ⟨rfl, rfl⟩
 ·rw [show digB r = false from decide_eq_false (by omega)]
  have f1 : (48 : Int) ≤ r := by omega
  have f2 : ¬ r ≤ (57 : Int) := by omega
  clear h
  go_enter Tryz.func97, Tryz.ntmps97
  go_wp2_with fail
  go_ret
  exact ⟨rfl, rfl⟩
def twoF (x y : UInt8) : List UInt8 → Bool
 | p :: q :: _ => p == x && q == y
 | _ => false
end Go.Proofs.YtgkhjeefcflmcaaGreatDoor
namespace Go.Proofs.YtgkhjeefcflmcaaGreatDoor
open Go.RowKit Go.Sort
set_option linter.unusedSimpArgs false
set_option linter.unusedVariables false
def tkCells (t : Tk) : List Value := [.int .i64 t.k, .int .i64 t.f, .int .i64 t.t, .bool t.a, .int .i64 t.e]
def tkC (t : TkN) : List Value := tkCells t.up
theorem tk_enc : EncOk tkCells 5 := ⟨by omega, fun e => ⟨rfl, fun u hu => by simp [tkCells] at hu; rcases hu with rfl | rfl | rfl | rfl | rfl <;> rfl⟩⟩
theorem tkn_enc : EncOk tkC 5 := ⟨by omega, fun e => tk_enc.2 e.up⟩
theorem tkn_slice : SliceV tkC 5 23 37 := ⟨tkn_enc, Tryz.underlying23, .agg #[.int .i64 0, .int .i64 0, .int .i64 0, .bool false, .int .i64 0], 40, by omega, by kernel_rfl, by kernel_rfl⟩
theorem tk_flat (L : List TkN) : (L.map TkN.up).flatMap tkCells = L.flatMap tkC := by
 induction L with
 | nil => rfl
 | cons t L ih => rw [List.map_cons, List.flatMap_cons, List.flatMap_cons, ih]; rfl
theorem tk_up {w : World} {B : Nat} {A : Option Addr} {L : List TkN} (h : CellsV tkC w B A L) : CellsV tkCells w B A (L.map TkN.up) := fun hp => by
 rw [tk_flat]
 exact h (by rw [List.length_map] at hp; exact hp)
theorem tk_get {w : World} {B : Nat} {A : Option Addr} {l : List Tk} (h : CellsV tkCells w B A l) {i : Nat} {x : Tk} (hx : l[i]? = some x) : ∃ b o, A = some ⟨b, o, none⟩ ∧ b < B ∧
  w.cell? ⟨b, o + i * 5, none⟩ = some (.int .i64 x.k) ∧ w.cell? ⟨b, o + i * 5 + 1, none⟩ = some (.int .i64 x.f) ∧ w.cell? ⟨b, o + i * 5 + 2, none⟩ = some (.int .i64 x.t) ∧ w.cell? ⟨b, o + i * 5 + 3, none⟩ = some (.bool x.a) ∧ w.cell? ⟨b, o + i * 5 + 4, none⟩ = some (.int .i64 x.e) := by
 have hp : 0 < l.length := by have := (List.getElem?_eq_some_iff.1 hx).1; omega
 obtain ⟨b, o, e, hb, hc⟩ := CellsV.get tk_enc h hp
 exact ⟨b, o, e, hb, hc i x hx 0 _ rfl, hc i x hx 1 _ rfl, hc i x hx 2 _ rfl, hc i x hx 3 _ rfl, hc i x hx 4 _ rfl⟩
theorem one_tk (w : World) (t : Tk) (T : TypeId) : CellsV tkCells (w.alloc (.cells #[.int .i64 t.k, .int .i64 t.f, .int .i64 t.t, .bool t.a, .int .i64 t.e] T)) (w.heap.size + 1) (some ⟨w.heap.size, 0, none⟩) [t] := fun _ => by
 refine ⟨_, _, rfl, by omega, fun j u hu => ?_⟩
 match j, hu with
 | 0, hu => cases hu; rw [World.cell?_alloc_at _ _ _ _ rfl]; rfl
 | 1, hu => cases hu; rw [World.cell?_alloc_at _ _ _ _ rfl]; rfl
 | 2, hu => cases hu; rw [World.cell?_alloc_at _ _ _ _ rfl]; rfl
 | 3, hu => cases hu; rw [World.cell?_alloc_at _ _ _ _ rfl]; rfl
 | 4, hu => cases hu; rw [World.cell?_alloc_at _ _ _ _ rfl]; rfl
theorem one_tkn (w : World) (t : TkN) (T : TypeId) : CellsV tkC (w.alloc (.cells #[.int .i64 t.k, .int .i64 t.f, .int .i64 t.t, .bool t.a, .int .i64 t.e] T)) (w.heap.size + 1) (some ⟨w.heap.size, 0, none⟩) [t] := one_tk w t.up T
structure TAt (w : World) (b : Nat) (t : Tk) : Prop where
 c0 : w.cell? ⟨b, 0, none⟩ = some (.int .i64 t.k)
 c1 : w.cell? ⟨b, 1, none⟩ = some (.int .i64 t.f)
 c2 : w.cell? ⟨b, 2, none⟩ = some (.int .i64 t.t)
 c3 : w.cell? ⟨b, 3, none⟩ = some (.bool t.a)
 c4 : w.cell? ⟨b, 4, none⟩ = some (.int .i64 t.e)
 f0 : w.frozen? ⟨b, 0, none⟩ = false
 f1 : w.frozen? ⟨b, 1, none⟩ = false
 f2 : w.frozen? ⟨b, 2, none⟩ = false
 f3 : w.frozen? ⟨b, 3, none⟩ = false
 f4 : w.frozen? ⟨b, 4, none⟩ = false
theorem TAt.keep {w w' : World} {b B : Nat} {t : Tk} (h : TAt w b t) (hb : Below B w w') (hB : b < B) : TAt w' b t :=
  ⟨(hb.cell (p := ⟨b, 0, none⟩) hB).trans h.c0, (hb.cell (p := ⟨b, 1, none⟩) hB).trans h.c1, (hb.cell (p := ⟨b, 2, none⟩) hB).trans h.c2, (hb.cell (p := ⟨b, 3, none⟩) hB).trans h.c3, (hb.cell (p := ⟨b, 4, none⟩) hB).trans h.c4,
   (hb.frozen (p := ⟨b, 0, none⟩) hB).trans h.f0, (hb.frozen (p := ⟨b, 1, none⟩) hB).trans h.f1, (hb.frozen (p := ⟨b, 2, none⟩) hB).trans h.f2, (hb.frozen (p := ⟨b, 3, none⟩) hB).trans h.f3, (hb.frozen (p := ⟨b, 4, none⟩) hB).trans h.f4⟩
theorem TAt.lt {w : World} {b : Nat} {t : Tk} (h : TAt w b t) : b < w.heap.size := World.block_lt_of_cell? w _ h.c0
theorem TAt.below {w w' : World} {b : Nat} {t : Tk} (h : TAt w b t) (hb : Below w.heap.size w w') : TAt w' b t := h.keep hb h.lt
theorem TAt.new (w : World) (t : Tk) (T : TypeId) : TAt (w.alloc (.cells #[.int .i64 t.k, .int .i64 t.f, .int .i64 t.t, .bool t.a, .int .i64 t.e] T)) w.heap.size t :=
  ⟨World.cell?_alloc_at _ _ _ _ rfl, World.cell?_alloc_at _ _ _ _ rfl, World.cell?_alloc_at _ _ _ _ rfl, World.cell?_alloc_at _ _ _ _ rfl, World.cell?_alloc_at _ _ _ _ rfl,
   World.frozen?_alloc_at _ _ _ _ rfl, World.frozen?_alloc_at _ _ _ _ rfl, World.frozen?_alloc_at _ _ _ _ rfl, World.frozen?_alloc_at _ _ _ _ rfl, World.frozen?_alloc_at _ _ _ _ rfl⟩
def AutoOk (L : List TkN) : Prop := ∀ t, L.getLast? = some t → t.a = true → t.k = 86
theorem AutoOk.nil : AutoOk [] := fun t h => by cases h
theorem AutoOk.step {L : List TkN} (h : AutoOk L) (p : Pc) (x : Nat) : AutoOk (L ++ stO p x (lastK L)) := by
 unfold stO
 split
 ·split
  ·intro t ht _
   rw [List.getLast?_concat] at ht
   cases ht
   rfl
  ·rw [List.append_nil]; exact h
 ·intro t ht ha
  rw [List.getLast?_concat] at ht
  cases ht
  cases ha
end Go.Proofs.YtgkhjeefcflmcaaGreatDoor
namespace Go.Proofs.YtgkhjeefcflmcaaGreatDoor
open Go.RowKit Go.Extern.Stop Go.Stop Go.Extern
set_option linter.unusedSimpArgs false
set_option linter.unusedVariables false
theorem enValueOfP (t : Addr) (w : World) : (ReflectliteValue.unpack (.iface 157 (.pointer (some t)))).run Tryz.prog w
  = .ok (.agg #[.pointer (some ⟨13, 157, none⟩), .pointer (some ⟨w.heap.size, 0, none⟩), .int .u64 150]) (w.alloc (.cells #[.pointer (some t)] 157)) := by kernel_rfl
theorem enTypeP (a : Addr) (w : World) : (ReflectliteValue.methodAny (ReflectliteValue.valueError "reflectlite.Value.Type" 0) (fun t _ _ _ => ReflectliteType.toType t) #[.agg #[.pointer (some ⟨13, 157, none⟩), .pointer (some a), .int .u64 150]]).run Tryz.prog w = .ok (.iface 103 (.agg #[.pointer (some ⟨13, 157, none⟩)])) w := by kernel_rfl
theorem enKindP (w : World) : ((ReflectliteType.abiMethod fun t => (fun a : Nat => Value.int IntKind.u8 (a : Int)) <$> Rtype.kind t) #[.pointer (some ⟨13, 157, none⟩)]).run Tryz.prog w = .ok (.int .u8 22) w := by kernel_rfl
theorem enKindS (w : World) : ((ReflectliteType.abiMethod fun t => (fun a : Nat => Value.int IntKind.u8 (a : Int)) <$> Rtype.kind t) #[.pointer (some ⟨13, 35, none⟩)]).run Tryz.prog w = .ok (.int .u8 2) w := by kernel_rfl
theorem enPartsP (a : Addr) (w : World) : (ReflectliteValue.parts (.agg #[.pointer (some ⟨13, 157, none⟩), .pointer (some a), .int .u64 150])).run Tryz.prog w = .ok (some (157, a, 150)) w := by kernel_rfl
theorem enIsNilP (a p : Addr) (W : World) (ha : W.cell? a = some (.pointer (some p))) :
  (ReflectliteValue.method (ReflectliteValue.valueError "reflectlite.Value.IsNil" 0) ReflectliteValue.isNil #[.agg #[.pointer (some ⟨13, 157, none⟩), .pointer (some a), .int .u64 150]]).run Tryz.prog W = .ok (.bool false) W := by
 rw [rlm]
 simp only [Sem.run_bind, enPartsP, Result.andThen]
 simp [ReflectliteValue.isNil, loadVar, isAgg, underlying, Tryz.underlying157, ha, Result.andThen]
theorem enElemP (w : World) : (ReflectliteType.method ReflectliteType.elem #[.agg #[.pointer (some ⟨13, 157, none⟩)]]).run Tryz.prog w = .ok (.iface 103 (.agg #[.pointer (some ⟨13, 35, none⟩)])) w := by kernel_rfl
theorem enImplementsS (w : World) : (ReflectliteType.relation "Implements" ReflectliteType.implements_ #[.agg #[.pointer (some ⟨13, 35, none⟩)], .iface 103 (.agg #[.pointer (some ⟨13, 25, none⟩)])]).run Tryz.prog w = .ok (.bool true) w := by kernel_rfl
theorem enTypeOfS (v : Value) (w : World) : (ReflectliteType.typeOf #[.iface 35 v]).run Tryz.prog w = .ok (.iface 103 (.agg #[.pointer (some ⟨13, 35, none⟩)])) w := by kernel_rfl
theorem enAssignableS (w : World) : (ReflectliteType.relation "AssignableTo" ReflectliteType.assignableTo #[.agg #[.pointer (some ⟨13, 35, none⟩)], .iface 103 (.agg #[.pointer (some ⟨13, 35, none⟩)])]).run Tryz.prog w = .ok (.bool true) w := by kernel_rfl
theorem enValueOfS (x : Int) (w : World) : (ReflectliteValue.unpack (.iface 35 (.int .i64 x))).run Tryz.prog w
  = .ok (.agg #[.pointer (some ⟨13, 35, none⟩), .pointer (some ⟨w.heap.size, 0, none⟩), .int .u64 130]) (w.alloc (.cells #[.int .i64 x] 35)) := by kernel_rfl
theorem enElemOfP (w : World) : (Rtype.elem? 157).run Tryz.prog w = .ok (some 35) w := by kernel_rfl
theorem enMkS (p : Addr) (w : World) : (ReflectliteValue.mk 35 p ReflectliteValue.flagAddr).run Tryz.prog w = .ok (.agg #[.pointer (some ⟨13, 35, none⟩), .pointer (some p), .int .u64 386]) w := by kernel_rfl
theorem enElemVP (a p : Addr) (W : World) (ha : W.cell? a = some (.pointer (some p))) :
  (ReflectliteValue.method (ReflectliteValue.valueError "reflectlite.Value.Elem" 0) ReflectliteValue.elem #[.agg #[.pointer (some ⟨13, 157, none⟩), .pointer (some a), .int .u64 150]]).run Tryz.prog W
   = .ok (.agg #[.pointer (some ⟨13, 35, none⟩), .pointer (some p), .int .u64 386]) W := by
 rw [rlm]
 simp only [Sem.run_bind, enPartsP, Result.andThen]
 simp [ReflectliteValue.elem, loadVar, isAgg, underlying, Tryz.underlying157, ha, Result.andThen, enElemOfP, enMkS]
theorem enPartsSa (a : Addr) (w : World) : (ReflectliteValue.parts (.agg #[.pointer (some ⟨13, 35, none⟩), .pointer (some a), .int .u64 386])).run Tryz.prog w = .ok (some (35, a, 386)) w := by kernel_rfl
theorem enPartsS (a : Addr) (w : World) : (ReflectliteValue.parts (.agg #[.pointer (some ⟨13, 35, none⟩), .pointer (some a), .int .u64 130])).run Tryz.prog w = .ok (some (35, a, 130)) w := by kernel_rfl
theorem enDirectS (w : World) : (Rtype.directlyAssignable 35 35).run Tryz.prog w = .ok true w := by kernel_rfl
theorem enSet (tb b : Nat) (x : Int) (u : Value) (W : World) (hb0 : W.cell? ⟨b, 0, none⟩ = some (.int .i64 x)) (ht0 : W.cell? ⟨tb, 0, none⟩ = some u) (hf0 : W.frozen? ⟨tb, 0, none⟩ = false) :
  (ReflectliteValue.set #[.agg #[.pointer (some ⟨13, 35, none⟩), .pointer (some ⟨tb, 0, none⟩), .int .u64 386], .agg #[.pointer (some ⟨13, 35, none⟩), .pointer (some ⟨b, 0, none⟩), .int .u64 130]]).run Tryz.prog W
   = .ok (.tuple #[]) (W.setCell ⟨tb, 0, none⟩ (.int .i64 x)) := by
 have s1 : (store ⟨tb, 0, none⟩ (.int .i64 x)).run Tryz.prog W = .ok () (W.setCell ⟨tb, 0, none⟩ (.int .i64 x)) := by
  rw [run_store Tryz.prog W ⟨tb, 0, none⟩ (.int .i64 x) _ rfl]; simp [ht0, hf0]
 have hs : (storeCells ⟨tb, 0, none⟩ [.int .i64 x]).run Tryz.prog W = .ok () (W.setCell ⟨tb, 0, none⟩ (.int .i64 x)) := by
  have a0 : (⟨tb, 0, none⟩ : Addr).add 0 = ⟨tb, 0, none⟩ := rfl
  simp only [storeCells, Sem.run_bind, a0, s1, Result.andThen, Sem.run_pure]
 obtain ⟨s1', s2, s3, s4, s5, hr⟩ := rls (.agg #[.pointer (some ⟨13, 35, none⟩), .pointer (some ⟨tb, 0, none⟩), .int .u64 386]) (.agg #[.pointer (some ⟨13, 35, none⟩), .pointer (some ⟨b, 0, none⟩), .int .u64 130])
 rw [hr]
 simp only [Sem.run_bind, enPartsSa, enPartsS, Result.andThen]
 simp [ReflectliteValue.flagAddr, loadVar, isAgg, underlying, Tryz.underlying35, Result.andThen, enDirectS, storeVar, Value.cells, hb0, hs]
set_option maxHeartbeats 4000000 in
theorem as_hitE (k : Int) (tb : Nat) (u : Value) (w : World) (hg : w.cell? ⟨0, 0, none⟩ = some (.iface 103 (.agg #[.pointer (some ⟨13, 25, none⟩)])))
  (ht0 : w.cell? ⟨tb, 0, none⟩ = some u) (hf0 : w.frozen? ⟨tb, 0, none⟩ = false) :
  Calls Tryz.prog 26 #[.iface 35 (.int .i64 k), .iface 157 (.pointer (some ⟨tb, 0, none⟩))] w fun ev w' => ev = .returned (.bool true) ∧
   w' = ((((w.alloc (.cells #[.pointer (some ⟨tb, 0, none⟩)] 157)).alloc (.cells #[.pointer (some ⟨13, 157, none⟩), .pointer (some ⟨w.heap.size, 0, none⟩), .int .u64 150] 74)).alloc (.cells #[.pointer (some ⟨13, 157, none⟩), .pointer (some ⟨w.heap.size, 0, none⟩), .int .u64 150] 74)).alloc (.cells #[.int .i64 k] 35)).setCell ⟨tb, 0, none⟩ (.int .i64 k) := by
 have r1 := asRun1
 have r2 := asRun2
 have r3 := asRun3
 have r4 := asRun4
 have r5 := asRun5
 have r6 := asRun6
 have r7 := asRun7
 have r8 := asRun8
 have r9 := asRun9
 have rT := runTypeOf
 have tO := enTypeOfS
 have mA := asMethodAssignableTo
 have aS := enAssignableS
 have f6 := enValueOfP
 have vS := enValueOfS
 have f7 := enTypeP
 have mK := asMethodKind
 have mE := asMethodElem
 have mI := asMethodImplements
 have k27 := enKindP
 have k25 := enKindS
 have e27 := enElemP
 have i25 := enImplementsS
 have hlt : 0 < w.heap.size := by
  rcases Nat.lt_or_ge 0 w.heap.size with h | h
  ·exact h
  ·simp [World.cell?, Array.getElem?_eq_none h] at hg
 have htl : tb < w.heap.size := by
  rcases Nat.lt_or_ge tb w.heap.size with h | h
  ·exact h
  ·simp [World.cell?, Array.getElem?_eq_none h] at ht0
 have n8 := enIsNilP ⟨w.heap.size, 0, none⟩ ⟨tb, 0, none⟩ ((w.alloc (.cells #[.pointer (some ⟨tb, 0, none⟩)] 157)).alloc (.cells #[.pointer (some ⟨13, 157, none⟩), .pointer (some ⟨w.heap.size, 0, none⟩), .int .u64 150] 74)) (by simp)
 have hg2 : ((w.alloc (.cells #[.pointer (some ⟨tb, 0, none⟩)] 157)).alloc (.cells #[.pointer (some ⟨13, 157, none⟩), .pointer (some ⟨w.heap.size, 0, none⟩), .int .u64 150] 74)).cell? ⟨0, 0, none⟩ = some (.iface 103 (.agg #[.pointer (some ⟨13, 25, none⟩)])) := by
  rw [World.cell?_alloc_lt _ _ ⟨0, 0, none⟩ (by simp <;> omega), World.cell?_alloc_lt _ _ ⟨0, 0, none⟩ hlt]; exact hg
 have el := enElemVP ⟨w.heap.size, 0, none⟩ ⟨tb, 0, none⟩ (((w.alloc (.cells #[.pointer (some ⟨tb, 0, none⟩)] 157)).alloc (.cells #[.pointer (some ⟨13, 157, none⟩), .pointer (some ⟨w.heap.size, 0, none⟩), .int .u64 150] 74)).alloc (.cells #[.pointer (some ⟨13, 157, none⟩), .pointer (some ⟨w.heap.size, 0, none⟩), .int .u64 150] 74)) (by rw [World.cell?_alloc_lt _ _ ⟨w.heap.size, 0, none⟩ (by simp <;> omega)]; simp)
 have old0 : ∀ j, ((((w.alloc (.cells #[.pointer (some ⟨tb, 0, none⟩)] 157)).alloc (.cells #[.pointer (some ⟨13, 157, none⟩), .pointer (some ⟨w.heap.size, 0, none⟩), .int .u64 150] 74)).alloc (.cells #[.pointer (some ⟨13, 157, none⟩), .pointer (some ⟨w.heap.size, 0, none⟩), .int .u64 150] 74)).alloc (.cells #[.int .i64 k] 35)).cell? ⟨tb, j, none⟩ = w.cell? ⟨tb, j, none⟩ := fun j => by
  rw [World.cell?_alloc_lt _ _ ⟨tb, j, none⟩ (by simp <;> omega), World.cell?_alloc_lt _ _ ⟨tb, j, none⟩ (by simp <;> omega), World.cell?_alloc_lt _ _ ⟨tb, j, none⟩ (by simp <;> omega), World.cell?_alloc_lt _ _ ⟨tb, j, none⟩ htl]
 have oldf : ∀ j, ((((w.alloc (.cells #[.pointer (some ⟨tb, 0, none⟩)] 157)).alloc (.cells #[.pointer (some ⟨13, 157, none⟩), .pointer (some ⟨w.heap.size, 0, none⟩), .int .u64 150] 74)).alloc (.cells #[.pointer (some ⟨13, 157, none⟩), .pointer (some ⟨w.heap.size, 0, none⟩), .int .u64 150] 74)).alloc (.cells #[.int .i64 k] 35)).frozen? ⟨tb, j, none⟩ = w.frozen? ⟨tb, j, none⟩ := fun j => by
  rw [World.frozen?_alloc_old _ _ ⟨tb, j, none⟩ (by simp <;> omega), World.frozen?_alloc_old _ _ ⟨tb, j, none⟩ (by simp <;> omega), World.frozen?_alloc_old _ _ ⟨tb, j, none⟩ (by simp <;> omega), World.frozen?_alloc_old _ _ ⟨tb, j, none⟩ (Nat.ne_of_lt htl)]
 have st := enSet tb (w.heap.size + 1 + 1 + 1) k u ((((w.alloc (.cells #[.pointer (some ⟨tb, 0, none⟩)] 157)).alloc (.cells #[.pointer (some ⟨13, 157, none⟩), .pointer (some ⟨w.heap.size, 0, none⟩), .int .u64 150] 74)).alloc (.cells #[.pointer (some ⟨13, 157, none⟩), .pointer (some ⟨w.heap.size, 0, none⟩), .int .u64 150] 74)).alloc (.cells #[.int .i64 k] 35))
  (by rw [World.cell?_alloc_at _ _ _ _ (by simp)]; rfl) (by rw [old0]; exact ht0) (by rw [oldf]; exact hf0)
 have H0 := Lib.hid old0
 have H1 := Lib.hid oldf
 clear old0 oldf
 go_enter Tryz.func26, Tryz.ntmps26
 go_wp2
 refine wp_loop_rounds 1 ?_
 rw [rounds_succ]
 go_wp2
 go_ret
 exact ⟨rfl, rfl⟩
set_option maxHeartbeats 4000000 in
theorem as_nilE (v : Value) (w : World) : Calls Tryz.prog 26 #[.nilIface, v] w fun ev w' => ev = .returned (.bool false) ∧ w' = w := by
 go_enter Tryz.func26, Tryz.ntmps26
 go_wp2_with fail
 go_ret
 exact ⟨rfl, rfl⟩
theorem as_hitB (k : Int) (tb : Nat) (u : Value) (w : World) (hg : ErrType w) (ht0 : w.cell? ⟨tb, 0, none⟩ = some u) (hf0 : w.frozen? ⟨tb, 0, none⟩ = false) :
  Calls Tryz.prog 26 #[.iface 35 (.int .i64 k), .iface 157 (.pointer (some ⟨tb, 0, none⟩))] w fun ev w' => ev = .returned (.bool true) ∧ (w'.cell? ⟨tb, 0, none⟩ = some (.int .i64 k) ∧ Below tb w w') := by
 have hlt : tb < w.heap.size := World.block_lt_of_cell? w _ ht0
 refine (as_hitE k tb u w hg ht0 hf0).mono ?_
 rintro e w' ⟨rfl, rfl⟩
 refine ⟨rfl, ?_, ?_⟩
 ·refine World.cell?_setCell_same' _ _ _ ?_
  have : ∀ (W : World) (o : Obj), tb < W.heap.size → (W.cell? ⟨tb, 0, none⟩).isSome = true → ((W.alloc o).cell? ⟨tb, 0, none⟩).isSome = true := fun W o h h2 => by rw [World.cell?_alloc_lt _ _ ⟨tb, 0, none⟩ h]; exact h2
  exact this _ _ (by simp; omega) (this _ _ (by simp; omega) (this _ _ (by simp; omega) (this _ _ hlt (by rw [ht0]; rfl))))
 ·exact (((((Below.refl tb w).alloc (by omega) _).alloc (by simp; omega) _).alloc (by simp; omega) _).alloc (by simp; omega) _).setCell (p := ⟨tb, 0, none⟩) (Nat.le_refl _) _
set_option maxRecDepth 100000 in
set_option maxHeartbeats 4000000 in
theorem errno_run (e : Nat) (w : World) (hg : ErrType w) : Calls Tryz.prog 72 #[errV e] w fun ev w' => ev = .returned (.int .i64 (e : Int)) ∧ Below w.heap.size w w' := by
 by_cases h0 : e = 0
 ·subst h0
  show Calls _ _ #[.nilIface] _ _
  have HA := Lib.hid (fun v V => as_nilE v V)
  go_enter Tryz.func72, Tryz.ntmps72
  go_wp2_with fail
  refine (HA.out _ _).mono ?_
  rintro ev w1 ⟨rfl, rfl⟩
  go_wp2_with fail
  go_ret
  exact ⟨rfl, (Below.refl _ _).alloc (Nat.le_refl _) _⟩
 ·have he : errV e = .iface 35 (.int .i64 (e : Int)) := by unfold errV; rw [if_neg h0]; rfl
  rw [he]
  have HA : Hid (Calls Tryz.prog 26 #[.iface 35 (.int .i64 (e : Int)), .iface 157 (.pointer (some ⟨w.heap.size, 0, none⟩))] (w.alloc (.cells #[.int .i64 0] 35)) fun ev w' => ev = .returned (.bool true) ∧ (w'.cell? ⟨w.heap.size, 0, none⟩ = some (.int .i64 (e : Int)) ∧ Below w.heap.size (w.alloc (.cells #[.int .i64 0] 35)) w')) :=
   as_hitB (e : Int) w.heap.size (.int .i64 0) _ (hg.alloc _) (World.cell?_alloc_at _ _ _ _ rfl) (World.frozen?_alloc_at _ _ _ _ rfl)
  clear he
  go_enter Tryz.func72, Tryz.ntmps72
  go_wp2_with fail
  refine HA.out.mono ?_
  rintro ev w1 ⟨rfl, hc, hw1⟩
  have HW := Lib.hid hw1
  clear hw1 HA
  go_wp2_with fail
  go_ret
  exact ⟨rfl, ((Below.refl _ w).alloc (Nat.le_refl _) _).trans HW.out⟩
end Go.Proofs.YtgkhjeefcflmcaaGreatDoor
namespace Go.Proofs.YtgkhjeefcflmcaaGreatDoor
open Go.RowKit Go.Sort
set_option linter.unusedSimpArgs false
set_option linter.unusedVariables false
structure CAt (w : World) (cb : Nat) (A : Option Addr) (n cap a : Nat) (t : Tk) (br : Bool) : Prop where
 c0 : w.cell? ⟨cb, 0, none⟩ = some (.slice A n cap)
 c1 : w.cell? ⟨cb, 1, none⟩ = some (.int .i64 (a : Int))
 c2 : w.cell? ⟨cb, 2, none⟩ = some (.int .i64 t.k)
 c3 : w.cell? ⟨cb, 3, none⟩ = some (.int .i64 t.f)
 c4 : w.cell? ⟨cb, 4, none⟩ = some (.int .i64 t.t)
 c5 : w.cell? ⟨cb, 5, none⟩ = some (.bool t.a)
 c6 : w.cell? ⟨cb, 6, none⟩ = some (.int .i64 t.e)
 c7 : w.cell? ⟨cb, 7, none⟩ = some (.bool br)
 f2 : w.frozen? ⟨cb, 2, none⟩ = false
 f3 : w.frozen? ⟨cb, 3, none⟩ = false
 f4 : w.frozen? ⟨cb, 4, none⟩ = false
 f5 : w.frozen? ⟨cb, 5, none⟩ = false
 f6 : w.frozen? ⟨cb, 6, none⟩ = false
 f7 : w.frozen? ⟨cb, 7, none⟩ = false
theorem CAt.keep {w w' : World} {cb B n cap a : Nat} {A : Option Addr} {t : Tk} {br : Bool} (h : CAt w cb A n cap a t br) (hb : Below B w w') (hB : cb < B) : CAt w' cb A n cap a t br :=
  ⟨(hb.cell (p := ⟨cb, 0, none⟩) hB).trans h.c0, (hb.cell (p := ⟨cb, 1, none⟩) hB).trans h.c1, (hb.cell (p := ⟨cb, 2, none⟩) hB).trans h.c2, (hb.cell (p := ⟨cb, 3, none⟩) hB).trans h.c3,
   (hb.cell (p := ⟨cb, 4, none⟩) hB).trans h.c4, (hb.cell (p := ⟨cb, 5, none⟩) hB).trans h.c5, (hb.cell (p := ⟨cb, 6, none⟩) hB).trans h.c6, (hb.cell (p := ⟨cb, 7, none⟩) hB).trans h.c7,
   (hb.frozen (p := ⟨cb, 2, none⟩) hB).trans h.f2, (hb.frozen (p := ⟨cb, 3, none⟩) hB).trans h.f3, (hb.frozen (p := ⟨cb, 4, none⟩) hB).trans h.f4, (hb.frozen (p := ⟨cb, 5, none⟩) hB).trans h.f5,
   (hb.frozen (p := ⟨cb, 6, none⟩) hB).trans h.f6, (hb.frozen (p := ⟨cb, 7, none⟩) hB).trans h.f7⟩
theorem CAt.lt {w : World} {cb n cap a : Nat} {A : Option Addr} {t : Tk} {br : Bool} (h : CAt w cb A n cap a t br) : cb < w.heap.size := World.block_lt_of_cell? w _ h.c0
theorem CAt.below {w w' : World} {cb n cap a : Nat} {A : Option Addr} {t : Tk} {br : Bool} (h : CAt w cb A n cap a t br) (hb : Below w.heap.size w w') : CAt w' cb A n cap a t br := h.keep hb h.lt
theorem CAt.new (w : World) (A : Option Addr) (n cap a : Nat) (T : TypeId) : CAt (w.alloc (.cells #[.slice A n cap, .int .i64 (a : Int), .int .i64 0, .int .i64 0, .int .i64 0, .bool false, .int .i64 0, .bool false] T)) w.heap.size A n cap a ⟨0, 0, 0, false, 0⟩ false := by
 constructor <;> first | exact World.cell?_alloc_at _ _ _ _ rfl | exact World.frozen?_alloc_at _ _ _ _ rfl
def piAt (p : Pc) (a : Nat) : Tk := ⟨p.k, a, (a + p.s : Nat), false, p.e⟩
def Left (V : World) (cb : Nat) (A : Option Addr) (n cap a : Nat) (t : Tk) (br : Bool) (V' : World) : Prop := CAt V' cb A n cap a t br ∧ Below cb V V'
set_option maxRecDepth 100000 in
set_option maxHeartbeats 8000000 in
theorem take_run (V : World) (cb : Nat) (A : Option Addr) (n cap a : Nat) (t : Tk) (br : Bool) (h : CAt V cb A n cap a t br) (k s e : Nat) (ha : a ≤ 1000) (hs : s ≤ 1000) :
  Calls Tryz.prog 66 #[.pointer (some ⟨cb, 0, none⟩), .int .i64 (k : Int), .int .i64 (s : Int), .int .i64 (e : Int)] V fun en V' => en = .returned (.tuple #[]) ∧ Left V cb A n cap a ⟨k, a, (a + s : Nat), false, e⟩ false V' := by
 have HC := Lib.hid h
 have hlim : a + s ≤ 2000 := by omega
 obtain ⟨c0, c1, c2, c3, c4, c5, c6, c7, f2, f3, f4, f5, f6, f7⟩ := h
 go_enter Tryz.func66, Tryz.ntmps66
 go_wp2_with fail
 go_still_tail 17, (by kernel_rfl)
 change wpList _ _ _ _ _ V.drew
 have HC2 := HC.out.below ((Below.refl _ V).drew)
 have HB2 : Hid (Below cb V V.drew) := (Below.refl cb V).drew
 clear c0 c1 c2 c3 c4 c5 c6 c7 f2 f3 f4 f5 f6 f7 HC
 generalize V.drew = w2 at *
 have HC3 := Lib.hid HC2
 obtain ⟨c0, c1, c2, c3, c4, c5, c6, c7, f2, f3, f4, f5, f6, f7⟩ := HC2
 go_wp2_with fail
 go_end0
 refine ⟨rfl, ?_, ?_⟩
 ·clear HC3
  constructor <;> go_simp
 ·exact (((((HB2.out.setCell (p := ⟨cb, 2, none⟩) (Nat.le_refl _) _).setCell (p := ⟨cb, 3, none⟩) (Nat.le_refl _) _).setCell (p := ⟨cb, 4, none⟩) (Nat.le_refl _) _).setCell (p := ⟨cb, 5, none⟩) (Nat.le_refl _) _).setCell (p := ⟨cb, 6, none⟩) (Nat.le_refl _) _).setCell (p := ⟨cb, 7, none⟩) (Nat.le_refl _) _
end Go.Proofs.YtgkhjeefcflmcaaGreatDoor
