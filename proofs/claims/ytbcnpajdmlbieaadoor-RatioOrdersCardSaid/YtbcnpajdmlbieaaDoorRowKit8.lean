/-
  What the rows of stage 8 need: from the rows' conditions (a ratio that came in by value; the listed tables) to what the walks are told.
-/
import Derived.Test.YtbcnpajdmlbieaaDoorRows
import Derived.Test.YtbcnpajdmlbieaaDoorRtB
import Derived.ProofKit
import Derived.LaidMore
import Derived.OpenShut
import Derived.Stop.Joined
import Derived.ChangeOld
import Derived.Lib.LaidTab
import Derived.Deep.Slices
namespace Go.Proofs.YtbcnpajdmlbieaaDoor
open Go.ChangeShapes Go.WideShapes Go.ChangeAt Go.RowKit Go.Deep

theorem own : ownKnob Tryd.prog.godebug = none := by kernel_rfl
theorem laidOut : laidOutB Tryd.prog = true := by kernel_rfl
/-- Words tell a number. -/
theorem num_of_words {B : Nat} (hB : 0 < B) : ∀ (k : Nat) (f : Nat → Nat), (∀ i, i < k → f i < B) → ∃ n, n < B ^ k ∧ ∀ i, i < k → dig B n i = f i
  | 0, _, _ => ⟨0, by simp, fun i hi => absurd hi (by omega)⟩
  | k + 1, f, hf => by
    obtain ⟨m, hm, hd⟩ := num_of_words hB k (fun i => f (i + 1)) (fun i hi => hf (i + 1) (by omega))
    have h0 := hf 0 (by omega)
    refine ⟨f 0 + B * m, ?_, fun i hi => ?_⟩
    · calc f 0 + B * m < B + B * m := by omega
        _ = B * (m + 1) := by rw [Nat.mul_add, Nat.mul_one, Nat.add_comm]
        _ ≤ B * B ^ k := Nat.mul_le_mul_left _ hm
        _ = B ^ (k + 1) := by rw [Nat.pow_succ, Nat.mul_comm]
    · have e1 : (f 0 + B * m) % B = f 0 := by rw [Nat.add_mul_mod_self_left, Nat.mod_eq_of_lt h0]
      have e2 : (f 0 + B * m) / B = m := by rw [Nat.add_mul_div_left _ _ hB, Nat.div_eq_of_lt h0, Nat.zero_add]
      cases i with
      | zero => unfold dig; rw [Nat.pow_zero, Nat.div_one, e1]
      | succ i =>
        rw [← hd i (by omega)]
        show (f 0 + B * m) / B ^ (i + 1) % B = m / B ^ i % B
        rw [Nat.pow_succ', ← Nat.div_div_eq_div_mul, e2]
theorem fits_zero : Fits 0 := Nat.pow_pos (by decide)
section
variable {H : Type} {enc : TypeId × Value → H} {W : World} {sp : Nat → Bool} {fuel : Nat} {cs : List Value} {x : DataW H × List MemPlace}
theorem cells_words : Tryd.prog.cellsOf 23 = 8 := by kernel_rfl
theorem cells_int : Tryd.prog.cellsOf 25 = 9 := by kernel_rfl
theorem cells_rat : Tryd.prog.cellsOf 27 = 18 := by kernel_rfl
theorem cells_u64 : Tryd.prog.cellsOf 22 = 1 := by kernel_rfl
theorem cells_bool : Tryd.prog.cellsOf 4 = 1 := by kernel_rfl
theorem open_words (h : DataW.trod enc Tryd.prog W 0 sp true fuel 23 cs = some x) :
    ∃ n, Fits n ∧ cs = [.int .u64 (wd n 0 : Int), .int .u64 (wd n 1 : Int), .int .u64 (wd n 2 : Int), .int .u64 (wd n 3 : Int), .int .u64 (wd n 4 : Int), .int .u64 (wd n 5 : Int), .int .u64 (wd n 6 : Int), .int .u64 (wd n 7 : Int)] := by
  obtain ⟨xs, m, _, _, hlen, hxl, hi⟩ := DataW.trod_array (show Tryd.prog.underlying 23 = some (.array 8 22) by kernel_rfl) h
  rw [cells_words] at hlen
  rw [cells_u64] at hi
  have each : ∀ i, i < 8 → ∃ k : Nat, k < 18446744073709551616 ∧ cs[i]? = some (.int .u64 (k : Int)) := fun i h8 => by
    have t0 := hi i h8
    rw [List.getElem?_eq_getElem (by omega : i < xs.length)] at t0
    obtain ⟨z, hz, _, hw⟩ := DataW.trod_int (show Tryd.prog.underlying 22 = some (.int .u64) by kernel_rfl) t0
    have hb : 0 ≤ z ∧ z ≤ 18446744073709551615 := by simpa [Lit.wf, IntKind.min, IntKind.max, IntKind.signed, IntKind.bits] using hw
    refine ⟨z.toNat, by omega, ?_⟩
    have e : ((z.toNat : Nat) : Int) = z := by omega
    rw [e]
    have := congrArg (·[0]?) hz
    simpa [List.getElem?_take, List.getElem?_drop] using this
  obtain ⟨n, hn, hd⟩ := num_of_words (B := 18446744073709551616) (by decide) 8 (fun i => if hi : i < 8 then (each i hi).choose else 0) (fun i h8 => by simp only [dif_pos h8]; exact (each i h8).choose_spec.1)
  refine ⟨n, hn, ?_⟩
  have hc : ∀ i, i < 8 → cs[i]? = some (.int .u64 (wd n i : Int)) := fun i h8 => by
    have e : wd n i = (each i h8).choose := by
      have := hd i h8
      simp only [dif_pos h8] at this
      exact this
    rw [e]
    exact (each i h8).choose_spec.2
  refine List.ext_getElem? fun i => ?_
  rcases Nat.lt_or_ge i 8 with h8 | h8
  · rw [hc i h8]
    rcases i with _ | _ | _ | _ | _ | _ | _ | _ | i
    all_goals first | rfl | omega
  · rw [List.getElem?_eq_none (by omega), List.getElem?_eq_none (by simp; omega)]
theorem fInt : (Tryd.prog.fieldsOf 25).toList.map (fun f => (f.type, f.offset)) = [(4, 0), (23, 1)] := by kernel_rfl
theorem fRat : (Tryd.prog.fieldsOf 27).toList.map (fun f => (f.type, f.offset)) = [(25, 0), (25, 9)] := by kernel_rfl
theorem two_fields {fs : Array Field} {a b c d : Nat} (h : fs.toList.map (fun f => (f.type, f.offset)) = [(a, b), (c, d)]) : ∃ f0 f1 : Field, fs = #[f0, f1] ∧ f0.type = a ∧ f0.offset = b ∧ f1.type = c ∧ f1.offset = d := by
  obtain ⟨l⟩ := fs
  match l, h with
  | [f0, f1], h =>
    simp at h
    exact ⟨f0, f1, rfl, h.1.1, h.1.2, h.2.1, h.2.2⟩
theorem open_num (h : DataW.trod enc Tryd.prog W 0 sp true fuel 25 cs = some x) : ∃ s n, Fits n ∧ cs = [.bool s, .int .u64 (wd n 0 : Int), .int .u64 (wd n 1 : Int), .int .u64 (wd n 2 : Int), .int .u64 (wd n 3 : Int), .int .u64 (wd n 4 : Int), .int .u64 (wd n 5 : Int), .int .u64 (wd n 6 : Int), .int .u64 (wd n 7 : Int)] := by
  obtain ⟨f0, f1, hfs, a0, b0, a1, b1⟩ := two_fields fInt
  have hu : Tryd.prog.underlying 25 = some (.struct (Tryd.prog.fieldsOf 25)) := by kernel_rfl
  rw [hfs] at hu
  obtain ⟨y0, y1, n, _, hlen, h0, h1⟩ := trod_struct2 hu h
  rw [a0, b0, cells_bool] at h0
  rw [a1, b1, cells_words] at h1
  rw [cells_int] at hlen
  obtain ⟨s, hs, _⟩ := DataW.trod_bool (show Tryd.prog.underlying 4 = some .bool by kernel_rfl) h0
  obtain ⟨m, hm, hw⟩ := open_words h1
  refine ⟨s, m, hm, ?_⟩
  obtain ⟨c, l, rfl⟩ : ∃ c l, cs = c :: l := by cases cs with | nil => cases hlen | cons c l => exact ⟨c, l, rfl⟩
  have hl : l.length = 8 := by simpa using hlen
  have e1 : c = .bool s := by simpa using hs
  rw [List.drop_one, List.tail_cons, List.take_of_length_le (Nat.le_of_eq hl)] at hw
  rw [e1, hw]
theorem cons_agg {a b : List Value} {cs : Array Value} (h : cs.toList = a ++ b) {r : Array Value} (hr : r.toList = a ++ b) : Value.agg cs = .agg r := by
  congr 1
  exact Array.toList_inj.1 (h.trans hr.symm)
set_option maxRecDepth 20000 in
theorem open_rat {b0 : Nat} {v : Value} {d : DataW H} {p : List MemPlace} (hv : Value.okWide Tryd.prog W .any b0 27 v) (h : DataW.Trod enc Tryd.prog W 0 sp true 27 v d p) :
    ∃ (s : Bool) (n : Nat) (t : Bool) (e : Nat), v = ratV s n t e ∧ Fits n ∧ Fits e := by
  obtain ⟨f0, f1, hfs, c0, b0, c1, b1⟩ := two_fields fRat
  have hu : Tryd.prog.underlying 27 = some (.struct (Tryd.prog.fieldsOf 27)) := by kernel_rfl
  rw [hfs] at hu
  obtain ⟨cs, rfl, hsz⟩ := okWide_struct hu hv
  obtain ⟨fuel, hf⟩ := h
  obtain ⟨y0, y1, n, _, hlen, h0, h1⟩ := trod_struct2 hu hf
  rw [c0, b0, cells_int] at h0
  rw [c1, b1, cells_int] at h1
  rw [cells_rat] at hlen
  obtain ⟨s, n, hn, e0⟩ := open_num h0
  obtain ⟨t, e, he, e1⟩ := open_num h1
  clear h0 h1
  refine ⟨s, n, t, e, ?_, hn, he⟩
  have hl : cs.toList.length = 18 := hlen
  have hcs : cs.toList = [.bool s, .int .u64 (wd n 0 : Int), .int .u64 (wd n 1 : Int), .int .u64 (wd n 2 : Int), .int .u64 (wd n 3 : Int), .int .u64 (wd n 4 : Int), .int .u64 (wd n 5 : Int), .int .u64 (wd n 6 : Int), .int .u64 (wd n 7 : Int)] ++ [.bool t, .int .u64 (wd e 0 : Int), .int .u64 (wd e 1 : Int), .int .u64 (wd e 2 : Int), .int .u64 (wd e 3 : Int), .int .u64 (wd e 4 : Int), .int .u64 (wd e 5 : Int), .int .u64 (wd e 6 : Int), .int .u64 (wd e 7 : Int)] := by
    rw [← e0, ← e1]
    show cs.toList = (cs.toList.drop 0).take 9 ++ (cs.toList.drop 9).take 9
    rw [List.drop_zero, List.take_of_length_le (l := cs.toList.drop 9) (by rw [List.length_drop, hl]; decide), List.take_append_drop]
  exact cons_agg hcs rfl
end
/-- The variables that the rows list. -/
def laid8 : List (String × DataW Unit) := Rows.ratioStaysRow.laid
theorem door_met8 (os : Os) (args : Array Value) : laidMetH Tryd.prog laid8 ((World.doorLaid Tryd.prog 24 os).forCall (fun _ _ => 0) ⟨#[], args, []⟩).memory :=
  laidMetH_of_parts3 (fuel := 8) (laidMet_of_run' 8 (by kernel_rfl) (by kernel_rfl)) (by kernel_rfl) (by kernel_rfl)
/-- These laws ask nothing of the tables. -/
theorem of_laid8 {W : World} (_ : laidMetH Tryd.prog laid8 W) : True := trivial
end Go.Proofs.YtbcnpajdmlbieaaDoor
