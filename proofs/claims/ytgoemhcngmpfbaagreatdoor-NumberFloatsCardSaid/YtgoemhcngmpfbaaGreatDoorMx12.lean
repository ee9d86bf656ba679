/-
  Stage 8: ratio's Trunc and Of.
-/
import Derived.Test.YtgoemhcngmpfbaaGreatDoorMx11
import Derived.Test.YtgoemhcngmpfbaaGreatDoorMx01
import Derived.Lib.ItoaMem
import Derived.Lib.AppendIntMem
import Derived.Test.YtgoemhcngmpfbaaGreatDoorRows
import Derived.Test.YtgoemhcngmpfbaaGreatDoorMx08
import Derived.Test.YtgoemhcngmpfbaaGreatDoorMx02
import Derived.Lib.Bytes
import Derived.ProofKit
import Derived.LaidMore
import Derived.OpenShut
import Derived.Stop.Joined
import Derived.ChangeOld
import Derived.Lib.LaidTab
import Derived.Deep.Slices
import Derived.Test.YtgoemhcngmpfbaaGreatDoorMx00
import Derived.Lib.ItoaNum
import Derived.Lib.Repeat
import Derived.Test.YtgoemhcngmpfbaaGreatDoorMx06
namespace Go.Proofs.YtgoemhcngmpfbaaGreatDoor
open Go.RowKit Go.Sort
set_option linter.unusedSimpArgs false
theorem vld_spec {s : Bool} {n : Nat} {t : Bool} {d : Nat} (h : vld s n t d = true) : sgn s n = s ∧ t = false ∧ 0 < d ∧ Nat.gcd n d = 1 := by
 unfold vld at h
 simp only [Bool.and_eq_true, beq_iff_eq, decide_eq_true_eq, Bool.not_eq_true'] at h
 exact ⟨h.1.1.1, h.1.1.2, h.1.2, h.2⟩
set_option maxRecDepth 100000 in
set_option maxHeartbeats 4000000 in
theorem ROf_run (z : Int) (w : World) (h1 : -9223372036854775808 ≤ z) (h2 : z < 9223372036854775808) :
  Calls Tryz.prog 113 #[.int .i64 z] w fun e w' => e = .returned (ratV (decide (z < 0)) z.natAbs false 1) ∧ Below w.heap.size w w' := by
 have HO1 := Lib.hid (fun W => Of_run z W h1 h2)
 have HO2 := Lib.hid (fun W => Of_run 1 W (by decide) (by decide))
 have hO : intV (decide ((1 : Int) < 0)) (1 : Int).natAbs = intV false 1 := rfl
 rw [hO] at HO2
 obtain ⟨S, hS⟩ : ∃ S, w.heap.size = S := ⟨_, rfl⟩
 have T1 := RatAt.zero w 27
 have T2 := below_alloc w (boxRZ 27)
 have T3 : (w.alloc (boxRZ 27)).heap.size = w.heap.size + 1 := by simp
 obtain ⟨W, hW⟩ : ∃ W, w.alloc (boxRZ 27) = W := ⟨_, rfl⟩
 rw [hW] at T1 T2 T3
 rw [hS] at T1 T2 T3 ⊢
 have HT1 := Lib.hid T1
 have HT2 := Lib.hid T2
 have hz := Lib.hid T3
 generalize decide (z < 0) = s at *
 generalize hn : z.natAbs = n at *
 clear T1 T2 T3 hO h1 h2 hn
 go_enter Tryz.func113, Tryz.ntmps113
 go_wp2_with fail
 refine (HO1.out _).mono ?_
 rintro e w1 ⟨rfl, hw1⟩
 have hzz := hz.out
 have H1 := Lib.hid (HT1.out.keep hw1 (by omega))
 have HB := Lib.hid (HT2.out.trans (hw1.mono (by omega)))
 have hs1 : S + 1 ≤ w1.heap.size := Nat.le_trans (Nat.le_of_eq hzz.symm) hw1.size
 clear hw1 HT1 HT2 hW hz hzz HO1
 go_wp2_with fail
 refine (HO2.out _).mono ?_
 rintro e w2 ⟨rfl, hw2⟩
 have H2 := Lib.hid (H1.out.keep hw2 (by omega))
 have HB2 := Lib.hid (HB.out.trans (hw2.mono (by omega)))
 clear hw2 H1 HB HO2
 go_wp2_with (first | (refine wpList_build_rat rfl (.tmp 4) (.tmp 5) rfl (s := s) (n := n) (t := false) (d := 1) rfl rfl ?_) | (refine wpList_store_rat rfl (.tmp 2) (.tmp 6) rfl (b := S) (s := s) (n := n) (t := false) (d := 1) rfl rfl H2.out ?_))
 refine bodyPost_ret (v := ratV s n false 1) (results_rat1 rfl rfl (st18_at H2.out)) rfl ⟨rfl, ?_⟩
 exact (st18_but w2 S s n false 1).2.1 S w (by omega) HB2.out
end Go.Proofs.YtgoemhcngmpfbaaGreatDoor
namespace Go.Proofs.YtgoemhcngmpfbaaGreatDoor
open Go.RowKit Go.Sort
set_option linter.unusedSimpArgs false
theorem wpList_load_rat_w {ops : Array Oper} {rest : List Oper} {op : Oper} {a : Act} {w : World} {Q : Exit → Act → World → Prop} (hw : Region.wanted op (yielded ops a.tmps) = true) (x : Operand) (ho : op.op = .load 27 x)
  {b n d : Nat} {s t : Bool} (hx : a.eval x = .pointer (some ⟨b, 0, none⟩)) (h : RatAt w b s n t d)
  (hK : wpList Tryz.prog ops Q rest (a.put op.dst (ratV s n t d)) w) : wpList Tryz.prog ops Q (op :: rest) a w := by
 refine wpList_step fun K hK' => ?_
 rw [if_pos hw]
 unfold Oper.wp
 rw [ld_rat x ho hx h]
 exact hK' _ _ hK
theorem wpList_load_int_w {ops : Array Oper} {rest : List Oper} {op : Oper} {a : Act} {w : World} {Q : Exit → Act → World → Prop} (hw : Region.wanted op (yielded ops a.tmps) = true) (x : Operand) (ho : op.op = .load 25 x)
  {b o n : Nat} {s : Bool} (hx : a.eval x = .pointer (some ⟨b, o, none⟩)) (h : IntO w b o s n)
  (hK : wpList Tryz.prog ops Q rest (a.put op.dst (intV s n)) w) : wpList Tryz.prog ops Q (op :: rest) a w := by
 refine wpList_step fun K hK' => ?_
 rw [if_pos hw]
 unfold Oper.wp
 rw [ld_int x ho hx h]
 exact hK' _ _ hK
theorem eqg_int (op : BinOp) (x y : Operand) (s : Bool) (n : Nat) (t : Bool) (m : Nat) (w : World) : (eqGuard op 25 x y (intV s n) (intV t m)).run Tryz.prog w = .ok () w := by
 unfold intV
 exact run_eqGuard_agg (P := Tryz.prog) w op 25 x y _ _ (by kernel_rfl)
theorem eqg_rat (op : BinOp) (x y : Operand) (s : Bool) (n : Nat) (t : Bool) (d : Nat) (s' : Bool) (n' : Nat) (t' : Bool) (d' : Nat) (w : World) : (eqGuard op 27 x y (ratV s n t d) (ratV s' n' t' d')).run Tryz.prog w = .ok () w := by
 unfold ratV
 exact run_eqGuard_agg (P := Tryz.prog) w op 27 x y _ _ (by kernel_rfl)
theorem wordsV_small {k : Nat} (h : k < 18446744073709551616) : wordsV k = .agg #[.int .u64 (k : Int), .int .u64 0, .int .u64 0, .int .u64 0, .int .u64 0, .int .u64 0, .int .u64 0, .int .u64 0] := by
 obtain ⟨h0, h1, h2, h3, h4, h5, h6, h7⟩ := wd_small' h
 simp only [wordsV, h0, h1, h2, h3, h4, h5, h6, h7, Int.natCast_zero]
def decS (n : Nat) : ByteArray := ⟨(Lib.decDigits n).toArray⟩
set_option maxHeartbeats 2000000 in
theorem formatI_small (n : Nat) (hn : n < 100) (w : World) :
  Calls Tryz.prog 143 #[.int .u64 (n : Int), .int .i64 10] w fun e w' => e = .returned (.string (decS n)) ∧ w = w' := by
 have HS := Lib.hid (fun W => Tryz.internal_strconv_small n hn W)
 have h1 : (n : Int) < 100 := by omega
 have h2 : IntKind.i64.wrap (n : Int) = (n : Int) := by rw [IntKind.wrap_i64]; omega
 go_enter Tryz.func143, Tryz.ntmps143
 go_wp2_with fail
 refine (HS.out _).mono ?_
 rintro e w1 ⟨rfl, rfl⟩
 go_wp2_with fail
 go_ret
 exact ⟨rfl, rfl⟩
theorem empty_right (s : ByteArray) : s ++ (⟨#[]⟩ : ByteArray) = s := by
 apply ByteArray.ext
 simp [ByteArray.data_append]
end Go.Proofs.YtgoemhcngmpfbaaGreatDoor
namespace Go.Proofs.YtgoemhcngmpfbaaGreatDoor
open Go.RowKit Go.Sort
set_option linter.unusedSimpArgs false
def Tab (w : World) : Prop := Lib.TabIs Tryz.prog w "internal/strconv.uint64pow10" .u64 Lib.pow10Tab
theorem tab_glob : Tryz.prog.globalNamed "internal/strconv.uint64pow10" = some 5 := by kernel_rfl
theorem Tab.below {w w' : World} (h : Tab w) (hb : Below w.heap.size w w') : Tab w' := by
 unfold Tab Lib.TabIs World.var? at h ⊢
 rw [tab_glob] at h ⊢
 simp only [Option.bind_some] at h ⊢
 have hlt : 5 < w.heap.size := by
  rcases Nat.lt_or_ge 5 w.heap.size with h' | h'
  ·exact h'
  ·rw [Array.getElem?_eq_none h'] at h; cases h
 rw [hb.block _ hlt]
 exact h
set_option maxHeartbeats 4000000 in
set_option maxRecDepth 100000 in
theorem formatI_run (u : Nat) (hu64 : u < 18446744073709551616) (w : World) (ht : Hid (Tab w)) :
  Calls Tryz.prog 143 #[.int .u64 (u : Int), .int .i64 10] w fun e w' => e = .returned (.string (decS u)) ∧ Below w.heap.size w w' := by
 by_cases hs : u < 100
 ·exact (formatI_small u hs w).mono fun e w' h => ⟨h.1, by rw [← h.2]; exact Below.refl _ _⟩
 ·have hu1 : 1 ≤ u := by omega
  have hnd20 : Lib.nDigits u ≤ 20 := by have := Lib.numDigits_eq u hu1 hu64; split at this <;> omega
  have hal : Tryz.prog.arrayLen 217 = 24 := by kernel_rfl
  have hsl : ∀ W, (Instr.sliceAt 217 (.pointer (some ⟨w.heap.size, 0, none⟩)) none (some (.int .i64 (Lib.nDigits u : Int))) none).run Tryz.prog W = .ok (.slice (some ⟨w.heap.size, 0, none⟩) (Lib.nDigits u) 24) W := fun W => by
   rw [run_sliceAt_array_h W 217 ⟨w.heap.size, 0, none⟩ (by kernel_rfl) .i64 (Lib.nDigits u : Int) (by omega) (by rw [hal]; omega)]
   go_simp
  have hH0 := Lib.holds_zero0 w 217 (Lib.nDigits u) (by omega)
  have hfmt := Tryz.internal_strconv_formatBase10 w.heap.size 0 24 u (Array.replicate (Lib.nDigits u) 0) (w.alloc (.cells Lib.zeros24 217)) hH0 (by rw [Array.size_replicate]; exact Lib.lt_pow_nDigits u) hu64 (by rw [Array.size_replicate]; omega)
  rw [Array.size_replicate] at hfmt
  have HN := Lib.hid (Tryz.internal_strconv_numDigits u hu1 hu64 (w.alloc (.cells Lib.zeros24 217)) (Lib.tabIs_alloc ht.out _))
  have HF := Lib.hid hfmt
  have HH0 := Lib.hid hH0
  have iu : ¬ ((u : Int) < 100) := by omega
  clear hH0 hal hfmt
  go_enter Tryz.func143, Tryz.ntmps143
  go_wp2_with fail
  refine (HN.out).mono ?_
  rintro e w1 ⟨rfl, rfl⟩
  go_wp2_with fail
  refine (HF.out).mono ?_
  rintro e w2 ⟨rfl, k, v', dk, rfl, hF⟩
  obtain ⟨os, eo⟩ := Lib.fin_at w (.cells Lib.zeros24 217) dk k 0
  have HB : Hid (Below w.heap.size w ((putRow (fun (b : UInt8) => Value.int .u8 (b.toNat : Int)) (w.alloc (.cells Lib.zeros24 217)) w.heap.size 0 dk).drewN k)) := by
   show Below _ _ _
   rw [eo]
   exact Lib.below_grow _ _ (Nat.le_refl _) _ _
  have hcv : (convert 48 9 (.slice (some ⟨w.heap.size, 0, none⟩) (Lib.nDigits u) 24)).run Tryz.prog ((putRow (fun (b : UInt8) => Value.int .u8 (b.toNat : Int)) (w.alloc (.cells Lib.zeros24 217)) w.heap.size 0 dk).drewN k) = .ok (.string (decS u)) ((putRow (fun (b : UInt8) => Value.int .u8 (b.toNat : Int)) (w.alloc (.cells Lib.zeros24 217)) w.heap.size 0 dk).drewN k) := by
   have h := run_convert_bytes_back (P := Tryz.prog) ((putRow (fun (b : UInt8) => Value.int .u8 (b.toNat : Int)) (w.alloc (.cells Lib.zeros24 217)) w.heap.size 0 dk).drewN k) 48 9 5 ⟨w.heap.size, 0, none⟩ 24 (Lib.decDigits u) Tryz.underlying48 Tryz.underlying5 Tryz.underlying9 (fun j hj => by
    rw [Lib.row_is_numeral hF j hj, Lib.add_plain, World.cell?_drewN]
    exact cell?_putRow (fun (b : UInt8) => Value.int .u8 (b.toNat : Int)) _ w.heap.size 0 _ dk HH0.out (by rw [hF.size, Array.size_replicate]) j (by rw [hF.size]; rw [Lib.decDigits_length] at hj; exact hj))
   rw [Lib.decDigits_length] at h
   exact h
  generalize (putRow (fun (b : UInt8) => Value.int .u8 (b.toNat : Int)) (w.alloc (.cells Lib.zeros24 217)) w.heap.size 0 dk).drewN k = w2 at *
  clear eo hF HH0 HN HF
  go_wp2_with fail
  go_ret
  exact ⟨rfl, HB.out⟩
set_option maxHeartbeats 2000000 in
theorem format_run (u : Nat) (hu64 : u < 18446744073709551616) (w : World) (ht : Hid (Tab w)) :
  Calls Tryz.prog 116 #[.int .u64 (u : Int), .int .i64 10] w fun e w' => e = .returned (.string (decS u)) ∧ Below w.heap.size w w' := by
 have HS := Lib.hid (formatI_run u hu64 w ht)
 go_enter Tryz.func116, Tryz.ntmps116
 go_wp2_with fail
 refine (HS.out).mono ?_
 rintro e w1 ⟨rfl, hw1⟩
 have HB := Lib.hid hw1
 clear hw1
 go_wp2_with fail
 go_ret
 exact ⟨rfl, HB.out⟩
end Go.Proofs.YtgoemhcngmpfbaaGreatDoor
namespace Go.Proofs.YtgoemhcngmpfbaaGreatDoor
open Go.ChangeShapes Go.WideShapes Go.ChangeAt Go.RowKit Go.Deep
theorem laidMet_tl {P : Program} {W : World} {x : String × DataW Unit} {rest : List (String × DataW Unit)} (h : laidMet P (x :: rest) W) : laidMet P rest W := by
 obtain ⟨ps, ⟨g', t', cs, fuel, p, q, hg', ht', hvar, hd, hr, rfl⟩, hnd, hall⟩ := h
 exact ⟨q, hr, (List.nodup_append.1 hnd).2.1, fun b off hm => hall b off (List.mem_append_right _ hm)⟩
theorem tPow : (Tryz.prog.globals[5]?).map (·.type) = some 231 := by kernel_rfl
theorem pow_list : Lib.pow10Tab = [1, 10, 100, 1000, 10000, 100000, 1000000, 10000000, 100000000, 1000000000, 10000000000, 100000000000, 1000000000000, 10000000000000, 100000000000000, 1000000000000000, 10000000000000000, 100000000000000000, 1000000000000000000, 10000000000000000000] := by decide +kernel
theorem tab_of {W : World} {rest : List (String × DataW Unit)} (h : laidMet Tryz.prog (("internal/strconv.uint64pow10", Rows.laid_internal_strconv_uint64pow10) :: rest) W) : Tab W := by
 have h' : laidMet Tryz.prog (("internal/strconv.uint64pow10", Lib.tabData .u64 Lib.pow10Tab) :: rest) W := by
  rw [pow_list]
  exact h
 exact Lib.tabIs_of_head tab_glob tPow Tryz.underlying231 Tryz.underlying22 (by kernel_rfl) (by kernel_rfl) h'
section
variable {H : Type} {enc : TypeId × Value → H} {W : World} {sp : Nat → Bool}
end
end Go.Proofs.YtgoemhcngmpfbaaGreatDoor
namespace Go.Proofs.YtgoemhcngmpfbaaGreatDoor
open Go.RowKit
def EncOk {α : Type} (f : α → List Value) (size : Nat) : Prop := 0 < size ∧ ∀ a, (f a).length = size ∧ ∀ u ∈ f a, u.oneCell' = true
theorem flat_get {α : Type} {f : α → List Value} {size : Nat} (h : EncOk f size) : ∀ {l : List α} {i j : Nat} {x : α} {u : Value}, l[i]? = some x → (f x)[j]? = some u → (l.flatMap f)[i * size + j]? = some u
 | [], i, j, x, u, hx, _ => by simp at hx
 | a :: l, 0, j, x, u, hx, hu => by
  simp at hx
  subst hx
  have hj : j < (f a).length := (List.getElem?_eq_some_iff.1 hu).1
  rw [List.flatMap_cons, Nat.zero_mul, Nat.zero_add, List.getElem?_append_left hj]
  exact hu
 | a :: l, i + 1, j, x, u, hx, hu => by
  have ih := flat_get h (l := l) (i := i) (j := j) (by simpa using hx) hu
  have e : (i + 1) * size + j - (f a).length = i * size + j := by rw [(h.2 a).1, Nat.add_mul]; omega
  rw [List.flatMap_cons, List.getElem?_append_right (by rw [(h.2 a).1, Nat.add_mul]; omega), e]
  exact ih
theorem flat_take {α : Type} {f : α → List Value} {size : Nat} (h : EncOk f size) : ∀ (l : List α) (n : Nat), (l.take n).flatMap f = (l.flatMap f).take (n * size)
 | [], n => by simp
 | a :: l, 0 => by simp
 | a :: l, n + 1 => by
  have h1 : (f a).take ((n + 1) * size) = f a := List.take_of_length_le (by rw [(h.2 a).1, Nat.add_mul]; omega)
  have h2 : (n + 1) * size - size = n * size := by rw [Nat.add_mul]; omega
  rw [List.take_succ_cons, List.flatMap_cons, List.flatMap_cons, flat_take h l n, List.take_append, h1, (h.2 a).1, h2]
def CellsV {α : Type} (f : α → List Value) (w : World) (B : Nat) (A : Option Addr) (l : List α) : Prop :=
 0 < l.length → ∃ b o, A = some ⟨b, o, none⟩ ∧ b < B ∧ ∀ j u, (l.flatMap f)[j]? = some u → w.cell? ⟨b, o + j, none⟩ = some u
section
variable {α : Type} {f : α → List Value} {w w' : World} {B B' : Nat} {A : Option Addr} {l : List α}
theorem CellsV.keep (h : CellsV f w B A l) (hk : ∀ b o, b < B → w'.cell? ⟨b, o, none⟩ = w.cell? ⟨b, o, none⟩) : CellsV f w' B A l :=
 fun hp => by
  obtain ⟨b, o, e, hb, hc⟩ := h hp
  exact ⟨b, o, e, hb, fun j u hu => (hk b (o + j) hb).trans (hc j u hu)⟩
theorem CellsV.below (h : CellsV f w B A l) (hb : Below B' w w') (hB : B ≤ B') : CellsV f w' B A l :=
 h.keep fun _ _ hlt => hb.cell (Nat.lt_of_lt_of_le hlt hB)
theorem CellsV.nil : CellsV f w B A [] := fun h => by simp at h
theorem CellsV.take {size : Nat} (he : EncOk f size) (h : CellsV f w B A l) (n : Nat) : CellsV f w B A (l.take n) :=
 fun hp => by
  obtain ⟨b, o, e, hb, hc⟩ := h (by rw [List.length_take] at hp; omega)
  refine ⟨b, o, e, hb, fun j u hu => hc j u ?_⟩
  rw [flat_take he, List.getElem?_take] at hu
  split at hu
  ·exact hu
  ·cases hu
theorem CellsV.get {size : Nat} (he : EncOk f size) (h : CellsV f w B A l) (hp : 0 < l.length) : ∃ b o, A = some ⟨b, o, none⟩ ∧ b < B ∧ ∀ i x, l[i]? = some x → ∀ j u, (f x)[j]? = some u → w.cell? ⟨b, o + (i * size + j), none⟩ = some u := by
 obtain ⟨b, o, e, hb, hc⟩ := h hp
 exact ⟨b, o, e, hb, fun i x hx j u hu => hc _ u (flat_get he hx hu)⟩
theorem CellsV.grown (h : CellsV f w B A l) {row : Option Nat} (hg : w.grownBy w' row) (hB : B ≤ w.heap.size) (hr : ∀ g, row = some g → B ≤ g) : CellsV f w' B A l :=
 h.keep fun b o hb => World.cell?_of_block (hg.block b (by omega) (fun e => by have := hr _ e.symm; omega))
end
def OwnV {α : Type} (f : α → List Value) (size : Nat) (E : TypeId) (w : World) (base : Nat) (v : Value) (l : List α) : Prop := w.ownsRow base E size v l.length (l.flatMap f)
section
variable {α : Type} {f : α → List Value} {size : Nat} {T E : TypeId} {w w' : World} {base : Nat} {v : Value} {l : List α}
theorem ownV_ge (h : OwnV f size E w base v l) : ∀ g, v.ownBlock = some g → base ≤ g := fun g hg => (World.ownsRow.lt h g hg).1
theorem OwnV.below (h : OwnV f size E w base v l) (hb : Below w.heap.size w w') : OwnV f size E w' base v l :=
 World.ownsRow.kept h (row := none) ⟨hb.os, hb.tape, hb.output, hb.size, fun k hk _ => hb.block k hk⟩ (by cases v.ownBlock <;> simp)
theorem OwnV.alloc (h : OwnV f size E w base v l) (o : Obj) : OwnV f size E (w.alloc o) base v l := World.ownsRow.alloc h o
theorem OwnV.setCell (h : OwnV f size E w base v l) {p : Addr} (hp : p.block < base) (u : Value) : OwnV f size E (w.setCell p u) base v l :=
 ownsRow_setCell_other h (fun e => by have := ownV_ge h _ e; omega) u
theorem OwnV.nil (f : α → List Value) (size : Nat) (E : TypeId) (w : World) (base : Nat) : OwnV f size E w base (.slice none 0 0) ([] : List α) := World.ownsRow_nil _ _ _ _
theorem OwnV.cells (h : OwnV f size E w base v l) : ∃ A cap, v = .slice A l.length cap ∧ l.length ≤ cap ∧ cap ≤ 9223372036854775807 ∧ CellsV f w w.heap.size A l := by
 rcases h.2 with ⟨hv, h0⟩ | ⟨g, cap, cur, hv, _, _, hnc, hcm, _⟩
 ·have : l = [] := List.eq_nil_of_length_eq_zero h0
  subst this
  exact ⟨none, 0, hv, Nat.le_refl _, by omega, CellsV.nil⟩
 ·unfold maxLen at hcm
  refine ⟨_, cap, hv, hnc, hcm, fun _ => ?_⟩
  have hlt := World.ownsRow.lt h g (by rw [hv]; rfl)
  refine ⟨g, 0, rfl, hlt.2, fun i x hx => ?_⟩
  have := World.ownsRow.cells h (g := g) (by rw [hv]; rfl) i x hx
  have hp : (⟨g, 0, none⟩ : Addr).add i = ⟨g, 0 + i, none⟩ := by unfold Addr.add; split <;> simp_all
  rwa [hp] at this
end
end Go.Proofs.YtgoemhcngmpfbaaGreatDoor
namespace Go.Proofs.YtgoemhcngmpfbaaGreatDoor
open Go.RowKit
def U.Byt (l : List Int) : Prop := ∀ x ∈ l, 0 ≤ x ∧ x ≤ 255
def Byts (w : World) (B : Nat) (A : Option Addr) (l : List Int) : Prop :=
 U.Byt l ∧ (0 < l.length → ∃ b o, A = some ⟨b, o, none⟩ ∧ b < B ∧ ∀ i x, l[i]? = some x → w.cell? ⟨b, o + i, none⟩ = some (.int .u8 x))
def strOf (l : List Int) : ByteArray := strOfNums l
theorem Byts.out {w : World} {B : Nat} {A : Option Addr} {l : List Int} (h : Byts w B A l) : U.Byt l := h.1
theorem Byts.keep {w w' : World} {B : Nat} {A : Option Addr} {l : List Int} (h : Byts w B A l) (hk : ∀ b o, b < B → w'.cell? ⟨b, o, none⟩ = w.cell? ⟨b, o, none⟩) : Byts w' B A l :=
 ⟨h.1, fun hp => by
  obtain ⟨b, o, e, hb, hc⟩ := h.2 hp
  exact ⟨b, o, e, hb, fun i x hx => (hk b (o + i) hb).trans (hc i x hx)⟩⟩
theorem Byts.below {w w' : World} {B B' : Nat} {A : Option Addr} {l : List Int} (h : Byts w B A l) (hb : Below B' w w') (hB : B ≤ B') : Byts w' B A l :=
 h.keep fun _ _ hlt => hb.cell (Nat.lt_of_lt_of_le hlt hB)
theorem Byts.nil {w : World} {B : Nat} {A : Option Addr} : Byts w B A [] := ⟨fun x hx => by simp at hx, fun h => by simp at h⟩
theorem Byts.take {w : World} {B : Nat} {A : Option Addr} {l : List Int} (h : Byts w B A l) (n : Nat) : Byts w B A (l.take n) :=
 ⟨fun x hx => h.1 x (List.mem_of_mem_take hx), fun hp => by
  obtain ⟨b, o, e, hb, hc⟩ := h.2 (by rw [List.length_take] at hp; omega)
  exact ⟨b, o, e, hb, fun i x hx => hc i x (by
   rw [List.getElem?_take] at hx
   split at hx
   ·exact hx
   ·cases hx)⟩⟩
theorem Byts.nums {w : World} {B : Nat} {A : Option Addr} {l : List Int} (h : Byts w B A l) : NumsK .u8 w B A l := h.2
theorem conv_bytes {w : World} {B : Nat} {A : Option Addr} {l : List Int} (h : Byts w B A l) (n cap : Nat) (hn : l.length = n) :
  (convert 48 9 (.slice A n cap)).run Tryz.prog w = .ok (.string (strOf l)) w := by
 subst hn
 by_cases hl : 0 < l.length
 ·obtain ⟨b, o, rfl, _, hc⟩ := h.2 hl
  exact run_convert_bytes_arg w _ 5 Tryz.underlying48 Tryz.underlying5 b o l.length cap l rfl (fun i hi => by
   rw [hc i _ (List.getElem?_eq_getElem hi)]
   simp [List.getD, List.getElem?_eq_getElem hi]) _ Tryz.underlying9
 ·have : l = [] := List.eq_nil_of_length_eq_zero (by omega)
  subst this
  cases A with
  | none => exact run_convert_bytes_nil w _ 5 Tryz.underlying48 Tryz.underlying5 _ _ _ Tryz.underlying9
  | some a =>
   have := run_convert_bytes_back w 48 9 5 a cap [] Tryz.underlying48 Tryz.underlying5 Tryz.underlying9 (fun j hj => by simp at hj)
   simpa [strOf, strOfNums] using this
def bts (s : ByteArray) : List Int := s.data.toList.map fun b => (b.toNat : Int)
theorem bts_length (s : ByteArray) : (bts s).length = s.size := by simp [bts]
theorem bts_byt (s : ByteArray) : U.Byt (bts s) := fun x hx => by
 simp only [bts, List.mem_map] at hx
 obtain ⟨b, _, rfl⟩ := hx
 have := b.toNat_lt
 omega
end Go.Proofs.YtgoemhcngmpfbaaGreatDoor
namespace Go.Proofs.YtgoemhcngmpfbaaGreatDoor
open Go.ChangeShapes Go.WideShapes Go.ChangeAt Go.RowKit Go.Deep
theorem str_bound {s : ByteArray} (h : s.size ≤ maxLen) : s.size ≤ 9223372036854775807 := by unfold maxLen at h; exact h
theorem open_bytes {H : Type} {enc : TypeId × Value → H} {W : World} {fuel : Nat} {cs : List Value} {x : DataW H × List MemPlace} {sp : Nat → Bool} (h : DataW.trod enc Tryz.prog W 0 sp true fuel 48 cs = some x) :
  ∃ A len cap l, cs = [.slice A len cap] ∧ l.length = len ∧ len ≤ cap ∧ cap ≤ 9223372036854775807 ∧ Byts W W.heap.size A l := by
 rcases open_ints Tryz.underlying48 Tryz.underlying5 (by kernel_rfl) h with ⟨hcs, _⟩ | ⟨x, l, c, zs, hcs, _, hl, hm, hz, _, hcell, hwz⟩
 ·exact ⟨none, 0, 0, [], hcs, rfl, Nat.le_refl _, by omega, Byts.nil⟩
 ·unfold maxLen at hm
  have hlz : l ≤ zs.length := by rw [hz]; split <;> omega
  have hlen : (zs.take l).length = l := by rw [List.length_take]; omega
  refine ⟨some x, l, c, zs.take l, hcs, hlen, hl, hm, ⟨fun n hn => bounds_u8 (hwz n (List.mem_of_mem_take hn)), fun hp => ?_⟩⟩
  obtain ⟨b, off, rfl, hc⟩ := ints_at hcell (by omega)
  have h0 := hc 0 (by omega)
  refine ⟨b, off, rfl, ?_, fun i y hy => ?_⟩
  ·rcases Nat.lt_or_ge b W.heap.size with h1 | h1
   ·exact h1
   ·simp [World.cell?, Array.getElem?_eq_none h1] at h0
  ·rw [List.getElem?_take] at hy
   split at hy
   ·have hi := (List.getElem?_eq_some_iff.1 hy).1
    rw [hc i hi]
    simp [List.getD, hy]
   ·cases hy
end Go.Proofs.YtgoemhcngmpfbaaGreatDoor
namespace Go.Proofs.YtgoemhcngmpfbaaGreatDoor
open Go.RowKit
theorem nDigits_le : ∀ (k n : Nat), 1 ≤ k → n < 10 ^ k → Lib.nDigits n ≤ k
 | 0, _, h, _ => by omega
 | 1, n, _, h => by rw [Lib.nDigits_small (by simpa using h)]; exact Nat.le_refl 1
 | k + 2, n, _, h => by
  by_cases hs : n < 10
  ·rw [Lib.nDigits_small hs]; omega
  ·rw [Lib.nDigits_big hs]
   have := nDigits_le (k + 1) (n / 10) (by omega) (by rw [Nat.pow_succ] at h; exact Nat.div_lt_of_lt_mul (by rw [Nat.mul_comm]; exact h))
   omega
theorem decDigits_le {k n : Nat} (hk : 1 ≤ k) (h : n < 10 ^ k) : (Lib.decDigits n).length ≤ k := by rw [Lib.decDigits_length]; exact nDigits_le k n hk h
theorem decDigits_small {n : Nat} (h : n < 10) : Lib.decDigits n = [UInt8.ofNat (48 + n)] := Lib.decDigits_one h
theorem decDigits_big {n : Nat} (h : ¬ n < 10) : Lib.decDigits n = Lib.decDigits (n / 10) ++ [UInt8.ofNat (48 + n % 10)] := by
 rw [Lib.decDigits, dif_neg h]
def pad (k r : Nat) : List UInt8 := List.replicate (k - (Lib.decDigits r).length) 48 ++ Lib.decDigits r
theorem pad_one {r : Nat} (h : r < 10) : pad 1 r = [UInt8.ofNat (48 + r)] := by
 unfold pad
 rw [decDigits_small h]
 rfl
theorem pad_succ {k r : Nat} (hk : 1 ≤ k) : pad (k + 1) r = pad k (r / 10) ++ [UInt8.ofNat (48 + r % 10)] := by
 unfold pad
 by_cases h : r < 10
 ·have h1 : r / 10 = 0 := Nat.div_eq_of_lt h
  have h2 : r % 10 = r := Nat.mod_eq_of_lt h
  rw [h1, h2, decDigits_small h, decDigits_small (show 0 < 10 by omega)]
  obtain ⟨j, rfl⟩ : ∃ j, k = j + 1 := ⟨k - 1, by omega⟩
  show List.replicate (j + 1 + 1 - 1) 48 ++ [_] = (List.replicate (j + 1 - 1) 48 ++ [UInt8.ofNat (48 + 0)]) ++ [_]
  have h3 : (UInt8.ofNat (48 + 0)) = 48 := rfl
  rw [h3, show j + 1 + 1 - 1 = j + 1 by omega, show j + 1 - 1 = j by omega, List.replicate_succ']
 ·rw [decDigits_big h, List.length_append, List.append_assoc]
  have : k + 1 - ((Lib.decDigits (r / 10)).length + [UInt8.ofNat (48 + r % 10)].length) = k - (Lib.decDigits (r / 10)).length := by
   show k + 1 - (_ + 1) = _
   omega
  rw [this]
theorem dec_pieces : ∀ (k q r : Nat), 1 ≤ k → 1 ≤ q → r < 10 ^ k → Lib.decDigits (q * 10 ^ k + r) = Lib.decDigits q ++ pad k r
 | 0, _, _, h, _, _ => by omega
 | 1, q, r, _, hq, hr => by
  have hr : r < 10 := by simpa using hr
  rw [decDigits_big (by rw [Nat.pow_one]; omega), pad_one hr, Nat.pow_one]
  have h1 : (q * 10 + r) / 10 = q := by omega
  have h2 : (q * 10 + r) % 10 = r := by omega
  rw [h1, h2]
 | k + 2, q, r, _, hq, hr => by
  have hb : q * 10 ^ (k + 2) + r = (q * 10 ^ (k + 1)) * 10 + r := by rw [Nat.pow_succ, ← Nat.mul_assoc]
  have hp : 1 ≤ 10 ^ (k + 1) := Nat.pow_pos (by decide)
  have hq1 : 1 ≤ q * 10 ^ (k + 1) := Nat.mul_pos hq hp
  have h1 : (q * 10 ^ (k + 2) + r) / 10 = q * 10 ^ (k + 1) + r / 10 := by rw [hb]; omega
  have h2 : (q * 10 ^ (k + 2) + r) % 10 = r % 10 := by rw [hb]; omega
  have hr2 : r / 10 < 10 ^ (k + 1) := Nat.div_lt_of_lt_mul (by rw [Nat.mul_comm, ← Nat.pow_succ]; exact hr)
  rw [decDigits_big (by rw [hb]; omega), h1, h2, dec_pieces (k + 1) q (r / 10) (by omega) hq hr2, List.append_assoc, ← pad_succ (by omega)]
theorem repeat_zero : ∀ (n : Nat), Lib.repeatL [48] n = List.replicate n 48
 | 0 => rfl
 | n + 1 => by
  rw [List.replicate_succ]
  show [48] ++ Lib.repeatL [48] n = _
  rw [repeat_zero n]
  rfl
theorem bytes_app (a b : List UInt8) : (⟨a.toArray⟩ : ByteArray) ++ ⟨b.toArray⟩ = ⟨(a ++ b).toArray⟩ := by
 apply ByteArray.ext
 simp [ByteArray.data_append]
theorem bytes_assoc (a b c : ByteArray) : (a ++ b) ++ c = a ++ (b ++ c) := by
 apply ByteArray.ext
 simp [ByteArray.data_append]
theorem bytes_size_app (a b : ByteArray) : (a ++ b).size = a.size + b.size := by
 show (a ++ b).data.size = a.data.size + b.data.size
 rw [ByteArray.data_append, Array.size_append]
end Go.Proofs.YtgoemhcngmpfbaaGreatDoor
namespace Go.Proofs.YtgoemhcngmpfbaaGreatDoor
open Go.RowKit
def dvN (c : Nat) : Nat := if 48 ≤ c ∧ c ≤ 57 then c - 48 else if 97 ≤ c ∧ c ≤ 102 then c - 87 else if 65 ≤ c ∧ c ≤ 70 then c - 55 else 16
theorem dvN_le (c : Nat) : dvN c ≤ 16 := by unfold dvN; split; · omega
                                            split; · omega
                                            split <;> omega
def num (B : Nat) (l : List UInt8) : Nat := l.foldl (fun a c => a * B + dvN c.toNat) 0
theorem num_snoc (B : Nat) (l : List UInt8) (c : UInt8) : num B (l ++ [c]) = num B l * B + dvN c.toNat := by unfold num; rw [List.foldl_append]; rfl
theorem foldl_ge {B : Nat} (hB : 1 ≤ B) : ∀ (m : List UInt8) (a : Nat), a ≤ m.foldl (fun a c => a * B + dvN c.toNat) a
  | [], _ => Nat.le_refl _
  | _ :: m, a => Nat.le_trans (Nat.le_trans (Nat.le_mul_of_pos_right a hB) (Nat.le_add_right _ _)) (foldl_ge hB m _)
theorem num_take {B : Nat} (hB : 1 ≤ B) (l : List UInt8) (i : Nat) : num B (l.take i) ≤ num B l := by
  have h : num B l = (l.drop i).foldl (fun a c => a * B + dvN c.toNat) (num B (l.take i)) := by
    unfold num
    rw [← List.foldl_append, List.take_append_drop]
  rw [h]
  exact foldl_ge hB _ _
theorem take_succ_of {l : List UInt8} {i : Nat} {c : UInt8} (h : l[i]? = some c) : l.take (i + 1) = l.take i ++ [c] := by
  rw [List.take_add_one, h]
  rfl
def okDig (B : Nat) (l : List UInt8) : Bool := l.all fun c => decide (dvN c.toNat < B)
theorem okDig_get {B : Nat} {l : List UInt8} (h : okDig B l = true) {i : Nat} {c : UInt8} (hc : l[i]? = some c) : dvN c.toNat < B := by
  have := List.all_eq_true.1 h c (List.mem_of_getElem? hc)
  simpa using this
theorem okDig_not {B : Nat} {l : List UInt8} {i : Nat} {c : UInt8} (hc : l[i]? = some c) (h : ¬ dvN c.toNat < B) : okDig B l = false := by
  cases e : okDig B l
  · rfl
  · exact absurd (okDig_get e hc) h
theorem okDig_of {B : Nat} {l : List UInt8} (h : ∀ (i : Nat) (c : UInt8), l[i]? = some c → dvN c.toNat < B) : okDig B l = true := by
  refine List.all_eq_true.2 fun c hc => ?_
  obtain ⟨i, hi⟩ := List.mem_iff_getElem?.1 hc
  simpa using h i c hi
def parK (B : Nat) (l : List UInt8) : Nat := if l = [] then 12 else if okDig B l = false then 13 else if num B l < 18446744073709551616 ^ 8 then 0 else 9
def parN (B : Nat) (l : List UInt8) : Nat := if parK B l = 0 then num B l else 0
theorem parK_nil (B : Nat) : parK B [] = 12 := if_pos rfl
theorem parK_dig {B : Nat} {l : List UInt8} (h : okDig B l = false) (hl : l ≠ []) : parK B l = 13 := by unfold parK; rw [if_neg hl, if_pos h]
theorem parK_over {B : Nat} {l : List UInt8} (h : okDig B l = true) (hl : l ≠ []) (hf : ¬ Fits (num B l)) : parK B l = 9 := by unfold parK; rw [if_neg hl, if_neg (by rw [h]; decide)]; exact if_neg hf
theorem parK_ok {B : Nat} {l : List UInt8} (h : okDig B l = true) (hl : l ≠ []) (hf : Fits (num B l)) : parK B l = 0 := by unfold parK; rw [if_neg hl, if_neg (by rw [h]; decide)]; exact if_pos hf
theorem parN_ok {B : Nat} {l : List UInt8} (h : parK B l = 0) : parN B l = num B l := if_pos h
theorem parN_no {B : Nat} {l : List UInt8} (h : parK B l ≠ 0) : parN B l = 0 := if_neg h
theorem parK_cases (B : Nat) (l : List UInt8) : parK B l = 0 ∨ parK B l = 9 ∨ parK B l = 12 ∨ parK B l = 13 := by
  unfold parK
  split
  · simp
  · split
    · simp
    · split <;> simp
theorem parN_fits (B : Nat) (l : List UInt8) : Fits (parN B l) := by
  by_cases h : parK B l = 0
  · rw [parN_ok h]
    unfold parK at h
    split at h
    · cases h
    · split at h
      · cases h
      · split at h
        · assumption
        · cases h
  · rw [parN_no h]
    exact Nat.pow_pos (by decide)
end Go.Proofs.YtgoemhcngmpfbaaGreatDoor
namespace Go.Proofs.YtgoemhcngmpfbaaGreatDoor
open Go.RowKit Go.Sort
set_option linter.unusedSimpArgs false
set_option maxRecDepth 100000 in
set_option maxHeartbeats 2000000 in
theorem digit_runL (c : Nat) (h : c < 256) (w : World) :
  Calls Tryz.prog 99 #[.int .u8 (c : Int)] w fun e w' => e = .returned (.int .i64 (dvN c : Int)) ∧ w' = w := by
 have hc : c < 48 ∨ (48 ≤ c ∧ c ≤ 57) ∨ (57 < c ∧ c < 65) ∨ (65 ≤ c ∧ c ≤ 70) ∨ (70 < c ∧ c < 97) ∨ (97 ≤ c ∧ c ≤ 102) ∨ 102 < c := by omega
 rcases hc with hc | hc | hc | hc | hc | hc | hc
 ·have h1 : ¬ (48 : Int) ≤ (c : Int) := by omega
  have h3 : ¬ (97 : Int) ≤ (c : Int) := by omega
  have h5 : ¬ (65 : Int) ≤ (c : Int) := by omega
  have hd : dvN c = 16 := by unfold dvN; rw [if_neg (by omega), if_neg (by omega), if_neg (by omega)]
  rw [hd]
  clear hc hd
  go_enter Tryz.func99, Tryz.ntmps99
  go_wp2_with fail
  go_ret
  exact ⟨rfl, rfl⟩
 ·have h1 : (48 : Int) ≤ (c : Int) := by omega
  have h2 : (c : Int) ≤ 57 := by omega
  have hd : (dvN c : Int) = (c : Int) - 48 := by unfold dvN; rw [if_pos (by omega)]; omega
  rw [hd]
  clear hc hd
  go_enter Tryz.func99, Tryz.ntmps99
  go_wp2_with fail
  go_ret
  exact ⟨rfl, rfl⟩
 ·have h1 : (48 : Int) ≤ (c : Int) := by omega
  have h2 : ¬ (c : Int) ≤ 57 := by omega
  have h3 : ¬ (97 : Int) ≤ (c : Int) := by omega
  have h5 : ¬ (65 : Int) ≤ (c : Int) := by omega
  have hd : dvN c = 16 := by unfold dvN; rw [if_neg (by omega), if_neg (by omega), if_neg (by omega)]
  rw [hd]
  clear hc hd
  go_enter Tryz.func99, Tryz.ntmps99
  go_wp2_with fail
  go_ret
  exact ⟨rfl, rfl⟩
 ·have h1 : (48 : Int) ≤ (c : Int) := by omega
  have h2 : ¬ (c : Int) ≤ 57 := by omega
  have h3 : ¬ (97 : Int) ≤ (c : Int) := by omega
  have h5 : (65 : Int) ≤ (c : Int) := by omega
  have h6 : (c : Int) ≤ 70 := by omega
  have hd : (dvN c : Int) = (c : Int) - 65 + 10 := by unfold dvN; rw [if_neg (by omega), if_neg (by omega), if_pos (by omega)]; omega
  rw [hd]
  clear hc hd
  go_enter Tryz.func99, Tryz.ntmps99
  go_wp2_with fail
  go_ret
  exact ⟨rfl, rfl⟩
 ·have h1 : (48 : Int) ≤ (c : Int) := by omega
  have h2 : ¬ (c : Int) ≤ 57 := by omega
  have h3 : ¬ (97 : Int) ≤ (c : Int) := by omega
  have h5 : (65 : Int) ≤ (c : Int) := by omega
  have h6 : ¬ (c : Int) ≤ 70 := by omega
  have hd : dvN c = 16 := by unfold dvN; rw [if_neg (by omega), if_neg (by omega), if_neg (by omega)]
  rw [hd]
  clear hc hd
  go_enter Tryz.func99, Tryz.ntmps99
  go_wp2_with fail
  go_ret
  exact ⟨rfl, rfl⟩
 ·have h1 : (48 : Int) ≤ (c : Int) := by omega
  have h2 : ¬ (c : Int) ≤ 57 := by omega
  have h3 : (97 : Int) ≤ (c : Int) := by omega
  have h4 : (c : Int) ≤ 102 := by omega
  have hd : (dvN c : Int) = (c : Int) - 97 + 10 := by unfold dvN; rw [if_neg (by omega), if_pos (by omega)]; omega
  rw [hd]
  clear hc hd
  go_enter Tryz.func99, Tryz.ntmps99
  go_wp2_with fail
  go_ret
  exact ⟨rfl, rfl⟩
 ·have h1 : (48 : Int) ≤ (c : Int) := by omega
  have h2 : ¬ (c : Int) ≤ 57 := by omega
  have h3 : (97 : Int) ≤ (c : Int) := by omega
  have h4 : ¬ (c : Int) ≤ 102 := by omega
  have h5 : (65 : Int) ≤ (c : Int) := by omega
  have h6 : ¬ (c : Int) ≤ 70 := by omega
  have hd : dvN c = 16 := by unfold dvN; rw [if_neg (by omega), if_neg (by omega), if_neg (by omega)]
  rw [hd]
  clear hc hd
  go_enter Tryz.func99, Tryz.ntmps99
  go_wp2_with fail
  go_ret
  exact ⟨rfl, rfl⟩
theorem index_at {s : ByteArray} {i : Nat} {b : UInt8} (h : s.data.toList[i]? = some b) (W : World) : (Instr.index 9 (.string s) (.int .i64 (i : Int))).run Tryz.prog W = .ok (.int .u8 (b.toNat : Int)) W := by
 obtain ⟨hi, he⟩ := List.getElem?_eq_some_iff.1 h
 have hi2 : i < s.size := by simpa using hi
 rw [run_index_string _ _ _ _ _ Tryz.underlying9, dif_pos (by omega)]
 have : s[(i : Int).toNat]'(by simpa using hi2) = b := by
  rw [← he]
  simp
  rfl
 rw [this]
def sdN (i : Nat) : Nat := if i < 10 then 48 + i else 87 + i
def gdN (i : Nat) : Nat := if i < 10 then 48 + i else 55 + i
theorem sd_str : ∀ i : Fin 16, (⟨#[48, 49, 50, 51, 52, 53, 54, 55, 56, 57, 97, 98, 99, 100, 101, 102]⟩ : ByteArray).data.toList[i.val]? = some (UInt8.ofNat (sdN i.val)) := by decide +kernel
theorem gd_str : ∀ i : Fin 16, (⟨#[48, 49, 50, 51, 52, 53, 54, 55, 56, 57, 65, 66, 67, 68, 69, 70]⟩ : ByteArray).data.toList[i.val]? = some (UInt8.ofNat (gdN i.val)) := by decide +kernel
theorem sd_nat : ∀ i : Fin 16, (UInt8.ofNat (sdN i.val)).toNat = sdN i.val := by decide +kernel
theorem gd_nat : ∀ i : Fin 16, (UInt8.ofNat (gdN i.val)).toNat = gdN i.val := by decide +kernel
theorem dv_is {c i : Nat} (h : i < 16) : dvN c = i ↔ (sdN i = c ∨ gdN i = c) := by
 unfold dvN sdN gdN
 split <;> split <;> (try split) <;> (try split) <;> omega
def rdN (c : Nat) : Nat := if dvN c < 16 then dvN c else 99
theorem rd_lt {c B : Nat} (h : B ≤ 16) : rdN c < B ↔ dvN c < B := by unfold rdN; split <;> omega
set_option maxRecDepth 100000 in
set_option maxHeartbeats 2000000 in
theorem Digit_run7 (c : Nat) (w : World) :
  Calls Tryz.prog 103 #[.int .u8 (c : Int)] w fun e w' => e = .returned (.int .i64 (rdN c : Int)) ∧ w' = w := by
 go_enter Tryz.func103, Tryz.ntmps103
 go_wp2_with fail
 go_loopg [5] 17 (fun h s5 wr => ∃ i : Nat, s5 = .int .i64 (i : Int) ∧ Hid (i + h = 17) ∧ i ≤ 16 ∧ Hid (i ≤ dvN c) ∧ wr = w)
 case atStart => exact ⟨0, rfl, by show _ = _; omega, by omega, Nat.zero_le _, rfl⟩
 case round =>
  obtain ⟨i, rfl, HI, hi16, HD, rfl⟩ := hrel
  by_cases hlt : i < 16
  ·have hz : (i : Int) < 16 := by omega
   have hx := index_at (sd_str ⟨i, hlt⟩)
   have hy := index_at (gd_str ⟨i, hlt⟩)
   rw [sd_nat ⟨i, hlt⟩] at hx
   rw [gd_nat ⟨i, hlt⟩] at hy
   simp only at hx hy
   have hdi := dv_is (c := c) hlt
   generalize sdN i = a at *
   generalize gdN i = b at *
   have HDI := Lib.hid hdi
   clear hdi
   by_cases h1 : a = c
   ·have e1 : ((a : Int) == (c : Int)) = true := by simp [h1]
    have HR : Hid (rdN c = i) := by
     have := HDI.out.2 (.inl h1)
     show rdN c = i
     unfold rdN
     rw [this, if_pos hlt]
    clear h1
    go_wp2_with fail
    go_ret
    exact ⟨by rw [HR.out]; rfl, rfl⟩
   ·have e1 : ((a : Int) == (c : Int)) = false := by simp; omega
    by_cases h2 : b = c
    ·have e2 : ((b : Int) == (c : Int)) = true := by simp [h2]
     have HR : Hid (rdN c = i) := by
      have := HDI.out.2 (.inr h2)
      show rdN c = i
      unfold rdN
      rw [this, if_pos hlt]
     clear h1 h2
     go_wp2_with fail
     go_ret
     exact ⟨by rw [HR.out]; rfl, rfl⟩
    ·have e2 : ((b : Int) == (c : Int)) = false := by simp; omega
     have HN : Hid (i + 1 ≤ dvN c) := by
      have h3 : ¬ dvN c = i := fun e => Or.elim (HDI.out.1 e) h1 h2
      have := HD.out
      show _ ≤ _
      omega
     clear h1 h2
     go_wp2_with fail
     go_roundg (16 - i)
     case measure => have := HI.out; omega
     case rel => exact ⟨i + 1, by go_num, by show _ = _; have := HI.out; omega, by omega, HN, rfl⟩
  ·obtain rfl : i = 16 := by omega
   have HR : Hid (rdN c = 99) := by
    have := HD.out
    show rdN c = 99
    unfold rdN
    rw [if_neg (by omega)]
   go_wp2_with fail
   go_ret
   exact ⟨by rw [HR.out]; rfl, rfl⟩
end Go.Proofs.YtgoemhcngmpfbaaGreatDoor
namespace Go.Proofs.YtgoemhcngmpfbaaGreatDoor
open Go.RowKit
theorem bts_cells (s : ByteArray) : s.data.map (fun b => Value.int .u8 b.toNat) = ((bts s).map fun x => Value.int .u8 x).toArray := by
 apply Array.ext'
 simp [bts, Function.comp_def]
theorem run_conv_str (w : World) (s : ByteArray) (hs : s.size ≤ maxLen) : ∃ cap w', (convert 9 48 (.string s)).run Tryz.prog w = .ok (.slice (some ⟨w.heap.size, 0, none⟩) s.size cap) w' ∧ s.size ≤ cap ∧ cap ≤ maxLen ∧ Byts w' w'.heap.size (some ⟨w.heap.size, 0, none⟩) (bts s) ∧ Below w.heap.size w w' := by
 refine ⟨_, _, run_bytes_of_string w _ _ _ s Tryz.underlying9 Tryz.underlying48 Tryz.underlying5, grownCap_ge _ _ _ _, grownCap_le_maxLen _ _ _ _ hs, ⟨bts_byt s, fun _ => ⟨_, _, rfl, by simp, fun i x hx => ?_⟩⟩, ?_⟩
 ·have := World.cell?_alloc_mark w.drew (bytesRow s (grownCap w s.size 0 5)) 5 ((bytesRow s (grownCap w s.size 0 5)).size, (bytesRow s (grownCap w s.size 0 5)).size + 1) (0 + i)
  rw [show w.drew.heap.size = w.heap.size from rfl] at this
  rw [this, bytesRow, bts_cells, Nat.zero_add]
  have hi := (List.getElem?_eq_some_iff.1 hx).1
  rw [Array.getElem?_append_left (by simpa using hi)]
  simp [hx]
 ·exact (Below.refl _ w).drew.alloc (Nat.le_refl _) _
end Go.Proofs.YtgoemhcngmpfbaaGreatDoor
namespace Go.Proofs.YtgoemhcngmpfbaaGreatDoor
open Go.RowKit Go.Sort
set_option linter.unusedSimpArgs false
def txt (s : Bool) (n : Nat) : ByteArray := if sgn s n then (⟨#[45]⟩ : ByteArray) ++ decS n else decS n
theorem enters_Text : EntersP Tryz.prog 33 := entersP_of Tryz.func33 (by kernel_rfl) rfl
end Go.Proofs.YtgoemhcngmpfbaaGreatDoor
