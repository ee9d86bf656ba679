/-
  errors.Is between two errors of api's: it holds just where the numbers are the same. And 'Code' of the laws: the number of an error that is none or one of api's.
-/
import Derived.Test.YtgoemhcngmpfbaaGreatDoorMv00
import Derived.LaidEql
import Derived.Stop.Asserts
import Derived.RowKitTokens
import Derived.Test.YtgoemhcngmpfbaaGreatDoorMv17
import Derived.Lib.Replace
import Derived.Lib.IndexMore
namespace Go.Proofs.YtgoemhcngmpfbaaGreatDoor
open Go.RowKit Go.Extern.Stop Go.Stop Go.Extern Go.Extern.ReflectliteType Go.Extern.Rtype
theorem eqErrno (a b : Int) (w : World) : (binOp .eql 29 (.iface 74 (.int .i64 a)) (.iface 74 (.int .i64 b))).run Tryz.prog w = .ok (.bool (a == b)) w := by
 have hc : (Tryz.prog.info? 74).map (·.comparable) = some true := by kernel_rfl
 obtain ⟨i, hi, hcmp⟩ := Option.map_eq_some_iff.1 hc
 have h : ∀ d : Nat, (Op.equalIn (d + 2) 29 (.iface 74 (.int .i64 a)) (.iface 74 (.int .i64 b))).run Tryz.prog w = .ok (a == b) w := fun d => by
  simp [Op.equalIn, run_underlying Tryz.underlying29, run_underlying Tryz.underlying74, typeInfo, hi, hcmp]
 simp only [binOp]
 simp [Op.equal, Op.maxDepth, h 9998]
theorem isTypeOf (v : Value) (w : World) : (Extern.ReflectliteType.typeOf #[.iface 74 v]).run Tryz.prog w = .ok (.iface 165 (.agg #[.pointer (some ⟨10, 74, none⟩)])) w := by kernel_rfl
def cmpEntry : Array Value → Sem Value := Extern.ReflectliteType.method fun t => do noPackHeld "Comparable" t; pure (.bool (← typeInfo t).comparable)
theorem isComparable (w : World) : (cmpEntry #[.agg #[.pointer (some ⟨10, 74, none⟩)]]).run Tryz.prog w = .ok (.bool true) w := by kernel_rfl
theorem runComparable (args : Array Value) (w : World) : (callFunc 221 args).run Tryz.prog w = ((cmpEntry args).run Tryz.prog w).andThen fun v w' => .ok (.value v) w' :=
 @run_callFunc_extern Tryz.prog 221 _ cmpEntry Tryz.func221 (by kernel_rfl) (by kernel_rfl) (by kernel_rfl) (by kernel_rfl) args w
theorem runTypeOf (args : Array Value) (w : World) : (callFunc 87 args).run Tryz.prog w = ((Extern.ReflectliteType.typeOf args).run Tryz.prog w).andThen fun v w' => .ok (.value v) w' :=
 @run_callFunc_extern Tryz.prog 87 _ Extern.ReflectliteType.typeOf Tryz.func87 (by kernel_rfl) (by kernel_rfl) (by kernel_rfl) (by kernel_rfl) args w
theorem isMethodComparable (v : Value) (w : World) : (Go.method 379 165 v "Comparable").run Tryz.prog w = .ok (221, v) w := by kernel_rfl
theorem noIsE (v : Value) (xT : TypeId) (w : World) : (Instr.typeAssert (.iface 74 v) xT 167 true).run Tryz.prog w = .ok (.tuple #[.nilIface, .bool false]) w := run_typeAssert_lacksB Tryz.underlying167 (by kernel_rfl) (by kernel_rfl) v xT w
theorem noUnwrapE (v : Value) (xT : TypeId) (w : World) : (Instr.typeAssert (.iface 74 v) xT 170 true).run Tryz.prog w = .ok (.tuple #[.nilIface, .bool false]) w := run_typeAssert_lacksB Tryz.underlying170 (by kernel_rfl) (by kernel_rfl) v xT w
theorem noUnwrapsE (v : Value) (xT : TypeId) (w : World) : (Instr.typeAssert (.iface 74 v) xT 172 true).run Tryz.prog w = .ok (.tuple #[.nilIface, .bool false]) w := run_typeAssert_lacksB Tryz.underlying172 (by kernel_rfl) (by kernel_rfl) v xT w
set_option maxHeartbeats 1000000 in
theorem is_errno (a c : Int) (w : World) :
  Calls Tryz.prog 50 #[errno a, errno c] w fun e w' => e = .returned (.bool (a == c)) ∧ w = w' := by
 have h8 := runTypeOf
 have h32 := runComparable
 have tT := isTypeOf
 have cT := isComparable
 have mR := isMethodComparable
 have nE := noIsE
 have uE := noUnwrapE
 have vE := noUnwrapsE
 have heq := eqErrno a c
 unfold errno
 by_cases hac : a = c
 ·subst hac
  have hb : (a == a) = true := by simp
  go_enter Tryz.func50, Tryz.ntmps50
  go_wp2
  refine wp_loop_rounds 1 ?_
  rw [rounds_succ]
  go_wp2
  go_ret
  exact ⟨ret_bool hb.symm, rfl⟩
 ·have hb : (a == c) = false := by simpa using hac
  clear hac
  go_enter Tryz.func50, Tryz.ntmps50
  go_wp2
  refine wp_loop_rounds 1 ?_
  rw [rounds_succ]
  go_wp2
  go_ret
  exact ⟨ret_bool hb.symm, rfl⟩
theorem is_errno_below (a c : Int) (w : World) :
  Calls Tryz.prog 50 #[errno a, errno c] w fun e w' => e = .returned (.bool (a == c)) ∧ Below w.heap.size w w' :=
 (is_errno a c w).mono fun _ _ ⟨h, hw⟩ => ⟨h, hw ▸ Below.refl _ _⟩
set_option maxHeartbeats 400000 in
theorem code_nil (w : World) : Calls Tryz.prog 17 #[.nilIface] w fun e w' => e = .returned (.int .i64 0) ∧ Below w.heap.size w w' := by
 go_enter Tryz.func17, Tryz.ntmps17
 go_wp2
 go_ret
 exact ⟨rfl, Below.refl _ _⟩
set_option maxHeartbeats 1000000 in
theorem code_of {x : Value} {t : TypeId} {v : Value} (hx : Hid (x = .iface t v)) (k : Nat) (h1 : 1 ≤ k) (h25 : k ≤ 25)
  (his : Hid (∀ (c : Int) (w : World), Calls Tryz.prog 50 #[.iface t v, errno c] w fun e w' => e = .returned (.bool ((k : Int) == c)) ∧ Below w.heap.size w w')) (w : World) :
  Calls Tryz.prog 17 #[x] w fun e w' => e = .returned (.int .i64 k) ∧ Below w.heap.size w w' := by
 rw [hx.out]
 clear hx
 go_enter Tryz.func17, Tryz.ntmps17
 go_wp2
 go_loopw [3] (fun c wr => ∃ j : Nat, 1 ≤ j ∧ j ≤ k ∧ c = .int .i64 j ∧ Below w.heap.size w wr) (fun c _ => k - (intOf c).toNat)
 case atStart => exact ⟨1, by omega, h1, rfl, Below.refl _ _⟩
 case round =>
  obtain ⟨j, hj1, hjk, rfl, hbw⟩ := hrel
  have hj25 : decide ((j : Int) ≤ 25) = true := by simp; omega
  by_cases hlt : j < k
  ·have hb : ((k : Int) == (j : Int)) = false := by simp; omega
   go_wp2_with (go_at_call 50; refine (his.out _ _).mono ?_; rintro e w1 ⟨rfl, hw1⟩)
   go_roundw
   case rel => exact ⟨j + 1, by omega, by omega, by go_num, hbw.trans (hw1.mono hbw.size)⟩
   case measure => simp [intOf]; omega
  ·have hb : ((k : Int) == (j : Int)) = true := by simp; omega
   have e : Hid (j = k) := show j = k by omega
   go_wp2_with (go_at_call 50; refine (his.out _ _).mono ?_; rintro e w1 ⟨rfl, hw1⟩)
   go_ret
   exact ⟨ret_int (by rw [e.out]), hbw.trans (hw1.mono hbw.size)⟩
theorem code_errno (k : Nat) (h1 : 1 ≤ k) (h25 : k ≤ 25) (w : World) :
  Calls Tryz.prog 17 #[errno k] w fun e w' => e = .returned (.int .i64 k) ∧ Below w.heap.size w w' :=
 code_of (show errno k = _ from rfl) k h1 h25 (fun c w => is_errno_below k c w) w
def errOf (k : Nat) : Value := if k = 0 then .nilIface else errno k
theorem code_errOf (k : Nat) (h25 : k ≤ 25) (w : World) :
  Calls Tryz.prog 17 #[errOf k] w fun e w' => e = .returned (.int .i64 k) ∧ Below w.heap.size w w' := by
 unfold errOf
 split
 ·next h => subst h; exact code_nil w
 ·exact code_errno k (by omega) h25 w
end Go.Proofs.YtgoemhcngmpfbaaGreatDoor
namespace Go.Proofs.YtgoemhcngmpfbaaGreatDoor
open Go.RowKit Go.Sort
set_option linter.unusedSimpArgs false
def bs (l : List UInt8) : ByteArray := ⟨l.toArray⟩
theorem bs_list (l : List UInt8) : (bs l).data.toList = l := by simp [bs]
theorem bs_size (l : List UInt8) : (bs l).size = l.length := by simp [bs, ByteArray.size]
theorem bs_app (a b : List UInt8) : bs a ++ bs b = bs (a ++ b) := bytes_app a b
theorem bs_extract (l : List UInt8) (i j : Nat) : (bs l).extract i j = bs ((l.take j).drop i) := by
 apply ByteArray.ext
 simp [bs, List.extract_toArray, List.take_drop]
 by_cases h : i ≤ j
 ·rw [show i + (j - i) = j by omega]
 ·rw [List.drop_eq_nil_of_le (by simp; omega), List.drop_eq_nil_of_le (by simp; omega)]
theorem bs_from (l : List UInt8) (i n : Nat) (h : n = l.length) : (bs l).extract i n = bs (l.drop i) := by
 rw [bs_extract, h, List.take_length]
theorem bs_to (l : List UInt8) (j : Nat) : (bs l).extract 0 j = bs (l.take j) := by
 rw [bs_extract, List.drop_zero]
theorem bs_get {l : List UInt8} {i : Nat} {c : UInt8} (h : l[i]? = some c) (W : World) : (Instr.index 9 (.string (bs l)) (.int .i64 (i : Int))).run Tryz.prog W = .ok (.int .u8 (c.toNat : Int)) W := index_at (by rw [bs_list]; exact h) W
def pfxB : List UInt8 → Nat
 | a :: c :: _ => if a = 48 then (if c = 120 ∨ c = 88 then 16 else if c = 98 ∨ c = 66 then 2 else if c = 111 ∨ c = 79 then 8 else 0) else 0
 | _ => 0
theorem pfx_short {l : List UInt8} (h : l.length < 2) : pfxB l = 0 := by
 match l, h with
 | [], _ => rfl
 | [a], _ => rfl
 | a :: b :: m, h => exact absurd h (by simp)
theorem eq48 {a : UInt8} : ((a.toNat : Int) == 48) = decide (a = 48) := by
 rw [Bool.eq_iff_iff]
 simp only [beq_iff_eq, decide_eq_true_eq]
 constructor
 ·intro h
  exact UInt8.toNat_inj.1 (by show a.toNat = 48; omega)
 ·rintro rfl; rfl
set_option maxRecDepth 100000 in
set_option maxHeartbeats 4000000 in
theorem cutPrefix_run (l : List UInt8) (w : World) (hl : l.length ≤ 100000) :
  Calls Tryz.prog 60 #[.string (bs l)] w fun e w' => e = .returned (.tuple #[.int .i64 (pfxB l : Int), .string (bs (if pfxB l = 0 then l else l.drop 2))]) ∧ Below w.heap.size w w' := by
 have hsz := bs_size l
 by_cases h2 : l.length < 2
 ·have hp := pfx_short h2
  rw [hp, if_pos rfl]
  go_enter Tryz.func60, Tryz.ntmps60
  go_wp2_with fail
  go_ret2
  exact ⟨rfl, Below.refl _ _⟩
 ·match l, h2, hl with
  | [], h2, _ => exact absurd (show ([] : List UInt8).length < 2 by simp) h2
  | [a], h2, _ => exact absurd (show [a].length < 2 by simp) h2
  | a :: c :: m, h2, hl =>
   have hxa := bs_get (l := a :: c :: m) (i := 0) (c := a) rfl
   have hxc := bs_get (l := a :: c :: m) (i := 1) (c := c) rfl
   have hdr := bs_from (a :: c :: m) 2 _ rfl
   rw [Int.natCast_zero] at hxa
   rw [Int.natCast_one] at hxc
   have hl2 : ¬ (((a :: c :: m).length : Int) < 2) := by omega
   have hl3 : 2 ≤ (a :: c :: m).length := by omega
   have hp : pfxB (a :: c :: m) = if a = 48 then (if c = 120 ∨ c = 88 then 16 else if c = 98 ∨ c = 66 then 2 else if c = 111 ∨ c = 79 then 8 else 0) else 0 := rfl
   by_cases ha : a = 48
   ·have e48 : ((a.toNat : Int) == 48) = true := by rw [eq48]; simpa using ha
    rw [if_pos ha] at hp
    have hcc : c = 120 ∨ c = 88 ∨ c = 98 ∨ c = 66 ∨ c = 111 ∨ c = 79 ∨ (c ≠ 120 ∧ c ≠ 88 ∧ c ≠ 98 ∧ c ≠ 66 ∧ c ≠ 111 ∧ c ≠ 79) := by
     by_cases g1 : c = 120
     ·exact .inl g1
     ·by_cases g2 : c = 88
      ·exact .inr (.inl g2)
      ·by_cases g3 : c = 98
       ·exact .inr (.inr (.inl g3))
       ·by_cases g4 : c = 66
        ·exact .inr (.inr (.inr (.inl g4)))
        ·by_cases g5 : c = 111
         ·exact .inr (.inr (.inr (.inr (.inl g5))))
         ·by_cases g6 : c = 79
          ·exact .inr (.inr (.inr (.inr (.inr (.inl g6)))))
          ·exact .inr (.inr (.inr (.inr (.inr (.inr ⟨g1, g2, g3, g4, g5, g6⟩)))))
    rcases hcc with hcc | hcc | hcc | hcc | hcc | hcc | hcc
    ·subst hcc
     have hp2 : pfxB (a :: 120 :: m) = 16 := hp
     rw [hp2, if_neg (by decide)]
     clear hp hp2 ha
     generalize a.toNat = an at *
     generalize hL : a :: 120 :: m = L at *
     go_enter Tryz.func60, Tryz.ntmps60
     go_wp2_with fail
     go_quiet (fail)
     go_wp2_with fail
     go_ret2
     exact ⟨rfl, (Below.refl _ _).drewN _⟩
    ·subst hcc
     have hp2 : pfxB (a :: 88 :: m) = 16 := hp
     rw [hp2, if_neg (by decide)]
     clear hp hp2 ha
     generalize a.toNat = an at *
     generalize hL : a :: 88 :: m = L at *
     go_enter Tryz.func60, Tryz.ntmps60
     go_wp2_with fail
     go_quiet (fail)
     go_wp2_with fail
     go_ret2
     exact ⟨rfl, (Below.refl _ _).drewN _⟩
    ·subst hcc
     have hp2 : pfxB (a :: 98 :: m) = 2 := hp
     rw [hp2, if_neg (by decide)]
     clear hp hp2 ha
     generalize a.toNat = an at *
     generalize hL : a :: 98 :: m = L at *
     go_enter Tryz.func60, Tryz.ntmps60
     go_wp2_with fail
     go_quiet (fail)
     go_wp2_with fail
     go_ret2
     exact ⟨rfl, (Below.refl _ _).drewN _⟩
    ·subst hcc
     have hp2 : pfxB (a :: 66 :: m) = 2 := hp
     rw [hp2, if_neg (by decide)]
     clear hp hp2 ha
     generalize a.toNat = an at *
     generalize hL : a :: 66 :: m = L at *
     go_enter Tryz.func60, Tryz.ntmps60
     go_wp2_with fail
     go_quiet (fail)
     go_wp2_with fail
     go_ret2
     exact ⟨rfl, (Below.refl _ _).drewN _⟩
    ·subst hcc
     have hp2 : pfxB (a :: 111 :: m) = 8 := hp
     rw [hp2, if_neg (by decide)]
     clear hp hp2 ha
     generalize a.toNat = an at *
     generalize hL : a :: 111 :: m = L at *
     go_enter Tryz.func60, Tryz.ntmps60
     go_wp2_with fail
     go_quiet (fail)
     go_wp2_with fail
     go_ret2
     exact ⟨rfl, (Below.refl _ _).drewN _⟩
    ·subst hcc
     have hp2 : pfxB (a :: 79 :: m) = 8 := hp
     rw [hp2, if_neg (by decide)]
     clear hp hp2 ha
     generalize a.toNat = an at *
     generalize hL : a :: 79 :: m = L at *
     go_enter Tryz.func60, Tryz.ntmps60
     go_wp2_with fail
     go_quiet (fail)
     go_wp2_with fail
     go_ret2
     exact ⟨rfl, (Below.refl _ _).drewN _⟩
    ·obtain ⟨g1, g2, g3, g4, g5, g6⟩ := hcc
     have hp2 : pfxB (a :: c :: m) = 0 := by
      rw [hp, if_neg (fun h => h.elim g1 g2), if_neg (fun h => h.elim g3 g4), if_neg (fun h => h.elim g5 g6)]
     rw [hp2, if_pos rfl]
     have hne : ∀ k : UInt8, c ≠ k → ((c.toNat : Int) == (k.toNat : Int)) = false := fun k h => beq_eq_false_iff_ne.2 (fun e => h (UInt8.toNat_inj.1 (by omega)))
     have f1 : ((c.toNat : Int) == 120) = false := hne 120 g1
     have f2 : ((c.toNat : Int) == 88) = false := hne 88 g2
     have f3 : ((c.toNat : Int) == 98) = false := hne 98 g3
     have f4 : ((c.toNat : Int) == 66) = false := hne 66 g4
     have f5 : ((c.toNat : Int) == 111) = false := hne 111 g5
     have f6 : ((c.toNat : Int) == 79) = false := hne 79 g6
     clear hp hp2 ha hne g1 g2 g3 g4 g5 g6 hdr
     generalize a.toNat = an at *
     generalize c.toNat = cn at *
     generalize hL : a :: c :: m = L at *
     go_enter Tryz.func60, Tryz.ntmps60
     go_wp2_with fail
     go_ret2
     exact ⟨rfl, Below.refl _ _⟩
   ·have e48 : ((a.toNat : Int) == 48) = false := by rw [eq48]; simpa using ha
    rw [if_neg ha] at hp
    rw [hp, if_pos rfl]
    clear hp ha hdr hxc
    generalize a.toNat = an at *
    generalize hL : a :: c :: m = L at *
    go_enter Tryz.func60, Tryz.ntmps60
    go_wp2_with fail
    go_ret2
    exact ⟨rfl, Below.refl _ _⟩
def sgnL : List UInt8 → List UInt8
 | a :: _ => if isSgn a.toNat then [a] else []
 | [] => []
def restL : List UInt8 → List UInt8
 | a :: m => if isSgn a.toNat then m else a :: m
 | [] => []
theorem bs_isEmpty (l : List UInt8) : (bs l).toList.isEmpty = l.isEmpty := by rw [Lib.toList_data, bs_list]
set_option maxRecDepth 100000 in
set_option maxHeartbeats 4000000 in
theorem cutSign_run (l : List UInt8) (w : World) (hl : l.length ≤ 100000) :
  Calls Tryz.prog 106 #[.string (bs l)] w fun e w' => e = .returned (.tuple #[.string (bs (sgnL l)), .string (bs (restL l))]) ∧ Below w.heap.size w w' := by
 have hsz := bs_size l
 have he := bs_isEmpty l
 cases l with
 | nil =>
  go_enter Tryz.func106, Tryz.ntmps106
  go_wp2_with fail
  go_ret2
  exact ⟨rfl, Below.refl _ _⟩
 | cons a m =>
  have hxa := bs_get (l := a :: m) (i := 0) (c := a) rfl
  rw [Int.natCast_zero] at hxa
  have hne : ¬ ((a :: m).length = 0) := by simp
  have hd1 := bs_from (a :: m) 1 _ rfl
  have hd0 := bs_to (a :: m) 1
  have hl1 : 1 ≤ (a :: m).length := by simp
  have he2 : (bs (a :: m)).toList.isEmpty = false := he
  have HS := Lib.hid (fun W => isSign_run a.toNat W)
  have e1 : sgnL (a :: m) = if isSgn a.toNat = true then [a] else [] := rfl
  have e2 : restL (a :: m) = if isSgn a.toNat = true then m else a :: m := rfl
  rw [e1, e2]
  clear he e1 e2
  cases hs : isSgn a.toNat
  ·rw [hs] at HS
   simp only [Bool.false_eq_true, if_false]
   clear hs hd1 hd0
   generalize a.toNat = an at *
   generalize hL : a :: m = L at *
   go_enter Tryz.func106, Tryz.ntmps106
   go_wp2_with fail
   refine (HS.out _).mono ?_
   rintro e w1 ⟨rfl, rfl⟩
   go_wp2_with fail
   go_ret2
   exact ⟨rfl, Below.refl _ _⟩
  ·rw [hs] at HS
   simp only [if_true]
   clear hs
   have hd1' : (a :: m).drop 1 = m := rfl
   have hd0' : (a :: m).take 1 = [a] := rfl
   rw [hd1'] at hd1
   rw [hd0'] at hd0
   clear hd1' hd0'
   generalize a.toNat = an at *
   generalize hL : a :: m = L at *
   go_enter Tryz.func106, Tryz.ntmps106
   go_wp2_with fail
   refine (HS.out _).mono ?_
   rintro e w1 ⟨rfl, rfl⟩
   go_wp2_with fail
   go_quiet (fail)
   go_wp2_with fail
   go_ret2
   exact ⟨rfl, (Below.refl _ _).drewN _⟩
end Go.Proofs.YtgoemhcngmpfbaaGreatDoor
namespace Go.Proofs.YtgoemhcngmpfbaaGreatDoor
open Go.RowKit Go.Sort
set_option linter.unusedSimpArgs false
def Sep (p : Nat → Bool) (l : List UInt8) : Prop := ∀ i : Nat, l[i]? = some 95 → ∃ a b : UInt8, 0 < i ∧ l[i - 1]? = some a ∧ l[i + 1]? = some b ∧ p a.toNat = true ∧ p b.toNat = true
theorem eq95 {a : UInt8} : ((a.toNat : Int) == 95) = decide (a = 95) := by
 rw [Bool.eq_iff_iff]
 simp only [beq_iff_eq, decide_eq_true_eq]
 constructor
 ·intro h
  exact UInt8.toNat_inj.1 (by show a.toNat = 95; omega)
 ·rintro rfl; rfl
set_option maxRecDepth 100000 in
set_option maxHeartbeats 8000000 in
theorem separated_run (k : Int) (p : Nat → Bool) (l : List UInt8) (b : Bool) (w : World) (hl : l.length ≤ 100000) (hb : Hid (b = true ↔ Sep p l))
  (HH : Hid (∀ (c : UInt8) W, Calls Tryz.prog 94 #[.int .i64 k, .int .u8 (c.toNat : Int)] W fun e w' => e = .returned (.bool (p c.toNat)) ∧ w' = W)) :
  Calls Tryz.prog 61 #[.string (bs l), .int .i64 k] w fun e w' => e = .returned (.bool b) ∧ w' = w := by
 have hsz := bs_size l
 go_enter Tryz.func61, Tryz.ntmps61
 go_wp2_with fail
 go_loopg [9] (l.length + 1) (fun h s9 wr => ∃ i : Nat, s9 = .int .i64 (i : Int) ∧ Hid (i + h = l.length + 1) ∧ i ≤ l.length ∧ Hid (∀ j : Nat, j < i → l[j]? = some 95 → ∃ a b : UInt8, 0 < j ∧ l[j - 1]? = some a ∧ l[j + 1]? = some b ∧ p a.toNat = true ∧ p b.toNat = true) ∧ wr = w)
 case atStart => exact ⟨0, rfl, by show _ = _; omega, by omega, fun j hj => absurd hj (by omega), rfl⟩
 case round =>
  obtain ⟨i, rfl, HI, hin, HS, rfl⟩ := hrel
  by_cases hlt : i < l.length
  ·have hiz : (i : Int) < (l.length : Int) := by omega
   obtain ⟨c, hc⟩ : ∃ c, l[i]? = some c := ⟨l[i], List.getElem?_eq_getElem hlt⟩
   have hx := bs_get hc
   by_cases hu : c = 95
   ·subst hu
    have hx95 : ∀ W, (Instr.index 9 (.string (bs l)) (.int .i64 (i : Int))).run Tryz.prog W = .ok (.int .u8 95) W := hx
    clear hx
    by_cases h0 : 0 < i
    ·have h0z : (0 : Int) < (i : Int) := by omega
     by_cases h1 : i + 1 < l.length
     ·have h1z : (i : Int) < (l.length : Int) - 1 := by omega
      obtain ⟨im, him⟩ : ∃ im, i = im + 1 := ⟨i - 1, by omega⟩
      have hmz : (i : Int) - 1 = (im : Int) := by omega
      obtain ⟨ip, hip⟩ : ∃ ip, i + 1 = ip := ⟨_, rfl⟩
      have hpz : (i : Int) + 1 = (ip : Int) := by omega
      obtain ⟨ca, hca⟩ : ∃ c, l[im]? = some c := ⟨l[im], List.getElem?_eq_getElem (by omega)⟩
      obtain ⟨cb, hcb⟩ : ∃ c, l[ip]? = some c := ⟨l[ip], List.getElem?_eq_getElem (by omega)⟩
      have hxa := bs_get hca
      have hxb := bs_get hcb
      have HA := Lib.hid (fun W => HH.out ca W)
      have HB := Lib.hid (fun W => HH.out cb W)
      have HCA : Hid (l[i - 1]? = some ca) := by rw [him]; exact hca
      have HCB : Hid (l[i + 1]? = some cb) := by rw [hip]; exact hcb
      have HC := Lib.hid hc
      have HIM := Lib.hid him
      clear hca hcb hc him hip
      cases hpa : p ca.toNat
      ·have HF : Hid (b = false) := by
        cases hbb : b
        ·rfl
        ·obtain ⟨a', b', _, g2, _, g4, _⟩ := hb.out.1 hbb i HC.out
         rw [HCA.out] at g2
         cases g2
         rw [hpa] at g4
         cases g4
       rw [hpa] at HA
       clear hpa
       generalize ca.toNat = an at *
       generalize cb.toNat = bn at *
       go_wp2_with fail
       refine (HA.out _).mono ?_
       rintro e w1 ⟨rfl, rfl⟩
       go_wp2_with fail
       go_ret
       exact ⟨by rw [HF.out]; rfl, rfl⟩
      ·rw [hpa] at HA
       have HPA := Lib.hid hpa
       clear hpa
       cases hpb : p cb.toNat
       ·have HF : Hid (b = false) := by
         cases hbb : b
         ·rfl
         ·obtain ⟨a', b', _, _, g3, _, g5⟩ := hb.out.1 hbb i HC.out
          rw [HCB.out] at g3
          cases g3
          rw [hpb] at g5
          cases g5
        rw [hpb] at HB
        clear hpb
        generalize ca.toNat = an at *
        generalize cb.toNat = bn at *
        go_wp2_with fail
        refine (HA.out _).mono ?_
        rintro e w1 ⟨rfl, rfl⟩
        go_wp2_with fail
        refine (HB.out _).mono ?_
        rintro e w1 ⟨rfl, rfl⟩
        go_wp2_with fail
        go_ret
        exact ⟨by rw [HF.out]; rfl, rfl⟩
       ·rw [hpb] at HB
        have HS2 : Hid (∀ j : Nat, j < i + 1 → l[j]? = some 95 → ∃ a b : UInt8, 0 < j ∧ l[j - 1]? = some a ∧ l[j + 1]? = some b ∧ p a.toNat = true ∧ p b.toNat = true) := fun j hj h => by
         by_cases e : j = i
         ·subst e
          exact ⟨ca, cb, h0, HCA.out, HCB.out, HPA.out, hpb⟩
         ·exact HS.out j (by omega) h
        clear hpb HPA HCA HCB
        generalize ca.toNat = an at *
        generalize cb.toNat = bn at *
        go_wp2_with fail
        refine (HA.out _).mono ?_
        rintro e w1 ⟨rfl, rfl⟩
        go_wp2_with fail
        refine (HB.out _).mono ?_
        rintro e w1 ⟨rfl, rfl⟩
        go_wp2_with fail
        go_roundg (l.length - i)
        case measure => have := HI.out; omega
        case rel => exact ⟨i + 1, by go_num, by show _ = _; have := HI.out; omega, by omega, HS2, rfl⟩
     ·have HF : Hid (b = false) := by
       cases hbb : b
       ·rfl
       ·obtain ⟨a', b', _, _, g3, _, _⟩ := hb.out.1 hbb i hc
        have := (List.getElem?_eq_some_iff.1 g3).1
        omega
      have h1z : ¬ (i : Int) < (l.length : Int) - 1 := by omega
      clear h1 hc
      go_wp2_with fail
      go_ret
      exact ⟨by rw [HF.out]; rfl, rfl⟩
    ·have HF : Hid (b = false) := by
      cases hbb : b
      ·rfl
      ·obtain ⟨a', b', g1, _⟩ := hb.out.1 hbb i hc
       omega
     obtain rfl : i = 0 := by omega
     rw [Int.natCast_zero] at hx95
     clear h0 hc
     go_wp2_with fail
     go_ret
     exact ⟨by rw [HF.out]; rfl, rfl⟩
   ·have e95 : ((c.toNat : Int) == 95) = false := by rw [eq95]; simpa using hu
    have HS2 : Hid (∀ j : Nat, j < i + 1 → l[j]? = some 95 → ∃ a b : UInt8, 0 < j ∧ l[j - 1]? = some a ∧ l[j + 1]? = some b ∧ p a.toNat = true ∧ p b.toNat = true) := fun j hj h => by
     by_cases e : j = i
     ·subst e
      rw [hc] at h
      exact absurd (Option.some.inj h) hu
     ·exact HS.out j (by omega) h
    clear hu hc
    generalize c.toNat = cn at *
    have h4 : ((0 : Int) < (i : Int) ∧ (i : Int) < (l.length : Int) - 1) ∨ ((0 : Int) < (i : Int) ∧ ¬ (i : Int) < (l.length : Int) - 1) ∨ ¬ (0 : Int) < (i : Int) := by omega
    rcases h4 with ⟨h4, h5⟩ | ⟨h4, h5⟩ | h4 <;>
    ·go_wp2_with fail
     go_roundg (l.length - i)
     case measure => have := HI.out; omega
     case rel => exact ⟨i + 1, by go_num, by show _ = _; have := HI.out; omega, by omega, HS2, rfl⟩
  ·obtain rfl : i = l.length := by omega
   have HF : Hid (b = true) := hb.out.2 (fun j h => HS.out j (by have := (List.getElem?_eq_some_iff.1 h).1; omega) h)
   go_wp2_with fail
   go_ret
   exact ⟨by rw [HF.out]; rfl, rfl⟩
def decB (l : List UInt8) : Bool := !l.isEmpty && okDig 10 l
theorem decB_K (l : List UInt8) : decB l = decide (parK 10 l = 0 ∨ parK 10 l = 9) := by
 unfold decB
 cases l with
 | nil => rw [parK_nil]; rfl
 | cons a m =>
  cases h : okDig 10 (a :: m)
  ·rw [parK_dig h (by simp)]; rfl
  ·rcases Nat.lt_or_ge (num 10 (a :: m)) (18446744073709551616 ^ 8) with hf | hf
   ·rw [parK_ok h (by simp) hf]; rfl
   ·rw [parK_over h (by simp) (Nat.not_lt.2 hf)]; rfl
set_option maxRecDepth 100000 in
set_option maxHeartbeats 4000000 in
theorem decimal_runN (l : List UInt8) (w : World) (hl : l.length ≤ 100000) :
  Calls Tryz.prog 108 #[.string (bs l)] w fun e w' => e = .returned (.bool (decB l)) ∧ Below w.heap.size w w' := by
 have HP : ∀ W, Calls Tryz.prog 62 #[.string (bs l), .int .i64 10] W fun e w' => e = .returned (.tuple #[intV false (parN 10 l), errV (parK 10 l)]) ∧ Below W.heap.size W w' := fun W => by
  have := Parse_runL (bs l) 10 W (.inr (.inr (.inl rfl))) (by rw [bs_size]; exact hl)
  rwa [bs_list] at this
 rw [decB_K]
 have HK := parK_cases 10 l
 generalize parN 10 l = n at *
 generalize parK 10 l = k at *
 rcases HK with rfl | rfl | rfl | rfl
 ·have HP := Lib.hid HP
  have he : errV 0 = .nilIface := rfl
  rw [he] at HP
  clear he
  go_enter Tryz.func108, Tryz.ntmps108
  go_wp2_with fail
  refine (HP.out _).mono ?_
  rintro e w1 ⟨rfl, hw1⟩
  obtain ⟨S, hS⟩ : ∃ S, w1.heap.size = S := ⟨_, rfl⟩
  obtain ⟨a1, ha⟩ : ∃ W, w1.alloc (boxIZ 25) = W := ⟨_, rfl⟩
  have HZ := IntAt.zero w1 25
  have B1 := hw1.trans ((below_alloc w1 (boxIZ 25)).mono hw1.size)
  rw [ha, hS] at HZ
  rw [ha] at B1
  replace HZ := Lib.hid HZ
  have B2 := Lib.hid ((st9_but a1 S false n).2.1 w.heap.size w (by have := hw1.size; omega) B1)
  clear hw1 B1
  go_wp2_with (with_reducible refine wpList_store_int rfl (.tmp 3) (.tmp 8) rfl (b := S) (s := false) (n := n) rfl rfl HZ.out ?_)
  go_ret
  exact ⟨rfl, B2.out⟩
 ·have HP := Lib.hid HP
  have HI := Lib.hid (fun W => is_errno_below 9 9 W)
  unfold errno at HI
  have he : errV 9 = .iface 74 (.int .i64 9) := rfl
  rw [he] at HP
  clear he
  go_enter Tryz.func108, Tryz.ntmps108
  go_wp2_with fail
  refine (HP.out _).mono ?_
  rintro e w1 ⟨rfl, hw1⟩
  obtain ⟨S, hS⟩ : ∃ S, w1.heap.size = S := ⟨_, rfl⟩
  obtain ⟨a1, ha⟩ : ∃ W, w1.alloc (boxIZ 25) = W := ⟨_, rfl⟩
  have HZ := IntAt.zero w1 25
  have B1 := hw1.trans ((below_alloc w1 (boxIZ 25)).mono hw1.size)
  rw [ha, hS] at HZ
  rw [ha] at B1
  replace HZ := Lib.hid HZ
  have B2 := Lib.hid ((st9_but a1 S false n).2.1 w.heap.size w (by have := hw1.size; omega) B1)
  clear hw1 B1
  go_wp2_with (with_reducible refine wpList_store_int rfl (.tmp 3) (.tmp 8) rfl (b := S) (s := false) (n := n) rfl rfl HZ.out ?_)
  refine (HI.out _).mono ?_
  rintro e w2 ⟨rfl, hw2⟩
  have B3 := Lib.hid (B2.out.trans (hw2.mono B2.out.size))
  clear hw2
  go_wp2_with fail
  go_ret
  exact ⟨rfl, B3.out⟩
 ·have HP := Lib.hid HP
  have HI := Lib.hid (fun W => is_errno_below 12 9 W)
  unfold errno at HI
  have he : errV 12 = .iface 74 (.int .i64 12) := rfl
  rw [he] at HP
  clear he
  go_enter Tryz.func108, Tryz.ntmps108
  go_wp2_with fail
  refine (HP.out _).mono ?_
  rintro e w1 ⟨rfl, hw1⟩
  obtain ⟨S, hS⟩ : ∃ S, w1.heap.size = S := ⟨_, rfl⟩
  obtain ⟨a1, ha⟩ : ∃ W, w1.alloc (boxIZ 25) = W := ⟨_, rfl⟩
  have HZ := IntAt.zero w1 25
  have B1 := hw1.trans ((below_alloc w1 (boxIZ 25)).mono hw1.size)
  rw [ha, hS] at HZ
  rw [ha] at B1
  replace HZ := Lib.hid HZ
  have B2 := Lib.hid ((st9_but a1 S false n).2.1 w.heap.size w (by have := hw1.size; omega) B1)
  clear hw1 B1
  go_wp2_with (with_reducible refine wpList_store_int rfl (.tmp 3) (.tmp 8) rfl (b := S) (s := false) (n := n) rfl rfl HZ.out ?_)
  refine (HI.out _).mono ?_
  rintro e w2 ⟨rfl, hw2⟩
  have B3 := Lib.hid (B2.out.trans (hw2.mono B2.out.size))
  clear hw2
  go_wp2_with fail
  go_ret
  exact ⟨rfl, B3.out⟩
 ·have HP := Lib.hid HP
  have HI := Lib.hid (fun W => is_errno_below 13 9 W)
  unfold errno at HI
  have he : errV 13 = .iface 74 (.int .i64 13) := rfl
  rw [he] at HP
  clear he
  go_enter Tryz.func108, Tryz.ntmps108
  go_wp2_with fail
  refine (HP.out _).mono ?_
  rintro e w1 ⟨rfl, hw1⟩
  obtain ⟨S, hS⟩ : ∃ S, w1.heap.size = S := ⟨_, rfl⟩
  obtain ⟨a1, ha⟩ : ∃ W, w1.alloc (boxIZ 25) = W := ⟨_, rfl⟩
  have HZ := IntAt.zero w1 25
  have B1 := hw1.trans ((below_alloc w1 (boxIZ 25)).mono hw1.size)
  rw [ha, hS] at HZ
  rw [ha] at B1
  replace HZ := Lib.hid HZ
  have B2 := Lib.hid ((st9_but a1 S false n).2.1 w.heap.size w (by have := hw1.size; omega) B1)
  clear hw1 B1
  go_wp2_with (with_reducible refine wpList_store_int rfl (.tmp 3) (.tmp 8) rfl (b := S) (s := false) (n := n) rfl rfl HZ.out ?_)
  refine (HI.out _).mono ?_
  rintro e w2 ⟨rfl, hw2⟩
  have B3 := Lib.hid (B2.out.trans (hw2.mono B2.out.size))
  clear hw2
  go_wp2_with fail
  go_ret
  exact ⟨rfl, B3.out⟩
end Go.Proofs.YtgoemhcngmpfbaaGreatDoor
namespace Go.Proofs.YtgoemhcngmpfbaaGreatDoor
open Go.RowKit Go.Sort
set_option linter.unusedSimpArgs false
def unsc (l : List UInt8) : List UInt8 := l.filter fun c => c != 95
theorem pre_one (c b : UInt8) (m : List UInt8) : ([c] : List UInt8).isPrefixOf (b :: m) = (c == b) := by
 simp [List.isPrefixOf]
theorem replace_unsc : ∀ l : List UInt8, Lib.replaceK [95] [] (Lib.count l [95]) l = unsc l
 | [] => by
  have h : Lib.index [] [95] = -1 := rfl
  rw [Lib.count_miss h]
  rfl
 | b :: m => by
  have ih := replace_unsc m
  by_cases hb : b = 95
  ·subst hb
   have h : Lib.index ((95 : UInt8) :: m) [95] = ((0 : Nat) : Int) := by
    unfold Lib.index
    rw [pre_one]
    rfl
   rw [Lib.count_hit (by simp) h, Nat.add_comm, Lib.replaceK_hit _ _ _ _ _ h]
   show [] ++ [] ++ Lib.replaceK [95] [] (Lib.count (((95 : UInt8) :: m).drop (0 + 1)) [95]) (((95 : UInt8) :: m).drop (0 + 1)) = _
   show Lib.replaceK [95] [] (Lib.count m [95]) m = _
   rw [ih]
   rfl
  ·have hp : ([95] : List UInt8).isPrefixOf (b :: m) = false := by rw [pre_one]; simpa using fun h => hb h.symm
   have hu : unsc (b :: m) = b :: unsc m := by unfold unsc; rw [List.filter_cons_of_pos (by simpa using hb)]
   have hi : Lib.index (b :: m) [95] = if Lib.index m [95] == -1 then -1 else Lib.index m [95] + 1 := by
    show (if ([95] : List UInt8).isPrefixOf (b :: m) then _ else _) = _
    rw [hp]
    rfl
   by_cases hm : Lib.index m [95] = -1
   ·rw [if_pos (beq_iff_eq.2 hm)] at hi
    rw [Lib.count_miss hi, hu, ← ih, Lib.count_miss hm]
    rfl
   ·have hge := Lib.index_ge m [95]
    obtain ⟨i, hi2⟩ : ∃ i : Nat, Lib.index m [95] = i := ⟨(Lib.index m [95]).toNat, by omega⟩
    rw [if_neg (fun e => hm (beq_iff_eq.1 e)), hi2] at hi
    have hi3 : Lib.index (b :: m) [95] = ((i + 1 : Nat) : Int) := by rw [hi]; omega
    rw [Lib.count_hit (by simp) hi2, Nat.add_comm, Lib.replaceK_hit _ _ _ _ _ hi2] at ih
    rw [Lib.count_hit (by simp) hi3, Nat.add_comm, Lib.replaceK_hit _ _ _ _ _ hi3, hu, ← ih]
    rfl
theorem replaceAll_unsc (l : List UInt8) : Lib.replaceAll l [95] [] = unsc l := by
 rw [← replace_unsc]
 unfold Lib.replaceAll Lib.replace Lib.replaceNum
 rw [if_neg (by decide), if_pos (.inl (by decide))]
theorem unsc_length (l : List UInt8) : (unsc l).length ≤ l.length := List.length_filter_le _ _
def Ml (w : World) : Prop := ∃ m, w.cell? ⟨2, 0, none⟩ = some (.int .i64 m)
theorem Ml.below {w w' : World} (h : Ml w) (hb : Below w.heap.size w w') : Ml w' := by
 obtain ⟨m, hm⟩ := h
 exact ⟨m, (hb.cell (World.block_lt_of_cell? w _ hm)).trans hm⟩
set_option maxRecDepth 100000 in
set_option maxHeartbeats 2000000 in
theorem join_run (l : List UInt8) (w : World) (hl : l.length ≤ 100000) (hm : Hid (Ml w)) :
  Calls Tryz.prog 63 #[.string (bs l)] w fun e w' => e = .returned (.string (bs (unsc l))) ∧ Below w.heap.size w w' := by
 obtain ⟨m, hmc⟩ := hm.out
 have hsz := bs_size l
 have HR := Tryz.strings_ReplaceAll (bs l) ⟨#[95]⟩ ⟨#[]⟩ m w (by omega) hmc (by decide) (by show (bs l).size + Lib.countB (bs l) ⟨#[95]⟩ * 0 ≤ _; omega)
 have h95 : (⟨#[95]⟩ : ByteArray).data.toList = [95] := rfl
 have h0 : (⟨#[]⟩ : ByteArray).data.toList = [] := rfl
 rw [bs_list, h95, h0, replaceAll_unsc, show (⟨(unsc l).toArray⟩ : ByteArray) = bs (unsc l) from rfl] at HR
 replace HR := Lib.hid HR
 clear hmc h95 h0
 go_enter Tryz.func63, Tryz.ntmps63
 go_wp2_with fail
 refine (HR.out).mono ?_
 rintro e w1 ⟨rfl, hw1⟩
 have HB := Lib.hid hw1
 clear hw1
 go_wp2_with fail
 go_ret
 exact ⟨rfl, HB.out⟩
end Go.Proofs.YtgoemhcngmpfbaaGreatDoor
