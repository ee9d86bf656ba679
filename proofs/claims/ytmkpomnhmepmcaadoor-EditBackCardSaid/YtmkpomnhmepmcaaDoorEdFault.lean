/-
  The contracts of edit.follows and edit.fault: what is wrong with one edit.
-/
import Derived.Test.YtmkpomnhmepmcaaDoorEdTo
import Derived.Test.YtmkpomnhmepmcaaDoorUtfRest
import Derived.Shelf.SlSortCmp.QuietGrown
namespace Go.Proofs.YtmkpomnhmepmcaaDoor
open Go.RowKit Go.Sort

/-- No error, or one of api's, by its number. -/
def errK (k : Nat) : Value := if k = 0 then .nilIface else errno k
theorem below_grow {B : Nat} {w w1 : World} (h : Below B w w1) (hB : B ≤ w1.heap.size) (os : Array Obj) : Below B w (grow w1 os) :=
  h.trans ⟨rfl, rfl, rfl, by simp, fun k hk => heap_grow_old _ _ (by omega)⟩
theorem cell_grownB {w W : World} {b o : Nat} {v : Value} (h : w.cell? ⟨b, o, none⟩ = some v) (hb : Below w.heap.size w W) (hlt : b < w.heap.size) (n : Nat) (os : Array Obj) : (grow (W.drewN n) os).cell? ⟨b, o, none⟩ = some v :=
  ((below_grow (below_drewN hb n) (show w.heap.size ≤ (W.drewN n).heap.size from hb.size) os).cell (p := ⟨b, o, none⟩) hlt).trans h
/-- May an edit stand behind another? -/
def foll (f g t : Int) : Bool := decide (t ≤ f) && (f != g)
set_option maxHeartbeats 1000000 in
theorem follows_run (f t g u : Int) (s r : ByteArray) (b : Bool) (w : World) (hb : Hid (foll f g u = b)) :
    Calls Tryd.prog 31 #[.agg #[.int .i64 f, .int .i64 t, .string s], .agg #[.int .i64 g, .int .i64 u, .string r]] w fun e w' => e = .returned (.bool b) ∧ ∃ q os, w' = grow (w.drewN q) os := by
  have al : ∀ (o p : Obj), ∃ q os, (w.alloc o).alloc p = grow (w.drewN q) os := fun o p => ⟨0, _, by rw [alloc_eq_grow, alloc_eq_grow, grow_grow]; rfl⟩
  by_cases h1 : u ≤ f
  · have h1' : decide (u ≤ f) = true := decide_eq_true h1
    obtain ⟨c, hc⟩ : ∃ c, (f != g) = c := ⟨_, rfl⟩
    have HC : Hid (c = b) := by
      show _ = _
      rw [← hb.out, foll, h1', hc, Bool.true_and]
    clear h1
    go_enter Tryd.func31, Tryd.ntmps31
    go_wp2
    go_ret
    exact ⟨ret_bool HC.out, al _ _⟩
  · have h1' : decide (u ≤ f) = false := decide_eq_false h1
    have HC : Hid (false = b) := by
      show _ = _
      rw [← hb.out, foll, h1', Bool.false_and]
    clear h1
    go_enter Tryd.func31, Tryd.ntmps31
    go_wp2
    go_ret
    exact ⟨ret_bool HC.out, al _ _⟩
/-- Does an edit stand where it may, behind the one before it? -/
def stands (x : Ei) (prev : Option Ei) : Bool := match prev with
  | none => true
  | some y => foll x.f y.f y.t
/-- Is a text UTF-8? -/
def textOk (s : ByteArray) : Bool := (scanAll (bts s)).2.isNone
/-- What is wrong with an edit: the error's number, or 0. -/
def faultE (bl : List Int) (prev : Option Ei) (x : Ei) : Nat :=
  if x.t < x.f ∨ stands x prev = false then 5 else if (bound bl x.f && bound bl x.t) = false then 4 else if textOk x.s = false then 3 else 0
def prevOf (l : List Ei) : Nat → Option Ei
  | 0 => none
  | j + 1 => l[j]?
set_option maxHeartbeats 8000000 in
theorem fault_run (Ab : Option Addr) (nb capb : Nat) (bl : List Int) (A : Option Addr) (n cap i : Nat) (l : List Ei) (x : Ei) (k : Nat) (w : World) (hy : Byts w w.heap.size Ab bl) (hbl : Hid (bl.length = nb)) (hh : Heads w)
    (hb : CellsV edCells w w.heap.size A l) (hl : Hid (l.length = n)) (hn : n ≤ 1000000) (hx : Hid (l[i]? = some x)) (hs : x.s.size ≤ 40) (hk : Hid (faultE bl (prevOf l i) x = k)) :
    Calls Tryd.prog 23 #[.slice Ab nb capb, .slice A n cap, .int .i64 (i : Int)] w fun e w' => e = .returned (errK k) ∧ Below w.heap.size w w' := by
  have HY := Lib.hid hy
  have HH := Lib.hid hh
  have hglt := hh.lt
  have hi : i < l.length := (List.getElem?_eq_some_iff.1 hx.out).1
  have hin : i < n := by have := hl.out; omega
  obtain ⟨gb, o, x', rfl, hg, hx', c0, c1, c2⟩ := eds_at hb hi
  obtain rfl : x' = x := Option.some.inj (hx'.symm.trans hx.out)
  obtain ⟨f, t, s⟩ := x'
  simp only [] at c0 c1 c2 hs
  have HB := Lib.hid hb
  clear hb hy hh hx' hi
  have mixed : Tryd.prog.follows .mixedOrders = true := by kernel_rfl
  go_enter Tryd.func23, Tryd.ntmps23
  go_upto_region 2 with fail
  obtain ⟨c, hc⟩ : ∃ c, (decide (t < f) || !stands ⟨f, t, s⟩ (prevOf l i)) = c := ⟨_, rfl⟩
  have Hc := Lib.hid hc
  clear hc
  have e0 : (w.alloc (.cells #[.int .i64 f, .int .i64 t, .string s] 45)).cell? ⟨w.heap.size, 0, none⟩ = some (.int .i64 f) := by simp
  have e1 : (w.alloc (.cells #[.int .i64 f, .int .i64 t, .string s] 45)).cell? ⟨w.heap.size, 1, none⟩ = some (.int .i64 t) := by simp
  have e2 : (w.alloc (.cells #[.int .i64 f, .int .i64 t, .string s] 45)).cell? ⟨w.heap.size, 2, none⟩ = some (.string s) := by simp
  have B1 : Hid (Below w.heap.size w (w.alloc (.cells #[.int .i64 f, .int .i64 t, .string s] 45))) := (Below.refl _ _).alloc (Nat.le_refl _) _
  have hs1 : w.heap.size < (w.alloc (.cells #[.int .i64 f, .int .i64 t, .string s] 45)).heap.size := by simp
  generalize w.alloc (.cells #[.int .i64 f, .int .i64 t, .string s] 45) = w1 at *
  go_cut [30] (fun s30 wx => s30 = .bool c ∧ wx.cell? ⟨w.heap.size, 0, none⟩ = some (.int .i64 f) ∧ wx.cell? ⟨w.heap.size, 1, none⟩ = some (.int .i64 t) ∧ wx.cell? ⟨w.heap.size, 2, none⟩ = some (.string s) ∧ Hid (Below w.heap.size w wx) ∧ w.heap.size < wx.heap.size)
  case first =>
    by_cases h1 : t < f
    · have h1' : decide (t < f) = true := decide_eq_true h1
      have HC : Hid (c = true) := by
        show _ = _
        rw [← Hc.out, h1', Bool.true_or]
      clear h1
      go_quiet (fail)
      go_wp2_with fail
      go_meet
      case rel => exact ⟨by rw [HC.out], e0, e1, e2, below_drewN B1.out nq, hs1⟩
    · have h1' : decide (t < f) = false := decide_eq_false h1
      clear h1
      by_cases h00 : 0 < i
      · obtain ⟨ip, hip⟩ : ∃ ip, i = ip + 1 := ⟨i - 1, by omega⟩
        obtain ⟨gb', o', y, hA', hg', hy', p0, p1, p2⟩ := eds_at (HB.out.below B1.out (Nat.le_refl _)) (show ip < l.length by have := hl.out; omega)
        cases hA'
        obtain ⟨g, u, r⟩ := y
        simp only [] at p0 p1 p2
        have HC : Hid (foll f g u = !c) := by
          show _ = _
          rw [← Hc.out, h1', Bool.false_or, Bool.not_not, hip, prevOf, hy', stands]
        have hcF : Hid (∀ W, Calls Tryd.prog 31 #[.agg #[.int .i64 f, .int .i64 t, .string s], .agg #[.int .i64 g, .int .i64 u, .string r]] W fun e w' => e = .returned (.bool !c) ∧ ∃ q os, w' = grow (W.drewN q) os) := fun W => follows_run f t g u s r _ W HC
        have hgl : gb < w1.heap.size := by omega
        have l0 := cell_grown (a := ⟨gb, o + ip * 3, none⟩) hgl p0
        have l1 := cell_grown (a := ⟨gb, o + ip * 3 + 1, none⟩) hgl p1
        have l2 := cell_grown (a := ⟨gb, o + ip * 3 + 2, none⟩) hgl p2
        have l3 := cell_grown (a := ⟨w.heap.size, 0, none⟩) hs1 e0
        have l4 := cell_grown (a := ⟨w.heap.size, 1, none⟩) hs1 e1
        have l5 := cell_grown (a := ⟨w.heap.size, 2, none⟩) hs1 e2
        have hd0 : decide (0 < i) = true := decide_eq_true h00
        have ejp : IntKind.i64.wrap ((i : Int) - 1) = (ip : Int) := by rw [IntKind.wrap_i64]; omega
        have hips : ip < n := by omega
        have HBB : Hid (∀ q os, Below w.heap.size w (grow (w1.drewN q) os)) := fun q os => below_grow (below_drewN B1.out q) (Nat.le_of_lt hs1) os
        have HSS : Hid (∀ q os, w.heap.size < (grow (w1.drewN q) os).heap.size) := fun q os => by simp; omega
        clear hip hy' p0 p1 p2 h00 c0 c1 c2 e0 e1 e2 HC
        go_quiet_grown (first | (go_at_call 31; refine Calls.grown_of (hcF.out _)) | fail)
        go_wp2_with fail
        go_meet
        case rel => exact ⟨by simp, l3 _ _, l4 _ _, l5 _ _, HBB.out _ _, HSS.out _ _⟩
      · obtain rfl : i = 0 := by omega
        have hd0 : decide ((0 : Int) < ((0 : Nat) : Int)) = false := by simp
        have HC : Hid (c = false) := by
          show _ = _
          rw [← Hc.out, h1', Bool.false_or]
          rfl
        go_quiet (fail)
        go_wp2_with fail
        go_meet
        case rel => exact ⟨by rw [HC.out], e0, e1, e2, below_drewN B1.out nq, hs1⟩
  case rest =>
    obtain ⟨rfl, k0, k1, k2, BW, hs2⟩ := hcut
    have HFk : Hid (k = if c = true then 5 else if (bound bl f && bound bl t) = false then 4 else if textOk s = false then 3 else 0) := by
      show _ = _
      rw [← hk.out, faultE, ← Hc.out]
      by_cases h1 : t < f
      · simp [h1]
      · by_cases h2 : stands ⟨f, t, s⟩ (prevOf l i) = true
        · simp [h1, h2]
        · simp [h1, h2]
    have HBd : Hid (∀ p b W, Hid (bound bl p = b) → Below w.heap.size w W → Calls Tryd.prog 32 #[.slice Ab nb capb, .int .i64 p] W fun e w' => e = .returned (.bool b) ∧ Below W.heap.size W w') := fun p b W hb hW =>
      hb.out ▸ Boundary_any Ab nb capb bl p W (HY.out.below hW (Nat.le_refl _)) hbl.out
    clear Hc hk HB c0 c1 c2 hg hin e0 e1 e2 hs1 B1 hx
    cases c with
    | true =>
      have HK : Hid (errK k = errno 5) := by
        show _ = _
        rw [HFk.out, if_pos rfl]
        rfl
      go_wp2_with fail
      go_ret
      exact ⟨by rw [HK.out]; rfl, BW.out⟩
    | false =>
      obtain ⟨b1, hb1⟩ : ∃ b1, bound bl f = b1 := ⟨_, rfl⟩
      obtain ⟨b2, hb2⟩ : ∃ b2, bound bl t = b2 := ⟨_, rfl⟩
      have H1 := Lib.hid hb1
      have H2 := Lib.hid hb2
      clear hb1 hb2
      go_wp2_with fail
      refine (HBd.out f b1 _ H1.out BW.out).mono ?_
      rintro e w3 ⟨rfl, hw3⟩
      have BW3 : Hid (Below w.heap.size w w3) := BW.out.trans (hw3.mono (by omega))
      have m1 := (hw3.cell (p := ⟨w.heap.size, 1, none⟩) hs2).trans k1
      have m2 := (hw3.cell (p := ⟨w.heap.size, 2, none⟩) hs2).trans k2
      have hs3 : w.heap.size < w3.heap.size := Nat.lt_of_lt_of_le hs2 hw3.size
      clear hw3 k0 k1 k2
      cases b1 with
      | false =>
        have HK : Hid (errK k = errno 4) := by
          show _ = _
          rw [HFk.out, if_neg (by simp), H1.out, Bool.false_and, if_pos rfl]
          rfl
        go_wp2_with fail
        go_ret
        exact ⟨by rw [HK.out]; rfl, BW3.out⟩
      | true =>
        go_wp2_with fail
        refine (HBd.out t b2 _ H2.out BW3.out).mono ?_
        rintro e w4 ⟨rfl, hw4⟩
        have BW4 : Hid (Below w.heap.size w w4) := BW3.out.trans (hw4.mono (by omega))
        have n2 := (hw4.cell (p := ⟨w.heap.size, 2, none⟩) hs3).trans m2
        have hs4 : w.heap.size < w4.heap.size := Nat.lt_of_lt_of_le hs3 hw4.size
        clear hw4 m1 m2
        cases b2 with
        | false =>
          have HK : Hid (errK k = errno 4) := by
            show _ = _
            rw [HFk.out, if_neg (by simp), H1.out, H2.out, Bool.true_and, if_pos rfl]
            rfl
          go_wp2_with fail
          go_ret
          exact ⟨by rw [HK.out]; rfl, BW4.out⟩
        | true =>
          obtain ⟨cc, w5, hconv, hc1, hc2, hy5, hb5⟩ := run_conv_str w4 s (by unfold maxLen; omega)
          have BW5 : Hid (Below w.heap.size w w5) := BW4.out.trans (hb5.mono (by omega))
          have HY5 := Lib.hid hy5
          have HHc : Hid (Heads w5) := HH.out.below BW5.out hglt
          obtain ⟨m, oo, hS⟩ : ∃ m oo, scanAll (bts s) = (m, oo) := ⟨_, _, rfl⟩
          have HC := Lib.hid (Check_any (some ⟨w4.heap.size, 0, none⟩) s.size cc (bts s) w5 hy5 HHc.out (show _ = _ from bts_length s) hc1 (by omega))
          have hs5 : w.heap.size ≤ w5.heap.size := BW5.out.size
          rw [hS] at HC
          have HS := Lib.hid hS
          clear hS hy5 hb5 hc1 hc2
          cases oo with
          | none =>
            have HK : Hid (errK k = .nilIface) := by
              show _ = _
              rw [HFk.out, if_neg (by simp), H1.out, H2.out, Bool.true_and, if_neg (by simp), if_neg (by simp [textOk, HS.out])]
              rfl
            have He : Hid (checkAns (m, none) = .nilIface) := rfl
            go_wp2_with fail
            refine HC.out.mono ?_
            rw [He.out]
            rintro e w6 ⟨rfl, hw6⟩
            go_wp2_with fail
            go_ret
            exact ⟨by rw [HK.out]; rfl, BW5.out.trans (hw6.mono hs5)⟩
          | some pp =>
            have HK : Hid (errK k = errno 3) := by
              show _ = _
              rw [HFk.out, if_neg (by simp), H1.out, H2.out, Bool.true_and, if_neg (by simp), if_pos (by simp [textOk, HS.out])]
              rfl
            have He : Hid (checkAns (m, some pp) = .iface 49 (.agg #[.int .i64 pp, .iface 46 (.int .i64 3)])) := rfl
            go_wp2_with fail
            refine HC.out.mono ?_
            rw [He.out]
            rintro e w6 ⟨rfl, hw6⟩
            go_wp2_with fail
            go_ret
            exact ⟨by rw [HK.out]; rfl, BW5.out.trans (hw6.mono hs5)⟩
end Go.Proofs.YtmkpomnhmepmcaaDoor
