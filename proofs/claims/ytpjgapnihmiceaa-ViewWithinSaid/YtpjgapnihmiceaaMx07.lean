/-
  Layer 15 (view): a node's own tokens, piece by piece: those ahead of each child, those behind the last. No program.
-/
import Derived.Test.YtpjgapnihmiceaaMx05
import Derived.Test.YtpjgapnihmiceaaMx00
import Derived.RangeFuncNested
import Derived.RangeFuncBound
import Derived.RangeFuncCalls
import Derived.RangeFuncLeaves
import Derived.Shelf.Abstract
import Derived.Shelf.RegionOpen
import Derived.WalkKit
import Derived.OwnWalkIn
import Derived.TacticsInMore
import Derived.LoopNIn
import Derived.LoopIn
import Derived.Test.YtpjgapnihmiceaaMx06
import Derived.Maps.AppendAt
namespace Go.Proofs.Ytpjgapnihmiceaa
open Go.RowKit
set_option linter.unusedSimpArgs false
set_option linter.unusedVariables false
def ownG (T : List Nd) (i : Nat) : List Int → Int → List Int
 | [], tok => spanW tok (nd T i).t
 | c :: r, tok => spanW tok (kd T c).f ++ ownG T i r (kd T c).t
theorem ownG_eq {T : List Nd} {m : Int} (hV : Valid T m) {i : Nat} : ∀ {l : List Int} {tok : Int}, LeftW T i l tok → (spanW tok (nd T i).t).filter (fun x => ownB T i x) = ownG T i l tok
 | [], tok, h => List.filter_eq_self.2 fun x hx => by
  have := spanW_mem.1 hx
  exact h.own hV this.1 this.2 fun c hc => by cases hc
 | c :: r, tok, h => by
  obtain ⟨_, _, _, h2, h3, h4⟩ := h.kid hV
  have h5 := h2.end_ hV
  have hm := h.kids c (List.mem_cons_self ..)
  rw [ownG, ← ownG_eq hV h2, ← spanW_cat (g := (kd T c).f) h3 (by omega), ← spanW_cat (f := (kd T c).f) (g := (kd T c).t) h4 h5, List.filter_append, List.filter_append]
  have e1 : (spanW tok (kd T c).f).filter (fun x => ownB T i x) = spanW tok (kd T c).f := List.filter_eq_self.2 fun x hx => by
   have hx := spanW_mem.1 hx
   refine h.own hV hx.1 (by omega) fun d hd => ?_
   rcases List.mem_cons.1 hd with rfl | hd
   ·omega
   ·have := h2.next hV d hd; omega
  have e2 : (spanW (kd T c).f (kd T c).t).filter (fun x => ownB T i x) = [] := List.filter_eq_nil_iff.2 fun x hx => by
   have hx := spanW_mem.1 hx
   intro ho
   exact (own_iff.1 ho).2 ⟨c, hm, hx⟩
  rw [e1, e2, List.nil_append]
theorem ownL_gap {T : List Nd} {m : Int} (hV : Valid T m) {i : Nat} (hi : i < T.length) : ownL T i = ownG T i (nd T i).kids (nd T i).f := by
 rw [← ownG_eq hV (LeftW.start hV hi)]
 unfold ownL
 rw [own_filter]
 rfl
end Go.Proofs.Ytpjgapnihmiceaa
namespace Go.Proofs.Ytpjgapnihmiceaa
open Go.RowKit Go.Shelf
set_option linter.unusedSimpArgs false
set_option linter.unusedVariables false
attribute [local go_sem] Oper.semAt_some
def Its (S s l : Nat) (W0 : World) (xb : Obj) (a : Int) (W : World) : Prop :=
 Below S W0 W ∧ W.heap[s]? = some (.cells #[.func (.yield l) #[] #[]] 40 (0, 0)) ∧ W.heap[s + 1]? = some xb ∧ W.heap[s + 3]? = some (.cells #[.int .i64 a] 3 (0, 0))
theorem Its.apart {S s l : Nat} {W0 W W' : World} {xb : Obj} {a : Int} (h : Its S s l W0 xb a W) (hs : S ≤ W0.heap.size) (k : Apart S [s, s + 1, s + 3] W W') : Its S s l W0 xb a W' := by
 obtain ⟨h0, h1, h2, h3⟩ := h
 have lt : ∀ {i : Nat} {o : Obj}, W.heap[i]? = some o → i < W.heap.size := fun e => (Array.getElem?_eq_some_iff.1 e).1
 exact ⟨h0.trans ⟨k.os, k.tape, k.output, k.size, fun i hi => k.block i (by have := h0.size; omega) (.inr hi)⟩, (k.block _ (lt h1) (.inl (by simp))).trans h1, (k.block _ (lt h2) (.inl (by simp))).trans h2, (k.block _ (lt h3) (.inl (by simp))).trans h3⟩
theorem Its.below {S s l : Nat} {W0 W W' : World} {xb : Obj} {a : Int} (h : Its S s l W0 xb a W) (hs : S ≤ W0.heap.size) (k : Below W.heap.size W W') : Its S s l W0 xb a W' :=
 h.apart hs (Apart.of k)
theorem Its.store {S s l : Nat} {W0 W : World} {xb : Obj} {a : Int} (h : Its S s l W0 xb a W) (hs : S ≤ s) (b : Int) : Its S s l W0 xb b (W.setCell ⟨s + 3, 0, none⟩ (.int .i64 b)) := by
 obtain ⟨h0, h1, h2, h3⟩ := h
 refine ⟨h0.setCell (p := ⟨s + 3, 0, none⟩) (by show S ≤ s + 3; omega) _, ?_, ?_, ?_⟩
 ·rw [Below.heap_setCell _ _ _ _ (by show s ≠ s + 3; omega)]; exact h1
 ·rw [Below.heap_setCell _ _ _ _ (by show s + 1 ≠ s + 3; omega)]; exact h2
 ·obtain ⟨hlt, hk⟩ := Array.getElem?_eq_some_iff.1 h3
  show (W.heap.modify (s + 3) _)[s + 3]? = _
  rw [Array.getElem?_eq_getElem (by rw [Array.size_modify]; exact hlt), Array.getElem_modify_self, hk]
  rfl
theorem Its.cells {S s l : Nat} {W0 W : World} {xb : Obj} {a : Int} (h : Its S s l W0 xb a W) : W.cell? ⟨s, 0, none⟩ = some (.func (.yield l) #[] #[]) ∧ W.cell? ⟨s + 3, 0, none⟩ = some (.int .i64 a) ∧ W.frozen? ⟨s + 3, 0, none⟩ = false := by
 obtain ⟨h0, h1, h2, h3⟩ := h
 refine ⟨?_, ?_, ?_⟩ <;> simp [World.cell?, World.frozen?, h1, h3]
theorem Its.but {S s l : Nat} {W0 W : World} {xb : Obj} {a : Int} (h : Its S s l W0 xb a W) (b : Int) : But W (W.setCell ⟨s + 3, 0, none⟩ (.int .i64 b)) [s, s + 1, s + 3] := (But.refl _ _).setCell (by simp) _
theorem Its.lts {S s l : Nat} {W0 W : World} {xb : Obj} {a : Int} (h : Its S s l W0 xb a W) : ∀ b ∈ [s, s + 1, s + 3], b < W.heap.size := by
 obtain ⟨h0, h1, h2, h3⟩ := h
 have lt : ∀ {i : Nat} {o : Obj}, W.heap[i]? = some o → i < W.heap.size := fun e => (Array.getElem?_eq_some_iff.1 e).1
 intro b hb
 simp only [List.mem_cons, List.not_mem_nil, or_false] at hb
 rcases hb with rfl | rfl | rfl
 ·exact lt h1
 ·exact lt h2
 ·exact lt h3
def toksEnc (x : Int) : Array Value := #[.int .i64 x]
def left3 (b : Int) (s : Nat) (W : World) : Nat := match W.cell? ⟨s + 3, 0, none⟩ with
 | some (.int _ z) => (b - z).toNat
 | _ => 0
theorem left3_eq {W : World} {b : Int} {s : Nat} {z : Int} (h : W.cell? ⟨s + 3, 0, none⟩ = some (.int .i64 z)) : left3 b s W = (b - z).toNat := by
 unfold left3
 rw [h]
def ThrOut (S s l : Nat) (W0 : World) (xb : Obj) (xs : List Int) (J Jx : List Int → World → Prop) (pre' : List Int) (z : Int) (e : Ending) (W' : World) : Prop :=
 (e = .returned (.bool true) ∧ J pre' W' ∧ Its S s l W0 xb z W') ∨ (e = .returned (.bool false) ∧ ∃ q, q <+: xs ∧ Jx q W')
set_option maxRecDepth 100000 in
set_option maxHeartbeats 2000000 in
theorem thr_in (S s l : Nat) (W0 : World) (xb : Obj) (xs : List Int) (J Jx : List Int → World → Prop) (hJ : Bides [s, s + 1, s + 3] J) (hS : S ≤ W0.heap.size) (hs : S ≤ s)
  (hY : ∀ n pre x W1, J pre W1 → pre ++ [x] <+: xs → (∀ b ∈ [s, s + 1, s + 3], b < W1.heap.size) → YieldAt Fence.wide n Try.prog l (toksEnc x) W1 fun e W' => (e = .returned (.bool true) ∧ J (pre ++ [x]) W' ∧ Apart S [s, s + 1, s + 3] W1 W') ∨ (e = .returned (.bool false) ∧ Jx (pre ++ [x]) W'))
  (pre : List Int) (a b : Int) (hxs : Hid (pre ++ spanW a b <+: xs)) (ha : 0 ≤ a ∧ a ≤ 1000) (hb : b ≤ 1000) (W : World) (hI : Its S s l W0 xb a W) (h0 : J pre W) (m : Nat) :
  CallsIn Fence.wide m Try.prog 38 #[.int .i64 b, .pointer (some ⟨s + 3, 0, none⟩), .pointer (some ⟨s, 0, none⟩)] W fun e W' => ThrOut S s l W0 xb xs J Jx (pre ++ spanW a b) (max a b) e W' := by
 have hro : Fence.wide.round = none := rfl
 refine callsIn_of_wp Try.func38 rfl trivial ?_ hro
 simp only [Try.ntmps38, List.size_toArray, List.length_cons, List.length_nil, Nat.reduceAdd, Nat.reduceSub, Array.replicate_succ, Array.replicate_zero, List.push_toArray, List.append_toArray, List.nil_append, List.cons_append]
 have HX := Lib.hid hxs.out
 clear hxs
 gi_wp2
 gi_loopw [] (fun wr => ∃ (i : Int), Hid (a ≤ i ∧ i ≤ max a b ∧ Its S s l W0 xb i wr ∧ J (pre ++ spanW a i) wr)) (fun wr => left3 b s wr)
 case atStart =>
  exact ⟨a, Int.le_refl _, by omega, hI, by rw [spanW_none (Int.le_refl _), List.append_nil]; exact h0⟩
 case round =>
  obtain ⟨i, HI⟩ := hrel
  obtain ⟨hai, hib, hit, hj⟩ := HI.out
  obtain ⟨c0, c3, f3⟩ := hit.cells
  have HM := Lib.hid (left3_eq (b := b) c3)
  have hi9 : 0 ≤ i ∧ i ≤ 1000 := by omega
  by_cases hlt : i < b
  ·have hdb : decide (i < b) = true := decide_eq_true hlt
   have hcat : pre ++ spanW a i ++ [i] = pre ++ spanW a (i + 1) := by
    rw [List.append_assoc, ← spanW_cat (f := a) (g := i) (t := i + 1) hai (by omega), spanW_cons (f := i) (t := i + 1) (by omega), spanW_none (Int.le_refl _)]
   have hpre : pre ++ spanW a i ++ [i] <+: xs := by
    rw [hcat]
    refine List.IsPrefix.trans ?_ HX.out
    rw [← spanW_cat (f := a) (g := i + 1) (t := b) (by omega) (by omega), ← List.append_assoc]
    exact List.prefix_append _ _
   have hYp := fun n => hY n _ i wr hj hpre (hit.lts)
   have HI2 : Hid (a ≤ i ∧ i ≤ max a b ∧ Its S s l W0 xb i wr) := ⟨hai, hib, hit⟩
   have HC := Lib.hid hcat
   have HPR := Lib.hid hpre
   have hwr : IntKind.i64.wrap (i + 1) = i + 1 := by rw [IntKind.wrap_i64]; omega
   clear HI hit hj hpre hcat hai hib
   obtain ⟨fn, tmps, assign, body, hy, hR⟩ := hYp (m - 1)
   unfold toksEnc at hy
   gi_wp2
   refine ⟨fun h => by simp [Fence.wide] at h, ?_⟩
   refine hR.mono ?_
   rintro e W4 (⟨rfl, hJ4, hk4⟩ | ⟨rfl, hJx4⟩)
   ·have hit4 := HI2.out.2.2.apart hS hk4
    obtain ⟨d0, d3, g3⟩ := hit4.cells
    have HJ4 : Hid (J (pre ++ spanW a (i + 1)) W4) := by show J _ _; rw [← HC.out]; exact hJ4
    have HI4 := Lib.hid hit4
    clear hk4 hJ4 hit4 hy hR hYp
    gi_wp2
    go_roundw
    case rel =>
     exact ⟨i + 1, by have := HI2.out.1; omega, by omega, HI4.out.store hs _, hJ _ _ _ HJ4.out (HI4.out.but _)⟩
    case measure =>
     rw [HM.out, left3_eq (HI4.out.store hs (i + 1)).cells.2.1]
     omega
   ·gi_wp2
    go_ret
    exact .inr ⟨rfl, _, HPR.out, hJx4⟩
  ·have hdb : decide (i < b) = false := decide_eq_false hlt
   have hmx : i = max a b := by omega
   have hsp : spanW a i = spanW a b := by
    rcases Int.lt_or_le b a with h | h
    ·rw [spanW_none (by omega), spanW_none (by omega)]
    ·rw [show i = b by omega]
   gi_wp2
   go_ret
   exact .inl ⟨rfl, by rw [← hsp]; exact hj, by rw [← hmx]; exact hit⟩
theorem Its.start (S l : Nat) (W W3 : World) (o2 : Obj) (a : Int) (hS : S ≤ W.heap.size) (hB : Below ((W.alloc (.cells #[.func (.yield l) #[] #[]] 40)).alloc o2).heap.size ((W.alloc (.cells #[.func (.yield l) #[] #[]] 40)).alloc o2).drew W3) (hz : W3.heap.size = W.heap.size + 3) :
  Its S W.heap.size l W o2 a (W3.alloc (.cells #[.int .i64 a] 3)) := by
 have hs : ((W.alloc (.cells #[.func (.yield l) #[] #[]] 40)).alloc o2).heap.size = W.heap.size + 2 := by simp
 rw [hs] at hB
 refine ⟨?_, ?_, ?_, ?_⟩
 ·refine Below.alloc ?_ (by rw [hz]; omega) _
  exact (((((Below.refl S W).alloc hS _).alloc (by simp; omega) _).drew).trans (hB.mono (by omega)))
 ·rw [Below.heap_alloc _ _ _ (by omega), hB.block _ (by omega)]
  exact (Below.heap_alloc _ _ _ (by simp)).trans (World.alloc_heap_new W _)
 ·rw [Below.heap_alloc _ _ _ (by omega), hB.block _ (by omega)]
  have := World.alloc_heap_new (W.alloc (.cells #[.func (.yield l) #[] #[]] 40)) o2
  rwa [World.size_alloc] at this
 ·rw [← hz]
  exact World.alloc_heap_new W3 _
theorem ownG_prefix {T : List Nd} {m : Int} (hV : Valid T m) {i : Nat} {c : Int} {r : List Int} {a : Int} (h : LeftW T i (c :: r) a) (pre xs : List Int) (hx : xs = pre ++ ownG T i (c :: r) a) : pre ++ spanW a (kd T c).f <+: xs ∧ xs = (pre ++ spanW a (kd T c).f) ++ ownG T i r (kd T c).t := by
 have e : xs = (pre ++ spanW a (kd T c).f) ++ ownG T i r (kd T c).t := by rw [hx, ownG, List.append_assoc]
 exact ⟨⟨_, e.symm⟩, e⟩
set_option maxRecDepth 100000 in
set_option maxHeartbeats 4000000 in
theorem own1_seq (S fb nb m : Nat) (v : Value) (d : List Int) (L : List Tv) (T : List Nd) (n : Int) (w0 W : World) (hw0 : w0.heap.size ≤ S) (hF : FileIs w0 v d L T) (hB0 : Below w0.heap.size w0 W) (hS : S ≤ W.heap.size)
    (hfb : W.cell? ⟨fb, 0, none⟩ = some v) (hfl : fb < S) (hnb : W.cell? ⟨nb, 0, none⟩ = some (.int .i64 n)) (hnl : nb < S) :
    SeqB m Try.prog 37 #[.pointer (some ⟨fb, 0, none⟩), .pointer (some ⟨nb, 0, none⟩)] toksEnc S [W.heap.size, W.heap.size + 1, W.heap.size + 3] (ownV T n) W := by
  intro l J Jx hJ hJx hY h0
  refine callsIn_wide.2 ?_
  obtain ⟨q, hq⟩ : ∃ q, inT T n = q := ⟨_, rfl⟩
  obtain ⟨s, hs⟩ : ∃ s, W.heap.size = s := ⟨_, rfl⟩
  rw [hs] at hY hJ hJx
  obtain ⟨W1, hW1⟩ : ∃ W1, W.alloc (.cells #[.func (.yield l) #[] #[]] 40) = W1 := ⟨_, rfl⟩
  have hB1 : Below W.heap.size W W1 := by rw [← hW1]; exact (Below.refl _ _).alloc (Nat.le_refl _) _
  have k1 := (hB1.cell (p := ⟨fb, 0, none⟩) (by show fb < _; omega)).trans hfb
  have k2 := (hB1.cell (p := ⟨nb, 0, none⟩) (by show nb < _; omega)).trans hnb
  have hF1 := hF.below (hB0.trans (hB1.mono (by omega)))
  have hK := Lib.hid (known_run v d L T n q W1 hF1 hq)
  cases q with
  | false =>
    have hv0 : ownV T n = [] := by
      unfold ownV
      rw [hq]
      rfl
    rw [hv0]
    have HJ := Lib.hid (hJ _ _ _ h0 (But.of_below hB1))
    clear hY hF hF1 hB0 hJ h0 hB1 hJx hq hfb hnb
    go_enter Try.func37, Try.ntmps37
    go_wp2_with fail
    refine hK.out.mono ?_
    rintro e w1 ⟨rfl, rfl⟩
    clear hK
    go_wp2_with fail
    refine bodyPost_ret (results_none rfl _ _ _) rfl ?_
    exact ⟨⟨_, rfl⟩, .inl HJ.out⟩
  | true =>
    rcases hF with ⟨rfl, rfl⟩ | ⟨b, rfl, hf⟩
    · rw [inT_nil] at hq; cases hq
    · obtain ⟨i, ⟨xk, xf, xt, xl⟩, tb, tof, M, c, A2, n2, c2, K, Q, c', F, E, rfl, him, hm40, hx, htb, hb, hFF, hE, hFE, hEn, hnc, hcc2, hn60, hLn, htok, e2, e1, ⟨a0, a1, a2, a3⟩, hql, hqc, hqm, hN, hv⟩ := node_at hf hq
      have hin := of_decide_eq_true hq
      have hnd : nd T i = ⟨xk, xf, xt, xl⟩ := by rw [← hx]; unfold kd; rw [Int.toNat_natCast]
      simp only [] at hFF hE a0 a1 a2 hql hN
      subst hFF hE
      have hOV : ownV T (i : Int) = ownG T i xl (F : Int) := by
        unfold ownV
        rw [if_pos hq, Int.toNat_natCast, ownL_gap hv (by omega), hnd]
      have hLW : LeftW T i xl (F : Int) := by
        have := LeftW.start hv (i := i) (by omega)
        rwa [hnd] at this
      have hEt : (nd T i).t = (E : Int) := by rw [hnd]
      have hfD := fun V (hV : Below S W V) => hf.below (hB0.trans (hV.mono hw0))
      have hB01 := hB0.trans (hB1.mono (by omega : w0.heap.size ≤ W.heap.size))
      have g2 := (hB01.cell (p := ⟨b, 2, none⟩) hb).trans e2
      have z0 := (hB01.cell (p := ⟨tb, tof + i * 4, none⟩) htb).trans a0
      have z1 := (hB01.cell (p := ⟨tb, tof + i * 4 + 1, none⟩) htb).trans a1
      have z2 := (hB01.cell (p := ⟨tb, tof + i * 4 + 2, none⟩) htb).trans a2
      have z3 := (hB01.cell (p := ⟨tb, tof + i * 4 + 3, none⟩) htb).trans a3
      have hsz1 : W1.heap.size = s + 1 := by rw [← hW1, ← hs]; simp
      have him2 : (i : Int) < (M : Int) := by omega
      have hbl : b < s := by have := hB0.size; omega
      have htbl : tb < s := by have := hB0.size; omega
      have hfbl : fb < s := by omega
      have hnbl : nb < s := by omega
      obtain ⟨Wz, hWz⟩ : ∃ Wz, W1.alloc (.cells #[.int .i64 0, .int .i64 0, .int .i64 0, .slice none 0 0] 49) = Wz := ⟨_, rfl⟩
      have hBz : Below W1.heap.size W1 Wz := by rw [← hWz]; exact (Below.refl _ _).alloc (Nat.le_refl _) _
      have k1z := (hBz.cell (p := ⟨fb, 0, none⟩) (by show fb < _; omega)).trans k1
      have k2z := (hBz.cell (p := ⟨nb, 0, none⟩) (by show nb < _; omega)).trans k2
      have g2z := (hBz.cell (p := ⟨b, 2, none⟩) (by show b < _; omega)).trans g2
      have z0z := (hBz.cell (p := ⟨tb, tof + i * 4, none⟩) (by show tb < _; omega)).trans z0
      have z1z := (hBz.cell (p := ⟨tb, tof + i * 4 + 1, none⟩) (by show tb < _; omega)).trans z1
      have z2z := (hBz.cell (p := ⟨tb, tof + i * 4 + 2, none⟩) (by show tb < _; omega)).trans z2
      have z3z := (hBz.cell (p := ⟨tb, tof + i * 4 + 3, none⟩) (by show tb < _; omega)).trans z3
      rw [← hWz] at k1z k2z g2z z0z z1z z2z z3z
      have HH := Lib.hid (And.intro hOV (And.intro hLW (And.intro hEt (And.intro hfD (And.intro hN (And.intro hql (And.intro hLn (And.intro hv hB1))))))))
      have HY := Lib.hid hY
      have HYA := Lib.hid (fun n pre x W1 h1 h2 h3 => yield_any (m := m - 1) n (HY.out pre x W1 h1 h2 h3))
      have HJ0 := Lib.hid h0
      have HJ := Lib.hid hJ
      have HJx := Lib.hid hJx
      have HB0 := Lib.hid hB0
      have HFB := Lib.hid hfb
      clear hY h0 hJ hJx hOV hLW hEt hfD hN hql hLn hv hnd hx hB1 hBz hB01 hWz hin hq hF1 e1 e2 a0 a1 a2 a3 hfb hnb htok hf hB0
      go_enter Try.func37, Try.ntmps37
      go_wp2_with fail
      refine hK.out.mono ?_
      rintro e w1 ⟨rfl, rfl⟩
      clear hK
      go_wp2_with fail
      go_region
      have hfD' := HH.out.2.2.2.1
      have hB1' := HH.out.2.2.2.2.2.2.2.2
      have hLn' := HH.out.2.2.2.2.2.2.1
      obtain ⟨xb, hxb⟩ : ∃ xb : Obj, xb = .cells #[.int .i64 xk, .int .i64 (F : Int), .int .i64 (E : Int), .slice K Q c'] 49 := ⟨_, rfl⟩
      obtain ⟨V2, hV2⟩ : ∃ V2, (w1.alloc (.cells #[.int .i64 xk, .int .i64 (F : Int), .int .i64 (E : Int), .slice K Q c'] 49)).drew = V2 := ⟨_, rfl⟩
      have hB2 : Below w1.heap.size w1 V2 := by rw [← hV2]; exact ((Below.refl _ _).alloc (Nat.le_refl _) _).drew
      have hz2 : V2.heap.size = s + 2 := by rw [← hV2, ← hxb]; show (w1.alloc xb).heap.size = _; simp; omega
      have hBS2 : Below S W V2 := (hB1'.trans (hB2.mono (by omega))).mono hS
      have y1 := (hB2.cell (p := ⟨fb, 0, none⟩) (by show fb < _; omega)).trans k1
      have n0 : V2.cell? ⟨s + 1, 0, none⟩ = some (.int .i64 xk) := by rw [← hV2, ← hsz1]; exact World.cell?_alloc_at _ _ _ _ rfl
      have n1 : V2.cell? ⟨s + 1, 1, none⟩ = some (.int .i64 (F : Int)) := by rw [← hV2, ← hsz1]; exact World.cell?_alloc_at _ _ _ _ rfl
      have n2' : V2.cell? ⟨s + 1, 2, none⟩ = some (.int .i64 (E : Int)) := by rw [← hV2, ← hsz1]; exact World.cell?_alloc_at _ _ _ _ rfl
      have n3 : V2.cell? ⟨s + 1, 3, none⟩ = some (.slice K Q c') := by rw [← hV2, ← hsz1]; exact World.cell?_alloc_at _ _ _ _ rfl
      have hR := Lib.hid (reach_run b d L T xk (F : Int) (E : Int) K Q c' V2 (hfD' V2 hBS2) (by omega) (by omega) (by omega))
      have HV2 := Lib.hid hV2
      have HW1 := Lib.hid hW1
      have HXB := Lib.hid hxb
      rw [hV2]
      clear hV2 hW1 hB2 hBS2 hfD' hB1' hLn' k1 k2 g2 z0 z1 z2 z3 k1z k2z g2z z0z z1z z2z z3z hxb
      go_wp2_with fail
      refine hR.out.mono ?_
      rintro e w3 ⟨rfl, hw3, hz3⟩
      replace hz3 : w3.heap.size = s + 3 := by omega
      have m3 : w3.cell? ⟨s + 1, 3, none⟩ = some (.slice K Q c') := (hw3.cell (p := ⟨s + 1, 3, none⟩) (by show s + 1 < _; omega)).trans n3
      obtain ⟨V4, hV4⟩ : ∃ V4, w3.alloc (.cells #[.int .i64 (F : Int)] 3) = V4 := ⟨_, rfl⟩
      have hB4 : Below w3.heap.size w3 V4 := by rw [← hV4]; exact (Below.refl _ _).alloc (Nat.le_refl _) _
      have m4 : V4.cell? ⟨s + 1, 3, none⟩ = some (.slice K Q c') := (hB4.cell (p := ⟨s + 1, 3, none⟩) (by show s + 1 < _; omega)).trans m3
      have HI4 : Hid (Its S s l W xb (F : Int) V4) := by
        show Its _ _ _ _ _ _ _
        have h1 := HV2.out
        rw [← HW1.out] at h1
        have := Its.start S l W w3 (.cells #[.int .i64 xk, .int .i64 (F : Int), .int .i64 (E : Int), .slice K Q c'] 49) (F : Int) hS (by rw [h1]; rw [show ((W.alloc (.cells #[.func (.yield l) #[] #[]] 40)).alloc (.cells #[.int .i64 xk, .int .i64 (F : Int), .int .i64 (E : Int), .slice K Q c'] 49)).heap.size = V2.heap.size by rw [← h1]; rfl]; exact hw3) (by rw [hz3, hs])
        rw [hV4, hs] at this
        rw [HXB.out]
        exact this
      have HJ4 : Hid (J [] V4) := by
        show J _ _
        refine HJ.out _ _ _ HJ0.out ⟨HI4.out.1.os, HI4.out.1.tape, HI4.out.1.output, HI4.out.1.size, fun k hk _ => ?_⟩
        rw [← hV4, Below.heap_alloc _ _ _ (by omega), hw3.block _ (by omega), ← HV2.out]
        show (w1.alloc _).heap[k]? = _
        rw [Below.heap_alloc _ _ _ (by omega), ← HW1.out, Below.heap_alloc _ _ _ hk]
      clear hR HV2 HW1 HJ0 hB4 hw3 n0 n1 n2' n3 y1 m3
      go_wp2_with fail
      have HLW0 := Lib.hid HH.out.2.1
      have HOV0 := Lib.hid HH.out.1
      clear hV4
      go_loopg [34] (Q + 1) (fun h s34 wr => ∃ (j : Nat) (pre : List Int) (a : Int), s34 = .int .i64 (j : Int) ∧ Hid (j + h = Q + 1 ∧ j ≤ Q ∧ 0 ≤ a ∧ a ≤ 1000) ∧ Hid (LeftW T i (xl.drop j) a) ∧ Hid (ownV T i = pre ++ ownG T i (xl.drop j) a) ∧ Hid (Its S s l W xb a wr) ∧ Hid (J pre wr))
      case atStart => exact ⟨0, [], (F : Int), rfl, by show _ ∧ _; omega, HLW0.out, by show _ = _; rw [HOV0.out]; rfl, HI4.out, HJ4.out⟩
      case round =>
        obtain ⟨j, pre, a, rfl, HN, HLW, HOV, HIT, HJJ⟩ := hrel
        generalize wr = wq at *
        clear HI4 HJ4 m4
        have hqlen : Q = xl.length := HH.out.2.2.2.2.2.1
        have hEt := HH.out.2.2.1
        have hval := HH.out.2.2.2.2.2.2.2.1
        have hBw0 : Below w0.heap.size w0 wq := HB0.out.trans (HIT.out.1.mono hw0)
        have hsz := HIT.out.1.size
        have kf : wq.cell? ⟨fb, 0, none⟩ = some (.pointer (some ⟨b, 0, none⟩)) := (HIT.out.1.cell (p := ⟨fb, 0, none⟩) hfl).trans HFB.out
        by_cases hj : j < Q
        · have hjz : (j : Int) < (Q : Int) := by omega
          obtain ⟨cc, hcc⟩ : ∃ cc, xl[j]? = some cc := ⟨_, List.getElem?_eq_getElem (by omega)⟩
          have hdrop : xl.drop j = cc :: xl.drop (j + 1) := by
            obtain ⟨hlt, hx⟩ := List.getElem?_eq_some_iff.1 hcc
            rw [List.drop_eq_getElem_cons hlt, hx]
          have HLW' := HLW.out
          have HOV' := HOV.out
          rw [hdrop] at HLW' HOV'
          obtain ⟨hc0, hci, _, hrest, haf, hft⟩ := HLW'.kid hval
          obtain ⟨hpre, hov2⟩ := ownG_prefix hval HLW' pre _ HOV'
          have hend := hrest.end_ hval
          rw [hEt] at hend
          have hlt := HLW'.lt
          have hin : inT T cc = true := decide_eq_true (by omega)
          have hfw := HH.out.2.2.2.1 wq HIT.out.1
          obtain ⟨i', ⟨yk, yf, yt, yl⟩, _, _, _, _, _, n2', _, _, _, _, G, H, rfl, _, _, hy, _, _, hyf, hyt, hGH, hHn, _, _, hn60', hLn', _⟩ := node_at hfw hin
          rw [hy] at hpre hov2 haf hft hend hrest
          simp only [] at hyf hyt
          subst hyf hyt
          simp only [] at hpre hov2 haf hft hend hrest
          have hlen := HH.out.2.2.2.2.2.2.1
          obtain ⟨kb, ko, rfl, hkb, hkc⟩ := HH.out.2.2.2.2.1 (by omega)
          have kc : wq.cell? ⟨kb, ko + j, none⟩ = some (.int .i64 (i' : Int)) := (hBw0.cell (p := ⟨kb, ko + j, none⟩) hkb).trans (hkc j _ hcc)
          have HNd := Lib.hid (fun V (hV : Below wq.heap.size wq V) => Node_run (.pointer (some ⟨b, 0, none⟩)) d L T (i' : Int) ⟨yk, (G : Int), (H : Int), yl⟩ V (.inr ⟨b, rfl, hfw.below hV⟩) (by show _ = _; unfold nodeV; rw [if_pos hin, hy]))
          unfold NodeOut at HNd
          have HRe := Lib.hid (fun V (hV : Below wq.heap.size wq V) K5 m5 c5 => reach_run b d L T yk (G : Int) (H : Int) K5 m5 c5 V (hfw.below hV) (by omega) (by omega) (by omega))
          have NB : Hid (Below wq.heap.size wq wq.drew) := (Below.refl _ wq).drew
          have HP := Lib.hid (And.intro hpre (And.intro hov2 hrest))
          have hfbq : fb < wq.heap.size := by omega
          have HA : Hid (0 ≤ a ∧ a ≤ (G : Int)) := ⟨HN.out.2.2.1, haf⟩
          have g1 : (G : Int) ≤ (E : Int) := by omega
          have g2 : (G : Int) ≤ (H : Int) := by omega
          have g3 : H ≤ 60 := by omega
          clear HLW HOV HLW' HOV' hpre hov2 hrest haf hft hend hin hfw hy hc0 hci hkc hcc hdrop hLn' hlen hval hEt hBw0 hqlen
          go_wp2_with fail
          go_region_held3 (fun V => V.cell? ⟨fb, 0, none⟩ = some (.pointer (some ⟨b, 0, none⟩))) (exact (NB.out.cell (p := ⟨fb, 0, none⟩) hfbq).trans kf)
            (first | (go_at_call 23; refine (HNd.out _ NB.out).mono ?_; rintro e w5 ⟨K5, m5, c5, rfl, hm5, hmc5, hcc5, _, hw5⟩; have NB := Lib.hid (NB.out.trans (hw5.mono NB.out.size)); clear hw5 hm5) | (go_at_call 27; refine (HRe.out _ NB.out _ _ _).mono ?_; rintro e w6 ⟨rfl, hw6, _⟩; have NB := Lib.hid (NB.out.trans (hw6.mono NB.out.size)); clear hw6) | fail)
          all_goals
            clear HNd HRe kf kc
            have HI6 : Hid (Its S s l W xb a w6) := HIT.out.below hS NB.out
            have HJ6 : Hid (J pre w6) := HJ.out _ _ _ HJJ.out (But.of_below NB.out)
            have HT := Lib.hid (callsIn_wide.1 (thr_in S s l W xb (ownV T (i : Int)) J Jx HJ.out hS (by omega) (fun n => HYA.out n) pre a (G : Int) HP.out.1 (by have := HN.out; omega) (by omega) w6 HI6.out HJ6.out 1))
            clear NB HI6 HJ6 HIT HJJ
            go_wp2_with fail
            refine HT.out.mono ?_
            rintro e w7 (⟨rfl, hJ7, hI7⟩ | ⟨rfl, q, hq, hx⟩)
            · rw [show max a (G : Int) = (G : Int) by have := HA.out; omega] at hI7
              obtain ⟨d0, d3, f3⟩ := hI7.cells
              have HI7 := Lib.hid hI7
              have HJ7 := Lib.hid hJ7
              clear HT hI7 hJ7
              go_wp2_with fail
              all_goals
                go_roundg (Q - j)
                case measure => have := HN.out; omega
                case rel =>
                  first
                    | exact ⟨j + 1, pre ++ spanW a (G : Int), (H : Int), by go_num, by show _ ∧ _; have := HN.out; omega, HP.out.2.2, HP.out.2.1, HI7.out.store (by omega) _, HJ.out _ _ _ HJ7.out (HI7.out.but _)⟩
                    | (obtain rfl : G = H := by omega
                       exact ⟨j + 1, pre ++ spanW a (G : Int), (G : Int), by go_num, by show _ ∧ _; have := HN.out; omega, HP.out.2.2, HP.out.2.1, HI7.out, HJ7.out⟩)
                    | (obtain rfl : G = H := by omega
                       exact ⟨j + 1, pre ++ spanW a (G : Int), (G : Int), by go_num, by show _ ∧ _; have := HN.out; omega, HP.out.2.2, HP.out.2.1, HI7.out.store (by omega) _, HJ.out _ _ _ HJ7.out (HI7.out.but _)⟩)
            · clear HT
              go_wp2_with fail
              refine bodyPost_ret (results_none rfl _ _ _) rfl ?_
              exact ⟨⟨_, rfl⟩, .inr ⟨q, hq, hx⟩⟩
        · have hjz : ¬ (j : Int) < (Q : Int) := by omega
          have hdrop : xl.drop j = [] := List.drop_of_length_le (by omega)
          have HLW' := HLW.out
          have HOV' := HOV.out
          rw [hdrop] at HOV' HLW'
          rw [ownG, hEt] at HOV'
          have HT := Lib.hid (callsIn_wide.1 (thr_in S s l W xb (ownV T (i : Int)) J Jx HJ.out hS (by omega) (fun n => HYA.out n) pre a (E : Int) (by show _ <+: _; rw [← HOV']; exact List.prefix_refl _) (by have := HN.out; omega) (by omega) wq HIT.out HJJ.out 1))
          have HO := Lib.hid HOV'
          clear HLW' HOV' HLW HOV HIT HJJ hdrop
          go_wp2_with fail
          refine HT.out.mono ?_
          rintro e w7 (⟨rfl, hJ7, hI7⟩ | ⟨rfl, q, hq, hx⟩)
          · clear HT
            go_wp2_with fail
            go_end0
            exact ⟨⟨_, rfl⟩, .inl (by rw [HO.out]; exact hJ7)⟩
          · clear HT
            go_wp2_with fail
            go_end0
            exact ⟨⟨_, rfl⟩, .inr ⟨q, hq, hx⟩⟩
end Go.Proofs.Ytpjgapnihmiceaa
namespace Go.Proofs.Ytpjgapnihmiceaa
open Go.RowKit Go.Shelf
set_option linter.unusedSimpArgs false
set_option linter.unusedVariables false
attribute [local go_sem] Oper.semAt_some
theorem But.grown {a w w' : World} {bs : List Nat} (h : But a w bs) {row : Option Nat} (g : w.grownBy w' row) (hr : ∀ k, row = some k → k ∈ bs) : But a w' bs :=
 h.trans ⟨g.os, g.tape, g.output, g.size, fun k hk hn => g.block k hk (fun e => hn (hr k e.symm))⟩
theorem ownIt_run (v : Option Addr) (n : Int) (w : World) :
  Calls Try.prog 21 #[.pointer v, .int .i64 n] w fun e w' => e = .returned (.func (.func 37) #[] #[.pointer (some ⟨w.heap.size, 0, none⟩), .pointer (some ⟨w.heap.size + 1, 0, none⟩)]) ∧ w' = (w.alloc (.cells #[.pointer v] 30)).alloc (.cells #[.int .i64 n] 3) := by
 have h := hmf
 go_enter Try.func21, Try.ntmps21
 go_wp2_with fail
 go_ret
 exact ⟨rfl, rfl⟩
theorem infoInt : (Try.prog.info? 3).map (fun i => (i.zero, i.size, i.bytes)) = some (some (.int .i64 0), 1, 8) := by kernel_rfl
def ItOver (m : Nat) (gf : Nat) (lb : Array Value) (xs : List Int) (w : World) : Prop :=
 ∀ W, Below w.heap.size w W → SeqB m Try.prog gf lb toksEnc w.heap.size [W.heap.size, W.heap.size + 1, W.heap.size + 3] xs W
set_option maxRecDepth 100000 in
set_option maxHeartbeats 2000000 in
theorem appSeq_run (gf : Nat) (lb : Array Value) (xs : List Int) (hx : xs.length ≤ 100000) (w : World) (eg : ∀ args w, (callFunc gf args).run Try.prog w = .ok (.enter gf args) w) (hs : ItOver 5 gf lb xs w) :
    Calls Try.prog 44 #[.slice none 0 0, .func (.func gf) #[] lb] w fun e w' => ∃ v, e = .returned v ∧ OwnK .i64 3 w' w.heap.size v xs ∧ Below w.heap.size w w' := by
  refine (callsIn_wide (n := 6)).1 ?_
  have hro : Fence.wide.round = none := rfl
  obtain ⟨i0, hi, hz0, hz1, hz2⟩ := info_parts infoInt
  refine callsIn_of_wp_marks Try.func44 rfl trivial ?_ hro
  simp only [Try.ntmps44, List.size_toArray, List.length_cons, List.length_nil, Nat.reduceAdd, Nat.reduceSub, Array.replicate_succ, Array.replicate_zero, List.push_toArray, List.append_toArray, List.nil_append, List.cons_append]
  obtain ⟨S, hS⟩ : ∃ S, w.heap.size = S := ⟨_, rfl⟩
  gi_wp2
  obtain ⟨W0, hW0⟩ : ∃ W0, w.alloc (.cells #[.slice none 0 0] 42) = W0 := ⟨_, rfl⟩
  have hz : W0.heap.size = S + 1 := by rw [← hW0, ← hS]; simp
  have hB0 : Below S w W0 := by rw [← hW0, ← hS]; exact (Below.refl _ _).alloc (Nat.le_refl _) _
  have hV0 : VarAt W0 S (.slice none 0 0) := by rw [← hW0, ← hS]; exact VarAt.new _ _ _
  rw [hW0]
  refine wpIn_rangeB (gf := gf) (lb := lb) rfl eg S (by omega) [S + 3, S + 4, S + 6] (by rw [hz]; simp) (encs := toksEnc) (xs := xs)
    (fun W1 h1 h2 => by
      have := hs W1 (by rw [hS]; exact hB0.trans (h1.mono (by omega)))
      rw [h2, hz, hS] at this
      exact this) (fun _ => rfl)
    (fun pre W => (∃ u, VarAt W S u ∧ OwnK .i64 3 W (S + 7) u pre) ∧ Below S w W ∧ pre.length ≤ 100000)
    (fun _ _ _ => False)
    ?hI (fun c s A B h _ => h) ⟨⟨_, hV0, OwnK.nil _ _ _ _⟩, hB0, by simp⟩
    (fun x => { tmps := #[.slice none 0 0, .func (.func gf) #[] lb, .pointer (some ⟨S, 0, none⟩), undef, .slice none 0 0, .int .i64 x, .func (.func gf) #[] lb, .int .i64 x, undef, undef, undef, undef, undef], defers := [] }) ?assign ?body ?done ?stop
  case hI =>
    rw [hz]
    rintro pre A B ⟨⟨u, h1, h2⟩, h3, h4⟩ hb
    refine ⟨⟨u, h1.but hb (by simp; omega), ?_⟩, h3.but hb (by simp; omega) (by have := h3.size; omega), h4⟩
    exact ownsRow_but h2 hb (fun g hg => by have := own_ge h2 g hg; simp; omega)
  case assign =>
    intro l x W K hK
    unfold toksEnc
    gi_wp2
    exact hK
  case body =>
    rintro l pre x W ⟨⟨u, h1, h2⟩, h3, h4⟩ hpre ⟨hlt, hbs⟩
    have hlt6 : S + 6 < W.heap.size := hbs _ (by simp)
    have hc := h1.1
    have hf := h1.2
    have hpl : pre.length + 1 ≤ 100000 := by
      have := hpre.length_le
      simp at this
      omega
    have hrow : W.ownsRow (S + 7) 3 1 u pre.length (pre.map fun x => Value.int .i64 x) := h2
    gi_wp2_with (first
      | (gi_at_builtin
         refine wpListIn_append_own _ rfl _ _ 42 rfl (S + 7) 3 i0 (.int .i64 0) 1 8 Try.underlying42 hi hz0 hz1 hz2 rfl (by decide) u pre.length _ rfl (hrow.alloc _) ⟨W.heap.size, 0, none⟩ 1 1 [.int .i64 x] rfl rfl (cell_one_new _ _ _) (by simp [Value.oneCell']) (by unfold maxLen; omega) (by omega) (by simp; omega) ?_
         intro v' w1 hown' hgrow _
         obtain ⟨g', cap', rfl⟩ := ownsRow_succ hown'
         have hge : ∀ k ∈ u.ownBlock.toList, S + 7 ≤ k := fun k hk => own_ge h2 k (by simpa using hk)
         have hbt : But W w1 u.ownBlock.toList := ((But.refl W _).alloc _).grown hgrow (fun k e => by simp [e])
         have hv1 := h1.but hbt (fun h => by have := hge _ h; omega)
         have hc1 := hv1.1
         have hf1 := hv1.2
         have hown2 : OwnK .i64 3 w1 (S + 7) (.slice (some ⟨g', 0, none⟩) (pre.length + 1) cap') (pre ++ [x]) := by
           show World.ownsRow _ _ _ _ _ _ _
           rw [List.length_append, List.map_append]
           exact hown'
         have HH := Lib.hid (And.intro hge (And.intro hbt (And.intro hv1 hown2)))
         clear hge hbt hv1 hown2 hown' hgrow)
      | gi_in)
    obtain ⟨hge, hbt, hv1, hown2⟩ := HH.out
    have hgg := own_ge hown2 g' rfl
    refine ⟨Apart.of_but ((hbt.more (cs := S :: u.ownBlock.toList) (by simp; grind)).setCell (p := ⟨S, 0, none⟩) (by simp) _) (fun k hk => ?_), ⟨_, hv1.set _, ?_⟩, ?_, by simp; omega⟩
    · rw [hz]
      rcases List.mem_cons.1 hk with rfl | hk
      · simp; omega
      · have := hge k hk
        simp; omega
    · exact hown2.setCell (p := ⟨S, 0, none⟩) (by show S < S + 7; omega) _
    · exact (h3.but hbt (fun k hk => by have := hge k hk; omega) (by have := h3.size; omega)).setCell (p := ⟨S, 0, none⟩) (Nat.le_refl _) _
  case done =>
    rintro D W hD ⟨⟨u, h1, h2⟩, h3, h4⟩ hK
    have hc := h1.1
    have hf := h1.2
    gi_wp2
    refine ⟨by simp, .inl ⟨_, _, rfl, run_takeDeferred hK, ?_⟩⟩
    refine ⟨_, results_tmp rfl _ _ _, _, rfl, ?_, ?_⟩
    · rw [hS]
      exact ownK_base (ownsRow_putObj h2 _ hK rfl) (by omega)
    · rw [hS]
      exact h3.trans (belowK_b (w := w) (by omega) W D _ _ (by omega) hK rfl rfl)
  case stop =>
    rintro D c pre W _ _ h _
    exact h.elim
theorem itOwn (fb nb : Nat) (v : Value) (d : List Int) (L : List Tv) (T : List Nd) (n : Int) (w0 w : World) (hF : FileIs w0 v d L T) (hB : Below w0.heap.size w0 w) (hfb : w.cell? ⟨fb, 0, none⟩ = some v) (hfl : fb < w.heap.size) (hnb : w.cell? ⟨nb, 0, none⟩ = some (.int .i64 n)) (hnl : nb < w.heap.size) :
  ItOver 5 37 #[.pointer (some ⟨fb, 0, none⟩), .pointer (some ⟨nb, 0, none⟩)] (ownV T n) w := fun W hW =>
 own1_seq w.heap.size fb nb 5 v d L T n w0 W hB.size hF (hB.trans (hW.mono hB.size)) hW.size ((hW.cell (p := ⟨fb, 0, none⟩) hfl).trans hfb) hfl ((hW.cell (p := ⟨nb, 0, none⟩) hnl).trans hnb) hnl
theorem FileIs.valid {w : World} {v : Value} {d : List Int} {L : List Tv} {T : List Nd} (h : FileIs w v d L T) : ∃ p : Option Addr, v = .pointer p := by
 rcases h with ⟨h, _⟩ | ⟨b, h, _⟩
 ·exact ⟨_, h⟩
 ·exact ⟨_, h⟩
theorem own_short {w : World} {v : Value} {d : List Int} {L : List Tv} {T : List Nd} (h : FileIs w v d L T) (n : Int) : (ownV T n).length ≤ 60 := by
 rcases h with ⟨_, rfl⟩ | ⟨b, _, A1, n1, c1, A2, n2, c2, A, m, c, _, _, hs, _, hv⟩
 ·rw [ownV_nil]; simp
 ·exact Nat.le_trans (ownV_le hv n) hs.st
set_option maxRecDepth 100000 in
set_option maxHeartbeats 2000000 in
theorem collect_run (gf : Nat) (lb : Array Value) (xs : List Int) (hx : xs.length ≤ 100000) (w : World) (eg : ∀ args w, (callFunc gf args).run Try.prog w = .ok (.enter gf args) w) (hs : ItOver 5 gf lb xs w) :
  Calls Try.prog 39 #[.func (.func gf) #[] lb] w fun e w' => ∃ v, e = .returned v ∧ OwnK .i64 3 w' w.heap.size v xs ∧ Below w.heap.size w w' := by
 have hA := Lib.hid (appSeq_run gf lb xs hx w eg hs)
 clear hs
 go_enter Try.func39, Try.ntmps39
 go_wp2_with fail
 refine hA.out.mono ?_
 rintro e w1 ⟨v, rfl, ho, hb⟩
 have HO := Lib.hid (And.intro ho hb)
 clear hA ho hb
 go_wp2_with fail
 go_ret
 exact ⟨_, rfl, HO.out.1, HO.out.2⟩
set_option maxRecDepth 100000 in
set_option maxHeartbeats 2000000 in
theorem Own_runK (v : Value) (d : List Int) (L : List Tv) (T : List Nd) (n : Int) (w : World) (h : FileIs w v d L T) :
  Calls Try.prog 24 #[v, .int .i64 n] w fun e w' => ∃ u, e = .returned u ∧ OwnK .i64 3 w' w.heap.size u (ownV T n) ∧ Below w.heap.size w w' := by
 obtain ⟨p, rfl⟩ := h.valid
 have hl := own_short h n
 obtain ⟨W, hW⟩ : ∃ W, (w.alloc (.cells #[.pointer p] 30)).alloc (.cells #[.int .i64 n] 3) = W := ⟨_, rfl⟩
 have hB : Below w.heap.size w W := by rw [← hW]; exact ((Below.refl _ _).alloc (Nat.le_refl _) _).alloc (by simp) _
 have hz : W.heap.size = w.heap.size + 2 := by rw [← hW]; simp
 have c1 : W.cell? ⟨w.heap.size, 0, none⟩ = some (.pointer p) := by rw [← hW, World.cell?_alloc_lt _ _ _ (by simp)]; exact World.cell?_alloc_at _ _ _ _ rfl
 have c2 : W.cell? ⟨w.heap.size + 1, 0, none⟩ = some (.int .i64 n) := by rw [← hW]; exact World.cell?_alloc_at _ _ _ _ (by simp)
 have hI := Lib.hid (ownIt_run p n w)
 have hC := Lib.hid (collect_run 37 _ (ownV T n) (by omega) W (enters_of Try.func37 (by kernel_rfl) rfl) (itOwn w.heap.size (w.heap.size + 1) _ d L T n w W h hB c1 (by omega) c2 (by omega)))
 rw [hW] at hI
 have HB := Lib.hid (And.intro hB hz)
 clear hl hW hB c1 c2 h hz
 go_enter Try.func24, Try.ntmps24
 go_wp2_with fail
 refine hI.out.mono ?_
 rintro e w1 ⟨rfl, rfl⟩
 go_wp2_with fail
 refine hC.out.mono ?_
 rintro e w2 ⟨u, rfl, ho, hb⟩
 have HO := Lib.hid (And.intro ho hb)
 clear hC hI ho hb
 go_wp2_with fail
 go_ret
 exact ⟨_, rfl, ownK_base HO.out.1 (by have := HB.out.2; omega), HB.out.1.trans (HO.out.2.mono (by have := HB.out.2; omega))⟩
end Go.Proofs.Ytpjgapnihmiceaa
