/-
  The document's answers for layer 7: digits by 65536 in slices; trim, digit, Order.
-/
import Derived.Test.YtgoemhcngmpfbaaGreatDoorMx16
import Derived.Test.YtgoemhcngmpfbaaGreatDoorMx06
import Derived.Laws.ResultCell
import Derived.Test.YtgoemhcngmpfbaaGreatDoorMx02
import Derived.Test.YtgoemhcngmpfbaaGreatDoorMx07
namespace Go.Proofs.YtgoemhcngmpfbaaGreatDoor
open Go.RowKit Go.Sort
set_option linter.unusedSimpArgs false
def digl (L n : Nat) : List Int := (List.range L).map fun i => ((dg n i : Nat) : Int)
theorem digl_length (L n : Nat) : (digl L n).length = L := by simp [digl]
theorem digl_get {L n i : Nat} (h : i < L) : (digl L n)[i]? = some ((dg n i : Nat) : Int) := by
 unfold digl
 rw [List.getElem?_map, List.getElem?_range h]
 rfl
theorem digl_succ (L n : Nat) : digl (L + 1) n = digl L n ++ [((dg n L : Nat) : Int)] := by simp [digl, List.range_succ]
def DgAt (w : World) (A : Option Addr) (L n : Nat) : Prop := 0 < L → ∃ b o, A = some ⟨b, o, none⟩ ∧ b < w.heap.size ∧ ∀ i, i < L → w.cell? ⟨b, o + i, none⟩ = some (.int .i64 ((dg n i : Nat) : Int))
theorem DgAt.of_nums {w : World} {A : Option Addr} {L n : Nat} (h : NumsK .i64 w w.heap.size A (digl L n)) : DgAt w A L n := fun hp => by
 obtain ⟨b, o, e, hb, hc⟩ := h (by rw [digl_length]; exact hp)
 exact ⟨b, o, e, hb, fun i hi => hc i _ (digl_get hi)⟩
theorem DgAt.nums {w : World} {A : Option Addr} {L n : Nat} (h : DgAt w A L n) : NumsK .i64 w w.heap.size A (digl L n) := fun hp => by
 rw [digl_length] at hp
 obtain ⟨b, o, e, hb, hc⟩ := h hp
 refine ⟨b, o, e, hb, fun i x hx => ?_⟩
 have hi : i < L := by have := (List.getElem?_eq_some_iff.1 hx).1; rwa [digl_length] at this
 rw [digl_get hi] at hx
 cases hx
 exact hc i hi
theorem DgAt.keep {w w' : World} {A : Option Addr} {L n B : Nat} (h : DgAt w A L n) (hb : Below B w w') (hB : w.heap.size ≤ B) : DgAt w' A L n := fun hp => by
 obtain ⟨b, o, e, hl, hc⟩ := h hp
 exact ⟨b, o, e, Nat.lt_of_lt_of_le hl hb.size, fun i hi => (hb.cell (p := ⟨b, o + i, none⟩) (Nat.lt_of_lt_of_le hl hB)).trans (hc i hi)⟩
theorem DgAt.below {w w' : World} {A : Option Addr} {L n : Nat} (h : DgAt w A L n) (hb : Below w.heap.size w w') : DgAt w' A L n := h.keep hb (Nat.le_refl _)
theorem DgAt.take {w : World} {A : Option Addr} {L M n : Nat} (h : DgAt w A L n) (hM : M ≤ L) : DgAt w A M n := fun hp => by
 obtain ⟨b, o, e, hl, hc⟩ := h (by omega)
 exact ⟨b, o, e, hl, fun i hi => hc i (by omega)⟩
theorem DgAt.nil {w : World} {A : Option Addr} {n : Nat} : DgAt w A 0 n := fun h => absurd h (by omega)
theorem DgAt.drew {w : World} {A : Option Addr} {L n : Nat} (h : DgAt w A L n) : DgAt w.drew A L n := h
def Cap (L cap : Nat) : Prop := L ≤ cap ∧ cap ≤ 9223372036854775807
set_option maxRecDepth 100000 in
set_option maxHeartbeats 2000000 in
theorem trim_run (s z : Bool) (A : Option Addr) (L cap n m : Nat) (w : World) (h : Hid (DgAt w A L n)) (hn : Hid (n < 65536 ^ L)) (hc : Hid (Cap L cap)) (hz : Hid (sgn s n = z)) (hm : Hid (nl n = m)) :
  Calls Tryz.prog 76 #[.bool s, .slice A L cap] w fun e w' => e = .returned (.agg #[.bool z, .slice A m cap]) ∧ Below w.heap.size w w' := by
 have b0 := Lib.hid (below_alloc w (.cells #[.bool false, .slice none 0 0] 57))
 have hcp := hc.out
 unfold Cap at hcp
 go_enter Tryz.func76, Tryz.ntmps76
 go_wp2_with fail
 go_loopg [5] (L + 1) (fun h s5 wr => ∃ j : Nat, s5 = .int .i64 (j : Int) ∧ Hid (j < h ∧ n < 65536 ^ j) ∧ j ≤ L ∧ wr = w.alloc (.cells #[.bool false, .slice none 0 0] 57))
 case atStart => exact ⟨L, rfl, ⟨Nat.lt_succ_self _, hn.out⟩, Nat.le_refl _, rfl⟩
 case round =>
  obtain ⟨j, rfl, HJ, hjl, rfl⟩ := hrel
  cases j with
  | zero =>
   have h0 : n = 0 := by have := HJ.out.2; rw [Nat.pow_zero] at this; omega
   obtain rfl : m = 0 := by rw [← hm.out, h0, nl_zero]
   obtain rfl : z = false := by rw [← hz.out, h0]; simp [sgn]
   clear h0
   cases A with
   | none =>
    cases s
    ·go_wp2_with fail
     (try simp only [Exit.inBlock, Exit.then])
     refine bodyPost_ret (v := .agg #[.bool false, .slice none 0 cap]) (by rw [results_cell1 rfl]; go_simp; try rfl) rfl ⟨rfl, below_alloc _ _⟩
    ·go_wp2_with fail
     (try simp only [Exit.inBlock, Exit.then])
     refine bodyPost_ret (v := .agg #[.bool false, .slice none 0 cap]) (by rw [results_cell1 rfl]; go_simp; try rfl) rfl ⟨rfl, below_alloc _ _⟩
   | some a =>
    cases s
    ·go_wp2_with fail
     (try simp only [Exit.inBlock, Exit.then])
     refine bodyPost_ret (v := .agg #[.bool false, .slice (some a) 0 cap]) (by rw [results_cell1 rfl]; go_simp; try rfl) rfl ⟨rfl, below_alloc _ _⟩
    ·go_wp2_with fail
     (try simp only [Exit.inBlock, Exit.then])
     refine bodyPost_ret (v := .agg #[.bool false, .slice (some a) 0 cap]) (by rw [results_cell1 rfl]; go_simp; try rfl) rfl ⟨rfl, below_alloc _ _⟩
  | succ i =>
   obtain ⟨b, o, rfl, hbl, hcell⟩ := h.out (by omega)
   have hx := (World.cell?_alloc_lt w (.cells #[.bool false, .slice none 0 0] 57) ⟨b, o + i, none⟩ hbl).trans (hcell i (by omega))
   clear hcell
   by_cases hd : dg n i = 0
   ·have HJ2 : Hid (i < i + 1 ∧ n < 65536 ^ i) := ⟨by omega, lt_of_dg HJ.out.2 hd⟩
    go_wp2_with fail
    go_roundg (i + 1)
    case measure => have := HJ.out; omega
    case rel => exact ⟨i, by go_num, HJ2, by omega, rfl⟩
   ·have hm0 : nl n = i + 1 := nl_of_dg HJ.out.2 hd
    obtain rfl : m = i + 1 := by rw [← hm.out, hm0]
    have hn0 : n ≠ 0 := fun e => by rw [e, nl_zero] at hm0; omega
    obtain rfl : z = s := by rw [← hz.out]; simp [sgn, hn0]
    clear hm0 hn0
    cases z
    ·go_wp2_with fail
     (try simp only [Exit.inBlock, Exit.then])
     refine bodyPost_ret (v := .agg #[.bool false, .slice (some ⟨b, o, none⟩) (i + 1) cap]) (by rw [results_cell1 rfl]; go_simp; try rfl) rfl ⟨rfl, below_alloc _ _⟩
    ·go_wp2_with fail
     (try simp only [Exit.inBlock, Exit.then])
     refine bodyPost_ret (v := .agg #[.bool true, .slice (some ⟨b, o, none⟩) (i + 1) cap]) (by rw [results_cell1 rfl]; go_simp; try rfl) rfl ⟨rfl, below_alloc _ _⟩
set_option maxRecDepth 100000 in
set_option maxHeartbeats 2000000 in
theorem digit_run (A : Option Addr) (L cap n i : Nat) (d : Nat) (w : World) (h : Hid (DgAt w A L n)) (hn : Hid (nl n ≤ L)) (hc : Hid (Cap L cap)) (hi : i ≤ 1000000) (hd : Hid (dg n i = d)) :
  Calls Tryz.prog 125 #[.slice A L cap, .int .i64 (i : Int)] w fun e w' => e = .returned (.int .i64 (d : Int)) ∧ w = w' := by
 have hcp := hc.out
 unfold Cap at hcp
 by_cases hlt : i < L
 ·obtain ⟨b, o, rfl, hbl, hcell⟩ := h.out (by omega)
  have hx := hcell i hlt
  rw [hd.out] at hx
  clear hcell
  go_enter Tryz.func125, Tryz.ntmps125
  go_wp2_with fail
  go_ret
  exact ⟨rfl, rfl⟩
 ·obtain rfl : d = 0 := by rw [← hd.out]; exact dg_high (by have := hn.out; omega)
  go_enter Tryz.func125, Tryz.ntmps125
  go_wp2_with fail
  go_ret
  exact ⟨rfl, rfl⟩
theorem cmpN_digs {a b i : Nat} (h : a / 65536 ^ (i + 1) = b / 65536 ^ (i + 1)) (hd : ¬ dg a i = dg b i) : cmpN a b = if dg a i < dg b i then -1 else 1 := by
 rcases Nat.lt_or_ge (dg a i) (dg b i) with h1 | h1
 ·rw [if_pos h1, cmpN_lt (lt_of_dig (by decide) h h1)]
 ·rw [if_neg (by omega), cmpN_gt (lt_of_dig (by decide) h.symm (show dg b i < dg a i by omega))]
set_option maxRecDepth 100000 in
set_option maxHeartbeats 4000000 in
theorem Order_run7 (A B : Option Addr) (L M ca cb a b : Nat) (c : Int) (w : World) (ha : Hid (DgAt w A L a)) (hb : Hid (DgAt w B M b)) (hL : Hid (nl a = L)) (hM : Hid (nl b = M)) (hca : Hid (Cap L ca)) (hcb : Hid (Cap M cb)) (hc : Hid (cmpN a b = c)) :
  Calls Tryz.prog 75 #[.slice A L ca, .slice B M cb] w fun e w' => e = .returned (.int .i64 c) ∧ Below w.heap.size w w' := by
 have hcp := hca.out
 have hcq := hcb.out
 unfold Cap at hcp hcq
 by_cases hne : L = M
 ·subst hne
  have HE0 : Hid (a / 65536 ^ L = b / 65536 ^ L) := by
   show _ = _
   have h1 := lt_nl a
   have h2 := lt_nl b
   rw [hL.out] at h1
   rw [hM.out] at h2
   rw [Nat.div_eq_of_lt h1, Nat.div_eq_of_lt h2]
  go_enter Tryz.func75, Tryz.ntmps75
  go_wp2_with fail
  go_loopg [5] (L + 1) (fun h s5 wr => ∃ (z : Int) (j : Nat), s5 = .int .i64 z ∧ Hid (z = (j : Int) - 1 ∧ j < h) ∧ j ≤ L ∧ Hid (a / 65536 ^ j = b / 65536 ^ j) ∧ Hid (Below w.heap.size w wr))
  case atStart => exact ⟨(L : Int) - 1, L, by go_num, by show _ ∧ _; omega, Nat.le_refl _, HE0, Below.refl _ _⟩
  case round =>
   obtain ⟨z, j, rfl, HJ, hjl, HE, HW⟩ := hrel
   cases j with
   | zero =>
    obtain rfl : z = -1 := by have := HJ.out.1; omega
    obtain rfl : c = 0 := by
     have := HE.out
     rw [Nat.pow_zero, Nat.div_one, Nat.div_one] at this
     exact hc.out.symm.trans (cmpN_eq this)
    go_wp2_with fail
    go_ret
    exact ⟨rfl, HW.out⟩
   | succ i =>
    obtain rfl : z = (i : Int) := by have := HJ.out.1; omega
    obtain ⟨b1, o1, rfl, hbl1, hcell1⟩ := ha.out (by omega)
    obtain ⟨b2, o2, rfl, hbl2, hcell2⟩ := hb.out (by omega)
    have hx1 := (HW.out.cell (p := ⟨b1, o1 + i, none⟩) hbl1).trans (hcell1 i (by omega))
    have hx2 := (HW.out.cell (p := ⟨b2, o2 + i, none⟩) hbl2).trans (hcell2 i (by omega))
    clear hcell1 hcell2
    have hil : i < L := by omega
    have hz : (i : Int) < (L : Int) := by omega
    by_cases hd : dg a i = dg b i
    ·have HN : Hid (a / 65536 ^ i = b / 65536 ^ i) := div_eq_step HE.out hd
     rw [← hd] at hx2
     have hl : (decide ((dg a i : Int) < (dg a i : Int))) = false := by simp
     go_wp2_with fail
     go_quiet (fail)
     go_wp2_with fail
     replace hx1 : (wr.drewN nq).cell? _ = _ := hx1
     replace hx2 : (wr.drewN nq).cell? _ = _ := hx2
     have HW2 : Hid (Below w.heap.size w (wr.drewN nq)) := HW.out.drewN nq
     clear HW
     generalize wr.drewN nq = wq at *
     go_quiet (fail)
     go_wp2_with fail
     go_roundg (i + 1)
     case measure => have := HJ.out; omega
     case rel => exact ⟨(i : Int) - 1, i, by go_num, by show _ ∧ _; have := HJ.out; omega, by omega, HN, HW2.out.drewN _⟩
    ·have HC := cmpN_digs HE.out hd
     rw [hc.out] at HC
     by_cases hl : dg a i < dg b i
     ·rw [if_pos hl] at HC
      subst HC
      have hlz : (decide ((dg a i : Int) < (dg b i : Int))) = true := by simp; omega
      go_wp2_with fail
      go_quiet (fail)
      go_wp2_with fail
      go_ret
      exact ⟨rfl, HW.out.drewN _⟩
     ·rw [if_neg hl] at HC
      subst HC
      have hlz : (decide ((dg a i : Int) < (dg b i : Int))) = false := by simp; omega
      have hgz : (decide ((dg b i : Int) < (dg a i : Int))) = true := by simp; omega
      go_wp2_with fail
      go_quiet (fail)
      go_wp2_with fail
      replace hx1 : (wr.drewN nq).cell? _ = _ := hx1
      replace hx2 : (wr.drewN nq).cell? _ = _ := hx2
      have HW2 : Hid (Below w.heap.size w (wr.drewN nq)) := HW.out.drewN nq
      clear HW
      generalize wr.drewN nq = wq at *
      go_quiet (fail)
      go_wp2_with fail
      go_ret
      exact ⟨rfl, HW2.out.drewN _⟩
 ·have hnz : ¬ (L : Int) = (M : Int) := by omega
  by_cases hl : L < M
  ·have h1 : a < b := by
    rcases Nat.lt_or_ge a b with h | h
    ·exact h
    ·have := nl_mono h
     have := hL.out
     have := hM.out
     omega
   have HC := cmpN_lt h1
   rw [hc.out] at HC
   subst HC
   clear h1
   go_enter Tryz.func75, Tryz.ntmps75
   go_wp2_with fail
   go_ret
   exact ⟨rfl, Below.refl _ _⟩
  ·have h1 : b < a := by
    rcases Nat.lt_or_ge b a with h | h
    ·exact h
    ·have := nl_mono h
     have := hL.out
     have := hM.out
     omega
   have HC := cmpN_gt h1
   rw [hc.out] at HC
   subst HC
   clear h1
   go_enter Tryz.func75, Tryz.ntmps75
   go_wp2_with fail
   go_ret
   exact ⟨rfl, Below.refl _ _⟩
end Go.Proofs.YtgoemhcngmpfbaaGreatDoor
namespace Go.Proofs.YtgoemhcngmpfbaaGreatDoor
open Go.RowKit Go.Sort
abbrev boxN (s : Bool) (A : Option Addr) (L cap : Nat) : Obj := .cells #[.bool s, .slice A L cap] 57
abbrev boxNZ : Obj := .cells #[.bool false, .slice none 0 0] 57
structure NumAt (w : World) (b : Nat) (s : Bool) (A : Option Addr) (L cap : Nat) : Prop where
 c0 : w.cell? ⟨b, 0, none⟩ = some (.bool s)
 f0 : w.frozen? ⟨b, 0, none⟩ = false
 c1 : w.cell? ⟨b, 1, none⟩ = some (.slice A L cap)
 f1 : w.frozen? ⟨b, 1, none⟩ = false
section
variable {w w' : World} {b L cap : Nat} {s : Bool} {A : Option Addr}
theorem NumAt.keep {B : Nat} (h : NumAt w b s A L cap) (hb : Below B w w') (hB : b < B) : NumAt w' b s A L cap :=
 ⟨(hb.cell (p := ⟨b, 0, none⟩) hB).trans h.c0, (hb.frozen (p := ⟨b, 0, none⟩) hB).trans h.f0, (hb.cell (p := ⟨b, 1, none⟩) hB).trans h.c1, (hb.frozen (p := ⟨b, 1, none⟩) hB).trans h.f1⟩
theorem NumAt.lt (h : NumAt w b s A L cap) : b < w.heap.size := by
 rcases Nat.lt_or_ge b w.heap.size with h1 | h1
 ·exact h1
 ·have := h.c0
  simp [World.cell?, Array.getElem?_eq_none h1] at this
theorem NumAt.below (h : NumAt w b s A L cap) (hb : Below w.heap.size w w') : NumAt w' b s A L cap := h.keep hb h.lt
theorem NumAt.alloc (h : NumAt w b s A L cap) (o : Obj) : NumAt (w.alloc o) b s A L cap := h.keep (below_alloc w o) h.lt
theorem NumAt.but {c : Nat} (h : NumAt w b s A L cap) (hw : But1 w w' c) (hne : b ≠ c) : NumAt w' b s A L cap :=
 ⟨(hw.1 ⟨b, 0, none⟩ hne).1.trans h.c0, (hw.1 ⟨b, 0, none⟩ hne).2.trans h.f0, (hw.1 ⟨b, 1, none⟩ hne).1.trans h.c1, (hw.1 ⟨b, 1, none⟩ hne).2.trans h.f1⟩
theorem NumAt.drew (h : NumAt w b s A L cap) : NumAt w.drew b s A L cap := ⟨h.c0, h.f0, h.c1, h.f1⟩
end
theorem NumAt.new (w : World) (s : Bool) (A : Option Addr) (L cap : Nat) : NumAt (w.alloc (boxN s A L cap)) w.heap.size s A L cap :=
 ⟨World.cell?_alloc_at _ _ _ _ rfl, World.frozen?_alloc_at _ _ _ _ rfl, World.cell?_alloc_at _ _ _ _ rfl, World.frozen?_alloc_at _ _ _ _ rfl⟩
def st2 (w : World) (b : Nat) (s : Bool) (A : Option Addr) (L cap : Nat) : World := (w.setCell ⟨b, 0, none⟩ (.bool s)).setCell ⟨b, 1, none⟩ (.slice A L cap)
theorem st2_but (w : World) (b : Nat) (s : Bool) (A : Option Addr) (L cap : Nat) : But1 w (st2 w b s A L cap) b := (But1.setCell w b 0 _).trans (But1.setCell _ b 1 _)
theorem st2_at {w : World} {b L M ca cb : Nat} {s t : Bool} {A B : Option Addr} (h : NumAt w b s A L ca) : NumAt (st2 w b t B M cb) b t B M cb := by
 have e0 := h.c0
 have e1 := h.f0
 have e2 := h.c1
 have e3 := h.f1
 have d0 : (w.setCell ⟨b, 0, none⟩ (.bool t)).cell? ⟨b, 1, none⟩ = some (.slice A L ca) := (World.cell?_setCell_other _ _ _ _ (by simp)).trans e2
 refine ⟨?_, ?_, World.cell?_setCell_same _ _ _ d0, ?_⟩
 ·exact (World.cell?_setCell_other _ _ _ _ (by simp)).trans (World.cell?_setCell_same _ _ _ e0)
 ·unfold st2; rw [World.frozen?_setCell, World.frozen?_setCell]; exact e1
 ·unfold st2; rw [World.frozen?_setCell, World.frozen?_setCell]; exact e3
theorem DgAt.set {w : World} {A : Option Addr} {L n : Nat} (h : DgAt w A L n) {p : Addr} {u : Value} (hp : w.cell? p = some u) (hu : ∀ x, u ≠ .int .i64 x) (v : Value) : DgAt (w.setCell p v) A L n := fun hL => by
 obtain ⟨b, o, e, hb, hc⟩ := h hL
 refine ⟨b, o, e, by rw [World.size_setCell]; exact hb, fun i hi => ?_⟩
 have h1 := hc i hi
 have hne : (⟨b, o + i, none⟩ : Addr) ≠ p := fun e => by rw [e, hp] at h1; exact hu _ (Option.some.inj h1)
 exact (World.cell?_setCell_other _ _ _ _ (fun e => hne e.symm)).trans h1
theorem DgAt.st2 {w : World} {A B C : Option Addr} {L M K b n ca cb : Nat} {s t : Bool} (h : DgAt w A L n) (hb : NumAt w b s B M cb) : DgAt (st2 w b t C K ca) A L n := by
 have h1 := h.set hb.c0 (fun x e => by cases e) (.bool t)
 exact h1.set ((World.cell?_setCell_other _ _ _ _ (by simp)).trans hb.c1) (fun x e => by cases e) _
end Go.Proofs.YtgoemhcngmpfbaaGreatDoor
namespace Go.Proofs.YtgoemhcngmpfbaaGreatDoor
open Go.RowKit Go.Sort
def Fresh (w : World) (C : Option Addr) : Prop := ∀ b o, C = some ⟨b, o, none⟩ → w.heap.size ≤ b
theorem OwnK.fresh {k : IntKind} {E : TypeId} {w : World} {base n cap : Nat} {A : Option Addr} {l : List Int} (h : OwnK k E w base (.slice A n cap) l) : ∀ b o, A = some ⟨b, o, none⟩ → base ≤ b := fun b o e => by
 subst e
 rcases (show w.ownsRow base E 1 _ _ _ from h).2 with ⟨h1, _⟩ | ⟨g, c, _, h1, _⟩
 ·cases h1
 ·cases h1
  exact (World.ownsRow.lt (show w.ownsRow base E 1 _ _ _ from h) b rfl).1
theorem DgAt.setOther {w : World} {A : Option Addr} {L n : Nat} (h : DgAt w A L n) {p : Addr} (hp : ∀ b o, A = some ⟨b, o, none⟩ → b ≠ p.block) (v : Value) : DgAt (w.setCell p v) A L n := fun hL => by
 obtain ⟨b, o, e, hb, hc⟩ := h hL
 exact ⟨b, o, e, by rw [World.size_setCell]; exact hb, fun i hi => (World.cell?_setCell_other _ _ _ _ (fun e2 => hp b o e (by rw [e2]))).trans (hc i hi)⟩
set_option maxRecDepth 100000 in
set_option maxHeartbeats 4000000 in
theorem plus_runF (A B : Option Addr) (L M ca cb a b T : Nat) (w : World) (ha : Hid (DgAt w A L a)) (hb : Hid (DgAt w B M b)) (hL : Hid (nl a = L)) (hM : Hid (nl b = M)) (hca : Hid (Cap L ca)) (hcb : Hid (Cap M cb)) (hs : L + M ≤ 10000) (hT : Hid (nl (a + b) = T)) :
    Calls Tryz.prog 82 #[.slice A L ca, .slice B M cb] w fun e w' => ∃ C cc, e = .returned (.slice C T cc) ∧ Cap T cc ∧ DgAt w' C T (a + b) ∧ Below w.heap.size w w' ∧ Fresh w C := by
  have hcp := hca.out
  have hcq := hcb.out
  unfold Cap at hcp hcq
  have hTl : T ≤ 10001 := by
    have := nl_add_le a b
    have := hL.out
    have := hM.out
    have := hT.out
    omega
  go_enter Tryz.func82, Tryz.ntmps82
  go_wp2_with fail
  go_loopg [5, 6, 7] (T + 1) (fun h s5 s6 s7 wr => ∃ i c : Nat, s6 = .int .i64 (c : Int) ∧ s7 = .int .i64 (i : Int) ∧ Hid (i + h = T + 1) ∧ i ≤ T ∧ Hid (c = pc a b i) ∧ Hid (OwnK .i64 3 wr w.heap.size s5 (digl i (a + b))) ∧ Hid (Below w.heap.size w wr))
  case atStart => exact ⟨0, 0, rfl, rfl, by show _ = _; omega, by omega, (pc_zero a b).symm, OwnK.nil _ _ _ _, Below.refl _ _⟩
  case round =>
    obtain ⟨i, c, rfl, rfl, HI, hiT, HC, O, HW⟩ := hrel
    by_cases hlt : i < T
    · obtain ⟨x, hx⟩ : ∃ x, dg a i = x := ⟨_, rfl⟩
      obtain ⟨y, hy⟩ : ∃ y, dg b i = y := ⟨_, rfl⟩
      have HX := Lib.hid hx
      have HY := Lib.hid hy
      have HDA : Hid (∀ W, Below w.heap.size w W → Calls Tryz.prog 125 #[.slice A L ca, .int .i64 (i : Int)] W fun e w' => e = .returned (.int .i64 (x : Int)) ∧ W = w') := fun W hW => digit_run A L ca a i x W (ha.out.keep hW (Nat.le_refl _)) (Nat.le_of_eq hL.out) hca (by omega) HX
      have HDB : Hid (∀ W, Below w.heap.size w W → Calls Tryz.prog 125 #[.slice B M cb, .int .i64 (i : Int)] W fun e w' => e = .returned (.int .i64 (y : Int)) ∧ W = w') := fun W hW => digit_run B M cb b i y W (hb.out.keep hW (Nat.le_refl _)) (Nat.le_of_eq hM.out) hcb (by omega) HY
      have hon : i < L ∨ (¬ i < L ∧ i < M) ∨ (¬ i < L ∧ ¬ i < M ∧ 0 < c) := by
        have := (plus_on a b i).2 (by rw [hT.out]; exact hlt)
        rw [hL.out, hM.out, ← HC.out] at this
        omega
      have hx6 : x < 65536 := by rw [← hx]; exact dg_lt a i
      have hy6 : y < 65536 := by rw [← hy]; exact dg_lt b i
      have hc1 : c ≤ 1 := by rw [HC.out]; exact pc_le a b i
      obtain ⟨d, hd⟩ : ∃ d, (x + y + c) % 65536 = d := ⟨_, rfl⟩
      obtain ⟨k, hk⟩ : ∃ k, (x + y + c) / 65536 = k := ⟨_, rfl⟩
      have HD : Hid (d = dg (a + b) i) := by show _ = _; rw [← hd, ← hx, ← hy, HC.out]; exact pc_mod a b i
      have HK : Hid (k = pc a b (i + 1)) := by show _ = _; rw [← hk, ← hx, ← hy, HC.out]; exact pc_div a b i
      have Ed : Hid ((((x : Int) + (y : Int) + (c : Int)) % 65536) = (d : Int)) := by show _ = _; omega
      have Ek : ((x : Int) + (y : Int) + (c : Int)) / 65536 = (k : Int) := by omega
      have hk1 : k ≤ 1 := by rw [HK.out]; exact pc_le a b _
      have hsz := HW.out.size
      have hlen : Hid ((digl i (a + b)).length ≤ 500000) := by show _ ≤ _; rw [digl_length]; omega
      have hbase : w.heap.size ≤ (wr.alloc (.cells #[.int .i64 (((x : Int) + (y : Int) + (c : Int)) % 65536)] 3)).heap.size := by simp; omega
      have OA : Hid (OwnK .i64 3 (wr.alloc (.cells #[.int .i64 (((x : Int) + (y : Int) + (c : Int)) % 65536)] 3)) w.heap.size u5 (digl i (a + b))) := World.ownsRow.alloc O.out _
      have NA : Hid (NumsK .i64 (wr.alloc (.cells #[.int .i64 (((x : Int) + (y : Int) + (c : Int)) % 65536)] 3)) (wr.heap.size + 1) (some ⟨wr.heap.size, 0, none⟩) [((x : Int) + (y : Int) + (c : Int)) % 65536]) := by
        intro _
        refine ⟨_, _, rfl, by omega, fun i x hx => ?_⟩
        match i, hx with
        | 0, hx => cases hx; rw [World.cell?_alloc_at _ _ _ _ rfl]; rfl
      have EL : Hid (digl (i + 1) (a + b) = digl i (a + b) ++ [((x : Int) + (y : Int) + (c : Int)) % 65536]) := by show _ = _; rw [digl_succ, Ed.out, HD.out]
      clear hx hy hd hk
      rcases hon with hon | ⟨hon, hon2⟩ | ⟨hon, hon2, hon3⟩ <;>
      · go_wp2_with fail
        refine (HDA.out wr HW.out).mono ?_
        rintro e w1 ⟨rfl, rfl⟩
        go_wp2_with fail
        refine (HDB.out wr HW.out).mono ?_
        rintro e w1 ⟨rfl, rfl⟩
        go_wp2_with
          (at_builtin
           refine wpList_app int_slice _ rfl (.tmp 34) (.tmp 37) rfl w.heap.size u5 _ rfl OA.out (wr.heap.size + 1) (some ⟨wr.heap.size, 0, none⟩) 1 1 [((x : Int) + (y : Int) + (c : Int)) % 65536] rfl NA.out rfl hlen.out (by simp) hbase ?_
           intro v3 w3 o3 g3 t3
           have BV : Hid (Below w.heap.size w w3) := (HW.out.alloc hsz _).grown g3 hbase (own_ge OA.out)
           have OV : Hid (OwnK .i64 3 w3 w.heap.size v3 (digl (i + 1) (a + b))) := by show OwnK _ _ _ _ _ _; rw [EL.out]; exact o3
           clear o3 g3 t3)
        go_roundg (T - i)
        case measure => have := HI.out; omega
        case rel => exact ⟨i + 1, k, by go_num, by go_num, by show _ = _; have := HI.out; omega, by omega, HK, OV.out, BV.out⟩
    · obtain rfl : i = T := by omega
      have hoff : ¬ i < L ∧ ¬ i < M ∧ c = 0 := by
        have := (not_congr (plus_on a b i)).2 (by rw [hT.out]; exact hlt)
        rw [hL.out, hM.out, ← HC.out] at this
        omega
      obtain ⟨hoff1, hoff2, rfl⟩ := hoff
      obtain ⟨A9, cap9, hv9, hc9, hm9, y9⟩ := O.out.nums
      rw [digl_length] at hv9 hc9
      subst hv9
      have Y9 := Lib.hid (DgAt.of_nums y9)
      have FR : Hid (Fresh w A9) := OwnK.fresh O.out
      clear O y9
      go_wp2_with fail
      go_ret
      exact ⟨_, _, rfl, ⟨hc9, by unfold maxLen at hm9; exact hm9⟩, Y9.out, HW.out, FR.out⟩
set_option maxRecDepth 100000 in
set_option maxHeartbeats 4000000 in
theorem minus_runF (A B : Option Addr) (L M ca cb a b : Nat) (w : World) (ha : Hid (DgAt w A L a)) (hb : Hid (DgAt w B M b)) (hL : Hid (nl a = L)) (hM : Hid (nl b = M)) (hca : Hid (Cap L ca)) (hcb : Hid (Cap M cb)) (hs : L ≤ 100000) (hle : Hid (b ≤ a)) :
    Calls Tryz.prog 83 #[.slice A L ca, .slice B M cb] w fun e w' => ∃ C cc, e = .returned (.slice C L cc) ∧ Cap L cc ∧ DgAt w' C L (a - b) ∧ Below w.heap.size w w' ∧ Fresh w C := by
  have hcp := hca.out
  have hcq := hcb.out
  unfold Cap at hcp hcq
  go_enter Tryz.func83, Tryz.ntmps83
  go_wp2_with fail
  go_loopg [5, 6, 7] (L + 1) (fun h s5 s6 s7 wr => ∃ i c : Nat, s6 = .int .i64 (c : Int) ∧ s7 = .int .i64 (i : Int) ∧ Hid (i + h = L + 1) ∧ i ≤ L ∧ Hid (c = mb a b i) ∧ Hid (OwnK .i64 3 wr w.heap.size s5 (digl i (a - b))) ∧ Hid (Below w.heap.size w wr))
  case atStart => exact ⟨0, 0, rfl, rfl, by show _ = _; omega, by omega, (mb_zero a b).symm, OwnK.nil _ _ _ _, Below.refl _ _⟩
  case round =>
    obtain ⟨i, c, rfl, rfl, HI, hiT, HC, O, HW⟩ := hrel
    by_cases hlt : i < L
    · obtain ⟨x, hx⟩ : ∃ x, dg a i = x := ⟨_, rfl⟩
      obtain ⟨y, hy⟩ : ∃ y, dg b i = y := ⟨_, rfl⟩
      obtain ⟨d, hd⟩ : ∃ d, dg (a - b) i = d := ⟨_, rfl⟩
      have HY := Lib.hid hy
      have HD : Hid (d = dg (a - b) i) := hd.symm
      have HDB : Hid (∀ W, Below w.heap.size w W → Calls Tryz.prog 125 #[.slice B M cb, .int .i64 (i : Int)] W fun e w' => e = .returned (.int .i64 (y : Int)) ∧ ∃ m, w' = W.drewN m) := fun W hW => (digit_run B M cb b i y W (hb.out.keep hW (Nat.le_refl _)) (Nat.le_of_eq hM.out) hcb (by omega) HY).mono fun e w' ⟨he, hw⟩ => ⟨he, 0, hw.symm⟩
      obtain ⟨b1, o1, rfl, hbl1, hcell1⟩ := ha.out (by omega)
      have hx1 := (HW.out.cell (p := ⟨b1, o1 + i, none⟩) hbl1).trans (hcell1 i hlt)
      rw [hx] at hx1
      clear hcell1
      have hz : (i : Int) < (L : Int) := by omega
      have hx6 : x < 65536 := by rw [← hx]; exact dg_lt a i
      have hy6 : y < 65536 := by rw [← hy]; exact dg_lt b i
      have hd6 : d < 65536 := by rw [← hd]; exact dg_lt _ i
      have hc1 : c ≤ 1 := by rw [HC.out]; exact mb_le a b i
      have hsz := HW.out.size
      have hlen : Hid ((digl i (a - b)).length ≤ 500000) := by show _ ≤ _; rw [digl_length]; omega
      by_cases hless : x < y + c
      · obtain ⟨q1, q2⟩ := mb_less hle.out (i := i) (by rw [hx, hy, ← HC.out]; exact hless)
        rw [hx, hd, hy, ← HC.out] at q1
        have HK : Hid (1 = mb a b (i + 1)) := q2.symm
        have Q1 := Lib.hid q1
        clear hx hy hd q2 q1
        have hneg : ((x : Int) - (y : Int) - (c : Int)) < 0 := by omega
        go_wp2_with fail
        go_quiet (first | (go_at_call 125; refine Calls.quiet_of (HDB.out _ (HW.out.drewN _))) | fail)
        have Ed : Hid (((x : Int) - (y : Int) - (c : Int) + 65536) = (d : Int)) := by show _ = _; have := Q1.out; omega
        have EL : Hid (digl (i + 1) (a - b) = digl i (a - b) ++ [((x : Int) - (y : Int) - (c : Int) + 65536)]) := by show _ = _; rw [digl_succ, Ed.out, HD.out]
        have hbase : w.heap.size ≤ ((wr.drewN nq).alloc (.cells #[.int .i64 (((x : Int) - (y : Int) - (c : Int) + 65536))] 3)).heap.size := by simp; omega
        have OA : Hid (OwnK .i64 3 ((wr.drewN nq).alloc (.cells #[.int .i64 (((x : Int) - (y : Int) - (c : Int) + 65536))] 3)) w.heap.size u5 (digl i (a - b))) := World.ownsRow.alloc O.out _
        have NA : Hid (NumsK .i64 ((wr.drewN nq).alloc (.cells #[.int .i64 (((x : Int) - (y : Int) - (c : Int) + 65536))] 3)) ((wr.drewN nq).heap.size + 1) (some ⟨(wr.drewN nq).heap.size, 0, none⟩) [((x : Int) - (y : Int) - (c : Int) + 65536)]) := by
          intro _
          refine ⟨_, _, rfl, by omega, fun i x hx => ?_⟩
          match i, hx with
          | 0, hx => cases hx; rw [World.cell?_alloc_at _ _ _ _ rfl]; rfl
        go_wp2_with
          (at_builtin
           refine wpList_app int_slice _ rfl (.tmp 29) (.tmp 31) rfl w.heap.size u5 _ rfl OA.out ((wr.drewN nq).heap.size + 1) (some ⟨(wr.drewN nq).heap.size, 0, none⟩) 1 1 [((x : Int) - (y : Int) - (c : Int) + 65536)] rfl NA.out rfl hlen.out (by simp) hbase ?_
           intro v3 w3 o3 g3 t3
           have BV : Hid (Below w.heap.size w w3) := ((HW.out.drewN nq).alloc hsz _).grown g3 hbase (own_ge OA.out)
           have OV : Hid (OwnK .i64 3 w3 w.heap.size v3 (digl (i + 1) (a - b))) := by show OwnK _ _ _ _ _ _; rw [EL.out]; exact o3
           clear o3 g3 t3)
        go_roundg (L - i)
        case measure => have := HI.out; omega
        case rel => exact ⟨i + 1, 1, by go_num, by go_num, by show _ = _; have := HI.out; omega, by omega, HK, OV.out, BV.out⟩
      · obtain ⟨q1, q2⟩ := mb_more hle.out (i := i) (by rw [hx, hy, ← HC.out]; exact hless)
        rw [hx, hd, hy, ← HC.out] at q1
        have HK : Hid (0 = mb a b (i + 1)) := q2.symm
        have Q1 := Lib.hid q1
        clear hx hy hd q2 q1
        have hneg : ¬ ((x : Int) - (y : Int) - (c : Int)) < 0 := by omega
        go_wp2_with fail
        go_quiet (first | (go_at_call 125; refine Calls.quiet_of (HDB.out _ (HW.out.drewN _))) | fail)
        have Ed : Hid (((x : Int) - (y : Int) - (c : Int)) = (d : Int)) := by show _ = _; have := Q1.out; omega
        have EL : Hid (digl (i + 1) (a - b) = digl i (a - b) ++ [((x : Int) - (y : Int) - (c : Int))]) := by show _ = _; rw [digl_succ, Ed.out, HD.out]
        have hbase : w.heap.size ≤ ((wr.drewN nq).alloc (.cells #[.int .i64 (((x : Int) - (y : Int) - (c : Int)))] 3)).heap.size := by simp; omega
        have OA : Hid (OwnK .i64 3 ((wr.drewN nq).alloc (.cells #[.int .i64 (((x : Int) - (y : Int) - (c : Int)))] 3)) w.heap.size u5 (digl i (a - b))) := World.ownsRow.alloc O.out _
        have NA : Hid (NumsK .i64 ((wr.drewN nq).alloc (.cells #[.int .i64 (((x : Int) - (y : Int) - (c : Int)))] 3)) ((wr.drewN nq).heap.size + 1) (some ⟨(wr.drewN nq).heap.size, 0, none⟩) [((x : Int) - (y : Int) - (c : Int))]) := by
          intro _
          refine ⟨_, _, rfl, by omega, fun i x hx => ?_⟩
          match i, hx with
          | 0, hx => cases hx; rw [World.cell?_alloc_at _ _ _ _ rfl]; rfl
        go_wp2_with
          (at_builtin
           refine wpList_app int_slice _ rfl (.tmp 29) (.tmp 31) rfl w.heap.size u5 _ rfl OA.out ((wr.drewN nq).heap.size + 1) (some ⟨(wr.drewN nq).heap.size, 0, none⟩) 1 1 [((x : Int) - (y : Int) - (c : Int))] rfl NA.out rfl hlen.out (by simp) hbase ?_
           intro v3 w3 o3 g3 t3
           have BV : Hid (Below w.heap.size w w3) := ((HW.out.drewN nq).alloc hsz _).grown g3 hbase (own_ge OA.out)
           have OV : Hid (OwnK .i64 3 w3 w.heap.size v3 (digl (i + 1) (a - b))) := by show OwnK _ _ _ _ _ _; rw [EL.out]; exact o3
           clear o3 g3 t3)
        go_roundg (L - i)
        case measure => have := HI.out; omega
        case rel => exact ⟨i + 1, 0, by go_num, by go_num, by show _ = _; have := HI.out; omega, by omega, HK, OV.out, BV.out⟩
    · obtain rfl : i = L := by omega
      obtain ⟨A9, cap9, hv9, hc9, hm9, y9⟩ := O.out.nums
      rw [digl_length] at hv9 hc9
      subst hv9
      have Y9 := Lib.hid (DgAt.of_nums y9)
      have FR : Hid (Fresh w A9) := OwnK.fresh O.out
      clear O y9
      go_wp2_with fail
      go_ret
      exact ⟨_, _, rfl, ⟨hc9, by unfold maxLen at hm9; exact hm9⟩, Y9.out, HW.out, FR.out⟩
theorem plus_run (A B : Option Addr) (L M ca cb a b T : Nat) (w : World) (ha : Hid (DgAt w A L a)) (hb : Hid (DgAt w B M b)) (hL : Hid (nl a = L)) (hM : Hid (nl b = M)) (hca : Hid (Cap L ca)) (hcb : Hid (Cap M cb)) (hs : L + M ≤ 10000) (hT : Hid (nl (a + b) = T)) :
  Calls Tryz.prog 82 #[.slice A L ca, .slice B M cb] w fun e w' => ∃ C cc, e = .returned (.slice C T cc) ∧ Cap T cc ∧ DgAt w' C T (a + b) ∧ Below w.heap.size w w' :=
 (plus_runF A B L M ca cb a b T w ha hb hL hM hca hcb hs hT).mono fun _ _ ⟨C, cc, h1, h2, h3, h4, _⟩ => ⟨C, cc, h1, h2, h3, h4⟩
theorem minus_run (A B : Option Addr) (L M ca cb a b : Nat) (w : World) (ha : Hid (DgAt w A L a)) (hb : Hid (DgAt w B M b)) (hL : Hid (nl a = L)) (hM : Hid (nl b = M)) (hca : Hid (Cap L ca)) (hcb : Hid (Cap M cb)) (hs : L ≤ 100000) (hle : Hid (b ≤ a)) :
  Calls Tryz.prog 83 #[.slice A L ca, .slice B M cb] w fun e w' => ∃ C cc, e = .returned (.slice C L cc) ∧ Cap L cc ∧ DgAt w' C L (a - b) ∧ Below w.heap.size w w' :=
 (minus_runF A B L M ca cb a b w ha hb hL hM hca hcb hs hle).mono fun _ _ ⟨C, cc, h1, h2, h3, h4, _⟩ => ⟨C, cc, h1, h2, h3, h4⟩
end Go.Proofs.YtgoemhcngmpfbaaGreatDoor
namespace Go.Proofs.YtgoemhcngmpfbaaGreatDoor
open Go.RowKit Go.Sort
structure Good (w : World) (s : Bool) (A : Option Addr) (L cap n : Nat) : Prop where
 digs : DgAt w A L n
 len : nl n = L
 cap : Cap L cap
 sg : sgn s n = s
section
variable {w w' : World} {s : Bool} {A : Option Addr} {L cap n : Nat}
theorem Good.keep {B : Nat} (h : Good w s A L cap n) (hb : Below B w w') (hB : w.heap.size ≤ B) : Good w' s A L cap n := ⟨h.digs.keep hb hB, h.len, h.cap, h.sg⟩
theorem Good.below (h : Good w s A L cap n) (hb : Below w.heap.size w w') : Good w' s A L cap n := ⟨h.digs.below hb, h.len, h.cap, h.sg⟩
theorem Good.abs (h : Good w s A L cap n) : Good w false A L cap n := ⟨h.digs, h.len, h.cap, by simp [sgn]⟩
end
theorem two_nums (w : World) (s : Bool) (A : Option Addr) (L ca : Nat) (t : Bool) (B : Option Addr) (M cb S : Nat) (hS : w.heap.size = S) : NumAt ((w.alloc (boxN s A L ca)).alloc (boxN t B M cb)) S s A L ca ∧ NumAt ((w.alloc (boxN s A L ca)).alloc (boxN t B M cb)) (S + 1) t B M cb ∧ Below S w ((w.alloc (boxN s A L ca)).alloc (boxN t B M cb)) ∧ ((w.alloc (boxN s A L ca)).alloc (boxN t B M cb)).heap.size = S + 1 + 1 := by
 subst hS
 refine ⟨(NumAt.new w s A L ca).alloc _, ?_, (below_alloc w _).alloc (by simp) _, by simp⟩
 have := NumAt.new (w.alloc (boxN s A L ca)) t B M cb
 simpa using this
set_option maxRecDepth 100000 in
set_option maxHeartbeats 4000000 in
theorem Cmp_run7 (s : Bool) (A : Option Addr) (L ca n : Nat) (t : Bool) (B : Option Addr) (M cb m : Nat) (c : Int) (w : World) (ha : Hid (Good w s A L ca n)) (hb : Hid (Good w t B M cb m)) (hc : Hid (cmpS s n t m = c)) :
  Calls Tryz.prog 35 #[.agg #[.bool s, .slice A L ca], .agg #[.bool t, .slice B M cb]] w fun e w' => e = .returned (.int .i64 c) ∧ Below w.heap.size w w' := by
 have HB := Lib.hid (two_nums w s A L ca t B M cb w.heap.size rfl).2.2.1
 have HO : Hid (∀ W, Below w.heap.size w W → Calls Tryz.prog 75 #[.slice A L ca, .slice B M cb] W fun e w' => e = .returned (.int .i64 (cmpN n m)) ∧ Below W.heap.size W w') := fun W hW =>
  Order_run7 A B L M ca cb n m _ W (ha.out.digs.keep hW (Nat.le_refl _)) (hb.out.digs.keep hW (Nat.le_refl _)) ha.out.len hb.out.len ha.out.cap hb.out.cap rfl
 have HP : Hid (∀ W, Below w.heap.size w W → Calls Tryz.prog 75 #[.slice B M cb, .slice A L ca] W fun e w' => e = .returned (.int .i64 (cmpN m n)) ∧ Below W.heap.size W w') := fun W hW =>
  Order_run7 B A M L cb ca m n _ W (hb.out.digs.keep hW (Nat.le_refl _)) (ha.out.digs.keep hW (Nat.le_refl _)) hb.out.len ha.out.len hb.out.cap ha.out.cap rfl
 have hcc := hc.out
 unfold cmpS at hcc
 rw [ha.out.sg, hb.out.sg] at hcc
 have hsz : Hid (w.heap.size ≤ ((w.alloc (boxN s A L ca)).alloc (boxN t B M cb)).heap.size) := by show _ ≤ _; simp; omega
 cases s <;> cases t <;> simp only [if_true, if_false, Bool.false_eq_true] at hcc <;> subst hcc
 ·go_enter Tryz.func35, Tryz.ntmps35
  go_wp2_with fail
  refine (HO.out _ HB.out).mono ?_
  rintro e w1 ⟨rfl, hw1⟩
  have B1 : Hid (Below w.heap.size w w1) := HB.out.trans (hw1.mono hsz.out)
  clear hw1
  go_wp2_with fail
  go_ret
  exact ⟨rfl, B1.out⟩
 ·go_enter Tryz.func35, Tryz.ntmps35
  go_wp2_with fail
  go_ret
  exact ⟨rfl, HB.out⟩
 ·go_enter Tryz.func35, Tryz.ntmps35
  go_wp2_with fail
  go_ret
  exact ⟨rfl, HB.out⟩
 ·go_enter Tryz.func35, Tryz.ntmps35
  go_wp2_with fail
  refine (HP.out _ HB.out).mono ?_
  rintro e w1 ⟨rfl, hw1⟩
  have B1 : Hid (Below w.heap.size w w1) := HB.out.trans (hw1.mono hsz.out)
  clear hw1
  go_wp2_with fail
  go_ret
  exact ⟨rfl, B1.out⟩
end Go.Proofs.YtgoemhcngmpfbaaGreatDoor
