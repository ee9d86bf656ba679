/-
  The contracts of check and Count.
-/
import Derived.Test.YtkgaaabecdbidaaDoorMx08
import Derived.Test.YtkgaaabecdbidaaDoorMx10
import Derived.Test.YtkgaaabecdbidaaDoorMx07
import Derived.Test.YtkgaaabecdbidaaDoorMx05
import Derived.StillTailTactics
namespace Go.Proofs.YtkgaaabecdbidaaDoor
open Go.RowKit
set_option linter.unusedSimpArgs false
set_option linter.unusedVariables false
set_option maxHeartbeats 8000000 in
set_option maxRecDepth 100000 in
theorem check_runT (A : Option Addr) (n cap : Nat) (T : List Nd) (w : World) (h : TreeAt w A n T) :
    Calls Tryd.prog 36 #[trV A n cap] w fun e w' => e = .returned (trErr (sndT T)) ∧ Below w.heap.size w w' := by
  have hl := Lib.hid h.len
  have hn40 := h.small.1
  rw [hl.out] at hn40
  obtain ⟨S, hS⟩ : ∃ S, w.heap.size = S := ⟨_, rfl⟩
  obtain ⟨W, hW⟩ : ∃ W, w.alloc (.cells #[.slice A n cap] 24) = W := ⟨_, rfl⟩
  have hC0 := CSt.start (cap := cap) h 24 hW
  rw [hS] at hC0 ⊢
  have HC := Lib.hid (fun (m : Int) V hV => Check_runT A n cap m T V hV)
  have HSN : Hid (trErr (sndT T) = trErr (chkT T (rootOf T).t)) := rfl
  have HRT := Lib.hid (fun V h0 => root_runB A n cap V h0 hn40)
  unfold trV at HC HRT ⊢
  have C0 := Lib.hid hC0
  have d0 := hC0.e0
  clear h hC0
  by_cases hn0 : n = 0
  · subst hn0
    have h0 : Hid (trErr (chkT T 0) = trErr (sndT T)) := by show _ = _; rw [HSN.out]; unfold chkT; rw [if_pos hl.out, if_pos hl.out]
    go_enter Tryd.func36, Tryd.ntmps36
    go_wp2_with fail
    refine (HC.out 0 W C0.out.tree).mono ?_
    rintro e w1 ⟨rfl, hw1⟩
    have C1 := Lib.hid (C0.out.on hw1)
    clear hw1
    go_wp2_with fail
    go_ret
    exact ⟨by rw [← h0.out]; rfl, C1.out.bel⟩
  · have hnz : ((n : Int) == 0) = false := by simp; omega
    obtain ⟨b, o, rfl, hbB, hget⟩ := C0.out.tree.at_.get (by have := hl.out; omega)
    obtain ⟨l, hll⟩ : ∃ l, n - 1 = l := ⟨_, rfl⟩
    have hln : l < n := by omega
    have hlnz : (l : Int) < (n : Int) := by omega
    have HTO : Hid (∀ V, TreeAt V (some ⟨b, o, none⟩) n T → V.cell? ⟨b, o + l * 4 + 2, none⟩ = some (.int .i64 (rootOf T).t)) := fun V hV => by
      obtain ⟨b1, o1, eb, _, hg⟩ := hV.at_.get (by have := hl.out; omega)
      cases eb
      obtain ⟨_, _, _, _, _, h2, _⟩ := hg l _ (at_nd (by have := hl.out; omega))
      unfold rootOf
      rw [hl.out, hll]
      exact h2
    have HRT := Lib.hid (fun V => HRT.out V (by omega))
    rw [hll] at HRT
    have HCR := Lib.hid (HC.out (rootOf T).t)
    have HSN2 : Hid (trErr (chkT T (rootOf T).t) = trErr (sndT T)) := HSN.out.symm
    obtain ⟨rt, hrt⟩ : ∃ t, (rootOf T).t = t := ⟨_, rfl⟩
    rw [hrt] at HTO HCR HSN2
    have NB : Hid (CSt S (some ⟨b, o, none⟩) n cap T w W.drew) := C0.out.on ((Below.refl _ W).drew)
    clear hget HC HSN hll hrt
    go_enter Tryd.func36, Tryd.ntmps36
    go_wp2_with fail
    go_region_held3 (fun V => V.cell? ⟨S, 0, none⟩ = some (.slice (some ⟨b, o, none⟩) n cap) ∧ V.cell? ⟨b, o + l * 4 + 2, none⟩ = some (.int .i64 rt)) (first | exact ⟨C0.out.e0, HTO.out _ C0.out.tree⟩ | exact ⟨NB.out.e0, HTO.out _ NB.out.tree⟩ | go_keep)
      (first | (go_at_call 31; refine (HRT.out _).mono ?_; rintro e w7 ⟨rfl, hw7⟩; have NB := Lib.hid (NB.out.on hw7); clear hw7)
             | (go_at_call 8; refine (HCR.out _ NB.out.tree).mono ?_; rintro e w7 ⟨rfl, hw7⟩; have NB := Lib.hid (NB.out.on hw7); clear hw7))
    all_goals go_wp2_with fail
    all_goals go_ret
    all_goals exact ⟨by rw [← HSN2.out]; rfl, NB.out.bel⟩
theorem cnt_step {T : List Nd} {i : Nat} (h : i < T.length) (k : Int) : cntT (T.take (i + 1)) k = cntT (T.take i) k + (if (nd T i).k = k then 1 else 0) := by
 unfold cntT
 rw [List.take_add_one, at_nd h, List.countP_append]
 simp
set_option maxHeartbeats 8000000 in
set_option maxRecDepth 100000 in
theorem Count_runT : SaysCount := by
 intro A n cap k T w h
 have hl := Lib.hid h.len
 have hn40 := h.small.1
 rw [hl.out] at hn40
 obtain ⟨S, hS⟩ : ∃ S, w.heap.size = S := ⟨_, rfl⟩
 obtain ⟨W, hW⟩ : ∃ W, w.alloc (.cells #[.slice A n cap] 24) = W := ⟨_, rfl⟩
 have hC0 := CSt.start (cap := cap) h 24 hW
 unfold trV
 rw [hS] at hC0 ⊢
 have C0 := Lib.hid hC0
 have d0 := hC0.e0
 have HST := Lib.hid (fun (i : Nat) hi => cnt_step (T := T) (i := i) hi k)
 have HLE : Hid (∀ i, cntT (T.take i) k ≤ i) := fun i => Nat.le_trans List.countP_le_length (by rw [List.length_take]; omega)
 have HEN : Hid (cntT (T.take n) k = cntT T k) := by show _ = _; rw [← hl.out, List.take_length]
 clear h hC0
 go_enter Tryd.func12, Tryd.ntmps12
 go_wp2_with fail
 clear d0
 go_loopg [5, 11] (n + 1) (fun h s5 s11 wr => ∃ i z : Nat, s5 = .int .i64 z ∧ s11 = .int .i64 i ∧ Hid (i ≤ n ∧ i + h = n + 1) ∧ Hid (cntT (T.take i) k = z) ∧ Hid (CSt S A n cap T w wr))
 case atStart => exact ⟨0, 0, rfl, rfl, by show _ ∧ _; omega, by show _ = _; simp [cntT], C0.out⟩
 case round =>
  clear C0
  obtain ⟨i, z, rfl, rfl, HI, HZ, C1⟩ := hrel
  generalize wr = w1 at *
  have d0 := C1.out.e0
  have hz40 : z ≤ 40 := by have h1 := HLE.out i; have h2 := HI.out; have h3 := HZ.out; omega
  by_cases hi : i < n
  ·have hiz : (i : Int) < (n : Int) := by omega
   obtain ⟨b, o, rfl, hbB, hget⟩ := C1.out.tree.at_.get (by have := hl.out; omega)
   obtain ⟨K, q, c, c0, c1, c2, c3, hrest⟩ := hget i _ (at_nd (by have := hl.out; omega))
   have HS1 := Lib.hid (HST.out i (by have := hl.out; omega))
   clear hget hrest
   generalize nd T i = x at *
   have C2 : Hid (CSt S (some ⟨b, o, none⟩) n cap T w (w1.alloc (.cells #[.int .i64 x.k, .int .i64 x.f, .int .i64 x.t, .slice K q c] 33))) := C1.out.on ((Below.refl _ _).alloc (Nat.le_refl _) _)
   by_cases hk : x.k = k
   ·have hkb : (x.k == k) = true := by simp [hk]
    have HZ2 : Hid (cntT (T.take (i + 1)) k = z + 1) := by show _ = _; rw [HS1.out, if_pos hk, HZ.out]
    clear HS1 HZ hk
    go_wp2_with fail
    go_roundg (n - i)
    case measure => have := HI.out; omega
    case rel => exact ⟨i + 1, z + 1, by go_num, by go_num, by show _ ∧ _; have := HI.out; omega, HZ2.out, C2.out⟩
   ·have hkb : (x.k == k) = false := by simp [hk]
    have HZ2 : Hid (cntT (T.take (i + 1)) k = z) := by show _ = _; rw [HS1.out, if_neg hk, HZ.out, Nat.add_zero]
    clear HS1 HZ hk
    go_wp2_with fail
    go_roundg (n - i)
    case measure => have := HI.out; omega
    case rel => exact ⟨i + 1, z, rfl, by go_num, by show _ ∧ _; have := HI.out; omega, HZ2.out, C2.out⟩
  ·have hiz : ¬ (i : Int) < (n : Int) := by omega
   obtain rfl : i = n := by have := HI.out; omega
   have hr : Hid (cntT T k = z) := by show _ = _; rw [← HEN.out]; exact HZ.out
   go_wp2_with fail
   go_ret
   exact ⟨by rw [hr.out]; rfl, C1.out.bel⟩
end Go.Proofs.YtkgaaabecdbidaaDoor
namespace Go.Proofs.YtkgaaabecdbidaaDoor
open Go.RowKit
set_option linter.unusedSimpArgs false
set_option linter.unusedVariables false
section
variable {T : List Nd} {A : Option Addr} {n cap B g : Nat} {cb : Array Value} {I : List Stp → List Nat → World → Prop} {W : World} {bs0 : List Nat}
theorem wp_appV {α : Type} {fc : α → List Value} {size : Nat} {TT E : TypeId} (hT : SliceV fc size TT E) {o : Oper} {a : Act} {K : Act → World → Prop} {Q : Exit → Act → World → Prop} (w : World) (s x : Operand)
  (ho : o.op = .call { callee := .builtin .append, args := #[s, x], argTypes := #[TT, TT] })
  (base : Nat) (v : Value) (l : List α) (hs : a.eval s = v) (hown : OwnV fc size E w base v l)
  (B : Nat) (A : Option Addr) (m c : Nat) (news : List α) (hx : a.eval x = .slice A m c) (hb : CellsV fc w B A news) (hm : news.length = m) (hlen : l.length ≤ 500000) (hlen2 : news.length ≤ 500000) (hbase : base ≤ w.heap.size)
  (h : ∀ v' w', OwnV fc size E w' base v' (l ++ news) → w.grownBy w' v.ownBlock → (v'.ownBlock = v.ownBlock ∨ v'.ownBlock = some w.heap.size) → K (a.put o.dst v') w') : o.wp Tryd.prog a w K Q := by
 obtain ⟨v', w', hrun, h2, h3, h4⟩ := run_appV hT o.type hown B A m c news hb hm (by omega) hbase
 unfold Oper.wp execOp
 simp only [ho, resolve, invoke, builtin, Sem.run_bind, Sem.run_pure, Result.andThen_ok, List.map_toArray, List.map_cons, List.map_nil, hs, hx, hrun]
 exact h v' w' h2 h3 h4
theorem enter_new {S c b o : Nat} {f : Int} {D : List Stp} {P : List Pl} {v : Value} {w2 : World} (H : RunW T (some ⟨b, o, none⟩) n cap B g cb I W bs0 D P v w2) (hS0 : W.heap.size = S)
  (hS : w2.cell? ⟨S, 0, none⟩ = some (.slice (some ⟨b, o, none⟩) n cap) ∧ w2.cell? ⟨b, o + c * 4 + 1, none⟩ = some (.int .i64 f)) (hb : b < B) :
  (w2.alloc (.cells #[.int .i64 (c : Nat), .int .i64 0, .int .i64 f] 90)).cell? ⟨S, 0, none⟩ = some (.slice (some ⟨b, o, none⟩) n cap) ∧ (w2.alloc (.cells #[.int .i64 (c : Nat), .int .i64 0, .int .i64 f] 90)).cell? ⟨b, o + c * 4 + 1, none⟩ = some (.int .i64 f) := by
 have hsz := H.size
 have hl := H.lt
 rw [hS0] at hsz hl
 exact ⟨by rw [World.cell?_alloc_lt _ _ _ (by show S < _; omega)]; exact hS.1, by rw [World.cell?_alloc_lt _ _ _ (by show b < _; omega)]; exact hS.2⟩
theorem enter_keep {S c b o : Nat} {f : Int} {D : List Stp} {P : List Pl} {v : Value} {w2 : World} (H : RunW T (some ⟨b, o, none⟩) n cap B g cb I W bs0 D P v w2) (hS0 : W.heap.size = S)
  (hS : w2.cell? ⟨S, 0, none⟩ = some (.slice (some ⟨b, o, none⟩) n cap) ∧ w2.cell? ⟨b, o + c * 4 + 1, none⟩ = some (.int .i64 f)) (w3 : World) (g3 : (w2.alloc (.cells #[.int .i64 (c : Nat), .int .i64 0, .int .i64 f] 90)).grownBy w3 v.ownBlock) (hb : b < B) :
  w3.cell? ⟨S, 0, none⟩ = some (.slice (some ⟨b, o, none⟩) n cap) ∧ w3.cell? ⟨b, o + c * 4 + 1, none⟩ = some (.int .i64 f) := by
 have hsz := H.size
 have hl := H.lt
 have hnew := enter_new (f := f) (c := c) H hS0 hS hb
 rw [hS0] at hsz hl
 have hown := H.own
 rw [hS0] at hown
 have hno : ∀ k, k < S + 3 → some k ≠ v.ownBlock := fun k hk e => by have := (World.ownsRow.lt hown k e.symm).1; omega
 exact ⟨(World.cell?_of_block (g3.block S (by simp; omega) (hno S (by omega)))).trans hnew.1, (World.cell?_of_block (g3.block b (by simp; omega) (hno b (by omega)))).trans hnew.2⟩
theorem enter_fin {S c b o : Nat} {f : Int} {D : List Stp} {P : List Pl} {v : Value} {w2 : World} (hA : ActW T W.heap.size g cb I) (hS0 : W.heap.size = S) (H : RunW T (some ⟨b, o, none⟩) n cap B g cb I W bs0 D P v w2)
  (hS : w2.cell? ⟨S, 0, none⟩ = some (.slice (some ⟨b, o, none⟩) n cap) ∧ w2.cell? ⟨b, o + c * 4 + 1, none⟩ = some (.int .i64 f)) (v3 : Value) (w3 : World) (o3 : OwnV plCells 3 90 w3 (S + 3) v3 (P.reverse ++ [⟨c, 0, f⟩])) (g3 : (w2.alloc (.cells #[.int .i64 (c : Nat), .int .i64 0, .int .i64 f] 90)).grownBy w3 v.ownBlock) (t3 : v3.ownBlock = v.ownBlock ∨ v3.ownBlock = some (w2.alloc (.cells #[.int .i64 (c : Nat), .int .i64 0, .int .i64 f] 90)).heap.size) (hb : b < B) :
  w3.cell? ⟨S + 2, 0, none⟩ = some v ∧ w3.frozen? ⟨S + 2, 0, none⟩ = false ∧ ((w3.setCell ⟨S + 2, 0, none⟩ v3).cell? ⟨S, 0, none⟩ = some (.slice (some ⟨b, o, none⟩) n cap) ∧ (w3.setCell ⟨S + 2, 0, none⟩ v3).cell? ⟨b, o + c * 4 + 1, none⟩ = some (.int .i64 f)) ∧ RunW T (some ⟨b, o, none⟩) n cap B g cb I W bs0 D (⟨c, 0, f⟩ :: P) v3 (w3.setCell ⟨S + 2, 0, none⟩ v3) := by
 have hsz := H.size
 have hl := H.lt
 have hown := H.own
 have hk := enter_keep (f := f) (c := c) H hS0 hS w3 g3 hb
 have hc2 := H.c2
 have hge := ownV_ge o3
 subst hS0
 have hno : ∀ k, k < W.heap.size + 3 → some k ≠ v.ownBlock := fun k hk e => by have := (World.ownsRow.lt hown k e.symm).1; omega
 have hgs := g3.size
 rw [World.size_alloc] at hgs
 have q1 : w3.cell? ⟨W.heap.size + 2, 0, none⟩ = some v := (World.cell?_of_block (g3.block (W.heap.size + 2) (by simp; omega) (hno _ (by omega)))).trans (by rw [World.cell?_alloc_lt _ _ _ (by show W.heap.size + 2 < _; omega)]; exact hc2.1)
 have q2 : w3.frozen? ⟨W.heap.size + 2, 0, none⟩ = false := (World.frozen?_of_block (g3.block (W.heap.size + 2) (by simp; omega) (hno _ (by omega)))).trans (by rw [World.frozen?_alloc_old _ _ _ (by show W.heap.size + 2 ≠ _; omega)]; exact hc2.2)
 have V3 : VarAt w3 (W.heap.size + 2) v := ⟨q1, q2⟩
 have hB : But w2 (w3.setCell ⟨W.heap.size + 2, 0, none⟩ v3) ((W.heap.size + 2) :: v.ownBlock.toList) := by
  refine ⟨g3.os, g3.tape, g3.output, by simp; omega, fun k hk hn => ?_⟩
  rw [List.mem_cons, not_or] at hn
  rw [Below.heap_setCell _ _ _ _ (by exact fun e => hn.1 e)]
  refine (g3.block k (by simp; omega) fun e => hn.2 (by rw [← e]; simp)).trans (Below.heap_alloc _ _ _ hk)
 refine ⟨q1, q2, ⟨?_, ?_⟩, H.turn hA hB (fun x hx => ?_) (V3.set _) ?_ ?_⟩
 ·exact (World.cell?_of_block (Below.heap_setCell _ _ _ _ (by show W.heap.size ≠ W.heap.size + 2; omega))).trans hk.1
 ·exact (World.cell?_of_block (Below.heap_setCell _ _ _ _ (by show b ≠ W.heap.size + 2; omega))).trans hk.2
 ·rcases List.mem_cons.1 hx with rfl | hx
  ·exact .inl rfl
  ·exact .inr (by simpa using hx)
 ·rw [List.reverse_cons]
  exact o3.setCell (by show W.heap.size + 2 < _; omega) _
 ·rcases t3 with t3 | t3
  ·exact .inl t3
  ·exact .inr ⟨_, t3, by simp⟩
set_option maxHeartbeats 4000000 in
set_option maxRecDepth 100000 in
theorem enter_run (hA : ActW T W.heap.size g cb I) (D R : List Stp) (P : List Pl) (v : Value) (w : World) (c : Nat) (h : RunW T A n cap B g cb I W bs0 D P v w) (hs : D ++ ⟨0, c, 0, 0⟩ :: R = stepsW T (T.length - 1)) (hl : Hid (T.length = n)) (hc : c < n) (hP : P.length ≤ 1000) :
  Calls Tryd.prog 55 #[.int .i64 c, .pointer (some ⟨W.heap.size + 1, 0, none⟩), .pointer (some ⟨W.heap.size + 2, 0, none⟩), .pointer (some ⟨W.heap.size, 0, none⟩)] w fun e w' => e = .returned (.tuple #[]) ∧ ∃ v', RunW T A n cap B g cb I W bs0 (D ++ [⟨0, c, 0, 0⟩]) (⟨c, 0, (nd T c).f⟩ :: P) v' w' := by
 have eg := hA.eg
 have HA := Lib.hid hA
 have HC := Lib.hid (h.call hA hs)
 have hcz : (c : Int) < (n : Int) := by omega
 obtain ⟨S, hS0⟩ : ∃ S, W.heap.size = S := ⟨_, rfl⟩
 have c1 := h.c1.1
 rw [hS0] at c1 ⊢
 obtain ⟨f, hf⟩ : ∃ f, (nd T c).f = f := ⟨_, rfl⟩
 rw [hf]
 clear h hs
 go_enter Tryd.func55, Tryd.ntmps55
 go_wp2_with fail
 refine HC.out.mono ?_
 rintro e w1 ⟨rfl, h1⟩
 clear c1 HC
 obtain ⟨b, o, rfl, hb, hget⟩ := h1.nds.get (by have := hl.out; omega)
 obtain ⟨K, m, q, d0, d1, d2, d3, _⟩ := hget c _ (at_nd (by have := hl.out; omega))
 have e0 := h1.c0.1
 have e2 := h1.c2.1
 have e3 := h1.c2.2
 rw [hS0] at e0 e2 e3
 have H1 := Lib.hid h1
 clear hget h1 d0 d2 d3
 rw [hf] at d1
 go_wp2_with fail
 refine rg_begin (fun V => V.cell? ⟨S, 0, none⟩ = some (.slice (some ⟨b, o, none⟩) n cap) ∧ V.cell? ⟨b, o + c * 4 + 1, none⟩ = some (.int .i64 f)) (by kernel_rfl) ⟨e0, d1⟩ (fun hS => ?_)
 have H2 : Hid (RunW T (some ⟨b, o, none⟩) n cap B g cb I W bs0 (D ++ [⟨0, c, 0, 0⟩]) P v w1.drew) := H1.out.drew HA.out
 clear H1 e0 e2 e3 d1
 generalize w1.drew = w2 at *
 have e2 := H2.out.c2.1
 have hsz := H2.out.size
 rw [hS0] at e2 hsz
 have OX := Lib.hid (H2.out.own.alloc (.cells #[.int .i64 (c : Nat), .int .i64 0, .int .i64 f] 90))
 rw [hS0] at OX
 have NX : Hid (CellsV plCells (w2.alloc (.cells #[.int .i64 (c : Nat), .int .i64 0, .int .i64 f] 90)) (w2.heap.size + 1) (some ⟨w2.heap.size, 0, none⟩) [⟨c, 0, f⟩]) := one_pl w2 ⟨c, 0, f⟩ 90
 have hlen : Hid (P.reverse.length ≤ 500000) := by show _ ≤ _; simp; omega
 have HB3 : Hid (S + 3 ≤ (w2.alloc (.cells #[.int .i64 (c : Nat), .int .i64 0, .int .i64 f] 90)).heap.size) := by show _ ≤ _; simp; omega
 have e2' : (w2.alloc (.cells #[.int .i64 (c : Nat), .int .i64 0, .int .i64 f] 90)).cell? ⟨S + 2, 0, none⟩ = some v := by rw [World.cell?_alloc_lt _ _ _ (by show S + 2 < _; omega)]; exact e2
 have HF := Lib.hid (fun v3 w3 o3 g3 t3 => enter_fin HA.out hS0 H2.out hS v3 w3 o3 g3 t3 (D := D ++ [⟨0, c, 0, 0⟩]) (f := f) (c := c) (b := b) (o := o) hb)
 have HSG : Hid (∀ w3, (w2.alloc (.cells #[.int .i64 (c : Nat), .int .i64 0, .int .i64 f] 90)).grownBy w3 v.ownBlock → w3.cell? ⟨S, 0, none⟩ = some (.slice (some ⟨b, o, none⟩) n cap) ∧ w3.cell? ⟨b, o + c * 4 + 1, none⟩ = some (.int .i64 f)) := fun w3 g3 => enter_keep H2.out hS0 hS w3 g3 hb
 have HSA : Hid ((w2.alloc (.cells #[.int .i64 (c : Nat), .int .i64 0, .int .i64 f] 90)).cell? ⟨S, 0, none⟩ = some (.slice (some ⟨b, o, none⟩) n cap) ∧ (w2.alloc (.cells #[.int .i64 (c : Nat), .int .i64 0, .int .i64 f] 90)).cell? ⟨b, o + c * 4 + 1, none⟩ = some (.int .i64 f)) := enter_new H2.out hS0 hS hb
 have hcz0 : (0 : Int) ≤ (c : Int) := by omega
 clear hf
 refine rg_take 1 (.int .i64 (c : Int)) rfl (by kernel_rfl) (by kernel_rfl) (by kernel_rfl) (fun _ _ _ h => h) rfl (fun w _ => ?_) hS ?_
 ·go_simp
 simp only [zA, zB, zC, Act.put, zD, zE, zF]
 refine rg_take 2 (.pointer (some ⟨S, 0, none⟩)) rfl (by kernel_rfl) (by kernel_rfl) (by kernel_rfl) (fun _ _ _ h => h) rfl (fun w _ => ?_) hS ?_
 ·go_simp
 simp only [zA, zB, zC, Act.put, zD, zE, zF]
 refine rg_take 3 (.slice (some ⟨b, o, none⟩) n cap) rfl (by kernel_rfl) (by kernel_rfl) (by kernel_rfl) (fun _ _ _ h => h) rfl (fun w hSw => ?_) hS ?_
 ·obtain ⟨s1, s2⟩ := hSw
  go_simp
 simp only [zA, zB, zC, Act.put, zD, zE, zF]
 refine rg_take 4 (.int .i64 (c : Int)) rfl (by kernel_rfl) (by kernel_rfl) (by kernel_rfl) (fun _ _ _ h => h) rfl (fun w _ => ?_) hS ?_
 ·go_simp
 simp only [zA, zB, zC, Act.put, zD, zE, zF]
 refine rg_take 5 (.pointer (some ⟨b, o + c * 4, none⟩)) rfl (by kernel_rfl) (by kernel_rfl) (by kernel_rfl) (fun _ _ _ h => h) rfl (fun w _ => ?_) hS ?_
 ·go_simp
 simp only [zA, zB, zC, Act.put, zD, zE, zF]
 refine rg_take 6 (.pointer (some ⟨b, o + c * 4 + 1, none⟩)) rfl (by kernel_rfl) (by kernel_rfl) (by kernel_rfl) (fun _ _ _ h => h) rfl (fun w _ => ?_) hS ?_
 ·go_simp
 simp only [zA, zB, zC, Act.put, zD, zE, zF]
 refine rg_take 7 (.int .i64 f) rfl (by kernel_rfl) (by kernel_rfl) (by kernel_rfl) (fun _ _ _ h => h) rfl (fun w hSw => ?_) hS ?_
 ·obtain ⟨s1, s2⟩ := hSw
  go_simp
 simp only [zA, zB, zC, Act.put, zD, zE, zF]
 refine rg_take 8 (.agg #[.int .i64 (c : Int), .int .i64 0, .int .i64 f]) rfl (by kernel_rfl) (by kernel_rfl) (by kernel_rfl) (fun _ _ _ h => h) rfl (fun w _ => ?_) hS ?_
 ·go_simp
 simp only [zA, zB, zC, Act.put, zD, zE, zF]
 refine rg_two 0 9 (by kernel_rfl) ?_ ?_
 ·refine rs_of rfl rfl (wp_value (w' := w2) (v := v) (by go_simp) ⟨hS, ?_⟩)
  simp only [zA, zB, zC, Act.put, zD, zE, zF]
  refine rg_one 9 (by kernel_rfl) (rs_of rfl rfl (wp_value (w' := w2.alloc (.cells #[.int .i64 (c : Nat), .int .i64 0, .int .i64 f] 90)) (v := .slice (some ⟨w2.heap.size, 0, none⟩) 1 1) (by go_simp) ⟨HSA.out, ?_⟩))
  simp only [zA, zB, zC, Act.put, zD, zE, zF]
  refine rg_one 10 (by kernel_rfl) (rs_of rfl rfl (wp_appV pl_slice _ (.tmp 9) (.tmp 18) rfl (S + 3) v P.reverse rfl OX.out (w2.heap.size + 1) (some ⟨w2.heap.size, 0, none⟩) 1 1 [⟨c, 0, f⟩] rfl NX.out rfl hlen.out (by simp) HB3.out (fun v3 w3 o3 g3 t3 => ⟨?_, ?_⟩)))
  ·exact HSG.out w3 g3
  have hv3 : ∃ A l c, v3 = .slice A l c := by obtain ⟨A, c, h, _⟩ := o3.cells; exact ⟨A, _, c, h⟩
  obtain ⟨A3, l3, c3, rfl⟩ := hv3
  have F3 := HF.out _ w3 o3 g3 t3
  clear o3 g3 t3
  simp only [zA, zB, zC, Act.put, zD, zE, zF]
  refine rg_one 11 (by kernel_rfl) (rs_of rfl rfl (wp_skipped (w' := w3.setCell ⟨S + 2, 0, none⟩ (.slice A3 l3 c3)) (by have q1 := F3.1; have q2 := F3.2.1; go_simp) ⟨F3.2.2.1, ?_⟩))
  simp only [zA, zB, zC, Act.put, zD, zE, zF]
  refine wpAnyH_done (by kernel_rfl) ?_ _
  (try simp only [Exit.inBlock, Exit.then])
  go_wp2_with fail
  go_end0
  exact ⟨rfl, _, F3.2.2.2⟩
 ·refine rs_of rfl rfl (wp_value (w' := w2.alloc (.cells #[.int .i64 (c : Nat), .int .i64 0, .int .i64 f] 90)) (v := .slice (some ⟨w2.heap.size, 0, none⟩) 1 1) (by go_simp) ⟨HSA.out, ?_⟩)
  simp only [zA, zB, zC, Act.put, zD, zE, zF]
  refine rg_one 0 (by kernel_rfl) (rs_of rfl rfl (wp_value (w' := w2.alloc (.cells #[.int .i64 (c : Nat), .int .i64 0, .int .i64 f] 90)) (v := v) (by go_simp) ⟨HSA.out, ?_⟩))
  simp only [zA, zB, zC, Act.put, zD, zE, zF]
  refine rg_one 10 (by kernel_rfl) (rs_of rfl rfl (wp_appV pl_slice _ (.tmp 9) (.tmp 18) rfl (S + 3) v P.reverse rfl OX.out (w2.heap.size + 1) (some ⟨w2.heap.size, 0, none⟩) 1 1 [⟨c, 0, f⟩] rfl NX.out rfl hlen.out (by simp) HB3.out (fun v3 w3 o3 g3 t3 => ⟨?_, ?_⟩)))
  ·exact HSG.out w3 g3
  have hv3 : ∃ A l c, v3 = .slice A l c := by obtain ⟨A, c, h, _⟩ := o3.cells; exact ⟨A, _, c, h⟩
  obtain ⟨A3, l3, c3, rfl⟩ := hv3
  have F3 := HF.out _ w3 o3 g3 t3
  clear o3 g3 t3
  simp only [zA, zB, zC, Act.put, zD, zE, zF]
  refine rg_one 11 (by kernel_rfl) (rs_of rfl rfl (wp_skipped (w' := w3.setCell ⟨S + 2, 0, none⟩ (.slice A3 l3 c3)) (by have q1 := F3.1; have q2 := F3.2.1; go_simp) ⟨F3.2.2.1, ?_⟩))
  simp only [zA, zB, zC, Act.put, zD, zE, zF]
  refine wpAnyH_done (by kernel_rfl) ?_ _
  (try simp only [Exit.inBlock, Exit.then])
  go_wp2_with fail
  go_end0
  exact ⟨rfl, _, F3.2.2.2⟩
end
end Go.Proofs.YtkgaaabecdbidaaDoor
namespace Go.Proofs.YtkgaaabecdbidaaDoor
open Go.RowKit
set_option linter.unusedSimpArgs false
set_option linter.unusedVariables false
section
variable {T : List Nd} {A : Option Addr} {n cap B g : Nat} {cb : Array Value} {I : List Stp → List Nat → World → Prop} {W : World} {bs0 : List Nat}
theorem RunW.start (hA : ActW T W.heap.size g cb I) (hI : I [] bs0 W) (hb : NdsAt W B A T) (hB : B ≤ W.heap.size) (hbs : ∀ b ∈ bs0, B ≤ b ∧ b < W.heap.size) (T1 T2 T3 : TypeId) {V : World} (hV : ((W.alloc (.cells #[.slice A n cap] T1)).alloc (.cells #[.func (.func g) #[] cb] T2)).alloc (.cells #[.slice none 0 0] T3) = V) : RunW T A n cap B g cb I W bs0 [] [] (.slice none 0 0) V := by
 subst hV
 have b1 : Below W.heap.size W (((W.alloc (.cells #[.slice A n cap] T1)).alloc (.cells #[.func (.func g) #[] cb] T2)).alloc (.cells #[.slice none 0 0] T3)) := (((Below.refl _ _).alloc (Nat.le_refl _) _).alloc (by simp) _).alloc (by simp; omega) _
 refine ⟨((VarAt.new W _ T1).alloc _).alloc _, ?_, ?_, OwnV.nil _ _ _ _ _, hb.below b1 hB, hB, hbs, ⟨bs0, hA.keep _ _ _ _ hI (Apart.of b1), fun b h => .inl h, (fun b h e => by cases e), fun b h => by have := (hbs b h).2; simp; omega⟩, b1.os, b1.tape, b1.output, fun k hk _ => b1.block k hk⟩
 ·have := (VarAt.new (W.alloc (.cells #[.slice A n cap] T1)) (.func (.func g) #[] cb) T2).alloc (.cells #[.slice none 0 0] T3)
  rw [World.size_alloc] at this
  exact this
 ·have := VarAt.new ((W.alloc (.cells #[.slice A n cap] T1)).alloc (.cells #[.func (.func g) #[] cb] T2)) (.slice none 0 0) T3
  simp only [World.size_alloc] at this
  exact this
theorem remW_nil : remW T [] = [] := rfl
theorem remW_cons (p : Pl) (P : List Pl) : remW T (p :: P) = bodyW T p.j ((nd T p.j).kids.drop p.k) p.tok ++ remW T P := rfl
set_option maxHeartbeats 16000000 in
set_option maxRecDepth 100000 in
theorem walk_run (hA : ActW T W.heap.size g cb I) (m : Int) (hV : Hid (Valid T m)) (hl : Hid (T.length = n)) (hn : n ≤ 40) (hb : NdsAt W B A T) (hB : B ≤ W.heap.size) (hI : I [] bs0 W) (hbs : ∀ b ∈ bs0, B ≤ b ∧ b < W.heap.size) :
  Calls Tryd.prog 37 #[trV A n cap, .func (.func g) #[] cb] W fun e w' => e = .returned (.tuple #[]) ∧ ∃ bs', I (stepsW T (T.length - 1)) bs' w' ∧ But W w' bs0 := by
 have hn1 : 1 ≤ n := by have := hV.out.pos; have := hl.out; omega
 obtain ⟨V, hVV⟩ : ∃ V, ((W.alloc (.cells #[.slice A n cap] 24)).alloc (.cells #[.func (.func g) #[] cb] 65)).alloc (.cells #[.slice none 0 0] 88) = V := ⟨_, rfl⟩
 have R0 := Lib.hid (RunW.start (n := n) (cap := cap) hA hI hb hB hbs _ _ _ hVV)
 have HA := Lib.hid hA
 have eg := hA.eg
 have hmf' := hmf
 obtain ⟨S, hS0⟩ : ∃ S, W.heap.size = S := ⟨_, rfl⟩
 have c0 := R0.out.c0.1
 rw [hS0] at c0
 clear hb hB hI hbs hA
 unfold trV
 go_enter Tryd.func37, Tryd.ntmps37
 go_wp2_with fail
 refine (root_run A n cap _ hn1 hn).mono ?_
 rintro e w1 ⟨rfl, hw1⟩
 have H1 : Hid (RunW T A n cap B g cb I W bs0 [] [] (.slice none 0 0) w1) := by rw [hw1]; exact R0.out.alloc HA.out _
 clear hw1 R0 c0 hVV
 have HE := Lib.hid (fun D R P v w c h hs hc hP => enter_run (n := n) (cap := cap) (A := A) (B := B) (W := W) (bs0 := bs0) HA.out D R P v w c h hs hl hc hP)
 rw [hS0] at HE
 go_wp2_with fail
 refine (HE.out [] (bodyW T (T.length - 1) (nd T (T.length - 1)).kids (nd T (T.length - 1)).f) [] _ w1 (n - 1) H1.out (by rw [hl.out]; rfl) (by omega) (by simp)).mono ?_
 rintro e w2 ⟨rfl, v2, h2⟩
 have H2 := Lib.hid h2
 clear H1 h2
 go_wp2_with fail
 go_loopg [] ((remW T [⟨n - 1, 0, (nd T (n - 1)).f⟩]).length + 1) (fun h wr => ∃ (D : List Stp) (P : List Pl) (v : Value), Hid (RunW T A n cap B g cb I W bs0 D P v wr) ∧ Hid (D ++ remW T P = stepsW T (T.length - 1)) ∧ Hid (OkW T P) ∧ Hid ((remW T P).length < h))
 case atStart =>
  refine ⟨_, _, _, H2, ?_, ?_, by show _ < _; omega⟩
  ·show [] ++ [_] ++ remW T _ = _
   rw [remW_cons, remW_nil, List.append_nil, List.drop_zero, hl.out]
   rfl
  ·exact ⟨by show n - 1 + 0 < _; have := hl.out; omega, Nat.zero_le _, trivial⟩
 case round =>
  obtain ⟨D, P, v, HR, HD, HO, HM⟩ := hrel
  generalize wr = w3 at *
  have e2 := HR.out.c2.1
  rw [hS0] at e2
  cases P with
  | nil =>
   obtain ⟨A3, q3, rfl, _⟩ := HR.out.own.cells
   have hend : Hid (∃ bs', I (stepsW T (T.length - 1)) bs' w3 ∧ But W w3 bs0) := by
    obtain ⟨bs', h1, _⟩ := HR.out.act
    have hd := HD.out
    rw [remW_nil, List.append_nil] at hd
    rw [hd] at h1
    exact ⟨bs', h1, HR.out.os, HR.out.tape, HR.out.output, Nat.le_trans (by omega) HR.out.size, HR.out.keep⟩
   rw [List.reverse_nil, List.length_nil] at e2
   clear HR HD HO HM
   go_wp2_with fail
   go_end0
   exact ⟨rfl, hend.out⟩
  | cons p P =>
   have hown := HR.out.own
   rw [List.reverse_cons] at hown
   obtain ⟨gb, q2, rfl, hg1, hg2, hq1, hq2, k0, k1, k2, kf⟩ := hown.lastP
   rw [List.length_reverse] at e2 hq1 k0 k1 k2 HR
   obtain ⟨hj, hk, hOk⟩ := HO.out
   obtain ⟨x, hx⟩ : ∃ x, P.length = x := ⟨_, rfl⟩
   rw [hx] at e2 hq1 k0 k1 k2 hj
   have HX := Lib.hid hx
   obtain ⟨pj, pk, pt⟩ := p
   simp only at hj hk k0 k1 k2
   have hjn : pj < n := by have := hl.out; omega
   have hjz : (pj : Int) < (n : Int) := by omega
   have hx40 : x < 40 := by have := hl.out; omega
   obtain ⟨b, o, rfl, hbB, hget⟩ := HR.out.nds.get (by have := hl.out; omega)
   obtain ⟨K, mm, qq, d0, d1, d2, d3, hm, hmq, hqq, hK⟩ := hget pj _ (at_nd (by have := hl.out; omega))
   have e0 := HR.out.c0.1
   rw [hS0] at e0
   have hsz := HR.out.size
   rw [hS0] at hsz hg1
   have past : ∀ (a : Addr) (u : Value), a.block < w3.heap.size → w3.cell? a = some u → (w3.alloc (.cells #[.int .i64 0, .int .i64 0, .int .i64 0, .slice none 0 0] 33)).cell? a = some u := fun a u ha hu => by
    rw [World.cell?_alloc_lt _ _ a ha]; exact hu
   have hbl : b < w3.heap.size := by have := HR.out.lt; omega
   have e0' := past _ _ (by show S < _; omega) e0
   have k0' := past _ _ (by show gb < _; omega) k0
   have d0' := past _ _ (by exact hbl) d0
   have d1' := past _ _ (by exact hbl) d1
   have d2' := past _ _ (by exact hbl) d2
   have d3' := past _ _ (by exact hbl) d3
   have H4 := Lib.hid ((HR.out.alloc HA.out (.cells #[.int .i64 (nd T pj).k, .int .i64 (nd T pj).f, .int .i64 (nd T pj).t, .slice K mm qq] 33)).drew HA.out)
   have HK := Lib.hid hk
   have HOK := Lib.hid hOk
   have HM2 := Lib.hid hm
   obtain ⟨nt, hnt⟩ : ∃ z, (nd T pj).t = z := ⟨_, rfl⟩
   obtain ⟨nf, hnf⟩ : ∃ z, (nd T pj).f = z := ⟨_, rfl⟩
   obtain ⟨nk, hnk⟩ : ∃ z, (nd T pj).k = z := ⟨_, rfl⟩
   rw [hnt] at d2 d2' H4
   rw [hnf] at d1 d1' H4
   rw [hnk] at d0 d0' H4
   have HNT := Lib.hid hnt
   clear past hown hk hOk hm hx HR HO hnt hnf hnk hget
   have BW4 : Below w3.heap.size w3 (w3.alloc (.cells #[.int .i64 nk, .int .i64 nf, .int .i64 nt, .slice K mm qq] 33)).drew := ((Below.refl _ _).alloc (Nat.le_refl _) _).drew
   have k0_4 := (BW4.cell (p := ⟨gb, x * 3, none⟩) hg2).trans k0
   have k1_4 := (BW4.cell (p := ⟨gb, x * 3 + 1, none⟩) hg2).trans k1
   have k2_4 := (BW4.cell (p := ⟨gb, x * 3 + 2, none⟩) hg2).trans k2
   have n2_4 : (w3.alloc (.cells #[.int .i64 nk, .int .i64 nf, .int .i64 nt, .slice K mm qq] 33)).drew.cell? ⟨w3.heap.size, 2, none⟩ = some (.int .i64 nt) := by
    show (w3.alloc (.cells #[.int .i64 nk, .int .i64 nf, .int .i64 nt, .slice K mm qq] 33)).cell? _ = _
    rw [World.cell?_alloc_at _ _ _ _ rfl]; rfl
   have n3_4 : (w3.alloc (.cells #[.int .i64 nk, .int .i64 nf, .int .i64 nt, .slice K mm qq] 33)).drew.cell? ⟨w3.heap.size, 3, none⟩ = some (.slice K mm qq) := by
    show (w3.alloc (.cells #[.int .i64 nk, .int .i64 nf, .int .i64 nt, .slice K mm qq] 33)).cell? _ = _
    rw [World.cell?_alloc_at _ _ _ _ rfl]; rfl
   have HK4 : Hid (Nums (w3.alloc (.cells #[.int .i64 nk, .int .i64 nf, .int .i64 nt, .slice K mm qq] 33)).drew B K (nd T pj).kids) := NumsK.below hK BW4 (by have := H4.out.lt; omega)
   obtain ⟨N, hN⟩ : ∃ N, w3.heap.size = N := ⟨_, rfl⟩
   have hN4 : N < (w3.alloc (.cells #[.int .i64 nk, .int .i64 nf, .int .i64 nt, .slice K mm qq] 33)).drew.heap.size := by show N < (w3.alloc (.cells #[.int .i64 nk, .int .i64 nf, .int .i64 nt, .slice K mm qq] 33)).heap.size; simp; omega
   rw [hN] at n2_4 n3_4
   clear BW4 hK
   go_upto_region 6 with fail
   go_region
   generalize (w3.alloc (.cells #[.int .i64 nk, .int .i64 nf, .int .i64 nt, .slice K mm qq] 33)).drew = w4 at *
   clear k0 k1 k2 kf d0 d1 d2 d3 e0 e2 e0' k0' d0' d1' d2' d3' hN hg2 hbl hsz
   have c1_4 := H4.out.c1.1
   rw [hS0] at c1_4
   by_cases hkm : pk = mm
   ·subst hkm
    have hD2 : Hid (D ++ ⟨1, pj, pt, nt⟩ :: ⟨2, pj, 0, 0⟩ :: remW T P = stepsW T (T.length - 1)) := by
     have := HD.out
     rw [remW_cons] at this
     simp only at this
     rw [List.drop_eq_nil_of_le (by have := HM2.out; omega), bodyW_nil, HNT.out] at this
     exact this
    have hM3 : Hid ((remW T P).length + 2 ≤ (remW T (⟨pj, pk, pt⟩ :: P)).length) := by
     show _ ≤ _
     rw [remW_cons, List.length_append]
     simp only
     rw [List.drop_eq_nil_of_le (by have := HM2.out; omega), bodyW_nil]
     simp
     omega
    have H5 := Lib.hid (H4.out.drew HA.out)
    have k0_5 : w4.drew.cell? ⟨gb, x * 3, none⟩ = some (.int .i64 pj) := k0_4
    have k1_5 : w4.drew.cell? ⟨gb, x * 3 + 1, none⟩ = some (.int .i64 pk) := k1_4
    have k2_5 : w4.drew.cell? ⟨gb, x * 3 + 2, none⟩ = some (.int .i64 pt) := k2_4
    have n2_5 : w4.drew.cell? ⟨N, 2, none⟩ = some (.int .i64 nt) := n2_4
    have n3_5 : w4.drew.cell? ⟨N, 3, none⟩ = some (.slice K pk qq) := n3_4
    have c1_5 : w4.drew.cell? ⟨S + 1, 0, none⟩ = some (.func (.func g) #[] cb) := c1_4
    have C1 := Lib.hid ((H5.out.drew HA.out).call HA.out hD2.out)
    clear H4 H5 HK4
    go_upto_region 7 with fail
    go_region
    clear k0_4 k1_4 k2_4 n2_4 n3_4 c1_4 hN4
    generalize w4.drew = w5 at *
    go_wp2_with fail
    go_still_tail 12, (by kernel_rfl)
    change wpList _ _ _ _ _ w5.drew
    go_wp2_with fail
    refine C1.out.mono ?_
    clear C1 k0_5 k1_5 k2_5 n2_5 n3_5 c1_5
    clear w5
    rintro e w5 ⟨rfl, h5⟩
    have hxp := HX.out
    subst hxp
    obtain ⟨_, _, _, _, k0_5, _, _, _⟩ := h5.top
    have c1_5 := h5.c1.1
    rw [hS0] at c1_5
    have C2 := Lib.hid ((h5.drew HA.out).call HA.out (s := ⟨2, pj, 0, 0⟩) (R := remW T P) (by rw [List.append_assoc]; exact hD2.out))
    clear h5
    simp only at k0_5
    go_wp2_with fail
    go_still_tail 6, (by kernel_rfl)
    change wpList _ _ _ _ _ w5.drew
    go_wp2_with fail
    refine C2.out.mono ?_
    rintro e w6 ⟨rfl, h6⟩
    have e2_6 := h6.c2.1
    have f2_6 := h6.c2.2
    have H7 := Lib.hid (h6.pop HA.out)
    rw [hS0] at e2_6 f2_6 H7
    clear C2 h6 k0_5 c1_5
    go_wp2_with fail
    go_roundg ((remW T P).length + 1)
    case measure => have := HM.out; have := hM3.out; omega
    case rel => exact ⟨_, P, _, H7.out, by show _ = _; rw [List.append_assoc, List.append_assoc]; exact hD2.out, HOK.out, Nat.lt_succ_self _⟩
   ·have hkb : ((pk : Int) == (mm : Int)) = false := beq_eq_false_iff_ne.2 (by omega)
    have hkl : pk < mm := by have := HK.out; have := HM2.out; omega
    have hklz : (pk : Int) < (mm : Int) := by omega
    have hkw : (pk : Int) + 1 ≤ 9223372036854775807 := by omega
    obtain ⟨y, hy⟩ : ∃ y, (nd T pj).kids[pk]? = some y := ⟨_, List.getElem?_eq_getElem (by have := HM2.out; omega)⟩
    obtain ⟨hy1, hy2⟩ := hV.out.kid pj (by have := hl.out; omega) y (List.mem_of_getElem? hy)
    obtain ⟨z, rfl⟩ : ∃ z : Nat, y = z := ⟨y.toNat, by omega⟩
    have hzj : z < pj := by omega
    have hzn : z < n := by omega
    have hzz : (z : Int) < (n : Int) := by omega
    obtain ⟨kb, ko, rfl, hkb, hkc⟩ := HK4.out (by have := HM2.out; omega)
    have y_4 := hkc pk _ hy
    obtain ⟨zf, hzf⟩ : ∃ q, (nd T z).f = q := ⟨_, rfl⟩
    obtain ⟨zt, hzt⟩ : ∃ q, (nd T z).t = q := ⟨_, rfl⟩
    have hdrop : (nd T pj).kids.drop pk = (z : Int) :: (nd T pj).kids.drop (pk + 1) := (List.drop_eq_getElem_cons (by have := HM2.out; omega)).trans (by congr 1; exact (List.getElem?_eq_some_iff.1 hy).2)
    have hbod : bodyW T pj ((nd T pj).kids.drop pk) pt = ⟨1, pj, pt, zf⟩ :: ⟨0, z, 0, 0⟩ :: (bodyW T z (nd T z).kids zf ++ bodyW T pj ((nd T pj).kids.drop (pk + 1)) zt) := by
     rw [hdrop, bodyW_cons T _ _ (by simpa using hzj), show kd T (z : Int) = nd T z from by unfold kd; simp, hzf, hzt, Int.toNat_natCast]
    have hD2 : Hid (D ++ ⟨1, pj, pt, zf⟩ :: ⟨0, z, 0, 0⟩ :: remW T (⟨z, 0, (nd T z).f⟩ :: ⟨pj, pk + 1, zt⟩ :: P) = stepsW T (T.length - 1)) := by
     have := HD.out
     rw [remW_cons] at this
     simp only at this
     rw [hbod] at this
     rw [remW_cons, remW_cons]
     simp only [List.drop_zero, hzf]
     show D ++ _ = _
     simpa using this
    have hM3 : Hid ((remW T (⟨z, 0, (nd T z).f⟩ :: ⟨pj, pk + 1, zt⟩ :: P)).length + 2 ≤ (remW T (⟨pj, pk, pt⟩ :: P)).length) := by
     show _ ≤ _
     rw [remW_cons, remW_cons, remW_cons]
     simp only [List.drop_zero, hzf]
     rw [hbod]
     simp
    have HOK2 : Hid (OkW T (⟨z, 0, (nd T z).f⟩ :: ⟨pj, pk + 1, zt⟩ :: P)) := ⟨by show z + (P.length + 1) < _; have := HX.out; omega, Nat.zero_le _, by show pj + P.length < _; have := HX.out; omega, by show pk + 1 ≤ (nd T pj).kids.length; have := HM2.out; omega, HOK.out⟩
    obtain ⟨b1, o1, eb, hb1, hget2⟩ := H4.out.nds.get (by have := hl.out; omega)
    cases eb
    obtain ⟨_, _, _, _, f1_4, _, _, _⟩ := hget2 z _ (at_nd (by have := hl.out; omega))
    rw [hzf] at f1_4
    have e0_4 := H4.out.c0.1
    rw [hS0] at e0_4
    have H5 := Lib.hid (H4.out.drew HA.out)
    have k0_5 : w4.drew.cell? ⟨gb, x * 3, none⟩ = some (.int .i64 pj) := k0_4
    have k1_5 : w4.drew.cell? ⟨gb, x * 3 + 1, none⟩ = some (.int .i64 pk) := k1_4
    have k2_5 : w4.drew.cell? ⟨gb, x * 3 + 2, none⟩ = some (.int .i64 pt) := k2_4
    have n3_5 : w4.drew.cell? ⟨N, 3, none⟩ = some (.slice (some ⟨kb, ko, none⟩) mm qq) := n3_4
    have c1_5 : w4.drew.cell? ⟨S + 1, 0, none⟩ = some (.func (.func g) #[] cb) := c1_4
    have y_5 : w4.drew.cell? ⟨kb, ko + pk, none⟩ = some (.int .i64 z) := y_4
    have e0_5 : w4.drew.cell? ⟨S, 0, none⟩ = some (.slice (some ⟨b, o, none⟩) n cap) := e0_4
    have f1_5 : w4.drew.cell? ⟨b, o + z * 4 + 1, none⟩ = some (.int .i64 zf) := f1_4
    clear H4 HK4 hget2 hkc hy hy1 hy2 hdrop hbod HD
    go_upto_region 7 with fail
    go_region
    clear k0_4 k1_4 k2_4 n2_4 n3_4 c1_4 hN4 y_4 e0_4 f1_4
    generalize w4.drew = w5 at *
    have H6 := Lib.hid (H5.out.drew HA.out)
    have k0_6 : w5.drew.cell? ⟨gb, x * 3, none⟩ = some (.int .i64 pj) := k0_5
    have k2_6 : w5.drew.cell? ⟨gb, x * 3 + 2, none⟩ = some (.int .i64 pt) := k2_5
    have c1_6 : w5.drew.cell? ⟨S + 1, 0, none⟩ = some (.func (.func g) #[] cb) := c1_5
    have e0_6 : w5.drew.cell? ⟨S, 0, none⟩ = some (.slice (some ⟨b, o, none⟩) n cap) := e0_5
    have f1_6 : w5.drew.cell? ⟨b, o + z * 4 + 1, none⟩ = some (.int .i64 zf) := f1_5
    clear H5
    go_upto_region 11 with fail
    go_region
    clear k0_5 k1_5 k2_5 n3_5 c1_5 y_5 e0_5 f1_5
    generalize w5.drew = w6 at *
    have C1 := Lib.hid ((H6.out.drew HA.out).call HA.out hD2.out)
    clear H6
    go_wp2_with fail
    go_still_tail 16, (by kernel_rfl)
    change wpList _ _ _ _ _ w6.drew
    go_wp2_with fail
    refine C1.out.mono ?_
    clear C1 k0_6 k2_6 c1_6 e0_6 f1_6
    clear w6
    rintro e w7 ⟨rfl, h7⟩
    have hxp := HX.out
    subst hxp
    obtain ⟨hg3, hg4, _, _, _, k1_7, k2_7, kf_7⟩ := h7.top
    simp only at k1_7 k2_7
    obtain ⟨b1, o1, eb, hb1, hget2⟩ := h7.nds.get (by have := hl.out; omega)
    cases eb
    obtain ⟨_, _, _, _, _, f2_7, _, _⟩ := hget2 z _ (at_nd (by have := hl.out; omega))
    rw [hzt] at f2_7
    have e0_7 := h7.c0.1
    have e0_8 : (w7.setCell ⟨gb, P.length * 3 + 1, none⟩ (.int .i64 ((pk : Int) + 1))).cell? ⟨W.heap.size, 0, none⟩ = some (.slice (some ⟨b, o, none⟩) n cap) := (World.cell?_of_block (Below.heap_setCell _ _ _ _ (by show W.heap.size ≠ gb; omega))).trans e0_7
    have f2_8 : (w7.setCell ⟨gb, P.length * 3 + 1, none⟩ (.int .i64 ((pk : Int) + 1))).cell? ⟨b, o + z * 4 + 2, none⟩ = some (.int .i64 zt) := (World.cell?_of_block (Below.heap_setCell _ _ _ _ (by show b ≠ gb; have := h7.lt; omega))).trans f2_7
    have H8 := Lib.hid (h7.past HA.out (pk + 1) ((pk : Int) + 1) zt (by omega))
    have kf1 := kf_7 (P.length * 3 + 1)
    have kf2 := kf_7 (P.length * 3 + 2)
    have C2 := Lib.hid (HE.out (D ++ [⟨1, pj, pt, zf⟩]) (remW T (⟨z, 0, (nd T z).f⟩ :: ⟨pj, pk + 1, zt⟩ :: P)) _ _ _ z H8.out (by rw [List.append_assoc]; exact hD2.out) hzn (by simp; omega))
    rw [hS0] at e0_7 e0_8
    clear h7 kf_7 hget2 hg3 H8
    go_wp2_with fail
    refine C2.out.mono ?_
    rintro e w9 ⟨rfl, v9, h9⟩
    have H9 := Lib.hid h9
    clear C2 h9
    go_wp2_with fail
    go_roundg ((remW T (⟨z, 0, (nd T z).f⟩ :: ⟨pj, pk + 1, zt⟩ :: P)).length + 1)
    case measure => have := HM.out; have := hM3.out; omega
    case rel => exact ⟨_, _, _, H9.out, by show _ = _; rw [List.append_assoc, List.append_assoc]; exact hD2.out, HOK2.out, Nat.lt_succ_self _⟩
end
end Go.Proofs.YtkgaaabecdbidaaDoor
