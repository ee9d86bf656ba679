/-
  Layer 15 (view), the program: Node, Kid, Empty.
-/
import Derived.Test.YtpjgapnihmiceaaMx04
import Derived.Test.YtpjgapnihmiceaaMx05
import Derived.Deep.RegionHeld3
import Derived.RangeFuncNested
import Derived.RangeFuncBound
import Derived.RangeFuncCalls
import Derived.RangeFuncLeaves
namespace Go.Proofs.Ytpjgapnihmiceaa
open Go.RowKit
set_option linter.unusedSimpArgs false
set_option linter.unusedVariables false
def NodeOut (x : Nd) (w : World) (e : Ending) (w' : World) : Prop := ∃ K m c, e = .returned (.agg #[.int .i64 x.k, .int .i64 x.f, .int .i64 x.t, .slice K m c]) ∧ m = x.kids.length ∧ m ≤ c ∧ c ≤ 9223372036854775807 ∧ Nums w w.heap.size K x.kids ∧ Below w.heap.size w w'
set_option maxHeartbeats 4000000 in
set_option maxRecDepth 100000 in
theorem Node_run (v : Value) (d : List Int) (L : List Tv) (T : List Nd) (n : Int) (x : Nd) (w : World) (h : FileIs w v d L T) (hx : Hid (nodeV T n = x)) :
  Calls Try.prog 23 #[v, .int .i64 n] w fun e w' => NodeOut x w e w' := by
 obtain ⟨q, hq⟩ : ∃ q, inT T n = q := ⟨_, rfl⟩
 obtain ⟨W, hW⟩ : ∃ W, w.alloc (.cells #[.int .i64 0, .int .i64 0, .int .i64 0, .slice none 0 0] 49) = W := ⟨_, rfl⟩
 have hB : Below w.heap.size w W := by rw [← hW]; exact (Below.refl _ _).alloc (Nat.le_refl _) _
 have hK := Lib.hid (known_run v d L T n q W (h.below hB) hq)
 have HB := Lib.hid hB
 unfold NodeOut
 cases q with
 | false =>
  have hx0 : x = ⟨0, 0, 0, []⟩ := by
   rw [← hx.out]
   unfold nodeV
   rw [hq]
   rfl
  subst hx0
  clear hx hq h hB
  go_enter Try.func23, Try.ntmps23
  go_wp2_with fail
  refine hK.out.mono ?_
  rintro e w1 ⟨rfl, rfl⟩
  clear hK
  subst hW
  go_wp2_with fail
  (try simp only [Exit.inBlock, Exit.then])
  refine bodyPost_ret (v := .agg #[.int .i64 0, .int .i64 0, .int .i64 0, .slice none 0 0]) (by rw [results_cell1 rfl]; go_simp; try rfl) rfl ⟨none, 0, 0, rfl, rfl, Nat.le_refl _, by omega, NumsK.nil, HB.out⟩
 | true =>
  have hin := of_decide_eq_true hq
  rcases h with ⟨rfl, rfl⟩ | ⟨b, rfl, hf⟩
  ·rw [inT_nil] at hq; cases hq
  ·have hxx : kd T n = x := by
    rw [← hx.out]
    unfold nodeV
    rw [if_pos hq]
   obtain ⟨i, rfl⟩ := Int.eq_ofNat_of_zero_le hin.1
   have hi : i < T.length := by omega
   obtain ⟨A1, n1, c1, A2, n2, c2, A, m, c, ⟨e0, e1, e2⟩, _, hs, hb, hv⟩ := hf
   have hl := hs.tree.len
   have hiz : (i : Int) < (m : Int) := by omega
   have him : i < m := by omega
   have hn40 := hs.tree.small.1
   obtain ⟨nb, no, rfl, hnb, hget⟩ := hs.tree.at_.get (by omega)
   obtain ⟨K, q, c', a0, a1, a2, a3, hm, hmc, hcc, hN⟩ := hget i _ (at_nd hi)
   have hx2 : nd T i = x := by rw [← hxx]; unfold kd; rw [Int.toNat_natCast]
   rw [hx2] at a0 a1 a2 hm hN
   have g2 := (hB.cell (p := ⟨b, 2, none⟩) hb).trans e2
   have z0 := (hB.cell (p := ⟨nb, no + i * 4, none⟩) hnb).trans a0
   have z1 := (hB.cell (p := ⟨nb, no + i * 4 + 1, none⟩) hnb).trans a1
   have z2 := (hB.cell (p := ⟨nb, no + i * 4 + 2, none⟩) hnb).trans a2
   have z3 := (hB.cell (p := ⟨nb, no + i * 4 + 3, none⟩) hnb).trans a3
   have HN := Lib.hid (And.intro hm hN)
   clear hx hxx hx2 hq hin hget hm hN hs hv hl e0 e1 e2 a0 a1 a2 a3 hB
   obtain ⟨xk, xf, xt, xl⟩ := x
   simp only [] at z0 z1 z2 z3
   go_enter Try.func23, Try.ntmps23
   go_wp2_with fail
   refine hK.out.mono ?_
   rintro e w1 ⟨rfl, rfl⟩
   clear hK
   subst hW
   go_wp2_with fail
   (try simp only [Exit.inBlock, Exit.then])
   refine bodyPost_ret (v := .agg #[.int .i64 xk, .int .i64 xf, .int .i64 xt, .slice K q c']) (by rw [results_cell1 rfl]; go_simp; try rfl) rfl ⟨K, q, c', rfl, HN.out.1, hmc, hcc, HN.out.2, ?_⟩
   exact (Below.refl _ _).alloc (Nat.le_refl _) _
theorem fieldK_nd (x y z : Int) (K : Option Addr) (q c : Nat) (w : World) : (Instr.field 49 (.agg #[.int .i64 x, .int .i64 y, .int .i64 z, .slice K q c]) 0).run Try.prog w = .ok (.int .i64 x) w := by kernel_rfl
theorem fieldC_nd (x y z : Int) (K : Option Addr) (q c : Nat) (w : World) : (Instr.field 49 (.agg #[.int .i64 x, .int .i64 y, .int .i64 z, .slice K q c]) 3).run Try.prog w = .ok (.slice K q c) w := by kernel_rfl
theorem kidV_node (T : List Nd) (n i : Int) : kidV T n i = if 0 ≤ i ∧ i < ((nodeV T n).kids.length : Int) then (nodeV T n).kids.getD i.toNat 0 else -1 := by
 unfold kidV nodeV
 by_cases h : inT T n = true
 ·rw [if_pos h]
  simp [h]
 ·rw [if_neg h, if_neg (fun e => h e.1), if_neg]
  rintro ⟨h1, h2⟩
  have : ((default : Nd).kids.length : Int) = 0 := rfl
  omega
theorem emptyV_node (T : List Nd) (n : Int) : emptyV T n = ((nodeV T n).k == 0) := by
 unfold emptyV nodeV
 by_cases h : inT T n = true
 ·rw [if_pos h, h]
  by_cases g : (kd T n).k = 0
  ·simp [g]
  ·simp [g]
 ·rw [if_neg h]
  simp at h
  rw [h]
  rfl
set_option maxHeartbeats 4000000 in
set_option maxRecDepth 100000 in
theorem Kid_run : SaysKid := by
 intro v d L T n i w h
 obtain ⟨x, hx⟩ : ∃ x, nodeV T n = x := ⟨_, rfl⟩
 have hN := Lib.hid (Node_run v d L T n x w h hx)
 unfold NodeOut at hN
 rw [kidV_node, hx]
 clear hx h
 obtain ⟨xk, xf, xt, xl⟩ := x
 simp only [] at hN ⊢
 by_cases h0 : 0 ≤ i
 ·obtain ⟨j, rfl⟩ := Int.eq_ofNat_of_zero_le h0
  by_cases h1 : j < xl.length
  ·obtain ⟨y, hy⟩ : ∃ y, xl[j]? = some y := ⟨_, List.getElem?_eq_getElem h1⟩
   rw [if_pos ⟨h0, by omega⟩, Int.toNat_natCast, List.getD_eq_getElem?_getD, hy, Option.getD_some]
   have H1 := Lib.hid h1
   have HY := Lib.hid hy
   clear h1 hy
   go_enter Try.func18, Try.ntmps18
   go_wp2_with fail
   refine hN.out.mono ?_
   rintro e w1 ⟨K, m, c, rfl, hm, hmc, hcc, hNu, hB⟩
   obtain ⟨kb, ko, rfl, hkb, hkc⟩ := (hNu.below hB (Nat.le_refl _)) (by have := H1.out; omega)
   have k0 := hkc j y HY.out
   have hjm : j < m := by have := H1.out; omega
   have hjz : decide ((m : Int) ≤ (j : Int)) = false := decide_eq_false (by omega)
   have hjn : decide (m ≤ j) = false := decide_eq_false (by omega)
   have HB := Lib.hid hB
   have hfd := fieldC_nd xk xf xt (some ⟨kb, ko, none⟩) m c w1
   clear hN hkc hNu hm hB
   go_wp2_with fail
   go_ret
   exact ⟨rfl, HB.out⟩
  ·rw [if_neg (by omega)]
   have H1 := Lib.hid h1
   clear h1
   go_enter Try.func18, Try.ntmps18
   go_wp2_with fail
   refine hN.out.mono ?_
   rintro e w1 ⟨K, m, c, rfl, hm, hmc, hcc, hNu, hB⟩
   have hjm : m ≤ j := by have := H1.out; omega
   have HB := Lib.hid hB
   have hfd := fieldC_nd xk xf xt K m c w1
   clear hN hNu hm hB
   go_wp2_with fail
   go_ret
   exact ⟨rfl, HB.out⟩
 ·rw [if_neg (fun e => h0 e.1)]
  have h9 : i < 0 := by omega
  clear h0
  go_enter Try.func18, Try.ntmps18
  go_wp2_with fail
  refine hN.out.mono ?_
  rintro e w1 ⟨K, m, c, rfl, hm, hmc, hcc, hNu, hB⟩
  have HB := Lib.hid hB
  have hfd := fieldC_nd xk xf xt K m c w1
  clear hN hNu hm hB
  go_wp2_with fail
  go_ret
  exact ⟨rfl, HB.out⟩
set_option maxHeartbeats 4000000 in
set_option maxRecDepth 100000 in
theorem Empty_run : SaysEmpty := by
 intro v d L T n w h
 obtain ⟨x, hx⟩ : ∃ x, nodeV T n = x := ⟨_, rfl⟩
 have hN := Lib.hid (Node_run v d L T n x w h hx)
 unfold NodeOut at hN
 rw [emptyV_node, hx]
 clear hx h
 obtain ⟨xk, xf, xt, xl⟩ := x
 simp only [] at hN ⊢
 obtain ⟨q, hq⟩ : ∃ q, (xk == 0) = q := ⟨_, rfl⟩
 rw [hq]
 go_enter Try.func11, Try.ntmps11
 go_wp2_with fail
 refine hN.out.mono ?_
 rintro e w1 ⟨K, m, c, rfl, hm, hmc, hcc, hNu, hB⟩
 have HB := Lib.hid hB
 have hfd := fieldK_nd xk xf xt K m c w1
 clear hN hNu hm hB
 go_wp2_with fail
 go_ret
 exact ⟨rfl, HB.out⟩
set_option maxHeartbeats 4000000 in
set_option maxRecDepth 100000 in
theorem New_run : SaysNew := by
 intro A1 n1 c1 A2 n2 c2 A n c d L T w hs hc
 obtain ⟨W, hW⟩ : ∃ W, w.alloc (.cells #[.slice A n c] 26) = W := ⟨_, rfl⟩
 have hB : Below w.heap.size w W := by rw [← hW]; exact (Below.refl _ _).alloc (Nat.le_refl _) _
 have d0 : W.cell? ⟨w.heap.size, 0, none⟩ = some (.slice A n c) := by rw [← hW]; exact World.cell?_alloc_at _ _ _ _ rfl
 have hWS : W.heap.size = w.heap.size + 1 := by rw [← hW]; simp
 have hC := Lib.hid (Check_runT A n c (n2 : Int) T W (hs.tree.below hB))
 unfold trV at hC ⊢
 obtain ⟨S, hS⟩ : ∃ S, w.heap.size = S := ⟨_, rfl⟩
 obtain ⟨p, hp⟩ : ∃ p, chkT T (n2 : Int) = p := ⟨_, rfl⟩
 rw [hp] at hC ⊢
 have HS := Lib.hid (hs.below hB)
 have HCC := Lib.hid hc
 have HB := Lib.hid hB
 have HP := Lib.hid hp
 have HW := Lib.hid hWS
 clear hs hc hB hp hWS
 rw [hS] at d0
 by_cases hk : p.1 = 0
 ·have he := trErr_zero hk
  rw [he] at hC ⊢
  rw [resOf_ok hk]
  have HV : Hid (Valid T n2) := chk_valid (by rw [HP.out]; exact hk)
  clear he hk
  go_enter Try.func6, Try.ntmps6
  go_wp2_with fail
  refine hC.out.mono ?_
  rintro e w1 ⟨rfl, hw⟩
  have d1 := (hw.cell (p := ⟨S, 0, none⟩) (by show S < _; have := HW.out; omega)).trans d0
  have HS1 := Lib.hid (HS.out.below hw)
  have HB1 : Hid (Below S w w1) := by rw [← hS]; exact HB.out.trans (hw.mono (by have := HW.out; omega))
  clear hC HS hw d0 hW
  go_wp2_with fail
  go_ret2
  refine ⟨_, rfl, .inr ⟨w1.heap.size, rfl, A1, n1, c1, A2, n2, c2, A, n, c, ⟨?_, ?_, ?_⟩, HCC.out, HS1.out.below ((Below.refl _ _).alloc (Nat.le_refl _) _), by simp, HV.out⟩, by rw [hS]; exact HB1.out.alloc (by have := HB1.out.size; omega) _⟩
  ·rw [World.cell?_alloc_at _ _ _ _ rfl]; rfl
  ·rw [World.cell?_alloc_at _ _ _ _ rfl]; rfl
  ·rw [World.cell?_alloc_at _ _ _ _ rfl]; rfl
 ·obtain ⟨te, ve, he⟩ := trErr_some hk
  rw [he] at hC ⊢
  rw [resOf_bad hk]
  clear he hk
  go_enter Try.func6, Try.ntmps6
  go_wp2_with fail
  refine hC.out.mono ?_
  rintro e w1 ⟨rfl, hw⟩
  have HB1 : Hid (Below S w w1) := by rw [← hS]; exact HB.out.trans (hw.mono (by have := HW.out; omega))
  clear hC HS hw d0 hW
  go_wp2_with fail
  go_ret2
  exact ⟨_, rfl, .inl ⟨rfl, rfl⟩, by rw [hS]; exact HB1.out⟩
end Go.Proofs.Ytpjgapnihmiceaa
namespace Go.Proofs.Ytpjgapnihmiceaa
open Go.RowKit
set_option linter.unusedSimpArgs false
set_option linter.unusedVariables false
theorem node_at {w : World} {b : Nat} {d : List Int} {L : List Tv} {T : List Nd} (h : FileAt w b d L T) {n : Int} (hq : inT T n = true) :
  ∃ (i : Nat) (x : Nd) (nb no m c : Nat) (A2 : Option Addr) (n2 c2 : Nat) (K : Option Addr) (q c' F E : Nat), n = (i : Int) ∧ i < m ∧ m ≤ 40 ∧ kd T n = x ∧ nb < w.heap.size ∧ b < w.heap.size ∧ x.f = (F : Int) ∧ x.t = (E : Int) ∧ F ≤ E ∧ E ≤ n2 ∧ n2 ≤ c2 ∧ c2 ≤ 9223372036854775807 ∧ n2 ≤ 60 ∧ L.length = n2 ∧ CellsV tvCells w w.heap.size A2 L ∧
   w.cell? ⟨b, 2, none⟩ = some (.slice (some ⟨nb, no, none⟩) m c) ∧ w.cell? ⟨b, 1, none⟩ = some (.slice A2 n2 c2) ∧
   (w.cell? ⟨nb, no + i * 4, none⟩ = some (.int .i64 x.k) ∧ w.cell? ⟨nb, no + i * 4 + 1, none⟩ = some (.int .i64 x.f) ∧ w.cell? ⟨nb, no + i * 4 + 2, none⟩ = some (.int .i64 x.t) ∧ w.cell? ⟨nb, no + i * 4 + 3, none⟩ = some (.slice K q c')) ∧
   q = x.kids.length ∧ q ≤ c' ∧ c' ≤ 9223372036854775807 ∧ Nums w w.heap.size K x.kids ∧ Valid T n2 := by
 have hin := of_decide_eq_true hq
 obtain ⟨A1, n1, c1, A2, n2, c2, A, m, c, ⟨e0, e1, e2⟩, hcs, hs, hb, hv⟩ := h
 have hl := hs.tree.len
 obtain ⟨i, rfl⟩ := Int.eq_ofNat_of_zero_le hin.1
 have hi : i < T.length := by omega
 have h40 := hs.tree.small.1
 obtain ⟨nb, no, rfl, hnb, hget⟩ := hs.tree.at_.get (by omega)
 obtain ⟨K, q, c', a0, a1, a2, a3, hm, hmc, hcc, hN⟩ := hget i _ (at_nd hi)
 obtain ⟨_, _, v3, v4, v5⟩ := hv.num i hi
 obtain ⟨F, hF⟩ := Int.eq_ofNat_of_zero_le v3
 obtain ⟨E, hE⟩ : ∃ E : Nat, (nd T i).t = (E : Int) := ⟨(nd T i).t.toNat, by omega⟩
 refine ⟨i, nd T i, nb, no, m, c, A2, n2, c2, K, q, c', F, E, rfl, by omega, by omega, ?_, hnb, hb, hF, hE, by omega, by omega, hs.ct, hcs.2.1, hs.st, hs.lt, hs.tok, e2, e1, ⟨a0, a1, a2, a3⟩, hm, hmc, hcc, hN, hv⟩
 unfold kd
 rw [Int.toNat_natCast]
set_option maxHeartbeats 2000000 in
set_option maxRecDepth 100000 in
theorem Span_run : SaysSpan := by
 intro v d L T n w h
 obtain ⟨q, hq⟩ : ∃ q, inT T n = q := ⟨_, rfl⟩
 obtain ⟨W, hW⟩ : ∃ W, w.alloc (.cells #[.int .i64 0, .int .i64 0] 37) = W := ⟨_, rfl⟩
 have hB : Below w.heap.size w W := by rw [← hW]; exact (Below.refl _ _).alloc (Nat.le_refl _) _
 have hK := Lib.hid (known_run v d L T n q W (h.below hB) hq)
 have HB := Lib.hid hB
 obtain ⟨z1, hz1⟩ : ∃ z, (spanV L T n).1 = z := ⟨_, rfl⟩
 obtain ⟨z2, hz2⟩ : ∃ z, (spanV L T n).2 = z := ⟨_, rfl⟩
 rw [hz1, hz2]
 cases q with
 | false =>
  have hs0 : spanV L T n = (0, 0) := by
   unfold spanV
   rw [if_neg (fun e => by rw [hq] at e; cases e.1)]
  rw [hs0] at hz1 hz2
  subst hz1 hz2
  simp only []
  clear hq h hB hs0
  go_enter Try.func9, Try.ntmps9
  go_wp2_with fail
  refine hK.out.mono ?_
  rintro e w1 ⟨rfl, rfl⟩
  clear hK
  subst hW
  go_wp2_with fail
  (try simp only [Exit.inBlock, Exit.then])
  refine bodyPost_ret (v := .agg #[.int .i64 0, .int .i64 0]) (by rw [results_cell1 rfl]; go_simp; try rfl) rfl ⟨rfl, HB.out⟩
 | true =>
  rcases h with ⟨rfl, rfl⟩ | ⟨b, rfl, hf⟩
  ·rw [inT_nil] at hq; cases hq
  ·obtain ⟨i, ⟨xk, xf, xt, xl⟩, nb, no, m, c, A2, n2, c2, K, q, c', F, E, rfl, him, hm40, hx, hnb, hb, hF, hE, hFE, hEn, hnc, hcc2, hn60, hLn, htok, e2, e1, ⟨a0, a1, a2, a3⟩, hql, hqc, hqm, hN, hv⟩ := node_at (hf.below hB) hq
   simp only [] at hF hE a0 a1 a2
   subst hF hE
   have hlt : w.heap.size < W.heap.size := by rw [← hW]; simp
   have r0 : W.cell? ⟨w.heap.size, 0, none⟩ = some (.int .i64 0) := by rw [← hW]; exact World.cell?_alloc_at _ _ _ _ rfl
   have r1 : W.cell? ⟨w.heap.size, 1, none⟩ = some (.int .i64 0) := by rw [← hW]; exact World.cell?_alloc_at _ _ _ _ rfl
   have f0 : W.frozen? ⟨w.heap.size, 0, none⟩ = false := by rw [← hW]; exact World.frozen?_alloc_at _ _ _ _ rfl
   have f1 : W.frozen? ⟨w.heap.size, 1, none⟩ = false := by rw [← hW]; exact World.frozen?_alloc_at _ _ _ _ rfl
   have hR := Lib.hid (reach_run b d L T xk (F : Int) (E : Int) K q c' W (hf.below hB) (by omega) (by omega) (by omega))
   have HF := Lib.hid (hf.below hB)
   have HZ : Hid (z1 = (if 0 < L.length then if F < E then (tokV L (F : Int)).f else placeV L (F : Int) else 0) ∧ z2 = (if 0 < L.length then if F < E then (tokV L ((E : Int) - 1)).t else placeV L (F : Int) else 0)) := by
    show _ ∧ _
    rw [← hz1, ← hz2]
    unfold spanV
    rw [hx, hq]
    by_cases h1 : 0 < L.length
    ·by_cases h2 : F < E
     ·simp [h1, h2]
     ·simp [h1, h2]
    ·simp [h1]
   have HT := Lib.hid htok
   have HL := Lib.hid hLn
   have him2 : (i : Int) < (m : Int) := by omega
   clear hql hqc hqm hq hx hz1 hz2 hN hv htok hLn hf hB
   obtain ⟨S, hS⟩ : ∃ S, w.heap.size = S := ⟨_, rfl⟩
   rw [hS] at r0 r1 f0 f1 hlt
   go_enter Try.func9, Try.ntmps9
   go_wp2_with fail
   refine hK.out.mono ?_
   rintro e w1 ⟨rfl, rfl⟩
   clear hK
   go_wp2_with fail
   refine hR.out.mono ?_
   rintro e w2 ⟨rfl, hw2, _⟩
   have g0 := (hw2.cell (p := ⟨S, 0, none⟩) hlt).trans r0
   have g1 := (hw2.cell (p := ⟨S, 1, none⟩) hlt).trans r1
   have k0 := (hw2.frozen (p := ⟨S, 0, none⟩) hlt).trans f0
   have k1 := (hw2.frozen (p := ⟨S, 1, none⟩) hlt).trans f1
   have y1 := (hw2.cell (p := ⟨b, 1, none⟩) hb).trans e1
   have HB2 : Hid (Below S w w2) := by show Below _ _ _; rw [← hS]; exact HB.out.trans (hw2.mono (by omega))
   have HF2 := Lib.hid (HF.out.below hw2)
   have HT2 := Lib.hid ((HT.out.below hw2 (Nat.le_refl _)).more hw2.size)
   clear hR HF HT HB hW hw2 r0 r1 f0 f1 e1 e2 a0 a1 a2 a3
   by_cases hFe : F = E
   ·subst hFe
    have hP := Lib.hid (place_run b d L T F z1 w2 HF2.out (by rw [HL.out]; omega) (by show _ = _; rw [HZ.out.1]; simp))
    have hzz : z2 = z1 := by rw [HZ.out.1, HZ.out.2]; simp
    subst hzz
    clear HZ HT2 HF2
    go_wp2_with fail
    refine hP.out.mono ?_
    rintro e w3 ⟨rfl, rfl⟩
    clear hP
    go_wp2_with fail
    (try simp only [Exit.inBlock, Exit.then])
    refine bodyPost_ret (v := .agg #[.int .i64 z2, .int .i64 z2]) (by rw [results_cell1 rfl]; go_simp; try rfl) rfl ⟨rfl, ?_⟩
    rw [hS]
    exact (HB2.out.setCell (p := ⟨S, 0, none⟩) (Nat.le_refl _) _).setCell (p := ⟨S, 1, none⟩) (Nat.le_refl _) _
   ·have hlt2 : F < E := by omega
    have hFb : ((F : Int) == (E : Int)) = false := by simp; omega
    obtain ⟨P, rfl⟩ : ∃ P, E = P + 1 := ⟨E - 1, by omega⟩
    obtain ⟨tb, tof, rfl, htb, t0, t1, t2, t3, t4⟩ := tv_get HT2.out (at_tok (i := F) (by rw [HL.out]; omega))
    obtain ⟨tb', tof', ep, _, u0, u1, u2, u3, u4⟩ := tv_get HT2.out (at_tok (i := P) (by rw [HL.out]; omega))
    cases ep
    have h1z : z1 = (tokV L (F : Int)).f := by rw [HZ.out.1, HL.out, if_pos (by omega), if_pos (by omega)]
    have h2z : z2 = (tokV L (P : Int)).t := by rw [HZ.out.2, HL.out, if_pos (by omega), if_pos (by omega), show (((P + 1 : Nat) : Int) - 1) = (P : Int) by omega]
    rw [← h1z] at t1
    rw [← h2z] at u2
    obtain ⟨E, hE⟩ : ∃ E, P + 1 = E := ⟨_, rfl⟩
    rw [hE] at hEn hFb hFE
    have hwr : IntKind.i64.wrap ((E : Int) - 1) = (P : Int) := by rw [IntKind.wrap_i64]; omega
    have hPn : P < n2 := by omega
    have hFn : F < n2 := by omega
    clear HZ HT2 HF2 t0 t2 t3 t4 u0 u1 u3 u4 h1z h2z
    rw [hE]
    clear hE hFe hlt2
    go_wp2_with fail
    go_region
    go_wp2_with fail
    (try simp only [Exit.inBlock, Exit.then])
    refine bodyPost_ret (v := .agg #[.int .i64 z1, .int .i64 z2]) (by rw [results_cell1 rfl]; go_simp; try rfl) rfl ⟨rfl, ?_⟩
    rw [hS]
    exact ((HB2.out.setCell (p := ⟨S, 0, none⟩) (Nat.le_refl _) _).setCell (p := ⟨S, 1, none⟩) (Nat.le_refl _) _).drew
set_option maxHeartbeats 2000000 in
set_option maxRecDepth 100000 in
theorem sText_run (A1 : Option Addr) (n1 c1 : Nat) (d : List Int) (x : Tv) (v : ByteArray) (w : World) (hb : Byts w w.heap.size A1 d) (hd : Hid (d.length = n1)) (hc : n1 ≤ c1) (h300 : n1 ≤ 300) (hv : Hid (cutV d x = v)) :
  Calls Try.prog 40 #[.slice A1 n1 c1, .agg #[.int .i64 x.k, .int .i64 x.f, .int .i64 x.t, .bool x.a, .int .i64 x.e]] w fun e w' => e = .returned (.string v) ∧ Below w.heap.size w w' := by
 obtain ⟨W, hW, hB, hWS, d0, d1, d2, d3, d4⟩ := tv_box w x 46
 have HBy : Hid (Byts W W.heap.size A1 d) := hb.on (Nat.le_refl _) hB
 have HB := Lib.hid hB
 have HV : Hid (v = if x.f < 0 ∨ x.f > x.t ∨ x.t > (n1 : Int) then ⟨#[]⟩ else strOf ((d.drop x.f.toNat).take (x.t.toNat - x.f.toNat))) := by
  show _ = _
  rw [← hv.out, ← hd.out]
  rfl
 have HD := Lib.hid hd.out
 clear hb hB hv hd
 obtain ⟨xk, xf, xt, xa, xe⟩ := x
 simp only [] at HV d0 d1 d2 d3 d4 hW ⊢
 by_cases hbad : xf < 0 ∨ xf > xt ∨ xt > (n1 : Int)
 ·obtain rfl : v = ⟨#[]⟩ := by rw [HV.out, if_pos hbad]
  have hcs : decide (xf < 0) = true ∨ (decide (xf < 0) = false ∧ decide (xt < xf) = true) ∨ (decide (xf < 0) = false ∧ decide (xt < xf) = false ∧ decide ((n1 : Int) < xt) = true) := by
   simp only [decide_eq_true_eq, decide_eq_false_iff_not]
   omega
  clear hbad HV
  rcases hcs with y1 | ⟨y1, y2⟩ | ⟨y1, y2, y3⟩
  all_goals
   go_enter Try.func40, Try.ntmps40
   go_wp2_with fail
   go_ret
   exact ⟨rfl, HB.out⟩
 ·obtain ⟨F, rfl⟩ : ∃ F : Nat, xf = (F : Int) := ⟨xf.toNat, by omega⟩
  obtain ⟨t, rfl⟩ : ∃ t : Nat, xt = (t : Int) := ⟨xt.toNat, by omega⟩
  have hx : v = strOf ((d.drop F).take (t - F)) := by rw [HV.out, if_neg hbad, Int.toNat_natCast, Int.toNat_natCast]
  have b2 : decide (t < F) = false := decide_eq_false (by omega)
  have b3 : decide (n1 < t) = false := decide_eq_false (by omega)
  have b0 : decide ((F : Int) < 0) = false := decide_eq_false (by omega)
  have h4 : F ≤ t := by omega
  have h5 : t ≤ n1 := by omega
  have h6 : t ≤ c1 := by omega
  have hF9 : F ≤ 900 := by omega
  have hT9 : t ≤ 900 := by omega
  clear hbad HV
  by_cases hce : c1 = F
  ·subst hce
   have hT : t = c1 := by omega
   subst hT
   obtain rfl : v = ⟨#[]⟩ := by rw [hx, Nat.sub_self, List.take_zero]; rfl
   have hcv := conv_nil (V := W) (A := A1)
   clear hx
   go_enter Try.func40, Try.ntmps40
   go_wp2_with fail
   go_ret
   exact ⟨rfl, HB.out⟩
  ·have hcv := conv_int (cap := c1) HBy.out HD.out (e := F) (k := t - F) (by omega) (by omega)
   rw [← hx] at hcv
   clear hx
   go_enter Try.func40, Try.ntmps40
   go_wp2_with fail
   go_ret
   exact ⟨rfl, HB.out⟩
set_option maxHeartbeats 2000000 in
set_option maxRecDepth 100000 in
theorem Word_run : SaysWord := by
 intro v d L T n w h
 obtain ⟨x, hx⟩ : ∃ x, nodeV T n = x := ⟨_, rfl⟩
 have hN := Lib.hid (Node_run v d L T n x w h hx)
 unfold NodeOut at hN
 obtain ⟨z, hz⟩ : ∃ z, wordV d L T n = z := ⟨_, rfl⟩
 rw [hz]
 have HZ : Hid (z = if inT T n = true ∧ (x.k = 2 ∨ x.k = 3) ∧ x.f ≠ x.t then cutV d (tokV L x.f) else ⟨#[]⟩) := by
  show _ = _
  rw [← hz, ← hx]
  unfold wordV nodeV
  by_cases g : inT T n = true
  ·simp [g]
  ·simp [g]
 have HF := Lib.hid h
 have HX := Lib.hid hx
 clear hz h hx
 obtain ⟨xk, xf, xt, xl⟩ := x
 simp only [] at HZ hN
 by_cases hk : xk = 2 ∨ xk = 3
 ·have hq : inT T n = true := by
   cases hq : inT T n with
   | true => rfl
   | false =>
    have := HX.out
    unfold nodeV at this
    rw [hq] at this
    cases this
    rcases hk with h | h <;> cases h
  rcases HF.out with ⟨rfl, rfl⟩ | ⟨b, rfl, hf⟩
  ·rw [inT_nil] at hq; cases hq
  ·obtain ⟨i, ⟨yk, yf, yt, yl⟩, nb, no, m, c, A2, n2, c2, K, q, c', F, E, rfl, him, hm40, hx, hnb, hb, hFF, hE, hFE, hEn, hnc, hcc2, hn60, hLn, htok, e2, e1, ⟨a0, a1, a2, a3⟩, hql, hqc, hqm, hN', hv⟩ := node_at hf hq
   have he : (⟨yk, yf, yt, yl⟩ : Nd) = ⟨xk, xf, xt, xl⟩ := by rw [← hx, ← HX.out]; unfold nodeV; rw [if_pos hq]
   cases he
   simp only [] at hFF hE
   subst hFF hE
   rw [hq] at HZ
   clear hql hqc hqm hN' hv hx e2 a0 a1 a2 a3 hq HX him hm40 hnb htok e1
   have hf0 := Lib.hid hf
   clear HF hf
   go_enter Try.func29, Try.ntmps29
   go_wp2_with fail
   refine hN.out.mono ?_
   rintro e w1 ⟨K1, m1, c1', rfl, hm1, hmc1, hcc1, hN1, hB1⟩
   obtain ⟨W, hW, hB2, hWS, d0, d1, d2, d3⟩ := nd_box w1 xk (F : Int) (E : Int) K1 m1 c1' 49
   have hf2 := (hf0.out.below hB1).below hB2
   have HB2 : Hid (Below w.heap.size w W) := hB1.trans (hB2.mono hB1.size)
   have hR := Lib.hid (reach_run b d L T xk (F : Int) (E : Int) K1 m1 c1' W hf2 (by omega) (by omega) (by omega))
   have HF2 := Lib.hid hf2
   have HL := Lib.hid hLn
   clear hN hm1 hN1 hB1 hB2 hf0 hf2 hLn
   obtain ⟨S, hS⟩ : ∃ S, w1.heap.size = S := ⟨_, rfl⟩
   rw [hS] at d0 d1 d2 d3 hWS
   by_cases hFe : F = E
   ·subst hFe
    obtain rfl : z = ⟨#[]⟩ := by rw [HZ.out, if_neg (fun e => e.2.2 rfl)]
    clear HZ
    rcases hk with rfl | rfl
    all_goals
     go_wp2_with fail
     refine hR.out.mono ?_
     rintro e w2 ⟨rfl, hw2, _⟩
     have HB3 : Hid (Below w.heap.size w w2) := HB2.out.trans (hw2.mono HB2.out.size)
     clear hR hw2
     go_wp2_with fail
     go_ret
     exact ⟨rfl, HB3.out⟩
   ·have hFb : ((F : Int) == (E : Int)) = false := by simp; omega
    obtain ⟨y, hy⟩ : ∃ y, tokV L (F : Int) = y := ⟨_, rfl⟩
    have HZ2 : Hid (cutV d y = z) := by show _ = _; rw [HZ.out, if_pos ⟨by trivial, hk, by omega⟩, hy]
    have hFn : F < n2 := by omega
    have HY := Lib.hid hy
    have HFE := Lib.hid hFE
    clear HZ hFe hy hFE
    rcases hk with rfl | rfl
    all_goals
     go_wp2_with fail
     refine hR.out.mono ?_
     rintro e w2 ⟨rfl, hw2, _⟩
     have HB3 : Hid (Below w.heap.size w w2) := HB2.out.trans (hw2.mono HB2.out.size)
     have hf3 := HF2.out.below hw2
     obtain ⟨A1, p1, q1, A2', p2, q2, A, p, q, ⟨e0, e1, e2⟩, hcs, hs, hb3, hv⟩ := hf3
     have hp2 : p2 = n2 := by rw [← hs.lt, HL.out]
     subst hp2
     obtain ⟨tb, tof, rfl, htb, t0, t1, t2, t3, t4⟩ := tv_get hs.tok (at_tok (i := F) (by have := HL.out; omega))
     rw [HY.out] at t0 t1 t2 t3 t4
     have HTX := Lib.hid (fun V (hV : Below w2.heap.size w2 V) => sText_run A1 p1 q1 d y z V (hs.byt.on (Nat.le_refl _) hV) hs.lb hs.cb hs.sb HZ2.out)
     obtain ⟨yk, yf, yt, ya, ye⟩ := y
     simp only [] at t0 t1 t2 t3 t4 HTX
     clear hR hw2 hs hv HZ2 HY hS hW d0 d1 d2 d3
     have DD : Hid (w2.cell? ⟨b, 0, none⟩ = some (.slice A1 p1 q1) ∧ w2.cell? ⟨b, 1, none⟩ = some (.slice (some ⟨tb, tof, none⟩) p2 q2) ∧ w2.cell? ⟨tb, tof + F * 5, none⟩ = some (.int .i64 yk) ∧ w2.cell? ⟨tb, tof + F * 5 + 1, none⟩ = some (.int .i64 yf) ∧ w2.cell? ⟨tb, tof + F * 5 + 2, none⟩ = some (.int .i64 yt) ∧ w2.cell? ⟨tb, tof + F * 5 + 3, none⟩ = some (.bool ya) ∧ w2.cell? ⟨tb, tof + F * 5 + 4, none⟩ = some (.int .i64 ye)) := ⟨e0, e1, t0, t1, t2, t3, t4⟩
     have D9 : Hid (∀ V, Below w2.drew.heap.size w2.drew V → Hid (V.cell? ⟨b, 0, none⟩ = some (.slice A1 p1 q1) ∧ V.cell? ⟨b, 1, none⟩ = some (.slice (some ⟨tb, tof, none⟩) p2 q2) ∧ V.cell? ⟨tb, tof + F * 5, none⟩ = some (.int .i64 yk) ∧ V.cell? ⟨tb, tof + F * 5 + 1, none⟩ = some (.int .i64 yf) ∧ V.cell? ⟨tb, tof + F * 5 + 2, none⟩ = some (.int .i64 yt) ∧ V.cell? ⟨tb, tof + F * 5 + 3, none⟩ = some (.bool ya) ∧ V.cell? ⟨tb, tof + F * 5 + 4, none⟩ = some (.int .i64 ye))) := fun V hV => ⟨(hV.cell (p := ⟨b, 0, none⟩) hb3).trans e0, (hV.cell (p := ⟨b, 1, none⟩) hb3).trans e1, (hV.cell (p := ⟨tb, tof + F * 5, none⟩) htb).trans t0, (hV.cell (p := ⟨tb, tof + F * 5 + 1, none⟩) htb).trans t1, (hV.cell (p := ⟨tb, tof + F * 5 + 2, none⟩) htb).trans t2, (hV.cell (p := ⟨tb, tof + F * 5 + 3, none⟩) htb).trans t3, (hV.cell (p := ⟨tb, tof + F * 5 + 4, none⟩) htb).trans t4⟩
     go_wp2_with fail
     go_region_held3 (fun V => V.cell? ⟨b, 0, none⟩ = some (.slice A1 p1 q1) ∧ V.cell? ⟨b, 1, none⟩ = some (.slice (some ⟨tb, tof, none⟩) p2 q2) ∧ V.cell? ⟨tb, tof + F * 5, none⟩ = some (.int .i64 yk) ∧ V.cell? ⟨tb, tof + F * 5 + 1, none⟩ = some (.int .i64 yf) ∧ V.cell? ⟨tb, tof + F * 5 + 2, none⟩ = some (.int .i64 yt) ∧ V.cell? ⟨tb, tof + F * 5 + 3, none⟩ = some (.bool ya) ∧ V.cell? ⟨tb, tof + F * 5 + 4, none⟩ = some (.int .i64 ye)) (first | exact DD.out | exact D1.out | go_keep)
      (first | (go_at_call 40; refine (HTX.out _ ((Below.refl _ w2).drew)).mono ?_; rintro e w3 ⟨rfl, hw3⟩; have D1 := D9.out w3 hw3; have B3 : Hid (Below w.heap.size w w3) := (HB3.out.drew).trans (hw3.mono HB3.out.size); clear hw3) | fail)
     all_goals
      go_wp2_with fail
      go_ret
      exact ⟨rfl, B3.out⟩
 ·obtain rfl : z = ⟨#[]⟩ := by rw [HZ.out, if_neg (fun e => hk e.2.1)]
  have g1 : ¬ xk = 2 := fun e => hk (.inl e)
  have g2 : ¬ xk = 3 := fun e => hk (.inr e)
  have g3 : (xk != 2) = true := by simp; omega
  have g4 : (xk != 3) = true := by simp; omega
  clear HZ hk HX HF
  go_enter Try.func29, Try.ntmps29
  go_wp2_with fail
  refine hN.out.mono ?_
  rintro e w1 ⟨K1, m1, c1', rfl, hm1, hmc1, hcc1, hN1, hB1⟩
  obtain ⟨W, hW, hB2, hWS, d0, d1, d2, d3⟩ := nd_box w1 xk xf xt K1 m1 c1' 49
  have HB2 : Hid (Below w.heap.size w W) := hB1.trans (hB2.mono hB1.size)
  clear hN hm1 hN1 hB1 hB2
  go_wp2_with fail
  go_ret
  exact ⟨rfl, HB2.out⟩
end Go.Proofs.Ytpjgapnihmiceaa
namespace Go.Proofs.Ytpjgapnihmiceaa
open Go.RowKit
def Bides {β : Type} (bs : List Nat) (J : β → World → Prop) : Prop := ∀ s A B, J s A → But A B bs → J s B
theorem Bides.more {β : Type} {bs cs : List Nat} {J : β → World → Prop} (h : Bides bs J) (hs : ∀ b ∈ cs, b ∈ bs) : Bides cs J := fun s A B hj k => h s A B hj (k.more hs)
def SeqB {α : Type} (m : Nat) (P : Program) (g : Nat) (lb : Array Value) (encs : α → Array Value) (S : Nat) (bs : List Nat) (xs : List α) (W : World) : Prop :=
 ∀ (l : Nat) (J Jx : List α → World → Prop), Bides bs J → Bides bs Jx →
  (∀ pre x W1, J pre W1 → pre ++ [x] <+: xs → (∀ b ∈ bs, b < W1.heap.size) → YieldAt Fence.wide (m - 1) P l (encs x) W1 fun e W' =>
   (e = .returned (.bool true) ∧ J (pre ++ [x]) W' ∧ Apart S bs W1 W') ∨ (e = .returned (.bool false) ∧ Jx (pre ++ [x]) W')) → J [] W →
  CallsIn Fence.wide m P g (#[.func (.yield l) #[] #[]] ++ lb) W fun e W' => (∃ v, e = .returned v) ∧ (J xs W' ∨ ∃ pre, pre <+: xs ∧ Jx pre W')
def roundB {α : Type} (S : Nat) (cs : List Nat) (I : List α → World → Prop) (Ix : Code → List α → World → Prop) (s : List α) (W : World) : Exit → Act → World → Prop
 | .normal, _, W' => Apart S cs W W' ∧ I s W'
 | .ret, _, W' => Apart 0 cs W W' ∧ Ix .ret s W'
 | .exit id, _, W' => Apart 0 cs W W' ∧ Ix (.exit id) s W'
 | .goto t, _, W' => Apart 0 cs W W' ∧ Ix (.goto t) s W'
 | .panic _, _, _ => False
 | .outgrown, _, _ => False
theorem but_put (W : World) (l : Nat) (o : Obj) : But W (W.putObj l o) [l] :=
 ⟨rfl, rfl, rfl, by simp, fun k _ hk => World.putObj_heap_other (fun e => hk (by simp [e]))⟩
theorem Apart.trans {S : Nat} {bs : List Nat} {a b c : World} (h : Apart S bs a b) (k : Apart S bs b c) : Apart S bs a c :=
 ⟨k.os.trans h.os, k.tape.trans h.tape, k.output.trans h.output, Nat.le_trans h.size k.size, fun i hi hb => (k.block i (Nat.lt_of_lt_of_le hi h.size) hb).trans (h.block i hi hb)⟩
theorem Apart.less {S : Nat} {bs cs : List Nat} {a b : World} (h : Apart S cs a b) (hs : ∀ x ∈ bs, x ∈ cs) : Apart S bs a b := ⟨h.os, h.tape, h.output, h.size, fun i hi hb => h.block i hi (hb.imp (hs i) id)⟩
theorem Apart.of_but {S : Nat} {bs cs : List Nat} {a b : World} (h : But a b cs) (hd : ∀ x ∈ cs, x ∉ bs ∧ S ≤ x) : Apart S bs a b :=
 ⟨h.os, h.tape, h.output, h.size, fun i hi hb => h.block i hi fun hc => by
  have := hd i hc
  rcases hb with hb | hb
  ·exact this.1 hb
  ·omega⟩
theorem yield_any {m : Nat} (k : Nat) {P : Program} {l : Nat} {args : Array Value} {W : World} {R : Ending → World → Prop} (h : YieldAt Fence.wide m P l args W R) : YieldAt Fence.wide k P l args W R := by
 obtain ⟨fn, tmps, assign, body, hy, hR⟩ := h
 exact ⟨fn, tmps, assign, body, hy, hR.1, fun c cs _ => hR.2 c cs (room_wide _)⟩
theorem wpIn_rangeB {α : Type} {P : Program} {m : Nat} {g : Operand} {ps : Array Tmp} {assign body : Code} {Q : Exit → Act → World → Prop} {a : Act} {w : World} {gf : Nat} {lb : Array Value}
  (hg : a.eval g = .func (.func gf) #[] lb) (eg : ∀ args w, (callFunc gf args).run P w = .ok (.enter gf args) w) (S : Nat) (hS : S ≤ w.heap.size) (bs : List Nat) (hbs : ∀ b ∈ bs, w.heap.size + 2 ≤ b) {encs : α → Array Value} {xs : List α}
  (hseq : ∀ W1, Below w.heap.size w W1 → W1.heap.size = w.heap.size + 2 → SeqB (m - 1) P gf lb encs S bs xs W1) (hps : ∀ x, (encs x).size = ps.size)
  (I : List α → World → Prop) (Ix : Code → List α → World → Prop) (hI : Bides (w.heap.size :: (w.heap.size + 1) :: bs) I) (hIx : ∀ c, Bides (w.heap.size :: (w.heap.size + 1) :: bs) (Ix c)) (h0 : I [] w) (a₁ : α → Act)
  (hassign : ∀ (l : Nat) (x : α) (W : World) (K : Act → World → Prop), K (a₁ x) W →
   assign.wpIn (Fence.wide.inRound l) (m - 1 - 1) P (Exit.then K (fun _ _ _ => False)) { tmps := (ps.zip (encs x)).foldl (fun t (p, v) => t.setIfInBounds p v) a.tmps, defers := [] } W)
  (hbody : ∀ (l : Nat) (pre : List α) (x : α) (W : World), I pre W → pre ++ [x] <+: xs → (w.heap.size + 1 < W.heap.size ∧ ∀ b ∈ bs, b < W.heap.size) → body.wpIn (Fence.wide.inRound l) (m - 1 - 1) P (roundB S (w.heap.size :: (w.heap.size + 1) :: bs) I Ix (pre ++ [x]) W) (a₁ x) W)
  (hdone : ∀ (D : Nat) (W : World), w.heap.size ≤ D → I xs W → W.heap[D]? = some (.deferred (some [])) → Q .normal { a with defers := { target := .collected D, args := #[] } :: a.defers } W)
  (hstop : ∀ (D : Nat) (c : Code) (pre : List α) (W : World), w.heap.size ≤ D → pre <+: xs → Ix c pre W → W.heap[D]? = some (.deferred (some [])) → c.wpIn Fence.wide m P Q { a with defers := { target := .collected D, args := #[] } :: a.defers } W) :
  (Code.rangeFunc g ps assign body).wpIn Fence.wide m P Q a w := by
 refine wpIn_rangeFunc fun fn hfn => ?_
 have hro : Fence.wide.round = none := rfl
 rw [hro]
 have hne : ∀ b ∈ bs, b ≠ w.heap.size ∧ b ≠ w.heap.size + 1 := fun b hb => by have := hbs b hb; omega
 obtain ⟨R, hR⟩ : ∃ R : LoopState → Option Code → Loop, R = fun st pe => { state := st, pending := pe, fn, tmps := a.tmps, params := ps, assign, body, defers := w.heap.size } := ⟨_, rfl⟩
 have hRs : ∀ st pe st' pe', ({ R st pe with state := st', pending := pe' } : Loop) = R st' pe' := fun _ _ _ _ => by rw [hR]
 obtain ⟨W1, hW1⟩ : ∃ W1, (w.alloc (.deferred (some []))).alloc (.loop (R .ready none)) = W1 := ⟨_, rfl⟩
 have k1 : W1.heap[w.heap.size + 1]? = some (.loop (R .ready none)) := by
  have := World.alloc_heap_new (w.alloc (.deferred (some []))) (.loop (R .ready none))
  rw [← hW1]; rwa [World.size_alloc] at this
 have k0 : W1.heap[w.heap.size]? = some (.deferred (some [])) := by
  rw [← hW1]; exact (Below.heap_alloc _ _ _ (by simp)).trans (World.alloc_heap_new w _)
 have kB : Below w.heap.size w W1 := by rw [← hW1]; exact ((Below.refl _ w).alloc (Nat.le_refl _) _).alloc (by simp) _
 have kS : W1.heap.size = w.heap.size + 2 := by rw [← hW1]; simp
 have hkeep : ∀ {A B : World} {k : Nat} {o : Obj}, But A B bs → k = w.heap.size ∨ k = w.heap.size + 1 → A.heap[k]? = some o → B.heap[k]? = some o := fun hb hk ho =>
  (hb.block _ (Array.getElem?_eq_some_iff.1 ho).1 (fun hm => by have := hbs _ hm; omega)).trans ho
 have hput : ∀ {s : List α} {A : World} (o : Obj), I s A → I s (A.putObj (w.heap.size + 1) o) := fun o hi => hI _ _ _ hi ((but_put _ _ o).more (by simp))
 have hputx : ∀ {c : Code} {s : List α} {A : World} (o : Obj), Ix c s A → Ix c s (A.putObj (w.heap.size + 1) o) := fun o hi => hIx _ _ _ _ hi ((but_put _ _ o).more (by simp))
 refine ⟨w.heap.size + 1, [{ target := .collected w.heap.size, args := #[] }], W1, { target := .fn (.func gf) lb, args := #[.func (.yield (w.heap.size + 1)) #[] #[]] }, W1, gf,
  #[.func (.yield (w.heap.size + 1)) #[] #[]] ++ lb, W1, ?_, ?_, fun _ _ => trivial, ?_, fun h => by simp [Fence.wide] at h, ?_⟩
 ·rw [← hW1, hR]; exact run_enterLoop_outer _ _ _ _ _
 ·simp only [resolve, hg]
  simp [go_sem]
 ·simp [invoke, go_sem, eg]
 ·refine (hseq W1 kB kS (w.heap.size + 1)
   (fun pre W => I pre W ∧ W.heap[w.heap.size + 1]? = some (.loop (R .ready none)) ∧ W.heap[w.heap.size]? = some (.deferred (some [])))
   (fun pre W => ∃ c, Ix c pre W ∧ W.heap[w.heap.size + 1]? = some (.loop (R .done (some c))) ∧ W.heap[w.heap.size]? = some (.deferred (some [])))
   (fun s A B hj hb => ⟨hI s A B hj.1 (hb.more (by simp; grind)), hkeep hb (.inr rfl) hj.2.1, hkeep hb (.inl rfl) hj.2.2⟩)
   (fun s A B hj hb => by
    obtain ⟨c, hc, hl, hk⟩ := hj
    exact ⟨c, hIx c s A B hc (hb.more (by simp; grind)), hkeep hb (.inr rfl) hl, hkeep hb (.inl rfl) hk⟩)
   ?round ⟨hI _ _ _ h0 (But.of_below kB), k1, k0⟩).mono ?behind
  case round =>
   rintro pre x W ⟨hi, hl, hk⟩ hpre hbl
   have hlt : w.heap.size + 1 < W.heap.size := (Array.getElem?_eq_some_iff.1 hl).1
   have hy := run_yield (P := P) (args := encs x) hl (by rw [hR]; exact hps x)
   rw [hR] at hy
   refine ⟨fn, _, assign, body, hy, roundIn_of_wpIn hfn (hassign _ x W _ ⟨_, run_beginRound hl (by rw [hR]), ?_⟩)⟩
   clear hy
   obtain ⟨V, hV⟩ : ∃ V, W.putObj (w.heap.size + 1) (.loop { R .ready none with state := .busy }) = V := ⟨_, rfl⟩
   rw [hV]
   have v1 : V.heap[w.heap.size + 1]? = some (.loop { R .ready none with state := .busy }) := by rw [← hV]; exact World.putObj_heap_same hlt
   have v0 : V.heap[w.heap.size]? = some (.deferred (some [])) := by rw [← hV]; exact (World.putObj_heap_other (by omega)).trans hk
   have vA : Apart S bs W V := by rw [← hV]; exact Apart.of_but (but_put _ _ _) fun b hb => by simp at hb; subst hb; exact ⟨fun h => (hne _ h).2 rfl, by omega⟩
   have vI : I pre V := by rw [← hV]; exact hput _ hi
   have vs : w.heap.size + 1 < V.heap.size := (Array.getElem?_eq_some_iff.1 v1).1
   have vb : ∀ b ∈ bs, b < V.heap.size := by rw [← hV]; simpa using hbl
   clear hV
   refine wpIn_mono (hbody _ pre x V vI hpre ⟨vs, vb⟩) ?_
   have fin : ∀ (jump : Option Code) (W3 : World), Apart 0 (w.heap.size :: (w.heap.size + 1) :: bs) V W3 →
     (Instr.endRound (w.heap.size + 1) jump).run P W3 = .ok (.bool jump.isNone) (W3.putObj (w.heap.size + 1) (.loop (R (if jump.isNone then .ready else .done) jump))) ∧
     (W3.putObj (w.heap.size + 1) (.loop (R (if jump.isNone then .ready else .done) jump))).heap[w.heap.size + 1]? = some (.loop (R (if jump.isNone then .ready else .done) jump)) ∧
     (W3.putObj (w.heap.size + 1) (.loop (R (if jump.isNone then .ready else .done) jump))).heap[w.heap.size]? = some (.deferred (some [])) := fun jump W3 h3 => by
    have h4 := (h3.block _ vs (.inl (by simp))).trans v1
    have h5 := (h3.block w.heap.size (by omega) (.inl (by simp))).trans v0
    have hr := run_endRound (P := P) jump h4
    exact ⟨by rw [hr, hR], World.putObj_heap_same (Array.getElem?_eq_some_iff.1 h4).1, (World.putObj_heap_other (by omega)).trans h5⟩
   rintro e a3 W3 hp
   cases e with
   | normal =>
    obtain ⟨q1, q2, q3⟩ := fin none W3 ⟨hp.1.os, hp.1.tape, hp.1.output, hp.1.size, fun k hk hb => hp.1.block k hk (hb.imp id (fun h => by omega))⟩
    refine ⟨_, _, q1, .inl ⟨rfl, ⟨hput _ hp.2, q2, q3⟩, (vA.trans (hp.1.less (by simp; grind))).trans (Apart.of_but (but_put _ _ _) fun b hb => ?_)⟩⟩
    simp at hb; subst hb; exact ⟨fun h => (hne _ h).2 rfl, by omega⟩
   | ret =>
    obtain ⟨q1, q2, q3⟩ := fin (some .ret) W3 hp.1
    exact ⟨_, _, q1, .inr ⟨rfl, .ret, hputx _ hp.2, q2, q3⟩⟩
   | exit id =>
    obtain ⟨q1, q2, q3⟩ := fin (some (.exit id)) W3 hp.1
    exact ⟨_, _, q1, .inr ⟨rfl, .exit id, hputx _ hp.2, q2, q3⟩⟩
   | goto t =>
    obtain ⟨q1, q2, q3⟩ := fin (some (.goto t)) W3 hp.1
    exact ⟨_, _, q1, .inr ⟨rfl, .goto t, hputx _ hp.2, q2, q3⟩⟩
   | panic ch => exact hp.elim
   | outgrown => exact hp.elim
  case behind =>
   rintro e W2 ⟨⟨v, rfl⟩, (⟨hi, hl, hk⟩ | ⟨pre, hpre, c, hi, hl, hk⟩)⟩
   ·refine ⟨none, _, by have := run_endLoop (P := P) hl (by rw [hR]; simp); rw [hR] at this; exact this, hdone _ _ (Nat.le_refl _) (hput _ hi) ((World.putObj_heap_other (by omega)).trans hk)⟩
   ·refine ⟨some c, _, by have := run_endLoop (P := P) hl (by rw [hR]; simp); rw [hR] at this; exact this, hstop _ c pre _ (Nat.le_refl _) hpre (hputx _ hi) ((World.putObj_heap_other (by omega)).trans hk)⟩
end Go.Proofs.Ytpjgapnihmiceaa
