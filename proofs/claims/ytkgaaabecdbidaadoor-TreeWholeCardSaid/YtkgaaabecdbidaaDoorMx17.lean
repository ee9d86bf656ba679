/-
  The contract of Owners.
-/
import Derived.Test.YtkgaaabecdbidaaDoorMx16
namespace Go.Proofs.YtkgaaabecdbidaaDoor
open Go.RowKit
set_option linter.unusedSimpArgs false
set_option linter.unusedVariables false
theorem enters_root : EntersP Tryd.prog 31 := entersP_of Tryd.func31 (by kernel_rfl) rfl
theorem make_exec {o : Oper} {a : Act} {w w' : World} {v x : Value} {T : TypeId} {l : Operand} (ho : o.op = .makeSlice T l l) (hl : a.eval l = x) (hr : (Instr.makeSlice T x x).run Tryd.prog w = .ok v w') : (execOp a.eval o).run Tryd.prog w = .ok (.value v) w' := by
 unfold execOp
 simp only [ho, Sem.run_bind, Sem.run_pure, Result.andThen_ok, hl, hr]
set_option maxHeartbeats 16000000 in
set_option maxRecDepth 100000 in
theorem Owners_runT : SaysOwners := by
 intro A n cap T w h ht100
 have hl := Lib.hid h.len
 have hn40 := h.small.1
 obtain ⟨S, hS⟩ : ∃ S, w.heap.size = S := ⟨_, rfl⟩
 obtain ⟨W, hW⟩ : ∃ W, w.alloc (.cells #[.slice A n cap] 24) = W := ⟨_, rfl⟩
 have hC0 := CSt.start (cap := cap) h 24 hW
 have HC := Lib.hid (fun V hV => check_runT A n cap T V hV)
 unfold OutK
 rw [hS] at hC0 ⊢
 have C0 := Lib.hid hC0
 have d0 := hC0.e0
 have H40 := Lib.hid hn40
 have hmf' := hmf
 rw [hl.out] at hn40
 clear h hC0
 by_cases hk : (sndT T).1 = 0
 ·have hV := chk_valid hk
  have HV := Lib.hid hV
  have he := trErr_zero hk
  rw [he] at HC ⊢
  rw [resOf_ok hk]
  have hnum := hV.num (T.length - 1) (by have := hV.pos; omega)
  have hr1 : 0 ≤ (rootOf T).f := hnum.2.2.1
  have hr2 : (rootOf T).f ≤ (rootOf T).t := hnum.2.2.2.1
  obtain ⟨q, hq⟩ : ∃ q : Nat, (rootOf T).t = q := ⟨(rootOf T).t.toNat, by omega⟩
  have hq100 : q ≤ 100 := by omega
  have hqz : ¬ (q : Int) < 0 := by omega
  have hn1 : 1 ≤ n := by have := hV.pos; have := hl.out; omega
  obtain ⟨l, hll⟩ : ∃ l, n - 1 = l := ⟨_, rfl⟩
  have hln : l < n := by omega
  have hlnz : (l : Int) < (n : Int) := by omega
  have HWK := Lib.hid (fun (W2 : World) B b g base (hB : NdsAt W2 B A T) (hBW : B ≤ W2.heap.size) (h1 : VarAt W2 b (.slice (some ⟨g, 0, none⟩) q q)) (h2 : RowI W2 base g (List.replicate q (-1))) (hb : b ≠ g ∧ b < W2.heap.size ∧ B ≤ g ∧ g < W2.heap.size) => walk_run (n := n) (cap := cap) (owners_act HV.out W2.heap.size b g base q hq (by omega) hb.2.1 hb.1 (List.replicate q (-1)) (by simp)) _ HV hl hn40 hB hBW (bs0 := [g]) ⟨rfl, h1, h2⟩ (fun x hx => by simp at hx; omega))
  have HEND : Hid ((stepsW T (T.length - 1)).foldl setS (List.replicate q (-1)) = ownerL T) := by
   have := owners_all HV.out
   rw [hq, Int.toNat_natCast] at this
   show _ = _
   rw [this]
   unfold ownerL
   rw [hq, Int.toNat_natCast]
  have HRT := Lib.hid (fun V => root_runB A n cap V hn1 hn40)
  rw [hll] at HRT
  have HTO : Hid (∀ V b o, A = some ⟨b, o, none⟩ → TreeAt V A n T → V.cell? ⟨b, o + l * 4 + 2, none⟩ = some (.int .i64 (q : Int))) := fun V b o eA hV => by
   subst eA
   obtain ⟨b1, o1, eb, _, hg⟩ := hV.at_.get (by have := hl.out; omega)
   cases eb
   obtain ⟨_, _, _, _, _, h2, _⟩ := hg l _ (at_nd (by have := hl.out; omega))
   rw [show (q : Int) = (nd T l).t from by rw [← hq]; unfold rootOf; rw [hl.out, hll]]
   exact h2
  clear hk hV he hnum hr1 hr2 hq ht100 hll H40
  unfold trV at *
  go_enter Tryd.func26, Tryd.ntmps26
  go_wp2_with fail
  refine (HC.out W C0.out.tree).mono ?_
  rintro e w1 ⟨rfl, hw1⟩
  have C1 := Lib.hid (C0.out.on hw1)
  have d1 := C1.out.e0
  clear hw1 HC C0 d0
  obtain ⟨b, o, rfl, hbB, _⟩ := C1.out.tree.at_.get (by have := hl.out; omega)
  have t1 := HTO.out w1 b o rfl C1.out.tree
  have hS1 := C1.out.lt
  have hbw1 : b < w1.heap.size := hbB
  go_upto_region 4 with fail
  go_cut [5] (fun s5 wx => ∃ bb g, s5 = .pointer (some ⟨bb, 0, none⟩) ∧ Hid (VarAt wx bb (.slice (some ⟨g, 0, none⟩) q q)) ∧ Hid (RowI wx (S + 1) g (List.replicate q 0)) ∧ Hid (Below w1.heap.size w1 wx) ∧ Hid (bb ≠ g ∧ w1.heap.size ≤ bb ∧ w1.heap.size ≤ g))
  case first =>
   refine rg_begin (fun V => Below w1.heap.size w1 V) (by kernel_rfl) ((Below.refl _ w1).drew) (fun hS => ?_)
   generalize w1.drew = w2 at *
   refine rg_take 0 (.pointer (some ⟨S, 0, none⟩)) rfl (by kernel_rfl) (by kernel_rfl) (by kernel_rfl) (fun _ _ _ h => h) rfl (fun w _ => ?_) hS ?_
   ·go_simp
   simp only [zA, zB, zC, Act.put, zD, zE, zF]
   refine rg_take 1 (.slice (some ⟨b, o, none⟩) n cap) rfl (by kernel_rfl) (by kernel_rfl) (by kernel_rfl) (fun _ _ _ h => h) rfl (fun w hSw => ?_) hS ?_
   ·have s1 := (hSw.cell (p := ⟨S, 0, none⟩) hS1).trans d1
    go_simp
   simp only [zA, zB, zC, Act.put, zD, zE, zF]
   refine rg_take 2 (.agg #[.slice (some ⟨b, o, none⟩) n cap]) rfl (by kernel_rfl) (by kernel_rfl) (by kernel_rfl) (fun _ _ _ h => h) rfl (fun w hSw => ?_) hS ?_
   ·have s1 := (hSw.cell (p := ⟨S, 0, none⟩) hS1).trans d1
    go_simp
   simp only [zA, zB, zC, Act.put, zD, zE, zF]
   refine rg_two 3 8 (by kernel_rfl) ?_ ?_
   ·refine rs_of rfl rfl (wp_call rfl enters_root rfl (HRT.out _) (fun V1 hV => ⟨hS.trans (hV.mono (by have := hS.size; omega)), ?_⟩))
    replace hS := hS.trans (hV.mono (by have := hS.size; omega))
    simp only [zA, zB, zC, Act.put, zD, zE, zF]
    refine rg_take 4 (.pointer (some ⟨b, o + l * 4, none⟩)) rfl (by kernel_rfl) (by kernel_rfl) (by kernel_rfl) (fun _ _ _ h => h) rfl (fun w _ => ?_) hS ?_
    ·go_simp
    simp only [zA, zB, zC, Act.put, zD, zE, zF]
    refine rg_take 5 (.pointer (some ⟨b, o + l * 4 + 2, none⟩)) rfl (by kernel_rfl) (by kernel_rfl) (by kernel_rfl) (fun _ _ _ h => h) rfl (fun w _ => ?_) hS ?_
    ·go_simp
    simp only [zA, zB, zC, Act.put, zD, zE, zF]
    refine rg_take 6 (.int .i64 q) rfl (by kernel_rfl) (by kernel_rfl) (by kernel_rfl) (fun _ _ _ h => h) rfl (fun w hSw => ?_) hS ?_
    ·have s1 := (hSw.cell (p := ⟨b, o + l * 4 + 2, none⟩) hbw1).trans t1
     go_simp
    simp only [zA, zB, zC, Act.put, zD, zE, zF]
    refine rg_two 7 8 (by kernel_rfl) ?_ ?_
    ·obtain ⟨V2, hmk, hrow, hbw, hlt⟩ := make_row V1 q (by omega)
     have hs2 := hS.size
     refine rs_of rfl rfl (wp_value (make_exec rfl rfl hmk) ⟨hS.trans (hbw.mono hs2), ?_⟩)
     simp only [zA, zB, zC, Act.put, zD, zE, zF]
     replace hS := hS.trans (hbw.mono hs2)
     refine rg_one 8 (by kernel_rfl) (rs_of rfl rfl (wp_value (w' := V2.alloc (.cells #[.slice none 0 0] 31)) (v := .pointer (some ⟨V2.heap.size, 0, none⟩)) (by go_simp) ⟨hS.alloc (by have := hS.size; omega) _, ?_⟩))
     simp only [zA, zB, zC, Act.put, zD, zE, zF]
     refine rg_one 9 (by kernel_rfl) (rs_of rfl rfl (wp_skipped (w' := V2.alloc (.cells #[.slice (some ⟨V1.heap.size, 0, none⟩) q q] 31)) (by go_simp) ⟨hS.alloc (by have := hS.size; omega) _, ?_⟩))
     simp only [zA, zB, zC, Act.put, zD, zE, zF]
     refine wpAnyH_done (by kernel_rfl) ?_ _
     (try simp only [Exit.inBlock, Exit.then])
     go_wp2_with fail
     go_meet
     exact ⟨V2.heap.size, V1.heap.size, rfl, VarAt.new _ _ _, ownK_base (hrow.below ((Below.refl _ _).alloc (Nat.le_refl _) _)) (by omega), hS.alloc (by have := hS.size; omega) _, by show _ ∧ _; have := hS.size; omega⟩
    ·have hs2 := hS.size
     have X0 := VarAt.new V1 (.slice none 0 0) 31
     refine rs_of rfl rfl (wp_value (w' := V1.alloc (.cells #[.slice none 0 0] 31)) (v := .pointer (some ⟨V1.heap.size, 0, none⟩)) (by go_simp) ⟨hS.alloc hs2 _, ?_⟩)
     simp only [zA, zB, zC, Act.put, zD, zE, zF]
     replace hS := hS.alloc hs2 (.cells #[.slice none 0 0] 31)
     have hx : (V1.alloc (.cells #[.slice none 0 0] 31)).heap.size = V1.heap.size + 1 := by simp
     obtain ⟨bb, hbb⟩ : ∃ x, V1.heap.size = x := ⟨_, rfl⟩
     generalize V1.alloc (.cells #[.slice none 0 0] 31) = V3 at *
     obtain ⟨V2, hmk, hrow, hbw, hlt⟩ := make_row V3 q (by omega)
     refine rg_one 7 (by kernel_rfl) (rs_of rfl rfl (wp_value (make_exec rfl rfl hmk) ⟨hS.trans (hbw.mono hS.size), ?_⟩))
     simp only [zA, zB, zC, Act.put, zD, zE, zF]
     replace hS := hS.trans (hbw.mono hS.size)
     have X2 := X0.below hbw
     rw [hbb] at X2 ⊢
     have x1 := X2.1
     have x2 := X2.2
     refine rg_one 9 (by kernel_rfl) (rs_of rfl rfl (wp_skipped (w' := V2.setCell ⟨bb, 0, none⟩ (.slice (some ⟨V3.heap.size, 0, none⟩) q q)) (by go_simp) ⟨hS.setCell (by show _ ≤ bb; omega) _, ?_⟩))
     simp only [zA, zB, zC, Act.put, zD, zE, zF]
     refine wpAnyH_done (by kernel_rfl) ?_ _
     (try simp only [Exit.inBlock, Exit.then])
     go_wp2_with fail
     go_meet
     exact ⟨bb, V3.heap.size, rfl, X2.set _, ownK_base (OwnK.setCell hrow (by show bb < _; omega) _) (by omega), hS.setCell (by show _ ≤ bb; omega) _, by show _ ∧ _; omega⟩
   ·have hs2 := hS.size
    have X0 := VarAt.new w2 (.slice none 0 0) 31
    refine rs_of rfl rfl (wp_value (w' := w2.alloc (.cells #[.slice none 0 0] 31)) (v := .pointer (some ⟨w2.heap.size, 0, none⟩)) (by go_simp) ⟨hS.alloc hs2 _, ?_⟩)
    simp only [zA, zB, zC, Act.put, zD, zE, zF]
    replace hS := hS.alloc hs2 (.cells #[.slice none 0 0] 31)
    have hx : (w2.alloc (.cells #[.slice none 0 0] 31)).heap.size = w2.heap.size + 1 := by simp
    obtain ⟨bb, hbb⟩ : ∃ x, w2.heap.size = x := ⟨_, rfl⟩
    generalize w2.alloc (.cells #[.slice none 0 0] 31) = V0 at *
    refine rg_one 3 (by kernel_rfl) (rs_of rfl rfl (wp_call rfl enters_root rfl (HRT.out _) (fun V1 hV => ⟨hS.trans (hV.mono (by have := hS.size; omega)), ?_⟩)))
    replace X0 := X0.below hV
    have hV1 := hV.size
    replace hS := hS.trans (hV.mono (by have := hS.size; omega))
    clear hV
    simp only [zA, zB, zC, Act.put, zD, zE, zF]
    refine rg_take 4 (.pointer (some ⟨b, o + l * 4, none⟩)) rfl (by kernel_rfl) (by kernel_rfl) (by kernel_rfl) (fun _ _ _ h => h) rfl (fun w _ => ?_) hS ?_
    ·go_simp
    simp only [zA, zB, zC, Act.put, zD, zE, zF]
    refine rg_take 5 (.pointer (some ⟨b, o + l * 4 + 2, none⟩)) rfl (by kernel_rfl) (by kernel_rfl) (by kernel_rfl) (fun _ _ _ h => h) rfl (fun w _ => ?_) hS ?_
    ·go_simp
    simp only [zA, zB, zC, Act.put, zD, zE, zF]
    refine rg_take 6 (.int .i64 q) rfl (by kernel_rfl) (by kernel_rfl) (by kernel_rfl) (fun _ _ _ h => h) rfl (fun w hSw => ?_) hS ?_
    ·have s1 := (hSw.cell (p := ⟨b, o + l * 4 + 2, none⟩) hbw1).trans t1
     go_simp
    simp only [zA, zB, zC, Act.put, zD, zE, zF]
    obtain ⟨V2, hmk, hrow, hbw, hlt⟩ := make_row V1 q (by omega)
    refine rg_one 7 (by kernel_rfl) (rs_of rfl rfl (wp_value (make_exec rfl rfl hmk) ⟨hS.trans (hbw.mono hS.size), ?_⟩))
    simp only [zA, zB, zC, Act.put, zD, zE, zF]
    replace hS := hS.trans (hbw.mono (by have := hS.size; omega))
    have X2 := X0.below hbw
    rw [hbb] at X2 ⊢
    have x1 := X2.1
    have x2 := X2.2
    refine rg_one 9 (by kernel_rfl) (rs_of rfl rfl (wp_skipped (w' := V2.setCell ⟨bb, 0, none⟩ (.slice (some ⟨V1.heap.size, 0, none⟩) q q)) (by go_simp) ⟨hS.setCell (by show _ ≤ bb; omega) _, ?_⟩))
    simp only [zA, zB, zC, Act.put, zD, zE, zF]
    refine wpAnyH_done (by kernel_rfl) ?_ _
    (try simp only [Exit.inBlock, Exit.then])
    go_wp2_with fail
    go_meet
    exact ⟨bb, V1.heap.size, rfl, X2.set _, ownK_base (OwnK.setCell hrow (by show bb < _; omega) _) (by omega), hS.setCell (by show _ ≤ bb; omega) _, by show _ ∧ _; omega⟩
  case rest =>
   obtain ⟨bb, g, rfl, V2, R2, BW2, HB2⟩ := hcut
   generalize wc = w2 at *
   have v2 := V2.out.1
   go_wp2_with fail
   clear v2
   go_loopg [22] (q + 1) (fun h s22 wr => ∃ (k : Nat) (L : List Int), s22 = .int .i64 k ∧ Hid (k ≤ q ∧ k + h = q + 1 ∧ L.length = q ∧ ∀ i, i < k → L[i]? = some (-1)) ∧ Hid (RowI wr (S + 1) g L) ∧ Hid (VarAt wr bb (.slice (some ⟨g, 0, none⟩) q q)) ∧ Hid (Below w1.heap.size w1 wr))
   case atStart => exact ⟨0, _, rfl, by show _ ∧ _; exact ⟨by omega, by omega, by simp, fun i hi => by omega⟩, R2.out, V2.out, BW2.out⟩
   case round =>
    clear R2 V2 BW2
    obtain ⟨k, L, rfl, HK, RW, VW, BW⟩ := hrel
    generalize wr = w3 at *
    have v3 := VW.out.1
    by_cases hk : k < q
    ·have hkz : (k : Int) < (q : Int) := by omega
     obtain ⟨x, hx⟩ : ∃ x, L[k]? = some x := ⟨_, List.getElem?_eq_getElem (by have := HK.out; omega)⟩
     obtain ⟨c1, f1⟩ := RW.out.at_ hx
     have RW2 := Lib.hid (RW.out.put k (-1))
     have VW2 : Hid (VarAt (w3.setCell ⟨g, k, none⟩ (.int .i64 (-1))) bb (.slice (some ⟨g, 0, none⟩) q q)) := VW.out.but ((But.refl w3 [g]).setCell (p := ⟨g, k, none⟩) (by simp) _) (by simp; exact HB2.out.1)
     have BW2 : Hid (Below w1.heap.size w1 (w3.setCell ⟨g, k, none⟩ (.int .i64 (-1)))) := BW.out.setCell (by show _ ≤ g; exact HB2.out.2.2) _
     have HL2 : Hid ((L.set k (-1)).length = q ∧ ∀ i, i < k + 1 → (L.set k (-1))[i]? = some (-1)) := by
      refine ⟨by rw [List.length_set]; exact HK.out.2.2.1, fun i hi => ?_⟩
      by_cases e : i = k
      ·subst e
       rw [List.getElem?_set_self (by have := HK.out; omega)]
      ·rw [List.getElem?_set_ne (by omega)]
       exact HK.out.2.2.2 i (by omega)
     clear RW VW BW hx
     go_wp2_with fail
     go_roundg (q - k)
     case measure => have := HK.out; omega
     case rel => exact ⟨k + 1, _, by go_num, by show _ ∧ _; have := HK.out; exact ⟨by omega, by omega, HL2.out.1, HL2.out.2⟩, RW2.out, VW2.out, BW2.out⟩
    ·have hkz : ¬ (k : Int) < (q : Int) := by omega
     obtain rfl : k = q := by have := HK.out; omega
     have hL : L = List.replicate k (-1) := by
      apply List.ext_getElem?
      intro i
      rcases Nat.lt_or_ge i k with hi | hi
      ·rw [HK.out.2.2.2 i hi, List.getElem?_replicate, if_pos hi]
      ·rw [List.getElem?_eq_none (by have := HK.out; omega), List.getElem?_eq_none (by simpa using hi)]
     subst hL
     have d3 := (BW.out.cell (p := ⟨S, 0, none⟩) hS1).trans d1
     have H3 : Hid (NdsAt w3 w1.heap.size (some ⟨b, o, none⟩) T) := C1.out.tree.at_.below BW.out (Nat.le_refl _)
     have hgl := RW.out.lt.2
     have hbl := VW.out.lt
     go_wp2_with fail
     refine (HWK.out w3 w1.heap.size bb g (S + 1) H3.out (by have := HB2.out; omega) VW.out RW.out (by have := HB2.out; omega)).mono ?_
     rintro e w4 ⟨rfl, bs', ⟨_, k2, k3⟩, hbut⟩
     rw [HEND.out] at k3
     have v4 := k2.1
     have BR : Hid (Below S w w4) := (C1.out.bel.trans (BW.out.mono (by omega))).but hbut (fun x hx => by have := HB2.out; simp at hx; omega) (by have := BW.out.size; omega)
     have hlen : Hid ((ownerL T).length = k) := by
      show _ = _
      rw [← HEND.out, setS_len, List.length_replicate]
     have OR : Hid (OwnK .i64 3 w4 S (.slice (some ⟨g, 0, none⟩) k k) (ownerL T)) := by
      have := k3.own
      rw [hlen.out] at this
      exact ownK_base this (by omega)
     clear HWK k2 k3 hbut H3 HEND RW VW BW HK
     go_wp2_with fail
     go_ret2
     exact ⟨_, rfl, OR.out, BR.out⟩
 ·obtain ⟨te, ve, he⟩ := trErr_some hk
  rw [resOf_bad hk]
  rw [he] at HC ⊢
  clear ht100
  unfold trV at *
  go_enter Tryd.func26, Tryd.ntmps26
  go_wp2_with fail
  refine (HC.out W C0.out.tree).mono ?_
  rintro e w1 ⟨rfl, hw1⟩
  have C1 := Lib.hid (C0.out.on hw1)
  clear hw1 HC C0 d0
  go_wp2_with fail
  go_ret2
  exact ⟨_, rfl, OwnK.nil _ _ _ _, C1.out.bel⟩
end Go.Proofs.YtkgaaabecdbidaaDoor
