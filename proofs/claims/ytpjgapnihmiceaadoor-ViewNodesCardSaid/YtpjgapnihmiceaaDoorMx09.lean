/-
  Layer 15 (view), the program: Has, Op.
-/
import Derived.Test.YtpjgapnihmiceaaDoorMx08
import Derived.Test.YtpjgapnihmiceaaDoorMx01
import Derived.ProofKit
import Derived.OpenShut
import Derived.Lib.SmallJoins
import Derived.Deep.SlicePairs
import Derived.Deep.Slices
import Derived.LaidMore
namespace Go.Proofs.YtpjgapnihmiceaaDoor
open Go.RowKit Go.Shelf
set_option linter.unusedSimpArgs false
set_option linter.unusedVariables false
attribute [local go_sem] Oper.semAt_some
theorem tok_there {w : World} {b : Nat} {d : List Int} {L : List Tv} {T : List Nd} (h : FileAt w b d L T) {n x : Int} (hx : x ∈ ownV T n) :
  ∃ (y : Nat) (tb tof n2 c2 : Nat), x = (y : Int) ∧ y < n2 ∧ n2 ≤ 60 ∧ w.cell? ⟨b, 1, none⟩ = some (.slice (some ⟨tb, tof, none⟩) n2 c2) ∧ tb < w.heap.size ∧ w.cell? ⟨tb, tof + y * 5, none⟩ = some (.int .i64 (tokV L x).k) := by
 obtain ⟨A1, n1, c1, A2, n2, c2, A, m, c, ⟨e0, e1, e2⟩, hcs, hs, hb, hv⟩ := h
 have hr := ownV_mem hv hx
 obtain ⟨y, rfl⟩ := Int.eq_ofNat_of_zero_le hr.1
 obtain ⟨tb, tof, rfl, htb, t0, _⟩ := tv_get hs.tok (at_tok (i := y) (by have := hs.lt; omega))
 exact ⟨y, tb, tof, n2, c2, rfl, by omega, hs.st, e1, htb, t0⟩
theorem mem_pre {pre xs : List Int} {x : Int} (h : pre ++ [x] <+: xs) : x ∈ xs := h.subset (by simp)
theorem opG_pass {L : List Tv} : ∀ {p : List Int} (q : List Int), (∀ y ∈ p, punB (tokV L y).k = true) → opG L (p ++ q) = opG L q
 | [], q, _ => rfl
 | y :: p, q, h => by
  rw [List.cons_append, opG, if_pos (h y (List.mem_cons_self ..))]
  exact opG_pass q fun z hz => h z (List.mem_cons_of_mem _ hz)
theorem opV_hit {L : List Tv} {T : List Nd} {n x : Int} {pre : List Int} (h : pre ++ [x] <+: ownV T n) (hp : ∀ y ∈ pre, punB (tokV L y).k = true) (hx : punB (tokV L x).k = false) : opV L T n = (tokV L x).k := by
 obtain ⟨q, hq⟩ := h
 unfold opV
 rw [← hq, List.append_assoc, opG_pass _ hp, List.singleton_append, opG, if_neg (by rw [hx]; simp)]
theorem opV_none {L : List Tv} {T : List Nd} {n : Int} (hp : ∀ y ∈ ownV T n, punB (tokV L y).k = true) : opV L T n = 0 := by
 unfold opV
 rw [← List.append_nil (ownV T n), opG_pass _ hp]
 rfl
set_option maxRecDepth 100000 in
set_option maxHeartbeats 2000000 in
theorem Op_run : SaysOp := by
 intro v d L T n w h
 obtain ⟨p, rfl⟩ := h.valid
 refine (callsIn_wide (n := 6)).1 ?_
 have hro : Fence.wide.round = none := rfl
 refine callsIn_of_wp_marks Tryd.func30 rfl trivial ?_ hro
 simp only [Tryd.ntmps30, List.size_toArray, List.length_cons, List.length_nil, Nat.reduceAdd, Nat.reduceSub, Array.replicate_succ, Array.replicate_zero, List.push_toArray, List.append_toArray, List.nil_append, List.cons_append]
 obtain ⟨S, hS⟩ : ∃ S, w.heap.size = S := ⟨_, rfl⟩
 obtain ⟨W, hW⟩ : ∃ W, (w.alloc (.cells #[.pointer p] 30)).alloc (.cells #[.int .i64 0] 3) = W := ⟨_, rfl⟩
 have hz : W.heap.size = S + 2 := by rw [← hW, ← hS]; simp
 have hB : Below S w W := by rw [← hW, ← hS]; exact ((Below.refl _ _).alloc (Nat.le_refl _) _).alloc (by simp) _
 have c0 : W.cell? ⟨S, 0, none⟩ = some (.pointer p) := by rw [← hW, ← hS, World.cell?_alloc_lt _ _ _ (by simp)]; exact World.cell?_alloc_at _ _ _ _ rfl
 have c2 : VarAt W (S + 1) (.int .i64 0) := by rw [← hW, ← hS]; exact ⟨World.cell?_alloc_at _ _ _ _ (by simp), World.frozen?_alloc_at _ _ _ _ (by simp)⟩
 obtain ⟨W0, hW0⟩ : ∃ W0, (W.alloc (.cells #[.pointer p] 30)).alloc (.cells #[.int .i64 n] 3) = W0 := ⟨_, rfl⟩
 have hB0 : Below W.heap.size W W0 := by rw [← hW0]; exact ((Below.refl _ _).alloc (Nat.le_refl _) _).alloc (by simp) _
 have hz0 : W0.heap.size = S + 4 := by rw [← hW0]; simp; omega
 have d1 : W0.cell? ⟨S + 2, 0, none⟩ = some (.pointer p) := by rw [← hW0, World.cell?_alloc_lt _ _ _ (by simp; omega)]; exact World.cell?_alloc_at _ _ _ _ hz.symm
 have d2 : W0.cell? ⟨S + 3, 0, none⟩ = some (.int .i64 n) := by rw [← hW0]; exact World.cell?_alloc_at _ _ _ _ (by simp; omega)
 have hI := ownIt_run p n W
 rw [hW0, hz] at hI
 gi_wp2
 refine ⟨trivial, ?_⟩
 refine (callsIn_wide.2 hI).mono ?_
 rintro e w' ⟨rfl, rfl⟩
 have hBw : Below S w w' := hB.trans (hB0.mono (by omega))
 have b0 := (hB0.cell (p := ⟨S, 0, none⟩) (by show S < _; omega)).trans c0
 have b2 : VarAt w' (S + 1) (.int .i64 0) := ⟨(hB0.cell (p := ⟨S + 1, 0, none⟩) (by show S + 1 < _; omega)).trans c2.1, (hB0.frozen (p := ⟨S + 1, 0, none⟩) (by show S + 1 < _; omega)).trans c2.2⟩
 clear hI hW hW0 c0 c2
 gi_wp2
 refine wpIn_rangeB (gf := 45) (lb := #[.pointer (some ⟨S + 2, 0, none⟩), .pointer (some ⟨S + 3, 0, none⟩)]) rfl (enters_of Tryd.func45 (by kernel_rfl) rfl) w'.heap.size (Nat.le_refl _) [S + 6, S + 7, S + 9] (by rw [hz0]; simp) (encs := toksEnc) (xs := ownV T n)
  (fun W1 h1 h2 => by
   have := itOwn (S + 2) (S + 3) _ d L T n w w' h (by rw [hS]; exact hBw) d1 (by omega) d2 (by omega) W1 h1
   rw [h2, hz0] at this
   rw [hz0]
   exact this) (fun _ => rfl)
  (fun pre V => (∀ x ∈ pre, punB (tokV L x).k = true) ∧ Below w'.heap.size w' V)
  (fun c pre V => c = .ret ∧ VarAt V (S + 1) (.int .i64 (opV L T n)) ∧ Below S w V)
  ?hI ?hIx ⟨fun x hx => (by cases hx), Below.refl _ _⟩
  (fun x => { tmps := #[.pointer p, .int .i64 n, .pointer (some ⟨S, 0, none⟩), undef, .pointer (some ⟨S + 1, 0, none⟩), .int .i64 x, undef, .pointer p, .int .i64 n, .func (.func 45) #[] #[.pointer (some ⟨S + 2, 0, none⟩), .pointer (some ⟨S + 3, 0, none⟩)], .int .i64 x, undef, undef, undef, undef, undef, undef, undef, undef, undef, undef, undef, undef], defers := [] }) ?assign ?body ?done ?stop
 case hI =>
  rintro pre A B ⟨h1, h2⟩ hb
  exact ⟨h1, h2.but hb (by rw [hz0]; simp) (by have := h2.size; omega)⟩
 case hIx =>
  rintro c pre A B ⟨h1, h2, h4⟩ hb
  exact ⟨h1, h2.but hb (by rw [hz0]; simp), h4.but hb (by rw [hz0]; simp; omega) (by have := h4.size; omega)⟩
 case assign =>
  intro l x V K hK
  unfold toksEnc
  gi_wp2
  exact hK
 case body =>
  rintro l pre x V ⟨hp, hBV⟩ hpre ⟨hlt, hbs⟩
  have hmem := mem_pre hpre
  have hBS : Below S w V := hBw.trans (hBV.mono (by omega))
  rcases h with ⟨_, rfl⟩ | ⟨b, hpb, hf⟩
  ·rw [ownV_nil] at hmem; cases hmem
  ·cases hpb
   have hfV := hf.below (by rw [hS]; exact hBS)
   obtain ⟨y, tb, tof, n2, c2, rfl, hyn, hn60, e1, htb, t0⟩ := tok_there hfV hmem
   have hbV := hfV.lt
   have a0 := (hBV.cell (p := ⟨S, 0, none⟩) (by show S < _; omega)).trans b0
   have a2 := (hBV.cell (p := ⟨S + 1, 0, none⟩) (by show S + 1 < _; omega)).trans b2.1
   have a3 := (hBV.frozen (p := ⟨S + 1, 0, none⟩) (by show S + 1 < _; omega)).trans b2.2
   obtain ⟨z, hzk⟩ : ∃ z, (tokV L (y : Int)).k = z := ⟨_, rfl⟩
   rw [hzk] at t0
   have hyz : (y : Int) < (n2 : Int) := by omega
   obtain ⟨q, hq⟩ : ∃ q, punB z = q := ⟨_, rfl⟩
   have hPu := puns_run z q V hq
   have HH := Lib.hid (And.intro hp (And.intro hBV (And.intro hBS (And.intro hpre (And.intro hzk (And.intro hq hz0))))))
   clear hp hBV hBS hpre hzk hmem hf hfV hz0 hz hB hB0 hBw b0 b2 d1 d2 hbs hq
   gi_wp2
   refine ⟨trivial, ?_⟩
   refine (CallsIn.inRound l (callsIn_wide.2 hPu)).mono ?_
   rintro e V2 ⟨rfl, rfl⟩
   cases q with
   | false =>
    gi_wp2
    obtain ⟨hp, hBV, hBS, hpre, hzk, hq, hz0⟩ := HH.out
    rw [← hzk] at hq
    refine ⟨Apart.of_but (bs := _) ((But.refl _ [S + 1]).setCell (p := ⟨S + 1, 0, none⟩) (by simp) _) (by intro x hx; rw [hz0]; simp at hx ⊢; omega), rfl, ⟨?_, by simpa using a3⟩, hBS.setCell (p := ⟨S + 1, 0, none⟩) (by show S ≤ S + 1; omega) _⟩
    rw [opV_hit hpre hp hq, hzk]
    exact World.cell?_setCell_same' _ _ _ (by simp [a2])
   | true =>
    gi_wp2
    obtain ⟨hp, hBV, hBS, hpre, hzk, hq, hz0⟩ := HH.out
    refine ⟨Apart.of (Below.refl _ _), fun x hx => ?_, hBV⟩
    rcases List.mem_append.1 hx with hx | hx
    ·exact hp x hx
    ·rw [List.mem_singleton.1 hx, hzk]; exact hq
 case done =>
  rintro D V hD ⟨h1, h2⟩ hK
  have hv : opV L T n = 0 := opV_none h1
  have a2 := (h2.cell (p := ⟨S + 1, 0, none⟩) (by show S + 1 < _; omega)).trans b2.1
  have a3 := (h2.frozen (p := ⟨S + 1, 0, none⟩) (by show S + 1 < _; omega)).trans b2.2
  have hBS : Below S w V := hBw.trans (h2.mono (by omega))
  gi_wp2
  have hK' := (KeepsOthers.setCell V ⟨S + 1, 0, none⟩ (.int .i64 0)).same D _ hK rfl
  refine ⟨by simp, .inl ⟨_, _, rfl, run_takeDeferred hK', ?_⟩⟩
  have hc5 := cell_kept (World.cell?_setCell_same' V ⟨S + 1, 0, none⟩ (.int .i64 0) (by rw [a2]; rfl)) (grownBy_putObj' _ D (.deferred none)) (fun r e => by cases e; exact ⟨_, hK', rfl⟩)
  refine ⟨.int .i64 0, ?_, by rw [hv], ?_⟩
  ·simp [results, Tryd.f30, go_sem, hc5]
  ·rw [hS]
   exact (hBS.setCell (p := ⟨S + 1, 0, none⟩) (by show S ≤ S + 1; omega) _).trans (belowK_b (w := w) (by omega) _ D _ _ (by omega) hK' rfl rfl)
 case stop =>
  rintro D c pre V hD hpre ⟨rfl, h1, h3⟩ hK
  have a2 := h1.1
  gi_wp2
  refine ⟨by simp, .inl ⟨_, _, rfl, run_takeDeferred hK, ?_⟩⟩
  have hc5 := cell_kept a2 (grownBy_putObj' _ D (.deferred none)) (fun r e => by cases e; exact ⟨_, hK, rfl⟩)
  refine ⟨.int .i64 (opV L T n), ?_, rfl, ?_⟩
  ·simp [results, Tryd.f30, go_sem, hc5]
  ·rw [hS]
   exact h3.trans (belowK_b (w := w) (by omega) _ D _ _ (by omega) hK rfl rfl)
end Go.Proofs.YtpjgapnihmiceaaDoor
namespace Go.Proofs.YtpjgapnihmiceaaDoor
open Go.RowKit
set_option linter.unusedSimpArgs false
set_option linter.unusedVariables false
theorem Node_runS : SaysNode := by
 intro v d L T n w h
 refine (Node_run v d L T n _ w h rfl).mono ?_
 rintro e w1 ⟨K, m, c, rfl, hm, _, _, _, hB⟩
 exact ⟨K, m, c, rfl, hm, hB⟩
theorem st_slice : SliceV stCells 1 44 9 := ⟨st_enc, Tryd.underlying44, .string ⟨#[]⟩, 16, by omega, by kernel_rfl, by kernel_rfl⟩
theorem fieldC_ndW (x y z : Int) (K : Option Addr) (q c : Nat) (w : World) : (Instr.field 40 (.agg #[.int .i64 x, .int .i64 y, .int .i64 z, .slice K q c]) 3).run Tryd.prog w = .ok (.slice K q c) w := by kernel_rfl
theorem one_st (w : World) (s : ByteArray) (T : TypeId) : CellsV stCells (w.alloc (.cells #[.string s] T)) (w.heap.size + 1) (some ⟨w.heap.size, 0, none⟩) [s] := fun _ => by
 refine ⟨_, _, rfl, by omega, fun j u hu => ?_⟩
 match j, hu with
 | 0, hu => cases hu; rw [World.cell?_alloc_at _ _ _ _ rfl]; rfl
theorem kids_short {w : World} {v : Value} {d : List Int} {L : List Tv} {T : List Nd} (h : FileIs w v d L T) (n : Int) : (nodeV T n).kids.length ≤ 1000 := by
 rcases h with ⟨_, rfl⟩ | ⟨b, _, A1, n1, c1, A2, n2, c2, A, m, c, _, _, hs, _, hv⟩
 ·rw [nodeV_nil]; simp
 ·unfold nodeV
  split
  ·next hi =>
   have hi := of_decide_eq_true hi
   have := hs.tree.small.2 (kd T n) (by unfold kd nd; rw [List.getD_eq_getElem?_getD, List.getElem?_eq_getElem (by omega)]; exact List.getElem_mem _)
   omega
  ·exact Nat.zero_le _
set_option maxHeartbeats 2000000 in
set_option maxRecDepth 100000 in
theorem Words_run : SaysWords := by
  intro v d L T n w h
  obtain ⟨x, hx⟩ : ∃ x, nodeV T n = x := ⟨_, rfl⟩
  have hk := kids_short h n
  have hN := Lib.hid (Node_run v d L T n x w h hx)
  unfold NodeOut at hN
  unfold wrdsV
  rw [hx] at hk ⊢
  have HF := Lib.hid h
  obtain ⟨p, rfl⟩ := h.valid
  obtain ⟨S, hS⟩ : ∃ S, w.heap.size = S := ⟨_, rfl⟩
  clear hx h
  obtain ⟨xk, xf, xt, xl⟩ := x
  simp only [] at hN hk ⊢
  obtain ⟨WS, hWS⟩ : ∃ WS, xl.map (wordV d L T) = WS := ⟨_, rfl⟩
  rw [hWS]
  have HWS := Lib.hid hWS
  have HK := Lib.hid hk
  clear hWS hk
  go_enter Tryd.func12, Tryd.ntmps12
  go_wp2_with fail
  refine hN.out.mono ?_
  rintro e w1 ⟨K, m, c, rfl, hm, hmc, hcc, hNu, hB1⟩
  have hfd := fieldC_ndW xk xf xt K m c w1
  have HB1 := Lib.hid hB1
  have HNu := Lib.hid hNu
  have HM := Lib.hid hm
  clear hN hm hNu hB1
  go_wp2_with fail
  go_loopg [5, 13] (m + 1) (fun h s5 s13 wr => ∃ (j : Nat), s13 = .int .i64 (j : Int) ∧ Hid (j + h = m + 1 ∧ j ≤ m) ∧ Hid (OwnV stCells 1 9 wr S s5 (WS.take j)) ∧ Hid (Below S w wr))
  case atStart => exact ⟨0, rfl, by show _ ∧ _; omega, by show OwnV _ _ _ _ _ _ _; rw [List.take_zero]; exact OwnV.nil _ _ _ _ _, by show Below _ _ _; rw [← hS]; exact HB1.out⟩
  case round =>
    obtain ⟨j, rfl, HI, HO, HB⟩ := hrel
    generalize wr = wq at *
    by_cases hj : j < m
    · have hjz : (j : Int) < (m : Int) := by omega
      obtain ⟨cc, hcc⟩ : ∃ cc, xl[j]? = some cc := ⟨_, List.getElem?_eq_getElem (by have := HM.out; omega)⟩
      obtain ⟨kb, ko, rfl, hkb, hkc⟩ := HNu.out (by have := HM.out; omega)
      have k0 : wq.cell? ⟨kb, ko + j, none⟩ = some (.int .i64 cc) := (HB.out.cell (p := ⟨kb, ko + j, none⟩) (by show kb < _; omega)).trans (hkc j _ hcc)
      have hW := Lib.hid (Word_run (.pointer p) d L T cc wq (HF.out.below (by rw [hS]; exact HB.out)))
      obtain ⟨s, hs⟩ : ∃ s, wordV d L T cc = s := ⟨_, rfl⟩
      rw [hs] at hW
      have HT : Hid (WS.take (j + 1) = WS.take j ++ [s]) := by
        show _ = _
        rw [List.take_add_one, ← HWS.out, List.getElem?_map, hcc, ← hs]
        rfl
      have hlen : Hid ((WS.take j).length = j) := by
        show _ = _
        rw [List.length_take, ← HWS.out, List.length_map]
        have := HM.out; omega
      have hm9 : m ≤ 1000 := by have := HM.out; have := HK.out; omega
      clear hkc hcc hs
      go_wp2_with fail
      refine hW.out.mono ?_
      rintro e w5 ⟨rfl, hw5⟩
      have HO5 : Hid (OwnV stCells 1 9 w5 S u5 (WS.take j)) := HO.out.below hw5
      have HB5 : Hid (Below S w w5) := HB.out.trans (hw5.mono (by have := HB.out.size; omega))
      have OA : Hid (OwnV stCells 1 9 (w5.alloc (.cells #[.string s] 9)) S u5 (WS.take j)) := HO5.out.alloc _
      have NA : Hid (CellsV stCells (w5.alloc (.cells #[.string s] 9)) (w5.heap.size + 1) (some ⟨w5.heap.size, 0, none⟩) [s]) := one_st _ _ _
      have BA : Hid (Below S w (w5.alloc (.cells #[.string s] 9))) := HB5.out.alloc (by have := HB5.out.size; omega) _
      have hsz : Hid (S ≤ w5.heap.size) := by show _ ≤ _; have := HB5.out.size; omega
      clear hw5 hW HO HB k0 HO5 HB5
      go_wp2_with (first
        | (at_builtin
           refine wpList_appV st_slice _ rfl (.tmp 17) (.tmp 21) rfl S u5 (WS.take j) rfl OA.out (w5.heap.size + 1) (some ⟨w5.heap.size, 0, none⟩) 1 1 [s] rfl NA.out rfl (by rw [hlen.out]; omega) (by simp) (by simp; have := hsz.out; omega) ?_
           intro v7 w7 o7 g7 t7
           have O7 : Hid (OwnV stCells 1 9 w7 S v7 (WS.take (j + 1))) := by show OwnV _ _ _ _ _ _ _; rw [HT.out]; exact o7
           have B7 : Hid (Below S w w7) := BA.out.grown g7 (by have := hsz.out; simp; omega) (ownV_ge OA.out)
           clear o7 g7 t7)
        | fail)
      go_roundg (m - j)
      case measure => have := HI.out; omega
      case rel => exact ⟨j + 1, by go_num, by show _ ∧ _; have := HI.out; omega, O7.out, B7.out⟩
    · have hjz : ¬ (j : Int) < (m : Int) := by omega
      have HT : Hid (OwnV stCells 1 9 wq S u5 WS) := by
        show OwnV _ _ _ _ _ _ _
        have := HO.out
        rwa [List.take_of_length_le (by rw [← HWS.out, List.length_map]; have := HM.out; omega)] at this
      obtain ⟨A, cap, rfl, k1, k2, k3⟩ := HT.out.cells
      have HH := Lib.hid (And.intro k1 (And.intro k2 k3))
      clear HO k1 k2 k3
      go_wp2_with fail
      go_ret
      exact ⟨A, _, cap, rfl, rfl, HH.out.1, HH.out.2.1, HH.out.2.2, by first | exact HB.out | (rw [hS]; exact HB.out)⟩
end Go.Proofs.YtpjgapnihmiceaaDoor
namespace Go.Proofs.YtpjgapnihmiceaaDoor
set_option maxRecDepth 100000
open Go.ChangeShapes Go.WideShapes Go.ChangeAt Go.RowKit Go.Deep
theorem tr_nums {H : Type} {enc : TypeId × Value → H} {W : World} {fuel : Nat} {cs : List Value} {x : DataW H × List MemPlace} {sp : Nat → Bool} (h : DataW.trod enc Tryd.prog W 0 sp true fuel 38 cs = some x) :
  ∃ A len cap l, cs = [.slice A len cap] ∧ l.length = len ∧ len ≤ cap ∧ cap ≤ 9223372036854775807 ∧ Nums W W.heap.size A l := by
 rcases open_ints Tryd.underlying38 Tryd.underlying3 (by kernel_rfl) h with ⟨hcs, _⟩ | ⟨a, len, cap, zs, hcs, _, hl, hm, hz, _, hcell, hwz⟩
 ·exact ⟨none, 0, 0, [], hcs, rfl, Nat.le_refl _, by omega, NumsK.nil⟩
 ·unfold maxLen at hm
  have hlen : (zs.take len).length = len := by
   rw [List.length_take]
   have : zs.length = cap ∨ zs.length = len := by rw [hz]; split <;> simp
   omega
  refine ⟨some a, len, cap, zs.take len, hcs, hlen, hl, hm, fun hp => ?_⟩
  obtain ⟨b, off, rfl, hcell'⟩ := ints_at hcell (by rw [List.length_take] at hp; omega)
  have h0 := hcell' 0 (by rw [List.length_take] at hp; omega)
  refine ⟨b, off, rfl, ?_, fun i y hy => ?_⟩
  ·rcases Nat.lt_or_ge b W.heap.size with h1 | h1
   ·exact h1
   ·simp [World.cell?, Array.getElem?_eq_none h1] at h0
  ·rw [List.getElem?_take] at hy
   split at hy
   ·have hi := (List.getElem?_eq_some_iff.1 hy).1
    rw [hcell' i hi]
    simp [List.getD, hy]
   ·cases hy
theorem tr_list4 {α : Type} {l : List α} (h : l.length = 4) : ∃ a b c d, l = [a, b, c, d] := by
 match l, h with
 | [a, b, c, d], _ => exact ⟨a, b, c, d, rfl⟩
set_option maxRecDepth 100000 in
theorem open_nodes {H : Type} {enc : TypeId × Value → H} {W : World} {fuel : Nat} {cs : List Value} {x : DataW H × List MemPlace} {sp : Nat → Bool} (h : DataW.trod enc Tryd.prog W 0 sp true fuel 24 cs = some x) :
  ∃ A len cap T, cs = [.slice A len cap] ∧ List.length T = len ∧ len ≤ cap ∧ cap ≤ 9223372036854775807 ∧ NdsAt W W.heap.size A T := by
 have hC : Tryd.prog.cellsOf 40 = 4 := by kernel_rfl
 have hCi : Tryd.prog.cellsOf 3 = 1 := by kernel_rfl
 have hCs : Tryd.prog.cellsOf 38 = 1 := by kernel_rfl
 rcases open_slice Tryd.underlying24 h with ⟨hcs, _⟩ | ⟨a, len, cap, m, n, D, Pl, hcs, hb, hl, hm, hmm, _, hx⟩
 ·exact ⟨none, 0, 0, [], hcs, rfl, Nat.le_refl _, by omega, NdsAt.nil⟩
 ·unfold maxLen at hm
  have hlm : len ≤ m := by rw [hmm]; split <;> omega
  have each : ∀ i, i < len → ∃ e : Ne × Nd, W.cell? (a.add (i * 4)) = some (.int .i64 e.1.k) ∧ W.cell? (a.add (i * 4 + 1)) = some (.int .i64 e.1.f) ∧ W.cell? (a.add (i * 4 + 2)) = some (.int .i64 e.1.t) ∧ W.cell? (a.add (i * 4 + 3)) = some (.slice e.1.A e.1.n e.1.c) ∧ IsNd W W.heap.size e.1 e.2 := fun i hi => by
   obtain ⟨cs', h1, h2⟩ := hx i (by omega)
   rw [hC] at h1
   obtain ⟨_, hlen, hcell⟩ := World.cells?_some h1
   obtain ⟨xs, k, _, _, _, hxl, hf⟩ := DataW.trod_struct Tryd.underlying40 h2
   obtain ⟨c0, c1, c2, c3, rfl⟩ := tr_list4 hlen
   obtain ⟨y0, y1, y2, y3, rfl⟩ := tr_list4 (show xs.length = 4 from hxl)
   have g0 := hf 0 _ rfl
   have g1 := hf 1 _ rfl
   have g2 := hf 2 _ rfl
   have g3 := hf 3 _ rfl
   simp [hCi, hCs] at g0 g1 g2 g3
   obtain ⟨e0, h0, _, _⟩ := DataW.trod_int Tryd.underlying3 g0
   obtain ⟨e1, h1', _, _⟩ := DataW.trod_int Tryd.underlying3 g1
   obtain ⟨e2, h2', _, _⟩ := DataW.trod_int Tryd.underlying3 g2
   obtain ⟨K, q, c, l, h3', k1, k2, k3, k4⟩ := tr_nums g3
   have d0 := hcell 0 (by omega)
   have d1 := hcell 1 (by omega)
   have d2 := hcell 2 (by omega)
   have d3 := hcell 3 (by omega)
   rw [add_add] at d0 d1 d2 d3
   simp at h0 h1' h2' h3' d0 d1 d2 d3
   exact ⟨(⟨e0, e1, e2, K, q, c⟩, ⟨e0, e1, e2, l⟩), by rw [d0, h0], by rw [d1, h1'], by rw [d2, h2'], by rw [d3, h3'], rfl, rfl, rfl, k1.symm, k2, k3, k4⟩
  have pick : ∃ F : Nat → Ne × Nd, ∀ i, i < len → W.cell? (a.add (i * 4)) = some (.int .i64 (F i).1.k) ∧ W.cell? (a.add (i * 4 + 1)) = some (.int .i64 (F i).1.f) ∧ W.cell? (a.add (i * 4 + 2)) = some (.int .i64 (F i).1.t) ∧ W.cell? (a.add (i * 4 + 3)) = some (.slice (F i).1.A (F i).1.n (F i).1.c) ∧ IsNd W W.heap.size (F i).1 (F i).2 := by
   refine ⟨fun i => if hi : i < len then (each i hi).choose else default, fun i hi => ?_⟩
   simp only [dif_pos hi]
   exact (each i hi).choose_spec
  obtain ⟨F, hF⟩ := pick
  refine ⟨some a, len, cap, (List.range len).map fun i => (F i).2, hcs, by simp, hl, hm, (List.range len).map (fun i => (F i).1), fun hp => ?_, by simp, fun i y d hy hd => ?_⟩
  ·have hp' : 0 < len := by simpa using hp
   have h0 := (hF 0 hp').1
   obtain ⟨b, off, spot⟩ := a
   have hspot : spot = none := by simpa [Addr.add] using World.cell?_spot h0
   subst hspot
   have hadd : ∀ j, (⟨b, off, none⟩ : Addr).add j = ⟨b, off + j, none⟩ := fun j => Go.WideShapes.add_plain _ _ _
   refine ⟨b, off, rfl, ?_, fun j u hu => ?_⟩
   ·rcases Nat.lt_or_ge b W.heap.size with h1 | h1
    ·exact h1
    ·rw [hadd] at h0
     simp [World.cell?, Array.getElem?_eq_none h1] at h0
   ·have hj := (List.getElem?_eq_some_iff.1 hu).1
    rw [flat_length ne_enc, List.length_map, List.length_range] at hj
    have hx : ((List.range len).map fun i => (F i).1)[j / 4]? = some (F (j / 4)).1 := by
     rw [List.getElem?_map, List.getElem?_range (by omega)]
     rfl
    obtain ⟨c0, c1, c2, c3, _⟩ := hF (j / 4) (by omega)
    rw [hadd] at c0 c1 c2 c3
    rcases (show j % 4 = 0 ∨ j % 4 = 1 ∨ j % 4 = 2 ∨ j % 4 = 3 by omega) with h2 | h2 | h2 | h2
    ·have := flat_get ne_enc (j := 0) hx rfl
     rw [show j / 4 * 4 + 0 = j by omega] at this
     rw [this] at hu
     cases hu
     rw [show off + j = off + j / 4 * 4 by omega]
     exact c0
    ·have := flat_get ne_enc (j := 1) hx rfl
     rw [show j / 4 * 4 + 1 = j by omega] at this
     rw [this] at hu
     cases hu
     rw [show off + j = off + (j / 4 * 4 + 1) by omega]
     exact c1
    ·have := flat_get ne_enc (j := 2) hx rfl
     rw [show j / 4 * 4 + 2 = j by omega] at this
     rw [this] at hu
     cases hu
     rw [show off + j = off + (j / 4 * 4 + 2) by omega]
     exact c2
    ·have := flat_get ne_enc (j := 3) hx rfl
     rw [show j / 4 * 4 + 3 = j by omega] at this
     rw [this] at hu
     cases hu
     rw [show off + j = off + (j / 4 * 4 + 3) by omega]
     exact c3
  ·have hi : i < len := by have := (List.getElem?_eq_some_iff.1 hy).1; simpa using this
   rw [List.getElem?_map, List.getElem?_range hi] at hy hd
   cases hy
   cases hd
   exact (hF i hi).2.2.2.2
end Go.Proofs.YtpjgapnihmiceaaDoor
namespace Go.Proofs.YtpjgapnihmiceaaDoor
set_option maxRecDepth 100000
open Go.ChangeShapes Go.WideShapes Go.ChangeAt Go.RowKit Go.Deep
theorem vw_bytes {H : Type} {enc : TypeId × Value → H} {W : World} {fuel : Nat} {cs : List Value} {x : DataW H × List MemPlace} {sp : Nat → Bool} (h : DataW.trod enc Tryd.prog W 0 sp true fuel 22 cs = some x) :
  ∃ A len cap l, cs = [.slice A len cap] ∧ l.length = len ∧ len ≤ cap ∧ cap ≤ 9223372036854775807 ∧ Byts W W.heap.size A l := by
 rcases open_ints Tryd.underlying22 Tryd.underlying5 (by kernel_rfl) h with ⟨hcs, _⟩ | ⟨x, l, c, zs, hcs, _, hl, hm, hz, _, hcell, hwz⟩
 ·exact ⟨none, 0, 0, [], hcs, rfl, Nat.le_refl _, by omega, Byts.nil⟩
 ·unfold maxLen at hm
  have hlz : l ≤ zs.length := by rw [hz]; split <;> omega
  have hlen : (zs.take l).length = l := by rw [List.length_take]; omega
  refine ⟨some x, l, c, zs.take l, hcs, hlen, hl, hm, ⟨fun n hn => bounds_u8 (hwz n (List.mem_of_mem_take hn)), fun hp => ?_⟩⟩
  obtain ⟨b, off, rfl, hc⟩ := ints_at hcell (by omega)
  have h0 := hc 0 (by omega)
  refine ⟨b, off, rfl, ?_, fun i y hy => ?_⟩
  ·rcases Nat.lt_or_ge b W.heap.size with h1 | h1
   ·exact h1
   ·simp [World.cell?, Array.getElem?_eq_none h1] at h0
  ·rw [List.getElem?_take] at hy
   split at hy
   ·have hi := (List.getElem?_eq_some_iff.1 hy).1
    rw [hc i hi]
    simp [List.getD, hy]
   ·cases hy
theorem vw_list5 {α : Type} {l : List α} (h : l.length = 5) : ∃ a b c d e, l = [a, b, c, d, e] := by
 match l, h with
 | [a, b, c, d, e], _ => exact ⟨a, b, c, d, e, rfl⟩
set_option maxRecDepth 100000 in
theorem vw_toks {H : Type} {enc : TypeId × Value → H} {W : World} {fuel : Nat} {cs : List Value} {x : DataW H × List MemPlace} {sp : Nat → Bool} (h : DataW.trod enc Tryd.prog W 0 sp true fuel 23 cs = some x) :
  ∃ A len cap l, cs = [.slice A len cap] ∧ l.length = len ∧ len ≤ cap ∧ cap ≤ 9223372036854775807 ∧ CellsV tvCells W W.heap.size A l := by
 have hC : Tryd.prog.cellsOf 68 = 5 := by kernel_rfl
 have hCi : Tryd.prog.cellsOf 3 = 1 := by kernel_rfl
 have hCb : Tryd.prog.cellsOf 4 = 1 := by kernel_rfl
 have hCe : Tryd.prog.cellsOf 59 = 1 := by kernel_rfl
 rcases open_slice Tryd.underlying23 h with ⟨hcs, _⟩ | ⟨a, len, cap, m, n, D, Pl, hcs, hb, hl, hm, hmm, _, hx⟩
 ·exact ⟨none, 0, 0, [], hcs, rfl, Nat.le_refl _, by omega, CellsV.nil⟩
 ·unfold maxLen at hm
  have hlm : len ≤ m := by rw [hmm]; split <;> omega
  have each : ∀ i, i < len → ∃ e : Tv, W.cell? (a.add (i * 5)) = some (.int .i64 e.k) ∧ W.cell? (a.add (i * 5 + 1)) = some (.int .i64 e.f) ∧ W.cell? (a.add (i * 5 + 2)) = some (.int .i64 e.t) ∧ W.cell? (a.add (i * 5 + 3)) = some (.bool e.a) ∧ W.cell? (a.add (i * 5 + 4)) = some (.int .i64 e.e) := fun i hi => by
   obtain ⟨cs', h1, h2⟩ := hx i (by omega)
   rw [hC] at h1
   obtain ⟨_, hlen, hcell⟩ := World.cells?_some h1
   obtain ⟨xs, k, _, _, _, hxl, hf⟩ := DataW.trod_struct Tryd.underlying68 h2
   obtain ⟨c0, c1, c2, c3, c4, rfl⟩ := vw_list5 hlen
   obtain ⟨y0, y1, y2, y3, y4, rfl⟩ := vw_list5 (show xs.length = 5 from hxl)
   have g0 := hf 0 _ rfl
   have g1 := hf 1 _ rfl
   have g2 := hf 2 _ rfl
   have g3 := hf 3 _ rfl
   have g4 := hf 4 _ rfl
   simp [hCi, hCb, hCe] at g0 g1 g2 g3 g4
   obtain ⟨e0, h0, _, _⟩ := DataW.trod_int Tryd.underlying3 g0
   obtain ⟨e1, h1', _, _⟩ := DataW.trod_int Tryd.underlying3 g1
   obtain ⟨e2, h2', _, _⟩ := DataW.trod_int Tryd.underlying3 g2
   obtain ⟨e3, h3', _⟩ := DataW.trod_bool Tryd.underlying4 g3
   obtain ⟨e4, h4', _, _⟩ := DataW.trod_int Tryd.underlying59 g4
   have d0 := hcell 0 (by omega)
   have d1 := hcell 1 (by omega)
   have d2 := hcell 2 (by omega)
   have d3 := hcell 3 (by omega)
   have d4 := hcell 4 (by omega)
   rw [add_add] at d0 d1 d2 d3 d4
   simp at h0 h1' h2' h3' h4' d0 d1 d2 d3 d4
   exact ⟨⟨e0, e1, e2, e3, e4⟩, by rw [d0, h0], by rw [d1, h1'], by rw [d2, h2'], by rw [d3, h3'], by rw [d4, h4']⟩
  have pick : ∃ F : Nat → Tv, ∀ i, i < len → W.cell? (a.add (i * 5)) = some (.int .i64 (F i).k) ∧ W.cell? (a.add (i * 5 + 1)) = some (.int .i64 (F i).f) ∧ W.cell? (a.add (i * 5 + 2)) = some (.int .i64 (F i).t) ∧ W.cell? (a.add (i * 5 + 3)) = some (.bool (F i).a) ∧ W.cell? (a.add (i * 5 + 4)) = some (.int .i64 (F i).e) := by
   refine ⟨fun i => if hi : i < len then (each i hi).choose else ⟨0, 0, 0, false, 0⟩, fun i hi => ?_⟩
   simp only [dif_pos hi]
   exact (each i hi).choose_spec
  obtain ⟨F, hF⟩ := pick
  refine ⟨some a, len, cap, (List.range len).map F, hcs, by simp, hl, hm, fun hp => ?_⟩
  have hp' : 0 < len := by simpa using hp
  have h0 := (hF 0 hp').1
  obtain ⟨b, off, spot⟩ := a
  have hspot : spot = none := by simpa [Addr.add] using World.cell?_spot h0
  subst hspot
  have hadd : ∀ j, (⟨b, off, none⟩ : Addr).add j = ⟨b, off + j, none⟩ := fun j => Go.WideShapes.add_plain _ _ _
  refine ⟨b, off, rfl, ?_, fun j u hu => ?_⟩
  ·rcases Nat.lt_or_ge b W.heap.size with h1 | h1
   ·exact h1
   ·rw [hadd] at h0
    simp [World.cell?, Array.getElem?_eq_none h1] at h0
  ·have hj := (List.getElem?_eq_some_iff.1 hu).1
   rw [flat_length tv_enc, List.length_map, List.length_range] at hj
   have hx : ((List.range len).map F)[j / 5]? = some (F (j / 5)) := by
    rw [List.getElem?_map, List.getElem?_range (by omega)]
    rfl
   obtain ⟨c0, c1, c2, c3, c4⟩ := hF (j / 5) (by omega)
   rw [hadd] at c0 c1 c2 c3 c4
   rcases (show j % 5 = 0 ∨ j % 5 = 1 ∨ j % 5 = 2 ∨ j % 5 = 3 ∨ j % 5 = 4 by omega) with h2 | h2 | h2 | h2 | h2
   ·have := flat_get tv_enc (j := 0) hx rfl
    rw [show j / 5 * 5 + 0 = j by omega] at this
    rw [this] at hu
    cases hu
    rw [show off + j = off + j / 5 * 5 by omega]
    exact c0
   ·have := flat_get tv_enc (j := 1) hx rfl
    rw [show j / 5 * 5 + 1 = j by omega] at this
    rw [this] at hu
    cases hu
    rw [show off + j = off + (j / 5 * 5 + 1) by omega]
    exact c1
   ·have := flat_get tv_enc (j := 2) hx rfl
    rw [show j / 5 * 5 + 2 = j by omega] at this
    rw [this] at hu
    cases hu
    rw [show off + j = off + (j / 5 * 5 + 2) by omega]
    exact c2
   ·have := flat_get tv_enc (j := 3) hx rfl
    rw [show j / 5 * 5 + 3 = j by omega] at this
    rw [this] at hu
    cases hu
    rw [show off + j = off + (j / 5 * 5 + 3) by omega]
    exact c3
   ·have := flat_get tv_enc (j := 4) hx rfl
    rw [show j / 5 * 5 + 4 = j by omega] at this
    rw [this] at hu
    cases hu
    rw [show off + j = off + (j / 5 * 5 + 4) by omega]
    exact c4
theorem vw_tree {H : Type} {enc : TypeId × Value → H} {W : World} {fuel : Nat} {cs : List Value} {x : DataW H × List MemPlace} {sp : Nat → Bool} (hl : cs.length = 1) (h : DataW.trod enc Tryd.prog W 0 sp true fuel 26 cs = some x) :
  ∃ A n c T, cs = [.slice A n c] ∧ List.length T = n ∧ n ≤ c ∧ c ≤ 9223372036854775807 ∧ NdsAt W W.heap.size A T := by
 have hu := Tryd.underlying26
 have hCs : Tryd.prog.cellsOf 24 = 1 := by kernel_rfl
 obtain ⟨xs, k, _, _, _, hxl, hg⟩ := DataW.trod_struct hu h
 match cs, hl with
 | [c0], _ =>
  match xs, hxl with
  | [y0], _ =>
   have g0 := hg 0 _ rfl
   simp [hCs] at g0
   obtain ⟨A, n, c, T, k1, k2, k3, k4, k5⟩ := open_nodes g0
   simp at k1
   exact ⟨A, n, c, T, by rw [k1], k2, k3, k4, k5⟩
theorem vw_list3 {α : Type} {l : List α} (h : l.length = 3) : ∃ a b c, l = [a, b, c] := by
 match l, h with
 | [a, b, c], _ => exact ⟨a, b, c, rfl⟩
theorem open_src {H : Type} {enc : TypeId × Value → H} {W : World} {b0 : Nat} {sp : Nat → Bool} {v : Value} {d : DataW H} {p : List MemPlace} (hv : Value.okWide Tryd.prog W .any b0 28 v) (h : DataW.Trod enc Tryd.prog W 0 sp true 28 v d p) :
  ∃ A1 n1 c1 A2 n2 c2 A n c l L T, v = .agg #[.slice A1 n1 c1, .slice A2 n2 c2, .slice A n c] ∧ (List.length l = n1 ∧ n1 ≤ c1 ∧ c1 ≤ 9223372036854775807 ∧ Byts W W.heap.size A1 l) ∧ (List.length L = n2 ∧ n2 ≤ c2 ∧ c2 ≤ 9223372036854775807 ∧ CellsV tvCells W W.heap.size A2 L) ∧ (List.length T = n ∧ n ≤ c ∧ c ≤ 9223372036854775807 ∧ NdsAt W W.heap.size A T) := by
 have hu := Tryd.underlying28
 have hC : Tryd.prog.cellsOf 28 = 3 := by kernel_rfl
 have hC1 : Tryd.prog.cellsOf 22 = 1 := by kernel_rfl
 have hC2 : Tryd.prog.cellsOf 23 = 1 := by kernel_rfl
 have hC3 : Tryd.prog.cellsOf 26 = 1 := by kernel_rfl
 simp only [Value.okWide, hu] at hv
 obtain ⟨cs, rfl, h2, _⟩ := hv
 obtain ⟨fuel, hf⟩ := h
 obtain ⟨xs, k, _, _, _, hxl, hg⟩ := DataW.trod_struct hu hf
 obtain ⟨q⟩ := cs
 obtain ⟨a0, a1, a2, rfl⟩ := vw_list3 (show q.length = 3 by simpa [hC] using h2)
 obtain ⟨y0, y1, y2, rfl⟩ := vw_list3 (show xs.length = 3 from hxl)
 have g0 := hg 0 _ rfl
 have g1 := hg 1 _ rfl
 have g2 := hg 2 _ rfl
 simp [hC1, hC2, hC3, Value.cells] at g0 g1 g2
 obtain ⟨A1, n1, c1, l, k1, k2, k3, k4, k5⟩ := vw_bytes g0
 obtain ⟨A2, n2, c2, L, j1, j2, j3, j4, j5⟩ := vw_toks g1
 obtain ⟨A, n, c, T, i1, i2, i3, i4, i5⟩ := vw_tree rfl g2
 simp at k1 j1 i1
 exact ⟨A1, n1, c1, A2, n2, c2, A, n, c, l, L, T, by rw [k1, j1, i1], ⟨k2, k3, k4, k5⟩, ⟨j2, j3, j4, j5⟩, ⟨i2, i3, i4, i5⟩⟩
end Go.Proofs.YtpjgapnihmiceaaDoor
