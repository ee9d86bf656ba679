/-
  Layer 11 (scan): Tokens.
-/
import Derived.Test.YtgkhjeefcflmcaaGreatDoorMt39
import Derived.Test.YtgkhjeefcflmcaaGreatDoorMt33
import Derived.Deep.QuietTactic
import Derived.BigQuiet
namespace Go.Proofs.YtgkhjeefcflmcaaGreatDoor
open Go.RowKit Go.Sort Go.Shelf
set_option linter.unusedSimpArgs false
set_option linter.unusedVariables false
attribute [local go_sem] Oper.semAt_some
theorem pieces_frm (y : Pi) (h : y.p.k ≠ 0) (last : Nat) : stO y.p y.x last = [⟨y.p.k, y.x, y.x + y.p.s, false, y.p.e⟩] := if_neg h
theorem own_ne {W : World} {S b : Nat} {v : Value} {L : List TkN} {cs : Array Value} {T : TypeId} {fr : Nat × Nat} (ho : OwnV tkC 5 37 W S v L) (hb : W.heap[b]? = some (Obj.cells cs T fr)) (hT : T ≠ 37) : some b ≠ v.ownBlock := fun e => by
 obtain ⟨cs', fr', h⟩ := ho.isCells e.symm
 rw [h] at hb
 cases hb
 exact hT rfl
theorem tok_after {w W w3 : World} {S : Nat} {c : Obj} {v v' : Value} {L R : List TkN} (hS : w.heap.size = S) (hz : S + 4 ≤ W.heap.size) (b1 : Boxed W S 23 (.slice none 0 0)) (b2 : Boxed W (S + 1) 25 .nilIface) (b3 : Boxed W (S + 1 + 1) 23 v)
  (ho : OwnV tkC 5 37 W S v L) (hB1 : Below S w W) (g3 : (W.alloc c).grownBy w3 v.ownBlock) (o3 : OwnV tkC 5 37 w3 S v' R) :
  Boxed w3 (S + 1 + 1) 23 v ∧ (KeepsOthers W (w3.setCell ⟨S + 1 + 1, 0, none⟩ v') ∧ KpS S W (w3.setCell ⟨S + 1 + 1, 0, none⟩ v') ∧
   (Boxed (w3.setCell ⟨S + 1 + 1, 0, none⟩ v') S 23 (.slice none 0 0) ∧ Boxed (w3.setCell ⟨S + 1 + 1, 0, none⟩ v') (S + 1) 25 .nilIface ∧ (∃ u, Boxed (w3.setCell ⟨S + 1 + 1, 0, none⟩ v') (S + 1 + 1) 23 u ∧ OwnV tkC 5 37 (w3.setCell ⟨S + 1 + 1, 0, none⟩ v') S u R) ∧ S + 4 ≤ (w3.setCell ⟨S + 1 + 1, 0, none⟩ v').heap.size) ∧ Below S w (w3.setCell ⟨S + 1 + 1, 0, none⟩ v')) := by
 have oA : OwnV tkC 5 37 (W.alloc c) S v L := ho.alloc c
 have k : ∀ {b : Nat} {u : Value} {T : TypeId}, Boxed W b T u → T ≠ 37 → Boxed w3 b T u := fun hb hT => (hb.alloc c).kept g3 (own_ne oA (hb.alloc c) hT)
 have c1 := k b1 (by decide)
 have c2 := k b2 (by decide)
 have c3 := k b3 (by decide)
 have hA : S ≤ (W.alloc c).heap.size := by simp; omega
 have hne : some (S + 1 + 1) ≠ v'.ownBlock := own_ne o3 c3 (by decide)
 refine ⟨c3, ?_, ?_, ⟨c1.other (by omega) _, c2.other (by omega) _, ⟨v', c3.set _, ownsRow_setCell_other o3 (fun e => hne e.symm) _⟩, ?_⟩, ?_⟩
 ·exact (((KeepsOthers.alloc W c).trans (KeepsOthers.of_grownBy g3 (fun j o hj ho' => by
   obtain ⟨cs, fr, h⟩ := oA.isCells hj
   rw [h] at ho'
   cases ho'
   rfl))).trans (KeepsOthers.setCell _ _ _))
 ·exact (KpS.of_below (by omega) ((Below.refl _ W).alloc (Nat.le_refl _) _)).trans ((KpS.grown oA hA g3).trans (KpS.set (by omega) c3 ⟨by decide, by decide⟩))
 ·have h1 := g3.size
  simp at h1 ⊢
  omega
 ·exact ((hB1.alloc (by omega) c).grown g3 hA (ownV_ge oA)).setCell (p := ⟨S + 1 + 1, 0, none⟩) (by show S ≤ S + 1 + 1; omega) _
set_option maxRecDepth 100000 in
set_option maxHeartbeats 8000000 in
theorem TokensP_run (A : Option Addr) (n cap B : Nat) (l : List UInt8) (w : World) (K : Kit11 w) (hb : Byts w B A (bi l)) (hB : B ≤ w.heap.size) (hn : l.length = n) (hm : n ≤ 900) (hcap : n ≤ cap) (hcm : cap ≤ 9223372036854775807) :
    Calls Tryz.prog 7 #[.slice A n cap] w fun e w' => ∃ v, e = .returned (.tuple #[v, .nilIface]) ∧ OwnV tkC 5 37 w' w.heap.size v (toks l 0 0) ∧ Below w.heap.size w w' := by
  have htok := toks_pcs _ l 0 0 (Nat.le_refl _)
  have hmany := pcs_many _ l 0 (Nat.le_refl _)
  refine (callsIn_wide (n := 6)).1 ?_
  have h1 : 1 ≤ 6 := by omega
  have hro : Fence.wide.round = none := rfl
  have hnz : ¬ (n : Int) > 16777216 := by omega
  refine callsIn_of_wp_marks Tryz.func7 rfl trivial ?_ hro
  simp only [Tryz.ntmps7, List.size_toArray, List.length_cons, List.length_nil, Nat.reduceAdd, Nat.reduceSub, Array.replicate_succ, Array.replicate_zero, List.push_toArray, List.append_toArray, List.nil_append, List.cons_append]
  gi_wp2
  refine ⟨trivial, ?_⟩
  refine (callsIn_wide.2 (pieces_run A n cap _)).mono ?_
  rintro e w' ⟨rfl, rfl⟩
  gi_wp2
  have bR := (((Boxed.new w 23 (.slice none 0 0)).alloc (.cells #[.nilIface] 25)).alloc (.cells #[.slice none 0 0] 23)).alloc (.cells #[.slice A n cap] 22)
  have bE := ((Boxed.new (w.alloc (.cells #[.slice none 0 0] 23)) 25 .nilIface).alloc (.cells #[.slice none 0 0] 23)).alloc (.cells #[.slice A n cap] 22)
  have bL := (Boxed.new ((w.alloc (.cells #[.slice none 0 0] 23)).alloc (.cells #[.nilIface] 25)) 23 (.slice none 0 0)).alloc (.cells #[.slice A n cap] 22)
  have bA := Boxed.new (((w.alloc (.cells #[.slice none 0 0] 23)).alloc (.cells #[.nilIface] 25)).alloc (.cells #[.slice none 0 0] 23)) 22 (.slice A n cap)
  simp only [World.size_alloc] at bR bE bL bA
  have hB0 : Below w.heap.size w ((((w.alloc (.cells #[.slice none 0 0] 23)).alloc (.cells #[.nilIface] 25)).alloc (.cells #[.slice none 0 0] 23)).alloc (.cells #[.slice A n cap] 22)) :=
    ((((Below.refl _ w).alloc (Nat.le_refl _) _).alloc (by simp) _).alloc (by simp; omega) _).alloc (by simp; omega) _
  have hsz : ((((w.alloc (.cells #[.slice none 0 0] 23)).alloc (.cells #[.nilIface] 25)).alloc (.cells #[.slice none 0 0] 23)).alloc (.cells #[.slice A n cap] 22)).heap.size = w.heap.size + 4 := by simp
  obtain ⟨W0, hW0⟩ : ∃ W0, (((w.alloc (.cells #[.slice none 0 0] 23)).alloc (.cells #[.nilIface] 25)).alloc (.cells #[.slice none 0 0] 23)).alloc (.cells #[.slice A n cap] 22) = W0 := ⟨_, rfl⟩
  rw [hW0] at bR bE bL bA hB0 hsz ⊢
  clear hW0
  obtain ⟨S, hS⟩ : ∃ S, w.heap.size = S := ⟨_, rfl⟩
  have hbs : ∀ W, Below S w W → S ≤ W.heap.size := fun W h => by rw [← hS]; exact h.size
  rw [hS] at bR bE bL bA hB0 hsz hB ⊢
  refine wpIn_rangeFunc_ownH hro h1 (gf := 27) (lb := #[.pointer (some ⟨S + 1 + 1 + 1, 0, none⟩)]) rfl trivial (enters_of Tryz.func27 (by kernel_rfl) rfl)
    (pieces_stops (6 - 1) (by omega) (S + 1 + 1 + 1) S n cap B A l w W0 hS K hb hB hn hm hcap hcm hB0 bA) KpS.trans (KpS.putObj (by omega)) (Below.refl _ _) (fun _ => rfl)
    (fun pre W => (Boxed W S 23 (.slice none 0 0) ∧ Boxed W (S + 1) 25 .nilIface ∧ (∃ v, Boxed W (S + 1 + 1) 23 v ∧ OwnV tkC 5 37 W S v (tkO pre 0)) ∧ S + 4 ≤ W.heap.size) ∧ Below S w W)
    (fun c pre W => False)
    (OwnFrom.and (Own.from (fun s X Y row hs hg hr => ⟨cells_keep hs.1 hg hr, cells_keep hs.2.1 hg hr, (by obtain ⟨v, h1, h2⟩ := hs.2.2.1; exact ⟨v, cells_keep h1 hg hr, h2.keepRow hg hr⟩), Nat.le_trans hs.2.2.2 hg.size⟩) _) (ownFrom_below (by omega) (by omega)))
    (fun c _ _ _ _ hs _ _ => hs)
    ⟨⟨bR, bE, ⟨_, bL, OwnV.nil tkC 5 _ _ _⟩, by omega⟩, hB0⟩
    (fun y a' W => ∃ Bx, S + 3 < Bx ∧ PcBox W Bx y ∧ a' = { tmps := #[.slice A n cap, undef, .pointer (some ⟨S, 0, none⟩), .pointer (some ⟨S + 1, 0, none⟩), .pointer (some ⟨S + 1 + 1, 0, none⟩), .pointer (some ⟨Bx, 0, none⟩), .slice A n cap, .int .i64 (n : Int), .bool false, undef, .slice A n cap, .func (.func 27) #[] #[.pointer (some ⟨S + 1 + 1 + 1, 0, none⟩)], .agg #[.int .i64 (piAt y.p y.x).k, .int .i64 (piAt y.p y.x).f, .int .i64 (piAt y.p y.x).t, .bool (piAt y.p y.x).a, .int .i64 (piAt y.p y.x).e, .bool y.p.b], undef, undef, undef, undef, undef, undef, undef, undef, undef, undef, undef, undef, undef, undef, undef, undef, undef, undef, undef, undef, undef, undef, undef, undef, undef, undef, undef, undef, undef, undef, undef, undef], defers := [] })
    (fun y a' _ X Y row hs hg hr => by obtain ⟨Bx, h1, h2, h3⟩ := hs; exact ⟨Bx, h1, cells_keep h2 hg (fun r e => (hr r e).2), h3⟩)
    ?assign ?body ?done ?stop
  case assign =>
    rintro li pre y W K' ⟨⟨b1, b2, ⟨v, b3, ho⟩, hz⟩, hB1⟩ hK
    unfold encP
    gi_wp2
    exact hK _ _ ((KeepsOthers.alloc _ _).from _) (KpS.of_below (hbs _ hB1) ((Below.refl _ W).alloc (Nat.le_refl _) _)) ⟨⟨b1.alloc _, b2.alloc _, ⟨v, b3.alloc _, ho.alloc _⟩, by simp; omega⟩, hB1.alloc (hbs _ hB1) _⟩ ⟨W.heap.size, by omega, World.alloc_heap_new W _, rfl⟩
  case body =>
    rintro li pre y a' W hl ⟨r, hr⟩ ⟨⟨b1, b2, ⟨v, b3, ho⟩, hz⟩, hB1⟩ ⟨Bx, hBx, hbx, rfl⟩ hlt
    have hpl : pre.length ≤ 901 := by omega
    have hLl : (tkO pre 0).length ≤ 901 := Nat.le_trans (tkO_many pre 0) hpl
    have hsn := tkO_snoc pre y 0
    rw [lastO_is] at hsn
    have hbz := hbs _ hB1
    obtain ⟨L, hL⟩ : ∃ L, tkO pre 0 = L := ⟨_, rfl⟩
    rw [hL] at ho hLl hsn
    obtain ⟨A0, cap0, rfl, hc0, hc1, _⟩ := ho.cells
    obtain ⟨d0, d1, d2, d3, d4, d5⟩ := hbx.cell
    have e0 : W.cell? ⟨Bx, 0, none⟩ = some (.int .i64 (y.p.k : Int)) := d0
    have e1 : W.cell? ⟨Bx, 1, none⟩ = some (.int .i64 (y.x : Int)) := d1
    have e2 : W.cell? ⟨Bx, 2, none⟩ = some (.int .i64 ((y.x + y.p.s : Nat) : Int)) := d2
    have e3 : W.cell? ⟨Bx, 3, none⟩ = some (.bool false) := d3
    have e4 : W.cell? ⟨Bx, 4, none⟩ = some (.int .i64 (y.p.e : Int)) := d4
    have cL := b3.cell
    have fL := b3.frozen
    have hgt0 : ¬ ((L.length : Nat) : Int) > 1048576 := by omega
    clear d0 d1 d2 d3 d4 hL hmany htok
    by_cases hk : y.p.k = 0
    · have hk2 : ((y.p.k : Int) != 0) = false := by rw [hk]; rfl
      cases hbr : y.p.b with
      | false =>
        rw [hbr] at d5
        have hs0 : stO y.p y.x (lastK L) = [] := by unfold stO; rw [if_pos hk, if_neg (fun h => by rw [hbr] at h; cases h.1)]
        rw [hs0, List.append_nil] at hsn
        gi_wp2
        refine ⟨trivial, ?_⟩
        gi_wp2
        exact ⟨KeepsFrom.refl _ _, KpS.refl _ _, ⟨b1, b2, ⟨_, b3, by rw [hsn]; exact ho⟩, hz⟩, hB1⟩
      | true =>
        rw [hbr] at d5
        rw [stO_end hk hbr] at hsn
        have hES := endsSt_run _ L S W ho (by omega)
        cases he : endsA (lastK L : Int) with
        | false =>
          rw [he] at hES
          rw [stO_no rfl he, List.append_nil] at hsn
          gi_wp2
          refine ⟨trivial, ?_⟩
          refine (CallsIn.inRound li (callsIn_wide.2 hES)).mono ?_
          rintro e w2 ⟨rfl, rfl⟩
          gi_wp2
          exact ⟨KeepsFrom.refl _ _, KpS.refl _ _, ⟨b1, b2, ⟨_, b3, by rw [hsn]; exact ho⟩, hz⟩, hB1⟩
        | true =>
          rw [he] at hES
          rw [stO_yes he] at hsn
          have OA : Hid (OwnV tkC 5 37 (W.alloc (.cells #[.int .i64 86, .int .i64 (y.x : Int), .int .i64 (y.x : Int), .bool true, .int .i64 0] 37)) S (.slice A0 L.length cap0) L) := ho.alloc _
          have NA : Hid (CellsV tkC (W.alloc (.cells #[.int .i64 86, .int .i64 (y.x : Int), .int .i64 (y.x : Int), .bool true, .int .i64 0] 37)) (W.heap.size + 1) (some ⟨W.heap.size, 0, none⟩) [⟨86, y.x, y.x, true, 0⟩]) := one_tkn W ⟨86, y.x, y.x, true, 0⟩ _
          have hb2 : S ≤ (W.alloc (.cells #[.int .i64 86, .int .i64 (y.x : Int), .int .i64 (y.x : Int), .bool true, .int .i64 0] 37)).heap.size := by simp; omega
          obtain ⟨R, hR⟩ : ∃ R, L ++ [(⟨86, y.x, y.x, true, 0⟩ : TkN)] = R := ⟨_, rfl⟩
          have hRl : R.length ≤ 902 := by rw [← hR, List.length_append]; simp only [List.length_cons, List.length_nil]; omega
          have hgt1 : ¬ ((R.length : Nat) : Int) > 1048576 := by omega
          rw [hR] at hsn
          have hl5 : L.length ≤ 500000 := by omega
          gi_wp2
          refine ⟨trivial, ?_⟩
          refine (CallsIn.inRound li (callsIn_wide.2 hES)).mono ?_
          rintro e w2 ⟨rfl, rfl⟩
          gi_wp2_with
            (gi_at_builtin
             refine wpListIn_appV tkn_slice _ rfl (.tmp 30) (.tmp 38) rfl S _ L rfl OA.out (w2.heap.size + 1) (some ⟨w2.heap.size, 0, none⟩) 1 1 ([⟨86, y.x, y.x, true, 0⟩] : List TkN) rfl NA.out rfl hl5 (by simp) hb2 ?_
             intro v' w3 o3 g3 t3
             rw [hR] at o3
             obtain ⟨A3, cap3, rfl, hc3, hc4, _⟩ := o3.cells
             obtain ⟨c3, hfin⟩ := tok_after hS hz b1 b2 b3 ho hB1 g3 o3
             have cL3 := c3.cell
             have fL3 := c3.frozen
             have HF := Lib.hid hfin
             clear hfin o3 g3 t3)
          obtain ⟨q1, q2, ⟨q3, q4, ⟨u, q5, q6⟩, q7⟩, q8⟩ := HF.out
          exact ⟨q1.from _, q2, ⟨q3, q4, ⟨u, q5, by rw [hsn]; exact q6⟩, q7⟩, q8⟩
    · have hk2 : ((y.p.k : Int) != 0) = true := by rw [bne, beq_eq_false_iff_ne.2 (by omega)]; rfl
      rw [pieces_frm y hk] at hsn
      obtain ⟨E, hE⟩ : ∃ E, y.x + y.p.s = E := ⟨_, rfl⟩
      rw [hE] at e2 hsn
      have d2' : (piAt y.p y.x).t = (E : Int) := by rw [← hE]; rfl
      clear hE
      have OA : Hid (OwnV tkC 5 37 (W.alloc (.cells #[.int .i64 (y.p.k : Int), .int .i64 (y.x : Int), .int .i64 (E : Int), .bool false, .int .i64 (y.p.e : Int)] 37)) S (.slice A0 L.length cap0) L) := ho.alloc _
      have NA : Hid (CellsV tkC (W.alloc (.cells #[.int .i64 (y.p.k : Int), .int .i64 (y.x : Int), .int .i64 (E : Int), .bool false, .int .i64 (y.p.e : Int)] 37)) (W.heap.size + 1) (some ⟨W.heap.size, 0, none⟩) [⟨y.p.k, y.x, E, false, y.p.e⟩]) := one_tkn W ⟨y.p.k, y.x, E, false, y.p.e⟩ _
      have hb2 : S ≤ (W.alloc (.cells #[.int .i64 (y.p.k : Int), .int .i64 (y.x : Int), .int .i64 (E : Int), .bool false, .int .i64 (y.p.e : Int)] 37)).heap.size := by simp; omega
      obtain ⟨R, hR⟩ : ∃ R, L ++ [(⟨y.p.k, y.x, E, false, y.p.e⟩ : TkN)] = R := ⟨_, rfl⟩
      have hRl : R.length ≤ 902 := by rw [← hR, List.length_append]; simp only [List.length_cons, List.length_nil]; omega
      have hgt1 : ¬ ((R.length : Nat) : Int) > 1048576 := by omega
      rw [hR] at hsn
      have hl5 : L.length ≤ 500000 := by omega
      gi_wp2_with
        (gi_at_builtin
         refine wpListIn_appV tkn_slice _ rfl (.tmp 18) (.tmp 21) rfl S _ L rfl OA.out (W.heap.size + 1) (some ⟨W.heap.size, 0, none⟩) 1 1 ([⟨y.p.k, y.x, E, false, y.p.e⟩] : List TkN) rfl NA.out rfl hl5 (by simp) hb2 ?_
         intro v' w3 o3 g3 t3
         rw [hR] at o3
         obtain ⟨A3, cap3, rfl, hc3, hc4, _⟩ := o3.cells
         obtain ⟨c3, hfin⟩ := tok_after hS hz b1 b2 b3 ho hB1 g3 o3
         have cL3 := c3.cell
         have fL3 := c3.frozen
         have HF := Lib.hid hfin
         clear hfin o3 g3 t3)
      obtain ⟨q1, q2, ⟨q3, q4, ⟨u, q5, q6⟩, q7⟩, q8⟩ := HF.out
      exact ⟨q1.from _, q2, ⟨q3, q4, ⟨u, q5, by rw [hsn]; exact q6⟩, q7⟩, q8⟩
  case done =>
    rintro D ys W hD rfl ⟨⟨b1, b2, ⟨v, b3, ho⟩, hz⟩, hB1⟩ hK
    rw [htok] at ho
    obtain ⟨A0, cap0, rfl, hc0, hc1, _⟩ := ho.cells
    have cR := b1.cell
    have fR := b1.frozen
    have cE := b2.cell
    have fE := b2.frozen
    have cL := b3.cell
    have n1 : some S ≠ (Value.slice A0 (toks l 0 0).length cap0).ownBlock := own_ne ho b1 (by decide)
    have n2 : some (S + 1) ≠ (Value.slice A0 (toks l 0 0).length cap0).ownBlock := own_ne ho b2 (by decide)
    obtain ⟨vv, hvv⟩ : ∃ vv, Value.slice A0 (toks l 0 0).length cap0 = vv := ⟨_, rfl⟩
    have HVV := Lib.hid hvv
    clear hvv
    gi_wp2
    rw [HVV.out]
    rw [HVV.out] at ho n1 n2
    have o1 : OwnV tkC 5 37 (W.setCell ⟨S, 0, none⟩ vv) S vv (toks l 0 0) := ownsRow_setCell_other ho (fun e => n1 e.symm) _
    have o2 : OwnV tkC 5 37 ((W.setCell ⟨S, 0, none⟩ vv).setCell ⟨S + 1, 0, none⟩ .nilIface) S vv (toks l 0 0) := ownsRow_setCell_other o1 (fun e => n2 e.symm) _
    have x1 := (b1.set vv).other (B' := S + 1) (by omega) .nilIface
    have x2 := (b2.other (B' := S) (by omega) vv).set .nilIface
    have hK' := ((KeepsOthers.setCell W ⟨S, 0, none⟩ vv).trans (KeepsOthers.setCell _ ⟨S + 1, 0, none⟩ .nilIface)).same D _ hK rfl
    refine ⟨by simp, .inl ⟨_, _, rfl, run_takeDeferred hK', ?_⟩⟩
    have hc5 := cell_kept x1.cell (grownBy_putObj' _ D (.deferred none)) (fun r e => by cases e; exact ⟨_, hK', rfl⟩)
    have hc6 := cell_kept x2.cell (grownBy_putObj' _ D (.deferred none)) (fun r e => by cases e; exact ⟨_, hK', rfl⟩)
    refine ⟨.tuple #[vv, .nilIface], ?_, vv, rfl, ?_, ?_⟩
    · simp [results, Tryz.f7, go_sem, hc5, hc6]
    · rw [hS]
      exact ownsRow_putObj o2 _ hK' rfl
    · rw [hS]
      have := ((hB1.setCell (p := ⟨S, 0, none⟩) (Nat.le_refl _) vv).setCell (p := ⟨S + 1, 0, none⟩) (Nat.le_succ S) .nilIface).trans ((Below.refl S _).grown (grownBy_putObj' _ D (.deferred none)) (by have := (Array.getElem?_eq_some_iff.1 hK').1; omega) (fun k e => by cases e; omega))
      exact this
  case stop =>
    rintro D c pre W _ _ h
    exact h.elim
end Go.Proofs.YtgkhjeefcflmcaaGreatDoor
namespace Go.Proofs.YtgkhjeefcflmcaaGreatDoor
open Go.RowKit Go.Sort
set_option linter.unusedSimpArgs false
set_option linter.unusedVariables false
theorem neqTok (k f t : Int) (a : Bool) (e k' f' t' : Int) (a' : Bool) (e' : Int) (w : World) : (binOp .neq 37 (.agg #[.int .i64 k, .int .i64 f, .int .i64 t, .bool a, .int .i64 e]) (.agg #[.int .i64 k', .int .i64 f', .int .i64 t', .bool a', .int .i64 e'])).run Tryz.prog w = .ok (.bool (!(k == k' && (f == f' && (t == t' && (a == a' && e == e')))))) w := by
 have u3 := Tryz.underlying3
 have a3 := Tryz.isAgg3
 have z3 := Tryz.sizeOf3
 have u4 := Tryz.underlying4
 have a4 := Tryz.isAgg4
 have z4 := Tryz.sizeOf4
 have u5 := Tryz.underlying35
 have a5 := Tryz.isAgg35
 have z5 := Tryz.sizeOf35
 have hS : Tryz.prog.underlying 37 = some (.struct (Tryz.prog.fieldsOf 37)) := by kernel_rfl
 have hp : Tryz.prog.stoodInHeld 37 = false := by kernel_rfl
 rw [run_neq_struct, show (10000 : Nat) = 9999 + 1 from rfl, run_equalIn_agg w 9999 37 _ _ hS hp]
 simp only [Program.fieldsOf, Tryz.underlying37]
 go_simp
 by_cases h1 : k = k' <;> by_cases h2 : f = f' <;> by_cases h3 : t = t' <;> by_cases h4 : a = a' <;> by_cases h5 : e = e' <;> simp [h1, h2, h3, h4, h5]
set_option maxRecDepth 100000 in
set_option maxHeartbeats 8000000 in
theorem SameT_run (A1 A2 : Option Addr) (n cap1 cap2 : Nat) (l : List Tk) (w : World) {B1 B2 : Nat} (hb1 : CellsV tkCells w B1 A1 l) (hb2 : CellsV tkCells w B2 A2 l) (hl : l.length = n) (hn : n ≤ 2000) :
  Calls Tryz.prog 8 #[.slice A1 n cap1, .slice A2 n cap2] w fun e w' => e = .returned (.bool true) ∧ ∃ q, w' = w.drewN q := by
 have HB1 := Lib.hid hb1
 have HB2 := Lib.hid hb2
 have HL := Lib.hid hl
 have hN := neqTok
 have h0 : ((n : Int) != (n : Int)) = false := by simp
 clear hb1 hb2 hl
 go_enter Tryz.func8, Tryz.ntmps8
 go_wp2_with fail
 go_loopg [5] (n + 1) (fun h s5 wr => ∃ i : Nat, s5 = .int .i64 i ∧ Hid (i ≤ n ∧ n < i + h) ∧ ∃ q, wr = w.drewN q)
 case atStart => exact ⟨0, rfl, by show _ ∧ _; omega, 0, rfl⟩
 case round =>
  obtain ⟨i, rfl, HI, q, rfl⟩ := hrel
  by_cases hlt : i < n
  ·have hltz : (i : Int) < (n : Int) := by omega
   obtain ⟨x, hx⟩ : ∃ x, l[i]? = some x := ⟨_, List.getElem?_eq_getElem (by rw [HL.out]; exact hlt)⟩
   obtain ⟨g1, o1, rfl, hg1, a0, a1, a2, a3, a4⟩ := tk_get HB1.out hx
   obtain ⟨g2, o2, rfl, hg2, b0, b1, b2, b3, b4⟩ := tk_get HB2.out hx
   have c0 : (w.drewN q).cell? ⟨g1, o1 + i * 5, none⟩ = _ := a0
   have c1 : (w.drewN q).cell? ⟨g1, o1 + i * 5 + 1, none⟩ = _ := a1
   have c2 : (w.drewN q).cell? ⟨g1, o1 + i * 5 + 2, none⟩ = _ := a2
   have c3 : (w.drewN q).cell? ⟨g1, o1 + i * 5 + 3, none⟩ = _ := a3
   have c4 : (w.drewN q).cell? ⟨g1, o1 + i * 5 + 4, none⟩ = _ := a4
   have d0 : (w.drewN q).cell? ⟨g2, o2 + i * 5, none⟩ = _ := b0
   have d1 : (w.drewN q).cell? ⟨g2, o2 + i * 5 + 1, none⟩ = _ := b1
   have d2 : (w.drewN q).cell? ⟨g2, o2 + i * 5 + 2, none⟩ = _ := b2
   have d3 : (w.drewN q).cell? ⟨g2, o2 + i * 5 + 3, none⟩ = _ := b3
   have d4 : (w.drewN q).cell? ⟨g2, o2 + i * 5 + 4, none⟩ = _ := b4
   obtain ⟨k, f, t, au, e⟩ := x
   simp only [] at c0 c1 c2 c3 c4 d0 d1 d2 d3 d4
   have HQ : Hid (∀ m, ∃ q', (w.drewN q).drewN m = w.drewN q') := fun m => ⟨q + m, World.drewN_drewN _ _ _⟩
   clear a0 a1 a2 a3 a4 b0 b1 b2 b3 b4 hx
   generalize w.drewN q = W at *
   have hd : (!(k == k && (f == f && (t == t && (au == au && e == e))))) = false := by simp
   go_wp2_with fail
   go_quiet (fail)
   go_wp2_with fail
   go_roundg (n - i)
   case measure => have := HI.out; omega
   case rel => exact ⟨i + 1, by go_num, by show _ ∧ _; have := HI.out; omega, HQ.out _⟩
  ·have hltz : ¬ (i : Int) < (n : Int) := by omega
   go_wp2_with fail
   go_ret
   exact ⟨rfl, q, rfl⟩
end Go.Proofs.YtgkhjeefcflmcaaGreatDoor
namespace Go.Proofs.YtgkhjeefcflmcaaGreatDoor
open Go.RowKit Go.Sort
set_option linter.unusedSimpArgs false
set_option linter.unusedVariables false
theorem sepOf {p : Nat → Bool} {l : List UInt8} (h : (List.range l.length).all (fun i => !(l.getD i 0 == 95) || (decide (0 < i) && decide (i + 1 < l.length) && p (l.getD (i - 1) 0).toNat && p (l.getD (i + 1) 0).toNat)) = true) : Sep p l := by
 intro i hi
 have hil := (List.getElem?_eq_some_iff.1 hi).1
 have := List.all_eq_true.1 h i (List.mem_range.2 hil)
 rw [getD_of hi] at this
 simp only [beq_self_eq_true, Bool.not_true, Bool.false_or, Bool.and_eq_true, decide_eq_true_eq] at this
 obtain ⟨⟨⟨h0, h1⟩, h2⟩, h3⟩ := this
 refine ⟨l.getD (i - 1) 0, l.getD (i + 1) 0, h0, ?_, ?_, h2, h3⟩
 ·rw [List.getD_eq_getElem?_getD, List.getElem?_eq_getElem (show i - 1 < l.length by omega)]; rfl
 ·rw [List.getD_eq_getElem?_getD, List.getElem?_eq_getElem h1]; rfl
theorem fitsOf {n : Nat} (h : n < 100000) : Fits n := Nat.lt_of_lt_of_le h (Nat.le_trans (show 100000 ≤ 18446744073709551616 by decide) (Nat.le_self_pow (by decide) _))
def exL : List UInt8 := [120, 32, 58, 61, 32, 49, 10]
theorem ex_kw : kwK [120] = 1 := by
 have h : KwIs (bs [120]) 0 := .inl ⟨rfl, fun j h1 h2 e => by
  have := tab_all (p := fun k => decide (k < 10) || !(txl k == [120])) (n := 35) (by decide +kernel) h2
  rw [Bool.or_eq_true] at this
  rcases this with g | g
  ·have := of_decide_eq_true g; omega
  ·have e2 : txl j = [120] := by
    have := congrArg (fun b : ByteArray => b.data.toList) e
    exact this
   rw [e2] at g
   exact absurd g (by decide)⟩
 have h2 := KwIs.uniq (kwZ_is [120]) h
 unfold kwK
 rw [if_pos h2]
theorem ex_op : opK [58, 61, 32, 49, 10] = 76 ∧ opN [58, 61, 32, 49, 10] = 2 := by
 refine OpIs.uniq (op_is _) (.inr ⟨by decide, by decide, by rw [tx_size]; decide +kernel, beg_pre.2 ⟨[32, 49, 10], by decide +kernel⟩, fun j h1 h2 hb => ?_⟩)
 have := tab_all (p := fun k => !((txl k).isPrefixOf [58, 61, 32, 49, 10]) || decide ((txl k).length ≤ 2)) (n := 88) (by decide +kernel) h2
 rw [Bool.or_eq_true] at this
 rw [tx_size]
 rcases this with g | g
 ·have h3 := List.isPrefixOf_iff_prefix.2 (beg_pre.1 hb)
  rw [h3] at g
  cases g
 ·exact of_decide_eq_true g
theorem ex_body : bodyZ [49, 10] = 1 := by
 have h : BodyN (sgOf [49, 10]) [49, 10] 1 := ⟨by decide, fun i hi => by
  match i, hi with
  | 0, _ => rfl, fun _ => rfl⟩
 exact bodyN_uniq (bodyZ_is _) h
theorem ex_val : valE [49] = 0 := by
 have hi : IntIs [49] 0 1 := by
  have hk : parK 10 (unsc [49]) = 0 := parK_ok rfl (by decide) (fitsOf (by decide))
  exact .inr ⟨rfl, .inr ⟨by decide, sepOf (by decide), .inr ⟨by decide, hk.symm, ((parN_ok hk).trans rfl).symm⟩⟩⟩
 have he : ∃ y, ValueIs (kndZ [49]) [49] y := ⟨⟨false, 1, 1, 0⟩, .inl ⟨rfl, 0, 1, hi, .inr ⟨rfl, rfl⟩⟩⟩
 unfold valE
 rw [dif_pos he]
 rcases Classical.choose_spec he with ⟨_, k, n, h, g⟩ | ⟨g, _⟩ | ⟨g, _, _⟩
 ·have hk0 : k = 0 := by
   rcases h with ⟨g, _⟩ | ⟨_, ⟨g, _⟩ | ⟨_, _, ⟨g, _⟩ | ⟨_, g, _⟩⟩⟩
   ·exact absurd rfl g
   ·rcases g with g | g
    ·cases g
    ·exact absurd (sepOf (by decide)) g
   ·exact absurd g (by decide)
   ·rw [g]
    exact parK_ok rfl (by decide) (fitsOf (by decide))
  rcases g with ⟨g, _⟩ | ⟨_, g⟩
  ·exact absurd hk0 g
  ·rw [g]
 ·exact absurd g (by decide)
 ·exact absurd rfl g
theorem ex_p1 (t : List UInt8) : pcF (120 :: 32 :: t) = ⟨1, 1, 0, false⟩ := by
 have hw : wordF (120 :: 32 :: t) = 1 := by
  rw [wordF_go (dcF_ascii (by decide) _) (.inl (by decide))]
  show wordF (32 :: t) + 1 = 1
  rw [wordF_no (dcF_ascii (by decide) _) (by decide)]
 rw [pcF_one (by decide) (by decide) (cmtF_head _ (by decide)), oneF_name (dcF_ascii (by decide) _) (by decide), hw]
 show (⟨kwK [120], 1, 0, false⟩ : Pc) = _
 rw [ex_kw]
theorem ex_p3 : pcF [58, 61, 32, 49, 10] = ⟨76, 2, 0, false⟩ := by
 rw [pcF_one (by decide) (by decide) (cmtF_head _ (by decide)), oneF_rune (dcF_ascii (by decide) _) (by decide), litF_op _ (by decide) (by decide) (by rw [ex_op.2]; decide), ex_op.1, ex_op.2]
theorem ex_p5 : pcF [49, 10] = ⟨2, 1, 0, false⟩ := by
 rw [pcF_one (by decide) (by decide) (cmtF_head _ (by decide)), oneF_rune (dcF_ascii (by decide) _) (by decide), litF_num _ (by decide)]
 unfold numP
 rw [ex_body, show ([49, 10] : List UInt8).take 1 = [49] from rfl, ex_val]
 rfl
theorem ex_toks : toks exL 0 0 = [⟨1, 0, 1, false, 0⟩, ⟨76, 2, 4, false, 0⟩, ⟨2, 5, 6, false, 0⟩, ⟨86, 6, 6, true, 0⟩] := by
 unfold exL
 rw [toks_go, ex_p1]
 show [(⟨1, 0, 1, false, 0⟩ : TkN)] ++ toks [32, 58, 61, 32, 49, 10] 1 1 = _
 rw [toks_go, pcF_bl _ (by decide)]
 show [(⟨1, 0, 1, false, 0⟩ : TkN)] ++ ([] ++ toks [58, 61, 32, 49, 10] 2 1) = _
 rw [toks_go, ex_p3]
 show [(⟨1, 0, 1, false, 0⟩ : TkN)] ++ ([] ++ ([⟨76, 2, 4, false, 0⟩] ++ toks [32, 49, 10] 4 76)) = _
 rw [toks_go, pcF_bl _ (by decide)]
 show [(⟨1, 0, 1, false, 0⟩ : TkN)] ++ ([] ++ ([⟨76, 2, 4, false, 0⟩] ++ ([] ++ toks [49, 10] 5 76))) = _
 rw [toks_go, ex_p5]
 show [(⟨1, 0, 1, false, 0⟩ : TkN)] ++ ([] ++ ([⟨76, 2, 4, false, 0⟩] ++ ([] ++ ([⟨2, 5, 6, false, 0⟩] ++ toks [10] 6 2)))) = _
 rw [toks_go, pcF_lf10]
 show [(⟨1, 0, 1, false, 0⟩ : TkN)] ++ ([] ++ ([⟨76, 2, 4, false, 0⟩] ++ ([] ++ ([⟨2, 5, 6, false, 0⟩] ++ ([⟨86, 6, 6, true, 0⟩] ++ toks [] 7 86))))) = _
 rw [toks_nil]
 rfl
theorem lit_cells {α : Type} {f : α → List Value} {l : List α} (w : World) (cs : Array Value) (h : cs = (l.flatMap f).toArray) (T : TypeId) : CellsV f (w.alloc (.cells cs T)) (w.heap.size + 1) (some ⟨w.heap.size, 0, none⟩) l := fun _ => by
 refine ⟨_, _, rfl, by omega, fun j u hu => ?_⟩
 rw [Nat.zero_add, World.cell?_alloc_at _ _ _ _ rfl, h]
 simpa using hu
theorem byts_lit (w : World) (l : List UInt8) (cs : Array Value) (h : cs = ((bi l).map fun x => Value.int .u8 x).toArray) (T : TypeId) (m : Nat × Nat) : Byts (w.alloc (.cells cs T m)) (w.heap.size + 1) (some ⟨w.heap.size, 0, none⟩) (bi l) :=
 ⟨bi_byt l, fun _ => ⟨_, _, rfl, by omega, fun i x hx => by
  rw [Nat.zero_add, World.cell?_alloc_mark, h]
  simp [hx]⟩⟩
set_option maxRecDepth 100000 in
set_option maxHeartbeats 4000000 in
theorem works11_run (w : World) (K : Kit11 w) : Calls Tryz.prog 10 #[] w fun e w' => e = .returned (.bool true) ∧ Below w.heap.size w w' := by
 obtain ⟨S, hS⟩ : ∃ S, w.heap.size = S := ⟨_, rfl⟩
 obtain ⟨T0, hT0⟩ : ∃ T0, w.alloc (.cells #[.int .u8 120, .int .u8 32, .int .u8 58, .int .u8 61, .int .u8 32, .int .u8 49, .int .u8 10] 5 (7, 8)) = T0 := ⟨_, rfl⟩
 have hcl := conv_lit w #[.int .u8 120, .int .u8 32, .int .u8 58, .int .u8 61, .int .u8 32, .int .u8 49, .int .u8 10] 7 7
 simp at hcl
 have hby := byts_lit w exL #[.int .u8 120, .int .u8 32, .int .u8 58, .int .u8 61, .int .u8 32, .int .u8 49, .int .u8 10] rfl 5 (7, 8)
 rw [hT0] at hby
 have hB0 : Below w.heap.size w T0 := by rw [← hT0]; exact (Below.refl _ _).alloc (Nat.le_refl _) _
 have hs0 : T0.heap.size = w.heap.size + 1 := by rw [← hT0]; simp
 have HT := Lib.hid (TokensP_run (some ⟨w.heap.size, 0, none⟩) 7 7 (w.heap.size + 1) exL T0 (K.keep rfl hB0) hby (by omega) rfl (by decide) (by decide) (by decide))
 have HB0 := Lib.hid hB0
 have HS0 := Lib.hid hs0
 rw [hS] at HB0 HS0
 have HSA := Lib.hid (fun A1 A2 c1 c2 (V : World) B1 B2 h1 h2 => SameT_run A1 A2 4 c1 c2 [⟨1, 0, 1, false, 0⟩, ⟨76, 2, 4, false, 0⟩, ⟨2, 5, 6, false, 0⟩, ⟨86, 6, 6, true, 0⟩] V (B1 := B1) (B2 := B2) h1 h2 rfl (by decide))
 rw [hS]
 clear hby hB0 hs0 K hS
 go_enter Tryz.func10, Tryz.ntmps10
 go_wp2_with fail
 refine HT.out.mono ?_
 rintro e w1 ⟨v, rfl, ho, hb1⟩
 rw [ex_toks] at ho
 obtain ⟨A1, c1, rfl, _, _, hc⟩ := ho.cells
 have HC1 := Lib.hid (tk_up hc)
 have HB1 := Lib.hid (HB0.out.trans (hb1.mono (by have := HS0.out; omega)))
 have HZ : Hid (S ≤ w1.heap.size) := by show _ ≤ _; have := HS0.out; have := hb1.size; omega
 clear ho hc hb1 HT hcl hT0
 go_wp2_with fail
 refine (HSA.out A1 (some ⟨w1.heap.size, 0, none⟩) c1 4 _ _ _ (HC1.out.below (B' := w1.heap.size) ((Below.refl _ _).alloc (Nat.le_refl _) _) (Nat.le_refl _)) (lit_cells w1 _ rfl _)).mono ?_
 rintro e w2 ⟨rfl, q, rfl⟩
 have HB2 := Lib.hid (below_drewN (HB1.out.alloc HZ.out (.cells #[.int .i64 1, .int .i64 0, .int .i64 1, .bool false, .int .i64 0, .int .i64 76, .int .i64 2, .int .i64 4, .bool false, .int .i64 0, .int .i64 2, .int .i64 5, .int .i64 6, .bool false, .int .i64 0, .int .i64 86, .int .i64 6, .int .i64 6, .bool true, .int .i64 0] 37)) q)
 go_wp2_with fail
 go_ret
 exact ⟨rfl, HB2.out⟩
end Go.Proofs.YtgkhjeefcflmcaaGreatDoor
