/-
  Rows of the call's own behind a sort or exchanges of them.
-/
import Derived.Test.YtnpmkapapacffaaDoorFlClone
import Derived.Test.YtnpmkapapacffaaDoorFlNmP
import Derived.Test.YtnpmkapapacffaaDoorFlNmF
namespace Go.Proofs.YtnpmkapapacffaaDoor
open Go.Shelf Go.RowKit Go.Lib Go.Sort Fm

theorem nb_perm {α : Type} [Inhabited α] {key : α → List UInt8} {d e : Array α} (h : Stb.Nb key d e) : d.toList.Perm e.toList := by
  induction h with
  | refl => exact .refl _
  | step _ hj _ ih => exact ih.trans (Fm.swp_perm _ hj (by omega))
theorem ordL_perm' {α : Type} [Inhabited α] (key : α → List UInt8) (l : List α) : l.Perm (ordL key l) := nb_perm (Stb.ord_nb key l.toArray)
theorem OwnX.far {w : World} {base : Nat} {v : Value} {xs : List Re} {ps : List Pk} (h : OwnX w base v xs ps) {y : Re} {q : Pk} (hy : IsPkT w base y q) : ∀ g, y.A = some ⟨g, 0, none⟩ → g ∉ v.ownBlock.toList := by
  intro g hyg hm
  obtain ⟨_, _, g', h3, h4⟩ := hy
  rw [hyg] at h3
  cases h3
  obtain ⟨zs, k1, _⟩ := h4
  obtain ⟨_, _, _, _, _, cs, k2, _⟩ := own_blk k1
  rcases h.row.2 with ⟨hv, _⟩ | ⟨g2, cap, cur, hv, _, hh, _⟩
  · rw [hv] at hm; simp [Value.ownBlock] at hm
  · rw [hv] at hm
    simp [Value.ownBlock] at hm
    subst hm
    rw [hh] at k2
    cases k2
/-- The row of packages in another order. -/
theorem OwnX.outer {w w' : World} {base g n c : Nat} {xs xs' : List Re} {ps ps' : List Pk} (h : OwnX w base (.slice (some ⟨g, 0, none⟩) n c) xs ps) (k : But w w' [g]) (ho : OwnV reCells 2 48 w' base (.slice (some ⟨g, 0, none⟩) n c) xs') (hp : xs.Perm xs') (hz : Zip (IsPkT w base) xs' ps') : OwnX w' base (.slice (some ⟨g, 0, none⟩) n c) xs' ps' := by
  have hk := ownV_blk (.inr rfl) h.row
  exact ⟨ho, (hp.pairwise_iff fun h e => h e.symm).1 h.apart, hz.mono fun y q hy => hy.but k hk (h.far hy)⟩
theorem drop_at {α : Type} {l : List α} {i : Nat} {x : α} (h : l[i]? = some x) : l.drop i = x :: l.drop (i + 1) := by
  obtain ⟨hi, he⟩ := List.getElem?_eq_some_iff.1 h
  rw [List.drop_eq_getElem_cons hi, he]
/-- A list whose first i elements have turned. -/
def stepL {α : Type} (f : α → α) (l : List α) (i : Nat) : List α := (l.take i).map f ++ l.drop i
section
variable {α : Type} {f : α → α} {l : List α}
theorem stepL_zero : stepL f l 0 = l := by simp [stepL]
theorem stepL_full {i : Nat} (h : l.length ≤ i) : stepL f l i = l.map f := by
  unfold stepL
  rw [List.take_of_length_le h, List.drop_of_length_le h, List.append_nil]
theorem stepL_length (i : Nat) : (stepL f l i).length = l.length := by
  unfold stepL
  simp
  omega
theorem stepL_get {i : Nat} : (stepL f l i)[i]? = l[i]? := by
  unfold stepL
  by_cases hi : i < l.length
  · have e : ((l.take i).map f).length = i := by simp; omega
    rw [List.getElem?_append_right (by omega), e, Nat.sub_self, List.getElem?_drop, Nat.add_zero]
  · rw [List.getElem?_eq_none (by simp; omega), List.getElem?_eq_none (by omega)]
theorem stepL_set {i : Nat} {x : α} (h : l[i]? = some x) : (stepL f l i).set i (f x) = stepL f l (i + 1) := by
  have hi := (List.getElem?_eq_some_iff.1 h).1
  have e : ((l.take i).map f).length = i := by simp; omega
  unfold stepL
  rw [List.set_append_right _ _ (by omega), e, Nat.sub_self, drop_at h, List.set_cons_zero, take_at h, List.map_append]
  simp
end
/-- A row of files in another order. -/
theorem row_ord {w w' : World} {base g n c : Nat} {ys : List Re} {fs : List Fl} (h : OwnV reCells 2 39 w base (.slice (some ⟨g, 0, none⟩) n c) ys) (hz : Zip (IsFlT w base) ys fs) (k : But w w' [g]) (ho : OwnV reCells 2 39 w' base (.slice (some ⟨g, 0, none⟩) n c) (ordL rk ys)) : RowAt w' base g n c (ordL fk fs) := by
  have hk := ownV_blk (.inl rfl) h
  exact ⟨_, ho, (own_blk ho).2.2.1, (hz.ord (fun x y hxy => by unfold rk fk; rw [hxy.1])).mono fun _ _ h => h.but k hk⟩
theorem row_perm {w w' : World} {base g n c : Nat} {ys : List Re} {fs : List Fl} (pick : List Int) (h : OwnV reCells 2 39 w base (.slice (some ⟨g, 0, none⟩) n c) ys) (hz : Zip (IsFlT w base) ys fs) (k : But w w' [g]) (ho : OwnV reCells 2 39 w' base (.slice (some ⟨g, 0, none⟩) n c) (permL ys pick)) : RowAt w' base g n c (permL fs pick) := by
  have hk := ownV_blk (.inl rfl) h
  exact ⟨_, ho, (own_blk ho).2.2.1, (hz.picks pick).mono fun _ _ h => h.but k hk⟩
/-- What is known of one package of the call's own. -/
theorem OwnX.at {w : World} {base g n c : Nat} {xs : List Re} {ps : List Pk} (h : OwnX w base (.slice (some ⟨g, 0, none⟩) n c) xs ps) {i : Nat} {p : Pk} (hp : ps[i]? = some p) : ∃ x gi ys, xs[i]? = some x ∧ x.A = some ⟨gi, 0, none⟩ ∧ x.n = p.files.length ∧ x.s = p.path ∧ base ≤ gi ∧ gi < w.heap.size ∧ w.cell? ⟨g, i * 2, none⟩ = some (.string p.path) ∧ w.cell? ⟨g, i * 2 + 1, none⟩ = some (.slice (some ⟨gi, 0, none⟩) x.n x.c) ∧ OwnV reCells 2 39 w base (.slice (some ⟨gi, 0, none⟩) x.n x.c) ys ∧ Zip (IsFlT w base) ys p.files := by
  obtain ⟨x, hx, h1, h2, gi, h3, h4⟩ := h.zip.getR hp
  obtain ⟨ys, k1, k2, k3⟩ := h4
  have hb := own_blk k1
  obtain ⟨A, cap, hv, _, _, hc⟩ := h.row.cells
  cases hv
  obtain ⟨b, o, y, e, _, hy, c0, c1⟩ := res_at hc (List.getElem?_eq_some_iff.1 hx).1
  cases e
  rw [hx] at hy
  cases hy
  rw [Nat.zero_add] at c0 c1
  rw [h3] at c1
  exact ⟨x, gi, ys, hx, h3, h2, h1, hb.1, hb.2.1, h1 ▸ c0, c1, k1, k3⟩
set_option maxHeartbeats 8000000 in
set_option maxRecDepth 100000 in
theorem Order_run (A : Option Addr) (n cap : Nat) (ps : List Pk) (w : World) (hb : PksAt w w.heap.size A ps) (hl : Hid (ps.length = n)) (hs : Hid (Small ps)) :
    Calls Tryd.prog 18 #[.slice A n cap] w fun e w' => OwnOut n (ordP ps) w e w' := by
  have HC := Lib.hid (clone_run A n cap ps w hb hl hs)
  have hn8 : n ≤ 8 := by have := hs.out.1; have := hl.out; omega
  clear hb
  go_enter Tryd.func18, Tryd.ntmps18
  go_wp2_with fail
  refine HC.out.mono ?_
  rintro e w1 ⟨g, c, xs, rfl, hx1, hw1⟩
  have X1 := Lib.hid hx1
  have B1 := Lib.hid hw1
  have HB1 := Lib.hid (own_blk hx1.row)
  have HS := Lib.hid (sort_runP g n c xs w1 hx1.row (by omega))
  clear hx1 hw1 HC
  go_wp2_with fail
  refine HS.out.mono ?_
  rintro e w2 ⟨rfl, ho2, hk2⟩
  have X2 : Hid (OwnX w2 w.heap.size (.slice (some ⟨g, 0, none⟩) n c) (ordL rk xs) (ordL pk ps)) := X1.out.outer hk2 ho2 (ordL_perm' _ _) (X1.out.zip.ord fun x y hxy => by unfold rk pk; rw [hxy.1])
  have B2 : Hid (Below w.heap.size w w2) := B1.out.trans (hk2.to_below B1.out.size (by intro b hb; rw [List.mem_singleton.1 hb]; exact HB1.out.1))
  have HQ : Hid ((ordL pk ps).length = n) := by show _ = _; rw [ordL_length]; exact hl.out
  have HO : Hid (ordP ps = (ordL pk ps).map inOrder) := rfl
  have HQ6 : Hid (∀ q ∈ ordL pk ps, q.files.length ≤ 6) := fun q hq => (hs.out.2 q (ordL_mem.1 hq)).1
  have HG : Hid (w.heap.size ≤ g) := HB1.out.1
  clear ho2 hk2 HS X1 B1 HB1
  generalize ordL pk ps = qs at *
  generalize ordL rk xs = ys at *
  go_wp2_with fail
  go_loopg [12] (n + 1) (fun h s12 wr => ∃ i : Nat, s12 = .int .i64 i ∧ Hid (i ≤ n ∧ i + h = n + 1) ∧ Hid (OwnX wr w.heap.size (.slice (some ⟨g, 0, none⟩) n c) ys (stepL inOrder qs i)) ∧ Hid (Below w.heap.size w wr))
  case atStart => exact ⟨0, rfl, by show _ ∧ _; omega, by rw [stepL_zero]; exact X2.out, B2.out⟩
  case round =>
    clear X2 B2
    obtain ⟨i, rfl, HI, HX, BW⟩ := hrel
    by_cases hlt : i < n
    · have hltz : (i : Int) < (n : Int) := by omega
      obtain ⟨p, hp⟩ : ∃ p, qs[i]? = some p := ⟨_, List.getElem?_eq_getElem (by have := HQ.out; omega)⟩
      obtain ⟨x, gi, zs, hx, hxA, hxn, _, hg1, hg2, c0, c1, ho, hz⟩ := HX.out.at (stepL_get.trans hp)
      have h6 : x.n ≤ 6 := by rw [hxn]; exact HQ6.out p (List.mem_of_getElem? hp)
      clear hxn
      have HP := Lib.hid hp
      have HXX := Lib.hid hx
      have HXA := Lib.hid hxA
      have HO2 := Lib.hid ho
      have HZ := Lib.hid hz
      have hsz := BW.out.size
      have HSF := Lib.hid (sort_runF gi x.n x.c zs (wr.alloc (.cells #[.string p.path, .slice (some ⟨gi, 0, none⟩) x.n x.c] 48)) (OwnV.alloc ho _) (by omega))
      clear hp hx hxA ho hz
      go_wp2_with fail
      refine HSF.out.mono ?_
      rintro e w3 ⟨rfl, ho3, hk3⟩
      have BA : Hid (Below wr.heap.size wr (wr.alloc (.cells #[.string p.path, .slice (some ⟨gi, 0, none⟩) x.n x.c] 48))) := (Below.refl _ _).alloc (Nat.le_refl _) _
      have K3 : Hid (But wr w3 [gi]) := (But.of_below BA.out).trans hk3
      have X3 : Hid (OwnX w3 w.heap.size (.slice (some ⟨g, 0, none⟩) n c) ys (stepL inOrder qs (i + 1))) := by
        show OwnX _ _ _ _ _
        rw [← stepL_set HP.out]
        exact HX.out.turn HXX.out (stepL_get.trans HP.out) HXA.out K3.out rfl (ordL_length _ _) (row_ord HO2.out HZ.out K3.out ho3)
      have B3 : Hid (Below w.heap.size w w3) := BW.out.trans (K3.out.to_below hsz (by intro b hb; rw [List.mem_singleton.1 hb]; exact hg1))
      clear ho3 hk3
      go_wp2_with fail
      go_roundg (n - i)
      case measure => have := HI.out; omega
      case rel => exact ⟨i + 1, by go_num, by show _ ∧ _; have := HI.out; omega, X3.out, B3.out⟩
    · have hltz : ¬ (i : Int) < (n : Int) := by omega
      rw [stepL_full (by have := HQ.out; omega), ← HO.out] at HX
      go_wp2_with fail
      go_ret
      exact ⟨g, c, ys, rfl, HX.out, BW.out⟩
set_option maxHeartbeats 8000000 in
set_option maxRecDepth 100000 in
theorem Permute_run (A : Option Addr) (n cap : Nat) (ps : List Pk) (P : Option Addr) (m pc : Nat) (pick : List Int) (w : World) (hb : PksAt w w.heap.size A ps) (hl : Hid (ps.length = n)) (hs : Hid (Small ps)) (hp : Nums w w.heap.size P pick) (hpl : Hid (pick.length = m)) (hm : m ≤ 1000) :
    Calls Tryd.prog 23 #[.slice A n cap, .slice P m pc] w fun e w' => OwnOut n (permP ps pick) w e w' := by
  have HC := Lib.hid (clone_run A n cap ps w hb hl hs)
  have HP := Lib.hid hp
  have hn8 : n ≤ 8 := by have := hs.out.1; have := hl.out; omega
  clear hb hp
  go_enter Tryd.func23, Tryd.ntmps23
  go_wp2_with fail
  refine HC.out.mono ?_
  rintro e w1 ⟨g, c, xs, rfl, hx1, hw1⟩
  have X1 := Lib.hid hx1
  have B1 := Lib.hid hw1
  have HB1 := Lib.hid (own_blk hx1.row)
  have HS := Lib.hid (exchange_runP g n c xs P m pc pick w1 hx1.row (by omega) (HP.out.below hw1 (Nat.le_refl _)) hpl.out hm)
  clear hx1 hw1 HC
  go_wp2_with fail
  refine HS.out.mono ?_
  rintro e w2 ⟨rfl, ho2, hk2⟩
  have X2 : Hid (OwnX w2 w.heap.size (.slice (some ⟨g, 0, none⟩) n c) (permL xs pick) (permL ps pick)) := X1.out.outer hk2 ho2 (permL_perm _ _) (X1.out.zip.picks pick)
  have B2 : Hid (Below w.heap.size w w2) := B1.out.trans (hk2.to_below B1.out.size (by intro b hb; rw [List.mem_singleton.1 hb]; exact HB1.out.1))
  have HQ : Hid ((permL ps pick).length = n) := by show _ = _; rw [permL_length]; exact hl.out
  have HO : Hid (permP ps pick = (permL ps pick).map (picked pick)) := rfl
  have HQ6 : Hid (∀ q ∈ permL ps pick, q.files.length ≤ 6) := fun q hq => (hs.out.2 q ((permL_perm ps pick).mem_iff.2 hq)).1
  have HG : Hid (w.heap.size ≤ g) := HB1.out.1
  clear ho2 hk2 HS X1 B1 HB1
  generalize permL ps pick = qs at *
  generalize permL xs pick = ys at *
  go_wp2_with fail
  go_loopg [15] (n + 1) (fun h s15 wr => ∃ i : Nat, s15 = .int .i64 i ∧ Hid (i ≤ n ∧ i + h = n + 1) ∧ Hid (OwnX wr w.heap.size (.slice (some ⟨g, 0, none⟩) n c) ys (stepL (picked pick) qs i)) ∧ Hid (Below w.heap.size w wr))
  case atStart => exact ⟨0, rfl, by show _ ∧ _; omega, by rw [stepL_zero]; exact X2.out, B2.out⟩
  case round =>
    clear X2 B2
    obtain ⟨i, rfl, HI, HX, BW⟩ := hrel
    by_cases hlt : i < n
    · have hltz : (i : Int) < (n : Int) := by omega
      obtain ⟨p, hp⟩ : ∃ p, qs[i]? = some p := ⟨_, List.getElem?_eq_getElem (by have := HQ.out; omega)⟩
      obtain ⟨x, gi, zs, hx, hxA, hxn, _, hg1, hg2, c0, c1, ho, hz⟩ := HX.out.at (stepL_get.trans hp)
      have h6 : x.n ≤ 6 := by rw [hxn]; exact HQ6.out p (List.mem_of_getElem? hp)
      clear hxn
      have HPP := Lib.hid hp
      have HXX := Lib.hid hx
      have HXA := Lib.hid hxA
      have HO2 := Lib.hid ho
      have HZ := Lib.hid hz
      have hsz := BW.out.size
      have BA : Hid (Below wr.heap.size wr (wr.alloc (.cells #[.string p.path, .slice (some ⟨gi, 0, none⟩) x.n x.c] 48))) := (Below.refl _ _).alloc (Nat.le_refl _) _
      have HSF := Lib.hid (exchange_runF gi x.n x.c zs P m pc pick (wr.alloc (.cells #[.string p.path, .slice (some ⟨gi, 0, none⟩) x.n x.c] 48)) (OwnV.alloc ho _) (by omega) (HP.out.below (BW.out.trans (BA.out.mono hsz)) (Nat.le_refl _)) hpl.out hm)
      clear hp hx hxA ho hz
      go_wp2_with fail
      refine HSF.out.mono ?_
      rintro e w3 ⟨rfl, ho3, hk3⟩
      have K3 : Hid (But wr w3 [gi]) := (But.of_below BA.out).trans hk3
      have X3 : Hid (OwnX w3 w.heap.size (.slice (some ⟨g, 0, none⟩) n c) ys (stepL (picked pick) qs (i + 1))) := by
        show OwnX _ _ _ _ _
        rw [← stepL_set HPP.out]
        exact HX.out.turn HXX.out (stepL_get.trans HPP.out) HXA.out K3.out rfl (permL_length _ _) (row_perm pick HO2.out HZ.out K3.out ho3)
      have B3 : Hid (Below w.heap.size w w3) := BW.out.trans (K3.out.to_below hsz (by intro b hb; rw [List.mem_singleton.1 hb]; exact hg1))
      clear ho3 hk3
      go_wp2_with fail
      go_roundg (n - i)
      case measure => have := HI.out; omega
      case rel => exact ⟨i + 1, by go_num, by show _ ∧ _; have := HI.out; omega, X3.out, B3.out⟩
    · have hltz : ¬ (i : Int) < (n : Int) := by omega
      rw [stepL_full (by have := HQ.out; omega), ← HO.out] at HX
      go_wp2_with fail
      go_ret
      exact ⟨g, c, ys, rfl, HX.out, BW.out⟩
end Go.Proofs.YtnpmkapapacffaaDoor
