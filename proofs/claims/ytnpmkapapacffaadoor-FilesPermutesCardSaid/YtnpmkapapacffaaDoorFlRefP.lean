/-
  The reference's Permute.
-/
import Derived.Test.YtnpmkapapacffaaDoorFlOwn
namespace Go.Proofs.YtnpmkapapacffaaDoor
open Go.Shelf Go.RowKit Go.Lib Go.Sort Fm

theorem refTo_swp {α : Type} [Inhabited α] (d : Array α) (pick : List Int) {i : Nat} (h : i < d.size) : swp (permTo d pick i) i (refTo pick i d.size) = permTo d pick (i + 1) := by
  unfold refTo
  cases hx : pick[i]? with
  | none => rw [permTo_end d pick (.inr (List.getElem?_eq_none_iff.1 hx))]; exact swp_self _ (by rw [permTo_size]; exact h)
  | some x => exact (permTo_go d pick h hx).symm
theorem refTo_lt (pick : List Int) {i n : Nat} (h : i < n) : refTo pick i n < n := by
  unfold refTo
  split
  · exact (tgt_lt _ h).2
  · exact h
set_option maxHeartbeats 16000000 in
set_option maxRecDepth 100000 in
theorem refPermute_run (A : Option Addr) (n cap : Nat) (ps : List Pk) (P : Option Addr) (pm pc : Nat) (pick : List Int) (w : World) (hb : PksAt w w.heap.size A ps) (hl : Hid (ps.length = n)) (hs : Hid (Small ps)) (hp : Nums w w.heap.size P pick) (hpl : Hid (pick.length = pm)) (h64 : Hid (I64 pick)) :
    Calls Tryd.prog 24 #[.slice A n cap, .slice P pm pc] w fun e w' => ∃ v, e = .returned v ∧ OwnOutV (permP ps pick) w v w' := by
  have mixed := mixedA
  have HC := Lib.hid (own_run A n cap ps w hb hl hs)
  have HPN := Lib.hid hp
  have hn8 : n ≤ 8 := by have := hs.out.1; have := hl.out; omega
  clear hb hp
  go_enter Tryd.func24, Tryd.ntmps24
  go_wp2_with fail
  refine HC.out.mono ?_
  rintro e w1 ⟨v, rfl, xs, hx1, hw1⟩
  obtain ⟨A1, c1, hv, _, _, _⟩ := hx1.read
  rw [hl.out] at hv
  subst hv
  have X1 := Lib.hid hx1
  have B1 := Lib.hid hw1
  clear hx1 hw1 HC
  cases A1 with
  | none =>
    have hz : n = 0 := by
      rcases X1.out.row.2 with ⟨hv, _⟩ | ⟨g, cap, cur, hv, _⟩
      · injection hv
      · injection hv with h; cases h
    subst hz
    have hp : ps = [] := List.eq_nil_of_length_eq_zero hl.out
    subst hp
    clear hs hl
    go_wp2
    refine wp_loop_rounds 1 ?_
    rw [rounds_succ]
    go_wp2
    refine wp_loop_rounds 1 ?_
    rw [rounds_succ]
    go_wp2
    go_ret
    have e : permP [] pick = [] := by unfold permP; rw [show permL ([] : List Pk) pick = [] from List.eq_nil_of_length_eq_zero (by rw [permL_length]; rfl)]; rfl
    exact ⟨_, rfl, xs, by rw [e]; exact X1.out, B1.out⟩
  | some a =>
    obtain ⟨g, hg⟩ : ∃ g, a = ⟨g, 0, none⟩ := by
      rcases X1.out.row.2 with ⟨hv, _⟩ | ⟨g, cap, cur, hv, _⟩
      · cases hv
      · injection hv with h; cases h; exact ⟨g, rfl⟩
    subst hg
    have R := own_row X1.out.row
    have HB1 := Lib.hid (own_blk X1.out.row)
    have HSZ : Hid (xs.toArray.size = n) := by show _ = _; simpa using HB1.out.2.2.1
    have S0 : Aside (SWK reCells 2 w1 g 0 xs.toArray w1) := SWK.start R.hH
    have HP1 : Hid (Nums w1 w.heap.size P pick) := HPN.out.below B1.out (Nat.le_refl _)
    go_wp2_with fail
    go_loopg [6] (n + 1) (fun h s6 wr => ∃ i : Nat, s6 = .int .i64 i ∧ Hid (i ≤ n ∧ i + h = n + 1) ∧ Aside (SWK reCells 2 w1 g 0 (permTo xs.toArray pick i) wr))
    case atStart => exact ⟨0, rfl, by show _ ∧ _; omega, S0⟩
    case round =>
      clear S0
      obtain ⟨i, rfl, HI, S1⟩ := hrel
      by_cases hlt : i < n
      · have hltz : (i : Int) < (n : Int) := by omega
        have HT := Lib.hid (to_run i n pm pc P pick wr (HP1.out.keep fun b o hb => (swk_but S1.out).cell (p := ⟨b, o, none⟩) (by show b < _; have := R.hblk; have := HB1.out.1; omega) (by have := HB1.out.1; simp; omega)) hpl.out hlt (by omega) h64.out)
        obtain ⟨j, hj⟩ : ∃ j, refTo pick i n = j := ⟨_, rfl⟩
        have hjn : j < n := by rw [← hj]; exact refTo_lt pick hlt
        have HE : Hid (swp (permTo xs.toArray pick i) i j = permTo xs.toArray pick (i + 1)) := by show _ = _; rw [← hj, ← HSZ.out]; exact refTo_swp _ _ (by rw [HSZ.out]; exact hlt)
        rw [hj] at HT
        have hds : (permTo xs.toArray pick i).size = n := by rw [permTo_size]; exact HSZ.out
        have hjn1 : (j : Int) < (n : Int) := by omega
        have S4 : Aside _ := swk_swap R S1.out (i := i) (j := j) (by rw [hds]; exact hlt) (by rw [hds]; exact hjn)
        obtain ⟨l1, l2, f1, f2⟩ := swk_cells S1.out R (by rw [permTo_size]) (show i < (permTo xs.toArray pick i).size by rw [hds]; exact hlt)
        obtain ⟨l3, l4, f3, f4⟩ := swk_cells S1.out R (by rw [permTo_size]) (show j < (permTo xs.toArray pick i).size by rw [hds]; exact hjn)
        rw [HE.out] at S4
        obtain ⟨dn, hdn⟩ : ∃ dn, permTo xs.toArray pick (i + 1) = dn := ⟨_, rfl⟩
        rw [hdn] at S4
        have HD := Lib.hid hdn
        simp only [Nat.zero_add] at S4 l1 l2 l3 l4 f1 f2 f3 f4
        clear S1 hds HE hdn hj
        go_wp2_with fail
        refine HT.out.mono ?_
        rintro e w3 ⟨rfl, rfl⟩
        go_wp2_with fail
        by_cases hij : j = i
        · subst hij
          generalize (permTo xs.toArray pick j)[j]! = y at S4 l1 l2 l3 l4
          obtain ⟨ys1, yA, yn, yc⟩ := y
          simp only [] at S4 l1 l2
          clear l3 l4 f3 f4
          go_big_region_o
          go_wp2
          go_roundg (n - j)
          case measure => have := HI.out; omega
          case rel => exact ⟨j + 1, by go_num, by show _ ∧ _; have := HI.out; omega, HD.out ▸ S4⟩
        · have q1 : ¬ j * 2 = i * 2 := by omega
          have q2 : ¬ j * 2 = i * 2 + 1 := by omega
          have q3 : ¬ j * 2 + 1 = i * 2 := by omega
          have q4 : ¬ j * 2 + 1 = i * 2 + 1 := by omega
          have q5 : ¬ j = i := hij
          generalize (permTo xs.toArray pick i)[i]! = x1 at S4 l1 l2
          generalize (permTo xs.toArray pick i)[j]! = y at S4 l3 l4
          obtain ⟨xs1, xA, xn, xc⟩ := x1
          obtain ⟨ys1, yA, yn, yc⟩ := y
          simp only [] at S4 l1 l2 l3 l4
          go_big_region_o
          go_wp2
          go_roundg (n - i)
          case measure => have := HI.out; omega
          case rel => exact ⟨i + 1, by go_num, by show _ ∧ _; have := HI.out; omega, HD.out ▸ S4⟩
      · have hltz : ¬ (i : Int) < (n : Int) := by omega
        have HD : Hid (permTo xs.toArray pick i = permTo xs.toArray pick xs.length) := by
          obtain rfl : i = xs.length := by have := HI.out; have h2 := HSZ.out; simp at h2; omega
          rfl
        have HO : Hid (OwnV reCells 2 48 wr w.heap.size (.slice (some ⟨g, 0, none⟩) n c1) (permL xs pick)) := by
          have := swk_own X1.out.row (by rw [permTo_size]; simp) S1.out
          rw [HD.out] at this
          exact this
        have HK := Lib.hid (swk_but S1.out)
        have X2 : Hid (OwnX wr w.heap.size (.slice (some ⟨g, 0, none⟩) n c1) (permL xs pick) (permL ps pick)) := X1.out.outer HK.out HO.out (permL_perm _ _) (X1.out.zip.picks pick)
        have B2 : Hid (Below w.heap.size w wr) := B1.out.trans (HK.out.to_below B1.out.size (by intro b hb; rw [List.mem_singleton.1 hb]; exact HB1.out.1))
        have HQ : Hid ((permL ps pick).length = n) := by show _ = _; rw [permL_length]; exact hl.out
        have HOP : Hid (permP ps pick = (permL ps pick).map (picked pick)) := rfl
        have HQ6 : Hid (∀ q ∈ permL ps pick, q.files.length ≤ 6) := fun q hq => (hs.out.2 q ((permL_perm ps pick).mem_iff.2 hq)).1
        clear HO HK HD S1 X1 B1 HB1 R HSZ HP1 HI
        generalize permL ps pick = qs at *
        generalize permL xs pick = ys at *
        generalize wr = wq at *
        go_wp2_with fail
        go_loopg [8] (n + 1) (fun h s8 wr => ∃ i : Nat, s8 = .int .i64 i ∧ Hid (i ≤ n ∧ i + h = n + 1) ∧ Hid (OwnX wr w.heap.size (.slice (some ⟨g, 0, none⟩) n c1) ys (stepL (picked pick) qs i)) ∧ Hid (Below w.heap.size w wr))
        case atStart => exact ⟨0, rfl, by show _ ∧ _; omega, by rw [stepL_zero]; exact X2.out, B2.out⟩
        case round =>
          clear X2 B2
          obtain ⟨i, rfl, HI, HX, BW⟩ := hrel
          by_cases hlt : i < n
          · have hltz : (i : Int) < (n : Int) := by omega
            obtain ⟨p, hp⟩ : ∃ p, qs[i]? = some p := ⟨_, List.getElem?_eq_getElem (by have := HQ.out; omega)⟩
            obtain ⟨x, gi, zs, hx, hxA, hxn, _, hg1, hg2, c0, k1, ho, hz⟩ := HX.out.at (stepL_get.trans hp)
            have h6 : x.n ≤ 6 := by rw [hxn]; exact HQ6.out p (List.mem_of_getElem? hp)
            clear hxn c0
            have HP := Lib.hid hp
            have HXX := Lib.hid hx
            have HXA := Lib.hid hxA
            have HO2 := Lib.hid ho
            have HZ := Lib.hid hz
            have HGI : Hid (w.heap.size ≤ gi) := hg1
            have hsz := BW.out.size
            obtain ⟨m, hm⟩ : ∃ m, x.n = m := ⟨_, rfl⟩
            obtain ⟨mc, hmc⟩ : ∃ mc, x.c = mc := ⟨_, rfl⟩
            rw [hm, hmc] at k1 HO2
            have HM : Hid (x.n = m ∧ x.c = mc) := ⟨hm, hmc⟩
            rw [hm] at h6
            have R := own_row HO2.out
            have HSZ : Hid (zs.toArray.size = m) := by show _ = _; simpa using (own_blk HO2.out).2.2.1
            have S0 : Aside (SWK reCells 2 wr gi 0 zs.toArray wr) := SWK.start R.hH
            have HP1 : Hid (Nums wr w.heap.size P pick) := HPN.out.below BW.out (Nat.le_refl _)
            clear hp hx hxA ho hz hm hmc
            generalize wr = wp at *
            go_wp2_with fail
            go_loopg [10] (m + 1) (fun h s10 wr => ∃ i : Nat, s10 = .int .i64 i ∧ Hid (i ≤ m ∧ i + h = m + 1) ∧ Aside (SWK reCells 2 wp gi 0 (permTo zs.toArray pick i) wr))
            case atStart => exact ⟨0, rfl, by show _ ∧ _; omega, S0⟩
            case round =>
              clear S0 k1
              obtain ⟨k, rfl, HKK, S1⟩ := hrel
              by_cases hltk : k < m
              · have hltkz : (k : Int) < (m : Int) := by omega
                have HT := Lib.hid (to_run k m pm pc P pick wr (HP1.out.keep fun b o hb => (swk_but S1.out).cell (p := ⟨b, o, none⟩) (by show b < _; have := R.hblk; have := HGI.out; omega) (by have := HGI.out; simp; omega)) hpl.out hltk (by omega) h64.out)
                obtain ⟨j, hj⟩ : ∃ j, refTo pick k m = j := ⟨_, rfl⟩
                have hjn : j < m := by rw [← hj]; exact refTo_lt pick hltk
                have HE : Hid (swp (permTo zs.toArray pick k) k j = permTo zs.toArray pick (k + 1)) := by show _ = _; rw [← hj, ← HSZ.out]; exact refTo_swp _ _ (by rw [HSZ.out]; exact hltk)
                rw [hj] at HT
                have hds : (permTo zs.toArray pick k).size = m := by rw [permTo_size]; exact HSZ.out
                have hjn1 : (j : Int) < (m : Int) := by omega
                have S4 : Aside _ := swk_swap R S1.out (i := k) (j := j) (by rw [hds]; exact hltk) (by rw [hds]; exact hjn)
                obtain ⟨l1, l2, f1, f2⟩ := swk_cells S1.out R (by rw [permTo_size]) (show k < (permTo zs.toArray pick k).size by rw [hds]; exact hltk)
                obtain ⟨l3, l4, f3, f4⟩ := swk_cells S1.out R (by rw [permTo_size]) (show j < (permTo zs.toArray pick k).size by rw [hds]; exact hjn)
                rw [HE.out] at S4
                obtain ⟨dn, hdn⟩ : ∃ dn, permTo zs.toArray pick (k + 1) = dn := ⟨_, rfl⟩
                rw [hdn] at S4
                have HD := Lib.hid hdn
                simp only [Nat.zero_add] at S4 l1 l2 l3 l4 f1 f2 f3 f4
                clear S1 hds HE hdn hj
                go_wp2_with fail
                refine HT.out.mono ?_
                rintro e w3 ⟨rfl, rfl⟩
                go_wp2_with fail
                by_cases hij : j = k
                · subst hij
                  generalize (permTo zs.toArray pick j)[j]! = y at S4 l1 l2 l3 l4
                  obtain ⟨ys1, yA, yn, yc⟩ := y
                  simp only [] at S4 l1 l2
                  clear l3 l4 f3 f4
                  go_big_region_o
                  go_wp2
                  go_roundg (m - j)
                  case measure => have := HKK.out; omega
                  case rel => exact ⟨j + 1, by go_num, by show _ ∧ _; have := HKK.out; omega, HD.out ▸ S4⟩
                · have q1 : ¬ j * 2 = k * 2 := by omega
                  have q2 : ¬ j * 2 = k * 2 + 1 := by omega
                  have q3 : ¬ j * 2 + 1 = k * 2 := by omega
                  have q4 : ¬ j * 2 + 1 = k * 2 + 1 := by omega
                  have q5 : ¬ j = k := hij
                  generalize (permTo zs.toArray pick k)[k]! = x1 at S4 l1 l2
                  generalize (permTo zs.toArray pick k)[j]! = y at S4 l3 l4
                  obtain ⟨xs1, xA, xn, xc⟩ := x1
                  obtain ⟨ys1, yA, yn, yc⟩ := y
                  simp only [] at S4 l1 l2 l3 l4
                  go_big_region_o
                  go_wp2
                  go_roundg (m - k)
                  case measure => have := HKK.out; omega
                  case rel => exact ⟨k + 1, by go_num, by show _ ∧ _; have := HKK.out; omega, HD.out ▸ S4⟩
              · have hltkz : ¬ (k : Int) < (m : Int) := by omega
                have HD : Hid (permTo zs.toArray pick k = permTo zs.toArray pick zs.length) := by
                  obtain rfl : k = zs.length := by have := HKK.out; have h2 := HSZ.out; simp at h2; omega
                  rfl
                have HO3 : Hid (OwnV reCells 2 39 wr w.heap.size (.slice (some ⟨gi, 0, none⟩) m mc) (permL zs pick)) := by
                  have := swk_own HO2.out (by rw [permTo_size]; simp) S1.out
                  rw [HD.out] at this
                  exact this
                have K3 : Hid (But wp wr [gi]) := swk_but S1.out
                have X3 : Hid (OwnX wr w.heap.size (.slice (some ⟨g, 0, none⟩) n c1) ys (stepL (picked pick) qs (i + 1))) := by
                  show OwnX _ _ _ _ _
                  rw [← stepL_set HP.out]
                  refine HX.out.turn HXX.out (stepL_get.trans HP.out) HXA.out K3.out rfl (permL_length _ _) ?_
                  rw [HM.out.1, HM.out.2]
                  exact row_perm pick HO2.out HZ.out K3.out HO3.out
                have B3 : Hid (Below w.heap.size w wr) := BW.out.trans (K3.out.to_below hsz (by intro b hb; rw [List.mem_singleton.1 hb]; exact HGI.out))
                clear HO3 HD
                go_wp2_with fail
                go_roundg (n - i)
                case measure => have := HI.out; omega
                case rel => exact ⟨i + 1, by go_num, by show _ ∧ _; have := HI.out; omega, X3.out, B3.out⟩
          · have hltz : ¬ (i : Int) < (n : Int) := by omega
            rw [stepL_full (by have := HQ.out; omega), ← HOP.out] at HX
            go_wp2_with fail
            go_ret
            exact ⟨_, rfl, ys, HX.out, BW.out⟩
end Go.Proofs.YtnpmkapapacffaaDoor
