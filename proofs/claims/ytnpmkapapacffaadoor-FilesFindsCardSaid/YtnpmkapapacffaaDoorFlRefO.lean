/-
  The reference's Order: by changing neighbours.
-/
import Derived.Test.YtnpmkapapacffaaDoorFlOwn
namespace Go.Proofs.YtnpmkapapacffaaDoor
open Go.Shelf Go.RowKit Go.Lib Go.Sort Fm

theorem less_rk (x y : Re) : Op.bytesLess x.s.toList y.s.toList = Stb.lt rk x y := by
  unfold Stb.lt rk
  rw [Lib.toList_data, Lib.toList_data]
/-- What is known in a round of changing neighbours. -/
def Bub (d0 : Array Re) (r : Nat) (d : Array Re) : Prop := Stb.Nb rk d0 d ∧ Stb.Out rk r d
def BubIn (d0 : Array Re) (r i : Nat) (d : Array Re) : Prop := Stb.Nb rk d0 d ∧ Stb.In rk r i d
theorem Bub.start (d0 : Array Re) : Bub d0 0 d0 := ⟨.refl, Stb.Out.start _ _⟩
theorem Bub.enter {d0 d : Array Re} {r : Nat} (h : Bub d0 r d) (hr : r < d0.size) : BubIn d0 r 1 d := ⟨h.1, h.2.enter (by rw [h.1.size]; exact hr)⟩
theorem Bub.done {d0 d : Array Re} {r : Nat} (h : Bub d0 r d) (hr : d0.size ≤ r) : d = Stb.ord rk d0 := by
  refine h.1.ord ?_
  have := h.2.sorted (by rw [h.1.size]; omega)
  rwa [h.1.size] at this
theorem BubIn.exit {d0 d : Array Re} {r i : Nat} (h : BubIn d0 r i d) (hi : d0.size ≤ i) : Bub d0 (r + 1) d := ⟨h.1, h.2.exit (by rw [h.1.size]; exact hi)⟩
theorem BubIn.keep {d0 d : Array Re} {r j jp : Nat} (h : BubIn d0 r j d) (hj : j = jp + 1) (hi : j < d0.size) (hl : Stb.lt rk d[j]! d[jp]! = false) : BubIn d0 r (j + 1) d := by
  subst hj
  exact ⟨h.1, h.2.keep (by omega) (by rw [h.1.size]; exact hi) (by simpa using hl)⟩
theorem BubIn.change {d0 d : Array Re} {r j jp : Nat} (h : BubIn d0 r j d) (hj : j = jp + 1) (hi : j < d0.size) (hl : Stb.lt rk d[j]! d[jp]! = true) : BubIn d0 r (j + 1) (swp d j jp) := by
  subst hj
  exact ⟨by have := h.1.change (i := jp + 1) (by omega) (by rw [h.1.size]; exact hi) (by simpa using hl); simpa using this, by have := h.2.change (by omega) (by rw [h.1.size]; exact hi) (by simpa using hl); simpa using this⟩
theorem BubIn.size {d0 d : Array Re} {r i : Nat} (h : BubIn d0 r i d) : d.size = d0.size := h.1.size
set_option maxHeartbeats 16000000 in
set_option maxRecDepth 100000 in
theorem refOrder_run (A : Option Addr) (n cap : Nat) (ps : List Pk) (w : World) (hb : PksAt w w.heap.size A ps) (hl : Hid (ps.length = n)) (hs : Hid (Small ps)) :
    Calls Tryd.prog 19 #[.slice A n cap] w fun e w' => ∃ v, e = .returned v ∧ OwnOutV (ordP ps) w v w' := by
  have mixed := mixedA
  have HC := Lib.hid (own_run A n cap ps w hb hl hs)
  have hn8 : n ≤ 8 := by have := hs.out.1; have := hl.out; omega
  clear hb
  go_enter Tryd.func19, Tryd.ntmps19
  go_wp2_with fail
  refine HC.out.mono ?_
  rintro e w1 ⟨v, rfl, xs, hx1, hw1⟩
  obtain ⟨A1, c1, hv, _, _, _⟩ := hx1.read
  rw [hl.out] at hv
  subst hv
  have X1 := Lib.hid hx1
  have B1 := Lib.hid hw1
  clear hx1 hw1 HC
  cases A1 with
  | none =>
    have hz : n = 0 := by
      rcases X1.out.row.2 with ⟨hv, _⟩ | ⟨g, cap, cur, hv, _⟩
      · injection hv
      · injection hv with h; cases h
    subst hz
    have hp : ps = [] := List.eq_nil_of_length_eq_zero hl.out
    subst hp
    clear hs hl
    go_wp2
    refine wp_loop_rounds 1 ?_
    rw [rounds_succ]
    go_wp2
    refine wp_loop_rounds 1 ?_
    rw [rounds_succ]
    go_wp2
    go_ret
    have e : ordP [] = [] := by unfold ordP; rw [show ordL pk ([] : List Pk) = [] from List.eq_nil_of_length_eq_zero (by rw [ordL_length]; rfl)]; rfl
    exact ⟨_, rfl, xs, by rw [e]; exact X1.out, B1.out⟩
  | some a =>
    obtain ⟨g, hg⟩ : ∃ g, a = ⟨g, 0, none⟩ := by
      rcases X1.out.row.2 with ⟨hv, _⟩ | ⟨g, cap, cur, hv, _⟩
      · cases hv
      · injection hv with h; cases h; exact ⟨g, rfl⟩
    subst hg
    have R := own_row X1.out.row
    have HB1 := Lib.hid (own_blk X1.out.row)
    have hsz : xs.toArray.size = n := by simpa using HB1.out.2.2.1
    have HSZ := Lib.hid hsz
    have S0 : Aside (SWK reCells 2 w1 g 0 xs.toArray w1) := SWK.start R.hH
    have HBS : Hid (Bub xs.toArray 0 xs.toArray) := Bub.start _
    clear hsz
    go_wp2_with fail
    go_loopg [4] (n + 1) (fun h s4 wr => ∃ (r : Nat) (dk : Array Re), s4 = .int .i64 r ∧ Hid (r ≤ n ∧ r + h = n + 1) ∧ Hid (Bub xs.toArray r dk) ∧ Aside (SWK reCells 2 w1 g 0 dk wr))
    case atStart => exact ⟨0, xs.toArray, rfl, by show _ ∧ _; omega, HBS.out, S0⟩
    case round =>
      clear S0 HBS
      obtain ⟨r, dk, rfl, HR, HB, S1⟩ := hrel
      by_cases hlt : r < n
      · have hltz : (r : Int) < (n : Int) := by omega
        have HIN : Hid (BubIn xs.toArray r 1 dk) := HB.out.enter (by rw [HSZ.out]; exact hlt)
        generalize wr = wq at *
        go_wp2_with fail
        go_loopg [5] (n + 1) (fun h s5 wr => ∃ (j jp : Nat) (dj : Array Re), s5 = .int .i64 j ∧ Hid (j = jp + 1 ∧ j ≤ n ∧ j + h = n + 2) ∧ Hid (BubIn xs.toArray r j dj) ∧ Aside (SWK reCells 2 w1 g 0 dj wr))
        case atStart => exact ⟨1, 0, dk, rfl, by show _ ∧ _; omega, HIN.out, S1⟩
        case round =>
          clear S1 HIN
          obtain ⟨j, jp, dj, rfl, HI, HJ, S2⟩ := hrel
          by_cases hlt2 : j < n
          · have hltz2 : (j : Int) < (n : Int) := by omega
            have hjs : dj.size = xs.toArray.size := HJ.out.size
            have hds : dj.size = n := hjs.trans HSZ.out
            have ejp : IntKind.i64.wrap ((j : Int) - 1) = (jp : Int) := by rw [IntKind.wrap_i64]; have := HI.out; omega
            have hjp : jp < n := by have := HI.out; omega
            have q5 : ¬ jp = j := by have := HI.out; omega
            have b1 : (j : Int) < (n : Int) := by omega
            have b2 : (jp : Int) < (n : Int) := by omega
            obtain ⟨l1, l2, f1, f2⟩ := swk_cells S2.out R hjs (show j < dj.size by omega)
            obtain ⟨l3, l4, f3, f4⟩ := swk_cells S2.out R hjs (show jp < dj.size by omega)
            have S4 : Aside (∀ m, _) := fun m => swk_swap R (S2.out.drewN m) (i := j) (j := jp) (by omega) (by omega)
            have hv := less_rk dj[j]! dj[jp]!
            have HV : Hid (Op.bytesLess dj[j]!.s.toList dj[jp]!.s.toList = Stb.lt rk dj[j]! dj[jp]!) := hv
            have HJK : Hid (Stb.lt rk dj[j]! dj[jp]! = false → BubIn xs.toArray r (j + 1) dj) := fun h => HJ.out.keep HI.out.1 (by have := HSZ.out; omega) h
            have HJC : Hid (Stb.lt rk dj[j]! dj[jp]! = true → BubIn xs.toArray r (j + 1) (swp dj j jp)) := fun h => HJ.out.change HI.out.1 (by have := HSZ.out; omega) h
            simp only [Nat.zero_add] at l1 l2 l3 l4 f1 f2 f3 f4 S4
            clear hjs hds hv
            obtain ⟨bl, hbl⟩ : ∃ bl, Stb.lt rk dj[j]! dj[jp]! = bl := ⟨_, rfl⟩
            rw [hbl] at HV HJK HJC
            clear hbl
            have hv := HV.out
            generalize dj[j]! = x at l1 l2 S4 hv
            generalize dj[jp]! = y at l3 l4 S4 hv
            obtain ⟨xs1, xA, xn, xc⟩ := x
            obtain ⟨ys, yA, yn, yc⟩ := y
            simp only [] at l1 l2 l3 l4 S4 hv
            clear HV
            cases bl with
            | false =>
              have HJ1 : Hid (BubIn xs.toArray r (j + 1) dj) := HJK.out rfl
              clear S4 f1 f2 f3 f4 HJK HJC
              go_wp2_with fail
              go_quiet (fail)
              go_wp2
              go_roundg (n + 1 - j)
              case measure => have := HI.out; omega
              case rel => exact ⟨j + 1, j, dj, by go_num, by show _ ∧ _; have := HI.out; omega, HJ1.out, S2.out.drewN _⟩
            | true =>
              have HJ1 : Hid (BubIn xs.toArray r (j + 1) (swp dj j jp)) := HJC.out rfl
              clear HJK HJC
              go_wp2_with fail
              go_quiet (fail)
              go_wp2_with fail
              have S5 : Aside _ := S4.out nq
              have g1 : (wr.drewN nq).cell? _ = _ := l1
              have g2 : (wr.drewN nq).cell? _ = _ := l2
              have g3 : (wr.drewN nq).cell? _ = _ := l3
              have g4 : (wr.drewN nq).cell? _ = _ := l4
              have g5 : (wr.drewN nq).frozen? _ = _ := f1
              have g6 : (wr.drewN nq).frozen? _ = _ := f2
              have g7 : (wr.drewN nq).frozen? _ = _ := f3
              have g8 : (wr.drewN nq).frozen? _ = _ := f4
              clear S4 l1 l2 l3 l4 f1 f2 f3 f4 S2
              generalize wr.drewN nq = wq2 at S5 g1 g2 g3 g4 g5 g6 g7 g8 ⊢
              have q1 : ¬ jp * 2 = j * 2 := by omega
              have q2 : ¬ jp * 2 = j * 2 + 1 := by omega
              have q3 : ¬ jp * 2 + 1 = j * 2 := by omega
              have q4 : ¬ jp * 2 + 1 = j * 2 + 1 := by omega
              go_big_region_o
              go_wp2
              go_roundg (n + 1 - j)
              case measure => have := HI.out; omega
              case rel => exact ⟨j + 1, j, _, by go_num, by show _ ∧ _; have := HI.out; omega, HJ1.out, S5⟩
          · have hltz2 : ¬ (j : Int) < (n : Int) := by omega
            have HN : Hid (Bub xs.toArray (r + 1) dj) := HJ.out.exit (by rw [HSZ.out]; omega)
            go_wp2_with fail
            go_roundg (n - r)
            case measure => have := HR.out; omega
            case rel => exact ⟨r + 1, dj, by go_num, by show _ ∧ _; have := HR.out; omega, HN.out, S2⟩
      · have hltz : ¬ (r : Int) < (n : Int) := by omega
        have HD : Hid (dk = Stb.ord rk xs.toArray) := HB.out.done (by rw [HSZ.out]; omega)
        have HO := Lib.hid (swk_own X1.out.row (by rw [HD.out, Stb.ord_size]; simp) S1.out)
        have HK := Lib.hid (swk_but S1.out)
        have X2 : Hid (OwnX wr w.heap.size (.slice (some ⟨g, 0, none⟩) n c1) (ordL rk xs) (ordL pk ps)) := X1.out.outer HK.out (by have := HO.out; rw [HD.out] at this; exact this) (ordL_perm' _ _) (X1.out.zip.ord fun x y hxy => by unfold rk pk; rw [hxy.1])
        have B2 : Hid (Below w.heap.size w wr) := B1.out.trans (HK.out.to_below B1.out.size (by intro b hb; rw [List.mem_singleton.1 hb]; exact HB1.out.1))
        have HQ : Hid ((ordL pk ps).length = n) := by show _ = _; rw [ordL_length]; exact hl.out
        have HOP : Hid (ordP ps = (ordL pk ps).map inOrder) := rfl
        have HQ6 : Hid (∀ q ∈ ordL pk ps, q.files.length ≤ 6) := fun q hq => (hs.out.2 q (ordL_mem.1 hq)).1
        clear HO HK HD HB S1 X1 B1 HB1 R HSZ HR
        generalize ordL pk ps = qs at *
        generalize ordL rk xs = ys at *
        generalize wr = wq at *
        go_wp2_with fail
        go_loopg [6] (n + 1) (fun h s6 wr => ∃ i : Nat, s6 = .int .i64 i ∧ Hid (i ≤ n ∧ i + h = n + 1) ∧ Hid (OwnX wr w.heap.size (.slice (some ⟨g, 0, none⟩) n c1) ys (stepL inOrder qs i)) ∧ Hid (Below w.heap.size w wr))
        case atStart => exact ⟨0, rfl, by show _ ∧ _; omega, by rw [stepL_zero]; exact X2.out, B2.out⟩
        case round =>
          clear X2 B2
          obtain ⟨i, rfl, HI, HX, BW⟩ := hrel
          by_cases hlt : i < n
          · have hltz : (i : Int) < (n : Int) := by omega
            obtain ⟨p, hp⟩ : ∃ p, qs[i]? = some p := ⟨_, List.getElem?_eq_getElem (by have := HQ.out; omega)⟩
            obtain ⟨x, gi, zs, hx, hxA, hxn, _, hg1, hg2, c0, k1, ho, hz⟩ := HX.out.at (stepL_get.trans hp)
            have h6 : x.n ≤ 6 := by rw [hxn]; exact HQ6.out p (List.mem_of_getElem? hp)
            clear hxn c0
            have HP := Lib.hid hp
            have HXX := Lib.hid hx
            have HXA := Lib.hid hxA
            have HO2 := Lib.hid ho
            have HZ := Lib.hid hz
            have HGI : Hid (w.heap.size ≤ gi) := hg1
            have hsz := BW.out.size
            obtain ⟨m, hm⟩ : ∃ m, x.n = m := ⟨_, rfl⟩
            obtain ⟨mc, hmc⟩ : ∃ mc, x.c = mc := ⟨_, rfl⟩
            rw [hm, hmc] at k1 HO2
            have HM : Hid (x.n = m ∧ x.c = mc) := ⟨hm, hmc⟩
            rw [hm] at h6
            have R := own_row HO2.out
            have HSZ : Hid (zs.toArray.size = m) := by show _ = _; simpa using (own_blk HO2.out).2.2.1
            have S0 : Aside (SWK reCells 2 wr gi 0 zs.toArray wr) := SWK.start R.hH
            have HBS : Hid (Bub zs.toArray 0 zs.toArray) := Bub.start _
            clear hp hx hxA ho hz hm hmc
            generalize wr = wp at *
            go_wp2_with fail
            go_loopg [8] (m + 1) (fun h s8 wr => ∃ (r : Nat) (dk : Array Re), s8 = .int .i64 r ∧ Hid (r ≤ m ∧ r + h = m + 1) ∧ Hid (Bub zs.toArray r dk) ∧ Aside (SWK reCells 2 wp gi 0 dk wr))
            case atStart => exact ⟨0, zs.toArray, rfl, by show _ ∧ _; omega, HBS.out, S0⟩
            case round =>
              clear S0 HBS k1
              obtain ⟨r, dk, rfl, HR, HB, S1⟩ := hrel
              by_cases hlt : r < m
              · have hltz : (r : Int) < (m : Int) := by omega
                have HIN : Hid (BubIn zs.toArray r 1 dk) := HB.out.enter (by rw [HSZ.out]; exact hlt)
                generalize wr = wq at *
                go_wp2_with fail
                go_loopg [9] (m + 1) (fun h s9 wr => ∃ (j jp : Nat) (dj : Array Re), s9 = .int .i64 j ∧ Hid (j = jp + 1 ∧ j ≤ m ∧ j + h = m + 2) ∧ Hid (BubIn zs.toArray r j dj) ∧ Aside (SWK reCells 2 wp gi 0 dj wr))
                case atStart => exact ⟨1, 0, dk, rfl, by show _ ∧ _; omega, HIN.out, S1⟩
                case round =>
                  clear S1 HIN
                  obtain ⟨j, jp, dj, rfl, HI, HJ, S2⟩ := hrel
                  by_cases hlt2 : j < m
                  · have hltz2 : (j : Int) < (m : Int) := by omega
                    have hjs : dj.size = zs.toArray.size := HJ.out.size
                    have hds : dj.size = m := hjs.trans HSZ.out
                    have ejp : IntKind.i64.wrap ((j : Int) - 1) = (jp : Int) := by rw [IntKind.wrap_i64]; have := HI.out; omega
                    have hjp : jp < m := by have := HI.out; omega
                    have q5 : ¬ jp = j := by have := HI.out; omega
                    have b1 : (j : Int) < (m : Int) := by omega
                    have b2 : (jp : Int) < (m : Int) := by omega
                    obtain ⟨l1, l2, f1, f2⟩ := swk_cells S2.out R hjs (show j < dj.size by omega)
                    obtain ⟨l3, l4, f3, f4⟩ := swk_cells S2.out R hjs (show jp < dj.size by omega)
                    have S4 : Aside (∀ m, _) := fun m => swk_swap R (S2.out.drewN m) (i := j) (j := jp) (by omega) (by omega)
                    have HV : Hid (Op.bytesLess dj[j]!.s.toList dj[jp]!.s.toList = Stb.lt rk dj[j]! dj[jp]!) := less_rk dj[j]! dj[jp]!
                    have HJK : Hid (Stb.lt rk dj[j]! dj[jp]! = false → BubIn zs.toArray r (j + 1) dj) := fun h => HJ.out.keep HI.out.1 (by have := HSZ.out; omega) h
                    have HJC : Hid (Stb.lt rk dj[j]! dj[jp]! = true → BubIn zs.toArray r (j + 1) (swp dj j jp)) := fun h => HJ.out.change HI.out.1 (by have := HSZ.out; omega) h
                    simp only [Nat.zero_add] at l1 l2 l3 l4 f1 f2 f3 f4 S4
                    clear hjs hds
                    obtain ⟨bl, hbl⟩ : ∃ bl, Stb.lt rk dj[j]! dj[jp]! = bl := ⟨_, rfl⟩
                    rw [hbl] at HV HJK HJC
                    clear hbl
                    have hv := HV.out
                    generalize dj[j]! = x at l1 l2 S4 hv
                    generalize dj[jp]! = y at l3 l4 S4 hv
                    obtain ⟨xs1, xA, xn, xc⟩ := x
                    obtain ⟨ys1, yA, yn, yc⟩ := y
                    simp only [] at l1 l2 l3 l4 S4 hv
                    clear HV
                    cases bl with
                    | false =>
                      have HJ1 : Hid (BubIn zs.toArray r (j + 1) dj) := HJK.out rfl
                      clear S4 f1 f2 f3 f4 HJK HJC
                      go_wp2_with fail
                      go_quiet (fail)
                      go_wp2
                      go_roundg (m + 1 - j)
                      case measure => have := HI.out; omega
                      case rel => exact ⟨j + 1, j, dj, by go_num, by show _ ∧ _; have := HI.out; omega, HJ1.out, S2.out.drewN _⟩
                    | true =>
                      have HJ1 : Hid (BubIn zs.toArray r (j + 1) (swp dj j jp)) := HJC.out rfl
                      clear HJK HJC
                      go_wp2_with fail
                      go_quiet (fail)
                      go_wp2_with fail
                      have S5 : Aside _ := S4.out nq
                      have g1 : (wr.drewN nq).cell? _ = _ := l1
                      have g2 : (wr.drewN nq).cell? _ = _ := l2
                      have g3 : (wr.drewN nq).cell? _ = _ := l3
                      have g4 : (wr.drewN nq).cell? _ = _ := l4
                      have g5 : (wr.drewN nq).frozen? _ = _ := f1
                      have g6 : (wr.drewN nq).frozen? _ = _ := f2
                      have g7 : (wr.drewN nq).frozen? _ = _ := f3
                      have g8 : (wr.drewN nq).frozen? _ = _ := f4
                      clear S4 l1 l2 l3 l4 f1 f2 f3 f4 S2
                      generalize wr.drewN nq = wq2 at S5 g1 g2 g3 g4 g5 g6 g7 g8 ⊢
                      have q1 : ¬ jp * 2 = j * 2 := by omega
                      have q2 : ¬ jp * 2 = j * 2 + 1 := by omega
                      have q3 : ¬ jp * 2 + 1 = j * 2 := by omega
                      have q4 : ¬ jp * 2 + 1 = j * 2 + 1 := by omega
                      go_big_region_o
                      go_wp2
                      go_roundg (m + 1 - j)
                      case measure => have := HI.out; omega
                      case rel => exact ⟨j + 1, j, _, by go_num, by show _ ∧ _; have := HI.out; omega, HJ1.out, S5⟩
                  · have hltz2 : ¬ (j : Int) < (m : Int) := by omega
                    have HN : Hid (Bub zs.toArray (r + 1) dj) := HJ.out.exit (by rw [HSZ.out]; omega)
                    go_wp2_with fail
                    go_roundg (m - r)
                    case measure => have := HR.out; omega
                    case rel => exact ⟨r + 1, dj, by go_num, by show _ ∧ _; have := HR.out; omega, HN.out, S2⟩
              · have hltz : ¬ (r : Int) < (m : Int) := by omega
                have HD : Hid (dk = Stb.ord rk zs.toArray) := HB.out.done (by rw [HSZ.out]; omega)
                have HO3 := Lib.hid (swk_own HO2.out (by rw [HD.out, Stb.ord_size]; simp) S1.out)
                have K3 : Hid (But wp wr [gi]) := swk_but S1.out
                have X3 : Hid (OwnX wr w.heap.size (.slice (some ⟨g, 0, none⟩) n c1) ys (stepL inOrder qs (i + 1))) := by
                  show OwnX _ _ _ _ _
                  rw [← stepL_set HP.out]
                  refine HX.out.turn HXX.out (stepL_get.trans HP.out) HXA.out K3.out rfl (ordL_length _ _) ?_
                  rw [HM.out.1, HM.out.2]
                  exact row_ord HO2.out HZ.out K3.out (by have := HO3.out; rw [HD.out] at this; exact this)
                have B3 : Hid (Below w.heap.size w wr) := BW.out.trans (K3.out.to_below hsz (by intro b hb; rw [List.mem_singleton.1 hb]; exact HGI.out))
                clear HO3 HD
                go_wp2_with fail
                go_roundg (n - i)
                case measure => have := HI.out; omega
                case rel => exact ⟨i + 1, by go_num, by show _ ∧ _; have := HI.out; omega, X3.out, B3.out⟩
          · have hltz : ¬ (i : Int) < (n : Int) := by omega
            rw [stepL_full (by have := HQ.out; omega), ← HOP.out] at HX
            go_wp2_with fail
            go_ret
            exact ⟨_, rfl, ys, HX.out, BW.out⟩
end Go.Proofs.YtnpmkapapacffaaDoor
