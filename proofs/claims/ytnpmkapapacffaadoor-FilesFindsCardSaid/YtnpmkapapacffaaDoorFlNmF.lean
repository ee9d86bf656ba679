/-
  files.sortByName and files.exchange at []api.File: a row of the call's own behind them.
-/
import Derived.Test.YtnpmkapapacffaaDoorFlSrtF
import Derived.Test.YtnpmkapapacffaaDoorFlCmp
namespace Go.Proofs.YtnpmkapapacffaaDoor
open Go.Shelf Go.RowKit Go.Lib Go.Sort Fm

set_option maxHeartbeats 400000 in
theorem nameOf_runF (s : ByteArray) (A : Option Addr) (n c : Nat) (w : World) : Calls Tryd.prog 39 #[.agg #[.string s, .slice A n c]] w fun e w' => e = .returned (.string s) ∧ w' = w.alloc (.cells #[.string s, .slice A n c] 39) := by
  go_enter Tryd.func39, Tryd.ntmps39
  go_wp2
  go_ret
  exact ⟨rfl, rfl⟩
set_option maxHeartbeats 2000000 in
theorem byName_runF (s t : ByteArray) (A B : Option Addr) (n c m d : Nat) (b : Nat) (w : World) (h : w.cell? ⟨b, 0, none⟩ = some (.func (.func 39) #[] #[])) :
    Calls Tryd.prog 63 #[.agg #[.string s, .slice A n c], .agg #[.string t, .slice B m d], .pointer (some ⟨b, 0, none⟩)] w fun e w' => e = .returned (.int .i64 (compareBytes s.data.toList t.data.toList)) ∧ ∃ q os, w' = grow (w.drewN q) os := by
  have hb : b < w.heap.size := World.block_lt_of_cell? w _ h
  obtain ⟨W, hW⟩ : ∃ W, W = (w.alloc (.cells #[.string s, .slice A n c] 39)).alloc (.cells #[.string t, .slice B m d] 39) := ⟨_, rfl⟩
  have hs : W.heap.size = w.heap.size + 2 := by rw [hW]; simp
  have l0 : ∀ n os, (grow (W.drewN n) os).cell? ⟨b, 0, none⟩ = some (.func (.func 39) #[] #[]) := fun n os => by
    rw [cell?_grow _ _ _ (by show b < (W.drewN n).heap.size; rw [show (W.drewN n).heap.size = W.heap.size from rfl]; omega)]
    show W.cell? _ = _
    rw [hW]
    exact ((((Below.refl w.heap.size w).alloc (Nat.le_refl _) _).alloc (by simp) _).cell (p := ⟨b, 0, none⟩) hb).trans h
  have l1 : ∀ n os, (grow (W.drewN n) os).cell? ⟨w.heap.size, 0, none⟩ = some (.string s) := fun n os => by
    rw [cell?_grow _ _ _ (by show w.heap.size < (W.drewN n).heap.size; rw [show (W.drewN n).heap.size = W.heap.size from rfl]; omega)]
    show W.cell? _ = _
    rw [hW]; simp
  have l2 : ∀ n' os, (grow (W.drewN n') os).cell? ⟨w.heap.size, 1, none⟩ = some (.slice A n c) := fun n' os => by
    rw [cell?_grow _ _ _ (by show w.heap.size < (W.drewN n').heap.size; rw [show (W.drewN n').heap.size = W.heap.size from rfl]; omega)]
    show W.cell? _ = _
    rw [hW]; simp
  have l3 : ∀ n os, (grow (W.drewN n) os).cell? ⟨w.heap.size + 1, 0, none⟩ = some (.string t) := fun n os => by
    rw [cell?_grow _ _ _ (by show w.heap.size + 1 < (W.drewN n).heap.size; rw [show (W.drewN n).heap.size = W.heap.size from rfl]; omega)]
    show W.cell? _ = _
    rw [hW]; simp
  have l4 : ∀ n os, (grow (W.drewN n) os).cell? ⟨w.heap.size + 1, 1, none⟩ = some (.slice B m d) := fun n os => by
    rw [cell?_grow _ _ _ (by show w.heap.size + 1 < (W.drewN n).heap.size; rw [show (W.drewN n).heap.size = W.heap.size from rfl]; omega)]
    show W.cell? _ = _
    rw [hW]; simp
  have hn : ∀ (s : ByteArray) (A : Option Addr) (n c : Nat) (U : World), Calls Tryd.prog 39 #[.agg #[.string s, .slice A n c]] U fun e w' => e = .returned (.string s) ∧ ∃ q os', w' = grow (U.drewN q) os' := fun s A n c U => (nameOf_runF s A n c U).mono fun _ _ ⟨h1, h2⟩ => ⟨h1, 0, #[.cells #[.string s, .slice A n c] 39], h2.trans (alloc_eq_grow U _)⟩
  have hc : ∀ U : World, Calls Tryd.prog 61 #[.string s, .string t] U fun e w' => e = .returned (.int .i64 (compareBytes s.data.toList t.data.toList)) ∧ ∃ q os', w' = grow (U.drewN q) os' := fun U => (compare_run s t U).mono fun _ _ ⟨h1, h2⟩ => ⟨h1, 0, #[], by rw [grow_empty]; exact h2.symm⟩
  obtain ⟨r, hr⟩ : ∃ r, compareBytes s.data.toList t.data.toList = r := ⟨_, rfl⟩
  rw [hr] at hc ⊢
  have mixed := mixedA
  have HW := Lib.hid hW
  clear h hr hW
  go_enter Tryd.func63, Tryd.ntmps63
  go_wp2_with fail
  rw [← HW.out]
  go_quiet_grown (first | (go_at_call 61; refine Calls.grown_of (hc _)) | (go_at_call 39; refine Calls.grown_of (hn _ _ _ _ _)))
  go_wp2
  go_ret
  refine ⟨rfl, nq, #[.cells #[.string s, .slice A n c] 39, .cells #[.string t, .slice B m d] 39] ++ osq, ?_⟩
  rw [HW.out, alloc_eq_grow, alloc_eq_grow, grow_grow]
  show grow (grow (w.drewN nq) _) osq = _
  rw [grow_grow]
  rfl
set_option maxHeartbeats 2000000 in
/-- files.sortByName. -/
theorem sort_runF {base : Nat} (g n cap : Nat) (xs : List Re) (w : World) (h : OwnV reCells 2 39 w base (.slice (some ⟨g, 0, none⟩) n cap) xs) (hn : n < 20) :
    Calls Tryd.prog 38 #[.slice (some ⟨g, 0, none⟩) n cap, .func (.func 39) #[] #[]] w fun e w' => e = .returned (.tuple #[]) ∧ OwnV reCells 2 39 w' base (.slice (some ⟨g, 0, none⟩) n cap) (ordL rk xs) ∧ But w w' [g] := by
  have hf := hmf
  have hk := own_blk h
  have H := Lib.hid h
  have O1 := Lib.hid (OwnV.alloc h (.cells #[.func (.func 39) #[] #[]] 70))
  have R := own_row O1.out
  have OK : OrdK cmpRe 63 #[.pointer (some ⟨w.heap.size, 0, none⟩)] g 0 xs.toArray.size (w.alloc (.cells #[.func (.func 39) #[] #[]] 70)) :=
    ⟨enters_of Tryd.func63 (by kernel_rfl) rfl, fun m os dk _ x y => by
      have hb := swk_but (w0 := w.alloc (.cells #[.func (.func 39) #[] #[]] 70)) (blk := g) (off := 0) (dk := dk) ⟨m, os, rfl⟩
      refine byName_runF x.s y.s x.A y.A x.n x.c y.n y.c w.heap.size _ ?_
      rw [hb.cell (p := ⟨w.heap.size, 0, none⟩) (by simp) (by simp; omega)]
      simp⟩
  have hsz : xs.toArray.size = n := by simpa using hk.2.2.1
  have HS := Lib.hid (sortStable_runF g 0 cap 63 #[.pointer (some ⟨w.heap.size, 0, none⟩)] cmpRe xs.toArray _ R OK (by omega))
  have e0 : Sort.insertionSort (ltOf cmpRe) xs.toArray 0 xs.toArray.size = Stb.ord rk xs.toArray := by rw [lt_cmp]; rfl
  rw [e0, hsz] at HS
  clear e0 OK R h
  go_enter Tryd.func38, Tryd.ntmps38
  go_wp2_with fail
  refine HS.out.mono ?_
  rintro e w1 ⟨rfl, hw1⟩
  have H1 := Lib.hid hw1
  clear hw1
  go_wp2_with fail
  go_end0
  exact ⟨rfl, swk_own O1.out (by rw [Stb.ord_size]; simp) H1.out, ((But.refl w _).alloc _).trans (swk_but H1.out)⟩
set_option maxHeartbeats 8000000 in
set_option maxRecDepth 1000000 in
/-- files.exchange. -/
theorem exchange_runF {base : Nat} (g n cap : Nat) (xs : List Re) (A : Option Addr) (m c : Nat) (pick : List Int) (w : World) (h : OwnV reCells 2 39 w base (.slice (some ⟨g, 0, none⟩) n cap) xs) (hn : n < 20) (hp : Nums w base A pick) (hl : pick.length = m) (hm : m ≤ 1000) :
    Calls Tryd.prog 45 #[.slice (some ⟨g, 0, none⟩) n cap, .slice A m c] w fun e w' => e = .returned (.tuple #[]) ∧ OwnV reCells 2 39 w' base (.slice (some ⟨g, 0, none⟩) n cap) (permL xs pick) ∧ But w w' [g] := by
  have mixed := mixedA
  have hk := own_blk h
  have R := own_row h
  have H := Lib.hid h
  have HP := Lib.hid hp
  have HL := Lib.hid hl
  have hsz : xs.toArray.size = n := by simpa using hk.2.2.1
  have HSZ := Lib.hid hsz
  obtain ⟨mn, hmn⟩ : ∃ mn : Nat, min (n : Int) (m : Int) = (mn : Int) := ⟨min n m, by omega⟩
  have HMN : Hid (mn ≤ n ∧ mn ≤ m ∧ (mn = n ∨ mn = m)) := by show _ ∧ _; omega
  have HG : Hid (base ≤ g) := hk.1
  have S0 : Aside (SWK reCells 2 w g 0 xs.toArray w) := SWK.start R.hH
  clear h hp hl hk hsz
  go_enter Tryd.func45, Tryd.ntmps45
  go_wp2_with fail
  go_loopg [11] (mn + 1) (fun h s11 wr => ∃ i : Nat, s11 = .int .i64 i ∧ Hid (i ≤ mn ∧ i + h = mn + 1) ∧ Aside (SWK reCells 2 w g 0 (permTo xs.toArray pick i) wr))
  case atStart => exact ⟨0, rfl, by show _ ∧ _; omega, S0⟩
  case round =>
    clear S0
    obtain ⟨i, rfl, HI, S1⟩ := hrel
    by_cases hlt : i < mn
    · have hltz : (i : Int) < (mn : Int) := by omega
      have hin : i < n := by have := HMN.out; omega
      have him : i < m := by have := HMN.out; omega
      have hin1 : (i : Int) < (n : Int) := by omega
      obtain ⟨x, hx⟩ : ∃ x, pick[i]? = some x := ⟨_, List.getElem?_eq_getElem (by have := HL.out; omega)⟩
      obtain ⟨b, o, hA, hb, hc⟩ := HP.out (by have := HL.out; omega)
      have c0 : wr.cell? ⟨b, o + i, none⟩ = some (.int .i64 x) := by
        rw [(swk_but S1.out).cell (p := ⟨b, o + i, none⟩) (by have := R.hblk; have := HG.out; show b < _; omega) (by have := HG.out; simp; omega)]
        exact hc i x hx
      have ht := tgt_lt (n := n) x hin
      obtain ⟨j, hj⟩ : ∃ j : Nat, (i : Int) + x % ((n : Int) - i) = (j : Int) := ⟨tgt n i x, by
        have := Int.emod_nonneg x (show (n : Int) - i ≠ 0 by omega)
        unfold tgt; omega⟩
      have hjt : tgt n i x = j := by
        have := Int.emod_nonneg x (show (n : Int) - i ≠ 0 by omega)
        unfold tgt; omega
      have HJ := Lib.hid hjt
      rw [hjt] at ht
      have hjn : j < n := ht.2
      have hjn1 : (j : Int) < (n : Int) := by omega
      have hds : (permTo xs.toArray pick i).size = n := by rw [permTo_size]; exact HSZ.out
      have HX := Lib.hid hx
      have hm0 : (0 : Int) < (n : Int) - (i : Int) := by omega
      subst hA
      clear hc hx hjt ht
      go_wp2_with fail
      refine (mod_run x ((n : Int) - i) hm0 (by omega) _).mono ?_
      rintro e w1 ⟨rfl, rfl⟩
      go_wp2_with fail
      have S4 : Aside _ := swk_swap R S1.out (i := i) (j := j) (by rw [hds]; exact hin) (by rw [hds]; exact hjn)
      obtain ⟨l1, l2, f1, f2⟩ := swk_cells S1.out R (by rw [permTo_size]) (show i < (permTo xs.toArray pick i).size by rw [hds]; exact hin)
      obtain ⟨l3, l4, f3, f4⟩ := swk_cells S1.out R (by rw [permTo_size]) (show j < (permTo xs.toArray pick i).size by rw [hds]; exact hjn)
      have HE : Hid (swp (permTo xs.toArray pick i) i j = permTo xs.toArray pick (i + 1)) := by
        show _ = _
        rw [permTo_go _ _ (by rw [HSZ.out]; exact hin) HX.out, HSZ.out, HJ.out]
      rw [HE.out] at S4
      obtain ⟨dn, hdn⟩ : ∃ dn, permTo xs.toArray pick (i + 1) = dn := ⟨_, rfl⟩
      rw [hdn] at S4
      have HD := Lib.hid hdn
      simp only [Nat.zero_add] at S4 l1 l2 l3 l4 f1 f2 f3 f4
      clear S1 c0 hds HE hdn
      by_cases hij : j = i
      · subst hij
        generalize (permTo xs.toArray pick j)[j]! = y at S4 l1 l2 l3 l4
        obtain ⟨ys, yA, yn, yc⟩ := y
        simp only [] at S4 l1 l2
        clear l3 l4 f3 f4
        go_big_region_o
        go_wp2
        go_roundg (mn - j)
        case measure => have := HI.out; omega
        case rel => exact ⟨j + 1, by go_num, by show _ ∧ _; have := HI.out; omega, HD.out ▸ S4⟩
      · have q1 : ¬ j * 2 = i * 2 := by omega
        have q2 : ¬ j * 2 = i * 2 + 1 := by omega
        have q3 : ¬ j * 2 + 1 = i * 2 := by omega
        have q4 : ¬ j * 2 + 1 = i * 2 + 1 := by omega
        have q5 : ¬ j = i := hij
        generalize (permTo xs.toArray pick i)[i]! = x1 at S4 l1 l2
        generalize (permTo xs.toArray pick i)[j]! = y at S4 l3 l4
        obtain ⟨xs1, xA, xn, xc⟩ := x1
        obtain ⟨ys, yA, yn, yc⟩ := y
        simp only [] at S4 l1 l2 l3 l4
        go_big_region_o
        go_wp2
        go_roundg (mn - i)
        case measure => have := HI.out; omega
        case rel => exact ⟨i + 1, by go_num, by show _ ∧ _; have := HI.out; omega, HD.out ▸ S4⟩
    · have hltz : ¬ (i : Int) < (mn : Int) := by omega
      have HE : Hid (permTo xs.toArray pick i = permTo xs.toArray pick xs.length) := by
        show _ = _
        have hi := HI.out
        have h1 := HMN.out
        have h2 := HSZ.out
        have h3 := HL.out
        have h4 : xs.length = n := by simpa using h2
        rw [show xs.length = i + (xs.length - i) by omega]
        exact (permTo_stay _ _ (by omega) _).symm
      rw [HE.out] at S1
      go_wp2_with fail
      go_end0
      exact ⟨rfl, swk_own H.out (by rw [permTo_size]; simp) S1.out, swk_but S1.out⟩
end Go.Proofs.YtnpmkapapacffaaDoor
