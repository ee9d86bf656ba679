/-
  The contract of span.Gaps.
-/
import Derived.Test.YtnbnohphdehfoaaSpGaps
namespace Go.Proofs.Ytnbnohphdehfoaa
open Go.RowKit Go.Sort

theorem merged_in {l M : List (Int × Int)} {z : Int} (hM : Sp.Norm M) (hh : ∀ x, Sp.Has M x ↔ Sp.Has l x) (h0 : errOfL z l = 0) : ∀ s ∈ M, 0 ≤ s.1 ∧ s.2 ≤ z := by
  intro s hs
  have hlt := hM.1 s hs
  obtain ⟨r, hr, h1, _⟩ := (hh s.1).1 ⟨s, hs, Int.le_refl _, hlt⟩
  obtain ⟨r', hr', _, h4⟩ := (hh (s.2 - 1)).1 ⟨s, hs, by omega, by omega⟩
  have a := errOfL_zero h0 r hr
  have b := errOfL_zero h0 r' hr'
  omega
set_option maxHeartbeats 8000000 in
set_option maxRecDepth 100000 in
theorem gaps_run (A : Option Addr) (n cap : Nat) (l : List (Int × Int)) (z : Int) (w : World) (hb : CellsV pairCells w w.heap.size A l) (hl : Hid (l.length = n)) (hn : n ≤ 1000) :
    Calls Try.prog 18 #[.slice A n cap, .int .i64 z] w fun e w' => GapsPost l z w e w' := by
  have HB := Lib.hid hb
  have HC : Hid (∀ x y W, Calls Try.prog 9 #[.agg #[.int .i64 x, .int .i64 y], .int .i64 z] W fun e w' => e = .returned (errOf (chkOf x y z)) ∧ Below W.heap.size W w') :=
    fun x y W => (check_run x y z W).mono fun _ _ ⟨he, os, hw⟩ => ⟨he, hw ▸ below_grow (Below.refl _ _) (Nat.le_refl _) os⟩
  clear hb
  go_enter Try.func18, Try.ntmps18
  go_wp2_with fail
  go_loopg [15] (n + 1) (fun h s15 wr => ∃ (i : Nat), s15 = .int .i64 i ∧ Hid (i ≤ n ∧ n < i + h) ∧ Hid (errOfL z (l.take i) = 0) ∧ Hid (Below w.heap.size w wr))
  case atStart => exact ⟨0, rfl, by show _ ∧ _; omega, by show _ = _; rw [List.take_zero]; rfl, Below.refl _ _⟩
  case round =>
    obtain ⟨i, rfl, HI, HN, BW⟩ := hrel
    have hsz := BW.out.size
    by_cases hlt : i < n
    · have hltz : (i : Int) < (n : Int) := by omega
      obtain ⟨g, o, rfl, hg, hc⟩ := spans_get HB.out (by have := hl.out; omega)
      obtain ⟨s, hx⟩ : ∃ x, l[i]? = some x := ⟨_, List.getElem?_eq_getElem (by rw [hl.out]; exact hlt)⟩
      have c0 := (BW.out.cell (p := ⟨g, o + i * 2, none⟩) hg).trans (hc i s hx).1
      have c1 := (BW.out.cell (p := ⟨g, o + i * 2 + 1, none⟩) hg).trans (hc i s hx).2
      obtain ⟨p, q⟩ := s
      simp only [] at c0 c1
      have HK : Hid (errOfL z (l.take (i + 1)) = chkOf p q z) := errOfL_take hx HN.out
      clear hc hx hg
      obtain ⟨k, hk⟩ : ∃ k, chkOf p q z = k := ⟨_, rfl⟩
      rw [hk] at HK
      have HCK := Lib.hid hk
      have B0 : Hid (Below w.heap.size w (wr.alloc (.cells #[.int .i64 p, .int .i64 q] 23))) := BW.out.alloc hsz _
      clear hk
      go_wp2_with fail
      refine (HC.out p q _).mono ?_
      rintro e w1 ⟨rfl, hw1⟩
      have B1 : Hid (Below w.heap.size w w1) := B0.out.trans (hw1.mono (by simp; omega))
      rw [HCK.out]
      clear hw1 c0 c1 B0
      by_cases h0 : k = 0
      · subst h0
        rw [show errOf 0 = .nilIface from rfl]
        go_wp2_with fail
        go_roundg (n - i)
        case measure => have := HI.out; omega
        case rel => exact ⟨i + 1, by go_num, by show _ ∧ _; have := HI.out; omega, HK.out, B1.out⟩
      · have HE : Hid (errOfL z l = k ∧ k ≠ 0) := by
          have h1 := HK.out
          exact ⟨by rw [errOfL_prefix (i := i + 1) (by rw [h1]; exact h0), h1], h0⟩
        rw [errOf_pos h0]
        clear h0
        go_wp2_with fail
        go_ret2
        exact ⟨_, [], by rw [HE.out.1, errOf_pos HE.out.2]; rfl, fun _ => rfl, fun h => absurd (HE.out.1.symm.trans h) HE.out.2, by simp, listOut_nil _ _ B1.out⟩
    · have hltz : ¬ (i : Int) < (n : Int) := by omega
      have HE : Hid (errOfL z l = 0) := by have := HN.out; rwa [List.take_of_length_le (by have := hl.out; omega)] at this
      go_wp2_with fail
      refine (merge_run A n cap l wr ((HB.out.below BW.out (Nat.le_refl _)).more hsz) hl hn).mono ?_
      rintro e w1 ⟨v, M, rfl, hM, hMl, hMn, A9, cap9, rfl, hc9, hm9, hy9, hb9⟩
      have HM : Hid (Sp.Norm M ∧ (∀ x, Sp.Has M x ↔ Sp.Has l x) ∧ M.length ≤ l.length) := ⟨hM, hMl, hMn⟩
      have HIN : Hid (∀ s ∈ M, 0 ≤ s.1 ∧ s.2 ≤ z) := merged_in hM hMl HE.out
      have Y9 := Lib.hid hy9
      have B9 : Hid (Below w.heap.size w w1) := BW.out.trans (hb9.mono hsz)
      obtain ⟨m, hm⟩ : ∃ m, m = M.length := ⟨_, rfl⟩
      have HMm : Hid (M.length = m) := hm.symm
      have hm1 : m ≤ 1000 := by have := hl.out; omega
      rw [← hm]
      have hsw := B9.out.size
      clear hM hMl hMn hy9 hb9 HN HI BW hlt hltz hc9 hm9 hm
      generalize w1 = W at *
      go_wp2_with fail
      go_loopg [9, 10, 29] (m + 1) (fun h s9 s10 s29 wr => ∃ (i : Nat) (at_ : Int) (out : List (Int × Int)), s10 = .int .i64 at_ ∧ s29 = .int .i64 i ∧ Hid (i ≤ m ∧ m < i + h ∧ out.length ≤ i) ∧ Hid (GapAt M i at_ out) ∧ Hid (OwnV pairCells 2 23 wr W.heap.size s9 out) ∧ Hid (Below W.heap.size W wr))
      case atStart => exact ⟨0, 0, [], rfl, rfl, by show _ ∧ _; simp, GapAt.start M, OwnV.nil _ _ _ _ _, Below.refl _ _⟩
      case round =>
        obtain ⟨i, at_, out, rfl, rfl, HI, HG, O, BW⟩ := hrel
        by_cases hlt : i < m
        · have hltz : (i : Int) < (m : Int) := by omega
          obtain ⟨g, o, rfl, hg, hc⟩ := spans_get Y9.out (by have := HMm.out; omega)
          obtain ⟨s, hx⟩ : ∃ x, M[i]? = some x := ⟨_, List.getElem?_eq_getElem (by rw [HMm.out]; exact hlt)⟩
          have c0 := (BW.out.cell (p := ⟨g, o + i * 2, none⟩) hg).trans (hc i s hx).1
          have c1 := (BW.out.cell (p := ⟨g, o + i * 2 + 1, none⟩) hg).trans (hc i s hx).2
          obtain ⟨p, q⟩ := s
          simp only [] at c0 c1
          have HGo := Lib.hid (GapAt.go HM.out.1 (fun s hs => (HIN.out s hs).1) HG.out hx)
          have hsW := BW.out.size
          clear hc hx hg
          have XB : Hid (Box2 ((wr.alloc (.cells #[.int .i64 p, .int .i64 q] 23)).alloc (.cells #[.int .i64 at_, .int .i64 p] 23)) wr.heap.size p q) := (Box2.new wr p q _).keep ((Below.refl _ _).alloc (Nat.le_refl _) _) (by simp)
          have OA : Hid (OwnV pairCells 2 23 ((wr.alloc (.cells #[.int .i64 p, .int .i64 q] 23)).alloc (.cells #[.int .i64 at_, .int .i64 p] 23)) W.heap.size u9 out) := OwnV.alloc (OwnV.alloc O.out _) _
          have NA : Hid (CellsV pairCells ((wr.alloc (.cells #[.int .i64 p, .int .i64 q] 23)).alloc (.cells #[.int .i64 at_, .int .i64 p] 23)) (wr.heap.size + 1 + 1) (some ⟨wr.heap.size + 1, 0, none⟩) [(at_, p)]) := by
            have := one_cells (wr.alloc (.cells #[.int .i64 p, .int .i64 q] 23)) at_ p 23
            show CellsV _ _ _ _ _
            simpa using this
          have OLT : Hid (∀ k, u9.ownBlock = some k → k < wr.heap.size) := fun k hk => (World.ownsRow.lt O.out k hk).2
          have BA : Hid (Below W.heap.size W ((wr.alloc (.cells #[.int .i64 p, .int .i64 q] 23)).alloc (.cells #[.int .i64 at_, .int .i64 p] 23))) := (BW.out.alloc hsW _).alloc (by simp; omega) _
          have B1 : Hid (Below W.heap.size W (wr.alloc (.cells #[.int .i64 p, .int .i64 q] 23))) := BW.out.alloc hsW _
          have O1 : Hid (OwnV pairCells 2 23 (wr.alloc (.cells #[.int .i64 p, .int .i64 q] 23)) W.heap.size u9 out) := OwnV.alloc O.out _
          have hbase : W.heap.size ≤ ((wr.alloc (.cells #[.int .i64 p, .int .i64 q] 23)).alloc (.cells #[.int .i64 at_, .int .i64 p] 23)).heap.size := by simp; omega
          have hlen : Hid (out.length ≤ 500000) := by show _ ≤ _; have := HI.out; omega
          clear O BW
          by_cases hap : at_ < p
          · have hd : decide (at_ < p) = true := decide_eq_true hap
            have HGn : Hid (GapAt M (i + 1) q (out ++ [(at_, p)])) := by have := HGo.out.1; rwa [if_pos hap] at this
            clear hap
            go_wp2_with
              (at_builtin
               refine wpList_appV span_slice _ rfl (.tmp 37) (.tmp 42) rfl W.heap.size _ _ rfl OA.out (wr.heap.size + 1 + 1) (some ⟨wr.heap.size + 1, 0, none⟩) 1 1 [(at_, p)] rfl NA.out rfl hlen.out (by simp) hbase ?_
               intro v3 w3 o3 g3 t3
               have BV : Hid (Below W.heap.size W w3) := BA.out.grown g3 hbase (ownV_ge OA.out)
               have q1 : w3.cell? ⟨wr.heap.size, 1, none⟩ = some (.int .i64 q) := (World.cell?_of_block (g3.block wr.heap.size (by simp; omega) (fun e => by have := OLT.out _ e.symm; omega))).trans XB.out.c1
               have OV := Lib.hid o3
               clear o3 g3 t3)
            go_roundg (m - i)
            case measure => have := HI.out; omega
            case rel => exact ⟨i + 1, q, _, rfl, by go_num, by show _ ∧ _; have := HI.out; simp; omega, HGn.out, OV.out, BV.out⟩
          · have hd : decide (at_ < p) = false := decide_eq_false hap
            have HGn : Hid (GapAt M (i + 1) q out) := by have := HGo.out.1; rwa [if_neg hap] at this
            clear hap
            go_wp2_with fail
            go_roundg (m - i)
            case measure => have := HI.out; omega
            case rel => exact ⟨i + 1, q, out, rfl, by go_num, by show _ ∧ _; have := HI.out; omega, HGn.out, O1.out, B1.out⟩
        · have hltz : ¬ (i : Int) < (m : Int) := by omega
          have hsW := BW.out.size
          have HFin : Hid (RunsOf (fun x => ¬ Sp.Has l x) 0 z (if at_ < z then out ++ [(at_, z)] else out)) := by
            have hI := HI.out
            obtain rfl : i = M.length := by have := HMm.out; omega
            have h := GapAt.finish (fun s hs => (HIN.out s hs).2) HG.out
            refine ⟨h.1, fun x => ?_⟩
            show _ ↔ 0 ≤ x ∧ x < z ∧ ¬ Sp.Has l x
            rw [h.2 x]
            show 0 ≤ x ∧ x < z ∧ ¬ Sp.Has M x ↔ _
            rw [HM.out.2.1]
          have HLn : Hid (out.length + 1 ≤ l.length + 1000) := by show _ ≤ _; have := HI.out; have := HM.out.2.2; have := HMm.out; omega
          by_cases hap : at_ < z
          · have hd : decide (at_ < z) = true := decide_eq_true hap
            have HGn : Hid (RunsOf (fun x => ¬ Sp.Has l x) 0 z (out ++ [(at_, z)])) := by have := HFin.out; rwa [if_pos hap] at this
            have OA : Hid (OwnV pairCells 2 23 (wr.alloc (.cells #[.int .i64 at_, .int .i64 z] 23)) W.heap.size u9 out) := OwnV.alloc O.out _
            have NA : Hid (CellsV pairCells (wr.alloc (.cells #[.int .i64 at_, .int .i64 z] 23)) (wr.heap.size + 1) (some ⟨wr.heap.size, 0, none⟩) [(at_, z)]) := one_cells wr at_ z _
            have hbase : W.heap.size ≤ (wr.alloc (.cells #[.int .i64 at_, .int .i64 z] 23)).heap.size := by simp; omega
            have hlen : Hid (out.length ≤ 500000) := by show _ ≤ _; have := HI.out; omega
            clear hap
            go_wp2_with
              (at_builtin
               refine wpList_appV span_slice _ rfl (.tmp 50) (.tmp 54) rfl W.heap.size _ _ rfl OA.out (wr.heap.size + 1) (some ⟨wr.heap.size, 0, none⟩) 1 1 [(at_, z)] rfl NA.out rfl hlen.out (by simp) hbase ?_
               intro v3 w3 o3 g3 t3
               have BV : Hid (Below W.heap.size W w3) := (BW.out.alloc hsW _).grown g3 hbase (ownV_ge OA.out)
               obtain ⟨A8, cap8, hv8, hc8, hm8, y8⟩ := OwnV.cells o3
               have Y8 := Lib.hid y8
               clear o3 g3 t3 y8)
            subst hv8
            go_ret2
            exact ⟨_, _, by rw [HE.out, List.length_append]; rfl, fun h => absurd HE.out h, fun _ => HGn.out, by rw [List.length_append]; exact HLn.out, A8, cap8, rfl, hc8, hm8, Y8.out, B9.out.trans (BV.out.mono hsw)⟩
          · have hd : decide (at_ < z) = false := decide_eq_false hap
            have HGn : Hid (RunsOf (fun x => ¬ Sp.Has l x) 0 z out) := by have := HFin.out; rwa [if_neg hap] at this
            obtain ⟨A8, cap8, hv8, hc8, hm8, y8⟩ := OwnV.cells O.out
            subst hv8
            have Y8 := Lib.hid y8
            clear hap y8
            go_wp2_with fail
            go_ret2
            exact ⟨_, out, by rw [HE.out]; rfl, fun h => absurd HE.out h, fun _ => HGn.out, by have := HLn.out; omega, A8, cap8, rfl, hc8, hm8, Y8.out, B9.out.trans (BW.out.mono hsw)⟩
end Go.Proofs.Ytnbnohphdehfoaa
