/-
  The contract of the reference's Check.
-/
import Derived.Test.YtmkpomnhmepmcaaDoorEdCheck
namespace Go.Proofs.YtmkpomnhmepmcaaDoor
open Go.RowKit

/-- The answer of the reference's Check. -/
def chkRef : Option (Nat × Nat) → Value
  | none => .tuple #[.int .i64 0, .int .i64 (-1)]
  | some (i, k) => .tuple #[.int .i64 k, .int .i64 i]
set_option maxRecDepth 100000 in
set_option maxHeartbeats 8000000 in
theorem edRefCheck_run (Ab : Option Addr) (nb capb : Nat) (bl : List Int) (A : Option Addr) (n cap : Nat) (l : List Ei) (w : World) (hy : Byts w w.heap.size Ab bl) (hbl : Hid (bl.length = nb))
    (hb : CellsV edCells w w.heap.size A l) (hl : Hid (l.length = n)) (hn : n ≤ 12) (hs : Hid (∀ e ∈ l, e.s.size ≤ 40)) :
    Calls Tryd.prog 9 #[.slice Ab nb capb, .slice A n cap] w fun e w' => e = .returned (chkRef (checkOut bl l)) ∧ Below w.heap.size w w' := by
  have HY := Lib.hid hy
  have HB := Lib.hid hb
  clear hb hy
  have hn1 : ¬ (1000 : Int) < (n : Int) := by omega
  have HBd : Hid (∀ p b W, Hid (bound bl p = b) → Below w.heap.size w W → Calls Tryd.prog 24 #[.slice Ab nb capb, .int .i64 p] W fun e w' => e = .returned (.bool b) ∧ Below W.heap.size W w') := fun p b W hb hW =>
    hb.out ▸ refBoundary_any Ab nb capb bl p W (HY.out.below hW (Nat.le_refl _)) hbl.out
  go_enter Tryd.func9, Tryd.ntmps9
  go_wp2_with fail
  go_loopg [6] (n + 1) (fun h s6 wr => ∃ i : Nat, s6 = .int .i64 i ∧ Hid (i ≤ n ∧ n < i + h) ∧ Hid (AtChk bl l i) ∧ Hid (Below w.heap.size w wr))
  case atStart => exact ⟨0, rfl, by show _ ∧ _; omega, AtChk.start bl l, Below.refl _ _⟩
  case round =>
    obtain ⟨i, rfl, HI, HA, BW⟩ := hrel
    by_cases hlt : i < n
    · have hltz : (i : Int) < (n : Int) := by omega
      obtain ⟨gb, o, x, rfl, hg, hx, c0, c1, c2⟩ := eds_at (HB.out.below BW.out (Nat.le_refl _)) (show i < l.length by have := hl.out; omega)
      obtain ⟨f, t, s⟩ := x
      simp only [] at c0 c1 c2
      have HX := Lib.hid hx
      have hsl : s.size ≤ 40 := hs.out _ (List.mem_of_getElem? hx)
      obtain ⟨k, hk⟩ : ∃ k, faultE bl (prevOf l i) ⟨f, t, s⟩ = k := ⟨_, rfl⟩
      have HK := Lib.hid hk
      obtain ⟨cs, hcs⟩ : ∃ cs, stands ⟨f, t, s⟩ (prevOf l i) = cs := ⟨_, rfl⟩
      have HS := Lib.hid hcs
      have HR : Hid (k ≠ 0 → chkRef (checkOut bl l) = .tuple #[.int .i64 k, .int .i64 i]) := fun h0 => by
        rw [HA.out.bad HX.out HK.out h0]
        rfl
      clear hx hk hcs
      by_cases h1 : t < f
      · have h1' : decide (t < f) = true := decide_eq_true h1
        have HK5 : Hid (k = 5) := by
          show _ = _
          rw [← HK.out, faultE, if_pos (.inl h1)]
        clear h1
        go_wp2_with fail
        go_quiet (fail)
        go_wp2_with fail
        go_ret2
        exact ⟨by rw [HR.out (by rw [HK5.out]; omega), HK5.out]; rfl, below_drewN BW.out nq⟩
      · have h1' : decide (t < f) = false := decide_eq_false h1
        have HT := Lib.hid h1
        clear h1
        go_wp2_with fail
        go_quiet (fail)
        have d0 : (wr.drewN nq).cell? ⟨gb, o + i * 3, none⟩ = some (.int .i64 f) := c0
        have d1 : (wr.drewN nq).cell? ⟨gb, o + i * 3 + 1, none⟩ = some (.int .i64 t) := c1
        have d2 : (wr.drewN nq).cell? ⟨gb, o + i * 3 + 2, none⟩ = some (.string s) := c2
        have BW1 : Hid (Below w.heap.size w (wr.drewN nq)) := below_drewN BW.out nq
        clear c0 c1 c2 BW
        generalize wr.drewN nq = wq at *
        go_upto_region 8 with fail
        go_cut [59] (fun s59 wx => s59 = .bool (!cs) ∧ Hid (Below w.heap.size w wx))
        case first =>
          by_cases h00 : 0 < i
          · obtain ⟨ip, hip⟩ : ∃ ip, i = ip + 1 := ⟨i - 1, by omega⟩
            obtain ⟨gb', o', y, hA', hg', hy', p0, p1, p2⟩ := eds_at (HB.out.below BW1.out (Nat.le_refl _)) (show ip < l.length by have := hl.out; omega)
            cases hA'
            obtain ⟨g, u, r⟩ := y
            simp only [] at p0 p1 p2
            have HF : Hid (foll f g u = cs) := by
              show _ = _
              rw [← HS.out, hip, prevOf, hy', stands]
            have hd0 : decide (0 < i) = true := decide_eq_true h00
            have ejp : IntKind.i64.wrap ((i : Int) - 1) = (ip : Int) := by rw [IntKind.wrap_i64]; omega
            have hips : ip < n := by omega
            clear hip hy' p2 h00
            by_cases h3 : f < u
            · have h3' : decide (f < u) = true := decide_eq_true h3
              obtain rfl : cs = false := by
                rw [← HF.out, foll, decide_eq_false (by omega), Bool.false_and]
              clear h3
              go_quiet (fail)
              go_wp2_with fail
              go_meet
              case rel => exact ⟨rfl, below_drewN BW1.out nq⟩
            · have h3' : decide (f < u) = false := decide_eq_false h3
              have HG : Hid ((f == g) = !cs) := by
                show _ = _
                rw [← HF.out, foll, decide_eq_true (show u ≤ f by omega), Bool.true_and, bne, Bool.not_not]
              have hG := HG.out
              clear h3
              go_quiet (fail)
              go_wp2_with fail
              go_meet
              case rel => exact ⟨rfl, below_drewN BW1.out nq⟩
          · obtain rfl : i = 0 := by omega
            have hd0 : decide ((0 : Int) < ((0 : Nat) : Int)) = false := by simp
            obtain rfl : cs = true := HS.out.symm
            go_quiet (fail)
            go_wp2_with fail
            go_meet
            case rel => exact ⟨rfl, below_drewN BW1.out nq⟩
        case rest =>
          obtain ⟨rfl, BW2⟩ := hcut
          clear BW1 d0 d1 d2
          obtain ⟨gb', o', y, hA', hg', hy', c0, c1, c2⟩ := eds_at (HB.out.below BW2.out (Nat.le_refl _)) (show i < l.length by have := hl.out; omega)
          cases hA'
          obtain rfl := Option.some.inj (HX.out.symm.trans hy')
          simp only [] at c0 c1 c2
          clear hy'
          cases cs with
          | false =>
            have HK5 : Hid (k = 5) := by
              show _ = _
              rw [← HK.out, faultE, if_pos (.inr HS.out)]
            go_wp2_with fail
            go_ret2
            exact ⟨by rw [HR.out (by rw [HK5.out]; omega), HK5.out]; rfl, BW2.out⟩
          | true =>
            obtain ⟨b1, hb1⟩ : ∃ b1, bound bl f = b1 := ⟨_, rfl⟩
            obtain ⟨b2, hb2⟩ : ∃ b2, bound bl t = b2 := ⟨_, rfl⟩
            have H1 := Lib.hid hb1
            have H2 := Lib.hid hb2
            have HKr : Hid (k = if (b1 && b2) = false then 4 else if textOk s = false then 3 else 0) := by
              show _ = _
              rw [← HK.out, faultE, if_neg (by rw [HS.out]; simp [HT.out]), hb1, hb2]
            clear hb1 hb2
            go_wp2_with fail
            refine (HBd.out f b1 _ H1 BW2.out).mono ?_
            rintro e w3 ⟨rfl, hw3⟩
            have BW3 : Hid (Below w.heap.size w w3) := BW2.out.trans (hw3.mono BW2.out.size)
            have m1 : w3.cell? ⟨gb, o + i * 3 + 1, none⟩ = some (.int .i64 t) := (hw3.cell (p := ⟨gb, o + i * 3 + 1, none⟩) (Nat.lt_of_lt_of_le hg BW2.out.size)).trans c1
            have m2 : w3.cell? ⟨gb, o + i * 3 + 2, none⟩ = some (.string s) := (hw3.cell (p := ⟨gb, o + i * 3 + 2, none⟩) (Nat.lt_of_lt_of_le hg BW2.out.size)).trans c2
            clear hw3 c0 c1 c2
            cases b1 with
            | false =>
              have HK4 : Hid (k = 4) := by
                show _ = _
                rw [HKr.out, Bool.false_and, if_pos rfl]
              go_wp2_with fail
              go_ret2
              exact ⟨by rw [HR.out (by rw [HK4.out]; omega), HK4.out]; rfl, BW3.out⟩
            | true =>
              go_wp2_with fail
              refine (HBd.out t b2 _ H2 BW3.out).mono ?_
              rintro e w4 ⟨rfl, hw4⟩
              have BW4 : Hid (Below w.heap.size w w4) := BW3.out.trans (hw4.mono BW3.out.size)
              have n2 : w4.cell? ⟨gb, o + i * 3 + 2, none⟩ = some (.string s) := (hw4.cell (p := ⟨gb, o + i * 3 + 2, none⟩) (Nat.lt_of_lt_of_le hg BW3.out.size)).trans m2
              clear hw4 m1 m2
              cases b2 with
              | false =>
                have HK4 : Hid (k = 4) := by
                  show _ = _
                  rw [HKr.out, Bool.true_and, if_pos rfl]
                go_wp2_with fail
                go_ret2
                exact ⟨by rw [HR.out (by rw [HK4.out]; omega), HK4.out]; rfl, BW4.out⟩
              | true =>
                obtain ⟨cc, w5, hconv, hc1, hc2, hy5, hb5⟩ := run_conv_str w4 s (by unfold maxLen; omega)
                have BW5 : Hid (Below w.heap.size w w5) := BW4.out.trans (hb5.mono BW4.out.size)
                obtain ⟨m, oo, hS⟩ : ∃ m oo, scanAll (bts s) = (m, oo) := ⟨_, _, rfl⟩
                have HC := Lib.hid (refCheck_any (some ⟨w4.heap.size, 0, none⟩) s.size cc (bts s) w5 hy5 (show _ = _ from bts_length s) hc1 (by omega))
                have hs5 : w.heap.size ≤ w5.heap.size := BW5.out.size
                rw [hS] at HC
                have HSc := Lib.hid hS
                clear hS hy5 hb5 hc1 hc2
                cases oo with
                | none =>
                  have HK0 : Hid (k = 0) := by
                    show _ = _
                    rw [HKr.out, Bool.true_and, if_neg (by simp), if_neg (by simp [textOk, HSc.out])]
                  have He : Hid (refCheckAns (m, none) = .tuple #[.int .i64 0, .int .i64 (-1)]) := rfl
                  go_wp2_with fail
                  refine HC.out.mono ?_
                  rw [He.out]
                  rintro e w6 ⟨rfl, hw6⟩
                  have BW6 : Hid (Below w.heap.size w w6) := BW5.out.trans (hw6.mono hs5)
                  clear hw6
                  go_wp2_with fail
                  go_roundg (n - i)
                  case measure => have := HI.out; omega
                  case rel => exact ⟨i + 1, by go_num, by show _ ∧ _; have := HI.out; omega, HA.out.next HX.out (HK.out.trans HK0.out), BW6.out⟩
                | some pp =>
                  have HK3 : Hid (k = 3) := by
                    show _ = _
                    rw [HKr.out, Bool.true_and, if_neg (by simp), if_pos (by simp [textOk, HSc.out])]
                  have He : Hid (refCheckAns (m, some pp) = .tuple #[.int .i64 3, .int .i64 pp]) := rfl
                  go_wp2_with fail
                  refine HC.out.mono ?_
                  rw [He.out]
                  rintro e w6 ⟨rfl, hw6⟩
                  have BW6 : Hid (Below w.heap.size w w6) := BW5.out.trans (hw6.mono hs5)
                  clear hw6
                  go_wp2_with fail
                  go_ret2
                  exact ⟨by rw [HR.out (by rw [HK3.out]; omega), HK3.out]; rfl, BW6.out⟩
    · have hltz : ¬ (i : Int) < (n : Int) := by omega
      have HF : Hid (chkRef (checkOut bl l) = .tuple #[.int .i64 0, .int .i64 (-1)]) := by
        show _ = _
        rw [HA.out.done (by have := hl.out; omega)]
        rfl
      go_wp2_with fail
      go_ret2
      exact ⟨by rw [HF.out]; rfl, BW.out⟩
end Go.Proofs.YtmkpomnhmepmcaaDoor
