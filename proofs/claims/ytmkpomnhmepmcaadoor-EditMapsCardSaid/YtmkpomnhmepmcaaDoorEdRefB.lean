/-
  The contract of the reference's Back.
-/
import Derived.Test.YtmkpomnhmepmcaaDoorEdRef
namespace Go.Proofs.YtmkpomnhmepmcaaDoor
open Go.RowKit

set_option maxHeartbeats 8000000 in
theorem refBack_run (A : Option Addr) (n cap : Nat) (l : List Ei) (off p : Int) (q : Bool) (w : World) {B : Nat} (hb : CellsV edCells w B A l) (hl : Hid (l.length = n)) (hn : n ≤ 1000000) (hcap : n ≤ cap) (hoff : -9223372036854775808 ≤ off ∧ off ≤ 9223372036854775807) (hz : Hid (backOut off l = (p, q))) :
    Calls Tryd.prog 19 #[.slice A n cap, .int .i64 off] w fun e w' => e = .returned (.tuple #[.int .i64 p, .bool q]) ∧ ∃ m, w' = w.drewN m := by
  have HB := Lib.hid hb
  have HO : Hid (off = Wr.w (off - lossI off 0 (l.take 0))) := by
    show _ = _
    rw [List.take_zero]
    simp only [lossI]
    rw [Int.sub_zero, Wr.w_in hoff.1 hoff.2]
  clear hb hoff
  have HCG : Hid (∀ (gb o i : Nat) (W : World), CellsV edCells W B (some ⟨gb, o, none⟩) l → i ≤ n → Calls Tryd.prog 21 #[.slice (some ⟨gb, o, none⟩) i cap] W fun e w' => e = .returned (.int .i64 (Wr.w (growI (l.take i)))) ∧ ∃ m, w' = W.drewN m) := fun gb o i W hW hi =>
    refGrow_run (some ⟨gb, o, none⟩) i cap (l.take i) W (B := B) (CellsV.take ed_enc hW i) (by show _ = _; rw [List.length_take]; have := hl.out; omega) (by omega)
  go_enter Tryd.func19, Tryd.ntmps19
  go_wp2_with fail
  go_loopg [6] (n + 1) (fun h s6 wr => ∃ (i : Nat) (g m : Int), s6 = .int .i64 i ∧ Hid (i ≤ n ∧ n < i + h) ∧ Hid (AtBack off l i g m) ∧ Hid (Drawn w wr))
  case atStart => exact ⟨0, 0, 0, rfl, by show _ ∧ _; omega, AtBack.start off l, Drawn.refl w⟩
  case round =>
    obtain ⟨i, g, m, rfl, HI, HA, HD⟩ := hrel
    by_cases hlt : i < n
    · have hltz : (i : Int) < (n : Int) := by omega
      have HBr : Hid (CellsV edCells wr B A l) := HD.out.cells HB.out
      obtain ⟨gb, o, x, rfl, hg, hx, c0, c1, c2⟩ := eds_at HBr.out (show i < l.length by have := hl.out; omega)
      obtain ⟨f, t, s⟩ := x
      simp only [] at c0 c1 c2
      have HX := Lib.hid hx
      clear hx c1
      obtain ⟨gi, hgi⟩ : ∃ gi, Wr.w (growI (l.take i)) = gi := ⟨_, rfl⟩
      have HC : Hid (∀ k, Calls Tryd.prog 21 #[.slice (some ⟨gb, o, none⟩) i cap] (wr.drewN k) fun e w' => e = .returned (.int .i64 gi) ∧ ∃ m, w' = (wr.drewN k).drewN m) := fun k => by
        have h := HCG.out gb o i (wr.drewN k) HBr.out (by omega)
        rwa [hgi] at h
      obtain ⟨a, ha⟩ : ∃ a, wrap64 (f + gi) = a := ⟨_, rfl⟩
      have Ha : Hid (Wr.w (f + g) = a) := by
        show _ = _
        rw [← ha, ← hgi, Wr.w_wrap64, Wr.add_r, ← HA.out.2.1]
      obtain ⟨z, hzz⟩ : ∃ z, wrap64 (a + (s.size : Int)) = z := ⟨_, rfl⟩
      have HZ : Hid (Wr.w (f + g + (s.size : Int)) = z) := by
        show _ = _
        rw [← hzz, Wr.w_wrap64, ← Ha.out, Wr.add_l]
      have hci : i ≤ cap := by omega
      clear hgi
      go_wp2_with fail
      go_quiet (first | (go_at_call 21; refine Calls.quiet_of (HC.out _)) | fail)
      have d0 : (wr.drewN nq).cell? ⟨gb, o + i * 3, none⟩ = some (.int .i64 f) := c0
      have d2 : (wr.drewN nq).cell? ⟨gb, o + i * 3 + 2, none⟩ = some (.string s) := c2
      have HD1 : Hid (Drawn w (wr.drewN nq)) := HD.out.quiet nq
      clear c0 c2 HC
      generalize wr.drewN nq = wq at *
      by_cases h1 : a ≤ off
      · have h1' : decide (a ≤ off) = true := decide_eq_true h1
        by_cases h2 : off < z
        · have h2' : decide (off < z) = true := decide_eq_true h2
          have HF : Hid ((p, q) = (f, false)) := by
            show _ = _
            rw [← hz.out, HA.out.hit HX.out (by simp only []; rw [Ha.out]; exact h1) (by simp only []; rw [HZ.out]; exact h2)]
          have HP : Hid (f = p) := (Prod.mk.inj HF.out).1.symm
          obtain rfl : q = false := (Prod.mk.inj HF.out).2
          clear h1 h2
          go_wp2_with fail
          go_ret2
          exact ⟨by rw [HP.out]; rfl, HD1.out⟩
        · have h2' : decide (off < z) = false := decide_eq_false h2
          have HN : Hid (¬ (Wr.w (f + g) ≤ off ∧ off < Wr.w (f + g + (s.size : Int)))) := by
            show ¬ _
            rw [Ha.out, HZ.out]
            exact fun h => h2 h.2
          clear h1 h2
          go_wp2_with fail
          go_roundg (n - i)
          case measure => have := HI.out; omega
          case rel => exact ⟨i + 1, _, _, by go_num, by show _ ∧ _; have := HI.out; omega, HA.out.next HX.out HN.out, HD1.out⟩
      · have h1' : decide (a ≤ off) = false := decide_eq_false h1
        have HN : Hid (¬ (Wr.w (f + g) ≤ off ∧ off < Wr.w (f + g + (s.size : Int)))) := by
          show ¬ _
          rw [Ha.out, HZ.out]
          exact fun h => h1 h.1
        clear h1
        go_wp2_with fail
        go_roundg (n - i)
        case measure => have := HI.out; omega
        case rel => exact ⟨i + 1, _, _, by go_num, by show _ ∧ _; have := HI.out; omega, HA.out.next HX.out HN.out, HD1.out⟩
    · have hltz : ¬ (i : Int) < (n : Int) := by omega
      have HF : Hid ((p, q) = (Wr.w (off - lossI off 0 l), true)) := by
        show _ = _
        rw [← hz.out, HA.out.done (by have := hl.out; omega), HA.out.2.2, List.take_of_length_le (by have := hl.out; omega)]
      clear HA HI hlt
      generalize wr = wq at *
      go_wp2_with fail
      go_loopg [8, 9] (n + 1) (fun h s8 s9 wr => ∃ (j : Nat) (v : Int), s9 = .int .i64 j ∧ s8 = .int .i64 v ∧ Hid (j ≤ n ∧ n < j + h) ∧ Hid (v = Wr.w (off - lossI off 0 (l.take j))) ∧ Hid (Drawn w wr))
      case atStart => exact ⟨0, off, rfl, rfl, by show _ ∧ _; omega, HO.out, HD.out⟩
      case round =>
        obtain ⟨j, v, rfl, rfl, HI, HV, HD2⟩ := hrel
        by_cases hlt : j < n
        · have hltj : (j : Int) < (n : Int) := by omega
          have HBr : Hid (CellsV edCells wr B A l) := HD2.out.cells HB.out
          obtain ⟨gb, o, x, rfl, hg, hx, c0, c1, c2⟩ := eds_at HBr.out (show j < l.length by have := hl.out; omega)
          obtain ⟨f, t, s⟩ := x
          simp only [] at c0 c1 c2
          have HX := Lib.hid hx
          clear hx c1
          obtain ⟨gi, hgi⟩ : ∃ gi, Wr.w (growI (l.take j)) = gi := ⟨_, rfl⟩
          have HC : Hid (∀ k, Calls Tryd.prog 21 #[.slice (some ⟨gb, o, none⟩) j cap] (wr.drewN k) fun e w' => e = .returned (.int .i64 gi) ∧ ∃ m, w' = (wr.drewN k).drewN m) := fun k => by
            have h := HCG.out gb o j (wr.drewN k) HBr.out (by omega)
            rwa [hgi] at h
          obtain ⟨a, ha⟩ : ∃ a, wrap64 (f + gi) = a := ⟨_, rfl⟩
          obtain ⟨z, hzz⟩ : ∃ z, wrap64 (a + (s.size : Int)) = z := ⟨_, rfl⟩
          have HZ : Hid (Wr.w (f + growI (l.take j) + (s.size : Int)) = z) := by
            show _ = _
            rw [← hzz, Wr.w_wrap64, ← ha, ← hgi, Wr.w_wrap64, Wr.add_r, Wr.add_l]
          have hci : j ≤ cap := by omega
          have hcj : ¬ cap = j := by omega
          have hcj2 : j + 1 ≤ cap := by omega
          clear hgi
          by_cases h3 : z ≤ off
          · have h3' : decide (z ≤ off) = true := decide_eq_true h3
            obtain ⟨gx, hgx⟩ : ∃ gx, Wr.w (growI [Ei.mk f t s]) = gx := ⟨_, rfl⟩
            have HC2 : Hid (∀ W, Drawn wr W → Calls Tryd.prog 21 #[.slice (some ⟨gb, o + j * 3, none⟩) 1 (cap - j)] W fun e w' => e = .returned (.int .i64 gx) ∧ ∃ m, w' = W.drewN m) := fun W hW => by
              have h := refGrow_run (some ⟨gb, o + j * 3, none⟩) 1 (cap - j) [Ei.mk f t s] W (B := B) (hW.cells (eds_one HBr.out HX.out)) (by show _ = _; rfl) (by omega)
              rwa [hgx] at h
            have HG : Hid (wrap64 (v - gx) = Wr.w (off - lossI off 0 (l.take (j + 1)))) := by
              show _ = _
              rw [← hgx, Wr.w_wrap64, Wr.sub_r, HV.out, Wr.sub_l, lossI_at HX.out, growI_one, if_pos (by simp only []; rw [HZ.out]; exact h3)]
              congr 1
              omega
            clear hgx h3
            go_wp2_with fail
            go_quiet (first | (go_at_call 21; refine Calls.quiet_of (HC.out _)) | fail)
            have HD1 : Hid (Drawn w (wr.drewN nq)) := HD2.out.quiet nq
            have HD5 : Hid (Drawn wr (wr.drewN nq)) := (Drawn.refl wr).quiet nq
            clear c0 c2 HC
            generalize wr.drewN nq = wq at *
            go_wp2_with fail
            refine (HC2.out _ HD5.out).mono ?_
            rintro e w3 ⟨rfl, hw3⟩
            have HD3 : Hid (Drawn w w3) := HD1.out.then hw3
            clear hw3
            go_wp2_with fail
            go_roundg (n - j)
            case measure => have := HI.out; omega
            case rel => exact ⟨j + 1, _, by go_num, rfl, by show _ ∧ _; have := HI.out; omega, HG.out, HD3.out⟩
          · have h3' : decide (z ≤ off) = false := decide_eq_false h3
            have HT : Hid (v = Wr.w (off - lossI off 0 (l.take (j + 1)))) := by
              show _ = _
              rw [lossI_at HX.out, if_neg (by simp only []; rw [HZ.out]; exact h3), Int.add_zero]
              exact HV.out
            clear h3
            go_wp2_with fail
            go_quiet (first | (go_at_call 21; refine Calls.quiet_of (HC.out _)) | fail)
            have HD1 : Hid (Drawn w (wr.drewN nq)) := HD2.out.quiet nq
            clear c0 c2 HC
            generalize wr.drewN nq = wq at *
            go_wp2_with fail
            go_roundg (n - j)
            case measure => have := HI.out; omega
            case rel => exact ⟨j + 1, v, by go_num, rfl, by show _ ∧ _; have := HI.out; omega, HT.out, HD1.out⟩
        · have hltj : ¬ (j : Int) < (n : Int) := by omega
          have HE : Hid (v = p) := by
            show _ = _
            rw [HV.out, List.take_of_length_le (by have := hl.out; omega), (Prod.mk.inj HF.out).1]
          obtain rfl : q = true := (Prod.mk.inj HF.out).2
          go_wp2_with fail
          go_ret2
          exact ⟨by rw [HE.out]; rfl, HD2.out⟩
end Go.Proofs.YtmkpomnhmepmcaaDoor
