/-
  The contracts of the reference's Grow and Map.
-/
import Derived.Test.YtmkpomnhmepmcaaDoorEdTo
import Derived.Deep.LoopGhost
namespace Go.Proofs.YtmkpomnhmepmcaaDoor
open Go.RowKit

set_option maxHeartbeats 4000000 in
theorem refGrow_run (A : Option Addr) (n cap : Nat) (l : List Ei) (w : World) {B : Nat} (hb : CellsV edCells w B A l) (hl : Hid (l.length = n)) (hn : n ≤ 1000000) :
    Calls Tryd.prog 21 #[.slice A n cap] w fun e w' => e = .returned (.int .i64 (Wr.w (growI l))) ∧ ∃ m, w' = w.drewN m := by
  have HB := Lib.hid hb
  clear hb
  go_enter Tryd.func21, Tryd.ntmps21
  go_wp2_with fail
  go_loopg [3, 4] (n + 1) (fun h s3 s4 wr => ∃ i m : Nat, s4 = .int .i64 i ∧ s3 = .int .i64 (Wr.w (growI (l.take i))) ∧ Hid (i ≤ n ∧ n < i + h) ∧ wr = w.drewN m)
  case atStart => exact ⟨0, 0, rfl, rfl, by show _ ∧ _; omega, rfl⟩
  case round =>
    obtain ⟨i, m, rfl, rfl, HI, rfl⟩ := hrel
    by_cases hlt : i < n
    · have hltz : (i : Int) < (n : Int) := by omega
      obtain ⟨g, o, x, rfl, hg, hx, c0, c1, c2⟩ := eds_at HB.out (show i < l.length by have := hl.out; omega)
      obtain ⟨f, t, s⟩ := x
      simp only [] at c0 c1 c2
      have HG : Hid (wrap64 (wrap64 (Wr.w (growI (l.take i)) + (s.size : Int)) - wrap64 (t - f)) = Wr.w (growI (l.take (i + 1)))) := by
        show _ = _
        simp only [Wr.w_wrap64, Wr.sub_r, Wr.sub_l, growI_at hx, dgI]
        rw [show Wr.w (growI (l.take i)) + (s.size : Int) - (t - f) = Wr.w (growI (l.take i)) + ((s.size : Int) - (t - f)) by omega, Wr.add_l]
      clear hx
      go_wp2_with fail
      go_quiet (fail)
      go_wp2_with fail
      go_roundg (n - i)
      case measure => have := HI.out; omega
      case rel => exact ⟨i + 1, m + nq, by go_num, by have := HG.out; simp only [Wr.w_wrap64] at this ⊢; rw [this], by show _ ∧ _; have := HI.out; omega, rfl⟩
    · have hltz : ¬ (i : Int) < (n : Int) := by omega
      have HL : Hid (growI (l.take i) = growI l) := by
        show _ = _
        rw [List.take_of_length_le (by have := hl.out; omega)]
      go_wp2_with fail
      go_ret
      exact ⟨ret_int (by rw [HL.out]), m, rfl⟩
/-- Nothing but draws. -/
def Drawn (w w' : World) : Prop := ∃ m, w' = w.drewN m
theorem Drawn.refl (w : World) : Drawn w w := ⟨0, rfl⟩
theorem Drawn.quiet {w w' : World} (h : Drawn w w') (n : Nat) : Drawn w (w'.drewN n) := by
  obtain ⟨m, rfl⟩ := h
  exact ⟨m + n, World.drewN_drewN _ _ _⟩
theorem Drawn.then {a b : World} (h : Drawn a b) {c : World} (k : ∃ m, c = b.drewN m) : Drawn a c := by
  obtain ⟨m, rfl⟩ := k
  exact h.quiet m
theorem Drawn.cells {w w' : World} (h : Drawn w w') {B : Nat} {A : Option Addr} {l : List Ei} (k : CellsV edCells w B A l) : CellsV edCells w' B A l := by
  obtain ⟨m, rfl⟩ := h
  exact k
/-- One element as a slice. -/
theorem eds_one {w : World} {B b o : Nat} {l : List Ei} {i : Nat} {x : Ei} (h : CellsV edCells w B (some ⟨b, o, none⟩) l) (hx : l[i]? = some x) : CellsV edCells w B (some ⟨b, o + i * 3, none⟩) [x] := fun _ => by
  obtain ⟨b', o', e, hb, hc⟩ := eds_get h (by have := (List.getElem?_eq_some_iff.1 hx).1; omega)
  cases e
  obtain ⟨h0, h1, h2⟩ := hc i x hx
  refine ⟨_, _, rfl, hb, fun j u hu => ?_⟩
  match j, hu with
  | 0, hu => cases hu; exact h0
  | 1, hu => cases hu; exact h1
  | 2, hu => cases hu; exact h2
set_option maxHeartbeats 8000000 in
theorem refMap_run (A : Option Addr) (n cap : Nat) (l : List Ei) (off p : Int) (q : Bool) (w : World) {B : Nat} (hb : CellsV edCells w B A l) (hl : Hid (l.length = n)) (hn : n ≤ 1000000) (hcap : n ≤ cap) (hoff : -9223372036854775808 ≤ off ∧ off ≤ 9223372036854775807) (hz : Hid (mapOut off l = (p, q))) :
    Calls Tryd.prog 17 #[.slice A n cap, .int .i64 off] w fun e w' => e = .returned (.tuple #[.int .i64 p, .bool q]) ∧ ∃ m, w' = w.drewN m := by
  have HB := Lib.hid hb
  have HO : Hid (off = Wr.w (off + filI off (l.take 0))) := by
    show _ = _
    rw [List.take_zero]
    simp only [filI, List.filter_nil, growI]
    rw [Int.add_zero, Wr.w_in hoff.1 hoff.2]
  clear hb hoff
  go_enter Tryd.func17, Tryd.ntmps17
  go_wp2_with fail
  go_loopg [6] (n + 1) (fun h s6 wr => ∃ (i : Nat) (g m : Int), s6 = .int .i64 i ∧ Hid (i ≤ n ∧ n < i + h) ∧ Hid (AtMap off l i g m) ∧ Hid (Drawn w wr))
  case atStart => exact ⟨0, 0, 0, rfl, by show _ ∧ _; omega, AtMap.start off l, Drawn.refl w⟩
  case round =>
    obtain ⟨i, g, m, rfl, HI, HA, HD⟩ := hrel
    by_cases hlt : i < n
    · have hltz : (i : Int) < (n : Int) := by omega
      have HBr : Hid (CellsV edCells wr B A l) := HD.out.cells HB.out
      obtain ⟨gb, o, x, rfl, hg, hx, c0, c1, c2⟩ := eds_at HBr.out (show i < l.length by have := hl.out; omega)
      obtain ⟨f, t, s⟩ := x
      simp only [] at c0 c1 c2
      have HX := Lib.hid hx
      clear hx c2
      by_cases h1 : f ≤ off
      · have h1' : decide (f ≤ off) = true := decide_eq_true h1
        by_cases h2 : off < t
        · have h2' : decide (off < t) = true := decide_eq_true h2
          have HF : Hid ((p, q) = (Wr.w (f + g), false)) := by
            show _ = _
            rw [← hz.out, HA.out.hit HX.out h1 h2]
          clear h1 h2
          obtain ⟨gi, hgi⟩ : ∃ gi, Wr.w (growI (l.take i)) = gi := ⟨_, rfl⟩
          have HC : Hid (∀ k, Calls Tryd.prog 21 #[.slice (some ⟨gb, o, none⟩) i cap] (wr.drewN k) fun e w' => e = .returned (.int .i64 gi) ∧ ∃ m, w' = (wr.drewN k).drewN m) := fun k => by
            have h := refGrow_run (some ⟨gb, o, none⟩) i cap (l.take i) (wr.drewN k) (B := B) (CellsV.take ed_enc HBr.out i) (by show _ = _; rw [List.length_take]; have := hl.out; omega) (by omega)
            rwa [hgi] at h
          have HG : Hid (wrap64 (f + gi) = p) := by
            have := (Prod.mk.inj HF.out).1
            show _ = _
            rw [← hgi, Wr.w_wrap64, Wr.add_r, ← HA.out.2.1, this]
          obtain rfl : q = false := (Prod.mk.inj HF.out).2
          have hci : i ≤ cap := by omega
          clear hgi
          go_wp2_with fail
          go_quiet (first | (go_at_call 21; refine Calls.quiet_of (HC.out _)) | fail)
          go_wp2_with fail
          go_ret2
          exact ⟨by rw [HG.out]; rfl, HD.out.quiet _⟩
        · have h2' : decide (off < t) = false := decide_eq_false h2
          have HN : Hid (¬ (f ≤ off ∧ off < t)) := fun h => h2 h.2
          clear h1 h2
          go_wp2_with fail
          go_roundg (n - i)
          case measure => have := HI.out; omega
          case rel => exact ⟨i + 1, _, _, by go_num, by show _ ∧ _; have := HI.out; omega, HA.out.next HX.out HN.out, HD.out⟩
      · have h1' : decide (f ≤ off) = false := decide_eq_false h1
        have HN : Hid (¬ (f ≤ off ∧ off < t)) := fun h => h1 h.1
        clear h1
        go_wp2_with fail
        go_roundg (n - i)
        case measure => have := HI.out; omega
        case rel => exact ⟨i + 1, _, _, by go_num, by show _ ∧ _; have := HI.out; omega, HA.out.next HX.out HN.out, HD.out⟩
    · have hltz : ¬ (i : Int) < (n : Int) := by omega
      have HF : Hid ((p, q) = (Wr.w (off + filI off l), true)) := by
        show _ = _
        rw [← hz.out, HA.out.done (by have := hl.out; omega), HA.out.2.2, List.take_of_length_le (by have := hl.out; omega)]
      clear HA HI hlt
      generalize wr = wq at *
      go_wp2_with fail
      go_loopg [7, 8] (n + 1) (fun h s7 s8 wr => ∃ (j : Nat) (v : Int), s8 = .int .i64 j ∧ s7 = .int .i64 v ∧ Hid (j ≤ n ∧ n < j + h) ∧ Hid (v = Wr.w (off + filI off (l.take j))) ∧ Hid (Drawn w wr))
      case atStart => exact ⟨0, off, rfl, rfl, by show _ ∧ _; omega, HO.out, HD.out⟩
      case round =>
        obtain ⟨j, v, rfl, rfl, HI, HV, HD2⟩ := hrel
        by_cases hlt : j < n
        · have hltj : (j : Int) < (n : Int) := by omega
          have HBr : Hid (CellsV edCells wr B A l) := HD2.out.cells HB.out
          obtain ⟨gb, o, x, rfl, hg, hx, c0, c1, c2⟩ := eds_at HBr.out (show j < l.length by have := hl.out; omega)
          obtain ⟨f, t, s⟩ := x
          simp only [] at c0 c1 c2
          have HX := Lib.hid hx
          clear hx c2
          by_cases h3 : t ≤ off
          · have h3' : decide (t ≤ off) = true := decide_eq_true h3
            obtain ⟨gi, hgi⟩ : ∃ gi, Wr.w (growI [Ei.mk f t s]) = gi := ⟨_, rfl⟩
            have HC : Hid (∀ W, Drawn wr W → Calls Tryd.prog 21 #[.slice (some ⟨gb, o + j * 3, none⟩) 1 (cap - j)] W fun e w' => e = .returned (.int .i64 gi) ∧ ∃ m, w' = W.drewN m) := fun W hW => by
              have h := refGrow_run (some ⟨gb, o + j * 3, none⟩) 1 (cap - j) [Ei.mk f t s] W (B := B) (hW.cells (eds_one HBr.out HX.out)) (by show _ = _; rfl) (by omega)
              rwa [hgi] at h
            have HG : Hid (wrap64 (v + gi) = Wr.w (off + filI off (l.take (j + 1)))) := by
              show _ = _
              rw [← hgi, Wr.w_wrap64, Wr.add_r, HV.out, Wr.add_l, filI_at HX.out, growI_one, if_pos h3, Int.add_assoc]
            have hcj : ¬ cap = j := by omega
            have hcj2 : j + 1 ≤ cap := by omega
            clear hgi h3
            go_wp2_with fail
            refine (HC.out _ (Drawn.refl _)).mono ?_
            rintro e w3 ⟨rfl, hw3⟩
            have HD3 : Hid (Drawn w w3) := HD2.out.then hw3
            clear hw3
            go_wp2_with fail
            go_roundg (n - j)
            case measure => have := HI.out; omega
            case rel => exact ⟨j + 1, _, by go_num, rfl, by show _ ∧ _; have := HI.out; omega, HG.out, HD3.out⟩
          · have h3' : decide (t ≤ off) = false := decide_eq_false h3
            have HT : Hid (v = Wr.w (off + filI off (l.take (j + 1)))) := by
              show _ = _
              rw [filI_at HX.out, if_neg h3, Int.add_zero]
              exact HV.out
            clear h3
            go_wp2_with fail
            go_roundg (n - j)
            case measure => have := HI.out; omega
            case rel => exact ⟨j + 1, v, by go_num, rfl, by show _ ∧ _; have := HI.out; omega, HT.out, HD2.out⟩
        · have hltj : ¬ (j : Int) < (n : Int) := by omega
          have HE : Hid (v = Wr.w (off + filI off l)) := by
            show _ = _
            rw [HV.out, List.take_of_length_le (by have := hl.out; omega)]
          go_wp2_with fail
          go_ret2
          have := HF.out
          cases this
          exact ⟨by rw [HE.out]; rfl, HD2.out⟩
end Go.Proofs.YtmkpomnhmepmcaaDoor
