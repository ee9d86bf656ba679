/-
  The walk of the law LinesCover: it answers true, and leaves what was there as it was.
-/
import Derived.Test.YtihdljadggoimaaLnLawB
namespace Go.Proofs.Ytihdljadggoimaa
open Go.RowKit

/-- Line j of a table that was made. -/
theorem lineOut_made (b : List Int) (j : Nat) (hj : j < (Ln.starts b).length) : lineOut true (Ln.starts b) b.length ((j : Int) + 1) = ((Ln.starts b).getD j b.length, (Ln.starts b).getD (j + 1) b.length, 0) := by
  have hx : (Ln.starts b)[j]? = some (Ln.starts b)[j] := List.getElem?_eq_getElem hj
  by_cases h : j + 1 < (Ln.starts b).length
  · have hy : (Ln.starts b)[j + 1]? = some (Ln.starts b)[j + 1] := List.getElem?_eq_getElem h
    rw [lineOut_mid hx hy]
    simp [List.getD, hx, hy]
  · rw [lineOut_last hx (by omega)]
    have : (Ln.starts b)[j + 1]? = none := List.getElem?_eq_none (by omega)
    simp [List.getD, hx, this]
theorem lineOut_beyond (b : List Int) : lineOut true (Ln.starts b) b.length (((Ln.starts b).length : Int) + 1) = (0, 0, 4) := by
  unfold lineOut
  rw [if_neg (by simp), if_pos (by omega)]
/-- Between two lines. -/
theorem made_mid (b : List Int) (j : Nat) (hj : j + 1 < (Ln.starts b).length) : ∃ k : Nat, (Ln.starts b).getD (j + 1) b.length = (k : Int) + 1 ∧ b[k]? = some 10 ∧ (Ln.starts b).getD j b.length < (k : Int) + 1 ∧ 0 ≤ (Ln.starts b).getD j b.length := by
  have hx : (Ln.starts b)[j]? = some (Ln.starts b)[j] := List.getElem?_eq_getElem (by omega)
  have hy : (Ln.starts b)[j + 1]? = some (Ln.starts b)[j + 1] := List.getElem?_eq_getElem hj
  have hlt := (Ln.starts_valid b).2.2 j (j + 1) _ _ (by omega) hx hy
  have h0 : 0 ≤ (Ln.starts b)[j] := by
    rcases Ln.mem_starts.1 (List.mem_of_getElem? hx) with h | ⟨k, _, h⟩ <;> omega
  rcases Ln.mem_starts.1 (List.mem_of_getElem? hy) with h | ⟨k, hk, h⟩
  · omega
  · refine ⟨k, ?_, hk, ?_, ?_⟩
    · simp [List.getD, hy, h]
    · simp [List.getD, hx]; omega
    · simpa [List.getD, hx] using h0
theorem made_last (b : List Int) (j : Nat) (hj : j + 1 = (Ln.starts b).length) : (Ln.starts b).getD (j + 1) b.length = b.length ∧ (Ln.starts b).getD j b.length ≤ b.length ∧ 0 ≤ (Ln.starts b).getD j b.length := by
  have hx : (Ln.starts b)[j]? = some (Ln.starts b)[j] := List.getElem?_eq_getElem (by omega)
  have hz := (Ln.starts_valid b).2.1 j _ hj hx
  have h0 : 0 ≤ (Ln.starts b)[j] := by
    rcases Ln.mem_starts.1 (List.mem_of_getElem? hx) with h | ⟨k, _, h⟩ <;> omega
  have : (Ln.starts b)[j + 1]? = none := List.getElem?_eq_none (by omega)
  simp [List.getD, hx, this]
  exact ⟨hz, h0⟩
def cutN (n : Nat) : Nat := (min (n : Int) 300).toNat
theorem cutN_le (n : Nat) : cutN n ≤ n ∧ cutN n ≤ 300 := by unfold cutN; omega
set_option maxRecDepth 100000 in
set_option maxHeartbeats 4000000 in
theorem linesCover_any (A : Option Addr) (n cap : Nat) (l : List Int) (w : World) (hb : NumsK .u8 w w.heap.size A l) (hl : l.length = n) (hcap : n ≤ cap) :
    Calls Try.prog 6 #[.slice A n cap] w fun e w' => e = .returned (.bool true) ∧ Below w.heap.size w w' := by
  have hc := cutN_le n
  have HB : Hid (NumsK .u8 w w.heap.size A (l.take (cutN n))) := NumsK.take hb _
  have HLn : Hid ((l.take (cutN n)).length = cutN n) := by show _ = _; rw [List.length_take]; omega
  have HE : Hid ((min (n : Int) 300).toNat = cutN n) := rfl
  clear hb hl
  generalize l.take (cutN n) = b at *
  go_enter Try.func6, Try.ntmps6
  go_wp2_with fail
  rw [HE.out]
  generalize cutN n = c at *
  clear HE
  refine (new_run A c cap b w HB.out HLn hc.2).mono ?_
  rintro e w1 ⟨v, rfl, ⟨A9, cap9, rfl, hc9, hm9, y9⟩, hw1⟩
  have HW1 := Lib.hid hw1
  have Y9 := Lib.hid y9
  have hs1 := hw1.size
  have hml : (Ln.starts b).length ≤ 301 := by
    have := Ln.starts_length b
    have := HLn.out
    omega
  have hmp : 1 ≤ (Ln.starts b).length := by simp [Ln.starts]
  have HVal : Hid (Ln.Valid (Ln.starts b) c) := by
    show Ln.Valid _ _
    rw [← HLn.out]
    exact Ln.starts_valid b
  have HJ : Hid (∀ j : Nat, j < (Ln.starts b).length → lineOut true (Ln.starts b) c ((j : Int) + 1) = ((Ln.starts b).getD j c, (Ln.starts b).getD (j + 1) c, 0)) := by
    rw [← HLn.out]
    exact fun j hj => lineOut_made b j hj
  have HZ : Hid (lineOut true (Ln.starts b) c (((Ln.starts b).length : Int) + 1) = (0, 0, 4)) := by
    show _ = _
    rw [← HLn.out]
    exact lineOut_beyond b
  have HMid : Hid (∀ j : Nat, j + 1 < (Ln.starts b).length → ∃ k : Nat, (Ln.starts b).getD (j + 1) c = (k : Int) + 1 ∧ b[k]? = some 10 ∧ (Ln.starts b).getD j c < (k : Int) + 1 ∧ 0 ≤ (Ln.starts b).getD j c) := by
    rw [← HLn.out]
    exact fun j hj => made_mid b j hj
  have HLast : Hid (∀ j : Nat, j + 1 = (Ln.starts b).length → (Ln.starts b).getD (j + 1) c = c ∧ (Ln.starts b).getD j c ≤ c ∧ 0 ≤ (Ln.starts b).getD j c) := by
    rw [← HLn.out]
    exact fun j hj => made_last b j hj
  have H0 : Hid ((Ln.starts b).getD 0 c = 0) := rfl
  generalize Ln.starts b = S at *
  have HS : Hid (∃ m, m = S.length) := ⟨_, rfl⟩
  obtain ⟨m, hm⟩ := HS.out
  have HSm : Hid (S.length = m) := hm.symm
  rw [← hm] at hml hmp HJ HZ HMid HLast hc9
  simp only [← hm]
  have T0 : Hid ((w1.alloc (.cells #[.slice A9 m cap9, .int .i64 c] 24)).cell? ⟨w1.heap.size, 0, none⟩ = some (.slice A9 m cap9)) := by
    show _ = _
    rw [World.cell?_alloc_at _ _ _ _ rfl]; rfl
  have T1 : Hid ((w1.alloc (.cells #[.slice A9 m cap9, .int .i64 c] 24)).cell? ⟨w1.heap.size, 1, none⟩ = some (.int .i64 c)) := by
    show _ = _
    rw [World.cell?_alloc_at _ _ _ _ rfl]; rfl
  have B2 : Hid (Below w1.heap.size w1 (w1.alloc (.cells #[.slice A9 m cap9, .int .i64 c] 24))) := (Below.refl _ _).alloc (Nat.le_refl _) _
  clear hm hw1 y9 HS
  go_wp2_with fail
  go_loopg [4, 5] (m + 1) (fun h s4 s5 wr => ∃ j : Nat, Hid (j + h = m + 1) ∧ j ≤ m ∧ s4 = .int .i64 (S.getD j c) ∧ s5 = .int .i64 (j + 1) ∧ Hid (Below (w1.heap.size + 1) (w1.alloc (.cells #[.slice A9 m cap9, .int .i64 c] 24)) wr))
  case atStart => exact ⟨0, by show _ = _; omega, by omega, by rw [H0.out], rfl, Below.refl _ _⟩
  case round =>
    obtain ⟨j, hj, hjm, rfl, rfl, BW⟩ := hrel
    have t0 := (BW.out.cell (p := ⟨w1.heap.size, 0, none⟩) (by simp)).trans T0.out
    have t1 := (BW.out.cell (p := ⟨w1.heap.size, 1, none⟩) (by simp)).trans T1.out
    have BA : Hid (Below w1.heap.size w1 wr) := B2.out.trans (BW.out.mono (by omega))
    have YR : Hid (Nums wr wr.heap.size A9 S) := NumsK.on Y9.out (Nat.le_refl _) BA.out
    have hsr : w1.heap.size + 1 ≤ wr.heap.size := by have := BW.out.size; simpa using this
    by_cases hlt : j < m
    · have hLJ := HJ.out j hlt
      have d0 : decide ((j : Int) + 1 ≤ (m : Int)) = true := by simp; omega
      by_cases hmid : j + 1 < m
      · obtain ⟨k, hk, hbk, hfk, hf0⟩ := HMid.out j hmid
        rw [hk] at hLJ
        generalize hf : S.getD j c = f at *
        have HLJ := Lib.hid hLJ
        obtain ⟨bb, o, rfl, hbl, hcell⟩ := HB.out (by have := (List.getElem?_eq_some_iff.1 hbk).1; omega)
        have hkc : k < c := by have := (List.getElem?_eq_some_iff.1 hbk).1; have := HLn.out; omega
        have cb0 : w.cell? ⟨bb, o + k, none⟩ = some (.int .u8 10) := hcell k 10 hbk
        have CB := Lib.hid cb0
        have d1 : decide ((k : Int) + 1 < f) = false := by simp; omega
        have d2 : decide ((j : Int) + 1 < (m : Int)) = true := by simp; omega
        have d3 : ((k : Int) + 1 == f) = false := by simp; omega
        have HK : Hid (S.getD (j + 1) c = (k : Int) + 1) := hk
        clear hLJ hcell hk cb0 hbk hf
        go_wp2_with fail
        refine (line_run A9 m cap9 S c ((j : Int) + 1) true wr (show (true = true ↔ _) from ⟨fun _ => HVal.out, fun _ => rfl⟩) YR.out HSm hc9 hm9 (by omega) f ((k : Int) + 1) 0 HLJ).mono ?_
        rw [show errOf 0 = .nilIface from rfl]
        rintro e w2 ⟨rfl, hw2⟩
        have u0 : (w2.alloc (.cells #[.int .i64 f, .int .i64 ((k : Int) + 1)] 40)).cell? ⟨w1.heap.size, 0, none⟩ = some (.slice A9 m cap9) := by
          rw [World.cell?_alloc_lt _ _ ⟨w1.heap.size, 0, none⟩ (by have := hw2.size; show w1.heap.size < _; omega)]
          exact (hw2.cell (p := ⟨w1.heap.size, 0, none⟩) (by show w1.heap.size < _; omega)).trans t0
        have ub : (w2.alloc (.cells #[.int .i64 f, .int .i64 ((k : Int) + 1)] 40)).cell? ⟨bb, o + k, none⟩ = some (.int .u8 10) := by
          rw [World.cell?_alloc_lt _ _ ⟨bb, o + k, none⟩ (by have := hw2.size; show bb < _; omega)]
          exact (hw2.cell (p := ⟨bb, o + k, none⟩) (by show bb < _; omega)).trans ((BA.out.cell (p := ⟨bb, o + k, none⟩) (by show bb < _; omega)).trans ((HW1.out.cell (p := ⟨bb, o + k, none⟩) hbl).trans CB.out))
        have B3 : Hid (Below (w1.heap.size + 1) (w1.alloc (.cells #[.slice A9 m cap9, .int .i64 c] 24)) (w2.alloc (.cells #[.int .i64 f, .int .i64 ((k : Int) + 1)] 40))) :=
          (BW.out.trans (hw2.mono hsr)).alloc (by have := hw2.size; omega) _
        clear hw2 t0 t1
        go_wp2_with fail
        go_roundg (m - j)
        case measure => have := hj.out; omega
        case rel => exact ⟨j + 1, by show _ = _; have := hj.out; omega, by omega, by rw [HK.out], by go_num, B3.out⟩
      · have hjl : j + 1 = m := by omega
        obtain ⟨hk, hfk, hf0⟩ := HLast.out j hjl
        rw [hk] at hLJ
        generalize hf : S.getD j c = f at *
        have HLJ := Lib.hid hLJ
        have d1 : decide ((c : Int) < f) = false := by simp; omega
        have d2 : decide ((j : Int) + 1 < (m : Int)) = false := by simp; omega
        have HK : Hid (S.getD (j + 1) c = (c : Int)) := hk
        clear hLJ hk hf
        go_wp2_with fail
        refine (line_run A9 m cap9 S c ((j : Int) + 1) true wr (show (true = true ↔ _) from ⟨fun _ => HVal.out, fun _ => rfl⟩) YR.out HSm hc9 hm9 (by omega) f c 0 HLJ).mono ?_
        rw [show errOf 0 = .nilIface from rfl]
        rintro e w2 ⟨rfl, hw2⟩
        have u0 : (w2.alloc (.cells #[.int .i64 f, .int .i64 c] 40)).cell? ⟨w1.heap.size, 0, none⟩ = some (.slice A9 m cap9) := by
          rw [World.cell?_alloc_lt _ _ ⟨w1.heap.size, 0, none⟩ (by have := hw2.size; show w1.heap.size < _; omega)]
          exact (hw2.cell (p := ⟨w1.heap.size, 0, none⟩) (by show w1.heap.size < _; omega)).trans t0
        have B3 : Hid (Below (w1.heap.size + 1) (w1.alloc (.cells #[.slice A9 m cap9, .int .i64 c] 24)) (w2.alloc (.cells #[.int .i64 f, .int .i64 c] 40))) :=
          (BW.out.trans (hw2.mono hsr)).alloc (by have := hw2.size; omega) _
        clear hw2 t0 t1
        go_wp2_with fail
        go_roundg (m - j)
        case measure => have := hj.out; omega
        case rel => exact ⟨j + 1, by show _ = _; have := hj.out; omega, by omega, by rw [HK.out], by go_num, B3.out⟩
    · obtain rfl : j = m := by omega
      have hat : S.getD j c = c := by
        have : S[j]? = none := List.getElem?_eq_none (by rw [HSm.out]; exact Nat.le_refl _)
        simp [List.getD, this]
      have d0 : decide ((j : Int) + 1 ≤ (j : Int)) = false := by simp; omega
      rw [hat]
      clear hat
      go_wp2_with fail
      refine (line_run A9 j cap9 S c ((j : Int) + 1) true wr (show (true = true ↔ _) from ⟨fun _ => HVal.out, fun _ => rfl⟩) YR.out HSm hc9 hm9 (by omega) 0 0 4 HZ).mono ?_
      rw [show errOf 4 = .iface 49 (.int .i64 4) from rfl]
      rintro e w2 ⟨rfl, hw2⟩
      have B3 : Hid (Below w.heap.size w (w2.alloc (.cells #[.int .i64 0, .int .i64 0] 40))) :=
        (HW1.out.trans ((BA.out.trans (hw2.mono (by omega))).mono hs1)).alloc (by have := hw2.size; omega) _
      have hs3 := B3.out.size
      clear hw2 t0 t1
      go_wp2_with fail
      refine (works_run _).mono ?_
      rintro e w5 ⟨rfl, hw5⟩
      go_wp2
      go_ret
      exact ⟨rfl, B3.out.trans (hw5.mono hs3)⟩
end Go.Proofs.Ytihdljadggoimaa
