/-
  The walk of the law LinesBack: it answers true, and leaves what was there as it was.
-/
import Derived.Test.YtihdljadggoimaaLnBack
namespace Go.Proofs.Ytihdljadggoimaa
open Go.RowKit

set_option maxRecDepth 100000 in
set_option maxHeartbeats 4000000 in
theorem linesBack_any (A : Option Addr) (n cap : Nat) (l : List Int) (w : World) (hb : NumsK .u8 w w.heap.size A l) (hl : l.length = n) (hcap : n ≤ cap) :
    Calls Try.prog 5 #[.slice A n cap] w fun e w' => e = .returned (.bool true) ∧ Below w.heap.size w w' := by
  have hc := cutN_le n
  have HB : Hid (NumsK .u8 w w.heap.size A (l.take (cutN n))) := NumsK.take hb _
  have HLn : Hid ((l.take (cutN n)).length = cutN n) := by show _ = _; rw [List.length_take]; omega
  have HE : Hid ((min (n : Int) 300).toNat = cutN n) := rfl
  clear hb hl
  generalize l.take (cutN n) = b at *
  go_enter Try.func5, Try.ntmps5
  go_wp2_with fail
  rw [HE.out]
  generalize cutN n = c at *
  clear HE
  refine (new_run A c cap b w HB.out HLn hc.2).mono ?_
  rintro e w1 ⟨v, rfl, ⟨A9, cap9, rfl, hc9, hm9, y9⟩, hw1⟩
  have HW1 := Lib.hid hw1
  have Y9 := Lib.hid y9
  have hs1 := hw1.size
  have hml : (Ln.starts b).length ≤ 301 := by
    have := Ln.starts_length b
    have := HLn.out
    omega
  have HVal : Hid (Ln.Valid (Ln.starts b) c) := by
    show Ln.Valid _ _
    rw [← HLn.out]
    exact Ln.starts_valid b
  have HP : Hid (∀ p : Nat, p ≤ c → posOut true (Ln.starts b) c p = (Ln.lin b p, Ln.col b p, 0)) := by
    rw [← HLn.out]
    exact fun p hp => posOut_made b p hp
  have HO : Hid (∀ p : Nat, p ≤ c → offOut true (Ln.starts b) c (Ln.lin b p) (Ln.col b p) = ((p : Int), 0)) := by
    rw [← HLn.out]
    exact fun p hp => offOut_made b p hp
  have B2 : Hid (Below w1.heap.size w1 (w1.alloc (.cells #[.slice A9 (Ln.starts b).length cap9, .int .i64 c] 24))) := (Below.refl _ _).alloc (Nat.le_refl _) _
  have BX : Hid (Below w.heap.size w (w1.alloc (.cells #[.slice A9 (Ln.starts b).length cap9, .int .i64 c] 24))) := HW1.out.alloc hs1 _
  have YX : Hid (NumsK .u8 (w1.alloc (.cells #[.slice A9 (Ln.starts b).length cap9, .int .i64 c] 24)) (w1.alloc (.cells #[.slice A9 (Ln.starts b).length cap9, .int .i64 c] 24)).heap.size A b) := NumsK.on HB.out (Nat.le_refl _) BX.out
  clear hw1 y9
  go_wp2_with fail
  refine (starts_run A c cap b _ YX.out HLn hc.2).mono ?_
  rintro e w2 ⟨A8, cap8, rfl, hc8, hm8, y8, hw2⟩
  have Y8 := Lib.hid y8
  have hs2 : w1.heap.size + 1 ≤ w2.heap.size := by have := hw2.size; simpa using this
  have t0 : w2.cell? ⟨w1.heap.size, 0, none⟩ = some (.slice A9 (Ln.starts b).length cap9) := (hw2.cell (p := ⟨w1.heap.size, 0, none⟩) (by simp)).trans (World.cell?_alloc_at _ _ _ _ rfl)
  have t1 : w2.cell? ⟨w1.heap.size, 1, none⟩ = some (.int .i64 c) := (hw2.cell (p := ⟨w1.heap.size, 1, none⟩) (by simp)).trans (World.cell?_alloc_at _ _ _ _ rfl)
  have B3 : Hid (Below w1.heap.size w1 w2) := B2.out.trans (hw2.mono (by simp))
  have Y3 : Hid (Nums w2 w2.heap.size A9 (Ln.starts b)) := NumsK.on Y9.out (Nat.le_refl _) B3.out
  clear hw2 y8
  generalize Ln.starts b = S at *
  obtain ⟨m, hm⟩ : ∃ m, m = S.length := ⟨_, rfl⟩
  have HSm : Hid (S.length = m) := hm.symm
  rw [← hm] at hml hc9 hc8 t0 B2
  simp only [← hm]
  have T0 := Lib.hid t0
  have T1 := Lib.hid t1
  clear hm B2 BX YX
  go_wp2_with fail
  go_loopg [5, 38] (m + 1) (fun h s5 s38 wr => ∃ j : Nat, Hid (j + h = m + 1) ∧ j ≤ m ∧ s38 = .int .i64 j ∧ Hid (Below w2.heap.size w2 wr))
  case atStart => exact ⟨0, by show _ = _; omega, by omega, rfl, Below.refl _ _⟩
  case round =>
    obtain ⟨j, hj, hjm, rfl, BW⟩ := hrel
    have u0 := (BW.out.cell (p := ⟨w1.heap.size, 0, none⟩) (by show w1.heap.size < _; omega)).trans T0.out
    have u1 := (BW.out.cell (p := ⟨w1.heap.size, 1, none⟩) (by show w1.heap.size < _; omega)).trans T1.out
    clear t0 t1
    by_cases hlt : j < m
    · obtain ⟨b8, o8, rfl, hl8, h8⟩ := Y8.out (by have := HSm.out; omega)
      obtain ⟨b9, o9, rfl, hl9, h9⟩ := Y3.out (by have := HSm.out; omega)
      have hx : S[j]? = some (S[j]'(by rw [HSm.out]; exact hlt)) := List.getElem?_eq_getElem _
      generalize S[j]'(by rw [HSm.out]; exact hlt) = x at hx
      have c8 := (BW.out.cell (p := ⟨b8, o8 + j, none⟩) hl8).trans (h8 j x hx)
      have c9 := (BW.out.cell (p := ⟨b9, o9 + j, none⟩) hl9).trans (h9 j x hx)
      have hjI : (j : Int) < m := by omega
      have hxx : (x == x) = true := by simp
      clear h8 h9 hx
      go_wp2_with fail
      go_quiet (fail)
      go_wp2_with fail
      go_roundg (m - j)
      case measure => have := hj.out; omega
      case rel => exact ⟨j + 1, by show _ = _; have := hj.out; omega, by omega, by go_num, below_drewN BW.out _⟩
    · have B4 : Hid (Below w1.heap.size w1 wr) := B3.out.trans (BW.out.mono (by omega))
      have hs4 : w1.heap.size + 1 ≤ wr.heap.size := by have := BW.out.size; omega
      have U0 := Lib.hid u0
      have U1 := Lib.hid u1
      clear BW hj
      generalize wr = wq at *
      go_wp2_with fail
      go_loopg [6, 7, 8] (c + 2) (fun h s6 s7 s8 wr => ∃ p : Nat, Hid (p + h = c + 2) ∧ p ≤ c + 1 ∧ s6 = .int .i64 (Ln.pre b p).1 ∧ s7 = .int .i64 (Ln.pre b p).2 ∧ s8 = .int .i64 p ∧ Hid (Below (w1.heap.size + 1) wq wr))
      case atStart => exact ⟨0, by show _ = _; omega, by omega, rfl, rfl, rfl, Below.refl _ _⟩
      case round =>
        obtain ⟨p, hph, hpc, rfl, rfl, rfl, BY⟩ := hrel
        have BA : Hid (Below w1.heap.size w1 wr) := B4.out.trans (BY.out.mono (by omega))
        have BB : Hid (Below w.heap.size w wr) := HW1.out.trans (BA.out.mono hs1)
        have v0 := (BY.out.cell (p := ⟨w1.heap.size, 0, none⟩) (by simp)).trans U0.out
        have v1 := (BY.out.cell (p := ⟨w1.heap.size, 1, none⟩) (by simp)).trans U1.out
        have hs5 : w1.heap.size + 1 ≤ wr.heap.size := by have := BY.out.size; omega
        have YA : Hid (Nums wr wr.heap.size A9 S) := NumsK.on Y9.out (Nat.le_refl _) BA.out
        clear u0 u1
        by_cases hle : p ≤ c
        · have d0 : decide ((p : Int) ≤ (c : Int)) = true := by simp; omega
          have hlb := Ln.lin_bd b p
          have hcb := Ln.col_bd b p
          have hLc := HLn.out
          have HPp := Lib.hid (HP.out p hle)
          have HOp := Lib.hid (HO.out p hle)
          have V0 := Lib.hid v0
          have V1 := Lib.hid v1
          obtain ⟨x, hx⟩ : ∃ x, x = Ln.lin b p := ⟨_, rfl⟩
          obtain ⟨y, hy⟩ : ∃ y, y = Ln.col b p := ⟨_, rfl⟩
          rw [← hx, ← hy] at HPp HOp
          rw [← hx] at hlb
          rw [← hy] at hcb
          rw [hLc] at hlb hcb
          have HXp : Hid (Ln.pre b (p + 1) = (x, y)) := by show _ = _; rw [Ln.pre_succ, hx, hy]
          have HStep : Hid ((p = 0 ∧ Ln.pre b p = (1, 0) ∧ x = 1 ∧ y = 1) ∨ ∃ q, p = q + 1 ∧ ((b[q]? = some 10 ∧ x = (Ln.pre b p).1 + 1 ∧ y = 1) ∨ (b[q]? ≠ some 10 ∧ x = (Ln.pre b p).1 ∧ y = (Ln.pre b p).2 + 1))) := by
            show _ ∨ _
            match p, hx, hy with
            | 0, hx, hy =>
              have := Ln.first b
              exact .inl ⟨rfl, rfl, by omega, by omega⟩
            | q + 1, hx, hy =>
              refine .inr ⟨q, rfl, ?_⟩
              rw [Ln.pre_succ]
              by_cases h10 : b[q]? = some 10
              · have := Ln.pre_new b q h10
                exact .inl ⟨h10, by simp; omega, by omega⟩
              · have := Ln.pre_same b q h10
                exact .inr ⟨h10, by simp; omega, by simp; omega⟩
          clear hx hy
          have hxx : (x == x) = true := by simp
          have hyy : (y == y) = true := by simp
          have hpp : ((p : Int) == (p : Int)) = true := by simp
          generalize hpr : Ln.pre b p = pr at *
          obtain ⟨pa, pb⟩ := pr
          simp only [] at *
          go_wp2_with fail
          refine (pos_run A9 m cap9 S c p true wr (show (true = true ↔ _) from ⟨fun _ => HVal.out, fun _ => rfl⟩) YA.out HSm hc9 hm9 (by omega) (by omega) x y 0 HPp).mono ?_
          rw [show errOf 0 = .nilIface from rfl]
          rintro e w5 ⟨rfl, hw5⟩
          have z0 := (hw5.cell (p := ⟨w1.heap.size, 0, none⟩) (by show w1.heap.size < _; omega)).trans V0.out
          have z1 := (hw5.cell (p := ⟨w1.heap.size, 1, none⟩) (by show w1.heap.size < _; omega)).trans V1.out
          have BC : Hid (Below (w1.heap.size + 1) wq w5) := BY.out.trans (hw5.mono hs5)
          have YC : Hid (Nums w5 w5.heap.size A9 S) := NumsK.on YA.out (Nat.le_refl _) hw5
          have BD : Hid (Below w.heap.size w w5) := BB.out.trans (hw5.mono BB.out.size)
          have hs6 : w1.heap.size + 1 ≤ w5.heap.size := by have := hw5.size; omega
          clear hw5 v0 v1
          go_wp2_with fail
          refine (off_run A9 m cap9 S c x y true w5 (show (true = true ↔ _) from ⟨fun _ => HVal.out, fun _ => rfl⟩) YC.out HSm hc9 hm9 (by omega) (by omega) (by omega) p 0 HOp).mono ?_
          rw [show errOf 0 = .nilIface from rfl]
          rintro e w6 ⟨rfl, hw6⟩
          have BE : Hid (Below (w1.heap.size + 1) wq w6) := BC.out.trans (hw6.mono hs6)
          have BF : Hid (Below w.heap.size w w6) := BD.out.trans (hw6.mono BD.out.size)
          clear hw6 z0 z1
          rcases HStep.out with ⟨rfl, e1, rfl, rfl⟩ | ⟨q, rfl, h⟩
          · cases e1
            go_wp2_with fail
            go_roundg (c + 1)
            case measure => have := hph.out; omega
            case rel => exact ⟨1, by show _ = _; have := hph.out; omega, by omega, by rw [HXp.out], by rw [HXp.out], by go_num, BE.out⟩
          · have hql : q < b.length := by have := HLn.out; omega
            obtain ⟨bb, o, rfl, hbl, hcell⟩ := HB.out (by omega)
            obtain ⟨r, hr⟩ : ∃ r, b[q]? = some r := ⟨_, List.getElem?_eq_getElem hql⟩
            have cr : w6.cell? ⟨bb, o + q, none⟩ = some (.int .u8 r) := (BF.out.cell (p := ⟨bb, o + q, none⟩) hbl).trans (hcell q r hr)
            have dq : decide (0 < (q : Int) + 1) = true := by simp <;> omega
            have hqc : (q : Int) < c := by omega
            rw [hr] at h
            rcases h with ⟨h10, rfl, rfl⟩ | ⟨h10, rfl, rfl⟩
            · have h10' := Option.some.inj h10
              subst h10'
              clear h10 hr hcell
              go_wp2_with fail
              go_roundg (c - q)
              case measure => have := hph.out; omega
              case rel => exact ⟨q + 1 + 1, by show _ = _; have := hph.out; omega, by omega, by rw [HXp.out], by rw [HXp.out], by go_num, BE.out⟩
            · have hr10 : (r == 10) = false := by
                simp
                intro e
                exact h10 (by rw [e])
              clear h10 hr hcell
              go_wp2_with fail
              go_roundg (c - q)
              case measure => have := hph.out; omega
              case rel => exact ⟨q + 1 + 1, by show _ = _; have := hph.out; omega, by omega, by rw [HXp.out], by rw [HXp.out], by go_num, BE.out⟩
        · have d0 : decide ((p : Int) ≤ (c : Int)) = false := by simp; omega
          have hsb := BB.out.size
          clear v0 v1
          go_wp2_with fail
          refine (works_run _).mono ?_
          rintro e w5 ⟨rfl, hw5⟩
          go_wp2
          go_ret
          exact ⟨rfl, BB.out.trans (hw5.mono hsb)⟩
end Go.Proofs.Ytihdljadggoimaa
