/-
  The contracts of edit.applied and edit.Apply.
-/
import Derived.Test.YtmkpomnhmepmcaaDoorEdValid
import Derived.Test.YtmkpomnhmepmcaaDoorEdMap
import Derived.Deep.AppendLies
namespace Go.Proofs.YtmkpomnhmepmcaaDoor
open Go.RowKit

section
variable (Ab : Option Addr) (nb capb : Nat) (bl : List Int) (A : Option Addr) (n cap : Nat) (l : List Ei) (w : World)
set_option maxHeartbeats 4000000 in
theorem applied_bad (i k : Nat) (hy : Byts w w.heap.size Ab bl) (hbl : Hid (bl.length = nb)) (hh : Heads w) (hb : CellsV edCells w w.heap.size A l) (hl : Hid (l.length = n)) (hn : n ≤ 12) (hs : Hid (∀ e ∈ l, e.s.size ≤ 40)) (hc : Hid (checkOut bl l = some (i, k))) :
    Calls Tryd.prog 26 #[.slice Ab nb capb, .slice A n cap] w fun e w' => e = .returned (.tuple #[.int .i64 0, errAt i k]) ∧ Below w.heap.size w w' := by
  have HC := Lib.hid (edCheck_run Ab nb capb bl A n cap l w hy hbl hh hb hl hn hs)
  have He : Hid (chkErr (checkOut bl l) = .iface 49 (.agg #[.int .i64 i, .iface 46 (.int .i64 k)])) := by
    show _ = _
    rw [hc.out]
    rfl
  clear hy hh hb
  go_enter Tryd.func26, Tryd.ntmps26
  go_wp2_with fail
  refine HC.out.mono ?_
  rw [He.out]
  rintro e w1 ⟨rfl, hw1⟩
  go_wp2_with fail
  go_ret2
  exact ⟨rfl, hw1⟩
set_option maxHeartbeats 4000000 in
theorem applied_ok (z : Nat) (hy : Byts w w.heap.size Ab bl) (hbl : Hid (bl.length = nb)) (hh : Heads w) (hb : CellsV edCells w w.heap.size A l) (hl : Hid (l.length = n)) (hn : n ≤ 12) (hs : Hid (∀ e ∈ l, e.s.size ≤ 40)) (hnb : nb ≤ 300) (hc : Hid (checkOut bl l = none)) (hz : Hid ((done bl l).length = z)) :
    Calls Tryd.prog 26 #[.slice Ab nb capb, .slice A n cap] w fun e w' => e = .returned (.tuple #[.int .i64 (z : Int), .nilIface]) ∧ Below w.heap.size w w' := by
  have HC := Lib.hid (edCheck_run Ab nb capb bl A n cap l w hy hbl hh hb hl hn hs)
  have He : Hid (chkErr (checkOut bl l) = .nilIface) := by
    show _ = _
    rw [hc.out]
    rfl
  have hzl : z ≤ 780 := by
    have := done_le hc.out hs.out (by have := hl.out; omega)
    have := hz.out
    have := hbl.out
    omega
  obtain ⟨gi, hgi⟩ : ∃ gi, growI l = gi := ⟨_, rfl⟩
  have hg := done_length hc.out
  have hgz : (nb : Int) + gi = (z : Int) := by
    have := hz.out
    have := hbl.out
    omega
  have HG : Hid (∀ W, Below w.heap.size w W → Calls Tryd.prog 20 #[.slice A n cap] W fun e w' => e = .returned (.int .i64 gi) ∧ Below W.heap.size W w') := fun W hW => by
    have h := Grow_run A n cap l W ((hb.below hW (Nat.le_refl _)).more hW.size) hl (by omega)
    have e : Wr.w (growI l) = gi := by
      rw [hgi, Wr.w_in (by omega) (by omega)]
    rwa [e] at h
  have hg1 : -300 ≤ gi := by omega
  have hg2 : gi ≤ 780 := by omega
  clear hy hh hb hg hgi
  go_enter Tryd.func26, Tryd.ntmps26
  go_wp2_with fail
  refine HC.out.mono ?_
  rw [He.out]
  rintro e w1 ⟨rfl, hw1⟩
  have B1 := Lib.hid hw1
  clear hw1
  go_wp2_with fail
  refine (HG.out _ B1.out).mono ?_
  rintro e w2 ⟨rfl, hw2⟩
  have B2 : Hid (Below w.heap.size w w2) := B1.out.trans (hw2.mono B1.out.size)
  have hz2 : ¬ (16777216 : Int) < (z : Int) := by omega
  clear hw2
  go_wp2_with fail
  go_ret2
  exact ⟨rfl, B2.out⟩
set_option maxHeartbeats 4000000 in
theorem apply_bad (i k : Nat) (hy : Byts w w.heap.size Ab bl) (hbl : Hid (bl.length = nb)) (hh : Heads w) (hb : CellsV edCells w w.heap.size A l) (hl : Hid (l.length = n)) (hn : n ≤ 12) (hs : Hid (∀ e ∈ l, e.s.size ≤ 40)) (hc : Hid (checkOut bl l = some (i, k))) :
    Calls Tryd.prog 10 #[.slice Ab nb capb, .slice A n cap] w fun e w' => e = .returned (.tuple #[.slice none 0 0, errAt i k]) ∧ Below w.heap.size w w' := by
  have HC := Lib.hid (applied_bad Ab nb capb bl A n cap l w i k hy hbl hh hb hl hn hs hc)
  clear hy hh hb
  unfold errAt errno at *
  go_enter Tryd.func10, Tryd.ntmps10
  go_wp2_with fail
  refine HC.out.mono ?_
  rintro e w1 ⟨rfl, hw1⟩
  go_wp2_with fail
  go_ret2
  exact ⟨rfl, hw1⟩
set_option maxRecDepth 100000 in
set_option maxHeartbeats 8000000 in
theorem apply_ok (hy : Byts w w.heap.size Ab bl) (hbl : Hid (bl.length = nb)) (hcapb : nb ≤ capb) (hh : Heads w) (hb : CellsV edCells w w.heap.size A l) (hl : Hid (l.length = n)) (hn : n ≤ 12) (hs : Hid (∀ e ∈ l, e.s.size ≤ 40)) (hnb : nb ≤ 300) (hc : Hid (checkOut bl l = none)) :
    Calls Tryd.prog 10 #[.slice Ab nb capb, .slice A n cap] w fun e w' => ∃ v, e = .returned (.tuple #[v, .nilIface]) ∧ BytsOut (done bl l) w v w' := by
  obtain ⟨z, hz⟩ : ∃ z, (done bl l).length = z := ⟨_, rfl⟩
  have HZ := Lib.hid hz
  have HC := Lib.hid (applied_ok Ab nb capb bl A n cap l w z hy hbl hh hb hl hn hs hnb hc HZ)
  have hzl : z ≤ 780 := by
    have := done_le hc.out hs.out (by have := hl.out; omega)
    have := hbl.out
    omega
  have HY := Lib.hid hy
  have HB := Lib.hid hb
  clear hy hh hb hz
  go_enter Tryd.func10, Tryd.ntmps10
  go_wp2_with fail
  refine HC.out.mono ?_
  rintro e w1 ⟨rfl, hw1⟩
  have B1 := Lib.hid hw1
  have hs1 := hw1.size
  clear hw1
  go_wp2_with
    (at_make
     refine wpList_makeK u8_slice _ rfl _ _ rfl w.heap.size 0 z rfl rfl (Nat.zero_le _) (by omega) hs1 ?_
     intro w2 o2 g2
     have B2 : Hid (Below w.heap.size w w2) := B1.out.grown g2 hs1 (fun g hg => by cases hg)
     have O2 := Lib.hid o2
     clear o2 g2)
  clear HC
  go_loopg [8, 9, 25] (n + 1) (fun h s8 s9 s25 wr => ∃ (i p : Nat) (out : List Int), s25 = .int .i64 i ∧ s9 = .int .i64 p ∧ Hid (i ≤ n ∧ n < i + h) ∧ Hid (AtApp bl l i p out) ∧ Hid (OwnK .u8 5 wr w.heap.size s8 out) ∧ Hid (Below w.heap.size w wr))
  case atStart => exact ⟨0, 0, [], rfl, rfl, by show _ ∧ _; omega, AtApp.start hc.out, O2.out, B2.out⟩
  case round =>
    clear O2 B2
    obtain ⟨i, p, out, rfl, rfl, HI, HA, O, BW⟩ := hrel
    have hle := HA.out.le
    by_cases hlt : i < n
    · have hltz : (i : Int) < (n : Int) := by omega
      obtain ⟨gb, o, x, rfl, hg, hx, c0, c1, c2⟩ := eds_at (HB.out.below BW.out (Nat.le_refl _)) (show i < l.length by have := hl.out; omega)
      obtain ⟨v0, v1, v2⟩ := valid_in hc.out x (List.mem_of_getElem? hx)
      have hsl : x.s.size ≤ 40 := hs.out x (List.mem_of_getElem? hx)
      obtain ⟨⟨hpf, hft, htb⟩, HN⟩ := HA.out.next hx
      obtain ⟨f, t, s⟩ := x
      obtain ⟨fn, rfl⟩ := Int.eq_ofNat_of_zero_le v0
      obtain ⟨tn, rfl⟩ := Int.eq_ofNat_of_zero_le (Int.le_trans v0 v1)
      simp only [Int.toNat_natCast] at c0 c1 c2 hpf hft htb HN hsl
      have HN := Lib.hid HN
      have hbl' := hbl.out
      have hz' := HZ.out
      have hfc : fn ≤ capb := by omega
      have hlen1 : Hid (out.length ≤ 500000) := by show _ ≤ _; omega
      have hlen2 : Hid (((bl.drop p).take (fn - p)).length = fn - p) := by show _ = _; rw [List.length_take, List.length_drop]; omega
      have hlen3 : Hid (((bl.drop p).take (fn - p)).length ≤ 500000) := by show _ ≤ _; rw [hlen2.out]; omega
      have hlen4 : Hid ((out ++ (bl.drop p).take (fn - p)).length ≤ 500000) := by show _ ≤ _; rw [List.length_append, hlen2.out]; omega
      have hlen5 : Hid (s.size ≤ 500000) := by show _ ≤ _; omega
      have hsz := BW.out.size
      have O1 : Hid (OwnK .u8 5 (wr.alloc (.cells #[.int .i64 (fn : Int), .int .i64 (tn : Int), .string s] 45)) w.heap.size u8 out) := World.ownsRow.alloc O.out _
      have hown : Hid (∀ g, u8.ownBlock = some g → g < wr.heap.size) := fun g hg => (World.ownsRow.lt O.out g hg).2
      have BW1 : Hid (Below w.heap.size w (wr.alloc (.cells #[.int .i64 (fn : Int), .int .i64 (tn : Int), .string s] 45))) := BW.out.alloc hsz _
      have e1 : (wr.alloc (.cells #[.int .i64 (fn : Int), .int .i64 (tn : Int), .string s] 45)).cell? ⟨wr.heap.size, 1, none⟩ = some (.int .i64 (tn : Int)) := by simp
      have e2 : (wr.alloc (.cells #[.int .i64 (fn : Int), .int .i64 (tn : Int), .string s] 45)).cell? ⟨wr.heap.size, 2, none⟩ = some (.string s) := by simp
      have hs3 : Hid ((wr.alloc (.cells #[.int .i64 (fn : Int), .int .i64 (tn : Int), .string s] 45)).heap.size = wr.heap.size + 1) := by show _ = _; simp
      have E1 := Lib.hid e1
      have E2 := Lib.hid e2
      have HYc : Hid (∀ A' W, (A' = Ab.map (·.add p) ∨ fn ≤ p) → Below w.heap.size w W → Byts W w.heap.size A' ((bl.drop p).take (fn - p))) := fun A' W hA hW => byts_cut (HY.out.below hW (Nat.le_refl _)) p fn hA
      have HM : Hid (n - i < gk) := by show _ < _; have := HI.out; omega
      have HR : Hid (i + 1 ≤ n ∧ n < (i + 1) + (n - i)) := by show _ ∧ _; omega
      clear hx v0 v1 v2 hle hbl' hz' HA O e1 e2 HI
      by_cases hcp : capb = p
      · have hfp : fn ≤ p := by omega
        subst hcp
        have hlen0 : Hid (((bl.drop capb).take (fn - capb)).length = 0) := by show _ = _; rw [hlen2.out]; omega
        go_wp2_with (first
          | (at_builtin
             refine wpList_app u8_slice _ rfl (.tmp 29) (.tmp 34) rfl w.heap.size u8 out rfl O1.out w.heap.size _ 0 _ ((bl.drop capb).take (fn - capb)) rfl (HYc.out _ _ (.inr hfp) BW1.out).2 hlen0.out hlen1.out hlen3.out BW1.out.size ?_
             intro v3 w3 o3 g3 t3
             have B3 : Hid (Below w.heap.size w w3) := BW1.out.grown g3 BW1.out.size (own_ge O1.out)
             have O3 := Lib.hid o3
             have k1 : w3.cell? ⟨wr.heap.size, 1, none⟩ = some (.int .i64 (tn : Int)) := (g3.cell_far ⟨wr.heap.size, 1, none⟩ (by rw [hs3.out]; exact Nat.lt_succ_self _) (fun e => absurd (hown.out _ e.symm) (Nat.lt_irrefl _))).trans E1.out
             have k2 : w3.cell? ⟨wr.heap.size, 2, none⟩ = some (.string s) := (g3.cell_far ⟨wr.heap.size, 2, none⟩ (by rw [hs3.out]; exact Nat.lt_succ_self _) (fun e => absurd (hown.out _ e.symm) (Nat.lt_irrefl _))).trans E2.out
             have hs4 : wr.heap.size + 1 ≤ w3.heap.size := by have := g3.size; rw [hs3.out] at this; exact this
             have hown3 : Hid (v3.ownBlock ≠ some wr.heap.size) := fun e => by
               rcases t3 with t3 | t3
               · exact absurd (hown.out _ (t3.symm.trans e)) (Nat.lt_irrefl _)
               · rw [hs3.out] at t3
                 exact absurd (Option.some.inj (t3.symm.trans e)) (by omega)
             clear o3 g3 t3)
          | (at_builtin
             refine wpList_app_str u8_slice Tryd.underlying9 _ rfl (.tmp 36) (.tmp 38) rfl w.heap.size v3 _ rfl O3.out s rfl hlen4.out hlen5.out B3.out.size ?_
             intro v4 w4 o4 g4 t4
             have B4 : Hid (Below w.heap.size w w4) := B3.out.grown g4 B3.out.size (own_ge O3.out)
             have O4 := Lib.hid o4
             have m1 : w4.cell? ⟨wr.heap.size, 1, none⟩ = some (.int .i64 (tn : Int)) := (g4.cell_far ⟨wr.heap.size, 1, none⟩ (by exact hs4) (fun e => hown3.out e.symm)).trans k1
             clear o4 g4 t4))
        go_roundg (n - i)
        case measure => exact HM.out
        case rel => exact ⟨i + 1, tn, _, by go_num, rfl, HR.out, HN.out, O4.out, B4.out⟩
      · go_wp2_with (first
          | (at_builtin
             refine wpList_app u8_slice _ rfl (.tmp 29) (.tmp 34) rfl w.heap.size u8 out rfl O1.out w.heap.size _ (fn - p) _ ((bl.drop p).take (fn - p)) rfl (HYc.out _ _ (.inl rfl) BW1.out).2 hlen2.out hlen1.out hlen3.out BW1.out.size ?_
             intro v3 w3 o3 g3 t3
             have B3 : Hid (Below w.heap.size w w3) := BW1.out.grown g3 BW1.out.size (own_ge O1.out)
             have O3 := Lib.hid o3
             have k1 : w3.cell? ⟨wr.heap.size, 1, none⟩ = some (.int .i64 (tn : Int)) := (g3.cell_far ⟨wr.heap.size, 1, none⟩ (by rw [hs3.out]; exact Nat.lt_succ_self _) (fun e => absurd (hown.out _ e.symm) (Nat.lt_irrefl _))).trans E1.out
             have k2 : w3.cell? ⟨wr.heap.size, 2, none⟩ = some (.string s) := (g3.cell_far ⟨wr.heap.size, 2, none⟩ (by rw [hs3.out]; exact Nat.lt_succ_self _) (fun e => absurd (hown.out _ e.symm) (Nat.lt_irrefl _))).trans E2.out
             have hs4 : wr.heap.size + 1 ≤ w3.heap.size := by have := g3.size; rw [hs3.out] at this; exact this
             have hown3 : Hid (v3.ownBlock ≠ some wr.heap.size) := fun e => by
               rcases t3 with t3 | t3
               · exact absurd (hown.out _ (t3.symm.trans e)) (Nat.lt_irrefl _)
               · rw [hs3.out] at t3
                 exact absurd (Option.some.inj (t3.symm.trans e)) (by omega)
             clear o3 g3 t3)
          | (at_builtin
             refine wpList_app_str u8_slice Tryd.underlying9 _ rfl (.tmp 36) (.tmp 38) rfl w.heap.size v3 _ rfl O3.out s rfl hlen4.out hlen5.out B3.out.size ?_
             intro v4 w4 o4 g4 t4
             have B4 : Hid (Below w.heap.size w w4) := B3.out.grown g4 B3.out.size (own_ge O3.out)
             have O4 := Lib.hid o4
             have m1 : w4.cell? ⟨wr.heap.size, 1, none⟩ = some (.int .i64 (tn : Int)) := (g4.cell_far ⟨wr.heap.size, 1, none⟩ (by exact hs4) (fun e => hown3.out e.symm)).trans k1
             clear o4 g4 t4))
        go_roundg (n - i)
        case measure => exact HM.out
        case rel => exact ⟨i + 1, tn, _, by go_num, rfl, HR.out, HN.out, O4.out, B4.out⟩
    · have hltz : ¬ (i : Int) < (n : Int) := by omega
      obtain ⟨hpl, hD⟩ := HA.out.done (by have := hl.out; omega)
      have hbl' := hbl.out
      have hz' := HZ.out
      have hD2 : out ++ (bl.drop p).take (nb - p) = done bl l := by
        rw [List.take_of_length_le (by rw [List.length_drop]; omega)]
        exact hD
      have HD := Lib.hid hD2
      have hpn : p ≤ nb := by omega
      have hlen1 : Hid (out.length ≤ 500000) := by show _ ≤ _; omega
      have hlen2 : Hid (((bl.drop p).take (nb - p)).length = nb - p) := by show _ = _; rw [List.length_take, List.length_drop]; omega
      have hlen3 : Hid (((bl.drop p).take (nb - p)).length ≤ 500000) := by show _ ≤ _; rw [hlen2.out]; omega
      have HYc : Hid (∀ A' W, (A' = Ab.map (·.add p) ∨ nb ≤ p) → Below w.heap.size w W → Byts W w.heap.size A' ((bl.drop p).take (nb - p))) := fun A' W hA hW => byts_cut (HY.out.below hW (Nat.le_refl _)) p nb hA
      have HByt : Hid (U.Byt (done bl l)) := byt_app HY.out.1 0 l
      clear hD hD2 hbl' hz' hpl hle
      by_cases hcp : capb = p
      · have hfp : nb ≤ p := by omega
        subst hcp
        have hlen0 : Hid (((bl.drop capb).take (nb - capb)).length = 0) := by show _ = _; rw [hlen2.out]; omega
        go_wp2_with
          (at_builtin
           refine wpList_app u8_slice _ rfl (.tmp 43) (.tmp 46) rfl w.heap.size u8 out rfl O.out w.heap.size _ 0 _ ((bl.drop capb).take (nb - capb)) rfl (HYc.out _ _ (.inr hfp) BW.out).2 hlen0.out hlen1.out hlen3.out BW.out.size ?_
           intro v3 w3 o3 g3 t3
           have B3 : Hid (Below w.heap.size w w3) := BW.out.grown g3 BW.out.size (own_ge O.out)
           have O3 := Lib.hid o3
           clear o3 g3 t3)
        go_ret2
        rw [HD.out] at O3
        obtain ⟨A9, cap9, hv, h1, h2, h3⟩ := O3.out.nums
        unfold maxLen at h2
        exact ⟨v3, rfl, A9, cap9, hv, h1, h2, ⟨HByt.out, h3⟩, B3.out⟩
      · go_wp2_with
          (at_builtin
           refine wpList_app u8_slice _ rfl (.tmp 43) (.tmp 46) rfl w.heap.size u8 out rfl O.out w.heap.size _ (nb - p) _ ((bl.drop p).take (nb - p)) rfl (HYc.out _ _ (.inl rfl) BW.out).2 hlen2.out hlen1.out hlen3.out BW.out.size ?_
           intro v3 w3 o3 g3 t3
           have B3 : Hid (Below w.heap.size w w3) := BW.out.grown g3 BW.out.size (own_ge O.out)
           have O3 := Lib.hid o3
           clear o3 g3 t3)
        go_ret2
        rw [HD.out] at O3
        obtain ⟨A9, cap9, hv, h1, h2, h3⟩ := O3.out.nums
        unfold maxLen at h2
        exact ⟨v3, rfl, A9, cap9, hv, h1, h2, ⟨HByt.out, h3⟩, B3.out⟩
end
end Go.Proofs.YtmkpomnhmepmcaaDoor
