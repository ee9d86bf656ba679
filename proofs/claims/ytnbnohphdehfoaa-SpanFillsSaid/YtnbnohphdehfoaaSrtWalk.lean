/-
  slices.SortStableFunc's family at a slice of structs of two int's ([]api.Span): its exchanges and rotations, from a world of the sort's to a world of the sort's.
-/
import Derived.Test.YtnbnohphdehfoaaBase
import Derived.Test.YtnbnohphdehfoaaAppV
import Derived.Test.YtnbnohphdehfoaaSrtMath
import Derived.Shelf.SlSortCmp.KitK
import Derived.Deep.LoopGhost
namespace Go.Proofs.Ytnbnohphdehfoaa
open Go.Shelf Go.RowKit Go.Lib Go.Sort

theorem mixedA : Try.prog.follows .mixedOrders = true := by kernel_rfl
theorem pair_one (x : Int × Int) : ∀ v ∈ pairCells x, v.oneCell' = true := (pair_enc.2 x).2
/-- An element's two cells, in a world of the sort's. -/
theorem swk_cells {w0 W : World} {blk off : Nat} {d0 dk : Array (Int × Int)} (h : SWK pairCells 2 w0 blk off dk W) (R : RowK pairCells 2 w0 blk off d0) (hs : dk.size = d0.size) {i : Nat} (hi : i < dk.size) :
    W.cell? ⟨blk, off + i * 2, none⟩ = some (.int .i64 dk[i]!.1) ∧ W.cell? ⟨blk, off + i * 2 + 1, none⟩ = some (.int .i64 dk[i]!.2) ∧ W.frozen? ⟨blk, off + i * 2, none⟩ = false ∧ W.frozen? ⟨blk, off + i * 2 + 1, none⟩ = false := by
  have hh := h.holds R.hblk R.hH hs
  have c0 := HoldsK.cell hh hi (c := 0) (by omega)
  have c1 := HoldsK.cell hh hi (c := 1) (by omega)
  exact ⟨c0.1, c1.1, c0.2, c1.2⟩
theorem setCells_pair (W : World) (blk o : Nat) (x : Int × Int) : W.setCells blk o (pairCells x) = (W.setCell ⟨blk, o, none⟩ (.int .i64 x.1)).setCell ⟨blk, o + 1, none⟩ (.int .i64 x.2) := rfl
set_option maxHeartbeats 4000000 in
set_option maxRecDepth 1000000 in
theorem swapRange_run (blk off cap a b n : Nat) (d0 d : Array (Int × Int)) (w0 w : World) (fv : Value)
    (R : RowK pairCells 2 w0 blk off d0) (hs : d0.size = d.size) (S : SWK pairCells 2 w0 blk off d w) (ha : a + n ≤ b) (hb : b + n ≤ d.size) (hsz : d.size < 4611686018427387904) :
    Calls Try.prog 39 #[.slice (some ⟨blk, off, none⟩) d.size cap, .int .i64 a, .int .i64 b, .int .i64 n, fv] w fun e w' => e = .returned (.tuple #[]) ∧ SWK pairCells 2 w0 blk off (Srt.swapR d a b n) w' := by
  have mixed := mixedA
  have S0 : Aside (SWK pairCells 2 w0 blk off d w) := S
  clear S
  go_enter Try.func39, Try.ntmps39
  go_wp2
  go_loopg [10] (n + 1) (fun h s10 wr => ∃ (i : Nat) (dk : Array (Int × Int)), s10 = .int .i64 i ∧ i ≤ n ∧ Hid (i + h = n + 1) ∧ Hid (dk = Srt.swapR d a b i) ∧ Aside (SWK pairCells 2 w0 blk off dk wr))
  case atStart => exact ⟨0, d, rfl, by omega, by show _ = _; omega, rfl, S0⟩
  case round =>
    clear S0
    obtain ⟨i, dk, rfl, hin, hih, HD, S1⟩ := hrel
    have hds : dk.size = d.size := by rw [HD.out]; exact Srt.swapR_size _ _ _ _
    by_cases hlt : i < n
    · have hltz : (i : Int) < (n : Int) := by omega
      go_wp2_with fail
      have S2 : Aside (SWK pairCells 2 w0 blk off (swp dk (a + i) (b + i)) ((((wr.drew.setCell ⟨blk, off + (a + i) * 2, none⟩ (.int .i64 dk[b + i]!.1)).setCell ⟨blk, off + (a + i) * 2 + 1, none⟩ (.int .i64 dk[b + i]!.2)).setCell ⟨blk, off + (b + i) * 2, none⟩ (.int .i64 dk[a + i]!.1)).setCell ⟨blk, off + (b + i) * 2 + 1, none⟩ (.int .i64 dk[a + i]!.2))) := S1.out.swapped R (a + i) (b + i) (by omega) (by omega)
      obtain ⟨l1, l2, f1, f2⟩ := swk_cells S1.out R (by omega) (show a + i < dk.size by omega)
      obtain ⟨l3, l4, f3, f4⟩ := swk_cells S1.out R (by omega) (show b + i < dk.size by omega)
      have q1 : ¬ off + (b + i) * 2 = off + (a + i) * 2 := by omega
      have q2 : ¬ off + (b + i) * 2 = off + (a + i) * 2 + 1 := by omega
      have q3 : ¬ off + (b + i) * 2 + 1 = off + (a + i) * 2 := by omega
      have q4 : ¬ off + (b + i) * 2 + 1 = off + (a + i) * 2 + 1 := by omega
      have q5 : ¬ b = a := by omega
      have e1 : ((a : Int) + i).toNat = a + i := by omega
      have e2 : ((b : Int) + i).toNat = b + i := by omega
      have p1 : (0 : Int) ≤ (a : Int) + i := by omega
      have p2 : (0 : Int) ≤ (b : Int) + i := by omega
      have b1 : (a : Int) + i < (d.size : Int) := by omega
      have b2 : (b : Int) + i < (d.size : Int) := by omega
      generalize dk[a + i]! = x at S2 l1 l2
      generalize dk[b + i]! = y at S2 l3 l4
      obtain ⟨x1, x2⟩ := x
      obtain ⟨y1, y2⟩ := y
      simp only [] at S2 l1 l2 l3 l4
      clear S1
      go_big_region_o
      go_wp2
      go_roundg (n - i)
      case measure => have := hih.out; omega
      case rel => exact ⟨i + 1, swp dk (a + i) (b + i), by go_num, by omega, by show _ = _; have := hih.out; omega, by show _ = _; rw [HD.out]; rfl, S2⟩
    · obtain rfl : i = n := by omega
      go_wp2
      go_end0
      exact ⟨rfl, HD.out ▸ S1.out⟩
/-- .. with its numbers as they come. -/
theorem swapRange_at {az bz nz : Int} (blk off cap a b n : Nat) (ea : az = a) (eb : bz = b) (en : nz = n) (d0 d : Array (Int × Int)) (w0 w : World) (fv : Value) (sz : Nat) (es : sz = d.size)
    (R : RowK pairCells 2 w0 blk off d0) (hs : d0.size = d.size) (S : SWK pairCells 2 w0 blk off d w) (ha : a + n ≤ b) (hb : b + n ≤ d.size) (hsz : d.size < 4611686018427387904) :
    Calls Try.prog 39 #[.slice (some ⟨blk, off, none⟩) sz cap, .int .i64 az, .int .i64 bz, .int .i64 nz, fv] w fun e w' => e = .returned (.tuple #[]) ∧ SWK pairCells 2 w0 blk off (Srt.swapR d a b n) w' := by
  subst ea eb en es
  exact swapRange_run blk off cap a b n d0 d w0 w fv R hs S ha hb hsz
set_option maxHeartbeats 4000000 in
set_option maxRecDepth 1000000 in
theorem rotate_run {az mz bz : Int} (blk off cap a m b : Nat) (ea : az = a) (em : mz = m) (eb : bz = b) (d0 d : Array (Int × Int)) (w0 w : World) (fv : Value) (sz : Nat) (es : sz = d.size)
    (R : RowK pairCells 2 w0 blk off d0) (hs : d0.size = d.size) (S : SWK pairCells 2 w0 blk off d w) (ham : a < m) (hmb : m < b) (hb : b ≤ d.size) (hsz : d.size < 4611686018427387904) :
    Calls Try.prog 38 #[.slice (some ⟨blk, off, none⟩) sz cap, .int .i64 az, .int .i64 mz, .int .i64 bz, fv] w fun e w' => e = .returned (.tuple #[]) ∧ ∃ d', Srt.IsRot d d' a (m - a) (b - m) ∧ SWK pairCells 2 w0 blk off d' w' := by
  subst ea em eb es
  have S0 : Aside (SWK pairCells 2 w0 blk off d w) := S
  clear S
  go_enter Try.func38, Try.ntmps38
  go_wp2_with fail
  go_loopg [10, 11] (b - a + 1) (fun h s10 s11 wr => ∃ (i j : Nat) (iz jz : Int) (dk : Array (Int × Int)), s10 = .int .i64 iz ∧ s11 = .int .i64 jz ∧ iz = i ∧ jz = j ∧ 0 < i ∧ 0 < j ∧ i ≤ m ∧ m + j ≤ d.size ∧ dk.size = d.size ∧ Hid (i + j < h) ∧ Aside (∀ d', Srt.IsRot dk d' (m - i) i j → Srt.IsRot d d' a (m - a) (b - m)) ∧ Aside (SWK pairCells 2 w0 blk off dk wr))
  case atStart => exact ⟨m - a, b - m, _, _, d, rfl, rfl, by omega, by omega, by omega, by omega, by omega, by omega, rfl, by show _ < _; omega, by show ∀ _, _; rw [show m - (m - a) = a by omega]; exact fun _ h => h, S0⟩
  case round =>
    clear S0
    obtain ⟨i, j, iz, jz, dk, rfl, rfl, rfl, rfl, hi0, hj0, him, hmj, hds, hh, HR, S1⟩ := hrel
    rcases Nat.lt_trichotomy i j with hij | hij | hij
    · have c1 : ((i : Int) != j) = true := by simp; omega
      have c2 : decide ((j : Int) < i) = false := by simp; omega
      go_wp2_with fail
      refine (swapRange_at blk off cap (m - i) (m + j - i) i (by omega) (by omega) rfl d0 dk w0 wr fv _ (by omega) R (by omega) S1.out (by omega) (by omega) (by omega)).mono ?_
      rintro e w1 ⟨rfl, hw1⟩
      go_wp2_with fail
      go_roundg (i + (j - i) + 1)
      case measure => have := hh.out; omega
      case rel =>
        refine ⟨i, j - i, _, _, _, rfl, rfl, rfl, by omega, hi0, by omega, him, by omega, (Srt.swapR_size _ _ _ _).trans hds, by show _ < _; omega, ?_, hw1⟩
        exact fun d' h' => HR.out d' (Srt.rot_right hij (by omega) (by rw [show m - i + j = m + j - i by omega]) h')
    · subst hij
      have c1 : ((i : Int) != i) = false := by simp
      go_wp2_with fail
      refine (swapRange_at blk off cap (m - i) m i (by omega) rfl rfl d0 dk w0 wr fv _ (by omega) R (by omega) S1.out (by omega) (by omega) (by omega)).mono ?_
      rintro e w1 ⟨rfl, hw1⟩
      go_wp2_with fail
      go_end0
      refine ⟨rfl, _, HR.out _ ?_, hw1⟩
      have := Srt.swapR_rot dk (m - i) i (by omega)
      rwa [show m - i + i = m by omega] at this
    · have c1 : ((i : Int) != j) = true := by simp; omega
      have c2 : decide ((j : Int) < i) = true := by simp; omega
      go_wp2_with fail
      refine (swapRange_at blk off cap (m - i) m j (by omega) rfl rfl d0 dk w0 wr fv _ (by omega) R (by omega) S1.out (by omega) (by omega) (by omega)).mono ?_
      rintro e w1 ⟨rfl, hw1⟩
      go_wp2_with fail
      go_roundg (i - j + j + 1)
      case measure => have := hh.out; omega
      case rel =>
        refine ⟨i - j, j, _, _, _, rfl, rfl, by omega, rfl, by omega, hj0, by omega, by omega, (Srt.swapR_size _ _ _ _).trans hds, by show _ < _; omega, ?_, hw1⟩
        intro d' h'
        refine HR.out d' (Srt.rot_left hij (by omega) (d1 := Srt.swapR dk (m - i) m j) (by rw [show m - i + i = m by omega]) ?_)
        rwa [show m - (i - j) = m - i + j by omega] at h'
end Go.Proofs.Ytnbnohphdehfoaa
