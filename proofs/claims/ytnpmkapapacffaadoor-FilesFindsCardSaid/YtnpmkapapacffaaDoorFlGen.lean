/-
  strings.genSplit (after the library's walk of its dump of names).
-/
import Derived.Test.YtnpmkapapacffaaDoorFlSplit
namespace Go.Proofs.YtnpmkapapacffaaDoor
open Go.Shelf Go.RowKit Go.Lib Go.Sort Fm

theorem infoStr : (Tryd.prog.info? 9).map (fun i => (i.zero, i.size, i.bytes)) = some (some (.string ByteArray.empty), 1, 16) := by kernel_rfl
set_option maxHeartbeats 4000000 in
set_option maxRecDepth 1000000 in
theorem genSplit_run (s sep : ByteArray) (N : Nat) (w : World) (hs : s.size < 100000) (h1 : 1 ≤ sep.size)
    (hI : ∀ (x : ByteArray) (W : World), Calls Tryd.prog 47 #[.string x, .string sep] W fun e w' => e = .returned (.int .i64 (Lib.indexB x sep)) ∧ W = w')
    (hC : ∀ W : World, Calls Tryd.prog 69 #[.string s, .string sep] W fun e w' => e = .returned (.int .i64 (Lib.countB s sep : Nat)) ∧ W = w')
    (hN : Lib.countB s sep + 1 = N) (hNs : N ≤ s.size + 1) :
    Calls Tryd.prog 48 #[.string s, .string sep, .int .i64 0, .int .i64 (-1)] w fun e w' =>
      e = .returned (.slice (some ⟨w.heap.size, 0, none⟩) (Lib.splitB sep 0 (N - 1) s).length N) ∧ w' = w.alloc (.cells (Lib.cellsOf (Lib.splitB sep 0 (N - 1) s) N) 9) := by
  obtain ⟨cn, hcn⟩ : ∃ cn : Nat, Lib.countB s sep = cn := ⟨_, rfl⟩
  rw [hcn] at hC hN
  clear hcn
  have hse : sep.toList.isEmpty = false := by
    rw [Lib.toList_data]
    cases h : sep.data.toList with
    | nil => have := Lib.size_eq sep; rw [h, List.length_nil] at this; omega
    | cons _ _ => rfl
  have hmin : min ((cn : Int) + 1) ((s.size : Int) + 1) = (N : Int) := by omega
  have hN1 : (1 : Int) ≤ (N : Int) := by omega
  have HN0 : Hid (1 ≤ N) := show 1 ≤ N by omega
  have hmk := run_make_row' (P := Tryd.prog) 55 9 (.string ByteArray.empty) 16 Tryd.underlying55 infoStr rfl .i64 .i64 N (by omega) (by omega)
  have hs63 : (s.size : Int) < 100000 := by omega
  have hcn63 : (cn : Int) < 100001 := by omega
  clear hN
  go_enter Tryd.func48, Tryd.ntmps48
  go_wp2_with (first | (go_at_call 69; refine (hC _).mono ?_; rintro e w' ⟨rfl, rfl⟩))
  clear hmk hC
  go_loopg [0, 10] (N - 1) (fun g s0 s10 wr => ∃ (done : List ByteArray) (rest : ByteArray), s0 = .string rest ∧ s10 = .int .i64 done.length ∧ done.length ≤ N - 1 ∧ g = N - 1 - done.length ∧ rest.size ≤ s.size ∧
    wr = w.alloc (.cells (Lib.cellsOf done N) 9) ∧ done ++ Lib.splitB sep 0 (N - 1 - done.length) rest = Lib.splitB sep 0 (N - 1) s)
  case atStart => exact ⟨[], s, rfl, rfl, Nat.zero_le _, rfl, Nat.le_refl _, by rw [Lib.cellsOf_nil], rfl⟩
  case round =>
    obtain ⟨done, rest, rfl, rfl, hd, rfl, hrs, rfl, hsp⟩ := hrel
    have hnext : (Lib.cellsOf done N)[done.length]? = some (.string ByteArray.empty) := Lib.cellsOf_next (by have := HN0.out; omega)
    have HS : Aside (done ++ Lib.splitB sep 0 (N - 1 - done.length) rest = Lib.splitB sep 0 (N - 1) s) := hsp
    clear hsp
    have fin : Lib.splitB sep 0 (N - 1 - done.length) rest = [rest] → (Lib.splitB sep 0 (N - 1) s).length = done.length + 1 ∧ (Lib.cellsOf done N).setIfInBounds done.length (.string rest) = Lib.cellsOf (Lib.splitB sep 0 (N - 1) s) N := fun h => by
      have e := HS.out
      rw [h] at e
      rw [← e]
      exact ⟨by simp, Lib.cellsOf_set (by have := HN0.out; omega) rest⟩
    by_cases hlt : done.length < N - 1
    · have hltz : ((done.length : Nat) : Int) < (N : Int) - 1 := by omega
      rcases Lib.indexB_cases rest sep with hix | ⟨i, hix, hroom⟩
      · go_wp2_with (first | (go_at_call 47; refine (hI rest _).mono ?_; rintro e w' ⟨rfl, rfl⟩; rw [hix]))
        go_ret
        obtain ⟨f1, f2⟩ := fin (Lib.splitB_miss sep 0 _ rest hix)
        rw [f1, ← f2]
        exact ⟨by first | rfl | (congr 2 <;> omega), rfl⟩
      · have c0 : ¬ ((i : Int) < 0) := by omega
        have c1 : (0 : Int) ≤ ↑i := by omega
        have c2 : (↑i : Int) ≤ ↑rest.size := by omega
        have c3 : (0 : Int) ≤ ↑i + ↑sep.size := by omega
        have c4 : (↑i + ↑sep.size : Int) ≤ ↑rest.size := by omega
        go_wp2_with (first | (go_at_call 47; refine (hI rest _).mono ?_; rintro e w' ⟨rfl, rfl⟩; rw [hix]))
        go_roundg (N - 1 - (done.length + 1))
        case measure => go_light; omega
        case rel =>
          go_light
          refine ⟨done ++ [rest.extract 0 i], rest.extract (i + sep.size) rest.size, rfl, by simp, by simp; omega, by simp, by rw [ByteArray.size_extract]; omega, by rw [← Lib.cellsOf_set (by have := HN0.out; omega)], ?_⟩
          rw [← HS.out, show N - 1 - done.length = (N - 1 - (done.length + 1)) + 1 by omega, Lib.splitB_hit sep 0 _ rest i hix]
          simp
    · have hltz : ¬ (((done.length : Nat) : Int) < (N : Int) - 1) := by omega
      go_wp2
      go_ret
      obtain ⟨f1, f2⟩ := fin (by rw [show N - 1 - done.length = 0 by omega]; rfl)
      rw [f1, ← f2]
      exact ⟨by first | rfl | (congr 2 <;> omega), rfl⟩
end Go.Proofs.YtnpmkapapacffaaDoor
