/-
  The contracts of sort.Search with the closure that lines.Pos hands it, and of lines.Pos.
-/
import Derived.Test.YtihdljadggoimaaLnCheck
namespace Go.Proofs.Ytihdljadggoimaa
open Go.RowKit

/-- The line, the column and the error's number that a table has at an offset. -/
def posOut (v : Bool) (L : List Int) (z off : Int) : Int × Int × Nat :=
  if v = false then (0, 0, 8) else if off < 0 ∨ z < off then (0, 0, 4) else ((Ln.lineOf L off : Nat), off - L.getD (Ln.lineOf L off - 1) 0 + 1, 0)
theorem posOut_code {v : Bool} {L : List Int} {z off l c : Int} {k : Nat} (h : posOut v L z off = (l, c, k)) : k ≤ 25 := by
  unfold posOut at h
  split at h
  · cases h; omega
  · split at h
    · cases h; omega
    · cases h; omega
set_option maxHeartbeats 1000000 in
theorem closure_run (T F : Nat) (b o n cap : Nat) (off x : Int) (i : Nat) (w : World) (hi : i < n)
    (ht : w.cell? ⟨T, 0, none⟩ = some (.slice (some ⟨b, o, none⟩) n cap)) (hf : w.cell? ⟨F, 0, none⟩ = some (.int .i64 off)) (hx : w.cell? ⟨b, o + i, none⟩ = some (.int .i64 x)) :
    Calls Try.prog 20 #[.int .i64 i, .pointer (some ⟨T, 0, none⟩), .pointer (some ⟨F, 0, none⟩)] w fun e w' => e = .returned (.bool (decide (off < x))) ∧ ∃ q, w' = w.drewN q := by
  have hi' : (i : Int) < n := by omega
  go_enter Try.func20, Try.ntmps20
  go_wp2
  go_quiet (fail)
  go_wp2
  go_ret
  exact ⟨rfl, _, rfl⟩
theorem closure_is (T F : Nat) (b o n cap : Nat) (off x : Int) (i : Nat) (w : World) (v : Bool) (hv : decide (off < x) = v) (hi : i < n)
    (ht : w.cell? ⟨T, 0, none⟩ = some (.slice (some ⟨b, o, none⟩) n cap)) (hf : w.cell? ⟨F, 0, none⟩ = some (.int .i64 off)) (hx : w.cell? ⟨b, o + i, none⟩ = some (.int .i64 x)) :
    Calls Try.prog 20 #[.int .i64 i, .pointer (some ⟨T, 0, none⟩), .pointer (some ⟨F, 0, none⟩)] w fun e w' => e = .returned (.bool v) ∧ ∃ q, w' = w.drewN q := by
  subst hv
  exact closure_run T F b o n cap off x i w hi ht hf hx
set_option maxHeartbeats 2000000 in
theorem search_run (T F : Nat) (b o n cap : Nat) (off : Int) (L : List Int) (w : World) (hl : Hid (L.length = n)) (hcap : n ≤ 4611686018427387903) (hs : Hid (Ln.Sorted L))
    (hT : T < w.heap.size) (hF : F < w.heap.size) (hb : b < w.heap.size)
    (ht : w.cell? ⟨T, 0, none⟩ = some (.slice (some ⟨b, o, none⟩) n cap)) (hf : w.cell? ⟨F, 0, none⟩ = some (.int .i64 off)) (hx : Hid (∀ i x, L[i]? = some x → w.cell? ⟨b, o + i, none⟩ = some (.int .i64 x))) :
    Calls Try.prog 19 #[.int .i64 n, .func (.func 20) #[] #[.pointer (some ⟨T, 0, none⟩), .pointer (some ⟨F, 0, none⟩)]] w fun e w' => e = .returned (.int .i64 (Ln.lineOf L off : Nat)) ∧ Below w.heap.size w w' := by
  have HT := Lib.hid ht
  have HF := Lib.hid hf
  clear ht hf
  go_enter Try.func19, Try.ntmps19
  go_wp2
  go_loopg [5, 6] n (fun g s5 s6 wr => ∃ lo hi : Nat, s5 = .int .i64 lo ∧ s6 = .int .i64 hi ∧ lo ≤ hi ∧ hi ≤ n ∧ Hid (hi - lo ≤ g) ∧ Hid (∀ i x, i + 1 = lo → L[i]? = some x → x ≤ off) ∧ Hid (∀ x, L[hi]? = some x → off < x) ∧ Below w.heap.size w wr)
  case atStart => exact ⟨0, n, rfl, rfl, by omega, by omega, (by show _ ≤ _; omega), (by intro i x h; omega), (by intro x h; have := (List.getElem?_eq_some_iff.1 h).1; have := hl.out; omega), Below.refl _ _⟩
  case round =>
    obtain ⟨lo, hi, rfl, rfl, hlh, hin, hg, I1, I2, hbw⟩ := hrel
    by_cases hlt : lo < hi
    · obtain ⟨m, hm⟩ : ∃ m, m = (lo + hi) / 2 := ⟨_, rfl⟩
      have hm1 : lo ≤ m := by omega
      have hm2 : m < hi := by omega
      have hx0 : L[m]? = some (L[m]'(by rw [hl.out]; omega)) := List.getElem?_eq_getElem _
      generalize L[m]'(by rw [hl.out]; omega) = x at hx0
      have ct : wr.cell? ⟨T, 0, none⟩ = some (.slice (some ⟨b, o, none⟩) n cap) := (hbw.cell (p := ⟨T, 0, none⟩) hT).trans HT.out
      have cf : wr.cell? ⟨F, 0, none⟩ = some (.int .i64 off) := (hbw.cell (p := ⟨F, 0, none⟩) hF).trans HF.out
      have cx : wr.cell? ⟨b, o + m, none⟩ = some (.int .i64 x) := (hbw.cell (p := ⟨b, o + m, none⟩) hb).trans (hx.out m x hx0)
      have Hx0 := Lib.hid hx0
      have em : ((lo : Int) + (hi : Int)) / 2 = (m : Int) := by omega
      have Hm := Lib.hid hm
      clear hx0 hm
      by_cases hle : off < x
      · have hc := closure_is T F b o n cap off x m wr true (by simpa using hle) (by omega) ct cf cx
        clear ct cf cx
        go_wp2_with (go_at_call 20; refine hc.mono ?_; rintro e w1 ⟨rfl, q, rfl⟩)
        go_roundg (m - lo)
        case measure => have := hg.out; omega
        case rel => exact ⟨lo, m, by go_num, by go_num, hm1, by omega, Nat.le_refl _, I1.out, (by intro y hy; rw [Hx0.out] at hy; cases hy; exact hle), below_drewN hbw _⟩
      · have hc := closure_is T F b o n cap off x m wr false (by simpa using hle) (by omega) ct cf cx
        clear ct cf cx
        go_wp2_with (go_at_call 20; refine hc.mono ?_; rintro e w1 ⟨rfl, q, rfl⟩)
        go_roundg (hi - (m + 1))
        case measure => have := hg.out; omega
        case rel => exact ⟨m + 1, hi, by go_num, by go_num, by omega, hin, Nat.le_refl _, (by intro i y hi' hy; obtain rfl : i = m := (by omega); rw [Hx0.out] at hy; cases hy; omega), I2.out, below_drewN hbw _⟩
    · have e : Hid (Ln.lineOf L off = lo) := by
        obtain rfl : lo = hi := by omega
        exact Ln.lineOf_border hs.out (by rw [hl.out]; exact hin) I1.out I2.out
      go_wp2
      go_ret
      exact ⟨ret_int (by rw [e.out]), hbw⟩

theorem box2_cells (w : World) (v0 v1 v2 : Value) (t1 t2 : TypeId) :
    ((w.alloc (.cells #[v0, v1] t1)).alloc (.cells #[v2] t2)).cell? ⟨w.heap.size, 0, none⟩ = some v0 ∧ ((w.alloc (.cells #[v0, v1] t1)).alloc (.cells #[v2] t2)).cell? ⟨w.heap.size, 1, none⟩ = some v1 ∧
    ((w.alloc (.cells #[v0, v1] t1)).alloc (.cells #[v2] t2)).cell? ⟨w.heap.size + 1, 0, none⟩ = some v2 := by
  refine ⟨?_, ?_, ?_⟩
  · rw [World.cell?_alloc_lt _ _ ⟨w.heap.size, 0, none⟩ (by simp), World.cell?_alloc_at _ _ _ _ rfl]; rfl
  · rw [World.cell?_alloc_lt _ _ ⟨w.heap.size, 1, none⟩ (by simp), World.cell?_alloc_at _ _ _ _ rfl]; rfl
  · rw [World.cell?_alloc_at _ _ _ _ (by simp)]; rfl
/-- A place of a valid table: its line begins at x. -/
theorem line_at {L : List Int} {z off : Int} (hv : Ln.Valid L z) (h0 : 0 ≤ off) : ∃ j x, Ln.lineOf L off = j + 1 ∧ j < L.length ∧ L[j]? = some x ∧ 0 ≤ x ∧ x ≤ off ∧ L.getD j 0 = x := by
  have h1 := Ln.lineOf_pos hv h0
  have h2 := Ln.lineOf_le L off
  obtain ⟨j, hj⟩ : ∃ j, Ln.lineOf L off = j + 1 := ⟨Ln.lineOf L off - 1, by omega⟩
  have hjl : j < L.length := by omega
  refine ⟨j, L[j], hj, hjl, List.getElem?_eq_getElem hjl, ?_, ?_, by simp [List.getD, List.getElem?_eq_getElem hjl]⟩
  · rcases Nat.eq_zero_or_pos j with rfl | hp
    · have := hv.1
      rw [List.getElem?_eq_getElem hjl] at this
      rw [Option.some.inj this]
      exact Int.le_refl _
    · have := hv.2.2 0 j 0 L[j] hp hv.1 (List.getElem?_eq_getElem hjl)
      omega
  · exact (Ln.lineOf_iff hv.2.2 (List.getElem?_eq_getElem hjl)).2 (by omega)
set_option maxHeartbeats 2000000 in
theorem pos_run (A : Option Addr) (n cap : Nat) (L : List Int) (z off : Int) (v : Bool) (w : World) (hv : Hid (v = true ↔ Ln.Valid L z)) (hb : Nums w w.heap.size A L) (hl : Hid (L.length = n)) (hcap : n ≤ cap) (hmax : cap ≤ 9223372036854775807) (hn : n ≤ 1000000) (hz : z ≤ 1000000)
    (l c : Int) (k : Nat) (hp : Hid (posOut v L z off = (l, c, k))) :
    Calls Try.prog 8 #[.agg #[.slice A n cap, .int .i64 z], .int .i64 off] w fun e w' => e = .returned (.tuple #[.int .i64 l, .int .i64 c, errOf k]) ∧ Below w.heap.size w w' := by
  have b1 : Below w.heap.size w (w.alloc (.cells #[.slice A n cap, .int .i64 z] 24)) := (Below.refl _ _).alloc (Nat.le_refl _) _
  have b2 : Below w.heap.size w ((w.alloc (.cells #[.slice A n cap, .int .i64 z] 24)).alloc (.cells #[.int .i64 off] 3)) := b1.alloc (by simp) _
  obtain ⟨d0, d1, d2⟩ := box2_cells w (.slice A n cap) (.int .i64 z) (.int .i64 off) 24 3
  have D0 := Lib.hid d0
  have D1 := Lib.hid d1
  have D2 := Lib.hid d2
  have Y2 : Hid (Nums ((w.alloc (.cells #[.slice A n cap, .int .i64 z] 24)).alloc (.cells #[.int .i64 off] 3)) ((w.alloc (.cells #[.slice A n cap, .int .i64 z] 24)).alloc (.cells #[.int .i64 off] 3)).heap.size A L) := NumsK.on hb (Nat.le_refl _) b2
  have hV := Lib.hid (valid_run A n cap L z v _ hv Y2.out hl hcap (by omega))
  have B2 := Lib.hid b2
  have Hp := hp.out
  unfold posOut at Hp
  clear b1 b2 hp d0 d1 d2 hb
  cases v with
  | false =>
    rw [if_pos rfl] at Hp
    cases Hp
    go_enter Try.func8, Try.ntmps8
    go_wp2_with (go_at_call 18; refine hV.out.mono ?_; rintro e w1 ⟨rfl, hw1⟩)
    go_ret3
    exact ⟨rfl, B2.out.trans (hw1.mono (by simp; omega))⟩
  | true =>
    rw [if_neg (by simp)] at Hp
    by_cases hr : off < 0 ∨ z < off
    · rw [if_pos hr] at Hp
      cases Hp
      by_cases h0 : off < 0
      all_goals
        go_enter Try.func8, Try.ntmps8
        go_wp2_with fail
        refine hV.out.mono ?_
        rintro e w1 ⟨rfl, hw1⟩
        have ct := (hw1.cell (p := ⟨w.heap.size, 0, none⟩) (by simp; omega)).trans D0.out
        have cz := (hw1.cell (p := ⟨w.heap.size, 1, none⟩) (by simp; omega)).trans D1.out
        have cf := (hw1.cell (p := ⟨w.heap.size + 1, 0, none⟩) (by simp)).trans D2.out
        first
          | (have h1 : z < off := by omega
             have h0' : decide (off < 0) = false := by simpa using h0
             go_wp2)
          | go_wp2
        go_ret3
        exact ⟨rfl, B2.out.trans (hw1.mono (by simp; omega))⟩
    · rw [if_neg hr] at Hp
      have h0 : 0 ≤ off := by omega
      have h1 : off ≤ z := by omega
      have h0' : decide (off < 0) = false := by simp; omega
      have h1' : decide (z < off) = false := by simp; omega
      have HV : Hid (Ln.Valid L z) := hv.out.1 rfl
      obtain ⟨j, x, hj, hjl, hx, hx0, hxo, hgd⟩ := line_at HV.out h0
      rw [hj, Nat.add_sub_cancel, hgd] at Hp
      obtain ⟨b, o, rfl, hbl, hcell⟩ := Y2.out (by omega)
      have HC := Lib.hid hcell
      have HJ := Lib.hid hj
      have HX := Lib.hid hx
      have hjn : j < n := by have := hl.out; omega
      cases Hp
      clear hr hj hx hcell hgd hjl
      go_enter Try.func8, Try.ntmps8
      have hmf : ∀ (fn : Fn) (first cap : Array Value) (w : World), (Instr.makeFunc fn first cap).run Try.prog w = .ok (.func fn first cap) w := fun _ _ _ _ => rfl
      go_wp2_with fail
      refine hV.out.mono ?_
      rintro e w1 ⟨rfl, hw1⟩
      have ct := (hw1.cell (p := ⟨w.heap.size, 0, none⟩) (by simp; omega)).trans D0.out
      have cz := (hw1.cell (p := ⟨w.heap.size, 1, none⟩) (by simp; omega)).trans D1.out
      have cf := (hw1.cell (p := ⟨w.heap.size + 1, 0, none⟩) (by simp)).trans D2.out
      have b3 := Lib.hid (B2.out.trans (hw1.mono (by simp; omega)))
      have hs1 := hw1.size
      have HC1 : Hid (∀ i y, L[i]? = some y → w1.cell? ⟨b, o + i, none⟩ = some (.int .i64 y)) := fun i y hy => (hw1.cell (p := ⟨b, o + i, none⟩) hbl).trans (HC.out i y hy)
      simp at hs1 hbl
      have CT := Lib.hid ct
      have CF := Lib.hid cf
      clear hw1
      go_wp2_with fail
      refine (search_run w.heap.size (w.heap.size + 1) b o n cap off L w1 hl (by omega) HV.out.2.2 (by omega) (by omega) (by omega) CT.out CF.out HC1.out).mono ?_
      rw [HJ.out]
      rintro e w2 ⟨rfl, hw2⟩
      have ct := (hw2.cell (p := ⟨w.heap.size, 0, none⟩) (by show w.heap.size < w1.heap.size; omega)).trans CT.out
      have cf := (hw2.cell (p := ⟨w.heap.size + 1, 0, none⟩) (by show w.heap.size + 1 < w1.heap.size; omega)).trans CF.out
      have cx := (hw2.cell (p := ⟨b, o + j, none⟩) (by show b < w1.heap.size; omega)).trans (HC1.out j x HX.out)
      have b4 := Lib.hid (b3.out.trans (hw2.mono (by omega)))
      clear hw2
      go_wp2
      go_quiet (fail)
      go_wp2
      go_ret3
      exact ⟨rfl, below_drewN b4.out _⟩
end Go.Proofs.Ytihdljadggoimaa
