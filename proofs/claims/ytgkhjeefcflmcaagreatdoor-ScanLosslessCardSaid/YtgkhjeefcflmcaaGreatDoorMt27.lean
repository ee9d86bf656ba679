/-
  Stage 10: the program's escape.
-/
import Derived.Test.YtgkhjeefcflmcaaGreatDoorMt26
namespace Go.Proofs.YtgkhjeefcflmcaaGreatDoor
open Go.RowKit Go.Sort
set_option linter.unusedSimpArgs false
def UnitR (v : Int) (bt : Bool) (sz : Nat) (uv : Int) (ul : List UInt8) (un : Nat) (ub : Bool) : Prop := (sz = 0 ∧ uv = 0 ∧ ul = [] ∧ un = 0 ∧ ub = false) ∨ (sz ≠ 0 ∧ uv = v ∧ ul = encB v bt ∧ un = sz ∧ ub = true)
theorem read_b (l : List UInt8) (h d B : Nat) (w : World) (uv : Int) (ul : List UInt8) (un : Nat) (ub : Bool) (hl : l.length ≤ 100000) (hh : h ≤ 2) (hd : d ≤ 8) (hd0 : 0 < d) (hv : ErrVars w)
  (HP : ∀ m V, m ≠ [] → m.length ≤ 8 → ErrVars V → Calls Tryz.prog 229 #[.string (bs m), .int .i64 (B : Int), .int .i64 8] V fun e w' => ∃ x er, e = .returned (.tuple #[.int .u64 x, er]) ∧ PuPub B 255 m x er ∧ Below V.heap.size V w')
  (hR : (0 ≤ numZ B d (l.drop h) ∧ numZ B d (l.drop h) < 256 ∧ uv = numZ B d (l.drop h) ∧ ul = encB (numZ B d (l.drop h)) true ∧ un = h + d ∧ ub = true) ∨ (¬ (0 ≤ numZ B d (l.drop h) ∧ numZ B d (l.drop h) < 256) ∧ uv = 0 ∧ ul = [] ∧ un = 0 ∧ ub = false)) :
  Calls Tryz.prog 201 #[numeV h d B false, .string (bs l)] w fun e w' => e = .returned (.tuple #[unitV uv ul un, .bool ub]) ∧ Below w.heap.size w w' := by
 rcases Nat.lt_or_ge l.length (h + d) with hlt | hge
 ·have hz : numZ B d (l.drop h) = -1 := numZ_short (by rw [List.length_drop]; omega)
  rw [hz] at hR
  rcases hR with ⟨g, _⟩ | ⟨_, rfl, rfl, rfl, rfl⟩
  ·exact absurd g (by decide)
  ·exact read_short l h d B false w hl hh hd hlt
 ·obtain ⟨k1, k2⟩ := numZ_pu (B := B) (M := 255) (k := d) (l := l.drop h) (by rw [List.length_drop]; omega)
  have hm : (l.drop h).take d ≠ [] := fun e => by
   have := congrArg List.length e
   rw [List.length_take, List.length_drop] at this
   simp at this
   omega
  have HP2 := fun V hV => HP ((l.drop h).take d) V hm (by rw [List.length_take]; omega) hV
  by_cases hok : PuOk B 255 ((l.drop h).take d)
  ·have h1 := k1.1 hok
   have h2 := k2 hok
   rcases hR with ⟨_, _, rfl, rfl, rfl, rfl⟩ | ⟨g, _⟩
   ·rw [h2]
    exact read_byte l h d B w hl hh hd hv hge HP2 hok
   ·exact absurd ⟨h1.1, by have := h1.2; omega⟩ g
  ·rcases hR with ⟨g1, g2, _⟩ | ⟨_, rfl, rfl, rfl, rfl⟩
   ·exact absurd (k1.2 ⟨g1, by omega⟩) hok
   ·exact read_none l h d B w hl hh hd hv hge HP2 hok
theorem read_r (l : List UInt8) (h d B : Nat) (w : World) (uv : Int) (ul : List UInt8) (un : Nat) (ub : Bool) (hl : l.length ≤ 100000) (hh : h ≤ 2) (hd : d ≤ 8) (hd0 : 0 < d) (hv : ErrVars w) (hhd : Heads w)
  (HP : ∀ m V, m ≠ [] → m.length ≤ 8 → ErrVars V → Calls Tryz.prog 229 #[.string (bs m), .int .i64 (B : Int), .int .i64 31] V fun e w' => ∃ x er, e = .returned (.tuple #[.int .u64 x, er]) ∧ PuPub B 2147483647 m x er ∧ Below V.heap.size V w')
  (hR : UnitR (runE (numZ B d (l.drop h)) (h + d)).1 (runE (numZ B d (l.drop h)) (h + d)).2.1 (runE (numZ B d (l.drop h)) (h + d)).2.2 uv ul un ub) :
  Calls Tryz.prog 201 #[numeV h d B true, .string (bs l)] w fun e w' => e = .returned (.tuple #[unitV uv ul un, .bool ub]) ∧ Below w.heap.size w w' := by
 have hno : ∀ z n, ¬ (0 ≤ z ∧ U.isRune z = true) → UnitR (runE z n).1 (runE z n).2.1 (runE z n).2.2 uv ul un ub → uv = 0 ∧ ul = [] ∧ un = 0 ∧ ub = false := by
  intro z n g hu
  unfold runE at hu
  rw [if_neg g] at hu
  rcases hu with ⟨_, h⟩ | ⟨g, _⟩
  ·exact h
  ·exact absurd rfl g
 rcases Nat.lt_or_ge l.length (h + d) with hlt | hge
 ·have hz : numZ B d (l.drop h) = -1 := numZ_short (by rw [List.length_drop]; omega)
  obtain ⟨rfl, rfl, rfl, rfl⟩ := hno _ _ (by rw [hz]; exact fun e => absurd e.1 (by decide)) hR
  exact read_short l h d B true w hl hh hd hlt
 ·obtain ⟨k1, k2⟩ := numZ_pu (B := B) (M := 2147483647) (k := d) (l := l.drop h) (by rw [List.length_drop]; omega)
  have hm : (l.drop h).take d ≠ [] := fun e => by
   have := congrArg List.length e
   rw [List.length_take, List.length_drop] at this
   simp at this
   omega
  have HP2 := fun V hV => HP ((l.drop h).take d) V hm (by rw [List.length_take]; omega) hV
  by_cases hok : PuOk B 2147483647 ((l.drop h).take d)
  ·have h2 := k2 hok
   cases hru : U.isRune (num B ((l.drop h).take d) : Int)
   ·obtain ⟨rfl, rfl, rfl, rfl⟩ := hno _ _ (by rw [h2, hru]; exact fun e => by cases e.2) hR
    exact read_norune l h d B w hl hh hd hv hhd hge HP2 hok hru
   ·rw [h2] at hR
    unfold runE at hR
    rw [if_pos ⟨Int.natCast_nonneg _, hru⟩] at hR
    rcases hR with ⟨g, _⟩ | ⟨_, j1, j2, j3, j4⟩
    ·have g2 : h + d = 0 := g
     omega
    ·have k1 : uv = (num B ((l.drop h).take d) : Int) := j1
     have k2 : ul = encB (num B ((l.drop h).take d) : Int) false := j2
     have k3 : un = h + d := j3
     rw [k1, k2, k3, j4]
     exact read_rune l h d B w hl hh hd hv hhd hge HP2 hok hru
  ·obtain ⟨rfl, rfl, rfl, rfl⟩ := hno _ _ (fun g => hok (k1.2 ⟨g.1, by have := (U.isRune_iff.1 g.2).2.1; omega⟩)) hR
   exact read_noneR l h d B w hl hh hd hv hge HP2 hok
set_option maxRecDepth 100000 in
set_option maxHeartbeats 4000000 in
theorem escape_x (x c : UInt8) (t : List UInt8) (q : UInt8) (w : World) (uv : Int) (ul : List UInt8) (un : Nat) (ub : Bool) (hl : (x :: c :: t).length ≤ 100000) (hc : c = 120)
  (HF : Hid (∀ V, Below w.heap.size w V → Calls Tryz.prog 201 #[numeV 2 2 16 false, .string (bs (x :: c :: t))] V fun e w' => e = .returned (.tuple #[unitV uv ul un, .bool ub]) ∧ Below V.heap.size V w')) :
  Calls Tryz.prog 170 #[.string (bs (x :: c :: t)), .int .u8 (q.toNat : Int)] w fun e w' => e = .returned (.tuple #[unitV uv ul un, .bool ub]) ∧ Below w.heap.size w w' := by
 have hsz := bs_size (x :: c :: t)
 have hx : ∀ W, (Instr.index 9 (.string (bs (x :: c :: t))) (.int .i64 1)).run Tryz.prog W = .ok (.int .u8 (c.toNat : Int)) W := bs_get (l := x :: c :: t) (i := 1) (c := c) rfl
 have h2 : 2 ≤ (x :: c :: t).length := by simp
 obtain ⟨n, hn⟩ : ∃ n, (x :: c :: t).length = n := ⟨_, rfl⟩
 rw [hn] at hsz h2 hl
 have h2z : ¬ (n : Int) < 2 := by omega
 obtain ⟨S, hS⟩ : ∃ S, w.heap.size = S := ⟨_, rfl⟩
 have hU := UAt.new w 0 0 ⟨#[]⟩
 rw [hS] at hU HF ⊢
 have HU := Lib.hid hU
 have HS := Lib.hid hS
 have HB0 : Hid (Below S w (w.alloc (.cells #[.int .i32 0, .string ⟨#[]⟩, .int .i64 0] 201))) := by show Below _ _ _; rw [← hS]; exact below_alloc _ _
 have HZ0 : Hid ((w.alloc (.cells #[.int .i32 0, .string ⟨#[]⟩, .int .i64 0] 201)).heap.size = S + 1) := by show _ = _; rw [← hS]; simp
 obtain ⟨z, hz⟩ : ∃ z, bs (x :: c :: t) = z := ⟨_, rfl⟩
 rw [hz] at hsz hx ⊢
 (try rw [hz] at HF)
 clear hU hz hn h2
 unfold numeV at HF
 have hx1 : ∀ W, (Instr.index 9 (.string z) (.int .i64 1)).run Tryz.prog W = .ok (.int .u8 120) W := by rw [show c = 120 from hc] at hx; exact hx
 clear hx hc
 generalize q.toNat = qn at *
 go_enter Tryz.func170, Tryz.ntmps170
 go_wp2_with fail
 refine (HF.out _ (HB0.out.alloc (by rw [HZ0.out]; omega) _)).mono ?_
 rintro e w2 ⟨rfl, hw2⟩
 have HB1 : Hid (Below S w w2) := (HB0.out.alloc (by rw [HZ0.out]; omega) _).trans (hw2.mono (by have := HZ0.out; simp; have := HS.out; omega))
 obtain ⟨c0, f0, c1, f1, c2, f2⟩ := (HU.out.below (below_alloc _ _)).below hw2
 clear hw2 HU HB0 HZ0 HF
 unfold unitV
 go_wp2_with fail
 refine bodyPost_ret (v := .tuple #[unitV uv ul un, .bool ub]) (by rw [results_cell_tmp rfl]; unfold unitV; go_simp; try rfl) rfl ⟨rfl, ?_⟩
 exact below_unit HB1.out (Nat.le_refl _) _ _ _
set_option maxRecDepth 100000 in
set_option maxHeartbeats 4000000 in
theorem escape_u (x c : UInt8) (t : List UInt8) (q : UInt8) (w : World) (uv : Int) (ul : List UInt8) (un : Nat) (ub : Bool) (hl : (x :: c :: t).length ≤ 100000) (hc : c = 117)
  (HF : Hid (∀ V, Below w.heap.size w V → Calls Tryz.prog 201 #[numeV 2 4 16 true, .string (bs (x :: c :: t))] V fun e w' => e = .returned (.tuple #[unitV uv ul un, .bool ub]) ∧ Below V.heap.size V w')) :
  Calls Tryz.prog 170 #[.string (bs (x :: c :: t)), .int .u8 (q.toNat : Int)] w fun e w' => e = .returned (.tuple #[unitV uv ul un, .bool ub]) ∧ Below w.heap.size w w' := by
 have hsz := bs_size (x :: c :: t)
 have hx : ∀ W, (Instr.index 9 (.string (bs (x :: c :: t))) (.int .i64 1)).run Tryz.prog W = .ok (.int .u8 (c.toNat : Int)) W := bs_get (l := x :: c :: t) (i := 1) (c := c) rfl
 have h2 : 2 ≤ (x :: c :: t).length := by simp
 obtain ⟨n, hn⟩ : ∃ n, (x :: c :: t).length = n := ⟨_, rfl⟩
 rw [hn] at hsz h2 hl
 have h2z : ¬ (n : Int) < 2 := by omega
 obtain ⟨S, hS⟩ : ∃ S, w.heap.size = S := ⟨_, rfl⟩
 have hU := UAt.new w 0 0 ⟨#[]⟩
 rw [hS] at hU HF ⊢
 have HU := Lib.hid hU
 have HS := Lib.hid hS
 have HB0 : Hid (Below S w (w.alloc (.cells #[.int .i32 0, .string ⟨#[]⟩, .int .i64 0] 201))) := by show Below _ _ _; rw [← hS]; exact below_alloc _ _
 have HZ0 : Hid ((w.alloc (.cells #[.int .i32 0, .string ⟨#[]⟩, .int .i64 0] 201)).heap.size = S + 1) := by show _ = _; rw [← hS]; simp
 obtain ⟨z, hz⟩ : ∃ z, bs (x :: c :: t) = z := ⟨_, rfl⟩
 rw [hz] at hsz hx ⊢
 (try rw [hz] at HF)
 clear hU hz hn h2
 unfold numeV at HF
 have hx1 : ∀ W, (Instr.index 9 (.string z) (.int .i64 1)).run Tryz.prog W = .ok (.int .u8 117) W := by rw [show c = 117 from hc] at hx; exact hx
 clear hx hc
 generalize q.toNat = qn at *
 go_enter Tryz.func170, Tryz.ntmps170
 go_wp2_with fail
 refine (HF.out _ (HB0.out.alloc (by rw [HZ0.out]; omega) _)).mono ?_
 rintro e w2 ⟨rfl, hw2⟩
 have HB1 : Hid (Below S w w2) := (HB0.out.alloc (by rw [HZ0.out]; omega) _).trans (hw2.mono (by have := HZ0.out; simp; have := HS.out; omega))
 obtain ⟨c0, f0, c1, f1, c2, f2⟩ := (HU.out.below (below_alloc _ _)).below hw2
 clear hw2 HU HB0 HZ0 HF
 unfold unitV
 go_wp2_with fail
 refine bodyPost_ret (v := .tuple #[unitV uv ul un, .bool ub]) (by rw [results_cell_tmp rfl]; unfold unitV; go_simp; try rfl) rfl ⟨rfl, ?_⟩
 exact below_unit HB1.out (Nat.le_refl _) _ _ _
set_option maxRecDepth 100000 in
set_option maxHeartbeats 4000000 in
theorem escape_U (x c : UInt8) (t : List UInt8) (q : UInt8) (w : World) (uv : Int) (ul : List UInt8) (un : Nat) (ub : Bool) (hl : (x :: c :: t).length ≤ 100000) (hc : c = 85)
  (HF : Hid (∀ V, Below w.heap.size w V → Calls Tryz.prog 201 #[numeV 2 8 16 true, .string (bs (x :: c :: t))] V fun e w' => e = .returned (.tuple #[unitV uv ul un, .bool ub]) ∧ Below V.heap.size V w')) :
  Calls Tryz.prog 170 #[.string (bs (x :: c :: t)), .int .u8 (q.toNat : Int)] w fun e w' => e = .returned (.tuple #[unitV uv ul un, .bool ub]) ∧ Below w.heap.size w w' := by
 have hsz := bs_size (x :: c :: t)
 have hx : ∀ W, (Instr.index 9 (.string (bs (x :: c :: t))) (.int .i64 1)).run Tryz.prog W = .ok (.int .u8 (c.toNat : Int)) W := bs_get (l := x :: c :: t) (i := 1) (c := c) rfl
 have h2 : 2 ≤ (x :: c :: t).length := by simp
 obtain ⟨n, hn⟩ : ∃ n, (x :: c :: t).length = n := ⟨_, rfl⟩
 rw [hn] at hsz h2 hl
 have h2z : ¬ (n : Int) < 2 := by omega
 obtain ⟨S, hS⟩ : ∃ S, w.heap.size = S := ⟨_, rfl⟩
 have hU := UAt.new w 0 0 ⟨#[]⟩
 rw [hS] at hU HF ⊢
 have HU := Lib.hid hU
 have HS := Lib.hid hS
 have HB0 : Hid (Below S w (w.alloc (.cells #[.int .i32 0, .string ⟨#[]⟩, .int .i64 0] 201))) := by show Below _ _ _; rw [← hS]; exact below_alloc _ _
 have HZ0 : Hid ((w.alloc (.cells #[.int .i32 0, .string ⟨#[]⟩, .int .i64 0] 201)).heap.size = S + 1) := by show _ = _; rw [← hS]; simp
 obtain ⟨z, hz⟩ : ∃ z, bs (x :: c :: t) = z := ⟨_, rfl⟩
 rw [hz] at hsz hx ⊢
 (try rw [hz] at HF)
 clear hU hz hn h2
 unfold numeV at HF
 have hx1 : ∀ W, (Instr.index 9 (.string z) (.int .i64 1)).run Tryz.prog W = .ok (.int .u8 85) W := by rw [show c = 85 from hc] at hx; exact hx
 clear hx hc
 generalize q.toNat = qn at *
 go_enter Tryz.func170, Tryz.ntmps170
 go_wp2_with fail
 refine (HF.out _ (HB0.out.alloc (by rw [HZ0.out]; omega) _)).mono ?_
 rintro e w2 ⟨rfl, hw2⟩
 have HB1 : Hid (Below S w w2) := (HB0.out.alloc (by rw [HZ0.out]; omega) _).trans (hw2.mono (by have := HZ0.out; simp; have := HS.out; omega))
 obtain ⟨c0, f0, c1, f1, c2, f2⟩ := (HU.out.below (below_alloc _ _)).below hw2
 clear hw2 HU HB0 HZ0 HF
 unfold unitV
 go_wp2_with fail
 refine bodyPost_ret (v := .tuple #[unitV uv ul un, .bool ub]) (by rw [results_cell_tmp rfl]; unfold unitV; go_simp; try rfl) rfl ⟨rfl, ?_⟩
 exact below_unit HB1.out (Nat.le_refl _) _ _ _
set_option maxRecDepth 100000 in
set_option maxHeartbeats 4000000 in
theorem escape_o (x c : UInt8) (t : List UInt8) (q : UInt8) (w : World) (uv : Int) (ul : List UInt8) (un : Nat) (ub : Bool) (hl : (x :: c :: t).length ≤ 100000) (hc : 48 ≤ c.toNat ∧ c.toNat ≤ 55)
  (HF : Hid (∀ V, Below w.heap.size w V → Calls Tryz.prog 201 #[numeV 1 3 8 false, .string (bs (x :: c :: t))] V fun e w' => e = .returned (.tuple #[unitV uv ul un, .bool ub]) ∧ Below V.heap.size V w')) :
  Calls Tryz.prog 170 #[.string (bs (x :: c :: t)), .int .u8 (q.toNat : Int)] w fun e w' => e = .returned (.tuple #[unitV uv ul un, .bool ub]) ∧ Below w.heap.size w w' := by
 have hsz := bs_size (x :: c :: t)
 have hx : ∀ W, (Instr.index 9 (.string (bs (x :: c :: t))) (.int .i64 1)).run Tryz.prog W = .ok (.int .u8 (c.toNat : Int)) W := bs_get (l := x :: c :: t) (i := 1) (c := c) rfl
 have h2 : 2 ≤ (x :: c :: t).length := by simp
 obtain ⟨n, hn⟩ : ∃ n, (x :: c :: t).length = n := ⟨_, rfl⟩
 rw [hn] at hsz h2 hl
 have h2z : ¬ (n : Int) < 2 := by omega
 obtain ⟨S, hS⟩ : ∃ S, w.heap.size = S := ⟨_, rfl⟩
 have hU := UAt.new w 0 0 ⟨#[]⟩
 rw [hS] at hU HF ⊢
 have HU := Lib.hid hU
 have HS := Lib.hid hS
 have HB0 : Hid (Below S w (w.alloc (.cells #[.int .i32 0, .string ⟨#[]⟩, .int .i64 0] 201))) := by show Below _ _ _; rw [← hS]; exact below_alloc _ _
 have HZ0 : Hid ((w.alloc (.cells #[.int .i32 0, .string ⟨#[]⟩, .int .i64 0] 201)).heap.size = S + 1) := by show _ = _; rw [← hS]; simp
 obtain ⟨z, hz⟩ : ∃ z, bs (x :: c :: t) = z := ⟨_, rfl⟩
 rw [hz] at hsz hx ⊢
 (try rw [hz] at HF)
 clear hU hz hn h2
 unfold numeV at HF
 have h8 : ∃ k : Nat, c.toNat = k ∧ (k = 48 ∨ k = 49 ∨ k = 50 ∨ k = 51 ∨ k = 52 ∨ k = 53 ∨ k = 54 ∨ k = 55) := ⟨_, rfl, by omega⟩
 obtain ⟨k, hk, h8⟩ := h8
 rw [hk] at hx
 clear hc hk
 generalize q.toNat = qn at *
 rcases h8 with rfl | rfl | rfl | rfl | rfl | rfl | rfl | rfl
 ·have hx1 : ∀ W, (Instr.index 9 (.string z) (.int .i64 1)).run Tryz.prog W = .ok (.int .u8 48) W := hx
  clear hx
  go_enter Tryz.func170, Tryz.ntmps170
  go_wp2_with fail
  refine (HF.out _ (HB0.out.alloc (by rw [HZ0.out]; omega) _)).mono ?_
  rintro e w2 ⟨rfl, hw2⟩
  have HB1 : Hid (Below S w w2) := (HB0.out.alloc (by rw [HZ0.out]; omega) _).trans (hw2.mono (by have := HZ0.out; simp; have := HS.out; omega))
  obtain ⟨c0, f0, c1, f1, c2, f2⟩ := (HU.out.below (below_alloc _ _)).below hw2
  clear hw2 HU HB0 HZ0 HF
  unfold unitV
  go_wp2_with fail
  refine bodyPost_ret (v := .tuple #[unitV uv ul un, .bool ub]) (by rw [results_cell_tmp rfl]; unfold unitV; go_simp; try rfl) rfl ⟨rfl, ?_⟩
  exact below_unit HB1.out (Nat.le_refl _) _ _ _
 ·have hx1 : ∀ W, (Instr.index 9 (.string z) (.int .i64 1)).run Tryz.prog W = .ok (.int .u8 49) W := hx
  clear hx
  go_enter Tryz.func170, Tryz.ntmps170
  go_wp2_with fail
  refine (HF.out _ (HB0.out.alloc (by rw [HZ0.out]; omega) _)).mono ?_
  rintro e w2 ⟨rfl, hw2⟩
  have HB1 : Hid (Below S w w2) := (HB0.out.alloc (by rw [HZ0.out]; omega) _).trans (hw2.mono (by have := HZ0.out; simp; have := HS.out; omega))
  obtain ⟨c0, f0, c1, f1, c2, f2⟩ := (HU.out.below (below_alloc _ _)).below hw2
  clear hw2 HU HB0 HZ0 HF
  unfold unitV
  go_wp2_with fail
  refine bodyPost_ret (v := .tuple #[unitV uv ul un, .bool ub]) (by rw [results_cell_tmp rfl]; unfold unitV; go_simp; try rfl) rfl ⟨rfl, ?_⟩
  exact below_unit HB1.out (Nat.le_refl _) _ _ _
 ·have hx1 : ∀ W, (Instr.index 9 (.string z) (.int .i64 1)).run Tryz.prog W = .ok (.int .u8 50) W := hx
  clear hx
  go_enter Tryz.func170, Tryz.ntmps170
  go_wp2_with fail
  refine (HF.out _ (HB0.out.alloc (by rw [HZ0.out]; omega) _)).mono ?_
  rintro e w2 ⟨rfl, hw2⟩
  have HB1 : Hid (Below S w w2) := (HB0.out.alloc (by rw [HZ0.out]; omega) _).trans (hw2.mono (by have := HZ0.out; simp; have := HS.out; omega))
  obtain ⟨c0, f0, c1, f1, c2, f2⟩ := (HU.out.below (below_alloc _ _)).below hw2
  clear hw2 HU HB0 HZ0 HF
  unfold unitV
  go_wp2_with fail
  refine bodyPost_ret (v := .tuple #[unitV uv ul un, .bool ub]) (by rw [results_cell_tmp rfl]; unfold unitV; go_simp; try rfl) rfl ⟨rfl, ?_⟩
  exact below_unit HB1.out (Nat.le_refl _) _ _ _
 ·have hx1 : ∀ W, (Instr.index 9 (.string z) (.int .i64 1)).run Tryz.prog W = .ok (.int .u8 51) W := hx
  clear hx
  go_enter Tryz.func170, Tryz.ntmps170
  go_wp2_with fail
  refine (HF.out _ (HB0.out.alloc (by rw [HZ0.out]; omega) _)).mono ?_
  rintro e w2 ⟨rfl, hw2⟩
  have HB1 : Hid (Below S w w2) := (HB0.out.alloc (by rw [HZ0.out]; omega) _).trans (hw2.mono (by have := HZ0.out; simp; have := HS.out; omega))
  obtain ⟨c0, f0, c1, f1, c2, f2⟩ := (HU.out.below (below_alloc _ _)).below hw2
  clear hw2 HU HB0 HZ0 HF
  unfold unitV
  go_wp2_with fail
  refine bodyPost_ret (v := .tuple #[unitV uv ul un, .bool ub]) (by rw [results_cell_tmp rfl]; unfold unitV; go_simp; try rfl) rfl ⟨rfl, ?_⟩
  exact below_unit HB1.out (Nat.le_refl _) _ _ _
 ·have hx1 : ∀ W, (Instr.index 9 (.string z) (.int .i64 1)).run Tryz.prog W = .ok (.int .u8 52) W := hx
  clear hx
  go_enter Tryz.func170, Tryz.ntmps170
  go_wp2_with fail
  refine (HF.out _ (HB0.out.alloc (by rw [HZ0.out]; omega) _)).mono ?_
  rintro e w2 ⟨rfl, hw2⟩
  have HB1 : Hid (Below S w w2) := (HB0.out.alloc (by rw [HZ0.out]; omega) _).trans (hw2.mono (by have := HZ0.out; simp; have := HS.out; omega))
  obtain ⟨c0, f0, c1, f1, c2, f2⟩ := (HU.out.below (below_alloc _ _)).below hw2
  clear hw2 HU HB0 HZ0 HF
  unfold unitV
  go_wp2_with fail
  refine bodyPost_ret (v := .tuple #[unitV uv ul un, .bool ub]) (by rw [results_cell_tmp rfl]; unfold unitV; go_simp; try rfl) rfl ⟨rfl, ?_⟩
  exact below_unit HB1.out (Nat.le_refl _) _ _ _
 ·have hx1 : ∀ W, (Instr.index 9 (.string z) (.int .i64 1)).run Tryz.prog W = .ok (.int .u8 53) W := hx
  clear hx
  go_enter Tryz.func170, Tryz.ntmps170
  go_wp2_with fail
  refine (HF.out _ (HB0.out.alloc (by rw [HZ0.out]; omega) _)).mono ?_
  rintro e w2 ⟨rfl, hw2⟩
  have HB1 : Hid (Below S w w2) := (HB0.out.alloc (by rw [HZ0.out]; omega) _).trans (hw2.mono (by have := HZ0.out; simp; have := HS.out; omega))
  obtain ⟨c0, f0, c1, f1, c2, f2⟩ := (HU.out.below (below_alloc _ _)).below hw2
  clear hw2 HU HB0 HZ0 HF
  unfold unitV
  go_wp2_with fail
  refine bodyPost_ret (v := .tuple #[unitV uv ul un, .bool ub]) (by rw [results_cell_tmp rfl]; unfold unitV; go_simp; try rfl) rfl ⟨rfl, ?_⟩
  exact below_unit HB1.out (Nat.le_refl _) _ _ _
 ·have hx1 : ∀ W, (Instr.index 9 (.string z) (.int .i64 1)).run Tryz.prog W = .ok (.int .u8 54) W := hx
  clear hx
  go_enter Tryz.func170, Tryz.ntmps170
  go_wp2_with fail
  refine (HF.out _ (HB0.out.alloc (by rw [HZ0.out]; omega) _)).mono ?_
  rintro e w2 ⟨rfl, hw2⟩
  have HB1 : Hid (Below S w w2) := (HB0.out.alloc (by rw [HZ0.out]; omega) _).trans (hw2.mono (by have := HZ0.out; simp; have := HS.out; omega))
  obtain ⟨c0, f0, c1, f1, c2, f2⟩ := (HU.out.below (below_alloc _ _)).below hw2
  clear hw2 HU HB0 HZ0 HF
  unfold unitV
  go_wp2_with fail
  refine bodyPost_ret (v := .tuple #[unitV uv ul un, .bool ub]) (by rw [results_cell_tmp rfl]; unfold unitV; go_simp; try rfl) rfl ⟨rfl, ?_⟩
  exact below_unit HB1.out (Nat.le_refl _) _ _ _
 ·have hx1 : ∀ W, (Instr.index 9 (.string z) (.int .i64 1)).run Tryz.prog W = .ok (.int .u8 55) W := hx
  clear hx
  go_enter Tryz.func170, Tryz.ntmps170
  go_wp2_with fail
  refine (HF.out _ (HB0.out.alloc (by rw [HZ0.out]; omega) _)).mono ?_
  rintro e w2 ⟨rfl, hw2⟩
  have HB1 : Hid (Below S w w2) := (HB0.out.alloc (by rw [HZ0.out]; omega) _).trans (hw2.mono (by have := HZ0.out; simp; have := HS.out; omega))
  obtain ⟨c0, f0, c1, f1, c2, f2⟩ := (HU.out.below (below_alloc _ _)).below hw2
  clear hw2 HU HB0 HZ0 HF
  unfold unitV
  go_wp2_with fail
  refine bodyPost_ret (v := .tuple #[unitV uv ul un, .bool ub]) (by rw [results_cell_tmp rfl]; unfold unitV; go_simp; try rfl) rfl ⟨rfl, ?_⟩
  exact below_unit HB1.out (Nat.le_refl _) _ _ _
set_option maxRecDepth 100000 in
set_option maxHeartbeats 4000000 in
theorem escape_l (x c : UInt8) (t : List UInt8) (q : UInt8) (w : World) (uv : Int) (ul : List UInt8) (un : Nat) (ub : Bool) (hl : (x :: c :: t).length ≤ 100000) (hc : (c ≠ 85 ∧ c ≠ 117 ∧ c ≠ 120) ∧ ¬ (48 ≤ c.toNat ∧ c.toNat ≤ 55))
  (HF : Hid (∀ V, Below w.heap.size w V → Calls Tryz.prog 200 #[.int .u8 (c.toNat : Int), .int .u8 (q.toNat : Int)] V fun e w' => e = .returned (.tuple #[unitV uv ul un, .bool ub]) ∧ Below V.heap.size V w')) :
  Calls Tryz.prog 170 #[.string (bs (x :: c :: t)), .int .u8 (q.toNat : Int)] w fun e w' => e = .returned (.tuple #[unitV uv ul un, .bool ub]) ∧ Below w.heap.size w w' := by
 have hsz := bs_size (x :: c :: t)
 have hx : ∀ W, (Instr.index 9 (.string (bs (x :: c :: t))) (.int .i64 1)).run Tryz.prog W = .ok (.int .u8 (c.toNat : Int)) W := bs_get (l := x :: c :: t) (i := 1) (c := c) rfl
 have h2 : 2 ≤ (x :: c :: t).length := by simp
 obtain ⟨n, hn⟩ : ∃ n, (x :: c :: t).length = n := ⟨_, rfl⟩
 rw [hn] at hsz h2 hl
 have h2z : ¬ (n : Int) < 2 := by omega
 obtain ⟨S, hS⟩ : ∃ S, w.heap.size = S := ⟨_, rfl⟩
 have hU := UAt.new w 0 0 ⟨#[]⟩
 rw [hS] at hU HF ⊢
 have HU := Lib.hid hU
 have HS := Lib.hid hS
 have HB0 : Hid (Below S w (w.alloc (.cells #[.int .i32 0, .string ⟨#[]⟩, .int .i64 0] 201))) := by show Below _ _ _; rw [← hS]; exact below_alloc _ _
 have HZ0 : Hid ((w.alloc (.cells #[.int .i32 0, .string ⟨#[]⟩, .int .i64 0] 201)).heap.size = S + 1) := by show _ = _; rw [← hS]; simp
 obtain ⟨z, hz⟩ : ∃ z, bs (x :: c :: t) = z := ⟨_, rfl⟩
 rw [hz] at hsz hx ⊢
 (try rw [hz] at HF)
 clear hU hz hn h2
 have e85 : ((c.toNat : Int) == 85) = false := eq_byte hc.1.1
 have e117 : ((c.toNat : Int) == 117) = false := eq_byte hc.1.2.1
 have e120 : ((c.toNat : Int) == 120) = false := eq_byte hc.1.2.2
 have hco := hc.2
 clear hc
 generalize c.toNat = cn at *
 generalize q.toNat = qn at *
 have e48 : ((cn : Int) == 48) = false := beq_eq_false_iff_ne.2 (by omega)
 have e49 : ((cn : Int) == 49) = false := beq_eq_false_iff_ne.2 (by omega)
 have e50 : ((cn : Int) == 50) = false := beq_eq_false_iff_ne.2 (by omega)
 have e51 : ((cn : Int) == 51) = false := beq_eq_false_iff_ne.2 (by omega)
 have e52 : ((cn : Int) == 52) = false := beq_eq_false_iff_ne.2 (by omega)
 have e53 : ((cn : Int) == 53) = false := beq_eq_false_iff_ne.2 (by omega)
 have e54 : ((cn : Int) == 54) = false := beq_eq_false_iff_ne.2 (by omega)
 have e55 : ((cn : Int) == 55) = false := beq_eq_false_iff_ne.2 (by omega)
 clear hco
 go_enter Tryz.func170, Tryz.ntmps170
 go_wp2_with fail
 refine (HF.out _ (HB0.out.alloc (by rw [HZ0.out]; omega) _)).mono ?_
 rintro e w2 ⟨rfl, hw2⟩
 have HB1 : Hid (Below S w w2) := (HB0.out.alloc (by rw [HZ0.out]; omega) _).trans (hw2.mono (by have := HZ0.out; simp; have := HS.out; omega))
 obtain ⟨c0, f0, c1, f1, c2, f2⟩ := (HU.out.below (below_alloc _ _)).below hw2
 clear hw2 HU HB0 HZ0 HF
 unfold unitV
 go_wp2_with fail
 refine bodyPost_ret (v := .tuple #[unitV uv ul un, .bool ub]) (by rw [results_cell_tmp rfl]; unfold unitV; go_simp; try rfl) rfl ⟨rfl, ?_⟩
 exact below_unit HB1.out (Nat.le_refl _) _ _ _
set_option maxRecDepth 100000 in
set_option maxHeartbeats 4000000 in
theorem escape_short (l : List UInt8) (q : UInt8) (w : World) (hl : l.length < 2) :
  Calls Tryz.prog 170 #[.string (bs l), .int .u8 (q.toNat : Int)] w fun e w' => e = .returned (.tuple #[unitV 0 [] 0, .bool false]) ∧ Below w.heap.size w w' := by
 have hsz := bs_size l
 have h2z : (l.length : Int) < 2 := by omega
 have hl2 : l.length ≤ 1 := by omega
 clear hl
 generalize l.length = n at *
 generalize bs l = z at *
 generalize q.toNat = qn at *
 go_enter Tryz.func170, Tryz.ntmps170
 go_wp2_with fail
 refine bodyPost_ret (v := .tuple #[unitV 0 [] 0, .bool false]) (by rw [results_cell_tmp rfl]; unfold unitV; go_simp; try rfl) rfl ⟨rfl, ?_⟩
 exact below_alloc _ _
theorem numZ_oct {c : UInt8} {t : List UInt8} (h : ¬ (48 ≤ c.toNat ∧ c.toNat ≤ 55)) : numZ 8 3 (c :: t) = -1 := numZ_bad (i := 0) (c := c) rfl (by decide) (by
 intro g
 unfold dvN at g
 split at g
 ·omega
 ·split at g
  ·omega
  ·split at g <;> omega)
theorem escapeP_run (l : List UInt8) (q : UInt8) (v : Int) (bt : Bool) (sz : Nat) (w : World) (uv : Int) (ul : List UInt8) (un : Nat) (ub : Bool) (hl : l.length ≤ 100000) (hq : q = 34 ∨ q = 39) (hv : ErrVars w) (hhd : Heads w)
  (he : escF q l = (v, bt, sz)) (hR : UnitR v bt sz uv ul un ub) :
  Calls Tryz.prog 170 #[.string (bs l), .int .u8 (q.toNat : Int)] w fun e w' => e = .returned (.tuple #[unitV uv ul un, .bool ub]) ∧ Below w.heap.size w w' := by
 have hzero : sz = 0 → uv = 0 ∧ ul = [] ∧ un = 0 ∧ ub = false := fun h0 => by
  rcases hR with ⟨_, h⟩ | ⟨g, _⟩
  ·exact h
  ·exact absurd h0 g
 match l, hl, he with
 | [], hl, he =>
  cases he
  obtain ⟨rfl, rfl, rfl, rfl⟩ := hzero rfl
  exact escape_short [] q w (by decide)
 | [x], hl, he =>
  cases he
  obtain ⟨rfl, rfl, rfl, rfl⟩ := hzero rfl
  exact escape_short [x] q w (by simp)
 | x :: c :: t, hl, he =>
  have hnq : ∀ k : UInt8, k ≠ 34 → k ≠ 39 → k ≠ 92 → ¬ (k = 92 ∨ k = q) := fun k h1 h2 h3 e => by
   rcases e with e | e
   ·exact h3 e
   ·rcases hq with rfl | rfl
    ·exact h1 e
    ·exact h2 e
  have hlt : (c :: t).length ≤ 100000 := by simp only [List.length_cons] at hl ⊢; omega
  by_cases h120 : c = 120
  ·subst h120
   rw [esc_x (hnq 120 (by decide) (by decide) (by decide))] at he
   refine escape_x x 120 t q w uv ul un ub hl rfl (fun V hV => ?_)
   refine read_b (x :: 120 :: t) 2 2 16 V uv ul un ub hl (by decide) (by decide) (by decide) (hv.below hV) (fun m U h0 h8 hu => pub16_8 m U h0 h8 hu) ?_
   show (0 ≤ numZ 16 2 t ∧ numZ 16 2 t < 256 ∧ uv = numZ 16 2 t ∧ ul = encB (numZ 16 2 t) true ∧ un = 2 + 2 ∧ ub = true) ∨ (¬ (0 ≤ numZ 16 2 t ∧ numZ 16 2 t < 256) ∧ uv = 0 ∧ ul = [] ∧ un = 0 ∧ ub = false)
   have h256 := (numZ_lt 2 16 t (by decide)).1
   split at he
   ·rename_i h0
    cases he
    rcases hR with ⟨g, _⟩ | ⟨_, h⟩
    ·cases g
    ·exact .inl ⟨h0, by omega, h⟩
   ·rename_i h0
    cases he
    exact .inr ⟨fun g => h0 g.1, hzero rfl⟩
  ·by_cases h117 : c = 117
   ·subst h117
    rw [esc_u (hnq 117 (by decide) (by decide) (by decide))] at he
    refine escape_u x 117 t q w uv ul un ub hl rfl (fun V hV => ?_)
    refine read_r (x :: 117 :: t) 2 4 16 V uv ul un ub hl (by decide) (by decide) (by decide) (hv.below hV) (heads_below hhd hV) (fun m U h0 h8 hu => pub16_31 m U h0 h8 hu) ?_
    show UnitR (runE (numZ 16 4 t) 6).1 (runE (numZ 16 4 t) 6).2.1 (runE (numZ 16 4 t) 6).2.2 uv ul un ub
    rw [he]
    exact hR
   ·by_cases h85 : c = 85
    ·subst h85
     rw [esc_U (hnq 85 (by decide) (by decide) (by decide))] at he
     refine escape_U x 85 t q w uv ul un ub hl rfl (fun V hV => ?_)
     refine read_r (x :: 85 :: t) 2 8 16 V uv ul un ub hl (by decide) (by decide) (by decide) (hv.below hV) (heads_below hhd hV) (fun m U h0 h8 hu => pub16_31 m U h0 h8 hu) ?_
     show UnitR (runE (numZ 16 8 t) 10).1 (runE (numZ 16 8 t) 10).2.1 (runE (numZ 16 8 t) 10).2.2 uv ul un ub
     rw [he]
     exact hR
    ·by_cases hoct : 48 ≤ c.toNat ∧ c.toNat ≤ 55
     ·have hlz : ltrF c = 0 := by
       unfold ltrF
       rw [if_neg (fun e => by rw [e] at hoct; exact absurd hoct (by decide)), if_neg (fun e => by rw [e] at hoct; exact absurd hoct (by decide)), if_neg (fun e => by rw [e] at hoct; exact absurd hoct (by decide)), if_neg (fun e => by rw [e] at hoct; exact absurd hoct (by decide)), if_neg (fun e => by rw [e] at hoct; exact absurd hoct (by decide)), if_neg (fun e => by rw [e] at hoct; exact absurd hoct (by decide)), if_neg (fun e => by rw [e] at hoct; exact absurd hoct (by decide))]
      rw [esc_o hlz (hnq c (fun e => by rw [e] at hoct; exact absurd hoct (by decide)) (fun e => by rw [e] at hoct; exact absurd hoct (by decide)) (fun e => by rw [e] at hoct; exact absurd hoct (by decide))) h120 h117 h85] at he
      refine escape_o x c t q w uv ul un ub hl hoct (fun V hV => ?_)
      refine read_b (x :: c :: t) 1 3 8 V uv ul un ub hl (by decide) (by decide) (by decide) (hv.below hV) (fun m U h0 h8 hu => pub8_8 m U h0 h8 hu) ?_
      show (0 ≤ numZ 8 3 (c :: t) ∧ numZ 8 3 (c :: t) < 256 ∧ uv = numZ 8 3 (c :: t) ∧ ul = encB (numZ 8 3 (c :: t)) true ∧ un = 1 + 3 ∧ ub = true) ∨ (¬ (0 ≤ numZ 8 3 (c :: t) ∧ numZ 8 3 (c :: t) < 256) ∧ uv = 0 ∧ ul = [] ∧ un = 0 ∧ ub = false)
      split at he
      ·rename_i h0
       cases he
       rcases hR with ⟨g, _⟩ | ⟨_, h⟩
       ·cases g
       ·exact .inl ⟨h0.1, h0.2, h⟩
      ·rename_i h0
       cases he
       exact .inr ⟨h0, hzero rfl⟩
     ·refine escape_l x c t q w uv ul un ub hl ⟨⟨h85, h117, h120⟩, hoct⟩ (fun V hV => ?_)
      by_cases hlz : ltrF c = 0
      ·by_cases hs : c = 92 ∨ c = q
       ·rw [esc_same hlz hs] at he
        cases he
        rcases hR with ⟨g, _⟩ | ⟨_, rfl, rfl, rfl, rfl⟩
        ·cases g
        ·have := letter_same c q V ⟨hlz, hs⟩
         rwa [show ([c] : List UInt8) = encB (c.toNat : Int) true by simp [encB, encI]] at this
       ·rw [esc_o hlz hs h120 h117 h85, numZ_oct hoct, if_neg (fun g => absurd g.1 (by decide))] at he
        cases he
        obtain ⟨rfl, rfl, rfl, rfl⟩ := hzero rfl
        exact letter_none c q V ⟨hlz, fun e => hs (.inl e), fun e => hs (.inr e)⟩
      ·rw [esc_ltr hlz] at he
       cases he
       rcases hR with ⟨g, _⟩ | ⟨_, rfl, rfl, rfl, rfl⟩
       ·cases g
       ·have := letter_ltr c q V hlz
        rwa [show ([UInt8.ofNat (ltrF c)] : List UInt8) = encB (ltrF c : Int) true by simp [encB, encI]] at this
end Go.Proofs.YtgkhjeefcflmcaaGreatDoor
