/-
  Stage 10: the program's 'plain' closures and next.
-/
import Derived.Test.YtgkhjeefcflmcaaGreatDoorMt27
namespace Go.Proofs.YtgkhjeefcflmcaaGreatDoor
open Go.RowKit Go.Sort
set_option linter.unusedSimpArgs false
theorem UAt.there {w : World} {b : Nat} {v n : Int} {s : ByteArray} (h : UAt w b v s n) : w.there b 0 3 := by
 intro j hj
 rw [Nat.zero_add]
 rcases j with _ | _ | _ | j
 ·exact ⟨by rw [h.c0]; rfl, h.f0⟩
 ·exact ⟨by rw [h.c1]; rfl, h.f1⟩
 ·exact ⟨by rw [h.c2]; rfl, h.f2⟩
 ·omega
theorem infoUnit : (Tryz.prog.info? 201).map (·.size) = some 3 := by kernel_rfl
def stU (w : World) (b : Nat) (v : Int) (s : ByteArray) (n : Int) : World := ((w.setCell ⟨b, 0, none⟩ (.int .i32 v)).setCell ⟨b, 1, none⟩ (.string s)).setCell ⟨b, 2, none⟩ (.int .i64 n)
theorem stores_unit {op : Oper} {a : Act} {w : World} {K : Act → World → Prop} {Q : Exit → Act → World → Prop} (x y : Operand) (ho : op.op = .store 201 x y)
  {b : Nat} {v v' n n' : Int} {s s' : ByteArray} (hx : a.eval x = .pointer (some ⟨b, 0, none⟩)) (hy : a.eval y = .agg #[.int .i32 v', .string s', .int .i64 n']) (h : UAt w b v s n) (hK : K (a.put op.dst undef) (stU w b v' s' n')) : op.wp Tryz.prog a w K Q :=
 wp_store_mid 201 x y ho b 0 #[.int .i32 v', .string s', .int .i64 n'] hx hy h.there infoUnit (by simp [Value.oneCell']) hK
theorem UAt.set {w : World} {b : Nat} {v n : Int} {s : ByteArray} (h : UAt w b v s n) (v' : Int) (s' : ByteArray) (n' : Int) : UAt (stU w b v' s' n') b v' s' n' := by
 obtain ⟨c0, f0, c1, f1, c2, f2⟩ := h
 unfold stU
 constructor <;> go_simp
set_option maxRecDepth 100000 in
set_option maxHeartbeats 4000000 in
theorem plainT_run (c : UInt8) (t : List UInt8) (w : World) (hl : (c :: t).length ≤ 100000) :
  Calls Tryz.prog 143 #[.string (bs (c :: t))] w fun e w' => e = .returned (.tuple #[unitV (c.toNat : Int) [c] 1, .nilIface]) ∧ Below w.heap.size w w' := by
 have hsz := bs_size (c :: t)
 have hx : ∀ W, (Instr.index 9 (.string (bs (c :: t))) (.int .i64 0)).run Tryz.prog W = .ok (.int .u8 (c.toNat : Int)) W := bs_get (l := c :: t) (i := 0) (c := c) rfl
 have hex : (bs (c :: t)).extract 0 1 = bs [c] := bs_to (c :: t) 1
 have h1 : 1 ≤ (c :: t).length := by simp
 obtain ⟨n, hn⟩ : ∃ n, (c :: t).length = n := ⟨_, rfl⟩
 rw [hn] at hsz h1 hl
 obtain ⟨S, hS⟩ : ∃ S, w.heap.size = S := ⟨_, rfl⟩
 have hU := UAt.new w 0 0 ⟨#[]⟩
 have hB := below_alloc w (.cells #[.int .i32 0, .string ⟨#[]⟩, .int .i64 0] 201)
 rw [hS] at hU hB ⊢
 obtain ⟨z, hz⟩ : ∃ z, bs (c :: t) = z := ⟨_, rfl⟩
 rw [hz] at hsz hx hex ⊢
 have hcb : c.toNat < 256 := c.toNat_lt
 have h1z : ¬ (n : Int) < 1 := by omega
 clear hz hn
 have HU := Lib.hid hU
 have HB := Lib.hid hB
 have HX := Lib.hid hx
 clear hU hB
 obtain ⟨cn, hcn⟩ : ∃ cn, c.toNat = cn := ⟨_, rfl⟩
 rw [hcn] at hcb hx ⊢
 have hwr : IntKind.i32.wrap (cn : Int) = (cn : Int) := by rw [IntKind.wrap_i32]; omega
 obtain ⟨y, hy⟩ : ∃ y, bs [c] = y := ⟨_, rfl⟩
 rw [hy] at hex
 have HY := Lib.hid hy
 clear hy
 go_enter Tryz.func143, Tryz.ntmps143
 go_wp2_with fail
 go_upto_region 1 with fail
 obtain ⟨W, hW⟩ : ∃ W, w.alloc (.cells #[.int .i32 0, .string ⟨#[]⟩, .int .i64 0] 201) = W := ⟨_, rfl⟩
 rw [hW]
 rw [hW] at HU HB
 clear hW hS
 refine rg_begin (fun _ => True) (by kernel_rfl) trivial (fun hS => ?_)
 have HU1 := Lib.hid (HU.out.below ((Below.refl _ W).drew))
 have HB1 := Lib.hid HB.out.drew
 clear HU HB
 generalize W.drew = W2 at *
 refine rg_take 0 (.string z) rfl (by kernel_rfl) (by kernel_rfl) (by kernel_rfl) (fun _ _ _ h => h) rfl (fun w _ => ?_) hS ?_
 ·go_simp
 simp only [zA, zB, zC, Act.put, zD, zE, zF]
 refine rg_take 1 (.int .u8 (cn : Int)) rfl (by kernel_rfl) (by kernel_rfl) (by kernel_rfl) (fun _ _ _ h => h) rfl (fun w hSw => ?_) hS ?_
 ·have e1 := hx
  go_simp
 simp only [zA, zB, zC, Act.put, zD, zE, zF]
 refine rg_take 2 (.int .i32 (cn : Int)) rfl (by kernel_rfl) (by kernel_rfl) (by kernel_rfl) (fun _ _ _ h => h) rfl (fun w hSw => ?_) hS ?_
 ·have e2 := hwr
  go_simp
 simp only [zA, zB, zC, Act.put, zD, zE, zF]
 refine rg_take 3 (.string z) rfl (by kernel_rfl) (by kernel_rfl) (by kernel_rfl) (fun _ _ _ h => h) rfl (fun w _ => ?_) hS ?_
 ·go_simp
 simp only [zA, zB, zC, Act.put, zD, zE, zF]
 refine rg_take 4 (.string y) rfl (by kernel_rfl) (by kernel_rfl) (by kernel_rfl) (fun _ _ _ h => h) rfl (fun w hSw => ?_) hS ?_
 ·have e4 := h1z
  go_simp
 simp only [zA, zB, zC, Act.put, zD, zE, zF]
 refine rg_take 5 (.agg #[.int .i32 (cn : Int), .string y, .int .i64 1]) rfl (by kernel_rfl) (by kernel_rfl) (by kernel_rfl) (fun _ _ _ h => h) rfl (fun w _ => ?_) hS ?_
 ·go_simp
 simp only [zA, zB, zC, Act.put, zD, zE, zF]
 refine rg_one 6 (by kernel_rfl) (rs_of rfl rfl (stores_unit (.tmp 2) (.tmp 9) rfl (b := S) rfl rfl HU1.out ⟨trivial, ?_⟩))
 simp only [zA, zB, zC, Act.put, zD, zE, zF]
 refine rg_take 7 (.nilIface) rfl (by kernel_rfl) (by kernel_rfl) (by kernel_rfl) (fun _ _ _ h => h) rfl (fun w _ => ?_) hS ?_
 ·go_simp
 simp only [zA, zB, zC, Act.put, zD, zE, zF]
 refine wpAnyH_done (by kernel_rfl) ?_ _
 (try simp only [Exit.inBlock, Exit.then])
 obtain ⟨c0, f0, c1, f1, c2, f2⟩ := HU1.out.set (cn : Int) y 1
 go_wp2_with fail
 refine bodyPost_ret (v := .tuple #[unitV (cn : Int) [c] 1, .nilIface]) (by rw [results_cell_tmp rfl]; unfold unitV; rw [HY.out]; go_simp; try rfl) rfl ⟨rfl, ?_⟩
 exact below_unit HB1.out (Nat.le_refl _) _ _ _
set_option maxRecDepth 100000 in
set_option maxHeartbeats 4000000 in
theorem plainC_none (m : List UInt8) (w : World) (hl : m.length ≤ 100000) (h0 : 0 < m.length) (hh : Heads w) (hd : U.dec (bi m) = none) :
  Calls Tryz.prog 140 #[.string (bs m)] w fun e w' => e = .returned (.tuple #[unitV 0 [] 0, .iface 35 (.int .i64 3)]) ∧ Below w.heap.size w w' := by
 have hsz := bs_size m
 have hU := UAt.new w 0 0 ⟨#[]⟩
 have hB := below_alloc w (.cells #[.int .i32 0, .string ⟨#[]⟩, .int .i64 0] 201)
 obtain ⟨S, hS⟩ : ∃ S, w.heap.size = S := ⟨_, rfl⟩
 have hh1 := heads_below hh hB
 obtain ⟨cap, w2, hcv, hc1, hc2, hby, hbl⟩ := run_conv_str (w.alloc (.cells #[.int .i32 0, .string ⟨#[]⟩, .int .i64 0] 201)) (bs m) (by rw [hsz]; exact Nat.le_trans hl (by decide))
 rw [bts_bs] at hby
 rw [hsz] at hcv hc1
 have hDE := decode_any _ m.length cap (bi m) 0 w2 hby (heads_below hh1 hbl) (bi_length m) hc1 (by omega)
 have hra := decAns_at (bi m) 0 (by rw [bi_length]; exact h0)
 rw [Int.natCast_zero, List.drop_zero, hd] at hra
 rw [hra] at hDE
 have hU2 := hU.below hbl
 rw [hS] at hU2
 have hB2 := hB.trans (hbl.mono (by simp))
 rw [hS] at hB2 ⊢
 rw [show (w.alloc (.cells #[.int .i32 0, .string ⟨#[]⟩, .int .i64 0] 201)).heap.size = S + 1 by simp [hS]] at hcv hDE
 have HU := Lib.hid hU2
 have HB := Lib.hid hB2
 have HDE : Hid (Calls Tryz.prog 80 #[.slice (some ⟨S + 1, 0, none⟩) m.length cap, .int .i64 0] w2 fun e w' => e = .returned (.tuple #[.int .i32 0, .int .i64 0, .iface 35 (.int .i64 3)]) ∧ ∃ k, w' = w2.drewN k) := hDE
 clear hU hB hh1 hby hbl hc2 hDE hra hU2 hB2 hh
 clear hd
 have hex : (bs m).extract 0 0 = bs [] := by rw [bs_to, List.take_zero]
 generalize bs m = z at *
 generalize m.length = n at *
 go_enter Tryz.func140, Tryz.ntmps140
 go_wp2_with fail
 refine (HDE.out).mono ?_
 rintro e w3 ⟨rfl, k, rfl⟩
 obtain ⟨c0, f0, c1, f1, c2, f2⟩ := HU.out.below (bel_drN (Below.refl _ w2) k)
 have HB1 := Lib.hid (bel_drN HB.out k)
 clear HU HB
 go_wp2_with fail
 refine bodyPost_ret (v := .tuple #[unitV 0 [] 0, .iface 35 (.int .i64 3)]) (by rw [results_cell_tmp rfl]; unfold unitV; go_simp; try rfl) rfl ⟨rfl, ?_⟩
 exact below_unit HB1.out (Nat.le_refl _) _ _ _
set_option maxRecDepth 100000 in
set_option maxHeartbeats 4000000 in
theorem plainC_some (m : List UInt8) (r : Int) (n : Nat) (w : World) (hl : m.length ≤ 100000) (h0 : 0 < m.length) (hh : Heads w) (hd : U.dec (bi m) = some (r, n)) :
  Calls Tryz.prog 140 #[.string (bs m)] w fun e w' => e = .returned (.tuple #[unitV r (m.take n) n, .nilIface]) ∧ Below w.heap.size w w' := by
 have hsz := bs_size m
 have hU := UAt.new w 0 0 ⟨#[]⟩
 have hB := below_alloc w (.cells #[.int .i32 0, .string ⟨#[]⟩, .int .i64 0] 201)
 obtain ⟨S, hS⟩ : ∃ S, w.heap.size = S := ⟨_, rfl⟩
 have hh1 := heads_below hh hB
 obtain ⟨cap, w2, hcv, hc1, hc2, hby, hbl⟩ := run_conv_str (w.alloc (.cells #[.int .i32 0, .string ⟨#[]⟩, .int .i64 0] 201)) (bs m) (by rw [hsz]; exact Nat.le_trans hl (by decide))
 rw [bts_bs] at hby
 rw [hsz] at hcv hc1
 have hDE := decode_any _ m.length cap (bi m) 0 w2 hby (heads_below hh1 hbl) (bi_length m) hc1 (by omega)
 have hra := decAns_at (bi m) 0 (by rw [bi_length]; exact h0)
 rw [Int.natCast_zero, List.drop_zero, hd] at hra
 rw [hra] at hDE
 have hU2 := hU.below hbl
 rw [hS] at hU2
 have hB2 := hB.trans (hbl.mono (by simp))
 rw [hS] at hB2 ⊢
 rw [show (w.alloc (.cells #[.int .i32 0, .string ⟨#[]⟩, .int .i64 0] 201)).heap.size = S + 1 by simp [hS]] at hcv hDE
 have HU := Lib.hid hU2
 have HB := Lib.hid hB2
 have HDE : Hid (Calls Tryz.prog 80 #[.slice (some ⟨S + 1, 0, none⟩) m.length cap, .int .i64 0] w2 fun e w' => e = .returned (.tuple #[.int .i32 r, .int .i64 (n : Int), .nilIface]) ∧ ∃ k, w' = w2.drewN k) := hDE
 clear hU hB hh1 hby hbl hc2 hDE hra hU2 hB2 hh
 have hnl : n ≤ m.length := by
  obtain ⟨g1, g2, u, g3⟩ := U.enc_dec hd
  have := congrArg List.length g3
  rw [bi_length, List.length_append, U.enc_length, ← g2] at this
  omega
 have hex : (bs m).extract 0 n = bs (m.take n) := bs_to m n
 clear hd
 generalize bs m = z at *
 generalize m.length = L at *
 obtain ⟨y, hy⟩ : ∃ y, bs (m.take n) = y := ⟨_, rfl⟩
 rw [hy] at hex
 have HY := Lib.hid hy
 clear hy
 go_enter Tryz.func140, Tryz.ntmps140
 go_wp2_with fail
 refine (HDE.out).mono ?_
 rintro e w3 ⟨rfl, k, rfl⟩
 obtain ⟨c0, f0, c1, f1, c2, f2⟩ := HU.out.below (bel_drN (Below.refl _ w2) k)
 have HB1 := Lib.hid (bel_drN HB.out k)
 clear HU HB
 go_wp2_with fail
 refine bodyPost_ret (v := .tuple #[unitV r (m.take n) n, .nilIface]) (by rw [results_cell_tmp rfl]; unfold unitV; rw [HY.out]; go_simp; try rfl) rfl ⟨rfl, ?_⟩
 exact below_unit HB1.out (Nat.le_refl _) _ _ _
set_option maxRecDepth 100000 in
set_option maxHeartbeats 4000000 in
theorem nextT_bad (c : UInt8) (t : List UInt8) (q : UInt8) (w : World) (_hl : (c :: t).length ≤ 100000) (hc : c = q ∨ c = 10) :
  Calls Tryz.prog 141 #[.string (bs (c :: t)), .int .u8 (q.toNat : Int), .func (.func 143) #[] #[]] w fun e w' => e = .returned (.tuple #[unitV 0 [] 0, .iface 35 (.int .i64 8)]) ∧ Below w.heap.size w w' := by
 have hx : ∀ W, (Instr.index 9 (.string (bs (c :: t))) (.int .i64 0)).run Tryz.prog W = .ok (.int .u8 (c.toNat : Int)) W := bs_get (l := c :: t) (i := 0) (c := c) rfl
 have hU := UAt.new w 0 0 ⟨#[]⟩
 have hB := below_alloc w (.cells #[.int .i32 0, .string ⟨#[]⟩, .int .i64 0] 201)
 obtain ⟨S, hS⟩ : ∃ S, w.heap.size = S := ⟨_, rfl⟩
 rw [hS] at hU hB ⊢
 have HU := Lib.hid hU
 have HB := Lib.hid hB
 have HZ : Hid ((w.alloc (.cells #[.int .i32 0, .string ⟨#[]⟩, .int .i64 0] 201)).heap.size = S + 1) := by show _ = _; simp [hS]
 have HS := Lib.hid hS
 clear hU hB
 generalize bs (c :: t) = z at *
 by_cases h1 : c = q
 ·have e1 : ((c.toNat : Int) == (q.toNat : Int)) = true := by rw [h1]; simp
  clear h1 hc
  generalize c.toNat = cn at *
  generalize q.toNat = qn at *
  go_enter Tryz.func141, Tryz.ntmps141
  go_wp2_with fail
  refine bodyPost_ret (v := .tuple #[unitV 0 [] 0, .iface 35 (.int .i64 8)]) (by rw [results_cell_tmp rfl]; unfold unitV; go_simp; try rfl) rfl ⟨rfl, ?_⟩
  exact HB.out
 ·have h10 := hc.resolve_left h1
  have e1 : ((c.toNat : Int) == (q.toNat : Int)) = false := eq_byte h1
  have e10 : ((c.toNat : Int) == 10) = true := by rw [h10]; rfl
  clear h1 hc h10
  generalize c.toNat = cn at *
  generalize q.toNat = qn at *
  go_enter Tryz.func141, Tryz.ntmps141
  go_wp2_with fail
  refine bodyPost_ret (v := .tuple #[unitV 0 [] 0, .iface 35 (.int .i64 8)]) (by rw [results_cell_tmp rfl]; unfold unitV; go_simp; try rfl) rfl ⟨rfl, ?_⟩
  exact HB.out
set_option maxRecDepth 100000 in
set_option maxHeartbeats 4000000 in
theorem nextT_none (c : UInt8) (t : List UInt8) (q : UInt8) (w : World) (hl : (c :: t).length ≤ 100000) (v : Int) (bt : Bool) (hq : q = 34 ∨ q = 39) (hv : ErrVars w) (hh : Heads w) (hc : c = 92) (he : escF q (c :: t) = (v, bt, 0)) :
  Calls Tryz.prog 141 #[.string (bs (c :: t)), .int .u8 (q.toNat : Int), .func (.func 143) #[] #[]] w fun e w' => e = .returned (.tuple #[unitV 0 [] 0, .iface 35 (.int .i64 14)]) ∧ Below w.heap.size w w' := by
 have hx : ∀ W, (Instr.index 9 (.string (bs (c :: t))) (.int .i64 0)).run Tryz.prog W = .ok (.int .u8 (c.toNat : Int)) W := bs_get (l := c :: t) (i := 0) (c := c) rfl
 have hU := UAt.new w 0 0 ⟨#[]⟩
 have hB := below_alloc w (.cells #[.int .i32 0, .string ⟨#[]⟩, .int .i64 0] 201)
 obtain ⟨S, hS⟩ : ∃ S, w.heap.size = S := ⟨_, rfl⟩
 rw [hS] at hU hB ⊢
 have HU := Lib.hid hU
 have HB := Lib.hid hB
 have HZ : Hid ((w.alloc (.cells #[.int .i32 0, .string ⟨#[]⟩, .int .i64 0] 201)).heap.size = S + 1) := by show _ = _; simp [hS]
 have HS := Lib.hid hS
 clear hU hB
 have e1 : ((c.toNat : Int) == (q.toNat : Int)) = false := eq_byte (by rw [hc]; rcases hq with rfl | rfl <;> decide)
 have e10 : ((c.toNat : Int) == 10) = false := by rw [hc]; rfl
 have e92 : ((c.toNat : Int) == 92) = true := by rw [hc]; rfl
 have HE : Hid (∀ V, Below S w V → Calls Tryz.prog 170 #[.string (bs (c :: t)), .int .u8 (q.toNat : Int)] V fun e w' => e = .returned (.tuple #[unitV 0 [] 0, .bool false]) ∧ Below V.heap.size V w') := fun V hV =>
  escapeP_run (c :: t) q v bt 0 V _ _ _ _ hl hq (hv.below (by rw [hS]; exact hV)) (heads_below hh (by rw [hS]; exact hV)) he (.inl ⟨rfl, rfl, rfl, rfl, rfl⟩)
 clear hv hh he hc
 generalize bs (c :: t) = z at *
 generalize c.toNat = cn at *
 generalize q.toNat = qn at *
 go_enter Tryz.func141, Tryz.ntmps141
 go_wp2_with fail
 refine (HE.out _ HB.out).mono ?_
 rintro e w2 ⟨rfl, hw2⟩
 obtain ⟨c0, f0, c1, f1, c2, f2⟩ := (HU.out.below hw2).below (below_alloc w2 (.cells #[.int .i32 0, .string (bs ([])), .int .i64 0] 201))
 have HB2 : Hid (Below S w w2) := HB.out.trans (hw2.mono (by rw [HZ.out]; have := HS.out; omega))
 have HZ2 : Hid (S + 1 ≤ w2.heap.size) := by show _ ≤ _; rw [← HZ.out]; exact hw2.size
 clear HU HB hw2
 unfold unitV
 go_wp2_with fail
 refine bodyPost_ret (v := .tuple #[unitV 0 [] 0, .iface 35 (.int .i64 14)]) (by rw [results_cell_tmp rfl]; unfold unitV; go_simp; try rfl) rfl ⟨rfl, ?_⟩
 exact below_unit (HB2.out.alloc (by have := HZ2.out; omega) _) (Nat.le_refl _) _ _ _
set_option maxRecDepth 100000 in
set_option maxHeartbeats 4000000 in
theorem nextT_esc (c : UInt8) (t : List UInt8) (q : UInt8) (w : World) (hl : (c :: t).length ≤ 100000) (v : Int) (bt : Bool) (sz : Nat) (hs : sz ≠ 0) (hq : q = 34 ∨ q = 39) (hv : ErrVars w) (hh : Heads w) (hc : c = 92) (he : escF q (c :: t) = (v, bt, sz)) :
  Calls Tryz.prog 141 #[.string (bs (c :: t)), .int .u8 (q.toNat : Int), .func (.func 143) #[] #[]] w fun e w' => e = .returned (.tuple #[unitV v (encB v bt) sz, .nilIface]) ∧ Below w.heap.size w w' := by
 have hx : ∀ W, (Instr.index 9 (.string (bs (c :: t))) (.int .i64 0)).run Tryz.prog W = .ok (.int .u8 (c.toNat : Int)) W := bs_get (l := c :: t) (i := 0) (c := c) rfl
 have hU := UAt.new w 0 0 ⟨#[]⟩
 have hB := below_alloc w (.cells #[.int .i32 0, .string ⟨#[]⟩, .int .i64 0] 201)
 obtain ⟨S, hS⟩ : ∃ S, w.heap.size = S := ⟨_, rfl⟩
 rw [hS] at hU hB ⊢
 have HU := Lib.hid hU
 have HB := Lib.hid hB
 have HZ : Hid ((w.alloc (.cells #[.int .i32 0, .string ⟨#[]⟩, .int .i64 0] 201)).heap.size = S + 1) := by show _ = _; simp [hS]
 have HS := Lib.hid hS
 clear hU hB
 have e1 : ((c.toNat : Int) == (q.toNat : Int)) = false := eq_byte (by rw [hc]; rcases hq with rfl | rfl <;> decide)
 have e10 : ((c.toNat : Int) == 10) = false := by rw [hc]; rfl
 have e92 : ((c.toNat : Int) == 92) = true := by rw [hc]; rfl
 have HE : Hid (∀ V, Below S w V → Calls Tryz.prog 170 #[.string (bs (c :: t)), .int .u8 (q.toNat : Int)] V fun e w' => e = .returned (.tuple #[unitV v (encB v bt) sz, .bool true]) ∧ Below V.heap.size V w') := fun V hV =>
  escapeP_run (c :: t) q v bt sz V _ _ _ _ hl hq (hv.below (by rw [hS]; exact hV)) (heads_below hh (by rw [hS]; exact hV)) he (.inr ⟨hs, rfl, rfl, rfl, rfl⟩)
 clear hv hh he hc
 generalize bs (c :: t) = z at *
 generalize c.toNat = cn at *
 generalize q.toNat = qn at *
 go_enter Tryz.func141, Tryz.ntmps141
 go_wp2_with fail
 refine (HE.out _ HB.out).mono ?_
 rintro e w2 ⟨rfl, hw2⟩
 obtain ⟨c0, f0, c1, f1, c2, f2⟩ := (HU.out.below hw2).below (below_alloc w2 (.cells #[.int .i32 v, .string (bs (encB v bt)), .int .i64 (sz : Int)] 201))
 have HB2 : Hid (Below S w w2) := HB.out.trans (hw2.mono (by rw [HZ.out]; have := HS.out; omega))
 have HZ2 : Hid (S + 1 ≤ w2.heap.size) := by show _ ≤ _; rw [← HZ.out]; exact hw2.size
 clear HU HB hw2
 unfold unitV
 go_wp2_with fail
 refine bodyPost_ret (v := .tuple #[unitV v (encB v bt) sz, .nilIface]) (by rw [results_cell_tmp rfl]; unfold unitV; go_simp; try rfl) rfl ⟨rfl, ?_⟩
 exact below_unit (HB2.out.alloc (by have := HZ2.out; omega) _) (Nat.le_refl _) _ _ _
set_option maxRecDepth 100000 in
set_option maxHeartbeats 4000000 in
theorem nextT_plain (c : UInt8) (t : List UInt8) (q : UInt8) (w : World) (_hl : (c :: t).length ≤ 100000) (v : Int) (y : List UInt8) (n : Nat) (er : Value) (hc : ¬ (c = q ∨ c = 10) ∧ c ≠ 92) (HP : Hid (∀ V, Below w.heap.size w V → Calls Tryz.prog 143 #[.string (bs (c :: t))] V fun e w' => e = .returned (.tuple #[unitV v y n, er]) ∧ Below V.heap.size V w')) :
  Calls Tryz.prog 141 #[.string (bs (c :: t)), .int .u8 (q.toNat : Int), .func (.func 143) #[] #[]] w fun e w' => e = .returned (.tuple #[unitV v y n, er]) ∧ Below w.heap.size w w' := by
 have hx : ∀ W, (Instr.index 9 (.string (bs (c :: t))) (.int .i64 0)).run Tryz.prog W = .ok (.int .u8 (c.toNat : Int)) W := bs_get (l := c :: t) (i := 0) (c := c) rfl
 have hU := UAt.new w 0 0 ⟨#[]⟩
 have hB := below_alloc w (.cells #[.int .i32 0, .string ⟨#[]⟩, .int .i64 0] 201)
 obtain ⟨S, hS⟩ : ∃ S, w.heap.size = S := ⟨_, rfl⟩
 rw [hS] at hU hB ⊢
 have HU := Lib.hid hU
 have HB := Lib.hid hB
 have HZ : Hid ((w.alloc (.cells #[.int .i32 0, .string ⟨#[]⟩, .int .i64 0] 201)).heap.size = S + 1) := by show _ = _; simp [hS]
 have HS := Lib.hid hS
 clear hU hB
 rw [hS] at HP
 have e1 : ((c.toNat : Int) == (q.toNat : Int)) = false := eq_byte (fun e => hc.1 (.inl e))
 have e10 : ((c.toNat : Int) == 10) = false := eq_byte (fun e => hc.1 (.inr e))
 have e92 : ((c.toNat : Int) == 92) = false := eq_byte hc.2
 clear hc
 generalize bs (c :: t) = z at *
 generalize c.toNat = cn at *
 generalize q.toNat = qn at *
 go_enter Tryz.func141, Tryz.ntmps141
 go_wp2_with fail
 refine (HP.out _ HB.out).mono ?_
 rintro e w2 ⟨rfl, hw2⟩
 obtain ⟨c0, f0, c1, f1, c2, f2⟩ := HU.out.below hw2
 have HB2 : Hid (Below S w w2) := HB.out.trans (hw2.mono (by rw [HZ.out]; have := HS.out; omega))
 clear HU HB hw2
 unfold unitV
 go_wp2_with fail
 refine bodyPost_ret (v := .tuple #[unitV v y n, er]) (by rw [results_cell_tmp rfl]; unfold unitV; go_simp; try rfl) rfl ⟨rfl, ?_⟩
 exact below_unit HB2.out (Nat.le_refl _) _ _ _
set_option maxRecDepth 100000 in
set_option maxHeartbeats 4000000 in
theorem nextC_bad (c : UInt8) (t : List UInt8) (q : UInt8) (w : World) (_hl : (c :: t).length ≤ 100000) (hc : c = q ∨ c = 10) :
  Calls Tryz.prog 141 #[.string (bs (c :: t)), .int .u8 (q.toNat : Int), .func (.func 140) #[] #[]] w fun e w' => e = .returned (.tuple #[unitV 0 [] 0, .iface 35 (.int .i64 8)]) ∧ Below w.heap.size w w' := by
 have hx : ∀ W, (Instr.index 9 (.string (bs (c :: t))) (.int .i64 0)).run Tryz.prog W = .ok (.int .u8 (c.toNat : Int)) W := bs_get (l := c :: t) (i := 0) (c := c) rfl
 have hU := UAt.new w 0 0 ⟨#[]⟩
 have hB := below_alloc w (.cells #[.int .i32 0, .string ⟨#[]⟩, .int .i64 0] 201)
 obtain ⟨S, hS⟩ : ∃ S, w.heap.size = S := ⟨_, rfl⟩
 rw [hS] at hU hB ⊢
 have HU := Lib.hid hU
 have HB := Lib.hid hB
 have HZ : Hid ((w.alloc (.cells #[.int .i32 0, .string ⟨#[]⟩, .int .i64 0] 201)).heap.size = S + 1) := by show _ = _; simp [hS]
 have HS := Lib.hid hS
 clear hU hB
 generalize bs (c :: t) = z at *
 by_cases h1 : c = q
 ·have e1 : ((c.toNat : Int) == (q.toNat : Int)) = true := by rw [h1]; simp
  clear h1 hc
  generalize c.toNat = cn at *
  generalize q.toNat = qn at *
  go_enter Tryz.func141, Tryz.ntmps141
  go_wp2_with fail
  refine bodyPost_ret (v := .tuple #[unitV 0 [] 0, .iface 35 (.int .i64 8)]) (by rw [results_cell_tmp rfl]; unfold unitV; go_simp; try rfl) rfl ⟨rfl, ?_⟩
  exact HB.out
 ·have h10 := hc.resolve_left h1
  have e1 : ((c.toNat : Int) == (q.toNat : Int)) = false := eq_byte h1
  have e10 : ((c.toNat : Int) == 10) = true := by rw [h10]; rfl
  clear h1 hc h10
  generalize c.toNat = cn at *
  generalize q.toNat = qn at *
  go_enter Tryz.func141, Tryz.ntmps141
  go_wp2_with fail
  refine bodyPost_ret (v := .tuple #[unitV 0 [] 0, .iface 35 (.int .i64 8)]) (by rw [results_cell_tmp rfl]; unfold unitV; go_simp; try rfl) rfl ⟨rfl, ?_⟩
  exact HB.out
set_option maxRecDepth 100000 in
set_option maxHeartbeats 4000000 in
theorem nextC_none (c : UInt8) (t : List UInt8) (q : UInt8) (w : World) (hl : (c :: t).length ≤ 100000) (v : Int) (bt : Bool) (hq : q = 34 ∨ q = 39) (hv : ErrVars w) (hh : Heads w) (hc : c = 92) (he : escF q (c :: t) = (v, bt, 0)) :
  Calls Tryz.prog 141 #[.string (bs (c :: t)), .int .u8 (q.toNat : Int), .func (.func 140) #[] #[]] w fun e w' => e = .returned (.tuple #[unitV 0 [] 0, .iface 35 (.int .i64 14)]) ∧ Below w.heap.size w w' := by
 have hx : ∀ W, (Instr.index 9 (.string (bs (c :: t))) (.int .i64 0)).run Tryz.prog W = .ok (.int .u8 (c.toNat : Int)) W := bs_get (l := c :: t) (i := 0) (c := c) rfl
 have hU := UAt.new w 0 0 ⟨#[]⟩
 have hB := below_alloc w (.cells #[.int .i32 0, .string ⟨#[]⟩, .int .i64 0] 201)
 obtain ⟨S, hS⟩ : ∃ S, w.heap.size = S := ⟨_, rfl⟩
 rw [hS] at hU hB ⊢
 have HU := Lib.hid hU
 have HB := Lib.hid hB
 have HZ : Hid ((w.alloc (.cells #[.int .i32 0, .string ⟨#[]⟩, .int .i64 0] 201)).heap.size = S + 1) := by show _ = _; simp [hS]
 have HS := Lib.hid hS
 clear hU hB
 have e1 : ((c.toNat : Int) == (q.toNat : Int)) = false := eq_byte (by rw [hc]; rcases hq with rfl | rfl <;> decide)
 have e10 : ((c.toNat : Int) == 10) = false := by rw [hc]; rfl
 have e92 : ((c.toNat : Int) == 92) = true := by rw [hc]; rfl
 have HE : Hid (∀ V, Below S w V → Calls Tryz.prog 170 #[.string (bs (c :: t)), .int .u8 (q.toNat : Int)] V fun e w' => e = .returned (.tuple #[unitV 0 [] 0, .bool false]) ∧ Below V.heap.size V w') := fun V hV =>
  escapeP_run (c :: t) q v bt 0 V _ _ _ _ hl hq (hv.below (by rw [hS]; exact hV)) (heads_below hh (by rw [hS]; exact hV)) he (.inl ⟨rfl, rfl, rfl, rfl, rfl⟩)
 clear hv hh he hc
 generalize bs (c :: t) = z at *
 generalize c.toNat = cn at *
 generalize q.toNat = qn at *
 go_enter Tryz.func141, Tryz.ntmps141
 go_wp2_with fail
 refine (HE.out _ HB.out).mono ?_
 rintro e w2 ⟨rfl, hw2⟩
 obtain ⟨c0, f0, c1, f1, c2, f2⟩ := (HU.out.below hw2).below (below_alloc w2 (.cells #[.int .i32 0, .string (bs ([])), .int .i64 0] 201))
 have HB2 : Hid (Below S w w2) := HB.out.trans (hw2.mono (by rw [HZ.out]; have := HS.out; omega))
 have HZ2 : Hid (S + 1 ≤ w2.heap.size) := by show _ ≤ _; rw [← HZ.out]; exact hw2.size
 clear HU HB hw2
 unfold unitV
 go_wp2_with fail
 refine bodyPost_ret (v := .tuple #[unitV 0 [] 0, .iface 35 (.int .i64 14)]) (by rw [results_cell_tmp rfl]; unfold unitV; go_simp; try rfl) rfl ⟨rfl, ?_⟩
 exact below_unit (HB2.out.alloc (by have := HZ2.out; omega) _) (Nat.le_refl _) _ _ _
set_option maxRecDepth 100000 in
set_option maxHeartbeats 4000000 in
theorem nextC_esc (c : UInt8) (t : List UInt8) (q : UInt8) (w : World) (hl : (c :: t).length ≤ 100000) (v : Int) (bt : Bool) (sz : Nat) (hs : sz ≠ 0) (hq : q = 34 ∨ q = 39) (hv : ErrVars w) (hh : Heads w) (hc : c = 92) (he : escF q (c :: t) = (v, bt, sz)) :
  Calls Tryz.prog 141 #[.string (bs (c :: t)), .int .u8 (q.toNat : Int), .func (.func 140) #[] #[]] w fun e w' => e = .returned (.tuple #[unitV v (encB v bt) sz, .nilIface]) ∧ Below w.heap.size w w' := by
 have hx : ∀ W, (Instr.index 9 (.string (bs (c :: t))) (.int .i64 0)).run Tryz.prog W = .ok (.int .u8 (c.toNat : Int)) W := bs_get (l := c :: t) (i := 0) (c := c) rfl
 have hU := UAt.new w 0 0 ⟨#[]⟩
 have hB := below_alloc w (.cells #[.int .i32 0, .string ⟨#[]⟩, .int .i64 0] 201)
 obtain ⟨S, hS⟩ : ∃ S, w.heap.size = S := ⟨_, rfl⟩
 rw [hS] at hU hB ⊢
 have HU := Lib.hid hU
 have HB := Lib.hid hB
 have HZ : Hid ((w.alloc (.cells #[.int .i32 0, .string ⟨#[]⟩, .int .i64 0] 201)).heap.size = S + 1) := by show _ = _; simp [hS]
 have HS := Lib.hid hS
 clear hU hB
 have e1 : ((c.toNat : Int) == (q.toNat : Int)) = false := eq_byte (by rw [hc]; rcases hq with rfl | rfl <;> decide)
 have e10 : ((c.toNat : Int) == 10) = false := by rw [hc]; rfl
 have e92 : ((c.toNat : Int) == 92) = true := by rw [hc]; rfl
 have HE : Hid (∀ V, Below S w V → Calls Tryz.prog 170 #[.string (bs (c :: t)), .int .u8 (q.toNat : Int)] V fun e w' => e = .returned (.tuple #[unitV v (encB v bt) sz, .bool true]) ∧ Below V.heap.size V w') := fun V hV =>
  escapeP_run (c :: t) q v bt sz V _ _ _ _ hl hq (hv.below (by rw [hS]; exact hV)) (heads_below hh (by rw [hS]; exact hV)) he (.inr ⟨hs, rfl, rfl, rfl, rfl⟩)
 clear hv hh he hc
 generalize bs (c :: t) = z at *
 generalize c.toNat = cn at *
 generalize q.toNat = qn at *
 go_enter Tryz.func141, Tryz.ntmps141
 go_wp2_with fail
 refine (HE.out _ HB.out).mono ?_
 rintro e w2 ⟨rfl, hw2⟩
 obtain ⟨c0, f0, c1, f1, c2, f2⟩ := (HU.out.below hw2).below (below_alloc w2 (.cells #[.int .i32 v, .string (bs (encB v bt)), .int .i64 (sz : Int)] 201))
 have HB2 : Hid (Below S w w2) := HB.out.trans (hw2.mono (by rw [HZ.out]; have := HS.out; omega))
 have HZ2 : Hid (S + 1 ≤ w2.heap.size) := by show _ ≤ _; rw [← HZ.out]; exact hw2.size
 clear HU HB hw2
 unfold unitV
 go_wp2_with fail
 refine bodyPost_ret (v := .tuple #[unitV v (encB v bt) sz, .nilIface]) (by rw [results_cell_tmp rfl]; unfold unitV; go_simp; try rfl) rfl ⟨rfl, ?_⟩
 exact below_unit (HB2.out.alloc (by have := HZ2.out; omega) _) (Nat.le_refl _) _ _ _
set_option maxRecDepth 100000 in
set_option maxHeartbeats 4000000 in
theorem nextC_plain (c : UInt8) (t : List UInt8) (q : UInt8) (w : World) (_hl : (c :: t).length ≤ 100000) (v : Int) (y : List UInt8) (n : Nat) (er : Value) (hc : ¬ (c = q ∨ c = 10) ∧ c ≠ 92) (HP : Hid (∀ V, Below w.heap.size w V → Calls Tryz.prog 140 #[.string (bs (c :: t))] V fun e w' => e = .returned (.tuple #[unitV v y n, er]) ∧ Below V.heap.size V w')) :
  Calls Tryz.prog 141 #[.string (bs (c :: t)), .int .u8 (q.toNat : Int), .func (.func 140) #[] #[]] w fun e w' => e = .returned (.tuple #[unitV v y n, er]) ∧ Below w.heap.size w w' := by
 have hx : ∀ W, (Instr.index 9 (.string (bs (c :: t))) (.int .i64 0)).run Tryz.prog W = .ok (.int .u8 (c.toNat : Int)) W := bs_get (l := c :: t) (i := 0) (c := c) rfl
 have hU := UAt.new w 0 0 ⟨#[]⟩
 have hB := below_alloc w (.cells #[.int .i32 0, .string ⟨#[]⟩, .int .i64 0] 201)
 obtain ⟨S, hS⟩ : ∃ S, w.heap.size = S := ⟨_, rfl⟩
 rw [hS] at hU hB ⊢
 have HU := Lib.hid hU
 have HB := Lib.hid hB
 have HZ : Hid ((w.alloc (.cells #[.int .i32 0, .string ⟨#[]⟩, .int .i64 0] 201)).heap.size = S + 1) := by show _ = _; simp [hS]
 have HS := Lib.hid hS
 clear hU hB
 rw [hS] at HP
 have e1 : ((c.toNat : Int) == (q.toNat : Int)) = false := eq_byte (fun e => hc.1 (.inl e))
 have e10 : ((c.toNat : Int) == 10) = false := eq_byte (fun e => hc.1 (.inr e))
 have e92 : ((c.toNat : Int) == 92) = false := eq_byte hc.2
 clear hc
 generalize bs (c :: t) = z at *
 generalize c.toNat = cn at *
 generalize q.toNat = qn at *
 go_enter Tryz.func141, Tryz.ntmps141
 go_wp2_with fail
 refine (HP.out _ HB.out).mono ?_
 rintro e w2 ⟨rfl, hw2⟩
 obtain ⟨c0, f0, c1, f1, c2, f2⟩ := HU.out.below hw2
 have HB2 : Hid (Below S w w2) := HB.out.trans (hw2.mono (by rw [HZ.out]; have := HS.out; omega))
 clear HU HB hw2
 unfold unitV
 go_wp2_with fail
 refine bodyPost_ret (v := .tuple #[unitV v y n, er]) (by rw [results_cell_tmp rfl]; unfold unitV; go_simp; try rfl) rfl ⟨rfl, ?_⟩
 exact below_unit HB2.out (Nat.le_refl _) _ _ _
end Go.Proofs.YtgkhjeefcflmcaaGreatDoor
namespace Go.Proofs.YtgkhjeefcflmcaaGreatDoor
open Go.RowKit Go.Sort
set_option linter.unusedSimpArgs false
theorem bl_alloc {B : Nat} {w w' : World} (h : Below B w w') (hB : B ≤ w.heap.size) (o : Obj) : Below B w (w'.alloc o) := h.alloc (Nat.le_trans hB h.size) o
set_option maxRecDepth 100000 in
set_option maxHeartbeats 4000000 in
theorem CharP_form (l : List UInt8) (w : World) (hl : l.length ≤ 100000) (hb : betB 39 l = false ∨ l.length = 2) :
  Calls Tryz.prog 107 #[.string (bs l)] w fun e w' => e = .returned (.tuple #[.int .i32 0, errOf 8]) ∧ w' = w := by
 have hr : errOf 8 = .iface 35 (.int .i64 8) := rfl
 rw [hr]
 clear hr
 cases hb9 : betB 39 l
 ·have HB := Lib.hid (fun V => betweenP_false l 39 V hl hb9)
  have HB1 : Hid (∀ V, Calls Tryz.prog 139 #[.string (bs l), .int .u8 39] V fun e w' => e = .returned (.tuple #[.string (bs []), .bool false]) ∧ w' = V) := HB
  clear hb hb9 hl HB
  generalize bs l = z at *
  go_enter Tryz.func107, Tryz.ntmps107
  go_wp2_with fail
  refine (HB1.out _).mono ?_
  rintro e w1 ⟨rfl, rfl⟩
  go_wp2_with fail
  go_ret2
  exact ⟨rfl, rfl⟩
 ·have h2 : l.length = 2 := hb.resolve_left (by rw [hb9]; decide)
  have hc : chrIn l = [] := List.eq_nil_of_length_eq_zero (by rw [chr_len]; omega)
  have HB := Lib.hid (fun V => betweenP_true l 39 V hl hb9)
  rw [hc] at HB
  have HB1 : Hid (∀ V, Calls Tryz.prog 139 #[.string (bs l), .int .u8 39] V fun e w' => e = .returned (.tuple #[.string ⟨#[]⟩, .bool true]) ∧ w' = V) := HB
  clear hb hb9 hl HB h2 hc
  generalize bs l = z at *
  go_enter Tryz.func107, Tryz.ntmps107
  go_wp2_with fail
  refine (HB1.out _).mono ?_
  rintro e w1 ⟨rfl, rfl⟩
  go_wp2_with fail
  go_ret2
  exact ⟨rfl, rfl⟩
set_option maxRecDepth 100000 in
set_option maxHeartbeats 4000000 in
theorem CharP_err (l : List UInt8) (c : UInt8) (t : List UInt8) (w : World) (hl : l.length ≤ 100000) (hb : betB 39 l = true) (hm : chrIn l = c :: t) (k : Nat)
  (HN : Hid (Calls Tryz.prog 141 #[.string (bs (c :: t)), .int .u8 39, .func (.func 140) #[] #[]] w fun e w' => e = .returned (.tuple #[unitV 0 [] 0, .iface 35 (.int .i64 (k : Int))]) ∧ Below w.heap.size w w')) :
  Calls Tryz.prog 107 #[.string (bs l)] w fun e w' => e = .returned (.tuple #[.int .i32 0, .iface 35 (.int .i64 (k : Int))]) ∧ Below w.heap.size w w' := by
 have HB := Lib.hid (fun V => betweenP_true l 39 V hl hb)
 rw [hm] at HB
 have HB1 : Hid (∀ V, Calls Tryz.prog 139 #[.string (bs l), .int .u8 39] V fun e w' => e = .returned (.tuple #[.string (bs (c :: t)), .bool true]) ∧ w' = V) := HB
 have hemp : (bs (c :: t)).toList.isEmpty = false := by rw [bs_isEmpty]; rfl
 have hsz := bs_size (c :: t)
 clear hb HB hm hl
 generalize bs l = z at *
 generalize bs (c :: t) = y at *
 generalize (c :: t).length = L at *
 go_enter Tryz.func107, Tryz.ntmps107
 go_wp2_with fail
 refine (HB1.out _).mono ?_
 rintro e w1 ⟨rfl, rfl⟩
 go_wp2_with fail
 refine (HN.out).mono ?_
 rintro e w2 ⟨rfl, hw2⟩
 have HW := Lib.hid hw2
 clear hw2
 unfold unitV
 go_wp2_with fail
 go_ret2
 exact ⟨rfl, bl_alloc HW.out (Nat.le_refl _) _⟩
set_option maxRecDepth 100000 in
set_option maxHeartbeats 4000000 in
theorem CharP_more (l : List UInt8) (c : UInt8) (t : List UInt8) (w : World) (hl : l.length ≤ 100000) (hb : betB 39 l = true) (hm : chrIn l = c :: t) (v : Int) (x : List UInt8) (n : Nat) (hn : (n : Int) < ((c :: t).length : Int))
  (HN : Hid (Calls Tryz.prog 141 #[.string (bs (c :: t)), .int .u8 39, .func (.func 140) #[] #[]] w fun e w' => e = .returned (.tuple #[unitV v x n, .nilIface]) ∧ Below w.heap.size w w')) :
  Calls Tryz.prog 107 #[.string (bs l)] w fun e w' => e = .returned (.tuple #[.int .i32 0, .iface 35 (.int .i64 8)]) ∧ Below w.heap.size w w' := by
 have HB := Lib.hid (fun V => betweenP_true l 39 V hl hb)
 rw [hm] at HB
 have HB1 : Hid (∀ V, Calls Tryz.prog 139 #[.string (bs l), .int .u8 39] V fun e w' => e = .returned (.tuple #[.string (bs (c :: t)), .bool true]) ∧ w' = V) := HB
 have hemp : (bs (c :: t)).toList.isEmpty = false := by rw [bs_isEmpty]; rfl
 have hsz := bs_size (c :: t)
 clear hb HB hm hl
 generalize bs l = z at *
 generalize bs (c :: t) = y at *
 generalize (c :: t).length = L at *
 go_enter Tryz.func107, Tryz.ntmps107
 go_wp2_with fail
 refine (HB1.out _).mono ?_
 rintro e w1 ⟨rfl, rfl⟩
 go_wp2_with fail
 refine (HN.out).mono ?_
 rintro e w2 ⟨rfl, hw2⟩
 have HW := Lib.hid hw2
 clear hw2
 unfold unitV
 go_wp2_with fail
 go_ret2
 exact ⟨rfl, bl_alloc HW.out (Nat.le_refl _) _⟩
set_option maxRecDepth 100000 in
set_option maxHeartbeats 4000000 in
theorem CharP_one (l : List UInt8) (c : UInt8) (t : List UInt8) (w : World) (hl : l.length ≤ 100000) (hb : betB 39 l = true) (hm : chrIn l = c :: t) (v : Int) (x : List UInt8) (n : Nat) (hn : ¬ (n : Int) < ((c :: t).length : Int))
  (HN : Hid (Calls Tryz.prog 141 #[.string (bs (c :: t)), .int .u8 39, .func (.func 140) #[] #[]] w fun e w' => e = .returned (.tuple #[unitV v x n, .nilIface]) ∧ Below w.heap.size w w')) :
  Calls Tryz.prog 107 #[.string (bs l)] w fun e w' => e = .returned (.tuple #[.int .i32 v, .nilIface]) ∧ Below w.heap.size w w' := by
 have HB := Lib.hid (fun V => betweenP_true l 39 V hl hb)
 rw [hm] at HB
 have HB1 : Hid (∀ V, Calls Tryz.prog 139 #[.string (bs l), .int .u8 39] V fun e w' => e = .returned (.tuple #[.string (bs (c :: t)), .bool true]) ∧ w' = V) := HB
 have hemp : (bs (c :: t)).toList.isEmpty = false := by rw [bs_isEmpty]; rfl
 have hsz := bs_size (c :: t)
 clear hb HB hm hl
 generalize bs l = z at *
 generalize bs (c :: t) = y at *
 generalize (c :: t).length = L at *
 go_enter Tryz.func107, Tryz.ntmps107
 go_wp2_with fail
 refine (HB1.out _).mono ?_
 rintro e w1 ⟨rfl, rfl⟩
 go_wp2_with fail
 refine (HN.out).mono ?_
 rintro e w2 ⟨rfl, hw2⟩
 have HW := Lib.hid hw2
 clear hw2
 unfold unitV
 go_wp2_with fail
 go_ret2
 exact ⟨rfl, bl_alloc HW.out (Nat.le_refl _) _⟩
theorem CharP_run (l : List UInt8) (r : Int) (k : Nat) (w : World) (hl : l.length ≤ 100000) (hv : ErrVars w) (hh : Heads w) (h : charF l = (r, k)) :
  Calls Tryz.prog 107 #[.string (bs l)] w fun e w' => e = .returned (.tuple #[.int .i32 r, errOf k]) ∧ Below w.heap.size w w' := by
 by_cases hf : betB 39 l = false ∨ l.length = 2
 ·have e : charF l = (0, 8) := if_pos (hf.elim .inl (fun e => .inr (.inl e)))
  rw [e] at h
  cases h
  refine (CharP_form l w hl hf).mono ?_
  rintro e w' ⟨rfl, rfl⟩
  exact ⟨rfl, Below.refl _ _⟩
 ·have hb : betB 39 l = true := by
   cases g : betB 39 l
   ·exact absurd (.inl g) hf
   ·rfl
  have h3 : 3 ≤ l.length := by
   have := bet_len hb
   rcases Nat.lt_or_ge l.length 3 with g | g
   ·exact absurd (.inr (by omega)) hf
   ·exact g
  obtain ⟨g1, g2⟩ := chr_in h3
  match hm : chrIn l with
  | [] => rw [hm] at g1; simp at g1; omega
  | c :: t =>
   rw [hm] at g1 g2
   have hl1 : l[1]? = some c := g2.symm
   have hml : (c :: t).length ≤ 100000 := by omega
   by_cases hbad : c = 39 ∨ c = 10
   ·have e : charF l = (0, 8) := if_pos (.inr (.inr (hbad.elim (fun e => .inl (by rw [hl1, e])) (fun e => .inr (by rw [hl1, e])))))
    rw [e] at h
    cases h
    exact CharP_err l c t w hl hb hm 8 (nextC_bad c t 39 w hml hbad)
   ·have hcf : charF l = if (c :: t)[0]? = some 92 then
      (if (escF 39 (c :: t)).2.2 = 0 then (0, 14) else if (escF 39 (c :: t)).2.2 ≠ (c :: t).length then (0, 8) else ((escF 39 (c :: t)).1, 0))
      else match U.dec (bi (c :: t)) with
       | none => (0, 3)
       | some (r, n) => if n ≠ (c :: t).length then (0, 8) else (r, 0) := by
     rw [← hm]
     refine if_neg (fun g => ?_)
     rcases g with g | g | g | g
     ·exact hf (.inl g)
     ·exact hf (.inr g)
     ·rw [hl1] at g; exact hbad (.inl (Option.some.inj g))
     ·rw [hl1] at g; exact hbad (.inr (Option.some.inj g))
    rw [hcf] at h
    by_cases h92 : c = 92
    ·rw [if_pos (show (c :: t)[0]? = some 92 by rw [h92]; rfl)] at h
     obtain ⟨v, bt, sz, he⟩ : ∃ v bt sz, escF 39 (c :: t) = (v, bt, sz) := ⟨_, _, _, rfl⟩
     rw [he] at h
     by_cases hs : sz = 0
     ·rw [if_pos hs] at h
      cases h
      subst hs
      exact CharP_err l c t w hl hb hm 14 (nextC_none c t 39 w hml v bt (.inr rfl) hv hh h92 he)
     ·rw [if_neg hs] at h
      have hsl := (escF_size he hs).2.1
      have HN := nextC_esc c t 39 w hml v bt sz hs (.inr rfl) hv hh h92 he
      by_cases hq : sz = (c :: t).length
      ·rw [if_neg (fun g => g hq)] at h
       cases h
       exact CharP_one l c t w hl hb hm v _ sz (by omega) HN
      ·rw [if_pos hq] at h
       cases h
       exact CharP_more l c t w hl hb hm v _ sz (by omega) HN
    ·rw [if_neg (show ¬ (c :: t)[0]? = some 92 from fun g => h92 (Option.some.inj g))] at h
     have h0 : 0 < (c :: t).length := by simp
     cases hd : U.dec (bi (c :: t)) with
     | none =>
      rw [hd] at h
      cases h
      exact CharP_err l c t w hl hb hm 3 (nextC_plain c t 39 w hml 0 [] 0 _ ⟨hbad, h92⟩ (fun V hV => plainC_none (c :: t) V hml h0 (heads_below hh hV) hd))
     | some a =>
      obtain ⟨r', n⟩ := a
      rw [hd] at h
      have HN := nextC_plain c t 39 w hml r' _ n _ ⟨hbad, h92⟩ (fun V hV => plainC_some (c :: t) r' n V hml h0 (heads_below hh hV) hd)
      have hnl : n ≤ (c :: t).length := by
       obtain ⟨g1, g2, u, g3⟩ := U.enc_dec hd
       have := congrArg List.length g3
       rw [bi_length, List.length_append, U.enc_length, ← g2] at this
       omega
      simp only at h
      by_cases hq : n = (c :: t).length
      ·rw [if_neg (fun g => g hq)] at h
       cases h
       exact CharP_one l c t w hl hb hm _ _ _ (by omega) HN
      ·rw [if_pos hq] at h
       cases h
       exact CharP_more l c t w hl hb hm _ _ _ (by omega) HN
end Go.Proofs.YtgkhjeefcflmcaaGreatDoor
