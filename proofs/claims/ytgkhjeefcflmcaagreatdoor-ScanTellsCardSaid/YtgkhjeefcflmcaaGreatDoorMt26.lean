/-
  Stage 10: the program's read of a numeral.
-/
import Derived.Test.YtgkhjeefcflmcaaGreatDoorMt24
import Derived.Test.YtgkhjeefcflmcaaGreatDoorMt25
namespace Go.Proofs.YtgkhjeefcflmcaaGreatDoor
open Go.RowKit Go.Sort
set_option linter.unusedSimpArgs false
theorem wp_call2 {P : Program} {Q : Exit → Act → World → Prop} {o : Oper} {K : Act → World → Prop} {a : Act} {w : World} {f : Nat} {xs : List Operand} {ts : Array TypeId} (hop : o.op = .call { callee := .value (.func f), args := xs.toArray, argTypes := ts }) (hen : EntersP P f)
  {args : List Value} (hargs : xs.map a.eval = args) {α β : Type} {v : α → β → Value} {R : α → β → World → Prop} (hc : Calls P f args.toArray w fun e w' => ∃ x y, e = .returned (v x y) ∧ R x y w') (hk : ∀ x y w', R x y w' → K (a.put o.dst (v x y)) w') : o.wp P a w K Q := by
 have hrun : (execOp a.eval o).run P w = .ok (.enter f args.toArray) w := by
  have h1 : (resolve a.eval { callee := .value (.func f), args := xs.toArray, argTypes := ts } o.type).run P w = .ok { target := .fn (.func f) #[], args := args.toArray } w := by
   simp [resolve, Act.eval, Deferred.ofValue, ← hargs]
  unfold execOp
  simp only [hop, Sem.run_bind, h1, Result.andThen_ok, invoke, Array.append_empty, hen args.toArray w]
 unfold Oper.wp
 rw [hrun, Oper.upon_enter]
 refine hc.mono ?_
 rintro e w' ⟨x, y, rfl, hr⟩
 exact hk x y w' hr
theorem enters_ParseUint : EntersP Tryz.prog 229 := entersP_of Tryz.func229 (by kernel_rfl) rfl
structure NAt (w : World) (b : Nat) (h d B : Nat) (o : Bool) : Prop where
 c0 : w.cell? ⟨b, 0, none⟩ = some (.int .i64 (h : Int))
 c1 : w.cell? ⟨b, 1, none⟩ = some (.int .i64 (d : Int))
 c2 : w.cell? ⟨b, 2, none⟩ = some (.int .i64 (B : Int))
 c3 : w.cell? ⟨b, 3, none⟩ = some (.bool o)
theorem NAt.keep {w w' : World} {b C : Nat} {h d B : Nat} {o : Bool} (g : NAt w b h d B o) (hb : Below C w w') (hB : b < C) : NAt w' b h d B o :=
 ⟨(hb.cell hB).trans g.c0, (hb.cell hB).trans g.c1, (hb.cell hB).trans g.c2, (hb.cell hB).trans g.c3⟩
theorem NAt.lt {w : World} {b : Nat} {h d B : Nat} {o : Bool} (g : NAt w b h d B o) : b < w.heap.size := World.block_lt_of_cell? w _ g.c0
theorem NAt.new (w : World) (h d B : Nat) (o : Bool) : NAt (w.alloc (.cells #[.int .i64 (h : Int), .int .i64 (d : Int), .int .i64 (B : Int), .bool o] 263)) w.heap.size h d B o := by
 constructor <;> (rw [World.cell?_alloc_at _ _ _ _ rfl]; rfl)
def numeV (h d B : Nat) (o : Bool) : Value := .agg #[.int .i64 (h : Int), .int .i64 (d : Int), .int .i64 (B : Int), .bool o]
theorem PuPub.ok {B M : Nat} {m : List UInt8} {x : Int} {er : Value} (h : PuPub B M m x er) (g : PuOk B M m) : x = (num B m : Int) ∧ er = .nilIface := by
 rcases h with h | h
 ·exact h.2
 ·exact absurd g h.1
theorem PuPub.no {B M : Nat} {m : List UInt8} {x : Int} {er : Value} (h : PuPub B M m x er) (g : ¬ PuOk B M m) : ∃ T p, er = .iface T p := by
 rcases h with h | h
 ·exact absurd h.1 g
 ·exact h.2
theorem numZ_pu {B M k : Nat} {l : List UInt8} (h : k ≤ l.length) : (PuOk B M (l.take k) ↔ 0 ≤ numZ B k l ∧ numZ B k l ≤ (M : Int)) ∧ (PuOk B M (l.take k) → numZ B k l = (num B (l.take k) : Int)) := by
 unfold PuOk numZ
 by_cases g : okDig B (l.take k) = true
 ·rw [if_neg (fun e => e.elim (by omega) (by rw [g]; decide))]
  refine ⟨⟨fun e => ⟨by omega, by have := e.2; omega⟩, fun e => ⟨g, by omega⟩⟩, fun _ => rfl⟩
 ·rw [if_pos (.inr (by simpa using g))]
  exact ⟨⟨fun e => absurd e.1 g, fun e => absurd e.1 (by decide)⟩, fun e => absurd e.1 g⟩
set_option maxRecDepth 100000 in
set_option maxHeartbeats 4000000 in
theorem read_short (l : List UInt8) (h d B : Nat) (o : Bool) (w : World) (hl : l.length ≤ 100000) (hh : h ≤ 2) (hd : d ≤ 8) (hlt : l.length < h + d) :
  Calls Tryz.prog 201 #[numeV h d B o, .string (bs l)] w fun e w' => e = .returned (.tuple #[unitV 0 [] 0, .bool false]) ∧ Below w.heap.size w w' := by
 have hsz := bs_size l
 have hlz : (l.length : Int) < (h : Int) + (d : Int) := by omega
 clear hlt
 generalize l.length = n at *
 generalize bs l = z at *
 unfold numeV
 go_enter Tryz.func201, Tryz.ntmps201
 go_wp2_with fail
 refine bodyPost_ret (by rw [results_cell_tmp rfl]; go_simp; try rfl) rfl ⟨rfl, ?_⟩
 exact (below_alloc _ _).alloc (by simp) _
set_option maxRecDepth 100000 in
set_option maxHeartbeats 4000000 in
theorem read_none (l : List UInt8) (h d B : Nat) (w : World) (hl : l.length ≤ 100000) (hh : h ≤ 2) (hd : d ≤ 8) (hv : ErrVars w) (hge : h + d ≤ l.length) (HP : Hid (∀ V, ErrVars V → Calls Tryz.prog 229 #[.string (bs ((l.drop h).take d)), .int .i64 (B : Int), .int .i64 8] V fun e w' => ∃ x er, e = .returned (.tuple #[.int .u64 x, er]) ∧ PuPub B 255 ((l.drop h).take d) x er ∧ Below V.heap.size V w')) (hok : ¬ PuOk B 255 ((l.drop h).take d)) :
  Calls Tryz.prog 201 #[numeV h d B false, .string (bs l)] w fun e w' => e = .returned (.tuple #[unitV 0 [] 0, .bool false]) ∧ Below w.heap.size w w' := by
 have hsz := bs_size l
 obtain ⟨sz, hz⟩ : ∃ sz, h + d = sz := ⟨_, rfl⟩
 have hzz : (h : Int) + (d : Int) = (sz : Int) := by omega
 have hex : (bs l).extract h sz = bs ((l.drop h).take d) := by rw [bs_extract, List.drop_take, ← hz, Nat.add_sub_cancel_left]
 have hge2 : ¬ (l.length : Int) < (sz : Int) := by omega
 have hzl : sz ≤ l.length := by omega
 have hzh : h ≤ sz := by omega
 have hz10 : sz ≤ 10 := by omega
 have HZ := Lib.hid hz
 obtain ⟨S, hS⟩ : ∃ S, w.heap.size = S := ⟨_, rfl⟩
 have HVS : Hid (∀ V, Below S w V → ErrVars V) := fun V hb => hv.below (by rw [hS]; exact hb)
 have HNB : NAt (w.alloc (.cells #[.int .i64 (h : Int), .int .i64 (d : Int), .int .i64 (B : Int), .bool false] 263)) S h d B false := by
  rw [← hS]
  exact NAt.new w h d B false
 obtain ⟨W1, hW1⟩ : ∃ W1, (w.alloc (.cells #[.int .i64 (h : Int), .int .i64 (d : Int), .int .i64 (B : Int), .bool false] 263)).alloc (.cells #[.int .i32 0, .string ⟨#[]⟩, .int .i64 0] 201) = W1 := ⟨_, rfl⟩
 have hW0s : (w.alloc (.cells #[.int .i64 (h : Int), .int .i64 (d : Int), .int .i64 (B : Int), .bool false] 263)).heap.size = S + 1 := by rw [← hS]; simp
 have HU0 := UAt.new (w.alloc (.cells #[.int .i64 (h : Int), .int .i64 (d : Int), .int .i64 (B : Int), .bool false] 263)) 0 0 ⟨#[]⟩
 rw [hW0s, hW1] at HU0
 have HN1 : NAt W1 S h d B false := by rw [← hW1]; exact HNB.keep (below_alloc _ _) (by omega)
 have HB1 : Below S w W1 := by rw [← hW1, ← hS]; exact (below_alloc _ _).alloc (by simp) _
 have hW1s : W1.heap.size = S + 2 := by rw [← hW1]; simp [hS]
 have HS := Lib.hid hS
 have HU1 := Lib.hid HU0
 have HN2 := Lib.hid HN1
 have HB2 := Lib.hid HB1
 have HZ2 := Lib.hid hW1s
 rw [hS]
 (try rw [hz])
 clear hW0s HU0 HN1 HB1 hW1s HNB hv hz hge
 obtain ⟨m, hm⟩ : ∃ m, (l.drop h).take d = m := ⟨_, rfl⟩
 rw [hm] at hex HP hok
 (try rw [hm])
 obtain ⟨v, hvn⟩ : ∃ v, num B m = v := ⟨_, rfl⟩
 have HVN := Lib.hid hvn
 (try rw [hvn])
 clear hm hvn
 generalize bs l = z at *
 generalize l.length = n at *
 unfold numeV
 go_enter Tryz.func201, Tryz.ntmps201
 have hn := HN2.out
 obtain ⟨n0, n1, n2, n3⟩ := hn
 go_wp2_with fail
 go_upto_region 7 with fail
 clear hW1 n0 n1 n2 n3
 refine rg_begin (fun W => NAt W S h d B false) (by kernel_rfl) (HN2.out.keep ((Below.refl _ W1).drew) HN2.out.lt) (fun hS => ?_)
 have HUd := Lib.hid (HU1.out.below ((Below.refl _ W1).drew))
 have HBd := Lib.hid HB2.out.drew
 have HZd : Hid (W1.drew.heap.size = S + 2) := HZ2
 clear HU1 HB2 HZ2 HN2
 generalize W1.drew = W2 at *
 refine rg_take 0 (.string z) rfl (by kernel_rfl) (by kernel_rfl) (by kernel_rfl) (fun _ _ _ h => h) rfl (fun w _ => ?_) hS ?_
 ·go_simp
 simp only [zA, zB, zC, Act.put, zD, zE, zF]
 refine rg_take 1 (.pointer (some ⟨S, 0, none⟩)) rfl (by kernel_rfl) (by kernel_rfl) (by kernel_rfl) (fun _ _ _ h => h) rfl (fun w _ => ?_) hS ?_
 ·go_simp
 simp only [zA, zB, zC, Act.put, zD, zE, zF]
 refine rg_take 2 (.int .i64 (h : Int)) rfl (by kernel_rfl) (by kernel_rfl) (by kernel_rfl) (fun _ _ _ h => h) rfl (fun w hSw => ?_) hS ?_
 ·have e1 := hSw.c0
  go_simp
 simp only [zA, zB, zC, Act.put, zD, zE, zF]
 refine rg_take 3 (.int .i64 (sz : Int)) rfl (by kernel_rfl) (by kernel_rfl) (by kernel_rfl) (fun _ _ _ h => h) rfl (fun w _ => ?_) hS ?_
 ·go_simp
 simp only [zA, zB, zC, Act.put, zD, zE, zF]
 refine rg_take 4 (.string (bs m)) rfl (by kernel_rfl) (by kernel_rfl) (by kernel_rfl) (fun _ _ _ h => h) rfl (fun w _ => ?_) hS ?_
 ·go_simp
 simp only [zA, zB, zC, Act.put, zD, zE, zF]
 refine rg_take 5 (.pointer (some ⟨S, 2, none⟩)) rfl (by kernel_rfl) (by kernel_rfl) (by kernel_rfl) (fun _ _ _ h => h) rfl (fun w _ => ?_) hS ?_
 ·go_simp
 simp only [zA, zB, zC, Act.put, zD, zE, zF]
 refine rg_take 6 (.int .i64 (B : Int)) rfl (by kernel_rfl) (by kernel_rfl) (by kernel_rfl) (fun _ _ _ h => h) rfl (fun w hSw => ?_) hS ?_
 ·have e1 := hSw.c2
  go_simp
 simp only [zA, zB, zC, Act.put, zD, zE, zF]
 refine rg_take 7 (.int .i64 8) rfl (by kernel_rfl) (by kernel_rfl) (by kernel_rfl) (fun _ _ _ h => h) rfl (fun w _ => ?_) hS ?_
 ·go_simp
 simp only [zA, zB, zC, Act.put, zD, zE, zF]
 refine rg_one 8 (by kernel_rfl) (rs_of rfl rfl (wp_call2 rfl enters_ParseUint rfl (HP.out _ (HVS.out _ HBd.out)) (fun x er V1 hV => ⟨hS.keep hV.2 hS.lt, ?_⟩)))
 obtain ⟨hx, hV⟩ := hV
 replace hS := hS.keep hV hS.lt
 have HU3 := Lib.hid (HUd.out.below hV)
 have HB3 := Lib.hid (HBd.out.trans (hV.mono (by rw [HZd.out]; have := HS.out; omega)))
 have HZ3 : Hid (S + 2 ≤ V1.heap.size) := by show _ ≤ _; rw [← HZd.out]; exact hV.size
 clear hV HUd HBd HZd
 simp only [zA, zB, zC, Act.put, zD, zE, zF]
 refine rg_take 9 (.tuple #[.int .u64 x, er]) rfl (by kernel_rfl) (by kernel_rfl) (by kernel_rfl) (fun _ _ _ h => h) rfl (fun w _ => ?_) hS ?_
 ·go_simp
 simp only [zA, zB, zC, Act.put, zD, zE, zF]
 obtain ⟨T, p, rfl⟩ := hx.no hok
 refine rg_take 10 (.int .u64 x) rfl (by kernel_rfl) (by kernel_rfl) (by kernel_rfl) (fun _ _ _ h => h) rfl (fun w _ => ?_) hS ?_
 ·go_simp
 simp only [zA, zB, zC, Act.put, zD, zE, zF]
 refine rg_take 11 (.iface T p) rfl (by kernel_rfl) (by kernel_rfl) (by kernel_rfl) (fun _ _ _ h => h) rfl (fun w _ => ?_) hS ?_
 ·go_simp
 simp only [zA, zB, zC, Act.put, zD, zE, zF]
 refine rg_take 12 (.int .u64 x) rfl (by kernel_rfl) (by kernel_rfl) (by kernel_rfl) (fun _ _ _ h => h) rfl (fun w _ => ?_) hS ?_
 ·go_simp
 simp only [zA, zB, zC, Act.put, zD, zE, zF]
 refine rg_take 13 (.iface T p) rfl (by kernel_rfl) (by kernel_rfl) (by kernel_rfl) (fun _ _ _ h => h) rfl (fun w _ => ?_) hS ?_
 ·go_simp
 simp only [zA, zB, zC, Act.put, zD, zE, zF]
 refine wpAnyH_done (by kernel_rfl) ?_ _
 (try simp only [Exit.inBlock, Exit.then])
 obtain ⟨n0, n1, n2, n3⟩ := hS
 obtain ⟨c0, f0, c1, f1, c2, f2⟩ := HU3.out
 go_wp2_with fail
 refine bodyPost_ret (by rw [results_cell_tmp rfl]; go_simp; try rfl) rfl ⟨rfl, ?_⟩
 exact below_unit HB3.out (by omega) _ _ _
set_option maxRecDepth 100000 in
set_option maxHeartbeats 4000000 in
theorem read_noneR (l : List UInt8) (h d B : Nat) (w : World) (hl : l.length ≤ 100000) (hh : h ≤ 2) (hd : d ≤ 8) (hv : ErrVars w) (hge : h + d ≤ l.length) (HP : Hid (∀ V, ErrVars V → Calls Tryz.prog 229 #[.string (bs ((l.drop h).take d)), .int .i64 (B : Int), .int .i64 31] V fun e w' => ∃ x er, e = .returned (.tuple #[.int .u64 x, er]) ∧ PuPub B 2147483647 ((l.drop h).take d) x er ∧ Below V.heap.size V w')) (hok : ¬ PuOk B 2147483647 ((l.drop h).take d)) :
  Calls Tryz.prog 201 #[numeV h d B true, .string (bs l)] w fun e w' => e = .returned (.tuple #[unitV 0 [] 0, .bool false]) ∧ Below w.heap.size w w' := by
 have hsz := bs_size l
 obtain ⟨sz, hz⟩ : ∃ sz, h + d = sz := ⟨_, rfl⟩
 have hzz : (h : Int) + (d : Int) = (sz : Int) := by omega
 have hex : (bs l).extract h sz = bs ((l.drop h).take d) := by rw [bs_extract, List.drop_take, ← hz, Nat.add_sub_cancel_left]
 have hge2 : ¬ (l.length : Int) < (sz : Int) := by omega
 have hzl : sz ≤ l.length := by omega
 have hzh : h ≤ sz := by omega
 have hz10 : sz ≤ 10 := by omega
 have HZ := Lib.hid hz
 obtain ⟨S, hS⟩ : ∃ S, w.heap.size = S := ⟨_, rfl⟩
 have HVS : Hid (∀ V, Below S w V → ErrVars V) := fun V hb => hv.below (by rw [hS]; exact hb)
 have HNB : NAt (w.alloc (.cells #[.int .i64 (h : Int), .int .i64 (d : Int), .int .i64 (B : Int), .bool true] 263)) S h d B true := by
  rw [← hS]
  exact NAt.new w h d B true
 obtain ⟨W1, hW1⟩ : ∃ W1, (w.alloc (.cells #[.int .i64 (h : Int), .int .i64 (d : Int), .int .i64 (B : Int), .bool true] 263)).alloc (.cells #[.int .i32 0, .string ⟨#[]⟩, .int .i64 0] 201) = W1 := ⟨_, rfl⟩
 have hW0s : (w.alloc (.cells #[.int .i64 (h : Int), .int .i64 (d : Int), .int .i64 (B : Int), .bool true] 263)).heap.size = S + 1 := by rw [← hS]; simp
 have HU0 := UAt.new (w.alloc (.cells #[.int .i64 (h : Int), .int .i64 (d : Int), .int .i64 (B : Int), .bool true] 263)) 0 0 ⟨#[]⟩
 rw [hW0s, hW1] at HU0
 have HN1 : NAt W1 S h d B true := by rw [← hW1]; exact HNB.keep (below_alloc _ _) (by omega)
 have HB1 : Below S w W1 := by rw [← hW1, ← hS]; exact (below_alloc _ _).alloc (by simp) _
 have hW1s : W1.heap.size = S + 2 := by rw [← hW1]; simp [hS]
 have HS := Lib.hid hS
 have HU1 := Lib.hid HU0
 have HN2 := Lib.hid HN1
 have HB2 := Lib.hid HB1
 have HZ2 := Lib.hid hW1s
 rw [hS]
 (try rw [hz])
 clear hW0s HU0 HN1 HB1 hW1s HNB hv hz hge
 obtain ⟨m, hm⟩ : ∃ m, (l.drop h).take d = m := ⟨_, rfl⟩
 rw [hm] at hex HP hok
 (try rw [hm])
 obtain ⟨v, hvn⟩ : ∃ v, num B m = v := ⟨_, rfl⟩
 have HVN := Lib.hid hvn
 (try rw [hvn])
 clear hm hvn
 generalize bs l = z at *
 generalize l.length = n at *
 unfold numeV
 go_enter Tryz.func201, Tryz.ntmps201
 have hn := HN2.out
 obtain ⟨n0, n1, n2, n3⟩ := hn
 go_wp2_with fail
 go_upto_region 7 with fail
 clear hW1 n0 n1 n2 n3
 refine rg_begin (fun W => NAt W S h d B true) (by kernel_rfl) (HN2.out.keep ((Below.refl _ W1).drew) HN2.out.lt) (fun hS => ?_)
 have HUd := Lib.hid (HU1.out.below ((Below.refl _ W1).drew))
 have HBd := Lib.hid HB2.out.drew
 have HZd : Hid (W1.drew.heap.size = S + 2) := HZ2
 clear HU1 HB2 HZ2 HN2
 generalize W1.drew = W2 at *
 refine rg_take 0 (.string z) rfl (by kernel_rfl) (by kernel_rfl) (by kernel_rfl) (fun _ _ _ h => h) rfl (fun w _ => ?_) hS ?_
 ·go_simp
 simp only [zA, zB, zC, Act.put, zD, zE, zF]
 refine rg_take 1 (.pointer (some ⟨S, 0, none⟩)) rfl (by kernel_rfl) (by kernel_rfl) (by kernel_rfl) (fun _ _ _ h => h) rfl (fun w _ => ?_) hS ?_
 ·go_simp
 simp only [zA, zB, zC, Act.put, zD, zE, zF]
 refine rg_take 2 (.int .i64 (h : Int)) rfl (by kernel_rfl) (by kernel_rfl) (by kernel_rfl) (fun _ _ _ h => h) rfl (fun w hSw => ?_) hS ?_
 ·have e1 := hSw.c0
  go_simp
 simp only [zA, zB, zC, Act.put, zD, zE, zF]
 refine rg_take 3 (.int .i64 (sz : Int)) rfl (by kernel_rfl) (by kernel_rfl) (by kernel_rfl) (fun _ _ _ h => h) rfl (fun w _ => ?_) hS ?_
 ·go_simp
 simp only [zA, zB, zC, Act.put, zD, zE, zF]
 refine rg_take 4 (.string (bs m)) rfl (by kernel_rfl) (by kernel_rfl) (by kernel_rfl) (fun _ _ _ h => h) rfl (fun w _ => ?_) hS ?_
 ·go_simp
 simp only [zA, zB, zC, Act.put, zD, zE, zF]
 refine rg_take 5 (.pointer (some ⟨S, 2, none⟩)) rfl (by kernel_rfl) (by kernel_rfl) (by kernel_rfl) (fun _ _ _ h => h) rfl (fun w _ => ?_) hS ?_
 ·go_simp
 simp only [zA, zB, zC, Act.put, zD, zE, zF]
 refine rg_take 6 (.int .i64 (B : Int)) rfl (by kernel_rfl) (by kernel_rfl) (by kernel_rfl) (fun _ _ _ h => h) rfl (fun w hSw => ?_) hS ?_
 ·have e1 := hSw.c2
  go_simp
 simp only [zA, zB, zC, Act.put, zD, zE, zF]
 refine rg_take 7 (.int .i64 31) rfl (by kernel_rfl) (by kernel_rfl) (by kernel_rfl) (fun _ _ _ h => h) rfl (fun w _ => ?_) hS ?_
 ·go_simp
 simp only [zA, zB, zC, Act.put, zD, zE, zF]
 refine rg_one 8 (by kernel_rfl) (rs_of rfl rfl (wp_call2 rfl enters_ParseUint rfl (HP.out _ (HVS.out _ HBd.out)) (fun x er V1 hV => ⟨hS.keep hV.2 hS.lt, ?_⟩)))
 obtain ⟨hx, hV⟩ := hV
 replace hS := hS.keep hV hS.lt
 have HU3 := Lib.hid (HUd.out.below hV)
 have HB3 := Lib.hid (HBd.out.trans (hV.mono (by rw [HZd.out]; have := HS.out; omega)))
 have HZ3 : Hid (S + 2 ≤ V1.heap.size) := by show _ ≤ _; rw [← HZd.out]; exact hV.size
 clear hV HUd HBd HZd
 simp only [zA, zB, zC, Act.put, zD, zE, zF]
 refine rg_take 9 (.tuple #[.int .u64 x, er]) rfl (by kernel_rfl) (by kernel_rfl) (by kernel_rfl) (fun _ _ _ h => h) rfl (fun w _ => ?_) hS ?_
 ·go_simp
 simp only [zA, zB, zC, Act.put, zD, zE, zF]
 obtain ⟨T, p, rfl⟩ := hx.no hok
 refine rg_take 10 (.int .u64 x) rfl (by kernel_rfl) (by kernel_rfl) (by kernel_rfl) (fun _ _ _ h => h) rfl (fun w _ => ?_) hS ?_
 ·go_simp
 simp only [zA, zB, zC, Act.put, zD, zE, zF]
 refine rg_take 11 (.iface T p) rfl (by kernel_rfl) (by kernel_rfl) (by kernel_rfl) (fun _ _ _ h => h) rfl (fun w _ => ?_) hS ?_
 ·go_simp
 simp only [zA, zB, zC, Act.put, zD, zE, zF]
 refine rg_take 12 (.int .u64 x) rfl (by kernel_rfl) (by kernel_rfl) (by kernel_rfl) (fun _ _ _ h => h) rfl (fun w _ => ?_) hS ?_
 ·go_simp
 simp only [zA, zB, zC, Act.put, zD, zE, zF]
 refine rg_take 13 (.iface T p) rfl (by kernel_rfl) (by kernel_rfl) (by kernel_rfl) (fun _ _ _ h => h) rfl (fun w _ => ?_) hS ?_
 ·go_simp
 simp only [zA, zB, zC, Act.put, zD, zE, zF]
 refine wpAnyH_done (by kernel_rfl) ?_ _
 (try simp only [Exit.inBlock, Exit.then])
 obtain ⟨n0, n1, n2, n3⟩ := hS
 obtain ⟨c0, f0, c1, f1, c2, f2⟩ := HU3.out
 go_wp2_with fail
 refine bodyPost_ret (by rw [results_cell_tmp rfl]; go_simp; try rfl) rfl ⟨rfl, ?_⟩
 exact below_unit HB3.out (by omega) _ _ _
set_option maxRecDepth 100000 in
set_option maxHeartbeats 4000000 in
theorem read_byte (l : List UInt8) (h d B : Nat) (w : World) (hl : l.length ≤ 100000) (hh : h ≤ 2) (hd : d ≤ 8) (hv : ErrVars w) (hge : h + d ≤ l.length) (HP : Hid (∀ V, ErrVars V → Calls Tryz.prog 229 #[.string (bs ((l.drop h).take d)), .int .i64 (B : Int), .int .i64 8] V fun e w' => ∃ x er, e = .returned (.tuple #[.int .u64 x, er]) ∧ PuPub B 255 ((l.drop h).take d) x er ∧ Below V.heap.size V w')) (hok : PuOk B 255 ((l.drop h).take d)) :
  Calls Tryz.prog 201 #[numeV h d B false, .string (bs l)] w fun e w' => e = .returned (.tuple #[unitV (num B ((l.drop h).take d) : Int) [UInt8.ofNat (num B ((l.drop h).take d))] (h + d), .bool true]) ∧ Below w.heap.size w w' := by
 have hsz := bs_size l
 obtain ⟨sz, hz⟩ : ∃ sz, h + d = sz := ⟨_, rfl⟩
 have hzz : (h : Int) + (d : Int) = (sz : Int) := by omega
 have hex : (bs l).extract h sz = bs ((l.drop h).take d) := by rw [bs_extract, List.drop_take, ← hz, Nat.add_sub_cancel_left]
 have hge2 : ¬ (l.length : Int) < (sz : Int) := by omega
 have hzl : sz ≤ l.length := by omega
 have hzh : h ≤ sz := by omega
 have hz10 : sz ≤ 10 := by omega
 have HZ := Lib.hid hz
 obtain ⟨S, hS⟩ : ∃ S, w.heap.size = S := ⟨_, rfl⟩
 have HVS : Hid (∀ V, Below S w V → ErrVars V) := fun V hb => hv.below (by rw [hS]; exact hb)
 have HNB : NAt (w.alloc (.cells #[.int .i64 (h : Int), .int .i64 (d : Int), .int .i64 (B : Int), .bool false] 263)) S h d B false := by
  rw [← hS]
  exact NAt.new w h d B false
 obtain ⟨W1, hW1⟩ : ∃ W1, (w.alloc (.cells #[.int .i64 (h : Int), .int .i64 (d : Int), .int .i64 (B : Int), .bool false] 263)).alloc (.cells #[.int .i32 0, .string ⟨#[]⟩, .int .i64 0] 201) = W1 := ⟨_, rfl⟩
 have hW0s : (w.alloc (.cells #[.int .i64 (h : Int), .int .i64 (d : Int), .int .i64 (B : Int), .bool false] 263)).heap.size = S + 1 := by rw [← hS]; simp
 have HU0 := UAt.new (w.alloc (.cells #[.int .i64 (h : Int), .int .i64 (d : Int), .int .i64 (B : Int), .bool false] 263)) 0 0 ⟨#[]⟩
 rw [hW0s, hW1] at HU0
 have HN1 : NAt W1 S h d B false := by rw [← hW1]; exact HNB.keep (below_alloc _ _) (by omega)
 have HB1 : Below S w W1 := by rw [← hW1, ← hS]; exact (below_alloc _ _).alloc (by simp) _
 have hW1s : W1.heap.size = S + 2 := by rw [← hW1]; simp [hS]
 have HS := Lib.hid hS
 have HU1 := Lib.hid HU0
 have HN2 := Lib.hid HN1
 have HB2 := Lib.hid HB1
 have HZ2 := Lib.hid hW1s
 rw [hS]
 (try rw [hz])
 clear hW0s HU0 HN1 HB1 hW1s HNB hv hz hge
 obtain ⟨m, hm⟩ : ∃ m, (l.drop h).take d = m := ⟨_, rfl⟩
 rw [hm] at hex HP hok
 (try rw [hm])
 obtain ⟨v, hvn⟩ : ∃ v, num B m = v := ⟨_, rfl⟩
 have HVN := Lib.hid hvn
 (try rw [hvn])
 clear hm hvn
 generalize bs l = z at *
 generalize l.length = n at *
 unfold numeV
 go_enter Tryz.func201, Tryz.ntmps201
 have hn := HN2.out
 obtain ⟨n0, n1, n2, n3⟩ := hn
 go_wp2_with fail
 go_upto_region 7 with fail
 clear hW1 n0 n1 n2 n3
 refine rg_begin (fun W => NAt W S h d B false) (by kernel_rfl) (HN2.out.keep ((Below.refl _ W1).drew) HN2.out.lt) (fun hS => ?_)
 have HUd := Lib.hid (HU1.out.below ((Below.refl _ W1).drew))
 have HBd := Lib.hid HB2.out.drew
 have HZd : Hid (W1.drew.heap.size = S + 2) := HZ2
 clear HU1 HB2 HZ2 HN2
 generalize W1.drew = W2 at *
 refine rg_take 0 (.string z) rfl (by kernel_rfl) (by kernel_rfl) (by kernel_rfl) (fun _ _ _ h => h) rfl (fun w _ => ?_) hS ?_
 ·go_simp
 simp only [zA, zB, zC, Act.put, zD, zE, zF]
 refine rg_take 1 (.pointer (some ⟨S, 0, none⟩)) rfl (by kernel_rfl) (by kernel_rfl) (by kernel_rfl) (fun _ _ _ h => h) rfl (fun w _ => ?_) hS ?_
 ·go_simp
 simp only [zA, zB, zC, Act.put, zD, zE, zF]
 refine rg_take 2 (.int .i64 (h : Int)) rfl (by kernel_rfl) (by kernel_rfl) (by kernel_rfl) (fun _ _ _ h => h) rfl (fun w hSw => ?_) hS ?_
 ·have e1 := hSw.c0
  go_simp
 simp only [zA, zB, zC, Act.put, zD, zE, zF]
 refine rg_take 3 (.int .i64 (sz : Int)) rfl (by kernel_rfl) (by kernel_rfl) (by kernel_rfl) (fun _ _ _ h => h) rfl (fun w _ => ?_) hS ?_
 ·go_simp
 simp only [zA, zB, zC, Act.put, zD, zE, zF]
 refine rg_take 4 (.string (bs m)) rfl (by kernel_rfl) (by kernel_rfl) (by kernel_rfl) (fun _ _ _ h => h) rfl (fun w _ => ?_) hS ?_
 ·go_simp
 simp only [zA, zB, zC, Act.put, zD, zE, zF]
 refine rg_take 5 (.pointer (some ⟨S, 2, none⟩)) rfl (by kernel_rfl) (by kernel_rfl) (by kernel_rfl) (fun _ _ _ h => h) rfl (fun w _ => ?_) hS ?_
 ·go_simp
 simp only [zA, zB, zC, Act.put, zD, zE, zF]
 refine rg_take 6 (.int .i64 (B : Int)) rfl (by kernel_rfl) (by kernel_rfl) (by kernel_rfl) (fun _ _ _ h => h) rfl (fun w hSw => ?_) hS ?_
 ·have e1 := hSw.c2
  go_simp
 simp only [zA, zB, zC, Act.put, zD, zE, zF]
 refine rg_take 7 (.int .i64 8) rfl (by kernel_rfl) (by kernel_rfl) (by kernel_rfl) (fun _ _ _ h => h) rfl (fun w _ => ?_) hS ?_
 ·go_simp
 simp only [zA, zB, zC, Act.put, zD, zE, zF]
 refine rg_one 8 (by kernel_rfl) (rs_of rfl rfl (wp_call2 rfl enters_ParseUint rfl (HP.out _ (HVS.out _ HBd.out)) (fun x er V1 hV => ⟨hS.keep hV.2 hS.lt, ?_⟩)))
 obtain ⟨hx, hV⟩ := hV
 replace hS := hS.keep hV hS.lt
 have HU3 := Lib.hid (HUd.out.below hV)
 have HB3 := Lib.hid (HBd.out.trans (hV.mono (by rw [HZd.out]; have := HS.out; omega)))
 have HZ3 : Hid (S + 2 ≤ V1.heap.size) := by show _ ≤ _; rw [← HZd.out]; exact hV.size
 clear hV HUd HBd HZd
 simp only [zA, zB, zC, Act.put, zD, zE, zF]
 refine rg_take 9 (.tuple #[.int .u64 x, er]) rfl (by kernel_rfl) (by kernel_rfl) (by kernel_rfl) (fun _ _ _ h => h) rfl (fun w _ => ?_) hS ?_
 ·go_simp
 simp only [zA, zB, zC, Act.put, zD, zE, zF]
 obtain ⟨hx1, rfl⟩ := hx.ok hok
 rw [HVN.out] at hx1
 subst hx1
 clear hx
 refine rg_take 10 (.int .u64 (v : Int)) rfl (by kernel_rfl) (by kernel_rfl) (by kernel_rfl) (fun _ _ _ h => h) rfl (fun w _ => ?_) hS ?_
 ·go_simp
 simp only [zA, zB, zC, Act.put, zD, zE, zF]
 refine rg_take 11 (.nilIface) rfl (by kernel_rfl) (by kernel_rfl) (by kernel_rfl) (fun _ _ _ h => h) rfl (fun w _ => ?_) hS ?_
 ·go_simp
 simp only [zA, zB, zC, Act.put, zD, zE, zF]
 refine rg_take 12 (.int .u64 (v : Int)) rfl (by kernel_rfl) (by kernel_rfl) (by kernel_rfl) (fun _ _ _ h => h) rfl (fun w _ => ?_) hS ?_
 ·go_simp
 simp only [zA, zB, zC, Act.put, zD, zE, zF]
 refine rg_take 13 (.nilIface) rfl (by kernel_rfl) (by kernel_rfl) (by kernel_rfl) (fun _ _ _ h => h) rfl (fun w _ => ?_) hS ?_
 ·go_simp
 simp only [zA, zB, zC, Act.put, zD, zE, zF]
 refine wpAnyH_done (by kernel_rfl) ?_ _
 (try simp only [Exit.inBlock, Exit.then])
 obtain ⟨n0, n1, n2, n3⟩ := hS
 have hnb : v ≤ 255 := by have := hok.2; rw [HVN.out] at this; exact this
 have HBU := Lib.hid (fun V => byteUnit_run v sz V (by omega))
 clear HP hok
 go_wp2_with fail
 refine (HBU.out _).mono ?_
 rintro e w2 ⟨rfl, hw2⟩
 obtain ⟨c0, f0, c1, f1, c2, f2⟩ := HU3.out.below hw2
 have HB4 : Hid (Below S w w2) := HB3.out.trans (hw2.mono (by have := HZ3.out; omega))
 clear hw2 HU3
 unfold unitV
 go_wp2_with fail
 refine bodyPost_ret (by rw [results_cell_tmp rfl]; go_simp; try rfl) rfl ⟨rfl, ?_⟩
 exact below_unit HB4.out (by omega) _ _ _
theorem heads_below {w w' : World} (h : Heads w) (hb : Below w.heap.size w w') : Heads w' := fun k h1 h4 => (hb.cell h.lt).trans (h k h1 h4)
theorem enc_no (r : Int) (w : World) (h : U.isRune r = false) (_hh : Heads w) : Calls Tryz.prog 230 #[.int .i32 r] w fun e w' => e = .returned (.tuple #[.slice none 0 0, .iface 35 (.int .i64 4)]) ∧ w = w' := encode_none r w h
theorem enc_yes (r : Int) (w : World) (h : U.isRune r = true) (hh : Heads w) : Calls Tryz.prog 230 #[.int .i32 r] w fun e w' => ∃ A n c, e = .returned (.tuple #[.slice A n c, .nilIface]) ∧ (convert 22 9 (.slice A n c)).run Tryz.prog w' = .ok (.string (bs (encB r false))) w' ∧ Below w.heap.size w w' := by
 refine (encode_some r w h hh).mono ?_
 rintro e w' ⟨rfl, rfl⟩
 refine ⟨_, _, _, rfl, ?_, below_alloc _ _⟩
 exact conv_bytes (Byts.new (w := w) (B := w.heap.size + 1) (U.enc_byt h) 5 (Nat.lt_succ_self _)) _ _ (U.enc_length r)
set_option maxRecDepth 100000 in
set_option maxHeartbeats 4000000 in
theorem read_norune (l : List UInt8) (h d B : Nat) (w : World) (hl : l.length ≤ 100000) (hh : h ≤ 2) (hd : d ≤ 8) (hv : ErrVars w) (hhd : Heads w) (hge : h + d ≤ l.length) (HP : Hid (∀ V, ErrVars V → Calls Tryz.prog 229 #[.string (bs ((l.drop h).take d)), .int .i64 (B : Int), .int .i64 31] V fun e w' => ∃ x er, e = .returned (.tuple #[.int .u64 x, er]) ∧ PuPub B 2147483647 ((l.drop h).take d) x er ∧ Below V.heap.size V w')) (hok : PuOk B 2147483647 ((l.drop h).take d)) (hru : U.isRune (num B ((l.drop h).take d) : Int) = false) :
  Calls Tryz.prog 201 #[numeV h d B true, .string (bs l)] w fun e w' => e = .returned (.tuple #[unitV 0 [] 0, .bool false]) ∧ Below w.heap.size w w' := by
 have hsz := bs_size l
 obtain ⟨sz, hz⟩ : ∃ sz, h + d = sz := ⟨_, rfl⟩
 have hzz : (h : Int) + (d : Int) = (sz : Int) := by omega
 have hex : (bs l).extract h sz = bs ((l.drop h).take d) := by rw [bs_extract, List.drop_take, ← hz, Nat.add_sub_cancel_left]
 have hge2 : ¬ (l.length : Int) < (sz : Int) := by omega
 have hzl : sz ≤ l.length := by omega
 have hzh : h ≤ sz := by omega
 have hz10 : sz ≤ 10 := by omega
 have HZ := Lib.hid hz
 obtain ⟨S, hS⟩ : ∃ S, w.heap.size = S := ⟨_, rfl⟩
 have HVS : Hid (∀ V, Below S w V → ErrVars V) := fun V hb => hv.below (by rw [hS]; exact hb)
 have HH : Hid (∀ V, Below S w V → Heads V) := fun V hb => heads_below hhd (by rw [hS]; exact hb)
 have HNB : NAt (w.alloc (.cells #[.int .i64 (h : Int), .int .i64 (d : Int), .int .i64 (B : Int), .bool true] 263)) S h d B true := by
  rw [← hS]
  exact NAt.new w h d B true
 obtain ⟨W1, hW1⟩ : ∃ W1, (w.alloc (.cells #[.int .i64 (h : Int), .int .i64 (d : Int), .int .i64 (B : Int), .bool true] 263)).alloc (.cells #[.int .i32 0, .string ⟨#[]⟩, .int .i64 0] 201) = W1 := ⟨_, rfl⟩
 have hW0s : (w.alloc (.cells #[.int .i64 (h : Int), .int .i64 (d : Int), .int .i64 (B : Int), .bool true] 263)).heap.size = S + 1 := by rw [← hS]; simp
 have HU0 := UAt.new (w.alloc (.cells #[.int .i64 (h : Int), .int .i64 (d : Int), .int .i64 (B : Int), .bool true] 263)) 0 0 ⟨#[]⟩
 rw [hW0s, hW1] at HU0
 have HN1 : NAt W1 S h d B true := by rw [← hW1]; exact HNB.keep (below_alloc _ _) (by omega)
 have HB1 : Below S w W1 := by rw [← hW1, ← hS]; exact (below_alloc _ _).alloc (by simp) _
 have hW1s : W1.heap.size = S + 2 := by rw [← hW1]; simp [hS]
 have HS := Lib.hid hS
 have HU1 := Lib.hid HU0
 have HN2 := Lib.hid HN1
 have HB2 := Lib.hid HB1
 have HZ2 := Lib.hid hW1s
 rw [hS]
 (try rw [hz])
 clear hhd hW0s HU0 HN1 HB1 hW1s HNB hv hz hge
 obtain ⟨m, hm⟩ : ∃ m, (l.drop h).take d = m := ⟨_, rfl⟩
 rw [hm] at hex HP hok hru
 (try rw [hm])
 obtain ⟨v, hvn⟩ : ∃ v, num B m = v := ⟨_, rfl⟩
 have HVN := Lib.hid hvn
 (try rw [hvn])
 clear hm hvn
 generalize bs l = z at *
 generalize l.length = n at *
 unfold numeV
 go_enter Tryz.func201, Tryz.ntmps201
 have hn := HN2.out
 obtain ⟨n0, n1, n2, n3⟩ := hn
 go_wp2_with fail
 go_upto_region 7 with fail
 clear hW1 n0 n1 n2 n3
 refine rg_begin (fun W => NAt W S h d B true) (by kernel_rfl) (HN2.out.keep ((Below.refl _ W1).drew) HN2.out.lt) (fun hS => ?_)
 have HUd := Lib.hid (HU1.out.below ((Below.refl _ W1).drew))
 have HBd := Lib.hid HB2.out.drew
 have HZd : Hid (W1.drew.heap.size = S + 2) := HZ2
 clear HU1 HB2 HZ2 HN2
 generalize W1.drew = W2 at *
 refine rg_take 0 (.string z) rfl (by kernel_rfl) (by kernel_rfl) (by kernel_rfl) (fun _ _ _ h => h) rfl (fun w _ => ?_) hS ?_
 ·go_simp
 simp only [zA, zB, zC, Act.put, zD, zE, zF]
 refine rg_take 1 (.pointer (some ⟨S, 0, none⟩)) rfl (by kernel_rfl) (by kernel_rfl) (by kernel_rfl) (fun _ _ _ h => h) rfl (fun w _ => ?_) hS ?_
 ·go_simp
 simp only [zA, zB, zC, Act.put, zD, zE, zF]
 refine rg_take 2 (.int .i64 (h : Int)) rfl (by kernel_rfl) (by kernel_rfl) (by kernel_rfl) (fun _ _ _ h => h) rfl (fun w hSw => ?_) hS ?_
 ·have e1 := hSw.c0
  go_simp
 simp only [zA, zB, zC, Act.put, zD, zE, zF]
 refine rg_take 3 (.int .i64 (sz : Int)) rfl (by kernel_rfl) (by kernel_rfl) (by kernel_rfl) (fun _ _ _ h => h) rfl (fun w _ => ?_) hS ?_
 ·go_simp
 simp only [zA, zB, zC, Act.put, zD, zE, zF]
 refine rg_take 4 (.string (bs m)) rfl (by kernel_rfl) (by kernel_rfl) (by kernel_rfl) (fun _ _ _ h => h) rfl (fun w _ => ?_) hS ?_
 ·go_simp
 simp only [zA, zB, zC, Act.put, zD, zE, zF]
 refine rg_take 5 (.pointer (some ⟨S, 2, none⟩)) rfl (by kernel_rfl) (by kernel_rfl) (by kernel_rfl) (fun _ _ _ h => h) rfl (fun w _ => ?_) hS ?_
 ·go_simp
 simp only [zA, zB, zC, Act.put, zD, zE, zF]
 refine rg_take 6 (.int .i64 (B : Int)) rfl (by kernel_rfl) (by kernel_rfl) (by kernel_rfl) (fun _ _ _ h => h) rfl (fun w hSw => ?_) hS ?_
 ·have e1 := hSw.c2
  go_simp
 simp only [zA, zB, zC, Act.put, zD, zE, zF]
 refine rg_take 7 (.int .i64 31) rfl (by kernel_rfl) (by kernel_rfl) (by kernel_rfl) (fun _ _ _ h => h) rfl (fun w _ => ?_) hS ?_
 ·go_simp
 simp only [zA, zB, zC, Act.put, zD, zE, zF]
 refine rg_one 8 (by kernel_rfl) (rs_of rfl rfl (wp_call2 rfl enters_ParseUint rfl (HP.out _ (HVS.out _ HBd.out)) (fun x er V1 hV => ⟨hS.keep hV.2 hS.lt, ?_⟩)))
 obtain ⟨hx, hV⟩ := hV
 replace hS := hS.keep hV hS.lt
 have HU3 := Lib.hid (HUd.out.below hV)
 have HB3 := Lib.hid (HBd.out.trans (hV.mono (by rw [HZd.out]; have := HS.out; omega)))
 have HZ3 : Hid (S + 2 ≤ V1.heap.size) := by show _ ≤ _; rw [← HZd.out]; exact hV.size
 clear hV HUd HBd HZd
 simp only [zA, zB, zC, Act.put, zD, zE, zF]
 refine rg_take 9 (.tuple #[.int .u64 x, er]) rfl (by kernel_rfl) (by kernel_rfl) (by kernel_rfl) (fun _ _ _ h => h) rfl (fun w _ => ?_) hS ?_
 ·go_simp
 simp only [zA, zB, zC, Act.put, zD, zE, zF]
 obtain ⟨hx1, rfl⟩ := hx.ok hok
 rw [HVN.out] at hx1
 subst hx1
 clear hx
 refine rg_take 10 (.int .u64 (v : Int)) rfl (by kernel_rfl) (by kernel_rfl) (by kernel_rfl) (fun _ _ _ h => h) rfl (fun w _ => ?_) hS ?_
 ·go_simp
 simp only [zA, zB, zC, Act.put, zD, zE, zF]
 refine rg_take 11 (.nilIface) rfl (by kernel_rfl) (by kernel_rfl) (by kernel_rfl) (fun _ _ _ h => h) rfl (fun w _ => ?_) hS ?_
 ·go_simp
 simp only [zA, zB, zC, Act.put, zD, zE, zF]
 refine rg_take 12 (.int .u64 (v : Int)) rfl (by kernel_rfl) (by kernel_rfl) (by kernel_rfl) (fun _ _ _ h => h) rfl (fun w _ => ?_) hS ?_
 ·go_simp
 simp only [zA, zB, zC, Act.put, zD, zE, zF]
 refine rg_take 13 (.nilIface) rfl (by kernel_rfl) (by kernel_rfl) (by kernel_rfl) (fun _ _ _ h => h) rfl (fun w _ => ?_) hS ?_
 ·go_simp
 simp only [zA, zB, zC, Act.put, zD, zE, zF]
 refine wpAnyH_done (by kernel_rfl) ?_ _
 (try simp only [Exit.inBlock, Exit.then])
 obtain ⟨n0, n1, n2, n3⟩ := hS
 have hnb : v ≤ 2147483647 := by have := hok.2; rw [HVN.out] at this; exact this
 have HE := Lib.hid (enc_no (v : Int) V1 (by rw [HVN.out] at hru; exact hru) (HH.out _ HB3.out))
 clear HP hok hru
 go_wp2_with fail
 refine (HE.out).mono ?_
 rintro e w2 ⟨rfl, rfl⟩
 obtain ⟨c0, f0, c1, f1, c2, f2⟩ := HU3.out
 go_wp2_with fail
 refine bodyPost_ret (by rw [results_cell_tmp rfl]; go_simp; try rfl) rfl ⟨rfl, ?_⟩
 exact below_unit HB3.out (by omega) _ _ _
set_option maxRecDepth 100000 in
set_option maxHeartbeats 4000000 in
theorem read_rune (l : List UInt8) (h d B : Nat) (w : World) (hl : l.length ≤ 100000) (hh : h ≤ 2) (hd : d ≤ 8) (hv : ErrVars w) (hhd : Heads w) (hge : h + d ≤ l.length) (HP : Hid (∀ V, ErrVars V → Calls Tryz.prog 229 #[.string (bs ((l.drop h).take d)), .int .i64 (B : Int), .int .i64 31] V fun e w' => ∃ x er, e = .returned (.tuple #[.int .u64 x, er]) ∧ PuPub B 2147483647 ((l.drop h).take d) x er ∧ Below V.heap.size V w')) (hok : PuOk B 2147483647 ((l.drop h).take d)) (hru : U.isRune (num B ((l.drop h).take d) : Int) = true) :
  Calls Tryz.prog 201 #[numeV h d B true, .string (bs l)] w fun e w' => e = .returned (.tuple #[unitV (num B ((l.drop h).take d) : Int) (encB (num B ((l.drop h).take d) : Int) false) (h + d), .bool true]) ∧ Below w.heap.size w w' := by
 have hsz := bs_size l
 obtain ⟨sz, hz⟩ : ∃ sz, h + d = sz := ⟨_, rfl⟩
 have hzz : (h : Int) + (d : Int) = (sz : Int) := by omega
 have hex : (bs l).extract h sz = bs ((l.drop h).take d) := by rw [bs_extract, List.drop_take, ← hz, Nat.add_sub_cancel_left]
 have hge2 : ¬ (l.length : Int) < (sz : Int) := by omega
 have hzl : sz ≤ l.length := by omega
 have hzh : h ≤ sz := by omega
 have hz10 : sz ≤ 10 := by omega
 have HZ := Lib.hid hz
 obtain ⟨S, hS⟩ : ∃ S, w.heap.size = S := ⟨_, rfl⟩
 have HVS : Hid (∀ V, Below S w V → ErrVars V) := fun V hb => hv.below (by rw [hS]; exact hb)
 have HH : Hid (∀ V, Below S w V → Heads V) := fun V hb => heads_below hhd (by rw [hS]; exact hb)
 have HNB : NAt (w.alloc (.cells #[.int .i64 (h : Int), .int .i64 (d : Int), .int .i64 (B : Int), .bool true] 263)) S h d B true := by
  rw [← hS]
  exact NAt.new w h d B true
 obtain ⟨W1, hW1⟩ : ∃ W1, (w.alloc (.cells #[.int .i64 (h : Int), .int .i64 (d : Int), .int .i64 (B : Int), .bool true] 263)).alloc (.cells #[.int .i32 0, .string ⟨#[]⟩, .int .i64 0] 201) = W1 := ⟨_, rfl⟩
 have hW0s : (w.alloc (.cells #[.int .i64 (h : Int), .int .i64 (d : Int), .int .i64 (B : Int), .bool true] 263)).heap.size = S + 1 := by rw [← hS]; simp
 have HU0 := UAt.new (w.alloc (.cells #[.int .i64 (h : Int), .int .i64 (d : Int), .int .i64 (B : Int), .bool true] 263)) 0 0 ⟨#[]⟩
 rw [hW0s, hW1] at HU0
 have HN1 : NAt W1 S h d B true := by rw [← hW1]; exact HNB.keep (below_alloc _ _) (by omega)
 have HB1 : Below S w W1 := by rw [← hW1, ← hS]; exact (below_alloc _ _).alloc (by simp) _
 have hW1s : W1.heap.size = S + 2 := by rw [← hW1]; simp [hS]
 have HS := Lib.hid hS
 have HU1 := Lib.hid HU0
 have HN2 := Lib.hid HN1
 have HB2 := Lib.hid HB1
 have HZ2 := Lib.hid hW1s
 rw [hS]
 (try rw [hz])
 clear hhd hW0s HU0 HN1 HB1 hW1s HNB hv hz hge
 obtain ⟨m, hm⟩ : ∃ m, (l.drop h).take d = m := ⟨_, rfl⟩
 rw [hm] at hex HP hok hru
 (try rw [hm])
 obtain ⟨v, hvn⟩ : ∃ v, num B m = v := ⟨_, rfl⟩
 have HVN := Lib.hid hvn
 (try rw [hvn])
 clear hm hvn
 generalize bs l = z at *
 generalize l.length = n at *
 unfold numeV
 go_enter Tryz.func201, Tryz.ntmps201
 have hn := HN2.out
 obtain ⟨n0, n1, n2, n3⟩ := hn
 go_wp2_with fail
 go_upto_region 7 with fail
 clear hW1 n0 n1 n2 n3
 refine rg_begin (fun W => NAt W S h d B true) (by kernel_rfl) (HN2.out.keep ((Below.refl _ W1).drew) HN2.out.lt) (fun hS => ?_)
 have HUd := Lib.hid (HU1.out.below ((Below.refl _ W1).drew))
 have HBd := Lib.hid HB2.out.drew
 have HZd : Hid (W1.drew.heap.size = S + 2) := HZ2
 clear HU1 HB2 HZ2 HN2
 generalize W1.drew = W2 at *
 refine rg_take 0 (.string z) rfl (by kernel_rfl) (by kernel_rfl) (by kernel_rfl) (fun _ _ _ h => h) rfl (fun w _ => ?_) hS ?_
 ·go_simp
 simp only [zA, zB, zC, Act.put, zD, zE, zF]
 refine rg_take 1 (.pointer (some ⟨S, 0, none⟩)) rfl (by kernel_rfl) (by kernel_rfl) (by kernel_rfl) (fun _ _ _ h => h) rfl (fun w _ => ?_) hS ?_
 ·go_simp
 simp only [zA, zB, zC, Act.put, zD, zE, zF]
 refine rg_take 2 (.int .i64 (h : Int)) rfl (by kernel_rfl) (by kernel_rfl) (by kernel_rfl) (fun _ _ _ h => h) rfl (fun w hSw => ?_) hS ?_
 ·have e1 := hSw.c0
  go_simp
 simp only [zA, zB, zC, Act.put, zD, zE, zF]
 refine rg_take 3 (.int .i64 (sz : Int)) rfl (by kernel_rfl) (by kernel_rfl) (by kernel_rfl) (fun _ _ _ h => h) rfl (fun w _ => ?_) hS ?_
 ·go_simp
 simp only [zA, zB, zC, Act.put, zD, zE, zF]
 refine rg_take 4 (.string (bs m)) rfl (by kernel_rfl) (by kernel_rfl) (by kernel_rfl) (fun _ _ _ h => h) rfl (fun w _ => ?_) hS ?_
 ·go_simp
 simp only [zA, zB, zC, Act.put, zD, zE, zF]
 refine rg_take 5 (.pointer (some ⟨S, 2, none⟩)) rfl (by kernel_rfl) (by kernel_rfl) (by kernel_rfl) (fun _ _ _ h => h) rfl (fun w _ => ?_) hS ?_
 ·go_simp
 simp only [zA, zB, zC, Act.put, zD, zE, zF]
 refine rg_take 6 (.int .i64 (B : Int)) rfl (by kernel_rfl) (by kernel_rfl) (by kernel_rfl) (fun _ _ _ h => h) rfl (fun w hSw => ?_) hS ?_
 ·have e1 := hSw.c2
  go_simp
 simp only [zA, zB, zC, Act.put, zD, zE, zF]
 refine rg_take 7 (.int .i64 31) rfl (by kernel_rfl) (by kernel_rfl) (by kernel_rfl) (fun _ _ _ h => h) rfl (fun w _ => ?_) hS ?_
 ·go_simp
 simp only [zA, zB, zC, Act.put, zD, zE, zF]
 refine rg_one 8 (by kernel_rfl) (rs_of rfl rfl (wp_call2 rfl enters_ParseUint rfl (HP.out _ (HVS.out _ HBd.out)) (fun x er V1 hV => ⟨hS.keep hV.2 hS.lt, ?_⟩)))
 obtain ⟨hx, hV⟩ := hV
 replace hS := hS.keep hV hS.lt
 have HU3 := Lib.hid (HUd.out.below hV)
 have HB3 := Lib.hid (HBd.out.trans (hV.mono (by rw [HZd.out]; have := HS.out; omega)))
 have HZ3 : Hid (S + 2 ≤ V1.heap.size) := by show _ ≤ _; rw [← HZd.out]; exact hV.size
 clear hV HUd HBd HZd
 simp only [zA, zB, zC, Act.put, zD, zE, zF]
 refine rg_take 9 (.tuple #[.int .u64 x, er]) rfl (by kernel_rfl) (by kernel_rfl) (by kernel_rfl) (fun _ _ _ h => h) rfl (fun w _ => ?_) hS ?_
 ·go_simp
 simp only [zA, zB, zC, Act.put, zD, zE, zF]
 obtain ⟨hx1, rfl⟩ := hx.ok hok
 rw [HVN.out] at hx1
 subst hx1
 clear hx
 refine rg_take 10 (.int .u64 (v : Int)) rfl (by kernel_rfl) (by kernel_rfl) (by kernel_rfl) (fun _ _ _ h => h) rfl (fun w _ => ?_) hS ?_
 ·go_simp
 simp only [zA, zB, zC, Act.put, zD, zE, zF]
 refine rg_take 11 (.nilIface) rfl (by kernel_rfl) (by kernel_rfl) (by kernel_rfl) (fun _ _ _ h => h) rfl (fun w _ => ?_) hS ?_
 ·go_simp
 simp only [zA, zB, zC, Act.put, zD, zE, zF]
 refine rg_take 12 (.int .u64 (v : Int)) rfl (by kernel_rfl) (by kernel_rfl) (by kernel_rfl) (fun _ _ _ h => h) rfl (fun w _ => ?_) hS ?_
 ·go_simp
 simp only [zA, zB, zC, Act.put, zD, zE, zF]
 refine rg_take 13 (.nilIface) rfl (by kernel_rfl) (by kernel_rfl) (by kernel_rfl) (fun _ _ _ h => h) rfl (fun w _ => ?_) hS ?_
 ·go_simp
 simp only [zA, zB, zC, Act.put, zD, zE, zF]
 refine wpAnyH_done (by kernel_rfl) ?_ _
 (try simp only [Exit.inBlock, Exit.then])
 obtain ⟨n0, n1, n2, n3⟩ := hS
 have hnb : v ≤ 2147483647 := by have := hok.2; rw [HVN.out] at this; exact this
 have HE := Lib.hid (enc_yes (v : Int) V1 (by rw [HVN.out] at hru; exact hru) (HH.out _ HB3.out))
 clear HP hok hru
 go_wp2_with fail
 refine (HE.out).mono ?_
 rintro e w2 ⟨A, na, ca, rfl, hcv, hw2⟩
 obtain ⟨c0, f0, c1, f1, c2, f2⟩ := HU3.out.below hw2
 have HB4 : Hid (Below S w w2) := HB3.out.trans (hw2.mono (by have := HZ3.out; omega))
 clear hw2 HU3
 go_wp2_with fail
 refine bodyPost_ret (v := .tuple #[unitV (v : Int) (encB (v : Int) false) sz, .bool true]) (by rw [results_cell_tmp rfl]; unfold unitV; go_simp; try rfl) rfl ⟨rfl, ?_⟩
 exact below_unit HB4.out (by omega) _ _ _
end Go.Proofs.YtgkhjeefcflmcaaGreatDoor
