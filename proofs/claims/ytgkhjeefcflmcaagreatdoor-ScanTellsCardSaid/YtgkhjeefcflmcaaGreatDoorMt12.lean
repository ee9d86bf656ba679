/-
  Stage 8: the pair of two ratios and its error: begin.
-/
import Derived.Test.YtgkhjeefcflmcaaGreatDoorMt11
namespace Go.Proofs.YtgkhjeefcflmcaaGreatDoor
open Go.RowKit Go.Sort
set_option linter.unusedSimpArgs false
structure PairAt (w : World) (b k : Nat) (s : Bool) (n : Nat) (t : Bool) (d : Nat) (s' : Bool) (n' : Nat) (t' : Bool) (d' : Nat) : Prop where
 err : ErrAt w b k
 an : IntO w b 1 s n
 ad : IntO w b 10 t d
 bn : IntO w b 19 s' n'
 bd : IntO w b 28 t' d'
abbrev boxP (s : Bool) (n : Nat) (t : Bool) (d : Nat) (s' : Bool) (n' : Nat) (t' : Bool) (d' : Nat) (T : TypeId) : Obj := .cells #[.nilIface, .bool s, .int .u64 (wd n 0 : Int), .int .u64 (wd n 1 : Int), .int .u64 (wd n 2 : Int), .int .u64 (wd n 3 : Int), .int .u64 (wd n 4 : Int), .int .u64 (wd n 5 : Int), .int .u64 (wd n 6 : Int), .int .u64 (wd n 7 : Int), .bool t, .int .u64 (wd d 0 : Int), .int .u64 (wd d 1 : Int), .int .u64 (wd d 2 : Int), .int .u64 (wd d 3 : Int), .int .u64 (wd d 4 : Int), .int .u64 (wd d 5 : Int), .int .u64 (wd d 6 : Int), .int .u64 (wd d 7 : Int), .bool s', .int .u64 (wd n' 0 : Int), .int .u64 (wd n' 1 : Int), .int .u64 (wd n' 2 : Int), .int .u64 (wd n' 3 : Int), .int .u64 (wd n' 4 : Int), .int .u64 (wd n' 5 : Int), .int .u64 (wd n' 6 : Int), .int .u64 (wd n' 7 : Int), .bool t', .int .u64 (wd d' 0 : Int), .int .u64 (wd d' 1 : Int), .int .u64 (wd d' 2 : Int), .int .u64 (wd d' 3 : Int), .int .u64 (wd d' 4 : Int), .int .u64 (wd d' 5 : Int), .int .u64 (wd d' 6 : Int), .int .u64 (wd d' 7 : Int)] T
theorem PairAt.new (w : World) (s : Bool) (n : Nat) (t : Bool) (d : Nat) (s' : Bool) (n' : Nat) (t' : Bool) (d' : Nat) (T : TypeId) : PairAt (w.alloc (boxP s n t d s' n' t' d' T)) w.heap.size 0 s n t d s' n' t' d' := by
 refine ⟨⟨World.cell?_alloc_at _ _ _ _ rfl, World.frozen?_alloc_at _ _ _ _ rfl⟩, ⟨World.cell?_alloc_at _ _ _ _ rfl, World.frozen?_alloc_at _ _ _ _ rfl, fun i hi => ?_⟩, ⟨World.cell?_alloc_at _ _ _ _ rfl, World.frozen?_alloc_at _ _ _ _ rfl, fun i hi => ?_⟩, ⟨World.cell?_alloc_at _ _ _ _ rfl, World.frozen?_alloc_at _ _ _ _ rfl, fun i hi => ?_⟩, ⟨World.cell?_alloc_at _ _ _ _ rfl, World.frozen?_alloc_at _ _ _ _ rfl, fun i hi => ?_⟩⟩
 all_goals
  rcases i with _ | _ | _ | _ | _ | _ | _ | _ | i
  all_goals first | exact ⟨World.cell?_alloc_at _ _ _ _ rfl, World.frozen?_alloc_at _ _ _ _ rfl⟩ | omega
theorem PairAt.keep {w w' : World} {b k n d n' d' B : Nat} {s t s' t' : Bool} (h : PairAt w b k s n t d s' n' t' d') (hb : Below B w w') (hB : b < B) : PairAt w' b k s n t d s' n' t' d' :=
 ⟨⟨(hb.cell (p := ⟨b, 0, none⟩) hB).trans h.err.cell, (hb.frozen (p := ⟨b, 0, none⟩) hB).trans h.err.free⟩, h.an.keep hb hB, h.ad.keep hb hB, h.bn.keep hb hB, h.bd.keep hb hB⟩
theorem PairAt.ste {w w' : World} {b k j n d n' d' : Nat} {s t s' t' : Bool} (h : PairAt w b k s n t d s' n' t' d') (g : Ste w w' b j) : PairAt w' b j s n t d s' n' t' d' :=
 have hl := h.err.lt
 ⟨g.err, h.an.ste g hl (.inr (by omega)), h.ad.ste g hl (.inr (by omega)), h.bn.ste g hl (.inr (by omega)), h.bd.ste g hl (.inr (by omega))⟩
theorem PairAt.drew {w : World} {b k n d n' d' : Nat} {s t s' t' : Bool} (h : PairAt w b k s n t d s' n' t' d') : PairAt w.drew b k s n t d s' n' t' d' := ⟨h.err.drew, h.an.drew, h.ad.drew, h.bn.drew, h.bd.drew⟩
def pairV (s : Bool) (n : Nat) (t : Bool) (d : Nat) (s' : Bool) (n' : Nat) (t' : Bool) (d' : Nat) : Value := .agg #[.nilIface, .bool s, .int .u64 (wd n 0 : Int), .int .u64 (wd n 1 : Int), .int .u64 (wd n 2 : Int), .int .u64 (wd n 3 : Int), .int .u64 (wd n 4 : Int), .int .u64 (wd n 5 : Int), .int .u64 (wd n 6 : Int), .int .u64 (wd n 7 : Int), .bool t, .int .u64 (wd d 0 : Int), .int .u64 (wd d 1 : Int), .int .u64 (wd d 2 : Int), .int .u64 (wd d 3 : Int), .int .u64 (wd d 4 : Int), .int .u64 (wd d 5 : Int), .int .u64 (wd d 6 : Int), .int .u64 (wd d 7 : Int), .bool s', .int .u64 (wd n' 0 : Int), .int .u64 (wd n' 1 : Int), .int .u64 (wd n' 2 : Int), .int .u64 (wd n' 3 : Int), .int .u64 (wd n' 4 : Int), .int .u64 (wd n' 5 : Int), .int .u64 (wd n' 6 : Int), .int .u64 (wd n' 7 : Int), .bool t', .int .u64 (wd d' 0 : Int), .int .u64 (wd d' 1 : Int), .int .u64 (wd d' 2 : Int), .int .u64 (wd d' 3 : Int), .int .u64 (wd d' 4 : Int), .int .u64 (wd d' 5 : Int), .int .u64 (wd d' 6 : Int), .int .u64 (wd d' 7 : Int)]
set_option maxRecDepth 100000 in
set_option maxHeartbeats 4000000 in
theorem build_pair (w : World) (s : Bool) (n : Nat) (t : Bool) (d : Nat) (s' : Bool) (n' : Nat) (t' : Bool) (d' : Nat) :
  (Instr.build 256 #[(1, ratV s n t d), (2, ratV s' n' t' d')]).run Tryz.prog w = .ok (pairV s n t d s' n' t' d') w := by
 unfold ratV pairV
 go_simp
theorem wpList_build_pair {ops : Array Oper} {rest : List Oper} {op : Oper} {a : Act} {w : World} {Q : Exit → Act → World → Prop} (hgd : op.guard = none) (x y : Operand) (ho : op.op = .build 256 #[(1, x), (2, y)])
  {n d n' d' : Nat} {s t s' t' : Bool} (hx : a.eval x = ratV s n t d) (hy : a.eval y = ratV s' n' t' d')
  (hK : wpList Tryz.prog ops Q rest (a.put op.dst (pairV s n t d s' n' t' d')) w) : wpList Tryz.prog ops Q (op :: rest) a w := by
 refine wpList_plain hgd fun K hK' => ?_
 unfold Oper.wp execOp
 simp only [ho, List.map_toArray, List.map_cons, List.map_nil, hx, hy, build_pair, Sem.run_bind, Sem.run_pure, Result.andThen_ok]
 exact hK' _ _ hK
theorem wpList_box_pair {ops : Array Oper} {rest : List Oper} {op : Oper} {a : Act} {w : World} {Q : Exit → Act → World → Prop} (hgd : op.guard = none) (x : Operand) (ho : op.op = .box 256 x)
  {n d n' d' : Nat} {s t s' t' : Bool} (hx : a.eval x = pairV s n t d s' n' t' d')
  (hK : wpList Tryz.prog ops Q rest (a.put op.dst (.pointer (some ⟨w.heap.size, 0, none⟩))) (w.alloc (boxP s n t d s' n' t' d' 256))) : wpList Tryz.prog ops Q (op :: rest) a w := by
 refine wpList_plain hgd fun K hK' => ?_
 have hrun : (Instr.box 256 (pairV s n t d s' n' t' d')).run Tryz.prog w = .ok (.pointer (some ⟨w.heap.size, 0, none⟩)) (w.alloc (boxP s n t d s' n' t' d' 256)) := by
  unfold pairV
  go_simp
 unfold Oper.wp execOp
 simp only [ho, hx, Sem.run_bind, Sem.run_pure, Result.andThen_ok, hrun]
 exact hK' _ _ hK
def BegOut (w : World) (k : Nat) (s : Bool) (n : Nat) (t : Bool) (d : Nat) (s' : Bool) (n' : Nat) (t' : Bool) (d' : Nat) (e : Ending) (w' : World) : Prop :=
 ∃ B, e = .returned (.pointer (some ⟨B, 0, none⟩)) ∧ w.heap.size ≤ B ∧ PairAt w' B k s n t d s' n' t' d' ∧ Below w.heap.size w w'
theorem enters_Check : EntersP Tryz.prog 189 := entersP_of Tryz.func189 (by kernel_rfl) rfl
theorem enters_keep : EntersP Tryz.prog 195 := entersP_of Tryz.func195 (by kernel_rfl) rfl
theorem enters_do : EntersP Tryz.prog 192 := entersP_of Tryz.func192 (by kernel_rfl) rfl
theorem chk_le (s : Bool) (n : Nat) (t : Bool) (d : Nat) : chk s n t d = 0 ∨ chk s n t d = 8 := by unfold chk; split <;> simp
structure BegInv (w W : World) (S B k : Nat) (s : Bool) (n : Nat) (t : Bool) (d : Nat) (s' : Bool) (n' : Nat) (t' : Bool) (d' : Nat) : Prop where
 ra : RatAt W S s n t d
 rb : RatAt W (S + 1) s' n' t' d'
 pr : PairAt W B k s n t d s' n' t' d'
 bl : Below S w W
 sz : B < W.heap.size
 hB : B = S + 1 + 1
theorem BegInv.below {w W V : World} {S B k n d n' d' : Nat} {s t s' t' : Bool} (h : BegInv w W S B k s n t d s' n' t' d') (g : Below W.heap.size W V) : BegInv w V S B k s n t d s' n' t' d' :=
 have h1 := h.sz; have h2 := h.hB
 ⟨h.ra.keep g (by omega), h.rb.keep g (by omega), h.pr.keep g h1, h.bl.trans (g.mono (by omega)), Nat.lt_of_lt_of_le h1 g.size, h2⟩
theorem BegInv.ste {w W V : World} {S B k j n d n' d' : Nat} {s t s' t' : Bool} (h : BegInv w W S B k s n t d s' n' t' d') (g : Ste W V B j) : BegInv w V S B j s n t d s' n' t' d' :=
 have h1 := h.sz; have h2 := h.hB
 ⟨h.ra.ste g (by omega) (by omega), h.rb.ste g (by omega) (by omega), h.pr.ste g, g.below S w (by omega) (by omega) h.bl, Nat.lt_of_lt_of_le h1 g.size, h2⟩
theorem BegInv.drew {w W : World} {S B k n d n' d' : Nat} {s t s' t' : Bool} (h : BegInv w W S B k s n t d s' n' t' d') : BegInv w W.drew S B k s n t d s' n' t' d' := ⟨h.ra.drew, h.rb.drew, h.pr.drew, h.bl.drew, h.sz, h.hB⟩
set_option maxRecDepth 100000 in
set_option maxHeartbeats 4000000 in
theorem begin_run (s : Bool) (n : Nat) (t : Bool) (d : Nat) (s' : Bool) (n' : Nat) (t' : Bool) (d' : Nat) (w : World) (hn : Hid (Fits n)) (hd : Hid (Fits d)) (hn' : Hid (Fits n')) (hd' : Hid (Fits d')) :
  Calls Tryz.prog 190 #[ratV s n t d, ratV s' n' t' d'] w (BegOut w (kept (chk s n t d) (chk s' n' t' d')) s n t d s' n' t' d') := by
 obtain ⟨S, hS⟩ : ∃ S, w.heap.size = S := ⟨_, rfl⟩
 obtain ⟨W, hW⟩ : ∃ W, ((w.alloc (boxR s n t d 94)).alloc (boxR s' n' t' d' 94)) = W := ⟨_, rfl⟩
 have T1 := (RatAt.new w s n t d 94).alloc (by simp) (boxR s' n' t' d' 94)
 have T2 := RatAt.new (w.alloc (boxR s n t d 94)) s' n' t' d' 94
 have TB := (below_alloc w (boxR s n t d 94)).alloc (by simp) (boxR s' n' t' d' 94)
 have Tz : (w.alloc (boxR s n t d 94)).heap.size = w.heap.size + 1 := by simp
 have Ts : ((w.alloc (boxR s n t d 94)).alloc (boxR s' n' t' d' 94)).heap.size = w.heap.size + 1 + 1 := by simp
 rw [Tz] at T2
 rw [hW] at T1 T2 TB Ts
 rw [hS] at T1 T2 TB Ts
 have TP := PairAt.new W s n t d s' n' t' d' 256
 have HC1 := Lib.hid (fun W => Check_run s n t d W hn hd)
 have HC2 := Lib.hid (fun W => Check_run s' n' t' d' W hn' hd')
 have HO : Hid (∀ e w', BegOut w (kept (chk s n t d) (chk s' n' t' d')) s n t d s' n' t' d' e w' ↔ ∃ B, e = .returned (.pointer (some ⟨B, 0, none⟩)) ∧ S ≤ B ∧ PairAt w' B (kept (chk s n t d) (chk s' n' t' d')) s n t d s' n' t' d' ∧ Below S w w') := fun e w' => by rw [← hS]; exact Iff.rfl
 generalize chk s n t d = k1 at *
 generalize chk s' n' t' d' = k2 at *
 have hKK : kept 0 k1 = k1 := rfl
 have HK1 := Lib.hid (fun W h => Lib.hid (keep_run (S + 1 + 1) 0 k1 W h))
 rw [hKK] at HK1
 have HK2 := Lib.hid (fun W h => Lib.hid (keep_run (S + 1 + 1) k1 k2 W h))
 have TI : BegInv w (W.alloc (boxP s n t d s' n' t' d' 256)) S (S + 1 + 1) 0 s n t d s' n' t' d' :=
  ⟨T1.alloc (by omega) _, T2.alloc (by omega) _, by rw [Ts] at TP; exact TP, TB.alloc (by omega) _, by simp [Ts], rfl⟩
 have HI := Lib.hid TI
 have HT1 := Lib.hid T1
 have HT2 := Lib.hid T2
 clear T1 T2 TB Tz TP TI hKK hn hd hn' hd'
 go_enter Tryz.func190, Tryz.ntmps190
 go_wp2_with (first | (refine wpList_box_rat rfl (.tmp 0) rfl rfl ?_) | (refine wpList_box_rat rfl (.tmp 1) rfl rfl ?_) | (refine wpList_load_rat rfl (.tmp 2) rfl rfl HT1.out ?_) | (refine wpList_load_rat rfl (.tmp 3) rfl rfl HT2.out ?_) | (refine wpList_build_pair rfl (.tmp 6) (.tmp 7) rfl rfl rfl ?_) | (refine wpList_box_pair rfl (.tmp 8) rfl rfl ?_))
 clear HT1 HT2
 refine rg_begin (fun W' => ∃ j, BegInv w W' S (S + 1 + 1) j s n t d s' n' t' d') (by kernel_rfl) ⟨_, HI.out.drew⟩ (fun hS => ?_)
 refine rg_take 0 (.pointer (some ⟨S + 1 + 1, 0, none⟩)) rfl (by kernel_rfl) (by kernel_rfl) (by kernel_rfl) (fun _ _ _ h => h) rfl (fun w _ => ?_) hS ?_
 ·go_simp
 simp only [zA, zB, zC, Act.put, zD, zE, zF]
 refine rg_take 1 (.pointer (some ⟨S + 1 + 1, 0, none⟩)) rfl (by kernel_rfl) (by kernel_rfl) (by kernel_rfl) (fun _ _ _ h => h) rfl (fun w _ => ?_) hS ?_
 ·go_simp
 simp only [zA, zB, zC, Act.put, zD, zE, zF]
 refine rg_take 2 (.pointer (some ⟨S + 1 + 1, 0, none⟩)) rfl (by kernel_rfl) (by kernel_rfl) (by kernel_rfl) (fun _ _ _ h => h) rfl (fun w _ => ?_) hS ?_
 ·go_simp
 simp only [zA, zB, zC, Act.put, zD, zE, zF]
 refine rg_take 3 (ratV s n t d) rfl (by kernel_rfl) (by kernel_rfl) (by kernel_rfl) (fun _ _ _ h => h) rfl (fun w hSw => by obtain ⟨j, h⟩ := hSw; exact ld_rat (.tmp 2) rfl rfl h.ra) hS ?_
 simp only [zA, zB, zC, Act.put, zD, zE, zF]
 refine rg_one 4 (by kernel_rfl) (rs_of rfl rfl (wp_call rfl enters_Check rfl (HC1.out _) (fun w1 hw1 => ⟨⟨_, HI.out.drew.below hw1⟩, ?_⟩)))
 have hJ := HI.out.drew.below hw1
 clear hS hw1
 simp only [zA, zB, zC, Act.put, zD, zE, zF]
 refine rg_one 5 (by kernel_rfl) (rs_of rfl rfl (wp_call rfl enters_keep rfl (HK1.out _ (Lib.hid hJ.pr.err)).out (fun w2 hw2 => ⟨⟨_, hJ.ste hw2⟩, ?_⟩)))
 have HI1 := Lib.hid (hJ.ste hw2)
 clear hJ hw2 HI
 refine wpAnyH_done (by kernel_rfl) ?_ _
 simp only [zA, zB, zC, Act.put, zD, zE, zF]
 go_wp2_with fail
 refine rg_begin (fun W' => ∃ j, BegInv w W' S (S + 1 + 1) j s n t d s' n' t' d') (by kernel_rfl) ⟨_, HI1.out.drew⟩ (fun hS => ?_)
 refine rg_take 0 (.pointer (some ⟨S + 1 + 1, 0, none⟩)) rfl (by kernel_rfl) (by kernel_rfl) (by kernel_rfl) (fun _ _ _ h => h) rfl (fun w _ => ?_) hS ?_
 ·go_simp
 simp only [zA, zB, zC, Act.put, zD, zE, zF]
 refine rg_take 1 (.pointer (some ⟨S + 1 + 1, 0, none⟩)) rfl (by kernel_rfl) (by kernel_rfl) (by kernel_rfl) (fun _ _ _ h => h) rfl (fun w _ => ?_) hS ?_
 ·go_simp
 simp only [zA, zB, zC, Act.put, zD, zE, zF]
 refine rg_take 2 (.pointer (some ⟨S + 1 + 1, 0, none⟩)) rfl (by kernel_rfl) (by kernel_rfl) (by kernel_rfl) (fun _ _ _ h => h) rfl (fun w _ => ?_) hS ?_
 ·go_simp
 simp only [zA, zB, zC, Act.put, zD, zE, zF]
 refine rg_take 3 (ratV s' n' t' d') rfl (by kernel_rfl) (by kernel_rfl) (by kernel_rfl) (fun _ _ _ h => h) rfl (fun w hSw => by obtain ⟨j, h⟩ := hSw; exact ld_rat (.tmp 3) rfl rfl h.rb) hS ?_
 simp only [zA, zB, zC, Act.put, zD, zE, zF]
 refine rg_one 4 (by kernel_rfl) (rs_of rfl rfl (wp_call rfl enters_Check rfl (HC2.out _) (fun w3 hw3 => ⟨⟨_, HI1.out.drew.below hw3⟩, ?_⟩)))
 have hJ := HI1.out.drew.below hw3
 clear hS hw3
 simp only [zA, zB, zC, Act.put, zD, zE, zF]
 refine rg_one 5 (by kernel_rfl) (rs_of rfl rfl (wp_call rfl enters_keep rfl (HK2.out _ (Lib.hid hJ.pr.err)).out (fun w4 hw4 => ⟨⟨_, hJ.ste hw4⟩, ?_⟩)))
 have HI2 := Lib.hid (hJ.ste hw4)
 clear hJ hw4 HI1
 refine wpAnyH_done (by kernel_rfl) ?_ _
 simp only [zA, zB, zC, Act.put, zD, zE, zF]
 go_wp2_with fail
 go_ret
 have h2 := HI2.out
 exact (HO.out _ _).2 ⟨S + 1 + 1, rfl, by omega, h2.pr, h2.bl⟩
end Go.Proofs.YtgkhjeefcflmcaaGreatDoor
