/-
  The contract of Own.
-/
import Derived.Test.YtkgaaabecdbidaaDoorMx13
import Derived.Test.YtkgaaabecdbidaaDoorMx05
import Derived.Lib.Builder
import Derived.Laws.Externs
import Derived.Laws.IdiomStrings
import Derived.Test.YtkgaaabecdbidaaDoorMx12
namespace Go.Proofs.YtkgaaabecdbidaaDoor
open Go.RowKit
set_option linter.unusedSimpArgs false
set_option linter.unusedVariables false
theorem own_act {T : List Nd} {m : Int} (hV : Valid T m) (hm : m ≤ 100) {q : Nat} (hq : q < T.length) (S a b : Nat) (ha : a < b) (hb : b < S) : ActW T S 39 #[.pointer (some ⟨a, 0, none⟩), .pointer (some ⟨b, 0, none⟩)]
  (fun D bs w => ∃ v, bs = b :: v.ownBlock.toList ∧ VarAt w a (.int .i64 q) ∧ VarAt w b v ∧ OwnK .i64 3 w (b + 1) v (D.flatMap (ownS q))) := by
 refine ⟨entersP_of Tryd.func39 (by kernel_rfl) rfl, fun D s R bs w hs hI hS => ?_, fun D bs w w' hI hap => ?_⟩
 ·obtain ⟨v, rfl, h1, h2, h3⟩ := hI
  have hp := own_piece hV hm hq hs
  refine (own1_run s.c s.f s.t s.j q a b (b + 1) v _ w h1 h2 h3 (by omega) (by omega) (by omega) (by omega) hp.1 hp.2).mono ?_
  rintro e w' ⟨rfl, v', k⟩
  have hown := k.own
  refine ⟨rfl, b :: v'.ownBlock.toList, ⟨v', rfl, k.va, k.vb, ?_⟩, k.but, fun x hx => ?_⟩
  ·rw [List.flatMap_append, List.flatMap_cons, List.flatMap_nil, List.append_nil]
   exact k.own
  ·rcases List.mem_cons.1 hx with rfl | hx
   ·exact ⟨.inl (by simp), k.vb.lt⟩
   ·have hg : v'.ownBlock = some x := by simpa using hx
    exact ⟨k.blk x hg, (World.ownsRow.lt hown x hg).2⟩
 ·obtain ⟨v, rfl, h1, h2, h3⟩ := hI
  exact ⟨v, rfl, h1.heap (hap.block a h1.lt (.inr (by omega))), h2.heap (hap.block b h2.lt (.inl (by simp))), h3.heap fun g hg => hap.block g (World.ownsRow.lt h3 g hg).2 (.inl (by simp [hg]))⟩
theorem ownE_cases (T : List Nd) (j : Int) : (ownE T j = sndT T ∧ (sndT T).1 ≠ 0) ∨ (ownE T j = (4, -1) ∧ (sndT T).1 = 0 ∧ ¬ (0 ≤ j ∧ j < (T.length : Int))) ∨ (ownE T j = (0, -1) ∧ (sndT T).1 = 0 ∧ 0 ≤ j ∧ j < (T.length : Int)) := by
 unfold ownE
 by_cases hk : (sndT T).1 = 0
 ·rw [resOf_ok hk]
  by_cases h : 0 ≤ j ∧ j < (T.length : Int)
  ·rw [if_pos h]; exact .inr (.inr ⟨rfl, hk, h⟩)
  ·rw [if_neg h]; exact .inr (.inl ⟨rfl, hk, h⟩)
 ·rw [resOf_bad hk]; exact .inl ⟨rfl, hk⟩
set_option maxHeartbeats 8000000 in
set_option maxRecDepth 100000 in
theorem Own_runT : SaysOwn := by
 intro A n cap j T w h ht100
 have hl := Lib.hid h.len
 have hn40 := h.small.1
 obtain ⟨S, hS⟩ : ∃ S, w.heap.size = S := ⟨_, rfl⟩
 obtain ⟨W, hW⟩ : ∃ W, (w.alloc (.cells #[.slice A n cap] 24)).alloc (.cells #[.int .i64 j] 3) = W := ⟨_, rfl⟩
 have hC0 : CSt S A n cap T w W := by
  rw [← hW, ← hS]
  exact (CSt.start (cap := cap) h 24 rfl).on ((Below.refl _ _).alloc (Nat.le_refl _) _)
 have hX0 : VarAt W (S + 1) (.int .i64 j) := by
  rw [← hW, ← hS]
  have := VarAt.new (w.alloc (.cells #[.slice A n cap] 24)) (.int .i64 j) 3
  rwa [World.size_alloc] at this
 have HC := Lib.hid (fun V hV => check_runT A n cap T V hV)
 unfold OutK
 rw [hS]
 have C0 := Lib.hid hC0
 have X0 := Lib.hid hX0
 have d0 := hC0.e0
 have H40 := Lib.hid hn40
 have hmf' := hmf
 clear h hC0 hn40 hX0
 rcases ownE_cases T j with ⟨hE, hk⟩ | ⟨hE, hk, hj⟩ | ⟨hE, hk, hj1, hj2⟩
 ·obtain ⟨te, ve, he⟩ := trErr_some hk
  rw [hE, resOf_bad hk]
  rw [he] at HC ⊢
  clear ht100
  unfold trV at *
  go_enter Tryd.func18, Tryd.ntmps18
  go_wp2_with fail
  refine (HC.out W C0.out.tree).mono ?_
  rintro e w1 ⟨rfl, hw1⟩
  have C1 := Lib.hid (C0.out.on hw1)
  clear hw1 HC C0 d0 X0
  go_wp2_with fail
  go_ret2
  exact ⟨_, rfl, OwnK.nil _ _ _ _, C1.out.bel⟩
 ·rw [trErr_zero hk] at HC
  have hr : trErr (ownE T j) = .iface 51 (.int .i64 4) := by rw [hE]; rfl
  rw [hr, hE, resOf_bad (by decide)]
  rw [hl.out] at hj
  clear ht100 hr hE hk
  unfold trV at *
  have hd : j < 0 ∨ (0 ≤ j ∧ (n : Int) ≤ j) := by omega
  clear hj
  rcases hd with h1 | ⟨h1, h2⟩
  all_goals
   go_enter Tryd.func18, Tryd.ntmps18
   go_wp2_with fail
   refine (HC.out W C0.out.tree).mono ?_
   rintro e w1 ⟨rfl, hw1⟩
   have C1 := Lib.hid (C0.out.on hw1)
   have X1 := Lib.hid (X0.out.below hw1)
   have d1 := C1.out.e0
   have x1 := X1.out.1
   clear hw1 HC C0 d0 X0
   go_wp2_with fail
   go_ret2
   exact ⟨_, rfl, OwnK.nil _ _ _ _, C1.out.bel⟩
 ·have hV := chk_valid hk
  have HV := Lib.hid hV
  rw [trErr_zero hk] at HC
  obtain ⟨q, rfl⟩ : ∃ q : Nat, j = q := ⟨j.toNat, by omega⟩
  have hq : q < T.length := by omega
  have hr : trErr (ownE T (q : Int)) = .nilIface := by rw [hE]; rfl
  rw [hr, hE, resOf_ok rfl, Int.toNat_natCast]
  rw [hl.out] at hj2
  have HQ := Lib.hid hq
  have HT1 := Lib.hid ht100
  have HWK := Lib.hid (fun (W2 : World) B a b (hB : NdsAt W2 B A T) (hBW : B ≤ W2.heap.size) (hI : VarAt W2 a (.int .i64 q) ∧ VarAt W2 b (.slice none 0 0)) (hb : a < b ∧ B ≤ b ∧ b < W2.heap.size) => walk_run (n := n) (cap := cap) (own_act HV.out HT1.out HQ.out W2.heap.size a b hb.1 hb.2.2) _ HV hl (by rw [← hl.out]; exact H40.out) hB hBW (bs0 := [b]) ⟨.slice none 0 0, rfl, hI.1, hI.2, OwnK.nil _ _ _ _⟩ (fun x hx => by simp at hx; omega))
  have HEND : Hid ((stepsW T (T.length - 1)).flatMap (ownS q) = ownL T q) := own_all HV.out hq
  clear hk hV hE hr hq ht100 HQ HT1
  unfold trV at *
  go_enter Tryd.func18, Tryd.ntmps18
  go_wp2_with fail
  refine (HC.out W C0.out.tree).mono ?_
  rintro e w1 ⟨rfl, hw1⟩
  have C1 := Lib.hid (C0.out.on hw1)
  have X1 := Lib.hid (X0.out.below hw1)
  have d1 := C1.out.e0
  have x1 := X1.out.1
  clear hw1 HC C0 d0 X0
  obtain ⟨N, hN⟩ : ∃ N, w1.heap.size = N := ⟨_, rfl⟩
  obtain ⟨w2, hw2⟩ : ∃ V, w1.alloc (.cells #[.slice none 0 0] 31) = V := ⟨_, rfl⟩
  have V1 : Hid (VarAt w2 (S + 1) (.int .i64 q) ∧ VarAt w2 N (.slice none 0 0)) := by
   subst hN
   rw [← hw2]
   exact ⟨X1.out.alloc _, VarAt.new _ _ _⟩
  have C2 : Hid (CSt S A n cap T w w2) := by rw [← hw2]; exact C1.out.on ((Below.refl _ _).alloc (Nat.le_refl _) _)
  have H2 : Hid (NdsAt w2 N A T) := by
   rw [← hN, ← hw2]
   exact C1.out.tree.at_.below ((Below.refl _ _).alloc (Nat.le_refl _) _) (Nat.le_refl _)
  have HS : Hid (w2.heap.size = N + 1 ∧ S + 1 < N) := by refine ⟨by rw [← hw2]; simp [hN], by have := X1.out.lt; omega⟩
  have d2 := C2.out.e0
  subst hw2
  have hSN : S < w1.heap.size := by have := HS.out.2; omega
  clear C1 X1
  go_wp2_with fail
  refine (HWK.out _ N (S + 1) N H2.out (by have := HS.out; omega) V1.out (by have := HS.out; omega)).mono ?_
  rintro e w3 ⟨rfl, bs', ⟨v3, _, _, k2, k3⟩, hbut⟩
  rw [HEND.out] at k3
  have hr := k2.1
  have BR : Hid (Below S w w3) := C2.out.bel.but hbut (fun x hx => by have := HS.out; simp at hx; omega) (by have := HS.out; omega)
  have OR : Hid (OwnK .i64 3 w3 S v3 (ownL T q)) := ownK_base k3 (by have := HS.out; omega)
  obtain ⟨A3, l3, c3, hv3⟩ : ∃ A l c, v3 = .slice A l c := by obtain ⟨A, c, h, _⟩ := OwnK.nums k3; exact ⟨A, _, c, h⟩
  subst hv3
  clear HWK k2 k3 hbut C2 H2 V1 HEND
  go_wp2_with fail
  go_ret2
  exact ⟨_, rfl, OR.out, BR.out⟩
end Go.Proofs.YtkgaaabecdbidaaDoor
namespace Go.Proofs.YtkgaaabecdbidaaDoor
open Go.RowKit
set_option linter.unusedSimpArgs false
set_option linter.unusedVariables false
def bts (s : ByteArray) : List Int := s.data.toList.map fun b => (b.toNat : Int)
theorem bts_length (s : ByteArray) : (bts s).length = s.size := by simp [bts]
theorem bts_append (s t : ByteArray) : bts (s ++ t) = bts s ++ bts t := by simp [bts]
theorem bts_cells (s : ByteArray) : s.data.map (fun b => Value.int .u8 b.toNat) = ((bts s).map fun x => Value.int .u8 x).toArray := by
 apply Array.ext'
 simp [bts, Function.comp_def]
theorem run_app_str {T u E : TypeId} (hT : SliceK .u8 T E) (hu : Tryd.prog.underlying u = some .string) (w : World) (ty : TypeId) (base : Nat) (v : Value) (l : List Int) (hown : OwnK .u8 E w base v l) (s : ByteArray)
  (hlen : l.length + s.size ≤ 1000000) (hbase : base ≤ w.heap.size) :
  ∃ v' w', (Builtin.append_ #[T, u] ty #[v, .string s]).run Tryd.prog w = .ok v' w' ∧ OwnK .u8 E w' base v' (l ++ bts s) ∧ w.grownBy w' v.ownBlock ∧ (v'.ownBlock = v.ownBlock ∨ v'.ownBlock = some w.heap.size) := by
 obtain ⟨ht, bb, hbb, hi0⟩ := hT
 obtain ⟨i, hi, hi2⟩ := Option.map_eq_some_iff.1 hi0
 simp only [Prod.mk.injEq] at hi2
 obtain ⟨hz, hs, hby⟩ := hi2
 have hx : (Array.map (fun b : UInt8 => Value.int IntKind.u8 (b.toNat : Int)) s.data).extract 0 s.size = ((bts s).map fun x => Value.int .u8 x).toArray := by
  rw [bts_cells]
  have : s.size = ((bts s).map fun x => Value.int .u8 x).toArray.size := by simp [bts_length]
  rw [this, Array.extract_size]
 have hxe : s.extract 0 s.size = s := by simp
 have hfc : ∀ w : World, (Builtin.firstCells 1 s.size (.string s)).run Tryd.prog w = .ok ((bts s).map fun x => Value.int .u8 x).toArray w := fun w => by
  simp [Builtin.firstCells, hxe, bts_cells]
 have hnl : ((bts s).map fun x => Value.int .u8 x).length = s.size := by rw [List.length_map, bts_length]
 have hlen2 : (l.map (fun x => Value.int .u8 x) ++ (bts s).map fun x => Value.int .u8 x).length = (l.length + s.size) * 1 := by simp [bts_length]
 have grown : ∀ (old : Nat), ∀ (row : Option Nat),
   (w.drew.alloc (.cells ((l.map (fun x => Value.int .u8 x)).toArray ++ ((bts s).map fun x => Value.int .u8 x).toArray ++ Builtin.zeroCells (Value.int .u8 0).cells (grownCap w (l.length + s.size) old E - (l.length + s.size))) E)).ownsRow base E 1
    (.slice (some ⟨w.heap.size, 0, none⟩) (l.length + s.size) (grownCap w (l.length + s.size) old E)) (l.length + s.size) (l.map (fun x => Value.int .u8 x) ++ (bts s).map fun x => Value.int .u8 x) ∧
   w.grownBy (w.drew.alloc (.cells ((l.map (fun x => Value.int .u8 x)).toArray ++ ((bts s).map fun x => Value.int .u8 x).toArray ++ Builtin.zeroCells (Value.int .u8 0).cells (grownCap w (l.length + s.size) old E - (l.length + s.size))) E)) row := by
  intro old row
  have hge := grownCap_ge w (l.length + s.size) old E
  have hcm : grownCap w (l.length + s.size) old E ≤ maxLen := grownCap_le_maxLen w (l.length + s.size) old E (by simp only [maxLen]; omega)
  refine ⟨⟨hlen2, .inr ⟨w.heap.size, _, _, rfl, hbase, heap_alloc_new w.drew _, hge, hcm, ?_, ?_⟩⟩, ⟨rfl, rfl, rfl, by simp, fun k hk _ => Below.heap_alloc w.drew _ k hk⟩⟩
  ·simp only [Array.size_append, List.size_toArray, size_zeroCells, List.length_map, bts_length, Value.cells, List.size_toArray, List.length_cons, List.length_nil]
   omega
  ·simp only [Array.toList_append, List.append_assoc]
   rw [← List.append_assoc, ← hlen2]
   exact List.take_left
 have hown' := hown
 unfold OwnK at hown' ⊢
 rw [List.length_append, List.map_append, bts_length]
 rcases hown'.2 with ⟨rfl, hl0⟩ | ⟨g, cap, cur, rfl, hbg, hg, hnc, hcm, hcs, htake⟩
 ·have hln : l = [] := List.eq_nil_of_length_eq_zero hl0
  subst hln
  by_cases hm : s.size = 0
  ·have hb0 : bts s = [] := List.eq_nil_of_length_eq_zero (by rw [bts_length]; exact hm)
   refine ⟨.slice none 0 0, w, ?_, by rw [hb0, hm]; exact World.ownsRow_nil w base E 1, World.grownBy.refl w _, .inl rfl⟩
   simp [Builtin.append_, run_underlying ht, run_underlying hu, sizeOf, typeInfo, hi, Builtin.lenOf, hm]
   rw [hs, ← hm, hfc]
   simp
  ·have hgr := grown 0 (Value.ownBlock (.slice none 0 0))
   simp only [List.length_nil, Nat.zero_add, List.map_nil, List.nil_append, Array.empty_append] at hgr ⊢
   refine ⟨_, _, ?_, hgr.1, hgr.2, .inr rfl⟩
   have hn : ¬ s.size = 0 := hm
   have h63' : ¬ (9223372036854775807 < (s.size : Int)) := by simp only [List.length_nil] at hlen; omega
   have h48' : ¬ (281474976710656 < Builtin.nextslicecap s.size 0 * i.bytes) := by
    rw [nextslicecap_zero (by omega), hby]
    have : s.size * bb ≤ 1000000 * 8 := Nat.mul_le_mul (by simp only [List.length_nil] at hlen; omega) hbb
    omega
   simp [Builtin.append_, run_underlying ht, run_underlying hu, sizeOf, typeInfo, zeroValue, hi, hz, hs, Builtin.lenOf, hn, h63', h48', Question.forced, run_firstCells_none, hfc, newRow, grownCap]
 ·by_cases hroom : l.length + s.size ≤ cap
  ·have hst := run_storeCells_at Tryd.prog g (l.length * 1) E ((bts s).map fun x => Value.int .u8 x) 0 cur w hg (by rw [hnl, hcs]; simp; omega) (fun u hu => by obtain ⟨x, _, rfl⟩ := List.mem_map.1 hu; rfl)
   simp only [Nat.add_zero] at hst
   obtain ⟨cs, hcs'⟩ : ∃ cs, cs = (cur.toList.take (l.length * 1) ++ ((bts s).map fun x => Value.int .u8 x) ++ cur.toList.drop (l.length * 1 + ((bts s).map fun x => Value.int .u8 x).length)).toArray := ⟨_, rfl⟩
   rw [← hcs'] at hst
   refine ⟨_, w.setRow g cs, ?_, ⟨hlen2, .inr ⟨g, cap, cs, rfl, hbg, setRow_heap w g cur cs E _ hg, hroom, hcm, ?_, ?_⟩⟩, ⟨rfl, rfl, rfl, by simp, fun k _ hk => setRow_other w g k cs (fun e => hk (by simp [Value.ownBlock, e]))⟩, Or.inl rfl⟩
   ·simp [Builtin.append_, run_underlying ht, run_underlying hu, sizeOf, typeInfo, hi, hs, Builtin.lenOf, hroom, hfc, Addr.add_lit]
    simp only [Nat.mul_one] at hst
    rw [hst]
    rfl
   ·rw [hcs']
    simp only [List.size_toArray, List.length_append, List.length_take, List.length_drop, Array.length_toList, hnl]
    omega
   ·rw [hcs', List.toList_toArray, htake, ← hlen2]
    exact List.take_left
  ·have holds : ∀ j u, (l.map fun x => Value.int .u8 x)[j]? = some u → w.cell? ((⟨g, 0, none⟩ : Addr).add j) = some u := hown'.cells (g := g) rfl
   have hgr := grown cap (Value.ownBlock (.slice (some ⟨g, 0, none⟩) l.length cap))
   refine ⟨_, _, ?_, hgr.1, hgr.2, .inr rfl⟩
   have hn : ¬ (l.length + s.size ≤ cap) := hroom
   have h63' : ¬ (9223372036854775807 < ((l.length : Int) + (s.size : Int))) := by omega
   have h48' : ¬ (281474976710656 < Builtin.nextslicecap (l.length + s.size) cap * i.bytes) := by
    have := growslice_fits (need := l.length + s.size) (old := cap) (bytes := i.bytes) (by omega) (by
     rw [hby]
     have : (l.length + s.size) * bb ≤ 1000000 * 8 := Nat.mul_le_mul hlen hbb
     omega)
    omega
   have he : ∀ Z : Array Value, (l.map fun x => Value.int .u8 x).toArray ++ (((bts s).map fun x => Value.int .u8 x).toArray ++ Z) = (l.map (fun x => Value.int .u8 x) ++ (bts s).map fun x => Value.int .u8 x).toArray ++ Z := fun Z => by
    apply Array.ext'
    simp [List.append_assoc]
   have hfo := run_firstCells_some (P := Tryd.prog) w.drew 1 l.length ⟨g, 0, none⟩ l.length cap (l.map fun x => Value.int .u8 x) (by simp) (by simpa using holds)
   simp [Builtin.append_, run_underlying ht, run_underlying hu, sizeOf, typeInfo, zeroValue, hi, hz, hs, Builtin.lenOf, hn, h63', h48', Question.forced, hfc, hfo, newRow, grownCap]
   rw [he]
theorem wpList_app_str {T u E : TypeId} (hT : SliceK .u8 T E) (hu : Tryd.prog.underlying u = some .string) {ops : Array Oper} {rest : List Oper} {o : Oper} {a : Act} {Q : Exit → Act → World → Prop} (w : World) (hgd : o.guard = none) (s x : Operand)
  (ho : o.op = .call { callee := .builtin .append, args := #[s, x], argTypes := #[T, u] })
  (base : Nat) (v : Value) (l : List Int) (hs : a.eval s = v) (hown : OwnK .u8 E w base v l)
  (t : ByteArray) (hx : a.eval x = .string t) (hlen : l.length ≤ 500000) (hlen2 : t.size ≤ 500000) (hbase : base ≤ w.heap.size)
  (h : ∀ v' w', OwnK .u8 E w' base v' (l ++ bts t) → w.grownBy w' v.ownBlock → (v'.ownBlock = v.ownBlock ∨ v'.ownBlock = some w.heap.size) → wpList Tryd.prog ops Q rest (a.put o.dst v') w') : wpList Tryd.prog ops Q (o :: rest) a w :=
 wpList_plain hgd fun _ hK => by
  obtain ⟨v', w', hrun, h2, h3, h4⟩ := run_app_str hT hu w o.type base v l hown t (by omega) hbase
  unfold Oper.wp execOp
  simp only [ho, resolve, invoke, builtin, Sem.run_bind, Sem.run_pure, Result.andThen_ok, List.map_toArray, List.map_cons, List.map_nil, hs, hx, hrun]
  exact hK _ _ (h v' w' h2 h3 h4)
theorem u8_slice : SliceK .u8 67 5 := ⟨Tryd.underlying67, 1, by omega, by kernel_rfl⟩
structure BldAt (w : World) (b : Nat) (p v : Value) (acc : ByteArray) : Prop where
 heap : w.heap[b]? = some (.cells #[p, v] 69 (0, 0))
 own : OwnK .u8 5 w (b + 1) v (bts acc)
section
variable {w w' : World} {b : Nat} {p v : Value} {acc : ByteArray}
theorem BldAt.lt (h : BldAt w b p v acc) : b < w.heap.size := by
 rcases Nat.lt_or_ge b w.heap.size with h' | h'
 ·exact h'
 ·have := h.heap
  simp [Array.getElem?_eq_none h'] at this
theorem BldAt.cells (h : BldAt w b p v acc) : w.cell? ⟨b, 0, none⟩ = some p ∧ w.cell? ⟨b, 1, none⟩ = some v ∧ w.frozen? ⟨b, 0, none⟩ = false ∧ w.frozen? ⟨b, 1, none⟩ = false ∧ w.shape? b = some (69, 2) :=
 ⟨by simp [World.cell?, h.heap], by simp [World.cell?, h.heap], by simp [World.frozen?, h.heap], by simp [World.frozen?, h.heap], by simp [World.shape?, h.heap]⟩
theorem BldAt.ne (h : BldAt w b p v acc) : v.ownBlock ≠ some b := fun e => by
 have hown := h.own
 have := (World.ownsRow.lt hown b e).1
 omega
theorem u8_heap {w w' : World} {base : Nat} {v : Value} {L : List Int} (h : OwnK .u8 5 w base v L) (hk : ∀ g, v.ownBlock = some g → w'.heap[g]? = w.heap[g]?) : OwnK .u8 5 w' base v L := by
 obtain ⟨h1, h2⟩ := h
 refine ⟨h1, ?_⟩
 rcases h2 with h2 | ⟨g, cap, cur, hv, hg, hh, r⟩
 ·exact .inl h2
 ·exact .inr ⟨g, cap, cur, hv, hg, (hk g (by rw [hv]; rfl)).trans hh, r⟩
theorem BldAt.keep (h : BldAt w b p v acc) (hb : w'.heap[b]? = w.heap[b]?) (hv : ∀ g, v.ownBlock = some g → w'.heap[g]? = w.heap[g]?) : BldAt w' b p v acc := ⟨hb.trans h.heap, u8_heap h.own hv⟩
theorem BldAt.below (h : BldAt w b p v acc) (hb : Below w.heap.size w w') : BldAt w' b p v acc := by
 have hown := h.own
 exact h.keep (hb.block b h.lt) fun g hg => hb.block g (World.ownsRow.lt hown g hg).2
theorem BldAt.setP (h : BldAt w b p v acc) (q : Value) : BldAt (w.setCell ⟨b, 0, none⟩ q) b q v acc := by
 have hne := h.ne
 refine ⟨by have := h.heap; simp [World.setCell, Array.getElem?_modify, this], u8_heap h.own fun g hg => Below.heap_setCell _ _ _ _ (by show g ≠ b; exact fun e => hne (e ▸ hg))⟩
theorem BldAt.new (w : World) : BldAt (w.alloc (.cells #[.pointer none, .slice none 0 0] 69)) w.heap.size (.pointer none) (.slice none 0 0) ⟨#[]⟩ := ⟨heap_alloc_new w _, OwnK.nil _ _ _ _⟩
end
theorem bld_info : ∃ j, Tryd.prog.info? 69 = some j ∧ j.size = 2 := by
 have h : (Tryd.prog.info? 69).map (·.size) = some 2 := by kernel_rfl
 exact Option.map_eq_some_iff.1 h
set_option maxHeartbeats 1000000 in
set_option maxRecDepth 100000 in
theorem copy_used (b : Nat) (w : World) (h0 : w.cell? ⟨b, 0, none⟩ = some (.pointer (some ⟨b, 0, none⟩))) :
  Calls Tryd.prog 56 #[.pointer (some ⟨b, 0, none⟩)] w fun e w' => e = .returned (.tuple #[]) ∧ w' = w := by
 obtain ⟨j, hj, _⟩ := bld_info
 go_enter Tryd.func56, Tryd.ntmps56
 go_wp2_with fail
 rw [Lib.run_neq_ptr_same w _ Tryd.underlying66 hj]
 go_wp2_with fail
 go_end0
 exact ⟨rfl, rfl⟩
set_option maxHeartbeats 1000000 in
set_option maxRecDepth 100000 in
theorem copy_fresh (b : Nat) (w : World) (h0 : w.cell? ⟨b, 0, none⟩ = some (.pointer none)) (hsh : w.shape? b = some (69, 2)) (hfz : w.frozen? ⟨b, 0, none⟩ = false) :
  Calls Tryd.prog 56 #[.pointer (some ⟨b, 0, none⟩)] w fun e w' => e = .returned (.tuple #[]) ∧ w' = w.setCell ⟨b, 0, none⟩ (.pointer (some ⟨b, 0, none⟩)) := by
 obtain ⟨j, hj, hjs⟩ := bld_info
 have hlies : liesAt Tryd.prog Tryd.prog.depth 69 (2 / Tryd.prog.cellsOf 69) 0 69 1 = true := by kernel_rfl
 go_enter Tryd.func56, Tryd.ntmps56
 go_wp2_with fail
 rw [Lib.run_to_unsafe w ⟨b, 0, none⟩ Tryd.underlying66 Tryd.underlying78 hj (by rw [hjs]; decide) hsh (Nat.zero_lt_succ 1)]
 simp only [Result.andThen]
 rw [Oper.upon_value]
 go_wp2_with fail
 rw [run_callFunc_extern Tryd.func62 (by kernel_rfl) (by kernel_rfl) (by kernel_rfl) (e := Extern.AbiNoEscape.same) (by kernel_rfl)]
 rw [Lib.run_noEscape]
 simp only [Result.andThen]
 rw [Oper.upon_value]
 go_wp2_with fail
 rw [Lib.run_from_unsafe w ⟨b, 0, none⟩ Tryd.underlying78 Tryd.underlying66 hj hsh hlies]
 simp only [Result.andThen]
 rw [Oper.upon_value]
 go_wp2_with fail
 go_end0
 exact ⟨rfl, rfl⟩
theorem copy_run {w : World} {b : Nat} {p v : Value} {acc : ByteArray} (h : BldAt w b p v acc) (hp : p = .pointer none ∨ p = .pointer (some ⟨b, 0, none⟩)) :
  Calls Tryd.prog 56 #[.pointer (some ⟨b, 0, none⟩)] w fun e w' => e = .returned (.tuple #[]) ∧ BldAt w' b (.pointer (some ⟨b, 0, none⟩)) v acc ∧ But w w' [b] := by
 obtain ⟨c0, c1, f0, f1, hsh⟩ := h.cells
 rcases hp with rfl | rfl
 ·refine (copy_fresh b w c0 hsh f0).mono ?_
  rintro e w' ⟨rfl, rfl⟩
  exact ⟨rfl, h.setP _, (But.refl w [b]).setCell (p := ⟨b, 0, none⟩) (by simp) _⟩
 ·refine (copy_used b w c0).mono ?_
  rintro e w' ⟨rfl, rfl⟩
  exact ⟨rfl, h, But.refl _ _⟩
def BldOut (w : World) (b : Nat) (v : Value) (acc : ByteArray) (w' : World) : Prop := ∃ v', BldAt w' b (.pointer (some ⟨b, 0, none⟩)) v' acc ∧ But w w' (b :: v.ownBlock.toList) ∧ (v'.ownBlock = v.ownBlock ∨ ∃ g, v'.ownBlock = some g ∧ w.heap.size ≤ g)
theorem bld_out {w w1 w7 : World} {b : Nat} {v v7 : Value} {acc acc2 : ByteArray} (h1 : BldAt w1 b (.pointer (some ⟨b, 0, none⟩)) v acc) (hb : But w w1 [b]) (V1 : World) (hV : Below w1.heap.size w1 V1)
  (o7 : OwnK .u8 5 w7 (b + 1) v7 (bts acc2)) (g7 : V1.grownBy w7 v.ownBlock) (t7 : v7.ownBlock = v.ownBlock ∨ v7.ownBlock = some V1.heap.size) :
  w7.cell? ⟨b, 0, none⟩ = some (.pointer (some ⟨b, 0, none⟩)) ∧ w7.cell? ⟨b, 1, none⟩ = some v ∧ w7.frozen? ⟨b, 1, none⟩ = false ∧ BldOut w b v acc2 (w7.setCell ⟨b, 1, none⟩ v7) := by
 have hlt := h1.lt
 have hs := hV.size
 have hs2 := hb.size
 have hne := h1.ne
 have hb7 : w7.heap[b]? = w1.heap[b]? := (g7.block b (by omega) fun e => hne e.symm).trans (hV.block b hlt)
 have hh : w7.heap[b]? = some (.cells #[.pointer (some ⟨b, 0, none⟩), v] 69 (0, 0)) := hb7.trans h1.heap
 have B7 : BldAt w7 b (.pointer (some ⟨b, 0, none⟩)) v ⟨#[]⟩ → True := fun _ => trivial
 have hown2 := o7
 refine ⟨by simp [World.cell?, hh], by simp [World.cell?, hh], by simp [World.frozen?, hh], v7, ⟨by simp [World.setCell, Array.getElem?_modify, hh], u8_heap o7 fun g hg => Below.heap_setCell _ _ _ _ (by show g ≠ b; have := (World.ownsRow.lt hown2 g hg).1; omega)⟩, ⟨g7.os.trans (hV.os.trans hb.os), g7.tape.trans (hV.tape.trans hb.tape), g7.output.trans (hV.output.trans hb.output), by have := g7.size; simp; omega, fun k hk hn => ?_⟩, ?_⟩
 ·rw [List.mem_cons, not_or] at hn
  rw [Below.heap_setCell _ _ _ _ (by exact hn.1)]
  refine (g7.block k (by omega) fun e => hn.2 (by rw [← e]; simp)).trans ((hV.block k (by omega)).trans (hb.block k hk (by simpa using hn.1)))
 ·rcases t7 with t7 | t7
  ·exact .inl t7
  ·exact .inr ⟨_, t7, by omega⟩
set_option maxHeartbeats 4000000 in
set_option maxRecDepth 100000 in
theorem writeByte_run {w : World} {b : Nat} {p v : Value} {acc : ByteArray} (h : BldAt w b p v acc) (hp : p = .pointer none ∨ p = .pointer (some ⟨b, 0, none⟩)) (hsz : acc.size ≤ 400000) (c : Nat) (x : ByteArray) (hx : bts x = [(c : Int)]) :
    Calls Tryd.prog 42 #[.pointer (some ⟨b, 0, none⟩), .int .u8 c] w fun e w' => e = .returned .nilIface ∧ BldOut w b v (acc ++ x) w' := by
  have HC := Lib.hid (copy_run h hp)
  have hS : Hid (bts (acc ++ x) = bts acc ++ [(c : Int)]) := by show _ = _; rw [bts_append, hx]
  have HL : Hid ((bts acc).length ≤ 500000) := by show _ ≤ _; rw [bts_length]; omega
  clear h hp hsz hx
  go_enter Tryd.func42, Tryd.ntmps42
  go_wp2_with fail
  refine HC.out.mono ?_
  rintro e w1 ⟨rfl, h1, hb⟩
  have e1 := h1.cells.2.1
  have hbl := h1.lt
  have hown := h1.own
  have B1 : Below w1.heap.size w1 (w1.alloc (.cells #[.int .u8 c] 5)) := (Below.refl _ _).alloc (Nat.le_refl _) _
  have OA : Hid (OwnK .u8 5 (w1.alloc (.cells #[.int .u8 c] 5)) (b + 1) v (bts acc)) := OwnK.below hown B1
  have NA : Hid (NumsK .u8 (w1.alloc (.cells #[.int .u8 c] 5)) (w1.heap.size + 1) (some ⟨w1.heap.size, 0, none⟩) [(c : Int)]) := fun _ => by
    refine ⟨_, _, rfl, by omega, fun i y hy => ?_⟩
    match i, hy with
    | 0, hy => cases hy; rw [World.cell?_alloc_at _ _ _ _ rfl]; rfl
  have HO := Lib.hid (fun (v7 : Value) (w7 : World) (o7 : OwnK .u8 5 w7 (b + 1) v7 (bts (acc ++ x))) g7 t7 => bld_out h1 hb _ B1 o7 g7 t7)
  clear HC hown B1
  go_wp2_with (first
    | (at_builtin
       refine wpList_app u8_slice _ rfl (.tmp 11) (.tmp 13) rfl (b + 1) v (bts acc) rfl OA.out (w1.heap.size + 1) (some ⟨w1.heap.size, 0, none⟩) 1 1 [(c : Int)] rfl NA.out rfl HL.out (by simp) (by simp; omega) ?_
       intro v7 w7 o7 g7 t7
       obtain ⟨x1, x2, x3, x4'⟩ := HO.out v7 w7 (by rw [hS.out]; exact o7) g7 t7
       have X4 := Lib.hid x4'
       obtain ⟨A7, l7, c7, hv7⟩ : ∃ A l c, v7 = .slice A l c := by obtain ⟨A, c, h, _⟩ := OwnK.nums o7; exact ⟨A, _, c, h⟩
       subst hv7
       clear o7 g7 t7 x4')
    | fail)
  go_ret
  exact ⟨rfl, X4.out⟩
set_option maxHeartbeats 4000000 in
set_option maxRecDepth 100000 in
theorem writeString_run {w : World} {b : Nat} {p v : Value} {acc : ByteArray} (h : BldAt w b p v acc) (hp : p = .pointer none ∨ p = .pointer (some ⟨b, 0, none⟩)) (hsz : acc.size ≤ 400000) (x : ByteArray) (hx : x.size ≤ 400000) :
    Calls Tryd.prog 43 #[.pointer (some ⟨b, 0, none⟩), .string x] w fun e w' => e = .returned (.tuple #[.int .i64 x.size, .nilIface]) ∧ BldOut w b v (acc ++ x) w' := by
  have HC := Lib.hid (copy_run h hp)
  have hS : Hid (bts (acc ++ x) = bts acc ++ bts x) := by show _ = _; rw [bts_append]
  have HL : Hid ((bts acc).length ≤ 500000) := by show _ ≤ _; rw [bts_length]; omega
  have HX : Hid (x.size ≤ 500000) := by show _ ≤ _; omega
  clear h hp hsz hx
  go_enter Tryd.func43, Tryd.ntmps43
  go_wp2_with fail
  refine HC.out.mono ?_
  rintro e w1 ⟨rfl, h1, hb⟩
  have e1 := h1.cells.2.1
  have hbl := h1.lt
  have OA := Lib.hid h1.own
  have HO := Lib.hid (fun (v7 : Value) (w7 : World) (o7 : OwnK .u8 5 w7 (b + 1) v7 (bts (acc ++ x))) g7 t7 => bld_out h1 hb w1 (Below.refl _ _) o7 g7 t7)
  clear HC
  go_wp2_with (first
    | (at_builtin
       refine wpList_app_str u8_slice Tryd.underlying9 _ rfl (.tmp 12) (.tmp 13) rfl (b + 1) v (bts acc) rfl OA.out x rfl HL.out HX.out (by omega) ?_
       intro v7 w7 o7 g7 t7
       obtain ⟨x1, x2, x3, x4'⟩ := HO.out v7 w7 (by rw [hS.out]; exact o7) g7 t7
       have X4 := Lib.hid x4'
       obtain ⟨A7, l7, c7, hv7⟩ : ∃ A l c, v7 = .slice A l c := by obtain ⟨A, c, h, _⟩ := OwnK.nums o7; exact ⟨A, _, c, h⟩
       subst hv7
       clear o7 g7 t7 x4')
    | fail)
  go_ret2
  exact ⟨rfl, X4.out⟩
theorem string_run {w : World} {b : Nat} {p v : Value} {acc : ByteArray} (h : BldAt w b p v acc) (hp : p = .pointer none ∨ p = .pointer (some ⟨b, 0, none⟩)) :
  Calls Tryd.prog 45 #[.pointer (some ⟨b, 0, none⟩)] w fun e w' => e = .returned (.string acc) ∧ Below b w w' := by
 have hlt := h.lt
 have hcells : Lib.byteCells acc.data.toList = (bts acc).map fun x => Value.int .u8 x := by simp [Lib.byteCells, bts]
 have hat : ∀ q, q = p → Lib.BuilderAt 69 5 b b q (Lib.byteCells acc.data.toList) w := fun q hq => by
  subst hq
  have hown := h.own
  obtain ⟨k1, k2⟩ := hown
  refine ⟨Nat.le_refl _, v, h.heap, ?_, h.ne⟩
  rw [hcells, List.length_map]
  refine ⟨k1, ?_⟩
  rcases k2 with k2 | ⟨g, cap, cur, hv, hg, r⟩
  ·exact .inl k2
  ·exact .inr ⟨g, cap, cur, hv, by omega, r⟩
 have hb : Lib.IsBuilder 69 5 b b (Lib.byteCells acc.data.toList) w := by
  rcases hp with hp | hp
  ·exact .inl (hat _ hp.symm)
  ·exact .inr (hat _ hp.symm)
 exact Tryd.Builder_String_any b b acc.data.toList w hb (Nat.le_of_lt hlt)
end Go.Proofs.YtkgaaabecdbidaaDoor
namespace Go.Proofs.YtkgaaabecdbidaaDoor
open Go.RowKit
set_option linter.unusedSimpArgs false
set_option linter.unusedVariables false
def toksA (s : ByteArray) (l : List Int) : ByteArray := l.foldl (fun a x => a ++ spS ++ numS x) s
theorem toksA_cons (s : ByteArray) (x : Int) (l : List Int) : toksA s (x :: l) = toksA (s ++ spS ++ numS x) l := rfl
theorem toksA_app (s : ByteArray) (l r : List Int) : toksA s (l ++ r) = toksA (toksA s l) r := by
 unfold toksA
 rw [List.foldl_append]
def txA (T : List Nd) (R : Nat) (a : ByteArray) (s : Stp) : ByteArray :=
 if s.c = 0 then (if s.j = R then a else a ++ spS) ++ ((⟨#[40]⟩ : ByteArray) ++ numS (nd T s.j).k)
 else if s.c = 1 then toksA a (spanW s.f s.t) else if s.c = 2 then a ++ (⟨#[41]⟩ : ByteArray) else a
section
variable {T : List Nd} {m : Int}
theorem kidsAt_pre (g : Int → ByteArray) (T : List Nd) (tok : Int) (a : ByteArray) : ∀ (l : List Int) (s : ByteArray), kidsAt g T tok l (a ++ s) = (a ++ (kidsAt g T tok l s).1, (kidsAt g T tok l s).2)
 | [], s => rfl
 | c :: r, s => by
  unfold kidsAt
  split
  ·rw [show a ++ s ++ spS ++ g c = a ++ (s ++ spS ++ g c) by simp only [ByteArray.append_assoc], kidsAt_pre g T tok a r]
  ·rfl
theorem bodyT_pre (g : Int → ByteArray) (T : List Nd) (i : Nat) (a : ByteArray) : ∀ (h : Nat) (tok : Int) (l : List Int) (s : ByteArray), bodyT g T i h tok l (a ++ s) = a ++ bodyT g T i h tok l s
 | 0, _, _, s => rfl
 | h + 1, tok, l, s => by
  unfold bodyT
  rw [kidsAt_pre]
  split
  ·rw [show (a ++ (kidsAt g T tok l s).1 ++ spS ++ numS tok) = a ++ ((kidsAt g T tok l s).1 ++ spS ++ numS tok) by simp only [ByteArray.append_assoc], bodyT_pre g T i a h]
  ·rw [bodyT_pre g T i a h]
theorem kidsAt_stop (g : Int → ByteArray) (T : List Nd) {tok : Int} {l : List Int} (s : ByteArray) (h : ∀ c ∈ l, (kd T c).f ≠ tok) : kidsAt g T tok l s = (s, l) := by
 match l with
 | [] => rfl
 | c :: r => unfold kidsAt; rw [if_neg (h c (List.mem_cons_self ..))]
theorem bodyT_run (g : Int → ByteArray) (T : List Nd) (i : Nat) (v : Bool) (l : List Int) (h : Nat) : ∀ (k : Nat) (tok : Int) (s : ByteArray), (∀ x, tok ≤ x → x < tok + k → ownB T i x = v ∧ ∀ c ∈ l, (kd T c).f ≠ x) → bodyT g T i (k + h) tok l s = bodyT g T i h (tok + k) l (if v then toksA s (runW k tok) else s)
 | 0, tok, s, _ => by
  rw [Nat.zero_add, show tok + ((0 : Nat) : Int) = tok by omega]
  cases v <;> rfl
 | k + 1, tok, s, hx => by
  have h1 := hx tok (Int.le_refl _) (by omega)
  rw [show k + 1 + h = (k + h) + 1 by omega, bodyT, kidsAt_stop g T s h1.2, h1.1]
  have ih := fun s => bodyT_run g T i v l h k (tok + 1) s fun x h2 h3 => hx x (by omega) (by omega)
  cases v with
  | true =>
   simp only [if_true] at ih ⊢
   rw [ih, runW, toksA_cons, show tok + 1 + (k : Int) = tok + ((k + 1 : Nat) : Int) by omega]
  | false =>
   simp only [Bool.false_eq_true, if_false] at ih ⊢
   rw [ih, show tok + 1 + (k : Int) = tok + ((k + 1 : Nat) : Int) by omega]
theorem bodyT_kid (g : Int → ByteArray) (T : List Nd) (i h : Nat) {c : Int} (r : List Int) (s : ByteArray) : bodyT g T i (h + 1) (kd T c).f (c :: r) s = bodyT g T i (h + 1) (kd T c).f r (s ++ spS ++ g c) := by
 rw [bodyT, bodyT]
 have e : kidsAt g T (kd T c).f (c :: r) s = kidsAt g T (kd T c).f r (s ++ spS ++ g c) := by rw [kidsAt, if_pos rfl]
 rw [e]
theorem tx_over (T : List Nd) (R : Nat) (a : ByteArray) (i : Nat) (f t : Int) : txA T R a ⟨1, i, f, t⟩ = toksA a (spanW f t) := by unfold txA; rw [if_neg (show ¬ (1 : Int) = 0 by decide), if_pos rfl]
theorem tx_out (T : List Nd) (R : Nat) (a : ByteArray) (i : Nat) : txA T R a ⟨2, i, 0, 0⟩ = a ++ (⟨#[41]⟩ : ByteArray) := by unfold txA; rw [if_neg (show ¬ (2 : Int) = 0 by decide), if_neg (show ¬ (2 : Int) = 1 by decide), if_pos rfl]
theorem tx_into (T : List Nd) (R : Nat) (a : ByteArray) (i : Nat) (h : i ≠ R) : txA T R a ⟨0, i, 0, 0⟩ = a ++ spS ++ ((⟨#[40]⟩ : ByteArray) ++ numS (nd T i).k) := by unfold txA; rw [if_pos rfl, if_neg h]
theorem tx_body (hV : Valid T m) (R : Nat) (i : Nat) (l : List Int) (tok : Int) (h : LeftW T i l tok) (hR : i ≤ R) (a : ByteArray) : (bodyW T i l tok).foldl (txA T R) a = bodyT (kidT T i) T i (((nd T i).t - tok).toNat + 1) tok l a ++ (⟨#[41]⟩ : ByteArray) := by
 have hend := h.end_ hV
 match l, h with
 | [], h =>
  rw [bodyW_nil, List.foldl_cons, List.foldl_cons, List.foldl_nil, tx_over, tx_out]
  rw [bodyT_run (kidT T i) T i true [] 1 ((nd T i).t - tok).toNat tok a fun x h1 h2 => ⟨h.own hV h1 (by omega) fun c hc => (by cases hc), fun c hc => by cases hc⟩]
  rw [show tok + (((nd T i).t - tok).toNat : Int) = (nd T i).t by omega]
  have ho : ownB T i (nd T i).t = false := by
   cases ho : ownB T i (nd T i).t with
   | false => rfl
   | true => have h2 : (nd T i).t < (nd T i).t := (own_iff.1 ho).1.2; omega
  simp only [if_true, bodyT, kidsAt, ho, Bool.false_eq_true, if_false]
  rfl
 | c :: r, h =>
  obtain ⟨hc0, hci, hk, hr, h1, h2⟩ := h.kid hV
  have hn := hr.next hV
  have he := hr.end_ hV
  have hf : ∀ d ∈ c :: r, (kd T c).f ≤ (kd T d).f := fun d hd => by
   rcases List.mem_cons.1 hd with rfl | hd
   ·exact Int.le_refl _
   ·have := hn d hd; omega
  rw [bodyW_cons T r tok hci, List.foldl_cons, List.foldl_cons, List.foldl_append, tx_over, tx_into _ _ _ _ (by omega)]
  rw [tx_body hV R c.toNat _ _ hk (by omega), tx_body hV R i r _ hr hR]
  have hkt : bodyT (kidT T c.toNat) T c.toNat (((nd T c.toNat).t - (kd T c).f).toNat + 1) (kd T c).f (kd T c).kids (toksA a (spanW tok (kd T c).f) ++ spS ++ ((⟨#[40]⟩ : ByteArray) ++ numS (nd T c.toNat).k)) ++ (⟨#[41]⟩ : ByteArray) = toksA a (spanW tok (kd T c).f) ++ spS ++ kidT T i c := by
   rw [bodyT_pre, ByteArray.append_assoc]
   congr 1
   unfold kidT
   rw [if_pos hci, textF_eq]
   rfl
  rw [hkt]
  rw [show ((nd T i).t - tok).toNat + 1 = ((kd T c).f - tok).toNat + (((nd T i).t - (kd T c).f).toNat + 1) by omega]
  rw [bodyT_run (kidT T i) T i true (c :: r) (((nd T i).t - (kd T c).f).toNat + 1) ((kd T c).f - tok).toNat tok a fun x h3 h4 => ⟨h.own hV h3 (by omega) fun d hd => by have := hf d hd; omega, fun d hd => by have := hf d hd; omega⟩]
  rw [show tok + (((kd T c).f - tok).toNat : Int) = (kd T c).f by omega]
  simp only [if_true]
  rw [bodyT_kid]
  rw [show ((nd T i).t - (kd T c).f).toNat + 1 = ((kd T c).t - (kd T c).f).toNat + (((nd T i).t - (kd T c).t).toNat + 1) by omega]
  rw [bodyT_run (kidT T i) T i false r (((nd T i).t - (kd T c).t).toNat + 1) ((kd T c).t - (kd T c).f).toNat (kd T c).f _ fun x h3 h4 => ⟨?_, fun d hd => by have := hn d hd; omega⟩]
  ·rw [show (kd T c).f + (((kd T c).t - (kd T c).f).toNat : Int) = (kd T c).t by omega]
   rfl
  ·cases ho : ownB T i x with
   | false => rfl
   | true => exact absurd ⟨c, h.kids c (List.mem_cons_self ..), by omega, by omega⟩ (own_iff.1 ho).2
termination_by (i, l.length)
decreasing_by
 ·exact Prod.Lex.left _ _ (by assumption)
 ·exact Prod.Lex.right _ (by simp)
theorem tx_all (hV : Valid T m) : (stepsW T (T.length - 1)).foldl (txA T (T.length - 1)) ⟨#[]⟩ = textF T (T.length - 1) := by
 unfold stepsW
 rw [List.foldl_cons]
 have e : txA T (T.length - 1) ⟨#[]⟩ ⟨0, T.length - 1, 0, 0⟩ = (⟨#[40]⟩ : ByteArray) ++ numS (nd T (T.length - 1)).k := by
  unfold txA
  rw [if_pos rfl, if_pos rfl]
  exact ByteArray.empty_append
 rw [e, tx_body hV (T.length - 1) _ _ _ (LeftW.start hV (by have := hV.pos; omega)) (Nat.le_refl _), textF_eq]
theorem toksA_ge : ∀ (l : List Int) (s : ByteArray), s.size ≤ (toksA s l).size
 | [], s => Nat.le_refl _
 | x :: l, s => by
  rw [toksA_cons]
  refine Nat.le_trans ?_ (toksA_ge l _)
  simp only [ByteArray.size_append]
  omega
theorem txA_ge (T : List Nd) (R : Nat) (a : ByteArray) (s : Stp) : a.size ≤ (txA T R a s).size := by
 unfold txA
 split
 ·rw [ByteArray.size_append]
  split
  ·omega
  ·rw [ByteArray.size_append]; omega
 ·split
  ·exact toksA_ge _ _
  ·split
   ·rw [ByteArray.size_append]; omega
   ·exact Nat.le_refl _
theorem txs_ge (T : List Nd) (R : Nat) : ∀ (D : List Stp) (a : ByteArray), a.size ≤ (D.foldl (txA T R) a).size
 | [], a => Nat.le_refl _
 | s :: D, a => by rw [List.foldl_cons]; exact Nat.le_trans (txA_ge T R a s) (txs_ge T R D _)
theorem tx_small (hV : Valid T m) (hm : m ≤ 100) (h40 : T.length ≤ 40) {D : List Stp} {s : Stp} {R : List Stp} (h : D ++ s :: R = stepsW T (T.length - 1)) : (txA T (T.length - 1) (D.foldl (txA T (T.length - 1)) ⟨#[]⟩) s).size ≤ 40000 := by
 have hall := tx_all hV
 rw [← h, List.foldl_append, List.foldl_cons] at hall
 have h1 := txs_ge T (T.length - 1) R (txA T (T.length - 1) (D.foldl (txA T (T.length - 1)) ⟨#[]⟩) s)
 rw [hall] at h1
 have h2 := textF_size hV hm (i := T.length - 1) (by have := hV.pos; omega)
 omega
theorem body_steps (hV : Valid T m) (i : Nat) (l : List Int) (tok : Int) (h : LeftW T i l tok) : ∀ s ∈ bodyW T i l tok, s.j < T.length ∧ (s.c = 0 ∨ s.c = 1 ∨ s.c = 2) := by
 match l, h with
 | [], h =>
  intro s hs
  have := h.lt
  rw [bodyW_nil] at hs
  rcases List.mem_cons.1 hs with rfl | hs
  ·exact ⟨this, .inr (.inl rfl)⟩
  ·rw [List.mem_singleton.1 hs]
   exact ⟨this, .inr (.inr rfl)⟩
 | c :: r, h =>
  obtain ⟨hc0, hci, hk, hr, h1, h2⟩ := h.kid hV
  have hlt := h.lt
  have ih1 := body_steps hV c.toNat _ _ hk
  have ih2 := body_steps hV i r _ hr
  intro s hs
  rw [bodyW_cons T r tok hci] at hs
  rcases List.mem_cons.1 hs with rfl | hs
  ·exact ⟨hlt, .inr (.inl rfl)⟩
  ·rcases List.mem_cons.1 hs with rfl | hs
   ·exact ⟨by show c.toNat < _; omega, .inl rfl⟩
   ·rcases List.mem_append.1 hs with hs | hs
    ·exact ih1 s hs
    ·exact ih2 s hs
termination_by (i, l.length)
decreasing_by
 ·exact Prod.Lex.left _ _ (by assumption)
 ·exact Prod.Lex.right _ (by simp)
theorem steps_in (hV : Valid T m) {s : Stp} (hs : s ∈ stepsW T (T.length - 1)) : s.j < T.length ∧ (s.c = 0 ∨ s.c = 1 ∨ s.c = 2) := by
 have hp := hV.pos
 unfold stepsW at hs
 rcases List.mem_cons.1 hs with rfl | hs
 ·exact ⟨by show T.length - 1 < _; omega, .inl rfl⟩
 ·exact body_steps hV _ _ _ (LeftW.start hV (by omega)) s hs
end
end Go.Proofs.YtkgaaabecdbidaaDoor
