/-
  Stage 10: the program's rawText; 'append' of a string's bytes.
-/
import Derived.Test.YtgkhjeefcflmcaaGreatDoorMt23
import Derived.Test.YtgkhjeefcflmcaaGreatDoorMt16
import Derived.Test.YtgkhjeefcflmcaaGreatDoorMt28
import Derived.Lib.Replace
namespace Go.Proofs.YtgkhjeefcflmcaaGreatDoor
open Go.RowKit Go.Sort
set_option linter.unusedSimpArgs false
theorem bts_inj {s t : ByteArray} (h : bts s = bts t) : s = t := by rw [← strOf_bts s, ← strOf_bts t, h]
theorem bts_extract (s : ByteArray) (a b : Nat) : bts (s.extract a b) = ((bts s).take b).drop a := by
 simp [bts, List.extract, List.map_drop, List.map_take, List.drop_take]
theorem run_app_str {T u E : TypeId} (hT : SliceK .u8 T E) (hu : Tryz.prog.underlying u = some .string) (w : World) (ty : TypeId) (base : Nat) (v : Value) (l : List Int) (hown : OwnK .u8 E w base v l) (s : ByteArray)
  (hlen : l.length + s.size ≤ 1000000) (hbase : base ≤ w.heap.size) :
  ∃ v' w', (Builtin.append_ #[T, u] ty #[v, .string s]).run Tryz.prog w = .ok v' w' ∧ OwnK .u8 E w' base v' (l ++ bts s) ∧ w.grownBy w' v.ownBlock ∧ (v'.ownBlock = v.ownBlock ∨ v'.ownBlock = some w.heap.size) := by
 obtain ⟨ht, bb, hbb, hi0⟩ := hT
 obtain ⟨i, hi, hi2⟩ := Option.map_eq_some_iff.1 hi0
 simp only [Prod.mk.injEq] at hi2
 obtain ⟨hz, hs, hby⟩ := hi2
 have hx : (Array.map (fun b : UInt8 => Value.int IntKind.u8 (b.toNat : Int)) s.data).extract 0 s.size = ((bts s).map fun x => Value.int .u8 x).toArray := by
  rw [bts_cells]
  have : s.size = ((bts s).map fun x => Value.int .u8 x).toArray.size := by simp [bts_length]
  rw [this, Array.extract_size]
 have hxe : s.extract 0 s.size = s := by
  apply bts_inj
  rw [bts_extract, List.drop_zero, List.take_of_length_le (by rw [bts_length]; omega)]
 have hfc : ∀ w : World, (Builtin.firstCells 1 s.size (.string s)).run Tryz.prog w = .ok ((bts s).map fun x => Value.int .u8 x).toArray w := fun w => by
  simp [Builtin.firstCells, hxe, bts_cells]
 have hnl : ((bts s).map fun x => Value.int .u8 x).length = s.size := by rw [List.length_map, bts_length]
 have hlen2 : (l.map (fun x => Value.int .u8 x) ++ (bts s).map fun x => Value.int .u8 x).length = (l.length + s.size) * 1 := by simp [bts_length]
 have grown : ∀ (old : Nat), ∀ (row : Option Nat),
   (w.drew.alloc (.cells ((l.map (fun x => Value.int .u8 x)).toArray ++ ((bts s).map fun x => Value.int .u8 x).toArray ++ Builtin.zeroCells (Value.int .u8 0).cells (grownCap w (l.length + s.size) old E - (l.length + s.size))) E)).ownsRow base E 1
    (.slice (some ⟨w.heap.size, 0, none⟩) (l.length + s.size) (grownCap w (l.length + s.size) old E)) (l.length + s.size) (l.map (fun x => Value.int .u8 x) ++ (bts s).map fun x => Value.int .u8 x) ∧
   w.grownBy (w.drew.alloc (.cells ((l.map (fun x => Value.int .u8 x)).toArray ++ ((bts s).map fun x => Value.int .u8 x).toArray ++ Builtin.zeroCells (Value.int .u8 0).cells (grownCap w (l.length + s.size) old E - (l.length + s.size))) E)) row := by
  intro old row
  have hge := grownCap_ge w (l.length + s.size) old E
  have hcm : grownCap w (l.length + s.size) old E ≤ maxLen := grownCap_le_maxLen w (l.length + s.size) old E (by simp only [maxLen]; omega)
  refine ⟨⟨hlen2, .inr ⟨w.heap.size, _, _, rfl, hbase, heap_alloc_new w.drew _, hge, hcm, ?_, ?_⟩⟩, ⟨rfl, rfl, rfl, by simp, fun k hk _ => Below.heap_alloc w.drew _ k hk⟩⟩
  ·simp only [Array.size_append, List.size_toArray, size_zeroCells, List.length_map, bts_length, Value.cells, List.size_toArray, List.length_cons, List.length_nil]
   omega
  ·simp only [Array.toList_append, List.append_assoc]
   rw [← List.append_assoc, ← hlen2]
   exact List.take_left
 have hown' := hown
 unfold OwnK at hown' ⊢
 rw [List.length_append, List.map_append, bts_length]
 rcases hown'.2 with ⟨rfl, hl0⟩ | ⟨g, cap, cur, rfl, hbg, hg, hnc, hcm, hcs, htake⟩
 ·have hln : l = [] := List.eq_nil_of_length_eq_zero hl0
  subst hln
  by_cases hm : s.size = 0
  ·have hb0 : bts s = [] := List.eq_nil_of_length_eq_zero (by rw [bts_length]; exact hm)
   refine ⟨.slice none 0 0, w, ?_, by rw [hb0, hm]; exact World.ownsRow_nil w base E 1, World.grownBy.refl w _, .inl rfl⟩
   simp [Builtin.append_, run_underlying ht, run_underlying hu, sizeOf, typeInfo, hi, Builtin.lenOf, hm]
   rw [hs, ← hm, hfc]
   simp
  ·have hgr := grown 0 (Value.ownBlock (.slice none 0 0))
   simp only [List.length_nil, Nat.zero_add, List.map_nil, List.nil_append, Array.empty_append] at hgr ⊢
   refine ⟨_, _, ?_, hgr.1, hgr.2, .inr rfl⟩
   have hn : ¬ s.size = 0 := hm
   have h63' : ¬ (9223372036854775807 < (s.size : Int)) := by simp only [List.length_nil] at hlen; omega
   have h48' : ¬ (281474976710656 < Builtin.nextslicecap s.size 0 * i.bytes) := by
    rw [nextslicecap_zero (by omega), hby]
    have : s.size * bb ≤ 1000000 * 8 := Nat.mul_le_mul (by simp only [List.length_nil] at hlen; omega) hbb
    omega
   simp [Builtin.append_, run_underlying ht, run_underlying hu, sizeOf, typeInfo, zeroValue, hi, hz, hs, Builtin.lenOf, hn, h63', h48', Question.forced, run_firstCells_none, hfc, newRow, grownCap]
 ·by_cases hroom : l.length + s.size ≤ cap
  ·have hst := run_storeCells_at Tryz.prog g (l.length * 1) E ((bts s).map fun x => Value.int .u8 x) 0 cur w hg (by rw [hnl, hcs]; simp; omega) (fun u hu => by obtain ⟨x, _, rfl⟩ := List.mem_map.1 hu; rfl)
   simp only [Nat.add_zero] at hst
   obtain ⟨cs, hcs'⟩ : ∃ cs, cs = (cur.toList.take (l.length * 1) ++ ((bts s).map fun x => Value.int .u8 x) ++ cur.toList.drop (l.length * 1 + ((bts s).map fun x => Value.int .u8 x).length)).toArray := ⟨_, rfl⟩
   rw [← hcs'] at hst
   refine ⟨_, w.setRow g cs, ?_, ⟨hlen2, .inr ⟨g, cap, cs, rfl, hbg, setRow_heap w g cur cs E _ hg, hroom, hcm, ?_, ?_⟩⟩, ⟨rfl, rfl, rfl, by simp, fun k _ hk => setRow_other w g k cs (fun e => hk (by simp [Value.ownBlock, e]))⟩, Or.inl rfl⟩
   ·simp [Builtin.append_, run_underlying ht, run_underlying hu, sizeOf, typeInfo, hi, hs, Builtin.lenOf, hroom, hfc, Addr.add_lit]
    simp only [Nat.mul_one] at hst
    rw [hst]
    rfl
   ·rw [hcs']
    simp only [List.size_toArray, List.length_append, List.length_take, List.length_drop, Array.length_toList, hnl]
    omega
   ·rw [hcs', List.toList_toArray, htake, ← hlen2]
    exact List.take_left
  ·have holds : ∀ j u, (l.map fun x => Value.int .u8 x)[j]? = some u → w.cell? ((⟨g, 0, none⟩ : Addr).add j) = some u := hown'.cells (g := g) rfl
   have hgr := grown cap (Value.ownBlock (.slice (some ⟨g, 0, none⟩) l.length cap))
   refine ⟨_, _, ?_, hgr.1, hgr.2, .inr rfl⟩
   have hn : ¬ (l.length + s.size ≤ cap) := hroom
   have h63' : ¬ (9223372036854775807 < ((l.length : Int) + (s.size : Int))) := by omega
   have h48' : ¬ (281474976710656 < Builtin.nextslicecap (l.length + s.size) cap * i.bytes) := by
    have := growslice_fits (need := l.length + s.size) (old := cap) (bytes := i.bytes) (by omega) (by
     rw [hby]
     have : (l.length + s.size) * bb ≤ 1000000 * 8 := Nat.mul_le_mul hlen hbb
     omega)
    omega
   have he : ∀ Z : Array Value, (l.map fun x => Value.int .u8 x).toArray ++ (((bts s).map fun x => Value.int .u8 x).toArray ++ Z) = (l.map (fun x => Value.int .u8 x) ++ (bts s).map fun x => Value.int .u8 x).toArray ++ Z := fun Z => by
    apply Array.ext'
    simp [List.append_assoc]
   have hfo := run_firstCells_some (P := Tryz.prog) w.drew 1 l.length ⟨g, 0, none⟩ l.length cap (l.map fun x => Value.int .u8 x) (by simp) (by simpa using holds)
   simp [Builtin.append_, run_underlying ht, run_underlying hu, sizeOf, typeInfo, zeroValue, hi, hz, hs, Builtin.lenOf, hn, h63', h48', Question.forced, hfc, hfo, newRow, grownCap]
   rw [he]
theorem wpList_app_str {T u E : TypeId} (hT : SliceK .u8 T E) (hu : Tryz.prog.underlying u = some .string) {ops : Array Oper} {rest : List Oper} {o : Oper} {a : Act} {Q : Exit → Act → World → Prop} (w : World) (hgd : o.guard = none) (s x : Operand)
  (ho : o.op = .call { callee := .builtin .append, args := #[s, x], argTypes := #[T, u] })
  (base : Nat) (v : Value) (l : List Int) (hs : a.eval s = v) (hown : OwnK .u8 E w base v l)
  (t : ByteArray) (hx : a.eval x = .string t) (hlen : l.length ≤ 500000) (hlen2 : t.size ≤ 500000) (hbase : base ≤ w.heap.size)
  (h : ∀ v' w', OwnK .u8 E w' base v' (l ++ bts t) → w.grownBy w' v.ownBlock → (v'.ownBlock = v.ownBlock ∨ v'.ownBlock = some w.heap.size) → wpList Tryz.prog ops Q rest (a.put o.dst v') w') : wpList Tryz.prog ops Q (o :: rest) a w :=
 wpList_plain hgd fun _ hK => by
  obtain ⟨v', w', hrun, h2, h3, h4⟩ := run_app_str hT hu w o.type base v l hown t (by omega) hbase
  unfold Oper.wp execOp
  simp only [ho, resolve, invoke, builtin, Sem.run_bind, Sem.run_pure, Result.andThen_ok, List.map_toArray, List.map_cons, List.map_nil, hs, hx, hrun]
  exact hK _ _ (h v' w' h2 h3 h4)
def crs (l : List UInt8) : List UInt8 := l.filter fun c => c != 13
theorem replace_crs : ∀ l : List UInt8, Lib.replaceK [13] [] (Lib.count l [13]) l = crs l
 | [] => by
  have h : Lib.index [] [13] = -1 := rfl
  rw [Lib.count_miss h]
  rfl
 | b :: m => by
  have ih := replace_crs m
  by_cases hb : b = 13
  ·subst hb
   have h : Lib.index ((13 : UInt8) :: m) [13] = ((0 : Nat) : Int) := by
    unfold Lib.index
    rw [pre_one]
    rfl
   rw [Lib.count_hit (by simp) h, Nat.add_comm, Lib.replaceK_hit _ _ _ _ _ h]
   show [] ++ [] ++ Lib.replaceK [13] [] (Lib.count (((13 : UInt8) :: m).drop (0 + 1)) [13]) (((13 : UInt8) :: m).drop (0 + 1)) = _
   show Lib.replaceK [13] [] (Lib.count m [13]) m = _
   rw [ih]
   rfl
  ·have hp : ([13] : List UInt8).isPrefixOf (b :: m) = false := by rw [pre_one]; simpa using fun h => hb h.symm
   have hu : crs (b :: m) = b :: crs m := by unfold crs; rw [List.filter_cons_of_pos (by simpa using hb)]
   have hi : Lib.index (b :: m) [13] = if Lib.index m [13] == -1 then -1 else Lib.index m [13] + 1 := by
    show (if ([13] : List UInt8).isPrefixOf (b :: m) then _ else _) = _
    rw [hp]
    rfl
   by_cases hm : Lib.index m [13] = -1
   ·rw [if_pos (beq_iff_eq.2 hm)] at hi
    rw [Lib.count_miss hi, hu, ← ih, Lib.count_miss hm]
    rfl
   ·have hge := Lib.index_ge m [13]
    obtain ⟨i, hi2⟩ : ∃ i : Nat, Lib.index m [13] = i := ⟨(Lib.index m [13]).toNat, by omega⟩
    rw [if_neg (fun e => hm (beq_iff_eq.1 e)), hi2] at hi
    have hi3 : Lib.index (b :: m) [13] = ((i + 1 : Nat) : Int) := by rw [hi]; omega
    rw [Lib.count_hit (by simp) hi2, Nat.add_comm, Lib.replaceK_hit _ _ _ _ _ hi2] at ih
    rw [Lib.count_hit (by simp) hi3, Nat.add_comm, Lib.replaceK_hit _ _ _ _ _ hi3, hu, ← ih]
    rfl
theorem replaceAll_crs (l : List UInt8) : Lib.replaceAll l [13] [] = crs l := by
 rw [← replace_crs]
 unfold Lib.replaceAll Lib.replace Lib.replaceNum
 rw [if_neg (by decide), if_pos (.inl (by decide))]
theorem rawR_hit : ∀ {m : List UInt8}, (96 : UInt8) ∈ m → rawR m = (8, [])
 | c :: t, h => by
  by_cases hc : c = 96
  ·exact if_pos hc
  ·have := rawR_hit (m := t) (by rcases List.mem_cons.1 h with e | e; exact absurd e.symm hc; exact e)
   show (if _ then _ else _) = _
   rw [if_neg hc, this]
   exact catT_err _ (by decide)
theorem rawR_miss : ∀ {m : List UInt8}, (96 : UInt8) ∉ m → rawR m = (0, crs m)
 | [], _ => rfl
 | c :: t, h => by
  have := rawR_miss (m := t) (fun e => h (List.mem_cons_of_mem _ e))
  have hc : c ≠ 96 := fun e => h (by rw [e]; exact List.mem_cons_self ..)
  show (if _ then _ else _) = _
  rw [if_neg hc, this, catT_ok]
  unfold crs
  by_cases h13 : c = 13
  ·subst h13; rfl
  ·rw [if_neg h13, List.filter_cons_of_pos (by simpa using h13)]
   rfl
theorem idx_hit : ∀ {m : List UInt8}, (96 : UInt8) ∈ m → 0 ≤ Lib.indexByte m 96
 | c :: t, h => by
  unfold Lib.indexByte
  by_cases hc : c = 96
  ·rw [if_pos (by rw [hc]; rfl)]; decide
  ·have := idx_hit (m := t) (by rcases List.mem_cons.1 h with e | e; exact absurd e.symm hc; exact e)
   rw [if_neg (by simpa using hc), if_neg (by intro e; have := beq_iff_eq.1 e; omega)]
   omega
theorem idx_miss : ∀ {m : List UInt8}, (96 : UInt8) ∉ m → Lib.indexByte m 96 = -1
 | [], _ => rfl
 | c :: t, h => by
  have := idx_miss (m := t) (fun e => h (List.mem_cons_of_mem _ e))
  have hc : c ≠ 96 := fun e => h (by rw [e]; exact List.mem_cons_self ..)
  unfold Lib.indexByte
  rw [if_neg (by simpa using hc), this]
  rfl
theorem crs_length (l : List UInt8) : (crs l).length ≤ l.length := List.length_filter_le _ _
set_option maxRecDepth 100000 in
set_option maxHeartbeats 2000000 in
theorem clone_str (s : ByteArray) (w : World) (hs : s.size ≤ 1000000) : Calls Tryz.prog 171 #[.string s] w fun e w' => e = .returned (.string s) ∧ Below w.heap.size w w' := by
 have HC := Lib.hid (fun V => Tryz.stringslite_Clone s V (by omega))
 go_enter Tryz.func171, Tryz.ntmps171
 go_wp2_with fail
 refine (HC.out _).mono ?_
 rintro e w1 ⟨rfl, hw⟩
 have HW := Lib.hid hw
 clear hw
 go_wp2_with fail
 go_ret
 exact ⟨rfl, HW.out⟩
set_option maxRecDepth 100000 in
set_option maxHeartbeats 2000000 in
theorem rawText_hit (m : List UInt8) (w : World) (h : (96 : UInt8) ∈ m) :
  Calls Tryz.prog 142 #[.string (bs m)] w fun e w' => e = .returned (.tuple #[.string ⟨#[]⟩, .iface 35 (.int .i64 8)]) ∧ Below w.heap.size w w' := by
 have HI := fun V => Tryz.strings_IndexByte (bs m) 96 V
 rw [bs_list] at HI
 obtain ⟨j, hj⟩ : ∃ j, Lib.indexByte m 96 = j := ⟨_, rfl⟩
 have hj0 : 0 ≤ j := by rw [← hj]; exact idx_hit h
 rw [show ((96 : Int).toNat.toUInt8) = 96 from rfl, hj] at HI
 have HI2 := Lib.hid HI
 clear HI h hj
 generalize bs m = z at *
 go_enter Tryz.func142, Tryz.ntmps142
 go_wp2_with fail
 refine (HI2.out _).mono ?_
 rintro e w1 ⟨rfl, rfl⟩
 go_wp2_with fail
 go_ret2
 exact ⟨rfl, Below.refl _ _⟩
set_option maxRecDepth 100000 in
set_option maxHeartbeats 2000000 in
theorem rawText_miss (m : List UInt8) (w : World) (hl : m.length ≤ 100000) (h : (96 : UInt8) ∉ m) (hml : Ml w) :
  Calls Tryz.prog 142 #[.string (bs m)] w fun e w' => e = .returned (.tuple #[.string (bs (crs m)), .nilIface]) ∧ Below w.heap.size w w' := by
 have HI := fun V => Tryz.strings_IndexByte (bs m) 96 V
 rw [bs_list] at HI
 rw [show ((96 : Int).toNat.toUInt8) = 96 from rfl, idx_miss h] at HI
 have HI2 := Lib.hid HI
 obtain ⟨k, hk⟩ := hml
 have hsz := bs_size m
 have HR := Tryz.strings_ReplaceAll (bs m) ⟨#[13]⟩ ⟨#[]⟩ k w (by omega) hk (by decide) (by show (bs m).size + Lib.countB (bs m) ⟨#[13]⟩ * 0 ≤ _; omega)
 have h13 : (⟨#[13]⟩ : ByteArray).data.toList = [13] := rfl
 have h0 : (⟨#[]⟩ : ByteArray).data.toList = [] := rfl
 rw [bs_list, h13, h0, replaceAll_crs, show (⟨(crs m).toArray⟩ : ByteArray) = bs (crs m) from rfl] at HR
 have HR2 := Lib.hid HR
 have HC := Lib.hid (fun V => clone_str (bs (crs m)) V (by rw [bs_size]; have := crs_length m; omega))
 clear HI h hk HR h13 h0
 generalize bs (crs m) = y at *
 generalize bs m = z at *
 go_enter Tryz.func142, Tryz.ntmps142
 go_wp2_with fail
 refine (HI2.out _).mono ?_
 rintro e w1 ⟨rfl, rfl⟩
 go_wp2_with fail
 refine (HR2.out).mono ?_
 rintro e w2 ⟨rfl, hw2⟩
 have HW2 := Lib.hid hw2
 clear hw2
 go_wp2_with fail
 refine (HC.out _).mono ?_
 rintro e w3 ⟨rfl, hw3⟩
 have HW3 := Lib.hid (HW2.out.trans (hw3.mono HW2.out.size))
 clear hw3
 go_wp2_with fail
 go_ret2
 exact ⟨rfl, HW3.out⟩
end Go.Proofs.YtgkhjeefcflmcaaGreatDoor
namespace Go.Proofs.YtgkhjeefcflmcaaGreatDoor
open Go.RowKit Go.Sort
set_option linter.unusedSimpArgs false
set_option maxRecDepth 100000 in
set_option maxHeartbeats 2000000 in
theorem TextP_raw (l : List UInt8) (k : Nat) (t : List UInt8) (w : World) (hl : l.length ≤ 100000) (hb : betB 96 l = true)
  (HR : Hid (Calls Tryz.prog 142 #[.string (bs (chrIn l))] w fun e w' => e = .returned (.tuple #[.string (bs t), errOf k]) ∧ Below w.heap.size w w')) :
  Calls Tryz.prog 109 #[.string (bs l)] w fun e w' => e = .returned (.tuple #[.string (bs t), errOf k]) ∧ Below w.heap.size w w' := by
 have HB : Hid (∀ V, Calls Tryz.prog 139 #[.string (bs l), .int .u8 96] V fun e w' => e = .returned (.tuple #[.string (bs (chrIn l)), .bool true]) ∧ w' = V) := fun V => betweenP_true l 96 V hl hb
 clear hb hl
 generalize bs (chrIn l) = y at *
 generalize bs l = z at *
 go_enter Tryz.func109, Tryz.ntmps109
 go_wp2_with fail
 refine (HB.out _).mono ?_
 rintro e w1 ⟨rfl, rfl⟩
 go_wp2_with fail
 refine (HR.out).mono ?_
 rintro e w2 ⟨rfl, hw⟩
 have HW := Lib.hid hw
 clear hw
 go_wp2_with fail
 go_ret2
 exact ⟨rfl, HW.out⟩
set_option maxRecDepth 100000 in
set_option maxHeartbeats 2000000 in
theorem TextP_none (l : List UInt8) (w : World) (hl : l.length ≤ 100000) (hb : betB 96 l = false) (hb2 : betB 34 l = false) :
  Calls Tryz.prog 109 #[.string (bs l)] w fun e w' => e = .returned (.tuple #[.string ⟨#[]⟩, .iface 35 (.int .i64 8)]) ∧ w' = w := by
 have HB : Hid (∀ V, Calls Tryz.prog 139 #[.string (bs l), .int .u8 96] V fun e w' => e = .returned (.tuple #[.string (bs []), .bool false]) ∧ w' = V) := fun V => betweenP_false l 96 V hl hb
 have HB2 : Hid (∀ V, Calls Tryz.prog 139 #[.string (bs l), .int .u8 34] V fun e w' => e = .returned (.tuple #[.string (bs []), .bool false]) ∧ w' = V) := fun V => betweenP_false l 34 V hl hb2
 clear hb hl hb2
 generalize bs l = z at *
 go_enter Tryz.func109, Tryz.ntmps109
 go_wp2_with fail
 refine (HB.out _).mono ?_
 rintro e w1 ⟨rfl, rfl⟩
 go_wp2_with fail
 refine (HB2.out _).mono ?_
 rintro e w2 ⟨rfl, rfl⟩
 go_wp2_with fail
 go_ret2
 exact ⟨rfl, rfl⟩
def NxtT (l : List UInt8) (k : Nat) (v : Int) (y : List UInt8) (n : Nat) : Prop := (k ≠ 0 ∧ v = 0 ∧ y = [] ∧ n = 0 ∧ ∀ f x, catT x (txtR (f + 1) l) = (k, [])) ∨ (k = 0 ∧ 1 ≤ n ∧ n ≤ l.length ∧ y.length ≤ 4 ∧ ∀ f x, catT x (txtR (f + 1) l) = catT (x ++ y) (txtR f (l.drop n)))
theorem nxtT_is (c : UInt8) (t : List UInt8) (hl : (c :: t).length ≤ 100000) : ∃ k v y n, NxtT (c :: t) k v y n ∧ k ≤ 14 ∧ ∀ w, ErrVars w → Heads w →
  Calls Tryz.prog 141 #[.string (bs (c :: t)), .int .u8 34, .func (.func 143) #[] #[]] w fun e w' => e = .returned (.tuple #[unitV v y n, errOf k]) ∧ Below w.heap.size w w' := by
 by_cases hbad : c = 34 ∨ c = 10
 ·exact ⟨8, 0, [], 0, .inl ⟨by decide, rfl, rfl, rfl, fun f x => by rw [txtR_bad hbad, catT_err _ (by decide)]⟩, by decide, fun w hv hh => nextT_bad c t 34 w hl hbad⟩
 ·by_cases h92 : c = 92
  ·obtain ⟨v, bt, sz, he⟩ : ∃ v bt sz, escF 34 (c :: t) = (v, bt, sz) := ⟨_, _, _, rfl⟩
   by_cases hs : sz = 0
   ·subst hs
    refine ⟨14, 0, [], 0, .inl ⟨by decide, rfl, rfl, rfl, fun f x => ?_⟩, by decide, fun w hv hh => nextT_none c t 34 w hl v bt (.inl rfl) hv hh h92 he⟩
    subst h92
    rw [txtR_none he, catT_err _ (by decide)]
   ·have h3 := escF_size he hs
    refine ⟨0, v, encB v bt, sz, .inr ⟨rfl, by omega, h3.2.1, encB_len v bt, fun f x => ?_⟩, by decide, fun w hv hh => nextT_esc c t 34 w hl v bt sz hs (.inl rfl) hv hh h92 he⟩
    subst h92
    rw [txtR_esc he hs, catT_catT]
  ·refine ⟨0, (c.toNat : Int), [c], 1, .inr ⟨rfl, by decide, by simp, by simp, fun f x => ?_⟩, by decide, fun w hv hh => nextT_plain c t 34 w hl (c.toNat : Int) [c] 1 .nilIface ⟨hbad, h92⟩ (fun V hV => plainT_run c t V hl)⟩
   rw [txtR_one hbad h92, catT_catT]
   rfl
set_option maxRecDepth 100000 in
set_option maxHeartbeats 4000000 in
theorem TextP_line (l : List UInt8) (k : Nat) (t : List UInt8) (w : World) (hl : l.length ≤ 100000) (hb : betB 96 l = false) (hb2 : betB 34 l = true) (h : Hid (txtR (l.length + 1) (chrIn l) = (k, t))) (hv : ErrVars w) (hh : Heads w) :
    Calls Tryz.prog 109 #[.string (bs l)] w fun e w' => e = .returned (.tuple #[.string (bs t), errOf k]) ∧ Below w.heap.size w w' := by
  have HB : Hid (∀ V, Calls Tryz.prog 139 #[.string (bs l), .int .u8 96] V fun e w' => e = .returned (.tuple #[.string (bs []), .bool false]) ∧ w' = V) := fun V => betweenP_false l 96 V hl hb
  have HB2 : Hid (∀ V, Calls Tryz.prog 139 #[.string (bs l), .int .u8 34] V fun e w' => e = .returned (.tuple #[.string (bs (chrIn l)), .bool true]) ∧ w' = V) := fun V => betweenP_true l 34 V hl hb2
  have hml : (chrIn l).length ≤ 100000 := by rw [chr_len]; omega
  have HF : Hid ((chrIn l).length < l.length + 1) := by show _ < _; rw [chr_len]; omega
  have HS0 : Hid ((k, t) = catT [] (txtR (l.length + 1) (chrIn l))) := by
    show _ = _
    rw [catT_nil _ (txtR_plain _ _), h.out]
  obtain ⟨m, hm⟩ : ∃ m, chrIn l = m := ⟨_, rfl⟩
  rw [hm] at HB2 hml HF HS0
  obtain ⟨F, hF⟩ : ∃ F, l.length + 1 = F := ⟨_, rfl⟩
  rw [hF] at HF HS0
  obtain ⟨S, hS⟩ : ∃ S, w.heap.size = S := ⟨_, rfl⟩
  have HVS : Hid (∀ V, Below S w V → ErrVars V ∧ Heads V) := fun V hV => ⟨hv.below (by rw [hS]; exact hV), heads_below hh (by rw [hS]; exact hV)⟩
  have hms := bs_size m
  obtain ⟨L, hL⟩ : ∃ L, m.length = L := ⟨_, rfl⟩
  rw [hL] at hms hml
  have HL := Lib.hid hL
  have HS := Lib.hid hS
  rw [hS]
  clear hm hF hb hb2 h hv hh hL hl
  generalize bs l = z at *
  go_enter Tryz.func109, Tryz.ntmps109
  go_wp2_with fail
  refine (HB.out _).mono ?_
  rintro e w1 ⟨rfl, rfl⟩
  go_wp2_with fail
  refine (HB2.out _).mono ?_
  rintro e w0 ⟨rfl, rfl⟩
  go_wp2_with
    (refine wpList_makeK u8_slice _ rfl (.const (.int .i64 0)) (.tmp 31) rfl S 0 L rfl rfl (Nat.zero_le _) (by omega) (by rw [HS.out]; exact Nat.le_refl _) ?_
     intro w2 o2 g2
     have O0 : Hid (OwnK .u8 5 w2 S (.slice (some ⟨w0.heap.size, 0, none⟩) 0 L) (bi [])) := o2
     have B0 : Hid (Below S w0 w2) := (Below.refl S w0).grown g2 (by have := HS.out; omega) (fun g hg => by cases hg)
     clear o2 g2)
  clear HB HB2
  have B0s : Hid (4 * L ≤ 400000) := by show _ ≤ _; omega
  go_loopg [6, 9] (L + 1) (fun h s6 s9 wr => ∃ (m' x : List UInt8), s6 = .string (bs m') ∧ Hid (m'.length + 1 ≤ h) ∧ m'.length ≤ 100000 ∧ Hid (OwnK .u8 5 wr S s9 (bi x)) ∧ Hid (x.length + 4 * m'.length ≤ 400000) ∧ Hid (∃ f, m'.length < f ∧ (k, t) = catT x (txtR f m')) ∧ Hid (Below S w0 wr))
  case atStart => exact ⟨m, [], rfl, (by show _ ≤ _; rw [HL.out]; omega), (by rw [HL.out]; exact hml), (by first | exact O0 | (rw [← HS.out]; exact O0) | (have o := O0.out; rw [HS.out] at o; exact o)), (by show 0 + _ ≤ _; rw [HL.out, Nat.zero_add]; exact B0s.out), ⟨F, HF.out, HS0.out⟩, B0⟩
  case round =>
    clear O0 B0 B0s HS0 HF hms
    obtain ⟨m', x, rfl, HI, hml', O, HX, HT0, HB⟩ := hrel
    obtain ⟨f, hf0, HT1⟩ := HT0.out
    have HF := Lib.hid hf0
    have HT := Lib.hid HT1
    clear HT0 HT1 hf0
    have hms := bs_size m'
    have hsz : S ≤ wr.heap.size := by rw [← HS.out]; exact HB.out.size
    match m', HI, hml', HX, HF, HT, hms with
    | [], HI, hml', HX, HF, HT, hms =>
      have HR : Hid (k = 0 ∧ t = x) := by
        have := HT.out
        rw [txtR_nil, catT_ok, List.append_nil] at this
        cases this
        exact ⟨rfl, rfl⟩
      obtain ⟨A9, cap9, hu9, hc9, hm9, y9⟩ := O.out.nums
      subst hu9
      have hcv := conv_bytes (byts_nums y9) _ cap9 rfl
      rw [bi_str] at hcv
      clear O y9 hm9 HT
      have hb0 : bs [] = ⟨#[]⟩ := rfl
      rw [hb0]
      go_wp2_with fail
      go_ret2
      exact ⟨by rw [HR.out.1, HR.out.2]; rfl, HB.out⟩
    | c :: t', HI, hml', HX, HF, HT, hms =>
      obtain ⟨k', v, y, n, hN, hk14, hC⟩ := nxtT_is c t' hml'
      have HC := Lib.hid (hC wr (HVS.out _ HB.out).1 (HVS.out _ HB.out).2)
      obtain ⟨g, rfl⟩ : ∃ g, f = g + 1 := ⟨f - 1, by have := HF.out; simp only [List.length_cons] at this; omega⟩
      have hemp : (bs (c :: t')).toList.isEmpty = false := by rw [bs_isEmpty]; rfl
      clear hC
      rcases hN with ⟨hk0, rfl, rfl, rfl, hcat⟩ | ⟨rfl, hn1, hnl, hy4, hcat⟩
      · have HR : Hid (k = k' ∧ t = []) := by
          have := HT.out
          rw [hcat] at this
          cases this
          exact ⟨rfl, rfl⟩
        have he : errOf k' = .iface 35 (.int .i64 (k' : Int)) := if_neg hk0
        have HE := Lib.hid he
        rw [he] at HC
        have HC1 : Hid (Calls Tryz.prog 141 #[.string (bs (c :: t')), .int .u8 34, .func (.func 143) #[] #[]] wr fun e w' => e = .returned (.tuple #[.agg #[.int .i32 0, .string (bs []), .int .i64 0], .iface 35 (.int .i64 (k' : Int))]) ∧ Below wr.heap.size wr w') := HC
        clear hcat hk0 he HT HC hk14
        generalize (c :: t').length = Lc at *
        generalize bs (c :: t') = yy at *
        go_wp2_with fail
        refine (HC1.out).mono ?_
        rintro e w3 ⟨rfl, hw3⟩
        have HB3 := Lib.hid (HB.out.trans (hw3.mono hsz))
        have HZ3 : Hid (S ≤ w3.heap.size) := Nat.le_trans hsz hw3.size
        clear hw3
        go_wp2_with fail
        go_ret2
        exact ⟨by rw [HR.out.1, HR.out.2, HE.out]; rfl, HB3.out.alloc HZ3.out _⟩
      · have HT2 : Hid (∃ f, ((c :: t').drop n).length < f ∧ (k, t) = catT (x ++ y) (txtR f ((c :: t').drop n))) := by
          refine ⟨g, ?_, ?_⟩
          · rw [List.length_drop]; have := HF.out; omega
          · have := HT.out; rw [hcat] at this; exact this
        have HC1 : Hid (Calls Tryz.prog 141 #[.string (bs (c :: t')), .int .u8 34, .func (.func 143) #[] #[]] wr fun e w' => e = .returned (.tuple #[.agg #[.int .i32 v, .string (bs y), .int .i64 (n : Int)], .nilIface]) ∧ Below wr.heap.size wr w') := HC
        have hfr := bs_from (c :: t') n (c :: t').length rfl
        have hys := bs_size y
        have HXY : Hid (x.length ≤ 400000 ∧ (x ++ y).length + 4 * ((c :: t').drop n).length ≤ 400000 ∧ ((c :: t').drop n).length + 1 ≤ (c :: t').length ∧ ((c :: t').drop n).length ≤ 100000) := by
          have := HX.out
          refine ⟨by omega, ?_, ?_, ?_⟩
          · rw [List.length_append, List.length_drop]; omega
          · rw [List.length_drop]; omega
          · rw [List.length_drop]; omega
        have HYL : Hid ((bs y).size ≤ 500000) := by show _ ≤ _; omega
        have HXL : Hid ((bi x).length ≤ 500000) := by show _ ≤ _; rw [bi_length]; have := HXY.out.1; omega
        have HAP : Hid (bi x ++ bts (bs y) = bi (x ++ y)) := by show _ = _; rw [bts_bs, bi_app]
        obtain ⟨Lc, hLc⟩ : ∃ Lc, (c :: t').length = Lc := ⟨_, rfl⟩
        rw [hLc] at hfr hms hnl hml' HXY HI
        obtain ⟨m2, hm2⟩ : ∃ m2, (c :: t').drop n = m2 := ⟨_, rfl⟩
        rw [hm2] at hfr HT2 HXY
        obtain ⟨yy, hyy⟩ : ∃ yy, bs (c :: t') = yy := ⟨_, rfl⟩
        rw [hyy] at hfr hms hemp HC1 ⊢
        clear hcat HT HC hk14 hLc hm2 hyy HX hys HF
        obtain ⟨ys, hysd⟩ : ∃ ys, bs y = ys := ⟨_, rfl⟩
        rw [hysd] at HC1 HYL HAP
        clear hysd hy4
        go_wp2_with fail
        refine (HC1.out).mono ?_
        rintro e w3 ⟨rfl, hw3⟩
        have HB3 := Lib.hid (HB.out.trans (hw3.mono hsz))
        have HZ3 : S ≤ w3.heap.size := Nat.le_trans hsz hw3.size
        have OA : Hid (OwnK .u8 5 (w3.alloc (.cells #[.int .i32 v, .string ys, .int .i64 (n : Int)] 201)) S u9 (bi x)) := World.ownsRow.alloc (O.out.below hw3) _
        have hob : Hid (∀ gg, u9.ownBlock = some gg → gg < w3.heap.size) := fun gg hg => (World.ownsRow.lt (O.out.below hw3) gg hg).2
        have HUN := Lib.hid (UAt.new w3 v (n : Int) ys)
        have hbase : S ≤ (w3.alloc (.cells #[.int .i32 v, .string ys, .int .i64 (n : Int)] 201)).heap.size := by have := HZ3; simp; omega
        clear hw3 O
        go_wp2_with
          (at_builtin
           refine wpList_app_str u8_slice Tryz.underlying9 _ rfl (.tmp 44) (.tmp 46) rfl S u9 _ rfl OA.out ys rfl HXL.out HYL.out hbase ?_
           intro v4 w4 o4 g4 t4
           have BV : Hid (Below S w0 w4) := (HB3.out.alloc HZ3 _).grown g4 hbase (own_ge OA.out)
           have OV : Hid (OwnK .u8 5 w4 S v4 (bi (x ++ y))) := by show OwnK _ _ _ _ _ _; rw [← HAP.out]; exact o4
           have hc2 : w4.cell? ⟨w3.heap.size, 2, none⟩ = some (.int .i64 (n : Int)) := (World.cell?_of_block (g4.block w3.heap.size (by simp) (fun e => absurd (hob.out _ e.symm) (Nat.lt_irrefl _)))).trans HUN.out.c2
           clear o4 g4 t4 HUN)
        go_roundg (m2.length + 1)
        case measure => have := HI.out; have := HXY.out.2.2.1; omega
        case rel => exact ⟨m2, x ++ y, rfl, (by show _ ≤ _; omega), HXY.out.2.2.2, OV.out, HXY.out.2.1, HT2.out, BV.out⟩
end Go.Proofs.YtgkhjeefcflmcaaGreatDoor
