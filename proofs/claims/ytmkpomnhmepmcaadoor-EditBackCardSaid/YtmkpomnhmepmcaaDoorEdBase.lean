/-
  Edits of the program: their cells, their texts as lists of bytes; strings cut and joined; 'append' of a string's bytes; a string as bytes.
-/
import Derived.Test.YtmkpomnhmepmcaaDoorAppV
import Derived.Test.YtmkpomnhmepmcaaDoorUtfStr
import Derived.Test.YtmkpomnhmepmcaaDoorEditMath
import Derived.Test.YtmkpomnhmepmcaaDoorWrap
import Derived.Laws.IdiomStrings
namespace Go.Proofs.YtmkpomnhmepmcaaDoor
open Go.RowKit

/-- An edit as the program has it. -/
structure Ei where
  f : Int
  t : Int
  s : ByteArray
def edCells (e : Ei) : List Value := [.int .i64 e.f, .int .i64 e.t, .string e.s]
theorem ed_enc : EncOk edCells 3 := ⟨by omega, fun e => ⟨rfl, fun u hu => by simp [edCells] at hu; rcases hu with rfl | rfl | rfl <;> rfl⟩⟩
theorem ed_slice : SliceV edCells 3 23 45 := ⟨ed_enc, Tryd.underlying23, .agg #[.int .i64 0, .int .i64 0, .string ⟨#[]⟩], 32, by omega, by kernel_rfl, by kernel_rfl⟩
theorem eds_get {w : World} {B : Nat} {A : Option Addr} {l : List Ei} (h : CellsV edCells w B A l) (hp : 0 < l.length) : ∃ b o, A = some ⟨b, o, none⟩ ∧ b < B ∧ ∀ i x, l[i]? = some x → w.cell? ⟨b, o + i * 3, none⟩ = some (.int .i64 x.f) ∧ w.cell? ⟨b, o + i * 3 + 1, none⟩ = some (.int .i64 x.t) ∧ w.cell? ⟨b, o + i * 3 + 2, none⟩ = some (.string x.s) := by
  obtain ⟨b, o, e, hb, hc⟩ := CellsV.get ed_enc h hp
  exact ⟨b, o, e, hb, fun i x hx => ⟨hc i x hx 0 _ rfl, hc i x hx 1 _ rfl, hc i x hx 2 _ rfl⟩⟩
/-- One element's cells, at a place that is there. -/
theorem eds_at {w : World} {B : Nat} {A : Option Addr} {l : List Ei} (h : CellsV edCells w B A l) {i : Nat} (hi : i < l.length) : ∃ b o x, A = some ⟨b, o, none⟩ ∧ b < B ∧ l[i]? = some x ∧ w.cell? ⟨b, o + i * 3, none⟩ = some (.int .i64 x.f) ∧ w.cell? ⟨b, o + i * 3 + 1, none⟩ = some (.int .i64 x.t) ∧ w.cell? ⟨b, o + i * 3 + 2, none⟩ = some (.string x.s) := by
  obtain ⟨b, o, e, hb, hc⟩ := eds_get h (by omega)
  obtain ⟨h0, h1, h2⟩ := hc i l[i] (List.getElem?_eq_getElem hi)
  exact ⟨b, o, l[i], e, hb, List.getElem?_eq_getElem hi, h0, h1, h2⟩
/-- The one element of a slice literal, in a new block. -/
theorem one_ed (w : World) (x y : Int) (s : ByteArray) (T : TypeId) : CellsV edCells (w.alloc (.cells #[.int .i64 x, .int .i64 y, .string s] T)) (w.heap.size + 1) (some ⟨w.heap.size, 0, none⟩) [⟨x, y, s⟩] := fun _ => by
  refine ⟨_, _, rfl, by omega, fun j u hu => ?_⟩
  match j, hu with
  | 0, hu => cases hu; rw [World.cell?_alloc_at _ _ _ _ rfl]; rfl
  | 1, hu => cases hu; rw [World.cell?_alloc_at _ _ _ _ rfl]; rfl
  | 2, hu => cases hu; rw [World.cell?_alloc_at _ _ _ _ rfl]; rfl

/-- The bytes of a string. -/
def bts (s : ByteArray) : List Int := s.data.toList.map fun b => (b.toNat : Int)
theorem bts_length (s : ByteArray) : (bts s).length = s.size := by simp [bts]
theorem bts_byt (s : ByteArray) : U.Byt (bts s) := fun x hx => by
  simp only [bts, List.mem_map] at hx
  obtain ⟨b, _, rfl⟩ := hx
  have := b.toNat_lt
  omega
theorem bts_append (s t : ByteArray) : bts (s ++ t) = bts s ++ bts t := by simp [bts]
theorem bts_extract (s : ByteArray) (a b : Nat) : bts (s.extract a b) = ((bts s).take b).drop a := by
  simp [bts, List.extract, List.map_drop, List.map_take, List.drop_take]
theorem byt_of_nat (b : UInt8) : UInt8.ofNat ((b.toNat : Int)).toNat = b := by simp
theorem strOf_bts (s : ByteArray) : strOf (bts s) = s := by
  obtain ⟨⟨d⟩⟩ := s
  have h : List.map ((fun n : Int => UInt8.ofNat n.toNat) ∘ fun b : UInt8 => (b.toNat : Int)) d = d := by
    conv => rhs; rw [← List.map_id d]
    exact List.map_congr_left fun b _ => by simp
  simp [strOf, strOfNums, bts, h]
theorem bts_inj {s t : ByteArray} (h : bts s = bts t) : s = t := by rw [← strOf_bts s, ← strOf_bts t, h]
theorem bts_strOf {l : List Int} (h : U.Byt l) : bts (strOf l) = l := by
  simp only [bts, strOf, strOfNums, List.map_map]
  conv => rhs; rw [← List.map_id l]
  apply List.map_congr_left
  intro x hx
  have := h x hx
  simp only [Function.comp, UInt8.toNat_ofNat', id]
  omega
theorem bts_cells (s : ByteArray) : s.data.map (fun b => Value.int .u8 b.toNat) = ((bts s).map fun x => Value.int .u8 x).toArray := by
  apply Array.ext'
  simp [bts, Function.comp_def]
/-- 'append' of a string's bytes onto a slice of the call's own. -/
theorem run_app_str {T u E : TypeId} (hT : SliceK .u8 T E) (hu : Tryd.prog.underlying u = some .string) (w : World) (ty : TypeId) (base : Nat) (v : Value) (l : List Int) (hown : OwnK .u8 E w base v l) (s : ByteArray)
    (hlen : l.length + s.size ≤ 1000000) (hbase : base ≤ w.heap.size) :
    ∃ v' w', (Builtin.append_ #[T, u] ty #[v, .string s]).run Tryd.prog w = .ok v' w' ∧ OwnK .u8 E w' base v' (l ++ bts s) ∧ w.grownBy w' v.ownBlock ∧ (v'.ownBlock = v.ownBlock ∨ v'.ownBlock = some w.heap.size) := by
  -- the same run, in a world where the bytes lie in a block
  obtain ⟨ht, bb, hbb, hi0⟩ := hT
  obtain ⟨i, hi, hi2⟩ := Option.map_eq_some_iff.1 hi0
  simp only [Prod.mk.injEq] at hi2
  obtain ⟨hz, hs, hby⟩ := hi2
  have hx : (Array.map (fun b : UInt8 => Value.int IntKind.u8 (b.toNat : Int)) s.data).extract 0 s.size = ((bts s).map fun x => Value.int .u8 x).toArray := by
    rw [bts_cells]
    have : s.size = ((bts s).map fun x => Value.int .u8 x).toArray.size := by simp [bts_length]
    rw [this, Array.extract_size]
  have hxe : s.extract 0 s.size = s := by
    apply bts_inj
    rw [bts_extract, List.drop_zero, List.take_of_length_le (by rw [bts_length]; omega)]
  have hfc : ∀ w : World, (Builtin.firstCells 1 s.size (.string s)).run Tryd.prog w = .ok ((bts s).map fun x => Value.int .u8 x).toArray w := fun w => by
    simp [Builtin.firstCells, hxe, bts_cells]
  have hnl : ((bts s).map fun x => Value.int .u8 x).length = s.size := by rw [List.length_map, bts_length]
  have hlen2 : (l.map (fun x => Value.int .u8 x) ++ (bts s).map fun x => Value.int .u8 x).length = (l.length + s.size) * 1 := by simp [bts_length]
  have grown : ∀ (old : Nat), ∀ (row : Option Nat),
      (w.drew.alloc (.cells ((l.map (fun x => Value.int .u8 x)).toArray ++ ((bts s).map fun x => Value.int .u8 x).toArray ++ Builtin.zeroCells (Value.int .u8 0).cells (grownCap w (l.length + s.size) old E - (l.length + s.size))) E)).ownsRow base E 1
        (.slice (some ⟨w.heap.size, 0, none⟩) (l.length + s.size) (grownCap w (l.length + s.size) old E)) (l.length + s.size) (l.map (fun x => Value.int .u8 x) ++ (bts s).map fun x => Value.int .u8 x) ∧
      w.grownBy (w.drew.alloc (.cells ((l.map (fun x => Value.int .u8 x)).toArray ++ ((bts s).map fun x => Value.int .u8 x).toArray ++ Builtin.zeroCells (Value.int .u8 0).cells (grownCap w (l.length + s.size) old E - (l.length + s.size))) E)) row := by
    intro old row
    have hge := grownCap_ge w (l.length + s.size) old E
    have hcm : grownCap w (l.length + s.size) old E ≤ maxLen := grownCap_le_maxLen w (l.length + s.size) old E (by simp only [maxLen]; omega)
    refine ⟨⟨hlen2, .inr ⟨w.heap.size, _, _, rfl, hbase, heap_alloc_new w.drew _, hge, hcm, ?_, ?_⟩⟩, ⟨rfl, rfl, rfl, by simp, fun k hk _ => Below.heap_alloc w.drew _ k hk⟩⟩
    · simp only [Array.size_append, List.size_toArray, size_zeroCells, List.length_map, bts_length, Value.cells, List.size_toArray, List.length_cons, List.length_nil]
      omega
    · simp only [Array.toList_append, List.append_assoc]
      rw [← List.append_assoc, ← hlen2]
      exact List.take_left
  have hown' := hown
  unfold OwnK at hown' ⊢
  rw [List.length_append, List.map_append, bts_length]
  rcases hown'.2 with ⟨rfl, hl0⟩ | ⟨g, cap, cur, rfl, hbg, hg, hnc, hcm, hcs, htake⟩
  · have hln : l = [] := List.eq_nil_of_length_eq_zero hl0
    subst hln
    by_cases hm : s.size = 0
    · have hb0 : bts s = [] := List.eq_nil_of_length_eq_zero (by rw [bts_length]; exact hm)
      refine ⟨.slice none 0 0, w, ?_, by rw [hb0, hm]; exact World.ownsRow_nil w base E 1, World.grownBy.refl w _, .inl rfl⟩
      simp [Builtin.append_, run_underlying ht, run_underlying hu, sizeOf, typeInfo, hi, Builtin.lenOf, hm]
      rw [hs, ← hm, hfc]
      simp
    · have hgr := grown 0 (Value.ownBlock (.slice none 0 0))
      simp only [List.length_nil, Nat.zero_add, List.map_nil, List.nil_append, Array.empty_append] at hgr ⊢
      refine ⟨_, _, ?_, hgr.1, hgr.2, .inr rfl⟩
      have hn : ¬ s.size = 0 := hm
      have h63' : ¬ (9223372036854775807 < (s.size : Int)) := by simp only [List.length_nil] at hlen; omega
      have h48' : ¬ (281474976710656 < Builtin.nextslicecap s.size 0 * i.bytes) := by
        rw [nextslicecap_zero (by omega), hby]
        have : s.size * bb ≤ 1000000 * 8 := Nat.mul_le_mul (by simp only [List.length_nil] at hlen; omega) hbb
        omega
      simp [Builtin.append_, run_underlying ht, run_underlying hu, sizeOf, typeInfo, zeroValue, hi, hz, hs, Builtin.lenOf, hn, h63', h48', Question.forced, run_firstCells_none, hfc, newRow, grownCap]
  · by_cases hroom : l.length + s.size ≤ cap
    · have hst := run_storeCells_at Tryd.prog g (l.length * 1) E ((bts s).map fun x => Value.int .u8 x) 0 cur w hg (by rw [hnl, hcs]; simp; omega) (fun u hu => by obtain ⟨x, _, rfl⟩ := List.mem_map.1 hu; rfl)
      simp only [Nat.add_zero] at hst
      obtain ⟨cs, hcs'⟩ : ∃ cs, cs = (cur.toList.take (l.length * 1) ++ ((bts s).map fun x => Value.int .u8 x) ++ cur.toList.drop (l.length * 1 + ((bts s).map fun x => Value.int .u8 x).length)).toArray := ⟨_, rfl⟩
      rw [← hcs'] at hst
      refine ⟨_, w.setRow g cs, ?_, ⟨hlen2, .inr ⟨g, cap, cs, rfl, hbg, setRow_heap w g cur cs E _ hg, hroom, hcm, ?_, ?_⟩⟩, ⟨rfl, rfl, rfl, by simp, fun k _ hk => setRow_other w g k cs (fun e => hk (by simp [Value.ownBlock, e]))⟩, Or.inl rfl⟩
      · simp [Builtin.append_, run_underlying ht, run_underlying hu, sizeOf, typeInfo, hi, hs, Builtin.lenOf, hroom, hfc, Addr.add_lit]
        simp only [Nat.mul_one] at hst
        rw [hst]
        rfl
      · rw [hcs']
        simp only [List.size_toArray, List.length_append, List.length_take, List.length_drop, Array.length_toList, hnl]
        omega
      · rw [hcs', List.toList_toArray, htake, ← hlen2]
        exact List.take_left
    · have holds : ∀ j u, (l.map fun x => Value.int .u8 x)[j]? = some u → w.cell? ((⟨g, 0, none⟩ : Addr).add j) = some u := hown'.cells (g := g) rfl
      have hgr := grown cap (Value.ownBlock (.slice (some ⟨g, 0, none⟩) l.length cap))
      refine ⟨_, _, ?_, hgr.1, hgr.2, .inr rfl⟩
      have hn : ¬ (l.length + s.size ≤ cap) := hroom
      have h63' : ¬ (9223372036854775807 < ((l.length : Int) + (s.size : Int))) := by omega
      have h48' : ¬ (281474976710656 < Builtin.nextslicecap (l.length + s.size) cap * i.bytes) := by
        have := growslice_fits (need := l.length + s.size) (old := cap) (bytes := i.bytes) (by omega) (by
          rw [hby]
          have : (l.length + s.size) * bb ≤ 1000000 * 8 := Nat.mul_le_mul hlen hbb
          omega)
        omega
      have he : ∀ Z : Array Value, (l.map fun x => Value.int .u8 x).toArray ++ (((bts s).map fun x => Value.int .u8 x).toArray ++ Z) = (l.map (fun x => Value.int .u8 x) ++ (bts s).map fun x => Value.int .u8 x).toArray ++ Z := fun Z => by
        apply Array.ext'
        simp [List.append_assoc]
      have hfo := run_firstCells_some (P := Tryd.prog) w.drew 1 l.length ⟨g, 0, none⟩ l.length cap (l.map fun x => Value.int .u8 x) (by simp) (by simpa using holds)
      simp [Builtin.append_, run_underlying ht, run_underlying hu, sizeOf, typeInfo, zeroValue, hi, hz, hs, Builtin.lenOf, hn, h63', h48', Question.forced, hfc, hfo, newRow, grownCap]
      rw [he]
theorem wpList_app_str {T u E : TypeId} (hT : SliceK .u8 T E) (hu : Tryd.prog.underlying u = some .string) {ops : Array Oper} {rest : List Oper} {o : Oper} {a : Act} {Q : Exit → Act → World → Prop} (w : World) (hgd : o.guard = none) (s x : Operand)
    (ho : o.op = .call { callee := .builtin .append, args := #[s, x], argTypes := #[T, u] })
    (base : Nat) (v : Value) (l : List Int) (hs : a.eval s = v) (hown : OwnK .u8 E w base v l)
    (t : ByteArray) (hx : a.eval x = .string t) (hlen : l.length ≤ 500000) (hlen2 : t.size ≤ 500000) (hbase : base ≤ w.heap.size)
    (h : ∀ v' w', OwnK .u8 E w' base v' (l ++ bts t) → w.grownBy w' v.ownBlock → (v'.ownBlock = v.ownBlock ∨ v'.ownBlock = some w.heap.size) → wpList Tryd.prog ops Q rest (a.put o.dst v') w') : wpList Tryd.prog ops Q (o :: rest) a w :=
  wpList_plain hgd fun _ hK => by
    obtain ⟨v', w', hrun, h2, h3, h4⟩ := run_app_str hT hu w o.type base v l hown t (by omega) hbase
    unfold Oper.wp execOp
    simp only [ho, resolve, invoke, builtin, Sem.run_bind, Sem.run_pure, Result.andThen_ok, List.map_toArray, List.map_cons, List.map_nil, hs, hx, hrun]
    exact hK _ _ (h v' w' h2 h3 h4)
theorem u8_slice : SliceK .u8 22 5 := ⟨Tryd.underlying22, 1, by omega, by kernel_rfl⟩
/-- '[]byte(s)': the bytes in a block of their own. -/
theorem run_conv_str (w : World) (s : ByteArray) (hs : s.size ≤ maxLen) : ∃ cap w', (convert 9 22 (.string s)).run Tryd.prog w = .ok (.slice (some ⟨w.heap.size, 0, none⟩) s.size cap) w' ∧ s.size ≤ cap ∧ cap ≤ maxLen ∧ Byts w' w'.heap.size (some ⟨w.heap.size, 0, none⟩) (bts s) ∧ Below w.heap.size w w' := by
  refine ⟨_, _, run_bytes_of_string w _ _ _ s Tryd.underlying9 Tryd.underlying22 Tryd.underlying5, grownCap_ge _ _ _ _, grownCap_le_maxLen _ _ _ _ hs, ⟨bts_byt s, fun _ => ⟨_, _, rfl, by simp, fun i x hx => ?_⟩⟩, ?_⟩
  · have := World.cell?_alloc_mark w.drew (bytesRow s (grownCap w s.size 0 5)) 5 ((bytesRow s (grownCap w s.size 0 5)).size, (bytesRow s (grownCap w s.size 0 5)).size + 1) (0 + i)
    rw [show w.drew.heap.size = w.heap.size from rfl] at this
    rw [this, bytesRow, bts_cells, Nat.zero_add]
    have hi := (List.getElem?_eq_some_iff.1 hx).1
    rw [Array.getElem?_append_left (by simpa using hi)]
    simp [hx]
  · exact (Below.refl _ w).drew.alloc (Nat.le_refl _) _
end Go.Proofs.YtmkpomnhmepmcaaDoor
