/-
  The contracts of slices.Clone and span.Sort: a slice of the call's own that holds the spans in order.
-/
import Derived.Test.YtnbnohphdehfoaaSpMeet
import Derived.Test.YtnbnohphdehfoaaSrtStab
import Derived.Lib.SliceRun
namespace Go.Proofs.Ytnbnohphdehfoaa
open Go.Shelf Go.RowKit Go.Lib Go.Sort

theorem span_slice : SliceV pairCells 2 34 23 := ⟨pair_enc, Try.underlying34, .agg #[.int .i64 0, .int .i64 0], 16, by omega, by kernel_rfl, by kernel_rfl⟩
theorem ord_swo : SWO (ltOf ordI) where
  irrefl x := lt_false.2 (by rw [ord_lt]; omega)
  trans x y z h1 h2 := lt_true.2 (by
    have h1 := lt_true.1 h1
    have h2 := lt_true.1 h2
    rw [ord_lt] at h1 h2 ⊢
    omega)
  ntrans x y z h1 h2 := lt_false.2 (by
    have h1 := lt_false.1 h1
    have h2 := lt_false.1 h2
    rw [ord_lt] at h1 h2 ⊢
    omega)
theorem below_putRow {w : World} {blk off : Nat} (d : Array (Int × Int)) (n : Nat) (os : Array Obj) {B : Nat} (hB : B ≤ blk) (hs : B ≤ w.heap.size) : Below B w (sortWorldK pairCells 2 w blk off n d os) := by
  unfold sortWorldK
  refine below_grow ?_ (by rw [size_putRowK]; exact hs) os
  unfold putRowK putRow mapBlock
  refine ⟨rfl, rfl, rfl, by simp [Sort.ahead], fun k hk => ?_⟩
  show (w.heap.modify blk _)[k]? = _
  rw [Array.getElem?_modify, if_neg (by omega)]
theorem swk_below {w0 w' : World} {blk off : Nat} {d : Array (Int × Int)} (h : SWK pairCells 2 w0 blk off d w') {B : Nat} (hB : B ≤ blk) (hs : B ≤ w0.heap.size) : Below B w0 w' := by
  obtain ⟨n, os, rfl⟩ := h
  exact below_putRow d n os hB hs
theorem flatK_get (d : Array (Int × Int)) (j : Nat) (hj : j < d.size * 2) : (flatK pairCells 2 d)[j]! = (d.toList.flatMap pairCells)[j]! := by
  have h1 : d.toList[j / 2]? = some d[j / 2]! := by
    rw [List.getElem?_eq_getElem (by rw [Array.length_toList]; omega)]
    simp [show j / 2 < d.size by omega]
  have h2 : (pairCells d[j / 2]!)[j % 2]? = some (pairCells d[j / 2]!)[j % 2]! := by
    rw [List.getElem!_eq_getElem?_getD, List.getElem?_eq_getElem (by show j % 2 < 2; omega)]
    rfl
  have h3 := flat_get pair_enc h1 h2
  rw [show j / 2 * 2 + j % 2 = j by omega] at h3
  rw [get_flatK _ _ _ _ hj, show (d.toList.flatMap pairCells)[j]! = ((d.toList.flatMap pairCells)[j]?).getD default from List.getElem!_eq_getElem?_getD .., h3]
  rfl
/-- A slice of the call's own as the sort's row. -/
theorem own_row {w : World} {base g cap : Nat} {l : List (Int × Int)} (h : OwnV pairCells 2 23 w base (.slice (some ⟨g, 0, none⟩) l.length cap) l) : RowK pairCells 2 w g 0 l.toArray := by
  refine ⟨fun _ => rfl, pair_one, fun j hj => ?_, (World.ownsRow.lt h g rfl).2⟩
  have hj' : j < l.length * 2 := by simpa using hj
  refine ⟨?_, by rw [Nat.zero_add]; exact World.ownsRow.frozenAt h j⟩
  have hlen : j < (l.flatMap pairCells).length := by rw [flat_length pair_enc]; exact hj'
  have := World.ownsRow.cells h (g := g) rfl j _ (List.getElem?_eq_getElem hlen)
  rw [flatK_get _ _ (by simpa using hj')]
  have hp : (⟨g, 0, none⟩ : Addr).add j = ⟨g, 0 + j, none⟩ := by unfold Addr.add; split <;> simp_all
  rw [hp] at this
  rw [this, show (l.toArray.toList.flatMap pairCells)[j]! = ((l.flatMap pairCells)[j]?).getD default from List.getElem!_eq_getElem?_getD .., List.getElem?_eq_getElem hlen]
  rfl
theorem row_cells {w0 w' : World} {g : Nat} {d0 d : Array (Int × Int)} (h : SWK pairCells 2 w0 g 0 d w') (R : RowK pairCells 2 w0 g 0 d0) (hs : d.size = d0.size) : CellsV pairCells w' w'.heap.size (some ⟨g, 0, none⟩) d.toList := fun _ => by
  have hh := h.holds R.hblk R.hH hs
  refine ⟨g, 0, rfl, h.lt R.hblk, fun j u hu => ?_⟩
  have hlen := (List.getElem?_eq_some_iff.1 hu).1
  rw [flat_length pair_enc, Array.length_toList] at hlen
  have := (hh j (by rw [size_flatK]; exact hlen)).1
  rw [flatK_get _ _ hlen, List.getElem!_eq_getElem?_getD, hu] at this
  exact this
set_option maxHeartbeats 2000000 in
theorem clone_run (A : Option Addr) (n cap : Nat) (l : List (Int × Int)) (w : World) (hb : CellsV pairCells w w.heap.size A l) (hl : Hid (l.length = n)) (hn : n ≤ 400000) :
    Calls Try.prog 30 #[.slice A n cap] w fun e w' => ∃ v, e = .returned v ∧ OwnV pairCells 2 23 w' w.heap.size v l ∧ Below w.heap.size w w' := by
  have HB := Lib.hid hb
  have q22 : ∀ (w : World) (a : Option Addr) (n c n' c' : Nat), (binOp .eql 34 (.slice a n c) (.slice none n' c')).run Try.prog w = .ok (.bool a.isNone) w := fun w a n c n' c' => Lib.run_eql_slice_nil w _ _ a n c n' c' Try.underlying34
  clear hb
  cases A with
  | none =>
    have hnil : l = [] := by
      rcases Nat.eq_zero_or_pos l.length with h0 | h0
      · exact List.eq_nil_of_length_eq_zero h0
      · obtain ⟨b, o, e, _⟩ := HB.out h0
        cases e
    subst hnil
    go_enter Try.func30, Try.ntmps30
    go_wp2
    go_ret
    exact ⟨_, rfl, OwnV.nil _ _ _ _ _, Below.refl _ _⟩
  | some a =>
    have O1 : Hid (OwnV pairCells 2 23 (w.alloc (.cells #[] 23)) w.heap.size (.slice (some ⟨w.heap.size, 0, none⟩) 0 0) ([] : List (Int × Int))) := OwnV.lit pair_enc _ w w.heap.size [] (Nat.le_refl _) (by simp)
    have B1 : Hid (Below w.heap.size w (w.alloc (.cells #[] 23))) := (Below.refl _ _).alloc (Nat.le_refl _) _
    have H1 : Hid (CellsV pairCells (w.alloc (.cells #[] 23)) w.heap.size (some a) l) := HB.out.below B1.out (Nat.le_refl _)
    clear HB
    go_enter Try.func30, Try.ntmps30
    go_wp2_with
      (at_builtin
       refine wpList_appV span_slice _ rfl (.tmp 5) (.tmp 6) rfl w.heap.size _ _ rfl O1.out w.heap.size (some a) n cap l rfl H1.out hl.out (by simp) (by have := hl.out; omega) (by simp) ?_
       intro v3 w3 o3 g3 t3
       have BV : Hid (Below w.heap.size w w3) := B1.out.grown g3 (by simp) (ownV_ge O1.out)
       clear g3 t3)
    go_ret
    exact ⟨_, rfl, o3, BV.out⟩
theorem spans_of_perm {d : Array (Int × Int)} {l : List (Int × Int)} (h : PermIn 0 l.toArray.size l.toArray d) : d.toList.Perm l := by
  have h2 := h.2.2
  have e : d.size = l.length := by simpa using h.1
  rw [Array.toList_extract, Array.toList_extract] at h2
  have h3 : (d.toList.take l.length).Perm l := by simpa [List.extract, e] using h2
  rwa [List.take_of_length_le (by rw [Array.length_toList]; omega)] at h3
theorem sorted_pair {d : Array (Int × Int)} {n : Nat} (h : SortedIn (ltOf ordI) 0 n d) (hn : d.size = n) : d.toList.Pairwise fun a b => ¬ ordI b a < 0 := by
  rw [List.pairwise_iff_getElem]
  intro i j hi hj hij
  have := h i j (Nat.zero_le _) hij (by rw [← hn]; simpa using hj)
  rw [lt_false] at this
  simpa [show i < d.size by simpa using hi, show j < d.size by simpa using hj] using this
/-- What span.Sort hands back. -/
def SortOut (l : List (Int × Int)) (n : Nat) (w : World) (e : Ending) (w' : World) : Prop :=
  ∃ A' cap' l', e = .returned (.slice A' n cap') ∧ n ≤ cap' ∧ cap' ≤ 9223372036854775807 ∧ CellsV pairCells w' w'.heap.size A' l' ∧ l'.Perm l ∧ l'.Pairwise (fun a b => ¬ ordI b a < 0) ∧ Below w.heap.size w w'
set_option maxHeartbeats 2000000 in
theorem sort_run (A : Option Addr) (n cap : Nat) (l : List (Int × Int)) (w : World) (hb : CellsV pairCells w w.heap.size A l) (hl : Hid (l.length = n)) (hn : n ≤ 400000) :
    Calls Try.prog 25 #[.slice A n cap] w fun e w' => SortOut l n w e w' := by
  have HC := Lib.hid (clone_run A n cap l w hb hl hn)
  clear hb
  go_enter Try.func25, Try.ntmps25
  go_wp2_with fail
  refine HC.out.mono ?_
  rintro e w1 ⟨v, rfl, ho, hw1⟩
  have HO := Lib.hid ho
  have HW1 := Lib.hid hw1
  have hs1 := hw1.size
  obtain ⟨A1, cap1, hv, hc1, hc2, hy1⟩ := OwnV.cells ho
  subst hv
  have HL := hl.out
  clear ho hw1 HC
  cases A1 with
  | none =>
    have hnil : l = [] := by
      rcases Nat.eq_zero_or_pos l.length with h0 | h0
      · exact List.eq_nil_of_length_eq_zero h0
      · obtain ⟨b, o, e, _⟩ := hy1 h0
        cases e
    subst hnil
    have hz : Hid (n = 0) := show n = 0 by simpa using HL.symm
    clear hy1 HL
    simp only [List.length_nil]
    go_wp2_with fail
    refine (sortStable_none none cap1 _ w1).mono ?_
    rintro e w2 ⟨rfl, rfl⟩
    go_wp2_with fail
    go_ret
    exact ⟨none, cap1, [], by rw [hz.out]; rfl, by have := hz.out; omega, hc2, CellsV.nil, List.Perm.refl _, List.Pairwise.nil, HW1.out⟩
  | some a =>
    obtain ⟨g, hg⟩ : ∃ g, a = ⟨g, 0, none⟩ := by
      rcases HO.out.2 with ⟨h, _⟩ | ⟨g, cap, cur, h, _⟩
      · cases h
      · cases h; exact ⟨g, rfl⟩
    subst hg
    have R := own_row HO.out
    have OK : OrdK ordI 13 #[] g 0 l.toArray.size w1 := ⟨enters_of Try.func13 (by kernel_rfl) rfl, fun m os dk _ x y => order_run x.1 x.2 y.1 y.2 _, ord_swo⟩
    have HS := Lib.hid (sortStable_run g 0 cap1 13 #[] ordI l.toArray w1 R OK (by simp; omega))
    have hge := (World.ownsRow.lt HO.out g rfl)
    have hsz : l.toArray.size = n := by simpa using HL
    rw [hsz] at HS
    rw [HL] at hc1 ⊢
    clear hy1 OK HL
    go_wp2_with fail
    refine HS.out.mono ?_
    rintro e w2 ⟨rfl, d, hp, hs, hw2⟩
    go_wp2_with fail
    go_ret
    rw [← hsz] at hp
    have hd : d.size = n := hp.1.trans hsz
    exact ⟨_, cap1, d.toList, rfl, hc1, hc2, row_cells hw2 R hp.1, spans_of_perm hp, sorted_pair hs hd, HW1.out.trans (swk_below hw2 hge.1 hs1)⟩
end Go.Proofs.Ytnbnohphdehfoaa
