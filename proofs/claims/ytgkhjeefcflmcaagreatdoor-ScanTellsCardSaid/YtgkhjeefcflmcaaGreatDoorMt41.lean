/-
  What the rows of package scan need: over stage 1's chain.
-/
import Derived.Test.YtgkhjeefcflmcaaGreatDoorRows
import Derived.Test.YtgkhjeefcflmcaaGreatDoorMt40
import Derived.ProofKit
import Derived.LaidMore
import Derived.OpenShut
import Derived.Stop.Joined
import Derived.Stop.LaidErr
import Derived.ChangeOld
import Derived.Lib.LaidTab
import Derived.Deep.Slices
import Derived.HandedShaped
import Derived.Shelf.Vars
import Derived.Lay
import Derived.Test.YtgkhjeefcflmcaaGreatDoorMt38
import Derived.Deep.QuietTactic
import Derived.BigQuiet
namespace Go.Proofs.YtgkhjeefcflmcaaGreatDoor
open Go.ChangeShapes Go.WideShapes Go.ChangeAt Go.RowKit Go.Deep
theorem own : ownKnob Tryz.prog.godebug = none := by kernel_rfl
theorem laidOut : laidOutB Tryz.prog = true := by kernel_rfl
theorem open_bytes {H : Type} {enc : TypeId × Value → H} {W : World} {fuel : Nat} {cs : List Value} {x : DataW H × List MemPlace} {sp : Nat → Bool} (h : DataW.trod enc Tryz.prog W 0 sp true fuel 22 cs = some x) :
  ∃ A len cap l, cs = [.slice A len cap] ∧ l.length = len ∧ len ≤ cap ∧ cap ≤ 9223372036854775807 ∧ Byts W W.heap.size A l := by
 rcases open_ints Tryz.underlying22 Tryz.underlying5 (by kernel_rfl) h with ⟨hcs, _⟩ | ⟨x, l, c, zs, hcs, _, hl, hm, hz, _, hcell, hwz⟩
 ·exact ⟨none, 0, 0, [], hcs, rfl, Nat.le_refl _, by omega, Byts.nil⟩
 ·unfold maxLen at hm
  have hlz : l ≤ zs.length := by rw [hz]; split <;> omega
  have hlen : (zs.take l).length = l := by rw [List.length_take]; omega
  refine ⟨some x, l, c, zs.take l, hcs, hlen, hl, hm, ⟨fun n hn => bounds_u8 (hwz n (List.mem_of_mem_take hn)), fun hp => ?_⟩⟩
  obtain ⟨b, off, rfl, hc⟩ := ints_at hcell (by omega)
  have h0 := hc 0 (by omega)
  refine ⟨b, off, rfl, ?_, fun i y hy => ?_⟩
  ·rcases Nat.lt_or_ge b W.heap.size with h1 | h1
   ·exact h1
   ·simp [World.cell?, Array.getElem?_eq_none h1] at h0
  ·rw [List.getElem?_take] at hy
   split at hy
   ·have hi := (List.getElem?_eq_some_iff.1 hy).1
    rw [hc i hi]
    simp [List.getD, hy]
   ·cases hy
theorem cells_of_strs {H : Type} {enc : TypeId × Value → H} {P : Program} {w : World} {base : Nat} {sp : Nat → Bool} {held : Bool} {fuel : Nat} {t e : TypeId} {n : Nat} {cs : List Value} {ls : List (List UInt8)} {p : List MemPlace}
  (ht : P.underlying t = some (.array n e)) (he : P.underlying e = some .string) (hce : P.cellsOf e = 1) (h : DataW.trod enc P w base sp held fuel t cs = some (.agg (ls.map fun l => .lit (.string l)), p)) :
  ∀ (i : Nat) (l : List UInt8), ls[i]? = some l → ∃ s : ByteArray, s.data.toList = l ∧ cs[i]? = some (.string s) := by
 cases fuel with
 | zero => simp [DataW.trod] at h
 | succ fuel =>
  simp only [DataW.trod, ht, hce, Nat.mul_one] at h
  split at h
  ·rename_i hl
   obtain ⟨xs, hm, hx⟩ := Option.map_eq_some_iff.1 h
   have hxs : xs.map (·.1) = ls.map fun l => (DataW.lit (.string l) : DataW H) := by
    have := congrArg Prod.fst hx
    simpa using this
   have hxl : xs.length = n := by simpa using Lib.mapM_length hm
   have hzl : ls.length = n := by
    have := congrArg List.length hxs
    simp at this
    omega
   intro i l hi
   have hin : i < n := by have := (List.getElem?_eq_some_iff.1 hi).1; omega
   obtain ⟨b, hb, hf⟩ := Lib.mapM_at hm i i (by simp [hin])
   obtain ⟨s, hc, rfl, _⟩ := DataW.trod_string he hf
   have h1 : cs[i]? = some (.string s) := by
    have := congrArg (·[0]?) hc
    simpa [List.getElem?_take, List.getElem?_drop] using this
   have h2 : (xs.map (·.1))[i]? = some (DataW.lit (.string s.data.toList) : DataW H) := by simp [hb]
   rw [hxs] at h2
   simp only [List.getElem?_map, hi, Option.map_some, Option.some.injEq, DataW.lit.injEq, Lit.string.injEq] at h2
   exact ⟨s, h2.symm, h1⟩
  ·cases h
section
variable {H : Type} {enc : TypeId × Value → H}
theorem returns_and_shaped {a : Assume} {C : Checked} {os : Os} {f : FuncId} {fn : Func} {s : ChangeSpec} {conds : List PathCond} {apart fresh handsOn again : Bool} {X : World → Array Value → Prop}
  (hX : ∀ (w w' : World) (args : Array Value), w.heap = w'.heap → X w args → X w' args)
  (own : ownKnob C.prog.godebug = none) (started : os.Started) (noInit : C.prog.inits.idxOf? f = none) (hfn : C.prog.funcs[f]? = some fn)
  (witness : ∃ (w : World) (tape : Tape) (i : Input), w.os = os ∧ (w.forCall tape i).Shaped C.prog ∧ i.vars = [] ∧ Input.okWide C.prog (w.forCall tape i) .any w.heap.size f i ∧
   ((s.pre enc C.prog fn conds apart (w.forCall tape i).memory i.args ∧ X (w.forCall tape i).memory i.args) ∧ sizedMet enc C.prog fn (OpenSpec.ofChange s) apart (w.forCall tape i).memory i.args) ∧ a.holds C.prog (lone (Frame.enter C.prog f i.args .normal) [] (w.forCall tape i)))
  (walk : ∀ (W : World) (base : Nat) (args : Array Value) (ds gs : List (DataW H)) (before : List MemPlace),
   (∀ (j : Nat) t v, fn.params[j]? = some t → args[j]? = some v → Value.okWide C.prog W .any base t v) →
   DataW.Whole enc C.prog fn.params.toList s.vars apart W args.toList ds gs before → X W args → W.ShapedOpen C.prog →
   Calls C.prog f args W fun e W' => ∃ v, e = .returned v ∧ s.post enc C.prog fn apart fresh handsOn again W args v W') :
  ReturnsInHanded a C os f .any (fun w args => (s.pre enc C.prog fn conds apart w args ∧ X w args) ∧ sizedMet enc C.prog fn (OpenSpec.ofChange s) apart w args) (s.post enc C.prog fn apart fresh handsOn again) := by
 refine returnsInHanded_of_calls own started noInit witness ?_
 intro w tape i _ hsh _ hok hpre _
 obtain ⟨_, _, _, fn', hfn', _, _, _, _, hval⟩ := hok
 obtain rfl : fn' = fn := Option.some.inj (hfn'.symm.trans hfn)
 obtain ⟨⟨⟨ds, gs, before, hw, _⟩, hx⟩, _⟩ := hpre
 refine (walk (w.forCall tape i) w.heap.size i.args ds gs before hval (DataW.Whole.of_heap (w' := w.forCall tape i) (by rfl) hw) (hX _ _ _ (by rfl) hx) hsh).mono fun e W' ⟨v, he, hp⟩ => ?_
 subst he
 exact ChangeSpec.post_blind hp
end
theorem ml_of {W : World} (h : W.ShapedOpen Tryz.prog) : Ml W :=
 cell_of_shapedOpen_int (P := Tryz.prog) (g := 3) (t := 3) (zero := #[.int .i64 0]) h (of_decide_eq_true (by kernel_rfl)) (by kernel_rfl) rfl (by kernel_rfl) (by kernel_rfl) Tryz.underlying3
def laid11 : List (String × DataW Unit) := Rows.scanJoinsRow.laid
def data11 : List (String × DataW Unit) := laid11.filter fun x => x.2.handleName?.isNone
def great11 : List String := data11.map fun x => x.1
noncomputable def door11 (os : Os) : World := (World.doorLaid Tryz.prog 89 os).layVars Tryz.prog (data11.filter fun x => great11.contains x.1)
theorem door11_os (os : Os) : (door11 os).os = os := World.layVars_os _ _ _
theorem none11 : (data11.filter fun x => !great11.contains x.1) = [] := by kernel_rfl
theorem data_met11 (os : Os) : laidMet Tryz.prog data11 (door11 os) :=
 laidMet_layVars (w0 := World.doorLaid Tryz.prog 89 os) (w' := door11 os) (laid := data11) great11 [] (by unfold door11; rfl) (by kernel_rfl) (by kernel_rfl) (by rw [none11]; exact LaidIn.none)
theorem all_met11 (os : Os) : laidMetH Tryz.prog laid11 (door11 os) :=
 laidMetH_of_parts3 (fuel := 8) (data_met11 os) (by kernel_rfl) (by kernel_rfl)
theorem door_met11 (os : Os) (args : Array Value) : laidMetH Tryz.prog laid11 ((door11 os).forCall (fun _ _ => 0) ⟨#[], args, []⟩).memory :=
 (all_met11 os).of_heap (by simp [World.memory, World.forCall, Input.heap])
theorem laidMet_tl {P : Program} {W : World} {x : String × DataW Unit} {rest : List (String × DataW Unit)} (h : laidMet P (x :: rest) W) : laidMet P rest W := by
 obtain ⟨ps, ⟨g', t', cs, fuel, p, q, hg', ht', hvar, hd, hr, rfl⟩, hnd, hall⟩ := h
 exact ⟨q, hr, (List.nodup_append.1 hnd).2.1, fun b off hm => hall b off (List.mem_append_right _ hm)⟩
theorem gHeads11 : Tryz.prog.globalNamed "cavil/utf.heads" = some 2 := by kernel_rfl
theorem tHeads11 : (Tryz.prog.globals[2]?).map (·.type) = some 172 := by kernel_rfl
theorem gSyn11 : Tryz.prog.globalNamed "strconv.ErrSyntax" = some 6 := by kernel_rfl
theorem tSyn11 : (Tryz.prog.globals[6]?).map (·.type) = some 25 := by kernel_rfl
theorem gRan11 : Tryz.prog.globalNamed "strconv.ErrRange" = some 7 := by kernel_rfl
theorem tRan11 : (Tryz.prog.globals[7]?).map (·.type) = some 25 := by kernel_rfl
theorem cES11 : Tryz.prog.cellsOf 315 = 1 := by kernel_rfl
theorem cStr11 : Tryz.prog.cellsOf 9 = 1 := by kernel_rfl
theorem star11 : "*" ++ "errors.errorString" = "*errors.errorString" := by decide
theorem rowES11 (u : TypeId) (h : Tryz.prog.typeName? 3 u = some "*errors.errorString") : u = 313 :=
 typeName_ptr_named (nm := "errors.errorString") (by rw [star11]; kernel_rfl) (by kernel_rfl) (by decide) u (by rw [star11]; exact h)
theorem gTexts11 : Tryz.prog.globalNamed "cavil/token.texts" = some 1 := by kernel_rfl
theorem tTexts11 : (Tryz.prog.globals[1]?).map (·.type) = some 156 := by kernel_rfl
theorem gErr11 : Tryz.prog.globalNamed "errors.errorType" = some 0 := by kernel_rfl
theorem oneErr11 : ((List.range Tryz.prog.types.size).filter fun t => Tryz.prog.rowNamed t [101, 114, 114, 111, 114]) = [25] := by kernel_rfl
theorem tab_is11 : (Rows.laid_cavil_token_texts : DataW Unit) = .agg (tabL.map fun l => .lit (.string l)) := by kernel_rfl
theorem tab_of11 {W : World} {rest : List (String × DataW Unit)} (h : laidMet Tryz.prog (("cavil/token.texts", (.agg (tabL.map fun l => .lit (.string l)) : DataW Unit)) :: rest) W) : TabAt W := by
 obtain ⟨ps, ⟨g', t', cs, fuel, p, q, hg', ht', hvar, hd, _, _⟩, _⟩ := h
 obtain rfl := Option.some.inj (gTexts11.symm.trans hg')
 obtain rfl := Option.some.inj (tTexts11.symm.trans ht')
 have hc := cells_of_strs Tryz.underlying156 Tryz.underlying9 (by kernel_rfl) hd
 intro k hk
 obtain ⟨l, hl⟩ : ∃ l, tabL[k]? = some l := ⟨_, List.getElem?_eq_getElem (by simpa [tabL] using hk)⟩
 obtain ⟨s, hs, hcs⟩ := hc k l hl
 have hv := World.var?_cell gTexts11 hvar k
 rw [hv]
 have e : s = tx k := by
  apply bytes_inj
  rw [tx_toList, hs]
  unfold txl
  rw [List.getD_eq_getElem?_getD, hl]
  rfl
 rw [← e]
 simpa using hcs
theorem et_of11 {W : World} (h' : handlesMet Tryz.prog [("errors.errorType", Rows.laid_errors_errorType)] W) : ErrType W := by
 obtain ⟨name, u, ty, e1, e2, e3, e4, e5⟩ := h' _ (List.mem_singleton.2 rfl)
 have en : name = [101, 114, 114, 111, 114] := (Option.some.inj e1).symm
 subst en
 have eu : some u = some 103 := e2.symm.trans (by kernel_rfl)
 obtain rfl := Option.some.inj eu
 have hm : ty ∈ (List.range Tryz.prog.types.size).filter fun t => Tryz.prog.rowNamed t [101, 114, 114, 111, 114] := List.mem_filter.2 ⟨List.mem_range.2 e3, e4⟩
 rw [oneErr11] at hm
 obtain rfl := List.mem_singleton.1 hm
 have hh : typeHandle Tryz.prog 25 = .pointer (some ⟨13, 25, none⟩) := by kernel_rfl
 rw [hh] at e5
 unfold ErrType
 simpa using World.var?_cell gErr11 e5 0
theorem of_laid11 {W : World} (h : laidMetH Tryz.prog laid11 W) : TabAt W ∧ Heads W ∧ ErrVars W ∧ ErrType W := by
 have h0 : laidMet Tryz.prog [("cavil/token.texts", Rows.laid_cavil_token_texts), ("cavil/utf.heads", Lib.tabData .u8 [0, 0, 192, 224, 240]), ("math/bits.deBruijn32tab", Rows.laid_math_bits_deBruijn32tab), ("math/bits.deBruijn64tab", Rows.laid_math_bits_deBruijn64tab), ("internal/strconv.uint64pow10", Rows.laid_internal_strconv_uint64pow10), ("unicode/utf8.acceptRanges", Rows.laid_unicode_utf8_acceptRanges), ("strconv.ErrRange", Rows.laid_strconv_ErrRange), ("strconv.ErrSyntax", Rows.laid_strconv_ErrSyntax), ("unicode/utf8.first", Rows.laid_unicode_utf8_first)] W ∧ handlesMet Tryz.prog [("errors.errorType", Rows.laid_errors_errorType)] W := h
 have h' := laidMet_tl h0.1
 have h5 := laidMet_tl (laidMet_tl (laidMet_tl (laidMet_tl (laidMet_tl h'))))
 have h6 := laidMet_tl h5
 refine ⟨?_, ?_, ⟨?_, ?_⟩, et_of11 h0.2⟩
 ·have h1 := h0.1
  rw [tab_is11] at h1
  exact tab_of11 h1
 ·have ht := Lib.tabIs_of_head gHeads11 tHeads11 Tryz.underlying172 Tryz.underlying5 (by kernel_rfl) (by kernel_rfl) h'
  intro k h1 h4
  have hc := ht.cell gHeads11 k (by simp; omega)
  rw [hc]
  match k, h1, h4 with
  | 1, _, _ => rfl
  | 2, _, _ => rfl
  | 3, _, _ => rfl
  | 4, _, _ => rfl
 ·obtain ⟨a, s, hv, _⟩ := laid_sentinel h6 gSyn11 tSyn11 Tryz.underlying25 rowES11 Tryz.underlying313 Tryz.underlying315 rfl rfl Tryz.underlying9 cES11 cStr11
  exact ⟨_, World.var?_cell gSyn11 hv 0, .inr ⟨_, _, rfl⟩⟩
 ·obtain ⟨a, s, hv, _⟩ := laid_sentinel h5 gRan11 tRan11 Tryz.underlying25 rowES11 Tryz.underlying313 Tryz.underlying315 rfl rfl Tryz.underlying9 cES11 cStr11
  exact ⟨_, World.var?_cell gRan11 hv 0, .inr ⟨_, _, rfl⟩⟩
theorem bi_back : ∀ (l : List Int), U.Byt l → ∃ m : List UInt8, bi m = l
 | [], _ => ⟨[], rfl⟩
 | x :: t, h => by
  obtain ⟨m, hm⟩ := bi_back t (fun y hy => h y (List.mem_cons_of_mem _ hy))
  have hx := h x List.mem_cons_self
  refine ⟨UInt8.ofNat x.toNat :: m, ?_⟩
  show ((UInt8.ofNat x.toNat).toNat : Int) :: bi m = _
  rw [hm]
  congr 1
  simp only [UInt8.toNat_ofNat']
  omega
end Go.Proofs.YtgkhjeefcflmcaaGreatDoor
namespace Go.Proofs.YtgkhjeefcflmcaaGreatDoor
open Go.ChangeShapes Go.WideShapes Go.ChangeAt Go.RowKit Go.Deep
theorem i32_bounds {n : Int} (h : (Lit.int .i32 n).wf = true) : -2147483648 ≤ n ∧ n ≤ 2147483647 := by
 simpa [Lit.wf, IntKind.min, IntKind.max, IntKind.signed, IntKind.bits] using h
theorem list5 {α : Type} {l : List α} (h : l.length = 5) : ∃ a b c d e, l = [a, b, c, d, e] := by
 match l, h with
 | [a, b, c, d, e], _ => exact ⟨a, b, c, d, e, rfl⟩
set_option maxRecDepth 100000 in
theorem open_toks {H : Type} {enc : TypeId × Value → H} {W : World} {fuel : Nat} {cs : List Value} {x : DataW H × List MemPlace} {sp : Nat → Bool} (h : DataW.trod enc Tryz.prog W 0 sp true fuel 23 cs = some x) :
  ∃ A len cap l, cs = [.slice A len cap] ∧ l.length = len ∧ len ≤ cap ∧ cap ≤ 9223372036854775807 ∧ CellsV tkCells W W.heap.size A l := by
 have hC : Tryz.prog.cellsOf 37 = 5 := by kernel_rfl
 have hCi : Tryz.prog.cellsOf 3 = 1 := by kernel_rfl
 have hCb : Tryz.prog.cellsOf 4 = 1 := by kernel_rfl
 have hCe : Tryz.prog.cellsOf 35 = 1 := by kernel_rfl
 rcases open_slice Tryz.underlying23 h with ⟨hcs, _⟩ | ⟨a, len, cap, m, n, D, Pl, hcs, hb, hl, hm, hmm, _, hx⟩
 ·exact ⟨none, 0, 0, [], hcs, rfl, Nat.le_refl _, by omega, CellsV.nil⟩
 ·unfold maxLen at hm
  have hlm : len ≤ m := by rw [hmm]; split <;> omega
  have each : ∀ i, i < len → ∃ e : Tk, W.cell? (a.add (i * 5)) = some (.int .i64 e.k) ∧ W.cell? (a.add (i * 5 + 1)) = some (.int .i64 e.f) ∧ W.cell? (a.add (i * 5 + 2)) = some (.int .i64 e.t) ∧ W.cell? (a.add (i * 5 + 3)) = some (.bool e.a) ∧ W.cell? (a.add (i * 5 + 4)) = some (.int .i64 e.e) := fun i hi => by
   obtain ⟨cs', h1, h2⟩ := hx i (by omega)
   rw [hC] at h1
   obtain ⟨_, hlen, hcell⟩ := World.cells?_some h1
   obtain ⟨xs, k, _, _, _, hxl, hf⟩ := DataW.trod_struct Tryz.underlying37 h2
   obtain ⟨c0, c1, c2, c3, c4, rfl⟩ := list5 hlen
   obtain ⟨y0, y1, y2, y3, y4, rfl⟩ := list5 (show xs.length = 5 from hxl)
   have g0 := hf 0 _ rfl
   have g1 := hf 1 _ rfl
   have g2 := hf 2 _ rfl
   have g3 := hf 3 _ rfl
   have g4 := hf 4 _ rfl
   simp [hCi, hCb, hCe] at g0 g1 g2 g3 g4
   obtain ⟨e0, h0, _, _⟩ := DataW.trod_int Tryz.underlying3 g0
   obtain ⟨e1, h1', _, _⟩ := DataW.trod_int Tryz.underlying3 g1
   obtain ⟨e2, h2', _, _⟩ := DataW.trod_int Tryz.underlying3 g2
   obtain ⟨e3, h3', _⟩ := DataW.trod_bool Tryz.underlying4 g3
   obtain ⟨e4, h4', _, _⟩ := DataW.trod_int Tryz.underlying35 g4
   have d0 := hcell 0 (by omega)
   have d1 := hcell 1 (by omega)
   have d2 := hcell 2 (by omega)
   have d3 := hcell 3 (by omega)
   have d4 := hcell 4 (by omega)
   rw [add_add] at d0 d1 d2 d3 d4
   simp at h0 h1' h2' h3' h4' d0 d1 d2 d3 d4
   exact ⟨⟨e0, e1, e2, e3, e4⟩, by rw [d0, h0], by rw [d1, h1'], by rw [d2, h2'], by rw [d3, h3'], by rw [d4, h4']⟩
  have pick : ∃ F : Nat → Tk, ∀ i, i < len → W.cell? (a.add (i * 5)) = some (.int .i64 (F i).k) ∧ W.cell? (a.add (i * 5 + 1)) = some (.int .i64 (F i).f) ∧ W.cell? (a.add (i * 5 + 2)) = some (.int .i64 (F i).t) ∧ W.cell? (a.add (i * 5 + 3)) = some (.bool (F i).a) ∧ W.cell? (a.add (i * 5 + 4)) = some (.int .i64 (F i).e) := by
   refine ⟨fun i => if hi : i < len then (each i hi).choose else ⟨0, 0, 0, false, 0⟩, fun i hi => ?_⟩
   simp only [dif_pos hi]
   exact (each i hi).choose_spec
  obtain ⟨F, hF⟩ := pick
  refine ⟨some a, len, cap, (List.range len).map F, hcs, by simp, hl, hm, fun hp => ?_⟩
  have hp' : 0 < len := by simpa using hp
  have h0 := (hF 0 hp').1
  obtain ⟨b, off, spot⟩ := a
  have hspot : spot = none := by simpa [Addr.add] using World.cell?_spot h0
  subst hspot
  have hadd : ∀ j, (⟨b, off, none⟩ : Addr).add j = ⟨b, off + j, none⟩ := fun j => Go.WideShapes.add_plain _ _ _
  refine ⟨b, off, rfl, ?_, fun j u hu => ?_⟩
  ·rcases Nat.lt_or_ge b W.heap.size with h1 | h1
   ·exact h1
   ·rw [hadd] at h0
    simp [World.cell?, Array.getElem?_eq_none h1] at h0
  ·have hj := (List.getElem?_eq_some_iff.1 hu).1
   rw [flat_length tk_enc, List.length_map, List.length_range] at hj
   have hx : ((List.range len).map F)[j / 5]? = some (F (j / 5)) := by
    rw [List.getElem?_map, List.getElem?_range (by omega)]
    rfl
   obtain ⟨c0, c1, c2, c3, c4⟩ := hF (j / 5) (by omega)
   rw [hadd] at c0 c1 c2 c3 c4
   rcases (show j % 5 = 0 ∨ j % 5 = 1 ∨ j % 5 = 2 ∨ j % 5 = 3 ∨ j % 5 = 4 by omega) with h2 | h2 | h2 | h2 | h2
   ·have := flat_get tk_enc (j := 0) hx rfl
    rw [show j / 5 * 5 + 0 = j by omega] at this
    rw [this] at hu
    cases hu
    rw [show off + j = off + j / 5 * 5 by omega]
    exact c0
   ·have := flat_get tk_enc (j := 1) hx rfl
    rw [show j / 5 * 5 + 1 = j by omega] at this
    rw [this] at hu
    cases hu
    rw [show off + j = off + (j / 5 * 5 + 1) by omega]
    exact c1
   ·have := flat_get tk_enc (j := 2) hx rfl
    rw [show j / 5 * 5 + 2 = j by omega] at this
    rw [this] at hu
    cases hu
    rw [show off + j = off + (j / 5 * 5 + 2) by omega]
    exact c2
   ·have := flat_get tk_enc (j := 3) hx rfl
    rw [show j / 5 * 5 + 3 = j by omega] at this
    rw [this] at hu
    cases hu
    rw [show off + j = off + (j / 5 * 5 + 3) by omega]
    exact c3
   ·have := flat_get tk_enc (j := 4) hx rfl
    rw [show j / 5 * 5 + 4 = j by omega] at this
    rw [this] at hu
    cases hu
    rw [show off + j = off + (j / 5 * 5 + 4) by omega]
    exact c4
end Go.Proofs.YtgkhjeefcflmcaaGreatDoor
namespace Go.Proofs.YtgkhjeefcflmcaaGreatDoor
open Go.RowKit Go.Sort
set_option linter.unusedSimpArgs false
set_option linter.unusedVariables false
theorem gap_step {l t : List UInt8} {i : Nat} {c : UInt8} (hd : l.drop i = c :: t) {p : Pc} (hp : pcF (c :: t) = p) (hk : p.k = 0) : gapF (l.drop i) = gapF (l.drop (i + p.s)) := by
 rw [hd, gapF_go (by rw [hp]; exact hk), hp, ← hd, List.drop_drop]
theorem gap_stop {l t : List UInt8} {i : Nat} {c : UInt8} (hd : l.drop i = c :: t) (hk : (pcF (c :: t)).k ≠ 0) : gapF (l.drop i) = false := by
 rw [hd, gapF_no hk]
set_option maxRecDepth 100000 in
set_option maxHeartbeats 8000000 in
theorem GapD_run (A : Option Addr) (n cap : Nat) (l : List UInt8) (w : World) (B : Nat) (hb : Byts w B A (bi l)) (hn : l.length = n) (hm : n ≤ 900) (hcap : n ≤ cap) :
  Calls Tryz.prog 17 #[.slice A n cap] w fun e w' => e = .returned (.bool (gapF l)) ∧ w' = w := by
 have HC : Hid (∀ i, i ≤ n → Calls Tryz.prog 23 #[.slice A n cap, .int .i64 (i : Int)] w fun e w' => e = .returned (cmtV i (cmtF (l.drop i))) ∧ w' = w) := fun i hi =>
  Comment_run A n cap i l _ w B hb hn (by omega) hcap hi rfl
 have HBy := Lib.hid hb
 have HN := Lib.hid hn
 obtain ⟨v, hv⟩ : ∃ v, gapF l = v := ⟨_, rfl⟩
 have HV0 : Hid (gapF (l.drop 0) = v) := hv
 rw [hv]
 clear hb hn hv
 go_enter Tryz.func17, Tryz.ntmps17
 go_wp2_with fail
 go_loopg [3] (n + 1) (fun h s3 wr => ∃ (i : Nat), s3 = .int .i64 (i : Int) ∧ Hid (n + 1 ≤ i + h) ∧ i ≤ n ∧ Hid (gapF (l.drop i) = v) ∧ wr = w)
 case atStart => exact ⟨0, rfl, by show _ ≤ _; omega, by omega, HV0, rfl⟩
 case round =>
  clear HV0
  obtain ⟨i, rfl, HI, hin, HV, rfl⟩ := hrel
  by_cases hlt : i < n
  ·have hiz : (i : Int) < (n : Int) := by omega
   obtain ⟨c, t, hct, hci⟩ := drop_cons2 HN.out hlt
   obtain ⟨b, o, rfl, hbB, _⟩ := HBy.out.2 (by rw [bi_length, HN.out]; omega)
   have hx := byts_cell HBy.out hci
   have hi9 : i ≤ 900 := by omega
   by_cases h32 : c = 32
   ·subst h32
    have hx2 : wr.cell? ⟨b, o + i, none⟩ = some (.int .u8 32) := hx
    have HV2 : Hid (gapF (l.drop (i + 1)) = v) := (gap_step hct (pcF_bl t (by decide)) rfl).symm.trans HV.out
    clear hci hx hct HV HC HBy
    go_wp2_with fail
    go_roundg (n - i)
    case measure => have := HI.out; omega
    case rel => exact ⟨i + 1, by go_num, by show _ ≤ _; omega, by omega, HV2, rfl⟩
   by_cases h9 : c = 9
   ·subst h9
    have hx2 : wr.cell? ⟨b, o + i, none⟩ = some (.int .u8 9) := hx
    have HV2 : Hid (gapF (l.drop (i + 1)) = v) := (gap_step hct (pcF_bl t (by decide)) rfl).symm.trans HV.out
    clear hci hx hct HV HC HBy
    go_wp2_with fail
    go_roundg (n - i)
    case measure => have := HI.out; omega
    case rel => exact ⟨i + 1, by go_num, by show _ ≤ _; omega, by omega, HV2, rfl⟩
   by_cases h13 : c = 13
   ·subst h13
    have hx2 : wr.cell? ⟨b, o + i, none⟩ = some (.int .u8 13) := hx
    have HV2 : Hid (gapF (l.drop (i + 1)) = v) := (gap_step hct (pcF_bl t (by decide)) rfl).symm.trans HV.out
    clear hci hx hct HV HC HBy
    go_wp2_with fail
    go_roundg (n - i)
    case measure => have := HI.out; omega
    case rel => exact ⟨i + 1, by go_num, by show _ ≤ _; omega, by omega, HV2, rfl⟩
   by_cases h10 : c = 10
   ·subst h10
    have hx2 : wr.cell? ⟨b, o + i, none⟩ = some (.int .u8 10) := hx
    have HV2 : Hid (gapF (l.drop (i + 1)) = v) := (gap_step hct (pcF_lf10 t) rfl).symm.trans HV.out
    clear hci hx hct HV HC HBy
    go_wp2_with fail
    go_roundg (n - i)
    case measure => have := HI.out; omega
    case rel => exact ⟨i + 1, by go_num, by show _ ≤ _; omega, by omega, HV2, rfl⟩
   have e32 : ((c.toNat : Int) == 32) = false := eq_byte h32
   have e9 : ((c.toNat : Int) == 9) = false := eq_byte h9
   have e13 : ((c.toNat : Int) == 13) = false := eq_byte h13
   have e10 : ((c.toNat : Int) == 10) = false := eq_byte h10
   have hbl : ¬ isBl c = true := by
    unfold isBl
    rw [show (c == 32) = false by simpa using h32, show (c == 9) = false by simpa using h9, show (c == 13) = false by simpa using h13]
    decide
   have hcm := HC.out i (by omega)
   cases hcc : cmtF (c :: t) with
   | some q =>
    obtain ⟨k, ed, ld⟩ := q
    have hks := cmtF_size hcc
    have hkl : (c :: t).length = n - i := by rw [← hct, List.length_drop, HN.out]
    rw [hkl] at hks
    obtain ⟨E, hE⟩ : ∃ E, i + k = E := ⟨_, rfl⟩
    have hEn : E ≤ n := by omega
    have hEi : i + 1 ≤ E := by omega
    have hE0 : ¬ (E : Int) < 0 := by omega
    rw [hct, hcc] at hcm
    have hcv : cmtV i (some (k, ed, ld)) = .tuple #[.int .i64 (E : Int), .bool ed, .bool ld] := by rw [← hE]; rfl
    rw [hcv] at hcm
    cases ed with
    | true =>
     have hp := pcF_cmt hcc
     have HV2 : Hid (gapF (l.drop E) = v) := by
      have := (gap_step hct hp rfl).symm.trans HV.out
      rw [← hE]
      exact this
     clear hci hct HV HC HBy h32 h9 h13 h10 hbl hcv hcc hp hks hkl hE
     generalize c.toNat = cn at *
     go_wp2_with fail
     refine hcm.mono ?_
     rintro e w1 ⟨rfl, rfl⟩
     go_wp2_with fail
     go_roundg (n - i)
     case measure => have := HI.out; omega
     case rel => exact ⟨E, by go_num, by show _ ≤ _; omega, by omega, HV2, rfl⟩
    | false =>
     have HV2 : Hid (false = v) := (gap_stop hct (by rw [pcF_cut hcc]; exact fun e => by cases e)).symm.trans HV.out
     clear hci hct HV HC HBy h32 h9 h13 h10 hbl hcv hcc hks hkl hE
     generalize c.toNat = cn at *
     go_wp2_with fail
     refine hcm.mono ?_
     rintro e w1 ⟨rfl, rfl⟩
     go_wp2_with fail
     go_ret
     exact ⟨by rw [← HV2.out]; rfl, rfl⟩
   | none =>
    have HV2 : Hid (false = v) := (gap_stop hct (by rw [pcF_one hbl h10 hcc]; exact oneF_tok.k0)).symm.trans HV.out
    rw [hct, hcc] at hcm
    have hcv : cmtV i none = .tuple #[.int .i64 (-1), .bool true, .bool false] := rfl
    rw [hcv] at hcm
    clear hci hct HV HC HBy h32 h9 h13 h10 hbl hcv hcc
    generalize c.toNat = cn at *
    go_wp2_with fail
    refine hcm.mono ?_
    rintro e w1 ⟨rfl, rfl⟩
    go_wp2_with fail
    go_ret
    exact ⟨by rw [← HV2.out]; rfl, rfl⟩
  ·have hin2 : i = n := by omega
   have hiz : ¬ (i : Int) < (n : Int) := by omega
   have HV2 : Hid (true = v) := by
    have := HV.out
    rw [List.drop_of_length_le (by rw [HN.out]; omega), gapF_nil] at this
    exact this
   clear HV HC HBy hin2
   go_wp2_with fail
   go_ret
   exact ⟨by rw [← HV2.out]; rfl, rfl⟩
end Go.Proofs.YtgkhjeefcflmcaaGreatDoor
namespace Go.Proofs.YtgkhjeefcflmcaaGreatDoor
open Go.RowKit Go.Sort
set_option linter.unusedSimpArgs false
set_option linter.unusedVariables false
theorem byts_sl {w : World} {B : Nat} {A : Option Addr} {l : List UInt8} (h : Byts w B A (bi l)) (e k : Nat) : Byts w B (A.map fun x => x.add e) (bi ((l.drop e).take k)) := by
 by_cases hp : 0 < l.length
 ·obtain ⟨b, o, rfl⟩ := h.some hp
  have := (h.dropB hp e).take k
  rw [bi_take] at this
  have h : (⟨b, o, none⟩ : Addr).add e = ⟨b, o + e, none⟩ := by
   unfold Addr.add
   split
   ·next h => subst h; rfl
   ·rfl
  rw [Option.map_some, h]
  exact this
 ·have hl : l = [] := List.eq_nil_of_length_eq_zero (by omega)
  subst hl
  rw [List.drop_nil, List.take_nil]
  exact Byts.nil
theorem sound_nil {l : List UInt8} {e i K : Nat} {O : Int} {L : List Tk} (h : L.length ≤ i) (hv : soundF l e i (L.drop i) = (K, O)) : (if gapF (l.drop e) = true then (0, -1) else (8, (i : Int))) = (K, O) := by
 rw [List.drop_of_length_le h] at hv
 exact hv
theorem sound_cons {l : List UInt8} {e i K : Nat} {O : Int} {L : List Tk} {x : Tk} (h : L[i]? = some x) (hv : soundF l e i (L.drop i) = (K, O)) :
  (if x.f > x.t ∨ x.f < e ∨ x.t > l.length then (5, (i : Int)) else if gapF ((l.drop e).take (x.f.toNat - e)) = true then soundF l x.t.toNat (i + 1) (L.drop (i + 1)) else (8, (i : Int))) = (K, O) := by
 obtain ⟨hi, rfl⟩ := List.getElem?_eq_some_iff.1 h
 rw [List.drop_eq_getElem_cons hi] at hv
 exact hv
set_option maxRecDepth 100000 in
set_option maxHeartbeats 8000000 in
theorem SoundD_run (A A2 : Option Addr) (n cap n2 cap2 : Nat) (l : List UInt8) (L : List Tk) (w : World) (B B2 : Nat) (hb : Byts w B A (bi l)) (hn : l.length = n) (hm : n ≤ 900) (hcap : n ≤ cap) (hL : CellsV tkCells w B2 A2 L) (hl : L.length = n2) (hm2 : n2 ≤ 2000) {K : Nat} {O : Int} (hS : soundF l 0 0 L = (K, O)) :
  Calls Tryz.prog 12 #[.slice A n cap, .slice A2 n2 cap2] w fun e w' => e = .returned (.tuple #[.int .i64 (K : Int), .int .i64 O]) ∧ ∃ q, w' = w.drewN q := by
 have HG : Hid (∀ (q e k : Nat), e ≤ n → k ≤ n - e → Calls Tryz.prog 17 #[.slice (if cap = e then A else A.map fun x => x.add e) k (cap - e)] (w.drewN q) fun r w' => r = .returned (.bool (gapF ((l.drop e).take k))) ∧ w' = w.drewN q) := fun q e k he hk => by
  refine GapD_run _ k (cap - e) _ (w.drewN q) B ?_ (by rw [List.length_take, List.length_drop]; omega) (by omega) (by omega)
  split
  ·next h =>
   have h0 : k = 0 := by omega
   subst h0
   exact Byts.nil
  ·exact Byts.drewN (byts_sl hb e k) q
 have HL := Lib.hid hL
 have HN := Lib.hid hn
 have HLN := Lib.hid hl
 have HS0 : Hid (soundF l 0 0 (L.drop 0) = (K, O)) := hS
 clear hb hn hL hl hS
 go_enter Tryz.func12, Tryz.ntmps12
 go_wp2_with fail
 go_loopg [6, 7] (n2 + 1) (fun h s6 s7 wr => ∃ e i : Nat, s6 = .int .i64 (e : Int) ∧ s7 = .int .i64 (i : Int) ∧ e ≤ n ∧ Hid (i ≤ n2 ∧ n2 < i + h) ∧ Hid (soundF l e i (L.drop i) = (K, O)) ∧ ∃ q, wr = w.drewN q)
 case atStart => exact ⟨0, 0, rfl, rfl, Nat.zero_le _, by show _ ∧ _; omega, HS0, 0, rfl⟩
 case round =>
  clear HS0
  obtain ⟨e, i, rfl, rfl, hen, HI, HV, q, rfl⟩ := hrel
  have HQ : Hid (∀ m, ∃ q', (w.drewN q).drewN m = w.drewN q') := fun m => ⟨q + m, World.drewN_drewN _ _ _⟩
  by_cases hlt : i < n2
  ·have hltz : (i : Int) < (n2 : Int) := by omega
   obtain ⟨x, hx⟩ : ∃ x, L[i]? = some x := ⟨_, List.getElem?_eq_getElem (by rw [HLN.out]; exact hlt)⟩
   have hv := sound_cons hx HV.out
   rw [HN.out] at hv
   obtain ⟨g1, o1, rfl, hg1, a0, a1, a2, a3, a4⟩ := tk_get HL.out hx
   have c1 : (w.drewN q).cell? ⟨g1, o1 + i * 5 + 1, none⟩ = _ := a1
   have c2 : (w.drewN q).cell? ⟨g1, o1 + i * 5 + 2, none⟩ = _ := a2
   obtain ⟨k, f, t, au, en⟩ := x
   simp only [] at c1 c2 hv
   clear a0 a1 a2 a3 a4 hx HV
   have hi9 : i ≤ 2000 := by omega
   by_cases hbad : f > t ∨ f < e ∨ t > n
   ·rw [if_pos hbad] at hv
    cases hv
    have hcs : f > t ∨ (¬ f > t ∧ f < e) ∨ (¬ f > t ∧ ¬ f < e ∧ t > n) := by omega
    clear hbad HG
    generalize w.drewN q = W at *
    rcases hcs with h1 | ⟨h1, h2⟩ | ⟨h1, h2, h3⟩
    ·go_wp2_with fail
     go_quiet (fail)
     go_wp2_with fail
     go_ret2
     exact ⟨rfl, HQ.out _⟩
    ·have b1 : decide (f > t) = false := decide_eq_false h1
     have d1 : decide (t < f) = false := decide_eq_false h1
     clear h1
     go_wp2_with fail
     go_quiet (fail)
     go_wp2_with fail
     go_ret2
     exact ⟨rfl, HQ.out _⟩
    ·have b1 : decide (f > t) = false := decide_eq_false h1
     have d1 : decide (t < f) = false := decide_eq_false h1
     have b2 : decide (f < e) = false := decide_eq_false h2
     clear h1 h2
     go_wp2_with fail
     go_quiet (fail)
     go_wp2_with fail
     go_ret2
     exact ⟨rfl, HQ.out _⟩
   ·rw [if_neg hbad] at hv
    obtain ⟨F, rfl⟩ : ∃ F : Nat, f = (F : Int) := ⟨f.toNat, by omega⟩
    obtain ⟨T, rfl⟩ : ∃ T : Nat, t = (T : Int) := ⟨t.toNat, by omega⟩
    rw [Int.toNat_natCast, Int.toNat_natCast] at hv
    have h1 : decide ((F : Int) > (T : Int)) = false := decide_eq_false (by omega)
    have d1 : decide ((T : Int) < (F : Int)) = false := decide_eq_false (by omega)
    have h2 : decide ((F : Int) < (e : Int)) = false := decide_eq_false (by omega)
    have h3 : decide ((T : Int) > (n : Int)) = false := decide_eq_false (by omega)
    have d3 : decide ((n : Int) < (T : Int)) = false := decide_eq_false (by omega)
    have k1 : decide (T < F) = false := decide_eq_false (by omega)
    have k2 : decide (F < e) = false := decide_eq_false (by omega)
    have k3 : decide (n < T) = false := decide_eq_false (by omega)
    have h4 : e ≤ F := by omega
    have h5 : F ≤ n := by omega
    have h6 : T ≤ n := by omega
    have h7 : F ≤ cap := by omega
    have HC : Hid (∀ m, Calls Tryz.prog 17 #[.slice (if cap = e then A else A.map fun x => x.add e) (F - e) (cap - e)] ((w.drewN q).drewN m) fun r w' => r = .returned (.bool (gapF ((l.drop e).take (F - e)))) ∧ w' = (w.drewN q).drewN m) := fun m => by
     rw [World.drewN_drewN]
     exact HG.out (q + m) e (F - e) hen (by omega)
    have hF9 : F ≤ 900 := by omega
    have hT9 : T ≤ 900 := by omega
    obtain ⟨g, hg⟩ : ∃ g, gapF ((l.drop e).take (F - e)) = g := ⟨_, rfl⟩
    rw [hg] at hv HC
    have HVV := Lib.hid hv
    have HGE := Lib.hid hg
    clear hbad HG hg hv
    generalize w.drewN q = W at *
    by_cases hce : cap = e
    ·subst hce
     have hF0 : F - cap = 0 := by omega
     rw [if_pos rfl, hF0, Nat.sub_self] at HC
     have HC0 := HC
     have hg0 : g = true := by
      rw [← HGE.out, hF0, List.take_zero]
      rfl
     subst hg0
     have HV2 : Hid (soundF l T (i + 1) (L.drop (i + 1)) = (K, O)) := HVV.out
     clear HVV HGE HC
     go_wp2_with fail
     go_quiet (fail)
     go_wp2_with fail
     refine (HC0.out _).mono ?_
     rintro r w' ⟨rfl, rfl⟩
     go_wp2_with fail
     go_roundg (n2 - i)
     case measure => have := HI.out; omega
     case rel => exact ⟨T, i + 1, rfl, by go_num, h6, by show _ ∧ _; have := HI.out; omega, HV2, HQ.out _⟩
    ·rw [if_neg hce] at HC
     cases g
     ·cases HVV.out
      clear HVV
      go_wp2_with fail
      go_quiet (fail)
      go_wp2_with fail
      refine (HC.out _).mono ?_
      rintro r w' ⟨rfl, rfl⟩
      go_wp2_with fail
      go_ret2
      exact ⟨rfl, HQ.out _⟩
     ·have HV2 : Hid (soundF l T (i + 1) (L.drop (i + 1)) = (K, O)) := HVV.out
      clear HVV
      go_wp2_with fail
      go_quiet (fail)
      go_wp2_with fail
      refine (HC.out _).mono ?_
      rintro r w' ⟨rfl, rfl⟩
      go_wp2_with fail
      go_roundg (n2 - i)
      case measure => have := HI.out; omega
      case rel => exact ⟨T, i + 1, rfl, by go_num, h6, by show _ ∧ _; have := HI.out; omega, HV2, HQ.out _⟩
  ·have hltz : ¬ (i : Int) < (n2 : Int) := by omega
   have hii : i = n2 := by have := HI.out.1; omega
   have hv := sound_nil (by rw [HLN.out]; omega) HV.out
   have HC : Hid (Calls Tryz.prog 17 #[.slice (if cap = e then A else A.map fun x => x.add e) (n - e) (cap - e)] (w.drewN q) fun r w' => r = .returned (.bool (gapF (l.drop e))) ∧ w' = w.drewN q) := by
    have := HG.out q e (n - e) hen (Nat.le_refl _)
    rw [List.take_of_length_le (by rw [List.length_drop, HN.out]; exact Nat.le_refl _)] at this
    exact this
   obtain ⟨g, hg⟩ : ∃ g, gapF (l.drop e) = g := ⟨_, rfl⟩
   rw [hg] at hv HC
   subst hii
   have HVV := Lib.hid hv
   have HGE := Lib.hid hg
   clear HG hg HV hv
   generalize w.drewN q = W at *
   by_cases hce : cap = e
   ·subst hce
    have hn0 : i = i := rfl
    have hc0 : n - cap = 0 := by omega
    rw [if_pos rfl, hc0, Nat.sub_self] at HC
    have hg0 : g = true := by
     rw [← HGE.out, List.drop_of_length_le (by rw [HN.out]; omega)]
     rfl
    subst hg0
    cases HVV.out
    clear HVV HGE
    go_wp2_with fail
    refine HC.out.mono ?_
    rintro r w' ⟨rfl, rfl⟩
    go_wp2_with fail
    go_ret2
    exact ⟨rfl, HQ.out 0⟩
   ·rw [if_neg hce] at HC
    cases g
    ·cases HVV.out
     clear HVV
     go_wp2_with fail
     refine HC.out.mono ?_
     rintro r w' ⟨rfl, rfl⟩
     go_wp2_with fail
     go_ret2
     exact ⟨rfl, HQ.out 0⟩
    ·cases HVV.out
     clear HVV
     go_wp2_with fail
     refine HC.out.mono ?_
     rintro r w' ⟨rfl, rfl⟩
     go_wp2_with fail
     go_ret2
     exact ⟨rfl, HQ.out 0⟩
end Go.Proofs.YtgkhjeefcflmcaaGreatDoor
