/-
  What the rows of package scan need: over stage 1's chain.
-/
import Derived.Test.YtgkhjeefcflmcaaGreatDoorRows
import Derived.Test.YtgkhjeefcflmcaaGreatDoorMx39
import Derived.ProofKit
import Derived.LaidMore
import Derived.OpenShut
import Derived.Stop.Joined
import Derived.Stop.LaidErr
import Derived.ChangeOld
import Derived.Lib.LaidTab
import Derived.Deep.Slices
import Derived.HandedShaped
import Derived.Shelf.Vars
import Derived.Lay
namespace Go.Proofs.YtgkhjeefcflmcaaGreatDoor
open Go.ChangeShapes Go.WideShapes Go.ChangeAt Go.RowKit Go.Deep
theorem own : ownKnob Tryz.prog.godebug = none := by kernel_rfl
theorem laidOut : laidOutB Tryz.prog = true := by kernel_rfl
theorem open_bytes {H : Type} {enc : TypeId × Value → H} {W : World} {fuel : Nat} {cs : List Value} {x : DataW H × List MemPlace} {sp : Nat → Bool} (h : DataW.trod enc Tryz.prog W 0 sp true fuel 22 cs = some x) :
  ∃ A len cap l, cs = [.slice A len cap] ∧ l.length = len ∧ len ≤ cap ∧ cap ≤ 9223372036854775807 ∧ Byts W W.heap.size A l := by
 rcases open_ints Tryz.underlying22 Tryz.underlying5 (by kernel_rfl) h with ⟨hcs, _⟩ | ⟨x, l, c, zs, hcs, _, hl, hm, hz, _, hcell, hwz⟩
 ·exact ⟨none, 0, 0, [], hcs, rfl, Nat.le_refl _, by omega, Byts.nil⟩
 ·unfold maxLen at hm
  have hlz : l ≤ zs.length := by rw [hz]; split <;> omega
  have hlen : (zs.take l).length = l := by rw [List.length_take]; omega
  refine ⟨some x, l, c, zs.take l, hcs, hlen, hl, hm, ⟨fun n hn => bounds_u8 (hwz n (List.mem_of_mem_take hn)), fun hp => ?_⟩⟩
  obtain ⟨b, off, rfl, hc⟩ := ints_at hcell (by omega)
  have h0 := hc 0 (by omega)
  refine ⟨b, off, rfl, ?_, fun i y hy => ?_⟩
  ·rcases Nat.lt_or_ge b W.heap.size with h1 | h1
   ·exact h1
   ·simp [World.cell?, Array.getElem?_eq_none h1] at h0
  ·rw [List.getElem?_take] at hy
   split at hy
   ·have hi := (List.getElem?_eq_some_iff.1 hy).1
    rw [hc i hi]
    simp [List.getD, hy]
   ·cases hy
theorem cells_of_strs {H : Type} {enc : TypeId × Value → H} {P : Program} {w : World} {base : Nat} {sp : Nat → Bool} {held : Bool} {fuel : Nat} {t e : TypeId} {n : Nat} {cs : List Value} {ls : List (List UInt8)} {p : List MemPlace}
  (ht : P.underlying t = some (.array n e)) (he : P.underlying e = some .string) (hce : P.cellsOf e = 1) (h : DataW.trod enc P w base sp held fuel t cs = some (.agg (ls.map fun l => .lit (.string l)), p)) :
  ∀ (i : Nat) (l : List UInt8), ls[i]? = some l → ∃ s : ByteArray, s.data.toList = l ∧ cs[i]? = some (.string s) := by
 cases fuel with
 | zero => simp [DataW.trod] at h
 | succ fuel =>
  simp only [DataW.trod, ht, hce, Nat.mul_one] at h
  split at h
  ·rename_i hl
   obtain ⟨xs, hm, hx⟩ := Option.map_eq_some_iff.1 h
   have hxs : xs.map (·.1) = ls.map fun l => (DataW.lit (.string l) : DataW H) := by
    have := congrArg Prod.fst hx
    simpa using this
   have hxl : xs.length = n := by simpa using Lib.mapM_length hm
   have hzl : ls.length = n := by
    have := congrArg List.length hxs
    simp at this
    omega
   intro i l hi
   have hin : i < n := by have := (List.getElem?_eq_some_iff.1 hi).1; omega
   obtain ⟨b, hb, hf⟩ := Lib.mapM_at hm i i (by simp [hin])
   obtain ⟨s, hc, rfl, _⟩ := DataW.trod_string he hf
   have h1 : cs[i]? = some (.string s) := by
    have := congrArg (·[0]?) hc
    simpa [List.getElem?_take, List.getElem?_drop] using this
   have h2 : (xs.map (·.1))[i]? = some (DataW.lit (.string s.data.toList) : DataW H) := by simp [hb]
   rw [hxs] at h2
   simp only [List.getElem?_map, hi, Option.map_some, Option.some.injEq, DataW.lit.injEq, Lit.string.injEq] at h2
   exact ⟨s, h2.symm, h1⟩
  ·cases h
section
variable {H : Type} {enc : TypeId × Value → H}
theorem returns_and_shaped {a : Assume} {C : Checked} {os : Os} {f : FuncId} {fn : Func} {s : ChangeSpec} {conds : List PathCond} {apart fresh handsOn again : Bool} {X : World → Array Value → Prop}
  (hX : ∀ (w w' : World) (args : Array Value), w.heap = w'.heap → X w args → X w' args)
  (own : ownKnob C.prog.godebug = none) (started : os.Started) (noInit : C.prog.inits.idxOf? f = none) (hfn : C.prog.funcs[f]? = some fn)
  (witness : ∃ (w : World) (tape : Tape) (i : Input), w.os = os ∧ (w.forCall tape i).Shaped C.prog ∧ i.vars = [] ∧ Input.okWide C.prog (w.forCall tape i) .any w.heap.size f i ∧
   ((s.pre enc C.prog fn conds apart (w.forCall tape i).memory i.args ∧ X (w.forCall tape i).memory i.args) ∧ sizedMet enc C.prog fn (OpenSpec.ofChange s) apart (w.forCall tape i).memory i.args) ∧ a.holds C.prog (lone (Frame.enter C.prog f i.args .normal) [] (w.forCall tape i)))
  (walk : ∀ (W : World) (base : Nat) (args : Array Value) (ds gs : List (DataW H)) (before : List MemPlace),
   (∀ (j : Nat) t v, fn.params[j]? = some t → args[j]? = some v → Value.okWide C.prog W .any base t v) →
   DataW.Whole enc C.prog fn.params.toList s.vars apart W args.toList ds gs before → X W args → W.ShapedOpen C.prog →
   Calls C.prog f args W fun e W' => ∃ v, e = .returned v ∧ s.post enc C.prog fn apart fresh handsOn again W args v W') :
  ReturnsInHanded a C os f .any (fun w args => (s.pre enc C.prog fn conds apart w args ∧ X w args) ∧ sizedMet enc C.prog fn (OpenSpec.ofChange s) apart w args) (s.post enc C.prog fn apart fresh handsOn again) := by
 refine returnsInHanded_of_calls own started noInit witness ?_
 intro w tape i _ hsh _ hok hpre _
 obtain ⟨_, _, _, fn', hfn', _, _, _, _, hval⟩ := hok
 obtain rfl : fn' = fn := Option.some.inj (hfn'.symm.trans hfn)
 obtain ⟨⟨⟨ds, gs, before, hw, _⟩, hx⟩, _⟩ := hpre
 refine (walk (w.forCall tape i) w.heap.size i.args ds gs before hval (DataW.Whole.of_heap (w' := w.forCall tape i) (by rfl) hw) (hX _ _ _ (by rfl) hx) hsh).mono fun e W' ⟨v, he, hp⟩ => ?_
 subst he
 exact ChangeSpec.post_blind hp
end
theorem ml_of {W : World} (h : W.ShapedOpen Tryz.prog) : Ml W :=
 cell_of_shapedOpen_int (P := Tryz.prog) (g := 3) (t := 3) (zero := #[.int .i64 0]) h (of_decide_eq_true (by kernel_rfl)) (by kernel_rfl) rfl (by kernel_rfl) (by kernel_rfl) Tryz.underlying3
def laid11 : List (String × DataW Unit) := Rows.scanJoinsRow.laid
def data11 : List (String × DataW Unit) := laid11.filter fun x => x.2.handleName?.isNone
def great11 : List String := data11.map fun x => x.1
noncomputable def door11 (os : Os) : World := (World.doorLaid Tryz.prog 89 os).layVars Tryz.prog (data11.filter fun x => great11.contains x.1)
theorem door11_os (os : Os) : (door11 os).os = os := World.layVars_os _ _ _
theorem none11 : (data11.filter fun x => !great11.contains x.1) = [] := by kernel_rfl
theorem data_met11 (os : Os) : laidMet Tryz.prog data11 (door11 os) :=
 laidMet_layVars (w0 := World.doorLaid Tryz.prog 89 os) (w' := door11 os) (laid := data11) great11 [] (by unfold door11; rfl) (by kernel_rfl) (by kernel_rfl) (by rw [none11]; exact LaidIn.none)
theorem all_met11 (os : Os) : laidMetH Tryz.prog laid11 (door11 os) :=
 laidMetH_of_parts3 (fuel := 8) (data_met11 os) (by kernel_rfl) (by kernel_rfl)
theorem door_met11 (os : Os) (args : Array Value) : laidMetH Tryz.prog laid11 ((door11 os).forCall (fun _ _ => 0) ⟨#[], args, []⟩).memory :=
 (all_met11 os).of_heap (by simp [World.memory, World.forCall, Input.heap])
theorem laidMet_tl {P : Program} {W : World} {x : String × DataW Unit} {rest : List (String × DataW Unit)} (h : laidMet P (x :: rest) W) : laidMet P rest W := by
 obtain ⟨ps, ⟨g', t', cs, fuel, p, q, hg', ht', hvar, hd, hr, rfl⟩, hnd, hall⟩ := h
 exact ⟨q, hr, (List.nodup_append.1 hnd).2.1, fun b off hm => hall b off (List.mem_append_right _ hm)⟩
theorem gHeads11 : Tryz.prog.globalNamed "cavil/utf.heads" = some 2 := by kernel_rfl
theorem tHeads11 : (Tryz.prog.globals[2]?).map (·.type) = some 172 := by kernel_rfl
theorem gSyn11 : Tryz.prog.globalNamed "strconv.ErrSyntax" = some 6 := by kernel_rfl
theorem tSyn11 : (Tryz.prog.globals[6]?).map (·.type) = some 25 := by kernel_rfl
theorem gRan11 : Tryz.prog.globalNamed "strconv.ErrRange" = some 7 := by kernel_rfl
theorem tRan11 : (Tryz.prog.globals[7]?).map (·.type) = some 25 := by kernel_rfl
theorem cES11 : Tryz.prog.cellsOf 315 = 1 := by kernel_rfl
theorem cStr11 : Tryz.prog.cellsOf 9 = 1 := by kernel_rfl
theorem star11 : "*" ++ "errors.errorString" = "*errors.errorString" := by decide
theorem rowES11 (u : TypeId) (h : Tryz.prog.typeName? 3 u = some "*errors.errorString") : u = 313 :=
 typeName_ptr_named (nm := "errors.errorString") (by rw [star11]; kernel_rfl) (by kernel_rfl) (by decide) u (by rw [star11]; exact h)
theorem gTexts11 : Tryz.prog.globalNamed "cavil/token.texts" = some 1 := by kernel_rfl
theorem tTexts11 : (Tryz.prog.globals[1]?).map (·.type) = some 156 := by kernel_rfl
theorem gErr11 : Tryz.prog.globalNamed "errors.errorType" = some 0 := by kernel_rfl
theorem oneErr11 : ((List.range Tryz.prog.types.size).filter fun t => Tryz.prog.rowNamed t [101, 114, 114, 111, 114]) = [25] := by kernel_rfl
theorem tab_is11 : (Rows.laid_cavil_token_texts : DataW Unit) = .agg (tabL.map fun l => .lit (.string l)) := by kernel_rfl
theorem tab_of11 {W : World} {rest : List (String × DataW Unit)} (h : laidMet Tryz.prog (("cavil/token.texts", (.agg (tabL.map fun l => .lit (.string l)) : DataW Unit)) :: rest) W) : TabAt W := by
 obtain ⟨ps, ⟨g', t', cs, fuel, p, q, hg', ht', hvar, hd, _, _⟩, _⟩ := h
 obtain rfl := Option.some.inj (gTexts11.symm.trans hg')
 obtain rfl := Option.some.inj (tTexts11.symm.trans ht')
 have hc := cells_of_strs Tryz.underlying156 Tryz.underlying9 (by kernel_rfl) hd
 intro k hk
 obtain ⟨l, hl⟩ : ∃ l, tabL[k]? = some l := ⟨_, List.getElem?_eq_getElem (by simpa [tabL] using hk)⟩
 obtain ⟨s, hs, hcs⟩ := hc k l hl
 have hv := World.var?_cell gTexts11 hvar k
 rw [hv]
 have e : s = tx k := by
  apply bytes_inj
  rw [tx_toList, hs]
  unfold txl
  rw [List.getD_eq_getElem?_getD, hl]
  rfl
 rw [← e]
 simpa using hcs
theorem et_of11 {W : World} (h' : handlesMet Tryz.prog [("errors.errorType", Rows.laid_errors_errorType)] W) : ErrType W := by
 obtain ⟨name, u, ty, e1, e2, e3, e4, e5⟩ := h' _ (List.mem_singleton.2 rfl)
 have en : name = [101, 114, 114, 111, 114] := (Option.some.inj e1).symm
 subst en
 have eu : some u = some 103 := e2.symm.trans (by kernel_rfl)
 obtain rfl := Option.some.inj eu
 have hm : ty ∈ (List.range Tryz.prog.types.size).filter fun t => Tryz.prog.rowNamed t [101, 114, 114, 111, 114] := List.mem_filter.2 ⟨List.mem_range.2 e3, e4⟩
 rw [oneErr11] at hm
 obtain rfl := List.mem_singleton.1 hm
 have hh : typeHandle Tryz.prog 25 = .pointer (some ⟨13, 25, none⟩) := by kernel_rfl
 rw [hh] at e5
 unfold ErrType
 simpa using World.var?_cell gErr11 e5 0
theorem of_laid11 {W : World} (h : laidMetH Tryz.prog laid11 W) : TabAt W ∧ Heads W ∧ ErrVars W ∧ ErrType W := by
 have h0 : laidMet Tryz.prog [("cavil/token.texts", Rows.laid_cavil_token_texts), ("cavil/utf.heads", Lib.tabData .u8 [0, 0, 192, 224, 240]), ("math/bits.deBruijn32tab", Rows.laid_math_bits_deBruijn32tab), ("math/bits.deBruijn64tab", Rows.laid_math_bits_deBruijn64tab), ("internal/strconv.uint64pow10", Rows.laid_internal_strconv_uint64pow10), ("unicode/utf8.acceptRanges", Rows.laid_unicode_utf8_acceptRanges), ("strconv.ErrRange", Rows.laid_strconv_ErrRange), ("strconv.ErrSyntax", Rows.laid_strconv_ErrSyntax), ("unicode/utf8.first", Rows.laid_unicode_utf8_first)] W ∧ handlesMet Tryz.prog [("errors.errorType", Rows.laid_errors_errorType)] W := h
 have h' := laidMet_tl h0.1
 have h5 := laidMet_tl (laidMet_tl (laidMet_tl (laidMet_tl (laidMet_tl h'))))
 have h6 := laidMet_tl h5
 refine ⟨?_, ?_, ⟨?_, ?_⟩, et_of11 h0.2⟩
 ·have h1 := h0.1
  rw [tab_is11] at h1
  exact tab_of11 h1
 ·have ht := Lib.tabIs_of_head gHeads11 tHeads11 Tryz.underlying172 Tryz.underlying5 (by kernel_rfl) (by kernel_rfl) h'
  intro k h1 h4
  have hc := ht.cell gHeads11 k (by simp; omega)
  rw [hc]
  match k, h1, h4 with
  | 1, _, _ => rfl
  | 2, _, _ => rfl
  | 3, _, _ => rfl
  | 4, _, _ => rfl
 ·obtain ⟨a, s, hv, _⟩ := laid_sentinel h6 gSyn11 tSyn11 Tryz.underlying25 rowES11 Tryz.underlying313 Tryz.underlying315 rfl rfl Tryz.underlying9 cES11 cStr11
  exact ⟨_, World.var?_cell gSyn11 hv 0, .inr ⟨_, _, rfl⟩⟩
 ·obtain ⟨a, s, hv, _⟩ := laid_sentinel h5 gRan11 tRan11 Tryz.underlying25 rowES11 Tryz.underlying313 Tryz.underlying315 rfl rfl Tryz.underlying9 cES11 cStr11
  exact ⟨_, World.var?_cell gRan11 hv 0, .inr ⟨_, _, rfl⟩⟩
theorem bi_back : ∀ (l : List Int), U.Byt l → ∃ m : List UInt8, bi m = l
 | [], _ => ⟨[], rfl⟩
 | x :: t, h => by
  obtain ⟨m, hm⟩ := bi_back t (fun y hy => h y (List.mem_cons_of_mem _ hy))
  have hx := h x List.mem_cons_self
  refine ⟨UInt8.ofNat x.toNat :: m, ?_⟩
  show ((UInt8.ofNat x.toNat).toNat : Int) :: bi m = _
  rw [hm]
  congr 1
  simp only [UInt8.toNat_ofNat']
  omega
end Go.Proofs.YtgkhjeefcflmcaaGreatDoor
