/-
  Stage 10: the document's Text, between two ".
-/
import Derived.Test.YtcieibidnpemjaaDoorMx03
import Derived.Test.YtcieibidnpemjaaDoorMx00
import Derived.Deep.RegionHeld3
import Derived.Laws.EntriesVeiled
namespace Go.Proofs.YtcieibidnpemjaaDoor
open Go.RowKit Go.Sort
set_option linter.unusedSimpArgs false
set_option maxRecDepth 100000 in
set_option maxHeartbeats 4000000 in
theorem TextD_line (l : List UInt8) (k : Nat) (t : List UInt8) (w : World) (hl : l.length ≤ 100000) (hb : betB 96 l = false) (hb2 : betB 34 l = true) (h : Hid (txtR (l.length + 1) (chrIn l) = (k, t))) :
  Calls Tryd.prog 9 #[.string (bs l)] w fun e w' => e = .returned (.tuple #[.string (bs t), .int .i64 (k : Int)]) ∧ Below w.heap.size w w' := by
 have hsz := bs_size l
 have hn2 := bet_len hb2
 have HBT : Hid (∀ V, Calls Tryd.prog 19 #[.string (bs l), .int .u8 96] V fun e w' => e = .returned (.bool false) ∧ w' = V) := fun V => by
  have := between_run l 96 V hl
  rwa [hb] at this
 have HBT2 : Hid (∀ V, Calls Tryd.prog 19 #[.string (bs l), .int .u8 34] V fun e w' => e = .returned (.bool true) ∧ w' = V) := fun V => by
  have := between_run l 34 V hl
  rwa [hb2] at this
 have hex : (bs l).extract 1 (l.length - 1) = bs (chrIn l) := bs_extract l 1 (l.length - 1)
 obtain ⟨p, hp⟩ : ∃ p, l.length - 1 = p := ⟨_, rfl⟩
 rw [hp] at hex
 have hpz : (l.length : Int) - 1 = (p : Int) := by omega
 have hp1 : 1 ≤ p := by omega
 have hpn : p ≤ l.length := by omega
 have hml : (chrIn l).length ≤ 100000 := by rw [chr_len]; omega
 have HF : Hid ((chrIn l).length < l.length + 1) := by show _ < _; rw [chr_len]; omega
 obtain ⟨m, hm⟩ : ∃ m, chrIn l = m := ⟨_, rfl⟩
 rw [hm] at hex hml HF h
 obtain ⟨L, hL⟩ : ∃ L, m.length = L := ⟨_, rfl⟩
 have hms := bs_size m
 rw [hL] at hms
 rw [hL] at hml
 have HL := Lib.hid hL
 have HS : Hid ((k, t) = catT [] (txtR (l.length + 1) (m.drop 0))) := by
  show _ = _
  rw [catT_nil _ (txtR_plain _ _), List.drop_zero, h.out]
 clear hm hb hb2 hp hL h
 obtain ⟨F, hF⟩ : ∃ F, l.length + 1 = F := ⟨_, rfl⟩
 rw [hF] at HS HF
 clear hF
 go_enter Tryd.func9, Tryd.ntmps9
 go_wp2_with fail
 refine (HBT.out _).mono ?_
 rintro e w1 ⟨rfl, rfl⟩
 go_wp2_with fail
 refine (HBT2.out _).mono ?_
 rintro e w0 ⟨rfl, rfl⟩
 go_wp2_with fail
 clear HBT HBT2 hex hpz hp1 hpn hn2 hsz hl
 generalize bs l = z at *
 generalize l.length = n at *
 go_loopg [4, 7] (L + 1) (fun h s4 s7 wr => ∃ (i : Nat) (x : List UInt8), s4 = .string (bs x) ∧ s7 = .int .i64 (i : Int) ∧ Hid (L + 1 ≤ i + h) ∧ i ≤ L ∧ x.length ≤ 4 * i ∧ Hid (∃ f, L + 1 ≤ f + i ∧ (k, t) = catT x (txtR f (m.drop i))) ∧ Hid (Below w0.heap.size w0 wr))
 case atStart => exact ⟨0, [], rfl, rfl, (by show _ ≤ _; omega), by omega, by simp, ⟨F, by have := HL.out; have := HF.out; omega, HS.out⟩, Below.refl _ _⟩
 case round =>
  clear HS HF
  obtain ⟨i, x, rfl, rfl, HI, hin, hxl, HX0, HB⟩ := hrel
  obtain ⟨f, HFL0, HX1⟩ := HX0.out
  have HX := Lib.hid HX1
  have HFL := Lib.hid HFL0
  clear HX0 HX1 HFL0
  have hxs := bs_size x
  have hxm : x.length ≤ 400000 := by omega
  have HXL := Lib.hid hxl
  clear hxl
  by_cases hlt : i < L
  ·have hiz : (i : Int) < (L : Int) := by omega
   obtain ⟨c, hc⟩ : ∃ c, m[i]? = some c := ⟨m[i]'(by have := HL.out; omega), List.getElem?_eq_getElem _⟩
   have hdr := drop_cons hc
   have hx0 := bs_get hc
   obtain ⟨g, rfl⟩ : ∃ g, f = g + 1 := ⟨f - 1, by have := HFL.out; omega⟩
   by_cases h34 : c = 34
   ·subst h34
    have HR : Hid (k = 8 ∧ t = []) := by
     have := HX.out
     rw [hdr, txtR_bad (.inl rfl), catT_err _ (by decide)] at this
     cases this
     exact ⟨rfl, rfl⟩
    have hx1 : ∀ W, (Instr.index 9 (.string (bs m)) (.int .i64 (i : Int))).run Tryd.prog W = .ok (.int .u8 34) W := hx0
    clear hx0 hc hdr HX
    go_wp2_with fail
    go_ret2
    exact ⟨by rw [HR.out.1, HR.out.2]; rfl, HB.out⟩
   ·have e34 : ((c.toNat : Int) == 34) = false := eq_byte h34
    by_cases h10 : c = 10
    ·subst h10
     have HR : Hid (k = 8 ∧ t = []) := by
      have := HX.out
      rw [hdr, txtR_bad (.inr rfl), catT_err _ (by decide)] at this
      cases this
      exact ⟨rfl, rfl⟩
     have hx1 : ∀ W, (Instr.index 9 (.string (bs m)) (.int .i64 (i : Int))).run Tryd.prog W = .ok (.int .u8 10) W := hx0
     clear hx0 hc hdr HX e34
     go_wp2_with fail
     go_ret2
     exact ⟨by rw [HR.out.1, HR.out.2]; rfl, HB.out⟩
    ·have e10 : ((c.toNat : Int) == 10) = false := eq_byte h10
     by_cases h92 : c = 92
     ·subst h92
      have hx1 : ∀ W, (Instr.index 9 (.string (bs m)) (.int .i64 (i : Int))).run Tryd.prog W = .ok (.int .u8 92) W := hx0
      have hfr := bs_from m i L HL.out.symm
      obtain ⟨v, bt, sz, hes⟩ : ∃ v bt sz, escF 34 (m.drop i) = (v, bt, sz) := ⟨_, _, _, rfl⟩
      have HES : Hid (∀ V, Calls Tryd.prog 20 #[.string (bs (m.drop i)), .int .u8 34] V fun e w' => e = .returned (.tuple #[.int .i64 v, .int .i64 (b2i bt), .int .i64 (sz : Int)]) ∧ Below V.heap.size V w') := fun V => Escape_run (m.drop i) 34 v bt sz V (by rw [List.length_drop]; have := HL.out; omega) hes
      rw [hdr] at hes
      by_cases hs0 : sz = 0
      ·subst hs0
       have HR : Hid (k = 14 ∧ t = []) := by
        have := HX.out
        rw [hdr, txtR_none hes, catT_err _ (by decide)] at this
        cases this
        exact ⟨rfl, rfl⟩
       rw [Int.natCast_zero] at HES
       clear hx0 hc hdr HX e34 e10 hes
       generalize b2i bt = bz at *
       generalize bs (m.drop i) = y at *
       go_wp2_with fail
       refine (HES.out _).mono ?_
       rintro e w3 ⟨rfl, hw⟩
       have HW := Lib.hid (HB.out.trans (hw.mono HB.out.size))
       clear hw
       go_wp2_with fail
       go_ret2
       exact ⟨by rw [HR.out.1, HR.out.2]; rfl, HW.out⟩
      ·have hs0z : ((sz : Int) == 0) = false := beq_eq_false_iff_ne.2 (by omega)
       obtain ⟨q1, q2, q3, q4, q5⟩ := escF_size hes hs0
       rw [← hdr, List.length_drop, HL.out] at q2
       have HX2 : Hid (∃ f, L + 1 ≤ f + (i + sz) ∧ (k, t) = catT (x ++ encB v bt) (txtR f (m.drop (i + sz)))) := by
        refine ⟨g, by have := HFL.out; omega, ?_⟩
        have := HX.out
        rw [hdr, txtR_esc hes hs0, ← hdr, List.drop_drop, catT_catT] at this
        exact this
       have hel := encB_len v bt
       have hcat := bs_app x (encB v bt)
       have hys := bs_size (encB v bt)
       have hxsz : sz ≤ 10 := q3
       clear hx0 hc hdr HX e34 e10 hes hs0 HFL
       cases bt with
       | true =>
        obtain ⟨v0, v1⟩ := q4 rfl
        have hcv : ∀ V : World, (convert 35 9 (.slice (some ⟨V.heap.size, 0, none⟩) 1 1)).run Tryd.prog (V.alloc (.cells #[.int .u8 v] 5)) = .ok (.string (bs (encB v true))) (V.alloc (.cells #[.int .u8 v] 5)) := fun V => by
         have := conv_bytes (Byts.new (w := V) (B := V.heap.size + 1) (l := [v]) (by intro y hy; rw [List.mem_singleton] at hy; omega) 5 (Nat.lt_succ_self _)) 1 1 rfl
         exact this
        have HE1 : Hid (∀ V, Calls Tryd.prog 20 #[.string (bs (m.drop i)), .int .u8 34] V fun e w' => e = .returned (.tuple #[.int .i64 v, .int .i64 1, .int .i64 (sz : Int)]) ∧ Below V.heap.size V w') := HES
        have HEV := Lib.hid hel
        have helm : (encB v true).length ≤ 4 := hel
        generalize encB v true = ev at *
        generalize bs (m.drop i) = y at *
        clear q4 q5 HES hel
        have hsum : (i : Int) + (sz : Int) = ((i + sz : Nat) : Int) := by omega
        have hsn : i + sz ≤ 100000 := by omega
        obtain ⟨is, his⟩ : ∃ is, i + sz = is := ⟨_, rfl⟩
        rw [his] at hsum hsn HX2
        have HIS := Lib.hid his
        clear his
        go_wp2_with fail
        refine (HE1.out _).mono ?_
        rintro e w3 ⟨rfl, hw⟩
        have HW := Lib.hid (HB.out.trans (hw.mono HB.out.size))
        have hcv3 := hcv w3
        clear hw hcv
        go_wp2_with fail
        go_roundg (L + 1 - is)
        case measure => have := HI.out; have := HIS.out; omega
        case rel => exact ⟨is, x ++ ev, rfl, by first | rfl | (rw [hsum]), (by show _ ≤ _; omega), by have := HIS.out; omega, by have := HXL.out; have := HEV.out; have := HIS.out; rw [List.length_append]; omega, HX2, HW.out.alloc HW.out.size _⟩
       | false =>
        have hru := q5 rfl
        have HBY : Hid (∀ V : World, Calls Tryd.prog 24 #[.int .i64 v] V fun e w' => ∃ nb, e = .returned (.slice (some ⟨V.heap.size, 0, none⟩) nb nb) ∧ (convert 35 9 (.slice (some ⟨V.heap.size, 0, none⟩) nb nb)).run Tryd.prog w' = .ok (.string (bs (encB v false))) w' ∧ Below V.heap.size V w') := fun V => by
         refine (Bytes_any v V hru).mono ?_
         rintro e w' ⟨rfl, rfl⟩
         refine ⟨_, rfl, ?_, (Below.refl _ V).alloc (Nat.le_refl _) _⟩
         exact conv_bytes (Byts.new (w := V) (B := V.heap.size + 1) (U.enc_byt hru) 5 (Nat.lt_succ_self _)) _ _ (U.enc_length v)
        have HE1 : Hid (∀ V, Calls Tryd.prog 20 #[.string (bs (m.drop i)), .int .u8 34] V fun e w' => e = .returned (.tuple #[.int .i64 v, .int .i64 0, .int .i64 (sz : Int)]) ∧ Below V.heap.size V w') := HES
        have HEV := Lib.hid hel
        have helm : (encB v false).length ≤ 4 := hel
        generalize encB v false = ev at *
        generalize bs (m.drop i) = y at *
        clear q4 q5 HES hel hru
        have hsum : (i : Int) + (sz : Int) = ((i + sz : Nat) : Int) := by omega
        have hsn : i + sz ≤ 100000 := by omega
        obtain ⟨is, his⟩ : ∃ is, i + sz = is := ⟨_, rfl⟩
        rw [his] at hsum hsn HX2
        have HIS := Lib.hid his
        clear his
        go_wp2_with fail
        refine (HE1.out _).mono ?_
        rintro e w3 ⟨rfl, hw⟩
        have HW := Lib.hid (HB.out.trans (hw.mono HB.out.size))
        clear hw
        go_wp2_with fail
        refine (HBY.out _).mono ?_
        rintro e w4 ⟨nb, rfl, hcv, hw4⟩
        have HW4 := Lib.hid (HW.out.trans (hw4.mono HW.out.size))
        clear hw4
        go_wp2_with fail
        go_roundg (L + 1 - is)
        case measure => have := HI.out; have := HIS.out; omega
        case rel => exact ⟨is, x ++ ev, rfl, by first | rfl | (rw [hsum]), (by show _ ≤ _; omega), by have := HIS.out; omega, by have := HXL.out; have := HEV.out; have := HIS.out; rw [List.length_append]; omega, HX2, HW4⟩
     ·have e92 : ((c.toNat : Int) != 92) = true := by rw [bne_iff_ne]; intro e; exact h92 (UInt8.toNat_inj.1 (by show c.toNat = 92; omega))
      have HX2 : Hid (∃ f, L + 1 ≤ f + (i + 1) ∧ (k, t) = catT (x ++ [c]) (txtR f (m.drop (i + 1)))) := by
       refine ⟨g, by have := HFL.out; omega, ?_⟩
       have := HX.out
       rw [hdr, txtR_one (fun e => e.elim h34 h10) h92, catT_catT] at this
       exact this
      have he := ext_one hc
      have hcat := bs_app x [c]
      have hs1 := bs_size [c]
      have hs2 : ([c] : List UInt8).length = 1 := rfl
      rw [hs2] at hs1
      obtain ⟨ip, hip⟩ : ∃ ip, i + 1 = ip := ⟨_, rfl⟩
      have hipz : (i : Int) + 1 = (ip : Int) := by omega
      have hipl : ip ≤ L := by omega
      have hii : i ≤ ip := by omega
      rw [hip] at he
      have HIP := Lib.hid hip
      clear hc hdr HX h34 h10 h92 hip hs2 HFL
      generalize c.toNat = cn at *
      go_wp2_with fail
      go_roundg (L - i)
      case measure => have := HI.out; omega
      case rel => exact ⟨i + 1, x ++ [c], rfl, by rw [HIP.out], (by show _ ≤ _; omega), by omega, by have := HXL.out; rw [List.length_append]; show _ + 1 ≤ _; omega, HX2, HB⟩
  ·have hip : i = L := by omega
   have hiz : ¬ (i : Int) < (L : Int) := by omega
   have HR : Hid (k = 0 ∧ t = x) := by
    have := HX.out
    rw [List.drop_of_length_le (by have := HL.out; omega), txtR_nil, catT_ok, List.append_nil] at this
    cases this
    exact ⟨rfl, rfl⟩
   clear HX hip
   go_wp2_with fail
   go_ret2
   exact ⟨by rw [HR.out.1, HR.out.2]; rfl, HB.out⟩
end Go.Proofs.YtcieibidnpemjaaDoor
namespace Go.Proofs.YtcieibidnpemjaaDoor
open Go.RowKit
section
variable {P : Program} {ops : Array Oper} {Q : Exit → Act → World → Prop} {md : Region.Mode} {S : World → Prop}
theorem rg_take (i : Nat) {oi : Oper} (v : Value) {fuel : Nat} {listed : Array Bool} {a : Act} {w : World} (hi : ops[i]? = some oi)
  (hs : Region.noSelect ops = true) (hf : Region.free md ops listed i = true) (hr : (Region.ready md ops listed).contains i = true)
  (hQ : ∀ c a w, Q (.panic c) (a.put oi.dst v) w → Q (.panic c) a w) (hg : oi.guard = none) (hv : ∀ w, S w → (execOp a.eval oi).run P w = .ok (.value v) w) (hS : S w)
  (h : wpAnyH P md ops Q S fuel (listed.setIfInBounds i true) (a.put oi.dst v) w) : wpAnyH P md ops Q S (fuel + 1) listed a w :=
 wpAnyH_take hi hs hf hr hQ (.inl ⟨by simp [Region.wanted, hg], hv⟩) hS h
abbrev RStep (P : Program) (md : Region.Mode) (ops : Array Oper) (Q : Exit → Act → World → Prop) (S : World → Prop) (fuel : Nat) (listed : Array Bool) (i : Nat) (a : Act) (w : World) : Prop :=
 wpOp P ops Q i (fun a' w' => S w' ∧ wpAnyH P md ops Q S fuel (listed.setIfInBounds i true) a' w') a w
theorem rg_one (i : Nat) {fuel : Nat} {listed : Array Bool} {a : Act} {w : World} (hr : Region.ready md ops listed = [i]) (h : RStep P md ops Q S fuel listed i a w) : wpAnyH P md ops Q S (fuel + 1) listed a w :=
 wpAnyH_all hr (by simp) fun j hj => by
  obtain rfl : j = i := by simpa using hj
  exact h
theorem rs_of {i : Nat} {o : Oper} {K : Act → World → Prop} {a : Act} {w : World} (ho : ops[i]? = some o) (hg : o.guard = none) (h : o.wp P a w K Q) : wpOp P ops Q i K a w := by
 unfold wpOp
 rw [ho]
 simp only [Region.wanted, hg, if_true]
 exact .inl h
theorem wp_value {o : Oper} {K : Act → World → Prop} {a : Act} {w w' : World} {v : Value} (h : (execOp a.eval o).run P w = .ok (.value v) w') (hk : K (a.put o.dst v) w') : o.wp P a w K Q := by
 unfold Oper.wp
 rw [h]
 exact hk
def EntersP (P : Program) (f : Nat) : Prop := ∀ (args : Array Value) (w : World), (callFunc f args).run P w = .ok (.enter f args) w
theorem entersP_of {f : FuncId} {fn : Func} {c : Code} (hf : P.funcs[f]? = some fn) (hname : (fn.name == "runtime.NumGoroutine") = false) (hb : fn.body = some c) : EntersP P f := fun args w => by
 have h1 : fn.name ≠ "runtime.NumGoroutine" := by simpa using hname
 simp [callFunc, hf, h1, hb]
theorem rg_begin (S : World → Prop) {id : Nat} {a : Act} {w : World} (hm : P.follows .mixedOrders = true) (hS : S w.drew)
  (h : S w.drew → wpAnyH P .any ops Q S ops.size (Array.replicate ops.size false) a w.drew) : (Code.region id ops true).wp P Q a w := wp_region_held_drew hm hS h
end
theorem zA {α : Type _} {xs : List α} {i : Nat} (h : i < xs.toArray.size) : xs.toArray[i] = xs[i]'(by simpa using h) := List.getElem_toArray h
theorem zB {α : Type _} (a : α) (l : List α) (h : 0 < (a :: l).length) : (a :: l)[0] = a := List.getElem_cons_zero a l h
theorem zC {α : Type _} (a : α) (l : List α) (i : Nat) (h : i + 1 < (a :: l).length) : (a :: l)[i + 1] = l[i]'(by simpa using h) := List.getElem_cons_succ a l i h
theorem zD {α : Type _} (l : List α) (i : Nat) (a : α) : l.toArray.setIfInBounds i a = (l.set i a).toArray := List.setIfInBounds_toArray l i a
theorem zE {α : Type _} {x : α} {xs : List α} {a : α} : (x :: xs).set 0 a = a :: xs := List.set_cons_zero
theorem zF {α : Type _} {x : α} {xs : List α} {i : Nat} {a : α} : (x :: xs).set (i + 1) a = x :: xs.set i a := List.set_cons_succ
end Go.Proofs.YtcieibidnpemjaaDoor
namespace Go.Proofs.YtcieibidnpemjaaDoor
open Go.RowKit Go.Sort
set_option linter.unusedSimpArgs false
theorem u8_slice : SliceK .u8 35 5 := ⟨Tryd.underlying35, 1, by omega, by kernel_rfl⟩
theorem bi_byt (l : List UInt8) : U.Byt (bi l) := fun x hx => by
 obtain ⟨b, _, rfl⟩ := List.mem_map.1 hx
 have := b.toNat_lt
 omega
theorem bi_app (a b : List UInt8) : bi a ++ bi b = bi (a ++ b) := (List.map_append).symm
theorem byts_nums {w : World} {B : Nat} {A : Option Addr} {l : List UInt8} (h : NumsK .u8 w B A (bi l)) : Byts w B A (bi l) := ⟨bi_byt l, h⟩
theorem nums_new (w : World) (l : List Int) : NumsK .u8 (w.alloc (.cells (l.map fun x => Value.int .u8 x).toArray 5)) (w.heap.size + 1) (some ⟨w.heap.size, 0, none⟩) l := fun _ =>
 ⟨_, _, rfl, Nat.lt_succ_self _, fun i x hx => by
  rw [World.cell?_alloc_at _ _ _ _ rfl]
  simp [hx]⟩
theorem run_conv_strT (w : World) (s : ByteArray) (hs : s.size ≤ maxLen) : ∃ cap w', (convert 9 35 (.string s)).run Tryd.prog w = .ok (.slice (some ⟨w.heap.size, 0, none⟩) s.size cap) w' ∧ s.size ≤ cap ∧ cap ≤ maxLen ∧ Byts w' w'.heap.size (some ⟨w.heap.size, 0, none⟩) (bts s) ∧ Below w.heap.size w w' ∧ w.heap.size < w'.heap.size := by
 refine ⟨_, _, run_bytes_of_string w _ _ _ s Tryd.underlying9 Tryd.underlying35 Tryd.underlying5, grownCap_ge _ _ _ _, grownCap_le_maxLen _ _ _ _ hs, ⟨bts_byt s, fun _ => ⟨_, _, rfl, by simp, fun i x hx => ?_⟩⟩, ?_, ?_⟩
 ·have := World.cell?_alloc_mark w.drew (bytesRow s (grownCap w s.size 0 5)) 5 ((bytesRow s (grownCap w s.size 0 5)).size, (bytesRow s (grownCap w s.size 0 5)).size + 1) (0 + i)
  rw [show w.drew.heap.size = w.heap.size from rfl] at this
  rw [this, bytesRow, bts_cells, Nat.zero_add]
  have hi := (List.getElem?_eq_some_iff.1 hx).1
  rw [Array.getElem?_append_left (by simpa using hi)]
  simp [hx]
 ·exact (Below.refl _ w).drew.alloc (Nat.le_refl _) _
 ·exact Nat.lt_of_lt_of_le (Nat.lt_succ_self _) (Nat.le_of_eq (by simp))
theorem app_exec {k : IntKind} {T E : TypeId} (hT : SliceK k T E) {o : Oper} {a : Act} (w : World) (s x : Operand)
  (ho : o.op = .call { callee := .builtin .append, args := #[s, x], argTypes := #[T, T] })
  (base : Nat) (v : Value) (l : List Int) (hs : a.eval s = v) (hown : OwnK k E w base v l)
  (B : Nat) (A : Option Addr) (m c : Nat) (news : List Int) (hx : a.eval x = .slice A m c) (hb : NumsK k w B A news) (hm : news.length = m) (hlen : l.length ≤ 500000) (hlen2 : news.length ≤ 500000) (hbase : base ≤ w.heap.size) :
  ∃ v' w', (execOp a.eval o).run Tryd.prog w = .ok (.value v') w' ∧ OwnK k E w' base v' (l ++ news) ∧ w.grownBy w' v.ownBlock ∧ (v'.ownBlock = v.ownBlock ∨ v'.ownBlock = some w.heap.size) := by
 obtain ⟨v', w', hrun, h2, h3, h4⟩ := run_app hT w o.type base v l hown B A m c news hb hm (by omega) hbase
 refine ⟨v', w', ?_, h2, h3, h4⟩
 unfold execOp
 simp only [ho, resolve, invoke, builtin, Sem.run_bind, Sem.run_pure, Result.andThen_ok, List.map_toArray, List.map_cons, List.map_nil, hs, hx, hrun]
theorem wp_app {k : IntKind} {T E : TypeId} (hT : SliceK k T E) {o : Oper} {a : Act} {K : Act → World → Prop} {Q : Exit → Act → World → Prop} (w : World) (s x : Operand)
  (ho : o.op = .call { callee := .builtin .append, args := #[s, x], argTypes := #[T, T] })
  (base : Nat) (v : Value) (l : List Int) (hs : a.eval s = v) (hown : OwnK k E w base v l)
  (B : Nat) (A : Option Addr) (m c : Nat) (news : List Int) (hx : a.eval x = .slice A m c) (hb : NumsK k w B A news) (hm : news.length = m) (hlen : l.length ≤ 500000) (hlen2 : news.length ≤ 500000) (hbase : base ≤ w.heap.size)
  (h : ∀ v' w', OwnK k E w' base v' (l ++ news) → w.grownBy w' v.ownBlock → (v'.ownBlock = v.ownBlock ∨ v'.ownBlock = some w.heap.size) → K (a.put o.dst v') w') : o.wp Tryd.prog a w K Q := by
 obtain ⟨v', w', hrun, h2, h3, h4⟩ := app_exec hT (o := o) (a := a) w s x ho base v l hs hown B A m c news hx hb hm hlen hlen2 hbase
 exact wp_value hrun (h v' w' h2 h3 h4)
theorem index_k {s : ByteArray} {i : Nat} {b : UInt8} (h : s.data.toList[i]? = some b) (k : IntKind) (W : World) : (Instr.index 9 (.string s) (.int k (i : Int))).run Tryd.prog W = .ok (.int .u8 (b.toNat : Int)) W := by
 obtain ⟨hi, he⟩ := List.getElem?_eq_some_iff.1 h
 have hi2 : i < s.size := by simpa using hi
 rw [run_index_string _ _ _ _ _ Tryd.underlying9, dif_pos (by omega)]
 have : s[(i : Int).toNat]'(by simpa using hi2) = b := by
  rw [← he]
  simp
  rfl
 rw [this]
theorem index_exec {op : Oper} {a : Act} {w : World} {x y : Operand} {s : ByteArray} {k : IntKind} {i : Nat} {b : UInt8} (ho : op.op = .index 9 x y) (hx : a.eval x = .string s) (hy : a.eval y = .int k (i : Int))
  (h : s.data.toList[i]? = some b) : (execOp a.eval op).run Tryd.prog w = .ok (.value (.int .u8 (b.toNat : Int))) w := by
 unfold execOp
 simp only [ho, hx, hy, index_k h, Sem.run_bind, Sem.run_pure, Result.andThen_ok]
def hexD (i : Nat) : UInt8 := UInt8.ofNat (sdN i)
theorem hexD_at {i : Nat} (h : i < 16) : (⟨#[48, 49, 50, 51, 52, 53, 54, 55, 56, 57, 97, 98, 99, 100, 101, 102]⟩ : ByteArray).data.toList[i]? = some (hexD i) := sd_str ⟨i, h⟩
def wr1 (c : UInt8) : List UInt8 := if c = 34 ∨ c = 92 then [92, c] else if 32 ≤ c.toNat ∧ c.toNat < 127 then [c] else [92, 120, hexD (c.toNat / 16), hexD (c.toNat % 16)]
theorem wr1_len (c : UInt8) : (wr1 c).length ≤ 4 := by
 unfold wr1
 repeat' split
 all_goals (simp only [List.length_cons, List.length_nil]; omega)
def wrM (l : List UInt8) : List UInt8 := l.flatMap wr1
theorem wrM_len (l : List UInt8) : (wrM l).length ≤ 4 * l.length := by
 induction l with
 | nil => exact Nat.le_refl _
 | cons c t ih =>
  have := wr1_len c
  show (wr1 c ++ wrM t).length ≤ 4 * (t.length + 1)
  rw [List.length_append]
  omega
theorem wrM_take {l : List UInt8} {i : Nat} {c : UInt8} (h : l[i]? = some c) : wrM (l.take (i + 1)) = wrM (l.take i) ++ wr1 c := by
 rw [take_succ_of h]
 unfold wrM
 rw [List.flatMap_append]
 simp
def wrF (l : List UInt8) : List UInt8 := 34 :: wrM l ++ [34]
end Go.Proofs.YtcieibidnpemjaaDoor
