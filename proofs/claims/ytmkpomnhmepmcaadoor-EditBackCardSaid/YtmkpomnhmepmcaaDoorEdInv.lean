/-
  The contract of edit.Invert: the edits that undo.
-/
import Derived.Test.YtmkpomnhmepmcaaDoorEdApply
import Derived.Test.YtmkpomnhmepmcaaDoorEdStep
import Derived.Test.YtmkpomnhmepmcaaDoorEdFew
import Derived.Deep.RegionHeldLaw
namespace Go.Proofs.YtmkpomnhmepmcaaDoor
open Go.RowKit

/-- One edit that undoes another; g: what the edits before grew. -/
def invE (bl : List Int) (g : Int) (e : Ei) : Ei := ⟨e.f + g, e.f + g + e.s.size, strOf ((bl.drop e.f.toNat).take (e.t.toNat - e.f.toNat))⟩
def invI (bl : List Int) : Int → List Ei → List Ei
  | _, [] => []
  | g, e :: r => invE bl g e :: invI bl (g + dgI e.f e.t e.s) r
theorem invI_append (bl : List Int) : ∀ (g : Int) (l m : List Ei), invI bl g (l ++ m) = invI bl g l ++ invI bl (g + growI l) m
  | g, [], m => by simp [invI, growI]
  | g, e :: r, m => by
    simp only [List.cons_append, invI, growI, invI_append bl _ r m]
    rw [show g + dgI e.f e.t e.s + growI r = g + (dgI e.f e.t e.s + growI r) by omega]
theorem invI_at {bl : List Int} {l : List Ei} {i : Nat} {x : Ei} (h : l[i]? = some x) : invI bl 0 (l.take (i + 1)) = invI bl 0 (l.take i) ++ [invE bl (growI (l.take i)) x] := by
  rw [take_at h, invI_append, Int.zero_add]
  rfl
theorem invI_length (bl : List Int) : ∀ (g : Int) (l : List Ei), (invI bl g l).length = l.length
  | _, [] => rfl
  | g, e :: r => by simp only [invI, List.length_cons, invI_length bl _ r]
theorem growI_small {l : List Ei} (h : ∀ e ∈ l, 0 ≤ e.f ∧ e.f ≤ e.t ∧ e.t ≤ 300) (hs : ∀ e ∈ l, e.s.size ≤ 40) : -300 * (l.length : Int) ≤ growI l ∧ growI l ≤ 40 * (l.length : Int) := by
  induction l with
  | nil => simp [growI]
  | cons e r ih =>
    have he := h e List.mem_cons_self
    have hse := hs e List.mem_cons_self
    obtain ⟨i1, i2⟩ := ih (fun x hx => h x (List.mem_cons_of_mem _ hx)) fun x hx => hs x (List.mem_cons_of_mem _ hx)
    simp only [growI, dgI, List.length_cons]
    omega
theorem VarAt.grown {w w' : World} {b : Nat} {v : Value} {row : Option Nat} (h : VarAt w b v) (g : w.grownBy w' row) (hn : some b ≠ row) : VarAt w' b v :=
  ⟨(g.cell_far ⟨b, 0, none⟩ h.lt hn).trans h.1, (g.frozen_far ⟨b, 0, none⟩ h.lt hn).trans h.2⟩
theorem StartsAt.grown {w w' : World} {b : Nat} {z : Int} {row : Option Nat} (h : StartsAt w b z) (g : w.grownBy w' row) (hn : ∀ r, row = some r → r < b ∨ b + 3 ≤ r) : StartsAt w' b z :=
  ⟨h.1.grown g fun e => by have := hn _ e.symm; omega, h.2.1.grown g fun e => by have := hn _ e.symm; omega, h.2.2.grown g fun e => by have := hn _ e.symm; omega⟩
/-- 'make([]T, 0, c)' of elements of any fixed number of cells. -/
theorem run_makeV {α : Type} {f : α → List Value} {size : Nat} {T E : TypeId} (hT : SliceV f size T E) (w : World) (base c : Nat) (hc : c ≤ 1000) (hb : base ≤ w.heap.size) :
    ∃ w', (Instr.makeSlice T (.int .i64 0) (.int .i64 (c : Int))).run Tryd.prog w = .ok (.slice (some ⟨w.heap.size, 0, none⟩) 0 c) w' ∧ OwnV f size E w' base (.slice (some ⟨w.heap.size, 0, none⟩) 0 c) ([] : List α) ∧ w.grownBy w' none := by
  obtain ⟨he, hu, z, bb, hbb, hzc, hi0⟩ := hT
  obtain ⟨i, hi, hi2⟩ := Option.map_eq_some_iff.1 hi0
  simp only [Prod.mk.injEq] at hi2
  obtain ⟨hz, hs, hby⟩ := hi2
  have hr := run_make (P := Tryd.prog) w T E i _ hu hi hz .i64 .i64 ((0 : Nat) : Int) c (by omega) (by omega) (by
    rw [hby]
    have : bb * c ≤ 1000 * 1000 := Nat.mul_le_mul hbb hc
    have h2 : ((bb : Int) * (c : Int)) = ((bb * c : Nat) : Int) := by simp
    rw [h2]
    omega) (by omega)
  simp only [Int.toNat_natCast, hs] at hr
  refine ⟨_, hr, ?_, World.grownBy_alloc w _ none⟩
  unfold OwnV
  refine ⟨by simp, .inr ⟨w.heap.size, c, _, by simp, hb, heap_alloc_new w _, by simp, by simp only [maxLen]; omega, ?_, by simp⟩⟩
  have := size_madeCells z.cells (c * size)
  simpa using this
theorem wpList_makeV {α : Type} {f : α → List Value} {size : Nat} {T E : TypeId} (hT : SliceV f size T E) {ops : Array Oper} {rest : List Oper} {o : Oper} {a : Act} {Q : Exit → Act → World → Prop} (w : World) (hgd : o.guard = none) (l c : Operand)
    (ho : o.op = .makeSlice T l c) (base m : Nat) (hl : a.eval l = .int .i64 0) (hc : a.eval c = .int .i64 (m : Int)) (hm : m ≤ 1000) (hb : base ≤ w.heap.size)
    (h : ∀ w', OwnV f size E w' base (.slice (some ⟨w.heap.size, 0, none⟩) 0 m) ([] : List α) → w.grownBy w' none → wpList Tryd.prog ops Q rest (a.put o.dst (.slice (some ⟨w.heap.size, 0, none⟩) 0 m)) w') : wpList Tryd.prog ops Q (o :: rest) a w :=
  wpList_plain hgd fun _ hK => by
    obtain ⟨w', hrun, h2, h3⟩ := run_makeV hT w base m hm hb
    unfold Oper.wp execOp
    simp only [ho, Sem.run_bind, Sem.run_pure, Result.andThen_ok, hl, hc, hrun]
    exact hK _ _ (h w' h2 h3)
section
variable (Ab : Option Addr) (nb capb : Nat) (bl : List Int) (A : Option Addr) (n cap : Nat) (l : List Ei) (w : World)
set_option maxHeartbeats 4000000 in
theorem invert_bad (i k : Nat) (hy : Byts w w.heap.size Ab bl) (hbl : Hid (bl.length = nb)) (hh : Heads w) (hb : CellsV edCells w w.heap.size A l) (hl : Hid (l.length = n)) (hn : n ≤ 12) (hs : Hid (∀ e ∈ l, e.s.size ≤ 40)) (hc : Hid (checkOut bl l = some (i, k))) :
    Calls Tryd.prog 22 #[.slice Ab nb capb, .slice A n cap] w fun e w' => e = .returned (.tuple #[.slice none 0 0, errAt i k]) ∧ Below w.heap.size w w' := by
  have HC := Lib.hid (applied_bad Ab nb capb bl A n cap l w i k hy hbl hh hb hl hn hs hc)
  clear hy hh hb
  unfold errAt errno at *
  go_enter Tryd.func22, Tryd.ntmps22
  go_wp2_with fail
  refine HC.out.mono ?_
  rintro e w1 ⟨rfl, hw1⟩
  go_wp2_with fail
  go_ret2
  exact ⟨rfl, hw1⟩
set_option maxRecDepth 100000 in
set_option maxHeartbeats 8000000 in
theorem invert_ok (hy : Byts w w.heap.size Ab bl) (hbl : Hid (bl.length = nb)) (hcapb : nb ≤ capb) (hh : Heads w) (hb : CellsV edCells w w.heap.size A l) (hl : Hid (l.length = n)) (hn : n ≤ 12) (hs : Hid (∀ e ∈ l, e.s.size ≤ 40)) (hnb : nb ≤ 300) (hc : Hid (checkOut bl l = none)) :
    Calls Tryd.prog 22 #[.slice Ab nb capb, .slice A n cap] w fun e w' => ∃ v, e = .returned (.tuple #[v, .nilIface]) ∧ EdsOut (invI bl 0 l) w v w' := by
  obtain ⟨z, hz⟩ : ∃ z, (done bl l).length = z := ⟨_, rfl⟩
  have HZ := Lib.hid hz
  have HC := Lib.hid (applied_ok Ab nb capb bl A n cap l w z hy hbl hh hb hl hn hs hnb hc HZ)
  have HY := Lib.hid hy
  have HB := Lib.hid hb
  clear hy hh hb hz
  go_enter Tryd.func22, Tryd.ntmps22
  go_wp2_with fail
  refine HC.out.mono ?_
  rintro e w1 ⟨rfl, hw1⟩
  have B1 := Lib.hid hw1
  have hs1 := hw1.size
  clear hw1
  go_wp2_with (first
    | (at_make
       refine wpList_makeV ed_slice _ rfl _ _ rfl w.heap.size n rfl rfl (by omega) hs1 ?_
       intro w2 o2 g2
       have B2 : Hid (Below w.heap.size w w2) := B1.out.grown g2 hs1 (fun g hg => by cases hg)
       have O2 := Lib.hid o2
       have hs2 : w1.heap.size ≤ w2.heap.size := g2.size
       clear o2 g2)
    | fail)
  refine (starts_run _).mono ?_
  unfold startF
  rintro e w3 ⟨rfl, h3, hs3, hb3⟩
  have B3 : Hid (Below w.heap.size w w3) := B2.out.trans (hb3.mono B2.out.size)
  have HSt := Lib.hid h3
  have HS3 := Lib.hid hs3
  have O3 := Lib.hid (O2.out.below hb3)
  have hown0 : Hid (w1.heap.size < w2.heap.size) := (World.ownsRow.lt O2.out w1.heap.size rfl).2
  clear HC h3 hs3 hb3 O2 B2
  go_wp2_with fail
  generalize w2.heap.size = c at *
  go_loopg [8, 28] (n + 1) (fun h s8 s28 wr => ∃ i : Nat, s28 = .int .i64 i ∧ Hid (i ≤ n ∧ n < i + h) ∧ Hid (OwnV edCells 3 45 wr w.heap.size s8 (invI bl 0 (l.take i))) ∧ Hid (StartsAt wr c (Wr.w (growI (l.take i)))) ∧ Hid (∀ g, s8.ownBlock = some g → g < c ∨ c + 3 ≤ g) ∧ Hid (Below w.heap.size w wr))
  case atStart => exact ⟨0, rfl, by show _ ∧ _; omega, O3.out, HSt.out, fun g hg => by have := Option.some.inj (show some w1.heap.size = some g from hg); have := hown0.out; omega, B3.out⟩
  case round =>
    clear O3 B3 HSt
    obtain ⟨i, rfl, HI, O, S, HOb, BW⟩ := hrel
    by_cases hlt : i < n
    · have hltz : (i : Int) < (n : Int) := by omega
      obtain ⟨gb, o, x, rfl, hg, hx, c0, c1, c2⟩ := eds_at (HB.out.below BW.out (Nat.le_refl _)) (show i < l.length by have := hl.out; omega)
      obtain ⟨v0, v1, v2⟩ := valid_in hc.out x (List.mem_of_getElem? hx)
      have hsl : x.s.size ≤ 40 := hs.out x (List.mem_of_getElem? hx)
      obtain ⟨f, t, s⟩ := x
      obtain ⟨fn, rfl⟩ := Int.eq_ofNat_of_zero_le v0
      obtain ⟨tn, rfl⟩ := Int.eq_ofNat_of_zero_le (Int.le_trans v0 v1)
      simp only [] at c0 c1 c2 v1 v2 hsl
      have hft : fn ≤ tn := by omega
      have htb : tn ≤ nb := by have := hbl.out; omega
      have htc : tn ≤ capb := by omega
      obtain ⟨g0, hg0⟩ : ∃ g0, growI (l.take i) = g0 := ⟨_, rfl⟩
      have hgs := growI_small (l := l.take i) (fun e he => by have := valid_in hc.out e (List.mem_of_mem_take he); have := hbl.out; omega) (fun e he => hs.out e (List.mem_of_mem_take he))
      have htl : (l.take i).length ≤ 12 := by rw [List.length_take]; have := hl.out; omega
      rw [hg0] at hgs
      have hgw : Wr.w g0 = g0 := Wr.w_in (by omega) (by omega)
      obtain ⟨a, ha⟩ : ∃ a, (fn : Int) + g0 = a := ⟨_, rfl⟩
      have HWa : Hid (Wr.w ((fn : Int) + g0) = a) := by
        show _ = _
        rw [Wr.w_in (by omega) (by omega), ha]
      have ha1 : -4000 ≤ a := by omega
      have ha2 : a ≤ 4000 := by omega
      obtain ⟨r, hr0⟩ : ∃ r, strOf ((bl.drop fn).take (tn - fn)) = r := ⟨_, rfl⟩
      have HX : Hid (invI bl 0 (l.take (i + 1)) = invI bl 0 (l.take i) ++ [⟨a, IntKind.i64.wrap (a + (s.size : Int)), r⟩]) := by
        show _ = _
        rw [invI_at hx, hg0, invE]
        have hzw : IntKind.i64.wrap (a + (s.size : Int)) = a + (s.size : Int) := by rw [IntKind.wrap_i64]; omega
        simp only [Int.toNat_natCast, ha, hr0, hzw]
      have HGn : Hid (Wr.w (g0 + dgI fn tn s) = Wr.w (growI (l.take (i + 1)))) := by
        show _ = _
        rw [growI_at hx, hg0]
      have HCv : Hid (∀ A' , (A' = Ab.map (·.add fn) ∨ tn ≤ fn) → ∀ W, Below w.heap.size w W → (convert 22 9 (.slice A' (tn - fn) (capb - fn))).run Tryd.prog W = .ok (.string r) W) := fun A' hA W hW => by
        have h := conv_bytes (byts_cut (HY.out.below hW (Nat.le_refl _)) fn tn hA) (tn - fn) (capb - fn) (by rw [List.length_take, List.length_drop]; have := hbl.out; omega)
        rwa [hr0] at h
      have hlen : Hid ((invI bl 0 (l.take i)).length ≤ 500000) := by show _ ≤ _; rw [invI_length]; omega
      have HM : Hid (n - i < gk ∧ i + 1 ≤ n ∧ n < (i + 1) + (n - i)) := by show _ ∧ _ ∧ _; have := HI.out; omega
      have hsz := BW.out.size
      have hsl3 := S.out.2.2.lt
      have hownr0 : Hid (∀ g, u8.ownBlock = some g → g < wr.heap.size) := fun g hg => (World.ownsRow.lt O.out g hg).2
      have S1 : Hid (StartsAt (wr.alloc (.cells #[.int .i64 (fn : Int), .int .i64 (tn : Int), .string s] 45)) c g0) := by
        have h := S.out
        rw [hg0, hgw] at h
        exact h.but ((But.refl _ []).alloc _) (by simp) (by simp) (by simp)
      have O1 : Hid (OwnV edCells 3 45 (wr.alloc (.cells #[.int .i64 (fn : Int), .int .i64 (tn : Int), .string s] 45)) w.heap.size u8 (invI bl 0 (l.take i))) := OwnV.alloc O.out _
      have BW1 : Hid (Below w.heap.size w (wr.alloc (.cells #[.int .i64 (fn : Int), .int .i64 (tn : Int), .string s] 45))) := BW.out.alloc hsz _
      have hcw : w.heap.size ≤ c := by have := hown0.out; omega
      clear hx v0 v1 v2 hgs htl hgw hg0 ha hr0 O S BW HI hlt
      go_wp2_with fail
      refine (starts1_run fn tn s c g0 _ S1.out).mono ?_
      rw [HWa.out, HGn.out]
      rintro e w4 ⟨rfl, h4, b4⟩
      have k0 : w4.cell? ⟨wr.heap.size, 0, none⟩ = some (.int .i64 (fn : Int)) := (b4.cell (p := ⟨wr.heap.size, 0, none⟩) (by simp) (by simp; omega)).trans (by simp)
      have k1 : w4.cell? ⟨wr.heap.size, 1, none⟩ = some (.int .i64 (tn : Int)) := (b4.cell (p := ⟨wr.heap.size, 1, none⟩) (by simp) (by simp; omega)).trans (by simp)
      have k2 : w4.cell? ⟨wr.heap.size, 2, none⟩ = some (.string s) := (b4.cell (p := ⟨wr.heap.size, 2, none⟩) (by simp) (by simp; omega)).trans (by simp)
      have S4 := Lib.hid h4
      have O4 : Hid (OwnV edCells 3 45 w4 w.heap.size u8 (invI bl 0 (l.take i))) := ownsRow_but O1.out b4 fun g hg hm => by
        have := HOb.out g hg
        simp at hm
        omega
      have BW4 : Hid (Below w.heap.size w w4) := BW1.out.but b4 (by simp; omega) (by simp; omega)
      have hr4 : wr.heap.size < w4.heap.size := by have := b4.size; simp at this; omega
      have hc4 : c + 2 < w4.heap.size := S4.out.2.2.lt
      clear h4 b4 S1 O1 BW1 c0 c1 c2 hsz hsl3
      generalize hrr : wr.heap.size = hr at *
      have hownr := hownr0
      clear hownr0 hrr
      by_cases hcp : capb = fn
      · subst hcp
        have OA : Hid (OwnV edCells 3 45 ((w4.alloc (.cells #[.int .i64 a, .int .i64 (IntKind.i64.wrap (a + (s.size : Int))), .string r] 45)).drew) w.heap.size u8 (invI bl 0 (l.take i))) := OwnV.alloc O4.out _
        have NA : Hid (CellsV edCells ((w4.alloc (.cells #[.int .i64 a, .int .i64 (IntKind.i64.wrap (a + (s.size : Int))), .string r] 45)).drew) (w4.heap.size + 1) (some ⟨w4.heap.size, 0, none⟩) [⟨a, IntKind.i64.wrap (a + (s.size : Int)), r⟩]) := one_ed w4 _ _ _ _
        have BA : Hid (Below w.heap.size w ((w4.alloc (.cells #[.int .i64 a, .int .i64 (IntKind.i64.wrap (a + (s.size : Int))), .string r] 45)).drew)) := (BW4.out.alloc BW4.out.size _).drew
        have SA : Hid (StartsAt ((w4.alloc (.cells #[.int .i64 a, .int .i64 (IntKind.i64.wrap (a + (s.size : Int))), .string r] 45)).drew) c (Wr.w (growI (l.take (i + 1))))) := S4.out.below (((Below.refl _ w4).alloc (Nat.le_refl _) _).drew)
        have hsA : Hid (((w4.alloc (.cells #[.int .i64 a, .int .i64 (IntKind.i64.wrap (a + (s.size : Int))), .string r] 45)).drew).heap.size = w4.heap.size + 1) := by show _ = _; simp
        have KA : Hid (((w4.alloc (.cells #[.int .i64 a, .int .i64 (IntKind.i64.wrap (a + (s.size : Int))), .string r] 45)).drew).cell? ⟨hr, 0, none⟩ = some (.int .i64 (capb : Int)) ∧ ((w4.alloc (.cells #[.int .i64 a, .int .i64 (IntKind.i64.wrap (a + (s.size : Int))), .string r] 45)).drew).cell? ⟨hr, 1, none⟩ = some (.int .i64 (tn : Int)) ∧ ((w4.alloc (.cells #[.int .i64 a, .int .i64 (IntKind.i64.wrap (a + (s.size : Int))), .string r] 45)).drew).cell? ⟨hr, 2, none⟩ = some (.string s)) :=
          ⟨(World.cell?_alloc_lt w4 _ ⟨hr, 0, none⟩ hr4).trans k0, (World.cell?_alloc_lt w4 _ ⟨hr, 1, none⟩ hr4).trans k1, (World.cell?_alloc_lt w4 _ ⟨hr, 2, none⟩ hr4).trans k2⟩
        have hcva := HCv.out Ab (.inr (by omega)) w4.drew BW4.out.drew
        have hcvb : ∀ m, (convert 22 9 (.slice Ab 0 0)).run Tryd.prog (w4.drewN m) = .ok (.string r) (w4.drewN m) := fun m => by
          have h := HCv.out Ab (.inr (by omega)) (w4.drewN m) (below_drewN BW4.out m)
          rwa [show tn - capb = 0 by omega, Nat.sub_self] at h
        rw [show tn - capb = 0 by omega, Nat.sub_self] at hcva
        go_wp2_with fail
        go_region_held_law (fun W => W.cell? ⟨hr, 0, none⟩ = some (.int .i64 (capb : Int)) ∧ W.cell? ⟨hr, 1, none⟩ = some (.int .i64 (tn : Int)) ∧ W.cell? ⟨hr, 2, none⟩ = some (.string s)) (first | exact KV.out | exact KA.out | go_keep)
          (first | (refine step_appV ed_slice _ (by rfl) (.tmp 35) (.tmp 50) (by rfl) w.heap.size u8 _ (by rfl) OA.out (w4.heap.size + 1) (some ⟨w4.heap.size, 0, none⟩) 1 1 [⟨a, IntKind.i64.wrap (a + (s.size : Int)), r⟩] (by rfl) NA.out rfl hlen.out (by simp) BA.out.size ?_; intro v5 w5 o5 g5 t5; have BV : Hid (Below w.heap.size w w5) := BA.out.grown g5 BA.out.size (ownV_ge OA.out); have KV : Hid (w5.cell? ⟨hr, 0, none⟩ = some (.int .i64 (capb : Int)) ∧ w5.cell? ⟨hr, 1, none⟩ = some (.int .i64 (tn : Int)) ∧ w5.cell? ⟨hr, 2, none⟩ = some (.string s)) := ⟨(g5.cell_far ⟨hr, 0, none⟩ (by rw [hsA.out]; exact Nat.lt_succ_of_lt hr4) (fun e => absurd (hownr.out _ e.symm) (Nat.lt_irrefl _))).trans KA.out.1, (g5.cell_far ⟨hr, 1, none⟩ (by rw [hsA.out]; exact Nat.lt_succ_of_lt hr4) (fun e => absurd (hownr.out _ e.symm) (Nat.lt_irrefl _))).trans KA.out.2.1, (g5.cell_far ⟨hr, 2, none⟩ (by rw [hsA.out]; exact Nat.lt_succ_of_lt hr4) (fun e => absurd (hownr.out _ e.symm) (Nat.lt_irrefl _))).trans KA.out.2.2⟩; have SV : Hid (StartsAt w5 c (Wr.w (growI (l.take (i + 1))))) := SA.out.grown g5 HOb.out; have OV : Hid (OwnV edCells 3 45 w5 w.heap.size v5 (invI bl 0 (l.take i) ++ [⟨a, IntKind.i64.wrap (a + (s.size : Int)), r⟩])) := o5; have HOv : Hid (∀ g, v5.ownBlock = some g → g < c ∨ c + 3 ≤ g) := (fun g hg => t5.elim (fun h => HOb.out g (h ▸ hg)) (fun h => by rw [hsA.out] at h; have := Option.some.inj (h.symm.trans hg); omega)); clear o5 g5 t5) | fail)
        go_wp2_with fail
        go_roundg (n - i)
        case measure => exact HM.out.1
        case rel => exact ⟨i + 1, by go_num, HM.out.2, by rw [HX.out]; exact OV.out, SV.out, HOv.out, BV.out⟩
      · have hcp2 : ¬ capb = fn := hcp
        have OA : Hid (OwnV edCells 3 45 ((w4.alloc (.cells #[.int .i64 a, .int .i64 (IntKind.i64.wrap (a + (s.size : Int))), .string r] 45)).drew) w.heap.size u8 (invI bl 0 (l.take i))) := OwnV.alloc O4.out _
        have NA : Hid (CellsV edCells ((w4.alloc (.cells #[.int .i64 a, .int .i64 (IntKind.i64.wrap (a + (s.size : Int))), .string r] 45)).drew) (w4.heap.size + 1) (some ⟨w4.heap.size, 0, none⟩) [⟨a, IntKind.i64.wrap (a + (s.size : Int)), r⟩]) := one_ed w4 _ _ _ _
        have BA : Hid (Below w.heap.size w ((w4.alloc (.cells #[.int .i64 a, .int .i64 (IntKind.i64.wrap (a + (s.size : Int))), .string r] 45)).drew)) := (BW4.out.alloc BW4.out.size _).drew
        have SA : Hid (StartsAt ((w4.alloc (.cells #[.int .i64 a, .int .i64 (IntKind.i64.wrap (a + (s.size : Int))), .string r] 45)).drew) c (Wr.w (growI (l.take (i + 1))))) := S4.out.below (((Below.refl _ w4).alloc (Nat.le_refl _) _).drew)
        have hsA : Hid (((w4.alloc (.cells #[.int .i64 a, .int .i64 (IntKind.i64.wrap (a + (s.size : Int))), .string r] 45)).drew).heap.size = w4.heap.size + 1) := by show _ = _; simp
        have KA : Hid (((w4.alloc (.cells #[.int .i64 a, .int .i64 (IntKind.i64.wrap (a + (s.size : Int))), .string r] 45)).drew).cell? ⟨hr, 0, none⟩ = some (.int .i64 (fn : Int)) ∧ ((w4.alloc (.cells #[.int .i64 a, .int .i64 (IntKind.i64.wrap (a + (s.size : Int))), .string r] 45)).drew).cell? ⟨hr, 1, none⟩ = some (.int .i64 (tn : Int)) ∧ ((w4.alloc (.cells #[.int .i64 a, .int .i64 (IntKind.i64.wrap (a + (s.size : Int))), .string r] 45)).drew).cell? ⟨hr, 2, none⟩ = some (.string s)) :=
          ⟨(World.cell?_alloc_lt w4 _ ⟨hr, 0, none⟩ hr4).trans k0, (World.cell?_alloc_lt w4 _ ⟨hr, 1, none⟩ hr4).trans k1, (World.cell?_alloc_lt w4 _ ⟨hr, 2, none⟩ hr4).trans k2⟩
        have hcva := HCv.out _ (.inl rfl) w4.drew BW4.out.drew
        have hcvb := fun m => HCv.out _ (.inl rfl) (w4.drewN m) (below_drewN BW4.out m)
        go_wp2_with fail
        go_region_held_law (fun W => W.cell? ⟨hr, 0, none⟩ = some (.int .i64 (fn : Int)) ∧ W.cell? ⟨hr, 1, none⟩ = some (.int .i64 (tn : Int)) ∧ W.cell? ⟨hr, 2, none⟩ = some (.string s)) (first | exact KV.out | exact KA.out | go_keep)
          (first | (refine step_appV ed_slice _ (by rfl) (.tmp 35) (.tmp 50) (by rfl) w.heap.size u8 _ (by rfl) OA.out (w4.heap.size + 1) (some ⟨w4.heap.size, 0, none⟩) 1 1 [⟨a, IntKind.i64.wrap (a + (s.size : Int)), r⟩] (by rfl) NA.out rfl hlen.out (by simp) BA.out.size ?_; intro v5 w5 o5 g5 t5; have BV : Hid (Below w.heap.size w w5) := BA.out.grown g5 BA.out.size (ownV_ge OA.out); have KV : Hid (w5.cell? ⟨hr, 0, none⟩ = some (.int .i64 (fn : Int)) ∧ w5.cell? ⟨hr, 1, none⟩ = some (.int .i64 (tn : Int)) ∧ w5.cell? ⟨hr, 2, none⟩ = some (.string s)) := ⟨(g5.cell_far ⟨hr, 0, none⟩ (by rw [hsA.out]; exact Nat.lt_succ_of_lt hr4) (fun e => absurd (hownr.out _ e.symm) (Nat.lt_irrefl _))).trans KA.out.1, (g5.cell_far ⟨hr, 1, none⟩ (by rw [hsA.out]; exact Nat.lt_succ_of_lt hr4) (fun e => absurd (hownr.out _ e.symm) (Nat.lt_irrefl _))).trans KA.out.2.1, (g5.cell_far ⟨hr, 2, none⟩ (by rw [hsA.out]; exact Nat.lt_succ_of_lt hr4) (fun e => absurd (hownr.out _ e.symm) (Nat.lt_irrefl _))).trans KA.out.2.2⟩; have SV : Hid (StartsAt w5 c (Wr.w (growI (l.take (i + 1))))) := SA.out.grown g5 HOb.out; have OV : Hid (OwnV edCells 3 45 w5 w.heap.size v5 (invI bl 0 (l.take i) ++ [⟨a, IntKind.i64.wrap (a + (s.size : Int)), r⟩])) := o5; have HOv : Hid (∀ g, v5.ownBlock = some g → g < c ∨ c + 3 ≤ g) := (fun g hg => t5.elim (fun h => HOb.out g (h ▸ hg)) (fun h => by rw [hsA.out] at h; have := Option.some.inj (h.symm.trans hg); omega)); clear o5 g5 t5) | fail)
        go_wp2_with fail
        go_roundg (n - i)
        case measure => exact HM.out.1
        case rel => exact ⟨i + 1, by go_num, HM.out.2, by rw [HX.out]; exact OV.out, SV.out, HOv.out, BV.out⟩
    · have hltz : ¬ (i : Int) < (n : Int) := by omega
      have HE : Hid (invI bl 0 (l.take i) = invI bl 0 l) := by
        show _ = _
        rw [List.take_of_length_le (by have := hl.out; omega)]
      rw [HE.out] at O
      go_wp2_with fail
      go_ret2
      obtain ⟨A9, cap9, hv, h1, h2, h3⟩ := O.out.cells
      exact ⟨_, rfl, A9, cap9, hv, h1, h2, h3, BW.out⟩
end
end Go.Proofs.YtmkpomnhmepmcaaDoor
