/-
  The closures of package edit by their contracts: the sum of the growth, and where the text of an edit starts.
-/
import Derived.Test.YtmkpomnhmepmcaaDoorEdBase
import Derived.Laws.EntriesVeiled
namespace Go.Proofs.YtmkpomnhmepmcaaDoor
open Go.RowKit

/-- Of the blocks that were there only those of bs may have turned. -/
structure But (w w' : World) (bs : List Nat) : Prop where
  os : w'.os = w.os
  tape : w'.tape = w.tape
  output : w'.output = w.output
  size : w.heap.size ≤ w'.heap.size
  block : ∀ k, k < w.heap.size → k ∉ bs → w'.heap[k]? = w.heap[k]?
theorem But.refl (w : World) (bs : List Nat) : But w w bs := ⟨rfl, rfl, rfl, Nat.le_refl _, fun _ _ _ => rfl⟩
theorem But.trans {a b c : World} {bs : List Nat} (h : But a b bs) (k : But b c bs) : But a c bs :=
  ⟨k.os.trans h.os, k.tape.trans h.tape, k.output.trans h.output, Nat.le_trans h.size k.size, fun i hi hn => (k.block i (Nat.lt_of_lt_of_le hi h.size) hn).trans (h.block i hi hn)⟩
theorem But.more {w w' : World} {bs cs : List Nat} (h : But w w' bs) (hs : ∀ b ∈ bs, b ∈ cs) : But w w' cs := ⟨h.os, h.tape, h.output, h.size, fun k hk hn => h.block k hk fun hb => hn (hs k hb)⟩
theorem But.alloc {a w : World} {bs : List Nat} (h : But a w bs) (o : Obj) : But a (w.alloc o) bs :=
  h.trans ⟨rfl, rfl, rfl, by simp, fun k hk _ => Below.heap_alloc _ _ _ hk⟩
theorem But.setCell {a w : World} {bs : List Nat} (h : But a w bs) {p : Addr} (hp : p.block ∈ bs) (u : Value) : But a (w.setCell p u) bs :=
  h.trans ⟨rfl, rfl, rfl, by simp [World.setCell], fun k _ hn => Below.heap_setCell _ _ _ _ fun e => hn (e ▸ hp)⟩
theorem _root_.Go.RowKit.Below.but {B : Nat} {a w w' : World} {bs : List Nat} (h : Below B a w) (k : But w w' bs) (hb : ∀ b ∈ bs, B ≤ b) (hs : B ≤ w.heap.size) : Below B a w' :=
  h.trans ⟨k.os, k.tape, k.output, k.size, fun i hi => k.block i (by omega) fun hm => by have := hb i hm; omega⟩
theorem But.of_below {w w' : World} {bs : List Nat} (h : Below w.heap.size w w') : But w w' bs := ⟨h.os, h.tape, h.output, h.size, fun k hk _ => h.block k hk⟩
theorem But.below {w w' : World} (h : But w w' []) : Below w.heap.size w w' := ⟨h.os, h.tape, h.output, h.size, fun k hk => h.block k hk (by simp)⟩
theorem But.cell {w w' : World} {bs : List Nat} (h : But w w' bs) {p : Addr} (hp : p.block < w.heap.size) (hn : p.block ∉ bs) : w'.cell? p = w.cell? p := World.cell?_of_block (w := w) (h.block _ hp hn)
theorem But.frozen {w w' : World} {bs : List Nat} (h : But w w' bs) {p : Addr} (hp : p.block < w.heap.size) (hn : p.block ∉ bs) : w'.frozen? p = w.frozen? p := World.frozen?_of_block (w := w) (h.block _ hp hn)
theorem ownsRow_but {w w' : World} {base : Nat} {e : TypeId} {size : Nat} {v : Value} {n : Nat} {xs : List Value} {bs : List Nat} (h : w.ownsRow base e size v n xs) (k : But w w' bs) (hn : ∀ g, v.ownBlock = some g → g ∉ bs) : w'.ownsRow base e size v n xs := by
  obtain ⟨h1, h2⟩ := h
  refine ⟨h1, ?_⟩
  rcases h2 with h2 | ⟨g, cap, cur, hv, hg, hh, r⟩
  · exact .inl h2
  · refine .inr ⟨g, cap, cur, hv, hg, ?_, r⟩
    rw [k.block g (Array.getElem?_eq_some_iff.1 hh).1 (hn g (by rw [hv]; rfl))]
    exact hh
/-- The variable in block b is v. -/
def VarAt (w : World) (b : Nat) (v : Value) : Prop := w.cell? ⟨b, 0, none⟩ = some v ∧ w.frozen? ⟨b, 0, none⟩ = false
theorem VarAt.lt {w : World} {b : Nat} {v : Value} (h : VarAt w b v) : b < w.heap.size := by
  rcases Nat.lt_or_ge b w.heap.size with h1 | h1
  · exact h1
  · have := h.1
    simp [World.cell?, Array.getElem?_eq_none h1] at this
theorem VarAt.but {w w' : World} {b : Nat} {v : Value} {bs : List Nat} (h : VarAt w b v) (k : But w w' bs) (hn : b ∉ bs) : VarAt w' b v :=
  ⟨(k.cell (p := ⟨b, 0, none⟩) h.lt hn).trans h.1, (k.frozen (p := ⟨b, 0, none⟩) h.lt hn).trans h.2⟩
theorem VarAt.new (w : World) (v : Value) (T : TypeId) : VarAt (w.alloc (.cells #[v] T)) w.heap.size v := ⟨by simp, by simp⟩
theorem VarAt.below {w w' : World} {b : Nat} {v : Value} (h : VarAt w b v) (k : Below w.heap.size w w') : VarAt w' b v := h.but (bs := []) (But.of_below k) (by simp)
/-- By how much an edit makes a file longer. -/
def dgI (f t : Int) (s : ByteArray) : Int := (s.size : Int) - (t - f)
theorem hmf : ∀ (fn : Fn) (first cap : Array Value) (w : World), (Instr.makeFunc fn first cap).run Tryd.prog w = .ok (.func fn first cap) w := fun _ _ _ _ => rfl
/-- The function that 'growth' hands back, its sum in block b. -/
def growF (b : Nat) : Value := .func (.func 42) #[] #[.pointer (some ⟨b, 0, none⟩)]
set_option maxHeartbeats 400000 in
theorem growth_run (w : World) : Calls Tryd.prog 30 #[] w fun e w' => e = .returned (growF w.heap.size) ∧ w' = w.alloc (.cells #[.int .i64 0] 3) := by
  have h := hmf
  go_enter Tryd.func30, Tryd.ntmps30
  go_wp2
  go_ret
  exact ⟨rfl, rfl⟩
set_option maxHeartbeats 1000000 in
theorem growth1_run (f t : Int) (s : ByteArray) (b : Nat) (v : Int) (w : World) (h : VarAt w b (.int .i64 v)) :
    Calls Tryd.prog 42 #[.agg #[.int .i64 f, .int .i64 t, .string s], .pointer (some ⟨b, 0, none⟩)] w fun e w' => e = .returned (.int .i64 (Wr.w (v + dgI f t s))) ∧ VarAt w' b (.int .i64 (Wr.w (v + dgI f t s))) ∧ But w w' [b] := by
  have hlt := h.lt
  obtain ⟨h0, h1⟩ := h
  go_enter Tryd.func42, Tryd.ntmps42
  go_wp2
  go_ret
  have e : wrap64 (v + wrap64 ((s.size : Int) - wrap64 (t - f))) = Wr.w (v + dgI f t s) := by
    simp only [Wr.w_wrap64, Wr.sub_r, Wr.add_r, dgI]
  rw [← e]
  refine ⟨rfl, ⟨?_, ?_⟩, (((But.refl w [b]).setCell (p := ⟨b, 0, none⟩) (by simp) _).alloc _)⟩
  · rw [World.cell?_alloc_lt _ _ ⟨b, 0, none⟩ (by simpa using hlt)]
    exact World.cell?_setCell_same' _ _ _ (by rw [h0]; rfl)
  · rw [World.frozen?_alloc_old _ _ ⟨b, 0, none⟩ (by show b ≠ _; simp; omega)]
    simpa using h1
/-- The function that 'starts' hands back: its two variables. -/
def startF (b : Nat) : Value := .func (.func 41) #[] #[.pointer (some ⟨b + 2, 0, none⟩), .pointer (some ⟨b + 1, 0, none⟩)]
/-- The variables of 'starts', in the blocks from b on: z is the growth so far. -/
def StartsAt (w : World) (b : Nat) (z : Int) : Prop := VarAt w b (.int .i64 z) ∧ VarAt w (b + 1) (growF b) ∧ VarAt w (b + 2) (.int .i64 z)
theorem StartsAt.but {w w' : World} {b : Nat} {z : Int} {bs : List Nat} (h : StartsAt w b z) (k : But w w' bs) (h0 : b ∉ bs) (h1 : b + 1 ∉ bs) (h2 : b + 2 ∉ bs) : StartsAt w' b z := ⟨h.1.but k h0, h.2.1.but k h1, h.2.2.but k h2⟩
theorem StartsAt.below {w w' : World} {b : Nat} {z : Int} (h : StartsAt w b z) (k : Below w.heap.size w w') : StartsAt w' b z := h.but (bs := []) (But.of_below k) (by simp) (by simp) (by simp)
theorem VarAt.alloc {w : World} {b : Nat} {v : Value} (h : VarAt w b v) (o : Obj) : VarAt (w.alloc o) b v := h.but ((But.refl w []).alloc o) (by simp)
theorem VarAt.set {w : World} {b : Nat} {v : Value} (h : VarAt w b v) (u : Value) : VarAt (w.setCell ⟨b, 0, none⟩ u) b u := ⟨World.cell?_setCell_same' _ _ _ (by rw [h.1]; rfl), by simpa using h.2⟩
set_option maxHeartbeats 1000000 in
theorem starts_run (w : World) : Calls Tryd.prog 29 #[] w fun e w' => e = .returned (startF w.heap.size) ∧ StartsAt w' w.heap.size 0 ∧ w'.heap.size = w.heap.size + 3 ∧ Below w.heap.size w w' := by
  have h := hmf
  go_enter Tryd.func29, Tryd.ntmps29
  go_wp2_with (go_at_call 30; refine (growth_run _).mono ?_; unfold growF; rintro e w1 ⟨rfl, rfl⟩)
  go_ret
  refine ⟨rfl, ⟨?_, ?_, ?_⟩, by simp, ?_⟩
  · exact ((VarAt.new w (.int .i64 0) 3).alloc _).alloc _
  · have h1 := (VarAt.new (w.alloc (.cells #[.int .i64 0] 3)) (growF w.heap.size) 57).alloc (.cells #[.int .i64 0] 3)
    simp at h1
    exact h1
  · have h1 := VarAt.new ((w.alloc (.cells #[.int .i64 0] 3)).alloc (.cells #[growF w.heap.size] 57)) (.int .i64 0) 3
    simp at h1
    exact h1
  · exact (((Below.refl _ _).alloc (Nat.le_refl _) _).alloc (by simp) _).alloc (by simp; omega) _
set_option maxHeartbeats 1000000 in
theorem starts1_run (f t : Int) (s : ByteArray) (b : Nat) (z : Int) (w : World) (h : StartsAt w b z) :
    Calls Tryd.prog 41 #[.agg #[.int .i64 f, .int .i64 t, .string s], .pointer (some ⟨b + 2, 0, none⟩), .pointer (some ⟨b + 1, 0, none⟩)] w fun e w' => e = .returned (.int .i64 (Wr.w (f + z))) ∧ StartsAt w' b (Wr.w (z + dgI f t s)) ∧ But w w' [b, b + 2] := by
  have V0 := Lib.hid (h.1.alloc (.cells #[.int .i64 f, .int .i64 t, .string s] 45))
  have V1 := Lib.hid (h.2.1.alloc (.cells #[.int .i64 f, .int .i64 t, .string s] 45))
  have V2 := Lib.hid (h.2.2.alloc (.cells #[.int .i64 f, .int .i64 t, .string s] 45))
  have B1 : Hid (But w (w.alloc (.cells #[.int .i64 f, .int .i64 t, .string s] 45)) [b, b + 2]) := (But.refl _ _).alloc _
  have l1 := h.2.1.lt
  have l2 := h.2.2.lt
  have c1 := h.2.1.1
  have c2 := h.2.2.1
  clear h
  unfold growF at c1
  go_enter Tryd.func41, Tryd.ntmps41
  go_wp2_with (go_at_call 42; refine (growth1_run f t s b z _ V0.out).mono ?_; rintro e w1 ⟨rfl, hv, hb⟩; have U2 := Lib.hid (V2.out.but hb (by simp)); have d1 := U2.out.1; have d2 := U2.out.2; have HV := Lib.hid hv; have HB := Lib.hid hb; clear hv hb)
  go_ret
  refine ⟨?_, ⟨?_, ?_, ?_⟩, ?_⟩
  · show Ending.returned (.int .i64 (wrap64 (f + z))) = _
    rw [Wr.w_wrap64]
  · exact HV.out.but ((But.refl w1 [b + 2]).setCell (p := ⟨b + 2, 0, none⟩) (by simp) _) (by simp)
  · exact (V1.out.but HB.out (by simp)).but ((But.refl w1 [b + 2]).setCell (p := ⟨b + 2, 0, none⟩) (by simp) _) (by simp)
  · exact U2.out.set _
  · exact (B1.out.trans (HB.out.more (by simp))).setCell (p := ⟨b + 2, 0, none⟩) (by simp) _
end Go.Proofs.YtmkpomnhmepmcaaDoor
