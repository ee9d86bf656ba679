/-
  Stage 7: numbers of eight words as values, and as cells of memory; the words' sums and differences with a carry (math/bits.Add64, Sub64) at this program.
-/
import Derived.Test.YtbcnpajdmlbieaaDoorLmMath
import Derived.Test.YtbcnpajdmlbieaaDoorShelf
import Derived.Sort.Grow
import Derived.Deep.RegionWith
import Derived.Deep.RegionHeld
import Derived.Laws.IdiomCopy
namespace Go.Proofs.YtbcnpajdmlbieaaDoor
open Go.RowKit Go.Sort

/-- The word i of n. -/
def wd (n i : Nat) : Nat := dig 18446744073709551616 n i
theorem wd_lt (n i : Nat) : wd n i < 18446744073709551616 := dig_lt (by decide) n i
/-- A number's eight words as an array. -/
def wordsV (n : Nat) : Value := .agg #[.int .u64 (wd n 0 : Int), .int .u64 (wd n 1 : Int), .int .u64 (wd n 2 : Int), .int .u64 (wd n 3 : Int), .int .u64 (wd n 4 : Int), .int .u64 (wd n 5 : Int), .int .u64 (wd n 6 : Int), .int .u64 (wd n 7 : Int)]
/-- What fits eight words. -/
def Fits (n : Nat) : Prop := n < 18446744073709551616 ^ 8
/-- The words that f tells, from the first to that before the k-th, in the cells at o of block b. -/
def WordsF (w : World) (b o : Nat) (f : Nat → Nat) (k : Nat) : Prop := ∀ i, i < k → w.cell? ⟨b, o + i, none⟩ = some (.int .u64 (f i : Int)) ∧ w.frozen? ⟨b, o + i, none⟩ = false
/-- The words of n, from the first to that before the k-th, in the cells at o of block b. -/
abbrev WordsAt (w : World) (b o n k : Nat) : Prop := WordsF w b o (wd n) k
theorem WordsF.keep {w w' : World} {b o k B : Nat} {f : Nat → Nat} (h : WordsF w b o f k) (hb : Below B w w') (hB : b < B) : WordsF w' b o f k := fun i hi =>
  ⟨(hb.cell (p := ⟨b, o + i, none⟩) hB).trans (h i hi).1, (hb.frozen (p := ⟨b, o + i, none⟩) hB).trans (h i hi).2⟩
def updF (f : Nat → Nat) (i v : Nat) : Nat → Nat := fun j => if j = i then v else f j
theorem updF_same (f : Nat → Nat) (i v : Nat) : updF f i v i = v := if_pos rfl
theorem updF_other {f : Nat → Nat} {i v j : Nat} (h : j ≠ i) : updF f i v j = f j := if_neg h
theorem WordsF.upd {w : World} {b o k : Nat} {f : Nat → Nat} (h : WordsF w b o f k) {i : Nat} (hi : i < k) (v : Nat) : WordsF (w.setCell ⟨b, o + i, none⟩ (.int .u64 (v : Int))) b o (updF f i v) k := fun j hj => by
  refine ⟨?_, by rw [World.frozen?_setCell]; exact (h j hj).2⟩
  by_cases e : j = i
  · subst e
    rw [updF_same]
    exact World.cell?_setCell_same _ _ _ (h j hj).1
  · rw [updF_other e]
    exact (World.cell?_setCell_other _ _ _ _ (fun e' => by injection e' with e1 e2 e3; omega)).trans (h j hj).1
theorem WordsF.ext {w : World} {b o k : Nat} {f g : Nat → Nat} (h : WordsF w b o f k) (e : ∀ i, i < k → f i = g i) : WordsF w b o g k := fun i hi => by rw [← e i hi]; exact h i hi
theorem WordsF.drewN {w : World} {b o k : Nat} {f : Nat → Nat} (h : WordsF w b o f k) (n : Nat) : WordsF (w.drewN n) b o f k := h
theorem WordsF.sub {w : World} {b o k : Nat} {f : Nat → Nat} (h : WordsF w b o f k) (i m : Nat) (hm : i + m ≤ k) : WordsF w b (o + i) (fun j => f (i + j)) m := fun j hj => by
  have := h (i + j) (by omega)
  rwa [← Nat.add_assoc] at this
theorem WordsAt.new (w : World) (n : Nat) (T : TypeId) : WordsAt (w.alloc (.cells #[.int .u64 (wd n 0 : Int), .int .u64 (wd n 1 : Int), .int .u64 (wd n 2 : Int), .int .u64 (wd n 3 : Int), .int .u64 (wd n 4 : Int), .int .u64 (wd n 5 : Int), .int .u64 (wd n 6 : Int), .int .u64 (wd n 7 : Int)] T)) w.heap.size 0 n 8 := by
  intro i hi
  rcases i with _ | _ | _ | _ | _ | _ | _ | _ | i
  all_goals first | exact ⟨World.cell?_alloc_at _ _ _ _ rfl, World.frozen?_alloc_at _ _ _ _ rfl⟩ | omega
theorem wd_zero (i : Nat) : wd 0 i = 0 := dig_zero _ i
theorem WordsAt.zero (w : World) (T : TypeId) : WordsAt (w.alloc (.cells #[.int .u64 0, .int .u64 0, .int .u64 0, .int .u64 0, .int .u64 0, .int .u64 0, .int .u64 0, .int .u64 0] T)) w.heap.size 0 0 8 := by
  have := WordsAt.new w 0 T
  simpa only [wd_zero, Int.natCast_zero] using this
/-- The box of a number's words, and one of zeros. -/
abbrev boxO (n : Nat) (T : TypeId) : Obj := .cells #[.int .u64 (wd n 0 : Int), .int .u64 (wd n 1 : Int), .int .u64 (wd n 2 : Int), .int .u64 (wd n 3 : Int), .int .u64 (wd n 4 : Int), .int .u64 (wd n 5 : Int), .int .u64 (wd n 6 : Int), .int .u64 (wd n 7 : Int)] T
abbrev boxZ (T : TypeId) : Obj := .cells #[.int .u64 0, .int .u64 0, .int .u64 0, .int .u64 0, .int .u64 0, .int .u64 0, .int .u64 0, .int .u64 0] T
theorem below_alloc (w : World) (o : Obj) : Below w.heap.size w (w.alloc o) := (Below.refl _ _).alloc (Nat.le_refl _) o
theorem _root_.Go.RowKit.Below.drewN {B : Nat} {a w : World} (h : Below B a w) (n : Nat) : Below B a (w.drewN n) := ⟨h.os, h.tape, h.output, h.size, h.block⟩
theorem WordsF.alloc {w : World} {b o k : Nat} {f : Nat → Nat} (h : WordsF w b o f k) (hb : b < w.heap.size) (x : Obj) : WordsF (w.alloc x) b o f k := h.keep (below_alloc w x) hb
theorem WordsF.set {w : World} {b o k : Nat} {f : Nat → Nat} (h : WordsF w b o f k) (p : Addr) (v : Value) (hp : p.block ≠ b) : WordsF (w.setCell p v) b o f k := fun i hi =>
  ⟨(World.cell?_setCell_other _ _ _ _ (fun e => hp (congrArg Addr.block e))).trans (h i hi).1, by rw [World.frozen?_setCell]; exact (h i hi).2⟩
/-- Of all blocks but b nothing has turned. -/
def But1 (w w' : World) (b : Nat) : Prop := (∀ x : Addr, x.block ≠ b → w'.cell? x = w.cell? x ∧ w'.frozen? x = w.frozen? x) ∧ (∀ B w0, B ≤ b → Below B w0 w → Below B w0 w') ∧ w'.heap.size = w.heap.size
theorem WordsF.but {w w' : World} {b c o k : Nat} {f : Nat → Nat} (h : WordsF w b o f k) (hw : But1 w w' c) (hne : b ≠ c) : WordsF w' b o f k := fun i hi =>
  ⟨(hw.1 ⟨b, o + i, none⟩ hne).1.trans (h i hi).1, (hw.1 ⟨b, o + i, none⟩ hne).2.trans (h i hi).2⟩
theorem But1.setCell (w : World) (b o : Nat) (v : Value) : But1 w (w.setCell ⟨b, o, none⟩ v) b :=
  ⟨fun _ hx => ⟨World.cell?_setCell_other _ _ _ _ (fun e => hx (by rw [← e])), by rw [World.frozen?_setCell]⟩, fun _ _ hB h => h.setCell (p := ⟨b, o, none⟩) hB _, by simp⟩
theorem But1.trans {u v w : World} {b : Nat} (h : But1 u v b) (k : But1 v w b) : But1 u w b :=
  ⟨fun x hx => ⟨(k.1 x hx).1.trans (h.1 x hx).1, (k.1 x hx).2.trans (h.1 x hx).2⟩, fun B w0 hB hb => k.2.1 B w0 hB (h.2.1 B w0 hB hb), k.2.2.trans h.2.2⟩
theorem But1.refl (w : World) (b : Nat) : But1 w w b := ⟨fun _ _ => ⟨rfl, rfl⟩, fun _ _ _ h => h, rfl⟩
theorem But1.drew {w w' : World} {b : Nat} (h : But1 w w' b) : But1 w w'.drew b := ⟨h.1, fun B w0 hB hb => (h.2.1 B w0 hB hb).drew, h.2.2⟩
theorem But1.of_drew {w w' : World} {b : Nat} (h : But1 w.drew w' b) : But1 w w' b := ⟨h.1, fun B w0 hB hb => h.2.1 B w0 hB hb.drew, h.2.2⟩
theorem But1.setCells (b : Nat) : ∀ (vs : List Value) (o : Nat) (w : World), But1 w (w.setCells b o vs) b
  | [], _, w => But1.refl w b
  | v :: r, o, w => (But1.setCell w b o v).trans (But1.setCells b r (o + 1) _)
/-- 'copy' of words: all are read before any is written. -/
theorem copy_words (w : World) (b o c p kd ks kc kc2 : Nat) (f g : Nat → Nat) (hd : WordsF w b o f kd) (hs : WordsF w c p g ks) (m : Nat) (hm : Nat.min ks kd = m) :
    ∃ wc, (Builtin.copy_ #[78, 78] 3 #[.slice (some ⟨b, o, none⟩) kd kc, .slice (some ⟨c, p, none⟩) ks kc2]).run Tryd.prog w = .ok (.int .i64 (m : Int)) wc ∧ WordsF wc b o (fun j => if j < m then g j else f j) kd ∧ But1 w wc b := by
  have hmk : m ≤ kd ∧ m ≤ ks := by rw [← hm]; exact ⟨Nat.min_le_right _ _, Nat.min_le_left _ _⟩
  have hlen : ((List.range m).map fun j => Value.int .u64 (g j : Int)).length = m := by simp
  have hsrc : ∀ j v, ((List.range m).map fun j => Value.int .u64 (g j : Int))[j]? = some v → w.cell? ((⟨c, p, none⟩ : Addr).add j) = some v := fun j v hv => by
    rw [List.getElem?_map] at hv
    obtain ⟨x, hx, rfl⟩ := Option.map_eq_some_iff.1 hv
    obtain ⟨hj, rfl⟩ := List.getElem?_eq_some_iff.1 hx
    have hjm : j < m := by simpa using hj
    have hadd : (⟨c, p, none⟩ : Addr).add j = ⟨c, p + j, none⟩ := by unfold Addr.add; split <;> simp_all
    simp only [List.getElem_range, hadd]
    exact (hs j (by omega)).1
  have hone : ∀ v ∈ (List.range m).map fun j => Value.int .u64 (g j : Int), v.oneCell' = true := fun v hv => by
    obtain ⟨x, _, rfl⟩ := List.mem_map.1 hv
    rfl
  have hrun := run_copy_cells (P := Tryd.prog) w 78 78 3 22 b o kd kc ⟨c, p, none⟩ ks kc2 ((List.range m).map fun j => Value.int .u64 (g j : Int)) (by kernel_rfl) (by kernel_rfl) (hlen.trans hm.symm) hsrc (fun j hj => by rw [(hd j (by omega)).1]; rfl) (fun j hj => (hd j (by omega)).2) hone
  refine ⟨w.setCells b o ((List.range m).map fun j => Value.int .u64 (g j : Int)), hrun.trans ?_, fun j hj => ⟨?_, ?_⟩, But1.setCells b _ o w⟩
  · rw [hlen]; rfl
  · by_cases h : j < m
    · simp only [if_pos h]
      rw [World.cell?_setCells_in b _ o w (fun i hi => by rw [(hd i (by omega)).1]; rfl) j (by omega)]
      simp
    · simp only [if_neg h]
      rw [World.cell?_setCells_out b _ o w _ (fun _ _ => Or.inr (by show o + _ ≤ o + j; omega))]
      exact (hd j hj).1
  · rw [World.frozen?_setCells]
    exact (hd j hj).2
/-- The same where a part of a block is written, told of the whole block. -/
theorem copy_into (w : World) (b o q c p K kd ks kc kc2 : Nat) (f g : Nat → Nat) (hd : WordsF w b o f K) (hq : q + kd ≤ K) (hs : WordsF w c p g ks) (m : Nat) (hm : Nat.min ks kd = m) :
    ∃ wc, (Builtin.copy_ #[78, 78] 3 #[.slice (some ⟨b, o + q, none⟩) kd kc, .slice (some ⟨c, p, none⟩) ks kc2]).run Tryd.prog w = .ok (.int .i64 (m : Int)) wc ∧ WordsF wc b o (fun t => if q ≤ t ∧ t < q + m then g (t - q) else f t) K ∧ But1 w wc b := by
  have hmk : m ≤ kd ∧ m ≤ ks := by rw [← hm]; exact ⟨Nat.min_le_right _ _, Nat.min_le_left _ _⟩
  have hlen : ((List.range m).map fun j => Value.int .u64 (g j : Int)).length = m := by simp
  have hdq := hd.sub q kd hq
  have hsrc : ∀ j v, ((List.range m).map fun j => Value.int .u64 (g j : Int))[j]? = some v → w.cell? ((⟨c, p, none⟩ : Addr).add j) = some v := fun j v hv => by
    rw [List.getElem?_map] at hv
    obtain ⟨x, hx, rfl⟩ := Option.map_eq_some_iff.1 hv
    obtain ⟨hj, rfl⟩ := List.getElem?_eq_some_iff.1 hx
    have hjm : j < m := by simpa using hj
    have hadd : (⟨c, p, none⟩ : Addr).add j = ⟨c, p + j, none⟩ := by unfold Addr.add; split <;> simp_all
    simp only [List.getElem_range, hadd]
    exact (hs j (by omega)).1
  have hone : ∀ v ∈ (List.range m).map fun j => Value.int .u64 (g j : Int), v.oneCell' = true := fun v hv => by
    obtain ⟨x, _, rfl⟩ := List.mem_map.1 hv
    rfl
  have hrun := run_copy_cells (P := Tryd.prog) w 78 78 3 22 b (o + q) kd kc ⟨c, p, none⟩ ks kc2 ((List.range m).map fun j => Value.int .u64 (g j : Int)) (by kernel_rfl) (by kernel_rfl) (hlen.trans hm.symm) hsrc (fun j hj => by rw [(hdq j (by omega)).1]; rfl) (fun j hj => (hdq j (by omega)).2) hone
  refine ⟨w.setCells b (o + q) ((List.range m).map fun j => Value.int .u64 (g j : Int)), hrun.trans ?_, fun t ht => ⟨?_, ?_⟩, But1.setCells b _ _ w⟩
  · rw [hlen]; rfl
  · by_cases h : q ≤ t ∧ t < q + m
    · simp only [if_pos h]
      obtain ⟨j, rfl⟩ : ∃ j, t = q + j := ⟨t - q, by omega⟩
      rw [← Nat.add_assoc, World.cell?_setCells_in b _ (o + q) w (fun i hi => by rw [(hdq i (by omega)).1]; rfl) j (by omega)]
      simp
    · simp only [if_neg h]
      rw [World.cell?_setCells_out b _ (o + q) w _ (fun _ _ => by show o + t < o + q ∨ o + q + _ ≤ o + t; omega)]
      exact (hd t ht).1
  · rw [World.frozen?_setCells]
    exact (hd t ht).2
/-- The entry of Add64, and that of Sub64, over natural numbers. -/
theorem add64_run (x y c : Nat) (hc : c ≤ 1) (w : World) : (callFunc 43 #[.int .u64 (x : Int), .int .u64 (y : Int), .int .u64 (c : Int)]).run Tryd.prog w =
    .ok (.value (.tuple #[.int .u64 (((x + y + c) % 18446744073709551616 : Nat) : Int), .int .u64 (((x + y + c) / 18446744073709551616 : Nat) : Int)])) w := Any7.bits_Add64 Tryd.lays25 x y c hc w
def bor (x y b : Nat) : Nat := if x < y + b then 1 else 0
theorem sub64_run (x y b : Nat) (hb : b ≤ 1) (w : World) : (callFunc 54 #[.int .u64 (x : Int), .int .u64 (y : Int), .int .u64 (b : Int)]).run Tryd.prog w =
    .ok (.value (.tuple #[.int .u64 (((x + 18446744073709551616 - y - b) % 18446744073709551616 : Nat) : Int), .int .u64 (bor x y b : Int)])) w := Any7.bits_Sub64 Tryd.lays26 x y b hb w
def cmpN (x y : Nat) : Int := if x < y then -1 else if y < x then 1 else 0
set_option maxHeartbeats 2000000 in
theorem cmpU_run (x y : Nat) (w : World) : Calls Tryd.prog 40 #[.int .u64 (x : Int), .int .u64 (y : Int)] w fun e w' => e = .returned (.int .i64 (cmpN x y)) ∧ w = w' := by
  have hx : ((x : Int) != (x : Int)) = false := by simp
  have hy : ((y : Int) != (y : Int)) = false := by simp
  unfold cmpN
  by_cases h1 : x < y
  · rw [if_pos h1]
    have h1z : (x : Int) < (y : Int) := by omega
    go_enter Tryd.func40, Tryd.ntmps40
    go_wp2
    go_ret
    exact ⟨rfl, rfl⟩
  · rw [if_neg h1]
    have h1z : ¬ (x : Int) < (y : Int) := by omega
    by_cases h2 : y < x
    · rw [if_pos h2]
      have h2z : (y : Int) < (x : Int) := by omega
      go_enter Tryd.func40, Tryd.ntmps40
      go_wp2
      go_ret
      exact ⟨rfl, rfl⟩
    · rw [if_neg h2]
      have h2z : ¬ (y : Int) < (x : Int) := by omega
      go_enter Tryd.func40, Tryd.ntmps40
      go_wp2
      go_ret
      exact ⟨rfl, rfl⟩
end Go.Proofs.YtbcnpajdmlbieaaDoor
