/-
  Stage 7: numbers of eight words as values, and as cells of memory; the words' sums and differences with a carry (math/bits.Add64, Sub64) at this program.
-/
import Derived.Test.YtgkhjeefcflmcaaGreatDoorMt01
import Derived.Test.YtgkhjeefcflmcaaGreatDoorMt02
import Derived.Sort.Grow
import Derived.Deep.RegionWith
import Derived.Deep.RegionHeld
import Derived.Laws.IdiomCopy
import Derived.Laws.ResultCell
import Derived.Test.YtgkhjeefcflmcaaGreatDoorMt00
import Derived.Maps.AppendAt
import Derived.Deep.AppendLies
import Derived.Laws.OwnMore
import Derived.OneCell
namespace Go.Proofs.YtgkhjeefcflmcaaGreatDoor
open Go.RowKit Go.Sort
def wd (n i : Nat) : Nat := dig 18446744073709551616 n i
theorem wd_lt (n i : Nat) : wd n i < 18446744073709551616 := dig_lt (by decide) n i
def wordsV (n : Nat) : Value := .agg #[.int .u64 (wd n 0 : Int), .int .u64 (wd n 1 : Int), .int .u64 (wd n 2 : Int), .int .u64 (wd n 3 : Int), .int .u64 (wd n 4 : Int), .int .u64 (wd n 5 : Int), .int .u64 (wd n 6 : Int), .int .u64 (wd n 7 : Int)]
def Fits (n : Nat) : Prop := n < 18446744073709551616 ^ 8
def WordsF (w : World) (b o : Nat) (f : Nat → Nat) (k : Nat) : Prop := ∀ i, i < k → w.cell? ⟨b, o + i, none⟩ = some (.int .u64 (f i : Int)) ∧ w.frozen? ⟨b, o + i, none⟩ = false
abbrev WordsAt (w : World) (b o n k : Nat) : Prop := WordsF w b o (wd n) k
theorem WordsF.keep {w w' : World} {b o k B : Nat} {f : Nat → Nat} (h : WordsF w b o f k) (hb : Below B w w') (hB : b < B) : WordsF w' b o f k := fun i hi =>
 ⟨(hb.cell (p := ⟨b, o + i, none⟩) hB).trans (h i hi).1, (hb.frozen (p := ⟨b, o + i, none⟩) hB).trans (h i hi).2⟩
def updF (f : Nat → Nat) (i v : Nat) : Nat → Nat := fun j => if j = i then v else f j
theorem updF_same (f : Nat → Nat) (i v : Nat) : updF f i v i = v := if_pos rfl
theorem updF_other {f : Nat → Nat} {i v j : Nat} (h : j ≠ i) : updF f i v j = f j := if_neg h
theorem WordsF.upd {w : World} {b o k : Nat} {f : Nat → Nat} (h : WordsF w b o f k) {i : Nat} (hi : i < k) (v : Nat) : WordsF (w.setCell ⟨b, o + i, none⟩ (.int .u64 (v : Int))) b o (updF f i v) k := fun j hj => by
 refine ⟨?_, by rw [World.frozen?_setCell]; exact (h j hj).2⟩
 by_cases e : j = i
 ·subst e
  rw [updF_same]
  exact World.cell?_setCell_same _ _ _ (h j hj).1
 ·rw [updF_other e]
  exact (World.cell?_setCell_other _ _ _ _ (fun e' => by injection e' with e1 e2 e3; omega)).trans (h j hj).1
theorem WordsF.ext {w : World} {b o k : Nat} {f g : Nat → Nat} (h : WordsF w b o f k) (e : ∀ i, i < k → f i = g i) : WordsF w b o g k := fun i hi => by rw [← e i hi]; exact h i hi
theorem WordsF.drewN {w : World} {b o k : Nat} {f : Nat → Nat} (h : WordsF w b o f k) (n : Nat) : WordsF (w.drewN n) b o f k := h
theorem WordsF.sub {w : World} {b o k : Nat} {f : Nat → Nat} (h : WordsF w b o f k) (i m : Nat) (hm : i + m ≤ k) : WordsF w b (o + i) (fun j => f (i + j)) m := fun j hj => by
 have := h (i + j) (by omega)
 rwa [← Nat.add_assoc] at this
theorem WordsAt.new (w : World) (n : Nat) (T : TypeId) : WordsAt (w.alloc (.cells #[.int .u64 (wd n 0 : Int), .int .u64 (wd n 1 : Int), .int .u64 (wd n 2 : Int), .int .u64 (wd n 3 : Int), .int .u64 (wd n 4 : Int), .int .u64 (wd n 5 : Int), .int .u64 (wd n 6 : Int), .int .u64 (wd n 7 : Int)] T)) w.heap.size 0 n 8 := by
 intro i hi
 rcases i with _ | _ | _ | _ | _ | _ | _ | _ | i
 all_goals first | exact ⟨World.cell?_alloc_at _ _ _ _ rfl, World.frozen?_alloc_at _ _ _ _ rfl⟩ | omega
theorem wd_zero (i : Nat) : wd 0 i = 0 := dig_zero _ i
theorem WordsAt.zero (w : World) (T : TypeId) : WordsAt (w.alloc (.cells #[.int .u64 0, .int .u64 0, .int .u64 0, .int .u64 0, .int .u64 0, .int .u64 0, .int .u64 0, .int .u64 0] T)) w.heap.size 0 0 8 := by
 have := WordsAt.new w 0 T
 simpa only [wd_zero, Int.natCast_zero] using this
abbrev boxO (n : Nat) (T : TypeId) : Obj := .cells #[.int .u64 (wd n 0 : Int), .int .u64 (wd n 1 : Int), .int .u64 (wd n 2 : Int), .int .u64 (wd n 3 : Int), .int .u64 (wd n 4 : Int), .int .u64 (wd n 5 : Int), .int .u64 (wd n 6 : Int), .int .u64 (wd n 7 : Int)] T
abbrev boxZ (T : TypeId) : Obj := .cells #[.int .u64 0, .int .u64 0, .int .u64 0, .int .u64 0, .int .u64 0, .int .u64 0, .int .u64 0, .int .u64 0] T
theorem below_alloc (w : World) (o : Obj) : Below w.heap.size w (w.alloc o) := (Below.refl _ _).alloc (Nat.le_refl _) o
theorem _root_.Go.RowKit.Below.drewN {B : Nat} {a w : World} (h : Below B a w) (n : Nat) : Below B a (w.drewN n) := ⟨h.os, h.tape, h.output, h.size, h.block⟩
theorem WordsF.alloc {w : World} {b o k : Nat} {f : Nat → Nat} (h : WordsF w b o f k) (hb : b < w.heap.size) (x : Obj) : WordsF (w.alloc x) b o f k := h.keep (below_alloc w x) hb
theorem WordsF.set {w : World} {b o k : Nat} {f : Nat → Nat} (h : WordsF w b o f k) (p : Addr) (v : Value) (hp : p.block ≠ b) : WordsF (w.setCell p v) b o f k := fun i hi =>
 ⟨(World.cell?_setCell_other _ _ _ _ (fun e => hp (congrArg Addr.block e))).trans (h i hi).1, by rw [World.frozen?_setCell]; exact (h i hi).2⟩
def But1 (w w' : World) (b : Nat) : Prop := (∀ x : Addr, x.block ≠ b → w'.cell? x = w.cell? x ∧ w'.frozen? x = w.frozen? x) ∧ (∀ B w0, B ≤ b → Below B w0 w → Below B w0 w') ∧ w'.heap.size = w.heap.size
theorem WordsF.but {w w' : World} {b c o k : Nat} {f : Nat → Nat} (h : WordsF w b o f k) (hw : But1 w w' c) (hne : b ≠ c) : WordsF w' b o f k := fun i hi =>
 ⟨(hw.1 ⟨b, o + i, none⟩ hne).1.trans (h i hi).1, (hw.1 ⟨b, o + i, none⟩ hne).2.trans (h i hi).2⟩
theorem But1.setCell (w : World) (b o : Nat) (v : Value) : But1 w (w.setCell ⟨b, o, none⟩ v) b :=
 ⟨fun _ hx => ⟨World.cell?_setCell_other _ _ _ _ (fun e => hx (by rw [← e])), by rw [World.frozen?_setCell]⟩, fun _ _ hB h => h.setCell (p := ⟨b, o, none⟩) hB _, by simp⟩
theorem But1.trans {u v w : World} {b : Nat} (h : But1 u v b) (k : But1 v w b) : But1 u w b :=
 ⟨fun x hx => ⟨(k.1 x hx).1.trans (h.1 x hx).1, (k.1 x hx).2.trans (h.1 x hx).2⟩, fun B w0 hB hb => k.2.1 B w0 hB (h.2.1 B w0 hB hb), k.2.2.trans h.2.2⟩
theorem But1.refl (w : World) (b : Nat) : But1 w w b := ⟨fun _ _ => ⟨rfl, rfl⟩, fun _ _ _ h => h, rfl⟩
theorem But1.drew {w w' : World} {b : Nat} (h : But1 w w' b) : But1 w w'.drew b := ⟨h.1, fun B w0 hB hb => (h.2.1 B w0 hB hb).drew, h.2.2⟩
theorem But1.of_drew {w w' : World} {b : Nat} (h : But1 w.drew w' b) : But1 w w' b := ⟨h.1, fun B w0 hB hb => h.2.1 B w0 hB hb.drew, h.2.2⟩
theorem But1.setCells (b : Nat) : ∀ (vs : List Value) (o : Nat) (w : World), But1 w (w.setCells b o vs) b
 | [], _, w => But1.refl w b
 | v :: r, o, w => (But1.setCell w b o v).trans (But1.setCells b r (o + 1) _)
theorem copy_words (w : World) (b o c p kd ks kc kc2 : Nat) (f g : Nat → Nat) (hd : WordsF w b o f kd) (hs : WordsF w c p g ks) (m : Nat) (hm : Nat.min ks kd = m) :
  ∃ wc, (Builtin.copy_ #[298, 298] 3 #[.slice (some ⟨b, o, none⟩) kd kc, .slice (some ⟨c, p, none⟩) ks kc2]).run Tryz.prog w = .ok (.int .i64 (m : Int)) wc ∧ WordsF wc b o (fun j => if j < m then g j else f j) kd ∧ But1 w wc b := by
 have hmk : m ≤ kd ∧ m ≤ ks := by rw [← hm]; exact ⟨Nat.min_le_right _ _, Nat.min_le_left _ _⟩
 have hlen : ((List.range m).map fun j => Value.int .u64 (g j : Int)).length = m := by simp
 have hsrc : ∀ j v, ((List.range m).map fun j => Value.int .u64 (g j : Int))[j]? = some v → w.cell? ((⟨c, p, none⟩ : Addr).add j) = some v := fun j v hv => by
  rw [List.getElem?_map] at hv
  obtain ⟨x, hx, rfl⟩ := Option.map_eq_some_iff.1 hv
  obtain ⟨hj, rfl⟩ := List.getElem?_eq_some_iff.1 hx
  have hjm : j < m := by simpa using hj
  have hadd : (⟨c, p, none⟩ : Addr).add j = ⟨c, p + j, none⟩ := by unfold Addr.add; split <;> simp_all
  simp only [List.getElem_range, hadd]
  exact (hs j (by omega)).1
 have hone : ∀ v ∈ (List.range m).map fun j => Value.int .u64 (g j : Int), v.oneCell' = true := fun v hv => by
  obtain ⟨x, _, rfl⟩ := List.mem_map.1 hv
  rfl
 have hrun := run_copy_cells (P := Tryz.prog) w 298 298 3 89 b o kd kc ⟨c, p, none⟩ ks kc2 ((List.range m).map fun j => Value.int .u64 (g j : Int)) (by kernel_rfl) (by kernel_rfl) (hlen.trans hm.symm) hsrc (fun j hj => by rw [(hd j (by omega)).1]; rfl) (fun j hj => (hd j (by omega)).2) hone
 refine ⟨w.setCells b o ((List.range m).map fun j => Value.int .u64 (g j : Int)), hrun.trans ?_, fun j hj => ⟨?_, ?_⟩, But1.setCells b _ o w⟩
 ·rw [hlen]; rfl
 ·by_cases h : j < m
  ·simp only [if_pos h]
   rw [World.cell?_setCells_in b _ o w (fun i hi => by rw [(hd i (by omega)).1]; rfl) j (by omega)]
   simp
  ·simp only [if_neg h]
   rw [World.cell?_setCells_out b _ o w _ (fun _ _ => Or.inr (by show o + _ ≤ o + j; omega))]
   exact (hd j hj).1
 ·rw [World.frozen?_setCells]
  exact (hd j hj).2
theorem copy_into (w : World) (b o q c p K kd ks kc kc2 : Nat) (f g : Nat → Nat) (hd : WordsF w b o f K) (hq : q + kd ≤ K) (hs : WordsF w c p g ks) (m : Nat) (hm : Nat.min ks kd = m) :
  ∃ wc, (Builtin.copy_ #[298, 298] 3 #[.slice (some ⟨b, o + q, none⟩) kd kc, .slice (some ⟨c, p, none⟩) ks kc2]).run Tryz.prog w = .ok (.int .i64 (m : Int)) wc ∧ WordsF wc b o (fun t => if q ≤ t ∧ t < q + m then g (t - q) else f t) K ∧ But1 w wc b := by
 have hmk : m ≤ kd ∧ m ≤ ks := by rw [← hm]; exact ⟨Nat.min_le_right _ _, Nat.min_le_left _ _⟩
 have hlen : ((List.range m).map fun j => Value.int .u64 (g j : Int)).length = m := by simp
 have hdq := hd.sub q kd hq
 have hsrc : ∀ j v, ((List.range m).map fun j => Value.int .u64 (g j : Int))[j]? = some v → w.cell? ((⟨c, p, none⟩ : Addr).add j) = some v := fun j v hv => by
  rw [List.getElem?_map] at hv
  obtain ⟨x, hx, rfl⟩ := Option.map_eq_some_iff.1 hv
  obtain ⟨hj, rfl⟩ := List.getElem?_eq_some_iff.1 hx
  have hjm : j < m := by simpa using hj
  have hadd : (⟨c, p, none⟩ : Addr).add j = ⟨c, p + j, none⟩ := by unfold Addr.add; split <;> simp_all
  simp only [List.getElem_range, hadd]
  exact (hs j (by omega)).1
 have hone : ∀ v ∈ (List.range m).map fun j => Value.int .u64 (g j : Int), v.oneCell' = true := fun v hv => by
  obtain ⟨x, _, rfl⟩ := List.mem_map.1 hv
  rfl
 have hrun := run_copy_cells (P := Tryz.prog) w 298 298 3 89 b (o + q) kd kc ⟨c, p, none⟩ ks kc2 ((List.range m).map fun j => Value.int .u64 (g j : Int)) (by kernel_rfl) (by kernel_rfl) (hlen.trans hm.symm) hsrc (fun j hj => by rw [(hdq j (by omega)).1]; rfl) (fun j hj => (hdq j (by omega)).2) hone
 refine ⟨w.setCells b (o + q) ((List.range m).map fun j => Value.int .u64 (g j : Int)), hrun.trans ?_, fun t ht => ⟨?_, ?_⟩, But1.setCells b _ _ w⟩
 ·rw [hlen]; rfl
 ·by_cases h : q ≤ t ∧ t < q + m
  ·simp only [if_pos h]
   obtain ⟨j, rfl⟩ : ∃ j, t = q + j := ⟨t - q, by omega⟩
   rw [← Nat.add_assoc, World.cell?_setCells_in b _ (o + q) w (fun i hi => by rw [(hdq i (by omega)).1]; rfl) j (by omega)]
   simp
  ·simp only [if_neg h]
   rw [World.cell?_setCells_out b _ (o + q) w _ (fun _ _ => by show o + t < o + q ∨ o + q + _ ≤ o + t; omega)]
   exact (hd t ht).1
 ·rw [World.frozen?_setCells]
  exact (hd t ht).2
theorem add64_run (x y c : Nat) (hc : c ≤ 1) (w : World) : (callFunc 208 #[.int .u64 (x : Int), .int .u64 (y : Int), .int .u64 (c : Int)]).run Tryz.prog w =
  .ok (.value (.tuple #[.int .u64 (((x + y + c) % 18446744073709551616 : Nat) : Int), .int .u64 (((x + y + c) / 18446744073709551616 : Nat) : Int)])) w := Any7.bits_Add64 Tryz.lays25 x y c hc w
def bor (x y b : Nat) : Nat := if x < y + b then 1 else 0
theorem sub64_run (x y b : Nat) (hb : b ≤ 1) (w : World) : (callFunc 264 #[.int .u64 (x : Int), .int .u64 (y : Int), .int .u64 (b : Int)]).run Tryz.prog w =
  .ok (.value (.tuple #[.int .u64 (((x + 18446744073709551616 - y - b) % 18446744073709551616 : Nat) : Int), .int .u64 (bor x y b : Int)])) w := Any7.bits_Sub64 Tryz.lays26 x y b hb w
def cmpN (x y : Nat) : Int := if x < y then -1 else if y < x then 1 else 0
set_option maxHeartbeats 2000000 in
theorem cmpU_run (x y : Nat) (w : World) : Calls Tryz.prog 254 #[.int .u64 (x : Int), .int .u64 (y : Int)] w fun e w' => e = .returned (.int .i64 (cmpN x y)) ∧ w = w' := by
 have hx : ((x : Int) != (x : Int)) = false := by simp
 have hy : ((y : Int) != (y : Int)) = false := by simp
 unfold cmpN
 by_cases h1 : x < y
 ·rw [if_pos h1]
  have h1z : (x : Int) < (y : Int) := by omega
  go_enter Tryz.func254, Tryz.ntmps254
  go_wp2
  go_ret
  exact ⟨rfl, rfl⟩
 ·rw [if_neg h1]
  have h1z : ¬ (x : Int) < (y : Int) := by omega
  by_cases h2 : y < x
  ·rw [if_pos h2]
   have h2z : (y : Int) < (x : Int) := by omega
   go_enter Tryz.func254, Tryz.ntmps254
   go_wp2
   go_ret
   exact ⟨rfl, rfl⟩
  ·rw [if_neg h2]
   have h2z : ¬ (y : Int) < (x : Int) := by omega
   go_enter Tryz.func254, Tryz.ntmps254
   go_wp2
   go_ret
   exact ⟨rfl, rfl⟩
end Go.Proofs.YtgkhjeefcflmcaaGreatDoor
namespace Go.Proofs.YtgkhjeefcflmcaaGreatDoor
open Go.RowKit Go.Sort
theorem pow8 (n : Nat) (h : Fits n) : n / 18446744073709551616 ^ 8 = 0 := Nat.div_eq_of_lt h
theorem cmpN_lt {a b : Nat} (h : a < b) : cmpN a b = -1 := if_pos h
theorem cmpN_gt {a b : Nat} (h : b < a) : cmpN a b = 1 := by unfold cmpN; rw [if_neg (by omega), if_pos h]
theorem cmpN_eq {a b : Nat} (h : a = b) : cmpN a b = 0 := by subst h; simp [cmpN]
theorem cmpN_dig {a b i : Nat} (h : a / 18446744073709551616 ^ (i + 1) = b / 18446744073709551616 ^ (i + 1)) (hd : ¬ wd a i = wd b i) : cmpN (wd a i) (wd b i) = cmpN a b := by
 rcases Nat.lt_or_ge (wd a i) (wd b i) with h1 | h1
 ·rw [cmpN_lt h1, cmpN_lt (lt_of_dig (by decide) h h1)]
 ·have h2 : wd b i < wd a i := by omega
  rw [cmpN_gt h2, cmpN_gt (lt_of_dig (by decide) h.symm h2)]
theorem two_boxes (w : World) (a b : Nat) (T U : TypeId) : WordsAt ((w.alloc (boxO a T)).alloc (boxO b U)) w.heap.size 0 a 8 ∧ WordsAt ((w.alloc (boxO a T)).alloc (boxO b U)) (w.heap.size + 1) 0 b 8 ∧ Below w.heap.size w ((w.alloc (boxO a T)).alloc (boxO b U)) ∧ ((w.alloc (boxO a T)).alloc (boxO b U)).heap.size = w.heap.size + 2 := by
 refine ⟨(WordsAt.new w a T).alloc (by simp) _, ?_, (below_alloc w _).alloc (by simp) _, by simp⟩
 have := WordsAt.new (w.alloc (boxO a T)) b U
 simpa using this
set_option maxRecDepth 100000 in
set_option maxHeartbeats 4000000 in
theorem compare_run (a b : Nat) (c : Int) (w : World) (ha : Hid (Fits a)) (hb : Hid (Fits b)) (hc : Hid (cmpN a b = c)) :
  Calls Tryz.prog 241 #[wordsV a, wordsV b] w fun e w' => e = .returned (.int .i64 c) ∧ Below w.heap.size w w' := by
 have T := Lib.hid (two_boxes w a b 217 217)
 unfold wordsV
 go_enter Tryz.func241, Tryz.ntmps241
 go_wp2_with fail
 go_loopg [5] 10 (fun h s5 wr => ∃ (z : Int) (j : Nat), s5 = .int .i64 z ∧ Hid (z = (j : Int) - 1 ∧ j ≤ 8 ∧ j < h) ∧ Hid (a / 18446744073709551616 ^ j = b / 18446744073709551616 ^ j) ∧ Hid (WordsAt wr w.heap.size 0 a 8) ∧ Hid (WordsAt wr (w.heap.size + 1) 0 b 8) ∧ Hid (Below w.heap.size w wr))
 case atStart => exact ⟨7, 8, rfl, by show _ ∧ _; omega, by show _ = _; rw [pow8 a ha.out, pow8 b hb.out], T.out.1, T.out.2.1, T.out.2.2.1⟩
 case round =>
  clear T
  obtain ⟨z, j, rfl, HJ, HE, HA, HB, HW⟩ := hrel
  cases j with
  | zero =>
   obtain rfl : z = -1 := by have := HJ.out.1; omega
   have HC : Hid (c = 0) := by
    have := HE.out
    rw [Nat.pow_zero, Nat.div_one, Nat.div_one] at this
    exact hc.out.symm.trans (cmpN_eq this)
   go_wp2_with fail
   go_ret
   exact ⟨ret_int HC.out.symm, HW.out⟩
  | succ i =>
   obtain rfl : z = (i : Int) := by have := HJ.out.1; omega
   have hi8 : i < 8 := by have := HJ.out; omega
   have hz : (i : Int) < 8 := by omega
   have ca := (HA.out i hi8).1
   have cb := (HB.out i hi8).1
   rw [Nat.zero_add] at ca cb
   by_cases hd : wd a i = wd b i
   ·have hdz : ((wd a i : Int) != (wd b i : Int)) = false := by rw [hd]; simp
    have HN : Hid (a / 18446744073709551616 ^ i = b / 18446744073709551616 ^ i) := div_eq_step HE.out hd
    go_wp2_with fail
    go_quiet (fail)
    go_wp2_with fail
    go_roundg (i + 1)
    case measure => have := HJ.out; omega
    case rel => exact ⟨(i : Int) - 1, i, by go_num, by show _ ∧ _; have := HJ.out; omega, HN, HA, HB, HW.out.drewN _⟩
   ·have hdz : ((wd a i : Int) != (wd b i : Int)) = true := by simp; omega
    have HC : Hid (cmpN (wd a i) (wd b i) = c) := (cmpN_dig HE.out hd).trans hc.out
    have HCC : Hid (∀ W, Calls Tryz.prog 254 #[.int .u64 (wd a i : Int), .int .u64 (wd b i : Int)] W fun e w' => e = .returned (.int .i64 c) ∧ ∃ m, w' = W.drewN m) := fun W =>
     (cmpU_run (wd a i) (wd b i) W).mono fun e w' ⟨he, hw⟩ => ⟨by rw [he, HC.out], 0, hw.symm⟩
    go_wp2_with fail
    go_quiet (fail)
    go_wp2_with fail
    replace ca : (wr.drewN nq).cell? _ = _ := ca
    replace cb : (wr.drewN nq).cell? _ = _ := cb
    have HW2 : Hid (Below w.heap.size w (wr.drewN nq)) := HW.out.drewN nq
    clear HW HA HB
    generalize wr.drewN nq = wq at *
    go_quiet (first | (go_at_call 254; refine Calls.quiet_of (HCC.out _)) | fail)
    go_wp2_with fail
    go_ret
    exact ⟨rfl, HW2.out.drewN _⟩
def cy (a b i : Nat) : Nat := car 18446744073709551616 1 a 1 b 0 i
theorem cy_le (a b i : Nat) : cy a b i ≤ 1 := Nat.le_of_lt_succ (car_lt (by decide) 1 a 1 b 0 i (Nat.le_refl 2) (by decide))
theorem cy_zero (a b : Nat) : cy a b 0 = 0 := car_zero _ _ _ _ _ _
theorem cy_sum (a b i : Nat) : (wd a i + wd b i + cy a b i) % 18446744073709551616 = wd (a + b) i := by
 have := lin_mod (B := 18446744073709551616) (by decide) 1 a 1 b 0 i
 unfold wd cy
 simpa only [Nat.one_mul, Nat.add_zero] using this
theorem cy_next (a b i : Nat) : (wd a i + wd b i + cy a b i) / 18446744073709551616 = cy a b (i + 1) := by
 have := lin_div (B := 18446744073709551616) (by decide) 1 a 1 b 0 i
 unfold wd cy
 simpa only [Nat.one_mul, Nat.add_zero] using this
theorem three_boxes (w : World) (a b : Nat) (T U V : TypeId) : WordsAt (((w.alloc (boxO a T)).alloc (boxO b U)).alloc (boxZ V)) w.heap.size 0 a 8 ∧ WordsAt (((w.alloc (boxO a T)).alloc (boxO b U)).alloc (boxZ V)) (w.heap.size + 1) 0 b 8 ∧ WordsAt (((w.alloc (boxO a T)).alloc (boxO b U)).alloc (boxZ V)) (w.heap.size + 1 + 1) 0 0 8 ∧ Below w.heap.size w (((w.alloc (boxO a T)).alloc (boxO b U)).alloc (boxZ V)) := by
 obtain ⟨h1, h2, h3, h4⟩ := two_boxes w a b T U
 refine ⟨h1.alloc (by omega) _, h2.alloc (by omega) _, ?_, h3.alloc (by omega) _⟩
 have := WordsAt.zero ((w.alloc (boxO a T)).alloc (boxO b U)) V
 rwa [h4] at this
end Go.Proofs.YtgkhjeefcflmcaaGreatDoor
namespace Go.Proofs.YtgkhjeefcflmcaaGreatDoor
open Go.RowKit
def OwnK (k : IntKind) (E : TypeId) (w : World) (base : Nat) (v : Value) (l : List Int) : Prop := w.ownsRow base E 1 v l.length (l.map fun x => Value.int k x)
def SliceK (k : IntKind) (T E : TypeId) : Prop := Tryz.prog.underlying T = some (.slice E) ∧ ∃ b, b ≤ 8 ∧ (Tryz.prog.info? E).map (fun i => (i.zero, i.size, i.bytes)) = some (some (.int k 0), 1, b)
theorem own_ge {k : IntKind} {E : TypeId} {w : World} {base : Nat} {v : Value} {l : List Int} (h : OwnK k E w base v l) : ∀ g, v.ownBlock = some g → base ≤ g := fun g hg => (World.ownsRow.lt h g hg).1
theorem NumsK.grown {k : IntKind} {w w' : World} {B : Nat} {A : Option Addr} {l : List Int} (h : NumsK k w B A l) {row : Option Nat} (hg : w.grownBy w' row) (hB : B ≤ w.heap.size) (hr : ∀ g, row = some g → B ≤ g) : NumsK k w' B A l :=
 h.keep fun b o hb => World.cell?_of_block (hg.block b (by omega) (fun e => by have := hr _ e.symm; omega))
theorem OwnK.below {k : IntKind} {E : TypeId} {w w' : World} {base : Nat} {v : Value} {l : List Int} (h : OwnK k E w base v l) (hb : Below w.heap.size w w') : OwnK k E w' base v l :=
 World.ownsRow.kept h (row := none) ⟨hb.os, hb.tape, hb.output, hb.size, fun k hk _ => hb.block k hk⟩ (by cases v.ownBlock <;> simp)
theorem OwnK.setCell {k : IntKind} {E : TypeId} {w : World} {base : Nat} {v : Value} {l : List Int} (h : OwnK k E w base v l) {p : Addr} (hp : p.block < base) (u : Value) : OwnK k E (w.setCell p u) base v l :=
 ownsRow_setCell_other h (fun e => by have := own_ge h _ e; omega) u
theorem OwnK.nil (k : IntKind) (E : TypeId) (w : World) (base : Nat) : OwnK k E w base (.slice none 0 0) [] := World.ownsRow_nil _ _ _ _
theorem OwnK.nums {k : IntKind} {E : TypeId} {w : World} {base : Nat} {v : Value} {l : List Int} (h : OwnK k E w base v l) : ∃ A cap, v = .slice A l.length cap ∧ l.length ≤ cap ∧ cap ≤ maxLen ∧ NumsK k w w.heap.size A l := by
 rcases h.2 with ⟨hv, h0⟩ | ⟨g, cap, cur, hv, _, _, hnc, hcm, _⟩
 ·have : l = [] := List.eq_nil_of_length_eq_zero h0
  subst this
  exact ⟨none, 0, hv, Nat.le_refl _, Nat.zero_le _, NumsK.nil⟩
 ·refine ⟨_, cap, hv, hnc, hcm, fun _ => ?_⟩
  have hlt := World.ownsRow.lt h g (by rw [hv]; rfl)
  refine ⟨g, 0, rfl, hlt.2, fun i x hx => ?_⟩
  have := World.ownsRow.cells h (g := g) (by rw [hv]; rfl) i (.int k x) (by rw [List.getElem?_map, hx]; rfl)
  have hp : (⟨g, 0, none⟩ : Addr).add i = ⟨g, 0 + i, none⟩ := by unfold Addr.add; split <;> simp_all
  rwa [hp] at this
theorem OwnK.lit (k : IntKind) (E : TypeId) (w : World) (base : Nat) (l : List Int) (hb : base ≤ w.heap.size) (hl : l.length ≤ 1000000) : OwnK k E (w.alloc (.cells (l.map fun x => Value.int k x).toArray E)) base (.slice (some ⟨w.heap.size, 0, none⟩) l.length l.length) l := by
 have := World.ownsRow_lit (e := E) (size := 1) (base := base) w (l.map fun x => Value.int k x).toArray l.length hb (by simp only [maxLen]; omega) (by simp)
 simpa [OwnK] using this
theorem run_makeK {k : IntKind} {T E : TypeId} (hT : SliceK k T E) (w : World) (base n c : Nat) (hn : n ≤ c) (hc : c ≤ 1000000) (hb : base ≤ w.heap.size) :
  ∃ w', (Instr.makeSlice T (.int .i64 (n : Int)) (.int .i64 (c : Int))).run Tryz.prog w = .ok (.slice (some ⟨w.heap.size, 0, none⟩) n c) w' ∧ OwnK k E w' base (.slice (some ⟨w.heap.size, 0, none⟩) n c) (List.replicate n 0) ∧ w.grownBy w' none := by
 obtain ⟨hu, bb, hbb, hi0⟩ := hT
 obtain ⟨i, hi, hi2⟩ := Option.map_eq_some_iff.1 hi0
 simp only [Prod.mk.injEq] at hi2
 obtain ⟨hz, hs, hby⟩ := hi2
 have hr := run_make (P := Tryz.prog) w T E i _ hu hi hz .i64 .i64 n c (by omega) (by omega) (by
  rw [hby]
  have : bb * c ≤ 8 * 1000000 := Nat.mul_le_mul hbb hc
  have h2 : ((bb : Int) * (c : Int)) = ((bb * c : Nat) : Int) := by simp
  rw [h2]
  omega) (by omega)
 simp only [Int.toNat_natCast, hs, Nat.mul_one] at hr
 refine ⟨_, hr, ?_, World.grownBy_alloc w _ none⟩
 unfold OwnK
 refine ⟨by simp, .inr ⟨w.heap.size, c, _, by simp, hb, heap_alloc_new w _, by simpa using hn, by simp only [maxLen]; omega, by have := size_madeCells (Value.int k 0).cells c; simpa using this, ?_⟩⟩
 simp [madeCells, Value.cells]
 have e : (fun x : Nat => [Value.int k 0][x % 1]?.getD default) = fun _ => Value.int k 0 := by
  funext x
  simp [Nat.mod_one]
 rw [e]
 apply List.ext_getElem
 ·simp
  omega
 ·intro i h1 h2
  simp
theorem wpList_makeK {k : IntKind} {T E : TypeId} (hT : SliceK k T E) {ops : Array Oper} {rest : List Oper} {o : Oper} {a : Act} {Q : Exit → Act → World → Prop} (w : World) (hgd : o.guard = none) (l c : Operand)
  (ho : o.op = .makeSlice T l c) (base n m : Nat) (hl : a.eval l = .int .i64 (n : Int)) (hc : a.eval c = .int .i64 (m : Int)) (hn : n ≤ m) (hm : m ≤ 1000000) (hb : base ≤ w.heap.size)
  (h : ∀ w', OwnK k E w' base (.slice (some ⟨w.heap.size, 0, none⟩) n m) (List.replicate n 0) → w.grownBy w' none → wpList Tryz.prog ops Q rest (a.put o.dst (.slice (some ⟨w.heap.size, 0, none⟩) n m)) w') : wpList Tryz.prog ops Q (o :: rest) a w :=
 wpList_plain hgd fun _ hK => by
  obtain ⟨w', hrun, h2, h3⟩ := run_makeK hT w base n m hn hm hb
  unfold Oper.wp execOp
  simp only [ho, Sem.run_bind, Sem.run_pure, Result.andThen_ok, hl, hc, hrun]
  exact hK _ _ (h w' h2 h3)
theorem results_cell1 {fn : Func} {p : Tmp} {ty : TypeId} (h : fn.results = #[.cell p ty]) (tmps : Array Value) (P : Program) (w : World) :
  (results fn tmps).run P w = ((asAddr (tmps.getD p undef)).run P w).andThen fun a w₁ => (loadVar ty a).run P w₁ := by
 simp only [results, h]
 simp [Sem.run_bind, Result.andThen]
end Go.Proofs.YtgkhjeefcflmcaaGreatDoor
namespace Go.Proofs.YtgkhjeefcflmcaaGreatDoor
open Go.RowKit Go.Sort
theorem bor_step {x y c m c' : Nat} (h : m + y + c = x + 18446744073709551616 * c') (hm : m < 18446744073709551616) (hc' : c' ≤ 1) :
  (x + 18446744073709551616 - y - c) % 18446744073709551616 = m ∧ bor x y c = c' := by
 unfold bor
 constructor
 ·omega
 ·split <;> omega
def bw (a b i : Nat) : Nat := brw 18446744073709551616 a b i
theorem WordsF.eight {w : World} {b : Nat} {f : Nat → Nat} (h : WordsF w b 0 f 8) :
  (w.cell? ⟨b, 0, none⟩ = some (.int .u64 (f 0 : Int)) ∧ w.frozen? ⟨b, 0, none⟩ = false) ∧ (w.cell? ⟨b, 1, none⟩ = some (.int .u64 (f 1 : Int)) ∧ w.frozen? ⟨b, 1, none⟩ = false) ∧
  (w.cell? ⟨b, 2, none⟩ = some (.int .u64 (f 2 : Int)) ∧ w.frozen? ⟨b, 2, none⟩ = false) ∧ (w.cell? ⟨b, 3, none⟩ = some (.int .u64 (f 3 : Int)) ∧ w.frozen? ⟨b, 3, none⟩ = false) ∧
  (w.cell? ⟨b, 4, none⟩ = some (.int .u64 (f 4 : Int)) ∧ w.frozen? ⟨b, 4, none⟩ = false) ∧ (w.cell? ⟨b, 5, none⟩ = some (.int .u64 (f 5 : Int)) ∧ w.frozen? ⟨b, 5, none⟩ = false) ∧
  (w.cell? ⟨b, 6, none⟩ = some (.int .u64 (f 6 : Int)) ∧ w.frozen? ⟨b, 6, none⟩ = false) ∧ (w.cell? ⟨b, 7, none⟩ = some (.int .u64 (f 7 : Int)) ∧ w.frozen? ⟨b, 7, none⟩ = false) := by
 have c0 := h 0 (by decide)
 have c1 := h 1 (by decide)
 have c2 := h 2 (by decide)
 have c3 := h 3 (by decide)
 have c4 := h 4 (by decide)
 have c5 := h 5 (by decide)
 have c6 := h 6 (by decide)
 have c7 := h 7 (by decide)
 simp only [Nat.zero_add] at c0 c1 c2 c3 c4 c5 c6 c7
 exact ⟨c0, c1, c2, c3, c4, c5, c6, c7⟩
theorem box_at (w : World) (a : Nat) (T : TypeId) : WordsAt (w.alloc (boxO a T)) w.heap.size 0 a 8 ∧ Below w.heap.size w (w.alloc (boxO a T)) := ⟨WordsAt.new w a T, below_alloc w _⟩
def wl (n : Nat) : Nat := nlen 18446744073709551616 n
theorem wl_le {n : Nat} (h : Fits n) : wl n ≤ 8 := nlen_le_of_lt (by decide) h
theorem low_zero {n j : Nat} (h : n < 18446744073709551616 ^ (j + 1)) (hz : wd n j = 0) : n < 18446744073709551616 ^ j := by
 rcases Nat.lt_or_ge n (18446744073709551616 ^ j) with h1 | h1
 ·exact h1
 ·have hP : 0 < 18446744073709551616 ^ j := Nat.pow_pos (by decide)
  have h2 : n / 18446744073709551616 ^ j < 18446744073709551616 := (Nat.div_lt_iff_lt_mul hP).2 (by rw [Nat.pow_succ, Nat.mul_comm] at h; exact h)
  have h3 : n / 18446744073709551616 ^ j = 0 := by
   have : n / 18446744073709551616 ^ j % 18446744073709551616 = 0 := hz
   rwa [Nat.mod_eq_of_lt h2] at this
  have := Nat.div_pos h1 hP
  omega
theorem wl_here {n j : Nat} (h : n < 18446744073709551616 ^ (j + 1)) (hz : wd n j ≠ 0) : wl n = j + 1 := by
 apply nlen_uniq (by decide) h
 intro _
 rcases Nat.lt_or_ge n (18446744073709551616 ^ j) with h1 | h1
 ·exact absurd (dig_high h1) hz
 ·exact h1
set_option maxRecDepth 100000 in
set_option maxHeartbeats 4000000 in
theorem length_run (a : Nat) (w : World) (ha : Hid (Fits a)) :
  Calls Tryz.prog 240 #[wordsV a] w fun e w' => e = .returned (.int .i64 (wl a : Int)) ∧ Below w.heap.size w w' := by
 have T := Lib.hid (box_at w a 217)
 obtain ⟨L, hL⟩ : ∃ L, wl a = L := ⟨_, rfl⟩
 have HL := Lib.hid hL
 rw [hL]
 clear hL
 unfold wordsV
 go_enter Tryz.func240, Tryz.ntmps240
 go_wp2_with fail
 go_loopg [3] 10 (fun h s3 wr => ∃ (j : Nat), s3 = .int .i64 (j : Int) ∧ Hid (j ≤ 8 ∧ j < h) ∧ Hid (a < 18446744073709551616 ^ j) ∧ Hid (WordsAt wr w.heap.size 0 a 8) ∧ Hid (Below w.heap.size w wr))
 case atStart => exact ⟨8, rfl, by show _ ∧ _; omega, ha.out, T.out.1, T.out.2⟩
 case round =>
  clear T
  obtain ⟨j, rfl, HJ, HN, HA, HW⟩ := hrel
  cases j with
  | zero =>
   have HV : Hid ((0 : Int) = (L : Int)) := by
    have h0 : a = 0 := by have := HN.out; rw [Nat.pow_zero] at this; omega
    show _ = _
    rw [← HL.out, h0, wl, nlen_zero]
    rfl
   go_wp2_with fail
   go_ret
   exact ⟨ret_int HV.out, HW.out⟩
  | succ i =>
   have hi8 : i < 8 := by have := HJ.out; omega
   have hz : (i : Int) < 8 := by omega
   have hp : (0 : Int) < (i : Int) + 1 := by omega
   have hp2 : (0 : Int) < ((i + 1 : Nat) : Int) := by omega
   have hw1 : IntKind.i64.wrap (((i + 1 : Nat) : Int) - 1) = (i : Int) := by rw [IntKind.wrap_i64]; omega
   have ca := (HA.out i hi8).1
   rw [Nat.zero_add] at ca
   obtain ⟨x, hx⟩ : ∃ x, wd a i = x := ⟨_, rfl⟩
   rw [hx] at ca
   have HX := Lib.hid hx
   clear hx
   by_cases hd : x = 0
   ·subst hd
    have HN2 : Hid (a < 18446744073709551616 ^ i) := low_zero HN.out HX.out
    go_wp2_with fail
    go_roundg (i + 1)
    case measure => have := HJ.out; omega
    case rel => exact ⟨i, by go_num, by show _ ∧ _; have := HJ.out; omega, HN2, HA, HW⟩
   ·have hdz : ((x : Int) == 0) = false := by simpa using hd
    have HV : Hid (((i + 1 : Nat) : Int) = (L : Int)) := by
     have := wl_here HN.out (by rw [HX.out]; exact hd)
     rw [HL.out] at this
     show _ = _
     omega
    go_wp2_with fail
    go_ret
    exact ⟨ret_int HV.out, HW.out⟩
theorem bitLen_eq (x f : Nat) (h : x < 2 ^ f) : Lib.bitLenAux f x = nlen 2 x := by
 induction f generalizing x with
 | zero => simp at h; subst h; rw [nlen_zero]; rfl
 | succ f ih =>
  show (if x = 0 then 0 else 1 + Lib.bitLenAux f (x / 2)) = _
  by_cases hx : x = 0
  ·rw [if_pos hx, hx, nlen_zero]
  ·rw [if_neg hx, ih (x / 2) (by rw [Nat.pow_succ] at h; omega), nlen_pos (by decide) hx]
   omega
theorem madd_eq {x y c d : Nat} (hx : x < 18446744073709551616) (hy : y < 18446744073709551616) (hc : c < 18446744073709551616) (hd : d < 18446744073709551616) :
  ((x * y % 18446744073709551616 + c) % 18446744073709551616 + d) % 18446744073709551616 = (x * y + c + d) % 18446744073709551616 ∧
  x * y / 18446744073709551616 + (x * y % 18446744073709551616 + c) / 18446744073709551616 + ((x * y % 18446744073709551616 + c) % 18446744073709551616 + d) / 18446744073709551616 = (x * y + c + d) / 18446744073709551616 ∧
  (x * y + c + d) / 18446744073709551616 < 18446744073709551616 := by
 have h1 : x * y ≤ 18446744073709551615 * 18446744073709551615 := Nat.mul_le_mul (by omega) (by omega)
 generalize x * y = p at *
 omega
set_option maxRecDepth 100000 in
set_option maxHeartbeats 4000000 in
theorem multiplyAdd_run (x y c d : Nat) (w : World) (hx : x < 18446744073709551616) (hy : y < 18446744073709551616) (hc : c < 18446744073709551616) (hd : d < 18446744073709551616) :
  Calls Tryz.prog 186 #[.int .u64 (x : Int), .int .u64 (y : Int), .int .u64 (c : Int), .int .u64 (d : Int)] w fun e w' =>
   e = .returned (.tuple #[.int .u64 (((x * y + c + d) / 18446744073709551616 : Nat) : Int), .int .u64 (((x * y + c + d) % 18446744073709551616 : Nat) : Int)]) ∧ w' = w := by
 obtain ⟨e1, e2, e3⟩ := madd_eq hx hy hc hd
 have HM := Lib.hid (fun W => Tryz.bits_Mul64 x y hx hy W)
 obtain ⟨hi, hhi⟩ : ∃ hi, x * y / 18446744073709551616 = hi := ⟨_, rfl⟩
 obtain ⟨lo, hlo⟩ : ∃ lo, x * y % 18446744073709551616 = lo := ⟨_, rfl⟩
 obtain ⟨H, hH⟩ : ∃ H, (x * y + c + d) / 18446744073709551616 = H := ⟨_, rfl⟩
 obtain ⟨L, hL⟩ : ∃ L, (x * y + c + d) % 18446744073709551616 = L := ⟨_, rfl⟩
 rw [hhi, hlo] at HM
 rw [hlo, hL] at e1
 rw [hhi, hlo, hH] at e2
 rw [hH] at e3
 rw [hH, hL]
 clear hhi hlo hH hL hx hy hc hd
 obtain ⟨s, hs⟩ : ∃ s, (lo + c) % 18446744073709551616 = s := ⟨_, rfl⟩
 obtain ⟨k, hk⟩ : ∃ k, (lo + c) / 18446744073709551616 = k := ⟨_, rfl⟩
 obtain ⟨k2, hk2⟩ : ∃ k2, (s + d) / 18446744073709551616 = k2 := ⟨_, rfl⟩
 have a1 : ∀ W, (callFunc 208 #[.int .u64 (lo : Int), .int .u64 (c : Int), .int .u64 0]).run Tryz.prog W = .ok (.value (.tuple #[.int .u64 (s : Int), .int .u64 (k : Int)])) W := fun W => by
  have := add64_run lo c 0 (by decide) W
  rwa [Nat.add_zero, hs, hk] at this
 rw [hs, hk, hk2] at e2
 rw [hs] at e1
 have a2 : ∀ W, (callFunc 208 #[.int .u64 (s : Int), .int .u64 (d : Int), .int .u64 0]).run Tryz.prog W = .ok (.value (.tuple #[.int .u64 (L : Int), .int .u64 (k2 : Int)])) W := fun W => by
  have := add64_run s d 0 (by decide) W
  rwa [Nat.add_zero, e1, hk2] at this
 have w1 : (hi : Int) + (k : Int) ≤ 18446744073709551615 := by omega
 have w2 : IntKind.u64.wrap ((hi : Int) + (k : Int) + (k2 : Int)) = (H : Int) := by rw [IntKind.wrap_u64]; omega
 clear hs hk hk2 e1 e2 e3
 go_enter Tryz.func186, Tryz.ntmps186
 go_wp2_with fail
 refine (HM.out _).mono ?_
 rintro e w1 ⟨rfl, rfl⟩
 go_wp2
 go_ret2
 exact ⟨rfl, rfl⟩
end Go.Proofs.YtgkhjeefcflmcaaGreatDoor
