/-
  Layer 15 (view): tokens as the program has them.
-/
import Derived.Test.YtpjgapnihmiceaaMx00
import Derived.Deep.RegionHeld
import Derived.BigQuiet
namespace Go.Proofs.Ytpjgapnihmiceaa
open Go.RowKit
def tvCells (t : Tv) : List Value := [.int .i64 t.k, .int .i64 t.f, .int .i64 t.t, .bool t.a, .int .i64 t.e]
theorem tv_enc : EncOk tvCells 5 := ⟨by omega, fun e => ⟨rfl, fun u hu => by simp [tvCells] at hu; rcases hu with rfl | rfl | rfl | rfl | rfl <;> rfl⟩⟩
theorem tv_get {w : World} {B : Nat} {A : Option Addr} {l : List Tv} (h : CellsV tvCells w B A l) {i : Nat} {x : Tv} (hx : l[i]? = some x) : ∃ b o, A = some ⟨b, o, none⟩ ∧ b < B ∧
  w.cell? ⟨b, o + i * 5, none⟩ = some (.int .i64 x.k) ∧ w.cell? ⟨b, o + i * 5 + 1, none⟩ = some (.int .i64 x.f) ∧ w.cell? ⟨b, o + i * 5 + 2, none⟩ = some (.int .i64 x.t) ∧ w.cell? ⟨b, o + i * 5 + 3, none⟩ = some (.bool x.a) ∧ w.cell? ⟨b, o + i * 5 + 4, none⟩ = some (.int .i64 x.e) := by
 have hp : 0 < l.length := by have := (List.getElem?_eq_some_iff.1 hx).1; omega
 obtain ⟨b, o, e, hb, hc⟩ := CellsV.get tv_enc h hp
 exact ⟨b, o, e, hb, hc i x hx 0 _ rfl, hc i x hx 1 _ rfl, hc i x hx 2 _ rfl, hc i x hx 3 _ rfl, hc i x hx 4 _ rfl⟩
structure Sl where
 A : Option Addr
 n : Nat
 c : Nat
def Sl.v (s : Sl) : Value := .slice s.A s.n s.c
end Go.Proofs.Ytpjgapnihmiceaa
namespace Go.Proofs.Ytpjgapnihmiceaa
open Go.RowKit
set_option linter.unusedSimpArgs false
structure Ne where
 k : Int
 f : Int
 t : Int
 A : Option Addr
 n : Nat
 c : Nat
instance : Inhabited Ne := ⟨⟨0, 0, 0, none, 0, 0⟩⟩
def neCells (x : Ne) : List Value := [.int .i64 x.k, .int .i64 x.f, .int .i64 x.t, .slice x.A x.n x.c]
theorem ne_enc : EncOk neCells 4 := ⟨by omega, fun e => ⟨rfl, fun u hu => by simp [neCells] at hu; rcases hu with rfl | rfl | rfl | rfl <;> rfl⟩⟩
theorem node_slice : SliceV neCells 4 24 49 := ⟨ne_enc, Try.underlying24, .agg #[.int .i64 0, .int .i64 0, .int .i64 0, .slice none 0 0], 48, by omega, by kernel_rfl, by kernel_rfl⟩
def IsNd (w : World) (B : Nat) (x : Ne) (n : Nd) : Prop := x.k = n.k ∧ x.f = n.f ∧ x.t = n.t ∧ x.n = n.kids.length ∧ x.n ≤ x.c ∧ x.c ≤ 9223372036854775807 ∧ Nums w B x.A n.kids
def NdsAt (w : World) (B : Nat) (A : Option Addr) (T : List Nd) : Prop := ∃ xs, CellsV neCells w B A xs ∧ xs.length = T.length ∧ ∀ (i : Nat) (x : Ne) (n : Nd), xs[i]? = some x → T[i]? = some n → IsNd w B x n
section
variable {w w' : World} {B B' : Nat} {A : Option Addr} {T : List Nd}
theorem IsNd.below {x : Ne} {n : Nd} (h : IsNd w B x n) (hb : Below B' w w') (hB : B ≤ B') : IsNd w' B x n := ⟨h.1, h.2.1, h.2.2.1, h.2.2.2.1, h.2.2.2.2.1, h.2.2.2.2.2.1, NumsK.below h.2.2.2.2.2.2 hb hB⟩
theorem IsNd.more {x : Ne} {n : Nd} (h : IsNd w B x n) (hB : B ≤ B') : IsNd w B' x n := ⟨h.1, h.2.1, h.2.2.1, h.2.2.2.1, h.2.2.2.2.1, h.2.2.2.2.2.1, NumsK.more h.2.2.2.2.2.2 hB⟩
theorem NdsAt.below (h : NdsAt w B A T) (hb : Below B' w w') (hB : B ≤ B') : NdsAt w' B A T := by
 obtain ⟨xs, h1, h2, h3⟩ := h
 exact ⟨xs, h1.below hb hB, h2, fun i x n hx hn => (h3 i x n hx hn).below hb hB⟩
theorem NdsAt.more (h : NdsAt w B A T) (hB : B ≤ B') : NdsAt w B' A T := by
 obtain ⟨xs, h1, h2, h3⟩ := h
 exact ⟨xs, h1.more hB, h2, fun i x n hx hn => (h3 i x n hx hn).more hB⟩
theorem NdsAt.on (h : NdsAt w B A T) (hB : B ≤ w.heap.size) (hb : Below w.heap.size w w') : NdsAt w' w'.heap.size A T := (h.below hb hB).more (Nat.le_trans hB hb.size)
theorem NdsAt.nil : NdsAt w B A [] := ⟨[], CellsV.nil, rfl, fun i x n hx => by simp at hx⟩
theorem NdsAt.get (h : NdsAt w B A T) (hp : 0 < T.length) : ∃ b o, A = some ⟨b, o, none⟩ ∧ b < B ∧ ∀ (i : Nat) (n : Nd), T[i]? = some n → ∃ K m c, w.cell? ⟨b, o + i * 4, none⟩ = some (.int .i64 n.k) ∧ w.cell? ⟨b, o + i * 4 + 1, none⟩ = some (.int .i64 n.f) ∧ w.cell? ⟨b, o + i * 4 + 2, none⟩ = some (.int .i64 n.t) ∧ w.cell? ⟨b, o + i * 4 + 3, none⟩ = some (.slice K m c) ∧ m = n.kids.length ∧ m ≤ c ∧ c ≤ 9223372036854775807 ∧ Nums w B K n.kids := by
 obtain ⟨xs, h1, h2, h3⟩ := h
 obtain ⟨b, o, e, hb, hc⟩ := CellsV.get ne_enc h1 (by omega)
 refine ⟨b, o, e, hb, fun i n hn => ?_⟩
 have hi := (List.getElem?_eq_some_iff.1 hn).1
 have hx : xs[i]? = some xs[i] := List.getElem?_eq_getElem (by omega)
 obtain ⟨r1, r2, r3, r4, r5, r6, r7⟩ := h3 i _ n hx hn
 refine ⟨xs[i].A, xs[i].n, xs[i].c, ?_, ?_, ?_, hc i _ hx 3 _ rfl, r4, r5, r6, r7⟩
 ·rw [← r1]; exact hc i _ hx 0 _ rfl
 ·rw [← r2]; exact hc i _ hx 1 _ rfl
 ·rw [← r3]; exact hc i _ hx 2 _ rfl
end
def trV (A : Option Addr) (n c : Nat) : Value := .agg #[.slice A n c]
def SmallT (T : List Nd) : Prop := T.length ≤ 40 ∧ ∀ n ∈ T, n.kids.length ≤ 20
end Go.Proofs.Ytpjgapnihmiceaa
namespace Go.Proofs.Ytpjgapnihmiceaa
open Go.RowKit
set_option linter.unusedSimpArgs false
theorem one_set {w : World} {A : Option Addr} {n cap i : Nat} {T : List Nd} (hb : NdsAt w w.heap.size A T) (hl : T.length = n) (hi : i < n) (TT TN : TypeId) : ∃ b o K q c, A = some ⟨b, o, none⟩ ∧ b < w.heap.size ∧ w.cell? ⟨b, o + i * 4, none⟩ = some (.int .i64 (nd T i).k) ∧ w.cell? ⟨b, o + i * 4 + 1, none⟩ = some (.int .i64 (nd T i).f) ∧ w.cell? ⟨b, o + i * 4 + 2, none⟩ = some (.int .i64 (nd T i).t) ∧ w.cell? ⟨b, o + i * 4 + 3, none⟩ = some (.slice K q c) ∧ q = (nd T i).kids.length ∧ q ≤ c ∧ c ≤ 9223372036854775807 ∧ Nums w w.heap.size K (nd T i).kids ∧ Below w.heap.size w ((w.alloc (.cells #[.slice (some ⟨b, o, none⟩) n cap] TT)).alloc (.cells #[.int .i64 (nd T i).k, .int .i64 (nd T i).f, .int .i64 (nd T i).t, .slice K q c] TN)) := by
 obtain ⟨b, o, rfl, hbB, hget⟩ := hb.get (by omega)
 obtain ⟨K, q, c, c0, c1, c2, c3, hm, hmc, hcc, hK⟩ := hget i _ (at_nd (by omega))
 exact ⟨b, o, K, q, c, rfl, hbB, c0, c1, c2, c3, hm, hmc, hcc, hK, ((Below.refl _ _).alloc (Nat.le_refl _) _).alloc (by simp) _⟩
end Go.Proofs.Ytpjgapnihmiceaa
namespace Go.Proofs.Ytpjgapnihmiceaa
open Go.RowKit
set_option linter.unusedSimpArgs false
theorem par_take {T : List Nd} {k : Nat} {x : Nd} (h : T[k]? = some x) (i : Int) : parN (T.take (k + 1)) i = parN (T.take k) i + x.kids.count i := by
 unfold parN
 rw [List.take_add_one, h, List.map_append, List.sum_append]
 simp
theorem count_take {l : List Int} {j : Nat} {y : Int} (h : l[j]? = some y) (i : Int) : (l.take (j + 1)).count i = (l.take j).count i + (if y = i then 1 else 0) := by
 rw [List.take_add_one, h, List.count_append]
 by_cases e : y = i
 ·subst e; simp
 ·rw [if_neg e]; simp [e]
theorem par_small {T : List Nd} (h : SmallT T) (k : Nat) (i : Int) : parN (T.take k) i ≤ 20 * k := by
 induction k with
 | zero => simp [parN]
 | succ k ih =>
  rcases hk : T[k]? with _ | x
  ·rw [List.take_add_one, hk]; simp; omega
  ·rw [par_take hk]
   have h1 := h.2 x (List.mem_of_getElem? hk)
   have h2 : x.kids.count i ≤ x.kids.length := List.count_le_length
   omega
end Go.Proofs.Ytpjgapnihmiceaa
namespace Go.Proofs.Ytpjgapnihmiceaa
open Go.RowKit
set_option linter.unusedSimpArgs false
theorem heldB_cons (T : List Nd) (c : Int) (l : List Int) (tok : Int) : heldB T (c :: l) tok = (decide ((kd T c).f ≤ tok ∧ tok < (kd T c).t) || heldB T l tok) := rfl
theorem dropT_at {α : Type} {l : List α} {i : Nat} {x : α} (h : l[i]? = some x) : l.drop i = x :: l.drop (i + 1) := by
 obtain ⟨hi, e⟩ := List.getElem?_eq_some_iff.1 h
 rw [List.drop_eq_getElem_cons hi, e]
set_option maxHeartbeats 4000000 in
set_option maxRecDepth 100000 in
theorem refOwns_run (A : Option Addr) (n cap i : Nat) (tok m : Int) (T : List Nd) (w : World) (hb : NdsAt w w.heap.size A T) (hl : Hid (T.length = n)) (hi : i < n) (hV : Hid (Valid T m)) (v : Bool) (hv : Hid (ownB T i tok = v)) :
  Calls Try.prog 41 #[trV A n cap, .int .i64 i, .int .i64 tok] w fun e w' => e = .returned (.bool v) ∧ Below w.heap.size w w' := by
 obtain ⟨b, o, K, q, c, rfl, hbB, c0, c1, c2, c3, hm, hmc, hcc, hK, hB⟩ := one_set (cap := cap) hb hl.out hi 26 49
 have hiz : (i : Int) < (n : Int) := by omega
 have HA : Hid (∀ c ∈ (nd T i).kids, 0 ≤ c ∧ c < (i : Int)) := hV.out.kid i (by have := hl.out; omega)
 have HV : Hid ((decide ((nd T i).f ≤ tok ∧ tok < (nd T i).t) && !heldB T (nd T i).kids tok) = v) := hv.out
 clear hv
 generalize nd T i = x at *
 unfold trV
 obtain ⟨S, hS⟩ : ∃ S, w.heap.size = S := ⟨_, rfl⟩
 rw [hS] at hbB hB hK hb ⊢
 obtain ⟨W, hW⟩ : ∃ W, (w.alloc (.cells #[.slice (some ⟨b, o, none⟩) n cap] 26)).alloc (.cells #[.int .i64 x.k, .int .i64 x.f, .int .i64 x.t, .slice K q c] 49) = W := ⟨_, rfl⟩
 have d0 : W.cell? ⟨S, 0, none⟩ = some (.slice (some ⟨b, o, none⟩) n cap) := by rw [← hW, ← hS]; simp
 have e0 : W.cell? ⟨S + 1, 0, none⟩ = some (.int .i64 x.k) := by rw [← hW, ← hS]; simp
 have e1 : W.cell? ⟨S + 1, 1, none⟩ = some (.int .i64 x.f) := by rw [← hW, ← hS]; simp
 have e2 : W.cell? ⟨S + 1, 2, none⟩ = some (.int .i64 x.t) := by rw [← hW, ← hS]; simp
 have e3 : W.cell? ⟨S + 1, 3, none⟩ = some (.slice K q c) := by rw [← hW, ← hS]; simp
 rw [hW] at hB
 have BX := Lib.hid hB
 have HK : Hid (Nums W S K x.kids) := NumsK.below hK hB (Nat.le_refl _)
 have HW : Hid (W.heap.size = S + 2) := by show _ = _; rw [← hW, ← hS]; simp
 have HG : Hid (NdsAt W S (some ⟨b, o, none⟩) T) := hb.below hB (Nat.le_refl _)
 have HM := Lib.hid hm
 clear hK hb hB hm
 by_cases hin : x.f ≤ tok ∧ tok < x.t
 rotate_left
 ·obtain rfl : v = false := by rw [← HV.out, decide_eq_false hin]; rfl
  have hd : tok < x.f ∨ (x.f ≤ tok ∧ x.t ≤ tok) := by omega
  clear hin HV
  rcases hd with h1 | ⟨h1, h2⟩ <;> (go_enter Try.func41, Try.ntmps41; go_wp2_with fail; go_ret; exact ⟨rfl, BX.out⟩)
 ·have HV2 : Hid ((!heldB T x.kids tok) = v) := by
   have := HV.out
   rw [decide_eq_true hin] at this
   exact this
  obtain ⟨h1, h2⟩ := hin
  clear HV
  go_enter Try.func41, Try.ntmps41
  go_wp2_with fail
  go_loopg [8] (q + 1) (fun h s8 wr => ∃ r : Nat, s8 = .int .i64 r ∧ Hid (r ≤ q ∧ r + h = q + 1) ∧ Hid (heldB T x.kids tok = heldB T (x.kids.drop r) tok) ∧ Hid (Below (S + 2) W wr))
  case atStart => exact ⟨0, rfl, by show _ ∧ _; omega, rfl, Below.refl _ _⟩
  case round =>
   obtain ⟨r, rfl, HR, HO, BW⟩ := hrel
   generalize wr = wq at *
   have d0' := (BW.out.cell (p := ⟨S, 0, none⟩) (by show S < _; omega)).trans d0
   have e0' := (BW.out.cell (p := ⟨S + 1, 0, none⟩) (by show S + 1 < _; omega)).trans e0
   have e1' := (BW.out.cell (p := ⟨S + 1, 1, none⟩) (by show S + 1 < _; omega)).trans e1
   have e2' := (BW.out.cell (p := ⟨S + 1, 2, none⟩) (by show S + 1 < _; omega)).trans e2
   have e3' := (BW.out.cell (p := ⟨S + 1, 3, none⟩) (by show S + 1 < _; omega)).trans e3
   have hsz : S + 2 ≤ wq.heap.size := by rw [← HW.out]; exact BW.out.size
   by_cases hr : r < q
   ·have hrz : (r : Int) < (q : Int) := by omega
    obtain ⟨y, hy⟩ : ∃ y, x.kids[r]? = some y := ⟨_, List.getElem?_eq_getElem (by have := HM.out; omega)⟩
    obtain ⟨kb, ko, rfl, hkb, hkc⟩ := HK.out (by have := HM.out; omega)
    have k0 := (BW.out.cell (p := ⟨kb, ko + r, none⟩) (by show kb < _; omega)).trans (hkc r y hy)
    obtain ⟨hy1, hy2⟩ := HA.out y (List.mem_of_getElem? hy)
    obtain ⟨z, rfl⟩ : ∃ z : Nat, y = z := ⟨y.toNat, by omega⟩
    have hzn : z < n := by omega
    obtain ⟨b2, o2, eb, hb2, hget⟩ := HG.out.get (by have := hl.out; omega)
    cases eb
    obtain ⟨K2, q2, cc2, g0, g1, g2, g3, gm, _, _, _⟩ := hget z _ (at_nd (by have := hl.out; omega))
    clear gm
    have ez : kd T (z : Int) = nd T z := by unfold kd; simp
    have HO2 : Hid (heldB T x.kids tok = (decide ((nd T z).f ≤ tok ∧ tok < (nd T z).t) || heldB T (x.kids.drop (r + 1)) tok)) := by
     show _ = _
     rw [HO.out, dropT_at hy, heldB_cons, ez]
    generalize nd T z = u at *
    have past : ∀ (p : Addr) (v : Value), p.block < wq.heap.size → wq.cell? p = some v → (wq.alloc (.cells #[.int .i64 0, .int .i64 0, .int .i64 0, .slice none 0 0] 49)).cell? p = some v := fun p v hp hv => by
     rw [World.cell?_alloc_lt _ _ p hp]; exact hv
    have f0 := (BW.out.cell (p := ⟨b, o + z * 4, none⟩) (by show b < _; omega)).trans g0
    have f1 := (BW.out.cell (p := ⟨b, o + z * 4 + 1, none⟩) (by show b < _; omega)).trans g1
    have f2 := (BW.out.cell (p := ⟨b, o + z * 4 + 2, none⟩) (by show b < _; omega)).trans g2
    have f3 := (BW.out.cell (p := ⟨b, o + z * 4 + 3, none⟩) (by show b < _; omega)).trans g3
    have f0' := past _ _ (by show b < _; omega) f0
    have f1' := past _ _ (by show b < _; omega) f1
    have f2' := past _ _ (by show b < _; omega) f2
    have f3' := past _ _ (by show b < _; omega) f3
    have d0'' := past _ _ (by show S < _; omega) d0'
    have e3'' := past _ _ (by show S + 1 < _; omega) e3'
    have k0' := past _ _ (by show kb < _; omega) k0
    have BN : Hid (Below (S + 2) W (wq.alloc (.cells #[.int .i64 u.k, .int .i64 u.f, .int .i64 u.t, .slice K2 q2 cc2] 49)).drew) := (BW.out.alloc hsz _).drew
    have BR : Hid (Below S w (wq.alloc (.cells #[.int .i64 u.k, .int .i64 u.f, .int .i64 u.t, .slice K2 q2 cc2] 49)).drew) := BX.out.trans (BN.out.mono (by omega))
    clear past g0 g1 g2 g3 hget hkc hy hy1 hy2 HO
    go_upto_region 7 with fail
    go_region
    by_cases hu : u.f ≤ tok ∧ tok < u.t
    ·obtain rfl : v = false := by rw [← HV2.out, HO2.out, decide_eq_true hu]; rfl
     obtain ⟨u1, u2⟩ := hu
     clear HO2 HV2 BN
     go_wp2_with fail
     go_ret
     exact ⟨rfl, BR.out⟩
    ·have HO3 : Hid (heldB T x.kids tok = heldB T (x.kids.drop (r + 1)) tok) := by show _ = _; rw [HO2.out, decide_eq_false hu, Bool.false_or]
     have hd : tok < u.f ∨ (u.f ≤ tok ∧ u.t ≤ tok) := by omega
     clear HO2 hu BR
     rcases hd with u1 | ⟨u1, u2⟩
     all_goals
      go_wp2_with fail
      go_roundg (q - r)
      case measure => have := HR.out; omega
      case rel => exact ⟨r + 1, by go_num, by show _ ∧ _; have := HR.out; omega, HO3.out, BN.out⟩
   ·have hrz : ¬ (r : Int) < (q : Int) := by omega
    obtain rfl : v = true := by
     rw [← HV2.out, HO.out, List.drop_eq_nil_of_le (by have := HM.out; have := HR.out; omega)]
     rfl
    have BR : Hid (Below S w wq) := BX.out.trans (BW.out.mono (by omega))
    clear HV2 HO
    go_wp2_with fail
    go_ret
    exact ⟨rfl, BR.out⟩
end Go.Proofs.Ytpjgapnihmiceaa
namespace Go.Proofs.Ytpjgapnihmiceaa
open Go.RowKit
theorem int_slice : SliceK .i64 42 3 := ⟨Try.underlying42, 8, by omega, by kernel_rfl⟩
end Go.Proofs.Ytpjgapnihmiceaa
namespace Go.Proofs.Ytpjgapnihmiceaa
open Go.RowKit
set_option linter.unusedSimpArgs false
theorem one_i64 (w : World) (x : Int) (T : TypeId) : NumsK .i64 (w.alloc (.cells #[.int .i64 x] T)) (w.heap.size + 1) (some ⟨w.heap.size, 0, none⟩) [x] := fun _ => by
 refine ⟨_, _, rfl, by omega, fun i y hy => ?_⟩
 match i, hy with
 | 0, hy => cases hy; rw [World.cell?_alloc_at _ _ _ _ rfl]; rfl
theorem ownK_base {k : IntKind} {E : TypeId} {w : World} {b b2 : Nat} {v : Value} {l : List Int} (h : OwnK k E w b v l) (hb : b2 ≤ b) : OwnK k E w b2 v l := by
 obtain ⟨h1, h2⟩ := h
 refine ⟨h1, ?_⟩
 rcases h2 with h2 | ⟨g, cap, cur, hv, hg, r⟩
 ·exact .inl h2
 ·exact .inr ⟨g, cap, cur, hv, Nat.le_trans hb hg, r⟩
def OutK (L : List Int) (w : World) (v : Value) (w' : World) : Prop := OwnK .i64 3 w' w.heap.size v L ∧ Below w.heap.size w w'
theorem ownsF_step {T : List Nd} {i h : Nat} {f : Int} {v : Bool} (hv : ownB T i f = v) : ownsF T i (h + 1) f = (if v then [f] else []) ++ ownsF T i h (f + 1) := by
 rw [ownsF, hv]
 cases v <;> rfl
set_option maxHeartbeats 4000000 in
set_option maxRecDepth 100000 in
theorem refOwn_run (A : Option Addr) (n cap i : Nat) (m : Int) (T : List Nd) (w : World) (hb : NdsAt w w.heap.size A T) (hl : Hid (T.length = n)) (hi : i < n) (hV : Hid (Valid T m)) (hm : m ≤ 100) :
    Calls Try.prog 30 #[trV A n cap, .int .i64 i] w fun e w' => ∃ v, e = .returned v ∧ OutK (ownL T i) w v w' := by
  obtain ⟨b, o, K, q, c, rfl, hbB, c0, c1, c2, c3, _, hmc, hcc, _, _⟩ := one_set (cap := cap) hb hl.out hi 26 49
  have hiz : (i : Int) < (n : Int) := by omega
  obtain ⟨_, _, k3, k4, k5⟩ := hV.out.num i (by have := hl.out; omega)
  obtain ⟨N, hN⟩ : ∃ N : Nat, (nd T i).t = (nd T i).f + (N : Int) := ⟨((nd T i).t - (nd T i).f).toNat, by omega⟩
  have HL : Hid (ownL T i = ownsF T i N (nd T i).f) := by
    show _ = _
    unfold ownL
    rw [show ((nd T i).t - (nd T i).f).toNat = N by omega]
  have hN100 : N ≤ 100 := by omega
  rw [hN] at c2 k5
  have HO : Hid (∀ (tok : Int) (w : World), NdsAt w w.heap.size (some ⟨b, o, none⟩) T → ∀ v, ownB T i tok = v → Calls Try.prog 41 #[.agg #[.slice (some ⟨b, o, none⟩) n cap], .int .i64 i, .int .i64 tok] w fun e w' => e = .returned (.bool v) ∧ Below w.heap.size w w') := fun tok w hw v hv => refOwns_run (some ⟨b, o, none⟩) n cap i tok m T w hw hl hi hV v hv
  obtain ⟨f, hf⟩ : ∃ f, (nd T i).f = f := ⟨_, rfl⟩
  rw [hf] at c1 c2 k3 HL k5
  clear k4 hN hV hf
  unfold trV
  obtain ⟨S, hS⟩ : ∃ S, w.heap.size = S := ⟨_, rfl⟩
  unfold OutK
  rw [hS] at hbB hb ⊢
  obtain ⟨W, hW⟩ : ∃ W, w.alloc (.cells #[.slice (some ⟨b, o, none⟩) n cap] 26) = W := ⟨_, rfl⟩
  have hB : Below S w W := by rw [← hW, ← hS]; exact (Below.refl _ _).alloc (Nat.le_refl _) _
  have hWS : W.heap.size = S + 1 := by rw [← hW, ← hS]; simp
  have d0 : W.cell? ⟨S, 0, none⟩ = some (.slice (some ⟨b, o, none⟩) n cap) := by rw [← hW, ← hS]; simp
  have g1 := (hB.cell (p := ⟨b, o + i * 4 + 1, none⟩) (by show b < _; omega)).trans c1
  have g2 := (hB.cell (p := ⟨b, o + i * 4 + 2, none⟩) (by show b < _; omega)).trans c2
  have HG : Hid (NdsAt W S (some ⟨b, o, none⟩) T) := hb.below hB (Nat.le_refl _)
  have BX := Lib.hid hB
  have HW := Lib.hid hWS
  clear hb hB hWS c0 c1 c2 c3
  go_enter Try.func30, Try.ntmps30
  go_wp2_with fail
  go_loopg [5, 6] (N + 1) (fun h s5 s6 wr => ∃ (d : Nat) (tok : Int) (l : List Int), s6 = .int .i64 tok ∧ Hid (tok = f + (d : Int) ∧ d ≤ N ∧ d + h = N + 1 ∧ l.length ≤ d) ∧ Hid (ownsF T i N f = l ++ ownsF T i (N - d) tok) ∧ Hid (OwnK .i64 3 wr (S + 1) s5 l) ∧ Hid (Below (S + 1) W wr))
  case atStart => exact ⟨0, f, [], rfl, by show _ ∧ _; simp, rfl, OwnK.nil _ _ _ _, Below.refl _ _⟩
  case round =>
    obtain ⟨d, tok, l, rfl, HD, HF, OW, BW⟩ := hrel
    generalize wr = wq at *
    have d0' := (BW.out.cell (p := ⟨S, 0, none⟩) (by show S < _; omega)).trans d0
    have g1' := (BW.out.cell (p := ⟨b, o + i * 4 + 1, none⟩) (by show b < _; omega)).trans g1
    have g2' := (BW.out.cell (p := ⟨b, o + i * 4 + 2, none⟩) (by show b < _; omega)).trans g2
    have hsz : S + 1 ≤ wq.heap.size := by rw [← HW.out]; exact BW.out.size
    by_cases hd : d < N
    · have hdz : tok < f + (N : Int) := by have := HD.out; omega
      obtain ⟨v, hv⟩ : ∃ v, ownB T i tok = v := ⟨_, rfl⟩
      have HC := Lib.hid (HO.out tok wq ((HG.out.below BW.out (by omega)).more (by omega)) v hv)
      have HF2 : Hid (ownsF T i N f = l ++ ((if v then [tok] else []) ++ ownsF T i (N - (d + 1)) (tok + 1))) := by
        show _ = _
        rw [HF.out, show N - d = N - (d + 1) + 1 by omega, ownsF_step hv]
      have htw : IntKind.i64.wrap (tok + 1) = tok + 1 := by rw [IntKind.wrap_i64]; have := HD.out; omega
      clear hv HF
      go_wp2_with fail
      refine HC.out.mono ?_
      rintro e w1 ⟨rfl, hw⟩
      have O1 : Hid (OwnK .i64 3 w1 (S + 1) u5 l) := OW.out.below hw
      have B1 : Hid (Below (S + 1) W w1) := BW.out.trans (hw.mono hsz)
      have hs1 : S + 1 ≤ w1.heap.size := Nat.le_trans hsz hw.size
      clear hw OW BW HC d0' g1' g2'
      cases v with
      | false =>
        have HF3 : Hid (ownsF T i N f = l ++ ownsF T i (N - (d + 1)) (tok + 1)) := by show _ = _; rw [HF2.out]; rfl
        clear HF2
        go_wp2_with fail
        go_roundg (N - d)
        case measure => have := HD.out; omega
        case rel => exact ⟨d + 1, tok + 1, l, by go_num, by show _ ∧ _; have := HD.out; omega, HF3.out, O1.out, B1.out⟩
      | true =>
        have HF3 : Hid (ownsF T i N f = (l ++ [tok]) ++ ownsF T i (N - (d + 1)) (tok + 1)) := by show _ = _; rw [HF2.out, List.append_assoc]; rfl
        have OA : Hid (OwnK .i64 3 (w1.alloc (.cells #[.int .i64 tok] 3)) (S + 1) u5 l) := O1.out.below ((Below.refl _ _).alloc (Nat.le_refl _) _)
        have NA : Hid (NumsK .i64 (w1.alloc (.cells #[.int .i64 tok] 3)) (w1.heap.size + 1) (some ⟨w1.heap.size, 0, none⟩) [tok]) := one_i64 _ _ _
        have BA : Hid (Below (S + 1) W (w1.alloc (.cells #[.int .i64 tok] 3))) := B1.out.alloc hs1 _
        have hll : Hid (l.length ≤ 500000) := by show _ ≤ _; have := HD.out; omega
        clear HF2
        go_wp2_with (first
          | (at_builtin
             refine wpList_app int_slice _ rfl (.tmp 27) (.tmp 29) rfl (S + 1) u5 l rfl OA.out (w1.heap.size + 1) (some ⟨w1.heap.size, 0, none⟩) 1 1 [tok] rfl NA.out rfl hll.out (by simp) (by simp; omega) ?_
             intro v7 w7 o7 g7 t7
             have O7 := Lib.hid o7
             have B7 : Hid (Below (S + 1) W w7) := BA.out.grown g7 (by simp; omega) (own_ge OA.out)
             clear o7 g7 t7)
          | fail)
        go_roundg (N - d)
        case measure => have := HD.out; omega
        case rel => exact ⟨d + 1, tok + 1, l ++ [tok], by go_num, by show _ ∧ _; have := HD.out; simp; omega, HF3.out, O7.out, B7.out⟩
    · have hdz : ¬ tok < f + (N : Int) := by have := HD.out; omega
      have hL : ownL T i = l := by
        rw [HL.out, HF.out, show N - d = 0 by omega]
        exact List.append_nil _
      have BR : Hid (Below S w wq) := BX.out.trans (BW.out.mono (by omega))
      have OR : Hid (OwnK .i64 3 wq S u5 (ownL T i)) := by show OwnK _ _ _ _ _ _; rw [hL]; exact ownK_base OW.out (by omega)
      clear hL HF
      go_wp2_with fail
      go_ret
      exact ⟨_, rfl, OR.out, BR.out⟩
end Go.Proofs.Ytpjgapnihmiceaa
namespace Go.Proofs.Ytpjgapnihmiceaa
open Go.RowKit
set_option linter.unusedSimpArgs false
set_option linter.unusedVariables false
set_option maxHeartbeats 4000000 in
set_option maxRecDepth 100000 in
theorem vIn_run (A : Option Addr) (n cap : Nat) (k : Int) (T : List Nd) (w : World) (hl : Hid (T.length = n)) (v : Bool) (hv : Hid (inT T k = v)) :
  Calls Try.prog 14 #[trV A n cap, .int .i64 k] w fun e w' => e = .returned (.bool v) ∧ Below w.heap.size w w' := by
 have HV : Hid (decide (0 ≤ k ∧ k < (n : Int)) = v) := by show _ = _; rw [← hl.out]; exact hv.out
 unfold trV
 obtain ⟨S, hS⟩ : ∃ S, w.heap.size = S := ⟨_, rfl⟩
 obtain ⟨W, hW⟩ : ∃ W, w.alloc (.cells #[.slice A n cap] 26) = W := ⟨_, rfl⟩
 have BX : Hid (Below S w W) := by show Below _ _ _; rw [← hW, ← hS]; exact (Below.refl _ _).alloc (Nat.le_refl _) _
 have d0 : W.cell? ⟨S, 0, none⟩ = some (.slice A n cap) := by rw [← hW, ← hS]; simp
 rw [hS]
 clear hv hl
 by_cases h0 : 0 ≤ k
 ·by_cases h1 : k < (n : Int)
  ·obtain rfl : v = true := by rw [← HV.out, decide_eq_true ⟨h0, h1⟩]
   clear HV
   go_enter Try.func14, Try.ntmps14
   go_wp2_with fail
   go_ret
   exact ⟨rfl, BX.out⟩
  ·obtain rfl : v = false := by rw [← HV.out, decide_eq_false (fun h => h1 h.2)]
   clear HV
   go_enter Try.func14, Try.ntmps14
   go_wp2_with fail
   go_ret
   exact ⟨rfl, BX.out⟩
 ·obtain rfl : v = false := by rw [← HV.out, decide_eq_false (fun h => h0 h.1)]
  clear HV
  go_enter Try.func14, Try.ntmps14
  go_wp2_with fail
  go_ret
  exact ⟨rfl, BX.out⟩
set_option maxHeartbeats 4000000 in
set_option maxRecDepth 100000 in
theorem vOwn_run (A : Option Addr) (n cap : Nat) (k m : Int) (T : List Nd) (w : World) (hb : NdsAt w w.heap.size A T) (hl : Hid (T.length = n)) (hV : Hid (Valid T m)) (hm : m ≤ 100) :
  Calls Try.prog 13 #[trV A n cap, .int .i64 k] w fun e w' => ∃ v, e = .returned v ∧ OutK (ownV T k) w v w' := by
 obtain ⟨q, hq⟩ : ∃ q, inT T k = q := ⟨_, rfl⟩
 obtain ⟨lx, hlx⟩ : ∃ lx, ownV T k = lx := ⟨_, rfl⟩
 rw [hlx]
 have HLX := Lib.hid hlx
 clear hlx
 have HI := Lib.hid (fun w => vIn_run A n cap k T w hl q hq)
 have HO := Lib.hid (fun i hi w hb => refOwn_run A n cap i m T w hb hl hi hV hm)
 unfold OutK at *
 unfold trV at *
 obtain ⟨S, hS⟩ : ∃ S, w.heap.size = S := ⟨_, rfl⟩
 obtain ⟨W, hW⟩ : ∃ W, w.alloc (.cells #[.slice A n cap] 26) = W := ⟨_, rfl⟩
 have hB : Below S w W := by rw [← hW, ← hS]; exact (Below.refl _ _).alloc (Nat.le_refl _) _
 have hWS : W.heap.size = S + 1 := by rw [← hW, ← hS]; simp
 have d0 : W.cell? ⟨S, 0, none⟩ = some (.slice A n cap) := by rw [← hW, ← hS]; simp
 rw [hS] at hb ⊢
 have HG : Hid (NdsAt W S A T) := hb.below hB (Nat.le_refl _)
 have BX := Lib.hid hB
 have HW := Lib.hid hWS
 have HK := Lib.hid hq
 clear hb hB hWS hq
 go_enter Try.func13, Try.ntmps13
 go_wp2_with fail
 refine (HI.out W).mono ?_
 rintro e w1 ⟨rfl, hw⟩
 have B1 : Hid (Below S w w1) := BX.out.trans (hw.mono (by have := HW.out; omega))
 have d1 := (hw.cell (p := ⟨S, 0, none⟩) (by show S < _; have := HW.out; omega)).trans d0
 have hs1 : S ≤ w1.heap.size := by have := hw.size; have := HW.out; omega
 have HG1 : Hid (NdsAt w1 w1.heap.size A T) := (HG.out.below hw (by have := HW.out; omega)).more hs1
 clear hw HG BX HI
 cases q with
 | false =>
  obtain rfl : lx = [] := by rw [← HLX.out]; unfold ownV; rw [HK.out]; rfl
  go_wp2_with fail
  go_ret
  exact ⟨_, rfl, OwnK.nil _ _ _ _, B1.out⟩
 | true =>
  have hin := of_decide_eq_true HK.out
  rw [hl.out] at hin
  obtain ⟨i, rfl⟩ := Int.eq_ofNat_of_zero_le hin.1
  obtain rfl : lx = ownL T i := by rw [← HLX.out]; unfold ownV; rw [HK.out]; rfl
  have HC := Lib.hid (HO.out i (by omega) w1 HG1.out)
  clear HO HK hin HLX
  go_wp2_with fail
  refine HC.out.mono ?_
  rintro e w2 ⟨v, rfl, ho, hw2⟩
  have HOo : Hid (OwnK .i64 3 w2 S v (ownL T i)) := ownK_base ho hs1
  have B2 : Hid (Below S w w2) := B1.out.trans (hw2.mono hs1)
  clear ho hw2
  go_wp2_with fail
  go_ret
  exact ⟨_, rfl, HOo.out, B2.out⟩
end Go.Proofs.Ytpjgapnihmiceaa
