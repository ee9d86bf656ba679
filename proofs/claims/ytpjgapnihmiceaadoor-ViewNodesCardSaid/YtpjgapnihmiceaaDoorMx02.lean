/-
  The contracts of the document's 'one' and 'parents'.
-/
import Derived.Test.YtpjgapnihmiceaaDoorMx01
namespace Go.Proofs.YtpjgapnihmiceaaDoor
open Go.RowKit
set_option linter.unusedSimpArgs false
theorem one_num {T : List Nd} {i : Nat} {m : Int} {v : Bool} (h : oneB T i m = v) (hn : ¬ (0 ≤ (nd T i).k ∧ (nd T i).k ≤ 66 ∧ 0 ≤ (nd T i).f ∧ (nd T i).f ≤ (nd T i).t ∧ (nd T i).t ≤ m)) : v = false := by
 rw [← h]
 unfold oneB numOk
 rw [decide_eq_false hn]
 rfl
theorem one_kid {T : List Nd} {i : Nat} {m : Int} {v : Bool} (h : oneB T i m = v) {c : Int} (hc : c ∈ (nd T i).kids) (hn : ¬ (0 ≤ c ∧ c < (i : Int))) : v = false := by
 rw [← h]
 unfold oneB kidOk
 have : ((nd T i).kids.all fun c => decide (0 ≤ c ∧ c < (i : Int))) = false := by
  rw [List.all_eq_false]
  exact ⟨c, hc, by simpa using hn⟩
 rw [this]
 simp
theorem one_end {T : List Nd} {i : Nat} {m : Int} {v : Bool} (h : oneB T i m = v) (hn : (0 ≤ (nd T i).k ∧ (nd T i).k ≤ 66 ∧ 0 ≤ (nd T i).f ∧ (nd T i).f ≤ (nd T i).t ∧ (nd T i).t ≤ m)) (hk : ∀ c ∈ (nd T i).kids, 0 ≤ c ∧ c < (i : Int)) : v = endOk (ordAt T (nd T i).f (nd T i).kids) (nd T i).t := by
 rw [← h]
 unfold oneB numOk kidOk
 rw [decide_eq_true hn, List.all_eq_true.2 fun c hc => decide_eq_true (hk c hc)]
 rfl
theorem one_set {w : World} {A : Option Addr} {n cap i : Nat} {T : List Nd} (hb : NdsAt w w.heap.size A T) (hl : T.length = n) (hi : i < n) (TT TN : TypeId) : ∃ b o K q c, A = some ⟨b, o, none⟩ ∧ b < w.heap.size ∧ w.cell? ⟨b, o + i * 4, none⟩ = some (.int .i64 (nd T i).k) ∧ w.cell? ⟨b, o + i * 4 + 1, none⟩ = some (.int .i64 (nd T i).f) ∧ w.cell? ⟨b, o + i * 4 + 2, none⟩ = some (.int .i64 (nd T i).t) ∧ w.cell? ⟨b, o + i * 4 + 3, none⟩ = some (.slice K q c) ∧ q = (nd T i).kids.length ∧ q ≤ c ∧ c ≤ 9223372036854775807 ∧ Nums w w.heap.size K (nd T i).kids ∧ Below w.heap.size w ((w.alloc (.cells #[.slice (some ⟨b, o, none⟩) n cap] TT)).alloc (.cells #[.int .i64 (nd T i).k, .int .i64 (nd T i).f, .int .i64 (nd T i).t, .slice K q c] TN)) := by
 obtain ⟨b, o, rfl, hbB, hget⟩ := hb.get (by omega)
 obtain ⟨K, q, c, c0, c1, c2, c3, hm, hmc, hcc, hK⟩ := hget i _ (at_nd (by omega))
 exact ⟨b, o, K, q, c, rfl, hbB, c0, c1, c2, c3, hm, hmc, hcc, hK, ((Below.refl _ _).alloc (Nat.le_refl _) _).alloc (by simp) _⟩
set_option maxHeartbeats 4000000 in
set_option maxRecDepth 100000 in
theorem refOne_bad (A : Option Addr) (n cap i : Nat) (m : Int) (T : List Nd) (w : World) (hb : NdsAt w w.heap.size A T) (hl : Hid (T.length = n)) (hi : i < n) (hN : ¬ (0 ≤ (nd T i).k ∧ (nd T i).k ≤ 66 ∧ 0 ≤ (nd T i).f ∧ (nd T i).f ≤ (nd T i).t ∧ (nd T i).t ≤ m)) :
  Calls Tryd.prog 21 #[trV A n cap, .int .i64 i, .int .i64 m] w fun e w' => e = .returned (.bool false) ∧ Below w.heap.size w w' := by
 obtain ⟨b, o, K, q, c, rfl, hbB, c0, c1, c2, c3, hm, hmc, hcc, _, hB⟩ := one_set (cap := cap) hb hl.out hi 26 40
 have hiz : (i : Int) < (n : Int) := by omega
 generalize nd T i = x at *
 unfold trV
 obtain ⟨S, hS⟩ : ∃ S, w.heap.size = S := ⟨_, rfl⟩
 rw [hS] at hbB hB ⊢
 have BX := Lib.hid hB
 clear hB hb hm
 have hd : x.k < 0 ∨ (0 ≤ x.k ∧ 66 < x.k) ∨ (0 ≤ x.k ∧ x.k ≤ 66 ∧ x.f < 0) ∨ (0 ≤ x.k ∧ x.k ≤ 66 ∧ 0 ≤ x.f ∧ x.t < x.f) ∨ (0 ≤ x.k ∧ x.k ≤ 66 ∧ 0 ≤ x.f ∧ x.f ≤ x.t ∧ m < x.t) := by omega
 clear hN
 rcases hd with h1 | ⟨h1, h2⟩ | ⟨h1, h2, h3⟩ | ⟨h1, h2, h3, h4⟩ | ⟨h1, h2, h3, h4, h5⟩ <;> (go_enter Tryd.func21, Tryd.ntmps21; go_wp2_with fail; go_ret; exact ⟨rfl, BX.out⟩)
set_option maxHeartbeats 4000000 in
set_option maxRecDepth 100000 in
theorem refOne_good (A : Option Addr) (n cap i : Nat) (m : Int) (T : List Nd) (v : Bool) (w : World) (hb : NdsAt w w.heap.size A T) (hl : Hid (T.length = n)) (hi : i < n) (hn : n ≤ 40) (hN : 0 ≤ (nd T i).k ∧ (nd T i).k ≤ 66 ∧ 0 ≤ (nd T i).f ∧ (nd T i).f ≤ (nd T i).t ∧ (nd T i).t ≤ m) (hv : Hid (oneB T i m = v)) :
  Calls Tryd.prog 21 #[trV A n cap, .int .i64 i, .int .i64 m] w fun e w' => e = .returned (.bool v) ∧ Below w.heap.size w w' := by
 obtain ⟨b, o, K, q, c, rfl, hbB, c0, c1, c2, c3, hm, hmc, hcc, hK, hB⟩ := one_set (cap := cap) hb hl.out hi 26 40
 have hiz : (i : Int) < (n : Int) := by omega
 have E2 := Lib.hid (fun c h1 h2 => one_kid (i := i) (m := m) (c := c) hv.out h1 h2)
 have E3 := Lib.hid (fun h2 => one_end (i := i) (m := m) hv.out hN h2)
 obtain ⟨h1, h2, h3, h4, h5⟩ := hN
 clear hv
 generalize nd T i = x at *
 unfold trV
 obtain ⟨S, hS⟩ : ∃ S, w.heap.size = S := ⟨_, rfl⟩
 rw [hS] at hbB hB hK hb ⊢
 obtain ⟨W, hW⟩ : ∃ W, (w.alloc (.cells #[.slice (some ⟨b, o, none⟩) n cap] 26)).alloc (.cells #[.int .i64 x.k, .int .i64 x.f, .int .i64 x.t, .slice K q c] 40) = W := ⟨_, rfl⟩
 have d0 : W.cell? ⟨S, 0, none⟩ = some (.slice (some ⟨b, o, none⟩) n cap) := by rw [← hW, ← hS]; simp
 have e0 : W.cell? ⟨S + 1, 0, none⟩ = some (.int .i64 x.k) := by rw [← hW, ← hS]; simp
 have e1 : W.cell? ⟨S + 1, 1, none⟩ = some (.int .i64 x.f) := by rw [← hW, ← hS]; simp
 have e2 : W.cell? ⟨S + 1, 2, none⟩ = some (.int .i64 x.t) := by rw [← hW, ← hS]; simp
 have e3 : W.cell? ⟨S + 1, 3, none⟩ = some (.slice K q c) := by rw [← hW, ← hS]; simp
 rw [hW] at hB
 have BX := Lib.hid hB
 have HK : Hid (Nums W S K x.kids) := NumsK.below hK hB (Nat.le_refl _)
 have HW : Hid (W.heap.size = S + 2) := by show _ = _; rw [← hW, ← hS]; simp
 have HG : Hid (NdsAt W S (some ⟨b, o, none⟩) T) := hb.below hB (Nat.le_refl _)
 have HM := Lib.hid hm
 clear hK hb hB hm
 go_enter Tryd.func21, Tryd.ntmps21
 go_wp2_with fail
 go_loopg [8] (q + 1) (fun h s8 wr => ∃ j : Nat, s8 = .int .i64 j ∧ Hid (j ≤ q ∧ j + h = q + 1) ∧ Hid (∀ c ∈ x.kids.take j, 0 ≤ c ∧ c < (i : Int)) ∧ wr = W)
 case atStart => exact ⟨0, rfl, by show _ ∧ _; omega, by simp [Hid], rfl⟩
 case round =>
  obtain ⟨j, rfl, HJ, HB, hww⟩ := hrel
  obtain rfl := hww.symm
  by_cases hj : j < q
  ·have hjz : (j : Int) < (q : Int) := by omega
   obtain ⟨y, hy⟩ : ∃ y, x.kids[j]? = some y := ⟨_, List.getElem?_eq_getElem (by have := HM.out; omega)⟩
   obtain ⟨kb, ko, rfl, hkb, hkc⟩ := HK.out (by have := HM.out; omega)
   have k0 := hkc j y hy
   by_cases hy0 : 0 ≤ y ∧ y < (i : Int)
   ·obtain ⟨g1, g2⟩ := hy0
    have HB2 : Hid (∀ c ∈ x.kids.take (j + 1), 0 ≤ c ∧ c < (i : Int)) := by
     show ∀ c ∈ x.kids.take (j + 1), _
     rw [List.take_add_one, hy]
     intro c hc
     rcases List.mem_append.1 hc with hc | hc
     ·exact HB.out c hc
     ·simp at hc; subst hc; exact ⟨g1, g2⟩
    clear hy hkc HB
    go_wp2_with fail
    go_roundg (q - j)
    case measure => have := HJ.out; omega
    case rel => exact ⟨j + 1, by go_num, by show _ ∧ _; have := HJ.out; omega, HB2.out, rfl⟩
   ·obtain rfl := E2.out y (List.mem_of_getElem? hy) hy0
    have hy1 : y < 0 ∨ (0 ≤ y ∧ (i : Int) ≤ y) := by omega
    clear hy hkc HB hy0
    rcases hy1 with g1 | ⟨g1, g2⟩ <;> (go_wp2_with fail; go_ret; exact ⟨rfl, BX.out⟩)
  ·have hjz : ¬ (j : Int) < (q : Int) := by omega
   obtain rfl : j = q := by have := HJ.out; omega
   have HA : Hid (∀ c ∈ x.kids, 0 ≤ c ∧ c < (i : Int)) := fun c hc => HB.out c (by rw [HM.out, List.take_length]; exact hc)
   have HE := Lib.hid (E3.out HA.out)
   clear HB HJ E2 E3 hj
   go_wp2_with fail
   go_loopg [9, 10] (j + 1) (fun h s9 s10 wr => ∃ (r : Nat) (a : Int), s9 = .int .i64 a ∧ s10 = .int .i64 r ∧ Hid (r ≤ j ∧ r + h = j + 1) ∧ Hid (ordAt T x.f x.kids = ordAt T a (x.kids.drop r)) ∧ Hid (Below (S + 2) W wr))
   case atStart => exact ⟨0, x.f, rfl, rfl, by show _ ∧ _; omega, rfl, Below.refl _ _⟩
   case round =>
    obtain ⟨r, a, rfl, rfl, HR, HO, BW⟩ := hrel
    generalize wr = wq at *
    have d0' := (BW.out.cell (p := ⟨S, 0, none⟩) (by show S < _; omega)).trans d0
    have e0' := (BW.out.cell (p := ⟨S + 1, 0, none⟩) (by show S + 1 < _; omega)).trans e0
    have e1' := (BW.out.cell (p := ⟨S + 1, 1, none⟩) (by show S + 1 < _; omega)).trans e1
    have e2' := (BW.out.cell (p := ⟨S + 1, 2, none⟩) (by show S + 1 < _; omega)).trans e2
    have e3' := (BW.out.cell (p := ⟨S + 1, 3, none⟩) (by show S + 1 < _; omega)).trans e3
    have hsz : S + 2 ≤ wq.heap.size := by rw [← HW.out]; exact BW.out.size
    by_cases hr : r < j
    ·have hrz : (r : Int) < (j : Int) := by omega
     obtain ⟨y, hy⟩ : ∃ y, x.kids[r]? = some y := ⟨_, List.getElem?_eq_getElem (by have := HM.out; omega)⟩
     obtain ⟨kb, ko, rfl, hkb, hkc⟩ := HK.out (by have := HM.out; omega)
     have k0 := (BW.out.cell (p := ⟨kb, ko + r, none⟩) (by show kb < _; omega)).trans (hkc r y hy)
     obtain ⟨hy1, hy2⟩ := HA.out y (List.mem_of_getElem? hy)
     obtain ⟨z, rfl⟩ : ∃ z : Nat, y = z := ⟨y.toNat, by omega⟩
     have hzn : z < n := by omega
     obtain ⟨b2, o2, eb, hb2, hget⟩ := HG.out.get (by have := hl.out; omega)
     cases eb
     obtain ⟨K2, q2, cc2, g0, g1, g2, g3, gm, _, _, _⟩ := hget z _ (at_nd (by have := hl.out; omega))
     clear gm
     have ez : kd T (z : Int) = nd T z := by unfold kd; simp
     have HO2 : Hid (ordAt T x.f x.kids = if (nd T z).f < a then none else ordAt T (nd T z).t (x.kids.drop (r + 1))) := by
      show _ = _
      rw [HO.out, List.drop_eq_getElem_cons (by have := HM.out; omega), ordAt, (List.getElem?_eq_some_iff.1 hy).2, ez]
     generalize nd T z = u at *
     have past : ∀ (p : Addr) (v : Value), p.block < wq.heap.size → wq.cell? p = some v → (wq.alloc (.cells #[.int .i64 0, .int .i64 0, .int .i64 0, .slice none 0 0] 40)).cell? p = some v := fun p v hp hv => by
      rw [World.cell?_alloc_lt _ _ p hp]; exact hv
     have f0 := (BW.out.cell (p := ⟨b, o + z * 4, none⟩) (by show b < _; omega)).trans g0
     have f1 := (BW.out.cell (p := ⟨b, o + z * 4 + 1, none⟩) (by show b < _; omega)).trans g1
     have f2 := (BW.out.cell (p := ⟨b, o + z * 4 + 2, none⟩) (by show b < _; omega)).trans g2
     have f3 := (BW.out.cell (p := ⟨b, o + z * 4 + 3, none⟩) (by show b < _; omega)).trans g3
     have f0' := past _ _ (by show b < _; omega) f0
     have f1' := past _ _ (by show b < _; omega) f1
     have f2' := past _ _ (by show b < _; omega) f2
     have f3' := past _ _ (by show b < _; omega) f3
     have d0'' := past _ _ (by show S < _; omega) d0'
     have e3'' := past _ _ (by show S + 1 < _; omega) e3'
     have k0' := past _ _ (by show kb < _; omega) k0
     have BN : Hid (Below (S + 2) W (wq.alloc (.cells #[.int .i64 u.k, .int .i64 u.f, .int .i64 u.t, .slice K2 q2 cc2] 40)).drew) := (BW.out.alloc hsz _).drew
     clear past g0 g1 g2 g3 hget hkc hy hy1 hy2 HO
     go_upto_region 13 with fail
     go_region
     by_cases hua : u.f < a
     ·obtain rfl : v = false := by rw [HE.out, HO2.out, if_pos hua]; rfl
      have BR : Hid (Below S w (wq.alloc (.cells #[.int .i64 u.k, .int .i64 u.f, .int .i64 u.t, .slice K2 q2 cc2] 40)).drew) := BX.out.trans (BN.out.mono (by omega))
      clear HO2 HE BN
      go_wp2_with fail
      go_ret
      exact ⟨rfl, BR.out⟩
     ·have HO3 : Hid (ordAt T x.f x.kids = ordAt T u.t (x.kids.drop (r + 1))) := by show _ = _; rw [HO2.out, if_neg hua]
      clear HO2
      go_wp2_with fail
      go_roundg (j - r)
      case measure => have := HR.out; omega
      case rel => exact ⟨r + 1, u.t, rfl, by go_num, by show _ ∧ _; have := HR.out; omega, HO3.out, BN.out⟩
    ·have hrz : ¬ (r : Int) < (j : Int) := by omega
     have hv : v = decide (a ≤ x.t) := by
      rw [HE.out, HO.out, List.drop_eq_nil_of_le (by have := HM.out; have := HR.out; omega)]
      rfl
     have BR : Hid (Below S w wq) := BX.out.trans (BW.out.mono (by omega))
     clear HO HE
     subst hv
     go_wp2_with fail
     go_ret
     exact ⟨rfl, BR.out⟩
theorem refOne_run (A : Option Addr) (n cap i : Nat) (m : Int) (T : List Nd) (v : Bool) (w : World) (hb : NdsAt w w.heap.size A T) (hl : Hid (T.length = n)) (hi : i < n) (hn : n ≤ 40) (hv : Hid (oneB T i m = v)) :
  Calls Tryd.prog 21 #[trV A n cap, .int .i64 i, .int .i64 m] w fun e w' => e = .returned (.bool v) ∧ Below w.heap.size w w' := by
 rcases Classical.em (0 ≤ (nd T i).k ∧ (nd T i).k ≤ 66 ∧ 0 ≤ (nd T i).f ∧ (nd T i).f ≤ (nd T i).t ∧ (nd T i).t ≤ m) with hN | hN
 ·exact refOne_good A n cap i m T v w hb hl hi hn hN hv
 ·obtain rfl := one_num hv.out hN
  exact refOne_bad A n cap i m T w hb hl hi hN
end Go.Proofs.YtpjgapnihmiceaaDoor
namespace Go.Proofs.YtpjgapnihmiceaaDoor
open Go.RowKit
set_option linter.unusedSimpArgs false
theorem par_take {T : List Nd} {k : Nat} {x : Nd} (h : T[k]? = some x) (i : Int) : parN (T.take (k + 1)) i = parN (T.take k) i + x.kids.count i := by
 unfold parN
 rw [List.take_add_one, h, List.map_append, List.sum_append]
 simp
theorem count_take {l : List Int} {j : Nat} {y : Int} (h : l[j]? = some y) (i : Int) : (l.take (j + 1)).count i = (l.take j).count i + (if y = i then 1 else 0) := by
 rw [List.take_add_one, h, List.count_append]
 by_cases e : y = i
 ·subst e; simp
 ·rw [if_neg e]; simp [e]
theorem par_small {T : List Nd} (h : SmallT T) (k : Nat) (i : Int) : parN (T.take k) i ≤ 20 * k := by
 induction k with
 | zero => simp [parN]
 | succ k ih =>
  rcases hk : T[k]? with _ | x
  ·rw [List.take_add_one, hk]; simp; omega
  ·rw [par_take hk]
   have h1 := h.2 x (List.mem_of_getElem? hk)
   have h2 : x.kids.count i ≤ x.kids.length := List.count_le_length
   omega
set_option maxHeartbeats 4000000 in
set_option maxRecDepth 100000 in
theorem parents_run (A : Option Addr) (n cap : Nat) (i : Int) (T : List Nd) (w : World) (hb : NdsAt w w.heap.size A T) (hl : Hid (T.length = n)) (hs : Hid (SmallT T)) :
  Calls Tryd.prog 22 #[trV A n cap, .int .i64 i] w fun e w' => e = .returned (.int .i64 (parN T i : Nat)) ∧ Below w.heap.size w w' := by
 unfold trV
 obtain ⟨S, hS⟩ : ∃ S, w.heap.size = S := ⟨_, rfl⟩
 obtain ⟨W, hW⟩ : ∃ W, w.alloc (.cells #[.slice A n cap] 26) = W := ⟨_, rfl⟩
 have hB : Below S w W := by rw [← hW, ← hS]; exact (Below.refl _ _).alloc (Nat.le_refl _) _
 rw [hS] at hb ⊢
 have d0 : W.cell? ⟨S, 0, none⟩ = some (.slice A n cap) := by rw [← hW, ← hS]; simp
 have HG : Hid (NdsAt W S A T) := hb.below hB (Nat.le_refl _)
 have BX := Lib.hid hB
 clear hb hB
 go_enter Tryd.func22, Tryd.ntmps22
 go_wp2_with fail
 go_loopg [5, 6] (n + 1) (fun h s5 s6 wr => ∃ k m : Nat, s6 = .int .i64 k ∧ s5 = .int .i64 m ∧ Hid (k ≤ n ∧ k + h = n + 1) ∧ Hid (m = parN (T.take k) i) ∧ wr = W)
 case atStart => exact ⟨0, 0, rfl, rfl, by show _ ∧ _; omega, rfl, rfl⟩
 case round =>
  obtain ⟨k, m, rfl, rfl, HK, HM, hww⟩ := hrel
  obtain rfl := hww.symm
  have hn40 := hs.out.1
  have hnl := hl.out
  rw [hnl] at hn40
  by_cases hk : k < n
  ·have hkz : (k : Int) < (n : Int) := by omega
   obtain ⟨b, o, rfl, hbB, hget⟩ := HG.out.get (by omega)
   obtain ⟨x, hx⟩ : ∃ x, T[k]? = some x := ⟨_, List.getElem?_eq_getElem (by omega)⟩
   obtain ⟨K, q, c, _, _, _, c3, hm, hmc, hcc, hK⟩ := hget k x hx
   have HQ := Lib.hid hm
   have hq20 : q ≤ 20 := by rw [hm]; exact hs.out.2 x (List.mem_of_getElem? hx)
   have HX := Lib.hid hx
   have HKK := Lib.hid hK
   clear hget hm hx hK hnl
   go_wp2_with fail
   go_loopg [5, 7] (q + 1) (fun h s5 s7 wr => ∃ j r : Nat, s7 = .int .i64 j ∧ s5 = .int .i64 r ∧ Hid (j ≤ q ∧ j + h = q + 1) ∧ Hid (r = m + (x.kids.take j).count i) ∧ wr = W)
   case atStart => exact ⟨0, m, rfl, rfl, by show _ ∧ _; omega, by simp [Hid], rfl⟩
   case round =>
    obtain ⟨j, r, rfl, rfl, HJ, HR, hww⟩ := hrel
    obtain rfl := hww.symm
    by_cases hj : j < q
    ·have hjz : (j : Int) < (q : Int) := by omega
     obtain ⟨y, hy⟩ : ∃ y, x.kids[j]? = some y := ⟨_, List.getElem?_eq_getElem (by have := HQ.out; omega)⟩
     obtain ⟨kb, ko, rfl, hkb, hkc⟩ := HKK.out (by have := HQ.out; omega)
     have k0 := hkc j y hy
     have HC := Lib.hid (count_take hy i)
     have hr1 : r ≤ 20 * k + j := by
      have h1 := par_small hs.out k i
      have h2 : (x.kids.take j).count i ≤ (x.kids.take j).length := List.count_le_length
      have h3 : (x.kids.take j).length ≤ j := by rw [List.length_take]; omega
      have h4 := HR.out
      have h5 := HM.out
      omega
     have hr2 : (r : Int) + 1 ≤ 9223372036854775807 := by omega
     clear hy hkc
     by_cases hyi : y = i
     ·have HR2 : Hid (r + 1 = m + (x.kids.take (j + 1)).count i) := by show _ = _; rw [HC.out, if_pos hyi, HR.out]; omega
      subst hyi
      clear HC HR
      go_wp2_with fail
      go_roundg (q - j)
      case measure => have := HJ.out; omega
      case rel => exact ⟨j + 1, r + 1, by go_num, by go_num, by show _ ∧ _; have := HJ.out; omega, HR2.out, rfl⟩
     ·have HR2 : Hid (r = m + (x.kids.take (j + 1)).count i) := by show _ = _; rw [HC.out, if_neg hyi, HR.out]; omega
      have hyb : (y == i) = false := by simpa using hyi
      clear HC HR
      go_wp2_with fail
      go_roundg (q - j)
      case measure => have := HJ.out; omega
      case rel => exact ⟨j + 1, r, by go_num, rfl, by show _ ∧ _; have := HJ.out; omega, HR2.out, rfl⟩
    ·have hjz : ¬ (j : Int) < (q : Int) := by omega
     have HM2 : Hid (r = parN (T.take (k + 1)) i) := by
      show _ = _
      rw [par_take HX.out, HR.out, List.take_of_length_le (l := x.kids) (by have := HQ.out; omega), HM.out]
     clear HM HR
     go_wp2_with fail
     go_roundg (n - k)
     case measure => have := HK.out; omega
     case rel => exact ⟨k + 1, r, by go_num, rfl, by show _ ∧ _; have := HK.out; omega, HM2.out, rfl⟩
  ·have hkz : ¬ (k : Int) < (n : Int) := by omega
   have hm : (m : Int) = (parN T i : Nat) := by rw [HM.out, List.take_of_length_le (by have := HK.out; omega)]
   clear HM hnl
   go_wp2_with fail
   go_ret
   exact ⟨rfl, BX.out⟩
set_option maxHeartbeats 4000000 in
set_option maxRecDepth 100000 in
theorem refChk_run (A : Option Addr) (n cap : Nat) (m : Int) (T : List Nd) (k at_ : Int) (w : World) (hb : NdsAt w w.heap.size A T) (hl : Hid (T.length = n)) (hs : Hid (SmallT T)) (hk : Hid (((chkT T m).1 : Int) = k)) (ha : Hid ((chkT T m).2 = at_)) :
  Calls Tryd.prog 6 #[trV A n cap, .int .i64 m] w fun e w' => e = .returned (.tuple #[.int .i64 k, .int .i64 at_]) ∧ Below w.heap.size w w' := by
 unfold trV
 obtain ⟨S, hS⟩ : ∃ S, w.heap.size = S := ⟨_, rfl⟩
 obtain ⟨W, hW⟩ : ∃ W, w.alloc (.cells #[.slice A n cap] 26) = W := ⟨_, rfl⟩
 have hB : Below S w W := by rw [← hW, ← hS]; exact (Below.refl _ _).alloc (Nat.le_refl _) _
 have hWS : W.heap.size = S + 1 := by rw [← hW, ← hS]; simp
 rw [hS] at hb ⊢
 have d0 : W.cell? ⟨S, 0, none⟩ = some (.slice A n cap) := by rw [← hW, ← hS]; simp
 have HG : Hid (NdsAt W S A T) := hb.below hB (Nat.le_refl _)
 have BX := Lib.hid hB
 have HW := Lib.hid hWS
 have hn40 := hs.out.1
 rw [hl.out] at hn40
 clear hb hB hWS
 by_cases hn0 : n = 0
 ·subst hn0
  have h0 : chkT T m = (7, -1) := by unfold chkT; rw [if_pos hl.out]
  obtain rfl : k = 7 := by rw [← hk.out, h0]; rfl
  obtain rfl : at_ = -1 := by rw [← ha.out, h0]
  clear h0 hk ha
  go_enter Tryd.func6, Tryd.ntmps6
  go_wp2_with fail
  go_ret2
  exact ⟨rfl, BX.out⟩
 ·have hC : Hid (chkT T m = _) := chk_eq (by have := hl.out; omega)
  rw [hl.out] at hC
  have hnz : ((n : Int) == 0) = false := by simp; omega
  go_enter Tryd.func6, Tryd.ntmps6
  go_wp2_with fail
  go_loopg [6] (n + 1) (fun h s6 wr => ∃ i : Nat, s6 = .int .i64 i ∧ Hid (i ≤ n ∧ i + h = n + 1) ∧ Hid (firstBad (fun i => oneB T i m) n 0 = firstBad (fun i => oneB T i m) (n - i) i) ∧ Hid (Below (S + 1) W wr))
  case atStart => exact ⟨0, rfl, by show _ ∧ _; omega, rfl, Below.refl _ _⟩
  case round =>
   obtain ⟨i, rfl, HI, HF, BW⟩ := hrel
   generalize wr = wq at *
   have d0' := (BW.out.cell (p := ⟨S, 0, none⟩) (by show S < _; omega)).trans d0
   have hsz : S + 1 ≤ wq.heap.size := by rw [← HW.out]; exact BW.out.size
   by_cases hi : i < n
   ·have hiz : (i : Int) < (n : Int) := by omega
    obtain ⟨v, hv⟩ : ∃ v, oneB T i m = v := ⟨_, rfl⟩
    have HC := Lib.hid (refOne_run A n cap i m T v wq ((HG.out.below BW.out (by omega)).more (by omega)) hl hi hn40 hv)
    have HV := Lib.hid hv
    clear hv
    have hfs : n - i = n - (i + 1) + 1 := by omega
    cases v with
    | false =>
     have h0 : chkT T m = (8, (i : Int)) := by
      rw [hC.out, HF.out, hfs, firstBad_hit HV.out, hit_some]
     obtain rfl : k = 8 := by rw [← hk.out, h0]; rfl
     obtain rfl : at_ = i := by rw [← ha.out, h0]
     clear h0 hk ha hC HF HV hfs
     go_wp2_with fail
     refine HC.out.mono ?_
     rintro e w1 ⟨rfl, hw⟩
     have BR : Hid (Below S w w1) := BX.out.trans ((BW.out.mono (by omega)).trans (hw.mono (by omega)))
     clear hw
     go_wp2_with fail
     go_ret2
     exact ⟨rfl, BR.out⟩
    | true =>
     have HF2 : Hid (firstBad (fun i => oneB T i m) n 0 = firstBad (fun i => oneB T i m) (n - (i + 1)) (i + 1)) := by show _ = _; rw [HF.out, hfs, firstBad_step HV.out]
     clear hC HF HV hfs
     go_wp2_with fail
     refine HC.out.mono ?_
     rintro e w1 ⟨rfl, hw⟩
     have BR : Hid (Below (S + 1) W w1) := BW.out.trans (hw.mono (by omega))
     clear hw
     go_wp2_with fail
     go_roundg (n - i)
     case measure => have := HI.out; omega
     case rel => exact ⟨i + 1, by go_num, by show _ ∧ _; have := HI.out; omega, HF2.out, BR.out⟩
   ·have hiz : ¬ (i : Int) < (n : Int) := by omega
    obtain rfl : i = n := by have := HI.out; omega
    have h1 : firstBad (fun j => oneB T j m) i 0 = none := by rw [HF.out, Nat.sub_self]; rfl
    have hC2 : Hid (chkT T m = hitT (firstBad (fun j => decide (parN T j = 1)) (i - 1) 0) (0, -1)) := by show _ = _; rw [hC.out, h1, hit_none]
    have hi1 : (i : Int) - 1 = ((i - 1 : Nat) : Int) := by omega
    obtain ⟨l, hll⟩ : ∃ l, i - 1 = l := ⟨_, rfl⟩
    rw [hll] at hC2 hi1
    have hwr : IntKind.i64.wrap ((i : Int) - 1) = (l : Int) := by rw [hi1, IntKind.wrap_i64]; omega
    have HL : Hid (i = l + 1) := by show _ = _; omega
    have hl40 : l ≤ 40 := by omega
    clear hC HF h1 hi hll hi1 HI
    go_wp2_with fail
    go_loopg [7] (l + 1) (fun h s7 wr => ∃ j : Nat, s7 = .int .i64 j ∧ Hid (j ≤ l ∧ j + h = l + 1) ∧ Hid (firstBad (fun j => decide (parN T j = 1)) l 0 = firstBad (fun j => decide (parN T j = 1)) (l - j) j) ∧ Hid (Below (S + 1) W wr))
    case atStart => exact ⟨0, rfl, by show _ ∧ _; omega, rfl, BW.out⟩
    case round =>
     clear d0' hsz BW
     obtain ⟨j, rfl, HJ, HF, BW⟩ := hrel
     generalize wr = wz at *
     have d0' := (BW.out.cell (p := ⟨S, 0, none⟩) (by show S < _; omega)).trans d0
     have hsz : S + 1 ≤ wz.heap.size := by rw [← HW.out]; exact BW.out.size
     by_cases hj : j < l
     ·have hjz : (j : Int) < (l : Int) := by omega
      have HC := Lib.hid (parents_run A i cap j T wz ((HG.out.below BW.out (by omega)).more (by omega)) hl hs)
      obtain ⟨p, hp⟩ : ∃ p, parN T (j : Int) = p := ⟨_, rfl⟩
      rw [hp] at HC
      have hfs : l - j = l - (j + 1) + 1 := by omega
      by_cases hp1 : p = 1
      ·subst hp1
       have HF2 : Hid (firstBad (fun j => decide (parN T j = 1)) l 0 = firstBad (fun j => decide (parN T j = 1)) (l - (j + 1)) (j + 1)) := by show _ = _; rw [HF.out, hfs, firstBad_step (decide_eq_true hp)]
       clear HF hfs hp
       go_wp2_with fail
       refine HC.out.mono ?_
       rintro e w1 ⟨rfl, hw⟩
       have BR : Hid (Below (S + 1) W w1) := BW.out.trans (hw.mono (by omega))
       clear hw
       go_wp2_with fail
       go_roundg (l - j)
       case measure => have := HJ.out; omega
       case rel => exact ⟨j + 1, by go_num, by show _ ∧ _; have := HJ.out; omega, HF2.out, BR.out⟩
      ·have h0 : chkT T m = (8, (j : Int)) := by
        rw [hC2.out, HF.out, hfs, firstBad_hit (decide_eq_false (by rw [hp]; exact hp1)), hit_some]
       obtain rfl : k = 8 := by rw [← hk.out, h0]; rfl
       obtain rfl : at_ = j := by rw [← ha.out, h0]
       have hpb : ((p : Int) == 1) = false := by simp; omega
       clear h0 hk ha HF hp hfs
       go_wp2_with fail
       refine HC.out.mono ?_
       rintro e w1 ⟨rfl, hw⟩
       have BR : Hid (Below S w w1) := BX.out.trans ((BW.out.mono (by omega)).trans (hw.mono (by omega)))
       clear hw
       go_wp2_with fail
       go_ret2
       exact ⟨rfl, BR.out⟩
     ·have hjz : ¬ (j : Int) < (l : Int) := by omega
      obtain rfl : j = l := by have := HJ.out; omega
      have h1 : firstBad (fun r => decide (parN T r = 1)) j 0 = none := by rw [HF.out, Nat.sub_self]; rfl
      have h0 : chkT T m = (0, -1) := by rw [hC2.out, h1, hit_none]
      obtain rfl : k = 0 := by rw [← hk.out, h0]; rfl
      obtain rfl : at_ = -1 := by rw [← ha.out, h0]
      have BR : Hid (Below S w wz) := BX.out.trans (BW.out.mono (by omega))
      clear h0 h1 hk ha HF
      go_wp2_with fail
      go_ret2
      exact ⟨rfl, BR.out⟩
end Go.Proofs.YtpjgapnihmiceaaDoor
namespace Go.Proofs.YtpjgapnihmiceaaDoor
open Go.RowKit
set_option linter.unusedSimpArgs false
theorem heldB_cons (T : List Nd) (c : Int) (l : List Int) (tok : Int) : heldB T (c :: l) tok = (decide ((kd T c).f ≤ tok ∧ tok < (kd T c).t) || heldB T l tok) := rfl
theorem dropT_at {α : Type} {l : List α} {i : Nat} {x : α} (h : l[i]? = some x) : l.drop i = x :: l.drop (i + 1) := by
 obtain ⟨hi, e⟩ := List.getElem?_eq_some_iff.1 h
 rw [List.drop_eq_getElem_cons hi, e]
set_option maxHeartbeats 4000000 in
set_option maxRecDepth 100000 in
theorem refOwns_run (A : Option Addr) (n cap i : Nat) (tok m : Int) (T : List Nd) (w : World) (hb : NdsAt w w.heap.size A T) (hl : Hid (T.length = n)) (hi : i < n) (hV : Hid (Valid T m)) (v : Bool) (hv : Hid (ownB T i tok = v)) :
  Calls Tryd.prog 49 #[trV A n cap, .int .i64 i, .int .i64 tok] w fun e w' => e = .returned (.bool v) ∧ Below w.heap.size w w' := by
 obtain ⟨b, o, K, q, c, rfl, hbB, c0, c1, c2, c3, hm, hmc, hcc, hK, hB⟩ := one_set (cap := cap) hb hl.out hi 26 40
 have hiz : (i : Int) < (n : Int) := by omega
 have HA : Hid (∀ c ∈ (nd T i).kids, 0 ≤ c ∧ c < (i : Int)) := hV.out.kid i (by have := hl.out; omega)
 have HV : Hid ((decide ((nd T i).f ≤ tok ∧ tok < (nd T i).t) && !heldB T (nd T i).kids tok) = v) := hv.out
 clear hv
 generalize nd T i = x at *
 unfold trV
 obtain ⟨S, hS⟩ : ∃ S, w.heap.size = S := ⟨_, rfl⟩
 rw [hS] at hbB hB hK hb ⊢
 obtain ⟨W, hW⟩ : ∃ W, (w.alloc (.cells #[.slice (some ⟨b, o, none⟩) n cap] 26)).alloc (.cells #[.int .i64 x.k, .int .i64 x.f, .int .i64 x.t, .slice K q c] 40) = W := ⟨_, rfl⟩
 have d0 : W.cell? ⟨S, 0, none⟩ = some (.slice (some ⟨b, o, none⟩) n cap) := by rw [← hW, ← hS]; simp
 have e0 : W.cell? ⟨S + 1, 0, none⟩ = some (.int .i64 x.k) := by rw [← hW, ← hS]; simp
 have e1 : W.cell? ⟨S + 1, 1, none⟩ = some (.int .i64 x.f) := by rw [← hW, ← hS]; simp
 have e2 : W.cell? ⟨S + 1, 2, none⟩ = some (.int .i64 x.t) := by rw [← hW, ← hS]; simp
 have e3 : W.cell? ⟨S + 1, 3, none⟩ = some (.slice K q c) := by rw [← hW, ← hS]; simp
 rw [hW] at hB
 have BX := Lib.hid hB
 have HK : Hid (Nums W S K x.kids) := NumsK.below hK hB (Nat.le_refl _)
 have HW : Hid (W.heap.size = S + 2) := by show _ = _; rw [← hW, ← hS]; simp
 have HG : Hid (NdsAt W S (some ⟨b, o, none⟩) T) := hb.below hB (Nat.le_refl _)
 have HM := Lib.hid hm
 clear hK hb hB hm
 by_cases hin : x.f ≤ tok ∧ tok < x.t
 rotate_left
 ·obtain rfl : v = false := by rw [← HV.out, decide_eq_false hin]; rfl
  have hd : tok < x.f ∨ (x.f ≤ tok ∧ x.t ≤ tok) := by omega
  clear hin HV
  rcases hd with h1 | ⟨h1, h2⟩ <;> (go_enter Tryd.func49, Tryd.ntmps49; go_wp2_with fail; go_ret; exact ⟨rfl, BX.out⟩)
 ·have HV2 : Hid ((!heldB T x.kids tok) = v) := by
   have := HV.out
   rw [decide_eq_true hin] at this
   exact this
  obtain ⟨h1, h2⟩ := hin
  clear HV
  go_enter Tryd.func49, Tryd.ntmps49
  go_wp2_with fail
  go_loopg [8] (q + 1) (fun h s8 wr => ∃ r : Nat, s8 = .int .i64 r ∧ Hid (r ≤ q ∧ r + h = q + 1) ∧ Hid (heldB T x.kids tok = heldB T (x.kids.drop r) tok) ∧ Hid (Below (S + 2) W wr))
  case atStart => exact ⟨0, rfl, by show _ ∧ _; omega, rfl, Below.refl _ _⟩
  case round =>
   obtain ⟨r, rfl, HR, HO, BW⟩ := hrel
   generalize wr = wq at *
   have d0' := (BW.out.cell (p := ⟨S, 0, none⟩) (by show S < _; omega)).trans d0
   have e0' := (BW.out.cell (p := ⟨S + 1, 0, none⟩) (by show S + 1 < _; omega)).trans e0
   have e1' := (BW.out.cell (p := ⟨S + 1, 1, none⟩) (by show S + 1 < _; omega)).trans e1
   have e2' := (BW.out.cell (p := ⟨S + 1, 2, none⟩) (by show S + 1 < _; omega)).trans e2
   have e3' := (BW.out.cell (p := ⟨S + 1, 3, none⟩) (by show S + 1 < _; omega)).trans e3
   have hsz : S + 2 ≤ wq.heap.size := by rw [← HW.out]; exact BW.out.size
   by_cases hr : r < q
   ·have hrz : (r : Int) < (q : Int) := by omega
    obtain ⟨y, hy⟩ : ∃ y, x.kids[r]? = some y := ⟨_, List.getElem?_eq_getElem (by have := HM.out; omega)⟩
    obtain ⟨kb, ko, rfl, hkb, hkc⟩ := HK.out (by have := HM.out; omega)
    have k0 := (BW.out.cell (p := ⟨kb, ko + r, none⟩) (by show kb < _; omega)).trans (hkc r y hy)
    obtain ⟨hy1, hy2⟩ := HA.out y (List.mem_of_getElem? hy)
    obtain ⟨z, rfl⟩ : ∃ z : Nat, y = z := ⟨y.toNat, by omega⟩
    have hzn : z < n := by omega
    obtain ⟨b2, o2, eb, hb2, hget⟩ := HG.out.get (by have := hl.out; omega)
    cases eb
    obtain ⟨K2, q2, cc2, g0, g1, g2, g3, gm, _, _, _⟩ := hget z _ (at_nd (by have := hl.out; omega))
    clear gm
    have ez : kd T (z : Int) = nd T z := by unfold kd; simp
    have HO2 : Hid (heldB T x.kids tok = (decide ((nd T z).f ≤ tok ∧ tok < (nd T z).t) || heldB T (x.kids.drop (r + 1)) tok)) := by
     show _ = _
     rw [HO.out, dropT_at hy, heldB_cons, ez]
    generalize nd T z = u at *
    have past : ∀ (p : Addr) (v : Value), p.block < wq.heap.size → wq.cell? p = some v → (wq.alloc (.cells #[.int .i64 0, .int .i64 0, .int .i64 0, .slice none 0 0] 40)).cell? p = some v := fun p v hp hv => by
     rw [World.cell?_alloc_lt _ _ p hp]; exact hv
    have f0 := (BW.out.cell (p := ⟨b, o + z * 4, none⟩) (by show b < _; omega)).trans g0
    have f1 := (BW.out.cell (p := ⟨b, o + z * 4 + 1, none⟩) (by show b < _; omega)).trans g1
    have f2 := (BW.out.cell (p := ⟨b, o + z * 4 + 2, none⟩) (by show b < _; omega)).trans g2
    have f3 := (BW.out.cell (p := ⟨b, o + z * 4 + 3, none⟩) (by show b < _; omega)).trans g3
    have f0' := past _ _ (by show b < _; omega) f0
    have f1' := past _ _ (by show b < _; omega) f1
    have f2' := past _ _ (by show b < _; omega) f2
    have f3' := past _ _ (by show b < _; omega) f3
    have d0'' := past _ _ (by show S < _; omega) d0'
    have e3'' := past _ _ (by show S + 1 < _; omega) e3'
    have k0' := past _ _ (by show kb < _; omega) k0
    have BN : Hid (Below (S + 2) W (wq.alloc (.cells #[.int .i64 u.k, .int .i64 u.f, .int .i64 u.t, .slice K2 q2 cc2] 40)).drew) := (BW.out.alloc hsz _).drew
    have BR : Hid (Below S w (wq.alloc (.cells #[.int .i64 u.k, .int .i64 u.f, .int .i64 u.t, .slice K2 q2 cc2] 40)).drew) := BX.out.trans (BN.out.mono (by omega))
    clear past g0 g1 g2 g3 hget hkc hy hy1 hy2 HO
    go_upto_region 7 with fail
    go_region
    by_cases hu : u.f ≤ tok ∧ tok < u.t
    ·obtain rfl : v = false := by rw [← HV2.out, HO2.out, decide_eq_true hu]; rfl
     obtain ⟨u1, u2⟩ := hu
     clear HO2 HV2 BN
     go_wp2_with fail
     go_ret
     exact ⟨rfl, BR.out⟩
    ·have HO3 : Hid (heldB T x.kids tok = heldB T (x.kids.drop (r + 1)) tok) := by show _ = _; rw [HO2.out, decide_eq_false hu, Bool.false_or]
     have hd : tok < u.f ∨ (u.f ≤ tok ∧ u.t ≤ tok) := by omega
     clear HO2 hu BR
     rcases hd with u1 | ⟨u1, u2⟩
     all_goals
      go_wp2_with fail
      go_roundg (q - r)
      case measure => have := HR.out; omega
      case rel => exact ⟨r + 1, by go_num, by show _ ∧ _; have := HR.out; omega, HO3.out, BN.out⟩
   ·have hrz : ¬ (r : Int) < (q : Int) := by omega
    obtain rfl : v = true := by
     rw [← HV2.out, HO.out, List.drop_eq_nil_of_le (by have := HM.out; have := HR.out; omega)]
     rfl
    have BR : Hid (Below S w wq) := BX.out.trans (BW.out.mono (by omega))
    clear HV2 HO
    go_wp2_with fail
    go_ret
    exact ⟨rfl, BR.out⟩
end Go.Proofs.YtpjgapnihmiceaaDoor
namespace Go.Proofs.YtpjgapnihmiceaaDoor
open Go.RowKit
theorem int_slice : SliceK .i64 38 3 := ⟨Tryd.underlying38, 8, by omega, by kernel_rfl⟩
end Go.Proofs.YtpjgapnihmiceaaDoor
