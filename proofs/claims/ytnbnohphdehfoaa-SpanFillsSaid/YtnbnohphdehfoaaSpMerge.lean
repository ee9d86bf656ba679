/-
  The contract of span.Merge: the normal form of what the list has.
-/
import Derived.Test.YtnbnohphdehfoaaSpRuns
import Derived.Test.YtnbnohphdehfoaaSpCover
import Derived.Deep.RegionWith
namespace Go.Proofs.Ytnbnohphdehfoaa
open Go.RowKit Go.Sort

theorem has_perm {l m : List (Int × Int)} (h : l.Perm m) (x : Int) : Sp.Has l x ↔ Sp.Has m x := by
  constructor
  · rintro ⟨s, hs, hx⟩; exact ⟨s, h.mem_iff.1 hs, hx⟩
  · rintro ⟨s, hs, hx⟩; exact ⟨s, h.mem_iff.2 hs, hx⟩
theorem has_take {l : List (Int × Int)} {i : Nat} {s : Int × Int} (h : l[i]? = some s) (x : Int) : Sp.Has (l.take (i + 1)) x ↔ Sp.Has (l.take i) x ∨ (s.1 ≤ x ∧ x < s.2) := by
  rw [List.take_add_one, h, Option.toList_some, Sp.has_append, Sp.has_one]
/-- How far the walk over the sorted spans has come. -/
def MergeAt (S : List (Int × Int)) (i : Nat) (out : List (Int × Int)) : Prop := Sp.Norm out ∧ (∀ x, Sp.Has out x ↔ Sp.Has (S.take i) x) ∧ ∀ a ∈ out, ∀ j r, i ≤ j → S[j]? = some r → a.1 ≤ r.1
theorem MergeAt.skip {S : List (Int × Int)} {i : Nat} {out : List (Int × Int)} (h : MergeAt S i out) {p q : Int} (hs : S[i]? = some (p, q)) (hq : q ≤ p) : MergeAt S (i + 1) out :=
  ⟨h.1, fun x => by rw [h.2.1 x, has_take hs]; simp only []; constructor; · exact .inl
                    · rintro (h1 | h1); · exact h1
                      · omega, fun a ha j r hj hr => h.2.2 a ha j r (by omega) hr⟩
theorem sorted_le {S : List (Int × Int)} (h : S.Pairwise fun a b => ¬ ordI b a < 0) {i j : Nat} {s r : Int × Int} (hs : S[i]? = some s) (hr : S[j]? = some r) (hij : i < j) : s.1 ≤ r.1 := by
  obtain ⟨h1, rfl⟩ := List.getElem?_eq_some_iff.1 hs
  obtain ⟨h2, rfl⟩ := List.getElem?_eq_some_iff.1 hr
  have := (List.pairwise_iff_getElem.1 h) i j h1 h2 hij
  rw [ord_lt] at this
  omega
def SortedL (S : List (Int × Int)) : Prop := S.Pairwise fun a b => ¬ ordI b a < 0
theorem MergeAt.apart {S : List (Int × Int)} {i : Nat} {out : List (Int × Int)} (hS : SortedL S) (h : MergeAt S i out) {p q : Int} (hs : S[i]? = some (p, q)) (hq : p < q) (hb : ∀ s ∈ out, s.2 < p) : MergeAt S (i + 1) (out ++ [(p, q)]) := by
  obtain ⟨h1, h2⟩ := h.1.apart hb hq
  refine ⟨h1, fun x => by rw [h2 x, h.2.1 x, has_take hs], fun a ha j r hj hr => ?_⟩
  rcases List.mem_append.1 ha with ha | ha
  · exact h.2.2 a ha j r (by omega) hr
  · simp at ha
    subst ha
    exact sorted_le hS hs hr (by omega)
theorem MergeAt.joined {S : List (Int × Int)} {i : Nat} {init : List (Int × Int)} {f t : Int} (h : MergeAt S i (init ++ [(f, t)])) {p q : Int} (hs : S[i]? = some (p, q)) (hq : p < q) (hp : p ≤ t) : MergeAt S (i + 1) (init ++ [(f, max t q)]) := by
  have hf : f ≤ p := h.2.2 (f, t) (by simp) i (p, q) (Nat.le_refl _) hs
  obtain ⟨h1, h2⟩ := h.1.joined hf hp hq
  refine ⟨h1, fun x => by rw [h2 x, h.2.1 x, has_take hs], fun a ha j r hj hr => ?_⟩
  rcases List.mem_append.1 ha with ha | ha
  · exact h.2.2 a (List.mem_append_left _ ha) j r (by omega) hr
  · simp at ha
    subst ha
    exact h.2.2 (f, t) (by simp) j r (by omega) hr
theorem cover_two {f t p q : Int} (h1 : f < t) (h2 : f ≤ p) (h3 : p < q) : cover [(f, t), (p, q)] = (f, max t q) := by
  unfold cover
  simp only [List.foldl]
  rw [show cvStep (0, 0) (f, t) = (f, t) by unfold cvStep; rw [if_neg (by simp only []; omega), if_pos (by simp)]]
  unfold cvStep
  rw [if_neg (by simp only []; omega), if_neg (by simp only []; omega)]
  refine Prod.ext ?_ ?_ <;> simp only [] <;> omega
/-- The two elements of a slice literal, in a new block. -/
theorem two_cells (w : World) (x y u v : Int) (T : TypeId) : CellsV pairCells (w.alloc (.cells #[.int .i64 x, .int .i64 y, .int .i64 u, .int .i64 v] T)).drew (w.heap.size + 1) (some ⟨w.heap.size, 0, none⟩) [(x, y), (u, v)] := fun _ => by
  refine ⟨_, _, rfl, by omega, fun j z hz => ?_⟩
  show (w.alloc _).cell? _ = _
  match j, hz with
  | 0, hz => cases hz; rw [World.cell?_alloc_at _ _ _ _ rfl]; rfl
  | 1, hz => cases hz; rw [World.cell?_alloc_at _ _ _ _ rfl]; rfl
  | 2, hz => cases hz; rw [World.cell?_alloc_at _ _ _ _ rfl]; rfl
  | 3, hz => cases hz; rw [World.cell?_alloc_at _ _ _ _ rfl]; rfl
/-- What Merge hands back. -/
def MergePost (l : List (Int × Int)) (w : World) (e : Ending) (w' : World) : Prop := ∃ v M, e = .returned v ∧ Sp.Norm M ∧ (∀ x, Sp.Has M x ↔ Sp.Has l x) ∧ M.length ≤ l.length ∧ ListOut M w v w'
set_option maxHeartbeats 8000000 in
set_option maxRecDepth 100000 in
theorem merge_run (A : Option Addr) (n cap : Nat) (l : List (Int × Int)) (w : World) (hb : CellsV pairCells w w.heap.size A l) (hl : Hid (l.length = n)) (hn : n ≤ 1000) :
    Calls Try.prog 21 #[.slice A n cap] w fun e w' => MergePost l w e w' := by
  have HSort := Lib.hid (sort_run A n cap l w hb hl (by omega))
  have HE : Hid (∀ x y b, Hid (decide (y ≤ x) = b) → ∀ W, Calls Try.prog 26 #[.agg #[.int .i64 x, .int .i64 y]] W fun e w' => e = .returned (.bool b) ∧ Below W.heap.size W w') :=
    fun x y b hb W => (empty_run x y b hb W).mono fun _ _ ⟨he, os, hw⟩ => ⟨he, hw ▸ below_grow (Below.refl _ _) (Nat.le_refl _) os⟩
  clear hb
  go_enter Try.func21, Try.ntmps21
  go_wp2_with fail
  refine HSort.out.mono ?_
  rintro e w1 ⟨A1, cap1, S, rfl, hc1, hc2, hy1, hperm, hsort, hw1⟩
  have HB := Lib.hid hy1
  have HS : Hid (SortedL S) := hsort
  have HPm : Hid (S.Perm l) := hperm
  have HSl : Hid (S.length = n) := by show _ = _; rw [hperm.length_eq]; exact hl.out
  have HW1 := Lib.hid hw1
  have hs1 := hw1.size
  clear hy1 hperm hsort hw1 HSort
  generalize w1 = W at *
  go_wp2_with fail
  go_loopg [3, 10] (n + 1) (fun h s3 s10 wr => ∃ (i : Nat) (out : List (Int × Int)), s10 = .int .i64 i ∧ Hid (i ≤ n ∧ n < i + h ∧ out.length ≤ i) ∧ Hid (MergeAt S i out) ∧ Hid (OwnV pairCells 2 23 wr W.heap.size s3 out) ∧ Hid (Below W.heap.size W wr))
  case atStart => exact ⟨0, [], rfl, by show _ ∧ _; simp, ⟨Sp.norm_nil, fun x => by rw [List.take_zero], fun a ha => by cases ha⟩, OwnV.nil _ _ _ _ _, Below.refl _ _⟩
  case round =>
    obtain ⟨i, out, rfl, HI, HM, O, BW⟩ := hrel
    by_cases hlt : i < n
    · have hltz : (i : Int) < (n : Int) := by omega
      obtain ⟨g, o, rfl, hg, hc⟩ := spans_get HB.out (by have := HSl.out; omega)
      obtain ⟨s, hx⟩ : ∃ x, S[i]? = some x := ⟨_, List.getElem?_eq_getElem (by rw [HSl.out]; exact hlt)⟩
      have c0 := (BW.out.cell (p := ⟨g, o + i * 2, none⟩) hg).trans (hc i s hx).1
      have c1 := (BW.out.cell (p := ⟨g, o + i * 2 + 1, none⟩) hg).trans (hc i s hx).2
      obtain ⟨p, q⟩ := s
      simp only [] at c0 c1
      have HX : Hid (S[i]? = some (p, q)) := hx
      have hsz := BW.out.size
      have S1 : Hid (Box2 (wr.alloc (.cells #[.int .i64 p, .int .i64 q] 23)) wr.heap.size p q) := Box2.new _ _ _ _
      have O1 : Hid (OwnV pairCells 2 23 (wr.alloc (.cells #[.int .i64 p, .int .i64 q] 23)) W.heap.size u3 out) := OwnV.alloc O.out _
      have B1 : Hid (Below W.heap.size W (wr.alloc (.cells #[.int .i64 p, .int .i64 q] 23))) := BW.out.alloc hsz _
      clear hc hx hg O BW
      obtain ⟨e1, he1⟩ : ∃ e1, decide (q ≤ p) = e1 := ⟨_, rfl⟩
      have HE1 := Lib.hid he1
      clear he1
      go_wp2_with fail
      refine (HE.out p q e1 HE1 _).mono ?_
      rintro e w2 ⟨rfl, hw2⟩
      obtain ⟨m0, m1, m2, m3⟩ := S1.out.keep hw2 (by simp)
      have O2 : Hid (OwnV pairCells 2 23 w2 W.heap.size u3 out) := O1.out.below hw2
      have B2 : Hid (Below W.heap.size W w2) := B1.out.trans (hw2.mono (by simp; omega))
      have hs2 : wr.heap.size + 1 ≤ w2.heap.size := by have := hw2.size; simpa using this
      clear S1 O1 B1 hw2 c0 c1
      generalize hHs : wr.heap.size = Hs at *
      cases e1 with
      | true =>
        have HQ : Hid (q ≤ p) := by have := HE1.out; show _ ≤ _; simpa using this
        go_wp2_with fail
        go_roundg (n - i)
        case measure => have := HI.out; omega
        case rel => exact ⟨i + 1, out, by go_num, by show _ ∧ _; have := HI.out; omega, HM.out.skip HX.out HQ.out, O2, B2⟩
      | false =>
        have HQ : Hid (p < q) := by have := HE1.out; show _ < _; simpa using this
        rcases snoc_cases out with he | ⟨init, x, he⟩
        · subst he
          obtain ⟨A9, cap9, hv9, _, _, _⟩ := O2.out.cells
          simp only [List.length_nil] at hv9
          subst hv9
          go_wp2_with fail
          go_quiet (fail)
          have n0 : (w2.drewN nq).cell? ⟨Hs, 0, none⟩ = some (.int .i64 p) := m0
          have n1 : (w2.drewN nq).cell? ⟨Hs, 1, none⟩ = some (.int .i64 q) := m1
          have O3 : Hid (OwnV pairCells 2 23 (w2.drewN nq) W.heap.size (.slice A9 0 cap9) ([] : List (Int × Int))) := O2.out.below (below_drewN (Below.refl _ _) nq)
          have B3 : Hid (Below W.heap.size W (w2.drewN nq)) := below_drewN B2.out nq
          clear m0 m1 m2 m3 O2 B2 hs2
          generalize hwq : w2.drewN nq = wq at *
          have OA : Hid (OwnV pairCells 2 23 (wq.alloc (.cells #[.int .i64 p, .int .i64 q] 23)) W.heap.size (.slice A9 0 cap9) ([] : List (Int × Int))) := OwnV.alloc O3.out _
          have NA : Hid (CellsV pairCells (wq.alloc (.cells #[.int .i64 p, .int .i64 q] 23)) (wq.heap.size + 1) (some ⟨wq.heap.size, 0, none⟩) [(p, q)]) := one_cells wq p q _
          have hsq : W.heap.size ≤ wq.heap.size := B3.out.size
          have hbase : W.heap.size ≤ (wq.alloc (.cells #[.int .i64 p, .int .i64 q] 23)).heap.size := by simp; omega
          have hlen : Hid (([] : List (Int × Int)).length ≤ 500000) := by show _ ≤ _; have := HI.out; omega
          go_wp2_with
            (at_builtin
             refine wpList_appV span_slice _ rfl (.tmp 41) (.tmp 43) rfl W.heap.size _ _ rfl OA.out (wq.heap.size + 1) (some ⟨wq.heap.size, 0, none⟩) 1 1 [(p, q)] rfl NA.out rfl hlen.out (by simp) hbase ?_
             intro v3 w3 o3 g3 t3
             have BV : Hid (Below W.heap.size W w3) := (B3.out.alloc hsq _).grown g3 hbase (ownV_ge OA.out)
             have OV := Lib.hid o3
             clear o3 g3 t3)
          go_roundg (n - i)
          case measure => have := HI.out; omega
          case rel => exact ⟨i + 1, _, by go_num, by show _ ∧ _; have := HI.out; simp at this ⊢; omega, HM.out.apart HS.out HX.out HQ.out (by simp), OV.out, BV.out⟩
        · subst he
          obtain ⟨f, t⟩ := x
          obtain ⟨g3, cp, hv, hg1, hg2, hcap, hcm, k0, k1, k2, k3⟩ := OwnV.lastCells O2.out
          subst hv
          have HFT : Hid (f < t ∧ f ≤ p) := ⟨HM.out.1.1 (f, t) (by simp), HM.out.2.2 (f, t) (by simp) i (p, q) (Nat.le_refl _) HX.out⟩
          by_cases hpt : p ≤ t
          · have hd : decide (p ≤ t) = true := decide_eq_true hpt
            have HPT := Lib.hid hpt
            clear hpt
            go_wp2_with fail
            go_quiet (fail)
            have n0 : (w2.drewN nq).cell? ⟨Hs, 0, none⟩ = some (.int .i64 p) := m0
            have n1 : (w2.drewN nq).cell? ⟨Hs, 1, none⟩ = some (.int .i64 q) := m1
            have l0 : (w2.drewN nq).cell? ⟨g3, init.length * 2, none⟩ = some (.int .i64 f) := k0
            have l1 : (w2.drewN nq).cell? ⟨g3, init.length * 2 + 1, none⟩ = some (.int .i64 t) := k1
            have O3 : Hid (OwnV pairCells 2 23 (w2.drewN nq) W.heap.size (.slice (some ⟨g3, 0, none⟩) (init.length + 1) cp) (init ++ [(f, t)])) := O2.out.below (below_drewN (Below.refl _ _) nq)
            have B3 : Hid (Below W.heap.size W (w2.drewN nq)) := below_drewN B2.out nq
            have hg2' : g3 < (w2.drewN nq).heap.size := hg2
            clear m0 m1 m2 m3 O2 B2 hs2 k0 k1 k2 k3 hg2
            generalize hwq : w2.drewN nq = wq at *
            obtain ⟨M, hM⟩ : ∃ M, M = max t q := ⟨_, rfl⟩
            have HMx := Lib.hid hM
            have HCall : Hid (Calls Try.prog 23 #[.slice (some ⟨wq.heap.size, 0, none⟩) 2 2] (wq.alloc (.cells #[.int .i64 f, .int .i64 t, .int .i64 p, .int .i64 q] 23)).drew fun e w' => e = .returned (.agg #[.int .i64 f, .int .i64 M]) ∧ Below (wq.heap.size + 1) (wq.alloc (.cells #[.int .i64 f, .int .i64 t, .int .i64 p, .int .i64 q] 23)).drew w') := by
              have h := cover_run (some ⟨wq.heap.size, 0, none⟩) 2 2 [(f, t), (p, q)] (wq.alloc (.cells #[.int .i64 f, .int .i64 t, .int .i64 p, .int .i64 q] 23)).drew (m := f) (M := M) (by show _ = _; rw [hM]; exact cover_two HFT.out.1 HFT.out.2 HQ.out) ((two_cells wq f t p q 23).more (by show _ ≤ (wq.alloc _).heap.size; simp)) rfl (by omega)
              exact h.mono fun _ _ ⟨he, hb⟩ => ⟨he, hb.mono (by show _ ≤ (wq.alloc _).heap.size; simp)⟩
            have BX : Hid (Below wq.heap.size wq (wq.alloc (.cells #[.int .i64 f, .int .i64 t, .int .i64 p, .int .i64 q] 23)).drew) := ((Below.refl _ _).alloc (Nat.le_refl _) _).drew
            have O4 : Hid (OwnV pairCells 2 23 (wq.alloc (.cells #[.int .i64 f, .int .i64 t, .int .i64 p, .int .i64 q] 23)).drew W.heap.size (.slice (some ⟨g3, 0, none⟩) (init.length + 1) cp) (init ++ [(f, t)])) := O3.out.below BX.out
            have hsq : W.heap.size ≤ wq.heap.size := B3.out.size
            clear hM
            go_wp2_with fail
            go_region_with (go_at_call 23; refine HCall.out.mono ?_; rintro e w3 ⟨rfl, hw3⟩; have O5 := Lib.hid (O4.out.below (w' := w3) (hw3.mono (by show (wq.alloc _).heap.size ≤ _; simp))); have B5 : Hid (Below W.heap.size W w3) := B3.out.trans ((BX.out.trans (hw3.mono (Nat.le_succ _))).mono hsq); obtain ⟨_, _, hv5, _, _, _, _, x0, x1, x2, x3⟩ := OwnV.lastCells O5.out; cases hv5; clear hw3)
            all_goals go_wp2_with fail
            all_goals go_roundg (n - i)
            all_goals first
              | (have := HI.out; omega)
              | exact ⟨i + 1, init ++ [(f, M)], by go_num, by show _ ∧ _; have := HI.out; simp at this ⊢; omega, by rw [HMx.out]; exact HM.out.joined HX.out HQ.out HPT.out, OwnV.last1 (OwnV.last0 O5.out f) M, (B5.out.setCell hg1 _).setCell hg1 _⟩
          · have hd : decide (p ≤ t) = false := decide_eq_false hpt
            have HPT := Lib.hid hpt
            clear hpt
            go_wp2_with fail
            go_quiet (fail)
            have n0 : (w2.drewN nq).cell? ⟨Hs, 0, none⟩ = some (.int .i64 p) := m0
            have n1 : (w2.drewN nq).cell? ⟨Hs, 1, none⟩ = some (.int .i64 q) := m1
            have O3 : Hid (OwnV pairCells 2 23 (w2.drewN nq) W.heap.size (.slice (some ⟨g3, 0, none⟩) (init.length + 1) cp) (init ++ [(f, t)])) := O2.out.below (below_drewN (Below.refl _ _) nq)
            have B3 : Hid (Below W.heap.size W (w2.drewN nq)) := below_drewN B2.out nq
            clear m0 m1 m2 m3 O2 B2 hs2 k0 k1 k2 k3
            generalize hwq : w2.drewN nq = wq at *
            have OA : Hid (OwnV pairCells 2 23 (wq.alloc (.cells #[.int .i64 p, .int .i64 q] 23)) W.heap.size (.slice (some ⟨g3, 0, none⟩) (init.length + 1) cp) (init ++ [(f, t)])) := OwnV.alloc O3.out _
            have NA : Hid (CellsV pairCells (wq.alloc (.cells #[.int .i64 p, .int .i64 q] 23)) (wq.heap.size + 1) (some ⟨wq.heap.size, 0, none⟩) [(p, q)]) := one_cells wq p q _
            have hsq : W.heap.size ≤ wq.heap.size := B3.out.size
            have hbase : W.heap.size ≤ (wq.alloc (.cells #[.int .i64 p, .int .i64 q] 23)).heap.size := by simp; omega
            have hlen : Hid ((init ++ [(f, t)]).length ≤ 500000) := by show _ ≤ _; have := HI.out; omega
            go_wp2_with
              (at_builtin
               refine wpList_appV span_slice _ rfl (.tmp 41) (.tmp 43) rfl W.heap.size _ _ rfl OA.out (wq.heap.size + 1) (some ⟨wq.heap.size, 0, none⟩) 1 1 [(p, q)] rfl NA.out rfl hlen.out (by simp) hbase ?_
               intro v3 w3 o3 g3 t3
               have BV : Hid (Below W.heap.size W w3) := (B3.out.alloc hsq _).grown g3 hbase (ownV_ge OA.out)
               have OV := Lib.hid o3
               clear o3 g3 t3)
            go_roundg (n - i)
            case measure => have := HI.out; omega
            case rel => exact ⟨i + 1, _, by go_num, by show _ ∧ _; have := HI.out; simp at this ⊢; omega, HM.out.apart HS.out HX.out HQ.out (HM.out.1.all_lt (by have := HPT.out; omega)), OV.out, BV.out⟩
    · have hltz : ¬ (i : Int) < (n : Int) := by omega
      obtain ⟨A9, cap9, hv9, hc9, hm9, y9⟩ := O.out.cells
      subst hv9
      have Y9 := Lib.hid y9
      clear y9
      have HF : Hid (Sp.Norm out ∧ (∀ x, Sp.Has out x ↔ Sp.Has l x) ∧ out.length ≤ l.length) := by
        refine ⟨HM.out.1, fun x => ?_, by have := HI.out; have := hl.out; omega⟩
        rw [HM.out.2.1 x, List.take_of_length_le (by have := HSl.out; omega)]
        exact has_perm HPm.out x
      go_wp2_with fail
      go_ret
      exact ⟨_, out, rfl, HF.out.1, HF.out.2.1, HF.out.2.2, _, _, rfl, hc9, hm9, Y9.out, HW1.out.trans (BW.out.mono hs1)⟩
end Go.Proofs.Ytnbnohphdehfoaa
