/-
  The chapter's example.
-/
import Derived.Test.YtnpmkapapacffaaDoorFlCheck
namespace Go.Proofs.YtnpmkapapacffaaDoor
open Go.Shelf Go.RowKit Go.Lib Go.Sort Go.Maps Fm

def pA : Pk := ⟨⟨#[97]⟩, []⟩
def pB : Pk := ⟨⟨#[98]⟩, []⟩
theorem ord_ba : ordP [pB, pA] = [pA, pB] := by
  have h : ordL pk [pB, pA] = [pA, pB] := by
    symm
    apply ordL_unique
    · refine List.pairwise_cons.2 ⟨fun y hy => ?_, List.pairwise_cons.2 ⟨fun y hy => by simp at hy, .nil⟩⟩
      rw [List.mem_singleton.1 hy]
      decide
    · exact Stb.Same.swap (key := pk) [] [] (by decide)
  unfold ordP
  rw [h]
  have e : ∀ p : Pk, p.files = [] → inOrder p = p := fun p hp => by
    obtain ⟨s, f⟩ := p
    simp only [] at hp
    subst hp
    unfold inOrder
    rw [show ordL fk (Pk.mk s []).files = [] from List.eq_nil_of_length_eq_zero (by rw [ordL_length]; rfl)]
  simp [e pA rfl, e pB rfl]
theorem perm_ab : permP [pA, pB] [1] = [pB, pA] := by
  have h : permL [pA, pB] [1] = [pB, pA] := by rfl
  unfold permP
  rw [h]
  have e : ∀ p : Pk, p.files = [] → Fm.picked [1] p = p := fun p hp => by
    obtain ⟨s, f⟩ := p
    simp only [] at hp
    subst hp
    rfl
  simp [e pA rfl, e pB rfl]
theorem fault_ba : pkFault [] [pB, pA] = none := by rfl
theorem small_ba : Small [pB, pA] := ⟨by decide, fun p hp => by
  rcases List.mem_cons.1 hp with rfl | hp
  · exact ⟨by decide, fun f hf => by simp [pB] at hf⟩
  · rw [List.mem_singleton.1 hp]
    exact ⟨by decide, fun f hf => by simp [pA] at hf⟩⟩
theorem small_ab : Small [pA, pB] := ⟨by decide, fun p hp => by
  rcases List.mem_cons.1 hp with rfl | hp
  · exact ⟨by decide, fun f hf => by simp [pA] at hf⟩
  · rw [List.mem_singleton.1 hp]
    exact ⟨by decide, fun f hf => by simp [pB] at hf⟩⟩
theorem short_ba : Short [pB, pA] := fun p hp => by
  rcases List.mem_cons.1 hp with rfl | hp
  · exact ⟨by decide, fun f hf => by simp [pB] at hf⟩
  · rw [List.mem_singleton.1 hp]
    exact ⟨by decide, fun f hf => by simp [pA] at hf⟩
def litBA : Obj := .cells #[.string ⟨#[98]⟩, .slice none 0 0, .string ⟨#[97]⟩, .slice none 0 0] 48
theorem pks_ba (w : World) : PksAt (w.alloc litBA) (w.heap.size + 1) (some ⟨w.heap.size, 0, none⟩) [pB, pA] := by
  unfold litBA
  refine ⟨[⟨⟨#[98]⟩, none, 0, 0⟩, ⟨⟨#[97]⟩, none, 0, 0⟩], fun _ => ⟨_, _, rfl, by omega, fun j u hu => ?_⟩, rfl, fun i x y hx hy => ?_⟩
  · match j, hu with
    | 0, hu => cases hu; rw [World.cell?_alloc_at _ _ _ _ rfl]; rfl
    | 1, hu => cases hu; rw [World.cell?_alloc_at _ _ _ _ rfl]; rfl
    | 2, hu => cases hu; rw [World.cell?_alloc_at _ _ _ _ rfl]; rfl
    | 3, hu => cases hu; rw [World.cell?_alloc_at _ _ _ _ rfl]; rfl
  · match i, hx, hy with
    | 0, hx, hy => cases hx; cases hy; exact ⟨rfl, rfl, by decide, by decide, FlsAt.nil⟩
    | 1, hx, hy => cases hx; cases hy; exact ⟨rfl, rfl, by decide, by decide, FlsAt.nil⟩
set_option maxHeartbeats 4000000 in
theorem works_run (w : World) (hg : ErrType w) : Calls Tryd.prog 11 #[] w fun e w' => e = .returned (.bool true) ∧ Below w.heap.size w w' := by
  have HL := Lib.hid (pks_ba w)
  have B1 : Hid (Below w.heap.size w (w.alloc litBA)) := (Below.refl _ _).alloc (Nat.le_refl _) _
  have HO := Lib.hid (Order_run (some ⟨w.heap.size, 0, none⟩) 2 2 [pB, pA] (w.alloc litBA) ((pks_ba w).more (by simp)) rfl small_ba)
  rw [ord_ba] at HO
  have HG := Lib.hid hg
  have hgl := hg.lt
  clear hg
  unfold litBA at *
  go_enter Tryd.func11, Tryd.ntmps11
  go_wp2_with fail
  refine HO.out.mono ?_
  rintro e w2 ⟨g, c, xs, rfl, hx2, hw2⟩
  obtain ⟨A2, c2, hv2, hlc2, hcm2, hp2⟩ := hx2.read
  cases hv2
  have B2 : Hid (Below w.heap.size w w2) := B1.out.trans (hw2.mono B1.out.size)
  have B2' := Lib.hid hw2
  have HP2 := Lib.hid hp2
  have hs2 := hw2.size
  clear hx2 hw2 hp2 HO
  have B3 : Hid (Below w2.heap.size w2 (w2.alloc (.cells #[.int .i64 1] 3))) := (Below.refl _ _).alloc (Nat.le_refl _) _
  have HN : Hid (Nums (w2.alloc (.cells #[.int .i64 1] 3)) (w2.alloc (.cells #[.int .i64 1] 3)).heap.size (some ⟨w2.heap.size, 0, none⟩) [1]) := fun _ => ⟨_, _, rfl, by simp, fun i x hx => by
    match i, hx with
    | 0, hx => cases hx; rw [World.cell?_alloc_at _ _ _ _ rfl]; rfl⟩
  have HPM := Lib.hid (Permute_run (some ⟨g, 0, none⟩) 2 c [pA, pB] (some ⟨w2.heap.size, 0, none⟩) 1 1 [1] _ (HP2.out.on (Nat.le_refl _) B3.out) rfl small_ab HN.out rfl (by omega))
  rw [perm_ab] at HPM
  go_wp2_with fail
  refine HPM.out.mono ?_
  rintro e w3 ⟨g3, c3, xs3, rfl, hx3, hw3⟩
  obtain ⟨A3, c4, hv3, hlc3, hcm3, hp3⟩ := hx3.read
  cases hv3
  have B4 : Hid (Below w2.heap.size w2 w3) := B3.out.trans (hw3.mono B3.out.size)
  have B5 : Hid (Below w.heap.size w w3) := B2.out.trans (B4.out.mono (by have := B2.out.size; omega))
  obtain ⟨b9, o9, F9, m9, k9, e9, _, d0, _⟩ := (HP2.out.below B4.out (Nat.le_refl _)).at (i := 0) (p := pA) rfl
  cases e9
  obtain ⟨b8, o8, F8, m8, k8, e8, _, d1, _⟩ := hp3.at (i := 0) (p := pB) rfl
  cases e8
  have d0' : w3.cell? ⟨g, 0, none⟩ = some (.string ⟨#[97]⟩) := d0
  have d1' : w3.cell? ⟨g3, 0, none⟩ = some (.string ⟨#[98]⟩) := d1
  have HC := Lib.hid (Check_run (some ⟨w.heap.size, 0, none⟩) 2 2 [pB, pA] w3 ((HL.out.below (B2'.out.trans (B4.out.mono hs2)) (by simp)).more (by have := B5.out.size; have := B4.out.size; simp at hs2; omega)) rfl small_ba short_ba (HG.out.below B5.out hgl))
  have HF : Hid (flErr (pkFault [] [pB, pA]) = .nilIface) := by show flErr _ = _; rw [fault_ba]; rfl
  rw [HF.out] at HC
  clear hx3 hw3 hp3 d0 d1 HPM
  go_wp2_with fail
  refine HC.out.mono ?_
  rintro e w4 ⟨rfl, hw4⟩
  go_wp2_with fail
  go_ret
  exact ⟨rfl, B5.out.trans (hw4.mono B5.out.size)⟩
end Go.Proofs.YtnpmkapapacffaaDoor
