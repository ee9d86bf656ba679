/-
  The walk of the law FilesChecks: it answers true, and leaves what was there as it was.
-/
import Derived.Test.YtnpmkapapacffaaDoorFlRefC
import Derived.Test.YtnpmkapapacffaaDoorFlFew
import Derived.Test.YtnpmkapapacffaaDoorFlWorks
import Derived.Test.YtnpmkapapacffaaDoorFlRefO
import Derived.Test.YtnpmkapapacffaaDoorFlSame
namespace Go.Proofs.YtnpmkapapacffaaDoor
open Go.Shelf Go.RowKit Go.Lib Go.Sort Fm


theorem flFault_num : ∀ (r seen : List Fl) (k : Nat) (s : ByteArray), flFault seen r = some (k, s) → 1 ≤ k ∧ k ≤ 25 := by
  intro r
  induction r with
  | nil => intro seen k s h; simp [flFault] at h
  | cons f r ih =>
    intro seen k s h
    unfold flFault at h
    split at h
    · cases h; omega
    · split at h
      · cases h; omega
      · split at h
        · cases h; omega
        · exact ih _ _ _ h
theorem pkFault_num : ∀ (r seen : List Pk) (k : Nat) (s : ByteArray), pkFault seen r = some (k, s) → 1 ≤ k ∧ k ≤ 25 := by
  intro r
  induction r with
  | nil => intro seen k s h; simp [pkFault] at h
  | cons p r ih =>
    intro seen k s h
    unfold pkFault at h
    split at h
    · cases h; omega
    · split at h
      · cases h; omega
      · split at h
        · next e he => cases h; exact flFault_num _ _ _ _ he
        · exact ih _ _ _ h
/-- The fault's number and name, as the reference answers them and as the laws read them off the error. -/
theorem fault_read (o : Option (Nat × ByteArray)) (ho : ∀ k s, o = some (k, s) → 1 ≤ k ∧ k ≤ 25) : ∃ (k : Int) (s : ByteArray), refFlt o = .tuple #[.int .i64 k, .string s] ∧ (∀ w, Calls Tryd.prog 15 #[flErr o] w fun e w' => e = .returned (.int .i64 k) ∧ Below w.heap.size w w') ∧ ∀ w, ErrType w → Calls Tryd.prog 16 #[flErr o] w fun e w' => e = .returned (.string s) ∧ Below w.heap.size w w' := by
  cases o with
  | none => exact ⟨0, ⟨#[]⟩, rfl, code_nil, fun w _ => named_nil w⟩
  | some x =>
    obtain ⟨k, s⟩ := x
    obtain ⟨h1, h2⟩ := ho k s rfl
    exact ⟨k, s, rfl, code_lack s k h1 h2, fun w hg => named_lack s k w hg⟩
theorem ordP_length (l : List Pk) : (ordP l).length = l.length := by unfold ordP; rw [List.length_map, ordL_length]
theorem ordP_small {l : List Pk} (h : Small l) : Small (ordP l) := by
  refine ⟨by rw [ordP_length]; exact h.1, fun p hp => ?_⟩
  unfold ordP at hp
  obtain ⟨q, hq, rfl⟩ := List.mem_map.1 hp
  have hq2 := h.2 q ((ordL_perm' pk l).mem_iff.2 hq)
  refine ⟨by simp only [inOrder]; rw [ordL_length]; exact hq2.1, fun f hf => hq2.2 f ?_⟩
  simp only [inOrder] at hf
  exact (ordL_perm' fk q.files).mem_iff.2 hf

set_option maxRecDepth 100000 in
set_option maxHeartbeats 8000000 in
theorem filesChecks_any (A : Option Addr) (n cap : Nat) (ps : List Pk) (W : World) (hb : PksAt W W.heap.size A ps) (hl : Hid (ps.length = n)) (hcap : n ≤ 9223372036854775807) (hg : ErrType W) :
    Calls Tryd.prog 4 #[.slice A n cap] W fun e w' => e = .returned (.bool true) ∧ Below W.heap.size W w' := by
  have HFW := Lib.hid (Few_run A n cap ps W hb hl hcap)
  have HG := Lib.hid hg
  have hgl := hg.lt
  obtain ⟨L, hL⟩ : ∃ L, fewP ps = L := ⟨_, rfl⟩
  have HS : Hid (Small L) := by show Small _; rw [← hL]; exact few_small ps
  have HSH : Hid (Short L) := by show Short _; rw [← hL]; exact few_short ps
  rw [hL] at HFW
  obtain ⟨l, hll⟩ : ∃ l, L.length = l := ⟨_, rfl⟩
  have HL := Lib.hid hll
  have HOL : Hid ((ordP L).length = l) := (ordP_length L).trans hll
  obtain ⟨k, s, hr1, hr2, hr3⟩ := fault_read (pkFault [] L) (pkFault_num L [])
  have HCode := Lib.hid hr2
  have HName := Lib.hid hr3
  have HChk : Hid (∀ A cap w, PksAt w w.heap.size A L → ErrType w → Calls Tryd.prog 13 #[.slice A l cap] w fun e w' => e = .returned (flErr (pkFault [] L)) ∧ Below w.heap.size w w') := fun A cap w h hg => Check_run A l cap L w h HL HS HSH hg
  have HRef : Hid (∀ A cap w, PksAt w w.heap.size A L → Calls Tryd.prog 14 #[.slice A l cap] w fun e w' => e = .returned (.tuple #[.int .i64 k, .string s]) ∧ Below w.heap.size w w') := fun A cap w h => by
    rw [← hr1]
    refine (refCheck_run A l cap L w h HL HS HSH).mono ?_
    rintro e w' ⟨h1, q, rfl⟩
    exact ⟨h1, below_drewN (Below.refl _ _) q⟩
  obtain ⟨x, hx⟩ : ∃ x, flErr (pkFault [] L) = x := ⟨_, rfl⟩
  rw [hx] at HCode HName HChk
  clear hb hL hg hll hr1 hr2 hr3 hx
  go_enter Tryd.func4, Tryd.ntmps4
  go_wp2_with fail
  refine HFW.out.mono ?_
  rintro e w1 ⟨v, rfl, ho⟩
  obtain ⟨A1, c1, hv, _, _, hp1, hw1⟩ := ho
  rw [HL.out] at hv
  subst hv
  have B1 := Lib.hid hw1
  have HP1 := Lib.hid hp1
  have hs1 := hw1.size
  clear hw1 hp1 HFW
  go_wp2_with fail
  refine (HChk.out A1 c1 w1 HP1.out (HG.out.below B1.out hgl)).mono ?_
  rintro e w2 ⟨rfl, hw2⟩
  have B2 : Hid (Below w1.heap.size w1 w2) := hw2
  have hs2 := hw2.size
  clear hw2 HChk
  go_wp2_with fail
  refine (HRef.out A1 c1 w2 ((HP1.out.below B2.out (Nat.le_refl _)).more hs2)).mono ?_
  rintro e w3 ⟨rfl, hw3⟩
  have B3 : Hid (Below w1.heap.size w1 w3) := B2.out.trans (hw3.mono hs2)
  have hs3 := B3.out.size
  clear hw3 HRef B2 hs2
  go_wp2_with fail
  refine (HCode.out w3).mono ?_
  rintro e w4 ⟨rfl, hw4⟩
  have B4 : Hid (Below w1.heap.size w1 w4) := B3.out.trans (hw4.mono hs3)
  have hs4 := B4.out.size
  clear hw4 HCode B3 hs3
  have G4 : Hid (ErrType w4) := HG.out.below (B1.out.trans (B4.out.mono hs1)) hgl
  go_wp2_with fail
  refine (HName.out w4 G4.out).mono ?_
  rintro e w5 ⟨rfl, hw5⟩
  have B5 : Hid (Below w1.heap.size w1 w5) := B4.out.trans (hw5.mono hs4)
  have hs5 := B5.out.size
  clear hw5 HName B4 hs4 G4
  have HP5 : Hid (PksAt w5 w5.heap.size A1 L) := (HP1.out.below B5.out (Nat.le_refl _)).more hs5
  go_wp2_with fail
  refine (Order_run A1 l c1 L w5 HP5.out HL HS).mono ?_
  rintro e w6 ⟨g, c6, xs, rfl, hx6, hw6⟩
  obtain ⟨A6, d6, hv6, _, _, hp6⟩ := hx6.read
  rw [HOL.out] at hv6
  cases hv6
  have HP6 := Lib.hid hp6
  have B6 : Hid (Below w1.heap.size w1 w6) := B5.out.trans (hw6.mono hs5)
  have B56 := Lib.hid hw6
  have hs6 := hw6.size
  clear hx6 hp6 hw6
  go_wp2_with fail
  refine (refOrder_run A1 l c1 L w6 ((HP1.out.below B6.out (Nat.le_refl _)).more B6.out.size) HL HS).mono ?_
  rintro e w7 ⟨v7, rfl, ho7⟩
  obtain ⟨xs7, hx7, hw7⟩ := ho7
  obtain ⟨A7, d7, hv7, _, _, hp7⟩ := hx7.read
  rw [HOL.out] at hv7
  subst hv7
  have B7 : Hid (Below w1.heap.size w1 w7) := B6.out.trans (hw7.mono B6.out.size)
  have HP67 : Hid (PksAt w7 w7.heap.size (some ⟨g, 0, none⟩) (ordP L)) := (HP6.out.below hw7 (Nat.le_refl _)).more hw7.size
  have HP7 := Lib.hid hp7
  clear hx7 hp7 hw7 HP6
  go_wp2_with fail
  refine (Same_run (some ⟨g, 0, none⟩) A7 l c6 d7 (ordP L) w7 HP67.out HP7.out HOL (ordP_small HS.out)).mono ?_
  rintro e w8 ⟨rfl, q8, rfl⟩
  have B8 : Hid (Below W.heap.size W (w7.drewN q8)) := below_drewN (B1.out.trans (B7.out.mono hs1)) q8
  go_wp2_with fail
  refine (works_run _ (HG.out.below B8.out hgl)).mono ?_
  rintro e w9 ⟨rfl, hw9⟩
  go_wp2_with fail
  go_ret
  exact ⟨rfl, B8.out.trans (hw9.mono B8.out.size)⟩
theorem filesChecks_row (A : Option Addr) (n cap : Nat) (ps : List Pk) (W : World) (hb : PksAt W W.heap.size A ps) (hl : ps.length = n) (hc : n ≤ cap) (hm : cap ≤ 9223372036854775807) (hg : ErrType W) :
    Calls Tryd.prog 4 #[.slice A n cap] W fun e w' => e = .returned (.bool true) ∧ Below W.heap.size W w' :=
  filesChecks_any A n cap ps W hb hl (Nat.le_trans hc hm) hg
end Go.Proofs.YtnpmkapapacffaaDoor
