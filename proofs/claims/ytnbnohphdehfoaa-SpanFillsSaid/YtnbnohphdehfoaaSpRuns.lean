/-
  The contract of the reference's Runs: the walk over the places.
-/
import Derived.Test.YtnbnohphdehfoaaSpB
import Derived.Test.YtnbnohphdehfoaaSpSort
namespace Go.Proofs.Ytnbnohphdehfoaa
open Go.RowKit Go.Sort

/-- A store into the last element of a slice of the call's own. -/
theorem OwnV.last1 {w : World} {base g cap : Nat} {l : List (Int × Int)} {f t : Int} (h : OwnV pairCells 2 23 w base (.slice (some ⟨g, 0, none⟩) (l.length + 1) cap) (l ++ [(f, t)])) (u : Int) :
    OwnV pairCells 2 23 (w.setCell ⟨g, l.length * 2 + 1, none⟩ (.int .i64 u)) base (.slice (some ⟨g, 0, none⟩) (l.length + 1) cap) (l ++ [(f, u)]) := by
  have hl := flat_length pair_enc l
  have h' : w.ownsRow base 23 2 (.slice (some ⟨g, 0, none⟩) (l.length + 1) cap) (l.length + 1) ((l ++ [(f, t)]).flatMap pairCells) := by simpa [OwnV] using h
  have := (World.ownsRow.stored h' (l.length * 2 + 1) (.int .i64 u)).1
  have e : (((l ++ [(f, t)]).flatMap pairCells).set (l.length * 2 + 1) (.int .i64 u)) = (l ++ [(f, u)]).flatMap pairCells := by
    rw [List.flatMap_append, List.flatMap_append, List.set_append_right _ _ (by omega), hl, show l.length * 2 + 1 - l.length * 2 = 1 by omega]
    rfl
  rw [e] at this
  simpa [OwnV] using this
theorem OwnV.last0 {w : World} {base g cap : Nat} {l : List (Int × Int)} {f t : Int} (h : OwnV pairCells 2 23 w base (.slice (some ⟨g, 0, none⟩) (l.length + 1) cap) (l ++ [(f, t)])) (u : Int) :
    OwnV pairCells 2 23 (w.setCell ⟨g, l.length * 2, none⟩ (.int .i64 u)) base (.slice (some ⟨g, 0, none⟩) (l.length + 1) cap) (l ++ [(u, t)]) := by
  have hl := flat_length pair_enc l
  have h' : w.ownsRow base 23 2 (.slice (some ⟨g, 0, none⟩) (l.length + 1) cap) (l.length + 1) ((l ++ [(f, t)]).flatMap pairCells) := by simpa [OwnV] using h
  have := (World.ownsRow.stored h' (l.length * 2) (.int .i64 u)).1
  have e : (((l ++ [(f, t)]).flatMap pairCells).set (l.length * 2) (.int .i64 u)) = (l ++ [(u, t)]).flatMap pairCells := by
    rw [List.flatMap_append, List.flatMap_append, List.set_append_right _ _ (by omega), hl, show l.length * 2 - l.length * 2 = 0 by omega]
    rfl
  rw [e] at this
  simpa [OwnV] using this
/-- The last element of a slice of the call's own: where it lies, what its cells hold. -/
theorem OwnV.lastCells {w : World} {base : Nat} {v : Value} {l : List (Int × Int)} {x : Int × Int} (h : OwnV pairCells 2 23 w base v (l ++ [x])) :
    ∃ g cap, v = .slice (some ⟨g, 0, none⟩) (l.length + 1) cap ∧ base ≤ g ∧ g < w.heap.size ∧ l.length + 1 ≤ cap ∧ cap ≤ 9223372036854775807 ∧ w.cell? ⟨g, l.length * 2, none⟩ = some (.int .i64 x.1) ∧ w.cell? ⟨g, l.length * 2 + 1, none⟩ = some (.int .i64 x.2) ∧ w.frozen? ⟨g, l.length * 2, none⟩ = false ∧ w.frozen? ⟨g, l.length * 2 + 1, none⟩ = false := by
  rcases h.2 with ⟨hv, h0⟩ | ⟨g, cap, cur, hv, _, _, hnc, hcm, _⟩
  · simp at h0
  · unfold maxLen at hcm
    simp only [List.length_append, List.length_cons, List.length_nil] at hv hnc
    subst hv
    have hlt := World.ownsRow.lt h g rfl
    have hc := World.ownsRow.cells h (g := g) rfl
    have hx : (l ++ [x])[l.length]? = some x := by simp
    have k0 := hc _ _ (flat_get pair_enc (j := 0) hx rfl)
    have k1 := hc _ _ (flat_get pair_enc (j := 1) hx rfl)
    have hp : ∀ i, (⟨g, 0, none⟩ : Addr).add i = ⟨g, i, none⟩ := fun i => by unfold Addr.add; split <;> simp_all
    rw [hp] at k0 k1
    have h' : w.ownsRow base 23 2 (.slice (some ⟨g, 0, none⟩) (l.length + 1) cap) (l.length + 1) ((l ++ [x]).flatMap pairCells) := by simpa [OwnV] using h
    exact ⟨g, cap, by simp, hlt.1, hlt.2, by omega, by omega, k0, k1, World.ownsRow.frozenAt h' _, World.ownsRow.frozenAt h' _⟩
theorem snoc_cases {α : Type} (l : List α) : l = [] ∨ ∃ i x, l = i ++ [x] := by
  rcases List.eq_nil_or_concat l with h | ⟨i, x, h⟩
  · exact .inl h
  · exact .inr ⟨i, x, by rw [h, List.concat_eq_append]⟩
/-- The one element of a slice literal, in a new block. -/
theorem one_cells (w : World) (x y : Int) (T : TypeId) : CellsV pairCells (w.alloc (.cells #[.int .i64 x, .int .i64 y] T)) (w.heap.size + 1) (some ⟨w.heap.size, 0, none⟩) [(x, y)] := fun _ => by
  refine ⟨_, _, rfl, by omega, fun j u hu => ?_⟩
  match j, hu with
  | 0, hu => cases hu; rw [World.cell?_alloc_at _ _ _ _ rfl]; rfl
  | 1, hu => cases hu; rw [World.cell?_alloc_at _ _ _ _ rfl]; rfl
/-- The places that P holds of, between lo and hi, in the normal form. -/
def RunsOf (P : Int → Prop) (lo hi : Int) (L : List (Int × Int)) : Prop := Sp.Norm L ∧ ∀ x, Sp.Has L x ↔ lo ≤ x ∧ x < hi ∧ P x
theorem RunsOf.unique {P : Int → Prop} {lo hi : Int} {L M : List (Int × Int)} (h : RunsOf P lo hi L) (h' : RunsOf P lo hi M) : L = M := Sp.norm_unique h.1 h'.1 fun x => by rw [h.2, h'.2]
/-- What is known of a slice that a call hands back. -/
def ListOut (L : List (Int × Int)) (w : World) (v : Value) (w' : World) : Prop := ∃ A cap, v = .slice A L.length cap ∧ L.length ≤ cap ∧ cap ≤ 9223372036854775807 ∧ CellsV pairCells w' w'.heap.size A L ∧ Below w.heap.size w w'
/-- What Runs hands back. -/
def RunsPost (P : Int → Prop) (lo hi : Int) (w : World) (e : Ending) (w' : World) : Prop := ∃ v L, e = .returned v ∧ RunsOf P lo hi L ∧ L.length ≤ 2000 ∧ ListOut L w v w'
set_option maxHeartbeats 8000000 in
set_option maxRecDepth 100000 in
theorem runs_run (A : Option Addr) (n cap : Nat) (l : List (Int × Int)) (lo hi : Int) (nt : Bool) (w : World) (hb : CellsV pairCells w w.heap.size A l) (hl : Hid (l.length = n)) (hn : n ≤ 1000) (hlo : -1000 ≤ lo) (hhi : hi ≤ 1000) :
    Calls Try.prog 22 #[.slice A n cap, .int .i64 lo, .int .i64 hi, .bool nt] w fun e w' => RunsPost (fun x => if nt then ¬ Sp.Has l x else Sp.Has l x) lo hi w e w' := by
  have HB := Lib.hid hb
  clear hb
  obtain ⟨P, hP⟩ : ∃ P : Int → Prop, P = fun x => if nt then ¬ Sp.Has l x else Sp.Has l x := ⟨_, rfl⟩
  rw [← hP]
  have HP := Lib.hid hP
  clear hP
  go_enter Try.func22, Try.ntmps22
  go_wp2_with fail
  go_loopg [9, 10] ((hi - lo).toNat + 1) (fun h s9 s10 wr => ∃ (off : Int) (out : List (Int × Int)), s10 = .int .i64 off ∧ Hid (lo ≤ off ∧ (off ≤ hi ∨ off = lo) ∧ (hi - off).toNat < h ∧ (out.length : Int) ≤ off - lo) ∧ Hid (Sp.RunsAt P lo off out) ∧ Hid (OwnV pairCells 2 23 wr w.heap.size s9 out) ∧ Hid (Below w.heap.size w wr))
  case atStart => exact ⟨lo, [], rfl, ⟨Int.le_refl _, .inr rfl, Nat.lt_succ_self _, by simp⟩, Sp.RunsAt.start P lo, OwnV.nil _ _ _ _ _, Below.refl _ _⟩
  case round =>
    obtain ⟨off, out, rfl, HI, HR, O, BW⟩ := hrel
    by_cases hlt : off < hi
    · have hI := HI.out
      have hb1 : -1000 ≤ off := by omega
      have hb2 : off ≤ 1000 := by omega
      obtain ⟨b, hbz⟩ : ∃ b : Bool, b = true ↔ Sp.Has l off := by
        by_cases h : Sp.Has l off
        · exact ⟨true, by simp [h]⟩
        · exact ⟨false, by simp [h]⟩
      have HZ := Lib.hid hbz
      clear hbz hI
      obtain ⟨c, hc⟩ : ∃ c, (b == nt) = c := ⟨_, rfl⟩
      have HPC : Hid (P off ↔ c = false) := by
        show _ ↔ _
        rw [HP.out, ← hc]
        have := HZ.out
        cases b <;> cases nt <;> simp_all
      go_wp2_with fail
      refine (refHas_run A n cap l off b wr (HB.out.below BW.out (Nat.le_refl _)) hl HZ (by omega)).mono ?_
      rintro e w1 ⟨rfl, rfl⟩
      cases c with
      | true =>
        go_wp2_with fail
        go_roundg ((hi - (off + 1)).toNat + 1)
        case measure => have := HI.out; omega
        case rel => exact ⟨off + 1, out, rfl, by show _ ∧ _; have := HI.out; omega, HR.out.skip (by rw [HPC.out]; simp), O, BW⟩
      | false =>
        have hpo : Hid (P off) := HPC.out.2 rfl
        rcases snoc_cases out with he | ⟨init, x, he⟩
        · subst he
          obtain ⟨A9, cap9, hv9, _, _, _⟩ := O.out.cells
          simp only [List.length_nil] at hv9
          subst hv9
          have OA : Hid (OwnV pairCells 2 23 (wr.alloc (.cells #[.int .i64 off, .int .i64 (off + 1)] 23)) w.heap.size (.slice A9 0 cap9) ([] : List (Int × Int))) := OwnV.alloc O.out _
          have NA : Hid (CellsV pairCells (wr.alloc (.cells #[.int .i64 off, .int .i64 (off + 1)] 23)) (wr.heap.size + 1) (some ⟨wr.heap.size, 0, none⟩) [(off, off + 1)]) := one_cells wr off (off + 1) _
          have hsz := BW.out.size
          have hbase : w.heap.size ≤ (wr.alloc (.cells #[.int .i64 off, .int .i64 (off + 1)] 23)).heap.size := by simp; omega
          have hlen : Hid (([] : List (Int × Int)).length ≤ 500000) := by show _ ≤ _; have := HI.out; omega
          go_wp2_with
            (at_builtin
             refine wpList_appV span_slice _ rfl (.tmp 44) (.tmp 49) rfl w.heap.size _ _ rfl OA.out (wr.heap.size + 1) (some ⟨wr.heap.size, 0, none⟩) 1 1 [(off, off + 1)] rfl NA.out rfl hlen.out (by simp) hbase ?_
             intro v3 w3 o3 g3 t3
             have BV : Hid (Below w.heap.size w w3) := (BW.out.alloc hsz _).grown g3 hbase (ownV_ge OA.out)
             have OV := Lib.hid o3
             clear o3 g3 t3)
          go_roundg ((hi - (off + 1)).toNat + 1)
          case measure => have := HI.out; omega
          case rel => exact ⟨off + 1, _, rfl, ⟨by have := HI.out; omega, by have := HI.out; omega, Nat.lt_succ_self _, by have := HI.out; simp at this ⊢; omega⟩, HR.out.new HI.out.1 (by simp) hpo.out, OV.out, BV.out⟩
        · subst he
          obtain ⟨f, t⟩ := x
          obtain ⟨g, cp, hv, hg1, hg2, hcap, hcm, k0, k1, k2, k3⟩ := OwnV.lastCells O.out
          subst hv
          by_cases ht : t = off
          · subst ht
            have tt : (t == t) = true := by simp
            have OV : Hid (OwnV pairCells 2 23 (wr.setCell ⟨g, init.length * 2 + 1, none⟩ (.int .i64 (t + 1))) w.heap.size (.slice (some ⟨g, 0, none⟩) (init.length + 1) cp) (init ++ [(f, t + 1)])) := OwnV.last1 O.out (t + 1)
            have BV : Hid (Below w.heap.size w (wr.setCell ⟨g, init.length * 2 + 1, none⟩ (.int .i64 (t + 1)))) := BW.out.setCell hg1 _
            go_wp2_with fail
            go_roundg ((hi - (t + 1)).toNat + 1)
            case measure => have := HI.out; omega
            case rel => exact ⟨t + 1, _, rfl, ⟨by have := HI.out; omega, by have := HI.out; omega, Nat.lt_succ_self _, by have := HI.out; simp at this ⊢; omega⟩, HR.out.longer HI.out.1 hpo.out, OV.out, BV.out⟩
          · have tt : (t == off) = false := by simpa using ht
            have HT := Lib.hid ht
            clear ht
            have OA : Hid (OwnV pairCells 2 23 (wr.alloc (.cells #[.int .i64 off, .int .i64 (off + 1)] 23)) w.heap.size (.slice (some ⟨g, 0, none⟩) (init.length + 1) cp) (init ++ [(f, t)])) := OwnV.alloc O.out _
            have NA : Hid (CellsV pairCells (wr.alloc (.cells #[.int .i64 off, .int .i64 (off + 1)] 23)) (wr.heap.size + 1) (some ⟨wr.heap.size, 0, none⟩) [(off, off + 1)]) := one_cells wr off (off + 1) _
            have hsz := BW.out.size
            have hbase : w.heap.size ≤ (wr.alloc (.cells #[.int .i64 off, .int .i64 (off + 1)] 23)).heap.size := by simp; omega
            have hlen : Hid ((init ++ [(f, t)]).length ≤ 500000) := by show _ ≤ _; have := HI.out; omega
            go_wp2_with
              (at_builtin
               refine wpList_appV span_slice _ rfl (.tmp 44) (.tmp 49) rfl w.heap.size _ _ rfl OA.out (wr.heap.size + 1) (some ⟨wr.heap.size, 0, none⟩) 1 1 [(off, off + 1)] rfl NA.out rfl hlen.out (by simp) hbase ?_
               intro v3 w3 o3 g3 t3
               have BV : Hid (Below w.heap.size w w3) := (BW.out.alloc hsz _).grown g3 hbase (ownV_ge OA.out)
               have OV := Lib.hid o3
               clear o3 g3 t3)
            go_roundg ((hi - (off + 1)).toNat + 1)
            case measure => have := HI.out; omega
            case rel => exact ⟨off + 1, _, rfl, ⟨by have := HI.out; omega, by have := HI.out; omega, Nat.lt_succ_self _, by have := HI.out; simp at this ⊢; omega⟩, HR.out.new HI.out.1 (HR.out.last HT.out) hpo.out, OV.out, BV.out⟩
    · have hltz : ¬ off < hi := hlt
      obtain ⟨A9, cap9, hv9, hc9, hm9, y9⟩ := O.out.cells
      subst hv9
      have Y9 := Lib.hid y9
      clear y9
      have HF : Hid (RunsOf P lo hi out) := by
        have h := HR.out
        have hI := HI.out
        refine ⟨h.1, fun x => (h.2.2 x).trans ?_⟩
        constructor
        · rintro ⟨a, b, c⟩; exact ⟨a, by omega, c⟩
        · rintro ⟨a, b, c⟩; exact ⟨a, by omega, c⟩
      clear hlt
      go_wp2_with fail
      go_ret
      exact ⟨_, out, rfl, HF.out, by have := HI.out; omega, _, _, rfl, hc9, hm9, Y9.out, BW.out⟩
end Go.Proofs.Ytnbnohphdehfoaa
