/-
  A slice of bytes as a string, and the contract of bytes.Equal. What is known of a slice of bytes ('Byts') is kept over new blocks and draws.
-/
import Derived.Test.YtmkpomnhmepmcaaDoorUtfByt
import Derived.Lib.Bytes
namespace Go.Proofs.YtmkpomnhmepmcaaDoor
open Go.RowKit

/-- The bytes l as a string. -/
def strOf (l : List Int) : ByteArray := strOfNums l
theorem strOf_inj {l m : List Int} (hl : U.Byt l) (hm : U.Byt m) (h : strOf l = strOf m) : l = m := by
  have h1 : l.map (fun n => UInt8.ofNat n.toNat) = m.map (fun n => UInt8.ofNat n.toNat) := by
    have := congrArg (fun b : ByteArray => b.data.toList) h
    simpa [strOf, strOfNums] using this
  clear h
  induction l generalizing m with
  | nil => cases m with
    | nil => rfl
    | cons x t => simp at h1
  | cons x t ih => cases m with
    | nil => simp at h1
    | cons y u =>
      simp only [List.map_cons, List.cons.injEq] at h1
      have hx := hl x (by simp)
      have hy := hm y (by simp)
      have e : x = y := by
        have := congrArg UInt8.toNat h1.1
        simp only [UInt8.toNat_ofNat'] at this
        omega
      rw [e, ih (fun z hz => hl z (by simp [hz])) (fun z hz => hm z (by simp [hz])) h1.2]
theorem Byts.out {w : World} {B : Nat} {A : Option Addr} {l : List Int} (h : Byts w B A l) : U.Byt l := h.1
theorem Byts.keep {w w' : World} {B : Nat} {A : Option Addr} {l : List Int} (h : Byts w B A l) (hk : ∀ b o, b < B → w'.cell? ⟨b, o, none⟩ = w.cell? ⟨b, o, none⟩) : Byts w' B A l :=
  ⟨h.1, fun hp => by
    obtain ⟨b, o, e, hb, hc⟩ := h.2 hp
    exact ⟨b, o, e, hb, fun i x hx => (hk b (o + i) hb).trans (hc i x hx)⟩⟩
theorem Byts.below {w w' : World} {B B' : Nat} {A : Option Addr} {l : List Int} (h : Byts w B A l) (hb : Below B' w w') (hB : B ≤ B') : Byts w' B A l :=
  h.keep fun _ _ hlt => hb.cell (Nat.lt_of_lt_of_le hlt hB)
theorem Byts.more {w : World} {B B' : Nat} {A : Option Addr} {l : List Int} (h : Byts w B A l) (hB : B ≤ B') : Byts w B' A l :=
  ⟨h.1, fun hp => by
    obtain ⟨b, o, e, hb, hc⟩ := h.2 hp
    exact ⟨b, o, e, by omega, hc⟩⟩
theorem Byts.drewN {w : World} {B : Nat} {A : Option Addr} {l : List Int} (h : Byts w B A l) (n : Nat) : Byts (w.drewN n) B A l := h
theorem Byts.nil {w : World} {B : Nat} {A : Option Addr} : Byts w B A [] := ⟨fun x hx => by simp at hx, fun h => by simp at h⟩
/-- The bytes of a new block. -/
theorem Byts.new {w : World} {B : Nat} {l : List Int} (hl : U.Byt l) (e : TypeId) (hB : w.heap.size < B) : Byts (w.alloc (.cells (cellsOf l) e)) B (some ⟨w.heap.size, 0, none⟩) l :=
  ⟨hl, fun _ => ⟨_, _, rfl, hB, fun i x hx => by
    rw [World.cell?_alloc_at _ _ _ _ rfl]
    simp [cellsOf, hx]⟩⟩
theorem Byts.take {w : World} {B : Nat} {A : Option Addr} {l : List Int} (h : Byts w B A l) (n : Nat) : Byts w B A (l.take n) :=
  ⟨fun x hx => h.1 x (List.mem_of_mem_take hx), fun hp => by
    obtain ⟨b, o, e, hb, hc⟩ := h.2 (by rw [List.length_take] at hp; omega)
    exact ⟨b, o, e, hb, fun i x hx => hc i x (by
      rw [List.getElem?_take] at hx
      split at hx
      · exact hx
      · cases hx)⟩⟩
theorem conv_bytes {w : World} {B : Nat} {A : Option Addr} {l : List Int} (h : Byts w B A l) (n cap : Nat) (hn : l.length = n) :
    (convert 22 9 (.slice A n cap)).run Tryd.prog w = .ok (.string (strOf l)) w := by
  subst hn
  by_cases hl : 0 < l.length
  · obtain ⟨b, o, rfl, _, hc⟩ := h.2 hl
    exact run_convert_bytes_arg w _ 5 Tryd.underlying22 Tryd.underlying5 b o l.length cap l rfl (fun i hi => by
      rw [hc i _ (List.getElem?_eq_getElem hi)]
      simp [List.getD, List.getElem?_eq_getElem hi]) _ Tryd.underlying9
  · have : l = [] := List.eq_nil_of_length_eq_zero (by omega)
    subst this
    cases A with
    | none => exact run_convert_bytes_nil w _ 5 Tryd.underlying22 Tryd.underlying5 _ _ _ Tryd.underlying9
    | some a =>
      have := run_convert_bytes_back w 22 9 5 a cap [] Tryd.underlying22 Tryd.underlying5 Tryd.underlying9 (fun j hj => by simp at hj)
      simpa [strOf, strOfNums] using this
theorem strOf_eq {l m : List Int} (hl : U.Byt l) (hm : U.Byt m) : ((strOf l).toList == (strOf m).toList) = decide (l = m) := by
  rw [Bool.eq_iff_iff]
  simp only [beq_iff_eq, decide_eq_true_eq]
  refine ⟨fun h => strOf_inj hl hm ?_, fun h => by rw [h]⟩
  simp only [strOf, Lib.strOfNums_toList, Lib.bytesOf] at h
  simp only [strOf, strOfNums, h]
set_option maxHeartbeats 400000 in
theorem Equal_any {w : World} {B B' : Nat} (A A' : Option Addr) (n cap n' cap' : Nat) (l m : List Int) (h : Byts w B A l) (h' : Byts w B' A' m) (hn : l.length = n) (hn' : m.length = n') :
    Calls Tryd.prog 14 #[.slice A n cap, .slice A' n' cap'] w fun e w' => e = .returned (.bool (decide (l = m))) ∧ w = w' := by
  have h1 := conv_bytes h n cap hn
  have h2 := conv_bytes h' n' cap' hn'
  have H := Lib.hid (strOf_eq h.out h'.out)
  clear h h' hn hn'
  go_enter Tryd.func14, Tryd.ntmps14
  go_wp2
  go_ret
  exact ⟨ret_bool H.out, rfl⟩
end Go.Proofs.YtmkpomnhmepmcaaDoor
