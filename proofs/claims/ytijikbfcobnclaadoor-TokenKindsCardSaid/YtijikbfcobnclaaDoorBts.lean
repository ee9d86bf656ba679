/-
  Slices of bytes and strings: what is known of a slice of bytes ('Byts'), a string's bytes ('bts'), bytes as a string, '[]byte(s)' and 'string(b)', append onto bytes of the call's own. (What XUtfDec, XUtfStr, XEdBase have of it, without package utf.)
-/
import Derived.Test.YtijikbfcobnclaaDoorAppV
import Derived.Lib.Bytes
namespace Go.Proofs.YtijikbfcobnclaaDoor
open Go.RowKit

/-- All are bytes. -/
def U.Byt (l : List Int) : Prop := ∀ x ∈ l, 0 ≤ x ∧ x ≤ 255
/-- The slice at A holds just the bytes l. -/
def Byts (w : World) (B : Nat) (A : Option Addr) (l : List Int) : Prop :=
  U.Byt l ∧ (0 < l.length → ∃ b o, A = some ⟨b, o, none⟩ ∧ b < B ∧ ∀ i x, l[i]? = some x → w.cell? ⟨b, o + i, none⟩ = some (.int .u8 x))
/-- The bytes l as a string. -/
def strOf (l : List Int) : ByteArray := strOfNums l
theorem strOf_inj {l m : List Int} (hl : U.Byt l) (hm : U.Byt m) (h : strOf l = strOf m) : l = m := by
  have h1 : l.map (fun n => UInt8.ofNat n.toNat) = m.map (fun n => UInt8.ofNat n.toNat) := by
    have := congrArg (fun b : ByteArray => b.data.toList) h
    simpa [strOf, strOfNums] using this
  clear h
  induction l generalizing m with
  | nil => cases m with
    | nil => rfl
    | cons x t => simp at h1
  | cons x t ih => cases m with
    | nil => simp at h1
    | cons y u =>
      simp only [List.map_cons, List.cons.injEq] at h1
      have hx := hl x (by simp)
      have hy := hm y (by simp)
      have e : x = y := by
        have := congrArg UInt8.toNat h1.1
        simp only [UInt8.toNat_ofNat'] at this
        omega
      rw [e, ih (fun z hz => hl z (by simp [hz])) (fun z hz => hm z (by simp [hz])) h1.2]
theorem Byts.out {w : World} {B : Nat} {A : Option Addr} {l : List Int} (h : Byts w B A l) : U.Byt l := h.1
theorem Byts.keep {w w' : World} {B : Nat} {A : Option Addr} {l : List Int} (h : Byts w B A l) (hk : ∀ b o, b < B → w'.cell? ⟨b, o, none⟩ = w.cell? ⟨b, o, none⟩) : Byts w' B A l :=
  ⟨h.1, fun hp => by
    obtain ⟨b, o, e, hb, hc⟩ := h.2 hp
    exact ⟨b, o, e, hb, fun i x hx => (hk b (o + i) hb).trans (hc i x hx)⟩⟩
theorem Byts.below {w w' : World} {B B' : Nat} {A : Option Addr} {l : List Int} (h : Byts w B A l) (hb : Below B' w w') (hB : B ≤ B') : Byts w' B A l :=
  h.keep fun _ _ hlt => hb.cell (Nat.lt_of_lt_of_le hlt hB)
theorem Byts.more {w : World} {B B' : Nat} {A : Option Addr} {l : List Int} (h : Byts w B A l) (hB : B ≤ B') : Byts w B' A l :=
  ⟨h.1, fun hp => by
    obtain ⟨b, o, e, hb, hc⟩ := h.2 hp
    exact ⟨b, o, e, by omega, hc⟩⟩
theorem Byts.on {w : World} {B : Nat} {A : Option Addr} {l : List Int} (h : Byts w B A l) (hB : B ≤ w.heap.size) {w' : World} (hb : Below w.heap.size w w') : Byts w' w'.heap.size A l :=
  (h.below hb hB).more (Nat.le_trans hB hb.size)
theorem Byts.nil {w : World} {B : Nat} {A : Option Addr} : Byts w B A [] := ⟨fun x hx => by simp at hx, fun h => by simp at h⟩
theorem Byts.take {w : World} {B : Nat} {A : Option Addr} {l : List Int} (h : Byts w B A l) (n : Nat) : Byts w B A (l.take n) :=
  ⟨fun x hx => h.1 x (List.mem_of_mem_take hx), fun hp => by
    obtain ⟨b, o, e, hb, hc⟩ := h.2 (by rw [List.length_take] at hp; omega)
    exact ⟨b, o, e, hb, fun i x hx => hc i x (by
      rw [List.getElem?_take] at hx
      split at hx
      · exact hx
      · cases hx)⟩⟩
theorem Byts.nums {w : World} {B : Nat} {A : Option Addr} {l : List Int} (h : Byts w B A l) : NumsK .u8 w B A l := h.2
theorem conv_bytes {w : World} {B : Nat} {A : Option Addr} {l : List Int} (h : Byts w B A l) (n cap : Nat) (hn : l.length = n) :
    (convert 28 9 (.slice A n cap)).run Tryd.prog w = .ok (.string (strOf l)) w := by
  subst hn
  by_cases hl : 0 < l.length
  · obtain ⟨b, o, rfl, _, hc⟩ := h.2 hl
    exact run_convert_bytes_arg w _ 5 Tryd.underlying28 Tryd.underlying5 b o l.length cap l rfl (fun i hi => by
      rw [hc i _ (List.getElem?_eq_getElem hi)]
      simp [List.getD, List.getElem?_eq_getElem hi]) _ Tryd.underlying9
  · have : l = [] := List.eq_nil_of_length_eq_zero (by omega)
    subst this
    cases A with
    | none => exact run_convert_bytes_nil w _ 5 Tryd.underlying28 Tryd.underlying5 _ _ _ Tryd.underlying9
    | some a =>
      have := run_convert_bytes_back w 28 9 5 a cap [] Tryd.underlying28 Tryd.underlying5 Tryd.underlying9 (fun j hj => by simp at hj)
      simpa [strOf, strOfNums] using this
/-- The bytes of a string. -/
def bts (s : ByteArray) : List Int := s.data.toList.map fun b => (b.toNat : Int)
theorem bts_length (s : ByteArray) : (bts s).length = s.size := by simp [bts]
theorem bts_byt (s : ByteArray) : U.Byt (bts s) := fun x hx => by
  simp only [bts, List.mem_map] at hx
  obtain ⟨b, _, rfl⟩ := hx
  have := b.toNat_lt
  omega
theorem u8_slice : SliceK .u8 28 5 := ⟨Tryd.underlying28, 1, by omega, by kernel_rfl⟩
end Go.Proofs.YtijikbfcobnclaaDoor
