/-
  What every stage's texts share: an error of api's as a value; what is known of a slice of int's ('Nums'); small facts on endings.
-/
import Derived.Test.YtbcnpajdmlbieaaDoorProg
import Derived.WalkKit
import Derived.WalkSpells
import Derived.WalkLawsBesides
import Derived.IntWalk
import Derived.Lib.Hide
import Derived.Laws.BitsAllLaws
import Derived.Deep.QuietTactic
import Derived.BigQuiet
import Derived.LoopTactic
import Derived.Deep.Light
import Derived.Deep.DeepCutAuto
import Derived.WalkSmall
namespace Go.Proofs.YtbcnpajdmlbieaaDoor
open Go.RowKit

theorem ret_int {k : IntKind} {a b : Int} (h : a = b) : Ending.returned (.int k a) = .returned (.int k b) := by rw [h]
theorem ret_bool {a b : Bool} (h : a = b) : Ending.returned (.bool a) = .returned (.bool b) := by rw [h]
def errno (k : Int) : Value := .iface 56 (.int .i64 k) -- an error of api's: Errno k as a value of type error (b.sh and p.sh strike this line where the seat has no such type)
/-- The numbers l, of kind k, in the slice at A, in a block below B. -/
def NumsK (k : IntKind) (w : World) (B : Nat) (A : Option Addr) (l : List Int) : Prop :=
  0 < l.length → ∃ b o, A = some ⟨b, o, none⟩ ∧ b < B ∧ ∀ i x, l[i]? = some x → w.cell? ⟨b, o + i, none⟩ = some (.int k x)
def Nums (w : World) (B : Nat) (A : Option Addr) (l : List Int) : Prop := NumsK .i64 w B A l
theorem NumsK.keep {k : IntKind} {w w' : World} {B : Nat} {A : Option Addr} {l : List Int} (h : NumsK k w B A l) (hk : ∀ b o, b < B → w'.cell? ⟨b, o, none⟩ = w.cell? ⟨b, o, none⟩) : NumsK k w' B A l :=
  fun hp => by
    obtain ⟨b, o, e, hb, hc⟩ := h hp
    exact ⟨b, o, e, hb, fun i x hx => (hk b (o + i) hb).trans (hc i x hx)⟩
theorem NumsK.below {k : IntKind} {w w' : World} {B B' : Nat} {A : Option Addr} {l : List Int} (h : NumsK k w B A l) (hb : Below B' w w') (hB : B ≤ B') : NumsK k w' B A l :=
  h.keep fun _ _ hlt => hb.cell (Nat.lt_of_lt_of_le hlt hB)
theorem NumsK.more {k : IntKind} {w : World} {B B' : Nat} {A : Option Addr} {l : List Int} (h : NumsK k w B A l) (hB : B ≤ B') : NumsK k w B' A l :=
  fun hp => by
    obtain ⟨b, o, e, hb, hc⟩ := h hp
    exact ⟨b, o, e, by omega, hc⟩
theorem NumsK.on {k : IntKind} {w : World} {B : Nat} {A : Option Addr} {l : List Int} (h : NumsK k w B A l) (hB : B ≤ w.heap.size) {w' : World} (hb : Below w.heap.size w w') : NumsK k w' w'.heap.size A l :=
  (h.below hb hB).more (Nat.le_trans hB hb.size)
theorem NumsK.nil {k : IntKind} {w : World} {B : Nat} {A : Option Addr} : NumsK k w B A [] := fun h => by simp at h
theorem NumsK.alloc {k : IntKind} {w : World} {A : Option Addr} {l : List Int} (h : NumsK k w w.heap.size A l) (o : Obj) : NumsK k (w.alloc o) w.heap.size A l :=
  h.below ((Below.refl _ _).alloc (Nat.le_refl _) o) (Nat.le_refl _)
theorem NumsK.take {k : IntKind} {w : World} {B : Nat} {A : Option Addr} {l : List Int} (h : NumsK k w B A l) (n : Nat) : NumsK k w B A (l.take n) :=
  fun hp => by
    obtain ⟨b, o, e, hb, hc⟩ := h (by rw [List.length_take] at hp; omega)
    exact ⟨b, o, e, hb, fun i x hx => hc i x (by
      rw [List.getElem?_take] at hx
      split at hx
      · exact hx
      · cases hx)⟩
/-- All numbers of a list are int's. -/
def I64 (l : List Int) : Prop := ∀ x ∈ l, -9223372036854775808 ≤ x ∧ x ≤ 9223372036854775807
theorem I64.at {l : List Int} (h : I64 l) {i : Nat} {x : Int} (hx : l[i]? = some x) : -9223372036854775808 ≤ x ∧ x ≤ 9223372036854775807 := h x (List.mem_of_getElem? hx)
end Go.Proofs.YtbcnpajdmlbieaaDoor
