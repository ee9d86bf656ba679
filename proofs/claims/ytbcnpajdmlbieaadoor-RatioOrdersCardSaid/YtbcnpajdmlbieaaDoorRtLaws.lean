/-
  Stage 8: the two laws as the rows ask for them.
-/
import Derived.Test.YtbcnpajdmlbieaaDoorRtOrders
namespace Go.Proofs.YtbcnpajdmlbieaaDoor
open Go.RowKit

theorem stays_any (s : Bool) (n : Nat) (t : Bool) (d : Nat) (s' : Bool) (n' : Nat) (t' : Bool) (d' : Nat) (W : World) (h : Fits n ∧ Fits d) (g : Fits n' ∧ Fits d') (_ : True) :
    Calls Tryd.prog 3 #[ratV s n t d, ratV s' n' t' d'] W fun e w' => e = .returned (.bool true) ∧ Below W.heap.size W w' := stays_run s n t d s' n' t' d' W h.1 h.2 g.1 g.2
theorem orders_any (s : Bool) (n : Nat) (t : Bool) (d : Nat) (s' : Bool) (n' : Nat) (t' : Bool) (d' : Nat) (W : World) (h : Fits n ∧ Fits d) (g : Fits n' ∧ Fits d') (_ : True) :
    Calls Tryd.prog 4 #[ratV s n t d, ratV s' n' t' d'] W fun e w' => e = .returned (.bool true) ∧ Below W.heap.size W w' := orders_run s n t d s' n' t' d' W h.1 h.2 g.1 g.2
end Go.Proofs.YtbcnpajdmlbieaaDoor
