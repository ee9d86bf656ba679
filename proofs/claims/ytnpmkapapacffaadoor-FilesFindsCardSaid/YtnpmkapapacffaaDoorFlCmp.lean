/-
  strings.Compare; the picks' remainder; where a pick leads.
-/
import Derived.Test.YtnpmkapapacffaaDoorFlSwk
import Derived.Deep.RegionWith
import Derived.Deep.RegionHeld
namespace Go.Proofs.YtnpmkapapacffaaDoor
open Go.Shelf Go.RowKit Go.Lib Go.Sort Fm

theorem But.alloc {a w : World} {bs : List Nat} (h : But a w bs) (o : Obj) : But a (w.alloc o) bs :=
  h.trans ⟨rfl, rfl, rfl, by simp, fun k hk _ => Below.heap_alloc _ _ _ hk⟩
theorem But.more {w w' : World} {bs cs : List Nat} (h : But w w' bs) (hs : ∀ b ∈ bs, b ∈ cs) : But w w' cs := ⟨h.os, h.tape, h.output, h.size, fun k hk hn => h.block k hk fun hb => hn (hs k hb)⟩
theorem hmf : ∀ (fn : Fn) (first cap : Array Value) (w : World), (Instr.makeFunc fn first cap).run Tryd.prog w = .ok (.func fn first cap) w := fun _ _ _ _ => rfl
theorem runCmp (args : Array Value) (w : World) : (callFunc 85 args).run Tryd.prog w = ((Extern.BytealgCompare.compare args).run Tryd.prog w).andThen fun v w' => .ok (.value v) w' :=
  @run_callFunc_extern Tryd.prog 85 _ Extern.BytealgCompare.compare Tryd.func85 (by kernel_rfl) (by kernel_rfl) (by kernel_rfl) (by kernel_rfl) args w
set_option maxHeartbeats 400000 in
theorem compare_run (s t : ByteArray) (w : World) : Calls Tryd.prog 61 #[.string s, .string t] w fun e w' => e = .returned (.int .i64 (compareBytes s.data.toList t.data.toList)) ∧ w = w' := by
  have h := runCmp
  have h2 := fun w => run_compareString (P := Tryd.prog) s t w
  go_enter Tryd.func61, Tryd.ntmps61
  go_wp2
  go_ret
  exact ⟨rfl, rfl⟩
set_option maxHeartbeats 1000000 in
theorem mod_run (x m : Int) (h0 : 0 < m) (hm : m ≤ 9223372036854775807) (w : World) : Calls Tryd.prog 66 #[.int .i64 x, .int .i64 m] w fun e w' => e = .returned (.int .i64 (x % m)) ∧ w = w' := by
  have HF := Lib.hid (Fm.mod_fix x m h0)
  have hne : ¬ m = 0 := by omega
  have hbne : (m == 0) = false := by simpa using hne
  obtain ⟨r, hr⟩ : ∃ r, x.tmod m = r := ⟨_, rfl⟩
  have b1 : -9223372036854775808 ≤ r ∧ r < 9223372036854775807 := by
    have h1 := Int.tmod_lt_of_pos x h0
    have h2 : -m < x.tmod m := Int.lt_tmod_of_pos x h0
    omega
  have b2 : r < 0 → -9223372036854775808 ≤ r + m ∧ r + m ≤ 9223372036854775807 := fun h => by omega
  rw [hr] at HF
  by_cases hlt : r < 0
  · have hd : decide (r < 0) = true := decide_eq_true hlt
    have b3 := b2 hlt
    clear b2
    go_enter Tryd.func66, Tryd.ntmps66
    go_wp2
    go_ret
    exact ⟨ret_int (by rw [← HF.out, if_pos hlt]), rfl⟩
  · have hd : decide (r < 0) = false := decide_eq_false hlt
    clear b2
    go_enter Tryd.func66, Tryd.ntmps66
    go_wp2
    go_ret
    exact ⟨ret_int (by rw [← HF.out, if_neg (by omega)]), rfl⟩
/-- Where the reference lets what stands at i change to. -/
def refTo (pick : List Int) (i n : Nat) : Nat := match pick[i]? with | some x => tgt n i x | none => i
set_option maxHeartbeats 2000000 in
theorem to_run (i n m c : Nat) (A : Option Addr) (pick : List Int) (w : World) {B : Nat} (hp : Nums w B A pick) (hl : pick.length = m) (hi : i < n) (hn : n ≤ 1000) (h64 : I64 pick) :
    Calls Tryd.prog 46 #[.int .i64 i, .int .i64 n, .slice A m c] w fun e w' => e = .returned (.int .i64 (refTo pick i n)) ∧ w = w' := by
  by_cases him : i < m
  · obtain ⟨b, o, rfl, hb, hc⟩ := hp (by omega)
    obtain ⟨x, hx⟩ : ∃ x, pick[i]? = some x := ⟨_, List.getElem?_eq_getElem (by omega)⟩
    have c0 := hc i x hx
    have hx64 := h64.at hx
    have HF := Lib.hid (Fm.mod_fix x ((n : Int) - i) (by omega))
    have HT : Hid (refTo pick i n = i + (x % ((n : Int) - i)).toNat) := by show _ = _; unfold refTo; rw [hx]; rfl
    have hnn := Int.emod_nonneg x (show (n : Int) - i ≠ 0 by omega)
    have HN := Lib.hid hnn
    have him1 : ¬ (m : Int) ≤ (i : Int) := by omega
    have him2 : decide ((m : Int) ≤ (i : Int)) = false := decide_eq_false him1
    have hne : ¬ (n : Int) - (i : Int) = 0 := by omega
    have hbne : ((n : Int) - (i : Int) == 0) = false := by simpa using hne
    obtain ⟨r, hr⟩ : ∃ r, x.tmod ((n : Int) - i) = r := ⟨_, rfl⟩
    have b1 : -1000 < r ∧ r < 1000 := by
      have h1 := Int.tmod_lt_of_pos x (show (0 : Int) < (n : Int) - i by omega)
      have h2 := Int.lt_tmod_of_pos x (show (0 : Int) < (n : Int) - i by omega)
      omega
    rw [hr] at HF
    clear hp hc hx hnn h64 hl
    by_cases hlt : r < 0
    · have hd : decide (r < 0) = true := decide_eq_true hlt
      go_enter Tryd.func46, Tryd.ntmps46
      go_wp2
      go_ret
      refine ⟨ret_int ?_, rfl⟩
      have := HF.out
      have h2 := HN.out
      rw [if_pos hlt] at this
      rw [HT.out]
      omega
    · have hd : decide (r < 0) = false := decide_eq_false hlt
      go_enter Tryd.func46, Tryd.ntmps46
      go_wp2
      go_ret
      refine ⟨ret_int ?_, rfl⟩
      have := HF.out
      have h2 := HN.out
      rw [if_neg (by omega)] at this
      rw [HT.out]
      omega
  · have him1 : (m : Int) ≤ (i : Int) := by omega
    have him2 : decide ((m : Int) ≤ (i : Int)) = true := decide_eq_true him1
    have HT : Hid (refTo pick i n = i) := by show _ = _; unfold refTo; rw [List.getElem?_eq_none (by omega)]
    go_enter Tryd.func46, Tryd.ntmps46
    go_wp2
    go_ret
    exact ⟨ret_int (by rw [HT.out]), rfl⟩
end Go.Proofs.YtnpmkapapacffaaDoor
