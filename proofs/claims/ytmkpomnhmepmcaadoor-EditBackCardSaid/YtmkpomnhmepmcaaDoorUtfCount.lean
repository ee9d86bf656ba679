/-
  The contracts of utf.Count, utf.Check, utf.Boundary and of the reference's Check, Count and Boundary.
-/
import Derived.Test.YtmkpomnhmepmcaaDoorUtfRefDec
import Derived.Test.YtmkpomnhmepmcaaDoorErrEnds
namespace Go.Proofs.YtmkpomnhmepmcaaDoor
open Go.RowKit

/-- How many runes d has behind n others, from the place p on; and the place where no encoding begins, if there is one. (f: more than d has bytes.) -/
def scan : Nat → List Int → Nat → Nat → Nat × Option Nat
  | 0, _, _, n => (n, none)
  | f + 1, d, p, n => match d with
    | [] => (n, none)
    | _ :: _ => match U.dec d with
      | none => (n, some p)
      | some (_, k) => scan f (d.drop k) (p + k) (n + 1)
/-- The runes of l, and where they end. -/
def scanAll (l : List Int) : Nat × Option Nat := scan (l.length + 1) l 0 0
/-- Where a walk over l stands: at the place p, behind n runes. -/
def AtPlace (l : List Int) (p n : Nat) : Prop := p ≤ l.length ∧ n ≤ p ∧ ∃ f, l.length < p + f ∧ scan f (l.drop p) p n = scanAll l
theorem AtPlace.start (l : List Int) : AtPlace l 0 0 := ⟨by omega, by omega, l.length + 1, by omega, rfl⟩
theorem AtPlace.done {l : List Int} {p n : Nat} (h : AtPlace l p n) (hp : l.length ≤ p) : scanAll l = (n, none) := by
  obtain ⟨_, _, f, hf, e⟩ := h
  rw [List.drop_eq_nil_of_le hp] at e
  match f, hf with
  | f + 1, _ => exact e.symm
  | 0, hf => omega
theorem AtPlace.bad {l : List Int} {p n : Nat} (h : AtPlace l p n) (hp : p < l.length) (hd : U.dec (l.drop p) = none) : scanAll l = (n, some p) := by
  obtain ⟨_, _, f, hf, e⟩ := h
  match f, hf, e with
  | f + 1, _, e =>
    rw [List.drop_eq_getElem_cons hp] at e hd
    rw [scan, hd] at e
    exact e.symm
  | 0, hf, _ => omega
theorem AtPlace.next {l : List Int} {p n : Nat} (h : AtPlace l p n) (hp : p < l.length) {r : Int} {k : Nat} (hd : U.dec (l.drop p) = some (r, k)) : AtPlace l (p + k) (n + 1) ∧ 1 ≤ k ∧ p + k ≤ l.length := by
  obtain ⟨h1, h2, f, hf, e⟩ := h
  obtain ⟨hr, hk, t, ht⟩ := U.enc_dec hd
  have hk1 := U.rlen_pos r
  have hlen : p + k ≤ l.length := by
    have := congrArg List.length ht
    rw [List.length_drop, List.length_append, U.enc_length] at this
    omega
  refine ⟨⟨hlen, by omega, ?_⟩, by omega, hlen⟩
  match f, hf, e with
  | f + 1, hf, e =>
    refine ⟨f, by omega, ?_⟩
    rw [List.drop_eq_getElem_cons hp] at e hd
    rw [scan, hd] at e
    rw [← List.drop_eq_getElem_cons hp] at e
    have e' : scan f ((l.drop p).drop k) (p + k) (n + 1) = scanAll l := e
    rwa [List.drop_drop] at e'
  | 0, hf, _ => omega
theorem Heads.below {w w' : World} {B : Nat} (h : Heads w) (hb : Below B w w') (hB : 1 < B) : Heads w' := fun k h1 h4 => (hb.cell (p := ⟨1, k, none⟩) hB).trans (h k h1 h4)
theorem Byts.len_cap {w : World} {B : Nat} {A : Option Addr} {l : List Int} (h : Byts w B A l) (hB : B ≤ w.heap.size) {w' : World} (hb : Below w.heap.size w w') : Byts w' w'.heap.size A l :=
  (h.below hb hB).more (Nat.le_trans hB hb.size)

/-- The answer of utf.Count. -/
def countAns : Nat × Option Nat → Value
  | (n, none) => .tuple #[.int .i64 n, .nilIface]
  | (_, some p) => .tuple #[.int .i64 0, errAt p 3]
set_option maxRecDepth 100000 in
set_option maxHeartbeats 1000000 in
theorem Count_any (A : Option Addr) (n cap : Nat) (l : List Int) (w : World) (hb : Byts w w.heap.size A l) (hh : Heads w) (hl : Hid (l.length = n)) (hcap : n ≤ cap) (hn : n ≤ 16777216) :
    Calls Tryd.prog 44 #[.slice A n cap] w fun e w' => e = .returned (countAns (scanAll l)) ∧ Below w.heap.size w w' := by
  have Hb := Lib.hid hb
  have Hh := Lib.hid hh
  have hlt := hh.lt
  clear hb hh
  go_enter Tryd.func44, Tryd.ntmps44
  go_wp2
  go_loopg [4, 5] (n + 1) (fun g s4 s5 wr => ∃ p m : Nat, Hid (p + g = n + 1) ∧ p ≤ n ∧ m ≤ p ∧ s4 = .int .i64 m ∧ s5 = .int .i64 p ∧ Hid (AtPlace l p m) ∧ Below w.heap.size w wr)
  case atStart => exact ⟨0, 0, by show _ = _; omega, by omega, by omega, rfl, rfl, AtPlace.start l, Below.refl _ _⟩
  case round =>
    obtain ⟨p, m, hg, hp, hm, rfl, rfl, Hp, hbw⟩ := hrel
    by_cases hlt2 : p < n
    · have hpl : p < l.length := by have := hl.out; omega
      cases hd : U.dec (l.drop p) with
      | none =>
        have Hd := Lib.hid hd
        have He : Hid (decAns l p = .tuple #[.int .i32 0, .int .i64 0, .iface 46 (.int .i64 3)]) := by
          show _ = _
          rw [decAns_at l p hpl, hd]; rfl
        clear hd
        go_wp2_with (go_at_call 49; refine (decode_any (B := w.heap.size) A n cap l _ _ (Hb.out.below hbw (Nat.le_refl _)) (Hh.out.below hbw hlt) hl.out hcap (by omega)).mono ?_; rw [He.out]; rintro e w1 ⟨rfl, q, rfl⟩)
        go_ret2
        rw [Hp.out.bad hpl Hd.out]
        exact ⟨rfl, below_drewN hbw _⟩
      | some rk =>
        obtain ⟨r, k⟩ := rk
        obtain ⟨hnx, hk1, hkl⟩ := Hp.out.next hpl hd
        have Hnx := Lib.hid hnx
        have He : Hid (decAns l p = .tuple #[.int .i32 r, .int .i64 k, .nilIface]) := by
          show _ = _
          rw [decAns_at l p hpl, hd]; rfl
        have hkn : p + k ≤ n := by have := hl.out; omega
        clear hd hnx hkl hpl
        go_wp2_with (go_at_call 49; refine (decode_any (B := w.heap.size) A n cap l _ _ (Hb.out.below hbw (Nat.le_refl _)) (Hh.out.below hbw hlt) hl.out hcap (by omega)).mono ?_; rw [He.out]; rintro e w1 ⟨rfl, q, rfl⟩)
        go_roundg (n + 1 - (p + k))
        case measure => have := hg.out; omega
        case rel => exact ⟨p + k, m + 1, by show _ = _; omega, hkn, by omega, by go_num, by go_num, Hnx.out, below_drewN hbw _⟩
    · go_wp2
      go_ret2
      rw [Hp.out.done (by have := hl.out; omega)]
      exact ⟨rfl, hbw⟩
end Go.Proofs.YtmkpomnhmepmcaaDoor
