/-
  The edits that undo valid edits: where each stands in the result, and what the result holds there.
-/
import Derived.Test.YtmkpomnhmepmcaaDoorEdInv
namespace Go.Proofs.YtmkpomnhmepmcaaDoor
open Go.RowKit

theorem invI_get {bl : List Int} : ∀ {l : List Ei} {g : Int} {i : Nat} {x : Ei}, l[i]? = some x → (invI bl g l)[i]? = some (invE bl (g + growI (l.take i)) x)
  | [], _, i, x, h => by simp at h
  | e :: r, g, 0, x, h => by
    simp at h
    subst h
    simp [invI, growI]
  | e :: r, g, i + 1, x, h => by
    have := invI_get (bl := bl) (g := g + dgI e.f e.t e.s) (show r[i]? = some x by simpa using h)
    rw [List.take_succ_cons, growI]
    show (invI bl (g + dgI e.f e.t e.s) r)[i]? = _
    rw [this, show g + dgI e.f e.t e.s + growI (r.take i) = g + (dgI e.f e.t e.s + growI (r.take i)) by omega]
/-- Where a walk over the edits that undo stands: at place q of the result, place p of the file. -/
def AtInv (bl : List Int) (l : List Ei) (i p q : Nat) : Prop := ∃ pre, pre.length = q ∧ pre ++ Ed.app bl p ((l.drop i).map toE) = done bl l ∧ Ed.Ok bl.length p ((l.drop i).map toE) ∧ (q : Int) = p + growI (l.take i)
theorem AtInv.start {bl : List Int} {l : List Ei} (h : checkOut bl l = none) : AtInv bl l 0 0 0 := ⟨[], rfl, rfl, valid_ok h, by simp [growI]⟩
theorem AtInv.next {bl : List Int} {l : List Ei} {i p q fn tn : Nat} {s : ByteArray} (h : AtInv bl l i p q) (hx : l[i]? = some ⟨fn, tn, s⟩) :
    p ≤ fn ∧ fn ≤ tn ∧ tn ≤ bl.length ∧ (fn : Int) + growI (l.take i) = ((q + (fn - p) : Nat) : Int) ∧ ((done bl l).drop q).take (fn - p) = (bl.drop p).take (fn - p) ∧ ((done bl l).drop (q + (fn - p))).take s.size = bts s ∧
      q + (fn - p) + s.size ≤ (done bl l).length ∧ AtInv bl l (i + 1) tn (q + (fn - p) + s.size) := by
  obtain ⟨pre, h1, h2, h3, h4⟩ := h
  have hd := drop_at hx
  rw [hd, List.map_cons] at h2 h3
  have hE : toE ⟨fn, tn, s⟩ = ⟨fn, tn, bts s⟩ := by simp [toE]
  rw [hE] at h2 h3
  have hk := Ed.kept h1 h3
  have ht := Ed.text h1 h3
  obtain ⟨c1, c2⟩ := Ed.cut h1 h3
  obtain ⟨a1, a2, a3, a4⟩ := h3
  rw [h2] at hk ht
  simp only [bts_length] at hk ht c2 a1 a2 a3
  have hlen : q + (fn - p) + s.size ≤ (done bl l).length := by
    rw [← h2, c1, List.length_append, c2]
    omega
  refine ⟨a1, a2, a3, by omega, hk, ht, hlen, _, c2, by rw [← c1, h2], a4, ?_⟩
  rw [growI_at hx]
  simp only [dgI]
  omega
theorem AtInv.fin {bl : List Int} {l : List Ei} {i p q : Nat} (h : AtInv bl l i p q) (hi : l.length ≤ i) : p ≤ bl.length ∧ q ≤ (done bl l).length ∧ (done bl l).drop q = bl.drop p := by
  obtain ⟨pre, h1, h2, h3, h4⟩ := h
  rw [List.drop_of_length_le hi, List.map_nil] at h2 h3
  simp only [Ed.app] at h2
  refine ⟨h3, ?_, ?_⟩
  · rw [← h2, List.length_append]
    omega
  · rw [← h2, List.drop_append, h1, Nat.sub_self, List.drop_zero, List.drop_of_length_le (by omega), List.nil_append]
theorem AtInv.q_le {bl : List Int} {l : List Ei} {i p q : Nat} (h : AtInv bl l i p q) : q ≤ (done bl l).length := by
  obtain ⟨pre, h1, h2, _⟩ := h
  rw [← h2, List.length_append]
  omega
theorem AtInv.p_le {bl : List Int} {l : List Ei} {i p q : Nat} (h : AtInv bl l i p q) : p ≤ bl.length := by
  obtain ⟨pre, h1, h2, h3, _⟩ := h
  exact h3.le
/-- What is put together of the file. -/
theorem back_piece {bl D : List Int} {p q f t : Nat} (h1 : p ≤ f) (h2 : f ≤ t) (hk : (D.drop q).take (f - p) = (bl.drop p).take (f - p)) : bl.take p ++ (D.drop q).take (f - p) ++ (bl.drop f).take (t - f) = bl.take t := by
  rw [hk]
  have e1 : bl.take f = bl.take p ++ (bl.drop p).take (f - p) := by
    rw [show f = p + (f - p) by omega, List.take_add, show p + (f - p) - p = f - p by omega]
  have e2 : bl.take t = bl.take f ++ (bl.drop f).take (t - f) := by
    rw [show t = f + (t - f) by omega, List.take_add, show f + (t - f) - f = t - f by omega]
  rw [e2, e1]
theorem growI_inv (bl : List Int) {z : Int} : ∀ {g : Int} {l : List Ei}, (∀ e ∈ l, 0 ≤ e.f ∧ e.f ≤ e.t ∧ e.t ≤ z) → z ≤ bl.length → U.Byt bl → growI (invI bl g l) = - growI l
  | _, [], _, _, _ => rfl
  | g, e :: r, h, hz, hb => by
    have he := h e List.mem_cons_self
    rw [invI, growI, growI, growI_inv bl (fun x hx => h x (List.mem_cons_of_mem _ hx)) hz hb]
    have hl : (strOf ((bl.drop e.f.toNat).take (e.t.toNat - e.f.toNat))).size = e.t.toNat - e.f.toNat := by
      rw [← bts_length, bts_strOf (byt_take (byt_drop hb _) _), List.length_take, List.length_drop]
      omega
    simp only [invE, dgI, hl]
    omega
end Go.Proofs.YtmkpomnhmepmcaaDoor
