/-
  Valid edits: where Map leads a place that no edit contains, the byte stands; and Back leads from there to the place.
-/
import Derived.Test.YtmkpomnhmepmcaaDoorEdValid
namespace Go.Proofs.YtmkpomnhmepmcaaDoor
open Go.RowKit

/-- Does an edit contain the place? -/
def inB (off : Int) (l : List Ei) : Bool := l.any fun e => decide (e.f ≤ off) && decide (off < e.t)
theorem inB_at {off : Int} {l : List Ei} {i : Nat} {x : Ei} (h : l[i]? = some x) : inB off (l.take (i + 1)) = (inB off (l.take i) || (decide (x.f ≤ off) && decide (off < x.t))) := by
  rw [inB, take_at h, List.any_append, ← inB]
  simp
theorem inB_false {off : Int} {l : List Ei} (h : inB off l = false) : ∀ e ∈ l, ¬ (e.f ≤ off ∧ off < e.t) := fun e he hc => by
  have : inB off l = true := List.any_eq_true.2 ⟨e, he, by simp [hc.1, hc.2]⟩
  rw [h] at this
  cases this
theorem inB_true {off : Int} {l : List Ei} (h : inB off l = true) : ∃ e ∈ l, e.f ≤ off ∧ off < e.t := by
  obtain ⟨e, he, h2⟩ := List.any_eq_true.1 h
  simp only [Bool.and_eq_true, decide_eq_true_eq] at h2
  exact ⟨e, he, h2⟩
theorem mapGo_in {off : Int} : ∀ {l : List Ei} {g m : Int}, (∃ e ∈ l, e.f ≤ off ∧ off < e.t) → (mapGo off l g m).2 = false
  | [], _, _, ⟨e, he, _⟩ => nomatch he
  | x :: r, g, m, ⟨e, he, h⟩ => by
    unfold mapGo
    split
    · rfl
    · next hx =>
      rcases List.mem_cons.1 he with rfl | he
      · exact absurd h hx
      · exact mapGo_in ⟨e, he, h⟩
theorem filI_cons (off : Int) (x : Ei) (r : List Ei) : filI off (x :: r) = (if x.t ≤ off then dgI x.f x.t x.s else 0) + filI off r := by
  unfold filI
  by_cases hx : x.t ≤ off
  · rw [List.filter_cons, if_pos (by simpa using hx), if_pos hx, growI]
  · rw [List.filter_cons, if_neg (by simpa using hx), if_neg hx]
    omega
theorem mapGo_free {off : Int} : ∀ {l : List Ei} {g m : Int}, (∀ e ∈ l, ¬ (e.f ≤ off ∧ off < e.t)) → mapGo off l g m = (Wr.w (off + (m + filI off l)), true)
  | [], g, m, _ => by simp [mapGo, filI, growI]
  | x :: r, g, m, h => by
    rw [mapGo, if_neg (h x List.mem_cons_self), mapGo_free fun e he => h e (List.mem_cons_of_mem _ he), filI_cons, Int.add_assoc m]
/-- No edit's text has the place of the result. -/
def noTextI (off : Int) : Int → List Ei → Prop
  | _, [] => True
  | g, e :: r => ¬ (Wr.w (e.f + g) ≤ off ∧ off < Wr.w (e.f + g + e.s.size)) ∧ noTextI off (g + dgI e.f e.t e.s) r
theorem backGo_free {off : Int} : ∀ {l : List Ei} {g m : Int}, noTextI off g l → backGo off l g m = (Wr.w (off - (m + lossI off g l)), true)
  | [], g, m, _ => by simp [backGo, lossI]
  | x :: r, g, m, h => by
    rw [backGo, if_neg h.1, backGo_free h.2, lossI, Int.add_assoc m]
theorem filI_toE {off : Nat} : ∀ {l : List Ei} {z : Int}, (∀ e ∈ l, 0 ≤ e.f ∧ e.f ≤ e.t ∧ e.t ≤ z) → filI off l = Ed.grow ((l.map toE).filter fun e => decide (e.t ≤ off))
  | [], _, _ => rfl
  | x :: r, z, h => by
    have hx := h x List.mem_cons_self
    have ih := filI_toE (off := off) fun e he => h e (List.mem_cons_of_mem _ he)
    rw [filI_cons, List.map_cons, List.filter_cons, ih]
    have e1 : (toE x).t = x.t.toNat := rfl
    by_cases ht : x.t ≤ (off : Int)
    · rw [if_pos ht, if_pos (by rw [e1]; simp; omega), Ed.grow]
      simp only [dgI, toE, bts_length]
      omega
    · rw [if_neg ht, if_neg (by rw [e1]; simp; omega)]
      omega
theorem loss_toE {y : Int} (l : List Ei) : ∀ {g : Int}, (∀ e ∈ l, 0 ≤ e.f ∧ e.f ≤ e.t ∧ e.t ≤ 300) → (∀ e ∈ l, e.s.size ≤ 40) → -10000 + 400 * (l.length : Int) ≤ g → g + 400 * (l.length : Int) ≤ 10000 →
    lossI y g l = Ed.lost g (l.map toE) y ∧ (Ed.NoText g (l.map toE) y → noTextI y g l) := by
  induction l with
  | nil => intro g _ _ _ _; exact ⟨rfl, fun _ => trivial⟩
  | cons x r ih =>
    intro g h hs h1 h2
    have hx := h x List.mem_cons_self
    have hsx := hs x List.mem_cons_self
    simp only [List.length_cons] at h1 h2
    have hd : dgI x.f x.t x.s = Ed.d (toE x) := by
      simp only [dgI, Ed.d, toE, bts_length]
      omega
    have hb : -300 ≤ dgI x.f x.t x.s ∧ dgI x.f x.t x.s ≤ 40 := by unfold dgI; omega
    obtain ⟨i1, i2⟩ := ih (g := g + dgI x.f x.t x.s) (fun e he => h e (List.mem_cons_of_mem _ he)) (fun e he => hs e (List.mem_cons_of_mem _ he)) (by omega) (by omega)
    have w1 : Wr.w (x.f + g) = x.f + g := Wr.w_in (by omega) (by omega)
    have w2 : Wr.w (x.f + g + x.s.size) = x.f + g + x.s.size := Wr.w_in (by omega) (by omega)
    have f1 : ((toE x).f : Int) = x.f := by show ((x.f.toNat : Nat) : Int) = x.f; omega
    have f2 : ((toE x).x.length : Int) = x.s.size := by show ((bts x.s).length : Int) = _; rw [bts_length]
    rw [hd] at i1 i2
    rw [List.map_cons, lossI, Ed.lost, noTextI, Ed.NoText, w1, w2, f1, f2, hd, i1]
    exact ⟨rfl, fun ⟨a, b⟩ => ⟨a, i2 b⟩⟩
theorem free_toE {off : Nat} {l : List Ei} {z : Int} (hv : ∀ e ∈ l, 0 ≤ e.f ∧ e.f ≤ e.t ∧ e.t ≤ z) (h : ∀ e ∈ l, ¬ (e.f ≤ (off : Int) ∧ (off : Int) < e.t)) : Ed.Free (l.map toE) off := fun e he => by
  obtain ⟨x, hx, rfl⟩ := List.mem_map.1 he
  have h1 := hv x hx
  have h2 := h x hx
  show ¬ (x.f.toNat ≤ off ∧ off < x.t.toNat)
  omega
theorem keep_fact {bl : List Int} {l : List Ei} (hc : checkOut bl l = none) (hs : ∀ e ∈ l, e.s.size ≤ 40) (hn : l.length ≤ 12) (hb : bl.length ≤ 300) {i : Nat} {v : Int} (hi : bl[i]? = some v) (hin : inB i l = false) :
    ∃ k : Nat, mapOut i l = ((k : Int), true) ∧ (k : Int) = Ed.to (l.map toE) i ∧ (done bl l)[k]? = some v ∧ backOut k l = ((i : Int), true) ∧ Ed.Free (l.map toE) i ∧ k < (done bl l).length := by
  have hv := valid_in hc
  have hok := valid_ok hc
  have hf := inB_false hin
  have hfr := free_toE hv hf
  obtain ⟨k, hk, _, hkv⟩ := Ed.stands (b := bl) (l := l.map toE) (pre := []) (p := 0) (q := 0) (off := i) (v := v) rfl hok (Nat.zero_le _) hfr hi
  have hkv2 : (done bl l)[k]? = some v := by simpa [done] using hkv
  have hkl : k < (done bl l).length := (List.getElem?_eq_some_iff.1 hkv2).1
  have hdl := done_le hc hs hn
  have hk2 : (k : Int) = Ed.to (l.map toE) i := by rw [hk]; simp
  have hil : i < bl.length := (List.getElem?_eq_some_iff.1 hi).1
  refine ⟨k, ?_, hk2, hkv2, ?_, hfr, hkl⟩
  · rw [mapOut, mapGo_free hf, filI_toE hv, Int.zero_add]
    have : (i : Int) + Ed.grow ((l.map toE).filter fun e => decide (e.t ≤ i)) = (k : Int) := hk2.symm
    rw [this, Wr.w_in (by omega) (by omega)]
  · obtain ⟨b1, b2⟩ := Ed.back_start hok hfr
    obtain ⟨l1, l2⟩ := loss_toE (y := (k : Int)) l (g := 0) (fun e he => by have := hv e he; omega) hs (by omega) (by omega)
    rw [← hk2] at b1 b2
    rw [backOut, backGo_free (l2 b2), l1, Int.zero_add, b1, Wr.w_in (by omega) (by omega)]
/-- Every free place from i on goes behind z. -/
def Behind (l : List Ei) (i : Nat) (z : Int) : Prop := ∀ c : Nat, i ≤ c → Ed.Free (l.map toE) c → z < Ed.to (l.map toE) c
theorem Behind.start {bl : List Int} {l : List Ei} (hc : checkOut bl l = none) : Behind l 0 (-1) := fun c _ hf => by
  have := Ed.to_ge (valid_ok hc) (Nat.zero_le c) hf
  omega
theorem Behind.skip {l : List Ei} {i : Nat} {z : Int} (h : Behind l i z) : Behind l (i + 1) z := fun c hc hf => h c (by omega) hf
theorem Behind.next {bl : List Int} {l : List Ei} (hc : checkOut bl l = none) {i k : Nat} (hk : (k : Int) = Ed.to (l.map toE) i) (hf : Ed.Free (l.map toE) i) : Behind l (i + 1) k := fun c hcc hfc => by
  rw [hk]
  exact Ed.to_lt (valid_ok hc) (Nat.zero_le _) (by omega) hf hfc
end Go.Proofs.YtmkpomnhmepmcaaDoor
