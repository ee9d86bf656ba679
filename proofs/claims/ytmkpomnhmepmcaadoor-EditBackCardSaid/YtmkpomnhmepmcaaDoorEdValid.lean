/-
  What it means that edit.Check finds no fault: the edits rise within the file; and how long the result is.
-/
import Derived.Test.YtmkpomnhmepmcaaDoorEdCheck
namespace Go.Proofs.YtmkpomnhmepmcaaDoor
open Go.RowKit

/-- An edit of mathematics. -/
def toE (e : Ei) : Ed.E := ⟨e.f.toNat, e.t.toNat, bts e.s⟩
theorem faultE_zero {bl : List Int} {prev : Option Ei} {x : Ei} (h : faultE bl prev x = 0) : 0 ≤ x.f ∧ x.f ≤ x.t ∧ x.t ≤ bl.length ∧ stands x prev = true := by
  unfold faultE at h
  split at h
  · omega
  · next h1 =>
    split at h
    · omega
    · next h2 =>
      have hb : (bound bl x.f && bound bl x.t) = true := by
        cases hbb : (bound bl x.f && bound bl x.t)
        · exact absurd hbb h2
        · rfl
      have hs : stands x prev = true := by
        cases hss : stands x prev
        · exact absurd (.inr hss) h1
        · rfl
      rw [Bool.and_eq_true] at hb
      obtain ⟨b1, b2⟩ := hb
      simp only [bound, Bool.and_eq_true, decide_eq_true_eq] at b1 b2
      have h3 : ¬ x.t < x.f := fun h => h1 (.inl h)
      exact ⟨b1.1.1, by omega, b2.1.2, hs⟩
theorem ok_go {bl : List Int} : ∀ {l : List Ei} {prev : Option Ei} {i : Nat}, checkGo bl l prev i = none →
    (∀ e ∈ l, 0 ≤ e.f ∧ e.f ≤ e.t ∧ e.t ≤ bl.length) ∧ ∀ p : Nat, p ≤ bl.length → (∀ y, prev = some y → y.t = p) → (prev = none → p = 0) → Ed.Ok bl.length p (l.map toE)
  | [], prev, i, _ => ⟨fun e he => (nomatch he), fun p hp _ _ => hp⟩
  | x :: r, prev, i, h => by
    unfold checkGo at h
    split at h
    · next h0 =>
      obtain ⟨f0, f1, f2, f3⟩ := faultE_zero h0
      obtain ⟨i1, i2⟩ := ok_go h
      refine ⟨fun e he => ?_, fun p hp hy hn => ?_⟩
      · rcases List.mem_cons.1 he with rfl | he
        · exact ⟨f0, f1, f2⟩
        · exact i1 e he
      · have hpf : (p : Int) ≤ x.f := by
          cases prev with
          | none => rw [hn rfl]; exact f0
          | some y =>
            have := hy y rfl
            simp only [stands, foll, Bool.and_eq_true, decide_eq_true_eq] at f3
            omega
        refine ⟨?_, ?_, ?_, i2 x.t.toNat (by omega) (fun y hy => ?_) (fun h => by cases h)⟩
        · show p ≤ x.f.toNat; omega
        · show x.f.toNat ≤ x.t.toNat; omega
        · show x.t.toNat ≤ _; omega
        · cases hy; omega
    · cases h
theorem valid_ok {bl : List Int} {l : List Ei} (h : checkOut bl l = none) : Ed.Ok bl.length 0 (l.map toE) := (ok_go h).2 0 (Nat.zero_le _) (fun y hy => by cases hy) (fun _ => rfl)
theorem valid_in {bl : List Int} {l : List Ei} (h : checkOut bl l = none) : ∀ e ∈ l, 0 ≤ e.f ∧ e.f ≤ e.t ∧ e.t ≤ bl.length := (ok_go h).1
theorem grow_toE : ∀ {l : List Ei} {z : Int}, (∀ e ∈ l, 0 ≤ e.f ∧ e.f ≤ e.t ∧ e.t ≤ z) → growI l = Ed.grow (l.map toE)
  | [], _, _ => rfl
  | e :: r, z, h => by
    have he := h e List.mem_cons_self
    simp only [List.map_cons, growI, Ed.grow, grow_toE fun x hx => h x (List.mem_cons_of_mem _ hx)]
    simp only [dgI, toE, bts_length]
    omega
theorem grow_le : ∀ {l : List Ei} {z : Int}, (∀ e ∈ l, 0 ≤ e.f ∧ e.f ≤ e.t ∧ e.t ≤ z) → (∀ e ∈ l, e.s.size ≤ 40) → growI l ≤ 40 * (l.length : Int)
  | [], _, _, _ => by simp [growI]
  | e :: r, z, h, hs => by
    have he := h e List.mem_cons_self
    have hse := hs e List.mem_cons_self
    have ih := grow_le (fun x hx => h x (List.mem_cons_of_mem _ hx)) fun x hx => hs x (List.mem_cons_of_mem _ hx)
    simp only [growI, dgI, List.length_cons]
    omega
/-- The result of valid edits. -/
def done (bl : List Int) (l : List Ei) : List Int := Ed.app bl 0 (l.map toE)
theorem done_length {bl : List Int} {l : List Ei} (h : checkOut bl l = none) : ((done bl l).length : Int) = bl.length + growI l := by
  have := Ed.app_length bl (valid_ok h)
  rw [done, this, grow_toE (valid_in h)]
  simp
theorem done_le {bl : List Int} {l : List Ei} (h : checkOut bl l = none) (hs : ∀ e ∈ l, e.s.size ≤ 40) (hn : l.length ≤ 12) : (done bl l).length ≤ bl.length + 480 := by
  have h1 := done_length h
  have h2 := grow_le (valid_in h) hs
  omega
theorem grow_bounds {bl : List Int} {l : List Ei} (h : checkOut bl l = none) (hs : ∀ e ∈ l, e.s.size ≤ 40) (hn : l.length ≤ 12) : -(bl.length : Int) ≤ growI l ∧ growI l ≤ 480 := by
  have h1 := done_length h
  have h2 := grow_le (valid_in h) hs
  omega
theorem byt_append {l m : List Int} (hl : U.Byt l) (hm : U.Byt m) : U.Byt (l ++ m) := fun x hx => (List.mem_append.1 hx).elim (hl x) (hm x)
theorem byt_take {l : List Int} (hl : U.Byt l) (n : Nat) : U.Byt (l.take n) := fun x hx => hl x (List.mem_of_mem_take hx)
theorem byt_drop {l : List Int} (hl : U.Byt l) (n : Nat) : U.Byt (l.drop n) := fun x hx => hl x (List.mem_of_mem_drop hx)
theorem byt_app {bl : List Int} (hb : U.Byt bl) : ∀ (p : Nat) (l : List Ei), U.Byt (Ed.app bl p (l.map toE))
  | p, [] => byt_drop hb p
  | p, e :: r => byt_append (byt_take (byt_drop hb p) _) (byt_append (bts_byt e.s) (byt_app hb _ r))
/-- A piece of a slice of bytes: where the capacity is the piece's start, nothing is in it. -/
theorem byts_cut {w : World} {B : Nat} {A : Option Addr} {l : List Int} (h : Byts w B A l) (p q : Nat) {A' : Option Addr} (hA : A' = A.map (·.add p) ∨ q ≤ p) : Byts w B A' ((l.drop p).take (q - p)) := by
  refine ⟨byt_take (byt_drop h.1 p) _, fun hp => ?_⟩
  rw [List.length_take, List.length_drop] at hp
  rcases hA with rfl | hA
  · obtain ⟨b, o, rfl, hb, hc⟩ := h.2 (by omega)
    refine ⟨b, o + p, ?_, hb, fun i x hx => ?_⟩
    · show some ((⟨b, o, none⟩ : Addr).add p) = _
      unfold Addr.add
      split <;> simp_all
    · rw [List.getElem?_take] at hx
      split at hx
      · rw [List.getElem?_drop] at hx
        have := hc (p + i) x hx
        rwa [← Nat.add_assoc] at this
      · cases hx
  · omega
/-- What is known of a slice of bytes that a call hands back. -/
def BytsOut (L : List Int) (w : World) (v : Value) (w' : World) : Prop := ∃ A cap, v = .slice A L.length cap ∧ L.length ≤ cap ∧ cap ≤ 9223372036854775807 ∧ Byts w' w'.heap.size A L ∧ Below w.heap.size w w'
/-- Where Apply's walk stands: at place p of the file, edits i and on are to come. -/
def AtApp (bl : List Int) (l : List Ei) (i p : Nat) (out : List Int) : Prop := out ++ Ed.app bl p ((l.drop i).map toE) = done bl l ∧ Ed.Ok bl.length p ((l.drop i).map toE)
theorem AtApp.start {bl : List Int} {l : List Ei} (h : checkOut bl l = none) : AtApp bl l 0 0 [] := ⟨by simp [done], valid_ok h⟩
theorem AtApp.le {bl : List Int} {l : List Ei} {i p : Nat} {out : List Int} (h : AtApp bl l i p out) : out.length ≤ (done bl l).length := by
  rw [← h.1, List.length_append]
  omega
theorem AtApp.next {bl : List Int} {l : List Ei} {i p : Nat} {out : List Int} {x : Ei} (h : AtApp bl l i p out) (hx : l[i]? = some x) :
    (p ≤ x.f.toNat ∧ x.f.toNat ≤ x.t.toNat ∧ x.t.toNat ≤ bl.length) ∧ AtApp bl l (i + 1) x.t.toNat (out ++ (bl.drop p).take (x.f.toNat - p) ++ bts x.s) := by
  obtain ⟨h1, h2⟩ := h
  rw [drop_at hx, List.map_cons] at h1 h2
  obtain ⟨a, b, c, d⟩ := h2
  refine ⟨⟨a, b, c⟩, ?_, d⟩
  rw [← h1, Ed.app]
  simp only [toE, List.append_assoc]
theorem AtApp.done {bl : List Int} {l : List Ei} {i p : Nat} {out : List Int} (h : AtApp bl l i p out) (hi : l.length ≤ i) : p ≤ bl.length ∧ out ++ bl.drop p = done bl l := by
  obtain ⟨h1, h2⟩ := h
  rw [List.drop_of_length_le hi, List.map_nil] at h1 h2
  exact ⟨h2, h1⟩
end Go.Proofs.YtmkpomnhmepmcaaDoor
