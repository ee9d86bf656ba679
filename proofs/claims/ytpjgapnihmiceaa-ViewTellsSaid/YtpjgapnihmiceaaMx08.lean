/-
  A region that draws its order and whose operations only read, under whatever fence (in a round of a range over a function, too): every order comes to one frame, which is told ahead.
-/
import Derived.RangeFuncNested
import Derived.RangeFuncCalls
import Derived.OwnWalkIn
import Derived.TacticsInMore
import Derived.Test.YtpjgapnihmiceaaMx00
import Derived.Test.YtpjgapnihmiceaaMx07
namespace Go.Proofs.Ytpjgapnihmiceaa
open Go.RowKit
set_option linter.unusedSimpArgs false
section
variable {F : Fence} {n : Nat} {P : Program} {Q : Exit → Act → World → Prop}
def opStill : Op → Bool
 | .defer _ => false
 | .select .. => false
 | _ => true
theorem opStill_defer {o : Op} (h : opStill o = true) : ∀ c, o ≠ .defer c := fun c e => by rw [e] at h; cases h
theorem opStill_select {o : Op} (h : opStill o = true) : ∀ cs b, o ≠ .select cs b := fun cs b e => by rw [e] at h; cases h
def waitsB (ops : Array Oper) (o : Oper) (x : Operand) : Bool :=
 match x with
 | .tmp t => (List.range ops.size).all fun j => match ops[j]? with
  | some oj => !(oj.dst == some t) || o.after.any (fun e => Region.binds .any e && e.on == j)
  | none => true
 | _ => true
def readB (ops : Array Oper) (i : Nat) : Bool := match ops[i]? with
 | some o => o.guard.isNone && opStill o.op && o.after.all (fun e => decide (e.on < i)) && o.op.operands.all (waitsB ops o)
 | none => true
def readsB (ops : Array Oper) : Bool := (List.range ops.size).all (readB ops)
def RunsOk (F : Fence) (P : Program) (fin : Act) (V : World) : List Oper → Prop
 | [] => True
 | o :: r => (∃ d v, o.dst = some d ∧ fin.tmps[d]? = some v ∧ (∀ f, o.about P V fin.eval = some f → F.fn f) ∧ (execOp fin.eval o).run P V = .ok (.value v) V) ∧ RunsOk F P fin V r
theorem RunsOk.get {fin : Act} {V : World} : ∀ {l : List Oper} {i : Nat} {o : Oper}, RunsOk F P fin V l → l[i]? = some o → ∃ d v, o.dst = some d ∧ fin.tmps[d]? = some v ∧ (∀ f, o.about P V fin.eval = some f → F.fn f) ∧ (execOp fin.eval o).run P V = .ok (.value v) V
 | [], i, o, _, h => by simp at h
 | x :: r, 0, o, h, e => by cases e; exact h.1
 | x :: r, i + 1, o, h, e => RunsOk.get h.2 (by simpa using e)
def Midway (ops : Array Oper) (fin : Act) (listed : Array Bool) (a : Act) : Prop :=
 a.defers = fin.defers ∧ a.tmps.size = fin.tmps.size ∧ ∀ t : Nat, a.tmps[t]? = fin.tmps[t]? ∨ ∃ j o, ops[j]? = some o ∧ o.dst = some t ∧ listed.getD j true = false
theorem getD_set_same (l : Array Bool) (i : Nat) : (l.setIfInBounds i true).getD i true = true := by
 simp only [Array.getD_eq_getD_getElem?, Array.getElem?_setIfInBounds]
 simp
 split <;> simp_all
theorem getD_set_other (l : Array Bool) {i j : Nat} (h : i ≠ j) : (l.setIfInBounds i true).getD j true = l.getD j true := by
 simp only [Array.getD_eq_getD_getElem?, Array.getElem?_setIfInBounds, if_neg h]
theorem countP_less {α : Type} {p q : α → Bool} {x : α} : ∀ {l : List α}, x ∈ l → q x = true → p x = false → (∀ y ∈ l, p y = true → q y = true) → l.countP p < l.countP q
 | [], hx, _, _, _ => by cases hx
 | y :: r, hx, hq, hp, h => by
  have hle : r.countP p ≤ r.countP q := List.countP_mono_left fun z hz => h z (List.mem_cons_of_mem _ hz)
  rw [List.countP_cons, List.countP_cons]
  rcases List.mem_cons.1 hx with rfl | hx
  ·rw [hq, hp]
   simp
   omega
  ·have := countP_less hx hq hp fun z hz => h z (List.mem_cons_of_mem _ hz)
   have hy := h y (List.mem_cons_self ..)
   cases hpy : p y with
   | false => simp; omega
   | true => rw [hy hpy]; simp; omega
theorem anyIn_reads {ops : Array Oper} (hB : readsB ops = true) (fin : Act) (V : World) (hR : RunsOk F P fin V ops.toList) (hQ : Q .normal fin V) :
  ∀ (fuel : Nat) (listed : Array Bool) (a : Act), ((List.range ops.size).countP fun j => !(listed.getD j true)) ≤ fuel → Midway ops fin listed a → wpAnyIn F n P .any ops Q fuel listed a V := by
 have hB' : ∀ i o, ops[i]? = some o → o.guard = none ∧ opStill o.op = true ∧ (∀ e ∈ o.after, e.on < i) ∧ ∀ x ∈ o.op.operands, waitsB ops o x = true := fun i o ho => by
  have hlt := (Array.getElem?_eq_some_iff.1 ho).1
  have := List.all_eq_true.1 hB i (List.mem_range.2 hlt)
  unfold readB at this
  rw [ho] at this
  simp only [Bool.and_eq_true, Option.isNone_iff_eq_none] at this
  refine ⟨this.1.1.1, this.1.1.2, fun e he => ?_, fun x hx => ?_⟩
  ·have := Array.all_eq_true_iff_forall_mem.1 this.1.2 e he
   simpa using this
  ·exact Array.all_eq_true_iff_forall_mem.1 this.2 x hx
 have hend : ∀ listed : Array Bool, Region.ready .any ops listed = [] → ∀ j, j < ops.size → listed.getD j true = true := fun listed hr j => by
  induction j using Nat.strongRecOn with
  | ind j ih =>
   intro hj
   cases hl : listed.getD j true with
   | true => rfl
   | false =>
    have ho : ops[j]? = some ops[j] := Array.getElem?_eq_getElem hj
    have : j ∈ Region.ready .any ops listed := mem_ready.2 ⟨hl, _, ho, fun e he _ => by
     have h1 := (hB' j _ ho).2.2.1 e he
     have h2 := ih e.on h1 (by omega)
     have hlt : e.on < listed.size := by
      rcases Nat.lt_or_ge j listed.size with h | h
      ·omega
      ·rw [Array.getD_eq_getD_getElem?, Array.getElem?_eq_none h] at hl; cases hl
     rw [Array.getD_eq_getD_getElem?, Array.getElem?_eq_getElem hlt] at h2 ⊢
     simpa using h2⟩
    rw [hr] at this
    cases this
 have hfin : ∀ (listed : Array Bool) (a : Act), Midway ops fin listed a → Region.ready .any ops listed = [] → a = fin := fun listed a hm hr => by
  obtain ⟨h1, h2, h3⟩ := hm
  obtain ⟨at_, ad⟩ := a
  obtain ⟨ft, fd⟩ := fin
  simp only [] at h1 h2 h3
  subst h1
  have : at_ = ft := Array.ext h2 fun t ht1 ht2 => by
   rcases h3 t with h | ⟨j, o, ho, _, hl⟩
   ·rw [Array.getElem?_eq_getElem ht1, Array.getElem?_eq_getElem ht2] at h
    exact Option.some.inj h
   ·rw [hend listed hr j (Array.getElem?_eq_some_iff.1 ho).1] at hl
    cases hl
  rw [this]
 intro fuel
 induction fuel with
 | zero =>
  intro listed a hc hm
  have hall : ∀ j, j < ops.size → listed.getD j true = true := fun j hj => by
   have := List.countP_eq_zero.1 (Nat.le_zero.1 hc) j (List.mem_range.2 hj)
   simpa using this
  have hr : Region.ready .any ops listed = [] := by
   cases hx : Region.ready .any ops listed with
   | nil => rfl
   | cons x xs =>
    obtain ⟨hl, o, ho, _⟩ := mem_ready.1 (show x ∈ Region.ready .any ops listed by rw [hx]; exact List.mem_cons_self ..)
    rw [hall x (Array.getElem?_eq_some_iff.1 ho).1] at hl
    cases hl
  exact ⟨hr, by rw [hfin listed a hm hr]; exact hQ⟩
 | succ fuel ih =>
  intro listed a hc hm
  refine ⟨fun hr => by rw [hfin listed a hm hr]; exact hQ, fun i hi => ?_⟩
  obtain ⟨hl, o, ho, hafter⟩ := mem_ready.1 hi
  obtain ⟨hg, hs, _, hw⟩ := hB' i o ho
  obtain ⟨d, v, hd, hv, hab, hrun⟩ := hR.get (by simpa using ho)
  have heval : ∀ x ∈ o.op.operands, a.eval x = fin.eval x := fun x hx => by
   cases x with
   | tmp t =>
    have hwx := hw _ hx
    have : a.tmps[t]? = fin.tmps[t]? := by
     rcases hm.2.2 t with h | ⟨j, oj, hoj, hdj, hlj⟩
     ·exact h
     ·have hjlt := (Array.getElem?_eq_some_iff.1 hoj).1
      have := List.all_eq_true.1 hwx j (List.mem_range.2 hjlt)
      simp only [hoj, hdj, beq_self_eq_true, Bool.not_true, Bool.false_or] at this
      rw [← Array.any_toList] at this
      obtain ⟨e, he, hb⟩ := List.any_eq_true.1 this
      replace he : e ∈ o.after := by simpa using he
      simp only [Bool.and_eq_true, beq_iff_eq] at hb
      have h4 := hafter e he hb.1
      rw [hb.2] at h4
      rw [Array.getD_eq_getD_getElem?] at h4 hlj
      cases hq : listed[j]? with
      | none => rw [hq] at h4; cases h4
      | some q => rw [hq] at h4 hlj; simp at h4 hlj; rw [h4] at hlj; cases hlj
    show a.tmps.getD t undef = fin.tmps.getD t undef
    rw [Array.getD_eq_getD_getElem?, Array.getD_eq_getD_getElem?, this]
   | const v => rfl
   | global g => rfl
   | func f => rfl
  unfold wpOpIn
  rw [ho]
  simp only [Region.wanted, hg, if_true]
  unfold Oper.wpIn
  rw [Oper.semAt_plain F _ _ (opStill_defer hs), execOp_congr o (opStill_select hs) heval, hrun, about_congr o V heval]
  refine ⟨hab, ?_⟩
  show wpAnyIn F n P .any ops Q fuel _ (a.put o.dst v) V
  refine ih _ _ ?_ ?_
  ·have hilt := (Array.getElem?_eq_some_iff.1 ho).1
   have h1 : ((List.range ops.size).countP fun j => !((listed.setIfInBounds i true).getD j true)) < ((List.range ops.size).countP fun j => !(listed.getD j true)) := by
    refine countP_less (List.mem_range.2 hilt) ?_ ?_ ?_
    ·simp [hl]
    ·simp [getD_set_same]
    ·intro x _ hx
     by_cases e : i = x
     ·subst e; simp [getD_set_same] at hx
     ·rw [getD_set_other _ e] at hx; exact hx
   omega
  ·rw [hd]
   refine ⟨hm.1, by show (a.tmps.setIfInBounds d v).size = _; rw [Array.size_setIfInBounds]; exact hm.2.1, fun t => ?_⟩
   show (a.tmps.setIfInBounds d v)[t]? = _ ∨ _
   by_cases e : d = t
   ·subst e
    left
    rw [hv, Array.getElem?_setIfInBounds_self_of_lt]
    have := (Array.getElem?_eq_some_iff.1 hv).1
    rw [hm.2.1]; exact this
   ·rw [Array.getElem?_setIfInBounds_ne e]
    rcases hm.2.2 t with h | ⟨j, oj, hoj, hdj, hlj⟩
    ·exact .inl h
    ·refine .inr ⟨j, oj, hoj, hdj, ?_⟩
     rw [getD_set_other]
     ·exact hlj
     ·rintro rfl
      rw [ho] at hoj
      cases hoj
      rw [hd] at hdj
      cases hdj
      exact e rfl
def agreeB (ds : List (Option Tmp)) : Nat → List Value → List Value → Prop
 | _, [], [] => True
 | t, x :: xs, y :: ys => (x = y ∨ some t ∈ ds) ∧ agreeB ds (t + 1) xs ys
 | _, _, _ => False
theorem agreeB.at {ds : List (Option Tmp)} : ∀ {xs ys : List Value} {t : Nat}, agreeB ds t xs ys → xs.length = ys.length ∧ ∀ i : Nat, xs[i]? = ys[i]? ∨ some (t + i) ∈ ds
 | [], [], t, _ => ⟨rfl, fun i => .inl rfl⟩
 | x :: xs, y :: ys, t, h => by
  obtain ⟨h1, h2⟩ := agreeB.at h.2
  refine ⟨by simp [h1], fun i => ?_⟩
  cases i with
  | zero =>
   rcases h.1 with e | e
   ·exact .inl (by simp [e])
   ·exact .inr e
  | succ i =>
   rcases h2 i with e | e
   ·exact .inl (by simpa using e)
   ·exact .inr (by rw [show t + (i + 1) = t + 1 + i by omega]; exact e)
 | [], _ :: _, _, h => h.elim
 | _ :: _, [], _, h => h.elim
theorem RunsOk.cons {fin : Act} {V : World} {o : Oper} {r : List Oper} {d : Tmp} {v : Value} (hd : o.dst = some d) (hv : fin.tmps[d]? = some v) (hf : ∀ f, o.about P V fin.eval = some f → F.fn f) (hr : (execOp fin.eval o).run P V = .ok (.value v) V) (h : RunsOk F P fin V r) : RunsOk F P fin V (o :: r) := ⟨⟨d, v, hd, hv, hf, hr⟩, h⟩
theorem RunsOk.nil {fin : Act} {V : World} : RunsOk F P fin V [] := trivial
theorem wpIn_reads {id : Nat} {l : List Oper} {a : Act} {w : World} (hm : P.follows .mixedOrders = true) (hB : readsB l.toArray = true) (ts : List Value) (hin : agreeB (l.map (·.dst)) 0 a.tmps.toList ts) (hR : RunsOk F P { tmps := ts.toArray, defers := a.defers } w.drew l) (h : Q .normal { tmps := ts.toArray, defers := a.defers } w.drew) :
  (Code.region id l.toArray true).wpIn F n P Q a w := by
 obtain ⟨h1, h2⟩ := hin.at
 refine wpIn_region_any hm (anyIn_reads hB { tmps := ts.toArray, defers := a.defers } w.drew (by simpa using hR) h _ _ _ ?_ ⟨rfl, by simpa using h1, fun t => ?_⟩)
 ·have := List.countP_le_length (p := fun j => !((Array.replicate l.toArray.size false).getD j true)) (l := List.range l.toArray.size)
  simpa using this
 ·rcases h2 t with h | h
  ·exact .inl (by simpa using h)
  ·simp only [Nat.zero_add] at h
   obtain ⟨o, ho, hd⟩ := List.mem_map.1 h
   obtain ⟨j, hj, rfl⟩ := List.mem_iff_getElem.1 ho
   refine .inr ⟨j, l[j], by simp [hj], hd, ?_⟩
   rw [Array.getD_eq_getD_getElem?, Array.getElem?_replicate, if_pos (by simpa using hj)]
   rfl
end
end Go.Proofs.Ytpjgapnihmiceaa
namespace Go.Proofs.Ytpjgapnihmiceaa
open Go.RowKit Go.Shelf
set_option linter.unusedSimpArgs false
set_option linter.unusedVariables false
attribute [local go_sem] Oper.semAt_some
theorem tok_there {w : World} {b : Nat} {d : List Int} {L : List Tv} {T : List Nd} (h : FileAt w b d L T) {n x : Int} (hx : x ∈ ownV T n) :
  ∃ (y : Nat) (tb tof n2 c2 : Nat), x = (y : Int) ∧ y < n2 ∧ n2 ≤ 60 ∧ w.cell? ⟨b, 1, none⟩ = some (.slice (some ⟨tb, tof, none⟩) n2 c2) ∧ tb < w.heap.size ∧ w.cell? ⟨tb, tof + y * 5, none⟩ = some (.int .i64 (tokV L x).k) := by
 obtain ⟨A1, n1, c1, A2, n2, c2, A, m, c, ⟨e0, e1, e2⟩, hcs, hs, hb, hv⟩ := h
 have hr := ownV_mem hv hx
 obtain ⟨y, rfl⟩ := Int.eq_ofNat_of_zero_le hr.1
 obtain ⟨tb, tof, rfl, htb, t0, _⟩ := tv_get hs.tok (at_tok (i := y) (by have := hs.lt; omega))
 exact ⟨y, tb, tof, n2, c2, rfl, by omega, hs.st, e1, htb, t0⟩
theorem mem_pre {pre xs : List Int} {x : Int} (h : pre ++ [x] <+: xs) : x ∈ xs := h.subset (by simp)
theorem hasV_of {L : List Tv} {T : List Nd} {n k : Int} {pre : List Int} {x : Int} (h : pre ++ [x] <+: ownV T n) (hx : (tokV L x).k = k) : hasV L T n k = true := by
 unfold hasV
 rw [List.any_eq_true]
 exact ⟨x, mem_pre h, decide_eq_true hx⟩
theorem hasV_not {L : List Tv} {T : List Nd} {n k : Int} (h : ∀ x ∈ ownV T n, ¬ (tokV L x).k = k) : hasV L T n k = false := by
 unfold hasV
 rw [List.any_eq_false]
 intro x hx
 simpa using h x hx
set_option maxRecDepth 100000 in
set_option maxHeartbeats 2000000 in
theorem Has_run : SaysHas := by
 intro v d L T n k w h
 obtain ⟨p, rfl⟩ := h.valid
 refine (callsIn_wide (n := 6)).1 ?_
 have hro : Fence.wide.round = none := rfl
 refine callsIn_of_wp_marks Try.func10 rfl trivial ?_ hro
 simp only [Try.ntmps10, List.size_toArray, List.length_cons, List.length_nil, Nat.reduceAdd, Nat.reduceSub, Array.replicate_succ, Array.replicate_zero, List.push_toArray, List.append_toArray, List.nil_append, List.cons_append]
 obtain ⟨S, hS⟩ : ∃ S, w.heap.size = S := ⟨_, rfl⟩
 obtain ⟨W, hW⟩ : ∃ W, ((w.alloc (.cells #[.pointer p] 30)).alloc (.cells #[.int .i64 k] 3)).alloc (.cells #[.bool false] 4) = W := ⟨_, rfl⟩
 have hz : W.heap.size = S + 3 := by rw [← hW, ← hS]; simp
 have hB : Below S w W := by rw [← hW, ← hS]; exact (((Below.refl _ _).alloc (Nat.le_refl _) _).alloc (by simp) _).alloc (by simp; omega) _
 have c0 : W.cell? ⟨S, 0, none⟩ = some (.pointer p) := by rw [← hW, ← hS, World.cell?_alloc_lt _ _ _ (by simp; omega), World.cell?_alloc_lt _ _ _ (by simp)]; exact World.cell?_alloc_at _ _ _ _ rfl
 have c1 : W.cell? ⟨S + 1, 0, none⟩ = some (.int .i64 k) := by rw [← hW, ← hS, World.cell?_alloc_lt _ _ _ (by simp)]; exact World.cell?_alloc_at _ _ _ _ (by simp)
 have c2 : VarAt W (S + 2) (.bool false) := by rw [← hW, ← hS]; exact ⟨World.cell?_alloc_at _ _ _ _ (by simp), World.frozen?_alloc_at _ _ _ _ (by simp)⟩
 obtain ⟨W0, hW0⟩ : ∃ W0, (W.alloc (.cells #[.pointer p] 30)).alloc (.cells #[.int .i64 n] 3) = W0 := ⟨_, rfl⟩
 have hB0 : Below W.heap.size W W0 := by rw [← hW0]; exact ((Below.refl _ _).alloc (Nat.le_refl _) _).alloc (by simp) _
 have hz0 : W0.heap.size = S + 5 := by rw [← hW0]; simp; omega
 have d1 : W0.cell? ⟨S + 3, 0, none⟩ = some (.pointer p) := by rw [← hW0, World.cell?_alloc_lt _ _ _ (by simp; omega)]; exact World.cell?_alloc_at _ _ _ _ hz.symm
 have d2 : W0.cell? ⟨S + 4, 0, none⟩ = some (.int .i64 n) := by rw [← hW0]; exact World.cell?_alloc_at _ _ _ _ (by simp; omega)
 have hI := ownIt_run p n W
 rw [hW0, hz] at hI
 gi_wp2
 refine ⟨trivial, ?_⟩
 refine (callsIn_wide.2 hI).mono ?_
 rintro e w' ⟨rfl, rfl⟩
 have hBw : Below S w w' := hB.trans (hB0.mono (by omega))
 have b0 := (hB0.cell (p := ⟨S, 0, none⟩) (by show S < _; omega)).trans c0
 have b1 := (hB0.cell (p := ⟨S + 1, 0, none⟩) (by show S + 1 < _; omega)).trans c1
 have b2 : VarAt w' (S + 2) (.bool false) := ⟨(hB0.cell (p := ⟨S + 2, 0, none⟩) (by show S + 2 < _; omega)).trans c2.1, (hB0.frozen (p := ⟨S + 2, 0, none⟩) (by show S + 2 < _; omega)).trans c2.2⟩
 clear hI hW hW0 c0 c1 c2
 gi_wp2
 refine wpIn_rangeB (gf := 37) (lb := #[.pointer (some ⟨S + 3, 0, none⟩), .pointer (some ⟨S + 4, 0, none⟩)]) rfl (enters_of Try.func37 (by kernel_rfl) rfl) w'.heap.size (Nat.le_refl _) [S + 7, S + 8, S + 10] (by rw [hz0]; simp) (encs := toksEnc) (xs := ownV T n)
  (fun W1 h1 h2 => by
   have := itOwn (S + 3) (S + 4) _ d L T n w w' h (by rw [hS]; exact hBw) d1 (by omega) d2 (by omega) W1 h1
   rw [h2, hz0] at this
   rw [hz0]
   exact this) (fun _ => rfl)
  (fun pre V => (∀ x ∈ pre, ¬ (tokV L x).k = k) ∧ Below w'.heap.size w' V)
  (fun c pre V => c = .ret ∧ VarAt V (S + 2) (.bool true) ∧ hasV L T n k = true ∧ Below S w V)
  ?hI ?hIx ⟨fun x hx => (by cases hx), Below.refl _ _⟩
  (fun x => { tmps := #[.pointer p, .int .i64 n, .int .i64 k, .pointer (some ⟨S, 0, none⟩), undef, .pointer (some ⟨S + 1, 0, none⟩), .pointer (some ⟨S + 2, 0, none⟩), .int .i64 x, .pointer p, .int .i64 n, .func (.func 37) #[] #[.pointer (some ⟨S + 3, 0, none⟩), .pointer (some ⟨S + 4, 0, none⟩)], .int .i64 x, undef, undef, undef, undef, undef, undef, undef, undef, undef, undef], defers := [] }) ?assign ?body ?done ?stop
 case hI =>
  rintro pre A B ⟨h1, h2⟩ hb
  exact ⟨h1, h2.but hb (by rw [hz0]; simp) (by have := h2.size; omega)⟩
 case hIx =>
  rintro c pre A B ⟨h1, h2, h3, h4⟩ hb
  exact ⟨h1, h2.but hb (by rw [hz0]; simp), h3, h4.but hb (by rw [hz0]; simp; omega) (by have := h4.size; omega)⟩
 case assign =>
  intro l x V K hK
  unfold toksEnc
  gi_wp2
  exact hK
 case body =>
  rintro l pre x V ⟨hp, hBV⟩ hpre ⟨hlt, hbs⟩
  have hmem := mem_pre hpre
  have hBS : Below S w V := hBw.trans (hBV.mono (by omega))
  rcases h with ⟨_, rfl⟩ | ⟨b, hpb, hf⟩
  ·rw [ownV_nil] at hmem; cases hmem
  ·cases hpb
   have hfV := hf.below (by rw [hS]; exact hBS)
   obtain ⟨y, tb, tof, n2, c2, rfl, hyn, hn60, e1, htb, t0⟩ := tok_there hfV hmem
   have hbV := hfV.lt
   have a0 := (hBV.cell (p := ⟨S, 0, none⟩) (by show S < _; omega)).trans b0
   have a1 := (hBV.cell (p := ⟨S + 1, 0, none⟩) (by show S + 1 < _; omega)).trans b1
   have a2 := (hBV.cell (p := ⟨S + 2, 0, none⟩) (by show S + 2 < _; omega)).trans b2.1
   have a3 := (hBV.frozen (p := ⟨S + 2, 0, none⟩) (by show S + 2 < _; omega)).trans b2.2
   obtain ⟨z, hzk⟩ : ∃ z, (tokV L (y : Int)).k = z := ⟨_, rfl⟩
   rw [hzk] at t0
   have hyz : (y : Int) < (n2 : Int) := by omega
   have HH := Lib.hid (And.intro hp (And.intro hBV (And.intro hBS (And.intro hpre (And.intro hzk hz0)))))
   clear hp hBV hBS hpre hzk hmem hf hfV hz0 hz hB hB0 hBw b0 b1 b2 d1 d2 hbs
   have hmix : Try.prog.follows .mixedOrders = true := by kernel_rfl
   gi_wp2
   refine wpIn_reads hmix (by kernel_rfl) [.pointer (some ⟨b, 0, none⟩), .int .i64 n, .int .i64 k, .pointer (some ⟨S, 0, none⟩), undef, .pointer (some ⟨S + 1, 0, none⟩), .pointer (some ⟨S + 2, 0, none⟩), .int .i64 (y : Int), .pointer (some ⟨b, 0, none⟩), .int .i64 n, .func (.func 37) #[] #[.pointer (some ⟨S + 3, 0, none⟩), .pointer (some ⟨S + 4, 0, none⟩)], .int .i64 (y : Int), .pointer (some ⟨b, 0, none⟩), .pointer (some ⟨b, 0, none⟩), .pointer (some ⟨b, 1, none⟩), .slice (some ⟨tb, tof, none⟩) n2 c2, .int .i64 (y : Int), .pointer (some ⟨tb, tof + y * 5, none⟩), .pointer (some ⟨tb, tof + y * 5, none⟩), .int .i64 z, .int .i64 k, .bool (z == k)] ?_ ?_ ?_
   ·repeat' (first | exact trivial | refine ⟨(by first | exact .inl rfl | exact .inr (by decide)), ?_⟩)
   ·repeat' (first | exact RunsOk.nil | refine RunsOk.cons rfl rfl (fun _ _ => trivial) ?_ ?_)
    all_goals (go_simp; done)
   ·obtain ⟨hp, hBV, hBS, hpre, hzk, hz0⟩ := HH.out
    by_cases hk : z = k
    ·have hkb : (z == k) = true := by simpa using hk
     rw [hkb]
     have hkk := Lib.hid (hzk.trans hk)
     clear hp hBV hBS hpre hzk hk hz0 hkb
     gi_wp2
     obtain ⟨hp, hBV, hBS, hpre, hzk, hz0⟩ := HH.out
     refine ⟨Apart.of_but ((But.refl V [S + 2]).trans (((But.of_below (bs := [S + 2]) ((Below.refl _ V).drew))).setCell (p := ⟨S + 2, 0, none⟩) (by simp) _)) (by intro x hx; rw [hz0]; simp at hx ⊢; omega), rfl, ⟨World.cell?_setCell_same' _ _ _ (by simp [a2]), by simpa using a3⟩, hasV_of hpre hkk.out, (hBS.drew).setCell (p := ⟨S + 2, 0, none⟩) (by show S ≤ S + 2; omega) _⟩
    ·have hkb : (z == k) = false := by simpa using hk
     rw [hkb]
     have hkk := Lib.hid (fun e => hk (hzk.symm.trans e))
     clear hp hBV hBS hpre hzk hk hz0 hkb
     gi_wp2
     obtain ⟨hp, hBV, hBS, hpre, hzk, hz0⟩ := HH.out
     refine ⟨Apart.of ((Below.refl _ V).drew), fun x hx => ?_, hBV.drew⟩
     rcases List.mem_append.1 hx with hx | hx
     ·exact hp x hx
     ·rw [List.mem_singleton.1 hx]; exact hkk.out
 case done =>
  rintro D V hD ⟨h1, h2⟩ hK
  have hv : hasV L T n k = false := hasV_not h1
  have a2 := (h2.cell (p := ⟨S + 2, 0, none⟩) (by show S + 2 < _; omega)).trans b2.1
  have a3 := (h2.frozen (p := ⟨S + 2, 0, none⟩) (by show S + 2 < _; omega)).trans b2.2
  have hBS : Below S w V := hBw.trans (h2.mono (by omega))
  gi_wp2
  have hK' := (KeepsOthers.setCell V ⟨S + 2, 0, none⟩ (.bool false)).same D _ hK rfl
  refine ⟨by simp, .inl ⟨_, _, rfl, run_takeDeferred hK', ?_⟩⟩
  have hc5 := cell_kept (World.cell?_setCell_same' V ⟨S + 2, 0, none⟩ (.bool false) (by rw [a2]; rfl)) (grownBy_putObj' _ D (.deferred none)) (fun r e => by cases e; exact ⟨_, hK', rfl⟩)
  refine ⟨.bool false, ?_, by rw [hv], ?_⟩
  ·simp [results, Try.f10, go_sem, hc5]
  ·rw [hS]
   exact (hBS.setCell (p := ⟨S + 2, 0, none⟩) (by show S ≤ S + 2; omega) _).trans (belowK_b (w := w) (by omega) _ D _ _ (by omega) hK' rfl rfl)
 case stop =>
  rintro D c pre V hD hpre ⟨rfl, h1, h2, h3⟩ hK
  have a2 := h1.1
  gi_wp2
  refine ⟨by simp, .inl ⟨_, _, rfl, run_takeDeferred hK, ?_⟩⟩
  have hc5 := cell_kept a2 (grownBy_putObj' _ D (.deferred none)) (fun r e => by cases e; exact ⟨_, hK, rfl⟩)
  refine ⟨.bool true, ?_, by rw [h2], ?_⟩
  ·simp [results, Try.f10, go_sem, hc5]
  ·rw [hS]
   exact h3.trans (belowK_b (w := w) (by omega) _ D _ _ (by omega) hK rfl rfl)
theorem opG_pass {L : List Tv} : ∀ {p : List Int} (q : List Int), (∀ y ∈ p, punB (tokV L y).k = true) → opG L (p ++ q) = opG L q
 | [], q, _ => rfl
 | y :: p, q, h => by
  rw [List.cons_append, opG, if_pos (h y (List.mem_cons_self ..))]
  exact opG_pass q fun z hz => h z (List.mem_cons_of_mem _ hz)
theorem opV_hit {L : List Tv} {T : List Nd} {n x : Int} {pre : List Int} (h : pre ++ [x] <+: ownV T n) (hp : ∀ y ∈ pre, punB (tokV L y).k = true) (hx : punB (tokV L x).k = false) : opV L T n = (tokV L x).k := by
 obtain ⟨q, hq⟩ := h
 unfold opV
 rw [← hq, List.append_assoc, opG_pass _ hp, List.singleton_append, opG, if_neg (by rw [hx]; simp)]
theorem opV_none {L : List Tv} {T : List Nd} {n : Int} (hp : ∀ y ∈ ownV T n, punB (tokV L y).k = true) : opV L T n = 0 := by
 unfold opV
 rw [← List.append_nil (ownV T n), opG_pass _ hp]
 rfl
set_option maxRecDepth 100000 in
set_option maxHeartbeats 2000000 in
theorem Op_run : SaysOp := by
 intro v d L T n w h
 obtain ⟨p, rfl⟩ := h.valid
 refine (callsIn_wide (n := 6)).1 ?_
 have hro : Fence.wide.round = none := rfl
 refine callsIn_of_wp_marks Try.func7 rfl trivial ?_ hro
 simp only [Try.ntmps7, List.size_toArray, List.length_cons, List.length_nil, Nat.reduceAdd, Nat.reduceSub, Array.replicate_succ, Array.replicate_zero, List.push_toArray, List.append_toArray, List.nil_append, List.cons_append]
 obtain ⟨S, hS⟩ : ∃ S, w.heap.size = S := ⟨_, rfl⟩
 obtain ⟨W, hW⟩ : ∃ W, (w.alloc (.cells #[.pointer p] 30)).alloc (.cells #[.int .i64 0] 3) = W := ⟨_, rfl⟩
 have hz : W.heap.size = S + 2 := by rw [← hW, ← hS]; simp
 have hB : Below S w W := by rw [← hW, ← hS]; exact ((Below.refl _ _).alloc (Nat.le_refl _) _).alloc (by simp) _
 have c0 : W.cell? ⟨S, 0, none⟩ = some (.pointer p) := by rw [← hW, ← hS, World.cell?_alloc_lt _ _ _ (by simp)]; exact World.cell?_alloc_at _ _ _ _ rfl
 have c2 : VarAt W (S + 1) (.int .i64 0) := by rw [← hW, ← hS]; exact ⟨World.cell?_alloc_at _ _ _ _ (by simp), World.frozen?_alloc_at _ _ _ _ (by simp)⟩
 obtain ⟨W0, hW0⟩ : ∃ W0, (W.alloc (.cells #[.pointer p] 30)).alloc (.cells #[.int .i64 n] 3) = W0 := ⟨_, rfl⟩
 have hB0 : Below W.heap.size W W0 := by rw [← hW0]; exact ((Below.refl _ _).alloc (Nat.le_refl _) _).alloc (by simp) _
 have hz0 : W0.heap.size = S + 4 := by rw [← hW0]; simp; omega
 have d1 : W0.cell? ⟨S + 2, 0, none⟩ = some (.pointer p) := by rw [← hW0, World.cell?_alloc_lt _ _ _ (by simp; omega)]; exact World.cell?_alloc_at _ _ _ _ hz.symm
 have d2 : W0.cell? ⟨S + 3, 0, none⟩ = some (.int .i64 n) := by rw [← hW0]; exact World.cell?_alloc_at _ _ _ _ (by simp; omega)
 have hI := ownIt_run p n W
 rw [hW0, hz] at hI
 gi_wp2
 refine ⟨trivial, ?_⟩
 refine (callsIn_wide.2 hI).mono ?_
 rintro e w' ⟨rfl, rfl⟩
 have hBw : Below S w w' := hB.trans (hB0.mono (by omega))
 have b0 := (hB0.cell (p := ⟨S, 0, none⟩) (by show S < _; omega)).trans c0
 have b2 : VarAt w' (S + 1) (.int .i64 0) := ⟨(hB0.cell (p := ⟨S + 1, 0, none⟩) (by show S + 1 < _; omega)).trans c2.1, (hB0.frozen (p := ⟨S + 1, 0, none⟩) (by show S + 1 < _; omega)).trans c2.2⟩
 clear hI hW hW0 c0 c2
 gi_wp2
 refine wpIn_rangeB (gf := 37) (lb := #[.pointer (some ⟨S + 2, 0, none⟩), .pointer (some ⟨S + 3, 0, none⟩)]) rfl (enters_of Try.func37 (by kernel_rfl) rfl) w'.heap.size (Nat.le_refl _) [S + 6, S + 7, S + 9] (by rw [hz0]; simp) (encs := toksEnc) (xs := ownV T n)
  (fun W1 h1 h2 => by
   have := itOwn (S + 2) (S + 3) _ d L T n w w' h (by rw [hS]; exact hBw) d1 (by omega) d2 (by omega) W1 h1
   rw [h2, hz0] at this
   rw [hz0]
   exact this) (fun _ => rfl)
  (fun pre V => (∀ x ∈ pre, punB (tokV L x).k = true) ∧ Below w'.heap.size w' V)
  (fun c pre V => c = .ret ∧ VarAt V (S + 1) (.int .i64 (opV L T n)) ∧ Below S w V)
  ?hI ?hIx ⟨fun x hx => (by cases hx), Below.refl _ _⟩
  (fun x => { tmps := #[.pointer p, .int .i64 n, .pointer (some ⟨S, 0, none⟩), undef, .pointer (some ⟨S + 1, 0, none⟩), .int .i64 x, undef, .pointer p, .int .i64 n, .func (.func 37) #[] #[.pointer (some ⟨S + 2, 0, none⟩), .pointer (some ⟨S + 3, 0, none⟩)], .int .i64 x, undef, undef, undef, undef, undef, undef, undef, undef, undef, undef, undef, undef], defers := [] }) ?assign ?body ?done ?stop
 case hI =>
  rintro pre A B ⟨h1, h2⟩ hb
  exact ⟨h1, h2.but hb (by rw [hz0]; simp) (by have := h2.size; omega)⟩
 case hIx =>
  rintro c pre A B ⟨h1, h2, h4⟩ hb
  exact ⟨h1, h2.but hb (by rw [hz0]; simp), h4.but hb (by rw [hz0]; simp; omega) (by have := h4.size; omega)⟩
 case assign =>
  intro l x V K hK
  unfold toksEnc
  gi_wp2
  exact hK
 case body =>
  rintro l pre x V ⟨hp, hBV⟩ hpre ⟨hlt, hbs⟩
  have hmem := mem_pre hpre
  have hBS : Below S w V := hBw.trans (hBV.mono (by omega))
  rcases h with ⟨_, rfl⟩ | ⟨b, hpb, hf⟩
  ·rw [ownV_nil] at hmem; cases hmem
  ·cases hpb
   have hfV := hf.below (by rw [hS]; exact hBS)
   obtain ⟨y, tb, tof, n2, c2, rfl, hyn, hn60, e1, htb, t0⟩ := tok_there hfV hmem
   have hbV := hfV.lt
   have a0 := (hBV.cell (p := ⟨S, 0, none⟩) (by show S < _; omega)).trans b0
   have a2 := (hBV.cell (p := ⟨S + 1, 0, none⟩) (by show S + 1 < _; omega)).trans b2.1
   have a3 := (hBV.frozen (p := ⟨S + 1, 0, none⟩) (by show S + 1 < _; omega)).trans b2.2
   obtain ⟨z, hzk⟩ : ∃ z, (tokV L (y : Int)).k = z := ⟨_, rfl⟩
   rw [hzk] at t0
   have hyz : (y : Int) < (n2 : Int) := by omega
   obtain ⟨q, hq⟩ : ∃ q, punB z = q := ⟨_, rfl⟩
   have hPu := puns_run z q V hq
   have HH := Lib.hid (And.intro hp (And.intro hBV (And.intro hBS (And.intro hpre (And.intro hzk (And.intro hq hz0))))))
   clear hp hBV hBS hpre hzk hmem hf hfV hz0 hz hB hB0 hBw b0 b2 d1 d2 hbs hq
   gi_wp2
   refine ⟨trivial, ?_⟩
   refine (CallsIn.inRound l (callsIn_wide.2 hPu)).mono ?_
   rintro e V2 ⟨rfl, rfl⟩
   cases q with
   | false =>
    gi_wp2
    obtain ⟨hp, hBV, hBS, hpre, hzk, hq, hz0⟩ := HH.out
    rw [← hzk] at hq
    refine ⟨Apart.of_but (bs := _) ((But.refl _ [S + 1]).setCell (p := ⟨S + 1, 0, none⟩) (by simp) _) (by intro x hx; rw [hz0]; simp at hx ⊢; omega), rfl, ⟨?_, by simpa using a3⟩, hBS.setCell (p := ⟨S + 1, 0, none⟩) (by show S ≤ S + 1; omega) _⟩
    rw [opV_hit hpre hp hq, hzk]
    exact World.cell?_setCell_same' _ _ _ (by simp [a2])
   | true =>
    gi_wp2
    obtain ⟨hp, hBV, hBS, hpre, hzk, hq, hz0⟩ := HH.out
    refine ⟨Apart.of (Below.refl _ _), fun x hx => ?_, hBV⟩
    rcases List.mem_append.1 hx with hx | hx
    ·exact hp x hx
    ·rw [List.mem_singleton.1 hx, hzk]; exact hq
 case done =>
  rintro D V hD ⟨h1, h2⟩ hK
  have hv : opV L T n = 0 := opV_none h1
  have a2 := (h2.cell (p := ⟨S + 1, 0, none⟩) (by show S + 1 < _; omega)).trans b2.1
  have a3 := (h2.frozen (p := ⟨S + 1, 0, none⟩) (by show S + 1 < _; omega)).trans b2.2
  have hBS : Below S w V := hBw.trans (h2.mono (by omega))
  gi_wp2
  have hK' := (KeepsOthers.setCell V ⟨S + 1, 0, none⟩ (.int .i64 0)).same D _ hK rfl
  refine ⟨by simp, .inl ⟨_, _, rfl, run_takeDeferred hK', ?_⟩⟩
  have hc5 := cell_kept (World.cell?_setCell_same' V ⟨S + 1, 0, none⟩ (.int .i64 0) (by rw [a2]; rfl)) (grownBy_putObj' _ D (.deferred none)) (fun r e => by cases e; exact ⟨_, hK', rfl⟩)
  refine ⟨.int .i64 0, ?_, by rw [hv], ?_⟩
  ·simp [results, Try.f7, go_sem, hc5]
  ·rw [hS]
   exact (hBS.setCell (p := ⟨S + 1, 0, none⟩) (by show S ≤ S + 1; omega) _).trans (belowK_b (w := w) (by omega) _ D _ _ (by omega) hK' rfl rfl)
 case stop =>
  rintro D c pre V hD hpre ⟨rfl, h1, h3⟩ hK
  have a2 := h1.1
  gi_wp2
  refine ⟨by simp, .inl ⟨_, _, rfl, run_takeDeferred hK, ?_⟩⟩
  have hc5 := cell_kept a2 (grownBy_putObj' _ D (.deferred none)) (fun r e => by cases e; exact ⟨_, hK, rfl⟩)
  refine ⟨.int .i64 (opV L T n), ?_, rfl, ?_⟩
  ·simp [results, Try.f7, go_sem, hc5]
  ·rw [hS]
   exact h3.trans (belowK_b (w := w) (by omega) _ D _ _ (by omega) hK rfl rfl)
end Go.Proofs.Ytpjgapnihmiceaa
namespace Go.Proofs.Ytpjgapnihmiceaa
open Go.RowKit
set_option linter.unusedSimpArgs false
set_option linter.unusedVariables false
def arrowB (L : List Tv) (l : List Int) (i : Nat) : Bool := match l[i]? with
 | some x => (tokV L x).k == 64
 | none => false
theorem chanG_arrow (L : List Tv) (l : List Int) : chanG L l = if arrowB L l 0 = true then 2 else if arrowB L l 1 = true then 1 else 0 := by
 unfold arrowB
 match l with
 | [] => rfl
 | [a] => simp [chanG]
 | a :: b :: r => simp [chanG]
theorem chanV_node (L : List Tv) (T : List Nd) (n : Int) : chanV L T n = if (nodeV T n).k = 26 then chanG L (ownV T n) else 0 := by
 unfold chanV nodeV
 by_cases h : inT T n = true
 ·simp [h]
 ·have h0 : (default : Nd).k = 0 := rfl
  rw [if_neg (fun e => h e.1), if_neg h, h0, if_neg (by omega)]
set_option maxHeartbeats 2000000 in
set_option maxRecDepth 100000 in
theorem arrow_run (v : Value) (d : List Int) (L : List Tv) (T : List Nd) (n : Int) (i ob fb : Nat) (u : Value) (w : World) (h : FileIs w v d L T) (ho : OwnK .i64 3 w fb u (ownV T n)) (hob : w.cell? ⟨ob, 0, none⟩ = some u) (hfb : w.cell? ⟨fb, 0, none⟩ = some v) (q : Bool) (hq : Hid (arrowB L (ownV T n) i = q)) :
  Calls Try.prog 25 #[.int .i64 (i : Int), .pointer (some ⟨ob, 0, none⟩), .pointer (some ⟨fb, 0, none⟩)] w fun e w' => e = .returned (.bool q) ∧ Below w.heap.size w w' := by
 obtain ⟨A, c, rfl, hc, hm, hN⟩ := ho.nums
 have hl := own_short h n
 by_cases hi : i < (ownV T n).length
 ·obtain ⟨x, hx⟩ : ∃ x, (ownV T n)[i]? = some x := ⟨_, List.getElem?_eq_getElem hi⟩
  have hmem := List.mem_of_getElem? hx
  rcases h with ⟨_, rfl⟩ | ⟨b, rfl, hf⟩
  ·rw [ownV_nil] at hmem; cases hmem
  ·obtain ⟨y, tb, tof, n2, c2, rfl, hyn, hn60, e1, htb, t0⟩ := tok_there hf hmem
   obtain ⟨ab, ao, rfl, hab, hac⟩ := hN (by omega)
   have a0 := hac i _ hx
   obtain ⟨z, hz⟩ : ∃ z, (tokV L (y : Int)).k = z := ⟨_, rfl⟩
   rw [hz] at t0
   have hqz : q = (z == 64) := by
    rw [← hq.out]
    unfold arrowB
    rw [hx, ← hz]
   obtain ⟨m, hml⟩ : ∃ m, (ownV T n).length = m := ⟨_, rfl⟩
   rw [hml] at hob hi hl hc
   have b1 : decide ((i : Int) < (m : Int)) = true := decide_eq_true (by omega)
   have b2 : decide (i < m) = true := decide_eq_true hi
   have b3 : y < n2 := hyn
   have b4 : (y : Int) < (n2 : Int) := by omega
   clear hq ho hN hac hx hmem hf hml hz
   rw [hqz]
   clear hqz
   go_enter Try.func25, Try.ntmps25
   go_wp2_with fail
   go_quiet (fail)
   go_wp2_with fail
   go_ret
   exact ⟨rfl, rfl, rfl, rfl, Nat.le_refl _, fun _ _ => rfl⟩
 ·have hq0 : q = false := by
   rw [← hq.out]
   unfold arrowB
   rw [List.getElem?_eq_none (by omega)]
  subst hq0
  obtain ⟨m, hml⟩ : ∃ m, (ownV T n).length = m := ⟨_, rfl⟩
  rw [hml] at hob hi hl hc
  have b1 : decide ((i : Int) < (m : Int)) = false := decide_eq_false (by omega)
  have b2 : decide (i < m) = false := decide_eq_false hi
  clear hq ho hN hml h
  go_enter Try.func25, Try.ntmps25
  go_wp2_with fail
  go_quiet (fail)
  go_wp2_with fail
  go_ret
  exact ⟨rfl, rfl, rfl, rfl, Nat.le_refl _, fun _ _ => rfl⟩
set_option maxHeartbeats 2000000 in
set_option maxRecDepth 100000 in
theorem Chan_run : SaysChan := by
 intro v d L T n w h
 obtain ⟨p, rfl⟩ := h.valid
 obtain ⟨x, hx⟩ : ∃ x, nodeV T n = x := ⟨_, rfl⟩
 obtain ⟨W, hW⟩ : ∃ W, w.alloc (.cells #[.pointer p] 30) = W := ⟨_, rfl⟩
 have hB : Below w.heap.size w W := by rw [← hW]; exact (Below.refl _ _).alloc (Nat.le_refl _) _
 have hz : W.heap.size = w.heap.size + 1 := by rw [← hW]; simp
 have c0 : W.cell? ⟨w.heap.size, 0, none⟩ = some (.pointer p) := by rw [← hW]; exact World.cell?_alloc_at _ _ _ _ rfl
 have hN := Lib.hid (Node_run (.pointer p) d L T n x W (h.below hB) hx)
 unfold NodeOut at hN
 rw [chanV_node, hx, chanG_arrow]
 obtain ⟨xk, xf, xt, xl⟩ := x
 simp only [] at hN ⊢
 have HF := Lib.hid (h.below hB)
 have HB := Lib.hid hB
 obtain ⟨S, hS⟩ : ∃ S, w.heap.size = S := ⟨_, rfl⟩
 rw [hS] at c0 hz
 clear h hB hx
 by_cases hk : xk = 26
 ·rw [if_pos hk]
  obtain ⟨q0, hq0⟩ : ∃ q, arrowB L (ownV T n) 0 = q := ⟨_, rfl⟩
  obtain ⟨q1, hq1⟩ : ∃ q, arrowB L (ownV T n) 1 = q := ⟨_, rfl⟩
  rw [hq0, hq1]
  have HQ := Lib.hid (And.intro hq0 hq1)
  have hkb : (xk != 26) = false := by simp [hk]
  have HK := Lib.hid hk
  clear hq0 hq1 hk
  go_enter Try.func8, Try.ntmps8
  go_wp2_with fail
  refine hN.out.mono ?_
  rintro e w1 ⟨K, m, c, rfl, hm, hmc, hcc, hNu, hB1⟩
  have hfd := fieldK_nd xk xf xt K m c w1
  have c1 := (hB1.cell (p := ⟨S, 0, none⟩) (by show S < _; omega)).trans c0
  have HO := Lib.hid (Own_runK (.pointer p) d L T n w1 (HF.out.below hB1))
  have HF1 := Lib.hid (HF.out.below hB1)
  have HB1 : Hid (Below S w w1) := by show Below _ _ _; rw [← hS]; exact HB.out.trans (hB1.mono (by omega))
  have hlt1 : S < w1.heap.size := by have := hB1.size; omega
  clear hN HF HB hm hNu hB1 hW c0
  go_wp2_with fail
  refine HO.out.mono ?_
  rintro e w2 ⟨u, rfl, ho, hb⟩
  obtain ⟨A, cc, rfl, _⟩ := ho.nums
  obtain ⟨w3, hw3⟩ : ∃ w3, w2.alloc (.cells #[.slice A (ownV T n).length cc] 42) = w3 := ⟨_, rfl⟩
  have hB3 : Below w2.heap.size w2 w3 := by rw [← hw3]; exact (Below.refl _ _).alloc (Nat.le_refl _) _
  have e1 : w3.cell? ⟨w2.heap.size, 0, none⟩ = some (.slice A (ownV T n).length cc) := by rw [← hw3]; exact World.cell?_alloc_at _ _ _ _ rfl
  have e0 : w3.cell? ⟨S, 0, none⟩ = some (.pointer p) := (hB3.cell (p := ⟨S, 0, none⟩) (by show S < _; have := hb.size; omega)).trans ((hb.cell (p := ⟨S, 0, none⟩) hlt1).trans c1)
  have ho3 : OwnK .i64 3 w3 S (.slice A (ownV T n).length cc) (ownV T n) := ownK_base (ho.below hB3) (by omega)
  have HF3 := (HF1.out.below hb).below hB3
  have hA0 := Lib.hid (arrow_run (.pointer p) d L T n 0 w2.heap.size S _ w3 HF3 ho3 e1 e0 q0 HQ.out.1)
  have HB3 : Hid (Below S w w3) := HB1.out.trans ((hb.mono (by omega)).trans (hB3.mono (by have := hb.size; omega)))
  have HB1' := Lib.hid hb
  have HH := Lib.hid (And.intro ho3 (And.intro e1 (And.intro e0 HF3)))
  have hz3 : S < w3.heap.size ∧ w2.heap.size < w3.heap.size := by rw [← hw3]; have := hb.size; simp; omega
  rw [show ((0 : Nat) : Int) = 0 from rfl] at hA0
  clear ho hb HO HF1 HB1 c1 ho3 HF3 hB3
  obtain ⟨ob, hob⟩ : ∃ ob, w2.heap.size = ob := ⟨_, rfl⟩
  rw [hob] at e1 hA0 HH hz3
  go_wp2_with fail
  refine hA0.out.mono ?_
  rintro e w4 ⟨rfl, hb4⟩
  have HB4 : Hid (Below S w w4) := HB3.out.trans (hb4.mono (by omega))
  cases q0 with
  | true =>
   clear hA0 hb4 e0 e1
   go_wp2_with fail
   go_ret
   exact ⟨by simp, by first | exact HB4.out | (rw [hS]; exact HB4.out)⟩
  | false =>
   have hA1 := Lib.hid (arrow_run (.pointer p) d L T n 1 ob S _ w4 (HH.out.2.2.2.below hb4) (HH.out.1.below hb4) ((hb4.cell (p := ⟨ob, 0, none⟩) hz3.2).trans HH.out.2.1) ((hb4.cell (p := ⟨S, 0, none⟩) hz3.1).trans HH.out.2.2.1) q1 HQ.out.2)
   rw [show ((1 : Nat) : Int) = 1 from rfl] at hA1
   have hz4 : S ≤ w4.heap.size := by have := hb4.size; omega
   clear hA0 hb4 e0 e1
   go_wp2_with fail
   refine hA1.out.mono ?_
   rintro e w5 ⟨rfl, hb5⟩
   have HB5 : Hid (Below S w w5) := HB4.out.trans (hb5.mono hz4)
   clear hA1 hb5
   cases q1 with
   | true =>
    go_wp2_with fail
    go_ret
    exact ⟨by simp, by first | exact HB5.out | (rw [hS]; exact HB5.out)⟩
   | false =>
    go_wp2_with fail
    go_ret
    exact ⟨by simp, by first | exact HB5.out | (rw [hS]; exact HB5.out)⟩
 ·rw [if_neg hk]
  have hkb : (xk != 26) = true := by simp; omega
  have hkn : ¬ xk = 26 := hk
  clear hk
  go_enter Try.func8, Try.ntmps8
  go_wp2_with fail
  refine hN.out.mono ?_
  rintro e w1 ⟨K, m, c, rfl, hm, hmc, hcc, hNu, hB1⟩
  have hfd := fieldK_nd xk xf xt K m c w1
  have HB1 : Hid (Below S w w1) := by show Below _ _ _; rw [← hS]; exact HB.out.trans (hB1.mono (by omega))
  clear hN HF HB hm hNu hB1 hW c0
  go_wp2_with fail
  go_ret
  exact ⟨rfl, by first | exact HB1.out | (rw [hS]; exact HB1.out)⟩
end Go.Proofs.Ytpjgapnihmiceaa
