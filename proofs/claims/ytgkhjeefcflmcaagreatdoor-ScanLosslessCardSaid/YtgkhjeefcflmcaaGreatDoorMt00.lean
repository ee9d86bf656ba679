/-
  What every stage's texts share: an error of api's as a value; what is known of a slice of int's ('Nums'); small facts on endings.
-/
import Derived.Test.YtgkhjeefcflmcaaGreatDoorProg
import Derived.WalkKit
import Derived.WalkSpells
import Derived.WalkLawsBesides
import Derived.IntWalk
import Derived.Lib.Hide
import Derived.Laws.BitsAllLaws
import Derived.Deep.QuietTactic
import Derived.BigQuiet
import Derived.LoopTactic
import Derived.Deep.Light
import Derived.Deep.DeepCutAuto
import Derived.WalkSmall
import Derived.LaidEql
import Derived.Stop.Asserts
import Derived.RowKitTokens
import Derived.Lib.Bytes
namespace Go.Proofs.YtgkhjeefcflmcaaGreatDoor
open Go.RowKit
theorem ret_int {k : IntKind} {a b : Int} (h : a = b) : Ending.returned (.int k a) = .returned (.int k b) := by rw [h]
theorem ret_bool {a b : Bool} (h : a = b) : Ending.returned (.bool a) = .returned (.bool b) := by rw [h]
def errno (k : Int) : Value := .iface 35 (.int .i64 k)
def NumsK (k : IntKind) (w : World) (B : Nat) (A : Option Addr) (l : List Int) : Prop :=
 0 < l.length → ∃ b o, A = some ⟨b, o, none⟩ ∧ b < B ∧ ∀ i x, l[i]? = some x → w.cell? ⟨b, o + i, none⟩ = some (.int k x)
theorem NumsK.keep {k : IntKind} {w w' : World} {B : Nat} {A : Option Addr} {l : List Int} (h : NumsK k w B A l) (hk : ∀ b o, b < B → w'.cell? ⟨b, o, none⟩ = w.cell? ⟨b, o, none⟩) : NumsK k w' B A l :=
 fun hp => by
  obtain ⟨b, o, e, hb, hc⟩ := h hp
  exact ⟨b, o, e, hb, fun i x hx => (hk b (o + i) hb).trans (hc i x hx)⟩
theorem NumsK.below {k : IntKind} {w w' : World} {B B' : Nat} {A : Option Addr} {l : List Int} (h : NumsK k w B A l) (hb : Below B' w w') (hB : B ≤ B') : NumsK k w' B A l :=
 h.keep fun _ _ hlt => hb.cell (Nat.lt_of_lt_of_le hlt hB)
theorem NumsK.more {k : IntKind} {w : World} {B B' : Nat} {A : Option Addr} {l : List Int} (h : NumsK k w B A l) (hB : B ≤ B') : NumsK k w B' A l :=
 fun hp => by
  obtain ⟨b, o, e, hb, hc⟩ := h hp
  exact ⟨b, o, e, by omega, hc⟩
theorem NumsK.nil {k : IntKind} {w : World} {B : Nat} {A : Option Addr} : NumsK k w B A [] := fun h => by simp at h
theorem NumsK.alloc {k : IntKind} {w : World} {A : Option Addr} {l : List Int} (h : NumsK k w w.heap.size A l) (o : Obj) : NumsK k (w.alloc o) w.heap.size A l :=
 h.below ((Below.refl _ _).alloc (Nat.le_refl _) o) (Nat.le_refl _)
theorem NumsK.take {k : IntKind} {w : World} {B : Nat} {A : Option Addr} {l : List Int} (h : NumsK k w B A l) (n : Nat) : NumsK k w B A (l.take n) :=
 fun hp => by
  obtain ⟨b, o, e, hb, hc⟩ := h (by rw [List.length_take] at hp; omega)
  exact ⟨b, o, e, hb, fun i x hx => hc i x (by
   rw [List.getElem?_take] at hx
   split at hx
   ·exact hx
   ·cases hx)⟩
def I64 (l : List Int) : Prop := ∀ x ∈ l, -9223372036854775808 ≤ x ∧ x ≤ 9223372036854775807
theorem I64.at {l : List Int} (h : I64 l) {i : Nat} {x : Int} (hx : l[i]? = some x) : -9223372036854775808 ≤ x ∧ x ≤ 9223372036854775807 := h x (List.mem_of_getElem? hx)
end Go.Proofs.YtgkhjeefcflmcaaGreatDoor
namespace Go.Proofs.YtgkhjeefcflmcaaGreatDoor
open Go.RowKit Go.Extern.Stop Go.Stop Go.Extern Go.Extern.ReflectliteType Go.Extern.Rtype
theorem eqErrno (a b : Int) (w : World) : (binOp .eql 25 (.iface 35 (.int .i64 a)) (.iface 35 (.int .i64 b))).run Tryz.prog w = .ok (.bool (a == b)) w := by
 have hc : (Tryz.prog.info? 35).map (·.comparable) = some true := by kernel_rfl
 obtain ⟨i, hi, hcmp⟩ := Option.map_eq_some_iff.1 hc
 have h : ∀ d : Nat, (Op.equalIn (d + 2) 25 (.iface 35 (.int .i64 a)) (.iface 35 (.int .i64 b))).run Tryz.prog w = .ok (a == b) w := fun d => by
  simp [Op.equalIn, run_underlying Tryz.underlying25, run_underlying Tryz.underlying35, typeInfo, hi, hcmp]
 simp only [binOp]
 simp [Op.equal, Op.maxDepth, h 9998]
theorem isTypeOf (v : Value) (w : World) : (Extern.ReflectliteType.typeOf #[.iface 35 v]).run Tryz.prog w = .ok (.iface 103 (.agg #[.pointer (some ⟨13, 35, none⟩)])) w := by kernel_rfl
def cmpEntry : Array Value → Sem Value := Extern.ReflectliteType.method fun t => do noPackHeld "Comparable" t; pure (.bool (← typeInfo t).comparable)
theorem isComparable (w : World) : (cmpEntry #[.agg #[.pointer (some ⟨13, 35, none⟩)]]).run Tryz.prog w = .ok (.bool true) w := by kernel_rfl
theorem runComparable (args : Array Value) (w : World) : (callFunc 300 args).run Tryz.prog w = ((cmpEntry args).run Tryz.prog w).andThen fun v w' => .ok (.value v) w' :=
 @run_callFunc_extern Tryz.prog 300 _ cmpEntry Tryz.func300 (by kernel_rfl) (by kernel_rfl) (by kernel_rfl) (by kernel_rfl) args w
theorem runTypeOf (args : Array Value) (w : World) : (callFunc 38 args).run Tryz.prog w = ((Extern.ReflectliteType.typeOf args).run Tryz.prog w).andThen fun v w' => .ok (.value v) w' :=
 @run_callFunc_extern Tryz.prog 38 _ Extern.ReflectliteType.typeOf Tryz.func38 (by kernel_rfl) (by kernel_rfl) (by kernel_rfl) (by kernel_rfl) args w
theorem isMethodComparable (v : Value) (w : World) : (Go.method 456 103 v "Comparable").run Tryz.prog w = .ok (300, v) w := by kernel_rfl
theorem noIsE (v : Value) (xT : TypeId) (w : World) : (Instr.typeAssert (.iface 35 v) xT 105 true).run Tryz.prog w = .ok (.tuple #[.nilIface, .bool false]) w := run_typeAssert_lacksB Tryz.underlying105 (by kernel_rfl) (by kernel_rfl) v xT w
theorem noUnwrapE (v : Value) (xT : TypeId) (w : World) : (Instr.typeAssert (.iface 35 v) xT 108 true).run Tryz.prog w = .ok (.tuple #[.nilIface, .bool false]) w := run_typeAssert_lacksB Tryz.underlying108 (by kernel_rfl) (by kernel_rfl) v xT w
theorem noUnwrapsE (v : Value) (xT : TypeId) (w : World) : (Instr.typeAssert (.iface 35 v) xT 110 true).run Tryz.prog w = .ok (.tuple #[.nilIface, .bool false]) w := run_typeAssert_lacksB Tryz.underlying110 (by kernel_rfl) (by kernel_rfl) v xT w
set_option maxHeartbeats 1000000 in
theorem is_errno (a c : Int) (w : World) :
  Calls Tryz.prog 25 #[errno a, errno c] w fun e w' => e = .returned (.bool (a == c)) ∧ w = w' := by
 have h8 := runTypeOf
 have h32 := runComparable
 have tT := isTypeOf
 have cT := isComparable
 have mR := isMethodComparable
 have nE := noIsE
 have uE := noUnwrapE
 have vE := noUnwrapsE
 have heq := eqErrno a c
 unfold errno
 by_cases hac : a = c
 ·subst hac
  have hb : (a == a) = true := by simp
  go_enter Tryz.func25, Tryz.ntmps25
  go_wp2
  refine wp_loop_rounds 1 ?_
  rw [rounds_succ]
  go_wp2
  go_ret
  exact ⟨ret_bool hb.symm, rfl⟩
 ·have hb : (a == c) = false := by simpa using hac
  clear hac
  go_enter Tryz.func25, Tryz.ntmps25
  go_wp2
  refine wp_loop_rounds 1 ?_
  rw [rounds_succ]
  go_wp2
  go_ret
  exact ⟨ret_bool hb.symm, rfl⟩
theorem is_errno_below (a c : Int) (w : World) :
  Calls Tryz.prog 25 #[errno a, errno c] w fun e w' => e = .returned (.bool (a == c)) ∧ Below w.heap.size w w' :=
 (is_errno a c w).mono fun _ _ ⟨h, hw⟩ => ⟨h, hw ▸ Below.refl _ _⟩
set_option maxHeartbeats 400000 in
theorem code_nil (w : World) : Calls Tryz.prog 18 #[.nilIface] w fun e w' => e = .returned (.int .i64 0) ∧ Below w.heap.size w w' := by
 go_enter Tryz.func18, Tryz.ntmps18
 go_wp2
 go_ret
 exact ⟨rfl, Below.refl _ _⟩
set_option maxHeartbeats 1000000 in
theorem code_of {x : Value} {t : TypeId} {v : Value} (hx : Hid (x = .iface t v)) (k : Nat) (h1 : 1 ≤ k) (h25 : k ≤ 25)
  (his : Hid (∀ (c : Int) (w : World), Calls Tryz.prog 25 #[.iface t v, errno c] w fun e w' => e = .returned (.bool ((k : Int) == c)) ∧ Below w.heap.size w w')) (w : World) :
  Calls Tryz.prog 18 #[x] w fun e w' => e = .returned (.int .i64 k) ∧ Below w.heap.size w w' := by
 rw [hx.out]
 clear hx
 go_enter Tryz.func18, Tryz.ntmps18
 go_wp2
 go_loopw [3] (fun c wr => ∃ j : Nat, 1 ≤ j ∧ j ≤ k ∧ c = .int .i64 j ∧ Below w.heap.size w wr) (fun c _ => k - (intOf c).toNat)
 case atStart => exact ⟨1, by omega, h1, rfl, Below.refl _ _⟩
 case round =>
  obtain ⟨j, hj1, hjk, rfl, hbw⟩ := hrel
  have hj25 : decide ((j : Int) ≤ 25) = true := by simp; omega
  by_cases hlt : j < k
  ·have hb : ((k : Int) == (j : Int)) = false := by simp; omega
   go_wp2_with (go_at_call 25; refine (his.out _ _).mono ?_; rintro e w1 ⟨rfl, hw1⟩)
   go_roundw
   case rel => exact ⟨j + 1, by omega, by omega, by go_num, hbw.trans (hw1.mono hbw.size)⟩
   case measure => simp [intOf]; omega
  ·have hb : ((k : Int) == (j : Int)) = true := by simp; omega
   have e : Hid (j = k) := show j = k by omega
   go_wp2_with (go_at_call 25; refine (his.out _ _).mono ?_; rintro e w1 ⟨rfl, hw1⟩)
   go_ret
   exact ⟨ret_int (by rw [e.out]), hbw.trans (hw1.mono hbw.size)⟩
def errOf (k : Nat) : Value := if k = 0 then .nilIface else errno k
end Go.Proofs.YtgkhjeefcflmcaaGreatDoor
namespace Go.Proofs.YtgkhjeefcflmcaaGreatDoor
namespace U
def isRune (r : Int) : Bool := decide (0 ≤ r) && decide (r ≤ 1114111) && (decide (r < 55296) || decide (57343 < r))
theorem isRune_iff {r : Int} : isRune r = true ↔ 0 ≤ r ∧ r ≤ 1114111 ∧ (r < 55296 ∨ 57343 < r) := by
 simp [isRune, and_assoc]
def rlen (r : Int) : Nat := if r < 128 then 1 else if r < 2048 then 2 else if r < 65536 then 3 else 4
def enc (r : Int) : List Int :=
 if r < 128 then [r] else if r < 2048 then [192 + r / 64, 128 + r % 64]
 else if r < 65536 then [224 + r / 4096, 128 + r / 64 % 64, 128 + r % 64]
 else [240 + r / 262144, 128 + r / 4096 % 64, 128 + r / 64 % 64, 128 + r % 64]
def ann (c : Int) : Nat := if c < 128 then 1 else if c < 192 then 0 else if c < 224 then 2 else if c < 240 then 3 else if c < 248 then 4 else 0
def hd (n : Nat) : Int := if n = 2 then 192 else if n = 3 then 224 else if n = 4 then 240 else 0
def cont (c : Int) : Bool := decide (128 ≤ c) && decide (c < 192)
theorem cont_iff {c : Int} : cont c = true ↔ 128 ≤ c ∧ c < 192 := by simp [cont]
def more (r : Int) : List Int → Option Int
 | [] => some r
 | c :: t => if cont c = true then more (r * 64 + (c - 128)) t else none
def Byt (l : List Int) : Prop := ∀ x ∈ l, 0 ≤ x ∧ x ≤ 255
theorem rlen_pos (r : Int) : 1 ≤ rlen r ∧ rlen r ≤ 4 := by unfold rlen; split <;> (try split) <;> (try split) <;> omega
theorem enc_length (r : Int) : (enc r).length = rlen r := by
 unfold enc rlen; split
 ·rfl
 ·split
  ·rfl
  ·split <;> rfl
theorem enc_byt {r : Int} (h : isRune r = true) : Byt (enc r) := by
 rw [isRune_iff] at h
 intro x hx
 unfold enc at hx
 split at hx
 ·simp at hx; omega
 ·split at hx
  ·simp at hx; omega
  ·split at hx <;> simp at hx <;> omega
theorem enc_head {r : Int} (h : isRune r = true) : ∃ c t, enc r = c :: t ∧ ann c = rlen r ∧ (∀ x ∈ t, cont x = true) ∧ more (c - hd (rlen r)) t = some r ∧ t.length + 1 = rlen r := by
 rw [isRune_iff] at h
 unfold enc rlen
 split
 ·exact ⟨_, _, rfl, by simp only [ann]; split <;> omega, by simp, by simp [more, hd], rfl⟩
 ·split
  ·refine ⟨_, _, rfl, ?_, ?_, ?_, rfl⟩
   ·simp only [ann]; repeat' split
    all_goals omega
   ·intro x hx; simp at hx; rw [cont_iff]; omega
   ·simp only [more, hd]
    rw [if_pos (by rw [cont_iff]; omega)]
    simp; omega
  ·split
   ·refine ⟨_, _, rfl, ?_, ?_, ?_, rfl⟩
    ·simp only [ann]; repeat' split
     all_goals omega
    ·intro x hx; simp at hx; rw [cont_iff]; omega
    ·simp only [more, hd]
     rw [if_pos (by rw [cont_iff]; omega), if_pos (by rw [cont_iff]; omega)]
     simp; omega
   ·refine ⟨_, _, rfl, ?_, ?_, ?_, rfl⟩
    ·simp only [ann]; repeat' split
     all_goals omega
    ·intro x hx; simp at hx; rw [cont_iff]; omega
    ·simp only [more, hd]
     rw [if_pos (by rw [cont_iff]; omega), if_pos (by rw [cont_iff]; omega), if_pos (by rw [cont_iff]; omega)]
     simp; omega
theorem more_snoc (l : List Int) (x : Int) : ∀ r : Int, more r (l ++ [x]) = (more r l).bind fun s => if cont x = true then some (s * 64 + (x - 128)) else none := by
 induction l with
 | nil => intro r; simp [more]
 | cons c t ih =>
  intro r
  simp only [List.cons_append, more]
  by_cases hc : cont c = true
  ·simp only [if_pos hc]; exact ih _
  ·simp only [if_neg hc]; rfl
theorem more_short {l : List Int} {x : Int} {j : Nat} (hl : l[j]? = some x) (hx : cont x = false) : ∀ {r : Int} {k : Nat}, j < k → more r (l.take k) = none := by
 induction l generalizing j with
 | nil => simp at hl
 | cons c t ih =>
  intro r k hk
  match k, hk with
  | k + 1, hk =>
   rw [List.take_succ_cons, more]
   match j, hl with
   | 0, hl =>
    have : c = x := by simpa using hl
    subst this
    simp [hx]
   | j + 1, hl =>
    split
    ·exact ih (by simpa using hl) (by omega)
    ·rfl
def dec (d : List Int) : Option (Int × Nat) :=
 match d with
 | [] => none
 | c :: t =>
  if ann c = 0 ∨ t.length + 1 < ann c then none
  else match more (c - hd (ann c)) (t.take (ann c - 1)) with
   | none => none
   | some r => if isRune r = true ∧ rlen r = ann c then some (r, ann c) else none
theorem dec_enc {r : Int} (h : isRune r = true) (t : List Int) : dec (enc r ++ t) = some (r, rlen r) := by
 obtain ⟨c, u, he, ha, _, hm, hl⟩ := enc_head h
 have := rlen_pos r
 rw [he]
 simp only [List.cons_append, dec, ha]
 rw [if_neg (by rw [List.length_append]; omega), List.take_append_of_le_length (by omega), List.take_of_length_le (by omega), hm]
 simp [h]
theorem more_one {r a s : Int} (h : more r [a] = some s) : (128 ≤ a ∧ a < 192) ∧ s = r * 64 + (a - 128) := by
 simp only [more] at h
 split at h
 ·next hc => rw [cont_iff] at hc; exact ⟨hc, (Option.some.inj h).symm⟩
 ·cases h
theorem more_two {r a b s : Int} (h : more r [a, b] = some s) : (128 ≤ a ∧ a < 192) ∧ (128 ≤ b ∧ b < 192) ∧ s = (r * 64 + (a - 128)) * 64 + (b - 128) := by
 rw [more] at h
 split at h
 ·next hc => rw [cont_iff] at hc; obtain ⟨h1, h2⟩ := more_one h; exact ⟨hc, h1, h2⟩
 ·cases h
theorem more_three {r a b c s : Int} (h : more r [a, b, c] = some s) : (128 ≤ a ∧ a < 192) ∧ (128 ≤ b ∧ b < 192) ∧ (128 ≤ c ∧ c < 192) ∧ s = ((r * 64 + (a - 128)) * 64 + (b - 128)) * 64 + (c - 128) := by
 rw [more] at h
 split at h
 ·next hc => rw [cont_iff] at hc; obtain ⟨h1, h2, h3⟩ := more_two h; exact ⟨hc, h1, h2, h3⟩
 ·cases h
theorem ann_inv {c : Int} (h : ann c ≠ 0) : (ann c = 1 ∧ c < 128) ∨ (ann c = 2 ∧ 192 ≤ c ∧ c < 224) ∨ (ann c = 3 ∧ 224 ≤ c ∧ c < 240) ∨ (ann c = 4 ∧ 240 ≤ c ∧ c < 248) := by
 by_cases h1 : c < 128
 ·exact .inl ⟨by simp [ann, h1], h1⟩
 by_cases h2 : c < 192
 ·exact absurd (by simp [ann, h1, h2]) h
 by_cases h3 : c < 224
 ·exact .inr (.inl ⟨by simp [ann, h1, h2, h3], by omega, h3⟩)
 by_cases h4 : c < 240
 ·exact .inr (.inr (.inl ⟨by simp [ann, h1, h2, h3, h4], by omega, h4⟩))
 by_cases h5 : c < 248
 ·exact .inr (.inr (.inr ⟨by simp [ann, h1, h2, h3, h4, h5], by omega, h5⟩))
 ·exact absurd (by simp [ann, h1, h2, h3, h4, h5]) h
theorem rlen_inv (r : Int) : (rlen r = 1 ∧ r < 128) ∨ (rlen r = 2 ∧ 128 ≤ r ∧ r < 2048) ∨ (rlen r = 3 ∧ 2048 ≤ r ∧ r < 65536) ∨ (rlen r = 4 ∧ 65536 ≤ r) := by
 by_cases h1 : r < 128
 ·exact .inl ⟨by simp [rlen, h1], h1⟩
 by_cases h2 : r < 2048
 ·exact .inr (.inl ⟨by simp [rlen, h1, h2], by omega, h2⟩)
 by_cases h3 : r < 65536
 ·exact .inr (.inr (.inl ⟨by simp [rlen, h1, h2, h3], by omega, h3⟩))
 ·exact .inr (.inr (.inr ⟨by simp [rlen, h1, h2, h3], by omega⟩))
theorem enc_dec2 {c s : Int} {t : List Int} (_hc : 192 ≤ c ∧ c < 224) (hn : 2 ≤ t.length + 1) (hs : more (c - 192) (t.take 1) = some s) (hl : 128 ≤ s ∧ s < 2048) : ∃ u, c :: t = enc s ++ u := by
 match t, hn with
 | a :: t', _ =>
  obtain ⟨ha, e⟩ := more_one hs
  refine ⟨t', ?_⟩
  rw [enc, if_neg (by omega), if_pos (by omega)]
  simp only [List.cons_append, List.nil_append]
  rw [show 192 + s / 64 = c by omega, show 128 + s % 64 = a by omega]
theorem enc_dec3 {c s : Int} {t : List Int} (_hc : 224 ≤ c ∧ c < 240) (hn : 3 ≤ t.length + 1) (hs : more (c - 224) (t.take 2) = some s) (hl : 2048 ≤ s ∧ s < 65536) : ∃ u, c :: t = enc s ++ u := by
 match t, hn with
 | a :: b :: t', _ =>
  obtain ⟨ha, hb, e⟩ := more_two hs
  refine ⟨t', ?_⟩
  rw [enc, if_neg (by omega), if_neg (by omega), if_pos (by omega)]
  simp only [List.cons_append, List.nil_append]
  rw [show 224 + s / 4096 = c by omega, show 128 + s / 64 % 64 = a by omega, show 128 + s % 64 = b by omega]
 | [a], hn => simp at hn
theorem enc_dec4 {c s : Int} {t : List Int} (_hc : 240 ≤ c ∧ c < 248) (hn : 4 ≤ t.length + 1) (hs : more (c - 240) (t.take 3) = some s) (hl : 65536 ≤ s) : ∃ u, c :: t = enc s ++ u := by
 match t, hn with
 | a :: b :: d :: t', _ =>
  obtain ⟨ha, hb, hd, e⟩ := more_three hs
  refine ⟨t', ?_⟩
  rw [enc, if_neg (by omega), if_neg (by omega), if_neg (by omega)]
  simp only [List.cons_append, List.nil_append]
  rw [show 240 + s / 262144 = c by omega, show 128 + s / 4096 % 64 = a by omega, show 128 + s / 64 % 64 = b by omega, show 128 + s % 64 = d by omega]
 | [a, b], hn => simp at hn
 | [a], hn => simp at hn
theorem dec_inv {c : Int} {t : List Int} {r : Int} {n : Nat} (h : dec (c :: t) = some (r, n)) : ann c ≠ 0 ∧ ann c ≤ t.length + 1 ∧ more (c - hd (ann c)) (t.take (ann c - 1)) = some r ∧ isRune r = true ∧ rlen r = ann c ∧ n = ann c := by
 rw [dec] at h
 by_cases h0 : ann c = 0 ∨ t.length + 1 < ann c
 ·rw [if_pos h0] at h; cases h
 rw [if_neg h0] at h
 cases hm : more (c - hd (ann c)) (t.take (ann c - 1)) with
 | none => rw [hm] at h; cases h
 | some s =>
  rw [hm] at h
  by_cases h1 : isRune s = true ∧ rlen s = ann c
  ·have h2 : some (s, ann c) = some (r, n) := by simpa only [if_pos h1] using h
   cases h2
   exact ⟨by omega, by omega, rfl, h1.1, h1.2, rfl⟩
  ·simp only [if_neg h1] at h; cases h
theorem enc_dec {d : List Int} {r : Int} {n : Nat} (h : dec d = some (r, n)) : isRune r = true ∧ n = rlen r ∧ ∃ t, d = enc r ++ t := by
 match d, h with
 | c :: t, h =>
  obtain ⟨h0, hl, hm, hr, hlen, rfl⟩ := dec_inv h
  refine ⟨hr, hlen.symm, ?_⟩
  have hri := rlen_inv r
  rcases ann_inv h0 with ⟨e, hc⟩ | ⟨e, hc⟩ | ⟨e, hc⟩ | ⟨e, hc⟩ <;> rw [e] at hm hlen hl
  ·simp [more, hd] at hm
   subst hm
   exact ⟨t, by simp [enc, hc]⟩
  ·exact enc_dec2 hc hl (by simpa [hd] using hm) (by omega)
  ·exact enc_dec3 hc hl (by simpa [hd] using hm) (by omega)
  ·exact enc_dec4 hc hl (by simpa [hd] using hm) (by omega)
end U
end Go.Proofs.YtgkhjeefcflmcaaGreatDoor
namespace Go.Proofs.YtgkhjeefcflmcaaGreatDoor
open Go.RowKit
theorem byte_all {p : Int → Bool} (h : (List.range 256).all (fun n => p (n : Int)) = true) {c : Int} (h0 : 0 ≤ c) (h1 : c ≤ 255) : p c = true := by
 obtain ⟨n, rfl⟩ := Int.eq_ofNat_of_zero_le h0
 exact List.all_eq_true.1 h n (List.mem_range.2 (by omega))
set_option maxHeartbeats 400000 in
theorem announced_any (c : Int) (w : World) (h0 : 0 ≤ c) (h1 : c ≤ 255) :
  Calls Tryz.prog 111 #[.int .u8 c] w fun e w' => e = .returned (.int .i64 (U.ann c : Int)) ∧ w = w' := by
 go_enter Tryz.func111, Tryz.ntmps111
 go_wp2
 all_goals
  go_ret
  refine ⟨ret_int ?_, rfl⟩
  simp only [U.ann]
  repeat' split
  all_goals first | rfl | omega
theorem cont_bits {c : Int} (h0 : 0 ≤ c) (h1 : c ≤ 255) : (bits BinOp.andNot IntKind.u8 c 63 == 128) = U.cont c := by
 have := byte_all (p := fun c => (bits BinOp.andNot IntKind.u8 c 63 == 128) == U.cont c) (by decide +kernel) h0 h1
 simpa using this
set_option maxHeartbeats 400000 in
theorem continues_any (c : Int) (w : World) (h0 : 0 ≤ c) (h1 : c ≤ 255) :
  Calls Tryz.prog 112 #[.int .u8 c] w fun e w' => e = .returned (.bool (U.cont c)) ∧ w = w' := by
 go_enter Tryz.func112, Tryz.ntmps112
 go_wp2
 go_ret
 exact ⟨ret_bool (cont_bits h0 h1), rfl⟩
set_option maxHeartbeats 400000 in
theorem isRune_any (c : Int) (w : World) :
  Calls Tryz.prog 113 #[.int .i32 c] w fun e w' => e = .returned (.bool (U.isRune c)) ∧ w = w' := by
 go_enter Tryz.func113, Tryz.ntmps113
 go_wp2
 all_goals
  go_ret
  refine ⟨ret_bool ?_, rfl⟩
  rw [Bool.eq_iff_iff, U.isRune_iff]
  simp <;> omega
set_option maxHeartbeats 400000 in
theorem length_any (c : Int) (w : World) :
  Calls Tryz.prog 114 #[.int .i32 c] w fun e w' => e = .returned (.int .i64 (U.rlen c : Int)) ∧ w = w' := by
 go_enter Tryz.func114, Tryz.ntmps114
 go_wp2
 all_goals
  go_ret
  refine ⟨ret_int ?_, rfl⟩
  simp only [U.rlen]
  repeat' split
  all_goals first | rfl | omega
end Go.Proofs.YtgkhjeefcflmcaaGreatDoor
namespace Go.Proofs.YtgkhjeefcflmcaaGreatDoor
open Go.RowKit
def decT : Option (Int × Nat) → Value
 | none => .tuple #[.int .i32 0, .int .i64 0, errno 3]
 | some (r, n) => .tuple #[.int .i32 r, .int .i64 n, .nilIface]
def Byts (w : World) (B : Nat) (A : Option Addr) (l : List Int) : Prop :=
 U.Byt l ∧ (0 < l.length → ∃ b o, A = some ⟨b, o, none⟩ ∧ b < B ∧ ∀ i x, l[i]? = some x → w.cell? ⟨b, o + i, none⟩ = some (.int .u8 x))
def Heads (w : World) : Prop := ∀ k : Nat, 1 ≤ k → k ≤ 4 → w.cell? ⟨2, k, none⟩ = some (.int .u8 (U.hd k))
def U.Bnd (j : Nat) (s : Int) : Prop := 0 ≤ s ∧ ((j = 0 ∧ s ≤ 127) ∨ (j = 1 ∧ s ≤ 8191) ∨ (j = 2 ∧ s ≤ 524287) ∨ (j = 3 ∧ s ≤ 33554431))
theorem U.Bnd.step {j : Nat} {s x : Int} (h : U.Bnd j s) (hj : j < 3) (_hx : 128 ≤ x ∧ x < 192) : U.Bnd (j + 1) (s * 64 + x % 64) := by
 unfold U.Bnd at *; omega
theorem ann_bd {c : Int} (h : U.ann c ≠ 0) (h1 : c ≤ 255) (h0 : 0 ≤ c) : 0 ≤ U.hd (U.ann c) ∧ U.hd (U.ann c) ≤ c ∧ c - U.hd (U.ann c) ≤ 127 ∧ 1 ≤ U.ann c ∧ U.ann c ≤ 4 := by
 rcases U.ann_inv h with ⟨e, hc⟩ | ⟨e, hc⟩ | ⟨e, hc⟩ | ⟨e, hc⟩ <;> rw [e] <;> simp [U.hd] <;> omega
set_option maxHeartbeats 400000 in
theorem decode_out (A : Option Addr) (n cap : Nat) (at_ : Int) (w : World) (h : at_ < 0 ∨ (n : Int) ≤ at_) :
  Calls Tryz.prog 80 #[.slice A n cap, .int .i64 at_] w fun e w' => e = .returned (.tuple #[.int .i32 0, .int .i64 0, errno 4]) ∧ ∃ m, w' = w.drewN m := by
 by_cases h1 : at_ < 0
 ·go_enter Tryz.func80, Tryz.ntmps80
  go_wp2
  go_ret3
  exact ⟨rfl, 0, rfl⟩
 ·have h2 : (n : Int) ≤ at_ := by omega
  have h1' : decide (at_ < 0) = false := by simpa using h1
  go_enter Tryz.func80, Tryz.ntmps80
  go_wp2
  go_ret3
  exact ⟨rfl, 0, rfl⟩
set_option maxHeartbeats 400000 in
theorem decode_cut (b o n cap : Nat) (t : List Int) (at_ : Nat) (w : World) (hn : n ≤ 9223372036854775807) (hat : at_ < n)
  (c : Int) (hc0 : 0 ≤ c) (hc1 : c ≤ 255) (hc : w.cell? ⟨b, o + at_, none⟩ = some (.int .u8 c)) (k : Nat) (hk : Hid (k = U.ann c)) (hk0 : k = 0 ∨ n < at_ + k) (ht : t.length + 1 + at_ = n) :
  Calls Tryz.prog 80 #[.slice (some ⟨b, o, none⟩) n cap, .int .i64 at_] w fun e w' => e = .returned (decT (U.dec (c :: t))) ∧ ∃ m, w' = w.drewN m := by
 have Hd : Hid (U.dec (c :: t) = none) := by
  show U.dec (c :: t) = none
  rw [U.dec, if_pos (by rw [← hk.out]; omega)]
 clear ht
 by_cases h0 : k = 0
 ·subst h0
  go_enter Tryz.func80, Tryz.ntmps80
  go_wp2_with (go_at_call 111; refine (announced_any _ _ hc0 hc1).mono ?_; rintro e w' ⟨rfl, rfl⟩; rw [← hk.out])
  go_ret3
  rw [Hd.out]
  exact ⟨rfl, 0, rfl⟩
 ·have h2 : n < at_ + k := by omega
  have hb1 : ((k : Int) == 0) = false := by simp; omega
  have hb2 : decide ((n : Int) - (at_ : Int) < (k : Int)) = true := by simp; omega
  clear hk0
  go_enter Tryz.func80, Tryz.ntmps80
  go_wp2_with (go_at_call 111; refine (announced_any _ _ hc0 hc1).mono ?_; rintro e w' ⟨rfl, rfl⟩; rw [← hk.out])
  go_ret3
  rw [Hd.out]
  exact ⟨rfl, 0, rfl⟩
set_option maxHeartbeats 1000000 in
theorem decode_in (b o n cap : Nat) (t : List Int) (at_ : Nat) (w : World) (hn : n ≤ 9223372036854775807) (hcap : n ≤ cap) (hat : at_ < n) (hcp : at_ + 1 < cap)
  (c : Int) (hc0 : 0 ≤ c) (hc1 : c ≤ 255) (hc : w.cell? ⟨b, o + at_, none⟩ = some (.int .u8 c)) (k : Nat) (hk : Hid (k = U.ann c)) (hk1 : 1 ≤ k) (hk4 : k ≤ 4) (hkn : at_ + k ≤ n) (h : Int) (_hd0 : 0 ≤ h) (hd1 : h ≤ c)
  (hhk : Hid (h = U.hd k)) (hh : w.cell? ⟨2, k, none⟩ = some (.int .u8 h)) (hb127 : c - h ≤ 127) (hrest : ∀ j, j < k - 1 → ∃ x, w.cell? ⟨b, o + (at_ + 1) + j, none⟩ = some (.int .u8 x) ∧ t[j]? = some x ∧ 0 ≤ x ∧ x ≤ 255) (ht : Hid (t.length + 1 + at_ = n)) :
  Calls Tryz.prog 80 #[.slice (some ⟨b, o, none⟩) n cap, .int .i64 at_] w fun e w' => e = .returned (decT (U.dec (c :: t))) ∧ ∃ m, w' = w.drewN m := by
 have Hd : Hid (U.dec (c :: t) = match U.more (c - h) (t.take (k - 1)) with
   | none => none
   | some r => if U.isRune r = true ∧ U.rlen r = k then some (r, k) else none) := by
  show U.dec (c :: t) = _
  rw [U.dec, ← hk.out, ← hhk.out, if_neg (by have := ht.out; omega)]
  all_goals (cases U.more (c - h) (t.take (k - 1)) <;> rfl)
 have hb1 : ((k : Int) == 0) = false := by simp; omega
 have hb2 : decide ((n : Int) - (at_ : Int) < (k : Int)) = false := by simp; omega
 go_enter Tryz.func80, Tryz.ntmps80
 go_wp2_with (go_at_call 111; refine (announced_any _ _ hc0 hc1).mono ?_; rintro e w' ⟨rfl, rfl⟩; rw [← hk.out])
 go_quiet (fail)
 go_wp2
 go_loop [4, 52] (fun r i => ∃ j : Nat, j ≤ k - 1 ∧ i = .int .i64 j ∧ ∃ s : Int, r = .int .i32 s ∧ U.more (c - h) (t.take j) = some s ∧ U.Bnd j s) (fun _ i => k - 1 - (intOf i).toNat)
 case atStart => exact ⟨0, by omega, rfl, c - h, rfl, rfl, by omega, .inl ⟨rfl, by omega⟩⟩
 case round =>
  obtain ⟨j, hj, rfl, s, rfl, hm, hbd⟩ := hrel
  have Hm := Lib.hid hm
  have Hbd := Lib.hid hbd
  have hs0 : 0 ≤ s := hbd.1
  have hs1 : s ≤ 33554431 := by unfold U.Bnd at hbd; omega
  clear hm hbd
  by_cases hlt : j < k - 1
  ·obtain ⟨x, hx, hlx, hx0, hx1⟩ := hrest j hlt
   have Hlx := Lib.hid hlx
   have hs2 : s ≤ 524287 := by have := Hbd.out; unfold U.Bnd at this; omega
   clear hlx hrest
   have hlt2 : j < at_ + k - (at_ + 1) := by omega
   by_cases hct : U.cont x = true
   ·go_wp2_with (go_at_call 112; refine (continues_any _ _ hx0 hx1).mono ?_; rintro e w' ⟨rfl, rfl⟩)
    go_round
    case rel =>
     have hx2 := U.cont_iff.1 hct
     refine ⟨j + 1, by omega, by go_num, _, rfl, ?_, Hbd.out.step (by omega) hx2⟩
     rw [List.take_add_one, Hlx.out, Option.toList_some, U.more_snoc, Hm.out, Option.bind_some, if_pos hct]
     congr 1
     omega
    case measure => simp [intOf]; omega
   ·have hcf : U.cont x = false := by simpa using hct
    clear hct
    go_wp2_with (go_at_call 112; refine (continues_any _ _ hx0 hx1).mono ?_; rintro e w' ⟨rfl, rfl⟩)
    go_ret3
    rw [Hd.out, U.more_short Hlx.out hcf hlt]
    exact ⟨rfl, _, rfl⟩
  ·have hje : Hid (j = k - 1) := show j = k - 1 by omega
   have hlt2 : ¬ j < at_ + k - (at_ + 1) := by omega
   clear hrest
   by_cases hr : U.isRune s = true
   ·by_cases hl : U.rlen s = k
    ·have Hl := Lib.hid hl
     have hb3 : ((U.rlen s : Int) != (k : Int)) = false := by rw [hl]; simp
     clear hl
     go_wp2_with (first | (go_at_call 113; refine (isRune_any _ _).mono ?_; rintro e w' ⟨rfl, rfl⟩) | (go_at_call 114; refine (length_any _ _).mono ?_; rintro e w' ⟨rfl, rfl⟩))
     go_ret3
     rw [Hd.out, ← hje.out, Hm.out]
     exact ⟨by simp [decT, hr, Hl.out], _, rfl⟩
    ·have hb3 : ((U.rlen s : Int) != (k : Int)) = true := by rw [bne_iff_ne]; omega
     have Hl := Lib.hid hl
     clear hl
     go_wp2_with (first | (go_at_call 113; refine (isRune_any _ _).mono ?_; rintro e w' ⟨rfl, rfl⟩) | (go_at_call 114; refine (length_any _ _).mono ?_; rintro e w' ⟨rfl, rfl⟩))
     go_ret3
     rw [Hd.out, ← hje.out, Hm.out]
     exact ⟨by simp [decT, errno, Hl.out], _, rfl⟩
   ·have hrf : U.isRune s = false := by simpa using hr
    clear hr
    go_wp2_with (first | (go_at_call 113; refine (isRune_any _ _).mono ?_; rintro e w' ⟨rfl, rfl⟩) | (go_at_call 114; refine (length_any _ _).mono ?_; rintro e w' ⟨rfl, rfl⟩))
    go_ret3
    rw [Hd.out, ← hje.out, Hm.out]
    exact ⟨by simp [decT, errno, hrf], _, rfl⟩
set_option maxHeartbeats 1000000 in
theorem decode_in_end (b o n : Nat) (at_ : Nat) (w : World) (hn : n ≤ 9223372036854775807) (hcap : n ≤ at_ + 1) (hat : at_ < n)
  (c : Int) (hc0 : 0 ≤ c) (hc1 : c ≤ 255) (hc : w.cell? ⟨b, o + at_, none⟩ = some (.int .u8 c)) (hk : Hid (1 = U.ann c)) (hc127 : c ≤ 127)
  (hh : w.cell? ⟨2, 1, none⟩ = some (.int .u8 0)) :
  Calls Tryz.prog 80 #[.slice (some ⟨b, o, none⟩) n (at_ + 1), .int .i64 at_] w fun e w' => e = .returned (decT (U.dec [c])) ∧ ∃ m, w' = w.drewN m := by
 have hr : U.isRune c = true := U.isRune_iff.2 (by omega)
 have Hd : Hid (U.dec [c] = some (c, 1)) := by
  show U.dec [c] = _
  simp [U.dec, ← hk.out, U.more, U.hd, hr, U.rlen, show c < 128 by omega]
 have Hl : Hid (U.rlen c = 1) := by
  show U.rlen c = 1
  simp [U.rlen, show c < 128 by omega]
 have hb3 : ((U.rlen c : Int) != 1) = false := by rw [Hl.out]; rfl
 have hb2 : decide ((n : Int) - (at_ : Int) < 1) = false := by simp; omega
 go_enter Tryz.func80, Tryz.ntmps80
 go_wp2_with (go_at_call 111; refine (announced_any _ _ hc0 hc1).mono ?_; rintro e w' ⟨rfl, rfl⟩; rw [← hk.out])
 go_quiet (fail)
 go_wp2
 go_loop [4, 52] (fun r i => r = .int .i32 c ∧ i = .int .i64 0) (fun _ _ => 0)
 case atStart => exact ⟨rfl, rfl⟩
 case round =>
  obtain ⟨rfl, rfl⟩ := hrel
  go_wp2_with (first | (go_at_call 113; refine (isRune_any _ _).mono ?_; rintro e w' ⟨rfl, rfl⟩) | (go_at_call 114; refine (length_any _ _).mono ?_; rintro e w' ⟨rfl, rfl⟩))
  go_ret3
  rw [Hd.out]
  exact ⟨rfl, _, rfl⟩
def decAns (l : List Int) (at_ : Int) : Value :=
 if at_ < 0 ∨ (l.length : Int) ≤ at_ then .tuple #[.int .i32 0, .int .i64 0, errno 4] else decT (U.dec (l.drop at_.toNat))
theorem decAns_at (l : List Int) (k : Nat) (h : k < l.length) : decAns l k = decT (U.dec (l.drop k)) := by
 unfold decAns
 rw [if_neg (by omega), Int.toNat_natCast]
theorem decode_any {B : Nat} (A : Option Addr) (n cap : Nat) (l : List Int) (at_ : Int) (w : World) (hb : Byts w B A l) (hh : Heads w) (hl : l.length = n) (hcap : n ≤ cap) (hmax : n ≤ 9223372036854775807) :
  Calls Tryz.prog 80 #[.slice A n cap, .int .i64 at_] w fun e w' => e = .returned (decAns l at_) ∧ ∃ m, w' = w.drewN m := by
 by_cases ho : at_ < 0 ∨ (n : Int) ≤ at_
 ·have e : decAns l at_ = .tuple #[.int .i32 0, .int .i64 0, errno 4] := by unfold decAns; rw [if_pos (by omega)]
  rw [e]
  exact decode_out A n cap at_ w ho
 ·obtain ⟨k, rfl⟩ := Int.eq_ofNat_of_zero_le (show 0 ≤ at_ by omega)
  have hk : k < l.length := by omega
  rw [decAns_at l k hk]
  obtain ⟨hbt, hb2⟩ := hb
  obtain ⟨b, o, rfl, _, hcell⟩ := hb2 (by omega)
  rw [List.drop_eq_getElem_cons hk]
  have hc := hbt l[k] (List.getElem_mem hk)
  have hck := hcell k _ (List.getElem?_eq_getElem hk)
  have ht : (l.drop (k + 1)).length + 1 + k = n := by rw [List.length_drop]; omega
  have hrest : ∀ j x, (l.drop (k + 1))[j]? = some x → w.cell? ⟨b, o + (k + 1) + j, none⟩ = some (.int .u8 x) ∧ 0 ≤ x ∧ x ≤ 255 := by
   intro j x hx
   rw [List.getElem?_drop] at hx
   have hm := hbt x (List.mem_of_getElem? hx)
   refine ⟨?_, hm.1, hm.2⟩
   rw [show o + (k + 1) + j = o + (k + 1 + j) by omega]
   exact hcell _ _ hx
  by_cases h0 : U.ann l[k] = 0 ∨ n < k + U.ann l[k]
  ·exact decode_cut b o n cap (l.drop (k + 1)) k w hmax (by omega) l[k] hc.1 hc.2 hck (U.ann l[k]) rfl h0 ht
  ·obtain ⟨hd0, hd1, hd2, hk1, hk4⟩ := ann_bd (show U.ann l[k] ≠ 0 by omega) hc.2 hc.1
   by_cases hcp : k + 1 < cap
   ·refine decode_in b o n cap (l.drop (k + 1)) k w hmax hcap (by omega) hcp l[k] hc.1 hc.2 hck (U.ann l[k]) rfl hk1 hk4 (by omega) (U.hd (U.ann l[k])) hd0 hd1 rfl (hh _ hk1 hk4) hd2 ?_ ht
    intro j hj
    have hjl : j < (l.drop (k + 1)).length := by omega
    exact ⟨_, (hrest j _ (List.getElem?_eq_getElem hjl)).1, List.getElem?_eq_getElem hjl, (hrest j _ (List.getElem?_eq_getElem hjl)).2⟩
   ·obtain rfl : cap = k + 1 := by omega
    have ha : U.ann l[k] = 1 := by omega
    have hnil : l.drop (k + 1) = [] := List.drop_eq_nil_of_le (by omega)
    rw [hnil]
    have h127 : l[k] ≤ 127 := by rw [ha] at hd2; simpa [U.hd] using hd2
    exact decode_in_end b o n k w hmax hcap (by omega) l[k] hc.1 hc.2 hck ha.symm h127 (by simpa [U.hd] using hh 1 (by omega) (by omega))
end Go.Proofs.YtgkhjeefcflmcaaGreatDoor
namespace Go.Proofs.YtgkhjeefcflmcaaGreatDoor
open Go.RowKit
def cellsOf (l : List Int) : Array Value := (l.map fun x => Value.int .u8 x).toArray
theorem Heads.lt {w : World} (h : Heads w) : 2 < w.heap.size := by
 have h1 := h 1 (by omega) (by omega)
 rcases Nat.lt_or_ge 2 w.heap.size with h2 | h2
 ·exact h2
 ·simp [World.cell?, Array.getElem?_eq_none h2] at h1
end Go.Proofs.YtgkhjeefcflmcaaGreatDoor
namespace Go.Proofs.YtgkhjeefcflmcaaGreatDoor
open Go.RowKit
def strOf (l : List Int) : ByteArray := strOfNums l
theorem Byts.out {w : World} {B : Nat} {A : Option Addr} {l : List Int} (h : Byts w B A l) : U.Byt l := h.1
theorem Byts.keep {w w' : World} {B : Nat} {A : Option Addr} {l : List Int} (h : Byts w B A l) (hk : ∀ b o, b < B → w'.cell? ⟨b, o, none⟩ = w.cell? ⟨b, o, none⟩) : Byts w' B A l :=
 ⟨h.1, fun hp => by
  obtain ⟨b, o, e, hb, hc⟩ := h.2 hp
  exact ⟨b, o, e, hb, fun i x hx => (hk b (o + i) hb).trans (hc i x hx)⟩⟩
theorem Byts.below {w w' : World} {B B' : Nat} {A : Option Addr} {l : List Int} (h : Byts w B A l) (hb : Below B' w w') (hB : B ≤ B') : Byts w' B A l :=
 h.keep fun _ _ hlt => hb.cell (Nat.lt_of_lt_of_le hlt hB)
theorem Byts.more {w : World} {B B' : Nat} {A : Option Addr} {l : List Int} (h : Byts w B A l) (hB : B ≤ B') : Byts w B' A l :=
 ⟨h.1, fun hp => by
  obtain ⟨b, o, e, hb, hc⟩ := h.2 hp
  exact ⟨b, o, e, by omega, hc⟩⟩
theorem Byts.drewN {w : World} {B : Nat} {A : Option Addr} {l : List Int} (h : Byts w B A l) (n : Nat) : Byts (w.drewN n) B A l := h
theorem Byts.nil {w : World} {B : Nat} {A : Option Addr} : Byts w B A [] := ⟨fun x hx => by simp at hx, fun h => by simp at h⟩
theorem Byts.new {w : World} {B : Nat} {l : List Int} (hl : U.Byt l) (e : TypeId) (hB : w.heap.size < B) : Byts (w.alloc (.cells (cellsOf l) e)) B (some ⟨w.heap.size, 0, none⟩) l :=
 ⟨hl, fun _ => ⟨_, _, rfl, hB, fun i x hx => by
  rw [World.cell?_alloc_at _ _ _ _ rfl]
  simp [cellsOf, hx]⟩⟩
theorem Byts.take {w : World} {B : Nat} {A : Option Addr} {l : List Int} (h : Byts w B A l) (n : Nat) : Byts w B A (l.take n) :=
 ⟨fun x hx => h.1 x (List.mem_of_mem_take hx), fun hp => by
  obtain ⟨b, o, e, hb, hc⟩ := h.2 (by rw [List.length_take] at hp; omega)
  exact ⟨b, o, e, hb, fun i x hx => hc i x (by
   rw [List.getElem?_take] at hx
   split at hx
   ·exact hx
   ·cases hx)⟩⟩
theorem conv_bytes {w : World} {B : Nat} {A : Option Addr} {l : List Int} (h : Byts w B A l) (n cap : Nat) (hn : l.length = n) :
  (convert 22 9 (.slice A n cap)).run Tryz.prog w = .ok (.string (strOf l)) w := by
 subst hn
 by_cases hl : 0 < l.length
 ·obtain ⟨b, o, rfl, _, hc⟩ := h.2 hl
  exact run_convert_bytes_arg w _ 5 Tryz.underlying22 Tryz.underlying5 b o l.length cap l rfl (fun i hi => by
   rw [hc i _ (List.getElem?_eq_getElem hi)]
   simp [List.getD, List.getElem?_eq_getElem hi]) _ Tryz.underlying9
 ·have : l = [] := List.eq_nil_of_length_eq_zero (by omega)
  subst this
  cases A with
  | none => exact run_convert_bytes_nil w _ 5 Tryz.underlying22 Tryz.underlying5 _ _ _ Tryz.underlying9
  | some a =>
   have := run_convert_bytes_back w 22 9 5 a cap [] Tryz.underlying22 Tryz.underlying5 Tryz.underlying9 (fun j hj => by simp at hj)
   simpa [strOf, strOfNums] using this
end Go.Proofs.YtgkhjeefcflmcaaGreatDoor
namespace Go.Proofs.YtgkhjeefcflmcaaGreatDoor
open Go.RowKit Go.Extern.Stop Go.Stop Go.Extern Go.Extern.ReflectliteType Go.Extern.Rtype
theorem noIsA (v : Value) (xT : TypeId) (w : World) : (Instr.typeAssert (.iface 55 v) xT 105 true).run Tryz.prog w = .ok (.tuple #[.nilIface, .bool false]) w := run_typeAssert_lacksB Tryz.underlying105 (by kernel_rfl) (by kernel_rfl) v xT w
theorem hasUnwrapA (v : Value) (xT : TypeId) (w : World) : (Instr.typeAssert (.iface 55 v) xT 108 true).run Tryz.prog w = .ok (.tuple #[.iface 55 v, .bool true]) w := run_typeAssert_hasB Tryz.underlying108 (by kernel_rfl) v xT w
theorem methodUnwrap (x y : Value) (w : World) : (Go.method 456 55 (.agg #[x, y]) "Unwrap").run Tryz.prog w = .ok (294, .agg #[x, y]) w := by kernel_rfl
set_option maxHeartbeats 1000000 in
theorem is_at (o : Value) (a c : Int) (w : World) :
  Calls Tryz.prog 25 #[.iface 55 (.agg #[o, errno a]), errno c] w fun e w' => e = .returned (.bool (a == c)) ∧ Below w.heap.size w w' := by
 have h8 := runTypeOf
 have h32 := runComparable
 have tT := isTypeOf
 have cT := isComparable
 have mR := isMethodComparable
 have nE := noIsE
 have uE := noUnwrapE
 have vE := noUnwrapsE
 have nA := noIsA
 have uA := hasUnwrapA
 have mU := methodUnwrap
 have hty := run_eql_iface_types (P := Tryz.prog) 55 35 (.agg #[o, .iface 35 (.int .i64 a)]) (.int .i64 c) Tryz.underlying25 (by decide)
 have heq := eqErrno a c
 unfold errno
 by_cases hac : a = c
 ·subst hac
  have hb : (a == a) = true := by simp
  go_enter Tryz.func25, Tryz.ntmps25
  go_wp2
  refine wp_loop_rounds 2 ?_
  rw [rounds_succ]
  go_wp2
  rw [rounds_succ]
  go_wp2
  go_ret
  refine ⟨ret_bool hb.symm, ?_⟩
  exact (Below.refl _ _).alloc (Nat.le_refl _) _
 ·have hb : (a == c) = false := by simpa using hac
  clear hac
  go_enter Tryz.func25, Tryz.ntmps25
  go_wp2
  refine wp_loop_rounds 2 ?_
  rw [rounds_succ]
  go_wp2
  rw [rounds_succ]
  go_wp2
  go_ret
  refine ⟨ret_bool hb.symm, ?_⟩
  exact (Below.refl _ _).alloc (Nat.le_refl _) _
end Go.Proofs.YtgkhjeefcflmcaaGreatDoor
namespace Go.Proofs.YtgkhjeefcflmcaaGreatDoor
open Go.RowKit
def errAt (o k : Int) : Value := .iface 55 (.agg #[.int .i64 o, errno k])
theorem code_at (o : Int) (k : Nat) (h1 : 1 ≤ k) (h25 : k ≤ 25) (w : World) :
  Calls Tryz.prog 18 #[errAt o k] w fun e w' => e = .returned (.int .i64 k) ∧ Below w.heap.size w w' :=
 code_of (show errAt o k = _ from rfl) k h1 h25 (fun c w => is_at _ k c w) w
end Go.Proofs.YtgkhjeefcflmcaaGreatDoor
