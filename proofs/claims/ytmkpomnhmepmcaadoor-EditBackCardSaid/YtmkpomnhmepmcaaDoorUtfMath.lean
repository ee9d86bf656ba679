/-
  UTF-8 as plain mathematics over lists of integers: the encoding of a rune, decoding, and that decoding is the inverse of encoding. Nothing of the program is named here.
-/
namespace Go.Proofs.YtmkpomnhmepmcaaDoor
namespace U

/-- The runes. -/
def isRune (r : Int) : Bool := decide (0 ≤ r) && decide (r ≤ 1114111) && (decide (r < 55296) || decide (57343 < r))
theorem isRune_iff {r : Int} : isRune r = true ↔ 0 ≤ r ∧ r ≤ 1114111 ∧ (r < 55296 ∨ 57343 < r) := by
  simp [isRune, and_assoc]
theorem isRune_false {r : Int} : isRune r = false ↔ ¬ (0 ≤ r ∧ r ≤ 1114111 ∧ (r < 55296 ∨ 57343 < r)) := by
  rw [← isRune_iff]; simp
/-- The length of a rune's encoding. -/
def rlen (r : Int) : Nat := if r < 128 then 1 else if r < 2048 then 2 else if r < 65536 then 3 else 4
/-- A rune's encoding. -/
def enc (r : Int) : List Int :=
  if r < 128 then [r] else if r < 2048 then [192 + r / 64, 128 + r % 64]
  else if r < 65536 then [224 + r / 4096, 128 + r / 64 % 64, 128 + r % 64]
  else [240 + r / 262144, 128 + r / 4096 % 64, 128 + r / 64 % 64, 128 + r % 64]
/-- The length that a first byte tells; 0: none begins so. -/
def ann (c : Int) : Nat := if c < 128 then 1 else if c < 192 then 0 else if c < 224 then 2 else if c < 240 then 3 else if c < 248 then 4 else 0
def hd (n : Nat) : Int := if n = 2 then 192 else if n = 3 then 224 else if n = 4 then 240 else 0
/-- A later byte. -/
def cont (c : Int) : Bool := decide (128 ≤ c) && decide (c < 192)
theorem cont_iff {c : Int} : cont c = true ↔ 128 ≤ c ∧ c < 192 := by simp [cont]
theorem cont_false {c : Int} : cont c = false ↔ ¬ (128 ≤ c ∧ c < 192) := by rw [← cont_iff]; simp
/-- The later bytes' bits below r. -/
def more (r : Int) : List Int → Option Int
  | [] => some r
  | c :: t => if cont c = true then more (r * 64 + (c - 128)) t else none
def Byt (l : List Int) : Prop := ∀ x ∈ l, 0 ≤ x ∧ x ≤ 255

theorem rlen_pos (r : Int) : 1 ≤ rlen r ∧ rlen r ≤ 4 := by unfold rlen; split <;> (try split) <;> (try split) <;> omega
theorem enc_length (r : Int) : (enc r).length = rlen r := by
  unfold enc rlen; split
  · rfl
  · split
    · rfl
    · split <;> rfl
theorem enc_byt {r : Int} (h : isRune r = true) : Byt (enc r) := by
  rw [isRune_iff] at h
  intro x hx
  unfold enc at hx
  split at hx
  · simp at hx; omega
  · split at hx
    · simp at hx; omega
    · split at hx <;> simp at hx <;> omega
theorem enc_head {r : Int} (h : isRune r = true) : ∃ c t, enc r = c :: t ∧ ann c = rlen r ∧ (∀ x ∈ t, cont x = true) ∧ more (c - hd (rlen r)) t = some r ∧ t.length + 1 = rlen r := by
  rw [isRune_iff] at h
  unfold enc rlen
  split
  · exact ⟨_, _, rfl, by simp only [ann]; split <;> omega, by simp, by simp [more, hd], rfl⟩
  · split
    · refine ⟨_, _, rfl, ?_, ?_, ?_, rfl⟩
      · simp only [ann]; repeat' split
        all_goals omega
      · intro x hx; simp at hx; rw [cont_iff]; omega
      · simp only [more, hd]
        rw [if_pos (by rw [cont_iff]; omega)]
        simp; omega
    · split
      · refine ⟨_, _, rfl, ?_, ?_, ?_, rfl⟩
        · simp only [ann]; repeat' split
          all_goals omega
        · intro x hx; simp at hx; rw [cont_iff]; omega
        · simp only [more, hd]
          rw [if_pos (by rw [cont_iff]; omega), if_pos (by rw [cont_iff]; omega)]
          simp; omega
      · refine ⟨_, _, rfl, ?_, ?_, ?_, rfl⟩
        · simp only [ann]; repeat' split
          all_goals omega
        · intro x hx; simp at hx; rw [cont_iff]; omega
        · simp only [more, hd]
          rw [if_pos (by rw [cont_iff]; omega), if_pos (by rw [cont_iff]; omega), if_pos (by rw [cont_iff]; omega)]
          simp; omega

theorem more_snoc (l : List Int) (x : Int) : ∀ r : Int, more r (l ++ [x]) = (more r l).bind fun s => if cont x = true then some (s * 64 + (x - 128)) else none := by
  induction l with
  | nil => intro r; simp [more]
  | cons c t ih =>
    intro r
    simp only [List.cons_append, more]
    by_cases hc : cont c = true
    · simp only [if_pos hc]; exact ih _
    · simp only [if_neg hc]; rfl
theorem more_short {l : List Int} {x : Int} {j : Nat} (hl : l[j]? = some x) (hx : cont x = false) : ∀ {r : Int} {k : Nat}, j < k → more r (l.take k) = none := by
  induction l generalizing j with
  | nil => simp at hl
  | cons c t ih =>
    intro r k hk
    match k, hk with
    | k + 1, hk =>
      rw [List.take_succ_cons, more]
      match j, hl with
      | 0, hl =>
        have : c = x := by simpa using hl
        subst this
        simp [hx]
      | j + 1, hl =>
        split
        · exact ih (by simpa using hl) (by omega)
        · rfl
/-- What stands at the head of d: a rune and its length; none: no encoding begins there. -/
def dec (d : List Int) : Option (Int × Nat) :=
  match d with
  | [] => none
  | c :: t =>
    if ann c = 0 ∨ t.length + 1 < ann c then none
    else match more (c - hd (ann c)) (t.take (ann c - 1)) with
      | none => none
      | some r => if isRune r = true ∧ rlen r = ann c then some (r, ann c) else none

/-- An encoding is decoded, whatever stands behind it. -/
theorem dec_enc {r : Int} (h : isRune r = true) (t : List Int) : dec (enc r ++ t) = some (r, rlen r) := by
  obtain ⟨c, u, he, ha, _, hm, hl⟩ := enc_head h
  have := rlen_pos r
  rw [he]
  simp only [List.cons_append, dec, ha]
  rw [if_neg (by rw [List.length_append]; omega), List.take_append_of_le_length (by omega), List.take_of_length_le (by omega), hm]
  simp [h]

theorem more_one {r a s : Int} (h : more r [a] = some s) : (128 ≤ a ∧ a < 192) ∧ s = r * 64 + (a - 128) := by
  simp only [more] at h
  split at h
  · next hc => rw [cont_iff] at hc; exact ⟨hc, (Option.some.inj h).symm⟩
  · cases h
theorem more_two {r a b s : Int} (h : more r [a, b] = some s) : (128 ≤ a ∧ a < 192) ∧ (128 ≤ b ∧ b < 192) ∧ s = (r * 64 + (a - 128)) * 64 + (b - 128) := by
  rw [more] at h
  split at h
  · next hc => rw [cont_iff] at hc; obtain ⟨h1, h2⟩ := more_one h; exact ⟨hc, h1, h2⟩
  · cases h
theorem more_three {r a b c s : Int} (h : more r [a, b, c] = some s) : (128 ≤ a ∧ a < 192) ∧ (128 ≤ b ∧ b < 192) ∧ (128 ≤ c ∧ c < 192) ∧ s = ((r * 64 + (a - 128)) * 64 + (b - 128)) * 64 + (c - 128) := by
  rw [more] at h
  split at h
  · next hc => rw [cont_iff] at hc; obtain ⟨h1, h2, h3⟩ := more_two h; exact ⟨hc, h1, h2, h3⟩
  · cases h

theorem ann_inv {c : Int} (h : ann c ≠ 0) : (ann c = 1 ∧ c < 128) ∨ (ann c = 2 ∧ 192 ≤ c ∧ c < 224) ∨ (ann c = 3 ∧ 224 ≤ c ∧ c < 240) ∨ (ann c = 4 ∧ 240 ≤ c ∧ c < 248) := by
  by_cases h1 : c < 128
  · exact .inl ⟨by simp [ann, h1], h1⟩
  by_cases h2 : c < 192
  · exact absurd (by simp [ann, h1, h2]) h
  by_cases h3 : c < 224
  · exact .inr (.inl ⟨by simp [ann, h1, h2, h3], by omega, h3⟩)
  by_cases h4 : c < 240
  · exact .inr (.inr (.inl ⟨by simp [ann, h1, h2, h3, h4], by omega, h4⟩))
  by_cases h5 : c < 248
  · exact .inr (.inr (.inr ⟨by simp [ann, h1, h2, h3, h4, h5], by omega, h5⟩))
  · exact absurd (by simp [ann, h1, h2, h3, h4, h5]) h
theorem rlen_inv (r : Int) : (rlen r = 1 ∧ r < 128) ∨ (rlen r = 2 ∧ 128 ≤ r ∧ r < 2048) ∨ (rlen r = 3 ∧ 2048 ≤ r ∧ r < 65536) ∨ (rlen r = 4 ∧ 65536 ≤ r) := by
  by_cases h1 : r < 128
  · exact .inl ⟨by simp [rlen, h1], h1⟩
  by_cases h2 : r < 2048
  · exact .inr (.inl ⟨by simp [rlen, h1, h2], by omega, h2⟩)
  by_cases h3 : r < 65536
  · exact .inr (.inr (.inl ⟨by simp [rlen, h1, h2, h3], by omega, h3⟩))
  · exact .inr (.inr (.inr ⟨by simp [rlen, h1, h2, h3], by omega⟩))
theorem enc_dec2 {c s : Int} {t : List Int} (_hc : 192 ≤ c ∧ c < 224) (hn : 2 ≤ t.length + 1) (hs : more (c - 192) (t.take 1) = some s) (hl : 128 ≤ s ∧ s < 2048) : ∃ u, c :: t = enc s ++ u := by
  match t, hn with
  | a :: t', _ =>
    obtain ⟨ha, e⟩ := more_one hs
    refine ⟨t', ?_⟩
    rw [enc, if_neg (by omega), if_pos (by omega)]
    simp only [List.cons_append, List.nil_append]
    rw [show 192 + s / 64 = c by omega, show 128 + s % 64 = a by omega]
theorem enc_dec3 {c s : Int} {t : List Int} (_hc : 224 ≤ c ∧ c < 240) (hn : 3 ≤ t.length + 1) (hs : more (c - 224) (t.take 2) = some s) (hl : 2048 ≤ s ∧ s < 65536) : ∃ u, c :: t = enc s ++ u := by
  match t, hn with
  | a :: b :: t', _ =>
    obtain ⟨ha, hb, e⟩ := more_two hs
    refine ⟨t', ?_⟩
    rw [enc, if_neg (by omega), if_neg (by omega), if_pos (by omega)]
    simp only [List.cons_append, List.nil_append]
    rw [show 224 + s / 4096 = c by omega, show 128 + s / 64 % 64 = a by omega, show 128 + s % 64 = b by omega]
  | [a], hn => simp at hn
theorem enc_dec4 {c s : Int} {t : List Int} (_hc : 240 ≤ c ∧ c < 248) (hn : 4 ≤ t.length + 1) (hs : more (c - 240) (t.take 3) = some s) (hl : 65536 ≤ s) : ∃ u, c :: t = enc s ++ u := by
  match t, hn with
  | a :: b :: d :: t', _ =>
    obtain ⟨ha, hb, hd, e⟩ := more_three hs
    refine ⟨t', ?_⟩
    rw [enc, if_neg (by omega), if_neg (by omega), if_neg (by omega)]
    simp only [List.cons_append, List.nil_append]
    rw [show 240 + s / 262144 = c by omega, show 128 + s / 4096 % 64 = a by omega, show 128 + s / 64 % 64 = b by omega, show 128 + s % 64 = d by omega]
  | [a, b], hn => simp at hn
  | [a], hn => simp at hn
theorem dec_inv {c : Int} {t : List Int} {r : Int} {n : Nat} (h : dec (c :: t) = some (r, n)) : ann c ≠ 0 ∧ ann c ≤ t.length + 1 ∧ more (c - hd (ann c)) (t.take (ann c - 1)) = some r ∧ isRune r = true ∧ rlen r = ann c ∧ n = ann c := by
  rw [dec] at h
  by_cases h0 : ann c = 0 ∨ t.length + 1 < ann c
  · rw [if_pos h0] at h; cases h
  rw [if_neg h0] at h
  cases hm : more (c - hd (ann c)) (t.take (ann c - 1)) with
  | none => rw [hm] at h; cases h
  | some s =>
    rw [hm] at h
    by_cases h1 : isRune s = true ∧ rlen s = ann c
    · have h2 : some (s, ann c) = some (r, n) := by simpa only [if_pos h1] using h
      cases h2
      exact ⟨by omega, by omega, rfl, h1.1, h1.2, rfl⟩
    · simp only [if_neg h1] at h; cases h
/-- What is decoded is an encoding: its bytes stand at the head. -/
theorem enc_dec {d : List Int} {r : Int} {n : Nat} (h : dec d = some (r, n)) : isRune r = true ∧ n = rlen r ∧ ∃ t, d = enc r ++ t := by
  match d, h with
  | c :: t, h =>
    obtain ⟨h0, hl, hm, hr, hlen, rfl⟩ := dec_inv h
    refine ⟨hr, hlen.symm, ?_⟩
    have hri := rlen_inv r
    rcases ann_inv h0 with ⟨e, hc⟩ | ⟨e, hc⟩ | ⟨e, hc⟩ | ⟨e, hc⟩ <;> rw [e] at hm hlen hl
    · simp [more, hd] at hm
      subst hm
      exact ⟨t, by simp [enc, hc]⟩
    · exact enc_dec2 hc hl (by simpa [hd] using hm) (by omega)
    · exact enc_dec3 hc hl (by simpa [hd] using hm) (by omega)
    · exact enc_dec4 hc hl (by simpa [hd] using hm) (by omega)
theorem dec_none_iff {d : List Int} : dec d = none ↔ ¬ ∃ r t, isRune r = true ∧ d = enc r ++ t := by
  constructor
  · rintro h ⟨r, t, hr, rfl⟩
    rw [dec_enc hr] at h; cases h
  · intro h
    cases hd : dec d with
    | none => rfl
    | some p =>
      obtain ⟨hr, _, t, ht⟩ := enc_dec (r := p.1) (n := p.2) hd
      exact absurd ⟨p.1, t, hr, ht⟩ h
/-- Two encodings at the head of one list are of one rune. -/
theorem enc_prefix_unique {r s : Int} (hr : isRune r = true) (hs : isRune s = true) {t u : List Int} (h : enc r ++ t = enc s ++ u) : r = s := by
  have h1 := dec_enc hr t
  rw [h, dec_enc hs u] at h1
  simpa using (congrArg (fun o => o.map Prod.fst) h1).symm
end U
end Go.Proofs.YtmkpomnhmepmcaaDoor
