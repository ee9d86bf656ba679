/-
  The reference's own: packages whose lists are the call's own, their texts shared.
-/
import Derived.Test.YtnpmkapapacffaaDoorFlTurn
import Derived.RegionTactic
import Derived.Deep.RegionHeldLaw
namespace Go.Proofs.YtnpmkapapacffaaDoor
open Go.Shelf Go.RowKit Go.Lib Go.Sort Fm

theorem step_appV {α : Type} {f : α → List Value} {size : Nat} {T E : TypeId} (hT : SliceV f size T E) {ops : Array Oper} {o : Oper} {a : Act} {K : Act → World → Prop} {Q : Exit → Act → World → Prop} {E' : Prop} (w : World) (hgd : o.guard = none) (s x : Operand)
    (ho : o.op = .call { callee := .builtin .append, args := #[s, x], argTypes := #[T, T] })
    (base : Nat) (v : Value) (l : List α) (hs : a.eval s = v) (hown : OwnV f size E w base v l)
    (B : Nat) (A : Option Addr) (m c : Nat) (news : List α) (hx : a.eval x = .slice A m c) (hb : CellsV f w B A news) (hm : news.length = m) (hlen : l.length ≤ 500000) (hlen2 : news.length ≤ 500000) (hbase : base ≤ w.heap.size)
    (h : ∀ v' w', OwnV f size E w' base v' (l ++ news) → w.grownBy w' v.ownBlock → (v'.ownBlock = v.ownBlock ∨ v'.ownBlock = some w.heap.size) → K (a.put o.dst v') w') :
    if Region.wanted o (yielded ops a.tmps) = true then Oper.wp Tryd.prog o a w K Q else E' := by
  rw [if_pos (by simp [Region.wanted, hgd])]
  obtain ⟨v', w', hrun, h2, h3, h4⟩ := run_appV hT o.type hown B A m c news hb hm (by omega) hbase
  unfold Oper.wp execOp
  simp only [ho, resolve, invoke, builtin, Sem.run_bind, Sem.run_pure, Result.andThen_ok, List.map_toArray, List.map_cons, List.map_nil, hs, hx, hrun]
  exact h v' w' h2 h3 h4
theorem IsFl.old {w : World} {base : Nat} {x : Re} {f : Fl} (h : IsFl w base x f) (hB : base ≤ w.heap.size) : IsFlT w base x f := ⟨h.1, h.2.1, h.2.2.1, h.2.2.2.1, TxtAt.old h.2.2.2.2 hB⟩
/-- What a call hands back that makes packages of its own, nil where there is none. -/
def OwnOutV (ps : List Pk) (w : World) (v : Value) (w' : World) : Prop := ∃ xs, OwnX w' w.heap.size v xs ps ∧ Below w.heap.size w w'
/-- What stands when a package of one's own is to be laid behind the others. -/
structure Pack (wr w3 : World) (base g m c : Nat) (v : Value) (xs : List Re) (ps : List Pk) (p : Pk) : Prop where
  x : OwnX (w3.alloc (.cells #[.string p.path, .slice (some ⟨g, 0, none⟩) m c] 48)) base v xs ps
  n : CellsV reCells (w3.alloc (.cells #[.string p.path, .slice (some ⟨g, 0, none⟩) m c] 48)) (w3.heap.size + 1) (some ⟨w3.heap.size, 0, none⟩) [⟨p.path, some ⟨g, 0, none⟩, m, c⟩]
  r : IsPkT (w3.alloc (.cells #[.string p.path, .slice (some ⟨g, 0, none⟩) m c] 48)) base ⟨p.path, some ⟨g, 0, none⟩, m, c⟩ p
  far : ∀ y ∈ xs, y.A ≠ some ⟨g, 0, none⟩
  size : base ≤ (w3.alloc (.cells #[.string p.path, .slice (some ⟨g, 0, none⟩) m c] 48)).heap.size
  below : Below base wr (w3.alloc (.cells #[.string p.path, .slice (some ⟨g, 0, none⟩) m c] 48))
theorem own_pack {wr w3 : World} {base g m c : Nat} {v : Value} {xs ys : List Re} {ps : List Pk} {p : Pk} (hX : OwnX wr base v xs ps) (hw : Below wr.heap.size wr w3) (ho : OwnV reCells 2 39 w3 wr.heap.size (.slice (some ⟨g, 0, none⟩) m c) ys) (hyl : ys.length = m) (hz : Zip (IsFl wr base) ys p.files) (hb : base ≤ wr.heap.size) : Pack wr w3 base g m c v xs ps p := by
  have hs := hw.size
  refine ⟨(hX.below hw).below ((Below.refl _ _).alloc (Nat.le_refl _) _), one_re w3 _ _ _ _ _, ?_, hX.old (own_blk ho).1, by simp; omega, (hw.mono hb).alloc (by omega) _⟩
  refine ⟨rfl, hyl.symm.trans hz.len, g, rfl, ys, ownV_base (OwnV.alloc ho _) hb, hyl, hz.mono fun _ _ h => ?_⟩
  exact (((h.below hw hb).below ((Below.refl _ _).alloc (Nat.le_refl _) _) (by omega)).old (by simp; omega))
set_option maxHeartbeats 8000000 in
set_option maxRecDepth 100000 in
theorem own_run (A : Option Addr) (n cap : Nat) (ps : List Pk) (w : World) (hb : PksAt w w.heap.size A ps) (hl : Hid (ps.length = n)) (hs : Hid (Small ps)) :
    Calls Tryd.prog 40 #[.slice A n cap] w fun e w' => ∃ v, e = .returned v ∧ OwnOutV ps w v w' := by
  have HB := Lib.hid hb
  have hn8 : n ≤ 8 := by have := hs.out.1; have := hl.out; omega
  clear hb
  go_enter Tryd.func40, Tryd.ntmps40
  go_wp2_with fail
  go_loopg [3, 4] (n + 1) (fun h s3 s4 wr => ∃ (i : Nat) (xs : List Re), s4 = .int .i64 i ∧ Hid (i ≤ n ∧ i + h = n + 1) ∧ Hid (OwnX wr w.heap.size s3 xs (ps.take i)) ∧ Hid (Below w.heap.size w wr))
  case atStart => exact ⟨0, [], rfl, by show _ ∧ _; omega, OwnX.nil _ _, Below.refl _ _⟩
  case round =>
    obtain ⟨i, xs, rfl, HI, HX, BW⟩ := hrel
    by_cases hlt : i < n
    · have hltz : (i : Int) < (n : Int) := by omega
      have hsz := BW.out.size
      obtain ⟨p, hp⟩ : ∃ p, ps[i]? = some p := ⟨_, List.getElem?_eq_getElem (by have := hl.out; omega)⟩
      obtain ⟨b, o, F, m, c, rfl, hblt, c0, c1, hm, hmc, hcm, ys, hyc, hyz⟩ := (HB.out.below BW.out (Nat.le_refl _)).at hp
      have hsp := hs.out.2 p (List.mem_of_getElem? hp)
      have hm6 : m ≤ 6 := by omega
      have HYL : Hid (ys.length = m) := hyz.len.trans hm.symm
      have HM := Lib.hid hm
      have HP := Lib.hid hp
      have HYC := Lib.hid hyc
      have HYZ := Lib.hid hyz
      have HK : Hid (∀ W, Below w.heap.size wr W → W.cell? ⟨b, o + i * 2, none⟩ = some (.string p.path) ∧ W.cell? ⟨b, o + i * 2 + 1, none⟩ = some (.slice F m c)) := fun W h => ⟨(h.cell (p := ⟨b, o + i * 2, none⟩) hblt).trans c0, (h.cell (p := ⟨b, o + i * 2 + 1, none⟩) hblt).trans c1⟩
      have hxlen : xs.length = i := by have := HX.out.zip.len; rw [this, List.length_take]; have := hl.out; omega
      have HXL := Lib.hid hxlen
      have BE : Hid (Below wr.heap.size wr ((wr.alloc (.cells #[] 39)).drew)) := ((Below.refl _ _).alloc (Nat.le_refl _) _).drew
      have OE : Hid (OwnV reCells 2 39 ((wr.alloc (.cells #[] 39)).drew) wr.heap.size (.slice (some ⟨wr.heap.size, 0, none⟩) 0 0) ([] : List Re)) := OwnV.lit re_enc _ wr wr.heap.size [] (Nat.le_refl _) (by simp)
      have HE : Hid (wr.heap.size ≤ ((wr.alloc (.cells #[] 39)).drew).heap.size) := BE.out.size
      have YE : Hid (CellsV reCells ((wr.alloc (.cells #[] 39)).drew) w.heap.size F ys) := hyc.below (BE.out.mono hsz) (Nat.le_refl _)
      clear hp hm hyc hyz hsp hxlen
      go_wp2_with fail
      go_region_held_law (fun W => W.cell? ⟨b, o + i * 2, none⟩ = some (.string p.path) ∧ W.cell? ⟨b, o + i * 2 + 1, none⟩ = some (.slice F m c)) (first | exact HK.out _ BK2.out | exact HK.out _ PK.out.below | exact HK.out _ BK1.out | exact HK.out _ (((Below.refl _ _).alloc hsz _).drew) | go_keep)
        (first | (refine step_appV file_slice _ (by rfl) (.tmp 17) (.tmp 22) (by rfl) wr.heap.size _ [] (by rfl) OE.out w.heap.size F m c ys (by rfl) YE.out HYL.out (by simp) (by have := HYL.out; omega) HE.out ?_; intro v3 w3 o3 g3 t3; have BF1 : Hid (Below wr.heap.size wr w3) := BE.out.grown g3 HE.out (ownV_ge OE.out); have BK1 : Hid (Below w.heap.size wr w3) := BF1.out.mono hsz; have G3 := blk_or t3 ⟨_, rfl⟩; rw [List.nil_append] at o3; obtain ⟨g9, c9, rfl, hg9, hl9⟩ := own_form o3 G3; rw [HYL.out] at o3 ⊢; have PK := Lib.hid (own_pack (p := p) HX.out BF1.out o3 HYL.out HYZ.out hsz); clear o3 g3 t3 G3 hg9 hl9) | (refine step_appV pkg_slice _ (by rfl) (.tmp 11) (.tmp 25) (by rfl) w.heap.size u3 xs (by rfl) PK.out.x.row (w3.heap.size + 1) (some ⟨w3.heap.size, 0, none⟩) 1 1 _ (by rfl) PK.out.n rfl (by have := HXL.out; omega) (by simp) PK.out.size ?_; intro v4 w4 o4 g4 t4; have X4 : Hid (OwnX w4 w.heap.size v4 (xs ++ [⟨p.path, some ⟨g9, 0, none⟩, m, c9⟩]) (ps.take i ++ [p])) := PK.out.x.snoc g4 o4 PK.out.r PK.out.far; have BK2 : Hid (Below w.heap.size wr w4) := PK.out.below.grown g4 PK.out.size (ownV_ge PK.out.x.row); clear o4 g4 t4) | fail)
      go_wp2_with fail
      go_roundg (n - i)
      case measure => have := HI.out; omega
      case rel => exact ⟨i + 1, _, by go_num, by show _ ∧ _; have := HI.out; omega, by rw [take_at HP.out]; exact X4.out, BW.out.trans BK2.out⟩
    · have hltz : ¬ (i : Int) < (n : Int) := by omega
      have hfull : ps.take i = ps := List.take_of_length_le (by have := hl.out; omega)
      rw [hfull] at HX
      clear hfull
      go_wp2_with fail
      go_ret
      exact ⟨_, rfl, xs, HX.out, BW.out⟩
end Go.Proofs.YtnpmkapapacffaaDoor
