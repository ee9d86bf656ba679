/-
  The contracts of the laws' Few and far: at most forty nodes of twenty children each.
-/
import Derived.Test.YtpjgapnihmiceaaMx01
import Derived.Deep.RegionHeld3
import Derived.Test.YtpjgapnihmiceaaMx00
import Derived.LaidEql
import Derived.Stop.Asserts
import Derived.RowKitTokens
import Derived.Deep.Light
namespace Go.Proofs.Ytpjgapnihmiceaa
open Go.RowKit
set_option linter.unusedSimpArgs false
def cutN (n : Nd) : Nd := ⟨n.k, n.f, n.t, n.kids.take 20⟩
def fewT (T : List Nd) : List Nd := (T.take 40).map cutN
theorem few_smallT (T : List Nd) : SmallT (fewT T) := by
 refine ⟨by simp [fewT]; omega, fun n hn => ?_⟩
 obtain ⟨q, _, rfl⟩ := List.mem_map.1 hn
 simp [cutN]
 omega
theorem one_ne (w : World) (x : Ne) (T : TypeId) : CellsV neCells (w.alloc (.cells #[.int .i64 x.k, .int .i64 x.f, .int .i64 x.t, .slice x.A x.n x.c] T)) (w.heap.size + 1) (some ⟨w.heap.size, 0, none⟩) [x] := fun _ => by
 refine ⟨_, _, rfl, by omega, fun j u hu => ?_⟩
 match j, hu with
 | 0, hu => cases hu; rw [World.cell?_alloc_at _ _ _ _ rfl]; rfl
 | 1, hu => cases hu; rw [World.cell?_alloc_at _ _ _ _ rfl]; rfl
 | 2, hu => cases hu; rw [World.cell?_alloc_at _ _ _ _ rfl]; rfl
 | 3, hu => cases hu; rw [World.cell?_alloc_at _ _ _ _ rfl]; rfl
structure FewN (w : World) (S base : Nat) (v : Value) (T : List Nd) : Prop where
 row : ∃ xs, OwnV neCells 4 49 w base v xs ∧ xs.length = T.length ∧ ∀ (i : Nat) (x : Ne) (n : Nd), xs[i]? = some x → T[i]? = some n → IsNd w S x n
theorem FewN.nil (w : World) (S base : Nat) : FewN w S base (.slice none 0 0) [] := ⟨[], OwnV.nil _ _ _ _ _, rfl, fun i x n hx => by simp at hx⟩
theorem FewN.snoc {w w' : World} {S base : Nat} {v' : Value} {T : List Nd} {xs : List Ne} {x : Ne} {n : Nd} (ho : OwnV neCells 4 49 w' base v' (xs ++ [x])) (hl : xs.length = T.length) (hz : ∀ (i : Nat) (x : Ne) (n : Nd), xs[i]? = some x → T[i]? = some n → IsNd w S x n) (hb : Below S w w') (hx : IsNd w S x n) : FewN w' S base v' (T ++ [n]) := by
 refine ⟨xs ++ [x], ho, by simp [hl], fun i y m hy hm => ?_⟩
 rcases Nat.lt_trichotomy i xs.length with h | h | h
 ·rw [List.getElem?_append_left h] at hy
  rw [List.getElem?_append_left (by omega)] at hm
  exact (hz i y m hy hm).below hb (Nat.le_refl _)
 ·subst h
  rw [List.getElem?_append_right (Nat.le_refl _), Nat.sub_self] at hy
  rw [List.getElem?_append_right (by omega), hl, Nat.sub_self] at hm
  cases hy; cases hm
  exact hx.below hb (Nat.le_refl _)
 ·rw [List.getElem?_eq_none (by simp; omega)] at hy
  cases hy
theorem FewN.setCell {w : World} {S base : Nat} {v : Value} {T : List Nd} (h : FewN w S base v T) {p : Addr} (hp : p.block < base) (hS : S ≤ p.block) (u : Value) : FewN (w.setCell p u) S base v T := by
 obtain ⟨xs, h1, h2, h3⟩ := h
 exact ⟨xs, h1.setCell hp u, h2, fun i x n hx hn => (h3 i x n hx hn).below ((Below.refl S w).setCell hS u) (Nat.le_refl _)⟩
theorem FewN.read {w : World} {S base : Nat} {v : Value} {T : List Nd} (h : FewN w S base v T) (hS : S ≤ w.heap.size) : ∃ A cap, v = .slice A T.length cap ∧ T.length ≤ cap ∧ cap ≤ 9223372036854775807 ∧ NdsAt w w.heap.size A T := by
 obtain ⟨xs, h1, h2, h3⟩ := h
 obtain ⟨A, cap, hv, k1, k2, k3⟩ := h1.cells
 rw [h2] at hv k1
 exact ⟨A, cap, hv, k1, k2, xs, k3, h2, fun i x n hx hn => (h3 i x n hx hn).more hS⟩
def setAll (w : World) (l : List (Addr × Value)) : World := l.foldl (fun W x => W.setCell x.1 x.2) w
def CellsIn (l : List (Addr × Value)) (B S : Nat) : Prop := ∀ x ∈ l, B ≤ x.1.block ∧ x.1.block < S
theorem setAll_size (l : List (Addr × Value)) : ∀ w : World, (setAll w l).heap.size = w.heap.size := by
 induction l with
 | nil => exact fun w => rfl
 | cons x l ih => exact fun w => (ih (w.setCell x.1 x.2)).trans (by simp)
theorem FewN.setAll {S base : Nat} {v : Value} {T : List Nd} (l : List (Addr × Value)) : ∀ {w : World}, FewN w S base v T → (∀ x ∈ l, S ≤ x.1.block ∧ x.1.block < base) → FewN (setAll w l) S base v T := by
 induction l with
 | nil => exact fun h _ => h
 | cons x l ih => exact fun h hl => ih (h.setCell (hl x (by simp)).2 (hl x (by simp)).1 x.2) (fun y hy => hl y (by simp [hy]))
def FewOutT (B : Nat) (L : List Nd) (w : World) (v : Value) (w' : World) : Prop := ∃ A cap, v = trV A L.length cap ∧ L.length ≤ cap ∧ cap ≤ 9223372036854775807 ∧ (NdsAt w' w'.heap.size A L ∧ ∀ l : List (Addr × Value), CellsIn l B w.heap.size → NdsAt (setAll w' l) w'.heap.size A L) ∧ Below w.heap.size w w'
theorem three_box (w : World) (x y z : Value) (T : TypeId) : ∃ W, ((w.alloc (.cells #[x] T)).alloc (.cells #[y] T)).alloc (.cells #[z] T) = W ∧ Below w.heap.size w W ∧ W.heap.size = w.heap.size + 3 ∧ W.cell? ⟨w.heap.size, 0, none⟩ = some x ∧ W.cell? ⟨w.heap.size + 1, 0, none⟩ = some y ∧ W.frozen? ⟨w.heap.size + 1, 0, none⟩ = false ∧ W.cell? ⟨w.heap.size + 1 + 1, 0, none⟩ = some z ∧ W.frozen? ⟨w.heap.size + 1 + 1, 0, none⟩ = false := by
 refine ⟨_, rfl, (((Below.refl _ _).alloc (Nat.le_refl _) _).alloc (by simp) _).alloc (by simp; omega) _, by simp, ?_, ?_, ?_, ?_, ?_⟩
 ·rw [World.cell?_alloc_lt _ _ _ (by simp; omega), World.cell?_alloc_lt _ _ _ (by simp), World.cell?_alloc_at _ _ _ _ rfl]; rfl
 ·rw [World.cell?_alloc_lt _ _ _ (by simp), World.cell?_alloc_at _ _ _ _ (by simp)]; rfl
 ·rw [World.frozen?_alloc_old _ _ _ (by simp), World.frozen?_alloc_at _ _ _ _ (by simp)]
 ·rw [World.cell?_alloc_at _ _ _ _ (by simp)]; rfl
 ·rw [World.frozen?_alloc_at _ _ _ _ (by simp)]
set_option maxHeartbeats 8000000 in
set_option maxRecDepth 100000 in
theorem FewT_run (A : Option Addr) (n cap B : Nat) (T : List Nd) (w : World) (hb : NdsAt w B A T) (hBw : B ≤ w.heap.size) (hl : Hid (T.length = n)) (hcap : n ≤ 9223372036854775807) :
    Calls Try.prog 19 #[trV A n cap] w fun e w' => ∃ v, e = .returned v ∧ FewOutT B (fewT T) w v w' := by
  obtain ⟨S, hS⟩ : ∃ S, w.heap.size = S := ⟨_, rfl⟩
  obtain ⟨W, hW, hB, hWS, d0, d1, q1, d2, q2⟩ := three_box w (.slice A n cap) (.slice none 0 0) (.slice none 0 0) 26
  rw [hS] at hB hWS d0 d1 q1 d2 q2
  unfold FewOutT
  unfold trV
  rw [hS] at hBw ⊢
  have HG : Hid (NdsAt W B A T) := hb.below hB hBw
  have BX := Lib.hid hB
  have HW := Lib.hid hWS
  have D2 := Lib.hid (And.intro d2 q2)
  clear hb hB hWS d2 q2
  go_enter Try.func19, Try.ntmps19
  go_wp2_with fail
  go_loopg [4] 41 (fun h s4 wr => ∃ (i : Nat) (v : Value), s4 = .int .i64 i ∧ Hid (i ≤ n ∧ i ≤ 40 ∧ i + h = 41) ∧ Hid (FewN wr B (S + 3) v ((T.take i).map cutN)) ∧ Hid (Below (S + 2) W wr) ∧ Hid (wr.cell? ⟨S + 1 + 1, 0, none⟩ = some v ∧ wr.frozen? ⟨S + 1 + 1, 0, none⟩ = false))
  case atStart => exact ⟨0, _, rfl, by show _ ∧ _; omega, FewN.nil _ _ _, Below.refl _ _, D2.out⟩
  case round =>
    obtain ⟨i, v, rfl, HI, HF, BW, HD⟩ := hrel
    generalize wr = wq at *
    have d0' := (BW.out.cell (p := ⟨S, 0, none⟩) (by show S < _; omega)).trans d0
    have d1' := (BW.out.cell (p := ⟨S + 1, 0, none⟩) (by show S + 1 < _; omega)).trans d1
    have q1' := (BW.out.frozen (p := ⟨S + 1, 0, none⟩) (by show S + 1 < _; omega)).trans q1
    obtain ⟨d2', q2'⟩ := HD.out
    have hsz : S + 3 ≤ wq.heap.size := by rw [← HW.out]; exact BW.out.size
    by_cases hi : i < n ∧ i < 40
    · obtain ⟨hin, hi40⟩ := hi
      have hiz : (i : Int) < (n : Int) := by omega
      have hi4z : (i : Int) < 40 := by omega
      obtain ⟨b, o, rfl, hbB, hget⟩ := HG.out.get (by have := hl.out; omega)
      obtain ⟨x, hx⟩ : ∃ x, T[i]? = some x := ⟨_, List.getElem?_eq_getElem (by have := hl.out; omega)⟩
      obtain ⟨K, q, c, c0, c1, c2, c3, hm, hmc, hcc, hK⟩ := hget i x hx
      have g0 := (BW.out.cell (p := ⟨b, o + i * 4, none⟩) (by show b < _; omega)).trans c0
      have g1 := (BW.out.cell (p := ⟨b, o + i * 4 + 1, none⟩) (by show b < _; omega)).trans c1
      have g2 := (BW.out.cell (p := ⟨b, o + i * 4 + 2, none⟩) (by show b < _; omega)).trans c2
      have g3 := (BW.out.cell (p := ⟨b, o + i * 4 + 3, none⟩) (by show b < _; omega)).trans c3
      obtain ⟨m, hmm⟩ : ∃ m, min q 20 = m := ⟨_, rfl⟩
      have hmz : min (q : Int) 20 = (m : Int) := by omega
      have hmc2 : m ≤ c := by omega
      have hmcz : (m : Int) ≤ (c : Int) := by omega
      have HX := Lib.hid hx
      have HM := Lib.hid hm
      have HK := Lib.hid (NumsK.below hK BW.out (by omega))
      clear hget c0 c1 c2 c3 hm hK hx
      obtain ⟨P, hP⟩ : ∃ P, wq.heap.size = P := ⟨_, rfl⟩
      obtain ⟨xs, ox, lx, zx⟩ := HF.out.row
      have hxl : xs.length ≤ 40 := by rw [lx]; simp; omega
      have OX : Hid (OwnV neCells 4 49 ((wq.alloc (.cells #[.int .i64 x.k, .int .i64 x.f, .int .i64 x.t, .slice K m c] 49)).alloc (.cells #[.int .i64 x.k, .int .i64 x.f, .int .i64 x.t, .slice K m c] 49)) (S + 3) v xs) := (ox.alloc _).alloc _
      have NX : Hid (CellsV neCells ((wq.alloc (.cells #[.int .i64 x.k, .int .i64 x.f, .int .i64 x.t, .slice K m c] 49)).alloc (.cells #[.int .i64 x.k, .int .i64 x.f, .int .i64 x.t, .slice K m c] 49)) (P + 2) (some ⟨P + 1, 0, none⟩) [⟨x.k, x.f, x.t, K, m, c⟩]) := by
        have := one_ne (wq.alloc (.cells #[.int .i64 x.k, .int .i64 x.f, .int .i64 x.t, .slice K m c] 49)) ⟨x.k, x.f, x.t, K, m, c⟩ 49
        simp only [World.size_alloc, hP] at this
        exact this
      have hsq : S + 3 ≤ wq.heap.size := by omega
      have BB : Hid (Below (S + 3) wq ((wq.alloc (.cells #[.int .i64 x.k, .int .i64 x.f, .int .i64 x.t, .slice K m c] 49)).alloc (.cells #[.int .i64 x.k, .int .i64 x.f, .int .i64 x.t, .slice K m c] 49))) := ((Below.refl _ _).alloc hsq _).alloc (by simp; omega) _
      have hm500 : m ≤ 20 := by omega
      have HNS : Hid (IsNd wq B ⟨x.k, x.f, x.t, K, m, c⟩ (cutN x)) := ⟨rfl, rfl, rfl, by simp only [cutN, List.length_take, ← HM.out]; rw [Nat.min_comm]; exact hmm.symm, hmc2, hcc, HK.out.take 20⟩
      have HZ := Lib.hid (fun (v7 : Value) (w7 : World) (o7 : OwnV neCells 4 49 w7 (S + 3) v7 (xs ++ [⟨x.k, x.f, x.t, K, m, c⟩])) (b7 : Below B wq w7) => FewN.snoc o7 lx zx b7 HNS.out)
      have HTK : Hid ((T.take i).map cutN ++ [cutN x] = (T.take (i + 1)).map cutN) := by
        show _ = _
        rw [List.take_add_one, HX.out, List.map_append]
        rfl
      have hmc3 : (m = 20 ∧ 20 < q) ∨ (m = q ∧ ¬ 20 < q) := by omega
      rw [hP] at hsz
      have hs0 : S < P := by omega
      have hs1 : S + 1 < P := by omega
      have hs2 : S + 1 + 1 < P := by omega
      clear hmz HNS HK ox lx zx HF hmm hmc
      rcases hmc3 with ⟨rfl, hq⟩ | ⟨rfl, hq⟩
      · go_wp2_with (first
          | (at_builtin
             refine wpList_appV node_slice _ rfl (.tmp 31) (.tmp 33) rfl (S + 3) v xs rfl OX.out (P + 2) (some ⟨P + 1, 0, none⟩) 1 1 _ rfl NX.out rfl (by omega) (by simp) (by simp; omega) ?_
             intro v7 w7 o7 g7 t7
             have B7 : Hid (Below (S + 3) wq w7) := BB.out.grown g7 (by simp; omega) (ownV_ge OX.out)
             have Z7 := Lib.hid (HZ.out v7 w7 o7 (B7.out.mono (by omega)))
             have d27 : w7.cell? ⟨S + 1 + 1, 0, none⟩ = some v := (B7.out.cell (p := ⟨S + 1 + 1, 0, none⟩) (by show S + 1 + 1 < _; omega)).trans d2'
             have q27 : w7.frozen? ⟨S + 1 + 1, 0, none⟩ = false := (B7.out.frozen (p := ⟨S + 1 + 1, 0, none⟩) (by show S + 1 + 1 < _; omega)).trans q2'
             obtain ⟨A7, l7, c7, hv7⟩ : ∃ A l c, v7 = .slice A l c := by obtain ⟨A, c, h, _⟩ := Z7.out.read (Nat.le_trans (by omega) B7.out.size); exact ⟨A, _, c, h⟩
             subst hv7
             clear o7 g7 t7)
          | fail)
        go_roundg (40 - i)
        case measure => have := HI.out; omega
        case rel =>
          refine ⟨i + 1, .slice A7 l7 c7, by go_num, by show _ ∧ _; have := HI.out; omega, ?_, ?_, ?_, ?_⟩
          · rw [← HTK.out]; exact Z7.out.setCell (by show S + 1 + 1 < _; omega) (by show B ≤ S + 1 + 1; omega) _
          · exact (BW.out.trans (B7.out.mono (by omega))).setCell (Nat.le_refl _) _
          · exact World.cell?_setCell_same' _ _ _ (by rw [d27]; rfl)
          · simpa using q27
      · go_wp2_with (first
          | (at_builtin
             refine wpList_appV node_slice _ rfl (.tmp 31) (.tmp 33) rfl (S + 3) v xs rfl OX.out (P + 2) (some ⟨P + 1, 0, none⟩) 1 1 _ rfl NX.out rfl (by omega) (by simp) (by simp; omega) ?_
             intro v7 w7 o7 g7 t7
             have B7 : Hid (Below (S + 3) wq w7) := BB.out.grown g7 (by simp; omega) (ownV_ge OX.out)
             have Z7 := Lib.hid (HZ.out v7 w7 o7 (B7.out.mono (by omega)))
             have d27 : w7.cell? ⟨S + 1 + 1, 0, none⟩ = some v := (B7.out.cell (p := ⟨S + 1 + 1, 0, none⟩) (by show S + 1 + 1 < _; omega)).trans d2'
             have q27 : w7.frozen? ⟨S + 1 + 1, 0, none⟩ = false := (B7.out.frozen (p := ⟨S + 1 + 1, 0, none⟩) (by show S + 1 + 1 < _; omega)).trans q2'
             obtain ⟨A7, l7, c7, hv7⟩ : ∃ A l c, v7 = .slice A l c := by obtain ⟨A, c, h, _⟩ := Z7.out.read (Nat.le_trans (by omega) B7.out.size); exact ⟨A, _, c, h⟩
             subst hv7
             clear o7 g7 t7)
          | fail)
        go_roundg (40 - i)
        case measure => have := HI.out; omega
        case rel =>
          refine ⟨i + 1, .slice A7 l7 c7, by go_num, by show _ ∧ _; have := HI.out; omega, ?_, ?_, ?_, ?_⟩
          · rw [← HTK.out]; exact Z7.out.setCell (by show S + 1 + 1 < _; omega) (by show B ≤ S + 1 + 1; omega) _
          · exact (BW.out.trans (B7.out.mono (by omega))).setCell (Nat.le_refl _) _
          · exact World.cell?_setCell_same' _ _ _ (by rw [d27]; rfl)
          · simpa using q27
    · have hcut : (T.take i).map cutN = fewT T := by
        unfold fewT
        rcases Nat.lt_or_ge i 40 with h | h
        · rw [List.take_of_length_le (by have := hl.out; have := HI.out; omega), List.take_of_length_le (by have := hl.out; have := HI.out; omega)]
        · obtain rfl : i = 40 := by have := HI.out; omega
          rfl
      have hd : ¬ (i : Int) < (n : Int) ∨ ((i : Int) < (n : Int) ∧ ¬ (i : Int) < 40) := by have := HI.out; omega
      rw [hcut] at HF
      have hZ := fun u => HF.out.setCell (p := ⟨S + 1, 0, none⟩) (by show S + 1 < _; omega) (by show B ≤ S + 1; omega) u
      obtain ⟨A9, c9, hv9, k1, k2, _⟩ := HF.out.read (by omega)
      obtain ⟨l9, hl9⟩ : ∃ l, (fewT T).length = l := ⟨_, rfl⟩
      subst hv9
      have HS2 : B ≤ wq.heap.size := by omega
      have BR : Hid (Below S w wq) := BX.out.trans (BW.out.mono (by omega))
      have HR : Hid (∃ A cap, trV A9 l9 c9 = trV A (fewT T).length cap ∧ (fewT T).length ≤ cap ∧ cap ≤ 9223372036854775807 ∧ (NdsAt (wq.setCell ⟨S + 1, 0, none⟩ (.slice A9 l9 c9)) (wq.setCell ⟨S + 1, 0, none⟩ (.slice A9 l9 c9)).heap.size A (fewT T) ∧ ∀ l : List (Addr × Value), CellsIn l B S → NdsAt (setAll (wq.setCell ⟨S + 1, 0, none⟩ (.slice A9 l9 c9)) l) (wq.setCell ⟨S + 1, 0, none⟩ (.slice A9 l9 c9)).heap.size A (fewT T)) ∧ Below S w (wq.setCell ⟨S + 1, 0, none⟩ (.slice A9 l9 c9))) := by
        obtain ⟨A8, c8, hv8, _, _, k3⟩ := (hZ (.slice A9 l9 c9)).read (by simpa using HS2)
        injection hv8 with e1 e2 e3
        subst e1 e3
        refine ⟨A9, c9, by rw [hl9], k1, k2, ⟨k3, fun lq h1 => ?_⟩, BR.out.setCell (by show S ≤ S + 1; omega) _⟩
        obtain ⟨A8, c8, hv8, _, _, k4⟩ := ((hZ (.slice A9 l9 c9)).setAll lq (fun x hx => ⟨(h1 x hx).1, by have := (h1 x hx).2; omega⟩)).read (by rw [setAll_size]; simpa using HS2)
        injection hv8 with e1 e2 e3
        subst e1 e3
        rw [setAll_size] at k4
        exact k4
      rw [hl9] at HD d2'
      clear hZ k1 k2 HF hcut hl9 HD hi D2 q2'
      rcases hd with h | ⟨h, h40⟩
      all_goals
        go_wp2_with fail
        (try simp only [Exit.inBlock, Exit.then])
        refine bodyPost_ret (v := trV A9 l9 c9) (by rw [results_cell1 rfl]; unfold trV; go_simp; try rfl) rfl ⟨_, rfl, ?_⟩
        exact HR.out
end Go.Proofs.Ytpjgapnihmiceaa
namespace Go.Proofs.Ytpjgapnihmiceaa
open Go.RowKit
def errAt (o k : Int) : Value := .iface 76 (.agg #[.int .i64 o, errno k])
end Go.Proofs.Ytpjgapnihmiceaa
namespace Go.Proofs.Ytpjgapnihmiceaa
open Go.RowKit
set_option linter.unusedSimpArgs false
def trErr (p : Nat × Int) : Value := if p.1 = 0 then .nilIface else if p.2 = -1 then errno p.1 else errAt p.2 p.1
def resOf {α : Type} (p : Nat × Int) (x z : α) : α := if p.1 = 0 then x else z
theorem resOf_ok {α : Type} {p : Nat × Int} (h : p.1 = 0) (x z : α) : resOf p x z = x := if_pos h
theorem resOf_bad {α : Type} {p : Nat × Int} (h : ¬ p.1 = 0) (x z : α) : resOf p x z = z := if_neg h
structure TreeAt (w : World) (A : Option Addr) (n : Nat) (T : List Nd) : Prop where
 at_ : NdsAt w w.heap.size A T
 len : T.length = n
 small : SmallT T
theorem TreeAt.below {w w' : World} {A : Option Addr} {n : Nat} {T : List Nd} (h : TreeAt w A n T) (hb : Below w.heap.size w w') : TreeAt w' A n T := ⟨h.at_.on (Nat.le_refl _) hb, h.len, h.small⟩
theorem OutK.read {L : List Int} {w w' : World} {v : Value} (h : OutK L w v w') : ∃ A c, v = .slice A L.length c ∧ L.length ≤ c ∧ c ≤ 9223372036854775807 ∧ Nums w' w'.heap.size A L ∧ Below w.heap.size w w' := by
 obtain ⟨h1, h2⟩ := h
 obtain ⟨A, c, hv, k1, k2, k3⟩ := h1.nums
 unfold maxLen at k2
 exact ⟨A, c, hv, k1, k2, k3, h2⟩
theorem trErr_zero {p : Nat × Int} (h : p.1 = 0) : trErr p = .nilIface := if_pos h
theorem trErr_some {p : Nat × Int} (h : ¬ p.1 = 0) : ∃ t v, trErr p = .iface t v := by
 unfold trErr
 rw [if_neg h]
 split
 ·exact ⟨_, _, rfl⟩
 ·exact ⟨_, _, rfl⟩
def SaysCheck : Prop := ∀ (A : Option Addr) (n cap : Nat) (m : Int) (T : List Nd) (w : World), TreeAt w A n T →
 Calls Try.prog 20 #[trV A n cap, .int .i64 m] w fun e w' => e = .returned (trErr (chkT T m)) ∧ Below w.heap.size w w'
end Go.Proofs.Ytpjgapnihmiceaa
namespace Go.Proofs.Ytpjgapnihmiceaa
open Go.RowKit
set_option linter.unusedSimpArgs false
set_option linter.unusedVariables false
structure SrcAt (w : World) (A1 : Option Addr) (n1 c1 : Nat) (A2 : Option Addr) (n2 c2 : Nat) (A : Option Addr) (n : Nat) (d : List Int) (L : List Tv) (T : List Nd) : Prop where
 byt : Byts w w.heap.size A1 d
 lb : d.length = n1
 cb : n1 ≤ c1
 sb : n1 ≤ 300
 tok : CellsV tvCells w w.heap.size A2 L
 lt : L.length = n2
 ct : n2 ≤ c2
 st : n2 ≤ 60
 tree : TreeAt w A n T
theorem SrcAt.below {w w' : World} {A1 A2 A : Option Addr} {n1 c1 n2 c2 n : Nat} {d : List Int} {L : List Tv} {T : List Nd} (h : SrcAt w A1 n1 c1 A2 n2 c2 A n d L T) (hb : Below w.heap.size w w') : SrcAt w' A1 n1 c1 A2 n2 c2 A n d L T :=
 ⟨h.byt.on (Nat.le_refl _) hb, h.lb, h.cb, h.sb, (h.tok.below hb (Nat.le_refl _)).more hb.size, h.lt, h.ct, h.st, h.tree.below hb⟩
theorem byts_int {w : World} {B : Nat} {A : Option Addr} {l : List Int} (h : Byts w B A l) (e k : Nat) : Byts w B (A.map fun x => x.add e) ((l.drop e).take k) := by
 by_cases hp : 0 < l.length
 ·obtain ⟨b, o, rfl, hb, hc⟩ := h.2 hp
  have hadd : (⟨b, o, none⟩ : Addr).add e = ⟨b, o + e, none⟩ := Go.WideShapes.add_plain _ _ _
  rw [Option.map_some, hadd]
  refine ⟨fun x hx => h.1 x (List.mem_of_mem_drop (List.mem_of_mem_take hx)), fun _ => ⟨b, o + e, rfl, hb, fun i x hx => ?_⟩⟩
  rw [List.getElem?_take] at hx
  split at hx
  ·rw [List.getElem?_drop] at hx
   rw [show o + e + i = o + (e + i) by omega]
   exact hc _ x hx
  ·cases hx
 ·have hl : l = [] := List.eq_nil_of_length_eq_zero (by omega)
  subst hl
  rw [List.drop_nil, List.take_nil]
  exact Byts.nil
theorem conv_int {V : World} {B : Nat} {A : Option Addr} {l : List Int} {n cap e k : Nat} (hb : Byts V B A l) (hn : l.length = n) (he : e ≤ n) (hk : k ≤ n - e) :
  (convert 22 9 (.slice (A.map fun x => x.add e) k (cap - e))).run Try.prog V = .ok (.string (strOf ((l.drop e).take k))) V :=
 conv_bytes (byts_int hb e k) k (cap - e) (by rw [List.length_take, List.length_drop]; omega)
theorem str_nil : strOf [] = ⟨#[]⟩ := rfl
theorem conv_nil {V : World} {A : Option Addr} : (convert 22 9 (.slice A 0 0)).run Try.prog V = .ok (.string ⟨#[]⟩) V := by
 rw [← str_nil]
 exact conv_bytes (B := 0) Byts.nil 0 0 rfl
theorem nd_box (w : World) (xk xf xt : Int) (K : Option Addr) (q c : Nat) (E : TypeId) : ∃ W, w.alloc (.cells #[.int .i64 xk, .int .i64 xf, .int .i64 xt, .slice K q c] E) = W ∧ Below w.heap.size w W ∧ W.heap.size = w.heap.size + 1 ∧
  W.cell? ⟨w.heap.size, 0, none⟩ = some (.int .i64 xk) ∧ W.cell? ⟨w.heap.size, 1, none⟩ = some (.int .i64 xf) ∧ W.cell? ⟨w.heap.size, 2, none⟩ = some (.int .i64 xt) ∧ W.cell? ⟨w.heap.size, 3, none⟩ = some (.slice K q c) :=
 ⟨_, rfl, (Below.refl _ _).alloc (Nat.le_refl _) _, by simp, World.cell?_alloc_at _ _ _ _ rfl, World.cell?_alloc_at _ _ _ _ rfl, World.cell?_alloc_at _ _ _ _ rfl, World.cell?_alloc_at _ _ _ _ rfl⟩
theorem tv_box (w : World) (x : Tv) (E : TypeId) : ∃ W, w.alloc (.cells #[.int .i64 x.k, .int .i64 x.f, .int .i64 x.t, .bool x.a, .int .i64 x.e] E) = W ∧ Below w.heap.size w W ∧ W.heap.size = w.heap.size + 1 ∧
  W.cell? ⟨w.heap.size, 0, none⟩ = some (.int .i64 x.k) ∧ W.cell? ⟨w.heap.size, 1, none⟩ = some (.int .i64 x.f) ∧ W.cell? ⟨w.heap.size, 2, none⟩ = some (.int .i64 x.t) ∧ W.cell? ⟨w.heap.size, 3, none⟩ = some (.bool x.a) ∧ W.cell? ⟨w.heap.size, 4, none⟩ = some (.int .i64 x.e) :=
 ⟨_, rfl, (Below.refl _ _).alloc (Nat.le_refl _) _, by simp, World.cell?_alloc_at _ _ _ _ rfl, World.cell?_alloc_at _ _ _ _ rfl, World.cell?_alloc_at _ _ _ _ rfl, World.cell?_alloc_at _ _ _ _ rfl, World.cell?_alloc_at _ _ _ _ rfl⟩
end Go.Proofs.Ytpjgapnihmiceaa
namespace Go.Proofs.Ytpjgapnihmiceaa
open Go.RowKit
set_option linter.unusedSimpArgs false
set_option linter.unusedVariables false
def srcV (A1 : Option Addr) (n1 c1 : Nat) (A2 : Option Addr) (n2 c2 : Nat) (A : Option Addr) (n c : Nat) : Value := .agg #[.slice A1 n1 c1, .slice A2 n2 c2, .slice A n c]
theorem two_box3 (w : World) (x y z x2 y2 z2 : Value) (T : TypeId) : ∃ W, (w.alloc (.cells #[x, y, z] T)).alloc (.cells #[x2, y2, z2] T) = W ∧ Below w.heap.size w W ∧ W.heap.size = w.heap.size + 2 ∧
  (W.cell? ⟨w.heap.size, 0, none⟩ = some x ∧ W.cell? ⟨w.heap.size, 1, none⟩ = some y ∧ W.cell? ⟨w.heap.size, 2, none⟩ = some z) ∧
  (W.cell? ⟨w.heap.size + 1, 0, none⟩ = some x2 ∧ W.cell? ⟨w.heap.size + 1, 1, none⟩ = some y2 ∧ W.cell? ⟨w.heap.size + 1, 2, none⟩ = some z2) ∧
  (W.frozen? ⟨w.heap.size + 1, 0, none⟩ = false ∧ W.frozen? ⟨w.heap.size + 1, 1, none⟩ = false ∧ W.frozen? ⟨w.heap.size + 1, 2, none⟩ = false) := by
 refine ⟨_, rfl, ((Below.refl _ _).alloc (Nat.le_refl _) _).alloc (by simp) _, by simp, ⟨?_, ?_, ?_⟩, ⟨?_, ?_, ?_⟩, ⟨?_, ?_, ?_⟩⟩
 ·rw [World.cell?_alloc_lt _ _ _ (by simp), World.cell?_alloc_at _ _ _ _ rfl]; rfl
 ·rw [World.cell?_alloc_lt _ _ _ (by simp), World.cell?_alloc_at _ _ _ _ rfl]; rfl
 ·rw [World.cell?_alloc_lt _ _ _ (by simp), World.cell?_alloc_at _ _ _ _ rfl]; rfl
 ·rw [World.cell?_alloc_at _ _ _ _ (by simp)]; rfl
 ·rw [World.cell?_alloc_at _ _ _ _ (by simp)]; rfl
 ·rw [World.cell?_alloc_at _ _ _ _ (by simp)]; rfl
 ·rw [World.frozen?_alloc_at _ _ _ _ (by simp)]
 ·rw [World.frozen?_alloc_at _ _ _ _ (by simp)]
 ·rw [World.frozen?_alloc_at _ _ _ _ (by simp)]
theorem setAll_app (w : World) (a b : List (Addr × Value)) : setAll w (a ++ b) = setAll (setAll w a) b := by unfold setAll; rw [List.foldl_append]
theorem in_app {a b : List (Addr × Value)} {B S : Nat} (ha : CellsIn a B S) (hb : CellsIn b B S) : CellsIn (a ++ b) B S := fun x hx => by
 rcases List.mem_append.1 hx with h | h
 ·exact ha x h
 ·exact hb x h
theorem in_res {S B : Nat} {W : World} {x y z : Value} (hB : B ≤ S) (hW : W.heap.size = S + 2) : CellsIn [(⟨S + 1, 0, none⟩, x), (⟨S + 1, 1, none⟩, y), (⟨S + 1, 2, none⟩, z)] B W.drew.heap.size := fun u hu => by
 have h : u.1.block = S + 1 := by
  simp only [List.mem_cons, List.not_mem_nil, or_false] at hu
  rcases hu with rfl | rfl | rfl <;> rfl
 rw [h]
 show B ≤ S + 1 ∧ S + 1 < W.heap.size
 omega
def FewSrc (B : Nat) (A1 : Option Addr) (m1 c1 : Nat) (A2 : Option Addr) (m2 c2 l : Nat) (T : List Nd) (w : World) (v : Value) (w' : World) : Prop :=
 ∃ A c, v = srcV A1 m1 c1 A2 m2 c2 A l c ∧ l ≤ c ∧ c ≤ 9223372036854775807 ∧ (NdsAt w' w'.heap.size A T ∧ ∀ lq : List (Addr × Value), CellsIn lq B w.heap.size → NdsAt (setAll w' lq) w'.heap.size A T) ∧ Below w.heap.size w w'
set_option maxHeartbeats 8000000 in
set_option maxRecDepth 100000 in
theorem vFew_run (A1 : Option Addr) (n1 c1 : Nat) (A2 : Option Addr) (n2 c2 : Nat) (A : Option Addr) (n c B : Nat) (T : List Nd) (m1 m2 l : Nat) (w : World) (hb : NdsAt w B A T) (hBw : B ≤ w.heap.size) (hl : Hid (T.length = n)) (hcap : n ≤ 9223372036854775807)
  (hm1 : min n1 300 = m1) (hm2 : min n2 60 = m2) (hc1 : n1 ≤ c1) (hc2 : n2 ≤ c2) (hll : Hid ((fewT T).length = l)) :
  Calls Try.prog 5 #[srcV A1 n1 c1 A2 n2 c2 A n c] w fun e w' => ∃ v, e = .returned v ∧ FewSrc B A1 m1 c1 A2 m2 c2 l (fewT T) w v w' := by
 have HF := Lib.hid (fun w h1 h2 => FewT_run A n c B T w h1 h2 hl hcap)
 obtain ⟨S, hS⟩ : ∃ S, w.heap.size = S := ⟨_, rfl⟩
 obtain ⟨W, hW, hB, hWS, ⟨d0, d1, d2⟩, ⟨r0, r1, r2⟩, ⟨q0, q1, q2⟩⟩ := two_box3 w (.slice A1 n1 c1) (.slice A2 n2 c2) (.slice A n c) (.slice none 0 0) (.slice none 0 0) (.slice none 0 0) 28
 rw [hS] at hB hWS d0 d1 d2 r0 r1 r2 q0 q1 q2
 unfold FewOutT at HF
 unfold FewSrc
 unfold srcV
 unfold trV at HF
 rw [hS] at hBw ⊢
 have HWS := Lib.hid hWS
 have HN : Hid (NdsAt W.drew B A T ∧ B ≤ W.drew.heap.size) := ⟨(hb.below hB hBw).below ((Below.refl _ W).drew) (by show B ≤ W.heap.size; omega), by show B ≤ W.heap.size; omega⟩
 have BX := Lib.hid hB
 have HB := Lib.hid hBw
 have k1 : m1 ≤ c1 := by omega
 have k2 : m2 ≤ c2 := by omega
 have kz1 : (m1 : Int) ≤ (c1 : Int) := by omega
 have kz2 : (m2 : Int) ≤ (c2 : Int) := by omega
 have k3 : m1 ≤ 300 := by omega
 have k4 : m2 ≤ 60 := by omega
 have hz1 : (if (300 : Int) < (n1 : Int) then (300 : Int) else (n1 : Int)) = (m1 : Int) := by split <;> omega
 have hz2 : (if (60 : Int) < (n2 : Int) then (60 : Int) else (n2 : Int)) = (m2 : Int) := by split <;> omega
 obtain ⟨R, hR⟩ : ∃ R, fewT T = R := ⟨_, rfl⟩
 rw [hR] at HF hll ⊢
 clear hb hB hWS hBw hm1 hm2 hc1 hc2 hR
 go_enter Try.func5, Try.ntmps5
 go_wp2_with fail
 go_region_held3 (fun W' => W'.cell? ⟨S, 0, none⟩ = some (.slice A1 n1 c1) ∧ W'.cell? ⟨S, 1, none⟩ = some (.slice A2 n2 c2) ∧ W'.cell? ⟨S, 2, none⟩ = some (.slice A n c)) (first | exact ⟨d0, d1, d2⟩ | exact D1.out | go_keep)
  (first | (go_at_call 19; refine (HF.out _ HN.out.1 HN.out.2).mono ?_; rintro e w1 ⟨v, rfl, A7, c7, rfl, k7, k8, hn7, hw7⟩; rw [hll.out] at k7; have B7 : Hid (Below (S + 2) W w1) := (Below.refl _ W).drew.trans (hw7.mono (by show _ ≤ W.heap.size; have := HWS.out; omega)); have D1 : Hid (w1.cell? ⟨S, 0, none⟩ = some (.slice A1 n1 c1) ∧ w1.cell? ⟨S, 1, none⟩ = some (.slice A2 n2 c2) ∧ w1.cell? ⟨S, 2, none⟩ = some (.slice A n c)) := ⟨(B7.out.cell (p := ⟨S, 0, none⟩) (by show S < _; omega)).trans d0, (B7.out.cell (p := ⟨S, 1, none⟩) (by show S < _; omega)).trans d1, (B7.out.cell (p := ⟨S, 2, none⟩) (by show S < _; omega)).trans d2⟩; have g0 := (B7.out.cell (p := ⟨S + 1, 0, none⟩) (by show S + 1 < _; omega)).trans r0; have g1 := (B7.out.cell (p := ⟨S + 1, 1, none⟩) (by show S + 1 < _; omega)).trans r1; have g2 := (B7.out.cell (p := ⟨S + 1, 2, none⟩) (by show S + 1 < _; omega)).trans r2; have z0 := (B7.out.frozen (p := ⟨S + 1, 0, none⟩) (by show S + 1 < _; omega)).trans q0; have z1 := (B7.out.frozen (p := ⟨S + 1, 1, none⟩) (by show S + 1 < _; omega)).trans q1; have z2 := (B7.out.frozen (p := ⟨S + 1, 2, none⟩) (by show S + 1 < _; omega)).trans q2; have HN7 := Lib.hid hn7; rw [hll.out]; clear hn7 hw7) | fail)
 all_goals
  go_wp2_with fail
  (try simp only [Exit.inBlock, Exit.then])
  refine bodyPost_ret (v := .agg #[.slice A1 m1 c1, .slice A2 m2 c2, .slice A7 l c7]) (by rw [results_cell1 rfl]; go_simp; try rfl) rfl ⟨_, rfl, A7, c7, rfl, k7, k8, ⟨?_, fun lq hlq => ?_⟩, ?_⟩
  ·have := HN7.out.2 [(⟨S + 1, 0, none⟩, .slice A1 m1 c1), (⟨S + 1, 1, none⟩, .slice A2 m2 c2), (⟨S + 1, 2, none⟩, .slice A7 l c7)] (in_res HB.out HWS.out)
   simpa [setAll] using this
  ·have := HN7.out.2 ([(⟨S + 1, 0, none⟩, .slice A1 m1 c1), (⟨S + 1, 1, none⟩, .slice A2 m2 c2), (⟨S + 1, 2, none⟩, .slice A7 l c7)] ++ lq) (in_app (in_res HB.out HWS.out) (fun x hx => ⟨(hlq x hx).1, by have := (hlq x hx).2; show _ < W.heap.size; rw [HWS.out]; omega⟩))
   rw [setAll_app] at this
   simpa [setAll] using this
  ·exact (((BX.out.trans (B7.out.mono (by omega))).setCell (by show S ≤ S + 1; omega) _).setCell (by show S ≤ S + 1; omega) _).setCell (by show S ≤ S + 1; omega) _
end Go.Proofs.Ytpjgapnihmiceaa
namespace Go.Proofs.Ytpjgapnihmiceaa
open Go.RowKit
set_option linter.unusedSimpArgs false
set_option linter.unusedVariables false
def FileAt (w : World) (b : Nat) (d : List Int) (L : List Tv) (T : List Nd) : Prop :=
 ∃ A1 n1 c1 A2 n2 c2 A n c, (w.cell? ⟨b, 0, none⟩ = some (.slice A1 n1 c1) ∧ w.cell? ⟨b, 1, none⟩ = some (.slice A2 n2 c2) ∧ w.cell? ⟨b, 2, none⟩ = some (.slice A n c)) ∧
  (c1 ≤ 9223372036854775807 ∧ c2 ≤ 9223372036854775807 ∧ n ≤ c ∧ c ≤ 9223372036854775807) ∧ SrcAt w A1 n1 c1 A2 n2 c2 A n d L T ∧ b < w.heap.size ∧ Valid T n2
theorem FileAt.below {w w' : World} {b : Nat} {d : List Int} {L : List Tv} {T : List Nd} (h : FileAt w b d L T) (hb : Below w.heap.size w w') : FileAt w' b d L T := by
 obtain ⟨A1, n1, c1, A2, n2, c2, A, n, c, ⟨h1, h2, h3⟩, h4, h5, h6, h7⟩ := h
 exact ⟨A1, n1, c1, A2, n2, c2, A, n, c, ⟨(hb.cell (p := ⟨b, 0, none⟩) h6).trans h1, (hb.cell (p := ⟨b, 1, none⟩) h6).trans h2, (hb.cell (p := ⟨b, 2, none⟩) h6).trans h3⟩, h4, h5.below hb, Nat.lt_of_lt_of_le h6 hb.size, h7⟩
def FileIs (w : World) (v : Value) (d : List Int) (L : List Tv) (T : List Nd) : Prop := (v = .pointer none ∧ T = []) ∨ ∃ b, v = .pointer (some ⟨b, 0, none⟩) ∧ FileAt w b d L T
theorem FileIs.below {w w' : World} {v : Value} {d : List Int} {L : List Tv} {T : List Nd} (h : FileIs w v d L T) (hb : Below w.heap.size w w') : FileIs w' v d L T := by
 rcases h with h | ⟨b, h1, h2⟩
 ·exact .inl h
 ·exact .inr ⟨b, h1, h2.below hb⟩
def nodeV (T : List Nd) (n : Int) : Nd := if inT T n = true then kd T n else default
theorem inT_nil (n : Int) : inT [] n = false := decide_eq_false (by show ¬ (0 ≤ n ∧ n < 0); omega)
theorem Valid.ne {T : List Nd} {m : Int} (h : Valid T m) : T ≠ [] := fun e => by have := h.pos; rw [e] at this; exact absurd this (by decide)
def SaysNew : Prop := ∀ (A1 : Option Addr) (n1 c1 : Nat) (A2 : Option Addr) (n2 c2 : Nat) (A : Option Addr) (n c : Nat) (d : List Int) (L : List Tv) (T : List Nd) (w : World),
 SrcAt w A1 n1 c1 A2 n2 c2 A n d L T → c1 ≤ 9223372036854775807 ∧ c2 ≤ 9223372036854775807 ∧ n ≤ c ∧ c ≤ 9223372036854775807 →
 Calls Try.prog 6 #[.slice A1 n1 c1, .slice A2 n2 c2, trV A n c] w fun e w' => ∃ v, e = .returned (.tuple #[v, trErr (chkT T n2)]) ∧ FileIs w' v d L (resOf (chkT T n2) T []) ∧ Below w.heap.size w w'
def SaysKid : Prop := ∀ (v : Value) (d : List Int) (L : List Tv) (T : List Nd) (n i : Int) (w : World), FileIs w v d L T →
 Calls Try.prog 18 #[v, .int .i64 n, .int .i64 i] w fun e w' => e = .returned (.int .i64 (kidV T n i)) ∧ Below w.heap.size w w'
def SaysWord : Prop := ∀ (v : Value) (d : List Int) (L : List Tv) (T : List Nd) (n : Int) (w : World), FileIs w v d L T →
 Calls Try.prog 29 #[v, .int .i64 n] w fun e w' => e = .returned (.string (wordV d L T n)) ∧ Below w.heap.size w w'
def SaysOp : Prop := ∀ (v : Value) (d : List Int) (L : List Tv) (T : List Nd) (n : Int) (w : World), FileIs w v d L T →
 Calls Try.prog 7 #[v, .int .i64 n] w fun e w' => e = .returned (.int .i64 (opV L T n)) ∧ Below w.heap.size w w'
def SaysSpan : Prop := ∀ (v : Value) (d : List Int) (L : List Tv) (T : List Nd) (n : Int) (w : World), FileIs w v d L T →
 Calls Try.prog 9 #[v, .int .i64 n] w fun e w' => e = .returned (.agg #[.int .i64 (spanV L T n).1, .int .i64 (spanV L T n).2]) ∧ Below w.heap.size w w'
def SaysChan : Prop := ∀ (v : Value) (d : List Int) (L : List Tv) (T : List Nd) (n : Int) (w : World), FileIs w v d L T →
 Calls Try.prog 8 #[v, .int .i64 n] w fun e w' => e = .returned (.int .i64 (chanV L T n)) ∧ Below w.heap.size w w'
def SaysHas : Prop := ∀ (v : Value) (d : List Int) (L : List Tv) (T : List Nd) (n k : Int) (w : World), FileIs w v d L T →
 Calls Try.prog 10 #[v, .int .i64 n, .int .i64 k] w fun e w' => e = .returned (.bool (hasV L T n k)) ∧ Below w.heap.size w w'
def SaysEmpty : Prop := ∀ (v : Value) (d : List Int) (L : List Tv) (T : List Nd) (n : Int) (w : World), FileIs w v d L T →
 Calls Try.prog 11 #[v, .int .i64 n] w fun e w' => e = .returned (.bool (emptyV T n)) ∧ Below w.heap.size w w'
end Go.Proofs.Ytpjgapnihmiceaa
namespace Go.Proofs.Ytpjgapnihmiceaa
open Go.RowKit
set_option linter.unusedSimpArgs false
set_option linter.unusedVariables false
structure NSt (S : Nat) (W w : World) (v : Value) (A1 : Option Addr) (n1 c1 : Nat) (A2 : Option Addr) (n2 c2 : Nat) (A : Option Addr) (n c : Nat) (d : List Int) (L : List Tv) (T Tf : List Nd) : Prop where
 src : SrcAt w A1 n1 c1 A2 n2 c2 A n d L T
 fil : FileIs w v d L Tf
 e0 : w.cell? ⟨S, 0, none⟩ = some (.slice A1 n1 c1)
 e1 : w.cell? ⟨S, 1, none⟩ = some (.slice A2 n2 c2)
 e2 : w.cell? ⟨S, 2, none⟩ = some (.slice A n c)
 bel : Below S W w
 sz : S < w.heap.size
theorem NSt.on {S : Nat} {W w w' : World} {v : Value} {A1 A2 A : Option Addr} {n1 c1 n2 c2 n c : Nat} {d : List Int} {L : List Tv} {T Tf : List Nd} (h : NSt S W w v A1 n1 c1 A2 n2 c2 A n c d L T Tf) (hw : Below w.heap.size w w') : NSt S W w' v A1 n1 c1 A2 n2 c2 A n c d L T Tf :=
 ⟨h.src.below hw, h.fil.below hw, (hw.cell (p := ⟨S, 0, none⟩) h.sz).trans h.e0, (hw.cell (p := ⟨S, 1, none⟩) h.sz).trans h.e1, (hw.cell (p := ⟨S, 2, none⟩) h.sz).trans h.e2, h.bel.trans (hw.mono (Nat.le_of_lt h.sz)), Nat.lt_of_lt_of_le h.sz hw.size⟩
theorem src_few {W w1 : World} {A1 A2 A A9 : Option Addr} {n1 c1 n2 c2 n c m1 m2 l c9 : Nat} {d : List Int} {L : List Tv} {T : List Nd} (E : TypeId)
  (hy : Byts W W.heap.size A1 d) (hd : d.length = n1) (hm1 : min n1 300 = m1) (hc1 : n1 ≤ c1) (ht : CellsV tvCells W W.heap.size A2 L) (hL : L.length = n2) (hm2 : min n2 60 = m2) (hc2 : n2 ≤ c2) (hll : (fewT T).length = l)
  (h : NdsAt w1 w1.heap.size A9 (fewT T) ∧ ∀ lq : List (Addr × Value), CellsIn lq W.heap.size (W.alloc (.cells #[.slice A1 n1 c1, .slice A2 n2 c2, .slice A n c] E)).heap.size → NdsAt (setAll w1 lq) w1.heap.size A9 (fewT T))
  (hw : Below (W.alloc (.cells #[.slice A1 n1 c1, .slice A2 n2 c2, .slice A n c] E)).heap.size (W.alloc (.cells #[.slice A1 n1 c1, .slice A2 n2 c2, .slice A n c] E)) w1) :
  (w1.cell? ⟨W.heap.size, 0, none⟩ = some (.slice A1 n1 c1) ∧ w1.cell? ⟨W.heap.size, 1, none⟩ = some (.slice A2 n2 c2) ∧ w1.cell? ⟨W.heap.size, 2, none⟩ = some (.slice A n c)) ∧
  (w1.frozen? ⟨W.heap.size, 0, none⟩ = false ∧ w1.frozen? ⟨W.heap.size, 1, none⟩ = false ∧ w1.frozen? ⟨W.heap.size, 2, none⟩ = false) ∧
  ∃ V, ((w1.setCell ⟨W.heap.size, 0, none⟩ (.slice A1 m1 c1)).setCell ⟨W.heap.size, 1, none⟩ (.slice A2 m2 c2)).setCell ⟨W.heap.size, 2, none⟩ (.slice A9 l c9) = V ∧
   (V.cell? ⟨W.heap.size, 0, none⟩ = some (.slice A1 m1 c1) ∧ V.cell? ⟨W.heap.size, 1, none⟩ = some (.slice A2 m2 c2) ∧ V.cell? ⟨W.heap.size, 2, none⟩ = some (.slice A9 l c9)) ∧
   SrcAt V A1 m1 c1 A2 m2 c2 A9 l (d.take m1) (L.take m2) (fewT T) ∧ Below W.heap.size W V ∧ W.heap.size < V.heap.size := by
 have hs := hw.size
 rw [World.size_alloc] at hs
 have g0 : w1.cell? ⟨W.heap.size, 0, none⟩ = some (.slice A1 n1 c1) := (hw.cell (p := ⟨W.heap.size, 0, none⟩) (by simp)).trans (by rw [World.cell?_alloc_at _ _ _ _ rfl]; rfl)
 have g1 : w1.cell? ⟨W.heap.size, 1, none⟩ = some (.slice A2 n2 c2) := (hw.cell (p := ⟨W.heap.size, 1, none⟩) (by simp)).trans (by rw [World.cell?_alloc_at _ _ _ _ rfl]; rfl)
 have g2 : w1.cell? ⟨W.heap.size, 2, none⟩ = some (.slice A n c) := (hw.cell (p := ⟨W.heap.size, 2, none⟩) (by simp)).trans (by rw [World.cell?_alloc_at _ _ _ _ rfl]; rfl)
 have f0 : w1.frozen? ⟨W.heap.size, 0, none⟩ = false := (hw.frozen (p := ⟨W.heap.size, 0, none⟩) (by simp)).trans (by rw [World.frozen?_alloc_at _ _ _ _ rfl])
 have f1 : w1.frozen? ⟨W.heap.size, 1, none⟩ = false := (hw.frozen (p := ⟨W.heap.size, 1, none⟩) (by simp)).trans (by rw [World.frozen?_alloc_at _ _ _ _ rfl])
 have f2 : w1.frozen? ⟨W.heap.size, 2, none⟩ = false := (hw.frozen (p := ⟨W.heap.size, 2, none⟩) (by simp)).trans (by rw [World.frozen?_alloc_at _ _ _ _ rfl])
 have hBV : Below W.heap.size W (((w1.setCell ⟨W.heap.size, 0, none⟩ (.slice A1 m1 c1)).setCell ⟨W.heap.size, 1, none⟩ (.slice A2 m2 c2)).setCell ⟨W.heap.size, 2, none⟩ (.slice A9 l c9)) :=
  (((((Below.refl _ _).alloc (Nat.le_refl _) _).trans (hw.mono (by simp))).setCell (Nat.le_refl _) _).setCell (Nat.le_refl _) _).setCell (Nat.le_refl _) _
 have hne : ∀ i j : Nat, i ≠ j → (⟨W.heap.size, i, none⟩ : Addr) ≠ ⟨W.heap.size, j, none⟩ := fun i j hij e => hij (by injection e)
 have k1 : (w1.setCell ⟨W.heap.size, 0, none⟩ (.slice A1 m1 c1)).cell? ⟨W.heap.size, 1, none⟩ = some (.slice A2 n2 c2) := by rw [World.cell?_setCell_other _ _ _ _ (by simp)]; exact g1
 have k2 : ((w1.setCell ⟨W.heap.size, 0, none⟩ (.slice A1 m1 c1)).setCell ⟨W.heap.size, 1, none⟩ (.slice A2 m2 c2)).cell? ⟨W.heap.size, 2, none⟩ = some (.slice A n c) := by rw [World.cell?_setCell_other _ _ _ _ (by simp), World.cell?_setCell_other _ _ _ _ (by simp)]; exact g2
 refine ⟨⟨g0, g1, g2⟩, ⟨f0, f1, f2⟩, _, rfl, ⟨?_, ?_, ?_⟩, ⟨(hy.take m1).on (Nat.le_refl _) hBV, by rw [List.length_take]; omega, by omega, by omega, ((ht.take tv_enc m2).below hBV (Nat.le_refl _)).more hBV.size, by rw [List.length_take]; omega, by omega, by omega, ⟨?_, hll, few_smallT T⟩⟩, hBV, by simp; omega⟩
 ·rw [World.cell?_setCell_other _ _ _ _ (by simp), World.cell?_setCell_other _ _ _ _ (by simp)]
  exact World.cell?_setCell_same' _ _ _ (by rw [g0]; rfl)
 ·rw [World.cell?_setCell_other _ _ _ _ (by simp)]
  exact World.cell?_setCell_same' _ _ _ (by rw [k1]; rfl)
 ·exact World.cell?_setCell_same' _ _ _ (by rw [k2]; rfl)
 ·have := h.2 [(⟨W.heap.size, 0, none⟩, .slice A1 m1 c1), (⟨W.heap.size, 1, none⟩, .slice A2 m2 c2), (⟨W.heap.size, 2, none⟩, .slice A9 l c9)] (fun u hu => by
   have hb : u.1.block = W.heap.size := by
    simp only [List.mem_cons, List.not_mem_nil, or_false] at hu
    rcases hu with rfl | rfl | rfl <;> rfl
   rw [hb]
   simp)
  simpa [setAll] using this
end Go.Proofs.Ytpjgapnihmiceaa
