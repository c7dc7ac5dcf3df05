/- Contracts of the program's functions. -/
import Derived.Test.YtjpahjfjpkbcnaaGreatB02
import Derived.Test.YtjpahjfjpkbcnaaGreatB05
import Derived.Test.YtjpahjfjpkbcnaaGreatB09
import Derived.Test.YtjpahjfjpkbcnaaGreatB03
import Derived.Test.YtjpahjfjpkbcnaaGreatB11

namespace Go.Proofs.YtjpahjfjpkbcnaaGreat
open Go.Proofs Go.RowKit
theorem put1 (W : World) (b i : Nat) (u t : Value) (h : W.cell? ⟨b, i, none⟩ = some t) : (W.setCell ⟨b, i, none⟩ u).cell? ⟨b, i, none⟩ = some u ∧ ∀ j, j ≠ i → (W.setCell ⟨b, i, none⟩ u).cell? ⟨b, j, none⟩ = W.cell? ⟨b, j, none⟩ := by
 refine ⟨?_, fun j hj => ?_⟩
 ·apply World.cell?_setCell_same
  exact h
 ·apply World.cell?_setCell_other
  intro e
  cases e
  exact hj rfl
theorem put5 (W : World) (b o : Nat) (t0 t1 t2 t3 t4 u0 u1 u2 u3 u4 : Value) (h0 : W.cell? ⟨b, o, none⟩ = some t0) (h1 : W.cell? ⟨b, o + 1, none⟩ = some t1) (h2 : W.cell? ⟨b, o + 2, none⟩ = some t2) (h3 : W.cell? ⟨b, o + 3, none⟩ = some t3) (h4 : W.cell? ⟨b, o + 4, none⟩ = some t4) :
  ∀ W', W' = (((((W.setCell ⟨b, o, none⟩ u0).setCell ⟨b, o + 1, none⟩ u1).setCell ⟨b, o + 2, none⟩ u2).setCell ⟨b, o + 3, none⟩ u3).setCell ⟨b, o + 4, none⟩ u4) →
  Kept (fun k => k = b) W W' ∧ (W'.cell? ⟨b, o, none⟩ = some u0 ∧ W'.cell? ⟨b, o + 1, none⟩ = some u1 ∧ W'.cell? ⟨b, o + 2, none⟩ = some u2 ∧ W'.cell? ⟨b, o + 3, none⟩ = some u3 ∧ W'.cell? ⟨b, o + 4, none⟩ = some u4) ∧
  ∀ j, (j < o ∨ o + 5 ≤ j) → W'.cell? ⟨b, j, none⟩ = W.cell? ⟨b, j, none⟩ := by
 intro W' hW
 rw [hW]
 obtain ⟨a0, b0⟩ := put1 W b o u0 t0 h0
 obtain ⟨a1, b1⟩ := put1 _ b (o + 1) u1 t1 ((b0 (o + 1) (by omega)).trans h1)
 obtain ⟨a2, b2⟩ := put1 _ b (o + 2) u2 t2 ((b1 (o + 2) (by omega)).trans ((b0 (o + 2) (by omega)).trans h2))
 obtain ⟨a3, b3⟩ := put1 _ b (o + 3) u3 t3 ((b2 (o + 3) (by omega)).trans ((b1 (o + 3) (by omega)).trans ((b0 (o + 3) (by omega)).trans h3)))
 obtain ⟨a4, b4⟩ := put1 _ b (o + 4) u4 t4 ((b3 (o + 4) (by omega)).trans ((b2 (o + 4) (by omega)).trans ((b1 (o + 4) (by omega)).trans ((b0 (o + 4) (by omega)).trans h4))))
 exact ⟨((((kept1 _ b _ u0).trans (kept1 _ b _ u1)).trans (kept1 _ b _ u2)).trans (kept1 _ b _ u3)).trans (kept1 _ b _ u4),
  ⟨(b4 o (by omega)).trans ((b3 o (by omega)).trans ((b2 o (by omega)).trans ((b1 o (by omega)).trans a0))), (b4 _ (by omega)).trans ((b3 _ (by omega)).trans ((b2 _ (by omega)).trans a1)), (b4 _ (by omega)).trans ((b3 _ (by omega)).trans a2), (b4 _ (by omega)).trans a3, a4⟩,
  fun j hj => (b4 j (by omega)).trans ((b3 j (by omega)).trans ((b2 j (by omega)).trans ((b1 j (by omega)).trans (b0 j (by omega)))))⟩
mutual
theorem PtAt.keepH {n₀ n₁ : Nat} {w w' : World} (hb : ∀ b, b < n₀ → w'.heap[b]? = w.heap[b]?) (hn : n₀ ≤ n₁) : ∀ (p : Pt) (v : Value), PtAt n₀ w p v → PtAt n₁ w' p v
 | .mk form n text parts, v, h => by
  unfold PtAt at h ⊢
  obtain ⟨kv, h1, h2, h3⟩ := h
  exact ⟨kv, h1, h2, h3.mono hn fun b o hlt hr => PtsAt.keepH hb hn parts b o hlt hr⟩
theorem PtsAt.keepH {n₀ n₁ : Nat} {w w' : World} (hb : ∀ b, b < n₀ → w'.heap[b]? = w.heap[b]?) (hn : n₀ ≤ n₁) : ∀ (ps : List Pt) (b o : Nat), b < n₀ → PtsAt n₀ w ps b o → PtsAt n₁ w' ps b o
 | [], _, _, _, _ => by unfold PtsAt; trivial
 | p :: ps, b, o, hlt, h => by
  unfold PtsAt at h ⊢
  obtain ⟨⟨c0, c1, c2, c3, h0, h1, h2, h3, hp⟩, hs⟩ := h
  exact ⟨⟨c0, c1, c2, c3, (cell_of_heap (hb b hlt)).trans h0, (cell_of_heap (hb b hlt)).trans h1, (cell_of_heap (hb b hlt)).trans h2, (cell_of_heap (hb b hlt)).trans h3, PtAt.keepH hb hn p _ hp⟩, PtsAt.keepH hb hn ps b _ hlt hs⟩
end
mutual
theorem TmAt.keepH {n₀ n₁ : Nat} {w w' : World} (hb : ∀ b, b < n₀ → w'.heap[b]? = w.heap[b]?) (hn : n₀ ≤ n₁) : ∀ (p : Tm) (v : Value), TmAt n₀ w p v → TmAt n₁ w' p v
 | .mk op n text kids pats, v, h => by
  unfold TmAt at h ⊢
  obtain ⟨kv, pv, h1, h2, h3, h4⟩ := h
  exact ⟨kv, pv, h1, h2, h3.mono hn fun b o hlt hr => TmsAt.keepH hb hn kids b o hlt hr, h4.mono hn fun b o hlt hr => PtsAt.keepH hb hn pats b o hlt hr⟩
theorem TmsAt.keepH {n₀ n₁ : Nat} {w w' : World} (hb : ∀ b, b < n₀ → w'.heap[b]? = w.heap[b]?) (hn : n₀ ≤ n₁) : ∀ (ps : List Tm) (b o : Nat), b < n₀ → TmsAt n₀ w ps b o → TmsAt n₁ w' ps b o
 | [], _, _, _, _ => by unfold TmsAt; trivial
 | p :: ps, b, o, hlt, h => by
  unfold TmsAt at h ⊢
  obtain ⟨⟨c0, c1, c2, c3, c4, h0, h1, h2, h3, h4, hp⟩, hs⟩ := h
  exact ⟨⟨c0, c1, c2, c3, c4, (cell_of_heap (hb b hlt)).trans h0, (cell_of_heap (hb b hlt)).trans h1, (cell_of_heap (hb b hlt)).trans h2, (cell_of_heap (hb b hlt)).trans h3, (cell_of_heap (hb b hlt)).trans h4, TmAt.keepH hb hn p _ hp⟩, TmsAt.keepH hb hn ps b _ hlt hs⟩
end
theorem row_some {w : World} {b : Nat} {cur : Array Value} {t : TypeId} (h : w.heap[b]? = some (.cells cur t (0, 0))) {i : Nat} (hi : i < cur.size) : w.cell? ⟨b, i, none⟩ = some cur[i] := by
 rw [cell_box h, Array.getElem?_eq_getElem hi]
mutual
def rnP (nm ot : ByteArray) : Pt → Pt
 | .mk f n t ps => .mk f n (if f = 2 ∧ (t.toList == nm.toList) = true then ot else t) (rnPs nm ot ps)
def rnPs (nm ot : ByteArray) : List Pt → List Pt
 | [] => []
 | p :: ps => rnP nm ot p :: rnPs nm ot ps
end
theorem rnPs_map (nm ot : ByteArray) : ∀ ps : List Pt, rnPs nm ot ps = ps.map (rnP nm ot)
 | [] => rfl
 | p :: ps => by unfold rnPs; rw [rnPs_map nm ot ps]; rfl
theorem two_boxes' (w : World) (x y : Array Value) (t t' : TypeId) : ∃ W, W = (w.alloc (.cells x t)).alloc (.cells y t') ∧ Below w.heap.size w W ∧ W.heap.size = w.heap.size + 2 ∧ W.heap[w.heap.size]? = some (.cells x t (0, 0)) ∧ W.heap[w.heap.size + 1]? = some (.cells y t' (0, 0)) := by
 refine ⟨_, rfl, ((Below.refl w.heap.size w).alloc (Nat.le_refl _) _).alloc (by simp) _, by simp, ?_, ?_⟩
 ·exact (Below.heap_alloc _ _ _ (by simp)).trans (heap_alloc_new w _)
 ·have := heap_alloc_new (w.alloc (.cells x t)) (.cells y t')
  rw [World.size_alloc] at this
  exact this
set_option maxHeartbeats 4000000 in
set_option maxRecDepth 100000 in
theorem refRenPat_any (nm ot : ByteArray) (hot : ot.size ≤ maxLen) (p : Pt) : ∀ (v : Value) (w : World) (n₀ : Nat), n₀ ≤ w.heap.size → PtAt n₀ w p v → lensP p →
  Calls Tryz.prog 145 #[v, .string nm, .string ot] w fun e w' => (∃ v', e = .returned v' ∧ PtNew w w' (rnP nm ot p) v') ∧ Below w.heap.size w w' := by
 induction hT : SizeOf.sizeOf p using Nat.strongRecOn generalizing p with
 | _ m ih =>
 subst hT
 intro v w n₀ hn0 hv hlen
 obtain ⟨i0, hi, hz0, hz1, hz2⟩ := info_parts Tz.info35
 have HIH := lh ih; clear ih
 cases p with
 | mk form n text parts =>
 unfold PtAt at hv
 obtain ⟨kv, rfl, htx, hk⟩ := hv
 obtain ⟨a, cap, rfl, hcap, hlc, hka⟩ := hk.split
 unfold lensP at hlen
 have hl := hlen.1
 unfold maxLen at hcap
 have HKA := lh hka; have HLEN := lh hlen.2
 obtain ⟨W, hW, hB0, hs, hx3, hx6⟩ := two_boxes' w #[.int .i64 form, .int .i64 n, .string text, .slice a parts.length cap] #[.int .i64 0, .int .i64 0, .string ⟨#[]⟩, .slice none 0 0] 35 35
 clear hk hka hlen
 have HB0 := lh hB0; have X6 := lh hx6; have X3 := lh hx3
 obtain ⟨y0, y1, y2, y3⟩ := cells4 hx3
 have f3 := free_box hx3
 clear hB0 hx6 hx3
 by_cases h2 : form = 2
 ·subst h2
  by_cases he : (text.toList == nm.toList) = true
  ·have HCOND := lh (show (if (2 : Int) = 2 ∧ (text.toList == nm.toList) = true then ot else text) = ot from if_pos ⟨rfl, he⟩)
   go_enter Tryz.func145, Tryz.ntmps145
   go_upto_region 1 with fail
   rw [← hW]
   clear hW
   go_upto_region 3 with fail
   have hkp : Kept (fun k => k = w.heap.size) W (W.setCell ⟨w.heap.size, 2, none⟩ (.string ot)) := .setCell (S := fun k => k = w.heap.size) _ rfl _
   have hx3 : (W.setCell ⟨w.heap.size, 2, none⟩ (.string ot)).heap[w.heap.size]? = some (.cells #[.int .i64 2, .int .i64 n, .string ot, .slice a parts.length cap] 35 (0, 0)) := box_setCell X3.o 2 _
   have hx6 := hkp.get X6.o (by omega)
   have hB1 := HB0.o.trans (hkp.below (n₀ := w.heap.size) (by omega) (by rintro k rfl; omega))
   have hs1 := hkp.size
   have hsz : (W.setCell ⟨w.heap.size, 2, none⟩ (.string ot)).heap.size = w.heap.size + 2 := by simp [hs]
   generalize (W.setCell ⟨w.heap.size, 2, none⟩ (.string ot)) = U at *
   clear X3 X6 HB0 y0 y1 y2 y3 f3 hkp hs1 hs
   have HB0 := lh hB1; have X3 := lh hx3; have X6 := lh hx6
   clear hB1 hx3 hx6
   go_wp2_with fail
   go_loopw [7, 8] (fun vo i wr => ∃ (k : Nat) (xs : List Value), k ≤ parts.length ∧ i = .int .i64 k ∧ wr.ownsRow U.heap.size 35 4 vo k xs ∧ FlatP (Own U wr vo) wr ((parts.take k).map (rnP nm ot)) xs ∧ Below U.heap.size U wr) (fun _ i _ => parts.length - (intOf i).toNat)
   case atStart => exact ⟨0, [], Nat.zero_le _, rfl, World.ownsRow_nil _ _ _ _, rfl, Below.refl _ _⟩
   case round =>
    obtain ⟨k, xs, hk, rfl, hrow, hflat, hB⟩ := hrel
    have hbw : Below w.heap.size w wr := HB0.o.trans (hB.mono HB0.o.size)
    have x3 := bget hB X3.o (by omega)
    have x6 := bget hB X6.o (by omega)
    obtain ⟨y0, y1, y2, y3⟩ := cells4 x3
    by_cases hlt : k < parts.length
    ·have hlt' : (k : Int) < (parts.length : Int) := by omega
     obtain ⟨b, o, rfl, hbn, hss⟩ := HKA.o (by omega)
     obtain ⟨c0, c1, c2, c3, g0, g1, g2, g3, ht⟩ := PtsAt.get parts b o hss k hlt
     have q0 := (hbw.cell (p := ⟨b, _, none⟩) (Nat.lt_of_lt_of_le hbn hn0)).trans g0
     have q1 := (hbw.cell (p := ⟨b, _, none⟩) (Nat.lt_of_lt_of_le hbn hn0)).trans g1
     have q2 := (hbw.cell (p := ⟨b, _, none⟩) (Nat.lt_of_lt_of_le hbn hn0)).trans g2
     have q3 := (hbw.cell (p := ⟨b, _, none⟩) (Nat.lt_of_lt_of_le hbn hn0)).trans g3
     obtain ⟨oo, nn, tt, ka, kn, kc, rfl, rfl, rfl, rfl⟩ := ht.shape
     have HC := lh (HIH.o _ (kid_ltP k hlt) parts[k] rfl _ wr n₀ (by have := hbw.size; omega) (PtAt.keepH (fun x hx => hbw.block x (by omega)) (Nat.le_refl _) _ _ ht) (lensP_get HLEN.o k hlt))
     have HB := lh hB; have HROW := lh hrow; have HFLAT := lh hflat
     clear g0 g1 g2 g3 hss ht hB hrow hflat x3 x6 hbw
     go_wp2_with fail
     refine HC.o.mono ?_
     rintro e w1 ⟨⟨v2, rfl, hnew⟩, hb1⟩
     have hsz1 := hb1.size
     have hszr := HB.o.size
     obtain ⟨o2, n2, t2, ka2, kn2, kc2, rfl⟩ := PtIn.shape hnew
     have hown1 : ∀ kk, u7.ownBlock = some kk → U.heap.size ≤ kk ∧ kk < wr.heap.size := fun kk h => HROW.o.lt kk h
     have hrow1 : w1.ownsRow U.heap.size 35 4 u7 k xs := HROW.o.kept (row := none) ⟨hb1.os, hb1.tape, hb1.output, hb1.size, fun i hi _ => hb1.block i hi⟩ (by cases u7.ownBlock <;> simp)
     have hrow2 := hrow1.alloc (.cells #[.int .i64 o2, .int .i64 n2, .string t2, .slice ka2 kn2 kc2] 35)
     have HNEW := lh hnew; have HB1 := lh hb1; have HR2 := lh hrow2; have HO1 := lh hown1
     have hnews := cells_new w1 [.int .i64 o2, .int .i64 n2, .string t2, .slice ka2 kn2 kc2] 35
     have HNW := lh hnews
     have hone : ∀ u ∈ [Value.int .i64 o2, .int .i64 n2, .string t2, .slice ka2 kn2 kc2], u.oneCell' = true := by intro u hu; simp at hu; rcases hu with rfl | rfl | rfl | rfl <;> rfl
     have HONE := lh hone
     clear hnew hb1 hrow1 hrow2 hown1 hnews hone y0 y1 y2 y3 q0 q1 q2 q3
     go_wp2_with (at_builtin; refine wpList_append_own_at _ rfl _ _ 30 rfl U.heap.size 35 i0 _ 4 56 Tryz.underlying30 hi hz0 hz1 hz2 rfl (by decide) u7 k xs rfl HR2.o ⟨w1.heap.size, 0, none⟩ 1 1 [.int .i64 o2, .int .i64 n2, .string t2, .slice ka2 kn2 kc2] rfl rfl HNW.o HONE.o (by unfold maxLen; omega) (by omega) (by simp; omega) ?_; intro v' w' hown' hgr hnil hat; have HOWN := lh hown'; have HGR := lh hgr; have HAT := lh hat; clear hown' hgr hnil hat)
     go_roundw
     case rel =>
      obtain ⟨s1, s2, s3, s4⟩ := own_step HB.o HB1.o HO1.o HGR.o HAT.o
      refine ⟨k + 1, _, by omega, by go_num, HOWN.o, ?_, s4⟩
      rw [List.take_succ_eq_append_getElem hlt, List.map_append, List.map_cons, List.map_nil]
      exact FlatP.snoc (PtIn.keep (fun b h => (s3 b h.1 h.2).1) (fun b h => (s3 b h.1 h.2).2) _ _ HNEW.o) _ _ (FlatP.keep s1 s2 _ _ HFLAT.o)
     case measure => simp [intOf]; omega
    ·obtain rfl : k = parts.length := by omega
     obtain ⟨ra, rc, rfl⟩ := slice_of_row hrow
     have f3 := free_box x3
     obtain ⟨z0, z1, z2, z3⟩ := cells4 x6
     have f6 := free_box x6
     have HBW := lh hbw; have HROW := lh hrow; have HFLAT := lh hflat; have HB := lh hB
     have hszr := hB.size
     clear hbw hrow hflat hB x3 x6
     go_wp2_with fail
     have hkp0 : Kept (fun k => k = w.heap.size ∨ k = w.heap.size + 1) wr (wr.setCell ⟨w.heap.size, 3, none⟩ (.slice ra parts.length rc)) := .setCell _ (.inl rfl) _
     have hkp : Kept (fun k => k = w.heap.size ∨ k = w.heap.size + 1) wr (((((wr.setCell ⟨w.heap.size, 3, none⟩ (.slice ra parts.length rc)).setCell ⟨w.heap.size + 1, 0, none⟩ (.int .i64 2)).setCell ⟨w.heap.size + 1, 1, none⟩ (.int .i64 n)).setCell ⟨w.heap.size + 1, 2, none⟩ (.string ot)).setCell ⟨w.heap.size + 1, 3, none⟩ (.slice ra parts.length rc)) :=
      (((hkp0.trans (.setCell _ (.inr rfl) _)).trans (.setCell _ (.inr rfl) _)).trans (.setCell _ (.inr rfl) _)).trans (.setCell _ (.inr rfl) _)
     have hs2 := hkp.size
     refine bodyPost_ret (v := .agg #[.int .i64 2, .int .i64 n, .string ot, .slice ra parts.length rc]) (by simp [results, Tryz.results145, go_sem, z0, z1, z2, z3]) rfl ⟨⟨_, rfl, ?_⟩, HBW.o.trans (hkp.below (by omega) (by rintro k (rfl | rfl) <;> omega))⟩
     unfold PtNew rnP PtIn
     rw [show (if (2 : Int) = 2 ∧ (text.toList == nm.toList) = true then ot else text) = ot from if_pos ⟨rfl, he⟩]
     refine ⟨_, rfl, hot, ?_⟩
     rw [rnPs_map, List.length_map]
     refine owned_sl (w := wr) HROW.o (fun b h => ?_) fun b hb hc => ?_
     ·have := HROW.o.lt b h
      exact ⟨by omega, by have := this.2; omega⟩
     ·have hfl := HFLAT.o
      rw [List.take_length] at hfl
      have hbl := HROW.o.lt b hb
      refine FlatP.ptsIn _ _ _ (FlatP.keep (fun x h => hkp.block x h.2.1 (by have := h.1; omega)) (fun x h => ⟨by have := h.1; omega, by have := h.2.1; omega⟩) _ _ hfl) fun i u hi => ?_
      exact (cell_of_heap (hkp.block b hbl.2 (by omega))).trans (hc i u hi)
  ·have he' : (text.toList == nm.toList) = false := by simpa using he
   have HCOND := lh (show (if (2 : Int) = 2 ∧ (text.toList == nm.toList) = true then ot else text) = text from if_neg fun h => he h.2)
   go_enter Tryz.func145, Tryz.ntmps145
   go_upto_region 1 with fail
   rw [← hW]
   clear hW
   go_upto_region 3 with fail
   have hx3 := X3.out; have hx6 := X6.out; have hB1 := HB0.out; have hsz := hs
   generalize W = U at *
   clear X3 X6 HB0 y0 y1 y2 y3 f3 hs
   have HB0 := lh hB1; have X3 := lh hx3; have X6 := lh hx6
   clear hB1 hx3 hx6
   go_wp2_with fail
   go_loopw [7, 8] (fun vo i wr => ∃ (k : Nat) (xs : List Value), k ≤ parts.length ∧ i = .int .i64 k ∧ wr.ownsRow U.heap.size 35 4 vo k xs ∧ FlatP (Own U wr vo) wr ((parts.take k).map (rnP nm ot)) xs ∧ Below U.heap.size U wr) (fun _ i _ => parts.length - (intOf i).toNat)
   case atStart => exact ⟨0, [], Nat.zero_le _, rfl, World.ownsRow_nil _ _ _ _, rfl, Below.refl _ _⟩
   case round =>
    obtain ⟨k, xs, hk, rfl, hrow, hflat, hB⟩ := hrel
    have hbw : Below w.heap.size w wr := HB0.o.trans (hB.mono HB0.o.size)
    have x3 := bget hB X3.o (by omega)
    have x6 := bget hB X6.o (by omega)
    obtain ⟨y0, y1, y2, y3⟩ := cells4 x3
    by_cases hlt : k < parts.length
    ·have hlt' : (k : Int) < (parts.length : Int) := by omega
     obtain ⟨b, o, rfl, hbn, hss⟩ := HKA.o (by omega)
     obtain ⟨c0, c1, c2, c3, g0, g1, g2, g3, ht⟩ := PtsAt.get parts b o hss k hlt
     have q0 := (hbw.cell (p := ⟨b, _, none⟩) (Nat.lt_of_lt_of_le hbn hn0)).trans g0
     have q1 := (hbw.cell (p := ⟨b, _, none⟩) (Nat.lt_of_lt_of_le hbn hn0)).trans g1
     have q2 := (hbw.cell (p := ⟨b, _, none⟩) (Nat.lt_of_lt_of_le hbn hn0)).trans g2
     have q3 := (hbw.cell (p := ⟨b, _, none⟩) (Nat.lt_of_lt_of_le hbn hn0)).trans g3
     obtain ⟨oo, nn, tt, ka, kn, kc, rfl, rfl, rfl, rfl⟩ := ht.shape
     have HC := lh (HIH.o _ (kid_ltP k hlt) parts[k] rfl _ wr n₀ (by have := hbw.size; omega) (PtAt.keepH (fun x hx => hbw.block x (by omega)) (Nat.le_refl _) _ _ ht) (lensP_get HLEN.o k hlt))
     have HB := lh hB; have HROW := lh hrow; have HFLAT := lh hflat
     clear g0 g1 g2 g3 hss ht hB hrow hflat x3 x6 hbw
     go_wp2_with fail
     refine HC.o.mono ?_
     rintro e w1 ⟨⟨v2, rfl, hnew⟩, hb1⟩
     have hsz1 := hb1.size
     have hszr := HB.o.size
     obtain ⟨o2, n2, t2, ka2, kn2, kc2, rfl⟩ := PtIn.shape hnew
     have hown1 : ∀ kk, u7.ownBlock = some kk → U.heap.size ≤ kk ∧ kk < wr.heap.size := fun kk h => HROW.o.lt kk h
     have hrow1 : w1.ownsRow U.heap.size 35 4 u7 k xs := HROW.o.kept (row := none) ⟨hb1.os, hb1.tape, hb1.output, hb1.size, fun i hi _ => hb1.block i hi⟩ (by cases u7.ownBlock <;> simp)
     have hrow2 := hrow1.alloc (.cells #[.int .i64 o2, .int .i64 n2, .string t2, .slice ka2 kn2 kc2] 35)
     have HNEW := lh hnew; have HB1 := lh hb1; have HR2 := lh hrow2; have HO1 := lh hown1
     have hnews := cells_new w1 [.int .i64 o2, .int .i64 n2, .string t2, .slice ka2 kn2 kc2] 35
     have HNW := lh hnews
     have hone : ∀ u ∈ [Value.int .i64 o2, .int .i64 n2, .string t2, .slice ka2 kn2 kc2], u.oneCell' = true := by intro u hu; simp at hu; rcases hu with rfl | rfl | rfl | rfl <;> rfl
     have HONE := lh hone
     clear hnew hb1 hrow1 hrow2 hown1 hnews hone y0 y1 y2 y3 q0 q1 q2 q3
     go_wp2_with (at_builtin; refine wpList_append_own_at _ rfl _ _ 30 rfl U.heap.size 35 i0 _ 4 56 Tryz.underlying30 hi hz0 hz1 hz2 rfl (by decide) u7 k xs rfl HR2.o ⟨w1.heap.size, 0, none⟩ 1 1 [.int .i64 o2, .int .i64 n2, .string t2, .slice ka2 kn2 kc2] rfl rfl HNW.o HONE.o (by unfold maxLen; omega) (by omega) (by simp; omega) ?_; intro v' w' hown' hgr hnil hat; have HOWN := lh hown'; have HGR := lh hgr; have HAT := lh hat; clear hown' hgr hnil hat)
     go_roundw
     case rel =>
      obtain ⟨s1, s2, s3, s4⟩ := own_step HB.o HB1.o HO1.o HGR.o HAT.o
      refine ⟨k + 1, _, by omega, by go_num, HOWN.o, ?_, s4⟩
      rw [List.take_succ_eq_append_getElem hlt, List.map_append, List.map_cons, List.map_nil]
      exact FlatP.snoc (PtIn.keep (fun b h => (s3 b h.1 h.2).1) (fun b h => (s3 b h.1 h.2).2) _ _ HNEW.o) _ _ (FlatP.keep s1 s2 _ _ HFLAT.o)
     case measure => simp [intOf]; omega
    ·obtain rfl : k = parts.length := by omega
     obtain ⟨ra, rc, rfl⟩ := slice_of_row hrow
     have f3 := free_box x3
     obtain ⟨z0, z1, z2, z3⟩ := cells4 x6
     have f6 := free_box x6
     have HBW := lh hbw; have HROW := lh hrow; have HFLAT := lh hflat; have HB := lh hB
     have hszr := hB.size
     clear hbw hrow hflat hB x3 x6
     go_wp2_with fail
     have hkp0 : Kept (fun k => k = w.heap.size ∨ k = w.heap.size + 1) wr (wr.setCell ⟨w.heap.size, 3, none⟩ (.slice ra parts.length rc)) := .setCell _ (.inl rfl) _
     have hkp : Kept (fun k => k = w.heap.size ∨ k = w.heap.size + 1) wr (((((wr.setCell ⟨w.heap.size, 3, none⟩ (.slice ra parts.length rc)).setCell ⟨w.heap.size + 1, 0, none⟩ (.int .i64 2)).setCell ⟨w.heap.size + 1, 1, none⟩ (.int .i64 n)).setCell ⟨w.heap.size + 1, 2, none⟩ (.string text)).setCell ⟨w.heap.size + 1, 3, none⟩ (.slice ra parts.length rc)) :=
      (((hkp0.trans (.setCell _ (.inr rfl) _)).trans (.setCell _ (.inr rfl) _)).trans (.setCell _ (.inr rfl) _)).trans (.setCell _ (.inr rfl) _)
     have hs2 := hkp.size
     refine bodyPost_ret (v := .agg #[.int .i64 2, .int .i64 n, .string text, .slice ra parts.length rc]) (by simp [results, Tryz.results145, go_sem, z0, z1, z2, z3]) rfl ⟨⟨_, rfl, ?_⟩, HBW.o.trans (hkp.below (by omega) (by rintro k (rfl | rfl) <;> omega))⟩
     unfold PtNew rnP PtIn
     rw [show (if (2 : Int) = 2 ∧ (text.toList == nm.toList) = true then ot else text) = text from if_neg fun h => he h.2]
     refine ⟨_, rfl, htx, ?_⟩
     rw [rnPs_map, List.length_map]
     refine owned_sl (w := wr) HROW.o (fun b h => ?_) fun b hb hc => ?_
     ·have := HROW.o.lt b h
      exact ⟨by omega, by have := this.2; omega⟩
     ·have hfl := HFLAT.o
      rw [List.take_length] at hfl
      have hbl := HROW.o.lt b hb
      refine FlatP.ptsIn _ _ _ (FlatP.keep (fun x h => hkp.block x h.2.1 (by have := h.1; omega)) (fun x h => ⟨by have := h.1; omega, by have := h.2.1; omega⟩) _ _ hfl) fun i u hi => ?_
      exact (cell_of_heap (hkp.block b hbl.2 (by omega))).trans (hc i u hi)
 ·have HCOND := lh (show (if form = 2 ∧ (text.toList == nm.toList) = true then ot else text) = text from if_neg fun h => h2 h.1)
  go_enter Tryz.func145, Tryz.ntmps145
  go_upto_region 1 with fail
  rw [← hW]
  clear hW
  go_upto_region 3 with fail
  have hx3 := X3.out; have hx6 := X6.out; have hB1 := HB0.out; have hsz := hs
  generalize W = U at *
  clear X3 X6 HB0 y0 y1 y2 y3 f3 hs
  have HB0 := lh hB1; have X3 := lh hx3; have X6 := lh hx6
  clear hB1 hx3 hx6
  go_wp2_with fail
  go_loopw [7, 8] (fun vo i wr => ∃ (k : Nat) (xs : List Value), k ≤ parts.length ∧ i = .int .i64 k ∧ wr.ownsRow U.heap.size 35 4 vo k xs ∧ FlatP (Own U wr vo) wr ((parts.take k).map (rnP nm ot)) xs ∧ Below U.heap.size U wr) (fun _ i _ => parts.length - (intOf i).toNat)
  case atStart => exact ⟨0, [], Nat.zero_le _, rfl, World.ownsRow_nil _ _ _ _, rfl, Below.refl _ _⟩
  case round =>
   obtain ⟨k, xs, hk, rfl, hrow, hflat, hB⟩ := hrel
   have hbw : Below w.heap.size w wr := HB0.o.trans (hB.mono HB0.o.size)
   have x3 := bget hB X3.o (by omega)
   have x6 := bget hB X6.o (by omega)
   obtain ⟨y0, y1, y2, y3⟩ := cells4 x3
   by_cases hlt : k < parts.length
   ·have hlt' : (k : Int) < (parts.length : Int) := by omega
    obtain ⟨b, o, rfl, hbn, hss⟩ := HKA.o (by omega)
    obtain ⟨c0, c1, c2, c3, g0, g1, g2, g3, ht⟩ := PtsAt.get parts b o hss k hlt
    have q0 := (hbw.cell (p := ⟨b, _, none⟩) (Nat.lt_of_lt_of_le hbn hn0)).trans g0
    have q1 := (hbw.cell (p := ⟨b, _, none⟩) (Nat.lt_of_lt_of_le hbn hn0)).trans g1
    have q2 := (hbw.cell (p := ⟨b, _, none⟩) (Nat.lt_of_lt_of_le hbn hn0)).trans g2
    have q3 := (hbw.cell (p := ⟨b, _, none⟩) (Nat.lt_of_lt_of_le hbn hn0)).trans g3
    obtain ⟨oo, nn, tt, ka, kn, kc, rfl, rfl, rfl, rfl⟩ := ht.shape
    have HC := lh (HIH.o _ (kid_ltP k hlt) parts[k] rfl _ wr n₀ (by have := hbw.size; omega) (PtAt.keepH (fun x hx => hbw.block x (by omega)) (Nat.le_refl _) _ _ ht) (lensP_get HLEN.o k hlt))
    have HB := lh hB; have HROW := lh hrow; have HFLAT := lh hflat
    clear g0 g1 g2 g3 hss ht hB hrow hflat x3 x6 hbw
    go_wp2_with fail
    refine HC.o.mono ?_
    rintro e w1 ⟨⟨v2, rfl, hnew⟩, hb1⟩
    have hsz1 := hb1.size
    have hszr := HB.o.size
    obtain ⟨o2, n2, t2, ka2, kn2, kc2, rfl⟩ := PtIn.shape hnew
    have hown1 : ∀ kk, u7.ownBlock = some kk → U.heap.size ≤ kk ∧ kk < wr.heap.size := fun kk h => HROW.o.lt kk h
    have hrow1 : w1.ownsRow U.heap.size 35 4 u7 k xs := HROW.o.kept (row := none) ⟨hb1.os, hb1.tape, hb1.output, hb1.size, fun i hi _ => hb1.block i hi⟩ (by cases u7.ownBlock <;> simp)
    have hrow2 := hrow1.alloc (.cells #[.int .i64 o2, .int .i64 n2, .string t2, .slice ka2 kn2 kc2] 35)
    have HNEW := lh hnew; have HB1 := lh hb1; have HR2 := lh hrow2; have HO1 := lh hown1
    have hnews := cells_new w1 [.int .i64 o2, .int .i64 n2, .string t2, .slice ka2 kn2 kc2] 35
    have HNW := lh hnews
    have hone : ∀ u ∈ [Value.int .i64 o2, .int .i64 n2, .string t2, .slice ka2 kn2 kc2], u.oneCell' = true := by intro u hu; simp at hu; rcases hu with rfl | rfl | rfl | rfl <;> rfl
    have HONE := lh hone
    clear hnew hb1 hrow1 hrow2 hown1 hnews hone y0 y1 y2 y3 q0 q1 q2 q3
    go_wp2_with (at_builtin; refine wpList_append_own_at _ rfl _ _ 30 rfl U.heap.size 35 i0 _ 4 56 Tryz.underlying30 hi hz0 hz1 hz2 rfl (by decide) u7 k xs rfl HR2.o ⟨w1.heap.size, 0, none⟩ 1 1 [.int .i64 o2, .int .i64 n2, .string t2, .slice ka2 kn2 kc2] rfl rfl HNW.o HONE.o (by unfold maxLen; omega) (by omega) (by simp; omega) ?_; intro v' w' hown' hgr hnil hat; have HOWN := lh hown'; have HGR := lh hgr; have HAT := lh hat; clear hown' hgr hnil hat)
    go_roundw
    case rel =>
     obtain ⟨s1, s2, s3, s4⟩ := own_step HB.o HB1.o HO1.o HGR.o HAT.o
     refine ⟨k + 1, _, by omega, by go_num, HOWN.o, ?_, s4⟩
     rw [List.take_succ_eq_append_getElem hlt, List.map_append, List.map_cons, List.map_nil]
     exact FlatP.snoc (PtIn.keep (fun b h => (s3 b h.1 h.2).1) (fun b h => (s3 b h.1 h.2).2) _ _ HNEW.o) _ _ (FlatP.keep s1 s2 _ _ HFLAT.o)
    case measure => simp [intOf]; omega
   ·obtain rfl : k = parts.length := by omega
    obtain ⟨ra, rc, rfl⟩ := slice_of_row hrow
    have f3 := free_box x3
    obtain ⟨z0, z1, z2, z3⟩ := cells4 x6
    have f6 := free_box x6
    have HBW := lh hbw; have HROW := lh hrow; have HFLAT := lh hflat; have HB := lh hB
    have hszr := hB.size
    clear hbw hrow hflat hB x3 x6
    go_wp2_with fail
    have hkp0 : Kept (fun k => k = w.heap.size ∨ k = w.heap.size + 1) wr (wr.setCell ⟨w.heap.size, 3, none⟩ (.slice ra parts.length rc)) := .setCell _ (.inl rfl) _
    have hkp : Kept (fun k => k = w.heap.size ∨ k = w.heap.size + 1) wr (((((wr.setCell ⟨w.heap.size, 3, none⟩ (.slice ra parts.length rc)).setCell ⟨w.heap.size + 1, 0, none⟩ (.int .i64 form)).setCell ⟨w.heap.size + 1, 1, none⟩ (.int .i64 n)).setCell ⟨w.heap.size + 1, 2, none⟩ (.string text)).setCell ⟨w.heap.size + 1, 3, none⟩ (.slice ra parts.length rc)) :=
     (((hkp0.trans (.setCell _ (.inr rfl) _)).trans (.setCell _ (.inr rfl) _)).trans (.setCell _ (.inr rfl) _)).trans (.setCell _ (.inr rfl) _)
    have hs2 := hkp.size
    refine bodyPost_ret (v := .agg #[.int .i64 form, .int .i64 n, .string text, .slice ra parts.length rc]) (by simp [results, Tryz.results145, go_sem, z0, z1, z2, z3]) rfl ⟨⟨_, rfl, ?_⟩, HBW.o.trans (hkp.below (by omega) (by rintro k (rfl | rfl) <;> omega))⟩
    unfold PtNew rnP PtIn
    rw [show (if form = 2 ∧ (text.toList == nm.toList) = true then ot else text) = text from if_neg fun h => h2 h.1]
    refine ⟨_, rfl, htx, ?_⟩
    rw [rnPs_map, List.length_map]
    refine owned_sl (w := wr) HROW.o (fun b h => ?_) fun b hb hc => ?_
    ·have := HROW.o.lt b h
     exact ⟨by omega, by have := this.2; omega⟩
    ·have hfl := HFLAT.o
     rw [List.take_length] at hfl
     have hbl := HROW.o.lt b hb
     refine FlatP.ptsIn _ _ _ (FlatP.keep (fun x h => hkp.block x h.2.1 (by have := h.1; omega)) (fun x h => ⟨by have := h.1; omega, by have := h.2.1; omega⟩) _ _ hfl) fun i u hi => ?_
     exact (cell_of_heap (hkp.block b hbl.2 (by omega))).trans (hc i u hi)
set_option maxHeartbeats 2000000 in
set_option maxRecDepth 100000 in
theorem Binds_any (T : Tm) (i : Nat) (v : Value) (w : World) (hT : TmAt w.heap.size w T v) (hi : i < 1000000) (hp : T.op = 15 → 0 < i → i - 1 < T.pats.length)
  (hh : ∀ p ∈ T.pats, patsB p = true ∧ (partsP 1 p).length ≤ 1000000) :
  Calls Tryz.prog 106 #[v, .int .i64 i] w fun e w' => (∃ v', e = .returned v' ∧ SlIn (Fresh w w') v' (boundL T i).length fun b o => StrsAt w' (boundL T i) b o) ∧ Below w.heap.size w w' := by
 obtain ⟨a, cap, a', cap', rfl, htx, hk, hps⟩ := hT.parts
 have HTX := lh htx; have HPS := lh hps; have HH := lh hh; have HP := lh hp
 clear htx hps hk hT hh hp
 have fin1 : ∀ o, boundL T i = [T.text] → (∃ v', Ending.returned (.slice (some ⟨w.heap.size + 1, 0, none⟩) 1 1) = Ending.returned v' ∧ SlIn (Fresh w ((w.alloc o).alloc (.cells #[.string T.text] 9))) v' (boundL T i).length fun b o' => StrsAt ((w.alloc o).alloc (.cells #[.string T.text] 9)) (boundL T i) b o') ∧ Below w.heap.size w ((w.alloc o).alloc (.cells #[.string T.text] 9)) := by
  intro o hb
  rw [hb]
  have hc := heap_alloc_new (w.alloc o) (.cells #[.string T.text] 9)
  rw [World.size_alloc] at hc
  refine ⟨⟨_, rfl, .inr ⟨w.heap.size + 1, 0, 1, rfl, Nat.le_refl _, by unfold maxLen; omega, ⟨by omega, by simp⟩, ⟨⟨cell_box hc, HTX.o⟩, trivial⟩⟩⟩, ((Below.refl _ w).alloc (Nat.le_refl _) _).alloc (by simp) _⟩
 have fin0 : ∀ o, boundL T i = [] → (∃ v', Ending.returned (.slice none 0 0) = Ending.returned v' ∧ SlIn (Fresh w (w.alloc o)) v' (boundL T i).length fun b o' => StrsAt (w.alloc o) (boundL T i) b o') ∧ Below w.heap.size w (w.alloc o) := by
  intro o hb
  rw [hb]
  exact ⟨⟨_, rfl, .inl ⟨rfl, rfl⟩⟩, (Below.refl _ w).alloc (Nat.le_refl _) _⟩
 have FIN1 := lh fin1; have FIN0 := lh fin0
 clear fin1 fin0
 go_enter Tryz.func106, Tryz.ntmps106
 by_cases h5 : T.op = 5
 ·have hb : Hid (boundL T i = [T.text]) := by unfold Hid boundL; simp [h5]
  go_wp2
  go_ret
  exact FIN1.o _ hb.o
 by_cases h27 : T.op = 27
 ·have hb : Hid (boundL T i = [T.text]) := by unfold Hid boundL; simp [h27]
  go_wp2
  go_ret
  exact FIN1.o _ hb.o
 by_cases h7 : T.op = 7
 ·by_cases hi1 : i = 1
  ·have hb : Hid (boundL T i = [T.text]) := by unfold Hid boundL; simp [h7, hi1]
   subst hi1
   go_wp2
   go_ret
   exact FIN1.o _ hb.o
  ·have hb : Hid (boundL T i = []) := by unfold Hid boundL; simp [h7, hi1]
   have hi1' : ¬ ((i : Int) = 1) := by omega
   go_wp2
   go_ret
   exact FIN0.o _ hb.o
 by_cases h15 : T.op = 15
 ·by_cases hi0 : 0 < i
  ·obtain ⟨j, rfl⟩ : ∃ j, i = j + 1 := ⟨i - 1, by omega⟩
   have hj : j < T.pats.length := by simpa using HP.o h15 hi0
   have hb : Hid (boundL T (j + 1) = namesP T.pats[j]) := by unfold Hid boundL; simp [h15, hj]
   have hbox := heap_alloc_new w (.cells #[.int .i64 15, .int .i64 T.n, .string T.text, .slice a T.kids.length cap, .slice a' T.pats.length cap'] 32)
   obtain ⟨b, o, cap2, he, hc1, hc2, hbn, hss⟩ : ∃ b o cap2, (Value.slice a' T.pats.length cap') = .slice (some ⟨b, o, none⟩) T.pats.length cap2 ∧ T.pats.length ≤ cap2 ∧ cap2 ≤ maxLen ∧ b < w.heap.size ∧ PtsAt w.heap.size w T.pats b o := by
    rcases HPS.o with ⟨h, -⟩ | ⟨b, o, cap2, h1, h2, h3, h4, h5⟩
    ·omega
    ·exact ⟨b, o, cap2, h1, h2, h3, h4, h5⟩
   cases he
   obtain ⟨c0, c1, c2, c3, g0, g1, g2, g3, ht⟩ := PtsAt.get T.pats b o hss j hj
   have hBl : Below w.heap.size w (w.alloc (.cells #[.int .i64 15, .int .i64 T.n, .string T.text, .slice a T.kids.length cap, .slice (some ⟨b, o, none⟩) T.pats.length cap'] 32)) := (Below.refl _ w).alloc (Nat.le_refl _) _
   have q0 := (hBl.cell (p := ⟨b, _, none⟩) hbn).trans g0
   have q1 := (hBl.cell (p := ⟨b, _, none⟩) hbn).trans g1
   have q2 := (hBl.cell (p := ⟨b, _, none⟩) hbn).trans g2
   have q3 := (hBl.cell (p := ⟨b, _, none⟩) hbn).trans g3
   have hpj := HH.o _ (List.getElem_mem hj)
   have hnl : (patN T.pats[j]).length ≤ 1000000 := by have := patN_le T.pats[j] 1; omega
   have hnm := PatNames_any T.pats[j] (.agg #[c0, c1, c2, c3]) _ (PtAt.keep hBl hBl.size _ _ ht) (partsP_lens _ 1 hpj.2) hnl
   rw [patN_names _ 1 hpj.1] at hnm
   have HNM := lh hnm; have HBL := lh hBl
   clear hnm hBl hss ht g0 g1 g2 g3 hbox hpj hnl
   go_wp2_with fail
   refine HNM.o.mono ?_
   rintro e w1 ⟨⟨v2, rfl, hsl⟩, hb1⟩
   obtain ⟨a2, cap2, rfl⟩ := hsl.split
   have HSL := lh hsl; have HB1 := lh hb1
   clear hsl hb1
   go_wp2
   go_ret
   rw [hb.o]
   exact ⟨⟨_, rfl, HSL.o.mono (fun b h => ⟨by have := h.1; simp at this; omega, h.2⟩) fun _ _ _ h => h⟩, HBL.o.trans (HB1.o.mono (by simp))⟩
  ·have hb : Hid (boundL T i = []) := by unfold Hid boundL; simp [h15, hi0]
   have hi0' : i = 0 := by omega
   subst hi0'
   go_wp2
   go_ret
   exact FIN0.o _ hb.o
 ·have hb : Hid (boundL T i = []) := by unfold Hid boundL; simp [h5, h27, h7, h15]
  go_wp2
  go_ret
  exact FIN0.o _ hb.o
end Go.Proofs.YtjpahjfjpkbcnaaGreat
