/- Contracts of the program's functions. -/
import Derived.Test.YtjpahjfjpkbcnaaGreatS16
import Derived.Test.YtjpahjfjpkbcnaaGreatS15
import Derived.Test.YtjpahjfjpkbcnaaGreatS04
import Derived.Test.YtjpahjfjpkbcnaaGreatS08

namespace Go.Proofs.YtjpahjfjpkbcnaaGreat
open Go.Proofs Go.RowKit
set_option maxHeartbeats 8000000 in
set_option maxRecDepth 100000 in
theorem renX_any (nm ot : ByteArray) (hot : ot.size ≤ maxLen) (T : Tm) : ∀ (v : Value) (w : World) (B : Nat → Prop), (∀ b, B b → b < w.heap.size) → TmX B w T v → okF T →
  Calls Tryz.prog 144 #[v, .string nm, .string ot] w fun e w' => (∃ v', e = .returned v' ∧ TmX (fun b => B b ∨ Fresh w w' b) w' (rnM nm ot T) v') ∧ Below w.heap.size w w' := by
 induction hT : SizeOf.sizeOf T using Nat.strongRecOn generalizing T with
 | _ m ih =>
 subst hT
 intro v w B hBb hv hok
 obtain ⟨i0, hi, hz0, hz1, hz2⟩ := info_parts Tz.info32
 have HIH := lh ih; clear ih
 cases T with
 | mk op n text kids pats =>
 have hvv := hv
 unfold TmX at hv
 obtain ⟨kv, pv, rfl, htx, hk, hp⟩ := hv
 obtain ⟨a, cap, rfl, hcap, hlc, hka⟩ := hk.split
 obtain ⟨a', cap', rfl, -⟩ := hp.split
 have hok' := hok
 unfold okF at hok
 have hl := hok.2.1
 unfold maxLen at hcap
 have HKA := lh hka; have HOK := lh hok; have HK := lh hk; have HPP := lh hp; have HV := lh hvv
 obtain ⟨W, hW, hB0, hs, hx3, hx6⟩ := two_boxes' w #[.int .i64 op, .int .i64 n, .string text, .slice a kids.length cap, .slice a' pats.length cap'] #[.int .i64 0, .int .i64 0, .string ⟨#[]⟩, .slice none 0 0, .slice none 0 0] 32 32
 clear hk hka hp hok hok' hvv
 have HB0 := lh hB0; have X6 := lh hx6; have X3 := lh hx3
 obtain ⟨y0, y1, y2, y3, y4⟩ := cells5 hx3
 have f3 := free_box hx3
 obtain ⟨z0, z1, z2, z3, z4⟩ := cells5 hx6
 have f6 := free_box hx6
 clear hB0 hx6 hx3
 by_cases h4 : op = 4
 ·subst h4
  by_cases he : (text.toList == nm.toList) = true
  ·go_enter Tryz.func144, Tryz.ntmps144
   go_upto_region 1 with fail
   rw [← hW]
   clear hW
   go_wp2_with fail
   have k1 : Kept (fun k => k = w.heap.size ∨ k = w.heap.size + 1) W (W.setCell ⟨w.heap.size, 2, none⟩ (.string ot)) := .setCell _ (.inl rfl) _
   have hkp := k1.trans ((kept5 _ (w.heap.size + 1) (.int .i64 4) (.int .i64 n) (.string ot) (.slice a kids.length cap) (.slice a' pats.length cap')).mono (fun b h => .inr h))
   have hbf := HB0.out.trans (hkp.below (n₀ := w.heap.size) (by omega) (by rintro k (rfl | rfl) <;> omega))
   have hsz := hbf.size
   have hat : TmX B w (.mk 4 n ot kids pats) (.agg #[.int .i64 4, .int .i64 n, .string ot, .slice a kids.length cap, .slice a' pats.length cap']) := by unfold TmX; exact ⟨_, _, rfl, hot, HK.out, HPP.out⟩
   rw [rnM_mk, if_pos rfl, if_pos he]
   refine bodyPost_ret (v := .agg #[.int .i64 4, .int .i64 n, .string ot, .slice a kids.length cap, .slice a' pats.length cap']) (by simp [results, Tryz.results144, go_sem, z0, z1, z2, z3, z4]) rfl ⟨⟨_, rfl, TmX.keep (fun b hb => hbf.block b (hBb b hb)) (fun b hb => Or.inl hb) _ _ hat⟩, hbf⟩
  ·have he' : (text.toList == nm.toList) = false := by simpa using he
   go_enter Tryz.func144, Tryz.ntmps144
   go_upto_region 1 with fail
   rw [← hW]
   clear hW
   go_wp2_with fail
   have hkp := (kept5 W (w.heap.size + 1) (.int .i64 4) (.int .i64 n) (.string text) (.slice a kids.length cap) (.slice a' pats.length cap')).mono (S' := fun k => k = w.heap.size ∨ k = w.heap.size + 1) (fun b h => .inr h)
   have hbf := HB0.out.trans (hkp.below (n₀ := w.heap.size) (by omega) (by rintro k (rfl | rfl) <;> omega))
   have hsz := hbf.size
   have hat : TmX B w (.mk 4 n text kids pats) (.agg #[.int .i64 4, .int .i64 n, .string text, .slice a kids.length cap, .slice a' pats.length cap']) := by unfold TmX; exact ⟨_, _, rfl, htx, HK.out, HPP.out⟩
   rw [rnM_mk, if_pos rfl, if_neg he]
   refine bodyPost_ret (v := .agg #[.int .i64 4, .int .i64 n, .string text, .slice a kids.length cap, .slice a' pats.length cap']) (by simp [results, Tryz.results144, go_sem, z0, z1, z2, z3, z4]) rfl ⟨⟨_, rfl, TmX.keep (fun b hb => hbf.block b (hBb b hb)) (fun b hb => Or.inl hb) _ _ hat⟩, hbf⟩
 have h4' : (op == 4) = false := by simpa using h4
 rw [rnM_mk, if_neg h4]
 go_enter Tryz.func144, Tryz.ntmps144
 go_upto_region 1 with fail
 rw [← hW]
 clear hW y0 y1 y2 y3 y4 f3 z0 z1 z2 z3 z4 f6
 obtain ⟨y0, y1, y2, y3, y4⟩ := cells5 X3.out
 go_wp2_with fail
 go_loopw [7, 8] (fun vo i wr => ∃ (k : Nat) (xs : List Value), k ≤ kids.length ∧ i = .int .i64 k ∧ wr.ownsRow W.heap.size 32 5 vo k xs ∧ FlaM (OwnX B W wr vo) wr (rnK nm ot (boundL (.mk op n text kids pats)) (kids.take k) 0) xs ∧ Below W.heap.size W wr) (fun _ i _ => kids.length - (intOf i).toNat)
 case atStart => exact ⟨0, [], Nat.zero_le _, rfl, World.ownsRow_nil _ _ _ _, by rw [List.take_zero, rnK_nil]; rfl, Below.refl _ _⟩
 case round =>
  obtain ⟨k, xs, hk, rfl, hrow, hflat, hB⟩ := hrel
  clear y0 y1 y2 y3 y4
  have hbw : Below w.heap.size w wr := HB0.out.trans (hB.mono HB0.out.size)
  have x3 := bget hB X3.out (by omega)
  have x6 := bget hB X6.out (by omega)
  obtain ⟨y0, y1, y2, y3, y4⟩ := cells5 x3
  have hszr := hB.size
  have hszw := hbw.size
  by_cases hlt : k < kids.length
  ·have hlt' : (k : Int) < (kids.length : Int) := by omega
   obtain ⟨b, o, rfl, hbn, hss⟩ := HKA.out (by omega)
   obtain ⟨c0, c1, c2, c3, c4, g0, g1, g2, g3, g4, ht⟩ := TmsX.get kids b o hss k hlt
   have q0 := (hbw.cell (p := ⟨b, _, none⟩) (hBb b hbn)).trans g0
   have q1 := (hbw.cell (p := ⟨b, _, none⟩) (hBb b hbn)).trans g1
   have q2 := (hbw.cell (p := ⟨b, _, none⟩) (hBb b hbn)).trans g2
   have q3 := (hbw.cell (p := ⟨b, _, none⟩) (hBb b hbn)).trans g3
   have q4 := (hbw.cell (p := ⟨b, _, none⟩) (hBb b hbn)).trans g4
   obtain ⟨oo, nn, tt, ka, kn, kc, pa, pn, pc, rfl, rfl, rfl, rfl, rfl⟩ := ht.cells
   have HTK := lh ht; have HB := lh hB; have HROW := lh hrow; have HFLAT := lh hflat; have HBW := lh hbw
   have Y3 := lh x3
   clear g0 g1 g2 g3 g4 hss ht hB hrow hflat x3 x6 hbw
   go_upto_region 10 with fail
   have hxk := heap_alloc_new wr (.cells #[.int .i64 oo, .int .i64 nn, .string tt, .slice ka kn kc, .slice pa pn pc] 32)
   have hb1 : Below wr.heap.size wr (wr.alloc (.cells #[.int .i64 oo, .int .i64 nn, .string tt, .slice ka kn kc, .slice pa pn pc] 32)) := (Below.refl _ wr).alloc (Nat.le_refl _) _
   generalize (wr.alloc (.cells #[.int .i64 oo, .int .i64 nn, .string tt, .slice ka kn kc, .slice pa pn pc] 32)) = V1 at *
   have XK := lh hxk; have HB1 := lh hb1
   have x3 := bget' hb1 Y3.out
   have hsz1 := hb1.size
   have hlt1 := lt_of_block hxk
   clear hxk hb1 y0 y1 y2 y3 y4 q0 q1 q2 q3 q4
   obtain ⟨y0, y1, y2, y3, y4⟩ := cells5 x3
   have hbin := Binds_any (.mk op n text kids pats) k (.agg #[.int .i64 op, .int .i64 n, .string text, .slice (some ⟨b, o, none⟩) kids.length cap, .slice a' pats.length cap']) V1 (TmX.to (B := B) (fun b hb => by have := hBb b hb; omega) _ _ (TmX.keep (fun x hx => by have := hBb x hx; exact (HB1.out.block x (by omega)).trans (HBW.out.block x (by omega))) (fun _ h => h) _ _ HV.out)) (by omega) (fun h15 h0 => by have := HOK.out.1 h15; show k - 1 < pats.length; omega) HOK.out.2.2.1
   have HBI := lh hbin
   clear hbin x3
   go_wp2_with fail
   refine HBI.out.mono ?_
   rintro e V2 ⟨⟨bv, rfl, hbv⟩, hb2⟩
   obtain ⟨ba, bc, rfl⟩ := hbv.split
   have HBV := lh (hbv.to (n₀ := V2.heap.size) (fun b h => h.2) fun _ _ h => h)
   have HB2 := lh (HB1.out.trans (hb2.mono hsz1))
   have XK2 := lh (bget' hb2 XK.out)
   have hsz2 := hb2.size
   clear hbv hb2 y0 y1 y2 y3 y4 XK
   go_wp2_with fail
   refine (Has_any (boundL (.mk op n text kids pats) k) _ nm V2 HBV.out).mono ?_
   rintro e V3 ⟨rfl, hb3⟩
   have HB3 := lh (HB2.out.trans (hb3.mono HB2.out.size))
   have XK3 := lh (bget' hb3 XK2.out)
   have hsz3 := hb3.size
   clear hb3 XK2
   obtain ⟨r0, r1, r2, r3, r4⟩ := cells5 XK3.out
   cases hbd : hasB (boundL (.mk op n text kids pats) k) nm with

   | true =>
    have HBX := HB3
    have hown1 : ∀ kk, u7.ownBlock = some kk → W.heap.size ≤ kk ∧ kk < wr.heap.size := fun kk h => HROW.out.lt kk h
    have hrow1 : V3.ownsRow W.heap.size 32 5 u7 k xs := HROW.out.kept (row := none) ⟨HBX.out.os, HBX.out.tape, HBX.out.output, HBX.out.size, fun i hi _ => HBX.out.block i hi⟩ (by cases u7.ownBlock <;> simp)
    have hrow2 := hrow1.alloc (.cells #[.int .i64 oo, .int .i64 nn, .string tt, .slice ka kn kc, .slice pa pn pc] 32)
    have HR2 := lh hrow2; have HO1 := lh hown1
    have hnews := cells_new V3 [.int .i64 oo, .int .i64 nn, .string tt, .slice ka kn kc, .slice pa pn pc] 32
    have HNW := lh hnews
    have hone : ∀ u ∈ [Value.int .i64 oo, .int .i64 nn, .string tt, .slice ka kn kc, .slice pa pn pc], u.oneCell' = true := by intro u hu; simp at hu; rcases hu with rfl | rfl | rfl | rfl | rfl <;> rfl
    have HONE := lh hone
    clear hrow1 hrow2 hown1 hnews hone
    go_wp2_with (at_builtin; refine wpList_append_own_at _ rfl _ _ 29 rfl W.heap.size 32 i0 _ 5 80 Tryz.underlying29 hi hz0 hz1 hz2 rfl (by decide) u7 k xs rfl HR2.out ⟨V3.heap.size, 0, none⟩ 1 1 [.int .i64 oo, .int .i64 nn, .string tt, .slice ka kn kc, .slice pa pn pc] rfl rfl HNW.out HONE.out (by unfold maxLen; omega) (by omega) (by simp; omega) ?_; intro v' w' hown' hgr hnil hat; have HOWN := lh hown'; have HGR := lh hgr; have HAT := lh hat; clear hown' hgr hnil hat)
    go_roundw
    case rel =>
     obtain ⟨s1, s2, s3, s4⟩ := ownX_step (B := B) (fun b hb => by have := hBb b hb; omega) HB.out HBX.out HO1.out HGR.out HAT.out
     refine ⟨k + 1, _, by omega, by go_num, HOWN.out, ?_, s4⟩
     have hgs := HGR.out.size
     simp at hgs
     rw [List.take_succ_eq_append_getElem hlt, rnK_snoc, List.length_take, Nat.min_eq_left (by omega), Nat.zero_add, hbd]
     refine FlaM.snoc ?_ _ _ (FlaM.keep s1 s2 _ _ HFLAT.out)
     exact TmX.keep (fun x hx => by have := hBb x hx; exact (s3 x (.inl hx) (by omega)).1.trans ((HB3.out.block x (by omega)).trans (HBW.out.block x (by omega)))) (fun x hx => by have := hBb x hx; exact (s3 x (.inl hx) (by omega)).2) _ _ HTK.out
    case measure => simp [intOf]; omega

   | false =>
    go_wp2_with fail
    refine (HIH.out _ (kid_lt k hlt) kids[k] rfl _ V3 B (fun b hb => by have := hBb b hb; omega) (TmX.keep (fun x hx => by have := hBb x hx; exact (HB3.out.block x (by omega)).trans (HBW.out.block x (by omega))) (fun _ h => h) _ _ HTK.out) (okFs_get HOK.out.2.2.2 k hlt)).mono ?_
    rintro e V4 ⟨⟨v2, rfl, hfar⟩, hb4⟩
    obtain ⟨va, vc, va', vc', rfl⟩ := hfar.shape
    have HFX := lh hfar
    have xk4 := bget' hb4 XK3.out
    have hsz4 := hb4.size
    have HB4 := lh (HB3.out.trans (hb4.mono HB3.out.size))
    clear hfar hb4 r0 r1 r2 r3 r4
    obtain ⟨r0, r1, r2, r3, r4⟩ := cells5 xk4
    have fk := free_box xk4
    go_upto_region 12 with fail
    have hkp := kept5 V4 wr.heap.size (.int .i64 (rnM nm ot kids[k]).op) (.int .i64 (rnM nm ot kids[k]).n) (.string (rnM nm ot kids[k]).text) (.slice va (rnM nm ot kids[k]).kids.length vc) (.slice va' (rnM nm ot kids[k]).pats.length vc')
    have xk5 := box_set5 xk4 (.int .i64 (rnM nm ot kids[k]).op) (.int .i64 (rnM nm ot kids[k]).n) (.string (rnM nm ot kids[k]).text) (.slice va (rnM nm ot kids[k]).kids.length vc) (.slice va' (rnM nm ot kids[k]).pats.length vc')
    generalize (((((V4.setCell ⟨wr.heap.size, 0, none⟩ (.int .i64 (rnM nm ot kids[k]).op)).setCell ⟨wr.heap.size, 1, none⟩ (.int .i64 (rnM nm ot kids[k]).n)).setCell ⟨wr.heap.size, 2, none⟩ (.string (rnM nm ot kids[k]).text)).setCell ⟨wr.heap.size, 3, none⟩ (.slice va (rnM nm ot kids[k]).kids.length vc)).setCell ⟨wr.heap.size, 4, none⟩ (.slice va' (rnM nm ot kids[k]).pats.length vc')) = V5 at *
    have hsz5 := hkp.size
    have HBX := lh (HB4.out.trans (hkp.below (n₀ := wr.heap.size) (by omega) (by rintro x rfl; omega)))
    have h5 : ∀ b, (B b ∨ Fresh V3 V4 b) → b < V4.heap.size ∧ ¬ b = wr.heap.size := fun b h => by
     rcases h with h | h
     ·have := hBb b h; exact ⟨by omega, by omega⟩
     ·have h1 := h.1; exact ⟨h.2, by omega⟩
    have HFX5 := lh (TmX.keep (B := fun b => B b ∨ Fresh V3 V4 b) (B' := fun b => B b ∨ Fresh V3 V4 b) (w := V4) (w' := V5) (fun b h => hkp.block b (h5 b h).1 (h5 b h).2) (fun b h => h) _ _ HFX.out)
    clear hkp r0 r1 r2 r3 r4 fk xk4
    obtain ⟨r0, r1, r2, r3, r4⟩ := cells5 xk5
    clear xk5
    have hown1 : ∀ kk, u7.ownBlock = some kk → W.heap.size ≤ kk ∧ kk < wr.heap.size := fun kk h => HROW.out.lt kk h
    have hrow1 : V5.ownsRow W.heap.size 32 5 u7 k xs := HROW.out.kept (row := none) ⟨HBX.out.os, HBX.out.tape, HBX.out.output, HBX.out.size, fun i hi _ => HBX.out.block i hi⟩ (by cases u7.ownBlock <;> simp)
    have hrow2 := hrow1.alloc (.cells #[.int .i64 (rnM nm ot kids[k]).op, .int .i64 (rnM nm ot kids[k]).n, .string (rnM nm ot kids[k]).text, .slice va (rnM nm ot kids[k]).kids.length vc, .slice va' (rnM nm ot kids[k]).pats.length vc'] 32)
    have HR2 := lh hrow2; have HO1 := lh hown1
    have hnews := cells_new V5 [.int .i64 (rnM nm ot kids[k]).op, .int .i64 (rnM nm ot kids[k]).n, .string (rnM nm ot kids[k]).text, .slice va (rnM nm ot kids[k]).kids.length vc, .slice va' (rnM nm ot kids[k]).pats.length vc'] 32
    have HNW := lh hnews
    have hone : ∀ u ∈ [Value.int .i64 (rnM nm ot kids[k]).op, .int .i64 (rnM nm ot kids[k]).n, .string (rnM nm ot kids[k]).text, .slice va (rnM nm ot kids[k]).kids.length vc, .slice va' (rnM nm ot kids[k]).pats.length vc'], u.oneCell' = true := by intro u hu; simp at hu; rcases hu with rfl | rfl | rfl | rfl | rfl <;> rfl
    have HONE := lh hone
    clear hrow1 hrow2 hown1 hnews hone
    go_wp2_with (at_builtin; refine wpList_append_own_at _ rfl _ _ 29 rfl W.heap.size 32 i0 _ 5 80 Tryz.underlying29 hi hz0 hz1 hz2 rfl (by decide) u7 k xs rfl HR2.out ⟨V5.heap.size, 0, none⟩ 1 1 [.int .i64 (rnM nm ot kids[k]).op, .int .i64 (rnM nm ot kids[k]).n, .string (rnM nm ot kids[k]).text, .slice va (rnM nm ot kids[k]).kids.length vc, .slice va' (rnM nm ot kids[k]).pats.length vc'] rfl rfl HNW.out HONE.out (by unfold maxLen; omega) (by omega) (by simp; omega) ?_; intro v' w' hown' hgr hnil hat; have HOWN := lh hown'; have HGR := lh hgr; have HAT := lh hat; clear hown' hgr hnil hat)
    go_roundw
    case rel =>
     obtain ⟨s1, s2, s3, s4⟩ := ownX_step (B := B) (fun b hb => by have := hBb b hb; omega) HB.out HBX.out HO1.out HGR.out HAT.out
     refine ⟨k + 1, _, by omega, by go_num, HOWN.out, ?_, s4⟩
     have hgs := HGR.out.size
     simp at hgs
     rw [List.take_succ_eq_append_getElem hlt, rnK_snoc, List.length_take, Nat.min_eq_left (by omega), Nat.zero_add, hbd]
     refine FlaM.snoc ?_ _ _ (FlaM.keep s1 s2 _ _ HFLAT.out)
     have hwv : wr.heap.size ≤ V3.heap.size := by omega
     have s5 : ∀ b, (B b ∨ Fresh V3 V4 b) → (B b ∨ wr.heap.size ≤ b) ∧ b < V5.heap.size := fun b h => by
      rcases h with h | h
      ·have := hBb b h; exact ⟨.inl h, by omega⟩
      ·have h1 := h.1; have h2 := h.2; exact ⟨.inr (by omega), by omega⟩
     exact TmX.keep (fun b h => (s3 b (s5 b h).1 (s5 b h).2).1) (fun b h => (s3 b (s5 b h).1 (s5 b h).2).2) _ _ HFX5.out
    case measure => simp [intOf]; omega

  ·obtain rfl : k = kids.length := by omega
   obtain ⟨ra, rc, rfl⟩ := slice_of_row hrow
   have f3 := free_box x3
   obtain ⟨z0, z1, z2, z3, z4⟩ := cells5 x6
   have f6 := free_box x6
   have HBW := lh hbw; have HROW := lh hrow; have HFLAT := lh hflat; have HB := lh hB
   clear hbw hrow hflat hB x3 x6
   go_wp2_with fail
   have hkp0 : Kept (fun k => k = w.heap.size ∨ k = w.heap.size + 1) wr (wr.setCell ⟨w.heap.size, 3, none⟩ (.slice ra kids.length rc)) := .setCell _ (.inl rfl) _
   have hkp := hkp0.trans ((kept5 _ (w.heap.size + 1) (.int .i64 op) (.int .i64 n) (.string text) (.slice ra kids.length rc) (.slice a' pats.length cap')).mono (fun b h => .inr h))
   have hs2 := hkp.size
   have hbf := HBW.out.trans (hkp.below (n₀ := w.heap.size) (by omega) (by rintro k (rfl | rfl) <;> omega))
   have hfl := HFLAT.out
   rw [List.take_length] at hfl
   have own : ∀ b, OwnX B W wr (.slice ra kids.length rc) b → b < wr.heap.size ∧ ¬ (b = w.heap.size ∨ b = w.heap.size + 1) ∧ (B b ∨ w.heap.size ≤ b) := fun b h => by
    rcases h with h | h
    ·have := hBb b h; exact ⟨by omega, by omega, .inl h⟩
    ·have h1 := h.1; have h2 := h.2.1
     exact ⟨by omega, by omega, .inr (by omega)⟩
   refine bodyPost_ret (v := .agg #[.int .i64 op, .int .i64 n, .string text, .slice ra kids.length rc, .slice a' pats.length cap']) (by simp [results, Tryz.results144, go_sem, z0, z1, z2, z3, z4]) rfl ⟨⟨_, rfl, ?_⟩, hbf⟩
   unfold TmX
   refine ⟨_, _, rfl, htx, ?_, HPP.out.mono (fun b h => .inl h) fun b o hlt h => PtsX.keep (fun x hx => hbf.block x (hBb x hx)) (fun x h => .inl h) _ _ _ hlt h⟩
   rw [rnK_len]
   refine SlX.ofIn (R := fun b o => TmsX _ _ _ b o) (owned_sl HROW.out (fun b h => ?_) fun b hb hc => ?_) fun _ _ h => h
   ·have := HROW.out.lt b h
    exact .inr ⟨by omega, by have := this.2; omega⟩
   ·have hbl := HROW.out.lt b hb
    refine FlaM.tmsX _ _ _ (FlaM.keep (fun x h => hkp.block x (own x h).1 (own x h).2.1) (fun x h => (own x h).2.2.imp_right fun h' => ⟨h', by have := (own x h).1; omega⟩) _ _ hfl) fun i u hi => ?_
    exact (cell_of_heap (hkp.block b hbl.2 (by omega))).trans (hc i u hi)
set_option maxHeartbeats 8000000 in
set_option maxRecDepth 100000 in
theorem rebX_any (nm ot : ByteArray) (hot : ot.size ≤ maxLen) (T : Tm) (i : Nat) (v : Value) (w : World) (B : Nat → Prop) (hBb : ∀ b, B b → b < w.heap.size) (hv : TmX B w T v) (hok : okF T) (hlen : lensM T) (hik : i < T.kids.length) (hip : T.op = 15 → 0 < i ∧ i - 1 < T.pats.length) :
  Calls Tryz.prog 110 #[v, .int .i64 i, .string nm, .string ot] w fun e w' => (∃ v', e = .returned v' ∧ TmX (fun b => B b ∨ Fresh w w' b) w' (rbM nm ot i T) v') ∧ Below w.heap.size w w' := by
 obtain ⟨i0, hi, hz0, hz1, hz2⟩ := info_parts Tz.info32
 cases T with
 | mk op n text kids pats =>
 change i < kids.length at hik
 change op = 15 → 0 < i ∧ i - 1 < pats.length at hip
 unfold TmX at hv
 obtain ⟨kv, pv, rfl, htx, hk, hp⟩ := hv
 obtain ⟨a, cap, rfl, hcap, hlc, hka⟩ := hk.split
 obtain ⟨a', cap', rfl, hcap', hlc', hpa⟩ := hp.split
 obtain ⟨kb, ko, rfl, hkb, hks⟩ := hka (by omega)
 obtain ⟨cs, hflat, hcs⟩ := FlaM.of _ _ hks
 have hcl := FlaM.length _ _ hflat
 have hone := FlaM.one _ _ hflat
 obtain ⟨c0, c1, c2, c3, c4, e0, e1, e2, e3, e4, hkid⟩ := FlaM.get _ _ hflat i hik
 obtain ⟨oo, nn, tt, ka, kn, kc, pa, pn, pc, rfl, rfl, rfl, rfl, rfl⟩ := hkid.cells
 unfold lensM at hlen
 have hl := hlen.1
 have hl' := hlen.2.1
 have hokk := hok
 unfold okF at hokk
 obtain ⟨W, hW, hB0, hs, hx4, hx8⟩ := two_boxes' w #[.int .i64 op, .int .i64 n, .string text, .slice (some ⟨kb, ko, none⟩) kids.length cap, .slice a' pats.length cap'] #[.int .i64 0, .int .i64 0, .string ⟨#[]⟩, .slice none 0 0, .slice none 0 0] 32 32
 have HB0 := lh hB0; have X8 := lh hx8; have X4 := lh hx4; have HKID := lh hkid; have HFL := lh hflat; have HPP := lh hp; have HPA := lh hpa
 have HKOK := lh (okFs_get hokk.2.2.2 i hik)
 have hnews : ∀ j u, cs[j]? = some u → W.cell? ((⟨kb, ko, none⟩ : Addr).add j) = some u := fun j u hj => by
  have : ((⟨kb, ko, none⟩ : Addr).add j) = ⟨kb, ko + j, none⟩ := by unfold Addr.add; split <;> simp_all
  rw [this]
  exact (hB0.cell (p := ⟨kb, _, none⟩) (hBb kb hkb)).trans (hcs j u hj)
 have HNW := lh hnews; have HONE := lh hone
 have hik' : (i : Int) < (kids.length : Int) := by omega
 have HLP := lh hlen.2.2.1; have HIP := lh hip
 obtain ⟨y0, y1, y2, y3, y4⟩ := cells5 hx4
 have f4 := free_box hx4
 clear hk hka hp hpa hks hcs hflat hkid hB0 hx8 hx4 hnews hone hok hokk hlen hip
 unfold maxLen at hcap hcap'
 go_enter Tryz.func110, Tryz.ntmps110
 go_upto_region 1 with fail
 rw [← hW]
 clear hW
 have hWcell : ∀ w' : World, W.grownBy w' (Value.slice none 0 0).ownBlock → Below W.heap.size W w' := fun w' hgr => below_of_grown (v := .slice none 0 0) hgr (Nat.le_refl _) (by intro g hg; cases hg)
 go_upto_region 2 with (at_builtin; refine wpList_append_own_at _ rfl _ _ 29 rfl W.heap.size 32 i0 _ 5 80 Tryz.underlying29 hi hz0 hz1 hz2 rfl (by decide) (.slice none 0 0) 0 [] rfl (World.ownsRow_nil _ _ _ _) ⟨kb, ko, none⟩ kids.length cap cs rfl hcl HNW.out HONE.out (by unfold maxLen; omega) (by omega) (Nat.le_refl _) ?_; intro v' w' hown' hgr hnil hat; obtain ⟨rg, rcap, cur, rfl, hrg, hrh, hrn, hrm, hrs, hrt⟩ := row_lay (n := kids.length) (ys := cs) hown' (by omega) rfl (by omega); have HRH := lh hrh; have HRT := lh hrt; have HRM := lh hrm; have hrgl := lt_of_block hrh; have hbw0 := hWcell w' hgr; have HGR := lh hbw0; have hx4' := bget' hbw0 X4.out; have hsw' := hbw0.size; clear y0 y1 y2 y3 y4 f4 hown' hgr hnil hat hbw0 hrh hrt hrm; obtain ⟨y0, y1, y2, y3, y4⟩ := cells5 hx4'; have f4 := free_box hx4'; have X4' := lh hx4'; clear hx4')
 have k1 : Kept (fun k => k = w.heap.size) w' (w'.setCell ⟨w.heap.size, 3, none⟩ (.slice (some ⟨rg, 0, none⟩) kids.length rcap)) := .setCell (S := fun k => k = w.heap.size) _ rfl _
 have hx4 := box_setCell X4'.out 3 (.slice (some ⟨rg, 0, none⟩) kids.length rcap)
 have hx8 := (k1.block _ (by omega) (by omega)).trans (bget' HGR.out X8.out)
 have hu := (HB0.out.trans (HGR.out.mono HB0.out.size)).trans (k1.below (n₀ := w.heap.size) (by omega) (by rintro x rfl; omega))
 have hrh1 := (k1.block rg hrgl (by omega)).trans HRH.out
 have hus := k1.size
 generalize (w'.setCell ⟨w.heap.size, 3, none⟩ (.slice (some ⟨rg, 0, none⟩) kids.length rcap)) = U1 at *
 have HU := lh hu; have Z4 := lh hx4; have Z8 := lh hx8; have HR1 := lh hrh1
 clear k1 X4' X8 X4 HRH HGR y0 y1 y2 y3 y4 f4 hWcell HNW HONE HB0
 obtain ⟨y0, y1, y2, y3, y4⟩ := cells5 hx4
 have r0 := lay_cell hrh1 HRT.out e0
 have r1 := lay_cell hrh1 HRT.out e1
 have r2 := lay_cell hrh1 HRT.out e2
 have r3 := lay_cell hrh1 HRT.out e3
 have r4 := lay_cell hrh1 HRT.out e4
 clear hx4 hx8 hu hrh1 e0 e1 e2 e3 e4
 go_wp2_with fail
 refine (renX_any nm ot hot kids[i] _ U1 B (fun b hb => by have := hBb b hb; have := HU.out.size; omega) (TmX.keep (fun x hx => HU.out.block x (hBb x hx)) (fun _ h => h) _ _ HKID.out) HKOK.out).mono ?_
 rintro e V2 ⟨⟨v2, rfl, hfx⟩, hb2⟩
 obtain ⟨va, vc, va', vc', rfl⟩ := hfx.shape
 have HFX := lh hfx
 have hs2 := hb2.size
 replace HU := lh (HU.out.trans (hb2.mono HU.out.size))
 replace Z4 := lh (bget' hb2 Z4.out)
 replace Z8 := lh (bget' hb2 Z8.out)
 replace HR1 := lh (bget' hb2 HR1.out)
 clear hfx hb2 y0 y1 y2 y3 y4 r0 r1 r2 r3 r4
 go_upto_region 3 with fail
 have hb3 := (Below.refl _ V2).alloc (Nat.le_refl _) (.cells #[.int .i64 (rnM nm ot kids[i]).op, .int .i64 (rnM nm ot kids[i]).n, .string (rnM nm ot kids[i]).text, .slice va (rnM nm ot kids[i]).kids.length vc, .slice va' (rnM nm ot kids[i]).pats.length vc'] 32)
 have hx9 := heap_alloc_new V2 (.cells #[.int .i64 (rnM nm ot kids[i]).op, .int .i64 (rnM nm ot kids[i]).n, .string (rnM nm ot kids[i]).text, .slice va (rnM nm ot kids[i]).kids.length vc, .slice va' (rnM nm ot kids[i]).pats.length vc'] 32)
 replace HU := lh (HU.out.trans (hb3.mono HU.out.size))
 replace Z4 := lh (bget' hb3 Z4.out)
 replace Z8 := lh (bget' hb3 Z8.out)
 replace HR1 := lh (bget' hb3 HR1.out)
 have hs3 := lt_of_block hx9
 have HV23 := lh hb3
 generalize (V2.alloc (.cells #[.int .i64 (rnM nm ot kids[i]).op, .int .i64 (rnM nm ot kids[i]).n, .string (rnM nm ot kids[i]).text, .slice va (rnM nm ot kids[i]).kids.length vc, .slice va' (rnM nm ot kids[i]).pats.length vc'] 32)) = V3 at *
 clear hb3
 obtain ⟨y0, y1, y2, y3, y4⟩ := cells5 Z4.out
 obtain ⟨p0, p1, p2, p3, p4⟩ := cells5 hx9
 have f0 := free_box HR1.out
 have t0 := row_some HR1.out (show i * 5 < cur.size by omega)
 have t1 := row_some HR1.out (show i * 5 + 1 < cur.size by omega)
 have t2 := row_some HR1.out (show i * 5 + 2 < cur.size by omega)
 have t3 := row_some HR1.out (show i * 5 + 3 < cur.size by omega)
 have t4 := row_some HR1.out (show i * 5 + 4 < cur.size by omega)
 clear hx9
 go_upto_region 4 with fail
 have hpt := put5 V3 rg (i * 5) _ _ _ _ _ (.int .i64 (rnM nm ot kids[i]).op) (.int .i64 (rnM nm ot kids[i]).n) (.string (rnM nm ot kids[i]).text) (.slice va (rnM nm ot kids[i]).kids.length vc) (.slice va' (rnM nm ot kids[i]).pats.length vc') t0 t1 t2 t3 t4
 generalize (((((V3.setCell ⟨rg, i * 5, none⟩ (.int .i64 (rnM nm ot kids[i]).op)).setCell ⟨rg, i * 5 + 1, none⟩ (.int .i64 (rnM nm ot kids[i]).n)).setCell ⟨rg, i * 5 + 2, none⟩ (.string (rnM nm ot kids[i]).text)).setCell ⟨rg, i * 5 + 3, none⟩ (.slice va (rnM nm ot kids[i]).kids.length vc)).setCell ⟨rg, i * 5 + 4, none⟩ (.slice va' (rnM nm ot kids[i]).pats.length vc')) = V4 at *
 obtain ⟨k4, ⟨v0, v1, v2, v3, v4⟩, v5⟩ := hpt V4 rfl
 have hs4 := k4.size
 have HV4 := lh (HU.out.trans (k4.below (n₀ := w.heap.size) (by omega) (by rintro x rfl; omega)))
 have hsV4 := HV4.out.size
 have hkrow : ∀ (w'' : World) (B' : Nat → Prop), (∀ b, B b ∨ (W.heap.size ≤ b ∧ b < V4.heap.size) → w''.heap[b]? = V4.heap[b]? ∧ B' b) → TmsX B' w'' (kids.set i (rnM nm ot kids[i])) rg 0 := fun w'' B' hw => by
  have old : ∀ b, B b → w''.heap[b]? = w.heap[b]? := fun b hb => (hw b (.inl hb)).1.trans (HV4.out.block b (hBb b hb))
  have row : ∀ j, w''.cell? ⟨rg, j, none⟩ = V4.cell? ⟨rg, j, none⟩ := fun j => cell_of_heap (hw rg (.inr ⟨by omega, by omega⟩)).1
  have kid : ∀ b, (B b ∨ Fresh U1 V2 b) → (B b ∨ (W.heap.size ≤ b ∧ b < V4.heap.size)) ∧ b ≠ rg ∧ b < V3.heap.size ∧ b < V2.heap.size := fun b h => by
   rcases h with h | h
   ·have := hBb b h; exact ⟨.inl h, by omega, by omega, by omega⟩
   ·have h1 := h.1; have h2 := h.2; exact ⟨.inr ⟨by omega, by omega⟩, by omega, by omega, by omega⟩
  refine FlaM.set (B := B') (e0 := .int .i64 (rnM nm ot kids[i]).op) (e1 := .int .i64 (rnM nm ot kids[i]).n) (e2 := .string (rnM nm ot kids[i]).text) (e3 := .slice va (rnM nm ot kids[i]).kids.length vc) (e4 := .slice va' (rnM nm ot kids[i]).pats.length vc') kids cs 0 i hik (FlaM.keep old (fun b hb => (hw b (.inl hb)).2) _ _ HFL.out) (fun j u hj hu => ?_) ?_ ?_ ?_ ?_ ?_ (TmX.keep (fun b hb => ?_) (fun b hb => (hw b (kid b hb).1).2) _ _ HFX.out)
  ·rw [Nat.zero_add, row, v5 j hj]
   exact lay_cell HR1.out HRT.out hu
  ·rw [Nat.zero_add, row]; exact v0
  ·rw [Nat.zero_add, row]; exact v1
  ·rw [Nat.zero_add, row]; exact v2
  ·rw [Nat.zero_add, row]; exact v3
  ·rw [Nat.zero_add, row]; exact v4
  ·obtain ⟨k1, k2, k3, k6⟩ := kid b hb
   exact (hw b k1).1.trans ((k4.block b k3 k2).trans (HV23.out.block b k6))
 have HKROW := lh hkrow
 have q4 := (k4.block w.heap.size (by omega) (by omega)).trans Z4.out
 have q8 := (k4.block (w.heap.size + 1) (by omega) (by omega)).trans Z8.out
 have Q4 := lh q4; have Q8 := lh q8
 clear hkrow v0 v1 v2 v3 v4 v5 k4 hpt t0 t1 t2 t3 t4 f0 p0 p1 p2 p3 p4 y0 y1 y2 y3 y4 Z4 Z8 q8
 obtain ⟨y0, y1, y2, y3, y4⟩ := cells5 q4
 have f4 := free_box q4
 clear q4
 have hset : kids.set i (rnM nm ot (kids.getD i default)) = kids.set i (rnM nm ot kids[i]) := by
  rw [List.getD_eq_getElem?_getD, List.getElem?_eq_getElem hik]; rfl
 have HSET := lh hset
 clear hset
 by_cases h15 : op = 15
 case neg =>
  have h15' : (op == 15) = false := by simpa using h15
  go_upto_region 9 with fail
  have k5 : Kept (fun k => k = w.heap.size) V4 (V4.setCell ⟨w.heap.size, 2, none⟩ (.string ot)) := .setCell (S := fun k => k = w.heap.size) _ rfl _
  have hx4 := box_setCell Q4.out 2 (.string ot)
  have hx8 := (k5.block _ (by omega) (by omega)).trans Q8.out
  have hs5 := k5.size
  have K5 := lh k5
  generalize (V4.setCell ⟨w.heap.size, 2, none⟩ (.string ot)) = V5 at *
  clear y0 y1 y2 y3 y4 f4 k5
  obtain ⟨y0, y1, y2, y3, y4⟩ := cells5 hx4
  obtain ⟨z0, z1, z2, z3, z4⟩ := cells5 hx8
  have f8 := free_box hx8
  clear hx4 hx8
  go_wp2_with fail
  have hkp := (K5.out.mono (S' := fun k => k = w.heap.size ∨ k = w.heap.size + 1) (fun b h => .inl h)).trans ((kept5 V5 (w.heap.size + 1) (.int .i64 op) (.int .i64 n) (.string ot) (.slice (some ⟨rg, 0, none⟩) kids.length rcap) (.slice a' pats.length cap')).mono (fun b h => .inr h))
  have hs6 := hkp.size
  have hbf := HV4.out.trans (hkp.below (n₀ := w.heap.size) (by omega) (by rintro k (rfl | rfl) <;> omega))
  refine bodyPost_ret (v := .agg #[.int .i64 op, .int .i64 n, .string ot, .slice (some ⟨rg, 0, none⟩) kids.length rcap, .slice a' pats.length cap']) (by simp [results, Tryz.results110, go_sem, z0, z1, z2, z3, z4]) rfl ⟨⟨_, rfl, ?_⟩, hbf⟩
  show TmX _ _ (.mk op n (if op = 15 then text else ot) (kids.set i (rnM nm ot (kids.getD i default))) (if op = 15 then _ else pats)) _
  rw [if_neg h15, if_neg h15, HSET.out]
  unfold TmX
  refine ⟨_, _, rfl, hot, .inr ⟨rg, 0, rcap, by rw [List.length_set], by rw [List.length_set]; exact hrn, HRM.out, .inr ⟨by omega, by omega⟩, ?_⟩, HPP.out.mono (fun b h => .inl h) fun b o hlt h => PtsX.keep (fun x hx => hbf.block x (hBb x hx)) (fun x h => .inl h) _ _ _ hlt h⟩
  refine HKROW.out _ _ (fun b hb => ?_)
  have hb4 : b < V4.heap.size ∧ ¬ (b = w.heap.size ∨ b = w.heap.size + 1) := by
   rcases hb with h | h
   ·have := hBb b h; exact ⟨by omega, by omega⟩
   ·exact ⟨h.2, by omega⟩
  exact ⟨hkp.block b hb4.1 hb4.2, hb.imp_right fun h => ⟨by omega, by omega⟩⟩
 subst h15
 obtain ⟨hi0, hip⟩ := HIP.out rfl
 obtain ⟨pb, po, rfl, hpb, hps⟩ := HPA.out (by omega)
 obtain ⟨qs, hfq, hqs⟩ := FlaP.of _ _ hps
 have hql := FlaP.length _ _ hfq
 have hqone := FlaP.one _ _ hfq
 obtain ⟨d0, d1, d2, d3, e0, e1, e2, e3, hpat⟩ := FlaP.get _ _ hfq (i - 1) hip
 obtain ⟨oo', nn', tt', ka', kn', kc', rfl, rfl, rfl, rfl⟩ := hpat.cells
 obtain ⟨j0, hj, jz0, jz1, jz2⟩ := info_parts Tz.info35
 have hnewq : ∀ j u, qs[j]? = some u → V4.cell? ((⟨pb, po, none⟩ : Addr).add j) = some u := fun j u hj => by
  have : ((⟨pb, po, none⟩ : Addr).add j) = ⟨pb, po + j, none⟩ := by unfold Addr.add; split <;> simp_all
  rw [this]
  exact (HV4.out.cell (p := ⟨pb, _, none⟩) (hBb pb hpb)).trans (hqs j u hj)
 have HNQ := lh hnewq; have HQO := lh hqone; have HFQ := lh hfq; have HPT := lh hpat
 have hPcell : ∀ w' : World, V4.grownBy w' (Value.slice none 0 0).ownBlock → Below V4.heap.size V4 w' := fun w' hgr => below_of_grown (v := .slice none 0 0) hgr (Nat.le_refl _) (by intro g hg; cases hg)
 have hii : ((i : Int) - 1) = ((i - 1 : Nat) : Int) := by omega
 have hin0 : (0 : Int) ≤ (i : Int) - 1 := by omega
 have hin1 : (i : Int) - 1 < (pats.length : Int) := by omega
 clear hqs hnewq hqone hfq hpat hps HPA HIP
 go_upto_region 6 with (at_builtin; refine wpList_append_own_at _ rfl _ _ 30 rfl V4.heap.size 35 j0 _ 4 56 Tryz.underlying30 hj jz0 jz1 jz2 rfl (by decide) (.slice none 0 0) 0 [] rfl (World.ownsRow_nil _ _ _ _) ⟨pb, po, none⟩ pats.length cap' qs rfl hql HNQ.out HQO.out (by unfold maxLen; omega) (by omega) (Nat.le_refl _) ?_; intro v' w' hown' hgr hnil hat; obtain ⟨rp, rpcap, pcur, rfl, hrp, hrph, hrpn, hrpm, hrps, hrpt⟩ := row_lay (n := pats.length) (ys := qs) hown' (by omega) rfl (by omega); have HPH := lh hrph; have HPRT := lh hrpt; have HPM := lh hrpm; have hrpl := lt_of_block hrph; have hbw0 := hPcell w' hgr; have HGR := lh hbw0; have hx4' := bget' hbw0 Q4.out; have hsw' := hbw0.size; clear y0 y1 y2 y3 y4 f4 hown' hgr hnil hat hbw0 hrph hrpt hrpm; obtain ⟨y0, y1, y2, y3, y4⟩ := cells5 hx4'; have f4 := free_box hx4'; have X4' := lh hx4'; clear hx4')
 have k1 : Kept (fun k => k = w.heap.size) w' (w'.setCell ⟨w.heap.size, 4, none⟩ (.slice (some ⟨rp, 0, none⟩) pats.length rpcap)) := .setCell (S := fun k => k = w.heap.size) _ rfl _
 have hx4 := box_setCell X4'.out 4 (.slice (some ⟨rp, 0, none⟩) pats.length rpcap)
 have hx8 := (k1.block _ (by omega) (by omega)).trans (bget' HGR.out Q8.out)
 have hu := (HV4.out.trans (HGR.out.mono HV4.out.size)).trans (k1.below (n₀ := w.heap.size) (by omega) (by rintro x rfl; omega))
 have hrp1 := (k1.block rp hrpl (by omega)).trans HPH.out
 have hk1 : Kept (fun k => k = w.heap.size) V4 (w'.setCell ⟨w.heap.size, 4, none⟩ (.slice (some ⟨rp, 0, none⟩) pats.length rpcap)) := (Kept.of_below HGR.out).trans k1
 have hus := k1.size
 generalize (w'.setCell ⟨w.heap.size, 4, none⟩ (.slice (some ⟨rp, 0, none⟩) pats.length rpcap)) = U2 at *
 have HU2 := lh hu; have P4 := lh hx4; have P8 := lh hx8; have HP1 := lh hrp1; have HK1 := lh hk1
 clear k1 X4' HPH HGR y0 y1 y2 y3 y4 f4 hPcell HNQ HQO hk1
 obtain ⟨y0, y1, y2, y3, y4⟩ := cells5 hx4
 have r0 := lay_cell hrp1 HPRT.out e0
 have r1 := lay_cell hrp1 HPRT.out e1
 have r2 := lay_cell hrp1 HPRT.out e2
 have r3 := lay_cell hrp1 HPRT.out e3
 clear hx4 hx8 hu hrp1 e0 e1 e2 e3
 go_wp2_with fail
 refine (refRenPat_any nm ot hot pats[i - 1] _ U2 U2.heap.size (Nat.le_refl _) (PtX.to (B := B) (fun b hb => by have := hBb b hb; have := HU2.out.size; omega) _ _ (PtX.keep (fun x hx => HU2.out.block x (hBb x hx)) (fun _ h => h) _ _ HPT.out)) (lensP_get HLP.out _ hip)).mono ?_
 rintro e V6 ⟨⟨v6, rfl, hnew⟩, hb6⟩
 obtain ⟨o6, n6, t6, ka6, kn6, kc6, rfl⟩ := PtIn.shape hnew
 have HNEW := lh hnew
 have hs6 := hb6.size
 replace HU2 := lh (HU2.out.trans (hb6.mono HU2.out.size))
 replace P4 := lh (bget' hb6 P4.out)
 replace P8 := lh (bget' hb6 P8.out)
 replace HP1 := lh (bget' hb6 HP1.out)
 replace HK1 := lh (HK1.out.trans (Kept.of_below hb6))
 clear hnew hb6 y0 y1 y2 y3 y4 r0 r1 r2 r3
 go_upto_region 7 with fail
 have hb7 := (Below.refl _ V6).alloc (Nat.le_refl _) (.cells #[.int .i64 o6, .int .i64 n6, .string t6, .slice ka6 kn6 kc6] 35)
 have hx9 := heap_alloc_new V6 (.cells #[.int .i64 o6, .int .i64 n6, .string t6, .slice ka6 kn6 kc6] 35)
 replace HU2 := lh (HU2.out.trans (hb7.mono HU2.out.size))
 replace P4 := lh (bget' hb7 P4.out)
 replace P8 := lh (bget' hb7 P8.out)
 replace HP1 := lh (bget' hb7 HP1.out)
 replace HK1 := lh (HK1.out.trans (Kept.of_below hb7))
 have hs7 := lt_of_block hx9
 have HV67 := lh hb7
 generalize (V6.alloc (.cells #[.int .i64 o6, .int .i64 n6, .string t6, .slice ka6 kn6 kc6] 35)) = V7 at *
 clear hb7
 obtain ⟨y0, y1, y2, y3, y4⟩ := cells5 P4.out
 obtain ⟨p0, p1, p2, p3⟩ := cells4 hx9
 have f0 := free_box HP1.out
 have t0 := row_some HP1.out (show (i - 1) * 4 < pcur.size by omega)
 have t1 := row_some HP1.out (show (i - 1) * 4 + 1 < pcur.size by omega)
 have t2 := row_some HP1.out (show (i - 1) * 4 + 2 < pcur.size by omega)
 have t3 := row_some HP1.out (show (i - 1) * 4 + 3 < pcur.size by omega)
 clear hx9
 go_upto_region 9 with fail
 have hpt := put4 V7 rp ((i - 1) * 4) _ _ _ _ (.int .i64 o6) (.int .i64 n6) (.string t6) (.slice ka6 kn6 kc6) t0 t1 t2 t3
 generalize ((((V7.setCell ⟨rp, (i - 1) * 4, none⟩ (.int .i64 o6)).setCell ⟨rp, (i - 1) * 4 + 1, none⟩ (.int .i64 n6)).setCell ⟨rp, (i - 1) * 4 + 2, none⟩ (.string t6)).setCell ⟨rp, (i - 1) * 4 + 3, none⟩ (.slice ka6 kn6 kc6)) = V8 at *
 obtain ⟨k8, ⟨v0, v1, v2, v3⟩, v5⟩ := hpt V8 rfl
 have hs8 := k8.size
 have HV8 := lh (HU2.out.trans (k8.below (n₀ := w.heap.size) (by omega) (by rintro x rfl; omega)))
 have hsV8 := HV8.out.size
 have HK8 := lh ((HK1.out.mono (S' := fun k => k = w.heap.size ∨ k = rp) (fun b h => .inl h)).trans (k8.mono fun b h => .inr h))
 have hprow : ∀ (w'' : World) (B' : Nat → Prop), (∀ b, B b ∨ (V4.heap.size ≤ b ∧ b < V8.heap.size) → w''.heap[b]? = V8.heap[b]? ∧ B' b) → PtsX B' w'' (pats.set (i - 1) (rnP nm ot pats[i - 1])) rp 0 := fun w'' B' hw => by
  have old : ∀ b, B b → w''.heap[b]? = w.heap[b]? := fun b hb => (hw b (.inl hb)).1.trans (HV8.out.block b (hBb b hb))
  have row : ∀ j, w''.cell? ⟨rp, j, none⟩ = V8.cell? ⟨rp, j, none⟩ := fun j => cell_of_heap (hw rp (.inr ⟨by omega, by omega⟩)).1
  refine FlaP.set (B := B') (e0 := .int .i64 o6) (e1 := .int .i64 n6) (e2 := .string t6) (e3 := .slice ka6 kn6 kc6) pats qs 0 (i - 1) hip (FlaP.keep old (fun b hb => (hw b (.inl hb)).2) _ _ HFQ.out) (fun j u hj hu => ?_) ?_ ?_ ?_ ?_ (PtX.keep (fun b hb => ?_) (fun b hb => ?_) _ _ (PtX.ofIn _ _ HNEW.out))
  ·rw [Nat.zero_add, row, v5 j hj]
   exact lay_cell HP1.out HPRT.out hu
  ·rw [Nat.zero_add, row]; exact v0
  ·rw [Nat.zero_add, row]; exact v1
  ·rw [Nat.zero_add, row]; exact v2
  ·rw [Nat.zero_add, row]; exact v3
  ·have h1 := hb.1; have h2 := hb.2
   exact (hw b (.inr ⟨by omega, by omega⟩)).1.trans ((k8.block b (by omega) (by omega)).trans (HV67.out.block b h2))
  ·have h1 := hb.1; have h2 := hb.2
   exact (hw b (.inr ⟨by omega, by omega⟩)).2
 have HPROW := lh hprow
 have q4 := (k8.block w.heap.size (by omega) (by omega)).trans P4.out
 have q8 := (k8.block (w.heap.size + 1) (by omega) (by omega)).trans P8.out
 clear hprow v0 v1 v2 v3 v5 k8 hpt t0 t1 t2 t3 f0 p0 p1 p2 p3 y0 y1 y2 y3 y4 P4 P8 Q4 Q8
 obtain ⟨y0, y1, y2, y3, y4⟩ := cells5 q4
 obtain ⟨z0, z1, z2, z3, z4⟩ := cells5 q8
 have f8 := free_box q8
 clear q4 q8
 go_wp2_with fail
 have hpset : pats.set (i - 1) (rnP nm ot (pats.getD (i - 1) default)) = pats.set (i - 1) (rnP nm ot pats[i - 1]) := by
  rw [List.getD_eq_getElem?_getD, List.getElem?_eq_getElem hip]; rfl
 have k9 := kept5 V8 (w.heap.size + 1) (.int .i64 15) (.int .i64 n) (.string text) (.slice (some ⟨rg, 0, none⟩) kids.length rcap) (.slice (some ⟨rp, 0, none⟩) pats.length rpcap)
 have hs9 := k9.size
 have hbf := HV8.out.trans (k9.below (n₀ := w.heap.size) (by omega) (by rintro k rfl; omega))
 refine bodyPost_ret (v := .agg #[.int .i64 15, .int .i64 n, .string text, .slice (some ⟨rg, 0, none⟩) kids.length rcap, .slice (some ⟨rp, 0, none⟩) pats.length rpcap]) (by simp [results, Tryz.results110, go_sem, z0, z1, z2, z3, z4]) rfl ⟨⟨_, rfl, ?_⟩, hbf⟩
 show TmX _ _ (.mk 15 n text (kids.set i (rnM nm ot (kids.getD i default))) (pats.set (i - 1) (rnP nm ot (pats.getD (i - 1) default)))) _
 rw [HSET.out, hpset]
 unfold TmX
 refine ⟨_, _, rfl, htx, .inr ⟨rg, 0, rcap, by rw [List.length_set], by rw [List.length_set]; exact hrn, HRM.out, .inr ⟨by omega, by omega⟩, ?_⟩, .inr ⟨rp, 0, rpcap, by rw [List.length_set], by rw [List.length_set]; exact hrpn, HPM.out, .inr ⟨by omega, by omega⟩, ?_⟩⟩
 ·refine HKROW.out _ _ (fun b hb => ?_)
  have hb4 : b < V4.heap.size ∧ ¬ (b = w.heap.size ∨ b = w.heap.size + 1) ∧ b ≠ rp := by
   rcases hb with h | h
   ·have := hBb b h; exact ⟨by omega, by omega, by omega⟩
   ·exact ⟨h.2, by omega, by omega⟩
  exact ⟨(k9.block b (by omega) (by omega)).trans (HK8.out.block b hb4.1 (by omega)), hb.imp_right fun h => ⟨by omega, by omega⟩⟩
 ·refine HPROW.out _ _ (fun b hb => ?_)
  have hb4 : b < V8.heap.size ∧ b ≠ w.heap.size + 1 := by
   rcases hb with h | h
   ·have := hBb b h; exact ⟨by omega, by omega⟩
   ·exact ⟨h.2, by omega⟩
  exact ⟨k9.block b hb4.1 hb4.2, hb.imp_right fun h => ⟨by omega, by omega⟩⟩
attribute [local go_sem] eval_put_same eval_put_ne size_put
def ops109 : Array Oper := #[{ dst := some 18, op := Op.move (Operand.tmp 3), type := 22, pos := "ref.go:383", after := #[], guard := none }, { dst := some 19, op := Op.load 32 (Operand.tmp 1), type := 32, pos := "ref.go:383", after := #[], guard := none }, { dst := some 20, op := Op.move (Operand.tmp 4), type := 3, pos := "ref.go:383", after := #[], guard := none }, { dst := some 21, op := Op.call { callee := Callee.value (Operand.func 106), args := #[Operand.tmp 19, Operand.tmp 20], argTypes := #[32, 3] }, type := 22, pos := "ref.go:383", after := #[{ on := 1, ground := Ground.data }, { on := 2, ground := Ground.data }], guard := none }, { dst := some 22, op := Op.call { callee := Callee.builtin Builtin.append, args := #[Operand.tmp 18, Operand.tmp 21], argTypes := #[22, 22] }, type := 22, pos := "ref.go:383", after := #[{ on := 0, ground := Ground.data }, { on := 3, ground := Ground.data }, { on := 3, ground := Ground.chain }], guard := none }, { dst := some 23, op := Op.fieldAddr 32 (Operand.tmp 1) 3, type := 0, pos := "ref.go:383", after := #[], guard := none }, { dst := some 24, op := Op.load 29 (Operand.tmp 23), type := 29, pos := "ref.go:383", after := #[{ on := 5, ground := Ground.data }], guard := none }, { dst := some 25, op := Op.move (Operand.tmp 4), type := 3, pos := "ref.go:383", after := #[], guard := none }, { dst := some 26, op := Op.indexAddr 29 (Operand.tmp 24) (Operand.tmp 25), type := 0, pos := "ref.go:383", after := #[{ on := 6, ground := Ground.data }, { on := 7, ground := Ground.data }], guard := none }, { dst := some 27, op := Op.load 32 (Operand.tmp 26), type := 32, pos := "ref.go:383", after := #[{ on := 8, ground := Ground.data }], guard := none }, { dst := some 28, op := Op.call { callee := Callee.value (Operand.func 109), args := #[Operand.tmp 27], argTypes := #[32] }, type := 22, pos := "ref.go:383", after := #[{ on := 9, ground := Ground.data }, { on := 4, ground := Ground.chain }], guard := none }, { dst := some 29, op := Op.call { callee := Callee.builtin Builtin.append, args := #[Operand.tmp 22, Operand.tmp 28], argTypes := #[22, 22] }, type := 22, pos := "ref.go:383", after := #[{ on := 4, ground := Ground.data }, { on := 10, ground := Ground.data }, { on := 10, ground := Ground.chain }], guard := none }, { dst := some 3, op := Op.assign (Operand.tmp 29), type := 22, pos := "ref.go:383", after := #[{ on := 11, ground := Ground.data }, { on := 11, ground := Ground.chain }, { on := 0, ground := Ground.phase }, { on := 1, ground := Ground.phase }, { on := 2, ground := Ground.phase }, { on := 3, ground := Ground.phase }, { on := 4, ground := Ground.phase }, { on := 5, ground := Ground.phase }, { on := 6, ground := Ground.phase }, { on := 7, ground := Ground.phase }, { on := 8, ground := Ground.phase }, { on := 9, ground := Ground.phase }, { on := 10, ground := Ground.phase }, { on := 11, ground := Ground.phase }], guard := none }]
theorem strs_size {B : Nat → Prop} {w : World} {x : Value} {ss : List ByteArray} (h : SlIn B x ss.length fun b o => StrsAt w ss b o) : ∀ s ∈ ss, s.size ≤ maxLen := by
 intro s hs
 rcases h with ⟨h1, h2⟩ | ⟨b, o, cap, h1, h2, h3, h4, h5⟩
 ·rw [List.eq_nil_of_length_eq_zero h1] at hs; cases hs
 ·obtain ⟨i, hi, rfl⟩ := List.getElem_of_mem hs
  exact (StrsAt.get ss b o h5 i hi).2
set_option maxHeartbeats 4000000 in
set_option maxRecDepth 100000 in
theorem reg109 {Q : Exit → Act → World → Prop} {a : Act} {U : World} {T : Tm} {qb b o k kc pc base m : Nat} {pa : Option Addr} {oo nn : Int} {tt : ByteArray} {ka2 pa2 : Option Addr} {kn2 kc2 pn2 pc2 : Nat} {vo : Value} {xs : List Value} {bl sl : List ByteArray}
  (hsz : a.tmps.size = 31) (h1 : a.tmps[1]'(by omega) = .pointer (some ⟨qb, 0, none⟩)) (h3 : a.tmps[3]'(by omega) = vo) (h4 : a.tmps[4]'(by omega) = .int .i64 k)
  (hQ : ∀ c (d : Nat) v (a : Act) w, Q (.panic c) (a.put (some d) v) w → Q (.panic c) a w)
  (hS : (U.cell? ⟨qb, 0, none⟩ = some (.int .i64 T.op) ∧ U.cell? ⟨qb, 1, none⟩ = some (.int .i64 T.n) ∧ U.cell? ⟨qb, 2, none⟩ = some (.string T.text) ∧ U.cell? ⟨qb, 3, none⟩ = some (.slice (some ⟨b, o, none⟩) T.kids.length kc) ∧ U.cell? ⟨qb, 4, none⟩ = some (.slice pa T.pats.length pc)) ∧ (U.cell? ⟨b, o + k * 5, none⟩ = some (.int .i64 oo) ∧ U.cell? ⟨b, o + k * 5 + 1, none⟩ = some (.int .i64 nn) ∧ U.cell? ⟨b, o + k * 5 + 2, none⟩ = some (.string tt) ∧ U.cell? ⟨b, o + k * 5 + 3, none⟩ = some (.slice ka2 kn2 kc2) ∧ U.cell? ⟨b, o + k * 5 + 4, none⟩ = some (.slice pa2 pn2 pc2))) (hqb : qb < base) (hbb : b < base) (hk : k < T.kids.length)
  (hrow : U.ownsRow base 9 1 vo m xs) (hbase : base ≤ U.heap.size) (hm : m + bl.length + sl.length ≤ 1000000)
  (hc1 : Calls Tryz.prog 106 #[.agg #[.int .i64 T.op, .int .i64 T.n, .string T.text, .slice (some ⟨b, o, none⟩) T.kids.length kc, .slice pa T.pats.length pc], .int .i64 k] U.drew fun e w' => (∃ v1, e = .returned v1 ∧ SlIn (Fresh U.drew w') v1 bl.length fun b o => StrsAt w' bl b o) ∧ Below U.drew.heap.size U.drew w')
  (hc2 : ∀ w2, Below base U w2 → Calls Tryz.prog 109 #[.agg #[.int .i64 oo, .int .i64 nn, .string tt, .slice ka2 kn2 kc2, .slice pa2 pn2 pc2]] w2 fun e w' => (∃ v2, e = .returned v2 ∧ SlIn (fun b => b < w'.heap.size) v2 sl.length fun b o => StrsAt w' sl b o) ∧ Below w2.heap.size w2 w')
  (hK : ∀ (u18 u19 u20 u23 u24 u25 u26 u27 u22 v1 v2 v3 : Value) (w4 : World), w4.ownsRow base 9 1 v3 (m + bl.length + sl.length) (xs ++ bl.map Value.string ++ sl.map Value.string) → Below base U w4 → (∀ s ∈ bl ++ sl, s.size ≤ maxLen) →
   Q .normal { tmps := (((((((((((((a.tmps.setIfInBounds 18 u18).setIfInBounds 19 u19).setIfInBounds 20 u20).setIfInBounds 23 u23).setIfInBounds 24 u24).setIfInBounds 25 u25).setIfInBounds 26 u26).setIfInBounds 27 u27).setIfInBounds 21 v1).setIfInBounds 22 u22).setIfInBounds 28 v2).setIfInBounds 29 v3).setIfInBounds 3 v3), defers := a.defers } w4) :
  (Code.region 7 ops109 true).wp Tryz.prog Q a U := by
 obtain ⟨i0, hi, hz0, hz1, hz2⟩ := info_parts Tz.info9
 have hS0 : (U.drew.cell? ⟨qb, 0, none⟩ = some (.int .i64 T.op) ∧ U.drew.cell? ⟨qb, 1, none⟩ = some (.int .i64 T.n) ∧ U.drew.cell? ⟨qb, 2, none⟩ = some (.string T.text) ∧ U.drew.cell? ⟨qb, 3, none⟩ = some (.slice (some ⟨b, o, none⟩) T.kids.length kc) ∧ U.drew.cell? ⟨qb, 4, none⟩ = some (.slice pa T.pats.length pc)) ∧ (U.drew.cell? ⟨b, o + k * 5, none⟩ = some (.int .i64 oo) ∧ U.drew.cell? ⟨b, o + k * 5 + 1, none⟩ = some (.int .i64 nn) ∧ U.drew.cell? ⟨b, o + k * 5 + 2, none⟩ = some (.string tt) ∧ U.drew.cell? ⟨b, o + k * 5 + 3, none⟩ = some (.slice ka2 kn2 kc2) ∧ U.drew.cell? ⟨b, o + k * 5 + 4, none⟩ = some (.slice pa2 pn2 pc2)) := hS
 have hk' : (k : Int) < (T.kids.length : Int) := by omega
 have HS := lh hS; have HC1 := lh hc1; have HC2 := lh hc2; have HK := lh hK; have HROW := lh hrow
 clear hS hc1 hc2 hK hrow
 refine wp_region_z (fun w' => (w'.cell? ⟨qb, 0, none⟩ = some (.int .i64 T.op) ∧ w'.cell? ⟨qb, 1, none⟩ = some (.int .i64 T.n) ∧ w'.cell? ⟨qb, 2, none⟩ = some (.string T.text) ∧ w'.cell? ⟨qb, 3, none⟩ = some (.slice (some ⟨b, o, none⟩) T.kids.length kc) ∧ w'.cell? ⟨qb, 4, none⟩ = some (.slice pa T.pats.length pc)) ∧ (w'.cell? ⟨b, o + k * 5, none⟩ = some (.int .i64 oo) ∧ w'.cell? ⟨b, o + k * 5 + 1, none⟩ = some (.int .i64 nn) ∧ w'.cell? ⟨b, o + k * 5 + 2, none⟩ = some (.string tt) ∧ w'.cell? ⟨b, o + k * 5 + 3, none⟩ = some (.slice ka2 kn2 kc2) ∧ w'.cell? ⟨b, o + k * 5 + 4, none⟩ = some (.slice pa2 pn2 pc2))) 12 (by kernel_rfl) ?_
 refine wpAnyZ_take 0 (oi := { dst := some 18, op := Op.move (Operand.tmp 3), type := 22, pos := "ref.go:383", after := #[], guard := none }) hS0 rfl (by kernel_rfl) (by kernel_rfl) (by kernel_rfl) (fun c a w h => hQ c _ _ a w h) (by kernel_rfl) rfl (by rfl) (by rintro w' ⟨⟨k0, k1, k2, k3, k4⟩, ⟨m0, m1, m2, m3, m4⟩⟩; go_simp <;> rfl) ?_
 refine wpAnyZ_take 1 (oi := { dst := some 19, op := Op.load 32 (Operand.tmp 1), type := 32, pos := "ref.go:383", after := #[], guard := none }) hS0 rfl (by kernel_rfl) (by kernel_rfl) (by kernel_rfl) (fun c a w h => hQ c _ _ a w h) (by kernel_rfl) rfl (by rfl) (by rintro w' ⟨⟨k0, k1, k2, k3, k4⟩, ⟨m0, m1, m2, m3, m4⟩⟩; go_simp <;> rfl) ?_
 refine wpAnyZ_take 2 (oi := { dst := some 20, op := Op.move (Operand.tmp 4), type := 3, pos := "ref.go:383", after := #[], guard := none }) hS0 rfl (by kernel_rfl) (by kernel_rfl) (by kernel_rfl) (fun c a w h => hQ c _ _ a w h) (by kernel_rfl) rfl (by rfl) (by rintro w' ⟨⟨k0, k1, k2, k3, k4⟩, ⟨m0, m1, m2, m3, m4⟩⟩; go_simp <;> rfl) ?_
 refine wpAnyZ_take 5 (oi := { dst := some 23, op := Op.fieldAddr 32 (Operand.tmp 1) 3, type := 0, pos := "ref.go:383", after := #[], guard := none }) hS0 rfl (by kernel_rfl) (by kernel_rfl) (by kernel_rfl) (fun c a w h => hQ c _ _ a w h) (by kernel_rfl) rfl (by rfl) (by rintro w' ⟨⟨k0, k1, k2, k3, k4⟩, ⟨m0, m1, m2, m3, m4⟩⟩; go_simp <;> rfl) ?_
 refine wpAnyZ_take 6 (oi := { dst := some 24, op := Op.load 29 (Operand.tmp 23), type := 29, pos := "ref.go:383", after := #[{ on := 5, ground := Ground.data }], guard := none }) hS0 rfl (by kernel_rfl) (by kernel_rfl) (by kernel_rfl) (fun c a w h => hQ c _ _ a w h) (by kernel_rfl) rfl (by rfl) (by rintro w' ⟨⟨k0, k1, k2, k3, k4⟩, ⟨m0, m1, m2, m3, m4⟩⟩; go_simp <;> rfl) ?_
 refine wpAnyZ_take 7 (oi := { dst := some 25, op := Op.move (Operand.tmp 4), type := 3, pos := "ref.go:383", after := #[], guard := none }) hS0 rfl (by kernel_rfl) (by kernel_rfl) (by kernel_rfl) (fun c a w h => hQ c _ _ a w h) (by kernel_rfl) rfl (by rfl) (by rintro w' ⟨⟨k0, k1, k2, k3, k4⟩, ⟨m0, m1, m2, m3, m4⟩⟩; go_simp <;> rfl) ?_
 refine wpAnyZ_take 8 (oi := { dst := some 26, op := Op.indexAddr 29 (Operand.tmp 24) (Operand.tmp 25), type := 0, pos := "ref.go:383", after := #[{ on := 6, ground := Ground.data }, { on := 7, ground := Ground.data }], guard := none }) hS0 rfl (by kernel_rfl) (by kernel_rfl) (by kernel_rfl) (fun c a w h => hQ c _ _ a w h) (by kernel_rfl) rfl (by rfl) (by rintro w' ⟨⟨k0, k1, k2, k3, k4⟩, ⟨m0, m1, m2, m3, m4⟩⟩; go_simp <;> rfl) ?_
 refine wpAnyZ_take 9 (oi := { dst := some 27, op := Op.load 32 (Operand.tmp 26), type := 32, pos := "ref.go:383", after := #[{ on := 8, ground := Ground.data }], guard := none }) hS0 rfl (by kernel_rfl) (by kernel_rfl) (by kernel_rfl) (fun c a w h => hQ c _ _ a w h) (by kernel_rfl) rfl (by rfl) (by rintro w' ⟨⟨k0, k1, k2, k3, k4⟩, ⟨m0, m1, m2, m3, m4⟩⟩; go_simp <;> rfl) ?_
 clear hS0
 refine wpAnyZ_one 3 (o := { dst := some 21, op := Op.call { callee := Callee.value (Operand.func 106), args := #[Operand.tmp 19, Operand.tmp 20], argTypes := #[32, 3] }, type := 22, pos := "ref.go:383", after := #[{ on := 1, ground := Ground.data }, { on := 2, ground := Ground.data }], guard := none }) (by kernel_rfl) rfl fun KK hKK => ?_
 go_simp
 refine HC1.out.mono ?_
 rintro e w1 ⟨⟨v1, rfl, hv1⟩, hb1⟩
 have hbU1 : Below U.heap.size U w1 := (below_drew _ _).trans hb1
 have hs1 := hbU1.size
 have HB1 := lh (hbU1.mono hbase)
 have HR1 := lh (ownsRow_of_block (w' := w1) HROW.out fun g hg => hbU1.block g (HROW.out.lt g hg).2)
 have HSRC := lh (strs_src hv1)
 have HZ1 := lh (strs_size hv1)
 obtain ⟨xa, xc, rfl⟩ := hv1.split
 clear hb1 hbU1 HC1 hv1
 refine hKK.out _ _ (fun _ => ⟨⟨(HB1.out.cell (p := ⟨qb, 0, none⟩) hqb).trans HS.out.1.1, (HB1.out.cell (p := ⟨qb, 1, none⟩) hqb).trans HS.out.1.2.1, (HB1.out.cell (p := ⟨qb, 2, none⟩) hqb).trans HS.out.1.2.2.1, (HB1.out.cell (p := ⟨qb, 3, none⟩) hqb).trans HS.out.1.2.2.2.1, (HB1.out.cell (p := ⟨qb, 4, none⟩) hqb).trans HS.out.1.2.2.2.2⟩, ⟨(HB1.out.cell (p := ⟨b, _, none⟩) hbb).trans HS.out.2.1, (HB1.out.cell (p := ⟨b, _, none⟩) hbb).trans HS.out.2.2.1, (HB1.out.cell (p := ⟨b, _, none⟩) hbb).trans HS.out.2.2.2.1, (HB1.out.cell (p := ⟨b, _, none⟩) hbb).trans HS.out.2.2.2.2.1, (HB1.out.cell (p := ⟨b, _, none⟩) hbb).trans HS.out.2.2.2.2.2⟩⟩) ?_
 clear hKK KK
 refine wpAnyZ_one 4 (o := { dst := some 22, op := Op.call { callee := Callee.builtin Builtin.append, args := #[Operand.tmp 18, Operand.tmp 21], argTypes := #[22, 22] }, type := 22, pos := "ref.go:383", after := #[{ on := 0, ground := Ground.data }, { on := 3, ground := Ground.data }, { on := 3, ground := Ground.chain }], guard := none }) (by kernel_rfl) rfl fun KK hKK => ?_
 refine step_append_any _ (by rfl) _ _ _ (by rfl) base 9 i0 _ 1 16 Tz.underlying22 hi hz0 hz1 hz2 rfl (by decide) vo m xs (by go_simp) HR1.out (.slice xa bl.length xc) bl.length (bl.map Value.string) (by go_simp) HSRC.out (by unfold maxLen; omega) (by omega) (by omega) ?_
 intro v' w2 hown2 hgr2 hat2
 have hb2 : Below base U w2 := HB1.out.trans (below_of_grown hgr2 (by omega) fun g hg => (HR1.out.lt g hg).1)
 have HB2 := lh hb2; have HR2 := lh hown2
 have hs2 := hb2.size
 clear hown2 hgr2 hat2 hb2 HSRC
 refine hKK.out _ _ (fun _ => ⟨⟨(HB2.out.cell (p := ⟨qb, 0, none⟩) hqb).trans HS.out.1.1, (HB2.out.cell (p := ⟨qb, 1, none⟩) hqb).trans HS.out.1.2.1, (HB2.out.cell (p := ⟨qb, 2, none⟩) hqb).trans HS.out.1.2.2.1, (HB2.out.cell (p := ⟨qb, 3, none⟩) hqb).trans HS.out.1.2.2.2.1, (HB2.out.cell (p := ⟨qb, 4, none⟩) hqb).trans HS.out.1.2.2.2.2⟩, ⟨(HB2.out.cell (p := ⟨b, _, none⟩) hbb).trans HS.out.2.1, (HB2.out.cell (p := ⟨b, _, none⟩) hbb).trans HS.out.2.2.1, (HB2.out.cell (p := ⟨b, _, none⟩) hbb).trans HS.out.2.2.2.1, (HB2.out.cell (p := ⟨b, _, none⟩) hbb).trans HS.out.2.2.2.2.1, (HB2.out.cell (p := ⟨b, _, none⟩) hbb).trans HS.out.2.2.2.2.2⟩⟩) ?_
 clear hKK KK
 refine wpAnyZ_one 10 (o := { dst := some 28, op := Op.call { callee := Callee.value (Operand.func 109), args := #[Operand.tmp 27], argTypes := #[32] }, type := 22, pos := "ref.go:383", after := #[{ on := 9, ground := Ground.data }, { on := 4, ground := Ground.chain }], guard := none }) (by kernel_rfl) rfl fun KK hKK => ?_
 have HC2' := lh (HC2.out w2 HB2.out)
 go_simp
 refine HC2'.out.mono ?_
 rintro e w3 ⟨⟨v2, rfl, hv2⟩, hb3⟩
 have hs3 := hb3.size
 have HB3 := lh (HB2.out.trans (hb3.mono (Nat.le_trans hbase hs2)))
 have HR3 := lh (ownsRow_of_block (w' := w3) HR2.out fun g hg => hb3.block g (HR2.out.lt g hg).2)
 have HSRC := lh (strs_src hv2)
 have HZ2 := lh (strs_size hv2)
 obtain ⟨ya, yc, rfl⟩ := hv2.split
 clear hb3 HC2 HC2' hv2 HR2
 refine hKK.out _ _ (fun _ => ⟨⟨(HB3.out.cell (p := ⟨qb, 0, none⟩) hqb).trans HS.out.1.1, (HB3.out.cell (p := ⟨qb, 1, none⟩) hqb).trans HS.out.1.2.1, (HB3.out.cell (p := ⟨qb, 2, none⟩) hqb).trans HS.out.1.2.2.1, (HB3.out.cell (p := ⟨qb, 3, none⟩) hqb).trans HS.out.1.2.2.2.1, (HB3.out.cell (p := ⟨qb, 4, none⟩) hqb).trans HS.out.1.2.2.2.2⟩, ⟨(HB3.out.cell (p := ⟨b, _, none⟩) hbb).trans HS.out.2.1, (HB3.out.cell (p := ⟨b, _, none⟩) hbb).trans HS.out.2.2.1, (HB3.out.cell (p := ⟨b, _, none⟩) hbb).trans HS.out.2.2.2.1, (HB3.out.cell (p := ⟨b, _, none⟩) hbb).trans HS.out.2.2.2.2.1, (HB3.out.cell (p := ⟨b, _, none⟩) hbb).trans HS.out.2.2.2.2.2⟩⟩) ?_
 clear hKK KK
 refine wpAnyZ_one 11 (o := { dst := some 29, op := Op.call { callee := Callee.builtin Builtin.append, args := #[Operand.tmp 22, Operand.tmp 28], argTypes := #[22, 22] }, type := 22, pos := "ref.go:383", after := #[{ on := 4, ground := Ground.data }, { on := 10, ground := Ground.data }, { on := 10, ground := Ground.chain }], guard := none }) (by kernel_rfl) rfl fun KK hKK => ?_
 refine step_append_any _ (by rfl) _ _ _ (by rfl) base 9 i0 _ 1 16 Tz.underlying22 hi hz0 hz1 hz2 rfl (by decide) v' (m + bl.length) (xs ++ bl.map Value.string) (by go_simp) HR3.out (.slice ya sl.length yc) sl.length (sl.map Value.string) (by go_simp) HSRC.out (by unfold maxLen; omega) (by omega) (by omega) ?_
 intro v3 w4 hown4 hgr4 hat4
 have hb4 : Below base U w4 := HB3.out.trans (below_of_grown hgr4 (by omega) fun g hg => (HR3.out.lt g hg).1)
 have HB4 := lh hb4; have HR4 := lh hown4
 clear hown4 hgr4 hat4 hb4 HSRC
 refine hKK.out _ _ (fun _ => ⟨⟨(HB4.out.cell (p := ⟨qb, 0, none⟩) hqb).trans HS.out.1.1, (HB4.out.cell (p := ⟨qb, 1, none⟩) hqb).trans HS.out.1.2.1, (HB4.out.cell (p := ⟨qb, 2, none⟩) hqb).trans HS.out.1.2.2.1, (HB4.out.cell (p := ⟨qb, 3, none⟩) hqb).trans HS.out.1.2.2.2.1, (HB4.out.cell (p := ⟨qb, 4, none⟩) hqb).trans HS.out.1.2.2.2.2⟩, ⟨(HB4.out.cell (p := ⟨b, _, none⟩) hbb).trans HS.out.2.1, (HB4.out.cell (p := ⟨b, _, none⟩) hbb).trans HS.out.2.2.1, (HB4.out.cell (p := ⟨b, _, none⟩) hbb).trans HS.out.2.2.2.1, (HB4.out.cell (p := ⟨b, _, none⟩) hbb).trans HS.out.2.2.2.2.1, (HB4.out.cell (p := ⟨b, _, none⟩) hbb).trans HS.out.2.2.2.2.2⟩⟩) ?_
 clear hKK KK
 refine wpAnyZ_one 12 (o := { dst := some 3, op := Op.assign (Operand.tmp 29), type := 22, pos := "ref.go:383", after := #[{ on := 11, ground := Ground.data }, { on := 11, ground := Ground.chain }, { on := 0, ground := Ground.phase }, { on := 1, ground := Ground.phase }, { on := 2, ground := Ground.phase }, { on := 3, ground := Ground.phase }, { on := 4, ground := Ground.phase }, { on := 5, ground := Ground.phase }, { on := 6, ground := Ground.phase }, { on := 7, ground := Ground.phase }, { on := 8, ground := Ground.phase }, { on := 9, ground := Ground.phase }, { on := 10, ground := Ground.phase }, { on := 11, ground := Ground.phase }], guard := none }) (by kernel_rfl) rfl fun KK hKK => ?_
 go_simp
 refine hKK.out _ _ (fun h => absurd rfl h) ?_
 refine wpAnyZ_done (by kernel_rfl) ?_ _
 exact HK.out _ _ _ _ _ _ _ _ _ _ _ v3 w4 HR4.out HB4.out (fun s hs => (List.mem_append.1 hs).elim (HZ1.out s) (HZ2.out s))
end Go.Proofs.YtjpahjfjpkbcnaaGreat
namespace Go.Proofs.YtjpahjfjpkbcnaaGreat
open Go.Proofs Go.RowKit
mutual
def stP : Tm → List ByteArray
 | .mk op n text kids pats => (if op = 4 then [text] else []) ++ stK (boundL (.mk op n text kids pats)) kids 0
def stK (bnd : Nat → List ByteArray) : List Tm → Nat → List ByteArray
 | [], _ => []
 | k :: ks, i => bnd i ++ stP k ++ stK bnd ks (i + 1)
end
theorem stP_mk (op n : Int) (text : ByteArray) (kids : List Tm) (pats : List Pt) : stP (.mk op n text kids pats) = (if op = 4 then [text] else []) ++ stK (boundL (.mk op n text kids pats)) kids 0 := by
 conv => lhs; unfold stP
theorem stK_nil (bnd : Nat → List ByteArray) (i : Nat) : stK bnd [] i = [] := by unfold stK; rfl
theorem stK_cons (bnd : Nat → List ByteArray) (k : Tm) (ks : List Tm) (i : Nat) : stK bnd (k :: ks) i = bnd i ++ stP k ++ stK bnd ks (i + 1) := by conv => lhs; unfold stK
theorem stK_drop (bnd : Nat → List ByteArray) (ks : List Tm) (k i : Nat) (h : k < ks.length) : stK bnd (ks.drop k) i = bnd i ++ stP ks[k] ++ stK bnd (ks.drop (k + 1)) (i + 1) := by
 rw [List.drop_eq_getElem_cons h, stK_cons]
set_option maxHeartbeats 4000000 in
set_option maxRecDepth 100000 in
theorem refStand_any (T : Tm) : ∀ (v : Value) (w : World), TmAt w.heap.size w T v → okF T → (stP T).length ≤ 1000000 →
  Calls Tryz.prog 109 #[v] w fun e w' => (∃ v', e = .returned v' ∧ SlIn (fun b => b < w'.heap.size) v' (stP T).length fun b o => StrsAt w' (stP T) b o) ∧ Below w.heap.size w w' := by
 induction hT : SizeOf.sizeOf T using Nat.strongRecOn generalizing T with
 | _ m ih =>
 subst hT
 intro v w hv hok hlen
 have HIH := lh ih; clear ih
 cases T with
 | mk op n text kids pats =>
 have hv' := hv
 unfold TmAt at hv
 obtain ⟨kv, pv, rfl, htx, hk, hp⟩ := hv
 obtain ⟨a, cap, rfl, hcap, hlc, hka⟩ := hk.split
 obtain ⟨a', cap', rfl, -⟩ := hp.split
 unfold okF at hok
 have hbx := heap_alloc_new w (.cells #[.int .i64 op, .int .i64 n, .string text, .slice a kids.length cap, .slice a' pats.length cap'] 32)
 have hb0 := (Below.refl w.heap.size w).alloc (Nat.le_refl _) (.cells #[.int .i64 op, .int .i64 n, .string text, .slice a kids.length cap, .slice a' pats.length cap'] 32)
 have hszA : (w.alloc (.cells #[.int .i64 op, .int .i64 n, .string text, .slice a kids.length cap, .slice a' pats.length cap'] 32)).heap.size = w.heap.size + 1 := by simp
 unfold maxLen at hcap
 have HOK := lh hok; have HV := lh hv'; have HLN := lh hlen
 have HKA := lh hka; have HBX := lh hbx; have HB0 := lh hb0; have HSZ := lh hszA; have HTX := lh htx
 clear hk hp hka hbx hb0 hok hv' hlen hszA htx
 by_cases h4 : op = 4
 ·have hst : stP (.mk op n text kids pats) = [text] ++ stK (boundL (.mk op n text kids pats)) kids 0 := by rw [stP_mk, if_pos h4]
  have hz : ∀ s ∈ [text], s.size ≤ maxLen := by intro s hs; simp at hs; subst hs; exact HTX.out
  have HST := lh hst; have HZ := lh hz
  clear hst hz
  subst h4
  obtain ⟨p0, p1, p2, p3, p4⟩ := cells5 HBX.out
  go_enter Tryz.func109, Tryz.ntmps109
  go_upto_region 4 with fail
  have hrow0 := World.ownsRow_lit (base := w.heap.size + 1) (e := 9) (size := 1) (w.alloc (.cells #[.int .i64 4, .int .i64 n, .string text, .slice a kids.length cap, .slice a' pats.length cap'] 32)) #[.string text] 1 (by rw [HSZ.out]; omega) (by unfold maxLen; omega) rfl
  have hb1 : Below (w.heap.size + 1) (w.alloc (.cells #[.int .i64 4, .int .i64 n, .string text, .slice a kids.length cap, .slice a' pats.length cap'] 32)) ((w.alloc (.cells #[.int .i64 4, .int .i64 n, .string text, .slice a kids.length cap, .slice a' pats.length cap'] 32)).alloc (.cells #[.string text] 9)) := (Below.refl _ _).alloc (by rw [HSZ.out]; omega) _
  rw [HSZ.out] at hrow0
  replace HBX := lh (bget hb1 HBX.out (by omega))
  replace HB0 := lh (HB0.out.trans (hb1.mono (by omega)))
  have hszB : w.heap.size + 1 ≤ ((w.alloc (.cells #[.int .i64 4, .int .i64 n, .string text, .slice a kids.length cap, .slice a' pats.length cap'] 32)).alloc (.cells #[.string text] 9)).heap.size := by simp
  generalize ((w.alloc (.cells #[.int .i64 4, .int .i64 n, .string text, .slice a kids.length cap, .slice a' pats.length cap'] 32)).alloc (.cells #[.string text] 9)) = W at *
  have HR0 := lh hrow0
  clear hrow0 hb1 p0 p1 p2 p3 p4
  go_wp2_with fail
  go_loopw [3, 4] (fun vo i wr => ∃ (k : Nat) (out : List ByteArray), k ≤ kids.length ∧ i = .int .i64 k ∧ wr.ownsRow (w.heap.size + 1) 9 1 vo out.length (out.map Value.string) ∧ Hid (stP (.mk 4 n text kids pats) = out ++ stK (boundL (.mk 4 n text kids pats)) (kids.drop k) k) ∧ Hid (∀ s ∈ out, s.size ≤ maxLen) ∧ Below (w.heap.size + 1) W wr) (fun _ i _ => kids.length - (intOf i).toNat)
  case atStart => exact ⟨0, [text], Nat.zero_le _, rfl, HR0.out, HST.out, HZ.out, Below.refl _ _⟩
  case round =>
   obtain ⟨k, out, hk, rfl, hrow, HP, HO, hB⟩ := hrel
   have hbx := bget hB HBX.out (by omega)
   have hbw : Below w.heap.size w wr := HB0.out.trans (hB.mono (by omega))
   have hsz : w.heap.size + 1 ≤ wr.heap.size := by have := hB.size; omega
   obtain ⟨oa, oc, rfl⟩ := slice_of_row hrow
   obtain ⟨c0, c1, c2, c3, c4⟩ := cells5 hbx
   by_cases hlt : k < kids.length
   ·have hlt' : (k : Int) < (kids.length : Int) := by omega
    obtain ⟨b, o, rfl, hbn, hps⟩ := HKA.out (by omega)
    obtain ⟨e0, e1, e2, e3, e4, g0, g1, g2, g3, g4, ht⟩ := TmsAt.get kids b o hps k hlt
    obtain ⟨oo, nn, tt, ka, kn, kc, pa, pn, pc, rfl, rfl, rfl, rfl, rfl⟩ := ht.shape
    have q0 := (hbw.cell (p := ⟨b, _, none⟩) hbn).trans g0
    have q1 := (hbw.cell (p := ⟨b, _, none⟩) hbn).trans g1
    have q2 := (hbw.cell (p := ⟨b, _, none⟩) hbn).trans g2
    have q3 := (hbw.cell (p := ⟨b, _, none⟩) hbn).trans g3
    have q4 := (hbw.cell (p := ⟨b, _, none⟩) hbn).trans g4
    have hbd : Below w.heap.size w wr.drew := hbw.trans (below_drew _ _)
    have hdr := stK_drop (boundL (.mk 4 n text kids pats)) kids k k hlt
    have hnx : stP (.mk 4 n text kids pats) = (out ++ boundL (.mk 4 n text kids pats) k ++ stP kids[k]) ++ stK (boundL (.mk 4 n text kids pats)) (kids.drop (k + 1)) (k + 1) := by rw [HP.out, hdr]; simp only [List.append_assoc]
    have hlen : out.length + (boundL (.mk 4 n text kids pats) k).length + (stP kids[k]).length ≤ 1000000 := by
     have h := HLN.out
     rw [hnx] at h
     simp only [List.length_append] at h
     omega
    have hc1 := Binds_any (.mk 4 n text kids pats) k _ wr.drew (TmAt.keep hbd hbd.size _ _ HV.out) (by have := HOK.out.2.1; omega) (fun h h0 => by have h1 : kids.length ≤ pats.length + 1 := HOK.out.1 h; show k - 1 < pats.length; omega) (fun p hp => HOK.out.2.2.1 p hp)
    have hc2 : ∀ w2, Below (w.heap.size + 1) wr w2 → Calls Tryz.prog 109 #[.agg #[.int .i64 oo, .int .i64 nn, .string tt, .slice ka kn kc, .slice pa pn pc]] w2 fun e w' => (∃ v2, e = .returned v2 ∧ SlIn (fun b => b < w'.heap.size) v2 (stP kids[k]).length fun b o => StrsAt w' (stP kids[k]) b o) ∧ Below w2.heap.size w2 w' := fun w2 h2 => by
     have hw2 : Below w.heap.size w w2 := hbw.trans (h2.mono (by omega))
     exact HIH.out _ (kid_lt k hlt) kids[k] rfl _ w2 (TmAt.keep hw2 hw2.size _ _ ht) (okFs_get HOK.out.2.2.2 k hlt) (by omega)
    have HC1 := lh hc1; have HC2 := lh hc2; have HB := lh hB; have HROW := lh hrow; have HBW := lh hbw; have HBXR := lh hbx; have HNX := lh hnx
    clear hc1 hc2 hB hrow hbw hbd g0 g1 g2 g3 g4 ht hps hbx hdr hnx
    go_upto_region 7 with fail
    refine reg109 (T := .mk 4 n text kids pats) (qb := w.heap.size) (b := b) (o := o) (k := k) (base := w.heap.size + 1) (m := out.length) (bl := boundL (.mk 4 n text kids pats) k) (sl := stP kids[k]) rfl rfl rfl rfl (fun _ _ _ _ _ h => h) ⟨⟨c0, c1, c2, c3, c4⟩, ⟨q0, q1, q2, q3, q4⟩⟩ (by omega) (by omega) hlt HROW.out hsz hlen HC1.out HC2.out ?_
    intro u18 u19 u20 u23 u24 u25 u26 u27 u22 v1 v2 v3 w4 hrow4 hb4 hz4
    simp only [List.setIfInBounds_toArray, List.set_cons_zero, List.set_cons_succ]
    have HR4 := lh hrow4; have HB4 := lh (HB.out.trans hb4)
    have HZ4 := lh hz4
    clear hrow4 hb4 hz4 c0 c1 c2 c3 c4 q0 q1 q2 q3 q4 HC1 HC2
    go_wp2_with fail
    go_roundw
    case rel =>
     refine ⟨k + 1, out ++ boundL (.mk 4 n text kids pats) k ++ stP kids[k], by omega, by go_num, ?_, HNX.out, fun s hs => ?_, HB4.out⟩
     ·have h := HR4.out
      rw [List.length_append, List.length_append, List.map_append, List.map_append]
      exact h
     ·rw [List.append_assoc] at hs
      exact (List.mem_append.1 hs).elim (HO.out s) (HZ4.out s)
    case measure => simp [intOf]; omega
   ·have hlt' : ¬ ((k : Int) < (kids.length : Int)) := by omega
    have hend : stP (.mk 4 n text kids pats) = out := by
     rw [HP.out, List.drop_eq_nil_of_le (by omega), stK_nil, List.append_nil]
    have HEND := lh hend; have HBW := lh hbw; have HROW := lh hrow
    clear hend hbw hbx hrow hB
    go_wp2_with fail
    go_ret
    rw [HEND.out]
    exact ⟨⟨_, rfl, owned_sl HROW.out (fun b h => (HROW.out.lt b h).2) fun b hb hc => strs_of_row _ _ _ HO.out hc⟩, HBW.out⟩
 ·have hst : stP (.mk op n text kids pats) = [] ++ stK (boundL (.mk op n text kids pats)) kids 0 := by rw [stP_mk, if_neg h4]
  have HST := lh hst
  have HZ : Hid (∀ s ∈ ([] : List ByteArray), s.size ≤ maxLen) := lh (fun s hs => by cases hs)
  clear hst
  have h4' : (op == 4) = false := by simpa using h4
  obtain ⟨p0, p1, p2, p3, p4⟩ := cells5 HBX.out
  go_enter Tryz.func109, Tryz.ntmps109
  go_upto_region 4 with fail
  have hszB : w.heap.size + 1 ≤ (w.alloc (.cells #[.int .i64 op, .int .i64 n, .string text, .slice a kids.length cap, .slice a' pats.length cap'] 32)).heap.size := by rw [HSZ.out]; omega
  have HR0 := lh (World.ownsRow_nil (w.alloc (.cells #[.int .i64 op, .int .i64 n, .string text, .slice a kids.length cap, .slice a' pats.length cap'] 32)) (w.heap.size + 1) 9 1)
  generalize (w.alloc (.cells #[.int .i64 op, .int .i64 n, .string text, .slice a kids.length cap, .slice a' pats.length cap'] 32)) = W at *
  clear p0 p1 p2 p3 p4
  go_wp2_with fail
  go_loopw [3, 4] (fun vo i wr => ∃ (k : Nat) (out : List ByteArray), k ≤ kids.length ∧ i = .int .i64 k ∧ wr.ownsRow (w.heap.size + 1) 9 1 vo out.length (out.map Value.string) ∧ Hid (stP (.mk op n text kids pats) = out ++ stK (boundL (.mk op n text kids pats)) (kids.drop k) k) ∧ Hid (∀ s ∈ out, s.size ≤ maxLen) ∧ Below (w.heap.size + 1) W wr) (fun _ i _ => kids.length - (intOf i).toNat)
  case atStart => exact ⟨0, [], Nat.zero_le _, rfl, HR0.out, HST.out, HZ.out, Below.refl _ _⟩
  case round =>
   obtain ⟨k, out, hk, rfl, hrow, HP, HO, hB⟩ := hrel
   have hbx := bget hB HBX.out (by omega)
   have hbw : Below w.heap.size w wr := HB0.out.trans (hB.mono (by omega))
   have hsz : w.heap.size + 1 ≤ wr.heap.size := by have := hB.size; omega
   obtain ⟨oa, oc, rfl⟩ := slice_of_row hrow
   obtain ⟨c0, c1, c2, c3, c4⟩ := cells5 hbx
   by_cases hlt : k < kids.length
   ·have hlt' : (k : Int) < (kids.length : Int) := by omega
    obtain ⟨b, o, rfl, hbn, hps⟩ := HKA.out (by omega)
    obtain ⟨e0, e1, e2, e3, e4, g0, g1, g2, g3, g4, ht⟩ := TmsAt.get kids b o hps k hlt
    obtain ⟨oo, nn, tt, ka, kn, kc, pa, pn, pc, rfl, rfl, rfl, rfl, rfl⟩ := ht.shape
    have q0 := (hbw.cell (p := ⟨b, _, none⟩) hbn).trans g0
    have q1 := (hbw.cell (p := ⟨b, _, none⟩) hbn).trans g1
    have q2 := (hbw.cell (p := ⟨b, _, none⟩) hbn).trans g2
    have q3 := (hbw.cell (p := ⟨b, _, none⟩) hbn).trans g3
    have q4 := (hbw.cell (p := ⟨b, _, none⟩) hbn).trans g4
    have hbd : Below w.heap.size w wr.drew := hbw.trans (below_drew _ _)
    have hdr := stK_drop (boundL (.mk op n text kids pats)) kids k k hlt
    have hnx : stP (.mk op n text kids pats) = (out ++ boundL (.mk op n text kids pats) k ++ stP kids[k]) ++ stK (boundL (.mk op n text kids pats)) (kids.drop (k + 1)) (k + 1) := by rw [HP.out, hdr]; simp only [List.append_assoc]
    have hlen : out.length + (boundL (.mk op n text kids pats) k).length + (stP kids[k]).length ≤ 1000000 := by
     have h := HLN.out
     rw [hnx] at h
     simp only [List.length_append] at h
     omega
    have hc1 := Binds_any (.mk op n text kids pats) k _ wr.drew (TmAt.keep hbd hbd.size _ _ HV.out) (by have := HOK.out.2.1; omega) (fun h h0 => by have h1 : kids.length ≤ pats.length + 1 := HOK.out.1 h; show k - 1 < pats.length; omega) (fun p hp => HOK.out.2.2.1 p hp)
    have hc2 : ∀ w2, Below (w.heap.size + 1) wr w2 → Calls Tryz.prog 109 #[.agg #[.int .i64 oo, .int .i64 nn, .string tt, .slice ka kn kc, .slice pa pn pc]] w2 fun e w' => (∃ v2, e = .returned v2 ∧ SlIn (fun b => b < w'.heap.size) v2 (stP kids[k]).length fun b o => StrsAt w' (stP kids[k]) b o) ∧ Below w2.heap.size w2 w' := fun w2 h2 => by
     have hw2 : Below w.heap.size w w2 := hbw.trans (h2.mono (by omega))
     exact HIH.out _ (kid_lt k hlt) kids[k] rfl _ w2 (TmAt.keep hw2 hw2.size _ _ ht) (okFs_get HOK.out.2.2.2 k hlt) (by omega)
    have HC1 := lh hc1; have HC2 := lh hc2; have HB := lh hB; have HROW := lh hrow; have HBW := lh hbw; have HBXR := lh hbx; have HNX := lh hnx
    clear hc1 hc2 hB hrow hbw hbd g0 g1 g2 g3 g4 ht hps hbx hdr hnx
    go_upto_region 7 with fail
    refine reg109 (T := .mk op n text kids pats) (qb := w.heap.size) (b := b) (o := o) (k := k) (base := w.heap.size + 1) (m := out.length) (bl := boundL (.mk op n text kids pats) k) (sl := stP kids[k]) rfl rfl rfl rfl (fun _ _ _ _ _ h => h) ⟨⟨c0, c1, c2, c3, c4⟩, ⟨q0, q1, q2, q3, q4⟩⟩ (by omega) (by omega) hlt HROW.out hsz hlen HC1.out HC2.out ?_
    intro u18 u19 u20 u23 u24 u25 u26 u27 u22 v1 v2 v3 w4 hrow4 hb4 hz4
    simp only [List.setIfInBounds_toArray, List.set_cons_zero, List.set_cons_succ]
    have HR4 := lh hrow4; have HB4 := lh (HB.out.trans hb4)
    have HZ4 := lh hz4
    clear hrow4 hb4 hz4 c0 c1 c2 c3 c4 q0 q1 q2 q3 q4 HC1 HC2
    go_wp2_with fail
    go_roundw
    case rel =>
     refine ⟨k + 1, out ++ boundL (.mk op n text kids pats) k ++ stP kids[k], by omega, by go_num, ?_, HNX.out, fun s hs => ?_, HB4.out⟩
     ·have h := HR4.out
      rw [List.length_append, List.length_append, List.map_append, List.map_append]
      exact h
     ·rw [List.append_assoc] at hs
      exact (List.mem_append.1 hs).elim (HO.out s) (HZ4.out s)
    case measure => simp [intOf]; omega
   ·have hlt' : ¬ ((k : Int) < (kids.length : Int)) := by omega
    have hend : stP (.mk op n text kids pats) = out := by
     rw [HP.out, List.drop_eq_nil_of_le (by omega), stK_nil, List.append_nil]
    have HEND := lh hend; have HBW := lh hbw; have HROW := lh hrow
    clear hend hbw hbx hrow hB
    go_wp2_with fail
    go_ret
    rw [HEND.out]
    exact ⟨⟨_, rfl, owned_sl HROW.out (fun b h => (HROW.out.lt b h).2) fun b hb hc => strs_of_row _ _ _ HO.out hc⟩, HBW.out⟩
theorem okFs_iff : ∀ {ks : List Tm}, okFs ks ↔ ∀ t ∈ ks, okF t
 | [] => by unfold okFs; simp
 | k :: ks => by unfold okFs; rw [okFs_iff]; simp
theorem okBs_iff : ∀ {ks : List Tm}, okBs ks ↔ ∀ t ∈ ks, okB t
 | [] => by unfold okBs; simp
 | k :: ks => by unfold okBs; rw [okBs_iff]; simp
theorem lenssM_iff : ∀ {ks : List Tm}, lenssM ks ↔ ∀ t ∈ ks, lensM t
 | [] => by unfold lenssM; simp
 | k :: ks => by unfold lenssM; rw [lenssM_iff]; simp
theorem lenssP_iff : ∀ {ps : List Pt}, lenssP ps ↔ ∀ p ∈ ps, lensP p
 | [] => by unfold lenssP; simp
 | k :: ks => by unfold lenssP; rw [lenssP_iff]; simp
mutual
theorem patsB_rn (nm ot : ByteArray) (hot : nameB ot = true) : ∀ (p : Pt), patsB p = true → patsB (rnP nm ot p) = true
 | .mk f n t ps, h => by
  unfold patsB at h
  rw [Bool.and_eq_true] at h
  unfold rnP patsB
  rw [Bool.and_eq_true, rnPs_map, List.length_map, ← rnPs_map]
  refine ⟨?_, patssB_rn nm ot hot ps h.2⟩
  split
  ·rename_i hc
   obtain ⟨rfl, -⟩ := hc
   have h1 := h.1
   simp only [patFitB] at h1 ⊢
   simp at h1 ⊢
   exact ⟨⟨h1.1.1, hot⟩, h1.2⟩
  ·exact h.1
theorem patssB_rn (nm ot : ByteArray) (hot : nameB ot = true) : ∀ (ps : List Pt), patssB ps = true → patssB (rnPs nm ot ps) = true
 | [], h => by unfold rnPs; exact h
 | p :: ps, h => by
  unfold patssB at h
  rw [Bool.and_eq_true] at h
  unfold rnPs patssB
  rw [Bool.and_eq_true]
  exact ⟨patsB_rn nm ot hot p h.1, patssB_rn nm ot hot ps h.2⟩
end
mutual
theorem forms_rnP (nm ot : ByteArray) : ∀ (p : Pt) (d : Int), (partsP d (rnP nm ot p)).map (fun x => x.2.form) = (partsP d p).map (fun x => x.2.form)
 | .mk f n t ps, d => by
  unfold rnP partsP
  simp only [List.map_cons]
  rw [forms_rnPs nm ot ps (d + 1)]
  rfl
theorem forms_rnPs (nm ot : ByteArray) : ∀ (ps : List Pt) (d : Int), (partssP d (rnPs nm ot ps)).map (fun x => x.2.form) = (partssP d ps).map (fun x => x.2.form)
 | [], _ => by unfold rnPs; rfl
 | p :: ps, d => by
  unfold rnPs partssP
  simp only [List.map_append]
  rw [forms_rnP nm ot p d, forms_rnPs nm ot ps d]
end
theorem parts_rnP (nm ot : ByteArray) (p : Pt) (d : Int) : (partsP d (rnP nm ot p)).length = (partsP d p).length := by
 have := congrArg List.length (forms_rnP nm ot p d)
 simpa using this
theorem names_rnP (nm ot : ByteArray) (p : Pt) : (namesP (rnP nm ot p)).length = (namesP p).length := by
 have key : ∀ (q : Pt), (namesP q).length = (((partsP 1 q).map (fun x => x.2.form)).filter fun f => decide (f = 2)).length := by
  intro q
  unfold namesP namesL
  rw [List.length_map, List.filter_map, List.filter_map, List.length_map, List.length_map]
  rfl
 rw [key, key, forms_rnP]
mutual
theorem lensP_rn (nm ot : ByteArray) : ∀ (p : Pt), lensP p → lensP (rnP nm ot p)
 | .mk f n t ps, h => by
  unfold lensP at h
  unfold rnP lensP
  exact ⟨by rw [rnPs_map, List.length_map]; exact h.1, lenssP_rn nm ot ps h.2⟩
theorem lenssP_rn (nm ot : ByteArray) : ∀ (ps : List Pt), lenssP ps → lenssP (rnPs nm ot ps)
 | [], _ => by unfold rnPs; trivial
 | p :: ps, h => by
  unfold lenssP at h
  unfold rnPs lenssP
  exact ⟨lensP_rn nm ot p h.1, lenssP_rn nm ot ps h.2⟩
end
theorem boundL_4 (n : Int) (t : ByteArray) (ks : List Tm) (ps : List Pt) (k : Nat) : boundL (.mk 4 n t ks ps) k = [] := by
 unfold boundL
 rw [if_neg (by show ¬ ((4 : Int) = 5 ∨ (4 : Int) = 27 ∨ ((4 : Int) = 7 ∧ k = 1)); omega), if_neg (by show ¬ ((4 : Int) = 15 ∧ 0 < k); omega)]
theorem boundL_kids (op n n' : Int) (t : ByteArray) (ks ks' : List Tm) (ps : List Pt) (k : Nat) : boundL (.mk op n t ks ps) k = boundL (.mk op n' t ks' ps) k := rfl
theorem bound_rnM (nm ot : ByteArray) (T : Tm) (k : Nat) : boundL (rnM nm ot T) k = boundL T k := by
 cases T with
 | mk op n t ks ps =>
  rw [rnM_mk]
  split
  ·rename_i h; subst h; rw [boundL_4, boundL_4]
  ·exact boundL_kids _ _ _ _ _ _ _ _
mutual
theorem okF_rn (nm ot : ByteArray) : ∀ (T : Tm), okF T → okF (rnM nm ot T)
 | .mk op n t ks ps, h => by
  rw [rnM_mk]
  split
  ·unfold okF at h ⊢; exact h
  ·unfold okF at h ⊢
   rw [rnK_len]
   exact ⟨h.1, h.2.1, h.2.2.1, okFs_rn nm ot _ ks 0 h.2.2.2⟩
theorem okFs_rn (nm ot : ByteArray) (bnd : Nat → List ByteArray) : ∀ (ts : List Tm) (i : Nat), okFs ts → okFs (rnK nm ot bnd ts i)
 | [], _, _ => by rw [rnK_nil]; unfold okFs; trivial
 | t :: ts, i, h => by
  unfold okFs at h
  rw [rnK_cons]
  unfold okFs
  refine ⟨?_, okFs_rn nm ot bnd ts (i + 1) h.2⟩
  split
  ·exact h.1
  ·exact okF_rn nm ot t h.1
end
mutual
theorem lensM_rn (nm ot : ByteArray) : ∀ (T : Tm), lensM T → lensM (rnM nm ot T)
 | .mk op n t ks ps, h => by
  rw [rnM_mk]
  split
  ·unfold lensM at h ⊢; exact h
  ·unfold lensM at h ⊢
   rw [rnK_len]
   exact ⟨h.1, h.2.1, h.2.2.1, lenssM_rn nm ot _ ks 0 h.2.2.2⟩
theorem lenssM_rn (nm ot : ByteArray) (bnd : Nat → List ByteArray) : ∀ (ts : List Tm) (i : Nat), lenssM ts → lenssM (rnK nm ot bnd ts i)
 | [], _, _ => by rw [rnK_nil]; unfold lenssM; trivial
 | t :: ts, i, h => by
  unfold lenssM at h
  rw [rnK_cons]
  unfold lenssM
  refine ⟨?_, lenssM_rn nm ot bnd ts (i + 1) h.2⟩
  split
  ·exact h.1
  ·exact lensM_rn nm ot t h.1
end
mutual
theorem okB_rn (nm ot : ByteArray) : ∀ (T : Tm), okB T → okB (rnM nm ot T)
 | .mk op n t ks ps, h => by
  have hb := bound_rnM nm ot (.mk op n t ks ps)
  rw [okB_eq] at h
  rw [okB_eq]
  refine ⟨?_, fun k => by rw [hb k]; exact h.2.1 k, ?_⟩
  ·rw [rnM_mk]
   split
   ·exact h.1
   ·show (rnK nm ot _ ks 0).length ≤ 6
    rw [rnK_len]; exact h.1
  ·rw [rnM_mk]
   split
   ·exact h.2.2
   ·exact okBs_rn nm ot _ ks 0 h.2.2
theorem okBs_rn (nm ot : ByteArray) (bnd : Nat → List ByteArray) : ∀ (ts : List Tm) (i : Nat), okBs ts → okBs (rnK nm ot bnd ts i)
 | [], _, _ => by rw [rnK_nil]; unfold okBs; trivial
 | t :: ts, i, h => by
  unfold okBs at h
  rw [rnK_cons]
  unfold okBs
  refine ⟨?_, okBs_rn nm ot bnd ts (i + 1) h.2⟩
  split
  ·exact h.1
  ·exact okB_rn nm ot t h.1
end
mutual
theorem cntN_rn (nm ot : ByteArray) : ∀ (T : Tm), cntN (rnM nm ot T) = cntN T
 | .mk op n t ks ps => by
  rw [rnM_mk]
  split
  ·rw [cntN_eq, cntN_eq]; rfl
  ·rw [cntN_eq, cntN_eq]; show 1 + cntNs (rnK nm ot _ ks 0) = 1 + cntNs ks; rw [cntNs_rn nm ot _ ks 0]
theorem cntNs_rn (nm ot : ByteArray) (bnd : Nat → List ByteArray) : ∀ (ts : List Tm) (i : Nat), cntNs (rnK nm ot bnd ts i) = cntNs ts
 | [], _ => by rw [rnK_nil]
 | t :: ts, i => by
  rw [rnK_cons]
  unfold cntNs
  rw [cntNs_rn nm ot bnd ts (i + 1)]
  split
  ·rfl
  ·rw [cntN_rn nm ot t]
end
mutual
theorem height_rn (nm ot : ByteArray) : ∀ (T : Tm), heightM (rnM nm ot T) = heightM T
 | .mk op n t ks ps => by
  rw [rnM_mk]
  split
  ·rw [height_eq, height_eq]; rfl
  ·rw [height_eq, height_eq]; show heightsM (rnK nm ot _ ks 0) + 1 = heightsM ks + 1; rw [heights_rn nm ot _ ks 0]
theorem heights_rn (nm ot : ByteArray) (bnd : Nat → List ByteArray) : ∀ (ts : List Tm) (i : Nat), heightsM (rnK nm ot bnd ts i) = heightsM ts
 | [], _ => by rw [rnK_nil]
 | t :: ts, i => by
  rw [rnK_cons]
  unfold heightsM
  rw [heights_rn nm ot bnd ts (i + 1)]
  split
  ·rfl
  ·rw [height_rn nm ot t]
end
theorem cntNs_set : ∀ (ks : List Tm) (i : Nat) (t : Tm), cntN t = cntN (ks.getD i default) → cntNs (ks.set i t) = cntNs ks
 | [], _, _, _ => rfl
 | k :: ks, 0, t, h => by
  show cntNs (t :: ks) = cntNs (k :: ks)
  unfold cntNs; rw [h]; rfl
 | k :: ks, i + 1, t, h => by
  show cntNs (k :: ks.set i t) = cntNs (k :: ks)
  unfold cntNs; rw [cntNs_set ks i t (by simpa using h)]
theorem heights_set : ∀ (ks : List Tm) (i : Nat) (t : Tm), heightM t = heightM (ks.getD i default) → heightsM (ks.set i t) = heightsM ks
 | [], _, _, _ => rfl
 | k :: ks, 0, t, h => by
  show heightsM (t :: ks) = heightsM (k :: ks)
  unfold heightsM; rw [h]; rfl
 | k :: ks, i + 1, t, h => by
  show heightsM (k :: ks.set i t) = heightsM (k :: ks)
  unfold heightsM; rw [heights_set ks i t (by simpa using h)]
theorem mem_set' {α : Type} {xs : List α} {i : Nat} {x y : α} (h : y ∈ xs.set i x) : y ∈ xs ∨ (y = x ∧ i < xs.length) := by
 obtain ⟨j, hj, rfl⟩ := List.getElem_of_mem h
 rw [List.length_set] at hj
 rw [List.getElem_set]
 split
 ·rename_i e; subst e; exact .inr ⟨rfl, hj⟩
 ·exact .inl (List.getElem_mem hj)
theorem getD_mem {α : Type} {xs : List α} {i : Nat} {d : α} (h : i < xs.length) : xs.getD i d ∈ xs := by
 rw [List.getD_eq_getElem?_getD, List.getElem?_eq_getElem h]; exact List.getElem_mem h
structure RS (T : Tm) : Prop where
 f : okF T
 l : lensM T
 b : okB T
 c : cntN T ≤ 1000
theorem bound_rb (nm ot : ByteArray) (i : Nat) (T : Tm) (k : Nat) : (boundL (rbM nm ot i T) k).length = (boundL T k).length := by
 cases T with
 | mk op n t ks ps =>
  unfold rbM boundL
  show (if op = 5 ∨ op = 27 ∨ (op = 7 ∧ k = 1) then [if op = 15 then t else ot] else if op = 15 ∧ 0 < k then ((if op = 15 then ps.set (i - 1) (rnP nm ot (ps.getD (i - 1) default)) else ps)[k - 1]?.map namesP).getD [] else []).length = (if op = 5 ∨ op = 27 ∨ (op = 7 ∧ k = 1) then [t] else if op = 15 ∧ 0 < k then (ps[k - 1]?.map namesP).getD [] else []).length
  split
  ·rfl
  ·split
   ·rename_i h
    rw [if_pos h.1, List.getElem?_set]
    split
    ·rename_i e
     split
     ·rename_i hlt
      rw [← e, List.getElem?_eq_getElem hlt, List.getD_eq_getElem?_getD, List.getElem?_eq_getElem hlt]
      simp [names_rnP]
     ·rename_i hlt
      rw [← e, List.getElem?_eq_none (by omega)]
    ·rfl
   ·rfl
theorem RS.rb {T : Tm} (h : RS T) (nm ot : ByteArray) (hot : nameB ot = true) (i : Nat) (hi : i < T.kids.length) : RS (rbM nm ot i T) := by
 have hbd := bound_rb nm ot i T
 obtain ⟨hf, hl, hb, hc⟩ := h
 cases T with
 | mk op n t ks ps =>
  change i < ks.length at hi
  unfold okF at hf
  unfold lensM at hl
  rw [okB_eq] at hb
  have hm : ks.getD i default ∈ ks := getD_mem hi
  refine ⟨?_, ?_, ?_, ?_⟩
  ·unfold rbM okF
   rw [List.length_set]
   refine ⟨fun h => ?_, hf.2.1, fun p hp => ?_, okFs_iff.2 fun t' ht => ?_⟩
   ·rw [if_pos h, List.length_set]; exact hf.1 h
   ·split at hp
    ·rcases mem_set' hp with h | ⟨rfl, h⟩
     ·exact hf.2.2.1 p h
     ·have h1 := hf.2.2.1 _ (getD_mem (d := default) h)
      exact ⟨patsB_rn nm ot hot _ h1.1, by rw [parts_rnP]; exact h1.2⟩
    ·exact hf.2.2.1 p hp
   ·rcases mem_set' ht with h | ⟨rfl, -⟩
    ·exact okFs_iff.1 hf.2.2.2 t' h
    ·exact okF_rn _ _ _ (okFs_iff.1 hf.2.2.2 _ hm)
  ·unfold rbM lensM
   rw [List.length_set]
   refine ⟨hl.1, ?_, lenssP_iff.2 fun p hp => ?_, lenssM_iff.2 fun t' ht => ?_⟩
   ·split
    ·rw [List.length_set]; exact hl.2.1
    ·exact hl.2.1
   ·split at hp
    ·rcases mem_set' hp with h | ⟨rfl, h⟩
     ·exact lenssP_iff.1 hl.2.2.1 p h
     ·exact lensP_rn _ _ _ (lenssP_iff.1 hl.2.2.1 _ (getD_mem (d := default) h))
    ·exact lenssP_iff.1 hl.2.2.1 p hp
   ·rcases mem_set' ht with h | ⟨rfl, -⟩
    ·exact lenssM_iff.1 hl.2.2.2 t' h
    ·exact lensM_rn _ _ _ (lenssM_iff.1 hl.2.2.2 _ hm)
  ·rw [okB_eq]
   refine ⟨?_, fun k => by rw [hbd k]; exact hb.2.1 k, okBs_iff.2 fun t' ht => ?_⟩
   ·show (ks.set i _).length ≤ 6
    rw [List.length_set]; exact hb.1
   ·change t' ∈ ks.set i _ at ht
    rcases mem_set' ht with h | ⟨rfl, -⟩
    ·exact okBs_iff.1 hb.2.2 t' h
    ·exact okB_rn _ _ _ (okBs_iff.1 hb.2.2 _ hm)
  ·rw [cntN_eq] at hc ⊢
   show 1 + cntNs (ks.set i _) ≤ 1000
   rw [cntNs_set _ _ _ (cntN_rn _ _ _)]; exact hc
theorem height_rb (nm ot : ByteArray) (i : Nat) (T : Tm) : heightM (rbM nm ot i T) = heightM T := by
 cases T with
 | mk op n t ks ps =>
  rw [height_eq, height_eq]
  show heightsM (ks.set i _) + 1 = heightsM ks + 1
  rw [heights_set _ _ _ (height_rn _ _ _)]
theorem RS.kid {T : Tm} (h : RS T) (k : Nat) (hk : k < T.kids.length) : RS T.kids[k] := by
 cases T with
 | mk op n t ks ps =>
  obtain ⟨hf, hl, hb, hc⟩ := h
  unfold okF at hf
  unfold lensM at hl
  have hc2 := cntNs_get k hk
  rw [cntN_eq] at hc
  exact ⟨okFs_get hf.2.2.2 k hk, lensM_get hl.2.2.2 k hk, okBs_get ((okB_eq _).1 hb).2.2 k hk, by omega⟩
mutual
theorem partsM_cnt : ∀ (T : Tm) (d : Int), (partsM d T).length = cntN T
 | .mk op n t ks ps, d => by
  unfold partsM cntN
  rw [List.length_cons, partssM_cnt ks (d + 1)]; omega
theorem partssM_cnt : ∀ (ts : List Tm) (d : Int), (partssM d ts).length = cntNs ts
 | [], _ => rfl
 | t :: ts, d => by
  unfold partssM cntNs
  rw [List.length_append, partsM_cnt t d, partssM_cnt ts d]
end
mutual
theorem stP_few : ∀ (T : Tm), okB T → (stP T).length ≤ 73 * cntN T
 | .mk op n t ks ps, h => by
  rw [okB_eq] at h
  have h1 := stK_few (boundL (.mk op n t ks ps)) h.2.1 ks 0 h.2.2
  have h2 : ks.length ≤ 6 := h.1
  rw [stP_mk, List.length_append, cntN_eq]
  have h3 : (if op = 4 then [t] else []).length ≤ 1 := by split <;> simp
  show _ ≤ 73 * (1 + cntNs ks)
  omega
theorem stK_few (bnd : Nat → List ByteArray) (hb : ∀ k, (bnd k).length ≤ 12) : ∀ (ts : List Tm) (i : Nat), okBs ts → (stK bnd ts i).length ≤ 12 * ts.length + 73 * cntNs ts
 | [], _, _ => by rw [stK_nil]; exact Nat.zero_le _
 | t :: ts, i, h => by
  unfold okBs at h
  have h1 := stP_few t h.1
  have h2 := stK_few bnd hb ts (i + 1) h.2
  have h3 := hb i
  rw [stK_cons, List.length_append, List.length_append, List.length_cons]
  unfold cntNs
  omega
end
theorem RS.st {T : Tm} (h : RS T) : (stP T).length ≤ 100000 := by
 have h1 := stP_few T h.b
 have h2 := h.c
 omega
theorem RS.parts {T : Tm} (h : RS T) : (partsM 1 T).length ≤ 100000 := by
 rw [partsM_cnt]
 have h2 := h.c
 omega
end Go.Proofs.YtjpahjfjpkbcnaaGreat
