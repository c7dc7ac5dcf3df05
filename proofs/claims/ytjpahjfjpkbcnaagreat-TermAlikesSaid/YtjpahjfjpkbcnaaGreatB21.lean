/- Contracts of the program's functions. -/
import Derived.Test.YtjpahjfjpkbcnaaGreatB20
import Derived.Test.YtjpahjfjpkbcnaaGreatB12

namespace Go.Proofs.YtjpahjfjpkbcnaaGreat
open Go.Proofs Go.RowKit
def AnEnd (B : Nat → Prop) (m0 : Nat) (vt : Value) (r : Tm × List ByteArray) (w : World) (e : Ending) (w' : World) : Prop :=
 (∃ v' vt', e = .returned (.tuple #[v', vt']) ∧ RowS m0 w' vt' r.2 ∧ (vt'.ownBlock = vt.ownBlock ∨ ∃ g, vt'.ownBlock = some g ∧ w.heap.size ≤ g) ∧ TmX (fun b => B b ∨ (Fresh w w' b ∧ vt'.ownBlock ≠ some b)) w' r.1 v') ∧ Kept (fun k => vt.ownBlock = some k) w w'
theorem anR_end {f : Nat} {T T' : Tm} {tk tk' : List ByteArray} (h : anI T.kids.length 0 (T, tk) = (T', tk')) : anR (f + 1) T tk = (.mk T'.op T'.n T'.text (anK (anR f) T'.kids tk').1 T'.pats, (anK (anR f) T'.kids tk').2) := by
 conv => lhs; unfold anR
 rw [h]
theorem TmX.partsA {B : Nat → Prop} {w : World} {T : Tm} {ka pa : Option Addr} {kc pc : Nat} (h : TmX B w T (.agg #[.int .i64 T.op, .int .i64 T.n, .string T.text, .slice ka T.kids.length kc, .slice pa T.pats.length pc])) :
  T.text.size ≤ maxLen ∧ SlX B (.slice ka T.kids.length kc) T.kids.length (fun b o => TmsX B w T.kids b o) ∧ SlX B (.slice pa T.pats.length pc) T.pats.length (fun b o => PtsX B w T.pats b o) := by
 cases T with
 | mk op n t ks ps =>
  unfold TmX at h
  obtain ⟨kv, pv, he, h1, h2, h3⟩ := h
  simp only [Value.agg.injEq, Array.mk.injEq, List.cons.injEq, and_true] at he
  obtain ⟨-, -, -, rfl, rfl⟩ := he
  exact ⟨h1, h2, h3⟩
theorem SlX.atA {B : Nat → Prop} {a : Option Addr} {n cap : Nat} {R : Nat → Nat → Prop} (h : SlX B (.slice a n cap) n R) : cap ≤ maxLen ∧ n ≤ cap ∧ (0 < n → ∃ b o, a = some ⟨b, o, none⟩ ∧ B b ∧ R b o) := by
 obtain ⟨a', cap', h1, h2, h3, h4⟩ := h.split
 cases h1
 exact ⟨h2, h3, h4⟩
set_option maxHeartbeats 16000000 in
set_option maxRecDepth 100000 in
theorem anew113_any : ∀ (f : Nat) (T : Tm) (tk : List ByteArray) (v vt : Value) (w : World) (B : Nat → Prop) (m0 : Nat), (∀ b, B b → b < w.heap.size ∧ vt.ownBlock ≠ some b) → TmX B w T v → AW T → heightM T ≤ f → RowS m0 w vt tk → m0 ≤ w.heap.size → tk.length + 72 * cntN T ≤ 1000000 →
  Calls Tryz.prog 113 #[v, vt] w fun e w' => AnEnd B m0 vt (anR f T tk) w e w'
 | 0, T, tk, v, vt, w, B, m0, _, _, _, hf, _, _, _ => by rw [height_eq] at hf; omega
 | f + 1, T, tk, v, vt, w, B, m0, hBb, hv, haw, hf, hrow, hm0, hct => by
  have ih := anew113_any f
  obtain ⟨ka, kc, pa, pc, rfl⟩ := hv.shape
  obtain ⟨ta, tc, rfl⟩ := hrow.slice
  obtain ⟨i0, hi, hz0, hz1, hz2⟩ := info_parts Tz.info32
  obtain ⟨j0, hj, jz0, jz1, jz2⟩ := info_parts Tz.info9
  obtain ⟨W, hW, hB0, hs, hx2, hx4⟩ := two_boxes' w #[.int .i64 T.op, .int .i64 T.n, .string T.text, .slice ka T.kids.length kc, .slice pa T.pats.length pc] #[.int .i64 0, .int .i64 0, .string ⟨#[]⟩, .slice none 0 0, .slice none 0 0] 32 32
  have hAB : AnB B W w.heap.size (.slice ta tk.length tc) := ⟨fun b h => (hBb b h).1, fun b h => (hBb b h).2, by omega, fun b h => (hrow.2.lt b h).2⟩
  have hc1 : 1 ≤ cntN T := by rw [cntN_eq]; omega
  have hinv : AnIn B W w.heap.size m0 (.slice ta tk.length tc) [] (.slice none 0 0) T tk (.slice ta tk.length tc) ka pa kc pc W := ⟨hrow.below hB0, .inl rfl, hx2, TmX.keep (fun b hb => hB0.block b (hBb b hb).1) (fun b hb => .inl hb) _ _ hv, Kept.of_below (Below.refl _ _), .inl ⟨rfl, rfl⟩⟩
  have HIH := lh ih; have HBB := lh hBb; have HAW := lh haw; have HF := lh hf; have HB0 := lh hB0; have X4 := lh hx4; have HAB := lh hAB; have HIN0 := lh hinv
  have HR0 := lh hrow
  obtain ⟨y0, y1, y2, y3, y4⟩ := cells5 hx2
  clear ih hBb hv haw hf hB0 hx2 hx4 hAB hinv hrow
  go_enter Tryz.func113, Tryz.ntmps113
  go_upto_region 1 with fail
  rw [← hW]
  clear hW
  go_wp2_with fail
  go_loopw [1, 6] (fun vt i wr => ∃ (k : Nat) (T' : Tm) (tk' : List ByteArray) (ka' pa' : Option Addr) (kc' pc' : Nat), k ≤ T.kids.length ∧ i = .int .i64 k ∧ Hid (KW T T') ∧ Hid (anI T.kids.length 0 (T, tk) = anI (T.kids.length - k) k (T', tk')) ∧ tk'.length ≤ tk.length + 12 * k ∧ Hid (AnIn B W w.heap.size m0 (.slice ta tk.length tc) [] (.slice none 0 0) T' tk' vt ka' pa' kc' pc' wr)) (fun _ i _ => T.kids.length - (intOf i).toNat)
  case atStart => exact ⟨0, T, tk, ka, pa, kc, pc, Nat.zero_le _, rfl, KW.refl HAW.o, rfl, Nat.le_refl _, HIN0.o⟩
  case round =>
   obtain ⟨k, T', tk', ka', pa', kc', pc', hk, rfl, HKS, HEQ, htl, HIN⟩ := hrel
   have hszr := HIN.o.kp.size
   have hk6 := HAW.o.k6
   clear y0 y1 y2 y3 y4
   obtain ⟨y0, y1, y2, y3, y4⟩ := cells5 HIN.o.box
   by_cases hlt : k < T.kids.length
   ·have hlt' : (k : Int) < (T'.kids.length : Int) := by have := HKS.o.len; omega
    have hbin := BindsW_any T' k _ wr (HIN.o.at HAB.o) (by omega) (fun h15 h0 => HKS.o.rs.p15 h15 k h0 (by have := HKS.o.len; omega)) HKS.o.rs.pp
    have HBI := lh hbin
    clear hbin
    go_wp2_with fail
    refine HBI.o.mono ?_
    rintro e w1 ⟨⟨bv, rfl, hbv⟩, hb1⟩
    obtain ⟨ba, bc, rfl⟩ := hbv.split
    have HI1 := lh (HIN.o.bind (bl2 := boundL T' k) (bv2 := .slice ba (boundL T' k).length bc) HAB.o hb1 hbv)
    have hs1 := hb1.size
    have hb12 := HKS.o.rs.b12 k
    clear hbv hb1 HBI y0 y1 y2 y3 y4 HIN
    go_wp2_with fail
    generalize wr = wc at *
    go_loopw [1, 8] (fun vt j wi => ∃ (q : Nat) (T2 : Tm) (tk2 : List ByteArray) (ka2 pa2 : Option Addr) (kc2 pc2 : Nat), q ≤ (boundL T' k).length ∧ j = .int .i64 q ∧ Hid (KW T T2) ∧ Hid (anN k (boundL T' k) (T', tk') = anN k ((boundL T' k).drop q) (T2, tk2)) ∧ tk2.length ≤ tk'.length + q ∧ Hid (AnIn B W w.heap.size m0 (.slice ta tk.length tc) (boundL T' k) (.slice ba (boundL T' k).length bc) T2 tk2 vt ka2 pa2 kc2 pc2 wi)) (fun _ j _ => (boundL T' k).length - (intOf j).toNat)
    case atStart => exact ⟨0, T', tk', ka', pa', kc', pc', Nat.zero_le _, rfl, HKS.o, rfl, Nat.le_refl _, HI1.o⟩
    case round =>
     obtain ⟨q, T2, tk2, ka2, pa2, kc2, pc2, hq, rfl, HK2, HE2, ht2, HI2⟩ := hrel
     have hsz2 := HI2.o.kp.size
     by_cases hltq : q < (boundL T' k).length
     ·have hltq' : (q : Int) < ((boundL T' k).length : Int) := by omega
      have h1 := HI2.o.bs
      rcases h1 with ⟨h0, -⟩ | ⟨xb, xo, xcap, hx1, hx2, hx3, hx4, hx5⟩
      ·omega
      cases hx1
      obtain ⟨ua, uc, hua⟩ := HI2.o.row.slice
      subst hua
      obtain ⟨hg, hgs⟩ := StrsAt.get (boundL T' k) xb xo hx5 q hltq
      have HST := lh (HE2.o.trans (anN_drop k (boundL T' k) q hltq (T2, tk2)))
      have hk2 : k < T2.kids.length := by have := HK2.o.len; omega
      have hc : ∀ w1, Below wr.heap.size wr w1 → Calls Tryz.prog 110 #[.agg #[.int .i64 T2.op, .int .i64 T2.n, .string T2.text, .slice ka2 T2.kids.length kc2, .slice pa2 T2.pats.length pc2], .int .i64 k, .string (boundL T' k)[q], .string (markB tk2.length)] w1 fun e wz => (∃ o2 n2 t2 ka3 kn3 kc3 pa3 pn3 pc3, e = .returned (.agg #[.int .i64 o2, .int .i64 n2, .string t2, .slice ka3 kn3 kc3, .slice pa3 pn3 pc3]) ∧ TmX (fun b => OwnX B W w1 (.slice ua tk2.length uc) b ∨ Fresh w1 wz b) wz (rbM (boundL T' k)[q] (markB tk2.length) k T2) (.agg #[.int .i64 o2, .int .i64 n2, .string t2, .slice ka3 kn3 kc3, .slice pa3 pn3 pc3])) ∧ Below w1.heap.size w1 wz := fun w1 hb1 => by
       have hI := HI2.o.below HAB.o hb1
       refine (rebW_any (boundL T' k)[q] (markB tk2.length) (markB_size _ (by omega)) T2 k _ w1 (OwnX B W w1 (.slice ua tk2.length uc)) (fun b hb => (hI.lt HAB.o b hb).1) hI.tm HK2.o.rs.w HK2.o.rs.l hk2 (fun h15 => ?_)).mono fun e wz ⟨⟨v3, h1, h2⟩, h3⟩ => ?_
       ·have h0 := bound_pos (T := T2) (i := k) (k := q) (by rw [HK2.o.b, ← HKS.o.b]; exact hltq) h15
        exact ⟨h0, HK2.o.rs.p15 h15 k h0 hk2⟩
       ·obtain ⟨a1, a2, a3, a4, rfl⟩ := h2.shape
        exact ⟨⟨_, _, _, _, _, _, _, _, _, h1, h2⟩, h3⟩
      have HC := lh hc
      clear hc hx5
      go_upto_region 8 with fail
      refine reg113 (qb := w.heap.size) (bb := xb) (bo := xo) (i := k) (k := q) (tn := tk2.length) (R := fun v w1 wz => TmX (fun b => OwnX B W w1 (.slice ua tk2.length uc) b ∨ Fresh w1 wz b) wz (rbM (boundL T' k)[q] (markB tk2.length) k T2) v) rfl rfl rfl rfl rfl rfl (fun _ _ _ _ _ h => h) (by omega) ⟨cells5 HI2.o.box, hg⟩ HI2.o.box hx4.2.1 hltq HC.o ?_
      intro u28 u29 u30 u31 u32 u33 u34 u35 u36 v9 o2 n2 t2 ka3 kn3 kc3 pa3 pn3 pc3 w1 w7 hb1 hr7 hb7
      simp only [List.setIfInBounds_toArray, List.set_cons_zero, List.set_cons_succ]
      obtain ⟨a1, a2, a3, a4, he7⟩ := TmX.shape hr7
      simp only [Value.agg.injEq, Array.mk.injEq, List.cons.injEq, and_true, Value.int.injEq, Value.string.injEq, Value.slice.injEq, true_and] at he7
      obtain ⟨rfl, rfl, rfl, ⟨rfl, rfl, rfl⟩, rfl, rfl, rfl⟩ := he7
      have HI7 := lh ((HI2.o.below HAB.o hb1).set HAB.o hb7 hr7)
      generalize (((((w7.setCell ⟨w.heap.size, 0, none⟩ _).setCell ⟨w.heap.size, 1, none⟩ _).setCell ⟨w.heap.size, 2, none⟩ _).setCell ⟨w.heap.size, 3, none⟩ _).setCell ⟨w.heap.size, 4, none⟩ _) = w8 at *
      have hks8 := HK2.o.rb (boundL T' k)[q] (markB tk2.length) k hlt
      have HK8 := lh hks8
      clear HC hr7 hb7 hg hb1 hks8
      have hss2 : SsAt w8.heap.size w8 tk2 (.slice ua tk2.length uc) := SlIn.to (B := fun b => m0 ≤ b ∧ b < w8.heap.size) HI7.o.row.sl (fun b h => h.2) fun _ _ h => h
      have HFC := lh (refFresh_any tk2 (.slice ua tk2.length uc) w8 hss2 (by omega))
      clear hss2
      go_wp2_with fail
      refine HFC.o.mono ?_
      rintro e w9 ⟨rfl, hb9⟩
      have HI9 := lh (HI7.o.below HAB.o hb9)
      have hs9 := HI9.o.kp.size
      have hosz : (firstW (inL tk2)).size ≤ maxLen := Nat.le_trans (firstW_size _) (by unfold maxLen; omega)
      clear hb9 HFC HI7
      have hrow2 := HI9.o.row.2.alloc (.cells #[.string (firstW (inL tk2))] 9)
      have hnews := cells_new w9 [.string (firstW (inL tk2))] 9
      have hone : ∀ u ∈ [Value.string (firstW (inL tk2))], u.oneCell' = true := by intro u hu; simp at hu; subst hu; rfl
      have HR2 := lh hrow2; have HNW := lh hnews; have HONE := lh hone
      have hmm : m0 ≤ w9.heap.size := by have := HB0.o.size; omega
      clear hrow2 hnews hone
      go_wp2_with (at_builtin; refine wpList_append_own_at _ rfl _ _ 22 rfl m0 9 j0 _ 1 16 Tz.underlying22 hj jz0 jz1 jz2 rfl (by decide) (.slice ua tk2.length uc) tk2.length (tk2.map Value.string) rfl HR2.o ⟨w9.heap.size, 0, none⟩ 1 1 [.string (firstW (inL tk2))] rfl rfl HNW.o HONE.o (by unfold maxLen; omega) (by omega) (by simp; omega) ?_; intro v' w' hown' hgr hnil hat; have HI5 := lh (HI9.o.grow HAB.o hosz hown' hgr hat); clear hown' hgr hnil hat)
      go_roundw
      case rel => exact ⟨q + 1, _, _, _, _, _, _, by omega, by go_num, HK8.o, HST.o, by rw [List.length_append, List.length_singleton]; omega, HI5.o⟩
      case measure => simp [intOf]; omega
     ·have hltq' : ¬ ((q : Int) < ((boundL T' k).length : Int)) := by omega
      have hend : anN k (boundL T' k) (T', tk') = (T2, tk2) := by rw [HE2.o, List.drop_eq_nil_of_le (by omega)]; rfl
      have hnx : anI T.kids.length 0 (T, tk) = anI (T.kids.length - (k + 1)) (k + 1) (T2, tk2) := by
       rw [HEQ.o, show T.kids.length - k = (T.kids.length - (k + 1)) + 1 by omega]
       show anI _ (k + 1) (anN k (boundL T' k) (T', tk')) = _
       rw [hend]
      have HNX := lh hnx
      clear hend hnx
      go_wp2_with fail
      go_roundw
      case rel => exact ⟨k + 1, T2, tk2, ka2, pa2, kc2, pc2, by omega, by go_num, HK2.o, HNX.o, by omega, HI2.o.nil⟩
      case measure => simp [intOf]; omega
   ·have hlt' : ¬ ((k : Int) < (T'.kids.length : Int)) := by have := HKS.o.len; omega
    obtain rfl : k = T.kids.length := by omega
    have hend : anI T.kids.length 0 (T, tk) = (T', tk') := by rw [HEQ.o, Nat.sub_self]; rfl
    have HFIN := lh (anR_end (f := f) hend)
    have HAW4 := lh HKS.o.rs
    have hht : ∀ (j : Nat) (hj : j < T'.kids.length), heightM T'.kids[j] ≤ f := fun j hj => by
     have h1 := HF.out; have h2 := HKS.o.h; have h3 := heightsM_get T'.kids j hj; rw [height_eq T'] at h2; omega
    have HHT := lh hht
    have hcn : tk'.length + 72 * cntNs T'.kids ≤ 1000000 := by
     have h1 := HKS.o.c; rw [cntN_eq T'] at h1; omega
    obtain ⟨ua, uc, hua⟩ := HIN.o.row.slice
    subst hua
    have hx2 := HIN.o.box
    have hx4 := (HIN.o.kp.block (w.heap.size + 1) (by omega) (fun h => h.elim (fun h => by omega) fun h => by have := HAB.o.v0 _ h; omega)).trans X4.o
    have hk6' := HAW4.o.k6
    have hWw := HB0.o.size
    obtain ⟨htx, hkk, hpp⟩ := TmX.partsA HIN.o.tm
    obtain ⟨hcap, hlc, hka⟩ := hkk.atA
    unfold maxLen at hcap
    have HTX := lh htx; have HPP := lh hpp; have HKA := lh hka; have HKK := lh hkk
    have X2' := lh hx2; have X4' := lh hx4
    have hob4 : ∀ (wf : World) (vf : Value), (∀ b, vf.ownBlock = some b → (Value.slice ua tk'.length uc).ownBlock = some b ∨ wr.heap.size ≤ b) → ∀ b, vf.ownBlock = some b → (Value.slice ta tk.length tc).ownBlock = some b ∨ w.heap.size ≤ b := fun wf vf h b hb => by
     rcases h b hb with h' | h'
     ·rcases HIN.o.ob with e | ⟨g, e, hg⟩
      ·rw [e] at h'; exact .inl h'
      ·rw [e] at h'; cases h'; exact .inr (by omega)
     ·exact .inr (by omega)
    have HOB := lh hob4
    have hob5 : ∀ (wf : World) (vf : Value), (vf.ownBlock = (Value.slice ua tk'.length uc).ownBlock ∨ ∃ g, vf.ownBlock = some g ∧ wr.heap.size ≤ g) → (vf.ownBlock = (Value.slice ta tk.length tc).ownBlock ∨ ∃ g, vf.ownBlock = some g ∧ w.heap.size ≤ g) := fun wf vf h => by
     rcases h with h | ⟨g, h, hg⟩
     ·rcases HIN.o.ob with e | ⟨g, e, hg⟩
      ·exact .inl (h.trans e)
      ·exact .inr ⟨g, h.trans e, by omega⟩
     ·exact .inr ⟨g, h, by omega⟩
    have HOC := lh hob5
    have hset : ∀ (wf : World) (vf : Value), wr.heap.size ≤ wf.heap.size → (vf.ownBlock = (Value.slice ua tk'.length uc).ownBlock ∨ ∃ g, vf.ownBlock = some g ∧ wr.heap.size ≤ g) → ∀ b, OwnX B W wr (.slice ua tk'.length uc) b → B b ∨ (Fresh w wf b ∧ vf.ownBlock ≠ some b) := fun wf vf hsz ho b hb => by
     rcases hb with hb | hb
     ·exact .inl hb
     ·refine .inr ⟨⟨by have := hb.1; omega, by have := hb.2.1; omega⟩, fun e => ?_⟩
      rcases ho with ho | ⟨g, ho, hg⟩
      ·rw [ho] at e; exact hb.2.2 e
      ·rw [ho] at e; cases e; have := hb.2.1; omega
    have HSET := lh hset
    have hkeep : ∀ (wf : World), Kept (fun k => k = w.heap.size ∨ k = w.heap.size + 1 ∨ (Value.slice ua tk'.length uc).ownBlock = some k) wr wf → Kept (fun k => (Value.slice ta tk.length tc).ownBlock = some k) w wf := fun wf hk => by
     refine ⟨hk.os.trans (HIN.o.kp.os.trans HB0.o.os), hk.tape.trans (HIN.o.kp.tape.trans HB0.o.tape), hk.output.trans (HIN.o.kp.output.trans HB0.o.output), by have := hk.size; omega, fun b hb hne => ?_⟩
     refine (hk.block b (by omega) fun h => ?_).trans ((HIN.o.kp.block b (by omega) fun h => ?_).trans (HB0.o.block b hb))
     ·rcases h with h | h | h
      ·omega
      ·omega
      ·rcases HIN.o.ob with e | ⟨g, e, hg⟩
       ·rw [e] at h; exact hne h
       ·rw [e] at h; cases h; omega
     ·rcases h with h | h
      ·omega
      ·exact hne h
    have HKEEP := lh hkeep
    have hltO := fun b hb => HIN.o.lt HAB.o b hb
    have HLT := lh (show ∀ b, OwnX B W wr (.slice ua tk'.length uc) b → b < wr.heap.size ∧ b ≠ w.heap.size ∧ (Value.slice ua tk'.length uc).ownBlock ≠ some b ∧ b ≠ w.heap.size + 1 from fun b hb => ⟨(hltO b hb).1, (hltO b hb).2.1, (hltO b hb).2.2, by
     rcases hb with hb | hb
     ·have := HAB.o.lt b hb; omega
     ·have := hb.1; omega⟩)
    have hownO := fun b hb => HIN.o.own HAB.o b hb
    have HNO := lh (show ∀ b, (Value.slice ua tk'.length uc).ownBlock = some b → ¬ (b = w.heap.size ∨ b = w.heap.size + 1) from fun b hb => by
     have h1 := hownO b hb
     rcases HIN.o.ob with e | ⟨g, e, hg⟩
     ·rw [e] at hb; have := HAB.o.v0 b hb; omega
     ·rw [e] at hb; cases hb; omega)
    clear hltO hownO hob4 hob5 hset hkeep
    by_cases hn0 : T'.kids.length = 0
    ·have hkn : T'.kids = [] := List.eq_nil_of_length_eq_zero hn0
     have hfe : anR (f + 1) T tk = (.mk T'.op T'.n T'.text [] T'.pats, tk') := by rw [HFIN.o, hkn]; rfl
     have HFE := lh hfe
     have f2 := free_box X2'.o
     rw [hn0] at y3
     have X2Z := lh (show wr.heap[w.heap.size]? = some (.cells #[.int .i64 T'.op, .int .i64 T'.n, .string T'.text, .slice ka' 0 kc', .slice pa' T'.pats.length pc'] 32 (0, 0)) by have h := X2'.out; rw [hn0] at h; exact h)
     have hlt0 : ¬ ((T.kids.length : Int) < 0) := by omega
     have HROW := lh HIN.o.row
     clear hlt' hn0 hkn hfe HKS HKK HKA hkk hka hlc hcap htx hpp hx2 hx4 hht hcn hend X2' HIN HEQ HIN0 HR0 X4
     generalize wr = V at *
     go_upto_region 11 with (at_builtin; refine wpList_append_zero _ rfl _ _ 29 rfl 32 i0 Tryz.underlying29 hi ka' kc' rfl rfl ?_)
     have hk1 : Kept (fun k => k = w.heap.size) V (V.setCell ⟨w.heap.size, 3, none⟩ (.slice none 0 0)) := .setCell (S := fun k => k = w.heap.size) _ rfl _
     have hx2 := box_setCell X2Z.o 3 (.slice none 0 0)
     have hx4 := (hk1.block (w.heap.size + 1) (by omega) (by omega)).trans X4'.o
     have hs8 := hk1.size
     generalize (V.setCell ⟨w.heap.size, 3, none⟩ (.slice none 0 0)) = VE at *
     have Y2 := lh hx2; have Y4 := lh hx4; have HK1 := lh hk1
     clear hx2 hx4 hk1 y0 y1 y2 y3 y4 f2 X2Z X4'
     obtain ⟨y0, y1, y2, y3, y4⟩ := cells5 Y2.o
     go_wp2_with fail
     go_loopw [1, 9] (fun vt i wx => vt = .slice ua tk'.length uc ∧ i = .int .i64 0 ∧ wx = VE) (fun _ _ _ => 0)
     case atStart => exact ⟨rfl, rfl, rfl⟩
     case round =>
      obtain ⟨rfl, rfl, hwx⟩ := hrel
      subst hwx
      obtain ⟨z0, z1, z2, z3, z4⟩ := cells5 Y4.o
      have f4 := free_box Y4.o
      go_wp2_with fail
      have hkp := kept5 wr (w.heap.size + 1) (.int .i64 T'.op) (.int .i64 T'.n) (.string T'.text) (.slice none 0 0) (.slice pa' T'.pats.length pc')
      have hs9 := hkp.size
      have hall : Kept (fun k => k = w.heap.size ∨ k = w.heap.size + 1) V _ := (HK1.o.mono (S' := fun k => k = w.heap.size ∨ k = w.heap.size + 1) fun _ h => .inl h).trans (hkp.mono fun _ h => .inr h)
      have hOW : ∀ b, OwnX B W V (.slice ua tk'.length uc) b → b < V.heap.size ∧ ¬ (b = w.heap.size ∨ b = w.heap.size + 1) := fun b hb => by
       have := HLT.o b hb
       exact ⟨this.1, by omega⟩
      refine bodyPost_ret (v := .tuple #[.agg #[.int .i64 T'.op, .int .i64 T'.n, .string T'.text, .slice none 0 0, .slice pa' T'.pats.length pc'], .slice ua tk'.length uc]) (by simp [results, Tryz.results113, go_sem, z0, z1, z2, z3, z4]) rfl ⟨⟨_, _, rfl, ?_, ?_, ?_⟩, ?_⟩
      ·rw [HFE.o]
       exact ⟨HROW.o.1, ownsRow_of_block HROW.o.2 fun g hg => hall.block g (HROW.o.2.lt g hg).2 (HNO.o g hg)⟩
      ·exact HOC.o wr _ (.inl rfl)
      ·rw [HFE.o]
       unfold TmX
       exact ⟨_, _, rfl, HTX.o, .inl ⟨rfl, none, 0, rfl, Nat.zero_le _⟩, HPP.o.mono (HSET.o _ _ (by omega) (.inl rfl)) fun b o hlt h => PtsX.keep (fun x hx => hall.block x (hOW x hx).1 (hOW x hx).2) (HSET.o _ _ (by omega) (.inl rfl)) _ _ _ hlt h⟩
      ·exact HKEEP.o _ (hall.mono fun b h => h.imp_right .inl)
    ·have hn1 : 0 < T'.kids.length := by omega
     obtain ⟨kb, ko, hke, hkb, hks⟩ := HKA.o hn1
     subst hke
     obtain ⟨cs, hflat, hcs⟩ := FlaM.of _ _ hks
     have hcl := FlaM.length _ _ hflat
     have hone := FlaM.one _ _ hflat
     have hnews : ∀ j u, cs[j]? = some u → wr.cell? ((⟨kb, ko, none⟩ : Addr).add j) = some u := fun j u hj => by
      have : ((⟨kb, ko, none⟩ : Addr).add j) = ⟨kb, ko + j, none⟩ := by unfold Addr.add; split <;> simp_all
      rw [this]
      exact hcs j u hj
     have hWcell : ∀ w' : World, wr.grownBy w' (Value.slice none 0 0).ownBlock → Below wr.heap.size wr w' := fun w' hgr => below_of_grown (v := .slice none 0 0) hgr (Nat.le_refl _) (by intro g hg; cases hg)
     have HNW := lh hnews; have HONE := lh hone; have HFL := lh hflat; have HWC := lh hWcell; have HLC := lh hcl
     have HROW := lh HIN.o.row
     have HCN := lh hcn
     have f2 := free_box X2'.o
     clear hnews hone hflat hWcell hks hcs HKS HKK HKA hkk hka htx hpp hx2 hx4 hht hend HEQ HIN0 HR0 X4 HIN hcn
     generalize wr = V at *
     go_upto_region 11 with (at_builtin; refine wpList_append_own_at _ rfl _ _ 29 rfl V.heap.size 32 i0 _ 5 80 Tryz.underlying29 hi hz0 hz1 hz2 rfl (by decide) (.slice none 0 0) 0 [] rfl (World.ownsRow_nil _ _ _ _) ⟨kb, ko, none⟩ T'.kids.length kc' cs rfl HLC.o HNW.o HONE.o (by unfold maxLen; omega) (by omega) (Nat.le_refl _) ?_; intro v' w' hown' hgr hnil hat; obtain ⟨rg, rcap, cur, rfl, hrg, hrh, hrn, hrm, hrs, hrt⟩ := row_lay (n := T'.kids.length) (ys := cs) hown' (by omega) rfl (by omega); have HRH := lh hrh; have HRT := lh hrt; have HRM := lh hrm; have hrgl := lt_of_block hrh; have hbw0 := HWC.o w' hgr; have HGR := lh hbw0; have hx2' := bget' hbw0 X2'.out; have hsw' := hbw0.size; clear y0 y1 y2 y3 y4 f2 hown' hgr hnil hat hbw0 hrh hrt hrm; obtain ⟨y0, y1, y2, y3, y4⟩ := cells5 hx2'; have f2 := free_box hx2'; have X2Z := lh hx2'; clear hx2')
     clear hlt'
     have hk1 : Kept (fun k => k = w.heap.size) w' (w'.setCell ⟨w.heap.size, 3, none⟩ (.slice (some ⟨rg, 0, none⟩) T'.kids.length rcap)) := .setCell (S := fun k => k = w.heap.size) _ rfl _
     have hx2 := box_setCell X2Z.o 3 (.slice (some ⟨rg, 0, none⟩) T'.kids.length rcap)
     have hx4 := (hk1.block (w.heap.size + 1) (by omega) (by omega)).trans (bget' HGR.o X4'.o)
     have hs8 := hk1.size
     have hrh1 := (hk1.block rg hrgl (by omega)).trans HRH.o
     have hrgV : V.heap.size ≤ rg := hrg
     have hall1 : Kept (fun k => k = w.heap.size ∨ (Value.slice ua tk'.length uc).ownBlock = some k) V (w'.setCell ⟨w.heap.size, 3, none⟩ (.slice (some ⟨rg, 0, none⟩) T'.kids.length rcap)) := ((Kept.of_below HGR.o).trans (hk1.mono (S' := fun k => k = w.heap.size ∨ (Value.slice ua tk'.length uc).ownBlock = some k) fun _ h => .inl h))
     generalize (w'.setCell ⟨w.heap.size, 3, none⟩ (.slice (some ⟨rg, 0, none⟩) T'.kids.length rcap)) = VE at *
     have hall1b : ∀ g, (Value.slice ua tk'.length uc).ownBlock = some g → VE.heap[g]? = V.heap[g]? := fun g hg => by
      have h1 := (HROW.o.2.lt g hg).2
      exact (hk1.block g (by omega) (fun e => HNO.o g hg (.inl e))).trans (HGR.o.block g h1)
     have hOW : ∀ b, OwnX B W V (.slice ua tk'.length uc) b → b < V.heap.size ∧ b ≠ w.heap.size ∧ (Value.slice ua tk'.length uc).ownBlock ≠ some b := fun b hb => by
      have := HLT.o b hb
      exact ⟨this.1, this.2.1, this.2.2.1⟩
     have hAC : AnC (OwnX B W V (.slice ua tk'.length uc)) V w.heap.size rg (.slice ua tk'.length uc) := ⟨hOW, fun b hb => ⟨(HROW.o.2.lt b hb).2, fun e => HNO.o b hb (.inl e)⟩, by omega, hrgV⟩
     have hst : ∀ b, OwnX B W V (.slice ua tk'.length uc) b → VE.heap[b]? = V.heap[b]? := fun b hb => hall1.block b (hOW b hb).1 fun h => h.elim (hOW b hb).2.1 (hOW b hb).2.2
     have hlst : TmsX (OwnR (OwnX B W V (.slice ua tk'.length uc)) V rg VE (.slice ua tk'.length uc)) VE (anL (anR f) T'.kids tk' 0) rg 0 := by
      rw [anL_zero]
      refine FlaM.tmsX _ _ _ (FlaM.keep hst (fun b hb => .inl hb) _ _ HFL.o) fun j u hj => ?_
      rw [Nat.zero_add]
      exact lay_cell hrh1 HRT.o hj
     have hout : AnOut (OwnX B W V (.slice ua tk'.length uc)) V w.heap.size rg m0 (.slice ua tk'.length uc) #[.int .i64 T'.op, .int .i64 T'.n, .string T'.text, .slice (some ⟨rg, 0, none⟩) T'.kids.length rcap, .slice pa' T'.pats.length pc'] (anL (anR f) T'.kids tk' 0) tk' (.slice ua tk'.length uc) VE :=
      ⟨⟨HROW.o.1, ownsRow_of_block HROW.o.2 fun g hg => hall1b g hg⟩, .inl rfl, hx2, hlst, ⟨_, hrh1⟩, hall1⟩
     have HOUT := lh hout; have HAC := lh hAC
     clear hout hAC hst hlst hall1 hx2 hx4 hk1 hrh1 HRH HRT HFL HNW HONE HLC HWC HGR X2Z X2' y0 y1 y2 y3 y4 f2 hs8 hsw' hrgl hall1b
     obtain ⟨y0, y1, y2, y3, y4⟩ := cells5 HOUT.o.box
     go_wp2_with fail
     go_loopw [1, 9] (fun vt i wi => ∃ (k : Nat), k ≤ T'.kids.length ∧ i = .int .i64 k ∧ Hid (AnOut (OwnX B W V (.slice ua tk'.length uc)) V w.heap.size rg m0 (.slice ua tk'.length uc) #[.int .i64 T'.op, .int .i64 T'.n, .string T'.text, .slice (some ⟨rg, 0, none⟩) T'.kids.length rcap, .slice pa' T'.pats.length pc'] (anL (anR f) T'.kids tk' k) (anK (anR f) (T'.kids.take k) tk').2 vt wi)) (fun _ i _ => T'.kids.length - (intOf i).toNat)
     case atStart => exact ⟨0, Nat.zero_le _, rfl, HOUT.o⟩
     case round =>
      obtain ⟨k, hk, rfl, HO⟩ := hrel
      clear y0 y1 y2 y3 y4 HOUT
      obtain ⟨y0, y1, y2, y3, y4⟩ := cells5 HO.o.box
      have hszr := HO.o.kp.size
      by_cases hlt : k < T'.kids.length
      ·have hlt' : (k : Int) < (T'.kids.length : Int) := by omega
       have hlL : k < (anL (anR f) T'.kids tk' k).length := by rw [anL_len _ _ _ _ hk]; exact hlt
       obtain ⟨c0, c1, c2, c3, c4, g0, g1, g2, g3, g4, ht⟩ := TmsX.get _ rg 0 HO.o.lst k hlL
       rw [anL_get _ _ _ _ hlt] at ht
       simp only [Nat.zero_add] at g0 g1 g2 g3 g4
       obtain ⟨oo, nn, tt, kka, kkn, kkc, ppa, ppn, ppc, rfl, rfl, rfl, rfl, rfl⟩ := ht.cells
       obtain ⟨va, vc, hva⟩ := HO.o.row.slice
       subst hva
       have hcnt : (anK (anR f) (T'.kids.take k) tk').2.length + 72 * cntN T'.kids[k] ≤ 1000000 := by
        have h1 := anK_len2 f (T'.kids.take k) tk' fun t ht => by
         obtain ⟨j, hj, rfl⟩ := List.getElem_of_mem (List.mem_of_mem_take ht)
         exact HAW4.o.kid j hj
        have h2 := cntNs_take T'.kids k hlt
        have h3 := HCN.o
        omega
       have hcl := HIH.o T'.kids[k] (anK (anR f) (T'.kids.take k) tk').2 _ _ wr _ m0 (fun b hb => ⟨(HO.o.lt HAC.o b hb).1, (HO.o.lt HAC.o b hb).2.2.2⟩) ht (HAW4.o.kid k hlt) (HHT.o k hlt) HO.o.row (by omega) hcnt
       have HC := lh hcl
       have HLS := lh (anL_set (anR f) T'.kids tk' k hlt)
       have HTS := lh (congrArg Prod.snd (anK_take (anR f) T'.kids tk' k hlt))
       clear hcl ht hcnt
       go_wp2_with fail
       refine HC.o.mono ?_
       rintro e w1 ⟨⟨v', vt', rfl, hr1, ho1, ht1⟩, hk1⟩
       obtain ⟨RK, hRK⟩ : ∃ RK, RK = anR f T'.kids[k] (anK (anR f) (T'.kids.take k) tk').2 := ⟨_, rfl⟩
       rw [← hRK] at hr1 ht1
       have HRK := lh hRK
       clear hRK HC
       obtain ⟨K9, tk9⟩ := RK
       obtain ⟨qa, qc, qa', qc', rfl⟩ := ht1.shape
       obtain ⟨na, nc, rfl⟩ := hr1.slice
       have hs1 := hk1.size
       have hnr : ¬ (Value.slice va (anK (anR f) (T'.kids.take k) tk').2.length vc).ownBlock = some rg := fun e => (HO.o.own HAC.o rg e).2.2.1 rfl
       have hnn : ¬ (Value.slice va (anK (anR f) (T'.kids.take k) tk').2.length vc).ownBlock = some w.heap.size := fun e => (HO.o.own HAC.o _ e).2.1 rfl
       obtain ⟨cur9, hcur9⟩ := HO.o.rgb
       have hrl9 := lt_of_block hcur9
       have hX := (Below.refl w1.heap.size w1).alloc (Nat.le_refl _) (.cells #[.int .i64 K9.op, .int .i64 K9.n, .string K9.text, .slice qa K9.kids.length qc, .slice qa' K9.pats.length qc'] 32)
       have hxn := heap_alloc_new w1 (.cells #[.int .i64 K9.op, .int .i64 K9.n, .string K9.text, .slice qa K9.kids.length qc, .slice qa' K9.pats.length qc'] 32)
       have hb2 := bget' hX ((hk1.block w.heap.size (by omega) hnn).trans HO.o.box)
       have hr2 := bget' hX ((hk1.block rg hrl9 hnr).trans hcur9)
       have hrr : (w1.alloc (.cells #[.int .i64 K9.op, .int .i64 K9.n, .string K9.text, .slice qa K9.kids.length qc, .slice qa' K9.pats.length qc'] 32)).heap[rg]? = wr.heap[rg]? := hr2.trans hcur9.symm
       have hst := HO.o.step HAC.o k hlL hr1 ho1 hk1 ht1 (.cells #[.int .i64 K9.op, .int .i64 K9.n, .string K9.text, .slice qa K9.kids.length qc, .slice qa' K9.pats.length qc'] 32)
       rw [show K9 = (anR f T'.kids[k] (anK (anR f) (T'.kids.take k) tk').2).1 from congrArg Prod.fst HRK.o, HLS.o, ← show K9 = (anR f T'.kids[k] (anK (anR f) (T'.kids.take k) tk').2).1 from congrArg Prod.fst HRK.o] at hst
       have HST := lh hst
       have q0 := (cell_of_heap hrr).trans g0
       have q1 := (cell_of_heap hrr).trans g1
       have q2 := (cell_of_heap hrr).trans g2
       have q3 := (cell_of_heap hrr).trans g3
       have q4 := (cell_of_heap hrr).trans g4
       have H2 := lh hb2; have HR2 := lh hr2; have HXN := lh hxn
       clear hst hb2 hr2 hrr hxn hX hcur9 hk1 hr1 ho1 ht1 g0 g1 g2 g3 g4 y0 y1 y2 y3 y4 hnr hnn
       go_upto_region 15 with fail
       obtain ⟨y0, y1, y2, y3, y4⟩ := cells5 H2.o
       obtain ⟨p0, p1, p2, p3, p4⟩ := cells5 HXN.o
       have f0 := free_box HR2.o
       go_upto_region 16 with fail
       generalize ((((((w1.alloc (.cells #[.int .i64 K9.op, .int .i64 K9.n, .string K9.text, .slice qa K9.kids.length qc, .slice qa' K9.pats.length qc'] 32)).setCell ⟨rg, k * 5, none⟩ (.int .i64 K9.op)).setCell ⟨rg, k * 5 + 1, none⟩ (.int .i64 K9.n)).setCell ⟨rg, k * 5 + 2, none⟩ (.string K9.text)).setCell ⟨rg, k * 5 + 3, none⟩ (.slice qa K9.kids.length qc)).setCell ⟨rg, k * 5 + 4, none⟩ (.slice qa' K9.pats.length qc')) = w9 at *
       clear y0 y1 y2 y3 y4 p0 p1 p2 p3 p4 q0 q1 q2 q3 q4 f0
       go_wp2_with fail
       go_roundw
       case rel => exact ⟨k + 1, by omega, by go_num, by unfold Hid; rw [show (anK (anR f) (T'.kids.take (k + 1)) tk').2 = tk9 from HTS.o.trans (congrArg Prod.snd HRK.o).symm]; exact HST.o⟩
       case measure => simp [intOf]; omega
      ·obtain rfl : k = T'.kids.length := by omega
       obtain ⟨va, vc, hva⟩ := HO.o.row.slice
       subst hva
       have hx4 := (HO.o.kp.block (w.heap.size + 1) (by omega) (fun h => h.elim (fun h => by omega) fun h => HNO.o _ h (.inr rfl))).trans X4'.o
       obtain ⟨z0, z1, z2, z3, z4⟩ := cells5 hx4
       have f4 := free_box hx4
       have hrow9 := HO.o.row
       have hlst := HO.o.lst
       rw [anL_end] at hlst
       rw [List.take_length] at hrow9
       have HR9 := lh hrow9; have HL9 := lh hlst
       have hlen9 : (anK (anR f) (T'.kids.take T'.kids.length) tk').2 = (anK (anR f) T'.kids tk').2 := by rw [List.take_length]
       rw [hlen9] at HO ⊢
       rw [hlen9] at HL9
       clear hx4 hrow9 hlst hlt
       go_wp2_with fail
       have hkp := kept5 wr (w.heap.size + 1) (.int .i64 T'.op) (.int .i64 T'.n) (.string T'.text) (.slice (some ⟨rg, 0, none⟩) T'.kids.length rcap) (.slice pa' T'.pats.length pc')
       have hs9 := hkp.size
       have hob9 : (Value.slice va (anK (anR f) T'.kids tk').2.length vc).ownBlock = (Value.slice ua tk'.length uc).ownBlock ∨ ∃ g, (Value.slice va (anK (anR f) T'.kids tk').2.length vc).ownBlock = some g ∧ V.heap.size ≤ g := HO.o.ob.imp_right fun ⟨g, h1, h2, _⟩ => ⟨g, h1, h2⟩
       have hown9 : ∀ g, (Value.slice va (anK (anR f) T'.kids tk').2.length vc).ownBlock = some g → g < wr.heap.size ∧ g ≠ w.heap.size + 1 := fun g hg => by
        refine ⟨(HR9.o.2.lt g hg).2, fun e => ?_⟩
        have h1 := (HO.o.own HAC.o g hg).2.2.2
        have h2 := HAC.o.n
        by_cases h3 : g < V.heap.size
        ·exact HNO.o g (h1 h3) (.inr e)
        ·omega
       obtain ⟨cur9, hcur9⟩ := HO.o.rgb
       have hrl9 := lt_of_block hcur9
       have hset9 := HSET.o
       have hsR : ∀ (wf : World), wr.heap.size ≤ wf.heap.size → ∀ b, OwnR (OwnX B W V (.slice ua tk'.length uc)) V rg wr (.slice va (anK (anR f) T'.kids tk').2.length vc) b → B b ∨ (Fresh w wf b ∧ (Value.slice va (anK (anR f) T'.kids tk').2.length vc).ownBlock ≠ some b) := fun wf hsz b hb => by
        rcases hb with hb | hb
        ·exact hset9 wf _ (by omega) hob9 b hb
        ·exact .inr ⟨⟨by have := hb.1; omega, by have := hb.2.1; omega⟩, hb.2.2.1⟩
       have hall : Kept (fun k => k = w.heap.size ∨ k = w.heap.size + 1 ∨ (Value.slice ua tk'.length uc).ownBlock = some k) V _ := (HO.o.kp.mono (S' := fun k => k = w.heap.size ∨ k = w.heap.size + 1 ∨ (Value.slice ua tk'.length uc).ownBlock = some k) fun _ h => h.imp_right .inr).trans (hkp.mono fun _ h => .inr (.inl h))
       refine bodyPost_ret (v := .tuple #[.agg #[.int .i64 T'.op, .int .i64 T'.n, .string T'.text, .slice (some ⟨rg, 0, none⟩) T'.kids.length rcap, .slice pa' T'.pats.length pc'], .slice va (anK (anR f) T'.kids tk').2.length vc]) (by simp [results, Tryz.results113, go_sem, z0, z1, z2, z3, z4]) rfl ⟨⟨_, _, rfl, ?_, ?_, ?_⟩, ?_⟩
       ·rw [HFIN.o]
        exact ⟨HR9.o.1, ownsRow_of_block HR9.o.2 fun g hg => hkp.block g (hown9 g hg).1 (hown9 g hg).2⟩
       ·exact HOC.o wr _ hob9
       ·rw [HFIN.o]
        unfold TmX
        refine ⟨_, _, rfl, HTX.o, ?_, HPP.o.mono (fun b hb => hset9 _ _ (by omega) hob9 b hb) fun b o hlt h => PtsX.keep (fun x hx => hall.block x (HLT.o x hx).1 (fun h => h.elim (HLT.o x hx).2.1 fun h => h.elim (HLT.o x hx).2.2.2 (HLT.o x hx).2.2.1)) (fun b hb => hset9 _ _ (by omega) hob9 b hb) _ _ _ hlt h⟩
        refine .inr ⟨rg, 0, rcap, by rw [anK_len], by rw [anK_len]; exact hrn, HRM.o, .inr ⟨⟨by omega, by omega⟩, fun e => (HO.o.own HAC.o rg e).2.2.1 rfl⟩, ?_⟩
        obtain ⟨xs, hf9, hc9⟩ := FlaM.of _ _ HL9.o
        refine FlaM.tmsX _ _ _ (FlaM.keep (fun b hb => ?_) (hsR _ (by omega)) _ _ hf9) fun j u hj => ?_
        ·have := HO.o.lt HAC.o b hb
         refine hkp.block b this.1 fun e => ?_
         rcases hb with hb | hb
         ·exact (HLT.o b hb).2.2.2 e
         ·have := hb.1; have := HAC.o.n; omega
        ·exact (cell_of_heap (hkp.block rg hrl9 (by omega))).trans (hc9 j u hj)
       ·exact HKEEP.o _ hall
attribute [local go_sem] eval_put_same eval_put_ne size_put
def r54x0 : Oper := { dst := some 6, op := Op.load 32 (Operand.tmp 1), type := 32, pos := "ref.go:528", after := #[], guard := none }
def r54x1 : Oper := { dst := some 7, op := Op.load 32 (Operand.tmp 1), type := 32, pos := "ref.go:528", after := #[], guard := none }
def r54x2 : Oper := { dst := some 8, op := Op.call { callee := Callee.value (Operand.func 48), args := #[Operand.tmp 7], argTypes := #[32] }, type := 22, pos := "ref.go:528", after := #[{ on := 1, ground := Ground.data }], guard := none }
def r54x3 : Oper := { dst := some 9, op := Op.call { callee := Callee.value (Operand.func 113), args := #[Operand.tmp 6, Operand.tmp 8], argTypes := #[32, 22] }, type := 128, pos := "ref.go:528", after := #[{ on := 0, ground := Ground.data }, { on := 2, ground := Ground.data }, { on := 2, ground := Ground.chain }], guard := none }
def r54x4 : Oper := { dst := some 5, op := Op.move (Operand.tmp 9), type := 128, pos := "ref.go:528", after := #[{ on := 3, ground := Ground.data }], guard := none }
def r54x5 : Oper := { dst := some 10, op := Op.extract (Operand.tmp 5) 0, type := 32, pos := "ref.go:528", after := #[{ on := 4, ground := Ground.data }], guard := none }
def r54x6 : Oper := { dst := some 11, op := Op.extract (Operand.tmp 5) 1, type := 22, pos := "ref.go:528", after := #[{ on := 4, ground := Ground.data }, { on := 8, ground := Ground.gcOnly Departure.lateStores }], guard := none }
def r54x7 : Oper := { dst := some 3, op := Op.alloc 32, type := 0, pos := "ref.go:528", after := #[], guard := none }
def r54x8 : Oper := { dst := none, op := Op.store 32 (Operand.tmp 3) (Operand.tmp 10), type := 0, pos := "ref.go:528", after := #[{ on := 7, ground := Ground.data }, { on := 5, ground := Ground.data }, { on := 3, ground := Ground.chain }, { on := 0, ground := Ground.phase }, { on := 1, ground := Ground.phase }, { on := 2, ground := Ground.phase }, { on := 3, ground := Ground.phase }, { on := 4, ground := Ground.phase }, { on := 5, ground := Ground.phase }, { on := 6, ground := Ground.textOnly Departure.lateStores }, { on := 7, ground := Ground.phase }], guard := none }
def r54x9 : Oper := { dst := some 4, op := Op.assign (Operand.tmp 11), type := 22, pos := "ref.go:528", after := #[{ on := 6, ground := Ground.data }, { on := 8, ground := Ground.chain }, { on := 0, ground := Ground.phase }, { on := 1, ground := Ground.phase }, { on := 2, ground := Ground.phase }, { on := 3, ground := Ground.phase }, { on := 4, ground := Ground.phase }, { on := 5, ground := Ground.phase }, { on := 6, ground := Ground.phase }, { on := 7, ground := Ground.phase }, { on := 8, ground := Ground.phase }], guard := none }
def ops54 : Array Oper := #[r54x0, r54x1, r54x2, r54x3, r54x4, r54x5, r54x6, r54x7, r54x8, r54x9]
attribute [local go_sem] r54x0 r54x1 r54x2 r54x3 r54x4 r54x5 r54x6 r54x7 r54x8 r54x9
theorem RowS.sl0 {n₀ : Nat} {w : World} {v : Value} {l : List ByteArray} (h : RowS n₀ w v l) (k : Nat) (hk : v.ownBlock = some k) : n₀ ≤ k ∧ k < w.heap.size := h.2.lt k hk
theorem store54 {U w3 : World} {q : Nat} {c0 c1 c2 c3 c4 e0 e1 e2 e3 e4 : Value} (hq : w3.heap[q]? = some (.cells #[c0, c1, c2, c3, c4] 32 (0, 0))) (hU : U.heap.size ≤ q) {S : Nat → Prop} (hs : ∀ b, S b → b < w3.heap.size ∧ b ≠ q) {R : Tm}
  (ht : TmX S w3 R (.agg #[e0, e1, e2, e3, e4])) {vt : Value} {tk : List ByteArray} (hr : RowS U.heap.size w3 vt tk) (ho : ∀ g, vt.ownBlock = some g → g ≠ q) (hb : Below U.heap.size U w3) :
  ∀ w4, w4 = (((((w3.setCell ⟨q, 0, none⟩ e0).setCell ⟨q, 1, none⟩ e1).setCell ⟨q, 2, none⟩ e2).setCell ⟨q, 3, none⟩ e3).setCell ⟨q, 4, none⟩ e4) →
  w4.heap[q]? = some (.cells #[e0, e1, e2, e3, e4] 32 (0, 0)) ∧ TmX (fun b => b < w4.heap.size) w4 R (.agg #[e0, e1, e2, e3, e4]) ∧ RowS U.heap.size w4 vt tk ∧ Below U.heap.size U w4 := by
 intro w4 h4
 have hkp := kept5 w3 q e0 e1 e2 e3 e4
 have hbx := box_set5 hq e0 e1 e2 e3 e4
 rw [← h4] at hkp hbx
 have hsz := hkp.size
 have hsU := hb.size
 exact ⟨hbx, TmX.keep (fun b h => hkp.block b (hs b h).1 (hs b h).2) (fun b h => by have := (hs b h).1; omega) _ _ ht, ⟨hr.1, ownsRow_of_block hr.2 fun g hg => hkp.block g (hr.2.lt g hg).2 (ho g hg)⟩, hb.trans (hkp.below (n₀ := U.heap.size) (by omega) (by rintro x rfl; omega))⟩
set_option maxHeartbeats 1000000 in
set_option maxRecDepth 100000 in
theorem reg54 {Q : Exit → Act → World → Prop} {a : Act} {U : World} {qb : Nat} {T : Tm} {ka pa : Option Addr} {kc pc : Nat} {l : List ByteArray} {r : Tm × List ByteArray}
  (hsz : a.tmps.size = 15) (h1 : a.tmps[1]'(by omega) = .pointer (some ⟨qb, 0, none⟩))
  (hQ : ∀ c (d : Nat) v (a : Act) w, Q (.panic c) (a.put (some d) v) w → Q (.panic c) a w)
  (hq : (U.heap[qb]? = some (.cells #[.int .i64 T.op, .int .i64 T.n, .string T.text, .slice ka T.kids.length kc, .slice pa T.pats.length pc] 32 (0, 0))))
  (hc1 : ∀ w1, Below U.heap.size U w1 → Calls Tryz.prog 48 #[.agg #[.int .i64 T.op, .int .i64 T.n, .string T.text, .slice ka T.kids.length kc, .slice pa T.pats.length pc]] w1 fun e w' => (∃ v', e = .returned v' ∧ RowS w1.heap.size w' v' l) ∧ Below w1.heap.size w1 w')
  (hc2 : ∀ w1 vt, Below U.heap.size U w1 → RowS U.heap.size w1 vt l → Calls Tryz.prog 113 #[.agg #[.int .i64 T.op, .int .i64 T.n, .string T.text, .slice ka T.kids.length kc, .slice pa T.pats.length pc], vt] w1 fun e w' => AnEnd (fun b => b < U.heap.size) U.heap.size vt r w1 e w')
  (hK : ∀ (u6 u7 u8 u9 u5 u10 vt : Value) (q : Nat) (xa ya : Option Addr) (xc yc : Nat) (w' : World), w'.heap[q]? = some (.cells #[.int .i64 r.1.op, .int .i64 r.1.n, .string r.1.text, .slice xa r.1.kids.length xc, .slice ya r.1.pats.length yc] 32 (0, 0)) → TmX (fun b => b < w'.heap.size) w' r.1 (.agg #[.int .i64 r.1.op, .int .i64 r.1.n, .string r.1.text, .slice xa r.1.kids.length xc, .slice ya r.1.pats.length yc]) → RowS U.heap.size w' vt r.2 → Below U.heap.size U w' →
   Q .normal { tmps := (((((((((a.tmps.setIfInBounds 6 u6).setIfInBounds 7 u7).setIfInBounds 8 u8).setIfInBounds 9 u9).setIfInBounds 5 u5).setIfInBounds 10 u10).setIfInBounds 11 vt).setIfInBounds 3 (.pointer (some ⟨q, 0, none⟩))).setIfInBounds 4 vt), defers := a.defers } w') :
  (Code.region 1 ops54 true).wp Tryz.prog Q a U := by
 obtain ⟨i0, hi, hz0, hz1, hz2⟩ := info_parts Tz.info32
 have hqb := lt_of_block hq
 have HC1 := lh hc1; have HC2 := lh hc2; have HK := lh hK; have HQ := lh hq
 have hS0 : (U.drew.heap[qb]? = some (.cells #[.int .i64 T.op, .int .i64 T.n, .string T.text, .slice ka T.kids.length kc, .slice pa T.pats.length pc] 32 (0, 0))) := hq
 clear hc1 hc2 hK hq
 refine wp_region_z (fun w' => (w'.heap[qb]? = some (.cells #[.int .i64 T.op, .int .i64 T.n, .string T.text, .slice ka T.kids.length kc, .slice pa T.pats.length pc] 32 (0, 0)))) 9 (by kernel_rfl) ?_
 refine wpAnyZ_take 0 (oi := r54x0) hS0 rfl (by kernel_rfl) (by kernel_rfl) (by kernel_rfl) (fun c a w h => hQ c _ _ a w h) (by kernel_rfl) rfl (by rfl) (by intro w' hq; obtain ⟨k0, k1, k2, k3, k4⟩ := cells5 hq; go_simp <;> rfl) ?_
 refine wpAnyZ_take 1 (oi := r54x1) hS0 rfl (by kernel_rfl) (by kernel_rfl) (by kernel_rfl) (fun c a w h => hQ c _ _ a w h) (by kernel_rfl) rfl (by rfl) (by intro w' hq; obtain ⟨k0, k1, k2, k3, k4⟩ := cells5 hq; go_simp <;> rfl) ?_
 clear hS0
 refine wpAnyZ_two 2 7 (o := r54x2) (o' := r54x7) (by kernel_rfl) rfl rfl (fun KK hKK => ?_) (fun KK hKK => ?_)
 ·have HCA := lh (HC1.o U.drew (below_drew U.heap.size U))
  go_simp
  refine HCA.o.mono ?_
  rintro e w1 ⟨⟨v8, rfl, hr8⟩, hb8⟩
  have hs8 := hb8.size
  have HB8 := lh (((below_drew U.heap.size U)).trans (hb8.mono ((below_drew U.heap.size U)).size)); have HR8 := lh hr8
  have HBO8 := lh hb8
  clear hb8 hr8 HCA
  refine hKK.o _ _ (fun _ => (HB8.o.block qb hqb).trans HQ.o) ?_
  clear hKK KK
  have hrw : RowS U.heap.size w1 v8 l := ⟨HR8.o.1, ownsRow_base0 HR8.o.2 (Nat.le_refl _)⟩
  have HRW := lh hrw; clear hrw
  refine wpAnyZ_two 3 7 (o := r54x3) (o' := r54x7) (by kernel_rfl) rfl rfl (fun KK hKK => ?_) (fun KK hKK => ?_)
  ·have HCB := lh (HC2.o w1 _ HB8.o HRW.o)
   go_simp
   refine HCB.o.mono ?_
   rintro e w2 ⟨⟨v9, vt, rfl, hr9, ho9, ht9⟩, hk9⟩
   obtain ⟨xa, xc, ya, yc, rfl⟩ := ht9.shape
   have hs9 := hk9.size
   have hU9 := (HB8.o).size
   have hb9 : Below U.heap.size U w2 := (HB8.o).trans (hk9.below (n₀ := U.heap.size) hU9 fun k hk => (RowS.sl0 HRW.o k hk).1)
   have HB9 := lh hb9; have HR9 := lh hr9; have HO9 := lh ho9; have HT9 := lh ht9; have HK9 := lh hk9
   have hS9 : (w2.heap[qb]? = some (.cells #[.int .i64 T.op, .int .i64 T.n, .string T.text, .slice ka T.kids.length kc, .slice pa T.pats.length pc] 32 (0, 0))) := (HB9.o.block qb hqb).trans HQ.o
   clear hr9 ho9 ht9 hk9 HCB
   refine hKK.o _ _ (fun _ => hS9) ?_
   clear hKK KK
   refine wpAnyZ_take 4 (oi := r54x4) hS9 rfl (by kernel_rfl) (by kernel_rfl) (by kernel_rfl) (fun c a w h => hQ c _ _ a w h) (by kernel_rfl) rfl (by rfl) (by intro w' hq; go_simp <;> rfl) ?_
   refine wpAnyZ_take 5 (oi := r54x5) hS9 rfl (by kernel_rfl) (by kernel_rfl) (by kernel_rfl) (fun c a w h => hQ c _ _ a w h) (by kernel_rfl) rfl (by rfl) (by intro w' hq; go_simp <;> rfl) ?_
   refine wpAnyZ_take 6 (oi := r54x6) hS9 rfl (by kernel_rfl) (by kernel_rfl) (by kernel_rfl) (fun c a w h => hQ c _ _ a w h) (by kernel_rfl) rfl (by rfl) (by intro w' hq; go_simp <;> rfl) ?_
   refine wpAnyZ_one 7 (o := r54x7) (by kernel_rfl) rfl fun KK hKK => ?_
   have hxa := heap_alloc_new w2 (.cells #[.int .i64 0, .int .i64 0, .string ⟨#[]⟩, .slice none 0 0, .slice none 0 0] 32)
   have hbaa := (Below.refl w2.heap.size w2).alloc (Nat.le_refl _) (.cells #[.int .i64 0, .int .i64 0, .string ⟨#[]⟩, .slice none 0 0, .slice none 0 0] 32)
   have hbza : (w2.alloc (.cells #[.int .i64 0, .int .i64 0, .string ⟨#[]⟩, .slice none 0 0, .slice none 0 0] 32)).heap.size = w2.heap.size + 1 := by simp
   go_simp
   generalize (w2.alloc (.cells #[.int .i64 0, .int .i64 0, .string ⟨#[]⟩, .slice none 0 0, .slice none 0 0] 32)) = w3 at *
   have HXa := lh hxa; have HBAa := lh hbaa; have HBUa := lh ((HB9.o).trans (hbaa.mono (HB9.o).size))
   clear hxa hbaa
   refine hKK.o _ _ (fun _ => (HBUa.o.block qb hqb).trans HQ.o) ?_
   clear hKK KK
   have hfin := store54 (U := U) HXa.o (by omega) (S := fun b => b < w2.heap.size) (fun b h => ⟨by omega, by omega⟩) (TmX.keep (B' := fun b => b < w2.heap.size) (fun b h => HBAa.o.block b (h.elim (fun h => by omega) fun h => h.1.2)) (fun b h => h.elim (fun h => by omega) fun h => h.1.2) _ _ HT9.o) (HR9.o.below HBAa.o) (fun g hg => by have := (HR9.o.2.lt g hg).2; omega) HBUa.o
   refine wpAnyZ_one 8 (o := r54x8) (by kernel_rfl) rfl fun KK hKK => ?_
   have hz := cells5 HXa.o
   have z0 := hz.1; have z1 := hz.2.1; have z2 := hz.2.2.1; have z3 := hz.2.2.2.1; have z4 := hz.2.2.2.2
   clear hz
   have fz := free_box HXa.o
   have HF := lh hfin
   clear hfin
   go_simp
   obtain ⟨d1, d2, d3, d4⟩ := HF.o _ rfl
   generalize (((((w3.setCell ⟨w2.heap.size, 0, none⟩ _).setCell ⟨w2.heap.size, 1, none⟩ _).setCell ⟨w2.heap.size, 2, none⟩ _).setCell ⟨w2.heap.size, 3, none⟩ _).setCell ⟨w2.heap.size, 4, none⟩ _) = w4 at *
   refine hKK.o _ _ (fun _ => (d4.block qb hqb).trans HQ.o) ?_
   clear hKK KK z0 z1 z2 z3 z4 fz
   refine wpAnyZ_one 9 (o := r54x9) (by kernel_rfl) rfl fun KK hKK => ?_
   go_simp
   refine hKK.o _ _ (fun h => absurd rfl h) ?_
   refine wpAnyZ_done (by kernel_rfl) ?_ _
   exact HK.o _ _ _ _ _ _ _ w2.heap.size xa ya xc yc w4 d1 d2 d3 d4
  ·have hxa := heap_alloc_new w1 (.cells #[.int .i64 0, .int .i64 0, .string ⟨#[]⟩, .slice none 0 0, .slice none 0 0] 32)
   have hbaa := (Below.refl w1.heap.size w1).alloc (Nat.le_refl _) (.cells #[.int .i64 0, .int .i64 0, .string ⟨#[]⟩, .slice none 0 0, .slice none 0 0] 32)
   have hbza : (w1.alloc (.cells #[.int .i64 0, .int .i64 0, .string ⟨#[]⟩, .slice none 0 0, .slice none 0 0] 32)).heap.size = w1.heap.size + 1 := by simp
   go_simp
   generalize (w1.alloc (.cells #[.int .i64 0, .int .i64 0, .string ⟨#[]⟩, .slice none 0 0, .slice none 0 0] 32)) = w2 at *
   have HXa := lh hxa; have HBAa := lh hbaa; have HBUa := lh ((HB8.o).trans (hbaa.mono (HB8.o).size))
   clear hxa hbaa
   refine hKK.o _ _ (fun _ => (HBUa.o.block qb hqb).trans HQ.o) ?_
   clear hKK KK
   have HRX := lh (HRW.o.below HBAa.o)
   have HCB := lh (HC2.o w2 _ HBUa.o HRX.o)
   refine wpAnyZ_one 3 (o := r54x3) (by kernel_rfl) rfl fun KK hKK => ?_
   go_simp
   refine HCB.o.mono ?_
   rintro e w3 ⟨⟨v9, vt, rfl, hr9, ho9, ht9⟩, hk9⟩
   obtain ⟨xa, xc, ya, yc, rfl⟩ := ht9.shape
   have hs9 := hk9.size
   have hU9 := (HBUa.o).size
   have hb9 : Below U.heap.size U w3 := (HBUa.o).trans (hk9.below (n₀ := U.heap.size) hU9 fun k hk => (RowS.sl0 HRX.o k hk).1)
   have HB9 := lh hb9; have HR9 := lh hr9; have HO9 := lh ho9; have HT9 := lh ht9; have HK9 := lh hk9
   have hS9 : (w3.heap[qb]? = some (.cells #[.int .i64 T.op, .int .i64 T.n, .string T.text, .slice ka T.kids.length kc, .slice pa T.pats.length pc] 32 (0, 0))) := (HB9.o.block qb hqb).trans HQ.o
   clear hr9 ho9 ht9 hk9 HCB
   refine hKK.o _ _ (fun _ => hS9) ?_
   clear hKK KK
   refine wpAnyZ_take 4 (oi := r54x4) hS9 rfl (by kernel_rfl) (by kernel_rfl) (by kernel_rfl) (fun c a w h => hQ c _ _ a w h) (by kernel_rfl) rfl (by rfl) (by intro w' hq; go_simp <;> rfl) ?_
   refine wpAnyZ_take 5 (oi := r54x5) hS9 rfl (by kernel_rfl) (by kernel_rfl) (by kernel_rfl) (fun c a w h => hQ c _ _ a w h) (by kernel_rfl) rfl (by rfl) (by intro w' hq; go_simp <;> rfl) ?_
   refine wpAnyZ_take 6 (oi := r54x6) hS9 rfl (by kernel_rfl) (by kernel_rfl) (by kernel_rfl) (fun c a w h => hQ c _ _ a w h) (by kernel_rfl) rfl (by rfl) (by intro w' hq; go_simp <;> rfl) ?_
   have hnq : ∀ g, v8.ownBlock = some g → g ≠ w1.heap.size := fun g hg => by have := (HRW.o.2.lt g hg).2; omega
   have HXb := lh ((HK9.o.block w1.heap.size (by omega) (fun e => hnq _ e rfl)).trans HXa.o)
   have hfin := store54 (U := U) HXb.o (by have := HB8.o.size; omega) (S := fun b => b < U.heap.size ∨ (Fresh w2 w3 b ∧ vt.ownBlock ≠ some b)) (fun b h => by
    have := HB8.o.size
    rcases h with h | h
    ·exact ⟨by omega, by omega⟩
    ·have h1 := h.1.1; have h2 := h.1.2; exact ⟨h2, by omega⟩) HT9.o HR9.o (fun g hg => by
    rcases HO9.o with e | ⟨g', e, h⟩
    ·rw [e] at hg; exact hnq g hg
    ·rw [e] at hg; cases hg; omega) HB9.o
   refine wpAnyZ_one 8 (o := r54x8) (by kernel_rfl) rfl fun KK hKK => ?_
   have hz := cells5 HXb.o
   have z0 := hz.1; have z1 := hz.2.1; have z2 := hz.2.2.1; have z3 := hz.2.2.2.1; have z4 := hz.2.2.2.2
   clear hz
   have fz := free_box HXb.o
   have HF := lh hfin
   clear hfin
   go_simp
   obtain ⟨d1, d2, d3, d4⟩ := HF.o _ rfl
   generalize (((((w3.setCell ⟨w1.heap.size, 0, none⟩ _).setCell ⟨w1.heap.size, 1, none⟩ _).setCell ⟨w1.heap.size, 2, none⟩ _).setCell ⟨w1.heap.size, 3, none⟩ _).setCell ⟨w1.heap.size, 4, none⟩ _) = w4 at *
   refine hKK.o _ _ (fun _ => (d4.block qb hqb).trans HQ.o) ?_
   clear hKK KK z0 z1 z2 z3 z4 fz
   refine wpAnyZ_one 9 (o := r54x9) (by kernel_rfl) rfl fun KK hKK => ?_
   go_simp
   refine hKK.o _ _ (fun h => absurd rfl h) ?_
   refine wpAnyZ_done (by kernel_rfl) ?_ _
   rw [Array.setIfInBounds_comm (i := 3) (j := 9) _ _ (by decide)]
   rw [Array.setIfInBounds_comm (i := 3) (j := 5) _ _ (by decide)]
   rw [Array.setIfInBounds_comm (i := 3) (j := 10) _ _ (by decide)]
   rw [Array.setIfInBounds_comm (i := 3) (j := 11) _ _ (by decide)]
   exact HK.o _ _ _ _ _ _ _ w1.heap.size xa ya xc yc w4 d1 d2 d3 d4
 ·have hxa : (U.alloc (.cells #[.int .i64 0, .int .i64 0, .string ⟨#[]⟩, .slice none 0 0, .slice none 0 0] 32)).drew.heap[U.heap.size]? = some (.cells #[.int .i64 0, .int .i64 0, .string ⟨#[]⟩, .slice none 0 0, .slice none 0 0] 32 (0, 0)) := heap_alloc_new U (.cells #[.int .i64 0, .int .i64 0, .string ⟨#[]⟩, .slice none 0 0, .slice none 0 0] 32)
  have hbua : Below U.heap.size U (U.alloc (.cells #[.int .i64 0, .int .i64 0, .string ⟨#[]⟩, .slice none 0 0, .slice none 0 0] 32)).drew := ((Below.refl _ U).alloc (Nat.le_refl _) _).trans (below_drew _ _)
  have hbza : (U.alloc (.cells #[.int .i64 0, .int .i64 0, .string ⟨#[]⟩, .slice none 0 0, .slice none 0 0] 32)).drew.heap.size = U.heap.size + 1 := by show (U.alloc _).heap.size = _; simp
  go_simp
  generalize (U.alloc (.cells #[.int .i64 0, .int .i64 0, .string ⟨#[]⟩, .slice none 0 0, .slice none 0 0] 32)).drew = w0 at *
  have HXa := lh hxa; have HBUa := lh hbua
  clear hxa hbua
  refine hKK.o _ _ (fun _ => (HBUa.o.block qb hqb).trans HQ.o) ?_
  clear hKK KK
  refine wpAnyZ_one 2 (o := r54x2) (by kernel_rfl) rfl fun KK hKK => ?_
  have HCA := lh (HC1.o w0 HBUa.o)
  go_simp
  refine HCA.o.mono ?_
  rintro e w1 ⟨⟨v8, rfl, hr8⟩, hb8⟩
  have hs8 := hb8.size
  have HB8 := lh ((HBUa.o).trans (hb8.mono (HBUa.o).size)); have HR8 := lh hr8
  have HBO8 := lh hb8
  clear hb8 hr8 HCA
  refine hKK.o _ _ (fun _ => (HB8.o.block qb hqb).trans HQ.o) ?_
  clear hKK KK
  have hrw : RowS U.heap.size w1 v8 l := ⟨HR8.o.1, ownsRow_base0 HR8.o.2 (by omega)⟩
  have HRW := lh hrw; clear hrw
  have HCB := lh (HC2.o w1 _ HB8.o HRW.o)
  refine wpAnyZ_one 3 (o := r54x3) (by kernel_rfl) rfl fun KK hKK => ?_
  go_simp
  refine HCB.o.mono ?_
  rintro e w3 ⟨⟨v9, vt, rfl, hr9, ho9, ht9⟩, hk9⟩
  obtain ⟨xa, xc, ya, yc, rfl⟩ := ht9.shape
  have hs9 := hk9.size
  have hU9 := (HB8.o).size
  have hb9 : Below U.heap.size U w3 := (HB8.o).trans (hk9.below (n₀ := U.heap.size) hU9 fun k hk => (RowS.sl0 HRW.o k hk).1)
  have HB9 := lh hb9; have HR9 := lh hr9; have HO9 := lh ho9; have HT9 := lh ht9; have HK9 := lh hk9
  have hS9 : (w3.heap[qb]? = some (.cells #[.int .i64 T.op, .int .i64 T.n, .string T.text, .slice ka T.kids.length kc, .slice pa T.pats.length pc] 32 (0, 0))) := (HB9.o.block qb hqb).trans HQ.o
  clear hr9 ho9 ht9 hk9 HCB
  refine hKK.o _ _ (fun _ => hS9) ?_
  clear hKK KK
  refine wpAnyZ_take 4 (oi := r54x4) hS9 rfl (by kernel_rfl) (by kernel_rfl) (by kernel_rfl) (fun c a w h => hQ c _ _ a w h) (by kernel_rfl) rfl (by rfl) (by intro w' hq; go_simp <;> rfl) ?_
  refine wpAnyZ_take 5 (oi := r54x5) hS9 rfl (by kernel_rfl) (by kernel_rfl) (by kernel_rfl) (fun c a w h => hQ c _ _ a w h) (by kernel_rfl) rfl (by rfl) (by intro w' hq; go_simp <;> rfl) ?_
  refine wpAnyZ_take 6 (oi := r54x6) hS9 rfl (by kernel_rfl) (by kernel_rfl) (by kernel_rfl) (fun c a w h => hQ c _ _ a w h) (by kernel_rfl) rfl (by rfl) (by intro w' hq; go_simp <;> rfl) ?_
  have hnq : ∀ g, v8.ownBlock = some g → g ≠ U.heap.size := fun g hg => by have := (HR8.o.2.lt g hg).1; omega
  have HXb := lh ((HK9.o.block U.heap.size (by omega) (fun e => hnq _ e rfl)).trans ((HBO8.o.block U.heap.size (by omega)).trans HXa.o))
  have hfin := store54 (U := U) HXb.o (Nat.le_refl _) (S := fun b => b < U.heap.size ∨ (Fresh w1 w3 b ∧ vt.ownBlock ≠ some b)) (fun b h => by
   rcases h with h | h
   ·exact ⟨by omega, by omega⟩
   ·have h1 := h.1.1; have h2 := h.1.2; exact ⟨h2, by omega⟩) HT9.o HR9.o (fun g hg => by
   rcases HO9.o with e | ⟨g', e, h⟩
   ·rw [e] at hg; exact hnq g hg
   ·rw [e] at hg; cases hg; omega) HB9.o
  refine wpAnyZ_one 8 (o := r54x8) (by kernel_rfl) rfl fun KK hKK => ?_
  have hz := cells5 HXb.o
  have z0 := hz.1; have z1 := hz.2.1; have z2 := hz.2.2.1; have z3 := hz.2.2.2.1; have z4 := hz.2.2.2.2
  clear hz
  have fz := free_box HXb.o
  have HF := lh hfin
  clear hfin
  go_simp
  obtain ⟨d1, d2, d3, d4⟩ := HF.o _ rfl
  generalize (((((w3.setCell ⟨U.heap.size, 0, none⟩ _).setCell ⟨U.heap.size, 1, none⟩ _).setCell ⟨U.heap.size, 2, none⟩ _).setCell ⟨U.heap.size, 3, none⟩ _).setCell ⟨U.heap.size, 4, none⟩ _) = w4 at *
  refine hKK.o _ _ (fun _ => (d4.block qb hqb).trans HQ.o) ?_
  clear hKK KK z0 z1 z2 z3 z4 fz
  refine wpAnyZ_one 9 (o := r54x9) (by kernel_rfl) rfl fun KK hKK => ?_
  go_simp
  refine hKK.o _ _ (fun h => absurd rfl h) ?_
  refine wpAnyZ_done (by kernel_rfl) ?_ _
  rw [Array.setIfInBounds_comm (i := 3) (j := 8) _ _ (by decide)]
  rw [Array.setIfInBounds_comm (i := 3) (j := 9) _ _ (by decide)]
  rw [Array.setIfInBounds_comm (i := 3) (j := 5) _ _ (by decide)]
  rw [Array.setIfInBounds_comm (i := 3) (j := 10) _ _ (by decide)]
  rw [Array.setIfInBounds_comm (i := 3) (j := 11) _ _ (by decide)]
  exact HK.o _ _ _ _ _ _ _ U.heap.size xa ya xc yc w4 d1 d2 d3 d4
end Go.Proofs.YtjpahjfjpkbcnaaGreat
namespace Go.Proofs.YtjpahjfjpkbcnaaGreat
open Go.Proofs Go.RowKit
def canR (T : Tm) : Tm := nmM (anR (heightM T) T (rfree T)).2 (anR (heightM T) T (rfree T)).1
mutual
theorem anR_lens : ∀ (f : Nat) (T : Tm) (tk : List ByteArray), AW T → lensM (anR f T tk).1
 | 0, T, tk, h => h.l
 | f + 1, T, tk, h => by
  obtain ⟨h1, -⟩ := anI_KW (T := T) T.kids.length 0 (T, tk) (by omega) (KW.refl h)
  have hl := h1.rs.l
  have h5 := anK_lens f (anI T.kids.length 0 (T, tk)).1.kids (anI T.kids.length 0 (T, tk)).2 (fun t ht => by
   obtain ⟨k, hk, rfl⟩ := List.getElem_of_mem ht
   exact h1.rs.kid k hk)
  have e : (anR (f + 1) T tk).1 = .mk (anI T.kids.length 0 (T, tk)).1.op (anI T.kids.length 0 (T, tk)).1.n (anI T.kids.length 0 (T, tk)).1.text (anK (anR f) (anI T.kids.length 0 (T, tk)).1.kids (anI T.kids.length 0 (T, tk)).2).1 (anI T.kids.length 0 (T, tk)).1.pats := by conv => lhs; unfold anR
  rw [e]
  generalize anI T.kids.length 0 (T, tk) = s at *
  obtain ⟨S, tk'⟩ := s
  cases S with
  | mk op n t ks ps =>
   unfold lensM at hl ⊢
   exact ⟨by rw [anK_len]; exact hl.1, hl.2.1, hl.2.2.1, h5⟩
theorem anK_lens : ∀ (f : Nat) (ks : List Tm) (tk : List ByteArray), (∀ t ∈ ks, AW t) → lenssM (anK (anR f) ks tk).1
 | f, [], tk, _ => by show lenssM []; unfold lenssM; trivial
 | f, k :: ks, tk, h => by
  have h1 := anR_lens f k tk (h k List.mem_cons_self)
  have h2 := anK_lens f ks (anR f k tk).2 fun t ht => h t (List.mem_cons_of_mem _ ht)
  show lenssM ((anR f k tk).1 :: (anK (anR f) ks (anR f k tk).2).1)
  unfold lenssM
  exact ⟨h1, h2⟩
end
set_option maxHeartbeats 4000000 in
set_option maxRecDepth 100000 in
theorem refCanon_any (T : Tm) (v : Value) (w : World) (hv : TmAt w.heap.size w T v) (hrs : RS T) :
  Calls Tryz.prog 54 #[v] w fun e w' => (∃ v', e = .returned v' ∧ TmAt w'.heap.size w' (canR T) v') ∧ Below w.heap.size w w' := by
 obtain ⟨ka, kc, pa, pc, rfl, -, -, -⟩ := hv.parts
 obtain ⟨W, hW, hB0, hs, hx1, hx2⟩ := two_boxes' w #[.int .i64 T.op, .int .i64 T.n, .string T.text, .slice ka T.kids.length kc, .slice pa T.pats.length pc] #[.int .i64 0, .int .i64 0, .string ⟨#[]⟩, .slice none 0 0, .slice none 0 0] 32 32
 have hfl := rfree_len T 1
 have hpc := partsM_cnt T 1
 have hc := hrs.c
 have hal := anR_len (heightM T) T (rfree T) (AW.of hrs)
 have HV := lh hv; have HRS := lh hrs; have HB0 := lh hB0; have X1 := lh hx1; have X2 := lh hx2
 have hat : ∀ w1, Below W.heap.size W w1 → TmAt w1.heap.size w1 T (.agg #[.int .i64 T.op, .int .i64 T.n, .string T.text, .slice ka T.kids.length kc, .slice pa T.pats.length pc]) := fun w1 hb => TmAt.keep (HB0.o.trans (hb.mono HB0.o.size)) (by have := HB0.o.size; have := hb.size; omega) _ _ HV.o
 have hatW : TmAt W.heap.size W T (.agg #[.int .i64 T.op, .int .i64 T.n, .string T.text, .slice ka T.kids.length kc, .slice pa T.pats.length pc]) := TmAt.keep HB0.o HB0.o.size _ _ HV.o
 have HAT := lh hat; have HAW := lh hatW
 clear hv hrs hB0 hx1 hx2 hat hatW
 go_enter Tryz.func54, Tryz.ntmps54
 go_upto_region 1 with fail
 rw [← hW]
 clear hW
 refine reg54 (qb := w.heap.size) (T := T) (ka := ka) (pa := pa) (kc := kc) (pc := pc) (l := rfree T) (r := anR (heightM T) T (rfree T)) rfl rfl (fun _ _ _ _ _ h => h) X1.o (fun w1 hb => refFree_own T _ w1 (HAT.o w1 hb) HRS.o.f (by omega)) (fun w1 vt hb hr => ?_) ?_
 ·refine anew113_any (heightM T) T (rfree T) _ vt w1 (fun b => b < W.heap.size) W.heap.size (fun b hlt => ⟨Nat.lt_of_lt_of_le hlt hb.size, fun e => by have := (hr.2.lt b e).1; omega⟩) (TmX.keep (fun b hlt => hb.block b hlt) (fun _ h => h) _ _ (TmX.of _ _ HAW.o)) (AW.of HRS.o) (Nat.le_refl _) hr hb.size (by omega)
 ·intro u6 u7 u8 u9 u5 u10 vt q xa ya xc yc w4 d1 d2 d3 d4
  simp only [List.setIfInBounds_toArray, List.set_cons_zero, List.set_cons_succ]
  have hln := anR_lens (heightM T) T (rfree T) (AW.of HRS.o)
  have hcan : canR T = nmM (anR (heightM T) T (rfree T)).2 (anR (heightM T) T (rfree T)).1 := rfl
  generalize anR (heightM T) T (rfree T) = r at *
  obtain ⟨va, vc, rfl⟩ := d3.slice
  have hx2 := bget' d4 X2.o
  have HCALL := lh (named_any r.2 d3.1 (by omega) r.1 _ (.slice va r.2.length vc) w4 (fun b => b < w4.heap.size) (fun _ h => h) d2 hln (d3.sl.mono (fun b h => h.2) fun _ _ _ h => h))
  have D4 := lh d4; have X2' := lh hx2; have HCAN := lh hcan
  obtain ⟨y0, y1, y2, y3, y4⟩ := cells5 d1
  clear d1 d2 d3 d4 hx2 hcan hln hal
  go_wp2_with fail
  refine HCALL.o.mono ?_
  rintro e w5 ⟨⟨v5, rfl, h5⟩, hb5⟩
  obtain ⟨ra, rc, rb, rd, rfl⟩ := h5.shape
  have hx2 := bget' hb5 X2'.o
  have hs5 := hb5.size
  have HB5 := lh ((HB0.o.trans (D4.o.mono HB0.o.size)).trans (hb5.mono (by have := D4.o.size; have := HB0.o.size; omega)))
  have H5 := lh h5
  have hlt5 := D4.o.size
  obtain ⟨R, hR⟩ : ∃ R, R = nmM r.2 r.1 := ⟨_, rfl⟩
  have HRR := lh hR
  rw [← hR] at H5 ⊢
  obtain ⟨z0, z1, z2, z3, z4⟩ := cells5 hx2
  have f2 := free_box hx2
  clear hb5 h5 hx2 hR y0 y1 y2 y3 y4
  go_wp2_with fail
  have hkp := kept5 w5 (w.heap.size + 1) (.int .i64 R.op) (.int .i64 R.n) (.string R.text) (.slice ra R.kids.length rc) (.slice rb R.pats.length rd)
  have hs6 := hkp.size
  refine bodyPost_ret (v := .agg #[.int .i64 R.op, .int .i64 R.n, .string R.text, .slice ra R.kids.length rc, .slice rb R.pats.length rd]) (by simp [results, Tryz.results54, go_sem, z0, z1, z2, z3, z4]) rfl ⟨⟨_, rfl, ?_⟩, HB5.o.trans (hkp.below (n₀ := w.heap.size) (by have := HB5.o.size; omega) (by rintro k rfl; omega))⟩
  rw [HCAN.o, ← HRR.o]
  exact TmX.to (B := Fresh w4 w5) (fun b h => by have := h.2; omega) _ _ (TmX.keep (fun b h => hkp.block b h.2 (by have := h.1; omega)) (fun _ h => h) _ _ H5.o)
attribute [local go_sem] eval_put_same eval_put_ne size_put
def r55x0 : Oper := { dst := some 5, op := Op.load 32 (Operand.tmp 2), type := 32, pos := "ref.go:590", after := #[], guard := none }
def r55x1 : Oper := { dst := some 6, op := Op.call { callee := Callee.value (Operand.func 54), args := #[Operand.tmp 5], argTypes := #[32] }, type := 32, pos := "ref.go:590", after := #[{ on := 0, ground := Ground.data }], guard := none }
def r55x2 : Oper := { dst := some 7, op := Op.load 32 (Operand.tmp 3), type := 32, pos := "ref.go:590", after := #[], guard := none }
def r55x3 : Oper := { dst := some 8, op := Op.call { callee := Callee.value (Operand.func 54), args := #[Operand.tmp 7], argTypes := #[32] }, type := 32, pos := "ref.go:590", after := #[{ on := 2, ground := Ground.data }, { on := 1, ground := Ground.chain }], guard := none }
def r55x4 : Oper := { dst := some 9, op := Op.call { callee := Callee.value (Operand.func 45), args := #[Operand.tmp 6, Operand.tmp 8], argTypes := #[32, 32] }, type := 4, pos := "ref.go:590", after := #[{ on := 1, ground := Ground.data }, { on := 3, ground := Ground.data }, { on := 3, ground := Ground.chain }], guard := none }
def r55x5 : Oper := { dst := some 4, op := Op.assign (Operand.tmp 9), type := 4, pos := "ref.go:590", after := #[{ on := 4, ground := Ground.data }, { on := 4, ground := Ground.chain }, { on := 0, ground := Ground.phase }, { on := 1, ground := Ground.phase }, { on := 2, ground := Ground.phase }, { on := 3, ground := Ground.phase }, { on := 4, ground := Ground.phase }], guard := none }
def ops55 : Array Oper := #[r55x0, r55x1, r55x2, r55x3, r55x4, r55x5]
attribute [local go_sem] r55x0 r55x1 r55x2 r55x3 r55x4 r55x5
set_option maxHeartbeats 1000000 in
set_option maxRecDepth 100000 in
theorem reg55 {Q : Exit → Act → World → Prop} {a : Act} {U : World} {qa qb : Nat} {X Y : Tm} {kx px ky py : Option Addr} {cx dx cy dy : Nat}
  (hsz : a.tmps.size = 10) (h2 : a.tmps[2]'(by omega) = .pointer (some ⟨qa, 0, none⟩)) (h3 : a.tmps[3]'(by omega) = .pointer (some ⟨qb, 0, none⟩))
  (hQ : ∀ c (d : Nat) v (a : Act) w, Q (.panic c) (a.put (some d) v) w → Q (.panic c) a w)
  (hq : (U.heap[qa]? = some (.cells #[.int .i64 X.op, .int .i64 X.n, .string X.text, .slice kx X.kids.length cx, .slice px X.pats.length dx] 32 (0, 0)) ∧ U.heap[qb]? = some (.cells #[.int .i64 Y.op, .int .i64 Y.n, .string Y.text, .slice ky Y.kids.length cy, .slice py Y.pats.length dy] 32 (0, 0))))
  (hc1 : ∀ w1, Below U.heap.size U w1 → Calls Tryz.prog 54 #[.agg #[.int .i64 X.op, .int .i64 X.n, .string X.text, .slice kx X.kids.length cx, .slice px X.pats.length dx]] w1 fun e w' => (∃ v', e = .returned v' ∧ TmAt w'.heap.size w' (canR X) v') ∧ Below w1.heap.size w1 w')
  (hc2 : ∀ w1, Below U.heap.size U w1 → Calls Tryz.prog 54 #[.agg #[.int .i64 Y.op, .int .i64 Y.n, .string Y.text, .slice ky Y.kids.length cy, .slice py Y.pats.length dy]] w1 fun e w' => (∃ v', e = .returned v' ∧ TmAt w'.heap.size w' (canR Y) v') ∧ Below w1.heap.size w1 w')
  (hK : ∀ (u5 u7 u6 u8 u9 : Value) (w' : World), Below U.heap.size U w' → Q .normal { tmps := ((((((a.tmps.setIfInBounds 5 u5).setIfInBounds 7 u7).setIfInBounds 6 u6).setIfInBounds 8 u8).setIfInBounds 9 u9).setIfInBounds 4 (.bool (eqM (canR X) (canR Y)))), defers := a.defers } w') :
  (Code.region 1 ops55 true).wp Tryz.prog Q a U := by
 have hqa := lt_of_block hq.1
 have hqb := lt_of_block hq.2
 have HC1 := lh hc1; have HC2 := lh hc2; have HK := lh hK; have HQ := lh hq
 have hS0 : (U.drew.heap[qa]? = some (.cells #[.int .i64 X.op, .int .i64 X.n, .string X.text, .slice kx X.kids.length cx, .slice px X.pats.length dx] 32 (0, 0)) ∧ U.drew.heap[qb]? = some (.cells #[.int .i64 Y.op, .int .i64 Y.n, .string Y.text, .slice ky Y.kids.length cy, .slice py Y.pats.length dy] 32 (0, 0))) := hq
 clear hc1 hc2 hK hq
 refine wp_region_z (fun w' => (w'.heap[qa]? = some (.cells #[.int .i64 X.op, .int .i64 X.n, .string X.text, .slice kx X.kids.length cx, .slice px X.pats.length dx] 32 (0, 0)) ∧ w'.heap[qb]? = some (.cells #[.int .i64 Y.op, .int .i64 Y.n, .string Y.text, .slice ky Y.kids.length cy, .slice py Y.pats.length dy] 32 (0, 0)))) 5 (by kernel_rfl) ?_
 refine wpAnyZ_take 0 (oi := r55x0) hS0 rfl (by kernel_rfl) (by kernel_rfl) (by kernel_rfl) (fun c a w h => hQ c _ _ a w h) (by kernel_rfl) rfl (by rfl) (by intro w' hq; obtain ⟨k0, k1, k2, k3, k4⟩ := cells5 hq.1; obtain ⟨m0, m1, m2, m3, m4⟩ := cells5 hq.2; go_simp <;> rfl) ?_
 refine wpAnyZ_take 2 (oi := r55x2) hS0 rfl (by kernel_rfl) (by kernel_rfl) (by kernel_rfl) (fun c a w h => hQ c _ _ a w h) (by kernel_rfl) rfl (by rfl) (by intro w' hq; obtain ⟨k0, k1, k2, k3, k4⟩ := cells5 hq.1; obtain ⟨m0, m1, m2, m3, m4⟩ := cells5 hq.2; go_simp <;> rfl) ?_
 clear hS0
 have HCA := lh (HC1.o U.drew (below_drew U.heap.size U))
 refine wpAnyZ_one 1 (o := r55x1) (by kernel_rfl) rfl fun KK hKK => ?_
 go_simp
 refine HCA.o.mono ?_
 rintro e w1 ⟨⟨v1, rfl, h1⟩, hb1⟩
 have HB1 := lh ((below_drew U.heap.size U).trans hb1); have H1 := lh h1
 have hs1 := HB1.o.size
 clear hb1 h1 HCA
 refine hKK.o _ _ (fun _ => ⟨(HB1.o.block qa hqa).trans HQ.o.1, (HB1.o.block qb hqb).trans HQ.o.2⟩) ?_
 clear hKK KK
 have HCB := lh (HC2.o w1 HB1.o)
 refine wpAnyZ_one 3 (o := r55x3) (by kernel_rfl) rfl fun KK hKK => ?_
 go_simp
 refine HCB.o.mono ?_
 rintro e w2 ⟨⟨v2, rfl, h2⟩, hb2⟩
 have HB2 := lh (HB1.o.trans (hb2.mono hs1)); have H2 := lh h2
 have H12 := lh (TmAt.keep hb2 hb2.size _ _ H1.o)
 have hs2 := HB2.o.size
 clear hb2 h2 HCB
 refine hKK.o _ _ (fun _ => ⟨(HB2.o.block qa hqa).trans HQ.o.1, (HB2.o.block qb hqb).trans HQ.o.2⟩) ?_
 clear hKK KK
 have HCC := lh (Same_any (canR X) (canR Y) v1 v2 w2 H12.o H2.o)
 refine wpAnyZ_one 4 (o := r55x4) (by kernel_rfl) rfl fun KK hKK => ?_
 go_simp
 refine HCC.o.mono ?_
 rintro e w3 ⟨rfl, hb3⟩
 have HB3 := lh (HB2.o.trans (hb3.mono hs2))
 clear hb3 HCC
 refine hKK.o _ _ (fun _ => ⟨(HB3.o.block qa hqa).trans HQ.o.1, (HB3.o.block qb hqb).trans HQ.o.2⟩) ?_
 clear hKK KK
 refine wpAnyZ_one 5 (o := r55x5) (by kernel_rfl) rfl fun KK hKK => ?_
 go_simp
 refine hKK.o _ _ (fun h => absurd rfl h) ?_
 refine wpAnyZ_done (by kernel_rfl) ?_ _
 exact HK.o _ _ _ _ _ w3 HB3.o
set_option maxHeartbeats 2000000 in
set_option maxRecDepth 100000 in
theorem refAlike_any (X Y : Tm) (v v' : Value) (w : World) (hx : TmAt w.heap.size w X v) (hy : TmAt w.heap.size w Y v') (rx : RS X) (ry : RS Y) :
  Calls Tryz.prog 55 #[v, v'] w fun e w' => e = .returned (.bool (eqM (canR X) (canR Y))) ∧ Below w.heap.size w w' := by
 obtain ⟨kx, cx, px, dx, rfl, -, -, -⟩ := hx.parts
 obtain ⟨ky, cy, py, dy, rfl, -, -, -⟩ := hy.parts
 obtain ⟨W, hW, hB0, hs, hx1, hx2⟩ := two_boxes' w #[.int .i64 X.op, .int .i64 X.n, .string X.text, .slice kx X.kids.length cx, .slice px X.pats.length dx] #[.int .i64 Y.op, .int .i64 Y.n, .string Y.text, .slice ky Y.kids.length cy, .slice py Y.pats.length dy] 32 32
 have HX := lh hx; have HY := lh hy; have HB0 := lh hB0; have X1 := lh hx1; have X2 := lh hx2
 have hax : ∀ w1, Below W.heap.size W w1 → TmAt w1.heap.size w1 X (.agg #[.int .i64 X.op, .int .i64 X.n, .string X.text, .slice kx X.kids.length cx, .slice px X.pats.length dx]) := fun w1 hb => TmAt.keep (HB0.o.trans (hb.mono HB0.o.size)) (by have := HB0.o.size; have := hb.size; omega) _ _ HX.o
 have hay : ∀ w1, Below W.heap.size W w1 → TmAt w1.heap.size w1 Y (.agg #[.int .i64 Y.op, .int .i64 Y.n, .string Y.text, .slice ky Y.kids.length cy, .slice py Y.pats.length dy]) := fun w1 hb => TmAt.keep (HB0.o.trans (hb.mono HB0.o.size)) (by have := HB0.o.size; have := hb.size; omega) _ _ HY.o
 have HAX := lh hax; have HAY := lh hay
 clear hx hy hB0 hx1 hx2 hax hay
 go_enter Tryz.func55, Tryz.ntmps55
 go_upto_region 1 with fail
 rw [← hW]
 clear hW
 refine reg55 (qa := w.heap.size) (qb := w.heap.size + 1) (X := X) (Y := Y) (kx := kx) (px := px) (ky := ky) (py := py) (cx := cx) (dx := dx) (cy := cy) (dy := dy) rfl rfl rfl (fun _ _ _ _ _ h => h) ⟨X1.o, X2.o⟩ (fun w1 hb => refCanon_any X _ w1 (HAX.o w1 hb) rx) (fun w1 hb => refCanon_any Y _ w1 (HAY.o w1 hb) ry) ?_
 intro u5 u7 u6 u8 u9 w4 d4
 simp only [List.setIfInBounds_toArray, List.set_cons_zero, List.set_cons_succ]
 have D4 := lh (HB0.o.trans (d4.mono HB0.o.size))
 clear d4
 go_wp2
 go_ret
 exact ⟨rfl, D4.o⟩
end Go.Proofs.YtjpahjfjpkbcnaaGreat
