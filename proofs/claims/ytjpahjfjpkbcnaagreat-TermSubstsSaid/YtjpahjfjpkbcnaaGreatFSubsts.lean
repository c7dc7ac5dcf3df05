/- TermSubsts is true for every two terms and string, and changes them in nothing. No condition. -/
import Derived.Test.YtjpahjfjpkbcnaaGreatS18
import Derived.Test.YtjpahjfjpkbcnaaGreatS16
import Derived.Test.YtjpahjfjpkbcnaaGreatS10
import Derived.Test.YtjpahjfjpkbcnaaGreatS14
import Derived.Test.YtjpahjfjpkbcnaaGreatS12
import Derived.Test.YtjpahjfjpkbcnaaGreatS09
import Derived.Test.YtjpahjfjpkbcnaaGreatS19
import Derived.Test.YtjpahjfjpkbcnaaGreatRows
import Derived.Test.YtjpahjfjpkbcnaaGreatS11

namespace Go.Proofs.YtjpahjfjpkbcnaaGreat
open Go.Proofs Go.RowKit
theorem first_name (l : List ByteArray) (hl : l.length ≤ 1000000000) : nameB (firstW (inL l)) = true := by
 obtain ⟨N, -, h4, h5, -⟩ := first_is (inL l) (exists_fresh l hl)
 rw [h4] at h5
 unfold freshB at h5
 rw [Bool.and_eq_true] at h5
 exact h5.1
theorem TmX.parts' {B : Nat → Prop} {w : World} {T : Tm} {ka pa : Option Addr} {kc pc : Nat} (h : TmX B w T (.agg #[.int .i64 T.op, .int .i64 T.n, .string T.text, .slice ka T.kids.length kc, .slice pa T.pats.length pc])) :
  T.text.size ≤ maxLen ∧ SlX B (.slice ka T.kids.length kc) T.kids.length (fun b o => TmsX B w T.kids b o) ∧ SlX B (.slice pa T.pats.length pc) T.pats.length (fun b o => PtsX B w T.pats b o) := by
 cases T with
 | mk op n t ks ps =>
  unfold TmX at h
  obtain ⟨kv, pv, he, h1, h2, h3⟩ := h
  simp only [Value.agg.injEq, Array.mk.injEq, List.cons.injEq, and_true] at he
  obtain ⟨-, -, -, rfl, rfl⟩ := he
  exact ⟨h1, h2, h3⟩
theorem SlX.at' {B : Nat → Prop} {a : Option Addr} {n cap : Nat} {R : Nat → Nat → Prop} (h : SlX B (.slice a n cap) n R) : cap ≤ maxLen ∧ n ≤ cap ∧ (0 < n → ∃ b o, a = some ⟨b, o, none⟩ ∧ B b ∧ R b o) := by
 obtain ⟨a', cap', h1, h2, h3, h4⟩ := h.split
 cases h1
 exact ⟨h2, h3, h4⟩
set_option maxHeartbeats 16000000 in
set_option maxRecDepth 100000 in
theorem refSub_any (nm : ByteArray) (hnm : nm.size ≤ maxLen) (by' : Tm) (hby : RS by') : ∀ (f : Nat) (T : Tm) (v vb : Value) (w : World) (B : Nat → Prop), (∀ b, B b → b < w.heap.size) → TmX B w T v → TmX B w by' vb → RS T → heightM T ≤ f →
  Calls Tryz.prog 50 #[v, .string nm, vb] w fun e w' => (∃ v', e = .returned v' ∧ TmX (fun b => B b ∨ Fresh w w' b) w' (subR nm by' f T) v') ∧ Below w.heap.size w w'
 | 0, T, v, vb, w, B, _, _, _, _, hf => by rw [height_eq] at hf; omega
 | f + 1, T, v, vb, w, B, hBb, hv, hvb, hrs, hf => by
  have ih := refSub_any nm hnm by' hby f
  obtain ⟨ka, kc, pa, pc, rfl⟩ := hv.shape
  obtain ⟨ya, yc, za, zc, rfl⟩ := hvb.shape
  obtain ⟨i0, hi, hz0, hz1, hz2⟩ := info_parts Tz.info32
  obtain ⟨j0, hj, jz0, jz1, jz2⟩ := info_parts Tz.info9
  obtain ⟨W, hW, hB0, hs, hx3, hx5, hx6⟩ := three_boxes w #[.int .i64 T.op, .int .i64 T.n, .string T.text, .slice ka T.kids.length kc, .slice pa T.pats.length pc] #[.int .i64 by'.op, .int .i64 by'.n, .string by'.text, .slice ya by'.kids.length yc, .slice za by'.pats.length zc] #[.int .i64 0, .int .i64 0, .string ⟨#[]⟩, .slice none 0 0, .slice none 0 0] 32
  have HIH := lh ih; have HV := lh hv; have HVB := lh hvb; have HRS := lh hrs; have HF := lh hf
  have HB0 := lh hB0; have X3 := lh hx3; have X5 := lh hx5; have X6 := lh hx6
  clear ih hv hvb hrs hf hB0 hx3 hx5 hx6
  have atT : ∀ w', Below w.heap.size w w' → TmAt w'.heap.size w' T (.agg #[.int .i64 T.op, .int .i64 T.n, .string T.text, .slice ka T.kids.length kc, .slice pa T.pats.length pc]) := fun w' hb =>
   TmX.to (B := B) (fun b h => Nat.lt_of_lt_of_le (hBb b h) hb.size) _ _ (TmX.keep (fun x hx => hb.block x (hBb x hx)) (fun _ h => h) _ _ HV.out)
  have atY : ∀ w', Below w.heap.size w w' → TmAt w'.heap.size w' by' (.agg #[.int .i64 by'.op, .int .i64 by'.n, .string by'.text, .slice ya by'.kids.length yc, .slice za by'.pats.length zc]) := fun w' hb =>
   TmX.to (B := B) (fun b h => Nat.lt_of_lt_of_le (hBb b h) hb.size) _ _ (TmX.keep (fun x hx => hb.block x (hBb x hx)) (fun _ h => h) _ _ HVB.out)
  have HAT := lh atT; have HAY := lh atY
  clear atT atY
  obtain ⟨y0, y1, y2, y3, y4⟩ := cells5 X3.out
  go_enter Tryz.func50, Tryz.ntmps50
  go_upto_region 1 with fail
  rw [← hW]
  clear hW
  go_wp2_with fail
  refine (refFree_in T _ W (HAT.out W HB0.out) HRS.out.f HRS.out.parts).mono ?_
  rintro e W1 ⟨⟨fv, rfl, hfv⟩, hb1⟩
  obtain ⟨fa, fc, rfl⟩ := hfv.split
  have HFV := lh (SlIn.mono (B' := fun b => b < W1.heap.size) hfv (fun b h => h.2) fun _ _ _ h => h)
  have hs1 := hb1.size
  replace HB0 := lh (HB0.out.trans (hb1.mono (by omega)))
  replace X3 := lh (bget' hb1 X3.out); replace X5 := lh (bget' hb1 X5.out); replace X6 := lh (bget' hb1 X6.out)
  clear hfv hb1 y0 y1 y2 y3 y4
  go_wp2_with fail
  refine (Has_any (rfree T) _ nm W1 (HFV.out.to (fun b h => h) fun _ _ h => h)).mono ?_
  rintro e W2 ⟨rfl, hb2⟩
  have hs2 := hb2.size
  replace HB0 := lh (HB0.out.trans (hb2.mono (by omega)))
  replace X3 := lh (bget' hb2 X3.out); replace X5 := lh (bget' hb2 X5.out); replace X6 := lh (bget' hb2 X6.out)
  clear hb2 HFV
  obtain ⟨y0, y1, y2, y3, y4⟩ := cells5 X3.out
  obtain ⟨u0, u1, u2, u3, u4⟩ := cells5 X5.out
  obtain ⟨z0, z1, z2, z3, z4⟩ := cells5 X6.out
  have f6 := free_box X6.out
  cases hh : hasB (rfree T) nm with
  | false =>
   have HH := lh hh
   clear hh
   go_wp2_with fail
   have hkp := kept5 W2 (w.heap.size + 2) (.int .i64 T.op) (.int .i64 T.n) (.string T.text) (.slice ka T.kids.length kc) (.slice pa T.pats.length pc)
   have hs3 := hkp.size
   have hbf := HB0.out.trans (hkp.below (n₀ := w.heap.size) (by omega) (by rintro k rfl; omega))
   refine bodyPost_ret (v := .agg #[.int .i64 T.op, .int .i64 T.n, .string T.text, .slice ka T.kids.length kc, .slice pa T.pats.length pc]) (by simp [results, Tryz.results50, go_sem, z0, z1, z2, z3, z4]) rfl ⟨⟨_, rfl, ?_⟩, hbf⟩
   rw [subR_free HH.out]
   exact TmX.keep (fun b hb => hbf.block b (hBb b hb)) (fun b hb => .inl hb) _ _ HV.out
  | true =>
   have HH := lh hh
   clear hh
   by_cases h4 : T.op = 4
   ·have h4' : (T.op == 4) = true := by simpa using h4
    have HS4 := lh (subR_name (by' := by') (f := f) HH.out h4)
    clear h4
    go_wp2_with fail
    have hkp := kept5 W2 (w.heap.size + 2) (.int .i64 by'.op) (.int .i64 by'.n) (.string by'.text) (.slice ya by'.kids.length yc) (.slice za by'.pats.length zc)
    have hs3 := hkp.size
    have hbf := HB0.out.trans (hkp.below (n₀ := w.heap.size) (by omega) (by rintro k rfl; omega))
    refine bodyPost_ret (v := .agg #[.int .i64 by'.op, .int .i64 by'.n, .string by'.text, .slice ya by'.kids.length yc, .slice za by'.pats.length zc]) (by simp [results, Tryz.results50, go_sem, z0, z1, z2, z3, z4]) rfl ⟨⟨_, rfl, ?_⟩, hbf⟩
    rw [HS4.out]
    exact TmX.keep (fun b hb => hbf.block b (hBb b hb)) (fun b hb => .inl hb) _ _ HVB.out
   have h4' : (T.op == 4) = false := by simpa using h4
   go_upto_region 5 with fail
   clear z0 z1 z2 z3 z4 f6
   go_wp2_with fail
   refine (refFree_in by' _ W2 (HAY.out W2 HB0.out) hby.f hby.parts).mono ?_
   rintro e W3 ⟨⟨gv, rfl, hgv⟩, hb3⟩
   obtain ⟨ga, gc, rfl⟩ := hgv.split
   have HGV := lh hgv
   have hs3 := hb3.size
   replace HB0 := lh (HB0.out.trans (hb3.mono (by omega)))
   replace X3 := lh (bget' hb3 X3.out); replace X5 := lh (bget' hb3 X5.out); replace X6 := lh (bget' hb3 X6.out)
   clear hgv hb3 y0 y1 y2 y3 y4 u0 u1 u2 u3 u4
   go_upto_region 6 with fail
   have hstl := HRS.out.st
   have hfrl : (rfree by').length ≤ 100000 := Nat.le_trans (rfree_len by' 1) hby.parts
   have hc := fun w2 (h2 : Below W3.heap.size W3 w2) => refStand_any T _ w2 (HAT.out w2 (HB0.out.trans (h2.mono HB0.out.size))) HRS.out.f (by omega)
   have HC := lh hc
   clear hc
   refine reg50a (qb := w.heap.size) (fl := rfree by') (sl := stP T) rfl rfl rfl rfl (fun _ _ _ _ _ h => h) (cells5 X3.out) (by omega) hnm (HGV.out.mono (fun b h => h.2) fun _ _ _ h => h) (by omega) HC.out ?_
   intro u28 u29 u30 u31 u32 u33 u34 vt U1 hrow hbU hzs
   simp only [List.setIfInBounds_toArray, List.set_cons_zero, List.set_cons_succ]
   have hbw := HB0.out.trans (hbU.mono HB0.out.size)
   have hinv : SbIn B W3 w.heap.size [] (.slice none 0 0) T (rfree by' ++ [nm] ++ stP T) vt ka pa kc pc U1 := ⟨hzs, hrow, bget' hbU X3.out, TmX.keep (fun b hb => hbw.block b (hBb b hb)) (fun b hb => .inl hb) _ _ HV.out, Kept.of_below hbU, .inl ⟨rfl, rfl⟩⟩
   have hn0 : w.heap.size < W3.heap.size := by omega
   have htk0 : (rfree by' ++ [nm] ++ stP T).length ≤ 200001 := by rw [List.length_append, List.length_append, List.length_singleton]; omega
   have hgk : ∀ wr, Kept (fun k => k = w.heap.size) W3 wr → SlIn (fun b => b < wr.heap.size) (.slice ga (rfree by').length gc) (rfree by').length fun b o => StrsAt wr (rfree by') b o := fun wr hk =>
    HGV.out.mono (fun b h => Nat.lt_of_lt_of_le h.2 hk.size) fun b o h hs => StrsAt.same (hk.block b h.2 (by have := h.1; omega)) _ _ hs
   have HGK := lh hgk
   have HIN0 := lh hinv
   clear hbw hinv hgk hrow hbU hzs HC HGV
   go_wp2_with fail
   go_loopw [8, 9] (fun vt i wr => ∃ (k : Nat) (T' : Tm) (tk : List ByteArray) (ka' pa' : Option Addr) (kc' pc' : Nat), k ≤ T.kids.length ∧ i = .int .i64 k ∧ Hid (KS T T') ∧ Hid (sbI (rfree by') T.kids.length 0 (T, rfree by' ++ [nm] ++ stP T) = sbI (rfree by') (T.kids.length - k) k (T', tk)) ∧ tk.length ≤ 200001 + 12 * k ∧ Hid (SbIn B W3 w.heap.size [] (.slice none 0 0) T' tk vt ka' pa' kc' pc' wr)) (fun _ i _ => T.kids.length - (intOf i).toNat)
   case atStart => exact ⟨0, T, _, ka, pa, kc, pc, Nat.zero_le _, rfl, KS.refl HRS.out, rfl, htk0, HIN0.out⟩
   case round =>
    obtain ⟨k, T', tk, ka', pa', kc', pc', hk, rfl, HKS, HEQ, htl, HIN⟩ := hrel
    have hszr := HIN.out.kp.size
    have hk6 := HRS.out.k6
    obtain ⟨y0, y1, y2, y3, y4⟩ := cells5 HIN.out.box
    by_cases hlt : k < T.kids.length
    ·have hlt' : (k : Int) < (T'.kids.length : Int) := by have := HKS.out.len; omega
     have hbin := Binds_any T' k _ wr (HIN.out.at hBb hn0) (by omega) (fun h15 h0 => HKS.out.rs.p15 h15 k h0 (by have := HKS.out.len; omega)) HKS.out.rs.pp
     have HBI := lh hbin
     clear hbin
     go_wp2_with fail
     refine HBI.out.mono ?_
     rintro e w1 ⟨⟨bv, rfl, hbv⟩, hb1⟩
     obtain ⟨ba, bc, rfl⟩ := hbv.split
     have HI1 := lh (HIN.out.bind (bl2 := boundL T' k) (bv2 := .slice ba (boundL T' k).length bc) hBb hn0 hb1 hbv)
     have hs1 := hb1.size
     have hb12 := HKS.out.rs.b12 k
     clear hbv hb1 HBI y0 y1 y2 y3 y4 HIN
     go_wp2_with fail
     generalize wr = wc at *
     go_loopw [8, 11] (fun vt j wi => ∃ (q : Nat) (T2 : Tm) (tk2 : List ByteArray) (ka2 pa2 : Option Addr) (kc2 pc2 : Nat), q ≤ (boundL T' k).length ∧ j = .int .i64 q ∧ Hid (KS T T2) ∧ Hid (sbN (rfree by') k (boundL T' k) (T', tk) = sbN (rfree by') k ((boundL T' k).drop q) (T2, tk2)) ∧ tk2.length ≤ tk.length + q ∧ Hid (SbIn B W3 w.heap.size (boundL T' k) (.slice ba (boundL T' k).length bc) T2 tk2 vt ka2 pa2 kc2 pc2 wi)) (fun _ j _ => (boundL T' k).length - (intOf j).toNat)
     case atStart => exact ⟨0, T', tk, ka', pa', kc', pc', Nat.zero_le _, rfl, HKS.out, rfl, Nat.le_refl _, HI1.out⟩
     case round =>
      obtain ⟨q, T2, tk2, ka2, pa2, kc2, pc2, hq, rfl, HK2, HE2, ht2, HI2⟩ := hrel
      by_cases hltq : q < (boundL T' k).length
      ·have hltq' : (q : Int) < ((boundL T' k).length : Int) := by omega
       have h1 := HI2.out.bs
       rcases h1 with ⟨h0, -⟩ | ⟨xb, xo, xcap, hx1, hx2, hx3, hx4, hx5⟩
       ·omega
       cases hx1
       obtain ⟨hg, hgs⟩ := StrsAt.get (boundL T' k) xb xo hx5 q hltq
       have hcl := Has_any (rfree by') _ (boundL T' k)[q] wr ((HGK.out wr HI2.out.kp).to (fun b h => h) fun _ _ h => h)
       have HC := lh hcl
       have hstep := sbN_drop (rfree by') k (boundL T' k) q hltq (T2, tk2)
       clear hcl hx5
       cases hx : hasB (rfree by') (boundL T' k)[q] with
       | false =>
        rw [hx] at HC hstep
        have HST := lh (HE2.out.trans hstep)
        clear hx hstep
        go_wp2_with fail
        refine HC.out.mono ?_
        rintro e w2 ⟨rfl, hb2⟩
        have HI3 := lh (HI2.out.below hBb hn0 hb2)
        clear hb2 HC hg
        go_wp2_with fail
        go_roundw
        case rel => exact ⟨q + 1, T2, tk2, ka2, pa2, kc2, pc2, by omega, by go_num, HK2.out, HST.out, by omega, HI3.out⟩
        case measure => simp [intOf]; omega
       | true =>
        rw [hx] at HC hstep
        have HST := lh (HE2.out.trans hstep)
        clear hx hstep
        go_wp2_with fail
        refine HC.out.mono ?_
        rintro e w2 ⟨rfl, hb2⟩
        have hs2 := hb2.size
        have HI3 := lh (HI2.out.below hBb hn0 hb2)
        clear hb2 HC hg HI2
        go_upto_region 15 with fail
        have hss2 : SsAt w2.heap.size w2 tk2 u8 := SlIn.to (B := fun b => b < w2.heap.size) (owned_sl HI3.out.row (fun b hb => (HI3.out.row.lt b hb).2) fun b hb hc => strs_of_row tk2 b 0 HI3.out.sz hc) (fun b h => h) fun _ _ h => h
        have hfc := refFresh_any tk2 u8 w2 hss2 (by omega)
        have HFC := lh hfc
        clear hss2 hfc
        go_wp2_with fail
        refine HFC.out.mono ?_
        rintro e w4 ⟨rfl, hb4⟩
        have hs4 := hb4.size
        have HI4 := lh (HI3.out.below hBb hn0 hb4)
        have hosz : (firstW (inL tk2)).size ≤ maxLen := Nat.le_trans (firstW_size _) (by unfold maxLen; omega)
        clear hb4 HFC HI3
        have hrow2 := HI4.out.row.alloc (.cells #[.string (firstW (inL tk2))] 9)
        have hnews := cells_new w4 [.string (firstW (inL tk2))] 9
        have hone : ∀ u ∈ [Value.string (firstW (inL tk2))], u.oneCell' = true := by intro u hu; simp at hu; subst hu; rfl
        have HR2 := lh hrow2; have HNW := lh hnews; have HONE := lh hone
        have hs5 := HI4.out.kp.size
        clear hrow2 hnews hone
        go_upto_region 17 with (at_builtin; refine wpList_append_own_at _ rfl _ _ 22 rfl W3.heap.size 9 j0 _ 1 16 Tz.underlying22 hj jz0 jz1 jz2 rfl (by decide) u8 tk2.length (tk2.map Value.string) rfl HR2.out ⟨w4.heap.size, 0, none⟩ 1 1 [.string (firstW (inL tk2))] rfl rfl HNW.out HONE.out (by unfold maxLen; omega) (by omega) (by simp; omega) ?_; intro v' w' hown' hgr hnil hat; have HI5 := lh (HI4.out.grow hBb hn0 hosz hown' hgr hat); clear hown' hgr hnil hat)
        clear HI4 HR2 HNW HONE
        have hs6 := HI5.out.kp.size
        have h6 := HI5.out.bs
        rcases h6 with ⟨h0, -⟩ | ⟨zb, zo, zcap, hz1', hz2', hz3', hz4', hz5'⟩
        ·omega
        cases hz1'
        obtain ⟨hg6, -⟩ := StrsAt.get (boundL T' k) xb xo hz5' q hltq
        have hname : nameB (firstW (inL tk2)) = true := first_name tk2 (by omega)
        have hk2 : k < T2.kids.length := by have := HK2.out.len; omega
        have hlk : ∀ b, OwnX B W3 w' v' b → b < w'.drew.heap.size := fun b hb => (HI5.out.lt hBb hn0 b hb).1
        have hrb := rebX_any (boundL T' k)[q] (firstW (inL tk2)) hosz T2 k _ w'.drew (OwnX B W3 w' v') hlk (TmX.keep (w := w') (w' := w'.drew) (fun _ _ => rfl) (fun _ h => h) _ _ HI5.out.tm) HK2.out.rs.f HK2.out.rs.l hk2 (fun h15 => by
         have h0 := bound_pos (T := T2) (i := k) (k := q) (by rw [HK2.out.b, ← HKS.out.b]; exact hltq) h15
         exact ⟨h0, HK2.out.rs.p15 h15 k h0 hk2⟩)
        have hc : Calls Tryz.prog 110 #[.agg #[.int .i64 T2.op, .int .i64 T2.n, .string T2.text, .slice ka2 T2.kids.length kc2, .slice pa2 T2.pats.length pc2], .int .i64 k, .string (boundL T' k)[q], .string (firstW (inL tk2))] w'.drew fun e wz => (∃ o2 n2 t2 ka3 kn3 kc3 pa3 pn3 pc3, e = .returned (.agg #[.int .i64 o2, .int .i64 n2, .string t2, .slice ka3 kn3 kc3, .slice pa3 pn3 pc3]) ∧ TmX (fun b => OwnX B W3 w' v' b ∨ Fresh w' wz b) wz (rbM (boundL T' k)[q] (firstW (inL tk2)) k T2) (.agg #[.int .i64 o2, .int .i64 n2, .string t2, .slice ka3 kn3 kc3, .slice pa3 pn3 pc3])) ∧ Below w'.heap.size w' wz := hrb.mono fun e wz ⟨⟨v3, h1, h2⟩, h3⟩ => by
         obtain ⟨a1, a2, a3, a4, rfl⟩ := h2.shape
         exact ⟨⟨_, _, _, _, _, _, _, _, _, h1, h2⟩, (below_drew _ _).trans h3⟩
        have HC := lh hc
        have HNM := lh hname
        clear hrb hc hlk hz5' hname
        refine reg50b (qb := w.heap.size) (bb := xb) (bo := xo) (i := k) (k := q) (R := fun v wz => TmX (fun b => OwnX B W3 w' v' b ∨ Fresh w' wz b) wz (rbM (boundL T' k)[q] (firstW (inL tk2)) k T2) v) rfl rfl rfl rfl rfl rfl (fun _ _ _ _ _ h => h) ⟨cells5 HI5.out.box, hg6⟩ HI5.out.box hz4'.2.1 hltq HC.out ?_
        intro u64 u65 u66 u67 u68 u69 u70 v9 o2 n2 t2 ka3 kn3 kc3 pa3 pn3 pc3 w7 hr7 hb7
        simp only [List.setIfInBounds_toArray, List.set_cons_zero, List.set_cons_succ]
        obtain ⟨a1, a2, a3, a4, he7⟩ := TmX.shape hr7
        simp only [Value.agg.injEq, Array.mk.injEq, List.cons.injEq, and_true, Value.int.injEq, Value.string.injEq, Value.slice.injEq, true_and] at he7
        obtain ⟨rfl, rfl, rfl, ⟨rfl, rfl, rfl⟩, rfl, rfl, rfl⟩ := he7
        have HI7 := lh (HI5.out.set hBb hn0 hb7 hr7)
        generalize (((((w7.setCell ⟨w.heap.size, 0, none⟩ _).setCell ⟨w.heap.size, 1, none⟩ _).setCell ⟨w.heap.size, 2, none⟩ _).setCell ⟨w.heap.size, 3, none⟩ _).setCell ⟨w.heap.size, 4, none⟩ _) = w8 at *
        have hks8 := HK2.out.rb (boundL T' k)[q] (firstW (inL tk2)) HNM.out k hlt
        have HK8 := lh hks8
        clear HC hr7 hb7 HI5 hg6 hks8
        go_wp2_with fail
        go_roundw
        case rel => exact ⟨q + 1, _, _, _, _, _, _, by omega, by go_num, HK8.out, HST.out, by rw [List.length_append, List.length_singleton]; omega, HI7.out⟩
        case measure => simp [intOf]; omega
      ·have hltq' : ¬ ((q : Int) < ((boundL T' k).length : Int)) := by omega
       have hend : sbN (rfree by') k (boundL T' k) (T', tk) = (T2, tk2) := by rw [HE2.out, List.drop_eq_nil_of_le (by omega)]; rfl
       have hnx : sbI (rfree by') T.kids.length 0 (T, rfree by' ++ [nm] ++ stP T) = sbI (rfree by') (T.kids.length - (k + 1)) (k + 1) (T2, tk2) := by
        rw [HEQ.out, show T.kids.length - k = (T.kids.length - (k + 1)) + 1 by omega]
        show sbI _ _ (k + 1) (sbN _ k (boundL T' k) (T', tk)) = _
        rw [hend]
       have HNX := lh hnx
       clear hend hnx
       go_wp2_with fail
       go_roundw
       case rel => exact ⟨k + 1, T2, tk2, ka2, pa2, kc2, pc2, by omega, by go_num, HK2.out, HNX.out, by omega, HI2.out.nil⟩
       case measure => simp [intOf]; omega
    ·have hlt' : ¬ ((k : Int) < (T'.kids.length : Int)) := by have := HKS.out.len; omega
     obtain rfl : k = T.kids.length := by omega
     have hend : sbT (rfree by') nm T = T' := by unfold sbT; rw [HEQ.out, Nat.sub_self]; rfl
     have HFIN := lh (subR_node (by' := by') (f := f) HH.out (by simpa using h4') hend HKS.out.len)
     have HRS4 := lh HKS.out.rs
     have hht : ∀ (j : Nat) (hj : j < T'.kids.length), heightM T'.kids[j] ≤ f := fun j hj => by
      have h1 := HF.out; have h2 := HKS.out.h; have h3 := heightsM_get T'.kids j hj; rw [height_eq T'] at h2; omega
     have HHT := lh hht
     have hBl : ∀ b, OwnX B W3 wr u8 b → b < wr.heap.size ∧ (B b ∨ W3.heap.size ≤ b) := fun b hb => ⟨(HIN.out.lt hBb hn0 b hb).1, hb.imp_right fun h => h.1⟩
     have hbw := HB0.out.trans (HIN.out.kp.below (n₀ := w.heap.size) (by omega) (by rintro x rfl; omega))
     have hx3 := HIN.out.box
     have hx5 := (HIN.out.kp.block (w.heap.size + 1) (by omega) (by omega)).trans X5.out
     have hx6 := (HIN.out.kp.block (w.heap.size + 2) (by omega) (by omega)).trans X6.out
     have htm := HIN.out.tm
     have hvb4 : TmX (OwnX B W3 wr u8) wr by' (.agg #[.int .i64 by'.op, .int .i64 by'.n, .string by'.text, .slice ya by'.kids.length yc, .slice za by'.pats.length zc]) := TmX.keep (fun b hb => hbw.block b (hBb b hb)) (fun b hb => .inl hb) _ _ HVB.out
     have hk6' := HKS.out.rs.k6
     clear HIN HEQ HGK hend htl hht HKS hlt y0 y1 y2 y3 y4 HIN0
     generalize wr = W4 at *
     generalize OwnX B W3 W4 u8 = B4 at *
     obtain ⟨htx, hkk, hpp⟩ := TmX.parts' htm
     obtain ⟨hcap, hlc, hka⟩ := hkk.at'
     unfold maxLen at hcap
     have HTX := lh htx; have HPP := lh hpp; have HKA := lh hka; have HV4 := lh htm; have HVB4 := lh hvb4; have HB4 := lh hBl; have HBW4 := lh hbw
     have X3' := lh hx3; have X5' := lh hx5; have X6' := lh hx6
     clear htx hpp hka htm hvb4 hBl hbw hkk X3 X5 X6 hx3 hx5 hx6
     obtain ⟨y0, y1, y2, y3, y4⟩ := cells5 X3'.out
     go_wp2_with fail
     clear hlt'
     go_loopw [13, 14] (fun vo i wr => ∃ (k : Nat) (xs : List Value), k ≤ T'.kids.length ∧ i = .int .i64 k ∧ wr.ownsRow W4.heap.size 32 5 vo k xs ∧ FlaM (OwnX B4 W4 wr vo) wr ((List.range k).map (sbK nm by' f T')) xs ∧ Below W4.heap.size W4 wr) (fun _ i _ => T'.kids.length - (intOf i).toNat)
     case atStart => exact ⟨0, [], Nat.zero_le _, rfl, World.ownsRow_nil _ _ _ _, rfl, Below.refl _ _⟩
     case round =>
      obtain ⟨k, xs, hk, rfl, hrow, hflat, hB⟩ := hrel
      clear y0 y1 y2 y3 y4
      have x3 := bget' hB X3'.out
      have x5 := bget' hB X5'.out
      have x6 := bget' hB X6'.out
      obtain ⟨y0, y1, y2, y3, y4⟩ := cells5 x3
      have hszr := hB.size
      by_cases hlt : k < T'.kids.length
      ·have hlt' : (k : Int) < (T'.kids.length : Int) := by omega
       obtain ⟨b, o, rfl, hbn, hss⟩ := HKA.out (by omega)
       obtain ⟨c0, c1, c2, c3, c4, g0, g1, g2, g3, g4, ht⟩ := TmsX.get T'.kids b o hss k hlt
       have hbn4 := (HB4.out b hbn).1
       have q0 := (hB.cell (p := ⟨b, _, none⟩) hbn4).trans g0
       have q1 := (hB.cell (p := ⟨b, _, none⟩) hbn4).trans g1
       have q2 := (hB.cell (p := ⟨b, _, none⟩) hbn4).trans g2
       have q3 := (hB.cell (p := ⟨b, _, none⟩) hbn4).trans g3
       have q4 := (hB.cell (p := ⟨b, _, none⟩) hbn4).trans g4
       obtain ⟨oo, nn, tt, ka, kn, kc, pa, pn, pc, rfl, rfl, rfl, rfl, rfl⟩ := ht.cells
       have HTK := lh ht; have HB := lh hB; have HROW := lh hrow; have HFLAT := lh hflat
       have Y3 := lh x3; have Y5 := lh x5
       clear g0 g1 g2 g3 g4 hss ht hB hrow hflat x3 x5 x6
       go_upto_region 23 with fail
       have hxk := heap_alloc_new wr (.cells #[.int .i64 oo, .int .i64 nn, .string tt, .slice ka kn kc, .slice pa pn pc] 32)
       have hb1 : Below wr.heap.size wr (wr.alloc (.cells #[.int .i64 oo, .int .i64 nn, .string tt, .slice ka kn kc, .slice pa pn pc] 32)) := (Below.refl _ wr).alloc (Nat.le_refl _) _
       generalize (wr.alloc (.cells #[.int .i64 oo, .int .i64 nn, .string tt, .slice ka kn kc, .slice pa pn pc] 32)) = V1 at *
       have XK := lh hxk; have HB1 := lh hb1
       have x3 := bget' hb1 Y3.out
       have hsz1 := hb1.size
       have hlt1 := lt_of_block hxk
       replace Y5 := lh (bget' hb1 Y5.out)
       clear hxk hb1 y0 y1 y2 y3 y4 q0 q1 q2 q3 q4
       obtain ⟨y0, y1, y2, y3, y4⟩ := cells5 x3
       have hbin := Binds_any T' k _ V1 (TmX.to (B := B4) (fun b hb => by have := (HB4.out b hb).1; omega) _ _ (TmX.keep (fun x hx => by have := (HB4.out x hx).1; exact (HB1.out.block x (by omega)).trans (HB.out.block x (by omega))) (fun _ h => h) _ _ HV4.out)) (by omega) (fun h15 h0 => HRS4.out.p15 h15 k h0 hlt) HRS4.out.pp
       have HBI := lh hbin
       clear hbin x3
       go_wp2_with fail
       refine HBI.out.mono ?_
       rintro e V2 ⟨⟨bv, rfl, hbv⟩, hb2⟩
       obtain ⟨ba, bc, rfl⟩ := hbv.split
       have HBV := lh (hbv.to (n₀ := V2.heap.size) (fun b h => h.2) fun _ _ h => h)
       have HB2 := lh (HB1.out.trans (hb2.mono hsz1))
       have XK2 := lh (bget' hb2 XK.out)
       replace Y5 := lh (bget' hb2 Y5.out)
       have hsz2 := hb2.size
       clear hbv hb2 y0 y1 y2 y3 y4 XK
       go_wp2_with fail
       refine (Has_any (boundL T' k) _ nm V2 HBV.out).mono ?_
       rintro e V3 ⟨rfl, hb3⟩
       have HB3 := lh (HB2.out.trans (hb3.mono HB2.out.size))
       have XK3 := lh (bget' hb3 XK2.out)
       replace Y5 := lh (bget' hb3 Y5.out)
       have hsz3 := hb3.size
       clear hb3 XK2
       obtain ⟨r0, r1, r2, r3, r4⟩ := cells5 XK3.out
       cases hbd : hasB (boundL T' k) nm with
       | true =>
        have HEK : Hid (sbK nm by' f T' k = T'.kids[k]) := lh (by unfold sbK; rw [if_pos hbd, List.getD_eq_getElem?_getD, List.getElem?_eq_getElem hlt]; rfl)
        have HBX := HB3
        have hown1 : ∀ kk, u13.ownBlock = some kk → W4.heap.size ≤ kk ∧ kk < wr.heap.size := fun kk h => HROW.out.lt kk h
        have hrow1 : V3.ownsRow W4.heap.size 32 5 u13 k xs := HROW.out.kept (row := none) ⟨HBX.out.os, HBX.out.tape, HBX.out.output, HBX.out.size, fun i hi _ => HBX.out.block i hi⟩ (by cases u13.ownBlock <;> simp)
        have hrow2 := hrow1.alloc (.cells #[.int .i64 oo, .int .i64 nn, .string tt, .slice ka kn kc, .slice pa pn pc] 32)
        have HR2 := lh hrow2; have HO1 := lh hown1
        have hnews := cells_new V3 [.int .i64 oo, .int .i64 nn, .string tt, .slice ka kn kc, .slice pa pn pc] 32
        have HNW := lh hnews
        have hone : ∀ u ∈ [Value.int .i64 oo, .int .i64 nn, .string tt, .slice ka kn kc, .slice pa pn pc], u.oneCell' = true := by intro u hu; simp at hu; rcases hu with rfl | rfl | rfl | rfl | rfl <;> rfl
        have HONE := lh hone
        clear hrow1 hrow2 hown1 hnews hone Y5
        go_wp2_with (at_builtin; refine wpList_append_own_at _ rfl _ _ 29 rfl W4.heap.size 32 i0 _ 5 80 Tryz.underlying29 hi hz0 hz1 hz2 rfl (by decide) u13 k xs rfl HR2.out ⟨V3.heap.size, 0, none⟩ 1 1 [.int .i64 oo, .int .i64 nn, .string tt, .slice ka kn kc, .slice pa pn pc] rfl rfl HNW.out HONE.out (by unfold maxLen; omega) (by omega) (by simp; omega) ?_; intro v' w' hown' hgr hnil hat; have HOWN := lh hown'; have HGR := lh hgr; have HAT := lh hat; clear hown' hgr hnil hat)
        go_roundw
        case rel =>
         obtain ⟨s1, s2, s3, s4⟩ := ownX_step (B := B4) (fun b hb => (HB4.out b hb).1) HB.out HBX.out HO1.out HGR.out HAT.out
         refine ⟨k + 1, _, by omega, by go_num, HOWN.out, ?_, s4⟩
         have hgs := HGR.out.size
         simp at hgs
         rw [List.range_succ, List.map_append, List.map_singleton, HEK.out]
         refine FlaM.snoc ?_ _ _ (FlaM.keep s1 s2 _ _ HFLAT.out)
         exact TmX.keep (fun x hx => by have := (HB4.out x hx).1; exact (s3 x (.inl hx) (by omega)).1.trans ((HB3.out.block x (by omega)).trans (HB.out.block x (by omega)))) (fun x hx => by have := (HB4.out x hx).1; exact (s3 x (.inl hx) (by omega)).2) _ _ HTK.out
        case measure => simp [intOf]; omega
       | false =>
        have HEK : Hid (sbK nm by' f T' k = subR nm by' f T'.kids[k]) := lh (by unfold sbK; rw [if_neg (by rw [hbd]; simp), List.getD_eq_getElem?_getD, List.getElem?_eq_getElem hlt]; rfl)
        obtain ⟨m0, m1, m2, m3, m4⟩ := cells5 Y5.out
        go_wp2_with fail
        refine (HIH.out T'.kids[k] _ _ V3 B4 (fun b hb => by have := (HB4.out b hb).1; omega) (TmX.keep (fun x hx => by have := (HB4.out x hx).1; exact (HB3.out.block x (by omega)).trans (HB.out.block x (by omega))) (fun _ h => h) _ _ HTK.out) (TmX.keep (fun x hx => by have := (HB4.out x hx).1; exact (HB3.out.block x (by omega)).trans (HB.out.block x (by omega))) (fun _ h => h) _ _ HVB4.out) (HRS4.out.kid k hlt) (HHT.out k hlt)).mono ?_
        rintro e V4 ⟨⟨v2, rfl, hfar⟩, hb4⟩
        obtain ⟨va, vc, va', vc', rfl⟩ := hfar.shape
        have HFX := lh hfar
        have xk4 := bget' hb4 XK3.out
        have hsz4 := hb4.size
        have HB44 := lh (HB3.out.trans (hb4.mono HB3.out.size))
        clear hfar hb4 r0 r1 r2 r3 r4 m0 m1 m2 m3 m4 Y5
        generalize hRR : subR nm by' f T'.kids[k] = R at *
        obtain ⟨r0, r1, r2, r3, r4⟩ := cells5 xk4
        have fk := free_box xk4
        clear hRR
        go_upto_region 25 with fail
        have hkp := kept5 V4 wr.heap.size (.int .i64 R.op) (.int .i64 R.n) (.string R.text) (.slice va R.kids.length vc) (.slice va' R.pats.length vc')
        have xk5 := box_set5 xk4 (.int .i64 R.op) (.int .i64 R.n) (.string R.text) (.slice va R.kids.length vc) (.slice va' R.pats.length vc')
        generalize (((((V4.setCell ⟨wr.heap.size, 0, none⟩ (.int .i64 R.op)).setCell ⟨wr.heap.size, 1, none⟩ (.int .i64 R.n)).setCell ⟨wr.heap.size, 2, none⟩ (.string R.text)).setCell ⟨wr.heap.size, 3, none⟩ (.slice va R.kids.length vc)).setCell ⟨wr.heap.size, 4, none⟩ (.slice va' R.pats.length vc')) = V5 at *
        have hsz5 := hkp.size
        have HBX := lh (HB44.out.trans (hkp.below (n₀ := wr.heap.size) (by omega) (by rintro x rfl; omega)))
        have h5 : ∀ b, (B4 b ∨ Fresh V3 V4 b) → b < V4.heap.size ∧ ¬ b = wr.heap.size := fun b h => by
         rcases h with h | h
         ·have := (HB4.out b h).1; exact ⟨by omega, by omega⟩
         ·have h1 := h.1; exact ⟨h.2, by omega⟩
        have HFX5 := lh (TmX.keep (B := fun b => B4 b ∨ Fresh V3 V4 b) (B' := fun b => B4 b ∨ Fresh V3 V4 b) (w := V4) (w' := V5) (fun b h => hkp.block b (h5 b h).1 (h5 b h).2) (fun b h => h) _ _ HFX.out)
        clear hkp r0 r1 r2 r3 r4 fk xk4
        obtain ⟨r0, r1, r2, r3, r4⟩ := cells5 xk5
        clear xk5
        have hown1 : ∀ kk, u13.ownBlock = some kk → W4.heap.size ≤ kk ∧ kk < wr.heap.size := fun kk h => HROW.out.lt kk h
        have hrow1 : V5.ownsRow W4.heap.size 32 5 u13 k xs := HROW.out.kept (row := none) ⟨HBX.out.os, HBX.out.tape, HBX.out.output, HBX.out.size, fun i hi _ => HBX.out.block i hi⟩ (by cases u13.ownBlock <;> simp)
        have hrow2 := hrow1.alloc (.cells #[.int .i64 R.op, .int .i64 R.n, .string R.text, .slice va R.kids.length vc, .slice va' R.pats.length vc'] 32)
        have HR2 := lh hrow2; have HO1 := lh hown1
        have hnews := cells_new V5 [.int .i64 R.op, .int .i64 R.n, .string R.text, .slice va R.kids.length vc, .slice va' R.pats.length vc'] 32
        have HNW := lh hnews
        have hone : ∀ u ∈ [Value.int .i64 R.op, .int .i64 R.n, .string R.text, .slice va R.kids.length vc, .slice va' R.pats.length vc'], u.oneCell' = true := by intro u hu; simp at hu; rcases hu with rfl | rfl | rfl | rfl | rfl <;> rfl
        have HONE := lh hone
        clear hrow1 hrow2 hown1 hnews hone
        go_wp2_with (at_builtin; refine wpList_append_own_at _ rfl _ _ 29 rfl W4.heap.size 32 i0 _ 5 80 Tryz.underlying29 hi hz0 hz1 hz2 rfl (by decide) u13 k xs rfl HR2.out ⟨V5.heap.size, 0, none⟩ 1 1 [.int .i64 R.op, .int .i64 R.n, .string R.text, .slice va R.kids.length vc, .slice va' R.pats.length vc'] rfl rfl HNW.out HONE.out (by unfold maxLen; omega) (by omega) (by simp; omega) ?_; intro v' w' hown' hgr hnil hat; have HOWN := lh hown'; have HGR := lh hgr; have HAT := lh hat; clear hown' hgr hnil hat)
        go_roundw
        case rel =>
         obtain ⟨s1, s2, s3, s4⟩ := ownX_step (B := B4) (fun b hb => (HB4.out b hb).1) HB.out HBX.out HO1.out HGR.out HAT.out
         refine ⟨k + 1, _, by omega, by go_num, HOWN.out, ?_, s4⟩
         have hgs := HGR.out.size
         simp at hgs
         rw [List.range_succ, List.map_append, List.map_singleton, HEK.out]
         refine FlaM.snoc ?_ _ _ (FlaM.keep s1 s2 _ _ HFLAT.out)
         have hwv : wr.heap.size ≤ V3.heap.size := by omega
         have s5 : ∀ b, (B4 b ∨ Fresh V3 V4 b) → (B4 b ∨ wr.heap.size ≤ b) ∧ b < V5.heap.size := fun b h => by
          rcases h with h | h
          ·have := (HB4.out b h).1; exact ⟨.inl h, by omega⟩
          ·have h1 := h.1; have h2 := h.2; exact ⟨.inr (by omega), by omega⟩
         exact TmX.keep (fun b h => (s3 b (s5 b h).1 (s5 b h).2).1) (fun b h => (s3 b (s5 b h).1 (s5 b h).2).2) _ _ HFX5.out
        case measure => simp [intOf]; omega
      ·obtain rfl : k = T'.kids.length := by omega
       obtain ⟨ra, rc, rfl⟩ := slice_of_row hrow
       have f3 := free_box x3
       obtain ⟨z0, z1, z2, z3, z4⟩ := cells5 x6
       have f6 := free_box x6
       have hB4w := HBW4.out.size
       have HROW := lh hrow; have HFLAT := lh hflat; have HB := lh hB
       clear hrow hflat hB x3 x5 x6
       go_wp2_with fail
       have hkp0 : Kept (fun k => k = w.heap.size ∨ k = w.heap.size + 2) wr (wr.setCell ⟨w.heap.size, 3, none⟩ (.slice ra T'.kids.length rc)) := .setCell _ (.inl rfl) _
       have hkp := hkp0.trans ((kept5 _ (w.heap.size + 1 + 1) (.int .i64 T'.op) (.int .i64 T'.n) (.string T'.text) (.slice ra T'.kids.length rc) (.slice pa' T'.pats.length pc')).mono (fun b h => .inr h))
       have hs9 := hkp.size
       have hbf := (HBW4.out.trans (HB.out.mono hB4w)).trans (hkp.below (n₀ := w.heap.size) (by omega) (by rintro k (rfl | rfl) <;> omega))
       have own : ∀ b, OwnX B4 W4 wr (.slice ra T'.kids.length rc) b → b < wr.heap.size ∧ ¬ (b = w.heap.size ∨ b = w.heap.size + 2) ∧ (B b ∨ w.heap.size ≤ b) := fun b h => by
        rcases h with h | h
        ·have h1 := HB4.out b h
         rcases h1.2 with h2 | h2
         ·have := hBb b h2; exact ⟨by omega, by omega, .inl h2⟩
         ·exact ⟨by omega, by omega, .inr (by omega)⟩
        ·have h1 := h.1; have h2 := h.2.1
         exact ⟨by omega, by omega, .inr (by omega)⟩
       refine bodyPost_ret (v := .agg #[.int .i64 T'.op, .int .i64 T'.n, .string T'.text, .slice ra T'.kids.length rc, .slice pa' T'.pats.length pc']) (by simp [results, Tryz.results50, go_sem, z0, z1, z2, z3, z4]) rfl ⟨⟨_, rfl, ?_⟩, hbf⟩
       rw [HFIN.out]
       unfold TmX
       refine ⟨_, _, rfl, HTX.out, ?_, HPP.out.mono (fun b h => (own b (.inl h)).2.2.imp_right fun h' => ⟨h', by have := (own b (.inl h)).1; omega⟩) fun b o hlt h => PtsX.keep (fun x hx => (hkp.block x (own x (.inl hx)).1 (own x (.inl hx)).2.1).trans (HB.out.block x (HB4.out x hx).1)) (fun x h => (own x (.inl h)).2.2.imp_right fun h' => ⟨h', by have := (own x (.inl h)).1; omega⟩) _ _ _ hlt h⟩
       rw [List.length_map, List.length_range]
       refine SlX.ofIn (R := fun b o => TmsX _ _ _ b o) (owned_sl HROW.out (fun b h => ?_) fun b hb hc => ?_) fun _ _ h => h
       ·have := HROW.out.lt b h
        exact .inr ⟨by omega, by have := this.2; omega⟩
       ·have hbl := HROW.out.lt b hb
        refine FlaM.tmsX _ _ _ (FlaM.keep (fun x h => hkp.block x (own x h).1 (own x h).2.1) (fun x h => (own x h).2.2.imp_right fun h' => ⟨h', by have := (own x h).1; omega⟩) _ _ HFLAT.out) fun i u hi => ?_
        exact (cell_of_heap (hkp.block b hbl.2 (by omega))).trans (hc i u hi)
theorem eqM_zero9 : eqM zeroM zeroM = true := eqM_refl _
theorem SubstEnd.no {nm : ByteArray} {by' T : Tm} {w w' : World} {e : Ending} (h : SubstEnd nm by' T w e w') (hn : (termB T && nameB nm && termB by') = false) : e = .returned (.tuple #[zeroV, .int .i64 2]) := by
 unfold SubstEnd at h
 rw [hn, if_neg (by simp)] at h
 exact h
theorem SubstEnd.lon9 {nm : ByteArray} {by' T : Tm} {w w' : World} {e : Ending} (h : SubstEnd nm by' T w e w') (hn : (termB T && nameB nm && termB by') = true) (hb : termB (subF nm by' (heightM T) T) = false) : e = .returned (.tuple #[zeroV, .int .i64 3]) := by
 unfold SubstEnd at h
 rw [if_pos hn, hb, if_neg (by simp)] at h
 exact h
theorem SubstEnd.ye9 {nm : ByteArray} {by' T : Tm} {w w' : World} {e : Ending} (h : SubstEnd nm by' T w e w') (hn : (termB T && nameB nm && termB by') = true) (hb : termB (subF nm by' (heightM T) T) = true) : ∃ nv, e = .returned (.tuple #[nv, .int .i64 0]) ∧ TmAt w'.heap.size w' (subF nm by' (heightM T) T) nv := by
 unfold SubstEnd at h
 rw [if_pos hn, if_pos hb] at h
 obtain ⟨nv, h1, h2⟩ := h
 exact ⟨nv, h1, TmIn.to (fun b h => h.2) _ _ h2⟩
theorem freeL_few9 {T : Tm} (h : termB T = true) : (freeL T).length ≤ 60 := by
 have := freeL_len T
 have := frees_len T (fun _ => false) 1
 have := goM_len _ 0 h (by omega)
 omega
theorem RS_of {T : Tm} (h : termB T = true) (hf : Fit T) : RS T := by
 have hs := termB_sub h hf
 refine ⟨okF_of T 1 hf.ok ?_, hf.len, hs.nb, hs.cnt⟩
 rw [List.all_eq_true]
 intro x hx
 obtain ⟨y, hy, rfl⟩ := List.mem_map.1 hx
 exact goM_all _ 0 h y hy
set_option maxHeartbeats 32000000 in
set_option maxRecDepth 100000 in
theorem substs_any (t : Tm) (s : ByteArray) (q : Tm) (v qv : Value) (w : World) (ht : TmAt w.heap.size w t v) (hs : s.size ≤ maxLen) (hq : TmAt w.heap.size w q qv) :
  Calls Tryz.prog 9 #[v, .string s, qv] w fun e w' => e = .returned (.bool true) ∧ Below w.heap.size w w' := by
 obtain ⟨a, cap, a', cap', rfl, -⟩ := ht.parts
 obtain ⟨b, bcap, b', bcap', rfl, -⟩ := hq.parts
 obtain ⟨W, hW, hb, hsz, hx3, hx5⟩ := two_boxes w #[.int .i64 t.op, .int .i64 t.n, .string t.text, .slice a t.kids.length cap, .slice a' t.pats.length cap'] #[.int .i64 q.op, .int .i64 q.n, .string q.text, .slice b q.kids.length bcap, .slice b' q.pats.length bcap'] 32
 have HT := lh ht; have HQ := lh hq
 replace HT := lh (TmAt.keep hb hb.size _ _ HT.out)
 replace HQ := lh (TmAt.keep hb hb.size _ _ HQ.out)
 have X3 := lh hx3; have X5 := lh hx5; have HV := lh hb
 unfold maxLen at hs
 clear ht hq hb hx3 hx5 hsz
 go_enter Tryz.func9, Tryz.ntmps9
 go_upto_region 1 with fail
 rw [← hW]
 clear hW
 obtain ⟨c00, c01, c02, c03, c04⟩ := cells5 X3.out
 go_wp2_with fail
 refine (SmallTerm_any t _ W HT.out).mono ?_
 rintro e w1 ⟨rfl, hb⟩
 replace HV := lh (HV.out.trans (hb.mono HV.out.size))
 replace X3 := lh (bget' hb X3.out)
 replace X5 := lh (bget' hb X5.out)
 replace HT := lh (TmAt.keep hb hb.size _ _ HT.out)
 replace HQ := lh (TmAt.keep hb hb.size _ _ HQ.out)
 clear hb
 clear c00 c01 c02 c03 c04
 cases hs1 : SmallTermB t with
 | false =>
  go_wp2_with fail
  refine (known_any _).mono ?_
  rintro e wk ⟨rfl, hb⟩
  replace HV := lh (HV.out.trans (hb.mono HV.out.size))
  clear hb
  go_wp2
  go_ret
  exact ⟨rfl, HV.out⟩
 | true =>
 obtain ⟨c00, c01, c02, c03, c04⟩ := cells5 X5.out
 go_wp2_with fail
 refine (SmallTerm_any q _ w1 HQ.out).mono ?_
 rintro e w2 ⟨rfl, hb⟩
 replace HV := lh (HV.out.trans (hb.mono HV.out.size))
 replace X3 := lh (bget' hb X3.out)
 replace X5 := lh (bget' hb X5.out)
 replace HT := lh (TmAt.keep hb hb.size _ _ HT.out)
 replace HQ := lh (TmAt.keep hb hb.size _ _ HQ.out)
 clear hb
 clear c00 c01 c02 c03 c04
 cases hs2 : SmallTermB q with
 | false =>
  go_wp2_with fail
  refine (known_any _).mono ?_
  rintro e wk ⟨rfl, hb⟩
  replace HV := lh (HV.out.trans (hb.mono HV.out.size))
  clear hb
  go_wp2
  go_ret
  exact ⟨rfl, HV.out⟩
 | true =>
 have HF := SmallTerm_fit hs1; have HG := SmallTerm_fit hs2; clear hs1 hs2
 by_cases hls : s.size ≤ 30
 case neg =>
  have hls' : (30 : Int) < (s.size : Int) := by omega
  go_wp2_with fail
  refine (known_any _).mono ?_
  rintro e wk ⟨rfl, hb⟩
  replace HV := lh (HV.out.trans (hb.mono HV.out.size))
  clear hb
  go_wp2
  go_ret
  exact ⟨rfl, HV.out⟩
 have hls' : ¬ (30 : Int) < (s.size : Int) := by omega
 cases hHTB : termB t with
 | false =>
  have HTB := lh hHTB; clear hHTB
  obtain ⟨c00, c01, c02, c03, c04⟩ := cells5 X3.out
  obtain ⟨c10, c11, c12, c13, c14⟩ := cells5 X5.out
  go_wp2_with fail
  refine (Subst_any s q t _ _ w2 (by unfold maxLen; omega) HT.out HQ.out HF HG).mono ?_
  rintro e w3 ⟨he, hb⟩
  replace HV := lh (HV.out.trans (hb.mono HV.out.size))
  replace X3 := lh (bget' hb X3.out)
  replace X5 := lh (bget' hb X5.out)
  replace HT := lh (TmAt.keep hb hb.size _ _ HT.out)
  replace HQ := lh (TmAt.keep hb hb.size _ _ HQ.out)
  obtain rfl := SubstEnd.no he (by rw [HTB.out]; rfl)
  unfold zeroV
  clear hb
  clear c00 c01 c02 c03 c04 c10 c11 c12 c13 c14
  go_upto_region 4 with fail
  have hb := (Below.refl _ w3).alloc (Nat.le_refl _) (.cells #[.int .i64 0, .int .i64 0, .string ⟨#[]⟩, .slice none 0 0, .slice none 0 0] 32)
  have X7n := lh (heap_alloc_new w3 (.cells #[.int .i64 0, .int .i64 0, .string ⟨#[]⟩, .slice none 0 0, .slice none 0 0] 32))
  replace HV := lh (HV.out.trans (hb.mono HV.out.size))
  replace X3 := lh (bget' hb X3.out)
  replace X5 := lh (bget' hb X5.out)
  replace HT := lh (TmAt.keep hb hb.size _ _ HT.out)
  replace HQ := lh (TmAt.keep hb hb.size _ _ HQ.out)
  clear hb
  generalize (w3.alloc (.cells #[.int .i64 0, .int .i64 0, .string ⟨#[]⟩, .slice none 0 0, .slice none 0 0] 32)) = w4 at *
  have X7 := X7n
  clear X7n
  obtain ⟨c00, c01, c02, c03, c04⟩ := cells5 X3.out
  go_wp2_with fail
  refine (C30 t w4 HT.out HF.ok).mono ?_
  rintro e w5 ⟨rfl, hb⟩
  replace HV := lh (HV.out.trans (hb.mono HV.out.size))
  replace X3 := lh (bget' hb X3.out)
  replace X5 := lh (bget' hb X5.out)
  replace X7 := lh (bget' hb X7.out)
  replace HT := lh (TmAt.keep hb hb.size _ _ HT.out)
  replace HQ := lh (TmAt.keep hb hb.size _ _ HQ.out)
  rw [HTB.out]
  clear hb
  clear c00 c01 c02 c03 c04
  obtain ⟨c00, c01, c02, c03, c04⟩ := cells5 X7.out
  go_wp2_with fail
  refine (none_any zeroM _ w5 (zeroM_at _ _)).mono ?_
  rintro e w6 ⟨rfl, hb⟩
  replace HV := lh (HV.out.trans (hb.mono HV.out.size))
  replace X3 := lh (bget' hb X3.out)
  replace X5 := lh (bget' hb X5.out)
  replace X7 := lh (bget' hb X7.out)
  replace HT := lh (TmAt.keep hb hb.size _ _ HT.out)
  replace HQ := lh (TmAt.keep hb hb.size _ _ HQ.out)
  rw [eqM_zero9]
  clear hb
  clear c00 c01 c02 c03 c04
  go_wp2_with fail
  refine (known_any _).mono ?_
  rintro e wk ⟨rfl, hb⟩
  replace HV := lh (HV.out.trans (hb.mono HV.out.size))
  clear hb
  go_wp2
  go_ret
  exact ⟨rfl, HV.out⟩
 | true =>
  have HTB := lh hHTB; clear hHTB
  cases hHNS : nameB s with
  | false =>
   have HNS := lh hHNS; clear hHNS
   obtain ⟨c00, c01, c02, c03, c04⟩ := cells5 X3.out
   obtain ⟨c10, c11, c12, c13, c14⟩ := cells5 X5.out
   go_wp2_with fail
   refine (Subst_any s q t _ _ w2 (by unfold maxLen; omega) HT.out HQ.out HF HG).mono ?_
   rintro e w3 ⟨he, hb⟩
   replace HV := lh (HV.out.trans (hb.mono HV.out.size))
   replace X3 := lh (bget' hb X3.out)
   replace X5 := lh (bget' hb X5.out)
   replace HT := lh (TmAt.keep hb hb.size _ _ HT.out)
   replace HQ := lh (TmAt.keep hb hb.size _ _ HQ.out)
   obtain rfl := SubstEnd.no he (by rw [HNS.out]; simp)
   unfold zeroV
   clear hb
   clear c00 c01 c02 c03 c04 c10 c11 c12 c13 c14
   go_upto_region 4 with fail
   have hb := (Below.refl _ w3).alloc (Nat.le_refl _) (.cells #[.int .i64 0, .int .i64 0, .string ⟨#[]⟩, .slice none 0 0, .slice none 0 0] 32)
   have X7n := lh (heap_alloc_new w3 (.cells #[.int .i64 0, .int .i64 0, .string ⟨#[]⟩, .slice none 0 0, .slice none 0 0] 32))
   replace HV := lh (HV.out.trans (hb.mono HV.out.size))
   replace X3 := lh (bget' hb X3.out)
   replace X5 := lh (bget' hb X5.out)
   replace HT := lh (TmAt.keep hb hb.size _ _ HT.out)
   replace HQ := lh (TmAt.keep hb hb.size _ _ HQ.out)
   clear hb
   generalize (w3.alloc (.cells #[.int .i64 0, .int .i64 0, .string ⟨#[]⟩, .slice none 0 0, .slice none 0 0] 32)) = w4 at *
   have X7 := X7n
   clear X7n
   obtain ⟨c00, c01, c02, c03, c04⟩ := cells5 X3.out
   go_wp2_with fail
   refine (C30 t w4 HT.out HF.ok).mono ?_
   rintro e w5 ⟨rfl, hb⟩
   replace HV := lh (HV.out.trans (hb.mono HV.out.size))
   replace X3 := lh (bget' hb X3.out)
   replace X5 := lh (bget' hb X5.out)
   replace X7 := lh (bget' hb X7.out)
   replace HT := lh (TmAt.keep hb hb.size _ _ HT.out)
   replace HQ := lh (TmAt.keep hb hb.size _ _ HQ.out)
   rw [HTB.out]
   clear hb
   clear c00 c01 c02 c03 c04
   go_wp2_with fail
   refine (refName_any s w5 (by unfold maxLen; omega)).mono ?_
   rintro e w6 ⟨rfl, hb⟩
   replace HV := lh (HV.out.trans (hb.mono HV.out.size))
   replace X3 := lh (bget' hb X3.out)
   replace X5 := lh (bget' hb X5.out)
   replace X7 := lh (bget' hb X7.out)
   replace HT := lh (TmAt.keep hb hb.size _ _ HT.out)
   replace HQ := lh (TmAt.keep hb hb.size _ _ HQ.out)
   rw [HNS.out]
   clear hb
   obtain ⟨c00, c01, c02, c03, c04⟩ := cells5 X7.out
   go_wp2_with fail
   refine (none_any zeroM _ w6 (zeroM_at _ _)).mono ?_
   rintro e w7 ⟨rfl, hb⟩
   replace HV := lh (HV.out.trans (hb.mono HV.out.size))
   replace X3 := lh (bget' hb X3.out)
   replace X5 := lh (bget' hb X5.out)
   replace X7 := lh (bget' hb X7.out)
   replace HT := lh (TmAt.keep hb hb.size _ _ HT.out)
   replace HQ := lh (TmAt.keep hb hb.size _ _ HQ.out)
   rw [eqM_zero9]
   clear hb
   clear c00 c01 c02 c03 c04
   go_wp2_with fail
   refine (known_any _).mono ?_
   rintro e wk ⟨rfl, hb⟩
   replace HV := lh (HV.out.trans (hb.mono HV.out.size))
   clear hb
   go_wp2
   go_ret
   exact ⟨rfl, HV.out⟩
  | true =>
   have HNS := lh hHNS; clear hHNS
   cases hHQB : termB q with
   | false =>
    have HQB := lh hHQB; clear hHQB
    obtain ⟨c00, c01, c02, c03, c04⟩ := cells5 X3.out
    obtain ⟨c10, c11, c12, c13, c14⟩ := cells5 X5.out
    go_wp2_with fail
    refine (Subst_any s q t _ _ w2 (by unfold maxLen; omega) HT.out HQ.out HF HG).mono ?_
    rintro e w3 ⟨he, hb⟩
    replace HV := lh (HV.out.trans (hb.mono HV.out.size))
    replace X3 := lh (bget' hb X3.out)
    replace X5 := lh (bget' hb X5.out)
    replace HT := lh (TmAt.keep hb hb.size _ _ HT.out)
    replace HQ := lh (TmAt.keep hb hb.size _ _ HQ.out)
    obtain rfl := SubstEnd.no he (by rw [HQB.out]; simp)
    unfold zeroV
    clear hb
    clear c00 c01 c02 c03 c04 c10 c11 c12 c13 c14
    go_upto_region 4 with fail
    have hb := (Below.refl _ w3).alloc (Nat.le_refl _) (.cells #[.int .i64 0, .int .i64 0, .string ⟨#[]⟩, .slice none 0 0, .slice none 0 0] 32)
    have X7n := lh (heap_alloc_new w3 (.cells #[.int .i64 0, .int .i64 0, .string ⟨#[]⟩, .slice none 0 0, .slice none 0 0] 32))
    replace HV := lh (HV.out.trans (hb.mono HV.out.size))
    replace X3 := lh (bget' hb X3.out)
    replace X5 := lh (bget' hb X5.out)
    replace HT := lh (TmAt.keep hb hb.size _ _ HT.out)
    replace HQ := lh (TmAt.keep hb hb.size _ _ HQ.out)
    clear hb
    generalize (w3.alloc (.cells #[.int .i64 0, .int .i64 0, .string ⟨#[]⟩, .slice none 0 0, .slice none 0 0] 32)) = w4 at *
    have X7 := X7n
    clear X7n
    obtain ⟨c00, c01, c02, c03, c04⟩ := cells5 X3.out
    go_wp2_with fail
    refine (C30 t w4 HT.out HF.ok).mono ?_
    rintro e w5 ⟨rfl, hb⟩
    replace HV := lh (HV.out.trans (hb.mono HV.out.size))
    replace X3 := lh (bget' hb X3.out)
    replace X5 := lh (bget' hb X5.out)
    replace X7 := lh (bget' hb X7.out)
    replace HT := lh (TmAt.keep hb hb.size _ _ HT.out)
    replace HQ := lh (TmAt.keep hb hb.size _ _ HQ.out)
    rw [HTB.out]
    clear hb
    clear c00 c01 c02 c03 c04
    go_wp2_with fail
    refine (refName_any s w5 (by unfold maxLen; omega)).mono ?_
    rintro e w6 ⟨rfl, hb⟩
    replace HV := lh (HV.out.trans (hb.mono HV.out.size))
    replace X3 := lh (bget' hb X3.out)
    replace X5 := lh (bget' hb X5.out)
    replace X7 := lh (bget' hb X7.out)
    replace HT := lh (TmAt.keep hb hb.size _ _ HT.out)
    replace HQ := lh (TmAt.keep hb hb.size _ _ HQ.out)
    rw [HNS.out]
    clear hb
    obtain ⟨c00, c01, c02, c03, c04⟩ := cells5 X5.out
    go_wp2_with fail
    refine (C30 q w6 HQ.out HG.ok).mono ?_
    rintro e w7 ⟨rfl, hb⟩
    replace HV := lh (HV.out.trans (hb.mono HV.out.size))
    replace X3 := lh (bget' hb X3.out)
    replace X5 := lh (bget' hb X5.out)
    replace X7 := lh (bget' hb X7.out)
    replace HT := lh (TmAt.keep hb hb.size _ _ HT.out)
    replace HQ := lh (TmAt.keep hb hb.size _ _ HQ.out)
    rw [HQB.out]
    clear hb
    clear c00 c01 c02 c03 c04
    obtain ⟨c00, c01, c02, c03, c04⟩ := cells5 X7.out
    go_wp2_with fail
    refine (none_any zeroM _ w7 (zeroM_at _ _)).mono ?_
    rintro e w8 ⟨rfl, hb⟩
    replace HV := lh (HV.out.trans (hb.mono HV.out.size))
    replace X3 := lh (bget' hb X3.out)
    replace X5 := lh (bget' hb X5.out)
    replace X7 := lh (bget' hb X7.out)
    replace HT := lh (TmAt.keep hb hb.size _ _ HT.out)
    replace HQ := lh (TmAt.keep hb hb.size _ _ HQ.out)
    rw [eqM_zero9]
    clear hb
    clear c00 c01 c02 c03 c04
    go_wp2_with fail
    refine (known_any _).mono ?_
    rintro e wk ⟨rfl, hb⟩
    replace HV := lh (HV.out.trans (hb.mono HV.out.size))
    clear hb
    go_wp2
    go_ret
    exact ⟨rfl, HV.out⟩
   | true =>
    have HQB := lh hHQB; clear hHQB
    have HSE := lh (subR_eq s q (termB_sub HQB.out HG).ren.ok (by have := freeL_few9 HQB.out; omega) (heightM t) t (Nat.le_refl _) (termB_sub HTB.out HF) (okR_of HTB.out))
    have HRT := lh (RS_of HTB.out HF); have HRQ := lh (RS_of HQB.out HG)
    have HXF : Fit (subF s q (heightM t) t) := by
     obtain ⟨i1, i2, i3⟩ := subF_fit s q HG (heightM t) t (Nat.le_refl _) (termB_sub HTB.out HF)
     have := termB_height HTB.out; have := termB_height HQB.out
     exact ⟨by omega, i2, i3⟩
    cases hpb : termB (subF s q (heightM t) t) with
    | false =>
     have HPB := lh hpb; clear hpb
     obtain ⟨c00, c01, c02, c03, c04⟩ := cells5 X3.out
     obtain ⟨c10, c11, c12, c13, c14⟩ := cells5 X5.out
     go_wp2_with fail
     refine (Subst_any s q t _ _ w2 (by unfold maxLen; omega) HT.out HQ.out HF HG).mono ?_
     rintro e w3 ⟨he, hb⟩
     replace HV := lh (HV.out.trans (hb.mono HV.out.size))
     replace X3 := lh (bget' hb X3.out)
     replace X5 := lh (bget' hb X5.out)
     replace HT := lh (TmAt.keep hb hb.size _ _ HT.out)
     replace HQ := lh (TmAt.keep hb hb.size _ _ HQ.out)
     obtain rfl := SubstEnd.lon9 he (by rw [HTB.out, HNS.out, HQB.out]; rfl) HPB.out
     unfold zeroV
     clear hb
     clear c00 c01 c02 c03 c04 c10 c11 c12 c13 c14
     go_upto_region 4 with fail
     have hb := (Below.refl _ w3).alloc (Nat.le_refl _) (.cells #[.int .i64 0, .int .i64 0, .string ⟨#[]⟩, .slice none 0 0, .slice none 0 0] 32)
     have X7n := lh (heap_alloc_new w3 (.cells #[.int .i64 0, .int .i64 0, .string ⟨#[]⟩, .slice none 0 0, .slice none 0 0] 32))
     replace HV := lh (HV.out.trans (hb.mono HV.out.size))
     replace X3 := lh (bget' hb X3.out)
     replace X5 := lh (bget' hb X5.out)
     replace HT := lh (TmAt.keep hb hb.size _ _ HT.out)
     replace HQ := lh (TmAt.keep hb hb.size _ _ HQ.out)
     clear hb
     generalize (w3.alloc (.cells #[.int .i64 0, .int .i64 0, .string ⟨#[]⟩, .slice none 0 0, .slice none 0 0] 32)) = w4 at *
     have X7 := X7n
     clear X7n
     obtain ⟨c00, c01, c02, c03, c04⟩ := cells5 X3.out
     go_wp2_with fail
     refine (C30 t w4 HT.out HF.ok).mono ?_
     rintro e w5 ⟨rfl, hb⟩
     replace HV := lh (HV.out.trans (hb.mono HV.out.size))
     replace X3 := lh (bget' hb X3.out)
     replace X5 := lh (bget' hb X5.out)
     replace X7 := lh (bget' hb X7.out)
     replace HT := lh (TmAt.keep hb hb.size _ _ HT.out)
     replace HQ := lh (TmAt.keep hb hb.size _ _ HQ.out)
     rw [HTB.out]
     clear hb
     clear c00 c01 c02 c03 c04
     go_wp2_with fail
     refine (refName_any s w5 (by unfold maxLen; omega)).mono ?_
     rintro e w6 ⟨rfl, hb⟩
     replace HV := lh (HV.out.trans (hb.mono HV.out.size))
     replace X3 := lh (bget' hb X3.out)
     replace X5 := lh (bget' hb X5.out)
     replace X7 := lh (bget' hb X7.out)
     replace HT := lh (TmAt.keep hb hb.size _ _ HT.out)
     replace HQ := lh (TmAt.keep hb hb.size _ _ HQ.out)
     rw [HNS.out]
     clear hb
     obtain ⟨c00, c01, c02, c03, c04⟩ := cells5 X5.out
     go_wp2_with fail
     refine (C30 q w6 HQ.out HG.ok).mono ?_
     rintro e w7 ⟨rfl, hb⟩
     replace HV := lh (HV.out.trans (hb.mono HV.out.size))
     replace X3 := lh (bget' hb X3.out)
     replace X5 := lh (bget' hb X5.out)
     replace X7 := lh (bget' hb X7.out)
     replace HT := lh (TmAt.keep hb hb.size _ _ HT.out)
     replace HQ := lh (TmAt.keep hb hb.size _ _ HQ.out)
     rw [HQB.out]
     clear hb
     clear c00 c01 c02 c03 c04
     obtain ⟨c00, c01, c02, c03, c04⟩ := cells5 X3.out
     obtain ⟨c10, c11, c12, c13, c14⟩ := cells5 X5.out
     go_wp2_with fail
     refine (refSub_any s (by unfold maxLen; omega) q HRQ.out (heightM t) t _ _ w7 (fun b => b < w7.heap.size) (fun _ h => h) (TmX.of _ _ HT.out) (TmX.of _ _ HQ.out) HRT.out (Nat.le_refl _)).mono ?_
     rintro e w8 ⟨⟨vy, rfl, hvy⟩, hb⟩
     replace HV := lh (HV.out.trans (hb.mono HV.out.size))
     replace X3 := lh (bget' hb X3.out)
     replace X5 := lh (bget' hb X5.out)
     replace X7 := lh (bget' hb X7.out)
     replace HT := lh (TmAt.keep hb hb.size _ _ HT.out)
     replace HQ := lh (TmAt.keep hb hb.size _ _ HQ.out)
     rw [HSE.out] at hvy
     have Hvy := lh (TmX.to (fun b h => h.elim (fun h => Nat.lt_of_lt_of_le h hb.size) (fun h => h.2)) _ _ hvy)
     clear hvy
     obtain ⟨vya, vyb, vyc, vyd, rfl, -⟩ := Hvy.out.parts
     clear hb
     clear c00 c01 c02 c03 c04 c10 c11 c12 c13 c14
     go_upto_region 7 with fail
     have hb := (Below.refl _ w8).alloc (Nat.le_refl _) (.cells #[.int .i64 (subF s q (heightM t) t).op, .int .i64 (subF s q (heightM t) t).n, .string (subF s q (heightM t) t).text, .slice vya (subF s q (heightM t) t).kids.length vyb, .slice vyc (subF s q (heightM t) t).pats.length vyd] 32)
     have X9n := lh (heap_alloc_new w8 (.cells #[.int .i64 (subF s q (heightM t) t).op, .int .i64 (subF s q (heightM t) t).n, .string (subF s q (heightM t) t).text, .slice vya (subF s q (heightM t) t).kids.length vyb, .slice vyc (subF s q (heightM t) t).pats.length vyd] 32))
     replace HV := lh (HV.out.trans (hb.mono HV.out.size))
     replace X3 := lh (bget' hb X3.out)
     replace X5 := lh (bget' hb X5.out)
     replace X7 := lh (bget' hb X7.out)
     replace HT := lh (TmAt.keep hb hb.size _ _ HT.out)
     replace HQ := lh (TmAt.keep hb hb.size _ _ HQ.out)
     replace Hvy := lh (TmAt.keep hb hb.size _ _ Hvy.out)
     clear hb
     generalize (w8.alloc (.cells #[.int .i64 (subF s q (heightM t) t).op, .int .i64 (subF s q (heightM t) t).n, .string (subF s q (heightM t) t).text, .slice vya (subF s q (heightM t) t).kids.length vyb, .slice vyc (subF s q (heightM t) t).pats.length vyd] 32)) = w9 at *
     have X9 := X9n
     clear X9n
     obtain ⟨c00, c01, c02, c03, c04⟩ := cells5 X9.out
     go_wp2_with fail
     refine (C30 (subF s q (heightM t) t) w9 Hvy.out HXF.ok).mono ?_
     rintro e w10 ⟨rfl, hb⟩
     replace HV := lh (HV.out.trans (hb.mono HV.out.size))
     replace X3 := lh (bget' hb X3.out)
     replace X5 := lh (bget' hb X5.out)
     replace X7 := lh (bget' hb X7.out)
     replace X9 := lh (bget' hb X9.out)
     replace HT := lh (TmAt.keep hb hb.size _ _ HT.out)
     replace HQ := lh (TmAt.keep hb hb.size _ _ HQ.out)
     replace Hvy := lh (TmAt.keep hb hb.size _ _ Hvy.out)
     rw [HPB.out]
     clear hb
     clear c00 c01 c02 c03 c04
     obtain ⟨c00, c01, c02, c03, c04⟩ := cells5 X7.out
     go_wp2_with fail
     refine (none_any zeroM _ w10 (zeroM_at _ _)).mono ?_
     rintro e w11 ⟨rfl, hb⟩
     replace HV := lh (HV.out.trans (hb.mono HV.out.size))
     replace X3 := lh (bget' hb X3.out)
     replace X5 := lh (bget' hb X5.out)
     replace X7 := lh (bget' hb X7.out)
     replace X9 := lh (bget' hb X9.out)
     replace HT := lh (TmAt.keep hb hb.size _ _ HT.out)
     replace HQ := lh (TmAt.keep hb hb.size _ _ HQ.out)
     replace Hvy := lh (TmAt.keep hb hb.size _ _ Hvy.out)
     rw [eqM_zero9]
     clear hb
     clear c00 c01 c02 c03 c04
     go_wp2_with fail
     refine (known_any _).mono ?_
     rintro e wk ⟨rfl, hb⟩
     replace HV := lh (HV.out.trans (hb.mono HV.out.size))
     clear hb
     go_wp2
     go_ret
     exact ⟨rfl, HV.out⟩
    | true =>
     have HPB := lh hpb; clear hpb
     obtain ⟨c00, c01, c02, c03, c04⟩ := cells5 X3.out
     obtain ⟨c10, c11, c12, c13, c14⟩ := cells5 X5.out
     go_wp2_with fail
     refine (Subst_any s q t _ _ w2 (by unfold maxLen; omega) HT.out HQ.out HF HG).mono ?_
     rintro e w3 ⟨he, hb⟩
     replace HV := lh (HV.out.trans (hb.mono HV.out.size))
     replace X3 := lh (bget' hb X3.out)
     replace X5 := lh (bget' hb X5.out)
     replace HT := lh (TmAt.keep hb hb.size _ _ HT.out)
     replace HQ := lh (TmAt.keep hb hb.size _ _ HQ.out)
     obtain ⟨vx, rfl, hvx⟩ := SubstEnd.ye9 he (by rw [HTB.out, HNS.out, HQB.out]; rfl) HPB.out
     have Hvx := lh hvx
     clear hvx
     obtain ⟨vxa, vxb, vxc, vxd, rfl, -⟩ := Hvx.out.parts
     clear hb
     clear c00 c01 c02 c03 c04 c10 c11 c12 c13 c14
     go_upto_region 4 with fail
     have hb := (Below.refl _ w3).alloc (Nat.le_refl _) (.cells #[.int .i64 (subF s q (heightM t) t).op, .int .i64 (subF s q (heightM t) t).n, .string (subF s q (heightM t) t).text, .slice vxa (subF s q (heightM t) t).kids.length vxb, .slice vxc (subF s q (heightM t) t).pats.length vxd] 32)
     have X7n := lh (heap_alloc_new w3 (.cells #[.int .i64 (subF s q (heightM t) t).op, .int .i64 (subF s q (heightM t) t).n, .string (subF s q (heightM t) t).text, .slice vxa (subF s q (heightM t) t).kids.length vxb, .slice vxc (subF s q (heightM t) t).pats.length vxd] 32))
     replace HV := lh (HV.out.trans (hb.mono HV.out.size))
     replace X3 := lh (bget' hb X3.out)
     replace X5 := lh (bget' hb X5.out)
     replace HT := lh (TmAt.keep hb hb.size _ _ HT.out)
     replace HQ := lh (TmAt.keep hb hb.size _ _ HQ.out)
     replace Hvx := lh (TmAt.keep hb hb.size _ _ Hvx.out)
     clear hb
     generalize (w3.alloc (.cells #[.int .i64 (subF s q (heightM t) t).op, .int .i64 (subF s q (heightM t) t).n, .string (subF s q (heightM t) t).text, .slice vxa (subF s q (heightM t) t).kids.length vxb, .slice vxc (subF s q (heightM t) t).pats.length vxd] 32)) = w4 at *
     have X7 := X7n
     clear X7n
     obtain ⟨c00, c01, c02, c03, c04⟩ := cells5 X3.out
     go_wp2_with fail
     refine (C30 t w4 HT.out HF.ok).mono ?_
     rintro e w5 ⟨rfl, hb⟩
     replace HV := lh (HV.out.trans (hb.mono HV.out.size))
     replace X3 := lh (bget' hb X3.out)
     replace X5 := lh (bget' hb X5.out)
     replace X7 := lh (bget' hb X7.out)
     replace HT := lh (TmAt.keep hb hb.size _ _ HT.out)
     replace HQ := lh (TmAt.keep hb hb.size _ _ HQ.out)
     replace Hvx := lh (TmAt.keep hb hb.size _ _ Hvx.out)
     rw [HTB.out]
     clear hb
     clear c00 c01 c02 c03 c04
     go_wp2_with fail
     refine (refName_any s w5 (by unfold maxLen; omega)).mono ?_
     rintro e w6 ⟨rfl, hb⟩
     replace HV := lh (HV.out.trans (hb.mono HV.out.size))
     replace X3 := lh (bget' hb X3.out)
     replace X5 := lh (bget' hb X5.out)
     replace X7 := lh (bget' hb X7.out)
     replace HT := lh (TmAt.keep hb hb.size _ _ HT.out)
     replace HQ := lh (TmAt.keep hb hb.size _ _ HQ.out)
     replace Hvx := lh (TmAt.keep hb hb.size _ _ Hvx.out)
     rw [HNS.out]
     clear hb
     obtain ⟨c00, c01, c02, c03, c04⟩ := cells5 X5.out
     go_wp2_with fail
     refine (C30 q w6 HQ.out HG.ok).mono ?_
     rintro e w7 ⟨rfl, hb⟩
     replace HV := lh (HV.out.trans (hb.mono HV.out.size))
     replace X3 := lh (bget' hb X3.out)
     replace X5 := lh (bget' hb X5.out)
     replace X7 := lh (bget' hb X7.out)
     replace HT := lh (TmAt.keep hb hb.size _ _ HT.out)
     replace HQ := lh (TmAt.keep hb hb.size _ _ HQ.out)
     replace Hvx := lh (TmAt.keep hb hb.size _ _ Hvx.out)
     rw [HQB.out]
     clear hb
     clear c00 c01 c02 c03 c04
     obtain ⟨c00, c01, c02, c03, c04⟩ := cells5 X3.out
     obtain ⟨c10, c11, c12, c13, c14⟩ := cells5 X5.out
     go_wp2_with fail
     refine (refSub_any s (by unfold maxLen; omega) q HRQ.out (heightM t) t _ _ w7 (fun b => b < w7.heap.size) (fun _ h => h) (TmX.of _ _ HT.out) (TmX.of _ _ HQ.out) HRT.out (Nat.le_refl _)).mono ?_
     rintro e w8 ⟨⟨vy, rfl, hvy⟩, hb⟩
     replace HV := lh (HV.out.trans (hb.mono HV.out.size))
     replace X3 := lh (bget' hb X3.out)
     replace X5 := lh (bget' hb X5.out)
     replace X7 := lh (bget' hb X7.out)
     replace HT := lh (TmAt.keep hb hb.size _ _ HT.out)
     replace HQ := lh (TmAt.keep hb hb.size _ _ HQ.out)
     replace Hvx := lh (TmAt.keep hb hb.size _ _ Hvx.out)
     rw [HSE.out] at hvy
     have Hvy := lh (TmX.to (fun b h => h.elim (fun h => Nat.lt_of_lt_of_le h hb.size) (fun h => h.2)) _ _ hvy)
     clear hvy
     obtain ⟨vya, vyb, vyc, vyd, rfl, -⟩ := Hvy.out.parts
     clear hb
     clear c00 c01 c02 c03 c04 c10 c11 c12 c13 c14
     go_upto_region 7 with fail
     have hb := (Below.refl _ w8).alloc (Nat.le_refl _) (.cells #[.int .i64 (subF s q (heightM t) t).op, .int .i64 (subF s q (heightM t) t).n, .string (subF s q (heightM t) t).text, .slice vya (subF s q (heightM t) t).kids.length vyb, .slice vyc (subF s q (heightM t) t).pats.length vyd] 32)
     have X9n := lh (heap_alloc_new w8 (.cells #[.int .i64 (subF s q (heightM t) t).op, .int .i64 (subF s q (heightM t) t).n, .string (subF s q (heightM t) t).text, .slice vya (subF s q (heightM t) t).kids.length vyb, .slice vyc (subF s q (heightM t) t).pats.length vyd] 32))
     replace HV := lh (HV.out.trans (hb.mono HV.out.size))
     replace X3 := lh (bget' hb X3.out)
     replace X5 := lh (bget' hb X5.out)
     replace X7 := lh (bget' hb X7.out)
     replace HT := lh (TmAt.keep hb hb.size _ _ HT.out)
     replace HQ := lh (TmAt.keep hb hb.size _ _ HQ.out)
     replace Hvx := lh (TmAt.keep hb hb.size _ _ Hvx.out)
     replace Hvy := lh (TmAt.keep hb hb.size _ _ Hvy.out)
     clear hb
     generalize (w8.alloc (.cells #[.int .i64 (subF s q (heightM t) t).op, .int .i64 (subF s q (heightM t) t).n, .string (subF s q (heightM t) t).text, .slice vya (subF s q (heightM t) t).kids.length vyb, .slice vyc (subF s q (heightM t) t).pats.length vyd] 32)) = w9 at *
     have X9 := X9n
     clear X9n
     obtain ⟨c00, c01, c02, c03, c04⟩ := cells5 X9.out
     go_wp2_with fail
     refine (C30 (subF s q (heightM t) t) w9 Hvy.out HXF.ok).mono ?_
     rintro e w10 ⟨rfl, hb⟩
     replace HV := lh (HV.out.trans (hb.mono HV.out.size))
     replace X3 := lh (bget' hb X3.out)
     replace X5 := lh (bget' hb X5.out)
     replace X7 := lh (bget' hb X7.out)
     replace X9 := lh (bget' hb X9.out)
     replace HT := lh (TmAt.keep hb hb.size _ _ HT.out)
     replace HQ := lh (TmAt.keep hb hb.size _ _ HQ.out)
     replace Hvx := lh (TmAt.keep hb hb.size _ _ Hvx.out)
     replace Hvy := lh (TmAt.keep hb hb.size _ _ Hvy.out)
     rw [HPB.out]
     clear hb
     clear c00 c01 c02 c03 c04
     obtain ⟨c00, c01, c02, c03, c04⟩ := cells5 X7.out
     obtain ⟨c10, c11, c12, c13, c14⟩ := cells5 X9.out
     go_wp2_with fail
     refine (Same_any (subF s q (heightM t) t) (subF s q (heightM t) t) _ _ w10 Hvx.out Hvy.out).mono ?_
     rintro e w11 ⟨rfl, hb⟩
     replace HV := lh (HV.out.trans (hb.mono HV.out.size))
     replace X3 := lh (bget' hb X3.out)
     replace X5 := lh (bget' hb X5.out)
     replace X7 := lh (bget' hb X7.out)
     replace X9 := lh (bget' hb X9.out)
     replace HT := lh (TmAt.keep hb hb.size _ _ HT.out)
     replace HQ := lh (TmAt.keep hb hb.size _ _ HQ.out)
     replace Hvx := lh (TmAt.keep hb hb.size _ _ Hvx.out)
     replace Hvy := lh (TmAt.keep hb hb.size _ _ Hvy.out)
     rw [eqM_refl]
     clear hb
     clear c00 c01 c02 c03 c04 c10 c11 c12 c13 c14
     go_wp2_with fail
     refine (known_any _).mono ?_
     rintro e wk ⟨rfl, hb⟩
     replace HV := lh (HV.out.trans (hb.mono HV.out.size))
     clear hb
     go_wp2
     go_ret
     exact ⟨rfl, HV.out⟩
end Go.Proofs.YtjpahjfjpkbcnaaGreat
namespace Go.Proofs.YtjpahjfjpkbcnaaGreat
open Go.ChangeShapes Go.WideShapes Go.ChangeAt Go.RowKit
open Go.ChangeMaps (open_string shut_string)
set_option maxRecDepth 100000 in
theorem termSubsts_lifted (os : Os) (started : os.Started) (H : Type) (enc : TypeId × Value → H) :
  ReturnsInHanded {} Tryz.checked os 9 .any (Rows.termSubstsSpec.pre6 enc Tryz.prog Tryz.f9 Rows.termSubstsRow.domain false) (Rows.termSubstsSpec.post enc Tryz.prog Tryz.f9 false true false false) := by
 refine returnsInHanded_of_change (C := Tryz.checked) Tryz.own started (by kernel_rfl) Tryz.func9
  (ChangeSpec.witness6 (enc := enc) (C := Tryz.checked) false ⟨#[], #[.agg #[.int .i64 0, .int .i64 0, .string ⟨#[]⟩, .slice none 0 0, .slice none 0 0], .string ⟨#[]⟩, .agg #[.int .i64 0, .int .i64 0, .string ⟨#[]⟩, .slice none 0 0, .slice none 0 0]], []⟩ 8 (by kernel_rfl) (by kernel_rfl) (by kernel_rfl) (by kernel_rfl)) ?_
 intro W base args ds gs before hval0 hW hcnd _
 have hval : ∀ (j : Nat) t v, Tryz.f9.params[j]? = some t → args[j]? = some v → Value.okWide Tryz.prog W .any base t v := hval0
 have hW' := hW
 obtain ⟨p, q, hA0, hV, rfl, hfz, hnd⟩ := hW
 have hA : DataW.TrodAll enc Tryz.prog W 0 (fun _ => true) true Tryz.f9.params.toList args.toList ds p := hA0
 rw [Tryz.params9] at hA hval
 obtain ⟨v0, v1, v2, d0, d1, d2, p0, p1, p2, rfl, rfl, rfl, h0, h1, h2⟩ := trodAll_three hA
 obtain ⟨rfl, rfl⟩ := trodVars_none hV
 have h0k := h0
 have h1k := h1
 have h2k := h2
 obtain ⟨T0, hT0⟩ := open_tm (hval 0 32 v0 rfl rfl) h0
 obtain ⟨s1, rfl, -, -, hs1⟩ := open_string Tryz.underlying9 (hval 1 9 v1 rfl rfl) h1
 obtain ⟨T2, hT2⟩ := open_tm (hval 2 32 v2 rfl rfl) h2
 clear hA0 hval0
 simp only [List.append_nil] at hW'
 have hlt : ∀ x ∈ p0 ++ p1 ++ p2, x.block < W.heap.size := fun x hx => by simpa using hW'.lt x hx
 refine (substs_any T0 s1 T2 v0 v2 W hT0 hs1 hT2).mono fun e W' ⟨he, hnx⟩ => ?_
 subst he
 refine ⟨_, rfl, _, _, _, [] ++ [], p0 ++ p1 ++ p2, [], hW', ?_, ?_, rfl, hnx.frame _, fun h => by cases h⟩
 ·exact trodAll_mk1 (shut_bool Tryz.underlying4 true)
 ·have e := trodAll_mk3 (Below.trod Tryz.laidOut (by kernel_rfl) (of_decide_eq_true (by kernel_rfl)) h0k hnx (fun x hx => hlt x (List.mem_append_left _ (List.mem_append_left _ hx)))) (Below.trod Tryz.laidOut (by kernel_rfl) (of_decide_eq_true (by kernel_rfl)) h1k hnx (fun x hx => hlt x (List.mem_append_left _ (List.mem_append_right _ hx)))) (Below.trod Tryz.laidOut (by kernel_rfl) (of_decide_eq_true (by kernel_rfl)) h2k hnx (fun x hx => hlt x (List.mem_append_right _ hx)))
  simp only [← List.append_assoc] at e
  exact e
theorem termSubsts_holds : Rows.TermSubstsSaid :=
 OpenClaim.holds_of_wide 9 Tryz.f9 rfl rfl rfl rfl rfl rfl rfl ⟨rfl, rfl, rfl, rfl, rfl⟩ rfl rfl rfl rfl rfl (by kernel_rfl) Tryz.func9 (by kernel_rfl)
  (of_decide_eq_true (by kernel_rfl)) (by unfold Func.isWrapper; first | (rw [if_pos (by decide +kernel)]; kernel_rfl) | (rw [if_neg (by decide +kernel)]; exact ⟨rfl, rfl⟩))
  (fun os started H enc _ => termSubsts_lifted os started H enc)
end Go.Proofs.YtjpahjfjpkbcnaaGreat
