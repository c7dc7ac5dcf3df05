/- Contracts of the program's functions. -/
import Derived.Test.YtjpahjfjpkbcnaaGreatB08
import Derived.Test.YtjpahjfjpkbcnaaGreatB11
import Derived.Test.YtjpahjfjpkbcnaaGreatB04
import Derived.Test.YtjpahjfjpkbcnaaGreatB05
import Derived.Test.YtjpahjfjpkbcnaaGreatB10

namespace Go.Proofs.YtjpahjfjpkbcnaaGreat
open Go.Proofs Go.RowKit
theorem size_alloc2 (w : World) (o p : Obj) : ((w.alloc o).alloc p).heap.size = w.heap.size + 2 := by simp
set_option maxHeartbeats 8000000 in
set_option maxRecDepth 100000 in
theorem SamePat_any (p : Pt) : ∀ (q : Pt) (v v' : Value) (w : World), PtAt w.heap.size w p v → PtAt w.heap.size w q v' →
  Calls Tryz.prog 104 #[v, v'] w fun e w' => e = .returned (.bool (eqP p q)) ∧ Below w.heap.size w w' := by
 induction hT : SizeOf.sizeOf p using Nat.strongRecOn generalizing p with
 | _ m ih =>
 subst hT
 intro q v v' w hv hv'
 have HIH := lh ih; clear ih
 cases p with
 | mk op n text parts =>
 cases q with
 | mk op' n' text' parts' =>
 unfold PtAt at hv hv'
 obtain ⟨kv, rfl, htx, hk⟩ := hv
 obtain ⟨kv', rfl, htx', hk'⟩ := hv'
 obtain ⟨a, cap, rfl, hcap, hlc, hka⟩ := hk.split
 obtain ⟨a', cap', rfl, hcap', hlc', hka'⟩ := hk'.split
 have hb0 : Below w.heap.size w ((w.alloc (.cells #[.int .i64 op, .int .i64 n, .string text, .slice a parts.length cap] 35)).alloc (.cells #[.int .i64 op', .int .i64 n', .string text', .slice a' parts'.length cap'] 35)) := ((Below.refl w.heap.size w).alloc (Nat.le_refl _) _).alloc (by simp) _
 have hx1 := bget' ((Below.refl _ _).alloc (Nat.le_refl _) (.cells #[.int .i64 op', .int .i64 n', .string text', .slice a' parts'.length cap'] 35)) (heap_alloc_new w (.cells #[.int .i64 op, .int .i64 n, .string text, .slice a parts.length cap] 35))
 have hx2 := heap_alloc_new (w.alloc (.cells #[.int .i64 op, .int .i64 n, .string text, .slice a parts.length cap] 35)) (.cells #[.int .i64 op', .int .i64 n', .string text', .slice a' parts'.length cap'] 35)
 have hsz := size_alloc2 w (.cells #[.int .i64 op, .int .i64 n, .string text, .slice a parts.length cap] 35) (.cells #[.int .i64 op', .int .i64 n', .string text', .slice a' parts'.length cap'] 35)
 rw [World.size_alloc] at hx2
 unfold maxLen at hcap hcap'
 have hr : eqP (.mk op n text parts) (.mk op' n' text' parts') = ((op == op') && (n == n') && (text.toList == text'.toList) && eqPs parts parts') := by conv => lhs; unfold eqP
 have HR := lh hr; have HKA := lh hka; have HKA' := lh hka'; have HX1 := lh hx1; have HX2 := lh hx2; have HB0 := lh hb0; have HSZ := lh hsz
 obtain ⟨c0, c1, c2, c3⟩ := cells4 hx1
 obtain ⟨d0, d1, d2, d3⟩ := cells4 hx2
 clear hk hk' hka hka' hr hb0 hx1 hx2 hsz
 by_cases h1 : op = op'
 case neg =>
  have HF := lh (show eqP (.mk op n text parts) (.mk op' n' text' parts') = false by rw [HR.o]; simp [h1])
  clear HR
  go_enter Tryz.func104, Tryz.ntmps104
  go_wp2
  all_goals (go_ret; exact ⟨ret_bool HF.o.symm, HB0.o⟩)
 by_cases h2 : n = n'
 case neg =>
  have HF := lh (show eqP (.mk op n text parts) (.mk op' n' text' parts') = false by rw [HR.o]; simp [h2])
  subst h1
  clear HR
  go_enter Tryz.func104, Tryz.ntmps104
  go_wp2
  all_goals (go_ret; exact ⟨ret_bool HF.o.symm, HB0.o⟩)
 subst h1 h2
 cases h3 : (text.toList == text'.toList)
 case false =>
  have HF := lh (show eqP (.mk op n text parts) (.mk op n text' parts') = false by rw [HR.o, h3]; simp)
  clear HR
  go_enter Tryz.func104, Tryz.ntmps104
  go_wp2
  all_goals (go_ret; exact ⟨ret_bool HF.o.symm, HB0.o⟩)
 by_cases hne : parts.length = parts'.length
 case neg =>
  have HF := lh (show eqP (.mk op n text parts) (.mk op n text' parts') = false by rw [HR.o, eqPs_len _ _ hne]; simp)
  have hni : ¬ (parts.length : Int) = (parts'.length : Int) := by omega
  clear HR hne
  go_enter Tryz.func104, Tryz.ntmps104
  go_wp2
  all_goals (go_ret; exact ⟨ret_bool HF.o.symm, HB0.o⟩)
 have hni : (parts.length : Int) = (parts'.length : Int) := by omega
 have HR2 := lh (show eqP (.mk op n text parts) (.mk op n text' parts') = eqPs parts parts' by rw [HR.o, h3]; simp)
 have HNE := lh hne
 clear HR hne
 go_enter Tryz.func104, Tryz.ntmps104
 go_wp2
 go_loopw [5] (fun i wr => ∃ k : Nat, k ≤ parts.length ∧ i = .int .i64 k ∧ Hid (eqPs parts parts' = eqPs (parts.drop k) (parts'.drop k)) ∧ Below (w.heap.size + 2) ((w.alloc (.cells #[.int .i64 op, .int .i64 n, .string text, .slice a parts.length cap] 35)).alloc (.cells #[.int .i64 op, .int .i64 n, .string text', .slice a' parts'.length cap'] 35)) wr) (fun i _ => parts.length - (intOf i).toNat)
 case atStart => exact ⟨0, Nat.zero_le _, rfl, rfl, Below.refl _ _⟩
 case round =>
  obtain ⟨k, hk, rfl, HP, hB⟩ := hrel
  have hhn := HNE.o
  clear c0 c1 c2 c3 d0 d1 d2 d3
  have hx1 := bget hB HX1.o (by omega)
  have hx2 := bget hB HX2.o (by omega)
  obtain ⟨c0, c1, c2, c3⟩ := cells4 hx1
  obtain ⟨d0, d1, d2, d3⟩ := cells4 hx2
  have hbw : Below w.heap.size w wr := HB0.o.trans (hB.mono (by omega))
  have hsz : w.heap.size + 2 ≤ wr.heap.size := by have := hB.size; have := HSZ.out; omega
  by_cases hlt : k < parts.length
  ·have hlt2 : k < parts'.length := by omega
   have hlti : (k : Int) < (parts.length : Int) := by omega
   have hlti2 : (k : Int) < (parts'.length : Int) := by omega
   obtain ⟨b, o, rfl, hbn, hps⟩ := HKA.o (by omega)
   obtain ⟨b', o', rfl, hbn', hps'⟩ := HKA'.o (by omega)
   obtain ⟨e0, e1, e2, e3, g0, g1, g2, g3, ht⟩ := PtsAt.get parts b o hps k hlt
   obtain ⟨f0, f1, f2, f3, i0, i1, i2, i3, ht'⟩ := PtsAt.get parts' b' o' hps' k hlt2
   obtain ⟨oo, nn, tt, ka, kn, kc, rfl, rfl, rfl, rfl⟩ := ht.shape
   obtain ⟨oo', nn', tt', ka', kn', kc', rfl, rfl, rfl, rfl⟩ := ht'.shape
   have q0 := (hbw.cell (p := ⟨b, _, none⟩) hbn).trans g0
   have q1 := (hbw.cell (p := ⟨b, _, none⟩) hbn).trans g1
   have q2 := (hbw.cell (p := ⟨b, _, none⟩) hbn).trans g2
   have q3 := (hbw.cell (p := ⟨b, _, none⟩) hbn).trans g3
   have r0 := (hbw.cell (p := ⟨b', _, none⟩) hbn').trans i0
   have r1 := (hbw.cell (p := ⟨b', _, none⟩) hbn').trans i1
   have r2 := (hbw.cell (p := ⟨b', _, none⟩) hbn').trans i2
   have r3 := (hbw.cell (p := ⟨b', _, none⟩) hbn').trans i3
   have HC := lh fun (V : World) (hb : Below wr.heap.size wr V) => HIH.o _ (kid_ltP k hlt) parts[k] rfl parts'[k] _ _ V (PtAt.keep (hbw.trans (hb.mono hbw.size)) (Nat.le_trans hbw.size hb.size) _ _ ht) (PtAt.keep (hbw.trans (hb.mono hbw.size)) (Nat.le_trans hbw.size hb.size) _ _ ht')
   have HB := lh hB
   have HD := lh (eqPs_drop parts parts' k hlt hlt2)
   clear hB hx1 hx2 hbw g0 g1 g2 g3 i0 i1 i2 i3 ht ht' hps hps' hhn
   go_wp2_with fail
   go_region_with (go_at_call 104; refine (HC.o _ (by first | exact Below.refl _ _ | exact below_drew _ _ | exact below_drewN (Below.refl _ _) _)).mono ?_; rintro e w1 ⟨rfl, hb1⟩)
   all_goals (
    first | have HB1 := lh (HB.o.trans (hb1.mono hsz)) | have HB1 := lh ((HB.o.trans (below_drew _ _)).trans (hb1.mono hsz)) | have HB1 := lh ((below_drewN HB.o _).trans (hb1.mono hsz))
    clear hb1 HC c0 c1 c2 c3 d0 d1 d2 d3 q0 q1 q2 q3 r0 r1 r2 r3
    cases he : eqP parts[k] parts'[k]
    ·have HF := lh (show eqP (.mk op n text parts) (.mk op n text' parts') = false by rw [HR2.o, HP.o, HD.o, he]; rfl)
     clear he
     go_wp2
     go_ret
     exact ⟨ret_bool HF.o.symm, HB0.o.trans (HB1.o.mono (by omega))⟩
    ·have HF := lh (show eqPs parts parts' = eqPs (parts.drop (k + 1)) (parts'.drop (k + 1)) by rw [HP.o, HD.o, he]; rfl)
     clear he
     go_wp2
     go_roundw
     case rel => exact ⟨k + 1, by omega, by go_num, HF.o, HB1.o⟩
     case measure => simp [intOf]; omega)
  ·obtain rfl : k = parts.length := by omega
   have HF := lh (show eqP (.mk op n text parts) (.mk op n text' parts') = true by rw [HR2.o, HP.o, List.drop_length, hhn, List.drop_length]; rfl)
   have HBW := lh hbw
   clear hB hhn hbw hx1 hx2
   go_wp2
   go_ret
   exact ⟨ret_bool HF.o.symm, HBW.o⟩
set_option maxHeartbeats 16000000 in
set_option maxRecDepth 100000 in
theorem Same_any (p : Tm) : ∀ (q : Tm) (v v' : Value) (w : World), TmAt w.heap.size w p v → TmAt w.heap.size w q v' →
  Calls Tryz.prog 45 #[v, v'] w fun e w' => e = .returned (.bool (eqM p q)) ∧ Below w.heap.size w w' := by
 induction hT : SizeOf.sizeOf p using Nat.strongRecOn generalizing p with
 | _ m ih =>
 subst hT
 intro q v v' w hv hv'
 have HIH := lh ih; clear ih
 cases p with
 | mk op n text kids pats =>
 cases q with
 | mk op' n' text' kids' pats' =>
 unfold TmAt at hv hv'
 obtain ⟨kv, pv, rfl, htx, hk, hp⟩ := hv
 obtain ⟨kv', pv', rfl, htx', hk', hp'⟩ := hv'
 obtain ⟨a, cap, rfl, hcap, hlc, hka⟩ := hk.split
 obtain ⟨pa, pcap, rfl, hpcap, hplc, hpa⟩ := hp.split
 obtain ⟨a', cap', rfl, hcap', hlc', hka'⟩ := hk'.split
 obtain ⟨pa', pcap', rfl, hpcap', hplc', hpa'⟩ := hp'.split
 have hb0 : Below w.heap.size w ((w.alloc (.cells #[.int .i64 op, .int .i64 n, .string text, .slice a kids.length cap, .slice pa pats.length pcap] 32)).alloc (.cells #[.int .i64 op', .int .i64 n', .string text', .slice a' kids'.length cap', .slice pa' pats'.length pcap'] 32)) := ((Below.refl w.heap.size w).alloc (Nat.le_refl _) _).alloc (by simp) _
 have hx1 := bget' ((Below.refl _ _).alloc (Nat.le_refl _) (.cells #[.int .i64 op', .int .i64 n', .string text', .slice a' kids'.length cap', .slice pa' pats'.length pcap'] 32)) (heap_alloc_new w (.cells #[.int .i64 op, .int .i64 n, .string text, .slice a kids.length cap, .slice pa pats.length pcap] 32))
 have hx2 := heap_alloc_new (w.alloc (.cells #[.int .i64 op, .int .i64 n, .string text, .slice a kids.length cap, .slice pa pats.length pcap] 32)) (.cells #[.int .i64 op', .int .i64 n', .string text', .slice a' kids'.length cap', .slice pa' pats'.length pcap'] 32)
 have hsz := size_alloc2 w (.cells #[.int .i64 op, .int .i64 n, .string text, .slice a kids.length cap, .slice pa pats.length pcap] 32) (.cells #[.int .i64 op', .int .i64 n', .string text', .slice a' kids'.length cap', .slice pa' pats'.length pcap'] 32)
 rw [World.size_alloc] at hx2
 unfold maxLen at hcap hcap' hpcap hpcap'
 have hr : eqM (.mk op n text kids pats) (.mk op' n' text' kids' pats') = ((op == op') && (n == n') && (text.toList == text'.toList) && eqMs kids kids' && eqPs pats pats') := by conv => lhs; unfold eqM
 have HR := lh hr; have HKA := lh hka; have HKA' := lh hka'; have HPA := lh hpa; have HPA' := lh hpa'; have HX1 := lh hx1; have HX2 := lh hx2; have HB0 := lh hb0; have HSZ := lh hsz
 obtain ⟨c0, c1, c2, c3, c4⟩ := cells5 hx1
 obtain ⟨d0, d1, d2, d3, d4⟩ := cells5 hx2
 clear hk hk' hka hka' hp hp' hpa hpa' hr hb0 hx1 hx2 hsz
 by_cases h1 : op = op'
 case neg =>
  have HF := lh (show eqM (.mk op n text kids pats) (.mk op' n' text' kids' pats') = false by rw [HR.o]; simp [h1])
  clear HR
  go_enter Tryz.func45, Tryz.ntmps45
  go_wp2
  all_goals (go_ret; exact ⟨ret_bool HF.o.symm, HB0.o⟩)
 by_cases h2 : n = n'
 case neg =>
  have HF := lh (show eqM (.mk op n text kids pats) (.mk op' n' text' kids' pats') = false by rw [HR.o]; simp [h2])
  subst h1
  clear HR
  go_enter Tryz.func45, Tryz.ntmps45
  go_wp2
  all_goals (go_ret; exact ⟨ret_bool HF.o.symm, HB0.o⟩)
 subst h1 h2
 cases h3 : (text.toList == text'.toList)
 case false =>
  have HF := lh (show eqM (.mk op n text kids pats) (.mk op n text' kids' pats') = false by rw [HR.o, h3]; simp)
  clear HR
  go_enter Tryz.func45, Tryz.ntmps45
  go_wp2
  all_goals (go_ret; exact ⟨ret_bool HF.o.symm, HB0.o⟩)
 by_cases hne : kids.length = kids'.length
 case neg =>
  have HF := lh (show eqM (.mk op n text kids pats) (.mk op n text' kids' pats') = false by rw [HR.o, eqMs_len _ _ hne]; simp)
  have hni : ¬ (kids.length : Int) = (kids'.length : Int) := by omega
  clear hne
  clear HR
  go_enter Tryz.func45, Tryz.ntmps45
  go_wp2
  all_goals (go_ret; exact ⟨ret_bool HF.o.symm, HB0.o⟩)
 by_cases hnp : pats.length = pats'.length
 case neg =>
  have HF := lh (show eqM (.mk op n text kids pats) (.mk op n text' kids' pats') = false by rw [HR.o, eqPs_len _ _ hnp]; simp)
  have hni : (kids.length : Int) = (kids'.length : Int) := by omega
  have hpi : ¬ (pats.length : Int) = (pats'.length : Int) := by omega
  clear hne hnp
  clear HR
  go_enter Tryz.func45, Tryz.ntmps45
  go_wp2
  all_goals (go_ret; exact ⟨ret_bool HF.o.symm, HB0.o⟩)
 have hni : (kids.length : Int) = (kids'.length : Int) := by omega
 have hpi : (pats.length : Int) = (pats'.length : Int) := by omega
 have HR2 := lh (show eqM (.mk op n text kids pats) (.mk op n text' kids' pats') = (eqMs kids kids' && eqPs pats pats') by rw [HR.o, h3]; simp)
 have HNE := lh hne; have HNP := lh hnp
 clear HR hne hnp
 go_enter Tryz.func45, Tryz.ntmps45
 go_wp2
 go_loopw [5] (fun i wr => ∃ k : Nat, k ≤ pats.length ∧ i = .int .i64 k ∧ Hid (eqPs pats pats' = eqPs (pats.drop k) (pats'.drop k)) ∧ Below (w.heap.size + 2) ((w.alloc (.cells #[.int .i64 op, .int .i64 n, .string text, .slice a kids.length cap, .slice pa pats.length pcap] 32)).alloc (.cells #[.int .i64 op, .int .i64 n, .string text', .slice a' kids'.length cap', .slice pa' pats'.length pcap'] 32)) wr) (fun i _ => pats.length - (intOf i).toNat)
 case atStart => exact ⟨0, Nat.zero_le _, rfl, rfl, Below.refl _ _⟩
 case round =>
  obtain ⟨k, hk, rfl, HP, hB⟩ := hrel
  have hhn := HNP.o
  clear c0 c1 c2 c3 c4 d0 d1 d2 d3 d4
  have hx1 := bget hB HX1.o (by omega)
  have hx2 := bget hB HX2.o (by omega)
  obtain ⟨c0, c1, c2, c3, c4⟩ := cells5 hx1
  obtain ⟨d0, d1, d2, d3, d4⟩ := cells5 hx2
  have hbw : Below w.heap.size w wr := HB0.o.trans (hB.mono (by omega))
  have hsz : w.heap.size + 2 ≤ wr.heap.size := by have := hB.size; have := HSZ.out; omega
  by_cases hlt : k < pats.length
  ·have hlt2 : k < pats'.length := by omega
   have hlti : (k : Int) < (pats.length : Int) := by omega
   have hlti2 : (k : Int) < (pats'.length : Int) := by omega
   obtain ⟨b, o, rfl, hbn, hps⟩ := HPA.o (by omega)
   obtain ⟨b', o', rfl, hbn', hps'⟩ := HPA'.o (by omega)
   obtain ⟨e0, e1, e2, e3, g0, g1, g2, g3, ht⟩ := PtsAt.get pats b o hps k hlt
   obtain ⟨f0, f1, f2, f3, i0, i1, i2, i3, ht'⟩ := PtsAt.get pats' b' o' hps' k hlt2
   obtain ⟨oo, nn, tt, ka, kn, kc, rfl, rfl, rfl, rfl⟩ := ht.shape
   obtain ⟨oo', nn', tt', ka', kn', kc', rfl, rfl, rfl, rfl⟩ := ht'.shape
   have q0 := (hbw.cell (p := ⟨b, _, none⟩) hbn).trans g0
   have q1 := (hbw.cell (p := ⟨b, _, none⟩) hbn).trans g1
   have q2 := (hbw.cell (p := ⟨b, _, none⟩) hbn).trans g2
   have q3 := (hbw.cell (p := ⟨b, _, none⟩) hbn).trans g3
   have r0 := (hbw.cell (p := ⟨b', _, none⟩) hbn').trans i0
   have r1 := (hbw.cell (p := ⟨b', _, none⟩) hbn').trans i1
   have r2 := (hbw.cell (p := ⟨b', _, none⟩) hbn').trans i2
   have r3 := (hbw.cell (p := ⟨b', _, none⟩) hbn').trans i3
   have HC := lh fun (V : World) (hb : Below wr.heap.size wr V) => SamePat_any pats[k] pats'[k] _ _ V (PtAt.keep (hbw.trans (hb.mono hbw.size)) (Nat.le_trans hbw.size hb.size) _ _ ht) (PtAt.keep (hbw.trans (hb.mono hbw.size)) (Nat.le_trans hbw.size hb.size) _ _ ht')
   have HB := lh hB
   have HD := lh (eqPs_drop pats pats' k hlt hlt2)
   clear hB hx1 hx2 hbw g0 g1 g2 g3 i0 i1 i2 i3 ht ht' hps hps' hhn
   go_wp2_with fail
   go_region_with (go_at_call 104; refine (HC.o _ (by first | exact Below.refl _ _ | exact below_drew _ _ | exact below_drewN (Below.refl _ _) _)).mono ?_; rintro e w1 ⟨rfl, hb1⟩)
   all_goals (
    first | have HB1 := lh (HB.o.trans (hb1.mono hsz)) | have HB1 := lh ((HB.o.trans (below_drew _ _)).trans (hb1.mono hsz)) | have HB1 := lh ((below_drewN HB.o _).trans (hb1.mono hsz))
    clear hb1 HC c0 c1 c2 c3 c4 d0 d1 d2 d3 d4 q0 q1 q2 q3 r0 r1 r2 r3
    cases he : eqP pats[k] pats'[k]
    ·have HF := lh (show eqM (.mk op n text kids pats) (.mk op n text' kids' pats') = false by rw [HR2.o, HP.o, HD.o, he]; simp)
     clear he
     go_wp2
     go_ret
     exact ⟨ret_bool HF.o.symm, HB0.o.trans (HB1.o.mono (by omega))⟩
    ·have HF := lh (show eqPs pats pats' = eqPs (pats.drop (k + 1)) (pats'.drop (k + 1)) by rw [HP.o, HD.o, he]; rfl)
     clear he
     go_wp2
     go_roundw
     case rel => exact ⟨k + 1, by omega, by go_num, HF.o, HB1.o⟩
     case measure => simp [intOf]; omega)
  ·obtain rfl : k = pats.length := by omega
   have HR3 := lh (show eqM (.mk op n text kids pats) (.mk op n text' kids' pats') = eqMs kids kids' by rw [HR2.o, HP.o, List.drop_length, hhn, List.drop_length]; show (_ && true) = _; rw [Bool.and_true])
   have HB1 := lh hB
   clear hB hhn hbw hx1 hx2 hsz HP HR2 hpi
   generalize wr = wc at *
   go_wp2
   go_loopw [6] (fun i wr => ∃ k : Nat, k ≤ kids.length ∧ i = .int .i64 k ∧ Hid (eqMs kids kids' = eqMs (kids.drop k) (kids'.drop k)) ∧ Below (w.heap.size + 2) ((w.alloc (.cells #[.int .i64 op, .int .i64 n, .string text, .slice a kids.length cap, .slice pa pats.length pcap] 32)).alloc (.cells #[.int .i64 op, .int .i64 n, .string text', .slice a' kids'.length cap', .slice pa' pats'.length pcap'] 32)) wr) (fun i _ => kids.length - (intOf i).toNat)
   case atStart => exact ⟨0, Nat.zero_le _, rfl, rfl, HB1.o⟩
   case round =>
    obtain ⟨k, hk, rfl, HP, hB⟩ := hrel
    have hhn := HNE.o
    clear c0 c1 c2 c3 c4 d0 d1 d2 d3 d4 HB1
    have hx1 := bget hB HX1.o (by omega)
    have hx2 := bget hB HX2.o (by omega)
    obtain ⟨c0, c1, c2, c3, c4⟩ := cells5 hx1
    obtain ⟨d0, d1, d2, d3, d4⟩ := cells5 hx2
    have hbw : Below w.heap.size w wr := HB0.o.trans (hB.mono (by omega))
    have hsz : w.heap.size + 2 ≤ wr.heap.size := by have := hB.size; have := HSZ.out; omega
    by_cases hlt : k < kids.length
    ·have hlt2 : k < kids'.length := by omega
     have hlti : (k : Int) < (kids.length : Int) := by omega
     have hlti2 : (k : Int) < (kids'.length : Int) := by omega
     obtain ⟨b, o, rfl, hbn, hps⟩ := HKA.o (by omega)
     obtain ⟨b', o', rfl, hbn', hps'⟩ := HKA'.o (by omega)
     obtain ⟨e0, e1, e2, e3, e4, g0, g1, g2, g3, g4, ht⟩ := TmsAt.get kids b o hps k hlt
     obtain ⟨f0, f1, f2, f3, f4, i0, i1, i2, i3, i4, ht'⟩ := TmsAt.get kids' b' o' hps' k hlt2
     obtain ⟨oo, nn, tt, ka, kn, kc, la, ln, lc, rfl, rfl, rfl, rfl, rfl⟩ := ht.shape
     obtain ⟨oo', nn', tt', ka', kn', kc', la', ln', lc', rfl, rfl, rfl, rfl, rfl⟩ := ht'.shape
     have q0 := (hbw.cell (p := ⟨b, _, none⟩) hbn).trans g0
     have q1 := (hbw.cell (p := ⟨b, _, none⟩) hbn).trans g1
     have q2 := (hbw.cell (p := ⟨b, _, none⟩) hbn).trans g2
     have q3 := (hbw.cell (p := ⟨b, _, none⟩) hbn).trans g3
     have q4 := (hbw.cell (p := ⟨b, _, none⟩) hbn).trans g4
     have r0 := (hbw.cell (p := ⟨b', _, none⟩) hbn').trans i0
     have r1 := (hbw.cell (p := ⟨b', _, none⟩) hbn').trans i1
     have r2 := (hbw.cell (p := ⟨b', _, none⟩) hbn').trans i2
     have r3 := (hbw.cell (p := ⟨b', _, none⟩) hbn').trans i3
     have r4 := (hbw.cell (p := ⟨b', _, none⟩) hbn').trans i4
     have HC := lh fun (V : World) (hb : Below wr.heap.size wr V) => HIH.o _ (kid_lt k hlt) kids[k] rfl kids'[k] _ _ V (TmAt.keep (hbw.trans (hb.mono hbw.size)) (Nat.le_trans hbw.size hb.size) _ _ ht) (TmAt.keep (hbw.trans (hb.mono hbw.size)) (Nat.le_trans hbw.size hb.size) _ _ ht')
     have HB := lh hB
     have HD := lh (eqMs_drop kids kids' k hlt hlt2)
     clear hB hx1 hx2 hbw g0 g1 g2 g3 g4 i0 i1 i2 i3 i4 ht ht' hps hps' hhn
     go_wp2_with fail
     go_region_with (go_at_call 45; refine (HC.o _ (by first | exact Below.refl _ _ | exact below_drew _ _ | exact below_drewN (Below.refl _ _) _)).mono ?_; rintro e w1 ⟨rfl, hb1⟩)
     all_goals (
      first | have HB1 := lh (HB.o.trans (hb1.mono hsz)) | have HB1 := lh ((HB.o.trans (below_drew _ _)).trans (hb1.mono hsz)) | have HB1 := lh ((below_drewN HB.o _).trans (hb1.mono hsz))
      clear hb1 HC c0 c1 c2 c3 c4 d0 d1 d2 d3 d4 q0 q1 q2 q3 q4 r0 r1 r2 r3 r4
      cases he : eqM kids[k] kids'[k]
      ·have HF := lh (show eqM (.mk op n text kids pats) (.mk op n text' kids' pats') = false by rw [HR3.o, HP.o, HD.o, he]; rfl)
       clear he
       go_wp2
       go_ret
       exact ⟨ret_bool HF.o.symm, HB0.o.trans (HB1.o.mono (by omega))⟩
      ·have HF := lh (show eqMs kids kids' = eqMs (kids.drop (k + 1)) (kids'.drop (k + 1)) by rw [HP.o, HD.o, he]; rfl)
       clear he
       go_wp2
       go_roundw
       case rel => exact ⟨k + 1, by omega, by go_num, HF.o, HB1.o⟩
       case measure => simp [intOf]; omega)
    ·obtain rfl : k = kids.length := by omega
     have HF := lh (show eqM (.mk op n text kids pats) (.mk op n text' kids' pats') = true by rw [HR3.o, HP.o, List.drop_length, hhn, List.drop_length]; rfl)
     have HBW := lh hbw
     clear hB hhn hbw hx1 hx2
     go_wp2
     go_ret
     exact ⟨ret_bool HF.o.symm, HBW.o⟩
theorem len_partsP : ∀ (ps : List Pt) (d : Int), ps.length ≤ (partssP d ps).length
 | [], _ => Nat.zero_le _
 | .mk _ _ _ qs :: ps, d => by
  unfold partssP
  rw [List.length_append, List.length_cons]
  have := len_partsP ps d
  unfold partsP
  rw [List.length_cons]
  omega
theorem len_partsM : ∀ (ps : List Tm) (d : Int), ps.length ≤ (partssM d ps).length
 | [], _ => Nat.zero_le _
 | .mk _ _ _ _ _ :: ps, d => by
  unfold partssM
  rw [List.length_append, List.length_cons]
  have := len_partsM ps d
  unfold partsM
  rw [List.length_cons]
  omega
mutual
theorem lens_ofP : ∀ (p : Pt) (d : Int), (partsP d p).length ≤ 1000000 → lensP p
 | .mk _ _ _ ps, d, h => by
  unfold partsP at h
  rw [List.length_cons] at h
  have := len_partsP ps (d + 1)
  unfold lensP
  exact ⟨by omega, lens_ofsP ps (d + 1) (by omega)⟩
theorem lens_ofsP : ∀ (ps : List Pt) (d : Int), (partssP d ps).length ≤ 1000000 → lenssP ps
 | [], _, _ => by unfold lenssP; trivial
 | p :: ps, d, h => by
  unfold partssP at h
  rw [List.length_append] at h
  unfold lenssP
  exact ⟨lens_ofP p d (by omega), lens_ofsP ps d (by omega)⟩
end
theorem lens_smalls : ∀ (ps : List Pt), ps.all SmallPatB = true → lenssP ps
 | [], _ => by unfold lenssP; trivial
 | p :: ps, h => by
  rw [List.all_cons, Bool.and_eq_true] at h
  unfold lenssP
  exact ⟨lens_ofP p 1 (by have := SmallPat_len h.1; omega), lens_smalls ps h.2⟩
mutual
theorem lens_ofM : ∀ (p : Tm) (d : Int), (partsM d p).length ≤ 1000000 → smallT p = true → lensM p
 | .mk _ _ _ ks ps, d, h, hs => by
  unfold partsM at h
  rw [List.length_cons] at h
  have := len_partsM ks (d + 1)
  unfold smallT at hs
  simp only [Bool.and_eq_true, decide_eq_true_eq] at hs
  unfold lensM
  exact ⟨by omega, by omega, lens_smalls ps hs.1.2, lens_ofsM ks (d + 1) (by omega) hs.2⟩
theorem lens_ofsM : ∀ (ps : List Tm) (d : Int), (partssM d ps).length ≤ 1000000 → smallsT ps = true → lenssM ps
 | [], _, _, _ => by unfold lenssM; trivial
 | p :: ps, d, h, hs => by
  unfold partssM at h
  rw [List.length_append] at h
  unfold smallsT at hs
  rw [Bool.and_eq_true] at hs
  unfold lenssM
  exact ⟨lens_ofM p d (by omega) hs.1, lens_ofsM ps d (by omega) hs.2⟩
end
theorem SmallTerm_fit {T : Tm} (h : SmallTermB T = true) : Fit T := by
 have h1 := SmallTerm_ok h
 have h2 := h
 unfold SmallTermB at h2
 rw [Bool.and_eq_true] at h2
 exact ⟨h1.2.1, h1.1, lens_ofM T 1 (by omega) h2.2⟩
mutual
theorem eqP_refl : ∀ p : Pt, eqP p p = true
 | .mk _ _ _ ps => by unfold eqP; rw [eqPs_refl ps]; simp
theorem eqPs_refl : ∀ ps : List Pt, eqPs ps ps = true
 | [] => by unfold eqPs; rfl
 | p :: ps => by unfold eqPs; rw [eqP_refl p, eqPs_refl ps]; rfl
end
mutual
theorem eqM_refl : ∀ p : Tm, eqM p p = true
 | .mk _ _ _ ks ps => by unfold eqM; rw [eqMs_refl ks, eqPs_refl ps]; simp
theorem eqMs_refl : ∀ ps : List Tm, eqMs ps ps = true
 | [] => by unfold eqMs; rfl
 | p :: ps => by unfold eqMs; rw [eqM_refl p, eqMs_refl ps]; rfl
end
abbrev Ends (f : FuncId) (v : Value) (w : World) (r : Value) : Prop := Calls Tryz.prog f #[v] w fun e w' => e = .returned r ∧ Below w.heap.size w w'
theorem C30 (t : Tm) {v : Value} (w : World) (h : TmAt w.heap.size w t v) (hok : okM t) : Ends 30 v w (.bool (termB t)) := by
 have := Term_any t v w h hok
 rwa [refTermB_eq] at this
theorem two_boxes (w : World) (x y : Array Value) (t : TypeId) : ∃ W, W = (w.alloc (.cells x t)).alloc (.cells y t) ∧ Below w.heap.size w W ∧ W.heap.size = w.heap.size + 2 ∧ W.heap[w.heap.size]? = some (.cells x t (0, 0)) ∧ W.heap[w.heap.size + 1]? = some (.cells y t (0, 0)) := by
 refine ⟨_, rfl, ((Below.refl w.heap.size w).alloc (Nat.le_refl _) _).alloc (by simp) _, by simp, ?_, ?_⟩
 ·exact (Below.heap_alloc _ _ _ (by simp)).trans (heap_alloc_new w _)
 ·have := heap_alloc_new (w.alloc (.cells x t)) (.cells y t)
  rw [World.size_alloc] at this
  exact this
end Go.Proofs.YtjpahjfjpkbcnaaGreat
